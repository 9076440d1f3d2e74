/- lz's Expand. -/
import Derived.Test.YtngiiacibbgiiaaLzI
namespace Go.Proofs.Ytngiiacibbgiiaa
open Go.RowKit

theorem tkErr_bad {t : Tk} {n : Nat} (h : t.okB = false) : tkErr t n = 70 := by unfold tkErr; rw [if_pos (.inl (by simp [h]))]
theorem tkErr_far {t : Tk} {n : Nat} (h : (n : Int) < t.d) : tkErr t n = 70 := by unfold tkErr; rw [if_pos (.inr h)]
theorem tkErr_long {t : Tk} {n : Nat} (h : t.okB = true) (h2 : ¬ (n : Int) < t.d) (h3 : 524288 < n + t.size) : tkErr t n = 2 := by
  unfold tkErr; rw [if_neg (by simp [h]; omega), if_pos h3]
theorem tkErr_none {t : Tk} {n : Nat} (h : t.okB = true) (h2 : ¬ (n : Int) < t.d) (h3 : ¬ 524288 < n + t.size) : tkErr t n = 0 := by
  unfold tkErr; rw [if_neg (by simp [h]; omega), if_neg h3]
theorem okB_small {t : Tk} (h : t.okB = true) : t.n ≤ 258 ∧ t.size ≤ 258 := by
  unfold Tk.okB at h
  split at h
  · rename_i e; unfold Tk.size; omega
  · simp at h; unfold Tk.size; omega

set_option maxRecDepth 20000 in
set_option maxHeartbeats 8000000 in
theorem expand_any (ts : List Tk) (v : Value) (w : World) (hv : Row encT 3 w v ts) (hl : ts.length ≤ 1048576) :
    Calls Try.prog 13 #[v] w fun e w' => ∃ v', e = .returned (.tuple #[v', .int .i64 (xp ts []).2]) ∧ w'.ownsRow w.heap.size 5 1 v' (xp ts []).1.length ((xp ts []).1.map u8v) ∧ Below w.heap.size w w' := by
  have Hv := Lib.hid hv
  have HvB : Hid (∀ g, v.ownBlock = some g → g < w.heap.size) := Lib.hid (fun g hg => by
    obtain ⟨p, c, rfl, -, -, h⟩ := hv
    rcases h with ⟨rfl, -⟩ | ⟨b, off, rfl, h, -⟩
    · cases hg
    · cases hg; exact h)
  obtain ⟨p, c, rfl, -, -, -⟩ := hv
  obtain ⟨R, hR⟩ : ∃ R, xp ts [] = R := ⟨_, rfl⟩
  have HR := Lib.hid hR
  rw [hR]
  clear hR
  go_enter Try.func13, Try.ntmps13
  go_wp2_with fail
  go_loopw [4, 9] (fun bv kv wr => ∃ (k : Nat) (o : List Nat), kv = .int .i64 (k : Int) ∧ k ≤ ts.length ∧ o.length ≤ 524288 ∧ Hid (wr.ownsRow w.heap.size 5 1 bv o.length (o.map u8v)) ∧ Hid (xp (ts.drop k) o = R) ∧ Hid (Below w.heap.size w wr)) (fun _ kv _ => ts.length - (intOf kv).toNat)
  case atStart => exact ⟨0, [], rfl, Nat.zero_le _, by simp, Lib.hid (World.ownsRow_nil _ _ _ _), Lib.hid (by rw [List.drop_zero]; exact HR.out), Lib.hid (Below.refl _ _)⟩
  case round =>
    obtain ⟨k, o, rfl, hk, ho, HO, HX, HB⟩ := hrel
    obtain ⟨po, co, rfl⟩ := owns_slice HO.out
    by_cases hlt : k < ts.length
    · have d0 : decide ((k : Int) < (ts.length : Int)) = true := by simp; omega
      obtain ⟨pp, cc, e, -, -, hrow⟩ := Hv.out.below HB.out
      cases e
      obtain ⟨g, off, rfl, hc0, hc1, hc2⟩ := hrow.tok hlt
      have HX2 : Hid (xp (ts[k] :: ts.drop (k + 1)) o = R) := Lib.hid (by rw [← List.drop_eq_getElem_cons hlt]; exact HX.out)
      generalize ts[k] = t at *
      obtain ⟨q, hq⟩ : ∃ q, o.length = q := ⟨_, rfl⟩
      have Hq := Lib.hid hq
      have HO2 : Hid (wr.ownsRow w.heap.size 5 1 (.slice po q co) q (o.map u8v)) := Lib.hid (by rw [← hq]; exact HO.out)
      rw [hq] at ho ⊢
      obtain ⟨bk, hbk⟩ : ∃ bk, t.okB = bk := ⟨_, rfl⟩
      have Hbk := Lib.hid hbk
      have k0 : (0 : Int) ≤ (k : Int) := by omega
      have k1 : (k : Int) < (ts.length : Int) := by omega
      obtain ⟨W, hW⟩ : ∃ W, wr.alloc (.cells #[.int .u8 (t.b : Int), .int .i64 t.n, .int .i64 t.d] 26) = W := ⟨_, rfl⟩
      have hbW : Below wr.heap.size wr W := by rw [← hW]; exact Below.al1 wr _
      have hT : W.heap[wr.heap.size]? = some (.cells #[.int .u8 (t.b : Int), .int .i64 t.n, .int .i64 t.d] 26) := by
        rw [← hW]
        exact (heap_pushed [.cells #[.int .u8 (t.b : Int), .int .i64 t.n, .int .i64 t.d] 26] wr 0 _).2 rfl
      have HT := Lib.hid hT
      have HbW := Lib.hid hbW
      have e0 : W.cell? ⟨wr.heap.size, 0, none⟩ = some (.int .u8 (t.b : Int)) := cell_heap hT rfl
      have e1 : W.cell? ⟨wr.heap.size, 1, none⟩ = some (.int .i64 t.n) := cell_heap hT rfl
      have e2 : W.cell? ⟨wr.heap.size, 2, none⟩ = some (.int .i64 t.d) := cell_heap hT rfl
      clear hrow HO hq hbk hbW hT HX
      go_upto_region 5 with (fail)
      clear hW hc0 hc1 hc2
      go_wp2_with fail
      refine Calls.mono (mayBe_any t W) ?_
      rintro e w2 ⟨rfl, hb2⟩
      rw [Hbk.out]
      have HB2 := Lib.hid (Below.thn (Below.thn HB.out HbW.out) hb2)
      have HO3 := Lib.hid ((Turns.of_below' (T := fun _ => False) (Below.thn HbW.out hb2)).owns HO2.out (fun _ _ h => h))
      have e0 := cell_later hb2 e0
      have e1 := cell_later hb2 e1
      have e2 := cell_later hb2 e2
      clear hb2 HO2
      cases bk with
      | false =>
        go_wp2
        go_ret2
        obtain rfl : R = ([], 70) := by rw [← HX2.out, xp_cons_bad (by rw [tkErr_bad Hbk.out]; decide), tkErr_bad Hbk.out]
        exact ⟨_, rfl, World.ownsRow_nil _ _ _ _, HB2.out⟩
      | true =>
        by_cases hd : (q : Int) < t.d
        · have d1 : decide (t.d > (q : Int)) = true := by simp; omega
          go_wp2
          go_ret2
          have hr : R = ([], 70) := by
            have := HX2.out
            rw [xp_cons_bad (by rw [Hq.out, tkErr_far hd]; decide), Hq.out, tkErr_far hd] at this
            exact this.symm
          rw [hr]
          exact ⟨_, rfl, World.ownsRow_nil _ _ _ _, HB2.out⟩
        · have d1 : decide (t.d > (q : Int)) = false := by simp; omega
          have hsm := okB_small Hbk.out
          go_wp2_with fail
          refine Calls.mono (size_any t w2 (by omega)) ?_
          rintro e w3 ⟨rfl, hb3⟩
          have HB3 := Lib.hid (Below.thn HB2.out hb3)
          have HO4 := Lib.hid ((Turns.of_below' (T := fun _ => False) hb3).owns HO3.out (fun _ _ h => h))
          have e0 := cell_later hb3 e0
          have e1 := cell_later hb3 e1
          have e2 := cell_later hb3 e2
          obtain ⟨z, hz⟩ : ∃ z, t.size = z := ⟨_, rfl⟩
          rw [hz] at hsm ⊢
          have Hz := Lib.hid hz
          clear hb3 hz HO3
          by_cases hlong : 524288 < q + z
          · have d2 : decide ((z : Int) > 524288 - (q : Int)) = true := by simp; omega
            go_wp2
            go_ret2
            have hr : R = ([], 2) := by
              have h1 : tkErr t o.length = 2 := by rw [Hq.out]; exact tkErr_long Hbk.out (by omega) (by rw [Hz.out]; exact hlong)
              have := HX2.out
              rw [xp_cons_bad (by rw [h1]; decide), h1] at this
              exact this.symm
            rw [hr]
            exact ⟨_, rfl, World.ownsRow_nil _ _ _ _, HB3.out⟩
          · have d2 : decide ((z : Int) > 524288 - (q : Int)) = false := by simp; omega
            have h0 : tkErr t o.length = 0 := by rw [Hq.out]; exact tkErr_none Hbk.out (by omega) (by rw [Hz.out]; exact hlong)
            have H0 := Lib.hid h0
            have hs3 := HB3.out.size
            clear h0
            go_wp2_with fail
            refine Calls.mono (tell_any t w.heap.size (.slice po q co) o w3 (by rw [Hq.out]; exact HO4.out) Hbk.out (by rw [Hq.out]; omega) (by rw [Hq.out]; exact ho) hs3) ?_
            rintro e w4 ⟨v', rfl, ho4, ht4, hg4⟩
            have hlen : (tellT t o).length ≤ 524288 := by rw [tellT_len _ _ Hbk.out, Hq.out, Hz.out]; omega
            have HO5 := Lib.hid ho4
            have HB5 := Lib.hid (HB3.out.trans (ht4.below hs3 (fun k hk => (HO4.out.lt k hk).1)))
            have HX5 : Hid (xp (ts.drop (k + 1)) (tellT t o) = R) := Lib.hid (by rw [← HX2.out, xp_cons_ok H0.out])
            clear ho4 ht4 hg4 e0 e1 e2 HO4
            go_wp2
            go_roundw
            case rel => exact ⟨k + 1, tellT t o, by go_num, by omega, hlen, HO5, HX5, HB5⟩
            case measure => simp [intOf]; omega
    · obtain rfl : k = ts.length := by omega
      have d0 : decide ((ts.length : Int) < (ts.length : Int)) = false := by simp
      go_wp2
      go_ret2
      have hr : R = (o, 0) := by
        have := HX.out
        rw [List.drop_length] at this
        exact this.symm
      rw [hr]
      exact ⟨_, rfl, HO.out, HB.out⟩

end Go.Proofs.Ytngiiacibbgiiaa
