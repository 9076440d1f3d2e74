/- The document's own Same, of two pictures: what it answers. -/
import Derived.Test.YtiamooijflaggaaPixJ
namespace Go.Proofs.Ytiamooijflaggaa
open Go.RowKit

theorem eqL_len {l m : List Int} (h : l.length ≠ m.length) : eqL l m = false := by
  cases h1 : eqL l m with
  | false => rfl
  | true => exact absurd (congrArg List.length (eqL_iff.1 h1)) h

theorem Im3.new {w : World} {n : Nat} {wd ht : Int} {sv : Value} (h : n = w.heap.size) : Im3 (w.alloc (.cells #[.int .i64 wd, .int .i64 ht, sv] 39)) n wd ht sv := by
  subst h
  exact Array.getElem?_push_size

theorem RowAt.u32_at {w : World} {p : Option Addr} {l : List Int} (h : RowAt encU 1 w p l) {k : Nat} (hk : k < l.length) : ∃ b off, p = some ⟨b, off, none⟩ ∧ ∀ w', Below w.heap.size w w' → w'.cell? ⟨b, off + k, none⟩ = some (.int .u32 l[k]) := by
  rcases h with ⟨_, rfl⟩ | ⟨b, off, rfl, hb, hc⟩
  · simp at hk
  · refine ⟨b, off, rfl, fun w' hbw => ?_⟩
    have h1 := hc k l[k] (List.getElem?_eq_getElem hk) 0 (.int .u32 l[k]) rfl
    exact cell_later hbw (by simpa using h1)

set_option maxHeartbeats 1000000 in
theorem refSame_any (wd ht wd' ht' : Int) (p p' : Option Addr) (c c' : Nat) (L M : List Int) (w : World) (hL : RowAt encU 1 w p L) (hM : RowAt encU 1 w p' M) (hl : L.length ≤ 1048576) :
    Makes Try.prog 33 #[IV wd ht (.slice p L.length c), IV wd' ht' (.slice p' M.length c')] w (.bool (decide (wd = wd') && (decide (ht = ht') && eqL L M))) := by
  unfold Makes
  by_cases h1 : wd = wd'
  · by_cases h2 : ht = ht'
    · by_cases h3 : L.length = M.length
      · have b1 : (wd != wd') = false := by simp [h1]
        have b2 : (ht != ht') = false := by simp [h2]
        have b3 : ((L.length : Int) != (M.length : Int)) = false := by simp [h3]
        have hv : (decide (wd = wd') && (decide (ht = ht') && eqL L M)) = eqL L M := by simp [h1, h2]
        rw [hv]
        have H3 := Lib.hid h3
        have HL := Lib.hid hL
        have HM := Lib.hid hM
        clear h1 h2 h3 hv hL hM
        go_enter Try.func33, Try.ntmps33
        go_wp2
        obtain ⟨W0, hW0⟩ : ∃ W0, (w.alloc (.cells #[.int .i64 wd, .int .i64 ht, .slice p L.length c] 39)).alloc (.cells #[.int .i64 wd', .int .i64 ht', .slice p' M.length c'] 39) = W0 := ⟨_, rfl⟩
        have i1 : Im3 W0 w.heap.size wd ht (.slice p L.length c) := by rw [← hW0]; exact Im3.later (Im3.new rfl) (Below.al1 _ _)
        have i2 : Im3 W0 (w.heap.size + 1) wd' ht' (.slice p' M.length c') := by rw [← hW0]; exact Im3.new (by simp)
        have hb0 : Below w.heap.size w W0 := by rw [← hW0]; exact Below.al2 _ _ _
        rw [hW0]
        clear hW0
        have I1 := Lib.hid i1
        have I2 := Lib.hid i2
        have Hb0 := Lib.hid hb0
        clear i1 i2 hb0
        go_loopw [5] (fun i wr => ∃ k : Nat, k ≤ L.length ∧ i = .int .i64 k ∧ Below W0.heap.size W0 wr ∧ Hid (eqL L M = eqL (L.drop k) (M.drop k))) (fun i _ => L.length - (intOf i).toNat)
        case atStart => exact ⟨0, by omega, rfl, Below.refl _ _, Lib.hid rfl⟩
        case round =>
          obtain ⟨k, hk, rfl, hb, he⟩ := hrel
          obtain ⟨-, -, e1⟩ := (I1.out.later hb).cells
          obtain ⟨-, -, e2⟩ := (I2.out.later hb).cells
          by_cases hlt : k < L.length
          · have hlt2 : k < M.length := by rw [← H3.out]; exact hlt
            obtain ⟨g1, o1, rfl, f1⟩ := HL.out.u32_at hlt
            obtain ⟨g2, o2, rfl, f2⟩ := HM.out.u32_at hlt2
            have c0 := f1 wr (Hb0.out.trans (hb.mono Hb0.out.size))
            have c1 := f2 wr (Hb0.out.trans (hb.mono Hb0.out.size))
            have Hat := Lib.hid (eqL_at hlt hlt2)
            clear f1 f2
            generalize L[k] = a at *
            generalize M[k] = b at *
            go_wp2
            by_cases hab : a = b
            · have hab' : ((a : Int) != b) = false := by simp [hab]
              have Hn := Lib.hid (show eqL L M = eqL (L.drop (k + 1)) (M.drop (k + 1)) by rw [he.out, Hat.out]; simp [hab])
              clear hab
              go_quiet (fail)
              go_wp2
              go_roundw
              case rel => exact ⟨k + 1, by omega, by go_num, Below.drewN' hb _, Hn⟩
              case measure => simp [intOf]; omega
            · have hab' : ((a : Int) != b) = true := by simpa using hab
              have Hn := Lib.hid (show eqL L M = false by rw [he.out, Hat.out]; simp [hab])
              clear hab
              go_quiet (fail)
              go_wp2
              go_ret
              exact ⟨ret_bool Hn.out.symm, Below.drewN' (Hb0.out.trans (hb.mono Hb0.out.size)) _⟩
          · have Hn := Lib.hid (show eqL L M = true by
              rw [he.out, List.drop_eq_nil_of_le (by omega), List.drop_eq_nil_of_le (by have := H3.out; omega)]; rfl)
            go_wp2
            go_ret
            exact ⟨ret_bool Hn.out.symm, Hb0.out.trans (hb.mono Hb0.out.size)⟩
      · have b1 : (wd != wd') = false := by simp [h1]
        have b2 : (ht != ht') = false := by simp [h2]
        have b3 : ((L.length : Int) != (M.length : Int)) = true := by simp; omega
        have hv : (decide (wd = wd') && (decide (ht = ht') && eqL L M)) = false := by rw [eqL_len h3]; simp
        rw [hv]
        clear h1 h2 h3 hv
        go_enter Try.func33, Try.ntmps33
        go_wp2
        go_ret
        exact ⟨rfl, Below.al2 _ _ _⟩
    · have b1 : (wd != wd') = false := by simp [h1]
      have b2 : (ht != ht') = true := by simpa using h2
      have hv : (decide (wd = wd') && (decide (ht = ht') && eqL L M)) = false := by simp [h2]
      rw [hv]
      clear h1 h2 hv
      go_enter Try.func33, Try.ntmps33
      go_wp2
      go_ret
      exact ⟨rfl, Below.al2 _ _ _⟩
  · have b1 : (wd != wd') = true := by simpa using h1
    have hv : (decide (wd = wd') && (decide (ht = ht') && eqL L M)) = false := by simp [h1]
    rw [hv]
    clear h1 hv
    go_enter Try.func33, Try.ntmps33
    go_wp2
    go_ret
    exact ⟨rfl, Below.al2 _ _ _⟩

end Go.Proofs.Ytiamooijflaggaa
