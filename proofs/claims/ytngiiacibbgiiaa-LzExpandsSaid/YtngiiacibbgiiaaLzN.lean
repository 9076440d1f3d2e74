/- The document's Expand. -/
import Derived.Test.YtngiiacibbgiiaaLzM
namespace Go.Proofs.Ytngiiacibbgiiaa
open Go.RowKit

theorem okB_iff (t : Tk) : t.okB = true ↔ (t.n = 0 ∧ t.d = 0) ∨ (3 ≤ t.n ∧ t.n ≤ 258 ∧ 1 ≤ t.d ∧ t.d ≤ 32768 ∧ t.b = 0) := by
  unfold Tk.okB
  split
  · rename_i h; simp; omega
  · rename_i h; simp; omega

set_option maxRecDepth 20000 in
set_option maxHeartbeats 16000000 in
theorem refExpand_any (ts : List Tk) (v : Value) (w : World) (hv : Row encT 3 w v ts) (hl : ts.length ≤ 1048576) :
    Calls Try.prog 14 #[v] w fun e w' => ∃ v', e = .returned (.tuple #[v', .int .i64 (xp ts []).2]) ∧ w'.ownsRow w.heap.size 5 1 v' (xp ts []).1.length ((xp ts []).1.map u8v) ∧ Below w.heap.size w w' := by
  have Hv := Lib.hid hv
  obtain ⟨p, c, rfl, -, -, -⟩ := hv
  obtain ⟨R, hR⟩ : ∃ R, xp ts [] = R := ⟨_, rfl⟩
  have HR := Lib.hid hR
  rw [hR]
  clear hR
  go_enter Try.func14, Try.ntmps14
  go_wp2_with fail
  go_loopw [4, 5] (fun bv kv wr => ∃ (k : Nat) (o : List Nat), kv = .int .i64 (k : Int) ∧ k ≤ ts.length ∧ o.length ≤ 524288 ∧ Hid (wr.ownsRow w.heap.size 5 1 bv o.length (o.map u8v)) ∧ Hid (xp (ts.drop k) o = R) ∧ Hid (Below w.heap.size w wr)) (fun _ kv _ => ts.length - (intOf kv).toNat)
  case atStart => exact ⟨0, [], rfl, Nat.zero_le _, by simp, Lib.hid (World.ownsRow_nil _ _ _ _), Lib.hid (by rw [List.drop_zero]; exact HR.out), Lib.hid (Below.refl _ _)⟩
  case round =>
    obtain ⟨k, o, rfl, hk, ho, HO, HX, HB⟩ := hrel
    obtain ⟨po, co, rfl⟩ := owns_slice HO.out
    by_cases hlt : k < ts.length
    · have d0 : decide (k < ts.length) = true := by simp; omega
      obtain ⟨pp, cc, e, -, -, hrow⟩ := Hv.out.below HB.out
      cases e
      obtain ⟨g, off, rfl, hc0, hc1, hc2⟩ := hrow.tok hlt
      have HX2 : Hid (xp (ts[k] :: ts.drop (k + 1)) o = R) := Lib.hid (by rw [← List.drop_eq_getElem_cons hlt]; exact HX.out)
      generalize ts[k] = t at *
      obtain ⟨tb, tn, td⟩ := t
      simp only at hc0 hc1 hc2
      obtain ⟨q, hq⟩ : ∃ q, o.length = q := ⟨_, rfl⟩
      have Hq := Lib.hid hq
      have HO2 : Hid (wr.ownsRow w.heap.size 5 1 (.slice po q co) q (o.map u8v)) := Lib.hid (by rw [← hq]; exact HO.out)
      rw [hq] at ho ⊢
      have k0 : (0 : Int) ≤ (k : Int) := by omega
      have k1 : (k : Int) < (ts.length : Int) := by omega
      obtain ⟨W, hW⟩ : ∃ W, wr.alloc (.cells #[.int .u8 (tb : Int), .int .i64 tn, .int .i64 td] 26) = W := ⟨_, rfl⟩
      have hbW : Below wr.heap.size wr W := by rw [← hW]; exact Below.al1 wr _
      have hT : W.heap[wr.heap.size]? = some (.cells #[.int .u8 (tb : Int), .int .i64 tn, .int .i64 td] 26) := by
        rw [← hW]
        exact (heap_pushed [.cells #[.int .u8 (tb : Int), .int .i64 tn, .int .i64 td] 26] wr 0 _).2 rfl
      have HBW := Lib.hid (Below.thn HB.out hbW)
      have HOW := Lib.hid ((Turns.of_below' (T := fun _ => False) hbW).owns HO2.out (fun _ _ h => h))
      have hsW : w.heap.size ≤ W.heap.size := HBW.out.size
      have hTw : wr.heap.size < W.heap.size := lt_heap hT
      have Hlow : Hid (∀ b, (Value.slice po q co).ownBlock = some b → b ≠ wr.heap.size) := Lib.hid (fun b hb => by have := (HO2.out.lt b hb).2; omega)
      have e0 : W.cell? ⟨wr.heap.size, 0, none⟩ = some (.int .u8 (tb : Int)) := cell_heap hT rfl
      have e1 : W.cell? ⟨wr.heap.size, 1, none⟩ = some (.int .i64 tn) := cell_heap hT rfl
      have e2 : W.cell? ⟨wr.heap.size, 2, none⟩ = some (.int .i64 td) := cell_heap hT rfl
      clear hrow HO hq hbW hT HX HO2
      go_upto_region 6 with (fail)
      clear hW hc0 hc1 hc2
      by_cases hs1 : tn = 0
      · by_cases hs2 : td = 0
        · subst hs1 hs2
          have Hok : Hid ((⟨tb, 0, 0⟩ : Tk).okB = true) := Lib.hid rfl
          have Ht : Hid (tellT ⟨tb, 0, 0⟩ o = o ++ [tb]) := Lib.hid rfl
          go_wp2_with (at_builtin; refine wpList_append_one W rfl (.tmp 76) (.tmp 79) 22 rfl w.heap.size 5 _ 1 u8_info Try.underlying22 rfl (.slice po q co) q (o.map u8v) rfl HOW.out (.int .u8 (tb : Int)) _ rfl rfl ?n3 ?n4 hsW ?_)
          case n3 => simp only [maxLen]; omega
          case n4 => omega
          intro g1 cap1 w5 ho1 ht1 hg1
          have HO5 : Hid (w5.ownsRow w.heap.size 5 1 (.slice (some ⟨g1, 0, none⟩) (q + 1) cap1) (o ++ [tb]).length ((o ++ [tb]).map u8v)) := Lib.hid (by
            rw [List.length_append, List.map_append, Hq.out]
            exact ho1)
          have HB9 := Lib.hid (HBW.out.trans (ht1.below hsW (fun k hk => (HOW.out.lt k hk).1)))
          clear ho1 ht1 hg1 e0 e1 e2
          by_cases hlong : 524288 < q + 1
          · have d8 : decide ((q : Int) + 1 > 524288) = true := by simp; omega
            go_wp2
            go_ret2
            have hr : R = ([], 2) := by
              have h1 : tkErr ⟨tb, 0, 0⟩ o.length = 2 := tkErr_long Hok.out (by simp only; omega) (by rw [Hq.out]; exact hlong)
              have := HX2.out
              rw [xp_cons_bad (by rw [h1]; decide), h1] at this
              exact this.symm
            rw [hr]
            exact ⟨_, rfl, World.ownsRow_nil _ _ _ _, HB9.out⟩
          · have d8 : decide ((q : Int) + 1 > 524288) = false := by simp; omega
            have HX5 : Hid (xp (ts.drop (k + 1)) (o ++ [tb]) = R) := Lib.hid (by
              have h1 : tkErr ⟨tb, 0, 0⟩ o.length = 0 := tkErr_none Hok.out (by simp only; omega) (by rw [Hq.out]; exact hlong)
              rw [← HX2.out, xp_cons_ok h1, Ht.out])
            have hlen : (o ++ [tb]).length ≤ 524288 := by rw [List.length_append, Hq.out]; simp only [List.length_cons, List.length_nil]; omega
            go_wp2
            go_roundw
            case rel => exact ⟨k + 1, o ++ [tb], by go_num, by omega, hlen, HO5, HX5, HB9⟩
            case measure => simp [intOf]; omega
        · have s2 : (td == 0) = false := by simp; omega
          have s1 : (tn == 0) = true := by simp; omega
          have d1 : decide (tn < 3) = true := by simp; omega
          have H1 := Lib.hid hs1
          clear hs1
          go_wp2
          go_ret2
          have hr : R = ([], 70) := by
            have h1 : tkErr ⟨tb, tn, td⟩ o.length = 70 := (by have hs1 := H1.out; exact tkErr_bad (by rw [Bool.eq_false_iff]; intro h; rcases (okB_iff _).1 h with h | h <;> simp only at h <;> omega))
            have := HX2.out
            rw [xp_cons_bad (by rw [h1]; decide), h1] at this
            exact this.symm
          rw [hr]
          exact ⟨_, rfl, World.ownsRow_nil _ _ _ _, HBW.out⟩
      · have s1 : (tn == 0) = false := by simp; omega
        by_cases c1 : tn < 3
        · have d1 : decide (tn < 3) = true := by simp; omega
          go_wp2
          go_ret2
          have hr : R = ([], 70) := by
            have h1 : tkErr ⟨tb, tn, td⟩ o.length = 70 := tkErr_bad (by rw [Bool.eq_false_iff]; intro h; rcases (okB_iff _).1 h with h | h <;> simp only at h <;> omega)
            have := HX2.out
            rw [xp_cons_bad (by rw [h1]; decide), h1] at this
            exact this.symm
          rw [hr]
          exact ⟨_, rfl, World.ownsRow_nil _ _ _ _, HBW.out⟩
        · have d1 : decide (tn < 3) = false := by simp; omega
          by_cases c2 : 258 < tn
          · have d2 : decide (tn > 258) = true := by simp; omega
            go_wp2
            go_ret2
            have hr : R = ([], 70) := by
              have h1 : tkErr ⟨tb, tn, td⟩ o.length = 70 := tkErr_bad (by rw [Bool.eq_false_iff]; intro h; rcases (okB_iff _).1 h with h | h <;> simp only at h <;> omega)
              have := HX2.out
              rw [xp_cons_bad (by rw [h1]; decide), h1] at this
              exact this.symm
            rw [hr]
            exact ⟨_, rfl, World.ownsRow_nil _ _ _ _, HBW.out⟩
          · have d2 : decide (tn > 258) = false := by simp; omega
            by_cases c3 : td < 1
            · have d3 : decide (td < 1) = true := by simp; omega
              go_wp2
              go_ret2
              have hr : R = ([], 70) := by
                have h1 : tkErr ⟨tb, tn, td⟩ o.length = 70 := tkErr_bad (by rw [Bool.eq_false_iff]; intro h; rcases (okB_iff _).1 h with h | h <;> simp only at h <;> omega)
                have := HX2.out
                rw [xp_cons_bad (by rw [h1]; decide), h1] at this
                exact this.symm
              rw [hr]
              exact ⟨_, rfl, World.ownsRow_nil _ _ _ _, HBW.out⟩
            · have d3 : decide (td < 1) = false := by simp; omega
              by_cases c4 : 32768 < td
              · have d4 : decide (td > 32768) = true := by simp; omega
                go_wp2
                go_ret2
                have hr : R = ([], 70) := by
                  have h1 : tkErr ⟨tb, tn, td⟩ o.length = 70 := tkErr_bad (by rw [Bool.eq_false_iff]; intro h; rcases (okB_iff _).1 h with h | h <;> simp only at h <;> omega)
                  have := HX2.out
                  rw [xp_cons_bad (by rw [h1]; decide), h1] at this
                  exact this.symm
                rw [hr]
                exact ⟨_, rfl, World.ownsRow_nil _ _ _ _, HBW.out⟩
              · have d4 : decide (td > 32768) = false := by simp; omega
                by_cases c5 : tb ≠ 0
                · have d5 : ((tb : Int) != 0) = true := by simp; omega
                  go_wp2
                  go_ret2
                  have hr : R = ([], 70) := by
                    have h1 : tkErr ⟨tb, tn, td⟩ o.length = 70 := tkErr_bad (by rw [Bool.eq_false_iff]; intro h; rcases (okB_iff _).1 h with h | h <;> simp only at h <;> omega)
                    have := HX2.out
                    rw [xp_cons_bad (by rw [h1]; decide), h1] at this
                    exact this.symm
                  rw [hr]
                  exact ⟨_, rfl, World.ownsRow_nil _ _ _ _, HBW.out⟩
                · have d5 : ((tb : Int) != 0) = false := by simp; omega
                  by_cases c6 : (q : Int) < td
                  · have d6 : decide (td > (q : Int)) = true := by simp; omega
                    go_wp2
                    go_ret2
                    have hr : R = ([], 70) := by
                      have h1 : tkErr ⟨tb, tn, td⟩ o.length = 70 := tkErr_far (by rw [Hq.out]; exact c6)
                      have := HX2.out
                      rw [xp_cons_bad (by rw [h1]; decide), h1] at this
                      exact this.symm
                    rw [hr]
                    exact ⟨_, rfl, World.ownsRow_nil _ _ _ _, HBW.out⟩
                  · have d6 : decide (td > (q : Int)) = false := by simp; omega
                    have Hok : Hid ((⟨tb, tn, td⟩ : Tk).okB = true) := Lib.hid ((okB_iff _).2 (.inr (by simp only; omega)))
                    obtain ⟨m, rfl⟩ : ∃ m : Nat, tn = m := ⟨tn.toNat, by omega⟩
                    obtain ⟨dd, rfl⟩ : ∃ m : Nat, td = m := ⟨td.toNat, by omega⟩
                    have Ht : Hid (tellT ⟨tb, (m : Int), (dd : Int)⟩ o = rpt dd m o) := Lib.hid (by unfold tellT; rw [if_neg (show ¬ ((m : Int) = 0) by omega)]; simp)
                    have Hz : Hid (Tk.size ⟨tb, (m : Int), (dd : Int)⟩ = m) := Lib.hid (by unfold Tk.size; simp; omega)
                    have hm : 3 ≤ m ∧ m ≤ 258 ∧ 1 ≤ dd ∧ dd ≤ q := by omega
                    go_wp2_with fail
                    clear s1 d1 d2 d3 d4 d5 d6 c1 c2 c3 c4 c5 c6
                    go_loopw [4, 8] (fun bv kv wr => ∃ j : Nat, kv = .int .i64 (j : Int) ∧ j ≤ m ∧ Hid (wr.ownsRow w.heap.size 5 1 bv (rpt dd j o).length ((rpt dd j o).map u8v)) ∧ Hid (Turns (fun b => (Value.slice po q co).ownBlock = some b) W wr) ∧ Hid (∀ b, bv.ownBlock = some b → (Value.slice po q co).ownBlock = some b ∨ W.heap.size ≤ b)) (fun _ kv _ => m - (intOf kv).toNat)
                    case atStart => exact ⟨0, rfl, Nat.zero_le _, Lib.hid (by rw [show rpt dd 0 o = o from rfl, Hq.out]; exact HOW.out), Lib.hid (Turns.refl _ _), Lib.hid fun b h => .inl h⟩
                    case round =>
                      obtain ⟨j, rfl, hj, HOj, HTu, HBk⟩ := hrel
                      have c1 := HTu.out.cell e1 (fun e => Hlow.out _ e rfl)
                      obtain ⟨r, hr⟩ : ∃ r, (rpt dd j o).length = r := ⟨_, rfl⟩
                      have hr2 : r = q + j := by rw [← hr, rpt_len, Hq.out]
                      have Hr := Lib.hid (And.intro hr hr2)
                      have hrb : r ≤ 600000 := by omega
                      have hrd : dd ≤ r := by omega
                      have hr1 : 1 ≤ r := by omega
                      clear hr2
                      obtain ⟨pj, cj, rfl⟩ := owns_slice HOj.out
                      rw [hr]
                      by_cases hjm : j < m
                      · have d9 : decide (j < m) = true := by simpa using hjm
                        obtain ⟨g, cg, e, hcell⟩ := own_last HOj.out (i := r - dd) (by rw [hr]; omega)
                        rw [hr] at e
                        injection e with e _ e'
                        subst e e'
                        obtain ⟨x, hx⟩ : ∃ x, (rpt dd j o).getD (r - dd) 0 = x := ⟨_, rfl⟩
                        rw [hx] at hcell
                        obtain ⟨y, hy⟩ : ∃ y, r - dd = y := ⟨_, rfl⟩
                        have er : (r : Int) - (dd : Int) = (y : Int) := by omega
                        have r0 : (0 : Int) ≤ (y : Int) := by omega
                        have r1 : (y : Int) < (r : Int) := by omega
                        rw [hy] at hcell
                        have Hs : Hid (rpt dd (j + 1) o = rpt dd j o ++ [x]) := Lib.hid (by rw [rpt_snoc, hr, hx])
                        have HO2 : Hid (wr.ownsRow w.heap.size 5 1 (.slice (some ⟨g, 0, none⟩) r cj) r ((rpt dd j o).map u8v)) := Lib.hid (by have := HOj.out; rw [hr] at this; exact this)
                        have HBk2 := Lib.hid (show ∀ b, some g = some b → (Value.slice po q co).ownBlock = some b ∨ W.heap.size ≤ b from fun b hb => HBk.out b hb)
                        have c2 := HTu.out.cell e2 (fun e => Hlow.out _ e rfl)
                        have hs1 : w.heap.size ≤ wr.heap.size := Nat.le_trans hsW HTu.out.size
                        clear HOj hx hr hy HBk
                        go_wp2_with (at_builtin; refine wpList_append_one wr rfl (.tmp 65) (.tmp 74) 22 rfl w.heap.size 5 _ 1 u8_info Try.underlying22 rfl (.slice (some ⟨g, 0, none⟩) r cj) r ((rpt dd j o).map u8v) rfl HO2.out (.int .u8 (x : Int)) _ rfl rfl ?m3 ?m4 hs1 ?_)
                        case m3 => simp only [maxLen]; omega
                        case m4 => omega
                        intro g1 cap1 w5 ho1 ht1 hg1
                        have HO5 : Hid (w5.ownsRow w.heap.size 5 1 (.slice (some ⟨g1, 0, none⟩) (r + 1) cap1) (rpt dd (j + 1) o).length ((rpt dd (j + 1) o).map u8v)) := Lib.hid (by
                          rw [Hs.out, List.length_append, List.map_append, Hr.out.1]
                          exact ho1)
                        have HT5 : Hid (Turns (fun b => (Value.slice po q co).ownBlock = some b) W w5) := Lib.hid (HTu.out.trans' ht1 (fun i hi e => by
                          rcases HBk2.out i e with h | h
                          · exact h
                          · omega))
                        have HB5 : Hid (∀ b, (Value.slice (some ⟨g1, 0, none⟩) (r + 1) cap1).ownBlock = some b → (Value.slice po q co).ownBlock = some b ∨ W.heap.size ≤ b) := Lib.hid (fun b hb => by
                          cases hb
                          rcases hg1 with h | h
                          · exact HBk2.out _ h
                          · exact .inr (Nat.le_trans HTu.out.size h))
                        clear ho1 ht1 hg1 hcell c2 c1 er r0 r1
                        go_wp2
                        go_roundw
                        case rel => exact ⟨j + 1, by go_num, by omega, HO5, HT5, HB5⟩
                        case measure => simp [intOf]; omega
                      · obtain rfl : j = m := by omega
                        have d9 : decide (j < j) = false := by simp
                        have HB9 := Lib.hid (HBW.out.trans (HTu.out.below hsW (fun k hk => (HOW.out.lt k hk).1)))
                        by_cases hlong : 524288 < r
                        · have d8 : decide ((r : Int) > 524288) = true := by simp; omega
                          clear hr
                          go_wp2
                          go_ret2
                          have hr : R = ([], 2) := by
                            have h1 : tkErr ⟨tb, (j : Int), (dd : Int)⟩ o.length = 2 := tkErr_long Hok.out (by rw [Hq.out]; simp only; omega) (by rw [Hq.out, Hz.out]; have := Hr.out.2; omega)
                            have := HX2.out
                            rw [xp_cons_bad (by rw [h1]; decide), h1] at this
                            exact this.symm
                          rw [hr]
                          exact ⟨_, rfl, World.ownsRow_nil _ _ _ _, HB9.out⟩
                        · have d8 : decide ((r : Int) > 524288) = false := by simp; omega
                          have HX5 : Hid (xp (ts.drop (k + 1)) (rpt dd j o) = R) := Lib.hid (by
                            have h1 : tkErr ⟨tb, (j : Int), (dd : Int)⟩ o.length = 0 := tkErr_none Hok.out (by rw [Hq.out]; simp only; omega) (by rw [Hq.out, Hz.out]; have := Hr.out.2; omega)
                            rw [← HX2.out, xp_cons_ok h1, Ht.out])
                          have hlen : (rpt dd j o).length ≤ 524288 := by omega
                          have HOj2 : Hid (wr.ownsRow w.heap.size 5 1 (.slice pj r cj) (rpt dd j o).length ((rpt dd j o).map u8v)) := Lib.hid (by have := HOj.out; rwa [show Value.slice pj (rpt dd j o).length cj = .slice pj r cj by rw [hr]] at this)
                          clear hr
                          go_wp2
                          go_roundw
                          case rel => exact ⟨k + 1, rpt dd j o, by go_num, by omega, hlen, HOj2, HX5, HB9⟩
                          case measure => simp [intOf]; omega
    · obtain rfl : k = ts.length := by omega
      have d0 : decide (ts.length < ts.length) = false := by simp
      go_wp2
      go_ret2
      have hr : R = (o, 0) := by
        have := HX.out
        rw [List.drop_length] at this
        exact this.symm
      rw [hr]
      exact ⟨_, rfl, HO.out, HB.out⟩

end Go.Proofs.Ytngiiacibbgiiaa
