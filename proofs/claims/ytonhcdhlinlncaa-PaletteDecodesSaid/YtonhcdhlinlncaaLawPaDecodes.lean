/- The walk of the statement PaletteDecodes. -/
import Derived.Test.YtonhcdhlinlncaaPalV
namespace Go.Proofs.Ytonhcdhlinlncaa
open Go.RowKit

set_option maxRecDepth 20000 in
set_option maxHeartbeats 8000000 in
theorem padecodes_any (v : Value) (l : List Nat) (N : Int) (w : World) (hv : Rw8 w v l) (h8 : ∀ x ∈ l, x < 256) :
    Makes Try.prog 4 #[v, .int .i64 N] w (.bool true) := by
  unfold Makes
  have Hv := Lib.hid hv.row
  obtain ⟨p, c, rfl, hc1, hc2, hsrc⟩ := hv.src enc8_len (by decide)
  rw [flat8] at hsrc
  have Hsrc := Lib.hid hsrc
  obtain ⟨i0, hi0, hz0, hz1, hz2⟩ := info_parts u8_info
  clear hv hsrc
  go_enter Try.func4, Try.ntmps4
  by_cases hl : 500 < l.length
  · have d0 : decide ((l.length : Int) > 500) = true := by simp; omega
    go_wp2
    go_ret
    exact ⟨rfl, Below.refl _ _⟩
  have d0 : decide ((l.length : Int) > 500) = false := by simp; omega
  go_wp2_with (at_builtin; refine wpList_append_mine w rfl (.tmp 13) (.tmp 14) 23 rfl w.heap.size 5 i0 _ 1 1 Try.underlying23 hi0 hz0 hz1 hz2 rfl (by decide) (.slice none 0 0) 0 [] rfl (World.ownsRow_nil _ _ _ _) p l.length c (l.map u8v) rfl (by simp) Hsrc.out (one8 _) ?n3 ?n4 (Nat.le_refl _) ?_)
  case n3 => simp only [maxLen]; omega
  case n4 => omega
  intro vi w1 ho1 hg1 _
  have hb1 : Below w.heap.size w w1 := (Turns.of_grown (T := fun _ => False) hg1 (fun i e => by cases e)).below (Nat.le_refl _) (fun i h => h.elim)
  have hown1 : w1.ownsRow w.heap.size 5 1 vi l.length (l.map u8v) := by simpa using ho1
  have Hr1 := Lib.hid (Row.own8' hown1)
  obtain ⟨p1, c1, rfl⟩ := owns_slice hown1
  have Hb1 := Lib.hid hb1
  clear ho1 hg1 hb1 hown1
  obtain ⟨A, hA⟩ : ∃ A, plD l N = A := ⟨_, rfl⟩
  have hAl : A.1.length ≤ 65536 := by rw [← hA]; exact plD_len
  have HA := Lib.hid hA
  clear hA
  go_wp2_with fail
  refine Calls.mono (pdec_row N Hr1.out h8 (by omega) A HA.out) ?_
  rintro _ w2 ⟨p2, c2, rfl, ho2, hb2⟩
  have Hb2 := Lib.hid (Below.thn Hb1.out hb2)
  have Hb12 := Lib.hid hb2
  have Ho2 := Lib.hid (own_rowP ho2)
  clear ho2 hb2
  go_wp2_with fail
  refine Calls.mono (prefdec_row N (Hv.out.below Hb2.out) h8 (by omega) A HA.out) ?_
  rintro _ w3 ⟨p3, c3, rfl, ho3, hb3⟩
  have Hb3 := Lib.hid (Below.thn Hb2.out hb3)
  have Hb13 := Lib.hid (Below.thn Hb12.out hb3)
  have Ho23 := Lib.hid (Ho2.out.below hb3)
  have Ho3 := Lib.hid (own_rowP ho3)
  clear ho3 hb3
  obtain ⟨m, hm⟩ : ∃ m, A.1.length = m := ⟨_, rfl⟩
  rw [hm] at hAl Ho23 Ho3
  obtain ⟨AL, ae⟩ := A
  simp only at hm Ho23 Ho3 ⊢
  rw [hm]
  go_wp2_with fail
  refine Calls.mono (psame_row Ho23.out Ho3.out (by omega) (by omega) true (by simp)) ?_
  rintro _ w4 ⟨rfl, hb4⟩
  have Hb4 := Lib.hid (Below.thn Hb3.out hb4)
  have hs1 := strR_row (Hr1.out.below (Below.thn Hb13.out hb4))
  have hs2 := strR_row (Hv.out.below Hb4.out)
  generalize strR l = S at hs1 hs2
  clear hb4
  go_wp2_with fail
  refine Calls.mono (ptells_law w4) ?_
  rintro _ w5 ⟨rfl, hb5⟩
  have Hb5 := Lib.hid (Below.thn Hb4.out hb5)
  clear hb5 hs1 hs2
  go_wp2
  go_ret
  exact ⟨rfl, Hb5.out⟩

end Go.Proofs.Ytonhcdhlinlncaa
