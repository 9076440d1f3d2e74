/- The walk of the statement PaletteEncodes. -/
import Derived.Test.YtonhcdhlinlncaaPalV
namespace Go.Proofs.Ytonhcdhlinlncaa
open Go.RowKit

set_option maxRecDepth 20000 in
set_option maxHeartbeats 8000000 in
theorem paencodes_any (v : Value) (l : List Nat) (w : World) (hv : RwP w v l) (h32 : ∀ x ∈ l, x < 4294967296) :
    Makes Try.prog 3 #[v] w (.bool true) := by
  unfold Makes
  have Hv := Lib.hid hv.row
  obtain ⟨p, c, rfl, hc1, hc2, hsrc⟩ := hv.src encP_len (by decide)
  rw [flatP] at hsrc
  have Hsrc := Lib.hid hsrc
  obtain ⟨i0, hi0, hz0, hz1, hz2⟩ := info_parts pxv_info
  clear hv hsrc
  go_enter Try.func3, Try.ntmps3
  by_cases hl : 2000 < l.length
  · have d0 : decide ((l.length : Int) > 2000) = true := by simp; omega
    go_wp2
    go_ret
    exact ⟨rfl, Below.refl _ _⟩
  have d0 : decide ((l.length : Int) > 2000) = false := by simp; omega
  go_wp2_with (at_builtin; refine wpList_append_mine w rfl (.tmp 11) (.tmp 12) 22 rfl w.heap.size 35 i0 _ 1 4 Try.underlying22 hi0 hz0 hz1 hz2 rfl (by decide) (.slice none 0 0) 0 [] rfl (World.ownsRow_nil _ _ _ _) p l.length c (l.map pxv) rfl (by simp) Hsrc.out (oneP _) ?n3 ?n4 (Nat.le_refl _) ?_)
  case n3 => simp only [maxLen]; omega
  case n4 => omega
  intro vi w1 ho1 hg1 _
  have hb1 : Below w.heap.size w w1 := (Turns.of_grown (T := fun _ => False) hg1 (fun i e => by cases e)).below (Nat.le_refl _) (fun i h => h.elim)
  have hown1 : w1.ownsRow w.heap.size 35 1 vi l.length (l.map pxv) := by simpa using ho1
  have Hr1 := Lib.hid (Row.ownP hown1)
  obtain ⟨p1, c1, rfl⟩ := owns_slice hown1
  have Hb1 := Lib.hid hb1
  clear ho1 hg1 hb1 hown1
  obtain ⟨A, hA⟩ : ∃ A, plE l = A := ⟨_, rfl⟩
  have HA := Lib.hid hA
  clear hA
  go_wp2_with fail
  refine Calls.mono (penc_row Hr1.out h32 (by omega) A HA.out) ?_
  rintro _ w2 ⟨p2, c2, rfl, ho2, hb2⟩
  have Hb2 := Lib.hid (Below.thn Hb1.out hb2)
  have Hb12 := Lib.hid hb2
  have Ho2 := Lib.hid (own_rowB ho2)
  clear ho2 hb2
  go_wp2_with fail
  refine Calls.mono (prefenc_row (Hv.out.below Hb2.out) (by omega) A HA.out) ?_
  rintro _ w3 ⟨p3, c3, rfl, ho3, hb3⟩
  have Hb3 := Lib.hid (Below.thn Hb2.out hb3)
  have Hb13 := Lib.hid (Below.thn Hb12.out hb3)
  have hs1 := strR_row (Ho2.out.below hb3)
  have hs2 := strR_row (own_rowB ho3)
  generalize strR A.1 = S at hs1 hs2
  obtain ⟨AL, ae⟩ := A
  obtain ⟨m, hm⟩ : ∃ m, AL.length = m := ⟨_, rfl⟩
  simp only [hm] at hs1 hs2 ⊢
  clear ho3 hb3 hm
  go_wp2_with fail
  refine Calls.mono (psame_row (Hr1.out.below Hb13.out) (Hv.out.below Hb3.out) (by omega) (by omega) true (by simp)) ?_
  rintro _ w4 ⟨rfl, hb4⟩
  have Hb4 := Lib.hid (Below.thn Hb3.out hb4)
  clear hb4 hs1 hs2
  go_wp2_with fail
  refine Calls.mono (ptells_law w4) ?_
  rintro _ w5 ⟨rfl, hb5⟩
  have Hb5 := Lib.hid (Below.thn Hb4.out hb5)
  clear hb5
  go_wp2
  go_ret
  exact ⟨rfl, Hb5.out⟩

end Go.Proofs.Ytonhcdhlinlncaa
