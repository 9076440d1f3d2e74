/- The statement HuffNil. -/
import Derived.Test.YtmhggbojnkmlpaaHufZ
import Derived.Test.YtmhggbojnkmlpaaBitDH
namespace Go.Proofs.Ytmhggbojnkmlpaa
open Go.RowKit Go.Maps

theorem apt_two : Apt (lq [1, 1]) 2 := by
  intro i j hi hj _ _ h
  have h0 : cd (lq [1, 1]) 2 0 = 0 := by decide
  have h1 : cd (lq [1, 1]) 2 1 = 1 := by decide
  have : i = 0 ∨ i = 1 := by omega
  have : j = 0 ∨ j = 1 := by omega
  rcases ‹i = 0 ∨ i = 1› with rfl | rfl <;> rcases ‹j = 0 ∨ j = 1› with rfl | rfl <;> simp_all

theorem ex_two : chk [1, 1] = 0 := by decide

set_option maxRecDepth 20000 in
set_option maxHeartbeats 2000000 in
theorem hnil_any (v : Value) (l : List Nat) (w : World) (hv : Rw8 w v l) (hb : ∀ b ∈ l, b < 256) : Makes Try.prog 8 #[v] w (.bool true) := by
  have Hv := Lib.hid hv
  have Hb := Lib.hid hb
  have hl63 := hv.row.len
  obtain ⟨⟨p, c, rfl, -, -, -⟩, -⟩ := hv
  clear hb
  go_enter Try.func8, Try.ntmps8
  by_cases hl : 1000 < l.length
  · have d0 : decide ((l.length : Int) > 1000) = true := by simp; omega
    go_wp2
    go_ret
    exact ⟨rfl, Below.refl _ _⟩
  have d0 : decide ((l.length : Int) > 1000) = false := by simp; omega
  go_wp2_with fail
  refine Calls.mono (new_any _ l w Hv.out Hb.out (by omega)) ?_
  rintro e w1 ⟨B, sv, rfl, -, hb1, -, -⟩
  have Hb1 := Lib.hid hb1
  clear hb1
  go_wp2_with fail
  refine Calls.mono (read_nil_t _ w1) ?_
  rintro e w2 ⟨rfl, rfl⟩
  go_wp2_with fail
  refine Calls.mono (new_ok [1, 1] _ _ (row_lit8 w2 [1, 1] (by decide)) ex_two apt_two) ?_
  rintro e w3 ⟨T, rfl, -, hb3⟩
  have Hb3 := Lib.hid (Below.thn Hb1.out (Below.thn (Below.al1 w2 _) hb3))
  clear hb3
  go_wp2_with fail
  refine Calls.mono (read_nil_r T w3) ?_
  rintro e w4 ⟨rfl, rfl⟩
  go_wp2_with fail
  refine Calls.mono (codes_law w4) ?_
  rintro e w5 ⟨rfl, hb5⟩
  have Hb5 := Lib.hid (Below.thn Hb3.out hb5)
  clear hb5
  go_wp2
  go_ret
  exact ⟨rfl, Hb5.out⟩

end Go.Proofs.Ytmhggbojnkmlpaa
