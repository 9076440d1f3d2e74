/- The document's All of lengths that make no code. -/
import Derived.Test.YtlbhgackpjfhaaaHufRh
namespace Go.Proofs.Ytlbhgackpjfhaaa
open Go.RowKit

theorem refAll_bad (ls : List Nat) (v : Value) (w : World) (hv : Row enc8 1 w v ls) (hc : chk ls ≠ 0) :
    Calls Try.prog 12 #[v] w fun e w' => e = .returned (.tuple #[.slice none 0 0, .int .i64 (chk ls)]) ∧ w' = w := by
  have Hv := Lib.hid hv
  obtain ⟨r, hr⟩ : ∃ r, chk ls = r := ⟨_, rfl⟩
  have Hr := Lib.hid hr
  rw [hr] at hc ⊢
  have e0 : (r != 0) = true := by simpa using hc
  clear hr hv
  go_enter Try.func12, Try.ntmps12
  go_wp2_with fail
  refine Calls.mono (refWrong_any ls v w Hv.out) ?_
  rintro e w1 ⟨rfl, rfl⟩
  rw [Hr.out]
  go_wp2
  go_ret2
  exact ⟨rfl, rfl⟩

theorem refCodes_bad (ls : List Nat) (v : Value) (w : World) (hv : Row enc8 1 w v ls) (hc : chk ls ≠ 0) :
    Calls Try.prog 9 #[v] w fun e w' => e = .returned (.tuple #[.slice none 0 0, .int .i64 (chk ls)]) ∧ w' = w := by
  have Hv := Lib.hid hv
  have Hc := Lib.hid hc
  obtain ⟨r, hr⟩ : ∃ r, chk ls = r := ⟨_, rfl⟩
  have Hr := Lib.hid hr
  rw [hr] at hc ⊢
  have e0 : (r != 0) = true := by simpa using hc
  clear hr hv
  go_enter Try.func9, Try.ntmps9
  go_wp2_with fail
  refine Calls.mono (refAll_bad ls v w Hv.out Hc.out) ?_
  rintro e w1 ⟨rfl, rfl⟩
  rw [Hr.out]
  go_wp2
  go_ret2
  exact ⟨rfl, rfl⟩

end Go.Proofs.Ytlbhgackpjfhaaa
