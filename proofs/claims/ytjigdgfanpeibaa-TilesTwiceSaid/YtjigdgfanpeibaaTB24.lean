/- region's Of, And, Or, Minus: form, of what is meant. -/
import Derived.Test.YtjigdgfanpeibaaTB23
namespace Go.Proofs.Ytjigdgfanpeibaa
open Go.RowKit Go.Shelf

attribute [local go_sem] Oper.semAt_some

/-- The list in form of the pixels that are meant. -/
def formL (mf : Bool → Bool → Bool) (a b : List Rc) : List Rc := (bandsOf (stripsL mf a b)).flatten

set_option maxHeartbeats 400000 in
theorem meant_of : Meant 87 (fun p _ => p) := by
  refine ⟨enters_of Try.func87 (by kernel_rfl) rfl, fun p q w => ?_⟩
  unfold Makes
  go_enter Try.func87, Try.ntmps87
  cases p <;> cases q
  all_goals
    go_wp2
    go_ret
    exact ⟨rfl, Below.refl _ _⟩

set_option maxHeartbeats 400000 in
theorem meant_and : Meant 68 (fun p q => p && q) := by
  refine ⟨enters_of Try.func68 (by kernel_rfl) rfl, fun p q w => ?_⟩
  unfold Makes
  go_enter Try.func68, Try.ntmps68
  cases p <;> cases q
  all_goals
    go_wp2
    go_ret
    exact ⟨rfl, Below.refl _ _⟩

set_option maxHeartbeats 400000 in
theorem meant_area : Meant 69 (fun p _ => p) := by
  refine ⟨enters_of Try.func69 (by kernel_rfl) rfl, fun p q w => ?_⟩
  unfold Makes
  go_enter Try.func69, Try.ntmps69
  cases p <;> cases q
  all_goals
    go_wp2
    go_ret
    exact ⟨rfl, Below.refl _ _⟩

set_option maxHeartbeats 400000 in
theorem meant_same : Meant 66 (fun p q => p != q) := by
  refine ⟨enters_of Try.func66 (by kernel_rfl) rfl, fun p q w => ?_⟩
  unfold Makes
  go_enter Try.func66, Try.ntmps66
  cases p <;> cases q
  all_goals
    go_wp2
    go_ret
    exact ⟨rfl, Below.refl _ _⟩

set_option maxHeartbeats 400000 in
theorem regAnd_any (va vb : Value) (a b : List Rc) (w : World) (ha : Row encR 4 w va a) (hb : Row encR 4 w vb b) (hfa : ∀ r ∈ a, Fit r) (hfb : ∀ r ∈ b, Fit r) (hlen : a.length + b.length ≤ 67108864) (hout : (formL (fun p q => p && q) a b).length ≤ 4398046511104) :
    Calls Try.prog 36 #[va, vb] w fun e w' => ∃ u, e = .returned u ∧ w'.ownsRow w.heap.size 38 4 u (formL (fun p q => p && q) a b).length (flatR (formL (fun p q => p && q) a b)) ∧ Below w.heap.size w w' := by
  have hmf : ∀ (fn : Fn) (first cap : Array Value) (w : World), (Instr.makeFunc fn first cap).run Try.prog w = .ok (.func fn first cap) w := fun _ _ _ _ => rfl
  go_enter Try.func36, Try.ntmps36
  go_wp2_with (go_at_call 67; refine Calls.mono (form_any va vb a b _ _ w rfl meant_and ha hb hfa hfb hlen hout) ?_; rintro e w' ⟨u, rfl, own, hbw⟩)
  have Hown := Lib.hid own
  clear own
  go_wp2
  go_ret
  exact ⟨_, rfl, Hown.out, hbw⟩

set_option maxHeartbeats 400000 in
theorem regOf_any (va : Value) (a : List Rc) (w : World) (ha : Row encR 4 w va a) (hfa : ∀ r ∈ a, Fit r) (hlen : a.length ≤ 67108864) (hout : (formL (fun p _ => p) a []).length ≤ 4398046511104) :
    Calls Try.prog 58 #[va] w fun e w' => ∃ u, e = .returned u ∧ w'.ownsRow w.heap.size 38 4 u (formL (fun p _ => p) a []).length (flatR (formL (fun p _ => p) a [])) ∧ Below w.heap.size w w' := by
  have hmf : ∀ (fn : Fn) (first cap : Array Value) (w : World), (Instr.makeFunc fn first cap).run Try.prog w = .ok (.func fn first cap) w := fun _ _ _ _ => rfl
  go_enter Try.func58, Try.ntmps58
  go_wp2_with (go_at_call 67; refine Calls.mono (form_any va (.slice none 0 0) a [] _ _ w rfl meant_of ha ⟨none, 0, rfl, Nat.le_refl _, by simp [maxLen], .inl ⟨rfl, rfl⟩⟩ hfa (fun r hr => by cases hr) (by simpa using hlen) hout) ?_; rintro e w' ⟨u, rfl, own, hbw⟩)
  have Hown := Lib.hid own
  clear own
  go_wp2
  go_ret
  exact ⟨_, rfl, Hown.out, hbw⟩

end Go.Proofs.Ytjigdgfanpeibaa
