/- bits: a writer beside other memory that it must leave alone. -/
import Derived.Test.YtlagddnpomkabaaBitF
namespace Go.Proofs.Ytlagddnpomkabaa
open Go.RowKit

/-- A writer as WrS has it, none of whose blocks is one of X. -/
def WrA (X : Nat → Prop) (S base B N n : Nat) (W0 w : World) : Prop :=
  ∃ sv, Wr w base B sv N n ∧ Below S W0 w ∧ base ≤ w.heap.size ∧ S ≤ B ∧ n ≤ 8388608 ∧ ¬ X B ∧ (∀ q, sv.ownBlock = some q → ¬ X q) ∧ ∀ q, X q → q < w.heap.size

theorem WrA.s {X : Nat → Prop} {S base B N n : Nat} {W0 w : World} (h : WrA X S base B N n W0 w) : WrS S base B N n W0 w := by
  obtain ⟨sv, h1, h2, h3, h4, h5, -⟩ := h
  exact ⟨sv, h1, h2, h3, h4, h5⟩
theorem WrA.new (w : World) : WrA (fun _ => False) w.heap.size (w.heap.size + 1) w.heap.size 0 0 w (w.alloc (.cells #[.slice none 0 0, .int .i64 0] 25)) :=
  ⟨_, Wr.new w, Below.al1 w _, by simp, Nat.le_refl _, by decide, fun h => h, fun _ _ h => h, fun _ h => h.elim⟩
theorem WrA.of {X : Nat → Prop} {S base B N n M m : Nat} {sv : Value} {W0 w w' : World} (hw : Wr w base B sv N n) (hb : Below S W0 w) (hs : base ≤ w.heap.size) (hS : S ≤ B) (hm : m ≤ 8388608) (hB : ¬ X B) (hv : ∀ q, sv.ownBlock = some q → ¬ X q) (hX : ∀ q, X q → q < w.heap.size) (h : WrTo base B sv M m w w') :
    WrA X S base B M m W0 w' ∧ Turns (fun b => ¬ X b) w w' := by
  have hk := WrTo.keeps hb hw hS (by have := hw.size; omega) h
  obtain ⟨sv', h1, h2, h3⟩ := h
  refine ⟨⟨sv', h1, hk, Nat.le_trans hs h2.size, hS, hm, hB, fun q hq hx => ?_, fun q hq => Nat.lt_of_lt_of_le (hX q hq) h2.size⟩, h2.mono (fun i _ hi => ?_)⟩
  · rcases h3 q hq with h | h
    · exact hv q h hx
    · have := hX q hx; omega
  · rcases hi with rfl | hi
    · exact hB
    · exact hv i hi

theorem putA_ok {X : Nat → Prop} {S base B N n v k : Nat} {W0 w : World} (h : WrA X S base B N n W0 w) (hv : v < 2 ^ k) (hk : k ≤ 24) (hmax : n + k ≤ 8388608) :
    Calls Try.prog 13 #[.pointer (some ⟨B, 0, none⟩), .int .u32 (v : Int), .int .i64 (k : Int)] w fun e w' => e = .returned (.int .i64 0) ∧ WrA X S base B (N + v * 2 ^ n) (n + k) W0 w' ∧ Turns (fun b => ¬ X b) w w' := by
  obtain ⟨sv, h1, h2, h3, h4, -, h6, h7, h8⟩ := h
  exact (put_ok base B N n v k sv w h1 hv hk hmax h3).mono fun e w' ⟨he, hto⟩ => ⟨he, WrA.of h1 h2 h3 h4 hmax h6 h7 h8 hto⟩
theorem alignA {X : Nat → Prop} {S base B N n : Nat} {W0 w : World} (h : WrA X S base B N n W0 w) :
    Calls Try.prog 11 #[.pointer (some ⟨B, 0, none⟩)] w fun e w' => e = .returned (.int .i64 0) ∧ WrA X S base B N (alignN n) W0 w' ∧ Turns (fun b => ¬ X b) w w' := by
  obtain ⟨sv, h1, h2, h3, h4, h5, h6, h7, h8⟩ := h
  exact (walign_any base B N n sv w h1 h5 h3).mono fun e w' ⟨he, hto⟩ => ⟨he, WrA.of h1 h2 h3 h4 (alignN_max h5) h6 h7 h8 hto⟩

/-- Something else has turned: blocks of X alone; what there is beside the writer now is X'. -/
theorem WrA.other {X X' T : Nat → Prop} {S base B N n : Nat} {W0 w w' : World} (h : WrA X S base B N n W0 w) (ht : Turns T w w') (hT : ∀ q, q < w.heap.size → T q → X q ∧ S ≤ q) (hX : ∀ q, X' q → (X q ∨ w.heap.size ≤ q) ∧ q < w'.heap.size) : WrA X' S base B N n W0 w' := by
  obtain ⟨sv, h1, h2, h3, h4, h5, h6, h7, h8⟩ := h
  have hS : S ≤ w.heap.size := by have := h1.size; omega
  have htk : Turns (fun b => T b ∧ b < w.heap.size) w w' := ⟨ht.os, ht.tape, ht.output, ht.size, fun k hk hn => ht.block k hk (fun h => hn ⟨h, hk⟩)⟩
  refine ⟨sv, h1.turns htk (fun h => h6 (hT B h.2 h.1).1) (fun k hk h => h7 k hk (hT k h.2 h.1).1), h2.trans (htk.below hS (fun i hi => (hT i hi.2 hi.1).2)), Nat.le_trans h3 ht.size, h4, h5, fun h => ?_, fun q hq hx => ?_, fun q hq => (hX q hq).2⟩
  · rcases (hX B h).1 with h' | h'
    · exact h6 h'
    · have := h1.size; omega
  · rcases (hX q hx).1 with h' | h'
    · exact h7 q hq h'
    · have := (h1.own.lt q hq).2; omega
theorem WrA.below {X X' : Nat → Prop} {S base B N n : Nat} {W0 w w' : World} (h : WrA X S base B N n W0 w) (hb : Below w.heap.size w w') (hX : ∀ q, X' q → (X q ∨ w.heap.size ≤ q) ∧ q < w'.heap.size) : WrA X' S base B N n W0 w' :=
  h.other (T := fun _ => False) (Turns.of_below' hb) (fun _ _ h => h.elim) hX

theorem WrA.keep {X : Nat → Prop} {S base B N n : Nat} {W0 w w' : World} (h : WrA X S base B N n W0 w) (hb : Below w.heap.size w w') : WrA X S base B N n W0 w' := by
  have h8 : ∀ q, X q → q < w.heap.size := by obtain ⟨_, _, _, _, _, _, _, _, h8⟩ := h; exact h8
  exact h.below hb (fun q hq => ⟨.inl hq, Nat.lt_of_lt_of_le (h8 q hq) hb.size⟩)

theorem numB_append : ∀ a b : List Nat, numB (a ++ b) = numB a + 256 ^ a.length * numB b
  | [], b => by simp [numB]
  | x :: r, b => by
    rw [List.cons_append, numB, numB, numB_append r b, List.length_cons, Nat.pow_succ, Nat.mul_add, Nat.mul_comm (256 ^ r.length) 256, Nat.mul_assoc, Nat.add_assoc]

theorem numB_take_succ (l : List Nat) (k : Nat) (h : k < l.length) : numB (l.take (k + 1)) = numB (l.take k) + l[k] * 2 ^ (8 * k) := by
  rw [List.take_succ_eq_append_getElem h, numB_append, List.length_take, Nat.min_eq_left (Nat.le_of_lt h), ← pow256, Nat.mul_comm (l[k])]
  simp [numB]

end Go.Proofs.Ytlagddnpomkabaa
