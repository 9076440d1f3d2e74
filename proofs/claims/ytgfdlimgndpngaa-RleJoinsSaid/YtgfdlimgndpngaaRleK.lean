/- rle's calls on rows, in one form each. -/
import Derived.Test.YtgfdlimgndpngaaRleI
import Derived.Test.YtgfdlimgndpngaaRleJ
namespace Go.Proofs.Ytgfdlimgndpngaa
open Go.RowKit

theorem Row.lenR {α : Type} {enc : α → List Value} {k : Nat} {w : World} {p : Option Addr} {n c : Nat} {l : List α} (h : Row enc k w (.slice p n c) l) : l.length = n := by
  obtain ⟨_, _, e, -⟩ := h
  cases e; rfl
theorem renc_row {w : World} {p : Option Addr} {n c : Nat} {l : List Nat} (h : Row encP 1 w (.slice p n c) l) (h32 : ∀ x ∈ l, x < 4294967296) (hl : n ≤ 1048576) :
    Calls Try.prog 9 #[.slice p n c] w fun e w' => ∃ p' c', e = .returned (.slice p' (4 * (rlO l).length) c') ∧ w'.ownsRow w.heap.size 5 1 (.slice p' (4 * (rlO l).length) c') (4 * (rlO l).length) ((rlBs (rlO l)).map u8v) ∧ Below w.heap.size w w' := by
  obtain rfl := h.lenR
  refine Calls.mono (rencode_any p c l w h.at'.1 h32 hl h.at'.2) ?_
  rintro _ w' ⟨v', rfl, ho, hb⟩
  rw [rlBs_len] at ho
  obtain ⟨p', c', rfl⟩ := owns_slice ho
  exact ⟨p', c', rfl, ho, hb⟩
theorem rdec_row {w : World} {p : Option Addr} {n c : Nat} {l : List Nat} (N : Int) (h : Row enc8 1 w (.slice p n c) l) (h8 : ∀ x ∈ l, x < 256) (hl : n ≤ 1048576) (hN : -9223372036854775808 ≤ N ∧ N ≤ 9223372036854775807) (A : List Nat × Int) (hA : rlD l N = A) :
    Calls Try.prog 13 #[.slice p n c, .int .i64 N] w fun e w' => ∃ p' c', e = .returned (.tuple #[.slice p' A.1.length c', .int .i64 A.2]) ∧ w'.ownsRow w.heap.size 34 1 (.slice p' A.1.length c') A.1.length (A.1.map pxv) ∧ Below w.heap.size w w' := by
  obtain rfl := h.lenR
  refine Calls.mono (rdecode_any p c l N w h.at'.1 h8 hl h.at'.2 hN) ?_
  rintro _ w' ⟨v', rfl, ho, hb⟩
  rw [hA] at ho ⊢
  obtain ⟨p', c', rfl⟩ := owns_slice ho
  exact ⟨p', c', rfl, ho, hb⟩
theorem rrefdec_row {w : World} {p : Option Addr} {n c : Nat} {l : List Nat} (N : Int) (h : Row enc8 1 w (.slice p n c) l) (h8 : ∀ x ∈ l, x < 256) (hl : n ≤ 1048576) (hN : -9223372036854775808 ≤ N ∧ N ≤ 9223372036854775807) (A : List Nat × Int) (hA : rlD l N = A) :
    Calls Try.prog 14 #[.slice p n c, .int .i64 N] w fun e w' => ∃ p' c', e = .returned (.tuple #[.slice p' A.1.length c', .int .i64 A.2]) ∧ w'.ownsRow w.heap.size 34 1 (.slice p' A.1.length c') A.1.length (A.1.map pxv) ∧ Below w.heap.size w w' := by
  obtain rfl := h.lenR
  refine Calls.mono (refDecode_any p c l N w h.at'.1 h8 hl hN) ?_
  rintro _ w' ⟨v', rfl, ho, hb⟩
  rw [hA] at ho ⊢
  obtain ⟨p', c', rfl⟩ := owns_slice ho
  exact ⟨p', c', rfl, ho, hb⟩
theorem rsame_row {w : World} {p q : Option Addr} {n m c d : Nat} {a b : List Nat} (hp : Row encP 1 w (.slice p n c) a) (hq : Row encP 1 w (.slice q m d) b) (ha : n ≤ 1048576) (hb : m ≤ 1048576) (r : Bool) (hr : decide (a = b) = r) :
    Makes Try.prog 11 #[.slice p n c, .slice q m d] w (.bool r) := by
  obtain rfl := hp.lenR
  obtain rfl := hq.lenR
  rw [← hr]
  exact rsame_any p q c d a b w hp.at'.1 hq.at'.1 ha hb
theorem rcut_row {w : World} {p : Option Addr} {n c : Nat} {l : List Nat} (h : Row encP 1 w (.slice p n c) l) (hl : n ≤ 1048576) :
    Calls Try.prog 15 #[.slice p n c] w fun e w' => ∃ p' c', e = .returned (.slice p' n c') ∧ w'.ownsRow w.heap.size 34 1 (.slice p' n c') n ((l.map rlw).map pxv) ∧ Below w.heap.size w w' := by
  obtain rfl := h.lenR
  refine Calls.mono (rcut_any p c l w h.at'.1 hl) ?_
  rintro _ w' ⟨v', rfl, ho, hb⟩
  rw [List.length_map] at ho
  obtain ⟨p', c', rfl⟩ := owns_slice ho
  exact ⟨p', c', rfl, ho, hb⟩
theorem own_rowP {w : World} {base : Nat} {v : Value} {n : Nat} {l : List Nat} (h : w.ownsRow base 34 1 v n (l.map pxv)) : Row encP 1 w v l := by
  have e : n = l.length := by have := h.1; simp at this; exact this.symm
  subst e
  exact Row.ownP h
theorem own_rowB {w : World} {base : Nat} {v : Value} {n : Nat} {l : List Nat} (h : w.ownsRow base 5 1 v n (l.map u8v)) : Row enc8 1 w v l := by
  have e : n = l.length := by have := h.1; simp at this; exact this.symm
  subst e
  exact Row.own8' h
theorem rlBs_256 {rs : List (Nat × Nat)} (h : ∀ r ∈ rs, RlOk r) : ∀ x ∈ rlBs rs, x < 256 := by
  intro x hx
  obtain ⟨r, hr, hx⟩ := List.mem_flatMap.1 hx
  obtain ⟨h1, h2, h3⟩ := h r hr
  simp only [rlB, List.mem_cons, List.not_mem_nil, or_false] at hx
  rcases hx with rfl | rfl | rfl | rfl <;> omega

end Go.Proofs.Ytgfdlimgndpngaa
