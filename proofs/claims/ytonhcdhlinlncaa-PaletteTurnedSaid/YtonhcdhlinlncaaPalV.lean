/- palette's calls on rows, in one form each; the statements' example. -/
import Derived.Test.YtonhcdhlinlncaaPalG
import Derived.Test.YtonhcdhlinlncaaPalT
import Derived.Test.YtonhcdhlinlncaaPalU
namespace Go.Proofs.Ytonhcdhlinlncaa
open Go.RowKit

attribute [local go_sem] Oper.semAt_some

theorem penc_row {w : World} {p : Option Addr} {n c : Nat} {l : List Nat} (h : Row encP 1 w (.slice p n c) l) (h32 : ∀ x ∈ l, x < 4294967296) (hl : n ≤ 1048576) (A : List Nat × Bool) (hA : plE l = A) :
    Calls Try.prog 8 #[.slice p n c] w fun e w' => ∃ p' c', e = .returned (.tuple #[.slice p' A.1.length c', .bool A.2]) ∧ w'.ownsRow w.heap.size 5 1 (.slice p' A.1.length c') A.1.length (A.1.map u8v) ∧ Below w.heap.size w w' := by
  obtain rfl := h.lenR
  refine Calls.mono (pencode_any p c l w h.at'.1 h32 hl h.at'.2) ?_
  rintro _ w' ⟨v', rfl, ho, hb⟩
  rw [hA] at ho ⊢
  obtain ⟨p', c', rfl⟩ := owns_slice ho
  exact ⟨p', c', rfl, ho, hb⟩
theorem prefenc_row {w : World} {p : Option Addr} {n c : Nat} {l : List Nat} (h : Row encP 1 w (.slice p n c) l) (hl : n ≤ 1048576) (A : List Nat × Bool) (hA : plE l = A) :
    Calls Try.prog 9 #[.slice p n c] w fun e w' => ∃ p' c', e = .returned (.tuple #[.slice p' A.1.length c', .bool A.2]) ∧ w'.ownsRow w.heap.size 5 1 (.slice p' A.1.length c') A.1.length (A.1.map u8v) ∧ Below w.heap.size w w' := by
  obtain rfl := h.lenR
  refine Calls.mono (prefEncode_any p c l w h.at'.1 hl) ?_
  rintro _ w' ⟨v', rfl, ho, hb⟩
  rw [hA] at ho ⊢
  obtain ⟨p', c', rfl⟩ := owns_slice ho
  exact ⟨p', c', rfl, ho, hb⟩
theorem row_cap {α : Type} {enc : α → List Value} {k : Nat} {w : World} {p : Option Addr} {n c : Nat} {l : List α} (h : Row enc k w (.slice p n c) l) : c ≤ maxLen := by
  obtain ⟨p', c', e, -, h2, -⟩ := h
  cases e
  exact h2
theorem pdec_row {w : World} {p : Option Addr} {n c : Nat} {l : List Nat} (N : Int) (h : Row enc8 1 w (.slice p n c) l) (h8 : ∀ x ∈ l, x < 256) (hl : n ≤ 1048576) (A : List Nat × Int) (hA : plD l N = A) :
    Calls Try.prog 12 #[.slice p n c, .int .i64 N] w fun e w' => ∃ p' c', e = .returned (.tuple #[.slice p' A.1.length c', .int .i64 A.2]) ∧ w'.ownsRow w.heap.size 35 1 (.slice p' A.1.length c') A.1.length (A.1.map pxv) ∧ Below w.heap.size w w' := by
  have hc := row_cap h
  obtain rfl := h.lenR
  refine Calls.mono (pdecode_any p c l N w h.at'.1 h8 hl h.at'.2 hc) ?_
  rintro _ w' ⟨v', rfl, ho, hb⟩
  rw [hA] at ho ⊢
  obtain ⟨p', c', rfl⟩ := owns_slice ho
  exact ⟨p', c', rfl, ho, hb⟩
theorem prefdec_row {w : World} {p : Option Addr} {n c : Nat} {l : List Nat} (N : Int) (h : Row enc8 1 w (.slice p n c) l) (h8 : ∀ x ∈ l, x < 256) (hl : n ≤ 1048576) (A : List Nat × Int) (hA : plD l N = A) :
    Calls Try.prog 13 #[.slice p n c, .int .i64 N] w fun e w' => ∃ p' c', e = .returned (.tuple #[.slice p' A.1.length c', .int .i64 A.2]) ∧ w'.ownsRow w.heap.size 35 1 (.slice p' A.1.length c') A.1.length (A.1.map pxv) ∧ Below w.heap.size w w' := by
  have hc := row_cap h
  obtain rfl := h.lenR
  refine Calls.mono (prefDecode_any p c l N w h.at'.1 h8 hl h.at'.2 hc) ?_
  rintro _ w' ⟨v', rfl, ho, hb⟩
  rw [hA] at ho ⊢
  obtain ⟨p', c', rfl⟩ := owns_slice ho
  exact ⟨p', c', rfl, ho, hb⟩
theorem psame_row {w : World} {p q : Option Addr} {n m c d : Nat} {a b : List Nat} (hp : Row encP 1 w (.slice p n c) a) (hq : Row encP 1 w (.slice q m d) b) (ha : n ≤ 1048576) (hb : m ≤ 1048576) (r : Bool) (hr : decide (a = b) = r) :
    Makes Try.prog 10 #[.slice p n c, .slice q m d] w (.bool r) := by
  obtain rfl := hp.lenR
  obtain rfl := hq.lenR
  rw [← hr]
  exact rsame_any p q c d a b w hp.at'.1 hq.at'.1 ha hb

theorem pex_str : strR [1, 1, 2, 3, 4, 5, 6, 4] = { data := #[1, 1, 2, 3, 4, 5, 6, 4] } := by decide +kernel
theorem pex_enc : plE [66051, 66051, 263430] = ([1, 1, 2, 3, 4, 5, 6, 4], true) := by decide +kernel
theorem pex_dec : plD [1, 1, 2, 3, 4, 5, 6, 4] 3 = ([66051, 66051, 263430], 0) := by decide +kernel

set_option maxRecDepth 20000 in
set_option maxHeartbeats 4000000 in
theorem ptells_law (w : World) : Makes Try.prog 11 #[] w (.bool true) := by
  unfold Makes
  have h1 := row_litP w [66051, 66051, 263430] (by decide)
  go_enter Try.func11, Try.ntmps11
  go_wp2_with fail
  refine Calls.mono (penc_row (p := some ⟨w.heap.size, 0, none⟩) (n := 3) (c := 3) h1 (by decide) (by decide) _ pex_enc) ?_
  rintro _ w1 ⟨p1, c1, rfl, ho1, hb1⟩
  have Hb1 := Lib.hid (Below.thn (Below.al1 w _) hb1)
  have Hr1 := Lib.hid (own_rowB ho1)
  clear ho1 hb1 h1
  simp only [List.length_cons, List.length_nil, Nat.zero_add, Nat.reduceAdd] at Hr1 ⊢
  have h2 := row_lit8 w1 [1, 1, 2, 3, 4, 5, 6, 4] (by decide)
  go_wp2_with fail
  refine Calls.mono (pdec_row (p := some ⟨w1.heap.size, 0, none⟩) (n := 8) (c := 8) 3 h2 (by decide) (by decide) _ pex_dec) ?_
  rintro _ w2 ⟨p2, c2, rfl, ho2, hb2⟩
  have hb3 := Below.thn (Below.al1 w1 (.cells #[.int .u8 1, .int .u8 1, .int .u8 2, .int .u8 3, .int .u8 4, .int .u8 5, .int .u8 6, .int .u8 4] 5)) hb2
  have Hb2 := Lib.hid (Below.thn Hb1.out hb3)
  have hs := strR_row (Hr1.out.below hb3)
  rw [pex_str] at hs
  obtain ⟨g, off, e, hc⟩ := (own_rowP ho2).at'.1.pxs (by decide)
  subst e
  have x1 := hc 2 (by decide)
  clear ho2 hb2 hb3 h2 hc
  simp only [List.length_cons, List.length_nil, Nat.zero_add, Nat.reduceAdd] at *
  go_wp2
  go_ret
  exact ⟨rfl, Hb2.out⟩

end Go.Proofs.Ytonhcdhlinlncaa
