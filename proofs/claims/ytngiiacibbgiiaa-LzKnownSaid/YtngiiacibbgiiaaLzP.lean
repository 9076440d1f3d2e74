/- For the closed statement: tokens that are none, many tokens, rows of new memory. -/
import Derived.Test.YtngiiacibbgiiaaLzM
namespace Go.Proofs.Ytngiiacibbgiiaa
open Go.RowKit

theorem row_blockT {W : World} {b : Nat} {ts : List Tk} (h : W.heap[b]? = some (.cells (ts.flatMap encT).toArray 26)) (hl : ts.length ≤ 1048576) : Row encT 3 W (.slice (some ⟨b, 0, none⟩) ts.length ts.length) ts := by
  refine ⟨_, _, rfl, Nat.le_refl _, by simp only [maxLen]; omega, .inr ⟨b, 0, rfl, lt_heap h, fun i x hx j u hu => ?_⟩⟩
  have hj : j < 3 := by
    have := (List.getElem?_eq_some_iff.1 hu).1
    rwa [encT_len] at this
  have h1 := flat_at' encT_len ts i j hj
  rw [hx] at h1
  simp only [Option.bind_some] at h1
  rw [hu] at h1
  rw [Nat.zero_add]
  exact cell_heap h (by simpa using h1)
theorem row_nil8 (w : World) : Row enc8 1 w (.slice none 0 0) [] := ⟨none, 0, rfl, Nat.le_refl _, by simp [maxLen], .inl ⟨rfl, rfl⟩⟩
theorem row_nilT (w : World) : Row encT 3 w (.slice none 0 0) [] := ⟨none, 0, rfl, Nat.le_refl _, by simp [maxLen], .inl ⟨rfl, rfl⟩⟩

theorem kn_a : toksC (fb [97, 97, 97, 97, 97]) 5 5 0 = [⟨97, 0, 0⟩, ⟨0, 4, 1⟩] := by kernel_rfl
theorem kn_b : toksC (fb [97, 98, 97, 98]) 4 4 0 = [⟨97, 0, 0⟩, ⟨98, 0, 0⟩, ⟨97, 0, 0⟩, ⟨98, 0, 0⟩] := by kernel_rfl
theorem kn_c : toksC (fb [120, 97, 98, 99, 121, 97, 98, 99, 100, 122, 97, 98, 99, 100]) 14 14 0 = [⟨120, 0, 0⟩, ⟨97, 0, 0⟩, ⟨98, 0, 0⟩, ⟨99, 0, 0⟩, ⟨121, 0, 0⟩, ⟨0, 3, 4⟩, ⟨100, 0, 0⟩, ⟨122, 0, 0⟩, ⟨0, 4, 5⟩] := by kernel_rfl

/-- The lists of tokens one of which is none. -/
def bads : List (List Tk) := [[⟨97, 0, 0⟩, ⟨0, 3, 2⟩], [⟨0, 2, 1⟩], [⟨97, 0, 0⟩, ⟨0, 2, 1⟩], [⟨97, 0, 0⟩, ⟨0, 259, 1⟩], [⟨97, 0, 0⟩, ⟨1, 3, 1⟩], [⟨97, 0, 0⟩, ⟨0, 0, 1⟩], [⟨97, 0, 0⟩, ⟨0, 3, 0⟩], [⟨97, 0, 0⟩, ⟨0, -1, 1⟩], [⟨97, 0, 0⟩, ⟨0, 3, -1⟩]]
theorem bads_xp : ∀ ts ∈ bads, xp ts [] = ([], 70) := by decide +kernel

theorem below_fold (l : List Obj) : ∀ w : World, Below w.heap.size w (l.foldl World.alloc w) := by
  induction l with
  | nil => intro w; exact Below.refl _ _
  | cons o l ih => intro w; exact Below.thn (Below.al1 w o) (ih _)
/-- What is laid for them. -/
def badO (b : Nat) : List Obj := (bads.map fun ts => .cells (ts.flatMap encT).toArray 26) ++ [.cells ((List.range 9).map fun j => Value.slice (some ⟨b + j, 0, none⟩) (bads.getD j []).length (bads.getD j []).length).toArray 23]
theorem bad_world {w W : World} (h : (badO w.heap.size).foldl World.alloc w = W) : Below w.heap.size w W ∧ ∀ i, i < 9 → ∃ (p : Option Addr) (n : Nat) (ts : List Tk), W.cell? ⟨w.heap.size + 9, i, none⟩ = some (.slice p n n) ∧ Row encT 3 W (.slice p n n) ts ∧ xp ts [] = ([], 70) ∧ ts.length ≤ 10 := by
  subst h
  have hp := heap_pushed (badO w.heap.size) w
  have hlen : bads.length = 9 := rfl
  refine ⟨below_fold _ w, fun i hi => ?_⟩
  have hb : bads[i]? = some (bads[i]'(by omega)) := List.getElem?_eq_getElem (by omega)
  have h1 := (hp i (.cells ((bads[i]'(by omega)).flatMap encT).toArray 26)).2 (by
    unfold badO
    rw [List.getElem?_append_left (by simp [hlen]; omega), List.getElem?_map, hb]; rfl)
  have h2 := (hp 9 _).2 (show (badO w.heap.size)[9]? = some _ from rfl)
  have hd : bads.getD i [] = bads[i]'(by omega) := by rw [List.getD_eq_getElem?_getD, hb]; rfl
  have hsm : ∀ ts ∈ bads, ts.length ≤ 10 := by decide
  have hm := List.getElem_mem (l := bads) (n := i) (by omega)
  refine ⟨some ⟨w.heap.size + i, 0, none⟩, (bads[i]'(by omega)).length, bads[i]'(by omega), ?_, row_blockT h1 (by have := hsm _ hm; omega), bads_xp _ hm, hsm _ hm⟩
  refine cell_heap h2 ?_
  rw [List.getElem?_toArray, List.getElem?_map, List.getElem?_range hi, ← hd]; rfl

/-- One byte, and so many repetitions. -/
def manyT (k : Nat) : List Tk := ⟨97, 0, 0⟩ :: List.replicate k ⟨0, 258, 1⟩
theorem manyT_snoc (k : Nat) : manyT (k + 1) = manyT k ++ [⟨0, 258, 1⟩] := by unfold manyT; rw [List.replicate_succ']; rfl
theorem manyT_len (k : Nat) : (manyT k).length = k + 1 := by unfold manyT; simp
theorem manyT_xp {k : Nat} (h : 1 + 258 * k ≤ 524288) : xp (manyT k) [] = (List.replicate (1 + 258 * k) 97, 0) := by
  unfold manyT
  rw [xp_cons_ok (by decide), show tellT ⟨97, 0, 0⟩ [] = List.replicate 1 97 from rfl]
  exact xp_reps 97 k 1 (by omega) h
theorem many_ok : ∃ ys, xp (manyT 2032) [] = (ys, 0) ∧ ys.length = 524257 :=
  ⟨_, manyT_xp (by omega), by rw [List.length_replicate]⟩
theorem many_long : xp (manyT 2033) [] = ([], 2) := by
  obtain ⟨ys, h1, h2⟩ := many_ok
  rw [manyT_snoc, xp_append, h1, if_pos rfl]
  have : tkErr ⟨0, 258, 1⟩ ys.length = 2 := by
    rw [h2]
    exact tkErr_long rfl (by decide) (by decide)
  rw [xp_cons_bad (by rw [this]; decide), this]

/-- New bytes. -/
def nZ (n : Nat) : Array Value := ((List.replicate n 0).map u8v).toArray
theorem made_8 (n : Nat) : madeCells #[Value.int .u8 0] n = nZ n := by
  unfold nZ
  refine Array.ext (by simp [size_madeCells]) (fun i h1 h2 => ?_)
  simp [madeCells, Nat.mod_one, u8v]
theorem make_8 (n : Nat) (hn : n ≤ 1048576) (w : World) : (Instr.makeSlice 22 (.int .i64 (n : Int)) (.int .i64 (n : Int))).run Try.prog w = .ok (.slice (some ⟨w.heap.size, 0, none⟩) n n) (w.alloc (.cells (nZ n) 5)) := by
  obtain ⟨i, hi, hz, hs, hb⟩ := info_parts u8_info
  have h := run_make (P := Try.prog) w 22 5 i _ Try.underlying22 hi hz .i64 .i64 (n : Int) (n : Int) (by omega) (Int.le_refl _) (by rw [hb]; omega) (by omega)
  rw [h]
  simp only [Int.toNat_natCast, hs, Nat.mul_one]
  rw [show (Value.int IntKind.u8 0).cells = #[Value.int .u8 0] from rfl, made_8]
/-- A row of bytes of its own, whatever bytes they are. -/
def SomeB (w : World) (base g n : Nat) : Prop := ∃ xs : List Nat, xs.length = n ∧ (∀ b ∈ xs, b < 256) ∧ w.ownsRow base 5 1 (.slice (some ⟨g, 0, none⟩) n n) n (xs.map u8v)
theorem SomeB.new (w : World) (n : Nat) (hn : n ≤ 1048576) : SomeB (w.alloc (.cells (nZ n) 5)) w.heap.size w.heap.size n := by
  refine ⟨List.replicate n 0, by simp, fun b hb => by rw [(List.mem_replicate.1 hb).2]; decide, ?_⟩
  have := World.ownsRow_lit (base := w.heap.size) (size := 1) (e := 5) w (nZ n) n (Nat.le_refl _) (by simp only [maxLen]; omega) (by simp [nZ])
  rwa [show (nZ n).toList = (List.replicate n 0).map u8v from rfl] at this
theorem SomeB.put {w : World} {base g n : Nat} (h : SomeB w base g n) (i x : Nat) (hx : x < 256) : SomeB (w.setCell ⟨g, i, none⟩ (.int .u8 (x : Int))) base g n := by
  obtain ⟨xs, h1, h2, h3⟩ := h
  refine ⟨xs.set i x, by simpa using h1, fun b hb => ?_, ?_⟩
  · rcases List.mem_or_eq_of_mem_set hb with h | h
    · exact h2 b h
    · rw [h]; exact hx
  · have := owns_setCell h3 i (.int .u8 (x : Int))
    rwa [show (xs.map u8v).set i (.int .u8 (x : Int)) = (xs.set i x).map u8v from (List.map_set (f := u8v)).symm] at this
theorem SomeB.at {w : World} {base g n i : Nat} (h : SomeB w base g n) (hi : i < n) : ∃ u, w.cell? ⟨g, i, none⟩ = some u ∧ w.frozen? ⟨g, i, none⟩ = false := by
  obtain ⟨xs, h1, h2, h3⟩ := h
  obtain ⟨g', c', e, -, -, hc, hf⟩ := own_at h3 (i := i) (u := u8v (xs[i]'(by omega))) (by rw [List.getElem?_map, List.getElem?_eq_getElem (by omega)]; rfl)
  cases e
  exact ⟨_, hc, hf⟩
def xorN (a b : Int) : Nat := (bits .xor .u8 a b).toNat
theorem xorN_eq (a b : Int) : bits .xor .u8 a b = ((xorN a b : Nat) : Int) ∧ xorN a b < 256 := by
  have h : 0 ≤ bits .xor .u8 a b ∧ bits .xor .u8 a b < 256 := by
    unfold bits
    rw [IntKind.wrap_u8]
    omega
  unfold xorN
  omega

end Go.Proofs.Ytngiiacibbgiiaa
