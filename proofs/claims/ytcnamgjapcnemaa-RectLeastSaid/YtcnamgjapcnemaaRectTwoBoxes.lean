/- Two rectangles stored into two new blocks, one behind the other. -/
import Derived.Test.YtcnamgjapcnemaaRectEqs
import Derived.Test.YtcnamgjapcnemaaRectMath2
import Derived.Test.YtcnamgjapcnemaaBoxesMain
namespace Go.Proofs.Ytcnamgjapcnemaa
open Go.RowKit

/-- A rectangle's room, new. -/
abbrev ZO : Obj := .cells #[.int .i64 0, .int .i64 0, .int .i64 0, .int .i64 0] 23

theorem Room.of_block {w : World} {B : Nat} (h : w.heap[B]? = some ZO) : Room w B :=
  ⟨by rw [cell_of_row w B 0 _ _ _ h]; rfl, by rw [cell_of_row w B 1 _ _ _ h]; rfl, by rw [cell_of_row w B 2 _ _ _ h]; rfl, by rw [cell_of_row w B 3 _ _ _ h]; rfl, frozen_of_row w B 0 _ _ h, frozen_of_row w B 1 _ _ h, frozen_of_row w B 2 _ _ h, frozen_of_row w B 3 _ _ h⟩

theorem cell_other {w : World} {B C i j : Nat} {v : Value} (hd : B ≠ C) : (w.setCell ⟨B, i, none⟩ v).cell? ⟨C, j, none⟩ = w.cell? ⟨C, j, none⟩ :=
  (World.cell?_of_block (w := w) (Below.heap_setCell w _ v C (Ne.symm hd)))
theorem free_other {w : World} {B C i j : Nat} {v : Value} (hd : B ≠ C) : (w.setCell ⟨B, i, none⟩ v).frozen? ⟨C, j, none⟩ = w.frozen? ⟨C, j, none⟩ :=
  (World.frozen?_of_block (w := w) (Below.heap_setCell w _ v C (Ne.symm hd)))

theorem Lies.kept {w : World} {B C i : Nat} {v : Value} {r : Rc} (hd : C ≠ B) (h : Lies w B r) : Lies (w.setCell ⟨C, i, none⟩ v) B r :=
  ⟨(cell_other hd).trans h.c0, (cell_other hd).trans h.c1, (cell_other hd).trans h.c2, (cell_other hd).trans h.c3⟩
theorem Room.kept {w : World} {B C i : Nat} {v : Value} (hd : C ≠ B) (h : Room w B) : Room (w.setCell ⟨C, i, none⟩ v) B :=
  ⟨(cell_other hd).trans h.c0, (cell_other hd).trans h.c1, (cell_other hd).trans h.c2, (cell_other hd).trans h.c3, (free_other hd).trans h.f0, (free_other hd).trans h.f1, (free_other hd).trans h.f2, (free_other hd).trans h.f3⟩

/-- A rectangle stored, field by field. -/
abbrev put4 (w : World) (B : Nat) (r : Rc) : World := (((w.setCell ⟨B, 0, none⟩ (.int .i64 r.x)).setCell ⟨B, 1, none⟩ (.int .i64 r.y)).setCell ⟨B, 2, none⟩ (.int .i64 r.a)).setCell ⟨B, 3, none⟩ (.int .i64 r.b)

theorem stored_two {w : World} {B C : Nat} (hB : Room w B) (hC : Room w C) (hd : B ≠ C) (r s : Rc) : Lies (put4 (put4 w B r) C s) B r ∧ Lies (put4 (put4 w B r) C s) C s :=
  ⟨Lies.kept (Ne.symm hd) (Lies.kept (Ne.symm hd) (Lies.kept (Ne.symm hd) (Lies.kept (Ne.symm hd) (Lies.stored hB r)))), Lies.stored (Room.kept hd (Room.kept hd (Room.kept hd (Room.kept hd hC)))) s⟩

theorem below_two {W w : World} {B C : Nat} (h : Below W.heap.size W w) (hB : W.heap.size ≤ B) (hC : W.heap.size ≤ C) (r s : Rc) : Below W.heap.size W (put4 (put4 w B r) C s) :=
  (h.trans ((Below.stored r).mono hB)).trans ((Below.stored s).mono hC)

end Go.Proofs.Ytcnamgjapcnemaa
