/- Several texts in one, each with its own head. -/
import Derived.Test.YtoladolgmeanhaaGreatRP1
import Derived.Laws.Tables
namespace Go.Proofs.YtoladolgmeanhaaGreat
open Go.RowKit
attribute [local go_sem] Oper.semAt_some
theorem DcE.yes {kd : Nat} {wd ht : Int} {b : List Nat} {base n : Nat} {L : List Nat} {e : Ending} {w' : World} (h : DcE kd wd ht b base e w') (hm : cdM wd ht n) (hk : 1 ≤ kd ∧ kd ≤ 4) (hC : CdR kd b n (some L)) :
    ∃ p c, e = .returned (.tuple #[.agg #[.int .i64 wd, .int .i64 ht, .slice p L.length c], .int .i64 0]) ∧ w'.ownsRow base 41 1 (.slice p L.length c) L.length (L.map pxv) := by
  rcases h with ⟨h, -⟩ | ⟨-, h, -⟩ | ⟨-, -, q, r, hq, hC', hr⟩
  · exact absurd ⟨hm.1, hm.2.1, hm.2.2.1, hm.2.2.2.1⟩ h
  · exact absurd hk h
  · obtain rfl : q = n := by have := hm.2.2.2.2; omega
    obtain rfl := hC.det hC'
    rcases hr with ⟨h, -⟩ | ⟨L', v, e', rfl, ho⟩
    · cases h
    · cases e'
      obtain ⟨p, c, rfl⟩ := owns_slice ho
      exact ⟨p, c, rfl, ho⟩
theorem DcE.no {kd : Nat} {wd ht : Int} {b : List Nat} {base n : Nat} {e : Ending} {w' : World} (h : DcE kd wd ht b base e w') (hm : cdM wd ht n) (hk : 1 ≤ kd ∧ kd ≤ 4) (hC : CdR kd b n none) :
    e = .returned (.tuple #[.agg #[.int .i64 0, .int .i64 0, .slice none 0 0], .int .i64 131]) := by
  rcases h with ⟨h, -⟩ | ⟨-, h, -⟩ | ⟨-, -, q, r, hq, hC', hr⟩
  · exact absurd ⟨hm.1, hm.2.1, hm.2.2.1, hm.2.2.2.1⟩ h
  · exact absurd hk h
  · obtain rfl : q = n := by have := hm.2.2.2.2; omega
    obtain rfl := hC.det hC'
    rcases hr with ⟨-, h⟩ | ⟨L', v, e', -, -⟩
    · exact h
    · cases e'
theorem tells_w {w0 : World} : ∀ W, Below w0.heap.size w0 W → Calls Tryz.prog 15 #[] W fun e w' => e = .returned (.bool true) ∧ Below w0.heap.size w0 w' := fun W hW =>
  Calls.mono (ctells_law W) (by
    rintro _ w' ⟨rfl, hb⟩
    exact ⟨rfl, Below.thn hW hb⟩)
theorem cut_w {w0 : World} {wd ht : Int} {p : Option Addr} {n c : Nat} {l : List Nat} (hv : Row encP 1 w0 (.slice p n c) l) (hl : n ≤ 1048576) : ∀ W, Below w0.heap.size w0 W →
    Calls Tryz.prog 19 #[.agg #[.int .i64 wd, .int .i64 ht, .slice p n c]] W fun e w' => ∃ p' c', e = .returned (.agg #[.int .i64 wd, .int .i64 ht, .slice p' n c']) ∧ Below w0.heap.size w0 w' ∧ Below W.heap.size W w' ∧ ∀ W', Below w'.heap.size w' W' → Row encP 1 W' (.slice p' n c') (l.map rlw) := fun W hW => by
  obtain rfl := hv.lenR
  refine Calls.mono (ccut_any wd ht p c l W (hv.below hW).at'.1 hl) ?_
  rintro _ w' ⟨v, rfl, ho, hb⟩
  rw [List.length_map] at ho
  obtain ⟨p', c', rfl⟩ := owns_slice ho
  exact ⟨p', c', rfl, Below.thn hW hb, hb, fun W' hW' => (own_rowP ho).below hW'⟩
end Go.Proofs.YtoladolgmeanhaaGreat

namespace Go.Proofs.YtoladolgmeanhaaGreat
open Go.RowKit
section
variable {P : Program} {ops : Array Oper} {C : World → Prop}
theorem ChC_alloc {E : (World → Prop) → Act → Prop} {Kn : World → Prop} {a : Act} {o : Oper} {rest : List Oper} (hgd : o.guard = none) (Z : Nat) (ob : Obj)
    (hrun : ∀ w, (execOp a.eval o).run P w = .ok (.value (.pointer (some ⟨w.heap.size, 0, none⟩))) (w.alloc ob)) (hC : StaysC C) (hK : StaysC Kn) (hZ : ∀ w, C w → Z ≤ w.heap.size)
    (h : ∀ v, ChC P C E rest (fun w => Kn w ∧ ∃ B, v = .pointer (some ⟨B, 0, none⟩) ∧ Z ≤ B ∧ w.heap[B]? = some ob) (a.put o.dst v)) : ChC P C E (o :: rest) Kn a := by
  refine ⟨hgd, fun v w => Kn w ∧ ∃ B, v = .pointer (some ⟨B, 0, none⟩) ∧ Z ≤ B ∧ w.heap[B]? = some ob, fun v w w' hk hb => ?_, fun w hw hk => ?_, h⟩
  · obtain ⟨k, B, e1, e0, e2⟩ := hk
    exact ⟨hK _ _ k hb, B, e1, e0, (hb.block B (((Array.getElem?_eq_some_iff.1 e2).1))).trans e2⟩
  · rw [hrun w]
    exact ⟨hC _ _ hw (Below.al1 w _), hK _ _ hk (Below.al1 w _), _, rfl, hZ w hw, World.alloc_heap_new w _⟩
theorem ChC_storeRow {E : (World → Prop) → Act → Prop} {Kn : World → Prop} {a : Act} {o : Oper} {rest : List Oper} (hgd : o.guard = none) (ty : TypeId) (x y : Operand) (ho : o.op = .store ty x y) (hd : o.dst = none)
    (pv : Value) (cells : Array Value) (hx : a.eval x = pv) (hy : a.eval y = .agg cells) (t : TypeId) (Z : Nat) (old : Array Value)
    (hKn : ∀ w, Kn w → ∃ B, pv = .pointer (some ⟨B, 0, none⟩) ∧ Z ≤ B ∧ w.heap[B]? = some (.cells old t (0, 0))) (hi : (P.info? ty).map (·.size) = some cells.size) (hold : old.size = cells.size) (h1 : cells.all (·.oneCell') = true)
    (hC : ∀ w B, C w → Z ≤ B → B < w.heap.size → C (w.setRow B cells))
    (h : ChC P C E rest (fun w => ∃ B, pv = .pointer (some ⟨B, 0, none⟩) ∧ Z ≤ B ∧ w.heap[B]? = some (.cells cells t (0, 0))) a) : ChC P C E (o :: rest) Kn a := by
  refine ⟨hgd, fun _ w => ∃ B, pv = .pointer (some ⟨B, 0, none⟩) ∧ Z ≤ B ∧ w.heap[B]? = some (.cells cells t (0, 0)), fun v w w' hk hb => ?_, fun w hw hk => ?_, fun v => ?_⟩
  · obtain ⟨B, e1, e0, e2⟩ := hk
    exact ⟨B, e1, e0, (hb.block B (((Array.getElem?_eq_some_iff.1 e2).1))).trans e2⟩
  · obtain ⟨B, e1, e0, e2⟩ := hKn w hk
    have hrun : (execOp a.eval o).run P w = .ok .skip (w.setRow B cells) := by
      unfold execOp
      simp only [ho, hx, hy, e1, Instr.storeAt, Instr.sureAddr, Sem.run_bind, Sem.run_pure, Result.andThen_ok, run_storeVar_row w B t ty old cells e2 hi hold h1]
    rw [hrun]
    exact ⟨hC w B hw e0 (Array.getElem?_eq_some_iff.1 e2).1, B, e1, e0, setRow_heap _ _ _ _ _ _ e2⟩
  · rw [hd]
    exact h
end
end Go.Proofs.YtoladolgmeanhaaGreat
