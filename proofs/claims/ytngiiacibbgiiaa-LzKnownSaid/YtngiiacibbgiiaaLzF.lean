/- lz's stood: for each place, how far ahead its three bytes stood last. -/
import Derived.Test.YtngiiacibbgiiaaLzMap
namespace Go.Proofs.Ytngiiacibbgiiaa
open Go.RowKit Go.Maps

def hv (x : Nat) : Value := .int .u16 (x : Int)
theorem flatH : ∀ l : List Nat, l.flatMap encH = l.map hv
  | [] => rfl
  | b :: r => by rw [List.flatMap_cons, flatH r]; rfl
theorem half_info : (Try.prog.info? 33).map (fun i => (i.zero, i.size, i.bytes)) = some (some (.int .u16 0), 1, 2) := by kernel_rfl
def hZ (n : Nat) : Array Value := ((List.replicate n 0).map hv).toArray
theorem made_half (n : Nat) : madeCells #[Value.int .u16 0] n = hZ n := by
  unfold hZ
  refine Array.ext (by simp [size_madeCells]) (fun i h1 h2 => ?_)
  simp [madeCells, Nat.mod_one, hv]
theorem make_half (n : Nat) (hn : n ≤ 1048576) (w : World) : (Instr.makeSlice 38 (.int .i64 (n : Int)) (.int .i64 (n : Int))).run Try.prog w = .ok (.slice (some ⟨w.heap.size, 0, none⟩) n n) (w.alloc (.cells (hZ n) 33)) := by
  obtain ⟨i, hi, hz, hs, hb⟩ := info_parts half_info
  have h := run_make (P := Try.prog) w 38 33 i _ Try.underlying38 hi hz .i64 .i64 (n : Int) (n : Int) (by omega) (Int.le_refl _) (by rw [hb]; omega) (by omega)
  rw [h]
  simp only [Int.toNat_natCast, hs, Nat.mul_one]
  rw [show (Value.int IntKind.u16 0).cells = #[Value.int .u16 0] from rfl, made_half]
theorem max_lz (ts : Array TypeId) (t : TypeId) (k k' : IntKind) (x y : Int) (w : World) : (Builtin.max_ ts t #[.int k x, .int k' y]).run Try.prog w = .ok (.int k (max x y)) w := by
  rw [run_max_int2]; congr 2; split <;> omega

theorem set_map_hv (A : List Nat) (k h : Nat) : (A.map hv).set k (.int .u16 (h : Int)) = (A.set k h).map hv := (List.map_set (f := hv)).symm
theorem fb_set_same {A : List Nat} {k h : Nat} (hk : k < A.length) : fb (A.set k h) k = h := by simp [fb, List.getD_eq_getElem?_getD, hk]
theorem fb_set_ne {A : List Nat} {k h p : Nat} (hp : p ≠ k) : fb (A.set k h) p = fb A p := by
  simp [fb, List.getD_eq_getElem?_getD, List.getElem?_set_ne (Ne.symm hp)]

/-- What stood holds ahead of a place. -/
structure StJ (w0 : World) (vb : Value) (l : List Nat) (N k : Nat) (w : World) : Prop where
  ex : ∃ (A : List Nat) (F : Nat × Nat × Nat → Option Nat), A.length = N ∧ w.ownsRow (w0.heap.size + 1) 33 1 (.slice (some ⟨w0.heap.size + 1, 0, none⟩) N N) N (A.map hv) ∧ (∀ p, p < k → IsAhead (fb l) p (fb A p)) ∧ (∀ p, k ≤ p → fb A p = 0) ∧ LastF (fb l) k F ∧ Map3 w w0.heap.size k F
  row : Row enc8 1 w vb l
  below : Below w0.heap.size w0 w

theorem StJ.step {w0 : World} {vb : Value} {l : List Nat} {N k h : Nat} {w w1 w2 w3 : World} {A : List Nat} {F : Nat × Nat × Nat → Option Nat} (hvb : ∀ b, vb.ownBlock = some b → b < w0.heap.size)
    (hA : A.length = N) (hk : k < N) (hown : w.ownsRow (w0.heap.size + 1) 33 1 (.slice (some ⟨w0.heap.size + 1, 0, none⟩) N N) N (A.map hv)) (h1 : ∀ p, p < k → IsAhead (fb l) p (fb A p)) (h2 : ∀ p, k ≤ p → fb A p = 0) (h3 : LastF (fb l) k F)
    (hrow : Row enc8 1 w vb l) (hb : Below w0.heap.size w0 w) (hb1 : Below w.heap.size w w1) (hst : (h = 0 ∧ w2 = w1) ∨ w2 = w1.setCell ⟨w0.heap.size + 1, k, none⟩ (.int .u16 (h : Int))) (hh : h = hopOf F (fb l) k)
    (hm : Map3 w3 w0.heap.size (k + 1) (fun k' => if k' = (fb l k, fb l (k + 1), fb l (k + 2)) then some k else F k')) (ht : Turns (fun i => i = w0.heap.size) w2 w3) : StJ w0 vb l N (k + 1) w3 := by
  have ho1 := (Turns.of_below' (T := fun _ => False) hb1).owns hown (fun _ _ h => h)
  have ht1 : Turns (fun i => i = w0.heap.size + 1) w1 w2 := by
    rcases hst with ⟨-, rfl⟩ | rfl
    · exact Turns.refl _ _
    · exact Turns.set (T := fun i => i = w0.heap.size + 1) (Turns.refl _ _) (p := ⟨w0.heap.size + 1, k, none⟩) rfl _
  have hset : A.set k h = A.set k (hopOf F (fb l) k) := by rw [hh]
  have ho2 : w2.ownsRow (w0.heap.size + 1) 33 1 (.slice (some ⟨w0.heap.size + 1, 0, none⟩) N N) N ((A.set k h).map hv) := by
    rcases hst with ⟨e, rfl⟩ | rfl
    · have : A.set k h = A := by
        refine List.ext_getElem (by simp) (fun i i1 i2 => ?_)
        by_cases e' : i = k
        · subst e'
          have := h2 i (Nat.le_refl _)
          rw [fb_at (by omega)] at this
          simp [e, this]
        · rw [List.getElem_set_ne (fun h => e' h.symm)]
      rw [this]; exact ho1
    · have := owns_setCell ho1 k (.int .u16 (h : Int))
      rwa [set_map_hv] at this
  have ho3 := ht.owns ho2 (fun b hb e => by cases hb; simp at e)
  have hbw1 := Below.thn hb hb1
  have hbw2 := hbw1.trans (ht1.below hbw1.size (fun i hi => by omega))
  have hbw3 := hbw2.trans (ht.below hbw2.size (fun i hi => by omega))
  refine ⟨⟨A.set k h, _, by simpa using hA, ho3, fun p hp => ?_, fun p hp => ?_, h3.put, hm⟩, ?_, hbw3⟩
  · by_cases e : p = k
    · subst e
      rw [fb_set_same (by omega), hh]
      exact h3.hop
    · rw [fb_set_ne e]; exact h1 p (by omega)
  · rw [fb_set_ne (by omega)]; exact h2 p (by omega)
  · refine ((hrow.below hb1).turns ht1 (fun b hb e => ?_)).turns ht (fun b hb e => ?_)
    · have := hvb b hb; omega
    · have := hvb b hb; omega

end Go.Proofs.Ytngiiacibbgiiaa
