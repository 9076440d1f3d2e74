/- lz's search: what its closure does. -/
import Derived.Test.YtngiiacibbgiiaaLzC
namespace Go.Proofs.Ytngiiacibbgiiaa
open Go.RowKit

theorem three_set {W : World} {B : Nat} {t : TypeId} {a b c : Value} (x y z : Value) (h : W.heap[B]? = some (.cells #[a, b, c] t)) : (((W.setCell ⟨B, 0, none⟩ x).setCell ⟨B, 1, none⟩ y).setCell ⟨B, 2, none⟩ z).heap[B]? = some (.cells #[x, y, z] t) := by
  have key : ∀ {W : World} {cs : Array Value} (i : Nat) (u : Value), W.heap[B]? = some (.cells cs t) → (W.setCell ⟨B, i, none⟩ u).heap[B]? = some (.cells (cs.setIfInBounds i u) t) := by
    intro W cs i u h
    obtain ⟨hlt, hk⟩ := Array.getElem?_eq_some_iff.1 h
    show (W.heap.modify B _)[B]? = _
    rw [Array.getElem?_eq_getElem (by rw [Array.size_modify]; exact hlt), Array.getElem_modify_self, hk]
    rfl
  have h1 := key 2 z (key 1 y (key 0 x h))
  simpa using h1

/-- The four boxes of token's closure. -/
structure TkB (w : World) (S T B M : Nat) (vb va : Value) (a m bv L D : Nat) : Prop where
  s : w.heap[S]? = some (.cells #[vb, va] 41)
  at' : w.heap[T]? = some (.cells #[.int .i64 (a : Int)] 3)
  best : w.heap[B]? = some (.cells #[.int .u8 (bv : Int), .int .i64 (L : Int), .int .i64 (D : Int)] 26)
  most : w.heap[M]? = some (.cells #[.int .i64 (m : Int)] 3)
theorem TkB.turns {w w' : World} {S T B M : Nat} {vb va : Value} {a m bv L D : Nat} (h : TkB w S T B M vb va a m bv L D) {N : Nat → Prop} (ht : Turns N w w') (hS : ¬ N S) (hT : ¬ N T) (hB : ¬ N B) (hM : ¬ N M) : TkB w' S T B M vb va a m bv L D :=
  ⟨(ht.block S (lt_heap h.s) hS).trans h.s, (ht.block T (lt_heap h.at') hT).trans h.at', (ht.block B (lt_heap h.best) hB).trans h.best, (ht.block M (lt_heap h.most) hM).trans h.most⟩
theorem TkB.below {w w' : World} {S T B M : Nat} {vb va : Value} {a m bv L D : Nat} (h : TkB w S T B M vb va a m bv L D) (hb : Below w.heap.size w w') : TkB w' S T B M vb va a m bv L D :=
  h.turns (N := fun _ => False) (Turns.of_below' hb) (fun h => h) (fun h => h) (fun h => h) (fun h => h)

set_option maxRecDepth 20000 in
set_option maxHeartbeats 1000000 in
theorem longer_any (l : List Nat) (vb va : Value) (S T B M a m bv L D d : Nat) (w : World) (hw : TkB w S T B M vb va a m bv L D) (hv : Row enc8 1 w vb l) (hva : ∃ p n c, va = .slice p n c) (hb : ∀ g, vb.ownBlock = some g → g ≠ B)
    (h1 : 1 ≤ d) (hd : d ≤ a) (hm : a + m ≤ l.length) (hL : L < m) (hl : l.length ≤ 1048576) (hSB : S ≠ B) (hTB : T ≠ B) (hMB : M ≠ B) :
    Calls Try.prog 21 #[.int .i64 (d : Int), .pointer (some ⟨S, 0, none⟩), .pointer (some ⟨T, 0, none⟩), .pointer (some ⟨B, 0, none⟩), .pointer (some ⟨M, 0, none⟩)] w fun e w' => ∃ (r : Bool) (bv' L' D' : Nat), e = .returned (.bool r) ∧ TkB w' S T B M vb va a m bv' L' D' ∧ Turns (fun i => i = B) w w' ∧
      ((r = false ∧ bv' = bv ∧ L' = L ∧ D' = D ∧ ∀ n, IsRun (fb l) a d m n → n ≤ L) ∨ (r = true ∧ bv' = 0 ∧ D' = d ∧ L < L' ∧ IsRun (fb l) a d m L')) := by
  have Hv := Lib.hid hv
  have Hva := Lib.hid hva
  have Hw := Lib.hid hw
  have Hb := Lib.hid hb
  obtain ⟨p, c, rfl, -, -, hrow⟩ := hv
  obtain ⟨pa, na, ca, rfl⟩ := hva
  have c0 : w.cell? ⟨S, 0, none⟩ = some (.slice p l.length c) := cell_heap hw.s rfl
  have c1 : w.cell? ⟨T, 0, none⟩ = some (.int .i64 (a : Int)) := cell_heap hw.at' rfl
  have c2 : w.cell? ⟨B, 1, none⟩ = some (.int .i64 (L : Int)) := cell_heap hw.best rfl
  obtain ⟨s, hs⟩ : ∃ s, a + L = s := ⟨_, rfl⟩
  obtain ⟨t, ht⟩ : ∃ t, s - d = t := ⟨_, rfl⟩
  obtain ⟨g, off, rfl, hx⟩ := hrow.byteF (k := s) (by omega)
  obtain ⟨g', off', e, hy⟩ := hrow.byteF (k := t) (by omega)
  cases e
  have es : (a : Int) + (L : Int) = (s : Int) := by omega
  have et : (s : Int) - (d : Int) = (t : Int) := by omega
  have s0 : (0 : Int) ≤ (s : Int) := by omega
  have s1 : (s : Int) < (l.length : Int) := by omega
  have t0 : (0 : Int) ≤ (t : Int) := by omega
  have t1 : (t : Int) < (l.length : Int) := by omega
  have Hs := Lib.hid (And.intro hs ht)
  obtain ⟨x, hxx⟩ : ∃ x, fb l s = x := ⟨_, rfl⟩
  obtain ⟨y, hyy⟩ : ∃ y, fb l t = y := ⟨_, rfl⟩
  rw [hxx] at hx
  rw [hyy] at hy
  have Hxy := Lib.hid (And.intro hxx hyy)
  clear hs ht hxx hyy hrow hw hb
  by_cases hxy : x = y
  · subst hxy
    have e0 : ((x : Int) != (x : Int)) = false := by simp
    go_enter Try.func21, Try.ntmps21
    go_wp2_with fail
    go_quiet (fail)
    have hdr : Below w.heap.size w (w.drewN nq) := Below.drewN' (Below.refl _ _) nq
    have Hw2 := Lib.hid (Hw.out.below hdr)
    have Hv2 := Lib.hid (Hv.out.below hdr)
    have Hdr := Lib.hid hdr
    generalize w.drewN nq = W2 at *
    clear hdr c0 c1 c2 hx hy
    have c0 : W2.cell? ⟨S, 0, none⟩ = some (.slice (some ⟨g, off, none⟩) l.length c) := cell_heap Hw2.out.s rfl
    have c01 : W2.cell? ⟨S, 1, none⟩ = some (.slice pa na ca) := cell_heap Hw2.out.s rfl
    have c1 : W2.cell? ⟨T, 0, none⟩ = some (.int .i64 (a : Int)) := cell_heap Hw2.out.at' rfl
    have c4 : W2.cell? ⟨M, 0, none⟩ = some (.int .i64 (m : Int)) := cell_heap Hw2.out.most rfl
    go_wp2_with fail
    refine Calls.mono (srMatch_any l _ _ a d m W2 Hv2.out ⟨_, _, _, rfl⟩ h1 hd hm hl) ?_
    rintro e w3 ⟨n, rfl, hrun, hb3⟩
    have Hrun := Lib.hid hrun
    have Hw3 := Lib.hid (Hw2.out.below hb3)
    have Hb3 := Lib.hid (Below.thn Hdr.out hb3)
    clear hrun hb3 c0 c01 c1 c4
    have c2 : w3.cell? ⟨B, 1, none⟩ = some (.int .i64 (L : Int)) := cell_heap Hw3.out.best rfl
    by_cases hn : n ≤ L
    · have d0 : decide ((n : Int) ≤ (L : Int)) = true := by simp; omega
      go_wp2
      go_ret
      exact ⟨false, bv, L, D, rfl, Hw3.out, Turns.of_below' Hb3.out, .inl ⟨rfl, rfl, rfl, rfl, fun n' h => by rw [h.uniq Hrun.out]; exact hn⟩⟩
    · have d0 : decide ((n : Int) ≤ (L : Int)) = false := by simp; omega
      have f0 : w3.frozen? ⟨B, 0, none⟩ = false := by simp [World.frozen?, Hw3.out.best]
      have f1 : w3.frozen? ⟨B, 1, none⟩ = false := by simp [World.frozen?, Hw3.out.best]
      have f2 : w3.frozen? ⟨B, 2, none⟩ = false := by simp [World.frozen?, Hw3.out.best]
      have c3 : w3.cell? ⟨B, 0, none⟩ = some (.int .u8 (bv : Int)) := cell_heap Hw3.out.best rfl
      have c4 : w3.cell? ⟨B, 2, none⟩ = some (.int .i64 (D : Int)) := cell_heap Hw3.out.best rfl
      go_wp2
      go_ret
      have hset : Turns (fun i => i = B) w3 (((w3.setCell ⟨B, 0, none⟩ (.int .u8 0)).setCell ⟨B, 1, none⟩ (.int .i64 (n : Int))).setCell ⟨B, 2, none⟩ (.int .i64 (d : Int))) :=
        Turns.set (T := fun i => i = B) (Turns.set (T := fun i => i = B) (Turns.set (T := fun i => i = B) (Turns.refl _ _) (p := ⟨B, 0, none⟩) rfl _) (p := ⟨B, 1, none⟩) rfl _) (p := ⟨B, 2, none⟩) rfl _
      refine ⟨true, 0, n, d, rfl, ⟨(hset.block S (lt_heap Hw3.out.s) hSB).trans Hw3.out.s, (hset.block T (lt_heap Hw3.out.at') hTB).trans Hw3.out.at', three_set _ _ _ Hw3.out.best, (hset.block M (lt_heap Hw3.out.most) hMB).trans Hw3.out.most⟩, (Turns.of_below' Hb3.out).trans hset, .inr ⟨rfl, rfl, rfl, by omega, Hrun.out⟩⟩
  · have e0 : ((x : Int) != (y : Int)) = true := by simp; omega
    go_enter Try.func21, Try.ntmps21
    go_wp2_with fail
    go_quiet (fail)
    have hdr : Below w.heap.size w (w.drewN nq) := Below.drewN' (Below.refl _ _) nq
    have Hw2 := Lib.hid (Hw.out.below hdr)
    have Hdr := Lib.hid hdr
    generalize w.drewN nq = W2 at *
    clear hdr c0 c1 c2 hx hy
    go_wp2
    go_ret
    refine ⟨false, bv, L, D, rfl, Hw2.out, Turns.of_below' Hdr.out, .inl ⟨rfl, rfl, rfl, rfl, fun n h => h.lt ?_⟩⟩
    rw [Hs.out.1, Hs.out.2, Hxy.out.1, Hxy.out.2]; exact hxy

end Go.Proofs.Ytngiiacibbgiiaa
