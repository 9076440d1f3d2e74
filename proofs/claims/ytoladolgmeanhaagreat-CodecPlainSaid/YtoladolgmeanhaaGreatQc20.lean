/- Several texts in one, each with its own head. -/
import Derived.Test.YtoladolgmeanhaaGreatQc19
import Derived.Test.YtoladolgmeanhaaGreatQc18
/- lz's search: match, next, rarest, size, mayBe. -/
namespace Go.Proofs.YtoladolgmeanhaaGreat
open Go.RowKit

def encH (x : Nat) : List Value := [.int .u16 (x : Int)]
theorem encH_len (x : Nat) : (encH x).length = 1 := rfl
theorem RowAt.half {W : World} {p : Option Addr} {xs : List Nat} (h : RowAt encH 1 W p xs) {k : Nat} (hk : k < xs.length) : ∃ b off, p = some ⟨b, off, none⟩ ∧ W.cell? ⟨b, off + k, none⟩ = some (.int .u16 (fb xs k : Int)) := by
  rcases h with ⟨-, rfl⟩ | ⟨b, off, rfl, -, h⟩
  · simp at hk
  · refine ⟨b, off, rfl, ?_⟩
    have := h k xs[k] (List.getElem?_eq_getElem hk) 0 _ rfl
    rw [fb_at hk]
    simpa using this
theorem RowAt.byteF {W : World} {p : Option Addr} {xs : List Nat} (h : RowAt enc8 1 W p xs) {k : Nat} (hk : k < xs.length) : ∃ b off, p = some ⟨b, off, none⟩ ∧ W.cell? ⟨b, off + k, none⟩ = some (.int .u8 (fb xs k : Int)) := h.byte hk
set_option maxRecDepth 20000 in
set_option maxHeartbeats 1000000 in
theorem srMatch_any (l : List Nat) (vb va : Value) (a d m : Nat) (w : World) (hv : Row enc8 1 w vb l) (hva : ∃ p n c, va = .slice p n c) (h1 : 1 ≤ d) (hd : d ≤ a) (hm : a + m ≤ l.length) (hl : l.length ≤ 1048576) :
    Calls Tryz.prog 75 #[.agg #[vb, va], .int .i64 (a : Int), .int .i64 (d : Int), .int .i64 (m : Int)] w fun e w' => ∃ n : Nat, e = .returned (.int .i64 (n : Int)) ∧ IsRun (fb l) a d m n ∧ Below w.heap.size w w' := by
  obtain ⟨p, c, rfl, -, -, hrow⟩ := hv
  obtain ⟨pa, na, ca, rfl⟩ := hva
  have Hrow := Lib.hid hrow
  clear hrow
  obtain ⟨W, hW⟩ : ∃ W, w.alloc (.cells #[.slice p l.length c, .slice pa na ca] 69) = W := ⟨_, rfl⟩
  have hb0 : Below w.heap.size w W := by rw [← hW]; exact Below.al1 w _
  have hc0 : W.cell? ⟨w.heap.size, 0, none⟩ = some (.slice p l.length c) := by rw [← hW]; exact cell_at rfl rfl
  have Hb0 := Lib.hid hb0
  have Hc0 := Lib.hid hc0
  have HW := Lib.hid hW
  clear hb0 hc0 hW
  go_enter Tryz.func75, Tryz.ntmps75
  go_wp2
  rw [HW.out]
  go_loopw [9] (fun nv wr => ∃ n : Nat, nv = .int .i64 (n : Int) ∧ n ≤ m ∧ Hid (∀ j, j < n → fb l (a + j) = fb l (a + j - d)) ∧ Hid (Below W.heap.size W wr)) (fun nv _ => m - (intOf nv).toNat)
  case atStart => exact ⟨0, rfl, Nat.zero_le _, Lib.hid fun j h => by omega, Lib.hid (Below.refl _ _)⟩
  case round =>
    obtain ⟨n, rfl, hn, HN, HB⟩ := hrel
    have c0 := cell_later HB.out Hc0.out
    by_cases hlt : n < m
    · have d0 : decide ((n : Int) < (m : Int)) = true := by simp; omega
      have hBw := Below.thn Hb0.out HB.out
      obtain ⟨s, hs⟩ : ∃ s, a + n = s := ⟨_, rfl⟩
      obtain ⟨t, ht⟩ : ∃ t, s - d = t := ⟨_, rfl⟩
      obtain ⟨g, off, rfl, hx⟩ := Hrow.out.byteF (k := s) (by omega)
      obtain ⟨g', off', e, hy⟩ := Hrow.out.byteF (k := t) (by omega)
      cases e
      have hx := cell_later hBw hx
      have hy := cell_later hBw hy
      have es : (a : Int) + (n : Int) = (s : Int) := by omega
      have et : (s : Int) - (d : Int) = (t : Int) := by omega
      have s0 : (0 : Int) ≤ (s : Int) := by omega
      have s1 : (s : Int) < (l.length : Int) := by omega
      have t0 : (0 : Int) ≤ (t : Int) := by omega
      have t1 : (t : Int) < (l.length : Int) := by omega
      have Hs := Lib.hid (And.intro hs ht)
      obtain ⟨x, hxx⟩ : ∃ x, fb l s = x := ⟨_, rfl⟩
      obtain ⟨y, hyy⟩ : ∃ y, fb l t = y := ⟨_, rfl⟩
      rw [hxx] at hx
      rw [hyy] at hy
      have Hxy := Lib.hid (And.intro hxx hyy)
      clear hBw hs ht hxx hyy
      by_cases hxy : x = y
      · subst hxy
        have e0 : ((x : Int) == (x : Int)) = true := by simp
        go_wp2_with fail
        go_quiet (fail)
        have hdr : Below wr.heap.size wr (wr.drewN nq) := Below.drewN' (Below.refl _ _) nq
        have HB2 := Lib.hid (Below.thn HB.out hdr)
        generalize wr.drewN nq = W2 at *
        clear hdr c0 hx hy
        go_wp2
        go_roundw
        case rel => exact ⟨n + 1, by go_num, by omega, Lib.hid fun j hj => by
          rcases Nat.lt_or_ge j n with h | h
          · exact HN.out j h
          · obtain rfl : j = n := by omega
            rw [Hs.out.1, Hs.out.2, Hxy.out.1, Hxy.out.2], HB2⟩
        case measure => simp [intOf]; omega
      · have e0 : ((x : Int) == (y : Int)) = false := by simp; omega
        go_wp2_with fail
        go_quiet (fail)
        have hdr : Below wr.heap.size wr (wr.drewN nq) := Below.drewN' (Below.refl _ _) nq
        have HB2 := Lib.hid (Below.thn (Below.thn Hb0.out HB.out) hdr)
        generalize wr.drewN nq = W2 at *
        clear hdr c0 hx hy
        go_wp2
        go_ret
        exact ⟨n, rfl, ⟨hn, HN.out, fun _ => by rw [Hs.out.1, Hs.out.2, Hxy.out.1, Hxy.out.2]; exact hxy⟩, HB2.out⟩
    · obtain rfl : n = m := by omega
      have d0 : decide ((n : Int) < (n : Int)) = false := by simp
      go_wp2_with fail
      go_quiet (fail)
      have hdr : Below wr.heap.size wr (wr.drewN nq) := Below.drewN' (Below.refl _ _) nq
      have HB2 := Lib.hid (Below.thn (Below.thn Hb0.out HB.out) hdr)
      generalize wr.drewN nq = W2 at *
      clear hdr c0
      go_wp2
      go_ret
      exact ⟨n, rfl, ⟨Nat.le_refl _, HN.out, fun h => by omega⟩, HB2.out⟩
end Go.Proofs.YtoladolgmeanhaaGreat

/- lz's search: next, rarest; size, mayBe. -/
namespace Go.Proofs.YtoladolgmeanhaaGreat
open Go.RowKit

def nextN (hop dist : Nat) : Nat := if hop = 0 ∨ 32768 < dist + hop then 0 else dist + hop
set_option maxRecDepth 20000 in
set_option maxHeartbeats 1000000 in
theorem srNext_any (A : List Nat) (vb va : Value) (fr dist : Nat) (w : World) (hva : Row encH 1 w va A) (hvb : ∃ p n c, vb = .slice p n c) (h1 : dist ≤ fr) (h2 : fr - dist < A.length) (hA : fb A (fr - dist) ≤ 32768) (hd : dist ≤ 32768) (hfr : fr ≤ 1048576) :
    Calls Tryz.prog 76 #[.agg #[vb, va], .int .i64 (fr : Int), .int .i64 (dist : Int)] w fun e w' => e = .returned (.int .i64 ((nextN (fb A (fr - dist)) dist : Nat) : Int)) ∧ Below w.heap.size w w' := by
  obtain ⟨p, c, rfl, -, -, hrow⟩ := hva
  obtain ⟨pb, nb, cb, rfl⟩ := hvb
  obtain ⟨W, hW⟩ : ∃ W, w.alloc (.cells #[.slice pb nb cb, .slice p A.length c] 69) = W := ⟨_, rfl⟩
  have hb0 : Below w.heap.size w W := by rw [← hW]; exact Below.al1 w _
  have hc0 : W.cell? ⟨w.heap.size, 1, none⟩ = some (.slice p A.length c) := by rw [← hW]; exact cell_at rfl rfl
  obtain ⟨t, ht⟩ : ∃ t, fr - dist = t := ⟨_, rfl⟩
  rw [ht] at h2 hA ⊢
  obtain ⟨g, off, rfl, hx⟩ := hrow.half h2
  have hx := cell_later hb0 hx
  obtain ⟨x, hxx⟩ : ∃ x, fb A t = x := ⟨_, rfl⟩
  rw [hxx] at hx hA ⊢
  have et : (fr : Int) - (dist : Int) = (t : Int) := by omega
  have t0 : (0 : Int) ≤ (t : Int) := by omega
  have t1 : (t : Int) < (A.length : Int) := by omega
  have Hb0 := Lib.hid hb0
  obtain ⟨z, hzz⟩ : ∃ z, dist + x = z := ⟨_, rfl⟩
  have ed : (dist : Int) + (x : Int) = (z : Int) := by omega
  have Hzz := Lib.hid hzz
  clear hb0 hrow hxx ht hzz
  subst hW
  by_cases hz : x = 0
  · have e0 : ((x : Int) == 0) = true := by simp; omega
    have hn : nextN x dist = 0 := by unfold nextN; rw [if_pos (.inl hz)]
    rw [hn]
    clear hn hz
    go_enter Tryz.func76, Tryz.ntmps76
    go_wp2
    go_ret
    exact ⟨rfl, Hb0.out⟩
  · have e0 : ((x : Int) == 0) = false := by simp; omega
    by_cases hf : 32768 < z
    · have e1 : decide ((z : Int) > 32768) = true := by simp; omega
      have hn : nextN x dist = 0 := by unfold nextN; rw [Hzz.out, if_pos (.inr hf)]
      rw [hn]
      clear hn hz
      go_enter Tryz.func76, Tryz.ntmps76
      go_wp2
      go_ret
      exact ⟨rfl, Hb0.out⟩
    · have e1 : decide ((z : Int) > 32768) = false := by simp; omega
      have hn : nextN x dist = z := by unfold nextN; rw [Hzz.out, if_neg (by omega)]
      rw [hn]
      clear hn hz
      go_enter Tryz.func76, Tryz.ntmps76
      go_wp2
      go_ret
      exact ⟨rfl, Hb0.out⟩
set_option maxRecDepth 20000 in
set_option maxHeartbeats 1000000 in
theorem srRarest_any (A : List Nat) (vb va : Value) (fr tt : Nat) (w : World) (hva : Row encH 1 w va A) (hvb : ∃ p n c, vb = .slice p n c) (h1 : fr ≤ tt) (h2 : tt < A.length) (hto : A.length ≤ 1048576) :
    Calls Tryz.prog 77 #[.agg #[vb, va], .int .i64 (fr : Int), .int .i64 (tt : Int)] w fun e w' => ∃ r : Nat, e = .returned (.int .i64 (r : Int)) ∧ fr ≤ r ∧ r ≤ tt ∧ Below w.heap.size w w' := by
  obtain ⟨p, c, rfl, -, -, hrow⟩ := hva
  obtain ⟨pb, nb, cb, rfl⟩ := hvb
  obtain ⟨W, hW⟩ : ∃ W, w.alloc (.cells #[.slice pb nb cb, .slice p A.length c] 69) = W := ⟨_, rfl⟩
  have hb0 : Below w.heap.size w W := by rw [← hW]; exact Below.al1 w _
  have hc0 : W.cell? ⟨w.heap.size, 1, none⟩ = some (.slice p A.length c) := by rw [← hW]; exact cell_at rfl rfl
  have Hb0 := Lib.hid hb0
  have Hc0 := Lib.hid hc0
  have HW := Lib.hid hW
  have Hrow := Lib.hid hrow
  clear hb0 hc0 hW hrow
  go_enter Tryz.func77, Tryz.ntmps77
  go_wp2
  rw [HW.out]
  go_loopw [7, 8] (fun rv iv wr => ∃ r i : Nat, rv = .int .i64 (r : Int) ∧ iv = .int .i64 (i : Int) ∧ fr ≤ r ∧ r ≤ tt ∧ fr ≤ i ∧ i ≤ tt + 1 ∧ Hid (Below W.heap.size W wr)) (fun _ iv _ => tt + 1 - (intOf iv).toNat)
  case atStart => exact ⟨fr, fr, rfl, rfl, Nat.le_refl _, h1, Nat.le_refl _, by omega, Lib.hid (Below.refl _ _)⟩
  case round =>
    obtain ⟨r, i, rfl, rfl, hr1, hr2, hi1, hi2, HB⟩ := hrel
    have c0 := cell_later HB.out Hc0.out
    by_cases hlt : i ≤ tt
    · have d0 : decide ((i : Int) ≤ (tt : Int)) = true := by simp; omega
      have hBw := Below.thn Hb0.out HB.out
      obtain ⟨g, off, rfl, hx⟩ := Hrow.out.half (k := i) (by omega)
      obtain ⟨g', off', e, hy⟩ := Hrow.out.half (k := r) (by omega)
      cases e
      have hx := cell_later hBw hx
      have hy := cell_later hBw hy
      have s0 : (0 : Int) ≤ (i : Int) := by omega
      have s1 : (i : Int) < (A.length : Int) := by omega
      have t0 : (0 : Int) ≤ (r : Int) := by omega
      have t1 : (r : Int) < (A.length : Int) := by omega
      generalize fb A i = x at *
      generalize fb A r = y at *
      clear hBw
      by_cases hz : x = 0
      · have e0 : ((x : Int) == 0) = true := by simp; omega
        clear hz
        go_wp2
        go_ret
        exact ⟨i, rfl, hi1, hlt, Below.thn Hb0.out HB.out⟩
      · have e0 : ((x : Int) == 0) = false := by simp; omega
        by_cases hxy : y < x
        · have e1 : decide ((x : Int) > (y : Int)) = true := by simp; omega
          go_wp2_with fail
          go_quiet (fail)
          have hdr : Below wr.heap.size wr (wr.drewN nq) := Below.drewN' (Below.refl _ _) nq
          have HB2 := Lib.hid (Below.thn HB.out hdr)
          generalize wr.drewN nq = W2 at *
          clear hdr c0 hx hy
          go_wp2
          go_roundw
          case rel => exact ⟨i, i + 1, rfl, by go_num, hi1, hlt, by omega, by omega, HB2⟩
          case measure => simp [intOf]; omega
        · have e1 : decide ((x : Int) > (y : Int)) = false := by simp; omega
          go_wp2_with fail
          go_quiet (fail)
          have hdr : Below wr.heap.size wr (wr.drewN nq) := Below.drewN' (Below.refl _ _) nq
          have HB2 := Lib.hid (Below.thn HB.out hdr)
          generalize wr.drewN nq = W2 at *
          clear hdr c0 hx hy
          go_wp2
          go_roundw
          case rel => exact ⟨r, i + 1, rfl, by go_num, hr1, hr2, by omega, by omega, HB2⟩
          case measure => simp [intOf]; omega
    · have d0 : decide ((i : Int) ≤ (tt : Int)) = false := by simp; omega
      go_wp2
      go_ret
      exact ⟨r, rfl, hr1, hr2, Below.thn Hb0.out HB.out⟩
def tkV (t : Tk) : Value := .agg #[.int .u8 (t.b : Int), .int .i64 t.n, .int .i64 t.d]
def encT (t : Tk) : List Value := [.int .u8 (t.b : Int), .int .i64 t.n, .int .i64 t.d]
theorem encT_len (t : Tk) : (encT t).length = 3 := rfl
theorem size_any (t : Tk) (w : World) (hn : t.n ≤ 1000) :
    Makes Tryz.prog 42 #[tkV t] w (.int .i64 ((t.size : Nat) : Int)) := by
  unfold Makes
  obtain ⟨b, n, d⟩ := t
  unfold tkV
  simp only at hn ⊢
  have hs : ((Tk.size ⟨b, n, d⟩ : Nat) : Int) = max n 1 := by unfold Tk.size; simp only; omega
  rw [hs]
  clear hs
  go_enter Tryz.func42, Tryz.ntmps42
  go_wp2
  all_goals
    go_ret
    exact ⟨ret_int (by omega), Below.al1 w _⟩
end Go.Proofs.YtoladolgmeanhaaGreat

/- lz's search: what its closure does. -/
namespace Go.Proofs.YtoladolgmeanhaaGreat
open Go.RowKit

theorem three_set {W : World} {B : Nat} {t : TypeId} {a b c : Value} (x y z : Value) (h : W.heap[B]? = some (.cells #[a, b, c] t)) : (((W.setCell ⟨B, 0, none⟩ x).setCell ⟨B, 1, none⟩ y).setCell ⟨B, 2, none⟩ z).heap[B]? = some (.cells #[x, y, z] t) := by
  have key : ∀ {W : World} {cs : Array Value} (i : Nat) (u : Value), W.heap[B]? = some (.cells cs t) → (W.setCell ⟨B, i, none⟩ u).heap[B]? = some (.cells (cs.setIfInBounds i u) t) := by
    intro W cs i u h
    obtain ⟨hlt, hk⟩ := Array.getElem?_eq_some_iff.1 h
    show (W.heap.modify B _)[B]? = _
    rw [Array.getElem?_eq_getElem (by rw [Array.size_modify]; exact hlt), Array.getElem_modify_self, hk]
    rfl
  have h1 := key 2 z (key 1 y (key 0 x h))
  simpa using h1
structure TkB (w : World) (S T B M : Nat) (vb va : Value) (a m bv L D : Nat) : Prop where
  s : w.heap[S]? = some (.cells #[vb, va] 69)
  at' : w.heap[T]? = some (.cells #[.int .i64 (a : Int)] 3)
  best : w.heap[B]? = some (.cells #[.int .u8 (bv : Int), .int .i64 (L : Int), .int .i64 (D : Int)] 71)
  most : w.heap[M]? = some (.cells #[.int .i64 (m : Int)] 3)
theorem TkB.turns {w w' : World} {S T B M : Nat} {vb va : Value} {a m bv L D : Nat} (h : TkB w S T B M vb va a m bv L D) {N : Nat → Prop} (ht : Turns N w w') (hS : ¬ N S) (hT : ¬ N T) (hB : ¬ N B) (hM : ¬ N M) : TkB w' S T B M vb va a m bv L D :=
  ⟨(ht.block S (lt_heap h.s) hS).trans h.s, (ht.block T (lt_heap h.at') hT).trans h.at', (ht.block B (lt_heap h.best) hB).trans h.best, (ht.block M (lt_heap h.most) hM).trans h.most⟩
theorem TkB.below {w w' : World} {S T B M : Nat} {vb va : Value} {a m bv L D : Nat} (h : TkB w S T B M vb va a m bv L D) (hb : Below w.heap.size w w') : TkB w' S T B M vb va a m bv L D :=
  h.turns (N := fun _ => False) (Turns.of_below' hb) (fun h => h) (fun h => h) (fun h => h) (fun h => h)
set_option maxRecDepth 20000 in
set_option maxHeartbeats 1000000 in
theorem longer_any (l : List Nat) (vb va : Value) (S T B M a m bv L D d : Nat) (w : World) (hw : TkB w S T B M vb va a m bv L D) (hv : Row enc8 1 w vb l) (hva : ∃ p n c, va = .slice p n c) (hb : ∀ g, vb.ownBlock = some g → g ≠ B)
    (h1 : 1 ≤ d) (hd : d ≤ a) (hm : a + m ≤ l.length) (hL : L < m) (hl : l.length ≤ 1048576) (hSB : S ≠ B) (hTB : T ≠ B) (hMB : M ≠ B) :
    Calls Tryz.prog 74 #[.int .i64 (d : Int), .pointer (some ⟨S, 0, none⟩), .pointer (some ⟨T, 0, none⟩), .pointer (some ⟨B, 0, none⟩), .pointer (some ⟨M, 0, none⟩)] w fun e w' => ∃ (r : Bool) (bv' L' D' : Nat), e = .returned (.bool r) ∧ TkB w' S T B M vb va a m bv' L' D' ∧ Turns (fun i => i = B) w w' ∧
      ((r = false ∧ bv' = bv ∧ L' = L ∧ D' = D ∧ ∀ n, IsRun (fb l) a d m n → n ≤ L) ∨ (r = true ∧ bv' = 0 ∧ D' = d ∧ L < L' ∧ IsRun (fb l) a d m L')) := by
  have Hv := Lib.hid hv
  have Hva := Lib.hid hva
  have Hw := Lib.hid hw
  have Hb := Lib.hid hb
  obtain ⟨p, c, rfl, -, -, hrow⟩ := hv
  obtain ⟨pa, na, ca, rfl⟩ := hva
  have c0 : w.cell? ⟨S, 0, none⟩ = some (.slice p l.length c) := cell_heap hw.s rfl
  have c1 : w.cell? ⟨T, 0, none⟩ = some (.int .i64 (a : Int)) := cell_heap hw.at' rfl
  have c2 : w.cell? ⟨B, 1, none⟩ = some (.int .i64 (L : Int)) := cell_heap hw.best rfl
  obtain ⟨s, hs⟩ : ∃ s, a + L = s := ⟨_, rfl⟩
  obtain ⟨t, ht⟩ : ∃ t, s - d = t := ⟨_, rfl⟩
  obtain ⟨g, off, rfl, hx⟩ := hrow.byteF (k := s) (by omega)
  obtain ⟨g', off', e, hy⟩ := hrow.byteF (k := t) (by omega)
  cases e
  have es : (a : Int) + (L : Int) = (s : Int) := by omega
  have et : (s : Int) - (d : Int) = (t : Int) := by omega
  have s0 : (0 : Int) ≤ (s : Int) := by omega
  have s1 : (s : Int) < (l.length : Int) := by omega
  have t0 : (0 : Int) ≤ (t : Int) := by omega
  have t1 : (t : Int) < (l.length : Int) := by omega
  have Hs := Lib.hid (And.intro hs ht)
  obtain ⟨x, hxx⟩ : ∃ x, fb l s = x := ⟨_, rfl⟩
  obtain ⟨y, hyy⟩ : ∃ y, fb l t = y := ⟨_, rfl⟩
  rw [hxx] at hx
  rw [hyy] at hy
  have Hxy := Lib.hid (And.intro hxx hyy)
  clear hs ht hxx hyy hrow hw hb
  by_cases hxy : x = y
  · subst hxy
    have e0 : ((x : Int) != (x : Int)) = false := by simp
    go_enter Tryz.func74, Tryz.ntmps74
    go_wp2_with fail
    go_quiet (fail)
    have hdr : Below w.heap.size w (w.drewN nq) := Below.drewN' (Below.refl _ _) nq
    have Hw2 := Lib.hid (Hw.out.below hdr)
    have Hv2 := Lib.hid (Hv.out.below hdr)
    have Hdr := Lib.hid hdr
    generalize w.drewN nq = W2 at *
    clear hdr c0 c1 c2 hx hy
    have c0 : W2.cell? ⟨S, 0, none⟩ = some (.slice (some ⟨g, off, none⟩) l.length c) := cell_heap Hw2.out.s rfl
    have c01 : W2.cell? ⟨S, 1, none⟩ = some (.slice pa na ca) := cell_heap Hw2.out.s rfl
    have c1 : W2.cell? ⟨T, 0, none⟩ = some (.int .i64 (a : Int)) := cell_heap Hw2.out.at' rfl
    have c4 : W2.cell? ⟨M, 0, none⟩ = some (.int .i64 (m : Int)) := cell_heap Hw2.out.most rfl
    go_wp2_with fail
    refine Calls.mono (srMatch_any l _ _ a d m W2 Hv2.out ⟨_, _, _, rfl⟩ h1 hd hm hl) ?_
    rintro e w3 ⟨n, rfl, hrun, hb3⟩
    have Hrun := Lib.hid hrun
    have Hw3 := Lib.hid (Hw2.out.below hb3)
    have Hb3 := Lib.hid (Below.thn Hdr.out hb3)
    clear hrun hb3 c0 c01 c1 c4
    have c2 : w3.cell? ⟨B, 1, none⟩ = some (.int .i64 (L : Int)) := cell_heap Hw3.out.best rfl
    by_cases hn : n ≤ L
    · have d0 : decide ((n : Int) ≤ (L : Int)) = true := by simp; omega
      go_wp2
      go_ret
      exact ⟨false, bv, L, D, rfl, Hw3.out, Turns.of_below' Hb3.out, .inl ⟨rfl, rfl, rfl, rfl, fun n' h => by rw [h.uniq Hrun.out]; exact hn⟩⟩
    · have d0 : decide ((n : Int) ≤ (L : Int)) = false := by simp; omega
      have f0 : w3.frozen? ⟨B, 0, none⟩ = false := by simp [World.frozen?, Hw3.out.best]
      have f1 : w3.frozen? ⟨B, 1, none⟩ = false := by simp [World.frozen?, Hw3.out.best]
      have f2 : w3.frozen? ⟨B, 2, none⟩ = false := by simp [World.frozen?, Hw3.out.best]
      have c3 : w3.cell? ⟨B, 0, none⟩ = some (.int .u8 (bv : Int)) := cell_heap Hw3.out.best rfl
      have c4 : w3.cell? ⟨B, 2, none⟩ = some (.int .i64 (D : Int)) := cell_heap Hw3.out.best rfl
      go_wp2
      go_ret
      have hset : Turns (fun i => i = B) w3 (((w3.setCell ⟨B, 0, none⟩ (.int .u8 0)).setCell ⟨B, 1, none⟩ (.int .i64 (n : Int))).setCell ⟨B, 2, none⟩ (.int .i64 (d : Int))) :=
        Turns.set (T := fun i => i = B) (Turns.set (T := fun i => i = B) (Turns.set (T := fun i => i = B) (Turns.refl _ _) (p := ⟨B, 0, none⟩) rfl _) (p := ⟨B, 1, none⟩) rfl _) (p := ⟨B, 2, none⟩) rfl _
      refine ⟨true, 0, n, d, rfl, ⟨(hset.block S (lt_heap Hw3.out.s) hSB).trans Hw3.out.s, (hset.block T (lt_heap Hw3.out.at') hTB).trans Hw3.out.at', three_set _ _ _ Hw3.out.best, (hset.block M (lt_heap Hw3.out.most) hMB).trans Hw3.out.most⟩, (Turns.of_below' Hb3.out).trans hset, .inr ⟨rfl, rfl, rfl, by omega, Hrun.out⟩⟩
  · have e0 : ((x : Int) != (y : Int)) = true := by simp; omega
    go_enter Tryz.func74, Tryz.ntmps74
    go_wp2_with fail
    go_quiet (fail)
    have hdr : Below w.heap.size w (w.drewN nq) := Below.drewN' (Below.refl _ _) nq
    have Hw2 := Lib.hid (Hw.out.below hdr)
    have Hdr := Lib.hid hdr
    generalize w.drewN nq = W2 at *
    clear hdr c0 c1 c2 hx hy
    go_wp2
    go_ret
    refine ⟨false, bv, L, D, rfl, Hw2.out, Turns.of_below' Hdr.out, .inl ⟨rfl, rfl, rfl, rfl, fun n h => h.lt ?_⟩⟩
    rw [Hs.out.1, Hs.out.2, Hxy.out.1, Hxy.out.2]; exact hxy
end Go.Proofs.YtoladolgmeanhaaGreat
