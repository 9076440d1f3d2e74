/- region's Bounds: the least rectangle of all. -/
import Derived.Test.YtjgbelljijhfcaaMathG
import Derived.Test.YtjgbelljijhfcaaRectD
namespace Go.Proofs.Ytjgbelljijhfcaa
open Go.RowKit

/-- Block B is a rectangle's four cells. -/
def Rc4 (w : World) (B : Nat) (r : Rc) : Prop := w.heap[B]? = some (.cells #[.int .i64 r.x, .int .i64 r.y, .int .i64 r.a, .int .i64 r.b] 30)

theorem Rc4.lt {w : World} {B : Nat} {r : Rc} (h : Rc4 w B r) : B < w.heap.size := (Array.getElem?_eq_some_iff.1 h).1
theorem Rc4.lies {w : World} {B : Nat} {r : Rc} (h : Rc4 w B r) : Lies w B r := by
  unfold Rc4 at h
  refine ⟨?_, ?_, ?_, ?_⟩ <;> simp [World.cell?, h]
theorem Rc4.free {w : World} {B : Nat} {r : Rc} (h : Rc4 w B r) (i : Nat) : w.frozen? ⟨B, i, none⟩ = false := by
  unfold Rc4 at h
  simp [World.frozen?, h]
theorem Rc4.later {w w1 : World} {B : Nat} {r : Rc} (h : Rc4 w B r) (hb : Below w.heap.size w w1) : Rc4 w1 B r := (hb.block B h.lt).trans h

theorem four_set {W : World} {B : Nat} {t : TypeId} {a b c d : Value} (a' b' c' d' : Value) (h : W.heap[B]? = some (.cells #[a, b, c, d] t)) :
    ((((W.setCell ⟨B, 0, none⟩ a').setCell ⟨B, 1, none⟩ b').setCell ⟨B, 2, none⟩ c').setCell ⟨B, 3, none⟩ d').heap[B]? = some (.cells #[a', b', c', d'] t) := by
  have one : ∀ (W : World) (i : Nat) (l : Array Value) (u : Value), W.heap[B]? = some (.cells l t) → (W.setCell ⟨B, i, none⟩ u).heap[B]? = some (.cells (l.setIfInBounds i u) t) := by
    intro W i l u h
    obtain ⟨hlt, hk⟩ := Array.getElem?_eq_some_iff.1 h
    show (W.heap.modify B _)[B]? = _
    rw [Array.getElem?_eq_getElem (by rw [Array.size_modify]; exact hlt), Array.getElem_modify_self, hk]
    rfl
  have := one _ 3 _ d' (one _ 2 _ c' (one _ 1 _ b' (one _ 0 _ a' h)))
  simpa using this

theorem Rc4.set {w : World} {B : Nat} {r : Rc} (h : Rc4 w B r) (s : Rc) : Rc4 ((((w.setCell ⟨B, 0, none⟩ (.int .i64 s.x)).setCell ⟨B, 1, none⟩ (.int .i64 s.y)).setCell ⟨B, 2, none⟩ (.int .i64 s.a)).setCell ⟨B, 3, none⟩ (.int .i64 s.b)) B s := four_set _ _ _ _ h

theorem Rc4.other {w : World} {B C : Nat} {r : Rc} (h : Rc4 w B r) (s : Rc) (hne : B ≠ C) : Rc4 ((((w.setCell ⟨C, 0, none⟩ (.int .i64 s.x)).setCell ⟨C, 1, none⟩ (.int .i64 s.y)).setCell ⟨C, 2, none⟩ (.int .i64 s.a)).setCell ⟨C, 3, none⟩ (.int .i64 s.b)) B r := by
  unfold Rc4 at h ⊢
  rw [Below.heap_setCell _ _ _ _ (fun e => hne e), Below.heap_setCell _ _ _ _ (fun e => hne e), Below.heap_setCell _ _ _ _ (fun e => hne e), Below.heap_setCell _ _ _ _ (fun e => hne e)]
  exact h

theorem bounds_take (l : List Rc) (k : Nat) (h : k < l.length) : boundsL (l.take (k + 1)) = orR (boundsL (l.take k)) l[k] := by
  rw [List.take_succ_eq_append_getElem h, boundsL, List.foldl_append]; rfl

set_option maxHeartbeats 1000000 in
theorem bounds_any (v : Value) (xs : List Rc) (w : World) (hv : Row encR 4 w v xs) (hf : ∀ r ∈ xs, Fit r) : Makes Try.prog 23 #[v] w (RV (boundsL xs)) := by
  unfold Makes
  have hn := hv.len
  obtain ⟨p, cap, rfl, -, -, hp⟩ := hv
  have Hf := Lib.hid hf
  clear hf
  go_enter Try.func23, Try.ntmps23
  go_wp2
  go_loopw [8] (fun i wr => ∃ k : Nat, k ≤ xs.length ∧ i = .int .i64 k ∧ Below w.heap.size w wr ∧ Rc4 wr w.heap.size zeroRc ∧ Rc4 wr (w.heap.size + 1) (boundsL (xs.take k))) (fun i _ => xs.length - (intOf i).toNat)
  case atStart =>
    refine ⟨0, by omega, rfl, Below.al2 _ _ _, ?_, ?_⟩
    · exact (heap_pushed [.cells #[.int .i64 0, .int .i64 0, .int .i64 0, .int .i64 0] 30, .cells #[.int .i64 0, .int .i64 0, .int .i64 0, .int .i64 0] 30] w 0 _).2 rfl
    · exact (heap_pushed [.cells #[.int .i64 0, .int .i64 0, .int .i64 0, .int .i64 0] 30, .cells #[.int .i64 0, .int .i64 0, .int .i64 0, .int .i64 0] 30] w 1 _).2 rfl
  case round =>
    obtain ⟨k, hk, rfl, hb, h0, h1⟩ := hrel
    by_cases hlt : k < xs.length
    · obtain ⟨b, off, rfl, hB, hc⟩ := (hp.below hb).rc hlt
      obtain ⟨a0, a1, a2, a3⟩ := hc k hlt
      have hft := Hf.out xs[k] (List.getElem_mem hlt)
      have Hnext := Lib.hid (bounds_take xs k hlt)
      have hbf : Fit (boundsL (xs.take k)) := bounds_fit (fun r hr => Hf.out r (List.mem_of_mem_take hr))
      clear hc
      generalize xs[k] = r at *
      generalize boundsL (xs.take k) = q at *
      have hal := Below.al1 wr (.cells #[.int .i64 r.x, .int .i64 r.y, .int .i64 r.a, .int .i64 r.b] 30)
      obtain ⟨l0, l1, l2, l3⟩ := h1.lies.later hal
      have Hb := Lib.hid hb
      have H0 := Lib.hid h0
      have H1 := Lib.hid h1
      clear hb h0 h1
      go_wp2_with fail
      refine Calls.mono (or_any q r _ hbf hft) ?_
      rintro e w1 ⟨rfl, hb1⟩
      have hbw := Below.thn hal hb1
      have h0' := H0.out.later hbw
      have h1' := H1.out.later hbw
      have f0 := h1'.free 0
      have f1 := h1'.free 1
      have f2 := h1'.free 2
      have f3 := h1'.free 3
      obtain ⟨m0, m1, m2, m3⟩ := h1'.lies
      have HR := Lib.hid (show ∀ W2, W2 = ((((w1.setCell ⟨w.heap.size + 1, 0, none⟩ (.int .i64 (orR q r).x)).setCell ⟨w.heap.size + 1, 1, none⟩ (.int .i64 (orR q r).y)).setCell ⟨w.heap.size + 1, 2, none⟩ (.int .i64 (orR q r).a)).setCell ⟨w.heap.size + 1, 3, none⟩ (.int .i64 (orR q r).b)) → Rc4 W2 (w.heap.size + 1) (boundsL (xs.take (k + 1))) ∧ Rc4 W2 w.heap.size zeroRc ∧ Below w.heap.size w W2 from by
        rintro W2 rfl
        exact ⟨by rw [Hnext.out]; exact h1'.set _, h0'.other (orR q r) (by omega), (Hb.out.trans (hbw.mono Hb.out.size)).trans ((Below.stored (orR q r)).mono (by omega))⟩)
      clear l0 l1 l2 l3 hal h0' h1' hbw hb1
      go_wp2
      go_roundw
      case rel => exact ⟨k + 1, by omega, by go_num, (HR.out _ rfl).2.2, (HR.out _ rfl).2.1, (HR.out _ rfl).1⟩
      case measure => simp [intOf]; omega
    · obtain rfl : k = xs.length := by omega
      rw [List.take_length] at h1
      have f0 := h0.free 0
      have f1 := h0.free 1
      have f2 := h0.free 2
      have f3 := h0.free 3
      obtain ⟨l0, l1, l2, l3⟩ := h1.lies
      obtain ⟨m0, m1, m2, m3⟩ := h0.lies
      have HR := Lib.hid (h0.set (boundsL xs))
      clear h0 h1
      go_wp2
      exact bodyPost_ret (v := RV (boundsL xs)) (results_rc Try.results23 rfl HR.out.lies) rfl ⟨rfl, hb.trans ((Below.stored (boundsL xs)).mono (Nat.le_refl _))⟩

end Go.Proofs.Ytjgbelljijhfcaa
