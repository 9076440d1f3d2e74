/- Several texts in one, each with its own head. -/
import Derived.Test.YtpddkhhdleknnaaZ44
import Derived.Test.YtpddkhhdleknnaaZ27
import Derived.Test.YtpddkhhdleknnaaZ42
import Derived.Test.YtpddkhhdleknnaaZ3
import Derived.Test.YtpddkhhdleknnaaZ32
/- The statements' own form: a list of bands in form passes its four lines. -/
namespace Go.Proofs.Ytpddkhhdleknnaa
open Go.RowKit

/-- Where the loop over a list in form stands: u, f: where the band ahead, and the band, begin; k: how many are seen. -/
def FormAt (xs : List Rc) (u f k : Nat) : Prop :=
  (k = 0 ∧ f = 0 ∧ u = 0 ∧ ∃ bs, Canon bs ∧ xs = bs.flatten) ∨
  ∃ (done ab cur : List Rc) (post : List (List Rc)), xs = done ++ (ab ++ (cur ++ post.flatten)) ∧ u = done.length ∧ f = done.length + ab.length ∧ f < k ∧ k ≤ f + cur.length ∧ goesOnB ab cur = false ∧ Canon (cur :: post)

theorem FormAt.first {xs : List Rc} {u f k : Nat} (h : FormAt xs u f k) (h0 : k = 0) (hl : k < xs.length) : FormAt xs u f (k + 1) := by
  rcases h with ⟨rfl, rfl, rfl, bs, hc, rfl⟩ | ⟨done, ab, cur, post, -, -, hf, hfk, -⟩
  · cases bs with
    | nil => simp at hl
    | cons c bs =>
      obtain ⟨t, k, hb, -⟩ := hc.1
      have := List.length_pos_iff.2 hb.1
      exact .inr ⟨[], [], c, bs, rfl, rfl, rfl, by omega, by simp; omega, rfl, hc⟩
  · omega

theorem chain_next : ∀ {l : List Rc}, Chain l → ∀ j (h : j + 1 < l.length), l[j].x + l[j].a < l[j + 1].x
  | [], _, j, h => by simp at h
  | r :: l, hc, j, h => by
    cases j with
    | zero =>
      have hl : 0 < l.length := by simpa using h
      have := hc.2.1 l[0] (List.getElem_mem hl)
      simpa using this
    | succ j =>
      have := chain_next hc.2.2 j (by simpa using h)
      simpa using this

theorem at_mid {done ab cur : List Rc} {rest : List Rc} {i j : Nat} (hj : j < cur.length) (hi : i = done.length + ab.length + j) : (done ++ (ab ++ (cur ++ rest)))[i]? = some cur[j] := by
  subst hi
  rw [List.getElem?_append_right (by omega), List.getElem?_append_right (by omega), List.getElem?_append_left (by omega)]
  rw [show done.length + ab.length + j - done.length - ab.length = j by omega]
  exact List.getElem?_eq_getElem hj

/-- Within a band. -/
theorem FormAt.step {xs : List Rc} {u f k : Nat} (h : FormAt xs u f k) (h0 : 0 < k) (hl : k < xs.length) :
    (xs[k - 1].y = xs[k].y ∧ xs[k - 1].b = xs[k].b ∧ xs[k - 1].x + xs[k - 1].a < xs[k].x ∧ FormAt xs u f (k + 1)) ∨
    (xs[k - 1].y ≠ xs[k].y ∧ xs[k - 1].y + xs[k - 1].b ≤ xs[k].y ∧ u ≤ f ∧ f ≤ k ∧ goesOnB ((xs.drop u).take (f - u)) ((xs.drop f).take (k - f)) = false ∧ FormAt xs f k (k + 1)) := by
  rcases h with ⟨rfl, -⟩ | ⟨done, ab, cur, post, hx, hu, hf, hfk, hkl, hg, hc⟩
  · omega
  · obtain ⟨t, hh, hb, hbl⟩ := hc.1
    have e1 : xs[k - 1]? = some cur[k - 1 - f] := by
      rw [hx]
      exact at_mid (by omega) (by omega)
    have p1 : xs[k - 1] = cur[k - 1 - f] := by
      rw [List.getElem?_eq_getElem (by omega)] at e1
      exact Option.some.inj e1
    have m1 := hb.2.2.2 cur[k - 1 - f] (List.getElem_mem (by omega))
    by_cases hin : k < f + cur.length
    · left
      have e2 : xs[k]? = some cur[k - f] := by
        rw [hx]
        exact at_mid (by omega) (by omega)
      have p2 : xs[k] = cur[k - f] := by
        rw [List.getElem?_eq_getElem (by omega)] at e2
        exact Option.some.inj e2
      have m2 := hb.2.2.2 cur[k - f] (List.getElem_mem (by omega))
      have hn := chain_next hb.2.1 (k - 1 - f) (by omega)
      have e3 : cur[k - 1 - f + 1]'(by omega) = cur[k - f]'(by omega) := by congr 1; omega
      rw [e3] at hn
      rw [p1, p2]
      exact ⟨by rw [m1.1, m2.1], by rw [m1.2, m2.2], hn, .inr ⟨done, ab, cur, post, hx, hu, hf, by omega, by omega, hg, hc⟩⟩
    · right
      have hk : k = f + cur.length := by omega
      cases post with
      | nil =>
        rw [hx] at hl
        simp at hl
        omega
      | cons c post =>
        obtain ⟨t', hh', hb', -⟩ := hc.2.2.1
        have hcl := List.length_pos_iff.2 hb'.1
        have e2 : xs[k]? = some c[0] := by
          rw [hx, List.getElem?_append_right (by omega), List.getElem?_append_right (by omega), List.getElem?_append_right (by omega), List.flatten_cons, List.getElem?_append_left (by omega)]
          rw [show k - done.length - ab.length - cur.length = 0 by omega]
          exact List.getElem?_eq_getElem hcl
        have p2 : xs[k] = c[0] := by
          rw [List.getElem?_eq_getElem (by omega)] at e2
          exact Option.some.inj e2
        have m2 := hbl c (by simp) c[0] (List.getElem_mem hcl)
        have hpos := hb.2.2.1
        rw [p1, p2]
        have hab : (xs.drop u).take (f - u) = ab := by
          rw [hx, hu, List.drop_left, show f - done.length = ab.length by omega, List.take_left]
        have hcur : (xs.drop f).take (k - f) = cur := by
          rw [hx, ← List.append_assoc, show f = (done ++ ab).length by simp [hf], List.drop_left]
          rw [show k - (done ++ ab).length = cur.length by simp; omega, List.take_left]
        refine ⟨by rw [m1.1]; omega, by rw [m1.1, m1.2]; exact m2, by omega, by omega, by rw [hab, hcur]; exact hg, .inr ⟨done ++ ab, cur, c, post, ?_, by simp [hf], by simp [hk, hf], by omega, by omega, hc.2.1 c rfl, hc.2.2⟩⟩
        rw [hx]; simp

theorem FormAt.last {xs : List Rc} {u f : Nat} (h : FormAt xs u f xs.length) : u ≤ f ∧ f ≤ xs.length ∧ goesOnB ((xs.drop u).take (f - u)) (xs.drop f) = false := by
  rcases h with ⟨h0, rfl, rfl, -⟩ | ⟨done, ab, cur, post, hx, hu, hf, hfk, hkl, hg, hc⟩
  · exact ⟨by omega, by omega, by simp [goesOnB]⟩
  · have hp : post.flatten = [] := by
      have := congrArg List.length hx
      simp only [List.length_append] at this
      exact List.length_eq_zero_iff.1 (by omega)
    have hab : (xs.drop u).take (f - u) = ab := by
      rw [hx, hu, List.drop_left, show f - done.length = ab.length by omega, List.take_left]
    have hcur : xs.drop f = cur := by
      rw [hx, ← List.append_assoc, show f = (done ++ ab).length by simp [hf], List.drop_left, hp, List.append_nil]
    refine ⟨by omega, by omega, ?_⟩
    rw [hab, hcur]
    exact hg

/-- A region that draws its order and reads two rows: the rows stand in every world that it meets. -/
theorem wp_region_rows {P : Program} {id : Nat} {Q : Exit → Act → World → Prop} {a : Act} {w w0 : World} {l : List Oper} {va vb : Value} {la lb : List Rc} (ha : Row encR 4 w0 va la) (hb : Row encR 4 w0 vb lb) (hh : w.heap = w0.heap) (hm : P.follows .mixedOrders = true) (hB : Region.lexB .any l.toArray = true)
    (h : Nonempty (After w) → (∀ n : After w, Row encR 4 n.world va la) → (∀ n : After w, Row encR 4 n.world vb lb) → wpQuiet P l.toArray (fun w' => ∃ n : After w, w' = n.world) (fun a' => ∀ w', (∃ n : After w, w' = n.world) → Q .normal a' w') l a) : (Code.region id l.toArray true).wp P Q a w := by
  have ha' : Row encR 4 w va la := ha.same (fun b _ => by rw [hh])
  have hb' : Row encR 4 w vb lb := hb.same (fun b _ => by rw [hh])
  exact wp_region_after hm hB (h (After.ne w) (fun n => ha'.below n.below) (fun n => hb'.below n.below))

theorem row_sub {w : World} {b off cap : Nat} {xs : List Rc} (hp : RowAt encR 4 w (some ⟨b, off, none⟩) xs) (hcap : xs.length ≤ cap) (hmax : cap ≤ maxLen) {i k : Nat} (hik : i ≤ k) (hk : k ≤ xs.length) : Row encR 4 w (.slice (some ⟨b, off + i * 4, none⟩) (k - i) (cap - i)) ((xs.drop i).take (k - i)) := by
  have hl : ((xs.drop i).take (k - i)).length = k - i := by simp; omega
  exact ⟨_, _, by rw [hl], by rw [hl]; omega, by omega, hp.sub i (k - i)⟩

end Go.Proofs.Ytpddkhhdleknnaa

/- region's Bounds: the least rectangle of all. -/
namespace Go.Proofs.Ytpddkhhdleknnaa
open Go.RowKit

/-- Block B is a rectangle's four cells. -/
def Rc4 (w : World) (B : Nat) (r : Rc) : Prop := w.heap[B]? = some (.cells #[.int .i64 r.x, .int .i64 r.y, .int .i64 r.a, .int .i64 r.b] 30)

theorem Rc4.lt {w : World} {B : Nat} {r : Rc} (h : Rc4 w B r) : B < w.heap.size := (Array.getElem?_eq_some_iff.1 h).1
theorem Rc4.lies {w : World} {B : Nat} {r : Rc} (h : Rc4 w B r) : Lies w B r := by
  unfold Rc4 at h
  refine ⟨?_, ?_, ?_, ?_⟩ <;> simp [World.cell?, h]
theorem Rc4.free {w : World} {B : Nat} {r : Rc} (h : Rc4 w B r) (i : Nat) : w.frozen? ⟨B, i, none⟩ = false := by
  unfold Rc4 at h
  simp [World.frozen?, h]
theorem Rc4.later {w w1 : World} {B : Nat} {r : Rc} (h : Rc4 w B r) (hb : Below w.heap.size w w1) : Rc4 w1 B r := (hb.block B h.lt).trans h

theorem four_set {W : World} {B : Nat} {t : TypeId} {a b c d : Value} (a' b' c' d' : Value) (h : W.heap[B]? = some (.cells #[a, b, c, d] t)) :
    ((((W.setCell ⟨B, 0, none⟩ a').setCell ⟨B, 1, none⟩ b').setCell ⟨B, 2, none⟩ c').setCell ⟨B, 3, none⟩ d').heap[B]? = some (.cells #[a', b', c', d'] t) := by
  have one : ∀ (W : World) (i : Nat) (l : Array Value) (u : Value), W.heap[B]? = some (.cells l t) → (W.setCell ⟨B, i, none⟩ u).heap[B]? = some (.cells (l.setIfInBounds i u) t) := by
    intro W i l u h
    obtain ⟨hlt, hk⟩ := Array.getElem?_eq_some_iff.1 h
    show (W.heap.modify B _)[B]? = _
    rw [Array.getElem?_eq_getElem (by rw [Array.size_modify]; exact hlt), Array.getElem_modify_self, hk]
    rfl
  have := one _ 3 _ d' (one _ 2 _ c' (one _ 1 _ b' (one _ 0 _ a' h)))
  simpa using this

theorem Rc4.set {w : World} {B : Nat} {r : Rc} (h : Rc4 w B r) (s : Rc) : Rc4 ((((w.setCell ⟨B, 0, none⟩ (.int .i64 s.x)).setCell ⟨B, 1, none⟩ (.int .i64 s.y)).setCell ⟨B, 2, none⟩ (.int .i64 s.a)).setCell ⟨B, 3, none⟩ (.int .i64 s.b)) B s := four_set _ _ _ _ h

theorem Rc4.other {w : World} {B C : Nat} {r : Rc} (h : Rc4 w B r) (s : Rc) (hne : B ≠ C) : Rc4 ((((w.setCell ⟨C, 0, none⟩ (.int .i64 s.x)).setCell ⟨C, 1, none⟩ (.int .i64 s.y)).setCell ⟨C, 2, none⟩ (.int .i64 s.a)).setCell ⟨C, 3, none⟩ (.int .i64 s.b)) B r := by
  unfold Rc4 at h ⊢
  rw [Below.heap_setCell _ _ _ _ (fun e => hne e), Below.heap_setCell _ _ _ _ (fun e => hne e), Below.heap_setCell _ _ _ _ (fun e => hne e), Below.heap_setCell _ _ _ _ (fun e => hne e)]
  exact h

theorem bounds_take (l : List Rc) (k : Nat) (h : k < l.length) : boundsL (l.take (k + 1)) = orR (boundsL (l.take k)) l[k] := by
  rw [List.take_succ_eq_append_getElem h, boundsL, List.foldl_append]; rfl

set_option maxHeartbeats 1000000 in
theorem bounds_any (v : Value) (xs : List Rc) (w : World) (hv : Row encR 4 w v xs) (hf : ∀ r ∈ xs, Fit r) : Makes Try.prog 23 #[v] w (RV (boundsL xs)) := by
  unfold Makes
  have hn := hv.len
  obtain ⟨p, cap, rfl, -, -, hp⟩ := hv
  have Hf := Lib.hid hf
  clear hf
  go_enter Try.func23, Try.ntmps23
  go_wp2
  go_loopw [8] (fun i wr => ∃ k : Nat, k ≤ xs.length ∧ i = .int .i64 k ∧ Below w.heap.size w wr ∧ Rc4 wr w.heap.size zeroRc ∧ Rc4 wr (w.heap.size + 1) (boundsL (xs.take k))) (fun i _ => xs.length - (intOf i).toNat)
  case atStart =>
    refine ⟨0, by omega, rfl, Below.al2 _ _ _, ?_, ?_⟩
    · exact (heap_pushed [.cells #[.int .i64 0, .int .i64 0, .int .i64 0, .int .i64 0] 30, .cells #[.int .i64 0, .int .i64 0, .int .i64 0, .int .i64 0] 30] w 0 _).2 rfl
    · exact (heap_pushed [.cells #[.int .i64 0, .int .i64 0, .int .i64 0, .int .i64 0] 30, .cells #[.int .i64 0, .int .i64 0, .int .i64 0, .int .i64 0] 30] w 1 _).2 rfl
  case round =>
    obtain ⟨k, hk, rfl, hb, h0, h1⟩ := hrel
    by_cases hlt : k < xs.length
    · obtain ⟨b, off, rfl, hB, hc⟩ := (hp.below hb).rc hlt
      obtain ⟨a0, a1, a2, a3⟩ := hc k hlt
      have hft := Hf.out xs[k] (List.getElem_mem hlt)
      have Hnext := Lib.hid (bounds_take xs k hlt)
      have hbf : Fit (boundsL (xs.take k)) := bounds_fit (fun r hr => Hf.out r (List.mem_of_mem_take hr))
      clear hc
      generalize xs[k] = r at *
      generalize boundsL (xs.take k) = q at *
      have hal := Below.al1 wr (.cells #[.int .i64 r.x, .int .i64 r.y, .int .i64 r.a, .int .i64 r.b] 30)
      obtain ⟨l0, l1, l2, l3⟩ := h1.lies.later hal
      have Hb := Lib.hid hb
      have H0 := Lib.hid h0
      have H1 := Lib.hid h1
      clear hb h0 h1
      go_wp2_with fail
      refine Calls.mono (or_any q r _ hbf hft) ?_
      rintro e w1 ⟨rfl, hb1⟩
      have hbw := Below.thn hal hb1
      have h0' := H0.out.later hbw
      have h1' := H1.out.later hbw
      have f0 := h1'.free 0
      have f1 := h1'.free 1
      have f2 := h1'.free 2
      have f3 := h1'.free 3
      obtain ⟨m0, m1, m2, m3⟩ := h1'.lies
      have HR := Lib.hid (show ∀ W2, W2 = ((((w1.setCell ⟨w.heap.size + 1, 0, none⟩ (.int .i64 (orR q r).x)).setCell ⟨w.heap.size + 1, 1, none⟩ (.int .i64 (orR q r).y)).setCell ⟨w.heap.size + 1, 2, none⟩ (.int .i64 (orR q r).a)).setCell ⟨w.heap.size + 1, 3, none⟩ (.int .i64 (orR q r).b)) → Rc4 W2 (w.heap.size + 1) (boundsL (xs.take (k + 1))) ∧ Rc4 W2 w.heap.size zeroRc ∧ Below w.heap.size w W2 from by
        rintro W2 rfl
        exact ⟨by rw [Hnext.out]; exact h1'.set _, h0'.other (orR q r) (by omega), (Hb.out.trans (hbw.mono Hb.out.size)).trans ((Below.stored (orR q r)).mono (by omega))⟩)
      clear l0 l1 l2 l3 hal h0' h1' hbw hb1
      go_wp2
      go_roundw
      case rel => exact ⟨k + 1, by omega, by go_num, (HR.out _ rfl).2.2, (HR.out _ rfl).2.1, (HR.out _ rfl).1⟩
      case measure => simp [intOf]; omega
    · obtain rfl : k = xs.length := by omega
      rw [List.take_length] at h1
      have f0 := h0.free 0
      have f1 := h0.free 1
      have f2 := h0.free 2
      have f3 := h0.free 3
      obtain ⟨l0, l1, l2, l3⟩ := h1.lies
      obtain ⟨m0, m1, m2, m3⟩ := h0.lies
      have HR := Lib.hid (h0.set (boundsL xs))
      clear h0 h1
      go_wp2
      exact bodyPost_ret (v := RV (boundsL xs)) (results_rc Try.results23 rfl HR.out.lies) rfl ⟨rfl, hb.trans ((Below.stored (boundsL xs)).mono (Nat.le_refl _))⟩

end Go.Proofs.Ytpddkhhdleknnaa

/- More contracts over lists that were made: Has, Same, Bounds, Shift, the statements' form. -/
namespace Go.Proofs.Ytpddkhhdleknnaa
open Go.RowKit

theorem has_st {w0 w : World} {l : List (Value × List Rc)} {va : Value} {a : List Rc} (h : St w0 w l) (ha : (va, a) ∈ l) {x y : Int} {t : Bool} (ht : pix a x y = t) :
    Calls Try.prog 17 #[va, .int .i64 x, .int .i64 y] w fun e w' => e = .returned (.bool t) ∧ St w0 w' l := by
  refine Calls.mono (regHas_any va a x y w (h.all _ _ ha).1.row (h.all _ _ ha).2) ?_
  rintro e w' ⟨rfl, hb⟩
  exact ⟨by rw [ht], h.later hb⟩

theorem same_st {w0 w : World} {l : List (Value × List Rc)} {va vb : Value} {a b : List Rc} (h : St w0 w l) (ha : (va, a) ∈ l) (hb : (vb, b) ∈ l) (hlen : a.length + b.length ≤ 67108864) {t : Bool} (ht : decide (bandsOf (stripsL (fun p q => p != q) a b) = []) = t) :
    Calls Try.prog 25 #[va, vb] w fun e w' => e = .returned (.bool t) ∧ St w0 w' l := by
  refine Calls.mono (regSame_any va vb a b w (h.all _ _ ha).1.row (h.all _ _ hb).1.row (h.all _ _ ha).2 (h.all _ _ hb).2 hlen) ?_
  rintro e w' ⟨rfl, hb⟩
  exact ⟨by rw [ht], h.later hb⟩

theorem bounds_st {w0 w : World} {l : List (Value × List Rc)} {va : Value} {a : List Rc} (h : St w0 w l) (ha : (va, a) ∈ l) :
    Calls Try.prog 23 #[va] w fun e w' => e = .returned (RV (boundsL a)) ∧ Fit (boundsL a) ∧ St w0 w' l := by
  refine Calls.mono (bounds_any va a w (h.all _ _ ha).1.row (h.all _ _ ha).2) ?_
  rintro e w' ⟨rfl, hb⟩
  exact ⟨rfl, bounds_fit (h.all _ _ ha).2, h.later hb⟩

theorem rectHas_st {w0 w : World} {l : List (Value × List Rc)} {r : Rc} (h : St w0 w l) (hf : Fit r) {x y : Int} {t : Bool} (ht : hasR r x y = t) :
    Calls Try.prog 53 #[RV r, .int .i64 x, .int .i64 y] w fun e w' => e = .returned (.bool t) ∧ St w0 w' l := by
  refine Calls.mono (has_any r x y w hf) ?_
  rintro e w' ⟨rfl, hb⟩
  exact ⟨by rw [ht], h.later hb⟩

theorem area2_st {w0 w : World} {l : List (Value × List Rc)} {va : Value} {a : List Rc} (h : St w0 w l) (ha : (va, a) ∈ l) (hlen : a.length ≤ 67108864) {A : Int} (hA : areaS (formL (fun p _ => p) a []) = A) :
    Calls Try.prog 19 #[va] w fun e w' => e = .returned (.int .i64 A) ∧ St w0 w' l := by
  rw [← hA]; exact area_st h ha hlen

theorem shift_st {w0 w : World} {l : List (Value × List Rc)} {va : Value} {a : List Rc} (h : St w0 w l) (ha : (va, a) ∈ l) (dx dy : Int) (hlen : a.length ≤ 67108864) {ys : List Rc} (hy : formL (fun p _ => p) (shiftL a dx dy) [] = ys) :
    Calls Try.prog 21 #[va, .int .i64 dx, .int .i64 dy] w fun e w' => ∃ p c, e = .returned (.slice p ys.length c) ∧ St w0 w' ((.slice p ys.length c, ys) :: l) := by
  subst hy
  refine Calls.mono (regShift_any va a dx dy w (h.all _ _ ha).1.row (h.all _ _ ha).2 hlen) ?_
  rintro e w' ⟨u, rfl, hr, hb⟩
  obtain ⟨p, c, rfl⟩ := owns_slice hr
  exact ⟨p, c, rfl, h.add hb (Rw.owned hr) (form_fit _ rfl _ _)⟩

end Go.Proofs.Ytpddkhhdleknnaa
