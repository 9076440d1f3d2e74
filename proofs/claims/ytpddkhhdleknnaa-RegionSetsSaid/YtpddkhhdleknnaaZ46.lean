/- Several texts in one, each with its own head. -/
import Derived.Test.YtpddkhhdleknnaaZ4
import Derived.Test.YtpddkhhdleknnaaZ23
import Derived.Test.YtpddkhhdleknnaaZ33
import Derived.Test.YtpddkhhdleknnaaZ30
import Derived.Test.YtpddkhhdleknnaaZ45
import Derived.Test.YtpddkhhdleknnaaZ38
/- The contracts of package rect's functions that answer a bool, with the bool named. -/
namespace Go.Proofs.Ytpddkhhdleknnaa
open Go.RowKit

theorem in_eq {b : Bool} (r s : Rc) (w : World) (h : inR r s = b) (hfr : Fit r) (hfs : Fit s) : Makes Try.prog 54 #[RV r, RV s] w (.bool b) := h ▸ in_any r s w hfr hfs
theorem empty_eq {b : Bool} (r : Rc) (w : World) (h : emptyR r = b) (hfr : Fit r) : Makes Try.prog 64 #[RV r] w (.bool b) := h ▸ empty_any r w hfr
theorem has_eq {b : Bool} (r : Rc) (x y : Int) (w : World) (h : hasR r x y = b) (hfr : Fit r) : Makes Try.prog 53 #[RV r, .int .i64 x, .int .i64 y] w (.bool b) := h ▸ has_any r x y w hfr
theorem good_eq {b : Bool} (r : Rc) (w : World) (h : goodR r = b) (hfr : Fit r) : Makes Try.prog 98 #[RV r] w (.bool b) := h ▸ good_any r w hfr
theorem shift_eq {s : Rc} (r : Rc) (x y : Int) (w : World) (h : shiftR r x y = s) (hfr : Fit r) : Makes Try.prog 74 #[RV r, .int .i64 x, .int .i64 y] w (RV s) := h ▸ shift_any r x y w hfr

theorem Lies.rules {W : World} {B : Nat} {r : Rc} (h : Lies W B r) : (∀ n : After W, n.world.cell? ⟨B, 0, none⟩ = some (.int .i64 r.x)) ∧ (∀ n : After W, n.world.cell? ⟨B, 1, none⟩ = some (.int .i64 r.y)) ∧ (∀ n : After W, n.world.cell? ⟨B, 2, none⟩ = some (.int .i64 r.a)) ∧ (∀ n : After W, n.world.cell? ⟨B, 3, none⟩ = some (.int .i64 r.b)) :=
  ⟨After.rule h.c0, After.rule h.c1, After.rule h.c2, After.rule h.c3⟩

/-- The cells of a rectangle that is boxed. -/
abbrev RO (r : Rc) : Obj := .cells #[.int .i64 r.x, .int .i64 r.y, .int .i64 r.a, .int .i64 r.b] 30

end Go.Proofs.Ytpddkhhdleknnaa

/- The document's own Bounds of lists of rectangles, from what its Of answers. -/
namespace Go.Proofs.Ytpddkhhdleknnaa
open Go.RowKit

set_option maxHeartbeats 1000000 in
theorem rregBounds_any (hOf : OfSpec) (v : Value) (xs : List Rc) (w : World) (hv : Row encR 4 w v xs) (hf : ∀ r ∈ xs, Fit r) (hlen : xs.length ≤ 24) : Makes Try.prog 24 #[v] w (RV (boundsL (formL (fun p _ => p) xs []))) := by
  unfold Makes
  have hal := Below.al2 w (.cells #[.int .i64 0, .int .i64 0, .int .i64 0, .int .i64 0] 30) (.cells #[.int .i64 0, .int .i64 0, .int .i64 0, .int .i64 0] 30)
  have hg := heap_pushed [.cells #[.int .i64 0, .int .i64 0, .int .i64 0, .int .i64 0] 30, .cells #[.int .i64 0, .int .i64 0, .int .i64 0, .int .i64 0] 30] w
  simp only [List.foldl_cons, List.foldl_nil] at hg
  have h00 := (hg 0 _).2 rfl
  have h01 := (hg 1 _).2 rfl
  have hco := hOf v (.slice none 0 0) xs [] 0 _ (hv.below hal) (row_nil _) hf (fun r hr => by cases hr) hlen (by simp)
  rw [formL_how0] at hco
  obtain ⟨F, hF⟩ : ∃ F, formL (fun p _ => p) xs [] = F := ⟨_, rfl⟩
  rw [hF] at hco ⊢
  clear hF hg hv
  go_enter Try.func24, Try.ntmps24
  go_wp2_with fail
  refine Calls.mono hco ?_
  rintro e w1 ⟨u, rfl, hown, hb1⟩
  have hrow : Row encR 4 w1 u F := owns_row' (enc := encR) (k := 4) (fun _ => rfl) hown
  have hown' := fun q hq => (hown.lt q hq).1
  have hn := hrow.len
  obtain ⟨p, cap, rfl, -, -, hp⟩ := hrow
  have k0 : Rc4 w1 w.heap.size zeroRc := (hb1.block _ (by first | (simp; done) | (simp; omega))).trans h00
  have k1 : Rc4 w1 (w.heap.size + 1) (boundsL (F.take 0)) := (hb1.block _ (by first | (simp; done) | (simp; omega))).trans h01
  have Hb1 := Lib.hid (hal.trans (hb1.mono hal.size))
  have hsz := Hb1.out.size
  have hlt1 := k1.lt
  clear hown hco h00 h01 hal hb1
  go_wp2
  go_loopw [5] (fun i wr => ∃ k : Nat, k ≤ F.length ∧ i = .int .i64 k ∧ Turns (fun b => b = w.heap.size + 1) w1 wr ∧ Rc4 wr (w.heap.size + 1) (boundsL (F.take k))) (fun i _ => F.length - (intOf i).toNat)
  case atStart => exact ⟨0, by omega, rfl, Turns.refl _ _, k1⟩
  case round =>
    obtain ⟨k, hk, rfl, ht, hB⟩ := hrel
    by_cases hlt : k < F.length
    · have hp' : RowAt encR 4 wr p F := hp.turns ht (fun a e h => by
        have h1 := hown' a.block (by rw [e]; rfl)
        simp at h1
        omega)
      obtain ⟨b, off, rfl, hBb, hc⟩ := hp'.rc hlt
      have lF : LiesAt wr b (off + k * 4) F[k] := hc k hlt
      have Hnext := Lib.hid (bounds_take F k hlt)
      have hmem : wr.heap.size = wr.heap.size := rfl
      clear hc hmem
      generalize F[k] = r at *
      generalize boundsL (F.take k) = q at *
      have hne := After.ne wr
      have e0 := After.rule lF.c0
      have e1 := After.rule lF.c1
      have e2 := After.rule lF.c2
      have e3 := After.rule lF.c3
      obtain ⟨l0, l1, l2, l3⟩ := hB.lies.rules
      have HB := Lib.hid hB
      have Ht := Lib.hid ht
      clear lF hB ht k0 k1 hp'
      go_wp2
      refine wp_region_head 6 (by kernel_rfl) (by kernel_rfl) (by kernel_rfl) ?_
      repeat (refine Lq_step (fun K hK => ?_); go_simp; first | (refine hK _ ?_; clear hK K) | (apply Exists.intro; refine ⟨fun n => ?_, hK _ ?_⟩; (go_at_call 77; exact ror_any q r _); clear hK K))
      refine Lq_nil ?_
      intro w2 hb2
      have hB2 := HB.out.later hb2
      have f0 := hB2.free 0
      have f1 := hB2.free 1
      have f2 := hB2.free 2
      have f3 := hB2.free 3
      obtain ⟨m0, m1, m2, m3⟩ := hB2.lies
      have HR := Lib.hid (show ∀ W2, W2 = ((((w2.setCell ⟨w.heap.size + 1, 0, none⟩ (.int .i64 (orR q r).x)).setCell ⟨w.heap.size + 1, 1, none⟩ (.int .i64 (orR q r).y)).setCell ⟨w.heap.size + 1, 2, none⟩ (.int .i64 (orR q r).a)).setCell ⟨w.heap.size + 1, 3, none⟩ (.int .i64 (orR q r).b)) → Rc4 W2 (w.heap.size + 1) (boundsL (F.take (k + 1))) ∧ Turns (fun b => b = w.heap.size + 1) w1 W2 from by
        rintro W2 rfl
        refine ⟨by rw [Hnext.out]; exact hB2.set _, ?_⟩
        exact ((((Ht.out.trans (Turns.of_below' hb2)).set (p := ⟨w.heap.size + 1, 0, none⟩) rfl _).set (p := ⟨w.heap.size + 1, 1, none⟩) rfl _).set (p := ⟨w.heap.size + 1, 2, none⟩) rfl _).set (p := ⟨w.heap.size + 1, 3, none⟩) rfl _)
      clear e0 e1 e2 e3 l0 l1 l2 l3 hne hB2 hb2
      go_wp2
      go_roundw
      case rel => exact ⟨k + 1, by omega, by go_num, (HR.out _ rfl).2, (HR.out _ rfl).1⟩
      case measure => simp [intOf]; omega
    · obtain rfl : k = F.length := by omega
      rw [List.take_length] at hB
      have h0 : Rc4 wr w.heap.size zeroRc := (ht.block _ (by omega) (by omega)).trans k0
      have f0 := h0.free 0
      have f1 := h0.free 1
      have f2 := h0.free 2
      have f3 := h0.free 3
      obtain ⟨l0, l1, l2, l3⟩ := hB.lies
      obtain ⟨m0, m1, m2, m3⟩ := h0.lies
      have HR := Lib.hid (h0.set (boundsL F))
      have Hb := Lib.hid (Hb1.out.trans (ht.below (B := w.heap.size) hsz (fun i hi => by omega)))
      clear h0 hB ht
      go_wp2
      exact bodyPost_ret (v := RV (boundsL F)) (results_rc Try.results24 rfl HR.out.lies) rfl ⟨rfl, Hb.out.trans ((Below.stored (boundsL F)).mono (Nat.le_refl _))⟩

end Go.Proofs.Ytpddkhhdleknnaa

/- RegionLooks, from what the document's Of answers (OfSpec, which RegRefH proves). -/
namespace Go.Proofs.Ytpddkhhdleknnaa
open Go.RowKit

theorem refOf0_st (hOf : OfSpec) {w0 w : World} {l : List (Value × List Rc)} {va : Value} {a : List Rc} (h : St w0 w l) (ha : (va, a) ∈ l) (hlen : a.length ≤ 24) :
    Calls Try.prog 12 #[va, .slice none 0 0, .int .i64 0] w fun e w' => ∃ p c, e = .returned (.slice p (formL (fun p _ => p) a []).length c) ∧ St w0 w' ((.slice p (formL (fun p _ => p) a []).length c, formL (fun p _ => p) a []) :: l) := by
  have hco := hOf va (.slice none 0 0) a [] 0 w (h.all _ _ ha).1.row (row_nil w) (h.all _ _ ha).2 (fun r hr => by cases hr) hlen (by simp)
  rw [formL_how0] at hco
  refine Calls.mono hco ?_
  rintro e w' ⟨u, rfl, hr, hb⟩
  obtain ⟨p, c, rfl⟩ := owns_slice hr
  exact ⟨p, c, rfl, h.add hb (Rw.owned hr) (form_fit _ rfl _ _)⟩
theorem refOf_st (hOf : OfSpec) {w0 w : World} {l : List (Value × List Rc)} {va vb : Value} {a b : List Rc} (how : Int) (mf : Bool → Bool → Bool) (hm : howF how = mf) (h : St w0 w l) (ha : (va, a) ∈ l) (hb : (vb, b) ∈ l) (hlen : a.length ≤ 24) (hlen2 : b.length ≤ 24) :
    Calls Try.prog 12 #[va, vb, .int .i64 how] w fun e w' => ∃ p c, e = .returned (.slice p (formL mf a b).length c) ∧ St w0 w' ((.slice p (formL mf a b).length c, formL mf a b) :: l) := by
  have hco := hOf va vb a b how w (h.all _ _ ha).1.row (h.all _ _ hb).1.row (h.all _ _ ha).2 (h.all _ _ hb).2 hlen hlen2
  have hff := how_none how
  rw [hm] at hco hff
  refine Calls.mono hco ?_
  rintro e w' ⟨u, rfl, hr, hb⟩
  obtain ⟨p, c, rfl⟩ := owns_slice hr
  exact ⟨p, c, rfl, h.add hb (Rw.owned hr) (form_fit _ hff _ _)⟩
theorem rregHas_st {w0 w : World} {l : List (Value × List Rc)} {va : Value} {a : List Rc} (h : St w0 w l) (ha : (va, a) ∈ l) {x y : Int} {t : Bool} (ht : pix a x y = t) :
    Calls Try.prog 18 #[va, .int .i64 x, .int .i64 y] w fun e w' => e = .returned (.bool t) ∧ St w0 w' l := by
  refine Calls.mono (rregHas_any va a x y w (h.all _ _ ha).1.row) ?_
  rintro e w' ⟨rfl, hb⟩
  exact ⟨by rw [ht], h.later hb⟩
theorem rregArea_st (hOf : OfSpec) {w0 w : World} {l : List (Value × List Rc)} {va : Value} {a : List Rc} (h : St w0 w l) (ha : (va, a) ∈ l) (hlen : a.length ≤ 24) {A : Int} (hA : areaS (formL (fun p _ => p) a []) = A) :
    Calls Try.prog 20 #[va] w fun e w' => e = .returned (.int .i64 A) ∧ St w0 w' l := by
  refine Calls.mono (rregArea_any hOf va a w (h.all _ _ ha).1.row (h.all _ _ ha).2 hlen) ?_
  rintro e w' ⟨rfl, hb⟩
  exact ⟨by rw [hA], h.later hb⟩
theorem rregBounds_st (hOf : OfSpec) {w0 w : World} {l : List (Value × List Rc)} {va : Value} {a : List Rc} (h : St w0 w l) (ha : (va, a) ∈ l) (hlen : a.length ≤ 24) {R : Rc} (hR : boundsL a = R) :
    Calls Try.prog 24 #[va] w fun e w' => e = .returned (RV R) ∧ St w0 w' l := by
  refine Calls.mono (rregBounds_any hOf va a w (h.all _ _ ha).1.row (h.all _ _ ha).2 hlen) ?_
  rintro e w' ⟨rfl, hb⟩
  exact ⟨by rw [bounds_form, hR], h.later hb⟩
theorem rregShift_st (hOf : OfSpec) {w0 w : World} {l : List (Value × List Rc)} {va : Value} {a : List Rc} (h : St w0 w l) (ha : (va, a) ∈ l) (dx dy : Int) (hlen : a.length ≤ 24) {ys : List Rc} (hy : formL (fun p _ => p) (shiftL a dx dy) [] = ys) :
    Calls Try.prog 22 #[va, .int .i64 dx, .int .i64 dy] w fun e w' => ∃ p c, e = .returned (.slice p ys.length c) ∧ St w0 w' ((.slice p ys.length c, ys) :: l) := by
  subst hy
  refine Calls.mono (rregShift_any hOf va a dx dy w (h.all _ _ ha).1.row hlen) ?_
  rintro e w' ⟨u, rfl, hr, hb⟩
  obtain ⟨p, c, rfl⟩ := owns_slice hr
  exact ⟨p, c, rfl, h.add hb (Rw.owned hr) (form_fit _ rfl _ _)⟩

theorem same_forms (a b : List Rc) : eqRs (formL (fun p _ => p) a []) (formL (fun p _ => p) b []) = decide (bandsOf (stripsL (fun p q => p != q) a b) = []) := by
  rw [Bool.eq_iff_iff, eqRs_iff, decide_eq_true_eq, bands_none rfl]
  constructor
  · intro h x y
    have h1 := pix_ofform a x y
    rw [h, pix_ofform] at h1
    rw [h1]; simp
  · intro h
    refine form_unique rfl rfl (fun x y => ?_)
    have := h x y
    simpa using this

set_option maxRecDepth 100000 in
set_option maxHeartbeats 8000000 in
theorem rlooks_any (hOf : OfSpec) (va : Value) (a : List Rc) (vb : Value) (b : List Rc) (x y : Int) (w : World) (ha : Rw w va a) (hfa : ∀ r ∈ a, Fit r) (hb : Rw w vb b) (hfb : ∀ r ∈ b, Fit r) :
    Makes Try.prog 4 #[va, vb, .int .i64 x, .int .i64 y] w (.bool true) := by
  unfold Makes
  have S0 : St w w [(va, a), (vb, b)] := ⟨Below.refl _ _, fun v xs h => by
    simp only [List.mem_cons, Prod.mk.injEq, List.not_mem_nil, or_false] at h
    rcases h with ⟨rfl, rfl⟩ | ⟨rfl, rfl⟩
    · exact ⟨ha, hfa⟩
    · exact ⟨hb, hfb⟩⟩
  obtain ⟨⟨pa, ca, rfl, -, -, -⟩, -⟩ := ha
  obtain ⟨⟨pb, cb, rfl, -, -, -⟩, -⟩ := hb
  clear hfa hfb
  have heq := eql_rc
  have hself : ∀ r : Rc, eqR r r = true := fun r => by simp [eqR]
  go_enter Try.func4, Try.ntmps4
  have early : ∀ {R : Ending → World → Prop}, (∀ e w', e = .returned (.bool true) ∧ Below w.heap.size w w' → R e w') → Calls Try.prog 8 #[] w R := fun h => Calls.mono (wakes_any w) h
  by_cases h1 : 24 < a.length
  · have d1 : decide ((24 : Int) < (a.length : Int)) = true := by simp; omega
    go_wp2_with fail
    refine early ?_
    rintro e w' ⟨rfl, hbk⟩
    go_wp2
    go_ret
    exact ⟨rfl, hbk⟩
  have d1 : decide ((24 : Int) < (a.length : Int)) = false := by simp; omega
  by_cases h2 : 24 < b.length
  · have d2 : decide ((24 : Int) < (b.length : Int)) = true := by simp; omega
    go_wp2_with fail
    refine early ?_
    rintro e w' ⟨rfl, hbk⟩
    go_wp2
    go_ret
    exact ⟨rfl, hbk⟩
  have d2 : decide ((24 : Int) < (b.length : Int)) = false := by simp; omega
  have ea : a.length ≤ 24 := by omega
  have eb : b.length ≤ 24 := by omega
  obtain ⟨B, hB⟩ : ∃ B, eqRs a (formL (fun p _ => p) a []) = B := ⟨_, rfl⟩
  obtain ⟨P, hP⟩ : ∃ P, pix a x y = P := ⟨_, rfl⟩
  obtain ⟨A, hA⟩ : ∃ A, areaS (formL (fun p _ => p) a []) = A := ⟨_, rfl⟩
  obtain ⟨Sh, hSh⟩ : ∃ S, formL (fun p _ => p) (shiftL a x y) [] = S := ⟨_, rfl⟩
  obtain ⟨R, hR⟩ : ∃ R, boundsL a = R := ⟨_, rfl⟩
  obtain ⟨T, hT⟩ : ∃ T, decide (bandsOf (stripsL (fun p q => p != q) a b) = []) = T := ⟨_, rfl⟩
  clear early
  go_wp2_with fail
  refine Calls.mono (refOf0_st hOf S0 (a := a) (by repeat (first | exact List.Mem.head _ | apply List.Mem.tail)) ea) ?_
  rintro e w1 ⟨p1, c1, rfl, S1⟩
  go_wp2_with fail
  refine Calls.mono (is_st S1 (a := a) (by repeat (first | exact List.Mem.head _ | apply List.Mem.tail)) (t := B) ((isL_eq a).trans hB)) ?_
  rintro e w2 ⟨rfl, S2⟩
  go_wp2_with fail
  refine Calls.mono (refRects_st S2 (a := a) (b := (formL (fun p _ => p) a [])) (by repeat (first | exact List.Mem.head _ | apply List.Mem.tail)) (by repeat (first | exact List.Mem.head _ | apply List.Mem.tail)) (t := B) (hB)) ?_
  rintro e w3 ⟨rfl, S3⟩
  go_wp2_with fail
  refine Calls.mono (is_st S3 (a := (formL (fun p _ => p) a [])) (by repeat (first | exact List.Mem.head _ | apply List.Mem.tail)) (t := true) (isL_form _ rfl _ _)) ?_
  rintro e w4 ⟨rfl, S4⟩
  go_wp2_with fail
  refine Calls.mono (has_st S4 (a := a) (by repeat (first | exact List.Mem.head _ | apply List.Mem.tail)) (t := P) hP) ?_
  rintro e w5 ⟨rfl, S5⟩
  go_wp2_with fail
  refine Calls.mono (rregHas_st S5 (a := a) (by repeat (first | exact List.Mem.head _ | apply List.Mem.tail)) (t := P) hP) ?_
  rintro e w6 ⟨rfl, S6⟩
  go_wp2_with fail
  refine Calls.mono (area2_st S6 (a := a) (by repeat (first | exact List.Mem.head _ | apply List.Mem.tail)) (by omega) hA) ?_
  rintro e w7 ⟨rfl, S7⟩
  go_wp2_with fail
  refine Calls.mono (rregArea_st hOf S7 (a := a) (by repeat (first | exact List.Mem.head _ | apply List.Mem.tail)) ea hA) ?_
  rintro e w8 ⟨rfl, S8⟩
  go_wp2_with fail
  refine Calls.mono (shift_st S8 (a := a) (by repeat (first | exact List.Mem.head _ | apply List.Mem.tail)) x y (by omega) (ys := Sh) hSh) ?_
  rintro e w9 ⟨p9, c9, rfl, S9⟩
  go_wp2_with fail
  refine Calls.mono (rregShift_st hOf S9 (a := a) (by repeat (first | exact List.Mem.head _ | apply List.Mem.tail)) x y ea (ys := Sh) hSh) ?_
  rintro e w10 ⟨p10, c10, rfl, S10⟩
  go_wp2_with fail
  refine Calls.mono (refRects_st S10 (a := Sh) (b := Sh) (by repeat (first | exact List.Mem.head _ | apply List.Mem.tail)) (by repeat (first | exact List.Mem.head _ | apply List.Mem.tail)) (t := true) (eqRs_iff.2 rfl)) ?_
  rintro e w11 ⟨rfl, S11⟩
  go_wp2_with fail
  refine Calls.mono (bounds_st S11 (a := a) (by repeat (first | exact List.Mem.head _ | apply List.Mem.tail))) ?_
  rw [hR]
  rintro e w12 ⟨rfl, -, S12⟩
  go_wp2_with fail
  refine Calls.mono (rregBounds_st hOf S12 (a := a) (by repeat (first | exact List.Mem.head _ | apply List.Mem.tail)) ea hR) ?_
  rintro e w13 ⟨rfl, S13⟩
  go_wp2_with fail
  refine Calls.mono (same_st S13 (a := a) (b := b) (by repeat (first | exact List.Mem.head _ | apply List.Mem.tail)) (by repeat (first | exact List.Mem.head _ | apply List.Mem.tail)) (by omega) hT) ?_
  rintro e w14 ⟨rfl, S14⟩
  go_wp2_with fail
  refine Calls.mono (refOf0_st hOf S14 (a := b) (by repeat (first | exact List.Mem.head _ | apply List.Mem.tail)) eb) ?_
  rintro e w15 ⟨p15, c15, rfl, S15⟩
  go_wp2_with fail
  refine Calls.mono (refRects_st S15 (a := (formL (fun p _ => p) a [])) (b := (formL (fun p _ => p) b [])) (by repeat (first | exact List.Mem.head _ | apply List.Mem.tail)) (by repeat (first | exact List.Mem.head _ | apply List.Mem.tail)) (t := T) ((same_forms a b).trans hT)) ?_
  rintro e w16 ⟨rfl, S16⟩
  go_wp2_with fail
  refine Calls.mono (wakes_any w16) ?_
  rintro e w17 ⟨rfl, hbk⟩
  have S17 := S16.later hbk
  go_wp2
  go_ret
  exact ⟨rfl, S17.below⟩

end Go.Proofs.Ytpddkhhdleknnaa
