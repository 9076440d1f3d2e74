/- Several texts in one, each with its own head. -/
import Derived.Test.YtpddkhhdleknnaaZ28
import Derived.Test.YtpddkhhdleknnaaZ31
import Derived.Test.YtpddkhhdleknnaaZ32
import Derived.Test.YtpddkhhdleknnaaZ27
/- The document's own Area and Shift of lists of rectangles, from what its Of answers (OfSpec: still to be proved of it). -/
namespace Go.Proofs.Ytpddkhhdleknnaa
open Go.RowKit

/-- What the document's Of answers: the list in form of the pixels that are meant. -/
def OfSpec : Prop := ∀ (va vb : Value) (a b : List Rc) (how : Int) (w : World), Row encR 4 w va a → Row encR 4 w vb b → (∀ r ∈ a, Fit r) → (∀ r ∈ b, Fit r) → a.length ≤ 24 → b.length ≤ 24 →
  Calls Try.prog 12 #[va, vb, .int .i64 how] w fun e w' => ∃ u, e = .returned u ∧ w'.ownsRow w.heap.size 30 4 u (formL (howF how) a b).length (flatR (formL (howF how) a b)) ∧ Below w.heap.size w w'

theorem how_none (how : Int) : howF how false false = false := by unfold howF; split <;> (try split) <;> rfl
theorem formL_how0 (a : List Rc) : formL (howF 0) a [] = formL (fun p _ => p) a [] := form_unique (how_none 0) rfl (fun x y => by simp [howF, pix_nil])

theorem row_nil (w : World) : Row encR 4 w (.slice none 0 0) [] := ⟨none, 0, rfl, Nat.le_refl _, by simp [maxLen], .inl ⟨rfl, rfl⟩⟩

theorem areaWH {r : Rc} (h : emptyR r = false) : areaR r = r.a * r.b := by simp [areaR, h]

set_option maxHeartbeats 1000000 in
theorem rregArea_any (hOf : OfSpec) (v : Value) (xs : List Rc) (w : World) (hv : Row encR 4 w v xs) (hf : ∀ r ∈ xs, Fit r) (hlen : xs.length ≤ 24) : Makes Try.prog 20 #[v] w (.int .i64 (areaS (formL (fun p _ => p) xs []))) := by
  unfold Makes
  have hco := hOf v (.slice none 0 0) xs [] 0 w hv (row_nil w) hf (fun r hr => by cases hr) hlen (by simp)
  rw [formL_how0] at hco
  have Hfull := Lib.hid (form_full (fun p _ => p) rfl xs [])
  have Hbd := Lib.hid (area_bound (fun p _ => p) rfl xs []).2
  obtain ⟨F, hF⟩ : ∃ F, formL (fun p _ => p) xs [] = F := ⟨_, rfl⟩
  rw [hF] at hco Hfull Hbd ⊢
  clear hF
  go_enter Try.func20, Try.ntmps20
  go_wp2_with fail
  refine Calls.mono hco ?_
  rintro e w1 ⟨u, rfl, hown, hb1⟩
  have hrow : Row encR 4 w1 u F := owns_row' (enc := encR) (k := 4) (fun _ => rfl) hown
  have hn := hrow.len
  obtain ⟨p, cap, rfl, -, -, hp⟩ := hrow
  clear hown hco
  go_wp2
  go_loopw [3, 5] (fun n i wr => ∃ k : Nat, k ≤ F.length ∧ i = .int .i64 k ∧ n = .int .i64 (areaS (F.take k)) ∧ Below w1.heap.size w1 wr) (fun _ i _ => F.length - (intOf i).toNat)
  case atStart => exact ⟨0, by omega, rfl, rfl, Below.refl _ _⟩
  case round =>
    obtain ⟨k, hk, rfl, rfl, hb⟩ := hrel
    by_cases hlt : k < F.length
    · obtain ⟨b, off, rfl, hB, hc⟩ := (hp.below hb).rc hlt
      obtain ⟨a0, a1, a2, a3⟩ := hc k hlt
      have hem := Hfull.out F[k] (List.getElem_mem hlt)
      have Hnext := Lib.hid (show areaS (F.take (k + 1)) = areaS (F.take k) + F[k].a * F[k].b by rw [areaS_take _ _ hlt, areaWH hem])
      have h1 := areaS_nonneg (F.take k)
      have h2 : areaS (F.take (k + 1)) ≤ 4398046511104 := by
        have h3 : areaS F = areaS (F.take (k + 1)) + areaS (F.drop (k + 1)) := by rw [← areaS_append, List.take_append_drop]
        have := areaS_nonneg (F.drop (k + 1))
        have := Hbd.out
        omega
      rw [Hnext.out] at h2
      have hpos := area_pos' hem
      rw [areaWH hem] at hpos
      clear hc hem
      generalize F[k] = r at *
      generalize areaS (F.take k) = A at *
      obtain ⟨q, hq⟩ : ∃ q, r.a * r.b = q := ⟨_, rfl⟩
      rw [hq] at hpos h2 Hnext
      have z1 : IntKind.i64.wrap (r.a * r.b) = q := by rw [hq]; exact IntWalk.i64_in _ (by omega)
      have z2 : IntKind.i64.wrap (A + q) = A + q := IntWalk.i64_in _ (by omega)
      clear hq
      go_wp2
      go_quiet (fail)
      go_wp2
      go_roundw
      case rel => exact ⟨k + 1, by omega, by go_num, by rw [Hnext.out], Below.drewN' hb _⟩
      case measure => simp [intOf]; omega
    · obtain rfl : k = F.length := by omega
      have Hb := Lib.hid (hb1.trans (hb.mono hb1.size))
      go_wp2
      go_ret
      exact ⟨ret_int (by rw [List.take_length]), Hb.out⟩

set_option maxHeartbeats 1000000 in
theorem rregShift_any (hOf : OfSpec) (v : Value) (xs : List Rc) (dx dy : Int) (w : World) (hv : Row encR 4 w v xs) (hlen : xs.length ≤ 24) :
    Calls Try.prog 22 #[v, .int .i64 dx, .int .i64 dy] w fun e w' => ∃ u, e = .returned u ∧ w'.ownsRow w.heap.size 30 4 u (formL (fun p _ => p) (shiftL xs dx dy) []).length (flatR (formL (fun p _ => p) (shiftL xs dx dy) [])) ∧ Below w.heap.size w w' := by
  obtain ⟨p, cap, rfl, -, -, hp⟩ := hv
  obtain ⟨i0, hi, hz0, hz1, hz2⟩ := info_parts rc_info
  go_enter Try.func22, Try.ntmps22
  go_wp2
  go_loopw [7, 8] (fun v i wr => ∃ k : Nat, k ≤ xs.length ∧ i = .int .i64 k ∧ Below w.heap.size w wr ∧ wr.ownsRow w.heap.size 30 4 v (shiftL (xs.take k) dx dy).length (flatR (shiftL (xs.take k) dx dy))) (fun _ i _ => xs.length - (intOf i).toNat)
  case atStart => exact ⟨0, by omega, rfl, Below.refl _ _, World.ownsRow_nil _ _ _ _⟩
  case round =>
    obtain ⟨k, hk, rfl, hb, hown⟩ := hrel
    by_cases hlt : k < xs.length
    · obtain ⟨b, off, rfl, hB, hc⟩ := (hp.below hb).rc hlt
      obtain ⟨a0, a1, a2, a3⟩ := hc k hlt
      have Hnext := Lib.hid (shiftL_take xs dx dy k hlt)
      have hln : (shiftL (xs.take k) dx dy).length = k := by simp [shiftL]; omega
      clear hc
      generalize xs[k] = r at *
      generalize shiftL (xs.take k) dx dy = l at *
      have Hb := Lib.hid hb
      have Hown := Lib.hid hown
      clear hb hown
      go_wp2_with fail
      refine Calls.mono (rshift_any r dx dy _) ?_
      rintro e w2 ⟨rfl, hb2⟩
      have Hbw := Lib.hid (Hb.out.trans (hb2.mono Hb.out.size))
      have Hown2 := Lib.hid ((Turns.of_below' (T := fun _ => False) hb2).owns Hown.out (fun _ _ h => h))
      have Hln := Lib.hid hln
      clear hb2 hln
      generalize shiftR r dx dy = s at *
      go_wp2_with (at_builtin; refine wpList_append_mine _ rfl _ _ 22 rfl w.heap.size 30 i0 _ 4 32 Try.underlying22 hi hz0 hz1 hz2 rfl (by decide) _ _ _ rfl (Hown2.out.alloc _) (some ⟨w2.heap.size, 0, none⟩) 1 1 (flatR [s]) rfl rfl ?c1 ?c2 ?c3 ?c4 ?c5 ?_)
      case c1 => exact .inr ⟨_, rfl, fun j u hu => cells_new' w2 _ _ j u hu⟩
      case c2 => exact encR_one _
      case c3 => rw [Hln.out]; simp only [maxLen]; omega
      case c4 => rw [Hln.out]; omega
      case c5 => have := Hbw.out.size; simp; omega
      intro v' w3 hown' hgrow hpl
      have Hb3 := Lib.hid ((Below.al Hbw.out _).grown hgrow (by have := Hbw.out.size; simp; omega) (fun k' e => (Hown2.out.lt k' e).1))
      have Hres := Lib.hid (show w3.ownsRow w.heap.size 30 4 v' (shiftL (xs.take (k + 1)) dx dy).length (flatR (shiftL (xs.take (k + 1)) dx dy)) by
        rw [Hnext.out]; simpa [flatR] using hown')
      clear hown' hgrow hpl
      go_wp2
      go_roundw
      case rel => exact ⟨k + 1, by omega, by go_num, Hb3.out, Hres.out⟩
      case measure => simp [intOf]; omega
    · obtain rfl : k = xs.length := by omega
      rw [List.take_length] at hown
      have hrow : Row encR 4 wr u7 (shiftL xs dx dy) := owns_row' (enc := encR) (k := 4) (fun _ => rfl) hown
      have hsf : ∀ r ∈ shiftL xs dx dy, Fit r := by
        intro r hr
        obtain ⟨s, hs, rfl⟩ := List.mem_map.1 hr
        exact shiftR_fit s dx dy
      have hsl : (shiftL xs dx dy).length ≤ 24 := by simpa [shiftL] using hlen
      have hco := hOf u7 (.slice none 0 0) (shiftL xs dx dy) [] 0 wr hrow (row_nil wr) hsf (fun r hr => by cases hr) hsl (by simp)
      rw [formL_how0] at hco
      have Hb := Lib.hid hb
      clear hown hb
      go_wp2_with fail
      refine Calls.mono hco ?_
      rintro e w2 ⟨u, rfl, hown2, hb2⟩
      have Hown2 := Lib.hid (owns_mono hown2 Hb.out.size)
      have Hb2 := Lib.hid (Hb.out.trans (hb2.mono Hb.out.size))
      clear hown2 hb2 hco
      go_wp2
      go_ret
      exact ⟨_, rfl, Hown2.out, Hb2.out⟩

end Go.Proofs.Ytpddkhhdleknnaa

/- Plain facts: the least rectangle of all hangs on the pixels alone. -/
namespace Go.Proofs.Ytpddkhhdleknnaa
open Go.RowKit

/-- q is the least rectangle of these pixels. -/
def Least (q : Rc) (P : Int → Int → Prop) : Prop :=
  (q = zeroRc ∧ ∀ x y, ¬ P x y) ∨
  (emptyR q = false ∧ (∀ x y, P x y → hasR q x y = true) ∧ (∃ y, P q.x y) ∧ (∃ y, P (q.x + q.a - 1) y) ∧ (∃ x, P x q.y) ∧ ∃ x, P x (q.y + q.b - 1))

theorem least_unique {q q' : Rc} {P : Int → Int → Prop} (h : Least q P) (h' : Least q' P) : q = q' := by
  rcases h with ⟨rfl, h0⟩ | ⟨he, hin, ⟨y1, w1⟩, ⟨y2, w2⟩, ⟨x3, w3⟩, ⟨x4, w4⟩⟩
  · rcases h' with ⟨rfl, _⟩ | ⟨_, _, ⟨y1, w1⟩, _⟩
    · rfl
    · exact absurd w1 (h0 _ _)
  · rcases h' with ⟨rfl, h0⟩ | ⟨he', hin', ⟨y1', w1'⟩, ⟨y2', w2'⟩, ⟨x3', w3'⟩, ⟨x4', w4'⟩⟩
    · exact absurd w1 (h0 _ _)
    · have a1 := has_iff.1 (hin' _ _ w1)
      have a2 := has_iff.1 (hin' _ _ w2)
      have a3 := has_iff.1 (hin' _ _ w3)
      have a4 := has_iff.1 (hin' _ _ w4)
      have b1 := has_iff.1 (hin _ _ w1')
      have b2 := has_iff.1 (hin _ _ w2')
      have b3 := has_iff.1 (hin _ _ w3')
      have b4 := has_iff.1 (hin _ _ w4')
      obtain ⟨qx, qy, qa, qb⟩ := q
      obtain ⟨rx, ry, ra, rb⟩ := q'
      simp only at a1 a2 a3 a4 b1 b2 b3 b4
      simp only [Rc.mk.injEq]
      omega

theorem least_step {q r : Rc} {P : Int → Int → Prop} (h : Least q P) : Least (orR q r) (fun x y => P x y ∨ hasR r x y = true) := by
  have hz : emptyR zeroRc = true := by decide
  cases hr : emptyR r
  · have hb := emptyR_false.1 hr
    have c1 : ∀ x y, (r.x ≤ x ∧ x < r.x + r.a) → (r.y ≤ y ∧ y < r.y + r.b) → hasR r x y = true := fun x y h1 h2 => has_iff.2 ⟨hr, h1, h2⟩
    rcases h with ⟨rfl, h0⟩ | ⟨he, hin, ⟨y1, w1⟩, ⟨y2, w2⟩, ⟨x3, w3⟩, ⟨x4, w4⟩⟩
    · rcases or_spec zeroRc r with ⟨_, a, _⟩ | ⟨_, _, e⟩ | ⟨a, _⟩ | ⟨a, _⟩
      · rw [hr] at a; cases a
      · rw [e]
        refine .inr ⟨hr, fun x y h => ?_, ⟨r.y, .inr (c1 _ _ (by omega) (by omega))⟩, ⟨r.y, .inr (c1 _ _ (by omega) (by omega))⟩, ⟨r.x, .inr (c1 _ _ (by omega) (by omega))⟩, ⟨r.x, .inr (c1 _ _ (by omega) (by omega))⟩⟩
        rcases h with h | h
        · exact absurd h (h0 _ _)
        · exact h
      · rw [hz] at a; cases a
      · rw [hz] at a; cases a
    · rcases or_spec q r with ⟨a, _⟩ | ⟨a, _⟩ | ⟨_, a, _⟩ | ⟨_, _, e, d⟩
      · rw [he] at a; cases a
      · rw [he] at a; cases a
      · rw [hr] at a; cases a
      · have hq := emptyR_false.1 he
        have g1 : hasR (orR q r) = hasR (allR q r) := by rw [e]
        refine .inr ⟨by rw [e]; exact d, fun x y h => ?_, ?_, ?_, ?_, ?_⟩
        · rcases h with h | h
          · exact has_or_left (hin _ _ h)
          · exact has_or_right h
        · rw [e]
          rcases Int.le_total q.x r.x with hh | hh
          · exact ⟨y1, .inl (by rw [show (allR q r).x = q.x by simp only [allR]; omega]; exact w1)⟩
          · exact ⟨r.y, .inr (c1 _ _ (by rw [show (allR q r).x = r.x by simp only [allR]; omega]; omega) (by omega))⟩
        · rw [e]
          rcases Int.le_total (r.x + r.a) (q.x + q.a) with hh | hh
          · exact ⟨y2, .inl (by rw [show (allR q r).x + (allR q r).a - 1 = q.x + q.a - 1 by simp only [allR]; omega]; exact w2)⟩
          · exact ⟨r.y, .inr (c1 _ _ (by rw [show (allR q r).x + (allR q r).a - 1 = r.x + r.a - 1 by simp only [allR]; omega]; omega) (by omega))⟩
        · rw [e]
          rcases Int.le_total q.y r.y with hh | hh
          · exact ⟨x3, .inl (by rw [show (allR q r).y = q.y by simp only [allR]; omega]; exact w3)⟩
          · exact ⟨r.x, .inr (c1 _ _ (by omega) (by rw [show (allR q r).y = r.y by simp only [allR]; omega]; omega))⟩
        · rw [e]
          rcases Int.le_total (r.y + r.b) (q.y + q.b) with hh | hh
          · exact ⟨x4, .inl (by rw [show (allR q r).y + (allR q r).b - 1 = q.y + q.b - 1 by simp only [allR]; omega]; exact w4)⟩
          · exact ⟨r.x, .inr (c1 _ _ (by omega) (by rw [show (allR q r).y + (allR q r).b - 1 = r.y + r.b - 1 by simp only [allR]; omega]; omega))⟩
  · have hno : ∀ x y, ¬ hasR r x y = true := fun x y h => by
      have := (has_iff.1 h).1
      rw [hr] at this; cases this
    rcases h with ⟨rfl, h0⟩ | ⟨he, hin, w1, w2, w3, w4⟩
    · rcases or_spec zeroRc r with ⟨_, _, e⟩ | ⟨_, a, _⟩ | ⟨a, _⟩ | ⟨a, _⟩
      · rw [e]
        exact .inl ⟨rfl, fun x y h => h.elim (h0 _ _) (hno _ _)⟩
      · rw [hr] at a; cases a
      · rw [hz] at a; cases a
      · rw [hz] at a; cases a
    · rcases or_spec q r with ⟨a, _⟩ | ⟨a, _⟩ | ⟨_, _, e⟩ | ⟨_, a, _⟩
      · rw [he] at a; cases a
      · rw [he] at a; cases a
      · rw [e]
        exact .inr ⟨he, fun x y h => h.elim (hin _ _) (fun h => absurd h (hno _ _)), w1.imp fun _ h => .inl h, w2.imp fun _ h => .inl h, w3.imp fun _ h => .inl h, w4.imp fun _ h => .inl h⟩
      · rw [hr] at a; cases a

theorem least_bounds (l : List Rc) : Least (boundsL l) (fun x y => pix l x y = true) := by
  have key : ∀ (l : List Rc) (q : Rc) (P : Int → Int → Prop), Least q P → Least (l.foldl orR q) (fun x y => P x y ∨ pix l x y = true) := by
    intro l
    induction l with
    | nil =>
      intro q P h
      have e : (fun x y => P x y ∨ pix [] x y = true) = P := by
        funext x y
        simp [pix]
      rw [e]; exact h
    | cons r l ih =>
      intro q P h
      have h2 := ih _ _ (least_step (r := r) h)
      have e : (fun x y => (P x y ∨ hasR r x y = true) ∨ pix l x y = true) = (fun x y => P x y ∨ pix (r :: l) x y = true) := by
        funext x y
        simp [pix, or_assoc]
      rw [e] at h2
      exact h2
  have h := key l zeroRc (fun _ _ => False) (.inl ⟨rfl, fun _ _ h => h⟩)
  have e : (fun x y => False ∨ pix l x y = true) = (fun x y => pix l x y = true) := by
    funext x y
    simp
  rw [e] at h
  exact h

/-- The bounds of the form are the list's. -/
theorem bounds_form (l : List Rc) : boundsL (formL (fun p _ => p) l []) = boundsL l := by
  have h := least_bounds (formL (fun p _ => p) l [])
  have e : (fun x y => pix (formL (fun p _ => p) l []) x y = true) = (fun x y => pix l x y = true) := by
    funext x y
    rw [pix_ofform]
  rw [e] at h
  exact least_unique h (least_bounds l)

end Go.Proofs.Ytpddkhhdleknnaa
