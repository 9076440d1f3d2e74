/- Several texts in one, each with its own head. -/
import Derived.Test.YtpddkhhdleknnaaZ1
import Derived.Test.YtpddkhhdleknnaaZ3
/- Regions that draw their order and whose calls only make memory: one walk in the order of the text. Nothing here speaks of one program. -/
namespace Go.Proofs.Ytpddkhhdleknnaa
open Go.RowKit

/-- A world in which all that w had is as it was. -/
structure After (w : World) where
  world : World
  below : Below w.heap.size w world

theorem After.ne (w : World) : Nonempty (After w) := ⟨⟨w, Below.refl _ _⟩⟩

theorem After.cell {w : World} {a : Addr} {v : Value} (h : w.cell? a = some v) (n : After w) : n.world.cell? a = some v := cell_later n.below h

/-- A call that only makes memory, met in such a world. -/
theorem Makes.after {P : Program} {f : FuncId} {args : Array Value} {w : World} {v : Value} {n : After w} (h : Makes P f args n.world v) :
    Calls P f args n.world fun e w'' => e = .returned v ∧ ∃ m : After w, w'' = m.world :=
  Calls.mono h fun _ w'' ⟨he, hb⟩ => ⟨he, ⟨w'', Below.thn n.below hb⟩, rfl⟩

theorem wp_region_after {P : Program} {id : Nat} {Q : Exit → Act → World → Prop} {a : Act} {w : World} {l : List Oper} (hm : P.follows .mixedOrders = true) (hB : Region.lexB .any l.toArray = true)
    (h : wpQuiet P l.toArray (fun w' => ∃ n : After w, w' = n.world) (fun a' => ∀ w', (∃ n : After w, w' = n.world) → Q .normal a' w') l a) : (Code.region id l.toArray true).wp P Q a w :=
  wp_region_quiet (C := fun w' => ∃ n : After w, w' = n.world) hm hB ⟨⟨w.drew, Below.drew (Below.refl _ _)⟩, rfl⟩ (by simpa using h)

theorem After.rule {W : World} {a : Addr} {v : Value} (h : W.cell? a = some v) : ∀ n : After W, n.world.cell? a = some v := fun n => cell_later n.below h

/-- The same from a world of the class on, behind an earlier region. -/
theorem wp_region_in {P : Program} {id : Nat} {Q : Exit → Act → World → Prop} {a : Act} {W : World} {l : List Oper} (n : After W) (hm : P.follows .mixedOrders = true) (hB : Region.lexB .any l.toArray = true)
    (h : wpQuiet P l.toArray (fun w' => ∃ m : After W, w' = m.world) (fun a' => ∀ w', (∃ m : After W, w' = m.world) → Q .normal a' w') l a) : (Code.region id l.toArray true).wp P Q a n.world :=
  wp_region_quiet (C := fun w' => ∃ m : After W, w' = m.world) hm hB ⟨⟨n.world.drew, Below.drew n.below⟩, rfl⟩ (by simpa using h)

theorem wpList_of_quiet {P : Program} {ops : Array Oper} {C : World → Prop} {Q : Act → Prop} {Q' : Exit → Act → World → Prop} (hQ : ∀ a w, C w → Q a → Q' .normal a w) : ∀ (l : List Oper) (a : Act) (w : World), C w → wpQuiet P ops C Q l a → wpList P ops Q' l a w
  | [], _, _, hw, h => hQ _ _ hw h
  | o :: rest, a, w, hw, h => by
    unfold wpQuiet at h
    unfold wpList
    split
    · rename_i hh
      rw [if_pos hh] at h
      exact Or.inl (Oper.wp_of_quiet hw (fun a' w' hw' hk => wpList_of_quiet hQ rest a' w' hw' hk) h)
    · rename_i hh
      rw [if_neg hh] at h
      exact wpList_of_quiet hQ rest _ w hw h

/-- A region whose order is the text's: the same walk. -/
theorem wp_region_seq {P : Program} {id : Nat} {Q : Exit → Act → World → Prop} {a : Act} {W : World} {l : List Oper} (n : After W)
    (h : wpQuiet P l.toArray (fun w' => ∃ m : After W, w' = m.world) (fun a' => ∀ w', (∃ m : After W, w' = m.world) → Q .normal a' w') l a) : (Code.region id l.toArray false).wp P Q a n.world :=
  wp_region_lit (wpList_of_quiet (C := fun w' => ∃ m : After W, w' = m.world) (fun _ w' hw' h => h w' hw') _ _ _ ⟨n, rfl⟩ h)

end Go.Proofs.Ytpddkhhdleknnaa

/- The walk of package rect's In: what it answers. -/
namespace Go.Proofs.Ytpddkhhdleknnaa
open Go.RowKit

theorem Lies.after {w : World} {B : Nat} {r : Rc} (h : Lies w B r) (n : After w) : Lies n.world B r := h.later n.below

set_option maxHeartbeats 800000 in
theorem in_any (r s : Rc) (w : World) (hfr : Fit r) (hfs : Fit s) : Makes Try.prog 54 #[RV r, RV s] w (.bool (inR r s)) := by
  unfold Makes
  go_enter Try.func54, Try.ntmps54
  go_wp2
  have hl : Lies ((w.alloc (.cells #[.int .i64 r.x, .int .i64 r.y, .int .i64 r.a, .int .i64 r.b] 30)).alloc (.cells #[.int .i64 s.x, .int .i64 s.y, .int .i64 s.a, .int .i64 s.b] 30)) w.heap.size r := (Lies.new rfl).later (Below.al1 _ _)
  have hm : Lies ((w.alloc (.cells #[.int .i64 r.x, .int .i64 r.y, .int .i64 r.a, .int .i64 r.b] 30)).alloc (.cells #[.int .i64 s.x, .int .i64 s.y, .int .i64 s.a, .int .i64 s.b] 30)) (w.heap.size + 1) s := Lies.new (by simp)
  have hbw := Below.al2 w (.cells #[.int .i64 r.x, .int .i64 r.y, .int .i64 r.a, .int .i64 r.b] 30) (.cells #[.int .i64 s.x, .int .i64 s.y, .int .i64 s.a, .int .i64 s.b] 30)
  generalize ((w.alloc (.cells #[.int .i64 r.x, .int .i64 r.y, .int .i64 r.a, .int .i64 r.b] 30)).alloc (.cells #[.int .i64 s.x, .int .i64 s.y, .int .i64 s.a, .int .i64 s.b] 30)) = W at *
  have c0 := After.cell hl.c0
  have c1 := After.cell hl.c1
  have c2 := After.cell hl.c2
  have c3 := After.cell hl.c3
  have d0 := After.cell hm.c0
  have d1 := After.cell hm.c1
  have d2 := After.cell hm.c2
  have d3 := After.cell hm.c3
  clear hl hm
  have hne := After.ne W
  have hq := eql_rc
  have hg := guard_rc
  cases her : emptyR r
  · have hE : ∀ w1, Makes Try.prog 64 #[RV r] w1 (.bool false) := fun w1 => her ▸ empty_any r w1 hfr
    have HE := Lib.hid hE
    have Her := Lib.hid her
    clear hE her
    refine wp_region_after (by kernel_rfl) (by kernel_rfl) ?_
    repeat (go_big_quiet_step ((first | (go_at_call 64; exact Makes.after (HE.out _)) | (go_at_call 83; exact Makes.after (and_any _ _ _ hfr hfs)))))
    refine wpQuiet_nil ?_
    rintro _ ⟨nq, rfl⟩
    go_wp2
    go_ret
    exact ⟨ret_bool (show eqR (andR r s) r = inR r s from by simp [inR, Her.out]), Below.thn hbw nq.below⟩
  · have hE : ∀ w1, Makes Try.prog 64 #[RV r] w1 (.bool true) := fun w1 => her ▸ empty_any r w1 hfr
    have HE := Lib.hid hE
    have Her := Lib.hid her
    clear hE her
    refine wp_region_after (by kernel_rfl) (by kernel_rfl) ?_
    repeat (go_big_quiet_step ((go_at_call 64; exact Makes.after (HE.out _))))
    refine wpQuiet_nil ?_
    rintro _ ⟨nq, rfl⟩
    go_wp2
    go_ret
    exact ⟨ret_bool (by simp [inR, Her.out]), Below.thn hbw nq.below⟩

end Go.Proofs.Ytpddkhhdleknnaa

/- The walks of the document's own answers for rectangles (Good, Empty, Has, Area): each is the same number as the program's. -/
namespace Go.Proofs.Ytpddkhhdleknnaa
open Go.RowKit

theorem goodR_false {r : Rc} (h : ¬ ((-1048576 ≤ r.x ∧ 0 ≤ r.a ∧ r.a ≤ 1048576 - r.x) ∧ (-1048576 ≤ r.y ∧ 0 ≤ r.b ∧ r.b ≤ 1048576 - r.y))) : goodR r = false := by
  cases hg : goodR r
  · rfl
  · exact absurd (goodR_iff.1 hg) h

theorem hasR_empty {r : Rc} {x y : Int} (h : emptyR r = true) : hasR r x y = false := by
  cases hh : hasR r x y
  · rfl
  · have h1 : goodR r = true ∧ (r.x ≤ x ∧ x < r.x + r.a) ∧ (r.y ≤ y ∧ y < r.y + r.b) := by simpa [hasR, wayHas] using hh
    have h2 := goodR_iff.1 h1.1
    have h3 : emptyR r = false := emptyR_false.2 (by omega)
    rw [h3] at h; cases h

set_option maxHeartbeats 1000000 in
theorem rgood_any (r : Rc) (w : World) : Makes Try.prog 112 #[RV r] w (.bool (goodR r)) := by
  unfold Makes
  go_enter Try.func112, Try.ntmps112
  go_wp2
  all_goals (go_ret; exact ⟨ret_bool (by rw [Bool.eq_iff_iff, goodR_iff]; simp; omega), Below.al1 _ _⟩)

set_option maxHeartbeats 400000 in
theorem rempty_any (r : Rc) (w : World) : Makes Try.prog 88 #[RV r] w (.bool (emptyR r)) := by
  unfold Makes
  go_enter Try.func88, Try.ntmps88
  go_wp2_with fail
  refine Calls.mono (rgood_any _ _) ?_
  rintro e w1 ⟨rfl, hb1⟩
  have hbw : Below w.heap.size w w1 := Below.thn (Below.al1 _ _) hb1
  obtain ⟨hc0, hc1, hc2, hc3⟩ : Lies w1 w.heap.size r := (Lies.new rfl).later hb1
  cases hg : goodR r
  · have Hg := Lib.hid hg
    clear hg
    go_wp2
    go_ret
    exact ⟨ret_bool (by simp [emptyR, Hg.out]), hbw⟩
  · have Hg := Lib.hid hg
    obtain ⟨⟨g1, g2, g3⟩, g4, g5, g6⟩ := goodR_iff.1 hg
    clear hg
    go_wp2
    all_goals (go_ret; exact ⟨ret_bool (by rw [Bool.eq_iff_iff]; simp [emptyR, Hg.out, fullR, wayFull]; omega), hbw⟩)

set_option maxHeartbeats 1000000 in
theorem rhas_any (r : Rc) (x y : Int) (w : World) : Makes Try.prog 70 #[RV r, .int .i64 x, .int .i64 y] w (.bool (hasR r x y)) := by
  unfold Makes
  go_enter Try.func70, Try.ntmps70
  go_wp2_with fail
  refine Calls.mono (rempty_any _ _) ?_
  rintro e w1 ⟨rfl, hb1⟩
  have hbw : Below w.heap.size w w1 := Below.thn (Below.al1 _ _) hb1
  obtain ⟨hc0, hc1, hc2, hc3⟩ : Lies w1 w.heap.size r := (Lies.new rfl).later hb1
  cases hg : emptyR r
  · have Hg := Lib.hid hg
    have Hgd := Lib.hid (good_of_empty hg)
    obtain ⟨⟨g1, g2, g3⟩, g4, g5, g6⟩ := emptyR_false.1 hg
    clear hg
    go_wp2
    all_goals (go_ret; exact ⟨ret_bool (by rw [Bool.eq_iff_iff]; simp [hasR, Hgd.out, wayHas]; omega), hbw⟩)
  · have Hg := Lib.hid hg
    clear hg
    go_wp2
    go_ret
    exact ⟨ret_bool (by rw [hasR_empty Hg.out]), hbw⟩

end Go.Proofs.Ytpddkhhdleknnaa
