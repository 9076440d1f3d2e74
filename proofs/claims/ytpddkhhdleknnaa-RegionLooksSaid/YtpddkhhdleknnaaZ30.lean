/- Several texts in one, each with its own head. -/
import Derived.Test.YtpddkhhdleknnaaZ4
/- The walks of the document's own answers for rectangles (And, Or, In): each is the same rectangle as the program's. -/
namespace Go.Proofs.Ytpddkhhdleknnaa
open Go.RowKit

theorem max_keep (ts : Array TypeId) (t : TypeId) (k k' : IntKind) (x y : Int) (w : World) : (Builtin.max_ ts t #[.int k x, .int k' y]).run Try.prog w = .ok (.int k (max x y)) w := by
  rw [run_max_int2]; congr 2; split <;> omega
theorem min_keep (ts : Array TypeId) (t : TypeId) (k k' : IntKind) (x y : Int) (w : World) : (Builtin.min_ ts t #[.int k x, .int k' y]).run Try.prog w = .ok (.int k (min x y)) w := by
  rw [run_min_int2]; congr 2; split <;> omega

theorem andR_zero {r s : Rc} (h : min (r.x + r.a) (s.x + s.a) - max r.x s.x ≤ 0 ∨ min (r.y + r.b) (s.y + s.b) - max r.y s.y ≤ 0) : andR r s = zeroRc := by
  unfold andR
  split
  · rfl
  split
  · rfl
  split
  · rfl
  · rename_i h1
    have h2 := emptyR_false.1 (by simpa using h1)
    simp only [midR] at h2
    omega
theorem andR_mid {r s : Rc} (hr : emptyR r = false) (hs : emptyR s = false) (h : 0 < min (r.x + r.a) (s.x + s.a) - max r.x s.x) (h' : 0 < min (r.y + r.b) (s.y + s.b) - max r.y s.y) : andR r s = midR r s := by
  have h1 := emptyR_false.1 hr
  have h2 := emptyR_false.1 hs
  have h3 : emptyR (midR r s) = false := emptyR_false.2 (by simp only [midR]; omega)
  simp [andR, hr, hs, h3]

set_option maxHeartbeats 1000000 in
theorem rand_any (r s : Rc) (w : World) : Makes Try.prog 118 #[RV r, RV s] w (RV (andR r s)) := by
  unfold Makes
  go_enter Try.func118, Try.ntmps118
  go_wp2_with fail
  refine Calls.mono (rempty_any _ _) ?_
  rintro e w1 ⟨rfl, hb1⟩
  have hbw : Below w.heap.size w w1 := Below.thn (Below.al3 _ _ _ _) hb1
  have hl : Lies w1 w.heap.size r := (Lies.new rfl).later (Below.thn (Below.al2 _ _ _) hb1)
  have hm : Lies w1 (w.heap.size + 1) s := (Lies.new (by simp)).later (Below.thn (Below.al1 _ _) hb1)
  have hrm : Room w1 (w.heap.size + 1 + 1) := (Room.new (by simp)).later hb1
  have HL := Lib.hid hl
  have HM := Lib.hid hm
  have Hrm := Lib.hid hrm
  cases her : emptyR r
  · have Her := Lib.hid her
    clear her hrm hl
    obtain ⟨d0, d1, d2, d3⟩ := hm
    go_wp2_with fail
    refine Calls.mono (rempty_any _ _) ?_
    rintro e w2 ⟨rfl, hb2⟩
    have hbw2 := Below.thn hbw hb2
    clear d0 d1 d2 d3
    have hrm2 := Hrm.out.later hb2
    have Hrm2 := Lib.hid hrm2
    obtain ⟨rc0, rc1, rc2, rc3, rf0, rf1, rf2, rf3⟩ := hrm2
    cases hes : emptyR s
    · have Hes := Lib.hid hes
      clear hes
      obtain ⟨c0, c1, c2, c3⟩ := HL.out.later hb2
      obtain ⟨d0, d1, d2, d3⟩ := HM.out.later hb2
      obtain ⟨⟨g1, g2, g3⟩, g4, g5, g6⟩ := emptyR_false.1 Her.out
      obtain ⟨⟨k1, k2, k3⟩, k4, k5, k6⟩ := emptyR_false.1 Hes.out
      have hmax := max_keep
      have hmin := min_keep
      have m1 : -2097152 ≤ min (r.x + r.a) (s.x + s.a) - max r.x s.x := by omega
      have m2 : min (r.x + r.a) (s.x + s.a) - max r.x s.x ≤ 2097152 := by omega
      have m3 : -2097152 ≤ min (r.y + r.b) (s.y + s.b) - max r.y s.y := by omega
      have m4 : min (r.y + r.b) (s.y + s.b) - max r.y s.y ≤ 2097152 := by omega
      go_wp2
      go_quiet (fail)
      clear c0 c1 c2 c3 d0 d1 d2 d3 rc0 rc1 rc2 rc3 rf0 rf1 rf2 rf3
      have hb3 : Below w1.heap.size w1 (w2.drewN nq) := Below.drewN' hb2 nq
      clear hb2 hbw2 Hrm2
      generalize w2.drewN nq = w3 at *
      have hbw3 := Below.thn hbw hb3
      have Hrm3 := Lib.hid (Hrm.out.later (Below.thn hb3 (Below.al1 w3 (.cells #[.int .i64 (midR r s).x, .int .i64 (midR r s).y, .int .i64 (midR r s).a, .int .i64 (midR r s).b] 30))))
      obtain ⟨c0, c1, c2, c3⟩ := HL.out.later hb3
      obtain ⟨d0, d1, d2, d3⟩ := HM.out.later hb3
      have hrm3 : Room (w3.alloc (.cells #[.int .i64 (max r.x s.x), .int .i64 (max r.y s.y), .int .i64 (min (r.x + r.a) (s.x + s.a) - max r.x s.x), .int .i64 (min (r.y + r.b) (s.y + s.b) - max r.y s.y)] 30)) (w.heap.size + 1 + 1) := Hrm3.out
      obtain ⟨rc0, rc1, rc2, rc3, rf0, rf1, rf2, rf3⟩ := hrm3
      have hbw4 := Below.thn hbw3 (Below.al1 w3 (.cells #[.int .i64 (midR r s).x, .int .i64 (midR r s).y, .int .i64 (midR r s).a, .int .i64 (midR r s).b] 30))
      by_cases e1 : min (r.x + r.a) (s.x + s.a) - max r.x s.x ≤ 0
      · go_wp2
        exact bodyPost_ret (v := RV zeroRc) (results_rc Try.results118 rfl (Lies.stored Hrm3.out zeroRc)) rfl ⟨by rw [andR_zero (Or.inl e1)], hbw4.trans ((Below.stored zeroRc).mono (by omega))⟩
      · by_cases e2 : min (r.y + r.b) (s.y + s.b) - max r.y s.y ≤ 0
        · go_wp2
          exact bodyPost_ret (v := RV zeroRc) (results_rc Try.results118 rfl (Lies.stored Hrm3.out zeroRc)) rfl ⟨by rw [andR_zero (Or.inr e2)], hbw4.trans ((Below.stored zeroRc).mono (by omega))⟩
        · go_wp2
          exact bodyPost_ret (v := RV (midR r s)) (results_rc Try.results118 rfl (Lies.stored Hrm3.out (midR r s))) rfl ⟨by rw [andR_mid Her.out Hes.out (by omega) (by omega)], hbw4.trans ((Below.stored (midR r s)).mono (by omega))⟩
    · have Hes := Lib.hid hes
      clear hes
      go_wp2
      exact bodyPost_ret (v := RV zeroRc) (results_rc Try.results118 rfl (Lies.stored Hrm2.out zeroRc)) rfl ⟨by simp [andR, Hes.out], hbw2.trans ((Below.stored zeroRc).mono (by omega))⟩
  · have Her := Lib.hid her
    clear her hl hm
    obtain ⟨rc0, rc1, rc2, rc3, rf0, rf1, rf2, rf3⟩ := hrm
    go_wp2
    exact bodyPost_ret (v := RV zeroRc) (results_rc Try.results118 rfl (Lies.stored Hrm.out zeroRc)) rfl ⟨by simp [andR, Her.out], hbw.trans ((Below.stored zeroRc).mono (by omega))⟩

set_option maxHeartbeats 1000000 in
theorem ror_any (r s : Rc) (w : World) : Makes Try.prog 77 #[RV r, RV s] w (RV (orR r s)) := by
  unfold Makes
  go_enter Try.func77, Try.ntmps77
  go_wp2_with fail
  refine Calls.mono (rempty_any _ _) ?_
  rintro e w1 ⟨rfl, hb1⟩
  have hbw : Below w.heap.size w w1 := Below.thn (Below.al3 _ _ _ _) hb1
  have hl : Lies w1 w.heap.size r := (Lies.new rfl).later (Below.thn (Below.al2 _ _ _) hb1)
  have hm : Lies w1 (w.heap.size + 1) s := (Lies.new (by simp)).later (Below.thn (Below.al1 _ _) hb1)
  have hrm : Room w1 (w.heap.size + 1 + 1) := (Room.new (by simp)).later hb1
  have HL := Lib.hid hl
  have HM := Lib.hid hm
  have Hrm := Lib.hid hrm
  cases her : emptyR r
  · have Her := Lib.hid her
    clear her hrm hm
    obtain ⟨d0, d1, d2, d3⟩ := hl
    go_wp2_with fail
    refine Calls.mono (rempty_any _ _) ?_
    rintro e w2 ⟨rfl, hb2⟩
    rw [Her.out]
    have hbw2 := Below.thn hbw hb2
    clear d0 d1 d2 d3
    obtain ⟨d0, d1, d2, d3⟩ := HM.out.later hb2
    go_wp2_with fail
    refine Calls.mono (rempty_any _ _) ?_
    rintro e w3 ⟨rfl, hb3⟩
    have hbw3 := Below.thn hbw2 hb3
    clear d0 d1 d2 d3
    cases hes : emptyR s
    · have Hes := Lib.hid hes
      clear hes
      obtain ⟨c0, c1, c2, c3⟩ := (HL.out.later hb2).later hb3
      obtain ⟨d0, d1, d2, d3⟩ := (HM.out.later hb2).later hb3
      obtain ⟨⟨g1, g2, g3⟩, g4, g5, g6⟩ := emptyR_false.1 Her.out
      obtain ⟨⟨k1, k2, k3⟩, k4, k5, k6⟩ := emptyR_false.1 Hes.out
      have hmax := max_keep
      have hmin := min_keep
      have m1 : -2097152 ≤ max (r.x + r.a) (s.x + s.a) - min r.x s.x := by omega
      have m2 : max (r.x + r.a) (s.x + s.a) - min r.x s.x ≤ 2097152 := by omega
      have m3 : -2097152 ≤ max (r.y + r.b) (s.y + s.b) - min r.y s.y := by omega
      have m4 : max (r.y + r.b) (s.y + s.b) - min r.y s.y ≤ 2097152 := by omega
      go_wp2
      go_quiet (fail)
      clear c0 c1 c2 c3 d0 d1 d2 d3
      have hb4 : Below w1.heap.size w1 (w3.drewN nq) := Below.drewN' (Below.thn hb2 hb3) nq
      clear hb2 hb3 hbw2 hbw3
      generalize w3.drewN nq = w4 at *
      have hbw4 := Below.thn hbw hb4
      obtain ⟨c0, c1, c2, c3⟩ := HL.out.later hb4
      obtain ⟨d0, d1, d2, d3⟩ := HM.out.later hb4
      have hrm4 := Hrm.out.later hb4
      have Hrm4 := Lib.hid hrm4
      obtain ⟨rc0, rc1, rc2, rc3, rf0, rf1, rf2, rf3⟩ := hrm4
      go_wp2
      exact bodyPost_ret (v := RV (allR r s)) (results_rc Try.results77 rfl (Lies.stored Hrm4.out (allR r s))) rfl ⟨by simp [orR, Her.out, Hes.out], hbw4.trans ((Below.stored (allR r s)).mono (by omega))⟩
    · have Hes := Lib.hid hes
      clear hes
      have hrm3 := (Hrm.out.later hb2).later hb3
      have Hrm3 := Lib.hid hrm3
      obtain ⟨rc0, rc1, rc2, rc3, rf0, rf1, rf2, rf3⟩ := hrm3
      obtain ⟨d0, d1, d2, d3⟩ := (HL.out.later hb2).later hb3
      go_wp2
      exact bodyPost_ret (v := RV r) (results_rc Try.results77 rfl (Lies.stored Hrm3.out r)) rfl ⟨by simp [orR, Her.out, Hes.out], hbw3.trans ((Below.stored r).mono (by omega))⟩
  · have Her := Lib.hid her
    clear her hrm hl
    obtain ⟨d0, d1, d2, d3⟩ := hm
    go_wp2_with fail
    refine Calls.mono (rempty_any _ _) ?_
    rintro e w2 ⟨rfl, hb2⟩
    have hbw2 := Below.thn hbw hb2
    clear d0 d1 d2 d3
    cases hes : emptyR s
    · have Hes := Lib.hid hes
      clear hes
      obtain ⟨d0, d1, d2, d3⟩ := HL.out.later hb2
      go_wp2_with fail
      refine Calls.mono (rempty_any _ _) ?_
      rintro e w3 ⟨rfl, hb3⟩
      rw [Her.out]
      have hbw3 := Below.thn hbw2 hb3
      clear d0 d1 d2 d3
      have hrm3 := (Hrm.out.later hb2).later hb3
      have Hrm3 := Lib.hid hrm3
      obtain ⟨rc0, rc1, rc2, rc3, rf0, rf1, rf2, rf3⟩ := hrm3
      obtain ⟨d0, d1, d2, d3⟩ := (HM.out.later hb2).later hb3
      go_wp2
      exact bodyPost_ret (v := RV s) (results_rc Try.results77 rfl (Lies.stored Hrm3.out s)) rfl ⟨by simp [orR, Her.out, Hes.out], hbw3.trans ((Below.stored s).mono (by omega))⟩
    · have Hes := Lib.hid hes
      clear hes
      have hrm2 := Hrm.out.later hb2
      have Hrm2 := Lib.hid hrm2
      obtain ⟨rc0, rc1, rc2, rc3, rf0, rf1, rf2, rf3⟩ := hrm2
      go_wp2
      exact bodyPost_ret (v := RV zeroRc) (results_rc Try.results77 rfl (Lies.stored Hrm2.out zeroRc)) rfl ⟨by simp [orR, Her.out, Hes.out], hbw2.trans ((Below.stored zeroRc).mono (by omega))⟩

end Go.Proofs.Ytpddkhhdleknnaa

/- The walk of the document's own answer for In. -/
namespace Go.Proofs.Ytpddkhhdleknnaa
open Go.RowKit

set_option maxHeartbeats 800000 in
theorem rin_any (r s : Rc) (w : World) : Makes Try.prog 89 #[RV r, RV s] w (.bool (inR r s)) := by
  unfold Makes
  go_enter Try.func89, Try.ntmps89
  go_wp2
  have hl : Lies ((w.alloc (.cells #[.int .i64 r.x, .int .i64 r.y, .int .i64 r.a, .int .i64 r.b] 30)).alloc (.cells #[.int .i64 s.x, .int .i64 s.y, .int .i64 s.a, .int .i64 s.b] 30)) w.heap.size r := (Lies.new rfl).later (Below.al1 _ _)
  have hm : Lies ((w.alloc (.cells #[.int .i64 r.x, .int .i64 r.y, .int .i64 r.a, .int .i64 r.b] 30)).alloc (.cells #[.int .i64 s.x, .int .i64 s.y, .int .i64 s.a, .int .i64 s.b] 30)) (w.heap.size + 1) s := Lies.new (by simp)
  have hbw := Below.al2 w (.cells #[.int .i64 r.x, .int .i64 r.y, .int .i64 r.a, .int .i64 r.b] 30) (.cells #[.int .i64 s.x, .int .i64 s.y, .int .i64 s.a, .int .i64 s.b] 30)
  generalize ((w.alloc (.cells #[.int .i64 r.x, .int .i64 r.y, .int .i64 r.a, .int .i64 r.b] 30)).alloc (.cells #[.int .i64 s.x, .int .i64 s.y, .int .i64 s.a, .int .i64 s.b] 30)) = W at *
  have c0 := After.cell hl.c0
  have c1 := After.cell hl.c1
  have c2 := After.cell hl.c2
  have c3 := After.cell hl.c3
  have d0 := After.cell hm.c0
  have d1 := After.cell hm.c1
  have d2 := After.cell hm.c2
  have d3 := After.cell hm.c3
  clear hl hm
  have hne := After.ne W
  have hq := eql_rc
  have hg := guard_rc
  cases her : emptyR r
  · have hE : ∀ w1, Makes Try.prog 88 #[RV r] w1 (.bool false) := fun w1 => her ▸ rempty_any r w1
    have HE := Lib.hid hE
    have Her := Lib.hid her
    clear hE her
    refine wp_region_after (by kernel_rfl) (by kernel_rfl) ?_
    repeat (go_big_quiet_step ((first | (go_at_call 88; exact Makes.after (HE.out _)) | (go_at_call 118; exact Makes.after (rand_any _ _ _)))))
    refine wpQuiet_nil ?_
    rintro _ ⟨nq, rfl⟩
    go_wp2
    go_ret
    exact ⟨ret_bool (show eqR (andR r s) r = inR r s from by simp [inR, Her.out]), Below.thn hbw nq.below⟩
  · have hE : ∀ w1, Makes Try.prog 88 #[RV r] w1 (.bool true) := fun w1 => her ▸ rempty_any r w1
    have HE := Lib.hid hE
    have Her := Lib.hid her
    clear hE her
    refine wp_region_after (by kernel_rfl) (by kernel_rfl) ?_
    repeat (go_big_quiet_step ((go_at_call 88; exact Makes.after (HE.out _))))
    refine wpQuiet_nil ?_
    rintro _ ⟨nq, rfl⟩
    go_wp2
    go_ret
    exact ⟨ret_bool (by simp [inR, Her.out]), Below.thn hbw nq.below⟩

end Go.Proofs.Ytpddkhhdleknnaa
