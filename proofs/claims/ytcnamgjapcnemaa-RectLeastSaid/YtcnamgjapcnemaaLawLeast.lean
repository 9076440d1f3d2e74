/- The walk of the statement RectLeast. -/
import Derived.Test.YtcnamgjapcnemaaRectTwoBoxes
import Derived.Test.YtcnamgjapcnemaaRectWakes
import Derived.Deep.DeepCutAuto
namespace Go.Proofs.Ytcnamgjapcnemaa
open Go.RowKit

theorem full_ne {r : Rc} (h : emptyR r = false) : eqR ⟨r.x, r.y, r.a, r.b⟩ ⟨0, 0, 0, 0⟩ = false := by
  cases he : eqR ⟨r.x, r.y, r.a, r.b⟩ ⟨0, 0, 0, 0⟩
  · rfl
  · have : r = zeroRc := eqR_iff.1 he
    rw [this, zero_empty] at h; cases h
theorem full_or {r s : Rc} (hr : emptyR r = false) (hs : emptyR s = false) : emptyR (orR r s) = false := by
  rcases or_spec r s with ⟨a1, _⟩ | ⟨a1, _⟩ | ⟨_, a2, _⟩ | ⟨_, _, e, h⟩
  · rw [hr] at a1; cases a1
  · rw [hr] at a1; cases a1
  · rw [hs] at a2; cases a2
  · rw [e]; exact h

set_option maxRecDepth 100000 in
set_option maxHeartbeats 4000000 in
theorem least_any (a b c : Rc) (w : World) (ha : Fit a) (hb : Fit b) (hc : Fit c) : Makes Try.prog 7 #[RV a, RV b, RV c] w (.bool true) := by
  unfold Makes
  go_enter Try.func7, Try.ntmps7
  go_wp2_with fail
  refine Calls.mono (or_any _ _ _ ha hb) ?_
  rintro e w1 ⟨rfl, hb1⟩
  have la1 : Lies w1 w.heap.size a := (Lies.new rfl).later (Below.thn (Below.al2 _ _ _) hb1)
  have lb1 : Lies w1 (w.heap.size + 1) b := (Lies.new (by simp)).later (Below.thn (Below.al1 _ _) hb1)
  have lc1 : Lies w1 (w.heap.size + 1 + 1) c := (Lies.new (by simp)).later hb1
  have hbw1 : Below w.heap.size w w1 := Below.thn (Below.al3 _ _ _ _) hb1
  clear hb1
  go_upto_region 2 with fail
  have la : Lies (w1.alloc (RO (orR a b))) w.heap.size a := la1.later (Below.al1 _ _)
  have lb : Lies (w1.alloc (RO (orR a b))) (w.heap.size + 1) b := lb1.later (Below.al1 _ _)
  have lc : Lies (w1.alloc (RO (orR a b))) (w.heap.size + 1 + 1) c := lc1.later (Below.al1 _ _)
  have lo : Lies (w1.alloc (RO (orR a b))) w1.heap.size (orR a b) := Lies.new rfl
  have hbw := Below.thn hbw1 (Below.al1 w1 (RO (orR a b)))
  clear la1 lb1 lc1 hbw1
  generalize w1.heap.size = N at *
  generalize w1.alloc (RO (orR a b)) = W at *
  have hq := eql_rc
  have hq' := neq_rc
  have hg := guard_rc
  have hes := eqR_self
  have hfo : Fit (orR a b) := or_fit ha hb
  have hfbc : Fit (orR b c) := or_fit hb hc
  have HLa := Lib.hid la
  have HLb := Lib.hid lb
  have HLc := Lib.hid lc
  have HLo := Lib.hid lo
  go_cut [31] (fun s31 wx => s31 = .bool false ∧ ∃ n : After W, wx = n.world)
  case first =>
    obtain ⟨a0, a1, a2, a3⟩ := la.rules
    obtain ⟨b0, b1, b2, b3⟩ := lb.rules
    obtain ⟨c0, c1, c2, c3⟩ := lc.rules
    obtain ⟨o0, o1, o2, o3⟩ := lo.rules
    clear la lb lc lo
    have hne := After.ne W
    cases hz : eqR (orR a b) zeroRc
    · have hz' : eqR ⟨(orR a b).x, (orR a b).y, (orR a b).a, (orR a b).b⟩ ⟨0, 0, 0, 0⟩ = false := hz
      cases hac : inR a c
      · refine wp_region_seq ⟨W, Below.refl _ _⟩ ?_
        repeat (go_big_quiet_step ((first
          | (go_at_call 24; exact Makes.after (in_eq _ _ _ (by with_reducible assumption) (by with_reducible assumption) (by with_reducible assumption)))
          | fail)))
        refine wpQuiet_nil ?_
        rintro _ ⟨n1, rfl⟩
        go_wp2_with fail
        go_meet
        exact ⟨rfl, n1, rfl⟩
      · cases hbc : inR b c
        · refine wp_region_seq ⟨W, Below.refl _ _⟩ ?_
          repeat (go_big_quiet_step ((first
            | (go_at_call 24; exact Makes.after (in_eq _ _ _ (by with_reducible assumption) (by with_reducible assumption) (by with_reducible assumption)))
            | fail)))
          refine wpQuiet_nil ?_
          rintro _ ⟨n1, rfl⟩
          go_wp2_with fail
          go_meet
          exact ⟨rfl, n1, rfl⟩
        · have hoc := or_least hac hbc
          refine wp_region_seq ⟨W, Below.refl _ _⟩ ?_
          repeat (go_big_quiet_step ((first
            | (go_at_call 24; exact Makes.after (in_eq _ _ _ (by with_reducible assumption) (by with_reducible assumption) (by with_reducible assumption)))
            | fail)))
          refine wpQuiet_nil ?_
          rintro _ ⟨n1, rfl⟩
          go_wp2_with fail
          go_meet
          exact ⟨rfl, n1, rfl⟩
    · have hz' : eqR ⟨(orR a b).x, (orR a b).y, (orR a b).a, (orR a b).b⟩ ⟨0, 0, 0, 0⟩ = true := hz
      refine wp_region_seq ⟨W, Below.refl _ _⟩ ?_
      repeat (go_big_quiet_step ((first
        | (go_at_call 24; exact Makes.after (in_eq _ _ _ (by with_reducible assumption) (by with_reducible assumption) (by with_reducible assumption)))
        | fail)))
      refine wpQuiet_nil ?_
      rintro _ ⟨n1, rfl⟩
      go_wp2_with fail
      go_meet
      exact ⟨rfl, n1, rfl⟩
  case rest =>
    obtain ⟨rfl, n1, rfl⟩ := hcut
    have la2 := HLa.out.later n1.below
    have lb2 := HLb.out.later n1.below
    have lc2 := HLc.out.later n1.below
    have lo2 := HLo.out.later n1.below
    have hbw2 := Below.thn hbw n1.below
    go_upto_region 4 with fail
    clear la lb lc lo HLa HLb HLc HLo hbw
    generalize n1.world = V at *
    go_cut [8, 9] (fun s8 s9 wx => ∃ B8 B9 : Nat, s8 = .pointer (some ⟨B8, 0, none⟩) ∧ s9 = .pointer (some ⟨B9, 0, none⟩) ∧ Lies wx B8 (orR (orR a b) c) ∧ Lies wx B9 (orR a (orR b c)) ∧ Below V.heap.size V wx)
    case first =>
      obtain ⟨a0, a1, a2, a3⟩ := la2.rules
      obtain ⟨b0, b1, b2, b3⟩ := lb2.rules
      obtain ⟨c0, c1, c2, c3⟩ := lc2.rules
      obtain ⟨o0, o1, o2, o3⟩ := lo2.rules
      clear la2 lb2 lc2 lo2
      have hne := After.ne V
      refine wp_region_boxes2 8 _ _ ZO ZO (by kernel_rfl) (by kernel_rfl) (by kernel_rfl) rfl rfl rfl rfl ?_ ?_ ?_
      · intro a w
        go_simp
      · intro a w
        go_simp
      · repeat (refine Lq_step (fun K hK => ?_); go_simp; first | (refine hK _ ?_; clear hK K) | (apply Exists.intro; refine ⟨fun n => ?_, hK _ ?_⟩; (go_at_call 22; exact or_any _ _ _ (by with_reducible assumption) (by with_reducible assumption)); clear hK K))
        refine Lq_nil ?_
        intro B8 B9 w' k8 k9 hd hb' z8 z9
        have r8 := Room.of_block z8
        have r9 := Room.of_block z9
        clear z8 z9
        have R8 := Lib.hid r8
        have R9 := Lib.hid r9
        obtain ⟨p0, p1, p2, p3, q0, q1, q2, q3⟩ := r8
        obtain ⟨s0, s1, s2, s3, t0, t1, t2, t3⟩ := r9
        have hd1 : (B8 == B9) = false := by simpa using hd
        have hd2 : (B9 == B8) = false := by simpa using Ne.symm hd
        go_wp2_with fail
        go_meet
        have hst := stored_two R8.out R9.out hd (orR (orR a b) c) (orR a (orR b c))
        exact ⟨B8, B9, rfl, rfl, hst.1, hst.2, below_two hb' k8 k9 _ _⟩
    case rest =>
      obtain ⟨B8, B9, rfl, rfl, lx, ly, hbc⟩ := hcut
      obtain ⟨a0, a1, a2, a3⟩ := (la2.later hbc).rules
      obtain ⟨b0, b1, b2, b3⟩ := (lb2.later hbc).rules
      obtain ⟨c0, c1, c2, c3⟩ := (lc2.later hbc).rules
      obtain ⟨o0, o1, o2, o3⟩ := (lo2.later hbc).rules
      obtain ⟨x0, x1, x2, x3⟩ := lx.rules
      obtain ⟨y0, y1, y2, y3⟩ := ly.rules
      have hbw3 := Below.thn hbw2 hbc
      clear la2 lb2 lc2 lo2 lx ly hbc hbw2
      have hne := After.ne wc
      go_upto_region 5 with fail
      have key : (∃ be, (be = true ∨ (emptyR a = false ∧ emptyR b = false ∧ emptyR c = false)) ∧ be = (emptyR a || emptyR b || emptyR c)) := by
        refine ⟨_, ?_, rfl⟩
        cases emptyR a <;> cases emptyR b <;> cases emptyR c <;> simp
      obtain ⟨be, hbe, hbe'⟩ := key
      have HBE := Lib.hid hbe
      have HBE' := Lib.hid hbe'
      clear hbe hbe'
      go_cut [71] (fun s71 wx => s71 = .bool be ∧ ∃ n : After wc, wx = n.world)
      case first =>
        cases hea : emptyR a
        · cases heb : emptyR b
          · cases hec : emptyR c
            · have e1 := full_ne (full_or (full_or hea heb) hec)
              have e2 := full_ne (full_or hea (full_or heb hec))
              have e3 := full_ne (full_or hea heb)
              have e4 := full_ne (full_or heb hec)
              refine wp_region_seq ⟨wc, Below.refl _ _⟩ ?_
              repeat (go_big_quiet_step ((first
                | (go_at_call 11; exact Makes.after (empty_eq _ _ (by with_reducible assumption) (by with_reducible assumption)))
                | (go_at_call 22; exact Makes.after (or_any _ _ _ (by with_reducible assumption) (by with_reducible assumption)))
                | fail)))
              refine wpQuiet_nil ?_
              rintro _ ⟨n3, rfl⟩
              go_wp2_with fail
              go_meet
              exact ⟨by rw [HBE'.out, hea, heb, hec]; rfl, n3, rfl⟩
            · refine wp_region_seq ⟨wc, Below.refl _ _⟩ ?_
              repeat (go_big_quiet_step ((first
                | (go_at_call 11; exact Makes.after (empty_eq _ _ (by with_reducible assumption) (by with_reducible assumption)))
                | (go_at_call 22; exact Makes.after (or_any _ _ _ (by with_reducible assumption) (by with_reducible assumption)))
                | fail)))
              refine wpQuiet_nil ?_
              rintro _ ⟨n3, rfl⟩
              go_wp2_with fail
              go_meet
              exact ⟨by rw [HBE'.out, hea, heb, hec]; rfl, n3, rfl⟩
          · refine wp_region_seq ⟨wc, Below.refl _ _⟩ ?_
            repeat (go_big_quiet_step ((first
              | (go_at_call 11; exact Makes.after (empty_eq _ _ (by with_reducible assumption) (by with_reducible assumption)))
              | (go_at_call 22; exact Makes.after (or_any _ _ _ (by with_reducible assumption) (by with_reducible assumption)))
              | fail)))
            refine wpQuiet_nil ?_
            rintro _ ⟨n3, rfl⟩
            go_wp2_with fail
            go_meet
            exact ⟨by rw [HBE'.out, hea, heb]; rfl, n3, rfl⟩
        · refine wp_region_seq ⟨wc, Below.refl _ _⟩ ?_
          repeat (go_big_quiet_step ((first
            | (go_at_call 11; exact Makes.after (empty_eq _ _ (by with_reducible assumption) (by with_reducible assumption)))
            | (go_at_call 22; exact Makes.after (or_any _ _ _ (by with_reducible assumption) (by with_reducible assumption)))
            | fail)))
          refine wpQuiet_nil ?_
          rintro _ ⟨n3, rfl⟩
          go_wp2_with fail
          go_meet
          exact ⟨by rw [HBE'.out, hea]; rfl, n3, rfl⟩
      case rest =>
        obtain ⟨rfl, n3, rfl⟩ := hcut
        cases be
        · have hfull := HBE.out
          simp only [Bool.false_eq_true, false_or] at hfull
          have hassoc := or_assoc_full hfull.1 hfull.2.1 hfull.2.2
          clear hfull
          go_upto_region 7 with fail
          refine wp_region_seq n3 ?_
          repeat (go_big_quiet_step ((first
            | (go_at_call 19; exact Makes.after (wakes_any _))
            | fail)))
          refine wpQuiet_nil ?_
          rintro _ ⟨n4, rfl⟩
          go_wp2
          go_ret
          exact ⟨rfl, Below.thn hbw3 n4.below⟩
        · go_wp2_with fail
          refine Calls.mono (wakes_any _) ?_
          rintro e w2 ⟨rfl, hb2⟩
          go_wp2
          go_ret
          exact ⟨rfl, Below.thn hbw3 (Below.thn n3.below hb2)⟩

end Go.Proofs.Ytcnamgjapcnemaa
