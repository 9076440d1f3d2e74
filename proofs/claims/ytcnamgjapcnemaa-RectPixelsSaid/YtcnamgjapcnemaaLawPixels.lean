/- The walk of the statement RectPixels. -/
import Derived.Test.YtcnamgjapcnemaaRectTwoBoxes
import Derived.Test.YtcnamgjapcnemaaRectWakes
import Derived.Deep.DeepCutAuto
namespace Go.Proofs.Ytcnamgjapcnemaa
open Go.RowKit

set_option maxRecDepth 100000 in
set_option maxHeartbeats 4000000 in
theorem pixels_any (a b : Rc) (x y : Int) (w : World) (ha : Fit a) (hb : Fit b) : Makes Try.prog 5 #[RV a, RV b, .int .i64 x, .int .i64 y] w (.bool true) := by
  unfold Makes
  go_enter Try.func5, Try.ntmps5
  go_upto_region 1 with fail
  have hl : Lies ((w.alloc (RO a)).alloc (RO b)) w.heap.size a := (Lies.new rfl).later (Below.al1 _ _)
  have hm : Lies ((w.alloc (RO a)).alloc (RO b)) (w.heap.size + 1) b := Lies.new (by simp)
  have hbw := Below.al2 w (RO a) (RO b)
  generalize (w.alloc (RO a)).alloc (RO b) = W at *
  go_cut [9, 10] (fun s9 s10 wx => ∃ B9 B10 : Nat, s9 = .pointer (some ⟨B9, 0, none⟩) ∧ s10 = .pointer (some ⟨B10, 0, none⟩) ∧ Lies wx B9 (andR a b) ∧ Lies wx B10 (orR a b) ∧ Below W.heap.size W wx)
  case first =>
    obtain ⟨a0, a1, a2, a3⟩ := hl.rules
    obtain ⟨b0, b1, b2, b3⟩ := hm.rules
    clear hl hm
    have hne := After.ne W
    refine wp_region_boxes2 6 _ _ ZO ZO (by kernel_rfl) (by kernel_rfl) (by kernel_rfl) rfl rfl rfl rfl ?_ ?_ ?_
    · intro a w
      go_simp
    · intro a w
      go_simp
    · repeat (refine Lq_step (fun K hK => ?_); go_simp; first | (refine hK _ ?_; clear hK K) | (apply Exists.intro; refine ⟨fun n => ?_, hK _ ?_⟩; (first | (go_at_call 20; exact and_any _ _ _ ha hb) | (go_at_call 22; exact or_any _ _ _ ha hb)); clear hK K))
      refine Lq_nil ?_
      intro B9 B10 w' k9 k10 hd hb' z9 z10
      have r9 := Room.of_block z9
      have r10 := Room.of_block z10
      clear z9 z10
      have R9 := Lib.hid r9
      have R10 := Lib.hid r10
      obtain ⟨p0, p1, p2, p3, q0, q1, q2, q3⟩ := r9
      obtain ⟨s0, s1, s2, s3, t0, t1, t2, t3⟩ := r10
      have hd1 : (B9 == B10) = false := by simpa using hd
      have hd2 : (B10 == B9) = false := by simpa using Ne.symm hd
      go_wp2_with fail
      go_meet
      have hst := stored_two R9.out R10.out hd (andR a b) (orR a b)
      exact ⟨B9, B10, rfl, rfl, hst.1, hst.2, below_two hb' k9 k10 _ _⟩
  case rest =>
    obtain ⟨B9, B10, rfl, rfl, hc, ho, hbc⟩ := hcut
    obtain ⟨a0, a1, a2, a3⟩ := (hl.later hbc).rules
    obtain ⟨b0, b1, b2, b3⟩ := (hm.later hbc).rules
    obtain ⟨c0, c1, c2, c3⟩ := hc.rules
    obtain ⟨o0, o1, o2, o3⟩ := ho.rules
    have hbw2 := Below.thn hbw hbc
    clear hl hm hc ho hbc hbw
    have hne := After.ne wc
    have hq := eql_rc
    have hq' := neq_rc
    have hg := guard_rc
    have hes := eqR_self
    have hfc : Fit (andR a b) := and_fit a b
    have hfo : Fit (orR a b) := or_fit ha hb
    obtain ⟨pb, hpb⟩ : ∃ pb, hasR a x y = pb := ⟨_, rfl⟩
    obtain ⟨qb, hqb⟩ : ∃ qb, hasR b x y = qb := ⟨_, rfl⟩
    go_upto_region 2 with fail
    refine wp_region_in ⟨wc, Below.refl _ _⟩ (by kernel_rfl) (by kernel_rfl) ?_
    repeat (go_big_quiet_step ((go_at_call 13; exact Makes.after (has_eq _ _ _ _ (by with_reducible assumption) (by with_reducible assumption)))))
    refine wpQuiet_nil ?_
    rintro _ ⟨n1, rfl⟩
    go_upto_region 3 with fail
    go_cut [61] (fun s61 wx => s61 = .bool false ∧ ∃ n : After wc, wx = n.world)
    case first =>
      have hcomm := and_comm b a
      have hcomm' := or_comm' a b
      have hin1 := in_and_left a b
      have hin2 := in_and_right a b
      have hhas := has_and a b x y
      rw [hpb, hqb] at hhas
      cases pb
      · rw [Bool.false_and] at hhas
        refine wp_region_in n1 (by kernel_rfl) (by kernel_rfl) ?_
        repeat (go_big_quiet_step ((first
          | (go_at_call 13; exact Makes.after (has_eq _ _ _ _ hhas hfc))
          | (go_at_call 20; exact Makes.after (and_any _ _ _ hb ha))
          | (go_at_call 22; exact Makes.after (or_any _ _ _ hb ha))
          | (go_at_call 24; exact Makes.after (in_eq _ _ _ (by with_reducible assumption) (by with_reducible assumption) (by with_reducible assumption))))))
        refine wpQuiet_nil ?_
        rintro _ ⟨n2, rfl⟩
        go_wp2_with fail
        go_meet
        exact ⟨rfl, n2, rfl⟩
      · rw [Bool.true_and] at hhas
        refine wp_region_in n1 (by kernel_rfl) (by kernel_rfl) ?_
        repeat (go_big_quiet_step ((first
          | (go_at_call 13; exact Makes.after (has_eq _ _ _ _ hhas hfc))
          | (go_at_call 20; exact Makes.after (and_any _ _ _ hb ha))
          | (go_at_call 22; exact Makes.after (or_any _ _ _ hb ha))
          | (go_at_call 24; exact Makes.after (in_eq _ _ _ (by with_reducible assumption) (by with_reducible assumption) (by with_reducible assumption))))))
        refine wpQuiet_nil ?_
        rintro _ ⟨n2, rfl⟩
        go_wp2_with fail
        go_meet
        exact ⟨rfl, n2, rfl⟩
    case rest =>
      obtain ⟨rfl, n2, rfl⟩ := hcut
      go_upto_region 5 with fail
      go_cut [89] (fun s89 wx => s89 = .bool false ∧ ∃ n : After wc, wx = n.world)
      case first =>
        have hin1 := in_or_left a b
        have hin2 := in_or_right a b
        cases hz : eqR (orR a b) zeroRc
        · have hz' : eqR ⟨(orR a b).x, (orR a b).y, (orR a b).a, (orR a b).b⟩ ⟨0, 0, 0, 0⟩ = false := hz
          cases pb
          · cases qb
            · refine wp_region_seq n2 ?_
              repeat (go_big_quiet_step ((first
                | (go_at_call 24; exact Makes.after (in_eq _ _ _ (by with_reducible assumption) (by with_reducible assumption) (by with_reducible assumption)))
                | (go_at_call 13; exact Makes.after (has_eq _ _ _ _ (by with_reducible assumption) (by with_reducible assumption)))
                | fail)))
              refine wpQuiet_nil ?_
              rintro _ ⟨n3, rfl⟩
              go_wp2_with fail
              go_meet
              exact ⟨rfl, n3, rfl⟩
            · have hho : hasR (orR a b) x y = true := in_has hin2 hqb
              refine wp_region_seq n2 ?_
              repeat (go_big_quiet_step ((first
                | (go_at_call 24; exact Makes.after (in_eq _ _ _ (by with_reducible assumption) (by with_reducible assumption) (by with_reducible assumption)))
                | (go_at_call 13; exact Makes.after (has_eq _ _ _ _ (by with_reducible assumption) (by with_reducible assumption)))
                | fail)))
              refine wpQuiet_nil ?_
              rintro _ ⟨n3, rfl⟩
              go_wp2_with fail
              go_meet
              exact ⟨rfl, n3, rfl⟩
          · have hho : hasR (orR a b) x y = true := in_has hin1 hpb
            refine wp_region_seq n2 ?_
            repeat (go_big_quiet_step ((first
              | (go_at_call 24; exact Makes.after (in_eq _ _ _ (by with_reducible assumption) (by with_reducible assumption) (by with_reducible assumption)))
              | (go_at_call 13; exact Makes.after (has_eq _ _ _ _ (by with_reducible assumption) (by with_reducible assumption)))
              | fail)))
            refine wpQuiet_nil ?_
            rintro _ ⟨n3, rfl⟩
            go_wp2_with fail
            go_meet
            exact ⟨rfl, n3, rfl⟩
        · have hz' : eqR ⟨(orR a b).x, (orR a b).y, (orR a b).a, (orR a b).b⟩ ⟨0, 0, 0, 0⟩ = true := hz
          refine wp_region_seq n2 ?_
          repeat (go_big_quiet_step ((first
            | (go_at_call 24; exact Makes.after (in_eq _ _ _ (by with_reducible assumption) (by with_reducible assumption) (by with_reducible assumption)))
            | (go_at_call 13; exact Makes.after (has_eq _ _ _ _ (by with_reducible assumption) (by with_reducible assumption)))
            | fail)))
          refine wpQuiet_nil ?_
          rintro _ ⟨n3, rfl⟩
          go_wp2_with fail
          go_meet
          exact ⟨rfl, n3, rfl⟩
      case rest =>
        obtain ⟨rfl, n3, rfl⟩ := hcut
        go_upto_region 7 with fail
        go_cut [117] (fun s117 wx => s117 = .bool false ∧ ∃ n : After wc, wx = n.world)
        case first =>
          cases hea : emptyR a
          · have har := area_empty hea
            cases hiab : inR a b
            · refine wp_region_in n3 (by kernel_rfl) (by kernel_rfl) ?_
              repeat (go_big_quiet_step ((first
                | (go_at_call 24; exact Makes.after (in_eq _ _ _ (by with_reducible assumption) (by with_reducible assumption) (by with_reducible assumption)))
                | (go_at_call 11; exact Makes.after (empty_eq _ _ (by with_reducible assumption) (by with_reducible assumption)))
                | (go_at_call 15; exact Makes.after (area_any _ _ (by with_reducible assumption)))
                | fail)))
              refine wpQuiet_nil ?_
              rintro _ ⟨n4, rfl⟩
              go_wp2_with fail
              go_meet
              exact ⟨rfl, n4, rfl⟩
            · cases pb
              · refine wp_region_in n3 (by kernel_rfl) (by kernel_rfl) ?_
                repeat (go_big_quiet_step ((first
                  | (go_at_call 24; exact Makes.after (in_eq _ _ _ (by with_reducible assumption) (by with_reducible assumption) (by with_reducible assumption)))
                  | (go_at_call 11; exact Makes.after (empty_eq _ _ (by with_reducible assumption) (by with_reducible assumption)))
                  | (go_at_call 15; exact Makes.after (area_any _ _ (by with_reducible assumption)))
                  | fail)))
                refine wpQuiet_nil ?_
                rintro _ ⟨n4, rfl⟩
                go_wp2_with fail
                go_meet
                exact ⟨rfl, n4, rfl⟩
              · have hqt : qb = true := by rw [← hqb]; exact in_has hiab hpb
                subst hqt
                refine wp_region_in n3 (by kernel_rfl) (by kernel_rfl) ?_
                repeat (go_big_quiet_step ((first
                  | (go_at_call 24; exact Makes.after (in_eq _ _ _ (by with_reducible assumption) (by with_reducible assumption) (by with_reducible assumption)))
                  | (go_at_call 11; exact Makes.after (empty_eq _ _ (by with_reducible assumption) (by with_reducible assumption)))
                  | (go_at_call 15; exact Makes.after (area_any _ _ (by with_reducible assumption)))
                  | fail)))
                refine wpQuiet_nil ?_
                rintro _ ⟨n4, rfl⟩
                go_wp2_with fail
                go_meet
                exact ⟨rfl, n4, rfl⟩
          · have har : (areaR a == 0) = true := by rw [area_zero hea]; rfl
            have hiab : inR a b = true := empty_in hea
            have hpf : pb = false := by
              cases pb
              · rfl
              · rw [(has_iff.1 hpb).1] at hea; cases hea
            subst hpf
            refine wp_region_in n3 (by kernel_rfl) (by kernel_rfl) ?_
            repeat (go_big_quiet_step ((first
              | (go_at_call 24; exact Makes.after (in_eq _ _ _ (by with_reducible assumption) (by with_reducible assumption) (by with_reducible assumption)))
              | (go_at_call 11; exact Makes.after (empty_eq _ _ (by with_reducible assumption) (by with_reducible assumption)))
              | (go_at_call 15; exact Makes.after (area_any _ _ (by with_reducible assumption)))
              | fail)))
            refine wpQuiet_nil ?_
            rintro _ ⟨n4, rfl⟩
            go_wp2_with fail
            go_meet
            exact ⟨rfl, n4, rfl⟩
        case rest =>
          obtain ⟨rfl, n4, rfl⟩ := hcut
          go_upto_region 9 with fail
          go_cut [166] (fun s166 wx => s166 = .bool false ∧ ∃ n : After wc, wx = n.world)
          case first =>
            cases hea : emptyR a
            · obtain ⟨k1, k2, k3, k4⟩ := corner_has hea
              obtain ⟨⟨g1, g2, g3⟩, g4, g5, g6⟩ := emptyR_false.1 hea
              refine wp_region_seq n4 ?_
              repeat (go_big_quiet_step ((first
                | (go_at_call 11; exact Makes.after (empty_eq _ _ (by with_reducible assumption) (by with_reducible assumption)))
                | (go_at_call 13; exact Makes.after (has_eq _ _ _ _ (by with_reducible assumption) (by with_reducible assumption)))
                | fail)))
              refine wpQuiet_nil ?_
              rintro _ ⟨n5, rfl⟩
              go_wp2_with fail
              go_meet
              exact ⟨rfl, n5, rfl⟩
            · refine wp_region_seq n4 ?_
              repeat (go_big_quiet_step ((first
                | (go_at_call 11; exact Makes.after (empty_eq _ _ (by with_reducible assumption) (by with_reducible assumption)))
                | fail)))
              refine wpQuiet_nil ?_
              rintro _ ⟨n5, rfl⟩
              go_wp2_with fail
              go_meet
              exact ⟨rfl, n5, rfl⟩
          case rest =>
            obtain ⟨rfl, n5, rfl⟩ := hcut
            go_upto_region 11 with fail
            have hle := area_mono (in_and_left a b)
            refine wp_region_in n5 (by kernel_rfl) (by kernel_rfl) ?_
            repeat (go_big_quiet_step ((first
              | (go_at_call 15; exact Makes.after (area_any _ _ (by with_reducible assumption)))
              | (go_at_call 19; exact Makes.after (wakes_any _))
              | fail)))
            refine wpQuiet_nil ?_
            rintro _ ⟨n6, rfl⟩
            go_wp2
            go_ret
            exact ⟨rfl, Below.thn hbw2 n6.below⟩

end Go.Proofs.Ytcnamgjapcnemaa
