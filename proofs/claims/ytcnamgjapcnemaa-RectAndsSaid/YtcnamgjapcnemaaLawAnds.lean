/- The walk of the statement RectAnds. -/
import Derived.Test.YtcnamgjapcnemaaRectWakes
import Derived.Deep.DeepCutAuto
namespace Go.Proofs.Ytcnamgjapcnemaa
open Go.RowKit

set_option maxRecDepth 100000 in
set_option maxHeartbeats 2000000 in
theorem ands_any (a b c : Rc) (x y : Int) (w : World) (ha : Fit a) (hb : Fit b) (hc : Fit c) : Makes Try.prog 8 #[RV a, RV b, RV c, .int .i64 x, .int .i64 y] w (.bool true) := by
  unfold Makes
  go_enter Try.func8, Try.ntmps8
  go_upto_region 1 with fail
  have hl : Lies (((w.alloc (RO a)).alloc (RO b)).alloc (RO c)) w.heap.size a := (Lies.new rfl).later (Below.al2 _ _ _)
  have hm : Lies (((w.alloc (RO a)).alloc (RO b)).alloc (RO c)) (w.heap.size + 1) b := (Lies.new (by simp)).later (Below.al1 _ _)
  have hk : Lies (((w.alloc (RO a)).alloc (RO b)).alloc (RO c)) (w.heap.size + 1 + 1) c := Lies.new (by simp)
  have hbw := Below.al3 w (RO a) (RO b) (RO c)
  generalize (((w.alloc (RO a)).alloc (RO b)).alloc (RO c)) = W at *
  obtain ⟨a0, a1, a2, a3⟩ := hl.rules
  obtain ⟨b0, b1, b2, b3⟩ := hm.rules
  obtain ⟨c0, c1, c2, c3⟩ := hk.rules
  clear hl hm hk
  have hne := After.ne W
  have hq := eql_rc
  have hq' := neq_rc
  have hg := guard_rc
  have hes := eqR_self
  go_cut [40] (fun s40 wx => s40 = .bool false ∧ ∃ n : After W, wx = n.world)
  case first =>
    have hassoc := and_assoc' a b c
    have haa := in_self a
    have hand : Fit (andR a b) := and_fit a b
    have hand' : Fit (andR b c) := and_fit b c
    cases hea : emptyR a
    · have hself := and_self a hea
      refine wp_region_in ⟨W, Below.refl _ _⟩ (by kernel_rfl) (by kernel_rfl) ?_
      repeat (go_big_quiet_step ((first
        | (go_at_call 20; exact Makes.after (and_any _ _ _ (by with_reducible assumption) (by with_reducible assumption)))
        | (go_at_call 11; exact Makes.after (empty_eq _ _ hea ha))
        | (go_at_call 24; exact Makes.after (in_eq _ _ _ haa ha ha)))))
      refine wpQuiet_nil ?_
      rintro _ ⟨n1, rfl⟩
      go_wp2_with fail
      go_meet
      exact ⟨rfl, n1, rfl⟩
    · refine wp_region_in ⟨W, Below.refl _ _⟩ (by kernel_rfl) (by kernel_rfl) ?_
      repeat (go_big_quiet_step ((first
        | (go_at_call 20; exact Makes.after (and_any _ _ _ (by with_reducible assumption) (by with_reducible assumption)))
        | (go_at_call 11; exact Makes.after (empty_eq _ _ hea ha))
        | (go_at_call 24; exact Makes.after (in_eq _ _ _ haa ha ha)))))
      refine wpQuiet_nil ?_
      rintro _ ⟨n1, rfl⟩
      go_wp2_with fail
      go_meet
      exact ⟨rfl, n1, rfl⟩
  case rest =>
    obtain ⟨rfl, n1, rfl⟩ := hcut
    go_upto_region 3 with fail
    go_cut [66] (fun s66 wx => s66 = .bool false ∧ ∃ n : After W, wx = n.world)
    case first =>
      cases hab : inR a b
      · refine wp_region_in n1 (by kernel_rfl) (by kernel_rfl) ?_
        repeat (go_big_quiet_step ((first
          | (go_at_call 24; exact Makes.after (in_eq _ _ _ (by with_reducible assumption) (by with_reducible assumption) (by with_reducible assumption)))
          | (go_at_call 15; exact Makes.after (area_any _ _ (by with_reducible assumption))))))
        refine wpQuiet_nil ?_
        rintro _ ⟨n2, rfl⟩
        go_wp2_with fail
        go_meet
        exact ⟨rfl, n2, rfl⟩
      · have har := area_mono hab
        have har' : decide (areaR b < areaR a) = false := by simpa using har
        cases hbc : inR b c
        · refine wp_region_in n1 (by kernel_rfl) (by kernel_rfl) ?_
          repeat (go_big_quiet_step ((first
            | (go_at_call 24; exact Makes.after (in_eq _ _ _ (by with_reducible assumption) (by with_reducible assumption) (by with_reducible assumption)))
            | (go_at_call 15; exact Makes.after (area_any _ _ (by with_reducible assumption))))))
          refine wpQuiet_nil ?_
          rintro _ ⟨n2, rfl⟩
          go_wp2_with fail
          go_meet
          exact ⟨rfl, n2, rfl⟩
        · have hac := in_trans hab hbc
          refine wp_region_in n1 (by kernel_rfl) (by kernel_rfl) ?_
          repeat (go_big_quiet_step ((first
            | (go_at_call 24; exact Makes.after (in_eq _ _ _ (by with_reducible assumption) (by with_reducible assumption) (by with_reducible assumption)))
            | (go_at_call 15; exact Makes.after (area_any _ _ (by with_reducible assumption))))))
          refine wpQuiet_nil ?_
          rintro _ ⟨n2, rfl⟩
          go_wp2_with fail
          go_meet
          exact ⟨rfl, n2, rfl⟩
    case rest =>
      obtain ⟨rfl, n2, rfl⟩ := hcut
      go_upto_region 5 with fail
      go_cut [11] (fun s11 wx => s11 = .bool (hasR a x y && hasR b x y && hasR c x y) ∧ ∃ n : After W, wx = n.world)
      case first =>
        cases hpa : hasR a x y
        · refine wp_region_seq n2 ?_
          repeat (go_big_quiet_step ((go_at_call 13; exact Makes.after (has_eq _ _ _ _ (by with_reducible assumption) (by with_reducible assumption)))))
          refine wpQuiet_nil ?_
          rintro _ ⟨n3, rfl⟩
          go_wp2_with fail
          go_meet
          exact ⟨by simp [hpa], n3, rfl⟩
        · cases hpb : hasR b x y
          · refine wp_region_seq n2 ?_
            repeat (go_big_quiet_step ((go_at_call 13; exact Makes.after (has_eq _ _ _ _ (by with_reducible assumption) (by with_reducible assumption)))))
            refine wpQuiet_nil ?_
            rintro _ ⟨n3, rfl⟩
            go_wp2_with fail
            go_meet
            exact ⟨by simp [hpb], n3, rfl⟩
          · obtain ⟨bc, hpc⟩ : ∃ bc, hasR c x y = bc := ⟨_, rfl⟩
            refine wp_region_seq n2 ?_
            repeat (go_big_quiet_step ((go_at_call 13; exact Makes.after (has_eq _ _ _ _ (by with_reducible assumption) (by with_reducible assumption)))))
            refine wpQuiet_nil ?_
            rintro _ ⟨n3, rfl⟩
            go_wp2_with fail
            go_meet
            exact ⟨by simp [hpa, hpb, hpc], n3, rfl⟩
      case rest =>
        obtain ⟨rfl, n3, rfl⟩ := hcut
        go_upto_region 6 with fail
        have hall : hasR (andR (andR a b) c) x y = (hasR a x y && hasR b x y && hasR c x y) := by rw [has_and, has_and]
        have hand : Fit (andR a b) := and_fit a b
        have hand' : Fit (andR (andR a b) c) := and_fit _ c
        refine wp_region_in n3 (by kernel_rfl) (by kernel_rfl) ?_
        repeat (go_big_quiet_step ((first
          | (go_at_call 20; exact Makes.after (and_any _ _ _ (by with_reducible assumption) (by with_reducible assumption)))
          | (go_at_call 13; exact Makes.after (has_eq _ _ _ _ hall hand'))
          | (go_at_call 19; exact Makes.after (wakes_any _)))))
        refine wpQuiet_nil ?_
        rintro _ ⟨n4, rfl⟩
        go_wp2
        go_ret
        exact ⟨rfl, Below.thn hbw n4.below⟩

end Go.Proofs.Ytcnamgjapcnemaa
