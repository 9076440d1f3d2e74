/- The walk of region's runs over edges: what the iterator hands over. -/
import Derived.Test.YtajoipmchgabfaaGreatT4
import Derived.OwnWalkIn
import Derived.TacticsInMore
import Derived.LoopNIn
import Derived.LoopIn
namespace Go.Proofs.YtajoipmchgabfaaGreat
open Go.RowKit Go.Shelf

attribute [local go_sem] Oper.semAt_some

set_option maxHeartbeats 400000 in
theorem edPlace_any (e : Ed) (w : World) : Makes Tryz.prog 88 #[EV e] w (.int .i64 e.pl) := by
  unfold Makes
  go_enter Tryz.func88, Tryz.ntmps88
  go_wp2
  go_ret
  exact ⟨rfl, Below.al1 _ _⟩

theorem seg_same {xs : List Ed} {a k : Nat} (hal : a < xs.length) (h : ∀ j (h : j < xs.length), a ≤ j → j ≤ k → xs[j].pl = xs[a].pl) : ∀ x ∈ (xs.drop a).take (k + 1 - a), x.pl = xs[a].pl := by
  intro x hx
  obtain ⟨i, hi, rfl⟩ := List.getElem_of_mem hx
  rw [List.length_take, List.length_drop] at hi
  rw [List.getElem_take, List.getElem_drop]
  exact h _ (by omega) (by omega) (by omega)

theorem lt_of_R {R : Nat → Prop} {w wr : World} {b : Nat} (hw : R b → b < w.heap.size) (h : ∀ b, R b → wr.heap[b]? = w.heap[b]?) (hb : R b) : b < wr.heap.size := lt_of_same (hw hb) (h b hb)

def ElRuns (R : Nat → Prop) (_ W : World) (_ : Nat → Prop) (x : Int × List Ed) (vs : Array Value) : Prop :=
  ∃ v, vs = #[.int .i64 x.1, v] ∧ Row encE 7 W v x.2 ∧ ∀ b, v.ownBlock = some b → R b

set_option maxHeartbeats 1000000 in
theorem runsE_iter (Bl Bp : Nat) (p : Option Addr) (cap : Nat) (xs : List Ed) (w : World) (R : Nat → Prop) (hBl : Boxed w Bl 103 (.slice p xs.length cap)) (hBp : Boxed w Bp 117 (.func (.func 88) #[] #[]))
    (hcap : xs.length ≤ cap) (hm : cap ≤ maxLen) (hp : RowAt encE 7 w p xs) (hRlt : ∀ b, R b → b < w.heap.size) (hR1 : R Bl) (hR2 : R Bp) (hR3 : ∀ a, p = some a → R a.block) :
    Iter Tryz.prog 92 #[.pointer (some ⟨Bl, 0, none⟩), .pointer (some ⟨Bp, 0, none⟩)] (ElRuns R) R (grp Ed.pl xs) w := by
  intro l J Jx W hsz hRW hJ0 hY
  refine callsIn_wide.2 ?_
  have hlen : xs.length ≤ 9223372036854775807 := by simp only [maxLen] at hm; omega
  have hcl : W.cell? ⟨Bl, 0, none⟩ = some (.slice p xs.length cap) := (World.cell?_of_block (hRW Bl hR1)).trans hBl.cell
  have HY := Lib.hid hY
  have HRW := Lib.hid hRW
  clear hY hRW
  go_enter Tryz.func92, Tryz.ntmps92
  go_wp2
  go_loopw [4, 9] (fun f i wr => ∃ (a k : Nat) (pre : List (Int × List Ed)) (Wp : World), f = .int .i64 a ∧ i = .int .i64 k ∧ a ≤ k ∧ k ≤ xs.length ∧ Hid (a = k ∨ k < xs.length) ∧ Hid (grp Ed.pl xs = pre ++ grp Ed.pl (xs.drop a)) ∧ Hid (∀ j (h : j < xs.length) (h' : a < xs.length), a ≤ j → j ≤ k → xs[j].pl = xs[a].pl) ∧ Hid (J pre (fun _ => False) Wp) ∧ Turns (fun _ => False) Wp wr ∧ Hid (∀ b, R b → wr.heap[b]? = w.heap[b]?)) (fun _ i _ => xs.length - (intOf i).toNat)
  case atStart => exact ⟨0, 0, [], W, rfl, rfl, by omega, by omega, Lib.hid (Or.inl rfl), Lib.hid rfl, Lib.hid (fun j h h' h1 h2 => by congr; omega), Lib.hid hJ0, Turns.refl _ _, HRW⟩
  case round =>
    obtain ⟨a, k, pre, Wp, rfl, rfl, hak, hk, He, Hg, Hs, HJ, ht, HR⟩ := hrel
    by_cases hlt : k < xs.length
    · obtain ⟨b, off, rfl, hB, -⟩ := hp.ed hlt
      have hp' : RowAt encE 7 wr (some ⟨b, off, none⟩) xs := hp.same (fun a e => by cases e; exact HR.out b (hR3 _ rfl))
      obtain ⟨_, _, e, -, hc⟩ := hp'.ed hlt
      cases e
      have cl : wr.cell? ⟨Bl, 0, none⟩ = some (.slice (some ⟨b, off, none⟩) xs.length cap) := (World.cell?_of_block (HR.out Bl hR1)).trans hBl.cell
      have cp : wr.cell? ⟨Bp, 0, none⟩ = some (.func (.func 88) #[] #[]) := (World.cell?_of_block (HR.out Bp hR2)).trans hBp.cell
      have hal : a < xs.length := by omega
      have ia : (0 : Int) ≤ a := by omega
      have ca := hc a hal
      have Hxa := Lib.hid (Hs.out k hlt hal hak (Nat.le_refl k))
      obtain ⟨wo, hwo⟩ : ∃ wo, wo = wr := ⟨_, rfl⟩
      have Hwo := Lib.hid hwo
      clear hwo
      have hne := After.ne wr
      have rl := After.cell cl
      have rp := After.cell cp
      have r0 := After.cell ca.c0
      have r1 := After.cell ca.c1
      have r2 := After.cell ca.c2
      have r3 := After.cell ca.c3
      have r4 := After.cell ca.c4
      have r5 := After.cell ca.c5
      have r6 := After.cell ca.c6
      have Hp := Lib.hid hp'
      have Hbl := Lib.hid hBl
      have Hbp := Lib.hid hBp
      have Hbc := Lib.hid hc
      have Hp0 := Lib.hid hp
      clear ca cl cp hp' hBl hBp hc hcl hp
      have e81 := enters_of Tryz.func88 (by kernel_rfl) rfl
      go_wp2
      refine wp_region_after (by kernel_rfl) (by kernel_rfl) ?_
      repeat (go_big_quiet_step ((go_at_call 88; exact Makes.after (edPlace_any xs[a] _))))
      refine wpQuiet_nil ?_
      rintro _ ⟨nq, rfl⟩
      go_wp2
      have hrk : IntKind.i64.wrap ((k : Int) + 1) = (k : Int) + 1 := IntWalk.i64_in _ (by omega)
      by_cases hk1 : k + 1 < xs.length
      · have cb := Hbc.out (k + 1) hk1
        have q0 := After.cell cb.c0
        have q1 := After.cell cb.c1
        have q2 := After.cell cb.c2
        have q3 := After.cell cb.c3
        have q4 := After.cell cb.c4
        have q5 := After.cell cb.c5
        have q6 := After.cell cb.c6
        clear cb
        have hd1 : decide ((k : Int) + 1 < (xs.length : Int)) = true := by simp; omega
        have hi0 : (0 : Int) ≤ (k : Int) + 1 := by omega
        have hi1 : ((k : Int) + 1).toNat = k + 1 := by omega
        by_cases hsm : xs[k + 1].pl = xs[a].pl
        · have hsm' : ((xs[k + 1].pl : Int) == xs[a].pl) = true := by simpa using hsm
          have Hsm := Lib.hid hsm
          clear hsm
          refine wp_region_in nq (by kernel_rfl) (by kernel_rfl) ?_
          repeat (go_big_quiet_step ((go_at_call 88; exact Makes.after (edPlace_any xs[k + 1] _))))
          refine wpQuiet_nil ?_
          rintro _ ⟨nr, rfl⟩
          go_wp2
          go_roundw
          case rel => exact ⟨a, k + 1, pre, Wp, rfl, by go_num, by omega, by omega, Lib.hid (Or.inr hk1), Hg, Lib.hid (fun j h h' h1 h2 => by
            rcases Nat.lt_or_ge k j with h3 | h3
            · obtain rfl : j = k + 1 := by omega
              exact Hsm.out
            · exact Hs.out j h h' h1 h3), HJ, ht.trans (Turns.of_below' nr.below), Lib.hid (fun b hb => (nr.below.block b (lt_of_R (hRlt b) HR.out hb)).trans (HR.out b hb))⟩
          case measure => simp [intOf]; omega
        · have hsm' : ((xs[k + 1].pl : Int) == xs[a].pl) = false := by simpa using hsm
          have Hsm := Lib.hid hsm
          clear hsm
          refine wp_region_in nq (by kernel_rfl) (by kernel_rfl) ?_
          repeat (go_big_quiet_step ((go_at_call 88; exact Makes.after (edPlace_any xs[k + 1] _))))
          refine wpQuiet_nil ?_
          rintro _ ⟨nr, rfl⟩
          go_upto_region 6 with (fail)
          have hend : ∀ x, (xs.drop (k + 1)).head? = some x → x.pl ≠ xs[a].pl := by rw [List.drop_eq_getElem_cons hk1]; rintro x ⟨rfl⟩; exact Hsm.out
          have hseg : ∀ x ∈ (xs.drop a).take (k + 1 - a), x.pl = xs[a].pl := seg_same hal (fun j h h1 h2 => Hs.out j h hal h1 h2)
          have hcut : xs.drop a = (xs.drop a).take (k + 1 - a) ++ xs.drop (k + 1) := by
            rw [show xs.drop (k + 1) = (xs.drop a).drop (k + 1 - a) by rw [List.drop_drop]; congr 1; omega]
            exact (List.take_append_drop _ _).symm
          have hlen1 : ((xs.drop a).take (k + 1 - a)).length = k + 1 - a := by rw [List.length_take, List.length_drop]; omega
          have hg1 : grp Ed.pl (xs.drop a) = (xs[a].pl, (xs.drop a).take (k + 1 - a)) :: grp Ed.pl (xs.drop (k + 1)) := by
            conv => lhs; rw [hcut]
            exact grp_run _ _ _ _ (by intro e; rw [e] at hlen1; simp at hlen1; omega) hseg hend
          have HR2 : ∀ b, R b → nr.world.heap[b]? = w.heap[b]? := fun b hb => (nr.below.block b (lt_of_R (hRlt b) HR.out hb)).trans (HR.out b hb)
          obtain ⟨fn, tmps, assign, body, hy, hRd⟩ := HY.out pre (xs[a].pl, (xs.drop a).take (k + 1 - a)) (grp Ed.pl (xs.drop (k + 1))) (fun _ => False) (fun _ => False) Wp nr.world #[.int .i64 xs[a].pl, .slice (some ⟨b, off + a * 7, none⟩) (k + 1 - a) (cap - a)]
            (by rw [Hg.out, hg1]) HJ.out (ht.trans (Turns.of_below' nr.below)) (fun _ h => h.elim) (fun _ h => h.elim) HR2
            ⟨_, rfl, ⟨_, _, by rw [hlen1], by rw [hlen1]; omega, by omega, (Hp.out.sub a (k + 1 - a)).below nr.below⟩, fun b' e => by cases e; exact hR3 ⟨b, off, none⟩ rfl⟩
          refine (wpIn_wide (n := 0)).1 ?_
          have HG1 := Lib.hid hg1
          clear hend hseg hcut hg1
          gi_wp2
          refine ⟨rfl, hRd.mono ?_⟩
          rintro e W3 (⟨rfl, hJ3, hsz3, hk3⟩ | ⟨rfl, hJx3, -, -⟩)
          · have HR3 : ∀ b, R b → W3.heap[b]? = w.heap[b]? := fun b hb => (hk3 b (Or.inl hb)).trans (HR2 b hb)
            have HG := Lib.hid (show grp Ed.pl xs = (pre ++ [(xs[a].pl, (xs.drop a).take (k + 1 - a))]) ++ grp Ed.pl (xs.drop (k + 1)) by rw [Hg.out, HG1.out]; simp)
            have HR3' := Lib.hid HR3
            have HJ3 := Lib.hid hJ3
            clear HR3 hk3 hJ3
            gi_wp2
            go_wp2
            go_roundw
            case rel => exact ⟨k + 1, k + 1, _, W3, by go_num, by go_num, by omega, by omega, Lib.hid (Or.inl rfl), HG, Lib.hid (fun j h h' h1 h2 => by congr; omega), HJ3, Turns.refl _ _, HR3'⟩
            case measure => simp [intOf]; omega
          · have HP : pre ++ [(xs[a].pl, (xs.drop a).take (k + 1 - a))] <+: grp Ed.pl xs := ⟨grp Ed.pl (xs.drop (k + 1)), by rw [Hg.out, HG1.out]; simp⟩
            gi_wp2
            go_wp2
            refine bodyPost_ret (results_none rfl _ _ _) rfl ?_
            exact ⟨⟨_, rfl⟩, .inr ⟨_, _, _, HP, hJx3, Turns.refl _ _⟩⟩
      · have hd1 : decide ((k : Int) + 1 < (xs.length : Int)) = false := by simp; omega
        refine wp_region_in nq (by kernel_rfl) (by kernel_rfl) ?_
        repeat (go_big_quiet_step (fail))
        refine wpQuiet_nil ?_
        rintro _ ⟨nr, rfl⟩
        go_upto_region 6 with (fail)
        have hend : ∀ x, (xs.drop (k + 1)).head? = some x → x.pl ≠ xs[a].pl := by rw [List.drop_eq_nil_of_le (by omega)]; rintro x ⟨⟩
        have hseg : ∀ x ∈ (xs.drop a).take (k + 1 - a), x.pl = xs[a].pl := seg_same hal (fun j h h1 h2 => Hs.out j h hal h1 h2)
        have hcut : xs.drop a = (xs.drop a).take (k + 1 - a) ++ xs.drop (k + 1) := by
          rw [show xs.drop (k + 1) = (xs.drop a).drop (k + 1 - a) by rw [List.drop_drop]; congr 1; omega]
          exact (List.take_append_drop _ _).symm
        have hlen1 : ((xs.drop a).take (k + 1 - a)).length = k + 1 - a := by rw [List.length_take, List.length_drop]; omega
        have hg1 : grp Ed.pl (xs.drop a) = (xs[a].pl, (xs.drop a).take (k + 1 - a)) :: grp Ed.pl (xs.drop (k + 1)) := by
          conv => lhs; rw [hcut]
          exact grp_run _ _ _ _ (by intro e; rw [e] at hlen1; simp at hlen1; omega) hseg hend
        have HR2 : ∀ b, R b → nr.world.heap[b]? = w.heap[b]? := fun b hb => (nr.below.block b (lt_of_R (hRlt b) HR.out hb)).trans (HR.out b hb)
        obtain ⟨fn, tmps, assign, body, hy, hRd⟩ := HY.out pre (xs[a].pl, (xs.drop a).take (k + 1 - a)) (grp Ed.pl (xs.drop (k + 1))) (fun _ => False) (fun _ => False) Wp nr.world #[.int .i64 xs[a].pl, .slice (some ⟨b, off + a * 7, none⟩) (k + 1 - a) (cap - a)]
          (by rw [Hg.out, hg1]) HJ.out (ht.trans (Turns.of_below' nr.below)) (fun _ h => h.elim) (fun _ h => h.elim) HR2
          ⟨_, rfl, ⟨_, _, by rw [hlen1], by rw [hlen1]; omega, by omega, (Hp.out.sub a (k + 1 - a)).below nr.below⟩, fun b' e => by cases e; exact hR3 ⟨b, off, none⟩ rfl⟩
        refine (wpIn_wide (n := 0)).1 ?_
        have HG1 := Lib.hid hg1
        clear hend hseg hcut hg1
        gi_wp2
        refine ⟨rfl, hRd.mono ?_⟩
        rintro e W3 (⟨rfl, hJ3, hsz3, hk3⟩ | ⟨rfl, hJx3, -, -⟩)
        · have HR3 : ∀ b, R b → W3.heap[b]? = w.heap[b]? := fun b hb => (hk3 b (Or.inl hb)).trans (HR2 b hb)
          have HG := Lib.hid (show grp Ed.pl xs = (pre ++ [(xs[a].pl, (xs.drop a).take (k + 1 - a))]) ++ grp Ed.pl (xs.drop (k + 1)) by rw [Hg.out, HG1.out]; simp)
          have HR3' := Lib.hid HR3
          have HJ3 := Lib.hid hJ3
          clear HR3 hk3 hJ3
          gi_wp2
          go_wp2
          go_roundw
          case rel => exact ⟨k + 1, k + 1, _, W3, by go_num, by go_num, by omega, by omega, Lib.hid (Or.inl rfl), HG, Lib.hid (fun j h h' h1 h2 => by congr; omega), HJ3, Turns.refl _ _, HR3'⟩
          case measure => simp [intOf]; omega
        · have HP : pre ++ [(xs[a].pl, (xs.drop a).take (k + 1 - a))] <+: grp Ed.pl xs := ⟨grp Ed.pl (xs.drop (k + 1)), by rw [Hg.out, HG1.out]; simp⟩
          gi_wp2
          go_wp2
          refine bodyPost_ret (results_none rfl _ _ _) rfl ?_
          exact ⟨⟨_, rfl⟩, .inr ⟨_, _, _, HP, hJx3, Turns.refl _ _⟩⟩
    · have HX : grp Ed.pl xs = pre := by
        rw [Hg.out, show xs.drop a = [] from List.drop_eq_nil_of_le (by have := He.out; omega)]; simp [grp]
      have HX' := Lib.hid HX
      clear HX
      go_wp2
      go_end0
      exact ⟨⟨_, rfl⟩, .inl ⟨_, _, by rw [HX'.out]; exact HJ.out, ht⟩⟩

end Go.Proofs.YtajoipmchgabfaaGreat
