/- Several texts in one, each with its own head. -/
import Derived.Test.YtpddkhhdleknnaaY21
import Derived.OwnWalkIn
import Derived.TacticsInMore
import Derived.LoopNIn
import Derived.LoopIn
import Derived.Test.YtpddkhhdleknnaaY43
import Derived.Test.YtpddkhhdleknnaaY4
/- The walk of region's runs over rectangles: what the iterator hands over. -/
namespace Go.Proofs.Ytpddkhhdleknnaa
open Go.RowKit Go.Shelf

attribute [local go_sem] Oper.semAt_some

set_option maxHeartbeats 400000 in
theorem rcPlace_any (e : Rc) (w : World) : Makes Try.prog 66 #[RV e] w (.int .i64 e.y) := by
  unfold Makes
  go_enter Try.func66, Try.ntmps66
  go_wp2
  go_ret
  exact ⟨rfl, Below.al1 _ _⟩

theorem seg_sameR {xs : List Rc} {a k : Nat} (hal : a < xs.length) (h : ∀ j (h : j < xs.length), a ≤ j → j ≤ k → xs[j].y = xs[a].y) : ∀ x ∈ (xs.drop a).take (k + 1 - a), x.y = xs[a].y := by
  intro x hx
  obtain ⟨i, hi, rfl⟩ := List.getElem_of_mem hx
  rw [List.length_take, List.length_drop] at hi
  rw [List.getElem_take, List.getElem_drop]
  exact h _ (by omega) (by omega) (by omega)

def ElRunsR (R : Nat → Prop) (_ W : World) (_ : Nat → Prop) (x : Int × List Rc) (vs : Array Value) : Prop :=
  ∃ v, vs = #[.int .i64 x.1, v] ∧ Row encR 4 W v x.2 ∧ ∀ b, v.ownBlock = some b → R b

set_option maxHeartbeats 400000 in
theorem runsR_made (p : Option Addr) (n c gm : Nat) (w : World) : Calls Try.prog 65 #[.slice p n c, .func (.func gm) #[] #[]] w fun e w' =>
    e = .returned (.func (.func 106) #[] #[.pointer (some ⟨w.heap.size, 0, none⟩), .pointer (some ⟨w.heap.size + 1, 0, none⟩)]) ∧ w' = (w.alloc (.cells #[.slice p n c] 22)).alloc (.cells #[.func (.func gm) #[] #[]] 90) := by
  have hmf : ∀ (fn : Fn) (first cap : Array Value) (w : World), (Instr.makeFunc fn first cap).run Try.prog w = .ok (.func fn first cap) w := fun _ _ _ _ => rfl
  go_enter Try.func65, Try.ntmps65
  go_wp2
  go_ret
  exact ⟨rfl, rfl⟩

set_option maxHeartbeats 1000000 in
theorem runsR_iter (Bl Bp : Nat) (p : Option Addr) (cap : Nat) (xs : List Rc) (w : World) (R : Nat → Prop) (hBl : Boxed w Bl 22 (.slice p xs.length cap)) (hBp : Boxed w Bp 90 (.func (.func 66) #[] #[]))
    (hcap : xs.length ≤ cap) (hm : cap ≤ maxLen) (hp : RowAt encR 4 w p xs) (hRlt : ∀ b, R b → b < w.heap.size) (hR1 : R Bl) (hR2 : R Bp) (hR3 : ∀ a, p = some a → R a.block) :
    Iter Try.prog 106 #[.pointer (some ⟨Bl, 0, none⟩), .pointer (some ⟨Bp, 0, none⟩)] (ElRunsR R) R (grp Rc.y xs) w := by
  intro l J Jx W hsz hRW hJ0 hY
  refine callsIn_wide.2 ?_
  have hlen : xs.length ≤ 9223372036854775807 := by simp only [maxLen] at hm; omega
  have hcl : W.cell? ⟨Bl, 0, none⟩ = some (.slice p xs.length cap) := (World.cell?_of_block (hRW Bl hR1)).trans hBl.cell
  have HY := Lib.hid hY
  have HRW := Lib.hid hRW
  clear hY hRW
  go_enter Try.func106, Try.ntmps106
  go_wp2
  go_loopw [4, 9] (fun f i wr => ∃ (a k : Nat) (pre : List (Int × List Rc)) (Wp : World), f = .int .i64 a ∧ i = .int .i64 k ∧ a ≤ k ∧ k ≤ xs.length ∧ Hid (a = k ∨ k < xs.length) ∧ Hid (grp Rc.y xs = pre ++ grp Rc.y (xs.drop a)) ∧ Hid (∀ j (h : j < xs.length) (h' : a < xs.length), a ≤ j → j ≤ k → xs[j].y = xs[a].y) ∧ Hid (J pre (fun _ => False) Wp) ∧ Turns (fun _ => False) Wp wr ∧ Hid (∀ b, R b → wr.heap[b]? = w.heap[b]?)) (fun _ i _ => xs.length - (intOf i).toNat)
  case atStart => exact ⟨0, 0, [], W, rfl, rfl, by omega, by omega, Lib.hid (Or.inl rfl), Lib.hid rfl, Lib.hid (fun j h h' h1 h2 => by congr; omega), Lib.hid hJ0, Turns.refl _ _, HRW⟩
  case round =>
    obtain ⟨a, k, pre, Wp, rfl, rfl, hak, hk, He, Hg, Hs, HJ, ht, HR⟩ := hrel
    by_cases hlt : k < xs.length
    · obtain ⟨b, off, rfl, hB, -⟩ := hp.rc hlt
      have hp' : RowAt encR 4 wr (some ⟨b, off, none⟩) xs := hp.same (fun a e => by cases e; exact HR.out b (hR3 _ rfl))
      obtain ⟨_, _, e, -, hc⟩ := hp'.rc hlt
      cases e
      have cl : wr.cell? ⟨Bl, 0, none⟩ = some (.slice (some ⟨b, off, none⟩) xs.length cap) := (World.cell?_of_block (HR.out Bl hR1)).trans hBl.cell
      have cp : wr.cell? ⟨Bp, 0, none⟩ = some (.func (.func 66) #[] #[]) := (World.cell?_of_block (HR.out Bp hR2)).trans hBp.cell
      have hal : a < xs.length := by omega
      have ia : (0 : Int) ≤ a := by omega
      have ca := hc a hal
      have Hxa := Lib.hid (Hs.out k hlt hal hak (Nat.le_refl k))
      obtain ⟨wo, hwo⟩ : ∃ wo, wo = wr := ⟨_, rfl⟩
      have Hwo := Lib.hid hwo
      clear hwo
      have hne := After.ne wr
      have rl := After.cell cl
      have rp := After.cell cp
      have r0 := After.cell ca.c0
      have r1 := After.cell ca.c1
      have r2 := After.cell ca.c2
      have r3 := After.cell ca.c3
      have Hp := Lib.hid hp'
      have Hbl := Lib.hid hBl
      have Hbp := Lib.hid hBp
      have Hbc := Lib.hid hc
      have Hp0 := Lib.hid hp
      clear ca cl cp hp' hBl hBp hc hcl hp
      have e81 := enters_of Try.func66 (by kernel_rfl) rfl
      go_wp2
      refine wp_region_after (by kernel_rfl) (by kernel_rfl) ?_
      repeat (go_big_quiet_step ((go_at_call 66; exact Makes.after (rcPlace_any xs[a] _))))
      refine wpQuiet_nil ?_
      rintro _ ⟨nq, rfl⟩
      go_wp2
      have hrk : IntKind.i64.wrap ((k : Int) + 1) = (k : Int) + 1 := IntWalk.i64_in _ (by omega)
      by_cases hk1 : k + 1 < xs.length
      · have cb := Hbc.out (k + 1) hk1
        have q0 := After.cell cb.c0
        have q1 := After.cell cb.c1
        have q2 := After.cell cb.c2
        have q3 := After.cell cb.c3
        clear cb
        have hd1 : decide ((k : Int) + 1 < (xs.length : Int)) = true := by simp; omega
        have hi0 : (0 : Int) ≤ (k : Int) + 1 := by omega
        have hi1 : ((k : Int) + 1).toNat = k + 1 := by omega
        by_cases hsm : xs[k + 1].y = xs[a].y
        · have hsm' : ((xs[k + 1].y : Int) == xs[a].y) = true := by simpa using hsm
          have Hsm := Lib.hid hsm
          clear hsm
          refine wp_region_in nq (by kernel_rfl) (by kernel_rfl) ?_
          repeat (go_big_quiet_step ((go_at_call 66; exact Makes.after (rcPlace_any xs[k + 1] _))))
          refine wpQuiet_nil ?_
          rintro _ ⟨nr, rfl⟩
          go_wp2
          go_roundw
          case rel => exact ⟨a, k + 1, pre, Wp, rfl, by go_num, by omega, by omega, Lib.hid (Or.inr hk1), Hg, Lib.hid (fun j h h' h1 h2 => by
            rcases Nat.lt_or_ge k j with h3 | h3
            · obtain rfl : j = k + 1 := by omega
              exact Hsm.out
            · exact Hs.out j h h' h1 h3), HJ, ht.trans (Turns.of_below' nr.below), Lib.hid (fun b hb => (nr.below.block b (lt_of_R (hRlt b) HR.out hb)).trans (HR.out b hb))⟩
          case measure => simp [intOf]; omega
        · have hsm' : ((xs[k + 1].y : Int) == xs[a].y) = false := by simpa using hsm
          have Hsm := Lib.hid hsm
          clear hsm
          refine wp_region_in nq (by kernel_rfl) (by kernel_rfl) ?_
          repeat (go_big_quiet_step ((go_at_call 66; exact Makes.after (rcPlace_any xs[k + 1] _))))
          refine wpQuiet_nil ?_
          rintro _ ⟨nr, rfl⟩
          go_upto_region 6 with (fail)
          have hend : ∀ x, (xs.drop (k + 1)).head? = some x → x.y ≠ xs[a].y := by rw [List.drop_eq_getElem_cons hk1]; rintro x ⟨rfl⟩; exact Hsm.out
          have hseg : ∀ x ∈ (xs.drop a).take (k + 1 - a), x.y = xs[a].y := seg_sameR hal (fun j h h1 h2 => Hs.out j h hal h1 h2)
          have hcut : xs.drop a = (xs.drop a).take (k + 1 - a) ++ xs.drop (k + 1) := by
            rw [show xs.drop (k + 1) = (xs.drop a).drop (k + 1 - a) by rw [List.drop_drop]; congr 1; omega]
            exact (List.take_append_drop _ _).symm
          have hlen1 : ((xs.drop a).take (k + 1 - a)).length = k + 1 - a := by rw [List.length_take, List.length_drop]; omega
          have hg1 : grp Rc.y (xs.drop a) = (xs[a].y, (xs.drop a).take (k + 1 - a)) :: grp Rc.y (xs.drop (k + 1)) := by
            conv => lhs; rw [hcut]
            exact grp_run _ _ _ _ (by intro e; rw [e] at hlen1; simp at hlen1; omega) hseg hend
          have HR2 : ∀ b, R b → nr.world.heap[b]? = w.heap[b]? := fun b hb => (nr.below.block b (lt_of_R (hRlt b) HR.out hb)).trans (HR.out b hb)
          obtain ⟨fn, tmps, assign, body, hy, hRd⟩ := HY.out pre (xs[a].y, (xs.drop a).take (k + 1 - a)) (grp Rc.y (xs.drop (k + 1))) (fun _ => False) (fun _ => False) Wp nr.world #[.int .i64 xs[a].y, .slice (some ⟨b, off + a * 4, none⟩) (k + 1 - a) (cap - a)]
            (by rw [Hg.out, hg1]) HJ.out (ht.trans (Turns.of_below' nr.below)) (fun _ h => h.elim) (fun _ h => h.elim) HR2
            ⟨_, rfl, ⟨_, _, by rw [hlen1], by rw [hlen1]; omega, by omega, (Hp.out.sub a (k + 1 - a)).below nr.below⟩, fun b' e => by cases e; exact hR3 ⟨b, off, none⟩ rfl⟩
          refine (wpIn_wide (n := 0)).1 ?_
          have HG1 := Lib.hid hg1
          clear hend hseg hcut hg1
          gi_wp2
          refine ⟨rfl, hRd.mono ?_⟩
          rintro e W3 (⟨rfl, hJ3, hsz3, hk3⟩ | ⟨rfl, hJx3, -, -⟩)
          · have HR3 : ∀ b, R b → W3.heap[b]? = w.heap[b]? := fun b hb => (hk3 b (Or.inl hb)).trans (HR2 b hb)
            have HG := Lib.hid (show grp Rc.y xs = (pre ++ [(xs[a].y, (xs.drop a).take (k + 1 - a))]) ++ grp Rc.y (xs.drop (k + 1)) by rw [Hg.out, HG1.out]; simp)
            have HR3' := Lib.hid HR3
            have HJ3 := Lib.hid hJ3
            clear HR3 hk3 hJ3
            gi_wp2
            go_wp2
            go_roundw
            case rel => exact ⟨k + 1, k + 1, _, W3, by go_num, by go_num, by omega, by omega, Lib.hid (Or.inl rfl), HG, Lib.hid (fun j h h' h1 h2 => by congr; omega), HJ3, Turns.refl _ _, HR3'⟩
            case measure => simp [intOf]; omega
          · have HP : pre ++ [(xs[a].y, (xs.drop a).take (k + 1 - a))] <+: grp Rc.y xs := ⟨grp Rc.y (xs.drop (k + 1)), by rw [Hg.out, HG1.out]; simp⟩
            gi_wp2
            go_wp2
            refine bodyPost_ret (results_none rfl _ _ _) rfl ?_
            exact ⟨⟨_, rfl⟩, .inr ⟨_, _, _, HP, hJx3, Turns.refl _ _⟩⟩
      · have hd1 : decide ((k : Int) + 1 < (xs.length : Int)) = false := by simp; omega
        refine wp_region_in nq (by kernel_rfl) (by kernel_rfl) ?_
        repeat (go_big_quiet_step (fail))
        refine wpQuiet_nil ?_
        rintro _ ⟨nr, rfl⟩
        go_upto_region 6 with (fail)
        have hend : ∀ x, (xs.drop (k + 1)).head? = some x → x.y ≠ xs[a].y := by rw [List.drop_eq_nil_of_le (by omega)]; rintro x ⟨⟩
        have hseg : ∀ x ∈ (xs.drop a).take (k + 1 - a), x.y = xs[a].y := seg_sameR hal (fun j h h1 h2 => Hs.out j h hal h1 h2)
        have hcut : xs.drop a = (xs.drop a).take (k + 1 - a) ++ xs.drop (k + 1) := by
          rw [show xs.drop (k + 1) = (xs.drop a).drop (k + 1 - a) by rw [List.drop_drop]; congr 1; omega]
          exact (List.take_append_drop _ _).symm
        have hlen1 : ((xs.drop a).take (k + 1 - a)).length = k + 1 - a := by rw [List.length_take, List.length_drop]; omega
        have hg1 : grp Rc.y (xs.drop a) = (xs[a].y, (xs.drop a).take (k + 1 - a)) :: grp Rc.y (xs.drop (k + 1)) := by
          conv => lhs; rw [hcut]
          exact grp_run _ _ _ _ (by intro e; rw [e] at hlen1; simp at hlen1; omega) hseg hend
        have HR2 : ∀ b, R b → nr.world.heap[b]? = w.heap[b]? := fun b hb => (nr.below.block b (lt_of_R (hRlt b) HR.out hb)).trans (HR.out b hb)
        obtain ⟨fn, tmps, assign, body, hy, hRd⟩ := HY.out pre (xs[a].y, (xs.drop a).take (k + 1 - a)) (grp Rc.y (xs.drop (k + 1))) (fun _ => False) (fun _ => False) Wp nr.world #[.int .i64 xs[a].y, .slice (some ⟨b, off + a * 4, none⟩) (k + 1 - a) (cap - a)]
          (by rw [Hg.out, hg1]) HJ.out (ht.trans (Turns.of_below' nr.below)) (fun _ h => h.elim) (fun _ h => h.elim) HR2
          ⟨_, rfl, ⟨_, _, by rw [hlen1], by rw [hlen1]; omega, by omega, (Hp.out.sub a (k + 1 - a)).below nr.below⟩, fun b' e => by cases e; exact hR3 ⟨b, off, none⟩ rfl⟩
        refine (wpIn_wide (n := 0)).1 ?_
        have HG1 := Lib.hid hg1
        clear hend hseg hcut hg1
        gi_wp2
        refine ⟨rfl, hRd.mono ?_⟩
        rintro e W3 (⟨rfl, hJ3, hsz3, hk3⟩ | ⟨rfl, hJx3, -, -⟩)
        · have HR3 : ∀ b, R b → W3.heap[b]? = w.heap[b]? := fun b hb => (hk3 b (Or.inl hb)).trans (HR2 b hb)
          have HG := Lib.hid (show grp Rc.y xs = (pre ++ [(xs[a].y, (xs.drop a).take (k + 1 - a))]) ++ grp Rc.y (xs.drop (k + 1)) by rw [Hg.out, HG1.out]; simp)
          have HR3' := Lib.hid HR3
          have HJ3 := Lib.hid hJ3
          clear HR3 hk3 hJ3
          gi_wp2
          go_wp2
          go_roundw
          case rel => exact ⟨k + 1, k + 1, _, W3, by go_num, by go_num, by omega, by omega, Lib.hid (Or.inl rfl), HG, Lib.hid (fun j h h' h1 h2 => by congr; omega), HJ3, Turns.refl _ _, HR3'⟩
          case measure => simp [intOf]; omega
        · have HP : pre ++ [(xs[a].y, (xs.drop a).take (k + 1 - a))] <+: grp Rc.y xs := ⟨grp Rc.y (xs.drop (k + 1)), by rw [Hg.out, HG1.out]; simp⟩
          gi_wp2
          go_wp2
          refine bodyPost_ret (results_none rfl _ _ _) rfl ?_
          exact ⟨⟨_, rfl⟩, .inr ⟨_, _, _, HP, hJx3, Turns.refl _ _⟩⟩
    · have HX : grp Rc.y xs = pre := by
        rw [Hg.out, show xs.drop a = [] from List.drop_eq_nil_of_le (by have := He.out; omega)]; simp [grp]
      have HX' := Lib.hid HX
      clear HX
      go_wp2
      go_end0
      exact ⟨⟨_, rfl⟩, .inl ⟨_, _, by rw [HX'.out]; exact HJ.out, ht⟩⟩

end Go.Proofs.Ytpddkhhdleknnaa

/- slices.ContainsFunc over rectangles; region's Has. -/
namespace Go.Proofs.Ytpddkhhdleknnaa
open Go.RowKit

set_option maxHeartbeats 1000000 in
theorem indexR0_any (g : Nat) (p : Rc → Bool) (v : Value) (xs : List Rc) (w : World) (hv : Row encR 4 w v xs) (hF : Enters Try.prog g) (h : ∀ r ∈ xs, ∀ w1, Below w.heap.size w w1 → Makes Try.prog g #[RV r] w1 (.bool (p r))) :
    Calls Try.prog 103 #[v, .func (.func g) #[] #[]] w fun e w' => (∃ i : Int, e = .returned (.int .i64 i) ∧ decide (0 ≤ i) = xs.any p) ∧ Below w.heap.size w w' := by
  have hn := hv.len
  obtain ⟨pp, cap, rfl, -, -, hp⟩ := hv
  unfold Enters at hF
  have H := Lib.hid h
  clear h
  go_enter Try.func103, Try.ntmps103
  go_wp2
  go_loopw [8] (fun i wr => ∃ k : Nat, k ≤ xs.length ∧ i = .int .i64 k ∧ Below w.heap.size w wr ∧ Hid (xs.any p = (xs.drop k).any p)) (fun i _ => xs.length - (intOf i).toNat)
  case atStart => exact ⟨0, by omega, rfl, Below.refl _ _, Lib.hid rfl⟩
  case round =>
    obtain ⟨k, hk, rfl, hb, he⟩ := hrel
    by_cases hlt : k < xs.length
    · obtain ⟨b, off, rfl, hB, hc⟩ := (hp.below hb).rc hlt
      obtain ⟨a0, a1, a2, a3⟩ := hc k hlt
      have Hat := Lib.hid (show (xs.drop k).any p = (p xs[k] || (xs.drop (k + 1)).any p) by rw [List.drop_eq_getElem_cons hlt]; rfl)
      have Hcall := Lib.hid (H.out xs[k] (List.getElem_mem hlt))
      clear hc
      generalize xs[k] = r at *
      go_wp2_with fail
      refine Calls.mono (Hcall.out _ hb) ?_
      rintro e w1 ⟨rfl, hb1⟩
      have hb2 := hb.trans (hb1.mono hb.size)
      cases hr : p r
      · have Hr := Lib.hid hr
        clear hr
        go_wp2
        go_roundw
        case rel => exact ⟨k + 1, by omega, by go_num, hb2, Lib.hid (by rw [he.out, Hat.out, Hr.out]; rfl)⟩
        case measure => simp [intOf]; omega
      · have Hr := Lib.hid hr
        clear hr
        go_wp2
        go_ret
        exact ⟨⟨_, rfl, by rw [he.out, Hat.out, Hr.out]; simp⟩, hb2⟩
    · go_wp2
      go_ret
      refine ⟨⟨_, rfl, ?_⟩, hb⟩
      rw [he.out, List.drop_eq_nil_of_le (by omega)]; rfl

set_option maxHeartbeats 400000 in
theorem containsR0_any (g : Nat) (p : Rc → Bool) (v : Value) (xs : List Rc) (w : World) (hv : Row encR 4 w v xs) (hF : Enters Try.prog g) (h : ∀ r ∈ xs, ∀ w1, Below w.heap.size w w1 → Makes Try.prog g #[RV r] w1 (.bool (p r))) :
    Makes Try.prog 63 #[v, .func (.func g) #[] #[]] w (.bool (xs.any p)) := by
  unfold Makes
  have hv' := hv
  obtain ⟨pp, cap, rfl, -, -, -⟩ := hv'
  have Hv := Lib.hid hv
  clear hv
  go_enter Try.func63, Try.ntmps63
  go_wp2_with fail
  refine Calls.mono (indexR0_any g p _ xs w Hv.out hF h) ?_
  rintro e w1 ⟨⟨i, rfl, hi⟩, hb⟩
  have Hi := Lib.hid hi
  clear hi
  go_wp2
  go_ret
  exact ⟨ret_bool (by rw [← Hi.out]), hb⟩

set_option maxHeartbeats 1000000 in
theorem indexR2_any (g : Nat) (q1 q2 : Value) (p : Rc → Bool) (v : Value) (xs : List Rc) (w : World) (hv : Row encR 4 w v xs) (hF : Enters Try.prog g) (h : ∀ r ∈ xs, ∀ w1, Below w.heap.size w w1 → Makes Try.prog g #[RV r, q1, q2] w1 (.bool (p r))) :
    Calls Try.prog 103 #[v, .func (.func g) #[] #[q1, q2]] w fun e w' => (∃ i : Int, e = .returned (.int .i64 i) ∧ decide (0 ≤ i) = xs.any p) ∧ Below w.heap.size w w' := by
  have hn := hv.len
  obtain ⟨pp, cap, rfl, -, -, hp⟩ := hv
  unfold Enters at hF
  have H := Lib.hid h
  clear h
  go_enter Try.func103, Try.ntmps103
  go_wp2
  go_loopw [8] (fun i wr => ∃ k : Nat, k ≤ xs.length ∧ i = .int .i64 k ∧ Below w.heap.size w wr ∧ Hid (xs.any p = (xs.drop k).any p)) (fun i _ => xs.length - (intOf i).toNat)
  case atStart => exact ⟨0, by omega, rfl, Below.refl _ _, Lib.hid rfl⟩
  case round =>
    obtain ⟨k, hk, rfl, hb, he⟩ := hrel
    by_cases hlt : k < xs.length
    · obtain ⟨b, off, rfl, hB, hc⟩ := (hp.below hb).rc hlt
      obtain ⟨a0, a1, a2, a3⟩ := hc k hlt
      have Hat := Lib.hid (show (xs.drop k).any p = (p xs[k] || (xs.drop (k + 1)).any p) by rw [List.drop_eq_getElem_cons hlt]; rfl)
      have Hcall := Lib.hid (H.out xs[k] (List.getElem_mem hlt))
      clear hc
      generalize xs[k] = r at *
      go_wp2_with fail
      refine Calls.mono (Hcall.out _ hb) ?_
      rintro e w1 ⟨rfl, hb1⟩
      have hb2 := hb.trans (hb1.mono hb.size)
      cases hr : p r
      · have Hr := Lib.hid hr
        clear hr
        go_wp2
        go_roundw
        case rel => exact ⟨k + 1, by omega, by go_num, hb2, Lib.hid (by rw [he.out, Hat.out, Hr.out]; rfl)⟩
        case measure => simp [intOf]; omega
      · have Hr := Lib.hid hr
        clear hr
        go_wp2
        go_ret
        exact ⟨⟨_, rfl, by rw [he.out, Hat.out, Hr.out]; simp⟩, hb2⟩
    · go_wp2
      go_ret
      refine ⟨⟨_, rfl, ?_⟩, hb⟩
      rw [he.out, List.drop_eq_nil_of_le (by omega)]; rfl

set_option maxHeartbeats 400000 in
theorem containsR2_any (g : Nat) (q1 q2 : Value) (p : Rc → Bool) (v : Value) (xs : List Rc) (w : World) (hv : Row encR 4 w v xs) (hF : Enters Try.prog g) (h : ∀ r ∈ xs, ∀ w1, Below w.heap.size w w1 → Makes Try.prog g #[RV r, q1, q2] w1 (.bool (p r))) :
    Makes Try.prog 63 #[v, .func (.func g) #[] #[q1, q2]] w (.bool (xs.any p)) := by
  unfold Makes
  have hv' := hv
  obtain ⟨pp, cap, rfl, -, -, -⟩ := hv'
  have Hv := Lib.hid hv
  clear hv
  go_enter Try.func63, Try.ntmps63
  go_wp2_with fail
  refine Calls.mono (indexR2_any g q1 q2 p _ xs w Hv.out hF h) ?_
  rintro e w1 ⟨⟨i, rfl, hi⟩, hb⟩
  have Hi := Lib.hid hi
  clear hi
  go_wp2
  go_ret
  exact ⟨ret_bool (by rw [← Hi.out]), hb⟩

set_option maxHeartbeats 400000 in
theorem regHas1_any (r : Rc) (x y : Int) (C D : Nat) (w : World) (hf : Fit r) (hx : w.cell? ⟨C, 0, none⟩ = some (.int .i64 x)) (hy : w.cell? ⟨D, 0, none⟩ = some (.int .i64 y)) :
    Makes Try.prog 69 #[RV r, .pointer (some ⟨C, 0, none⟩), .pointer (some ⟨D, 0, none⟩)] w (.bool (hasR r x y)) := by
  unfold Makes
  have hx' := cell_later (Below.al1 w (.cells #[.int .i64 r.x, .int .i64 r.y, .int .i64 r.a, .int .i64 r.b] 30)) hx
  have hy' := cell_later (Below.al1 w (.cells #[.int .i64 r.x, .int .i64 r.y, .int .i64 r.a, .int .i64 r.b] 30)) hy
  go_enter Try.func69, Try.ntmps69
  go_wp2_with fail
  refine Calls.mono (has_any _ _ _ _ hf) ?_
  rintro e w1 ⟨rfl, hb1⟩
  go_wp2
  go_ret
  exact ⟨rfl, Below.thn (Below.al1 _ _) hb1⟩

set_option maxHeartbeats 400000 in
theorem regHas_any (v : Value) (xs : List Rc) (x y : Int) (w : World) (hv : Row encR 4 w v xs) (hf : ∀ r ∈ xs, Fit r) :
    Makes Try.prog 17 #[v, .int .i64 x, .int .i64 y] w (.bool (pix xs x y)) := by
  unfold Makes
  have hmf : ∀ (fn : Fn) (first cap : Array Value) (w : World), (Instr.makeFunc fn first cap).run Try.prog w = .ok (.func fn first cap) w := fun _ _ _ _ => rfl
  have hv' := hv
  obtain ⟨pp, cap, rfl, -, -, -⟩ := hv'
  have Hv := Lib.hid hv
  clear hv
  go_enter Try.func17, Try.ntmps17
  go_wp2_with fail
  refine Calls.mono (containsR2_any _ _ _ (fun r => hasR r x y) _ xs _ (Hv.out.below (Below.al2 _ _ _)) (enters_of Try.func69 (by kernel_rfl) rfl) ?_) ?_
  · intro r hr w1 hb1
    exact regHas1_any r x y _ _ w1 (hf r hr) (cell_later (Below.thn (Below.al1 _ _) hb1) (cell_at rfl rfl)) (cell_later hb1 (cell_at (by simp) rfl))
  rintro e w1 ⟨rfl, hb1⟩
  go_wp2
  go_ret
  exact ⟨rfl, Below.thn (Below.al2 _ _ _) hb1⟩

end Go.Proofs.Ytpddkhhdleknnaa
