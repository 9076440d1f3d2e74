/- Several texts in one, each with its own head. -/
import Derived.Test.YtpddkhhdleknnaaZ17
import Derived.OwnWalkIn
import Derived.TacticsInMore
import Derived.LoopNIn
import Derived.LoopIn
import Derived.Test.YtpddkhhdleknnaaZ1
import Derived.Maps.AppendAt
/- The walk of region's runs over edges: what the iterator hands over. -/
namespace Go.Proofs.Ytpddkhhdleknnaa
open Go.RowKit Go.Shelf

attribute [local go_sem] Oper.semAt_some

set_option maxHeartbeats 400000 in
theorem edPlace_any (e : Ed) (w : World) : Makes Try.prog 128 #[EV e] w (.int .i64 e.pl) := by
  unfold Makes
  go_enter Try.func128, Try.ntmps128
  go_wp2
  go_ret
  exact ⟨rfl, Below.al1 _ _⟩

theorem seg_same {xs : List Ed} {a k : Nat} (hal : a < xs.length) (h : ∀ j (h : j < xs.length), a ≤ j → j ≤ k → xs[j].pl = xs[a].pl) : ∀ x ∈ (xs.drop a).take (k + 1 - a), x.pl = xs[a].pl := by
  intro x hx
  obtain ⟨i, hi, rfl⟩ := List.getElem_of_mem hx
  rw [List.length_take, List.length_drop] at hi
  rw [List.getElem_take, List.getElem_drop]
  exact h _ (by omega) (by omega) (by omega)

theorem lt_of_R {R : Nat → Prop} {w wr : World} {b : Nat} (hw : R b → b < w.heap.size) (h : ∀ b, R b → wr.heap[b]? = w.heap[b]?) (hb : R b) : b < wr.heap.size := lt_of_same (hw hb) (h b hb)

def ElRuns (R : Nat → Prop) (_ W : World) (_ : Nat → Prop) (x : Int × List Ed) (vs : Array Value) : Prop :=
  ∃ v, vs = #[.int .i64 x.1, v] ∧ Row encE 7 W v x.2 ∧ ∀ b, v.ownBlock = some b → R b

set_option maxHeartbeats 1000000 in
theorem runsE_iter (Bl Bp : Nat) (p : Option Addr) (cap : Nat) (xs : List Ed) (w : World) (R : Nat → Prop) (hBl : Boxed w Bl 125 (.slice p xs.length cap)) (hBp : Boxed w Bp 137 (.func (.func 128) #[] #[]))
    (hcap : xs.length ≤ cap) (hm : cap ≤ maxLen) (hp : RowAt encE 7 w p xs) (hRlt : ∀ b, R b → b < w.heap.size) (hR1 : R Bl) (hR2 : R Bp) (hR3 : ∀ a, p = some a → R a.block) :
    Iter Try.prog 132 #[.pointer (some ⟨Bl, 0, none⟩), .pointer (some ⟨Bp, 0, none⟩)] (ElRuns R) R (grp Ed.pl xs) w := by
  intro l J Jx W hsz hRW hJ0 hY
  refine callsIn_wide.2 ?_
  have hlen : xs.length ≤ 9223372036854775807 := by simp only [maxLen] at hm; omega
  have hcl : W.cell? ⟨Bl, 0, none⟩ = some (.slice p xs.length cap) := (World.cell?_of_block (hRW Bl hR1)).trans hBl.cell
  have HY := Lib.hid hY
  have HRW := Lib.hid hRW
  clear hY hRW
  go_enter Try.func132, Try.ntmps132
  go_wp2
  go_loopw [4, 9] (fun f i wr => ∃ (a k : Nat) (pre : List (Int × List Ed)) (Wp : World), f = .int .i64 a ∧ i = .int .i64 k ∧ a ≤ k ∧ k ≤ xs.length ∧ Hid (a = k ∨ k < xs.length) ∧ Hid (grp Ed.pl xs = pre ++ grp Ed.pl (xs.drop a)) ∧ Hid (∀ j (h : j < xs.length) (h' : a < xs.length), a ≤ j → j ≤ k → xs[j].pl = xs[a].pl) ∧ Hid (J pre (fun _ => False) Wp) ∧ Turns (fun _ => False) Wp wr ∧ Hid (∀ b, R b → wr.heap[b]? = w.heap[b]?)) (fun _ i _ => xs.length - (intOf i).toNat)
  case atStart => exact ⟨0, 0, [], W, rfl, rfl, by omega, by omega, Lib.hid (Or.inl rfl), Lib.hid rfl, Lib.hid (fun j h h' h1 h2 => by congr; omega), Lib.hid hJ0, Turns.refl _ _, HRW⟩
  case round =>
    obtain ⟨a, k, pre, Wp, rfl, rfl, hak, hk, He, Hg, Hs, HJ, ht, HR⟩ := hrel
    by_cases hlt : k < xs.length
    · obtain ⟨b, off, rfl, hB, -⟩ := hp.ed hlt
      have hp' : RowAt encE 7 wr (some ⟨b, off, none⟩) xs := hp.same (fun a e => by cases e; exact HR.out b (hR3 _ rfl))
      obtain ⟨_, _, e, -, hc⟩ := hp'.ed hlt
      cases e
      have cl : wr.cell? ⟨Bl, 0, none⟩ = some (.slice (some ⟨b, off, none⟩) xs.length cap) := (World.cell?_of_block (HR.out Bl hR1)).trans hBl.cell
      have cp : wr.cell? ⟨Bp, 0, none⟩ = some (.func (.func 128) #[] #[]) := (World.cell?_of_block (HR.out Bp hR2)).trans hBp.cell
      have hal : a < xs.length := by omega
      have ia : (0 : Int) ≤ a := by omega
      have ca := hc a hal
      have Hxa := Lib.hid (Hs.out k hlt hal hak (Nat.le_refl k))
      obtain ⟨wo, hwo⟩ : ∃ wo, wo = wr := ⟨_, rfl⟩
      have Hwo := Lib.hid hwo
      clear hwo
      have hne := After.ne wr
      have rl := After.cell cl
      have rp := After.cell cp
      have r0 := After.cell ca.c0
      have r1 := After.cell ca.c1
      have r2 := After.cell ca.c2
      have r3 := After.cell ca.c3
      have r4 := After.cell ca.c4
      have r5 := After.cell ca.c5
      have r6 := After.cell ca.c6
      have Hp := Lib.hid hp'
      have Hbl := Lib.hid hBl
      have Hbp := Lib.hid hBp
      have Hbc := Lib.hid hc
      have Hp0 := Lib.hid hp
      clear ca cl cp hp' hBl hBp hc hcl hp
      have e81 := enters_of Try.func128 (by kernel_rfl) rfl
      go_wp2
      refine wp_region_after (by kernel_rfl) (by kernel_rfl) ?_
      repeat (go_big_quiet_step ((go_at_call 128; exact Makes.after (edPlace_any xs[a] _))))
      refine wpQuiet_nil ?_
      rintro _ ⟨nq, rfl⟩
      go_wp2
      have hrk : IntKind.i64.wrap ((k : Int) + 1) = (k : Int) + 1 := IntWalk.i64_in _ (by omega)
      by_cases hk1 : k + 1 < xs.length
      · have cb := Hbc.out (k + 1) hk1
        have q0 := After.cell cb.c0
        have q1 := After.cell cb.c1
        have q2 := After.cell cb.c2
        have q3 := After.cell cb.c3
        have q4 := After.cell cb.c4
        have q5 := After.cell cb.c5
        have q6 := After.cell cb.c6
        clear cb
        have hd1 : decide ((k : Int) + 1 < (xs.length : Int)) = true := by simp; omega
        have hi0 : (0 : Int) ≤ (k : Int) + 1 := by omega
        have hi1 : ((k : Int) + 1).toNat = k + 1 := by omega
        by_cases hsm : xs[k + 1].pl = xs[a].pl
        · have hsm' : ((xs[k + 1].pl : Int) == xs[a].pl) = true := by simpa using hsm
          have Hsm := Lib.hid hsm
          clear hsm
          refine wp_region_in nq (by kernel_rfl) (by kernel_rfl) ?_
          repeat (go_big_quiet_step ((go_at_call 128; exact Makes.after (edPlace_any xs[k + 1] _))))
          refine wpQuiet_nil ?_
          rintro _ ⟨nr, rfl⟩
          go_wp2
          go_roundw
          case rel => exact ⟨a, k + 1, pre, Wp, rfl, by go_num, by omega, by omega, Lib.hid (Or.inr hk1), Hg, Lib.hid (fun j h h' h1 h2 => by
            rcases Nat.lt_or_ge k j with h3 | h3
            · obtain rfl : j = k + 1 := by omega
              exact Hsm.out
            · exact Hs.out j h h' h1 h3), HJ, ht.trans (Turns.of_below' nr.below), Lib.hid (fun b hb => (nr.below.block b (lt_of_R (hRlt b) HR.out hb)).trans (HR.out b hb))⟩
          case measure => simp [intOf]; omega
        · have hsm' : ((xs[k + 1].pl : Int) == xs[a].pl) = false := by simpa using hsm
          have Hsm := Lib.hid hsm
          clear hsm
          refine wp_region_in nq (by kernel_rfl) (by kernel_rfl) ?_
          repeat (go_big_quiet_step ((go_at_call 128; exact Makes.after (edPlace_any xs[k + 1] _))))
          refine wpQuiet_nil ?_
          rintro _ ⟨nr, rfl⟩
          go_upto_region 6 with (fail)
          have hend : ∀ x, (xs.drop (k + 1)).head? = some x → x.pl ≠ xs[a].pl := by rw [List.drop_eq_getElem_cons hk1]; rintro x ⟨rfl⟩; exact Hsm.out
          have hseg : ∀ x ∈ (xs.drop a).take (k + 1 - a), x.pl = xs[a].pl := seg_same hal (fun j h h1 h2 => Hs.out j h hal h1 h2)
          have hcut : xs.drop a = (xs.drop a).take (k + 1 - a) ++ xs.drop (k + 1) := by
            rw [show xs.drop (k + 1) = (xs.drop a).drop (k + 1 - a) by rw [List.drop_drop]; congr 1; omega]
            exact (List.take_append_drop _ _).symm
          have hlen1 : ((xs.drop a).take (k + 1 - a)).length = k + 1 - a := by rw [List.length_take, List.length_drop]; omega
          have hg1 : grp Ed.pl (xs.drop a) = (xs[a].pl, (xs.drop a).take (k + 1 - a)) :: grp Ed.pl (xs.drop (k + 1)) := by
            conv => lhs; rw [hcut]
            exact grp_run _ _ _ _ (by intro e; rw [e] at hlen1; simp at hlen1; omega) hseg hend
          have HR2 : ∀ b, R b → nr.world.heap[b]? = w.heap[b]? := fun b hb => (nr.below.block b (lt_of_R (hRlt b) HR.out hb)).trans (HR.out b hb)
          obtain ⟨fn, tmps, assign, body, hy, hRd⟩ := HY.out pre (xs[a].pl, (xs.drop a).take (k + 1 - a)) (grp Ed.pl (xs.drop (k + 1))) (fun _ => False) (fun _ => False) Wp nr.world #[.int .i64 xs[a].pl, .slice (some ⟨b, off + a * 7, none⟩) (k + 1 - a) (cap - a)]
            (by rw [Hg.out, hg1]) HJ.out (ht.trans (Turns.of_below' nr.below)) (fun _ h => h.elim) (fun _ h => h.elim) HR2
            ⟨_, rfl, ⟨_, _, by rw [hlen1], by rw [hlen1]; omega, by omega, (Hp.out.sub a (k + 1 - a)).below nr.below⟩, fun b' e => by cases e; exact hR3 ⟨b, off, none⟩ rfl⟩
          refine (wpIn_wide (n := 0)).1 ?_
          have HG1 := Lib.hid hg1
          clear hend hseg hcut hg1
          gi_wp2
          refine ⟨rfl, hRd.mono ?_⟩
          rintro e W3 (⟨rfl, hJ3, hsz3, hk3⟩ | ⟨rfl, hJx3, -, -⟩)
          · have HR3 : ∀ b, R b → W3.heap[b]? = w.heap[b]? := fun b hb => (hk3 b (Or.inl hb)).trans (HR2 b hb)
            have HG := Lib.hid (show grp Ed.pl xs = (pre ++ [(xs[a].pl, (xs.drop a).take (k + 1 - a))]) ++ grp Ed.pl (xs.drop (k + 1)) by rw [Hg.out, HG1.out]; simp)
            have HR3' := Lib.hid HR3
            have HJ3 := Lib.hid hJ3
            clear HR3 hk3 hJ3
            gi_wp2
            go_wp2
            go_roundw
            case rel => exact ⟨k + 1, k + 1, _, W3, by go_num, by go_num, by omega, by omega, Lib.hid (Or.inl rfl), HG, Lib.hid (fun j h h' h1 h2 => by congr; omega), HJ3, Turns.refl _ _, HR3'⟩
            case measure => simp [intOf]; omega
          · have HP : pre ++ [(xs[a].pl, (xs.drop a).take (k + 1 - a))] <+: grp Ed.pl xs := ⟨grp Ed.pl (xs.drop (k + 1)), by rw [Hg.out, HG1.out]; simp⟩
            gi_wp2
            go_wp2
            refine bodyPost_ret (results_none rfl _ _ _) rfl ?_
            exact ⟨⟨_, rfl⟩, .inr ⟨_, _, _, HP, hJx3, Turns.refl _ _⟩⟩
      · have hd1 : decide ((k : Int) + 1 < (xs.length : Int)) = false := by simp; omega
        refine wp_region_in nq (by kernel_rfl) (by kernel_rfl) ?_
        repeat (go_big_quiet_step (fail))
        refine wpQuiet_nil ?_
        rintro _ ⟨nr, rfl⟩
        go_upto_region 6 with (fail)
        have hend : ∀ x, (xs.drop (k + 1)).head? = some x → x.pl ≠ xs[a].pl := by rw [List.drop_eq_nil_of_le (by omega)]; rintro x ⟨⟩
        have hseg : ∀ x ∈ (xs.drop a).take (k + 1 - a), x.pl = xs[a].pl := seg_same hal (fun j h h1 h2 => Hs.out j h hal h1 h2)
        have hcut : xs.drop a = (xs.drop a).take (k + 1 - a) ++ xs.drop (k + 1) := by
          rw [show xs.drop (k + 1) = (xs.drop a).drop (k + 1 - a) by rw [List.drop_drop]; congr 1; omega]
          exact (List.take_append_drop _ _).symm
        have hlen1 : ((xs.drop a).take (k + 1 - a)).length = k + 1 - a := by rw [List.length_take, List.length_drop]; omega
        have hg1 : grp Ed.pl (xs.drop a) = (xs[a].pl, (xs.drop a).take (k + 1 - a)) :: grp Ed.pl (xs.drop (k + 1)) := by
          conv => lhs; rw [hcut]
          exact grp_run _ _ _ _ (by intro e; rw [e] at hlen1; simp at hlen1; omega) hseg hend
        have HR2 : ∀ b, R b → nr.world.heap[b]? = w.heap[b]? := fun b hb => (nr.below.block b (lt_of_R (hRlt b) HR.out hb)).trans (HR.out b hb)
        obtain ⟨fn, tmps, assign, body, hy, hRd⟩ := HY.out pre (xs[a].pl, (xs.drop a).take (k + 1 - a)) (grp Ed.pl (xs.drop (k + 1))) (fun _ => False) (fun _ => False) Wp nr.world #[.int .i64 xs[a].pl, .slice (some ⟨b, off + a * 7, none⟩) (k + 1 - a) (cap - a)]
          (by rw [Hg.out, hg1]) HJ.out (ht.trans (Turns.of_below' nr.below)) (fun _ h => h.elim) (fun _ h => h.elim) HR2
          ⟨_, rfl, ⟨_, _, by rw [hlen1], by rw [hlen1]; omega, by omega, (Hp.out.sub a (k + 1 - a)).below nr.below⟩, fun b' e => by cases e; exact hR3 ⟨b, off, none⟩ rfl⟩
        refine (wpIn_wide (n := 0)).1 ?_
        have HG1 := Lib.hid hg1
        clear hend hseg hcut hg1
        gi_wp2
        refine ⟨rfl, hRd.mono ?_⟩
        rintro e W3 (⟨rfl, hJ3, hsz3, hk3⟩ | ⟨rfl, hJx3, -, -⟩)
        · have HR3 : ∀ b, R b → W3.heap[b]? = w.heap[b]? := fun b hb => (hk3 b (Or.inl hb)).trans (HR2 b hb)
          have HG := Lib.hid (show grp Ed.pl xs = (pre ++ [(xs[a].pl, (xs.drop a).take (k + 1 - a))]) ++ grp Ed.pl (xs.drop (k + 1)) by rw [Hg.out, HG1.out]; simp)
          have HR3' := Lib.hid HR3
          have HJ3 := Lib.hid hJ3
          clear HR3 hk3 hJ3
          gi_wp2
          go_wp2
          go_roundw
          case rel => exact ⟨k + 1, k + 1, _, W3, by go_num, by go_num, by omega, by omega, Lib.hid (Or.inl rfl), HG, Lib.hid (fun j h h' h1 h2 => by congr; omega), HJ3, Turns.refl _ _, HR3'⟩
          case measure => simp [intOf]; omega
        · have HP : pre ++ [(xs[a].pl, (xs.drop a).take (k + 1 - a))] <+: grp Ed.pl xs := ⟨grp Ed.pl (xs.drop (k + 1)), by rw [Hg.out, HG1.out]; simp⟩
          gi_wp2
          go_wp2
          refine bodyPost_ret (results_none rfl _ _ _) rfl ?_
          exact ⟨⟨_, rfl⟩, .inr ⟨_, _, _, HP, hJx3, Turns.refl _ _⟩⟩
    · have HX : grp Ed.pl xs = pre := by
        rw [Hg.out, show xs.drop a = [] from List.drop_eq_nil_of_le (by have := He.out; omega)]; simp [grp]
      have HX' := Lib.hid HX
      clear HX
      go_wp2
      go_end0
      exact ⟨⟨_, rfl⟩, .inl ⟨_, _, by rw [HX'.out]; exact HJ.out, ht⟩⟩

end Go.Proofs.Ytpddkhhdleknnaa

/- append: where the new slice lies, and a source that may be nil. Nothing here speaks of one program. -/
namespace Go.Proofs.Ytpddkhhdleknnaa
open Go.RowKit

section
variable {P : Program} (w : World)

/-- append: the answer owns the longer row; it lies where the old one lay, or in a new block. -/
theorem run_append_mine (base : Nat) (t ty e : TypeId) (i : TypeInfo) (z : Value) (size bytes : Nat) (ht : P.underlying t = some (.slice e)) (hi : P.info? e = some i) (hz : i.zero = some z)
    (hsize : i.size = size) (hby : i.bytes = bytes) (hzs : z.cells.size = size) (hsz : 0 < size)
    (v : Value) (n : Nat) (xs : List Value) (hown : w.ownsRow base e size v n xs)
    (p : Option Addr) (m c : Nat) (news : List Value) (hl : news.length = m * size) (hnews : (p = none ∧ m = 0 ∧ c = 0) ∨ ∃ a, p = some a ∧ ∀ j u, news[j]? = some u → w.cell? (a.add j) = some u) (h1 : ∀ u ∈ news, u.oneCell' = true)
    (h63 : n + m ≤ maxLen) (hbytes : (n + m) * bytes ≤ 140737488355328) (hbase : base ≤ w.heap.size) :
    ∃ v' w', (Builtin.append_ #[t, t] ty #[v, .slice p m c]).run P w = .ok v' w' ∧ w'.ownsRow base e size v' (n + m) (xs ++ news) ∧ w.grownBy w' v.ownBlock ∧ (∀ k, v'.ownBlock = some k → v.ownBlock = some k ∨ w.heap.size ≤ k) := by
  rcases hnews with ⟨rfl, rfl, rfl⟩ | ⟨a, rfl, hnews⟩
  · have hn : news = [] := List.eq_nil_of_length_eq_zero (by simpa using hl)
    subst hn
    refine ⟨v, w, ?_, by simpa using hown, ⟨rfl, rfl, rfl, Nat.le_refl _, fun _ _ _ => rfl⟩, fun k hk => .inl hk⟩
    rcases hown.2 with ⟨rfl, rfl⟩ | ⟨g, cap, cur, rfl, hbg, hg, hnc, hcm, hcs, htake⟩
    · simp [Builtin.append_, run_underlying ht, sizeOf, typeInfo, hi, Builtin.lenOf, Builtin.firstCells]
    · simp [Builtin.append_, run_underlying ht, sizeOf, typeInfo, hi, Builtin.lenOf, Builtin.firstCells, hnc, storeCells]
  · obtain ⟨v', w', hr, h2, h3, h4⟩ := run_append_own (P := P) w base t ty e i z size bytes ht hi hz hsize hby hzs hsz v n xs hown a m c news hl hnews h1 h63 hbytes hbase
    refine ⟨v', w', hr, h2, h3, ?_⟩
    rcases hown.2 with ⟨rfl, rfl⟩ | ⟨g, cap, cur, rfl, hbg, hg, hnc, hcm, hcs, htake⟩
    · obtain ⟨v2, w2, hr2, k2, _, _⟩ := run_append_own (P := P) w w.heap.size t ty e i z size bytes ht hi hz hsize hby hzs hsz _ 0 [] (World.ownsRow_nil w _ e size) a m c news hl hnews h1 h63 hbytes (Nat.le_refl _)
      rw [hr] at hr2
      cases hr2
      exact fun k hk => .inr (k2.lt k hk).1
    · subst hsize
      subst hby
      by_cases hroom : n + m ≤ cap
      · have hfit : n * i.size + news.length ≤ cur.size := by rw [hl, hcs, ← Nat.add_mul]; exact Nat.mul_le_mul_right _ hroom
        have hr2 := run_append_room (P := P) w t ty e i ht hi g n cap cur hg a m c news hl hnews h1 hroom hfit
        rw [hr] at hr2
        cases hr2
        exact fun k hk => .inl hk
      · have holds : ∀ j u, xs[j]? = some u → w.cell? ((⟨g, 0, none⟩ : Addr).add j) = some u := hown.cells (g := g) rfl
        have hr2 := run_append_grow (P := P) w t ty e i z ht hi hz ⟨g, 0, none⟩ n cap xs hown.1 holds a m c news hl hnews (by omega) (by simp only [maxLen] at h63; omega) (growslice_fits (by omega) hbytes)
        rw [hr] at hr2
        cases hr2
        exact fun k hk => .inr (by cases hk; exact Nat.le_refl _)
end

theorem wpList_append_mine {P : Program} (w : World) {ops : Array Oper} {rest : List Oper} {o : Oper} {a : Act} {Q : Exit → Act → World → Prop} (hgd : o.guard = none) (s x : Operand) (t : TypeId)
    (ho : o.op = .call { callee := .builtin .append, args := #[s, x], argTypes := #[t, t] })
    (base : Nat) (e : TypeId) (i : TypeInfo) (z : Value) (size bytes : Nat) (ht : P.underlying t = some (.slice e)) (hi : P.info? e = some i) (hz : i.zero = some z)
    (hsize : i.size = size) (hby : i.bytes = bytes) (hzs : z.cells.size = size) (hsz : 0 < size)
    (v : Value) (n : Nat) (xs : List Value) (hs : a.eval s = v) (hown : w.ownsRow base e size v n xs)
    (p : Option Addr) (m c : Nat) (news : List Value) (hx : a.eval x = .slice p m c) (hl : news.length = m * size) (hnews : (p = none ∧ m = 0 ∧ c = 0) ∨ ∃ ad, p = some ad ∧ ∀ j u, news[j]? = some u → w.cell? (ad.add j) = some u) (h1 : ∀ u ∈ news, u.oneCell' = true)
    (h63 : n + m ≤ maxLen) (hbytes : (n + m) * bytes ≤ 140737488355328) (hbase : base ≤ w.heap.size)
    (h : ∀ v' w', w'.ownsRow base e size v' (n + m) (xs ++ news) → w.grownBy w' v.ownBlock → (∀ k, v'.ownBlock = some k → v.ownBlock = some k ∨ w.heap.size ≤ k) → wpList P ops Q rest (a.put o.dst v') w') : wpList P ops Q (o :: rest) a w :=
  wpList_plain hgd fun _ hK => by
    obtain ⟨v', w', hr, h2, h3, h4⟩ := run_append_mine (P := P) w base t o.type e i z size bytes ht hi hz hsize hby hzs hsz v n xs hown p m c news hl hnews h1 h63 hbytes hbase
    unfold Oper.wp execOp
    simp only [ho, resolve, invoke, builtin, Sem.run_bind, Sem.run_pure, Result.andThen_ok, List.map_toArray, List.map_cons, List.map_nil, hs, hx, hr]
    exact hK _ _ (h v' w' h2 h3 h4)

theorem wpListIn_append_mine {F : Fence} {n : Nat} {P : Program} (w : World) {ops : Array Oper} {rest : List Oper} {o : Oper} {a : Act} {Q : Exit → Act → World → Prop}
    (hg : o.guard = none) (s x : Operand) (t : TypeId) (hop : o.op = Op.call { callee := Callee.builtin Builtin.append, args := #[s, x], argTypes := #[t, t] })
    (base : Nat) (e : TypeId) (i : TypeInfo) (z : Value) (size bytes : Nat) (h1 : P.underlying t = some (.slice e)) (h2 : P.info? e = some i) (h3 : i.zero = some z) (h4 : i.size = size) (h5 : i.bytes = bytes) (h6 : z.cells.size = size) (h7 : 0 < size)
    (v : Value) (k : Nat) (xs : List Value) (hs : a.eval s = v) (hown : w.ownsRow base e size v k xs) (p : Option Addr) (m c : Nat) (news : List Value) (hx : a.eval x = .slice p m c) (hn : news.length = m * size)
    (hc : (p = none ∧ m = 0 ∧ c = 0) ∨ ∃ ad, p = some ad ∧ ∀ j u, news[j]? = some u → w.cell? (ad.add j) = some u) (h1c : ∀ u ∈ news, u.oneCell' = true) (b1 : k + m ≤ maxLen) (b2 : (k + m) * bytes ≤ 140737488355328) (b3 : base ≤ w.heap.size)
    (hK : ∀ v' w', w'.ownsRow base e size v' (k + m) (xs ++ news) → w.grownBy w' v.ownBlock → (∀ k, v'.ownBlock = some k → v.ownBlock = some k ∨ w.heap.size ≤ k) → wpListIn F n P ops Q rest (a.put o.dst v') w') :
    wpListIn F n P ops Q (o :: rest) a w := by
  refine wpListIn_plain hg fun K hK' => ?_
  obtain ⟨v', w', hrun, r1, r2, r3⟩ := run_append_mine (P := P) w base t o.type e i z size bytes h1 h2 h3 h4 h5 h6 h7 v k xs hown p m c news hn hc h1c b1 b2 b3
  unfold Oper.wpIn
  refine ⟨?_, ?_⟩
  · simp [Oper.about, hop, resolve, Target.leads, Sem.run_pure]
  · rw [Oper.semAt_plain F _ _ (by rw [hop]; intro c hc'; cases hc')]
    simp [execOp, hop, resolve, invoke, builtin, hs, hx, hrun, Result.andThen]
    exact hK' _ _ (hK v' w' r1 r2 r3)

theorem news_cells {w : World} {c : List Value} {t : TypeId} : ∀ j u, c[j]? = some u → (w.alloc (.cells c.toArray t)).cell? ((⟨w.heap.size, 0, none⟩ : Addr).add j) = some u := fun j u hj => by
  rw [Addr.add_lit, Nat.zero_add, World.cell?_alloc_at _ _ _ _ rfl]
  simpa using hj

/-- append of one element, which lies in a new block: where the answer lies. -/
theorem wpList_append_one {P : Program} (w : World) {ops : Array Oper} {rest : List Oper} {o : Oper} {a : Act} {Q : Exit → Act → World → Prop} (hgd : o.guard = none) (s x : Operand) (t : TypeId)
    (ho : o.op = .call { callee := .builtin .append, args := #[s, x], argTypes := #[t, t] })
    (base : Nat) (e : TypeId) (z : Value) (bytes : Nat) (hinfo : (P.info? e).map (fun i => (i.zero, i.size, i.bytes)) = some (some z, 1, bytes)) (ht : P.underlying t = some (.slice e)) (hzs : z.cells.size = 1)
    (v : Value) (n : Nat) (xs : List Value) (hs : a.eval s = v) (hown : w.ownsRow base e 1 v n xs) (u : Value) (te : TypeId) (hx : a.eval x = .slice (some ⟨w.heap.size, 0, none⟩) 1 1) (hu : u.oneCell' = true)
    (h63 : n + 1 ≤ maxLen) (hbytes : (n + 1) * bytes ≤ 140737488355328) (hbase : base ≤ w.heap.size)
    (h : ∀ g cap w', w'.ownsRow base e 1 (.slice (some ⟨g, 0, none⟩) (n + 1) cap) (n + 1) (xs ++ [u]) → Turns (fun b => v.ownBlock = some b) w w' → (v.ownBlock = some g ∨ w.heap.size ≤ g) → wpList P ops Q rest (a.put o.dst (.slice (some ⟨g, 0, none⟩) (n + 1) cap)) w') :
    wpList P ops Q (o :: rest) a (w.alloc (.cells #[u] te)) := by
  obtain ⟨i, hi, hz, hsz, hby⟩ := info_parts hinfo
  refine wpList_append_mine (P := P) (w.alloc (.cells #[u] te)) hgd s x t ho base e i z 1 bytes ht hi hz hsz hby hzs (by decide) v n xs hs (hown.alloc _) (some ⟨w.heap.size, 0, none⟩) 1 1 [u] hx rfl (.inr ⟨_, rfl, news_cells (c := [u])⟩)
    (fun q hq => by rcases List.mem_singleton.1 hq with rfl; exact hu) h63 hbytes (by rw [World.size_alloc]; omega) ?_
  intro v' w' h2 h3 h4
  rcases h2.2 with ⟨-, h0⟩ | ⟨g, cap, cur, rfl, -⟩
  · omega
  · refine h g cap w' h2 ?_ ?_
    · exact (Turns.of_below' (Below.al1 w _)).trans (Turns.of_grown h3 (fun _ h => h))
    · rcases h4 g rfl with h | h
      · exact .inl h
      · rw [World.size_alloc] at h
        exact .inr (by omega)

end Go.Proofs.Ytpddkhhdleknnaa
