/- The statements' own form: a list of bands in form passes its four lines. -/
import Derived.Test.YtjgbelljijhfcaaLawSame
import Derived.Test.YtjgbelljijhfcaaMathG
import Derived.Test.YtjgbelljijhfcaaIsBand
namespace Go.Proofs.Ytjgbelljijhfcaa
open Go.RowKit

/-- Where the loop over a list in form stands: u, f: where the band ahead, and the band, begin; k: how many are seen. -/
def FormAt (xs : List Rc) (u f k : Nat) : Prop :=
  (k = 0 ∧ f = 0 ∧ u = 0 ∧ ∃ bs, Canon bs ∧ xs = bs.flatten) ∨
  ∃ (done ab cur : List Rc) (post : List (List Rc)), xs = done ++ (ab ++ (cur ++ post.flatten)) ∧ u = done.length ∧ f = done.length + ab.length ∧ f < k ∧ k ≤ f + cur.length ∧ goesOnB ab cur = false ∧ Canon (cur :: post)

theorem FormAt.first {xs : List Rc} {u f k : Nat} (h : FormAt xs u f k) (h0 : k = 0) (hl : k < xs.length) : FormAt xs u f (k + 1) := by
  rcases h with ⟨rfl, rfl, rfl, bs, hc, rfl⟩ | ⟨done, ab, cur, post, -, -, hf, hfk, -⟩
  · cases bs with
    | nil => simp at hl
    | cons c bs =>
      obtain ⟨t, k, hb, -⟩ := hc.1
      have := List.length_pos_iff.2 hb.1
      exact .inr ⟨[], [], c, bs, rfl, rfl, rfl, by omega, by simp; omega, rfl, hc⟩
  · omega

theorem chain_next : ∀ {l : List Rc}, Chain l → ∀ j (h : j + 1 < l.length), l[j].x + l[j].a < l[j + 1].x
  | [], _, j, h => by simp at h
  | r :: l, hc, j, h => by
    cases j with
    | zero =>
      have hl : 0 < l.length := by simpa using h
      have := hc.2.1 l[0] (List.getElem_mem hl)
      simpa using this
    | succ j =>
      have := chain_next hc.2.2 j (by simpa using h)
      simpa using this

theorem at_mid {done ab cur : List Rc} {rest : List Rc} {i j : Nat} (hj : j < cur.length) (hi : i = done.length + ab.length + j) : (done ++ (ab ++ (cur ++ rest)))[i]? = some cur[j] := by
  subst hi
  rw [List.getElem?_append_right (by omega), List.getElem?_append_right (by omega), List.getElem?_append_left (by omega)]
  rw [show done.length + ab.length + j - done.length - ab.length = j by omega]
  exact List.getElem?_eq_getElem hj

/-- Within a band. -/
theorem FormAt.step {xs : List Rc} {u f k : Nat} (h : FormAt xs u f k) (h0 : 0 < k) (hl : k < xs.length) :
    (xs[k - 1].y = xs[k].y ∧ xs[k - 1].b = xs[k].b ∧ xs[k - 1].x + xs[k - 1].a < xs[k].x ∧ FormAt xs u f (k + 1)) ∨
    (xs[k - 1].y ≠ xs[k].y ∧ xs[k - 1].y + xs[k - 1].b ≤ xs[k].y ∧ u ≤ f ∧ f ≤ k ∧ goesOnB ((xs.drop u).take (f - u)) ((xs.drop f).take (k - f)) = false ∧ FormAt xs f k (k + 1)) := by
  rcases h with ⟨rfl, -⟩ | ⟨done, ab, cur, post, hx, hu, hf, hfk, hkl, hg, hc⟩
  · omega
  · obtain ⟨t, hh, hb, hbl⟩ := hc.1
    have e1 : xs[k - 1]? = some cur[k - 1 - f] := by
      rw [hx]
      exact at_mid (by omega) (by omega)
    have p1 : xs[k - 1] = cur[k - 1 - f] := by
      rw [List.getElem?_eq_getElem (by omega)] at e1
      exact Option.some.inj e1
    have m1 := hb.2.2.2 cur[k - 1 - f] (List.getElem_mem (by omega))
    by_cases hin : k < f + cur.length
    · left
      have e2 : xs[k]? = some cur[k - f] := by
        rw [hx]
        exact at_mid (by omega) (by omega)
      have p2 : xs[k] = cur[k - f] := by
        rw [List.getElem?_eq_getElem (by omega)] at e2
        exact Option.some.inj e2
      have m2 := hb.2.2.2 cur[k - f] (List.getElem_mem (by omega))
      have hn := chain_next hb.2.1 (k - 1 - f) (by omega)
      have e3 : cur[k - 1 - f + 1]'(by omega) = cur[k - f]'(by omega) := by congr 1; omega
      rw [e3] at hn
      rw [p1, p2]
      exact ⟨by rw [m1.1, m2.1], by rw [m1.2, m2.2], hn, .inr ⟨done, ab, cur, post, hx, hu, hf, by omega, by omega, hg, hc⟩⟩
    · right
      have hk : k = f + cur.length := by omega
      cases post with
      | nil =>
        rw [hx] at hl
        simp at hl
        omega
      | cons c post =>
        obtain ⟨t', hh', hb', -⟩ := hc.2.2.1
        have hcl := List.length_pos_iff.2 hb'.1
        have e2 : xs[k]? = some c[0] := by
          rw [hx, List.getElem?_append_right (by omega), List.getElem?_append_right (by omega), List.getElem?_append_right (by omega), List.flatten_cons, List.getElem?_append_left (by omega)]
          rw [show k - done.length - ab.length - cur.length = 0 by omega]
          exact List.getElem?_eq_getElem hcl
        have p2 : xs[k] = c[0] := by
          rw [List.getElem?_eq_getElem (by omega)] at e2
          exact Option.some.inj e2
        have m2 := hbl c (by simp) c[0] (List.getElem_mem hcl)
        have hpos := hb.2.2.1
        rw [p1, p2]
        have hab : (xs.drop u).take (f - u) = ab := by
          rw [hx, hu, List.drop_left, show f - done.length = ab.length by omega, List.take_left]
        have hcur : (xs.drop f).take (k - f) = cur := by
          rw [hx, ← List.append_assoc, show f = (done ++ ab).length by simp [hf], List.drop_left]
          rw [show k - (done ++ ab).length = cur.length by simp; omega, List.take_left]
        refine ⟨by rw [m1.1]; omega, by rw [m1.1, m1.2]; exact m2, by omega, by omega, by rw [hab, hcur]; exact hg, .inr ⟨done ++ ab, cur, c, post, ?_, by simp [hf], by simp [hk, hf], by omega, by omega, hc.2.1 c rfl, hc.2.2⟩⟩
        rw [hx]; simp

theorem FormAt.last {xs : List Rc} {u f : Nat} (h : FormAt xs u f xs.length) : u ≤ f ∧ f ≤ xs.length ∧ goesOnB ((xs.drop u).take (f - u)) (xs.drop f) = false := by
  rcases h with ⟨h0, rfl, rfl, -⟩ | ⟨done, ab, cur, post, hx, hu, hf, hfk, hkl, hg, hc⟩
  · exact ⟨by omega, by omega, by simp [goesOnB]⟩
  · have hp : post.flatten = [] := by
      have := congrArg List.length hx
      simp only [List.length_append] at this
      exact List.length_eq_zero_iff.1 (by omega)
    have hab : (xs.drop u).take (f - u) = ab := by
      rw [hx, hu, List.drop_left, show f - done.length = ab.length by omega, List.take_left]
    have hcur : xs.drop f = cur := by
      rw [hx, ← List.append_assoc, show f = (done ++ ab).length by simp [hf], List.drop_left, hp, List.append_nil]
    refine ⟨by omega, by omega, ?_⟩
    rw [hab, hcur]
    exact hg

/-- A region that draws its order and reads two rows: the rows stand in every world that it meets. -/
theorem wp_region_rows {P : Program} {id : Nat} {Q : Exit → Act → World → Prop} {a : Act} {w w0 : World} {l : List Oper} {va vb : Value} {la lb : List Rc} (ha : Row encR 4 w0 va la) (hb : Row encR 4 w0 vb lb) (hh : w.heap = w0.heap) (hm : P.follows .mixedOrders = true) (hB : Region.lexB .any l.toArray = true)
    (h : Nonempty (After w) → (∀ n : After w, Row encR 4 n.world va la) → (∀ n : After w, Row encR 4 n.world vb lb) → wpQuiet P l.toArray (fun w' => ∃ n : After w, w' = n.world) (fun a' => ∀ w', (∃ n : After w, w' = n.world) → Q .normal a' w') l a) : (Code.region id l.toArray true).wp P Q a w := by
  have ha' : Row encR 4 w va la := ha.same (fun b _ => by rw [hh])
  have hb' : Row encR 4 w vb lb := hb.same (fun b _ => by rw [hh])
  exact wp_region_after hm hB (h (After.ne w) (fun n => ha'.below n.below) (fun n => hb'.below n.below))

theorem row_sub {w : World} {b off cap : Nat} {xs : List Rc} (hp : RowAt encR 4 w (some ⟨b, off, none⟩) xs) (hcap : xs.length ≤ cap) (hmax : cap ≤ maxLen) {i k : Nat} (hik : i ≤ k) (hk : k ≤ xs.length) : Row encR 4 w (.slice (some ⟨b, off + i * 4, none⟩) (k - i) (cap - i)) ((xs.drop i).take (k - i)) := by
  have hl : ((xs.drop i).take (k - i)).length = k - i := by simp; omega
  exact ⟨_, _, by rw [hl], by rw [hl]; omega, by omega, hp.sub i (k - i)⟩

set_option maxRecDepth 100000 in
set_option maxHeartbeats 4000000 in
theorem lawForm_any (v : Value) (xs : List Rc) (w : World) (hv : Row encR 4 w v xs) (bs : List (List Rc)) (hcn : Canon bs) (hx : xs = bs.flatten) (hfull : ∀ r ∈ xs, emptyR r = false) :
    Makes Try.prog 26 #[v] w (.bool true) := by
  unfold Makes
  have hn := hv.len
  obtain ⟨p, cap, rfl, hcap, hmax, hp⟩ := hv
  have Hfull := Lib.hid hfull
  have Hbd := Lib.hid (show ∀ (a b : List Rc), (∀ r ∈ a, r ∈ xs) → ∀ r ∈ a, (-4294967296 ≤ r.y ∧ r.y ≤ 4294967296) ∧ (-4294967296 ≤ r.b ∧ r.b ≤ 4294967296) from fun a _ h r hr => by
    have := emptyR_false.1 (hfull r (h r hr)); omega)
  have H0 := Lib.hid (show FormAt xs 0 0 0 from .inl ⟨rfl, rfl, rfl, bs, hcn, hx⟩)
  clear hfull hx hcn
  go_enter Try.func26, Try.ntmps26
  go_wp2
  go_loopw [3, 4, 5] (fun s3 s4 s5 wr => ∃ (u f k : Nat), s3 = .int .i64 f ∧ s4 = .int .i64 u ∧ s5 = .int .i64 k ∧ k ≤ xs.length ∧ Below w.heap.size w wr ∧ Hid (FormAt xs u f k)) (fun _ _ i _ => xs.length - (intOf i).toNat)
  case atStart => exact ⟨0, 0, 0, rfl, rfl, rfl, by omega, Below.refl _ _, H0⟩
  case round =>
    obtain ⟨u, f, k, rfl, rfl, rfl, hk, hb, HF⟩ := hrel
    by_cases hlt : k < xs.length
    · have hpb := hp.below hb
      obtain ⟨b, off, rfl, hB, hc⟩ := hpb.rc hlt
      have hem := Hfull.out xs[k] (List.getElem_mem hlt)
      have hft := full_fit hem
      by_cases hk0 : k = 0
      · have hz : ((k : Int) == 0) = true := by simp [hk0]
        have HN := Lib.hid (HF.out.first hk0 hlt)
        obtain ⟨a0, a1, a2, a3⟩ := hc k hlt
        clear hc hpb hk0
        generalize xs[k] = r at *
        go_wp2_with fail
        refine Calls.mono (empty_any r _ hft) ?_
        rw [hem]
        rintro e w1 ⟨rfl, hb1⟩
        have hbw := hb.trans (hb1.mono hb.size)
        clear hem
        go_wp2
        go_roundw
        case rel => exact ⟨u, f, k + 1, rfl, rfl, by go_num, by omega, hbw, HN⟩
        case measure => simp [intOf]; omega
      · have hz : ((k : Int) == 0) = false := by simp; omega
        have hstep := HF.out.step (by omega) hlt
        have HP := Lib.hid hpb
        have hemq := Hfull.out xs[k - 1] (List.getElem_mem (by omega))
        have hbr := emptyR_false.1 hem
        have hbq := emptyR_false.1 hemq
        have Hr := Lib.hid (hc k hlt)
        have Hq := Lib.hid (hc (k - 1) (by omega))
        obtain ⟨a0, a1, a2, a3⟩ := Hr.out
        have hkl : k - 1 < xs.length := by omega
        have hkp : 0 < k := by omega
        clear hc hpb hemq HF
        generalize xs[k] = r at *
        generalize xs[k - 1] = q at *
        have Hst := Lib.hid hstep
        clear hstep hk0
        go_wp2_with fail
        refine Calls.mono (empty_any r _ hft) ?_
        rw [hem]
        rintro e w1 ⟨rfl, hb1⟩
        obtain ⟨q0, q1, q2, q3⟩ := Hq.out.later hb1
        have Hr1 := Lib.hid (Hr.out.later hb1)
        have HP1 := Lib.hid (HP.out.below hb1)
        have Hb1 := Lib.hid (hb.trans (hb1.mono hb.size))
        have hw1 : IntKind.i64.wrap ((k : Int) - 1) = (k : Int) - 1 := IntWalk.i64_in _ (by omega)
        have hj0 : (0 : Int) ≤ (k : Int) - 1 := by omega
        have hj1 : ((k : Int) - 1).toNat = k - 1 := by omega
        have hwx : IntKind.i64.wrap (q.x + q.a) = q.x + q.a := IntWalk.i64_in _ (by omega)
        have hwy : IntKind.i64.wrap (q.y + q.b) = q.y + q.b := IntWalk.i64_in _ (by omega)
        clear hem hb1 hbr hbq hft hb a0 a1 a2 a3
        go_wp2
        have hal := Below.al1 w1 (.cells #[.int .i64 q.x, .int .i64 q.y, .int .i64 q.a, .int .i64 q.b] 30)
        obtain ⟨n0, n1, n2, n3⟩ : Lies (w1.alloc (.cells #[.int .i64 q.x, .int .i64 q.y, .int .i64 q.a, .int .i64 q.b] 30)) w1.heap.size q := Lies.new rfl
        obtain ⟨r0, r1, r2, r3⟩ := Hr1.out.later hal
        have HP2 := Lib.hid (HP1.out.below hal)
        have Hb2 := Lib.hid (Hb1.out.trans (hal.mono Hb1.out.size))
        clear hal q0 q1 q2 q3
        generalize (w1.alloc (.cells #[.int .i64 q.x, .int .i64 q.y, .int .i64 q.a, .int .i64 q.b] 30)) = We at *
        rcases Hst.out with ⟨s1, s2, s3, s4⟩ | ⟨s1, s2, s3, s4, s5, s6⟩
        · have hy : ((q.y : Int) == r.y) = true := by simp [s1]
          have hbb : ((q.b : Int) != r.b) = false := by simp [s2]
          have hxx : decide (r.x ≤ q.x + q.a) = false := by simp; omega
          have HN := Lib.hid s4
          clear s1 s2 s3 s4 Hst
          go_quiet (fail)
          go_wp2
          go_quiet (fail)
          go_wp2
          go_roundw
          case rel => exact ⟨u, f, k + 1, rfl, rfl, by go_num, by omega, Below.drewN' Hb2.out _, HN⟩
          case measure => simp [intOf]; omega
        · have hy : ((q.y : Int) == r.y) = false := by simpa using s1
          have hyy : decide (r.y < q.y + q.b) = false := by simp; omega
          have HN := Lib.hid s6
          have Hg := Lib.hid s5
          have Hra := Lib.hid (row_sub HP2.out hcap hmax s3 (by omega))
          have Hrb := Lib.hid (row_sub HP2.out hcap hmax s4 (by omega))
          clear s1 s2 s5 s6 Hst
          go_quiet (fail)
          go_wp2
          go_quiet (fail)
          go_wp2
          have hs1 : decide ((u : Int) ≤ (f : Int)) = true := by simp; omega
          refine wp_region_rows Hra.out Hrb.out (by simp) (by kernel_rfl) (by kernel_rfl) (fun hne hna hnb => ?_)
          repeat (first
            | go_big_quiet_skip
            | (go_big_quiet_want; go_big_quiet_op; first
              | go_big_quiet_on
              | go_big_quiet_call ((go_at_call 53; exact Makes.after (lawSame_any _ _ _ _ _ (hna _) (hnb _) (Hbd.out _ [] (fun r hr => List.mem_of_mem_drop (List.mem_of_mem_take hr))))))
              | (refine ⟨_, fun _ => rfl, ?_⟩; go_big_quiet_on)))
          refine wpQuiet_nil ?_
          rintro _ ⟨nr, rfl⟩
          rw [Hg.out]
          have Hn := Lib.hid (nr.below)
          go_wp2
          go_roundw
          case rel => exact ⟨f, k, k + 1, rfl, rfl, by go_num, by omega, (Below.drewN' (Below.drewN' Hb2.out _) _).trans (Hn.out.mono (Below.drewN' (Below.drewN' Hb2.out _) _).size), HN⟩
          case measure => simp [intOf]; omega
    · obtain rfl : k = xs.length := by omega
      obtain ⟨l1, l2, l3⟩ := HF.out.last
      have l4 : f < xs.length ∨ (f = 0 ∧ u = 0 ∧ xs = []) := by
        rcases HF.out with ⟨h0, h1, h2, -⟩ | ⟨_, _, _, _, -, -, -, h, -⟩
        · exact .inr ⟨h1, h2, List.length_eq_zero_iff.1 h0⟩
        · exact .inl h
      have Hg := Lib.hid l3
      rcases l4 with l4 | ⟨rfl, rfl, rfl⟩
      · obtain ⟨b, off, rfl, -⟩ := hp.rc (Nat.lt_of_le_of_lt (Nat.zero_le f) l4)
        have hfc : f < cap := by omega
        have HA := Lib.hid (row_sub (hp.below hb) hcap hmax l1 l2)
        have HB := Lib.hid (show Row encR 4 wr (.slice (some ⟨b, off + f * 4, none⟩) (xs.length - f) (cap - f)) (xs.drop f) from by
          have h := row_sub (hp.below hb) hcap hmax l2 (Nat.le_refl xs.length)
          rwa [List.take_of_length_le (by simp)] at h)
        clear l3 hp
        go_wp2
        refine wp_region_rows HA.out HB.out rfl (by kernel_rfl) (by kernel_rfl) (fun hne hna hnb => ?_)
        repeat (first
          | go_big_quiet_skip
          | (go_big_quiet_want; go_big_quiet_op; first
            | go_big_quiet_on
            | go_big_quiet_call ((go_at_call 53; exact Makes.after (lawSame_any _ _ _ _ _ (hna _) (hnb _) (Hbd.out _ [] (fun r hr => List.mem_of_mem_drop (List.mem_of_mem_take hr))))))
            | (refine ⟨_, fun _ => rfl, ?_⟩; go_big_quiet_on)))
        refine wpQuiet_nil ?_
        rintro _ ⟨nr, rfl⟩
        rw [Hg.out]
        have Hn := Lib.hid (nr.below)
        go_wp2
        go_ret
        exact ⟨rfl, hb.trans (Hn.out.mono hb.size)⟩
      · rcases hp.below hb with ⟨rfl, -⟩ | ⟨b, off, rfl, hlt, hcl⟩
        · have HA : Hid (Row encR 4 wr (.slice none 0 cap) []) := Lib.hid ⟨none, cap, rfl, Nat.zero_le _, hmax, .inl ⟨rfl, rfl⟩⟩
          go_wp2
          refine wp_region_rows HA.out HA.out rfl (by kernel_rfl) (by kernel_rfl) (fun hne hna _ => ?_)
          repeat (first
            | go_big_quiet_skip
            | (go_big_quiet_want; go_big_quiet_op; first
              | go_big_quiet_on
              | go_big_quiet_call ((go_at_call 53; exact Makes.after (lawSame_any _ _ [] [] _ (hna _) (hna _) (fun r hr => by cases hr))))
              | (refine ⟨_, fun _ => rfl, ?_⟩; go_big_quiet_on)))
          refine wpQuiet_nil ?_
          rintro _ ⟨nr, rfl⟩
          have Hn := Lib.hid (nr.below)
          go_wp2
          go_ret
          exact ⟨rfl, hb.trans (Hn.out.mono hb.size)⟩
        · have HA : Hid (Row encR 4 wr (.slice (some ⟨b, off, none⟩) 0 cap) []) := Lib.hid ⟨_, cap, rfl, Nat.zero_le _, hmax, .inr ⟨b, off, rfl, hlt, hcl⟩⟩
          clear hcl
          go_wp2
          refine wp_region_rows HA.out HA.out rfl (by kernel_rfl) (by kernel_rfl) (fun hne hna _ => ?_)
          repeat (first
            | go_big_quiet_skip
            | (go_big_quiet_want; go_big_quiet_op; first
              | go_big_quiet_on
              | go_big_quiet_call ((go_at_call 53; exact Makes.after (lawSame_any _ _ [] [] _ (hna _) (hna _) (fun r hr => by cases hr))))
              | (refine ⟨_, fun _ => rfl, ?_⟩; go_big_quiet_on)))
          refine wpQuiet_nil ?_
          rintro _ ⟨nr, rfl⟩
          have Hn := Lib.hid (nr.below)
          go_wp2
          go_ret
          exact ⟨rfl, hb.trans (Hn.out.mono hb.size)⟩

end Go.Proofs.Ytjgbelljijhfcaa
