/- The walk of the statement LzExpands. -/
import Derived.Test.YtngiiacibbgiiaaLzN
namespace Go.Proofs.Ytngiiacibbgiiaa
open Go.RowKit

theorem flatT_len (ts : List Tk) : (ts.flatMap encT).length = ts.length * 3 := by
  induction ts with
  | nil => rfl
  | cons t r ih => rw [List.flatMap_cons, List.length_append, ih, encT_len, List.length_cons]; omega

set_option maxRecDepth 20000 in
set_option maxHeartbeats 8000000 in
theorem zexpands_any (v : Value) (ts : List Tk) (w : World) (hv : RwG encT 3 w v ts) :
    Makes Try.prog 4 #[v] w (.bool true) := by
  unfold Makes
  have Hv := Lib.hid hv
  obtain ⟨p, c, rfl, hc1, hc2, hsrc⟩ := hv.src encT_len (by decide)
  have Hsrc := Lib.hid hsrc
  obtain ⟨i0, hi0, hz0, hz1, hz2⟩ := info_parts tok_info
  clear hv hsrc
  go_enter Try.func4, Try.ntmps4
  by_cases hl : 300 < ts.length
  · have d0 : decide ((ts.length : Int) > 300) = true := by simp; omega
    go_wp2
    go_ret
    exact ⟨rfl, Below.refl _ _⟩
  have d0 : decide ((ts.length : Int) > 300) = false := by simp; omega
  go_wp2_with (at_builtin; refine wpList_append_mine w rfl (.tmp 12) (.tmp 13) 23 rfl w.heap.size 26 i0 _ 3 24 Try.underlying23 hi0 hz0 hz1 hz2 rfl (by decide) (.slice none 0 0) 0 [] rfl (World.ownsRow_nil _ _ _ _) p ts.length c (ts.flatMap encT) rfl (flatT_len ts) Hsrc.out (encT_one _) ?n3 ?n4 (Nat.le_refl _) ?_)
  case n3 => simp only [maxLen]; omega
  case n4 => omega
  intro vi w1 ho1 hg1 _
  have hb1 : Below w.heap.size w w1 := (Turns.of_grown (T := fun _ => False) hg1 (fun i e => by cases e)).below (Nat.le_refl _) (fun i h => h.elim)
  have hown1 : OwnT w1 w.heap.size vi ts := by unfold OwnT; simpa using ho1
  have Hr1 := Lib.hid hown1.row
  obtain ⟨p1, c1, rfl⟩ := owns_slice hown1
  have Hb1 := Lib.hid hb1
  clear ho1 hg1 hb1 hown1
  obtain ⟨R, hR⟩ : ∃ R, xp ts [] = R := ⟨_, rfl⟩
  have HR := Lib.hid hR
  go_wp2_with fail
  have hca := expand_any ts _ w1 Hr1.out (by omega)
  rw [hR] at hca
  refine Calls.mono hca ?_
  rintro e w2 ⟨v2, rfl, ho2, hb2⟩
  have Ho2 := Lib.hid (Row.own8 ho2)
  have Hb12 := Lib.hid hb2
  have Hb2 := Lib.hid (Below.thn Hb1.out hb2)
  obtain ⟨pa, ca, rfl⟩ := owns_slice ho2
  clear ho2 hb2 hca
  go_wp2_with fail
  have hca := refExpand_any ts _ w2 (Hv.out.row.below Hb2.out) (by omega)
  rw [hR] at hca
  refine Calls.mono hca ?_
  rintro e w3 ⟨v3, rfl, ho3, hb3⟩
  have Hb3 := Lib.hid (Below.thn Hb2.out hb3)
  have Ha := Lib.hid (Ho2.out.below hb3)
  have Hbb := Lib.hid (Row.own8 ho3)
  have Hx := Lib.hid (Hr1.out.below (Below.thn Hb12.out hb3))
  have Hy := Lib.hid (Hv.out.row.below Hb3.out)
  obtain ⟨pb, cb, rfl⟩ := owns_slice ho3
  obtain ⟨ra, re⟩ := R
  simp only
  obtain ⟨n, hn⟩ : ∃ n, ra.length = n := ⟨_, rfl⟩
  have Hn := Lib.hid hn
  obtain ⟨q, hq⟩ : ∃ q, ts.length = q := ⟨_, rfl⟩
  have hqb : q ≤ 300 := by omega
  have Hq := Lib.hid hq
  rw [hq, hn]
  clear ho3 hb3 hca hR hn hq hl d0 HR
  have hneq := neq_tk
  have hself := eqT_self
  go_wp2
  generalize w3 = W3 at *
  go_loopw [8] (fun iv wr => ∃ i : Nat, iv = .int .i64 (i : Int) ∧ i ≤ q ∧ Hid (Below W3.heap.size W3 wr)) (fun iv _ => q - (intOf iv).toNat)
  case atStart => exact ⟨0, rfl, Nat.zero_le _, Lib.hid (Below.refl _ _)⟩
  case round =>
    obtain ⟨i, rfl, hi, HB⟩ := hrel
    by_cases hin : i < q
    · have d1 : decide (i < q) = true := by simpa using hin
      obtain ⟨_, _, e1, hcx⟩ := Hx.out.tok
      obtain ⟨_, _, e2, hcy⟩ := Hy.out.tok
      obtain ⟨g, off, e, x0, x1, x2⟩ := hcx i (by rw [Hq.out]; exact hin)
      obtain ⟨g', off', e', y0, y1, y2⟩ := hcy i (by rw [Hq.out]; exact hin)
      cases e1
      cases e2
      subst e e'
      generalize ts[i]'(by rw [Hq.out]; exact hin) = t at *
      have x0 := cell_later HB.out x0
      have x1 := cell_later HB.out x1
      have x2 := cell_later HB.out x2
      have y0 := cell_later HB.out y0
      have y1 := cell_later HB.out y1
      have y2 := cell_later HB.out y2
      have i0 : (0 : Int) ≤ (i : Int) := by omega
      have i1 : (i : Int) < (q : Int) := by omega
      clear hcx hcy
      go_wp2_with fail
      go_quiet (fail)
      have hdr : Below wr.heap.size wr (wr.drewN nq) := Below.drewN' (Below.refl _ _) nq
      have HB2 := Lib.hid (Below.thn HB.out hdr)
      generalize wr.drewN nq = W2 at *
      clear hdr x0 x1 x2 y0 y1 y2
      go_wp2
      go_roundw
      case rel => exact ⟨i + 1, by go_num, by omega, HB2⟩
      case measure => simp [intOf]; omega
    · obtain rfl : i = q := by omega
      have d1 : decide (i < i) = false := by simp
      have hs1 := str_row (Ha.out.below HB.out)
      have hs2 := str_row (Hbb.out.below HB.out)
      rw [Hn.out] at hs1 hs2
      generalize strN ra = S at hs1 hs2
      go_wp2_with fail
      refine Calls.mono (matches_law wr) ?_
      rintro e w9 ⟨rfl, hb9⟩
      have Hb9 := Lib.hid (Below.thn (Below.thn Hb3.out HB.out) hb9)
      clear hb9
      go_wp2
      go_ret
      exact ⟨rfl, Hb9.out⟩

end Go.Proofs.Ytngiiacibbgiiaa
