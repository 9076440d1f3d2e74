/- Several texts in one, each with its own head. -/
import Derived.Test.YtajoipmchgabfaaM22
import Derived.Test.YtajoipmchgabfaaM19
import Derived.Test.YtajoipmchgabfaaM5
/- tiles: within. -/
namespace Go.Proofs.Ytajoipmchgabfaa
open Go.RowKit

attribute [local go_sem] Oper.semAt_some

def wiS (w h : Nat) (l : List Rc) (k : Nat) : List Rc := wiL w h (l.take k)
theorem wiL_snoc (w h : Nat) (l : List Rc) (r : Rc) : wiL w h (l ++ [r]) = wiL w h l ++ (if emptyR (andR r (pcR w h)) = true then [] else [andR r (pcR w h)]) := by
  unfold wiL
  rw [List.map_append, List.filter_append]
  congr 1
  cases hq : emptyR (andR r (pcR w h)) <;> simp [hq]

set_option maxRecDepth 20000 in
set_option maxHeartbeats 4000000 in
theorem within_any (v : Value) (l : List Rc) (pw ph : Nat) (w : World) (hv : Row encR 4 w v l) (hf : ∀ r ∈ l, Fit r) (hl : l.length ≤ 1048576) :
    Calls Try.prog 79 #[v, RV (pcR pw ph)] w fun e w' => ∃ v', e = .returned v' ∧ w'.ownsRow w.heap.size 38 4 v' (wiL pw ph l).length (flatR (wiL pw ph l)) ∧ Below w.heap.size w w' := by
  obtain ⟨p, c, rfl, hc1, hc2, hp⟩ := hv
  obtain ⟨nf, hi0, hz0, hz1, hz2⟩ := info_parts rc_info
  have Hp := Lib.hid hp
  have Hf := Lib.hid hf
  have hpf : Fit (pcR pw ph) := ⟨by simp [pcR], by simp [pcR]⟩
  have Hpf := Lib.hid hpf
  obtain ⟨n, hn⟩ : ∃ n, l.length = n := ⟨_, rfl⟩
  have Hn := Lib.hid hn
  rw [hn] at hl hc1 ⊢
  obtain ⟨W, hW⟩ : ∃ W, w.alloc (.cells #[.int .i64 0, .int .i64 0, .int .i64 (pw : Int), .int .i64 (ph : Int)] 38) = W := ⟨_, rfl⟩
  have hbW : Below w.heap.size w W := by rw [← hW]; exact Below.al1 w _
  have hLp : Lies W w.heap.size (pcR pw ph) := by rw [← hW]; exact Lies.new (r := pcR pw ph) rfl
  have HLp := Lib.hid hLp
  have HbW := Lib.hid hbW
  have hwlt : w.heap.size < W.heap.size := by rw [← hW]; simp
  have hwle : W.heap.size ≤ w.heap.size + 1 := by rw [← hW]; simp
  clear hp hf hn hpf hbW hLp
  unfold pcR
  go_enter Try.func79, Try.ntmps79
  go_upto_region 2 with (fail)
  have hW2 : w.alloc (.cells #[.int .i64 0, .int .i64 0, .int .i64 (pw : Int), .int .i64 (ph : Int)] 38) = W := hW
  first
    | rw [hW2]
    | skip
  clear hW2 hW
  go_wp2_with fail
  go_loopw [5, 11] (fun ov iv wr => ∃ i : Nat, iv = .int .i64 (i : Int) ∧ i ≤ n ∧ Hid (wr.ownsRow (w.heap.size + 1) 38 4 ov (wiS pw ph l i).length (flatR (wiS pw ph l i))) ∧ Hid (Below W.heap.size W wr)) (fun _ iv _ => n - (intOf iv).toNat)
  case atStart => exact ⟨0, rfl, Nat.zero_le _, Lib.hid (World.ownsRow_nil _ _ _ _), Lib.hid (Below.refl _ _)⟩
  case round =>
    obtain ⟨i, rfl, hi, HO, HB⟩ := hrel
    have hol : (wiS pw ph l i).length ≤ 1048576 := by
      have h1 := wiL_len pw ph (l.take i)
      rw [List.length_take] at h1
      unfold wiS; omega
    obtain ⟨q, hq⟩ : ∃ q, (wiS pw ph l i).length = q := ⟨_, rfl⟩
    have Hq := Lib.hid hq
    rw [hq] at HO hol
    clear hq
    obtain ⟨vp, vc, rfl⟩ := owns_slice HO.out
    by_cases hin : i < n
    · have d1 : decide ((i : Int) < (n : Int)) = true := by simp; omega
      have hil : i < l.length := by rw [Hn.out]; exact hin
      obtain ⟨b, off, rfl, -, hat⟩ := Hp.out.rc hil
      obtain ⟨x0, x1, x2, x3⟩ := ((hat i hil).later HbW.out).later HB.out
      have hfr := Hf.out _ (List.getElem_mem hil)
      have Hs : Hid (wiS pw ph l (i + 1) = wiS pw ph l i ++ (if emptyR (andR l[i] (pcR pw ph)) = true then [] else [andR l[i] (pcR pw ph)])) := Lib.hid (by
        unfold wiS; rw [List.take_succ_eq_append_getElem hil, wiL_snoc])
      have i0 : (0 : Int) ≤ (i : Int) := by omega
      have i1 : (i : Int) < (n : Int) := by omega
      generalize l[i] = r at *
      have P := HLp.out.later HB.out
      clear hat hil
      go_upto_region 5 with (fail)
      have hlr : Lies (wr.alloc (.cells #[.int .i64 r.x, .int .i64 r.y, .int .i64 r.a, .int .i64 r.b] 38)) wr.heap.size r := Lies.new rfl
      have hb1 := Below.al1 wr (.cells #[.int .i64 r.x, .int .i64 r.y, .int .i64 r.a, .int .i64 r.b] 38)
      have P := P.later hb1
      have HB1 := Lib.hid (Below.thn HB.out hb1)
      have HO1 := Lib.hid ((Turns.of_below' (T := fun _ => False) hb1).owns HO.out (fun _ _ h => h))
      generalize wr.alloc (.cells #[.int .i64 r.x, .int .i64 r.y, .int .i64 r.a, .int .i64 r.b] 38) = u1 at *
      generalize wr.heap.size = rb at *
      obtain ⟨y0, y1, y2, y3⟩ := hlr
      obtain ⟨p0, p1, p2, p3⟩ := P
      simp only [pcR] at p0 p1 p2 p3
      have hand := fun W => and_any r (pcR pw ph) W hfr Hpf.out
      have hemp := fun W => empty_any (andR r (pcR pw ph)) W (and_fit _ _)
      obtain ⟨s, hs⟩ : ∃ s, andR r (pcR pw ph) = s := ⟨_, rfl⟩
      rw [hs] at hand hemp Hs
      unfold pcR at hand
      have Hand := Lib.hid hand
      have Hemp := Lib.hid hemp
      clear hb1 x0 x1 x2 x3 HB HO hand hemp hs
      go_wp2_with fail
      refine Calls.mono (Hand.out _) ?_
      rintro _ u2 ⟨rfl, hb2⟩
      have HB2 := Lib.hid (Below.thn HB1.out hb2)
      have HO2 := Lib.hid ((Turns.of_below' (T := fun _ => False) hb2).owns HO1.out (fun _ _ h => h))
      clear hb2 y0 y1 y2 y3 p0 p1 p2 p3 HB1 HO1 Hand
      go_upto_region 6 with (fail)
      have hls : Lies (u2.alloc (.cells #[.int .i64 s.x, .int .i64 s.y, .int .i64 s.a, .int .i64 s.b] 38)) u2.heap.size s := Lies.new rfl
      have hb3 := Below.al1 u2 (.cells #[.int .i64 s.x, .int .i64 s.y, .int .i64 s.a, .int .i64 s.b] 38)
      have HB3 := Lib.hid (Below.thn HB2.out hb3)
      have HO3 := Lib.hid ((Turns.of_below' (T := fun _ => False) hb3).owns HO2.out (fun _ _ h => h))
      generalize u2.alloc (.cells #[.int .i64 s.x, .int .i64 s.y, .int .i64 s.a, .int .i64 s.b] 38) = u3 at *
      generalize u2.heap.size = sb at *
      have Hls := Lib.hid hls
      obtain ⟨y0, y1, y2, y3⟩ := hls
      clear hb3 HB2 HO2
      go_wp2_with fail
      refine Calls.mono (Hemp.out _) ?_
      rintro _ u4 ⟨rfl, hb4⟩
      obtain ⟨z0, z1, z2, z3⟩ := Hls.out.later hb4
      have HB4 := Lib.hid (Below.thn HB3.out hb4)
      have HO4 := Lib.hid ((Turns.of_below' (T := fun _ => False) hb4).owns HO3.out (fun _ _ h => h))
      clear hb4 y0 y1 y2 y3 HB3 HO3 Hemp Hls
      cases he : emptyR s with
      | true =>
        have Hs2 : Hid (wiS pw ph l (i + 1) = wiS pw ph l i) := Lib.hid (by rw [Hs.out, if_pos he, List.append_nil])
        go_wp2
        go_roundw
        case rel => exact ⟨i + 1, by go_num, by omega, by rw [Hs2.out, Hq.out]; exact HO4, HB4⟩
        case measure => simp [intOf]; omega
      | false =>
        have Hs2 : Hid (wiS pw ph l (i + 1) = wiS pw ph l i ++ [s]) := Lib.hid (by rw [Hs.out, if_neg (by rw [he]; decide)])
        have hsz : w.heap.size + 1 ≤ u4.heap.size := by have := HB4.out.size; omega
        go_wp2_with (at_builtin; refine wpList_append_mine _ rfl (.tmp 21) (.tmp 23) 58 rfl (w.heap.size + 1) 38 nf _ 4 32 Try.underlying58 hi0 hz0 hz1 hz2 rfl (by decide) (.slice vp q vc) q (flatR (wiS pw ph l i)) rfl (HO4.out.alloc _) (some ⟨u4.heap.size, 0, none⟩) 1 1 (encR s) rfl rfl ?c1 ?c2 ?c3 ?c4 ?c5 ?_)
        case c1 => exact .inr ⟨_, rfl, news_cells (c := encR s)⟩
        case c2 => intro u hu; simp [encR] at hu; rcases hu with rfl | rfl | rfl | rfl <;> rfl
        case c3 => simp only [maxLen]; omega
        case c4 => omega
        case c5 => first | omega | (simp; omega)
        intro v5 w5 ho5 hg5 hp5
        have HO5 : Hid (w5.ownsRow (w.heap.size + 1) 38 4 v5 (wiS pw ph l (i + 1)).length (flatR (wiS pw ph l (i + 1)))) := Lib.hid (by
          rw [Hs2.out, List.length_append, Hq.out, show flatR (wiS pw ph l i ++ [s]) = flatR (wiS pw ph l i) ++ encR s by simp [flatR]]
          exact ho5)
        have ht5 : Turns (fun b => (Value.slice vp q vc).ownBlock = some b) u4 w5 := (Turns.of_below' (Below.al1 u4 _)).trans (Turns.of_grown hg5 (fun _ h => h))
        have HB5 := Lib.hid (HB4.out.trans (ht5.below HB4.out.size (fun b hb => by have := (HO4.out.lt _ hb).1; omega)))
        clear ho5 hg5 hp5 ht5 z0 z1 z2 z3
        go_wp2
        go_roundw
        case rel => exact ⟨i + 1, by go_num, by omega, HO5, HB5⟩
        case measure => simp [intOf]; omega
    · obtain rfl : i = n := by omega
      have d1 : decide ((i : Int) < (i : Int)) = false := by simp
      have e : wiS pw ph l i = wiL pw ph l := by unfold wiS; rw [List.take_of_length_le (by rw [Hn.out]; exact Nat.le_refl _)]
      rw [e] at Hq HO
      go_wp2
      go_ret
      refine ⟨_, rfl, ?_, Below.thn HbW.out HB.out⟩
      rw [Hq.out]
      exact owns_baseT HO.out (by omega)

end Go.Proofs.Ytajoipmchgabfaa

/- Slices of rectangles held against each other, place by place: the document's Rects, and the statements' own rects. -/
namespace Go.Proofs.Ytajoipmchgabfaa
open Go.RowKit

def eqRs : List Rc → List Rc → Bool
  | [], [] => true
  | r :: l, s :: m => eqR r s && eqRs l m
  | _, _ => false

theorem eqRs_len {l m : List Rc} (h : l.length ≠ m.length) : eqRs l m = false := by
  induction l generalizing m with
  | nil => cases m <;> simp_all [eqRs]
  | cons r l ih =>
    cases m with
    | nil => rfl
    | cons s m => simp only [eqRs]; rw [ih (by simpa using h)]; simp
theorem eqRs_at {l m : List Rc} {k : Nat} (h1 : k < l.length) (h2 : k < m.length) : eqRs (l.drop k) (m.drop k) = (eqR l[k] m[k] && eqRs (l.drop (k + 1)) (m.drop (k + 1))) := by
  rw [List.drop_eq_getElem_cons h1, List.drop_eq_getElem_cons h2]; rfl

theorem eqRs_iff {l m : List Rc} : eqRs l m = true ↔ l = m := by
  induction l generalizing m with
  | nil => cases m <;> simp [eqRs]
  | cons r l ih =>
    cases m with
    | nil => simp [eqRs]
    | cons s m =>
      simp only [eqRs, Bool.and_eq_true, ih, List.cons.injEq]
      constructor
      · rintro ⟨h1, h2⟩; exact ⟨by cases r; cases s; simpa [eqR] using h1, h2⟩
      · rintro ⟨h1, h2⟩; exact ⟨by subst h1; simp [eqR], h2⟩

set_option maxHeartbeats 1000000 in
theorem refRects_any (v u : Value) (xs ys : List Rc) (w : World) (hv : Row encR 4 w v xs) (hu : Row encR 4 w u ys) :
    Makes Try.prog 44 #[v, u] w (.bool (eqRs xs ys)) := by
  unfold Makes
  have hn := hv.len
  have hm := hu.len
  obtain ⟨p, cap, rfl, -, -, hp⟩ := hv
  obtain ⟨q, cap2, rfl, -, -, hq⟩ := hu
  have hne := neq_rc
  by_cases hl : xs.length = ys.length
  · have hl1 : ((xs.length : Int) != (ys.length : Int)) = false := by simp [hl]
    have Hl := Lib.hid hl
    clear hl
    go_enter Try.func44, Try.ntmps44
    go_wp2
    go_loopw [5] (fun i wr => ∃ k : Nat, k ≤ xs.length ∧ i = .int .i64 k ∧ Below w.heap.size w wr ∧ Hid (eqRs xs ys = eqRs (xs.drop k) (ys.drop k))) (fun i _ => xs.length - (intOf i).toNat)
    case atStart => exact ⟨0, by omega, rfl, Below.refl _ _, Lib.hid rfl⟩
    case round =>
      obtain ⟨k, hk, rfl, hb, he⟩ := hrel
      by_cases hlt : k < xs.length
      · have hlt2 : k < ys.length := by rw [← Hl.out]; exact hlt
        obtain ⟨b, off, rfl, hB, hc⟩ := (hp.below hb).rc hlt
        obtain ⟨b2, off2, rfl, hB2, hc2⟩ := (hq.below hb).rc hlt2
        obtain ⟨a0, a1, a2, a3⟩ := hc k hlt
        obtain ⟨d0, d1, d2, d3⟩ := hc2 k hlt2
        have Hat := Lib.hid (eqRs_at hlt hlt2)
        clear hc hc2
        generalize xs[k] = r at *
        generalize ys[k] = s at *
        go_wp2
        go_quiet (fail)
        cases hr : eqR r s
        · have Hr := Lib.hid hr
          clear hr
          go_wp2
          go_ret
          exact ⟨ret_bool (by rw [he.out, Hat.out, Hr.out]; rfl), Below.drewN' hb _⟩
        · have Hr := Lib.hid hr
          clear hr
          go_wp2
          go_roundw
          case rel => exact ⟨k + 1, by omega, by go_num, Below.drewN' hb _, Lib.hid (by rw [he.out, Hat.out, Hr.out]; rfl)⟩
          case measure => simp [intOf]; omega
      · go_wp2
        go_ret
        refine ⟨ret_bool ?_, hb⟩
        rw [he.out, List.drop_eq_nil_of_le (by omega), List.drop_eq_nil_of_le (by rw [← Hl.out]; omega)]; rfl
  · have hl1 : ((xs.length : Int) != (ys.length : Int)) = true := by simp; omega
    have Hl := Lib.hid hl
    clear hl
    go_enter Try.func44, Try.ntmps44
    go_wp2
    go_ret
    exact ⟨ret_bool (eqRs_len Hl.out).symm, Below.refl _ _⟩

end Go.Proofs.Ytajoipmchgabfaa
