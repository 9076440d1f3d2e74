/- tiles: whole, under, all, made; the iterator of tiles. -/
import Derived.Test.YtajoipmchgabfaaGreatT20
import Derived.Test.YtajoipmchgabfaaGreatT2
import Derived.Test.YtajoipmchgabfaaGreatT3
import Derived.OwnWalkIn
import Derived.TacticsInMore
import Derived.LoopNIn
import Derived.LoopIn
namespace Go.Proofs.YtajoipmchgabfaaGreat
open Go.RowKit

attribute [local go_sem] Oper.semAt_some

set_option maxRecDepth 20000 in
set_option maxHeartbeats 1000000 in
theorem tlWhole_any (w h : Int) (W : World) : Makes Tryz.prog 26 #[.int .i64 w, .int .i64 h] W (RV (pcR (szW w h) (szH w h))) := by
  unfold Makes
  by_cases hok : okS w h
  · have hok' := hok
    unfold okS at hok'
    have e : pcR (szW w h) (szH w h) = ⟨0, 0, w, h⟩ := by
      unfold pcR szW szH
      rw [if_pos hok, if_pos hok, show ((w.toNat : Nat) : Int) = w by omega, show ((h.toNat : Nat) : Int) = h by omega]
    rw [e]
    have d1 : decide (w < 1) = false := by simp; omega
    have d2 : decide (w > 256) = false := by simp; omega
    have d3 : decide (h < 1) = false := by simp; omega
    have d4 : decide (h > 256) = false := by simp; omega
    clear e hok hok'
    go_enter Tryz.func26, Tryz.ntmps26
    go_wp2
    exact bodyPost_ret (results_rc (r := ⟨0, 0, w, h⟩) Tryz.results26 rfl (Lies.new (r := ⟨0, 0, w, h⟩) rfl)) rfl ⟨rfl, Below.al1 W _⟩
  · have e : pcR (szW w h) (szH w h) = zeroRc := by unfold pcR szW szH; rw [if_neg hok, if_neg hok]; rfl
    rw [e]
    clear e
    unfold okS at hok
    go_enter Tryz.func26, Tryz.ntmps26
    by_cases h1 : w < 1
    · have d1 : decide (w < 1) = true := by simpa using h1
      go_wp2
      exact bodyPost_ret (results_rc (r := zeroRc) Tryz.results26 rfl (Lies.new (r := zeroRc) rfl)) rfl ⟨rfl, Below.al1 W _⟩
    have d1 : decide (w < 1) = false := by simp; omega
    by_cases h2 : w > 256
    · have d2 : decide (w > 256) = true := by simpa using h2
      go_wp2
      exact bodyPost_ret (results_rc (r := zeroRc) Tryz.results26 rfl (Lies.new (r := zeroRc) rfl)) rfl ⟨rfl, Below.al1 W _⟩
    have d2 : decide (w > 256) = false := by simp; omega
    by_cases h3 : h < 1
    · have d3 : decide (h < 1) = true := by simpa using h3
      go_wp2
      exact bodyPost_ret (results_rc (r := zeroRc) Tryz.results26 rfl (Lies.new (r := zeroRc) rfl)) rfl ⟨rfl, Below.al1 W _⟩
    have d3 : decide (h < 1) = false := by simp; omega
    have d4 : decide (h > 256) = true := by simp; omega
    go_wp2
    exact bodyPost_ret (results_rc (r := zeroRc) Tryz.results26 rfl (Lies.new (r := zeroRc) rfl)) rfl ⟨rfl, Below.al1 W _⟩

theorem under_made (p q : Rc) (W : World) : Calls Tryz.prog 27 #[RV p, RV q] W fun e w' => e = .returned (.func (.func 40) #[] #[.pointer (some ⟨W.heap.size + 1, 0, none⟩), .pointer (some ⟨W.heap.size, 0, none⟩)]) ∧ w' = (W.alloc (.cells #[.int .i64 p.x, .int .i64 p.y, .int .i64 p.a, .int .i64 p.b] 37)).alloc (.cells #[.int .i64 q.x, .int .i64 q.y, .int .i64 q.a, .int .i64 q.b] 37) := by
  have hmf : ∀ (fn : Fn) (first cap : Array Value) (w : World), (Instr.makeFunc fn first cap).run Tryz.prog w = .ok (.func fn first cap) w := fun _ _ _ _ => rfl
  go_enter Tryz.func27, Tryz.ntmps27
  go_wp2
  go_ret
  exact ⟨rfl, rfl⟩

theorem lt_heapT {w : World} {i : Nat} {o : Obj} (h : w.heap[i]? = some o) : i < w.heap.size := (Array.getElem?_eq_some_iff.1 h).1
theorem cell_heapT {w : World} {b i : Nat} {cs : Array Value} {t : TypeId} {v : Value} (h : w.heap[b]? = some (.cells cs t)) (hi : cs[i]? = some v) : w.cell? ⟨b, i, none⟩ = some v := by
  simp [World.cell?, h, hi]
theorem owns_baseT {w : World} {B B' : Nat} {e : TypeId} {size : Nat} {v : Value} {n : Nat} {xs : List Value} (h : w.ownsRow B e size v n xs) (hb : B' ≤ B) : w.ownsRow B' e size v n xs :=
  ⟨h.1, h.2.imp id fun ⟨g, cap, cur, a, b, c⟩ => ⟨g, cap, cur, a, Nat.le_trans hb b, c⟩⟩
theorem frozen_heapT {w : World} {b i : Nat} {cs : Array Value} {t : TypeId} (h : w.heap[b]? = some (.cells cs t)) : w.frozen? ⟨b, i, none⟩ = false := by simp [World.frozen?, h]
theorem lies_at {W : World} {B : Nat} {r : Rc} {t : TypeId} (h : W.heap[B]? = some (.cells #[.int .i64 r.x, .int .i64 r.y, .int .i64 r.a, .int .i64 r.b] t)) : Lies W B r :=
  ⟨cell_heapT h rfl, cell_heapT h rfl, cell_heapT h rfl, cell_heapT h rfl⟩

/-- A tile and its number, as they are handed over. -/
def ElT (_ _ : World) (_ : Nat → Prop) (x : Nat × Rc) (vs : Array Value) : Prop := vs = #[.int .i64 (x.1 : Int), RV x.2]
theorem lies_block {w w' : World} {B : Nat} {r : Rc} (h : Lies w B r) (e : w'.heap[B]? = w.heap[B]?) : Lies w' B r :=
  ⟨(World.cell?_of_block (a := ⟨B, 0, none⟩) e).trans h.c0, (World.cell?_of_block (a := ⟨B, 1, none⟩) e).trans h.c1, (World.cell?_of_block (a := ⟨B, 2, none⟩) e).trans h.c2, (World.cell?_of_block (a := ⟨B, 3, none⟩) e).trans h.c3⟩
theorem lt_of_sameT {w w' : World} {b : Nat} (h : b < w.heap.size) (e : w'.heap[b]? = w.heap[b]?) : b < w'.heap.size := by
  rw [Array.getElem?_eq_getElem h] at e
  exact (Array.getElem?_eq_some_iff.1 e).1
theorem rowT_cons (w h r q n : Nat) : rowT w h r q (n + 1) = (r * clN w + q, til w h q r) :: rowT w h r (q + 1) n := by
  unfold rowT; rw [List.range'_succ, List.map_cons]
theorem rowsT_cons (w h r m q n : Nat) : rowsT w h r (m + 1) q n = rowT w h r q n ++ rowsT w h (r + 1) m q n := by
  unfold rowsT; rw [List.range'_succ, List.flatMap_cons]

set_option maxRecDepth 20000 in
set_option maxHeartbeats 8000000 in
theorem under_iter (Bp Bt : Nat) (pw ph X Y A B : Nat) (w : World) (R : Nat → Prop) (hp : Lies w Bp (pcR pw ph)) (ht : Lies w Bt ⟨X, Y, A, B⟩) (hw : pw ≤ 256) (hh : ph ≤ 256) (hX : X + A ≤ pw) (hY : Y + B ≤ ph)
    (hRlt : ∀ b, R b → b < w.heap.size) (hR1 : R Bp) (hR2 : R Bt) :
    Iter Tryz.prog 40 #[.pointer (some ⟨Bp, 0, none⟩), .pointer (some ⟨Bt, 0, none⟩)] ElT R (unL pw ph X Y A B) w := by
  intro ll J Jx W hsz hRW hJ0 hY'
  refine callsIn_wide.2 ?_
  have HY := Lib.hid hY'
  have HRW := Lib.hid hRW
  have HRlt := Lib.hid hRlt
  have HP := Lib.hid hp
  have HT0 := Lib.hid ht
  obtain ⟨c, hc⟩ : ∃ c, clN pw = c := ⟨_, rfl⟩
  have hc16 : c ≤ 16 := by rw [← hc]; unfold clN; omega
  obtain ⟨r0, hr0⟩ : ∃ r, Y / 16 = r := ⟨_, rfl⟩
  obtain ⟨r1, hr1⟩ : ∃ r, (Y + B + 15) / 16 = r := ⟨_, rfl⟩
  obtain ⟨q0, hq0⟩ : ∃ r, X / 16 = r := ⟨_, rfl⟩
  obtain ⟨q1, hq1⟩ : ∃ r, (X + A + 15) / 16 = r := ⟨_, rfl⟩
  have HU : Hid (unL pw ph X Y A B = rowsT pw ph r0 (r1 - r0) q0 (q1 - q0)) := Lib.hid (by unfold unL; rw [hr0, hr1, hq0, hq1])
  have Hc := Lib.hid hc
  have l1 := (lies_block hp (hRW Bp hR1)).c2
  have l2 := (lies_block ht (hRW Bt hR2)).c1
  simp only [pcR] at l1 l2
  have e1 : ((pw : Int) + 16 - 1) / 16 = (c : Int) := by rw [← hc]; unfold clN; omega
  have e1' : Int.tdiv ((pw : Int) + 16 - 1) 16 = (c : Int) := by rw [Int.tdiv_eq_ediv_of_nonneg (by omega)]; exact e1
  have e2 : (Y : Int) / 16 = (r0 : Int) := by omega
  have e2' : Int.tdiv (Y : Int) 16 = (r0 : Int) := by rw [Int.tdiv_eq_ediv_of_nonneg (by omega)]; exact e2
  have e3 : (X : Int) / 16 = (q0 : Int) := by omega
  have e3' : Int.tdiv (X : Int) 16 = (q0 : Int) := by rw [Int.tdiv_eq_ediv_of_nonneg (by omega)]; exact e3
  clear hY' hRW hRlt hp ht hc
  go_enter Tryz.func40, Tryz.ntmps40
  go_wp2_with fail
  clear l1 l2 e1 e1' e2 e2'
  have hr1b : r1 ≤ 17 := by omega
  have hq1b : q1 ≤ 17 := by omega
  go_loopw [5] (fun rv wr => ∃ (r : Nat) (pre : List (Nat × Rc)) (Tp : Nat → Prop) (Wp : World), rv = .int .i64 (r : Int) ∧ r ≤ 20 ∧ Hid (unL pw ph X Y A B = pre ++ rowsT pw ph r (r1 - r) q0 (q1 - q0)) ∧ Hid (J pre Tp Wp) ∧ Hid (Turns Tp Wp wr) ∧ Hid (∀ b, R b → wr.heap[b]? = w.heap[b]?)) (fun rv _ => 20 - (intOf rv).toNat)
  case atStart => exact ⟨r0, [], fun _ => False, W, rfl, by omega, HU, Lib.hid hJ0, Lib.hid (Turns.refl _ _), HRW⟩
  case round =>
    obtain ⟨r, pre, Tp, Wp, rfl, hr, HE, HJ, HT, HR⟩ := hrel
    have tl := lies_block HT0.out (HR.out Bt hR2)
    have t0 := tl.c0
    have t1 := tl.c1
    have t2 := tl.c2
    have t3 := tl.c3
    simp only at t0 t1 t2 t3
    by_cases hrr : r < r1
    · have d1 : decide ((r : Int) * 16 < (Y : Int) + (B : Int)) = true := by simp; omega
      have HE2 : Hid (unL pw ph X Y A B = pre ++ (rowT pw ph r q0 (q1 - q0) ++ rowsT pw ph (r + 1) (r1 - (r + 1)) q0 (q1 - q0))) := Lib.hid (by
        rw [HE.out, show r1 - r = (r1 - (r + 1)) + 1 by omega, rowsT_cons])
      clear tl HE
      go_wp2_with fail
      generalize wr = W0 at *
      go_loopw [6] (fun qv wz => ∃ (q : Nat) (pre : List (Nat × Rc)) (Tp : Nat → Prop) (Wp : World), qv = .int .i64 (q : Int) ∧ q ≤ 20 ∧ Hid (unL pw ph X Y A B = pre ++ (rowT pw ph r q (q1 - q) ++ rowsT pw ph (r + 1) (r1 - (r + 1)) q0 (q1 - q0))) ∧ Hid (J pre Tp Wp) ∧ Hid (Turns Tp Wp wz) ∧ Hid (∀ b, R b → wz.heap[b]? = w.heap[b]?)) (fun qv _ => 20 - (intOf qv).toNat)
      case atStart => exact ⟨q0, pre, Tp, Wp, rfl, by omega, HE2, HJ, HT, HR⟩
      case round =>
        clear HE2 HJ HT HR t0 t1 t2 t3
        obtain ⟨q, pre, Tp, Wp, rfl, hq, HE, HJ, HT, HR⟩ := hrel
        have tl := lies_block HT0.out (HR.out Bt hR2)
        have t0 := tl.c0
        have t1 := tl.c1
        have t2 := tl.c2
        have t3 := tl.c3
        simp only at t0 t1 t2 t3
        by_cases hqq : q < q1
        · have d2 : decide ((q : Int) * 16 < (X : Int) + (A : Int)) = true := by simp; omega
          have HE3 : Hid (unL pw ph X Y A B = pre ++ (r * c + q, til pw ph q r) :: (rowT pw ph r (q + 1) (q1 - (q + 1)) ++ rowsT pw ph (r + 1) (r1 - (r + 1)) q0 (q1 - q0))) := Lib.hid (by
            rw [HE.out, show q1 - q = (q1 - (q + 1)) + 1 by omega, rowT_cons, Hc.out]; rfl)
          obtain ⟨num, hnum⟩ : ∃ n, r * c + q = n := ⟨_, rfl⟩
          have hrc : r * c ≤ 20 * 16 := Nat.mul_le_mul hr hc16
          have hnum2 : (r : Int) * (c : Int) + (q : Int) = (num : Int) := by rw [← hnum]; simp
          have hrcI : (r : Int) * (c : Int) = ((r * c : Nat) : Int) := by simp
          obtain ⟨rc, hrc2⟩ : ∃ n, r * c = n := ⟨_, rfl⟩
          rw [hrc2] at hrc hrcI
          rw [hrcI] at hnum2
          rw [hnum] at HE3
          have hnb : num ≤ 400 := by omega
          have pl := lies_block HP.out (HR.out Bp hR1)
          have p0 := pl.c0
          have p1 := pl.c1
          have p2 := pl.c2
          have p3 := pl.c3
          simp only [pcR] at p0 p1 p2 p3
          clear tl HE hnum hrc2
          go_upto_region 7 with (fail)
          clear t0 t1 t2 t3
          go_upto_region 8 with (fail)
          have hbp := Below.al1 wr (.cells #[.int .i64 ((q : Int) * 16), .int .i64 ((r : Int) * 16), .int .i64 16, .int .i64 16] 37)
          have hlf : Lies (wr.alloc (.cells #[.int .i64 ((q : Int) * 16), .int .i64 ((r : Int) * 16), .int .i64 16, .int .i64 16] 37)) wr.heap.size (fullT q r) := Lies.new (r := fullT q r) rfl
          have p0 := cell_later hbp p0
          have p1 := cell_later hbp p1
          have p2 := cell_later hbp p2
          have p3 := cell_later hbp p3
          have HR2 : Hid (∀ b, R b → (wr.alloc (.cells #[.int .i64 ((q : Int) * 16), .int .i64 ((r : Int) * 16), .int .i64 16, .int .i64 16] 37)).heap[b]? = w.heap[b]?) := Lib.hid (fun b hb => (hbp.block b (lt_of_sameT (HRlt.out b hb) (HR.out b hb))).trans (HR.out b hb))
          have HT2 := Lib.hid (HT.out.trans (Turns.of_below' hbp))
          generalize wr.alloc (.cells #[.int .i64 ((q : Int) * 16), .int .i64 ((r : Int) * 16), .int .i64 16, .int .i64 16] 37) = u1 at *
          obtain ⟨f0, f1, f2, f3⟩ := hlf
          simp only [fullT] at f0 f1 f2 f3
          have hand : ∀ W, Makes Tryz.prog 32 #[RV (fullT q r), RV (pcR pw ph)] W (RV (til pw ph q r)) := fun W => and_any _ _ W ⟨by simp only [fullT]; omega, by simp only [fullT]; omega⟩ ⟨by simp [pcR], by simp [pcR]⟩
          simp only [fullT, pcR] at hand
          have Hand := Lib.hid hand
          obtain ⟨T0, hT0⟩ : ∃ T, til pw ph q r = T := ⟨_, rfl⟩
          rw [hT0] at HE3
          clear hbp hand HT HR
          refine (wpIn_wide (n := 0)).1 ?_
          gi_wp2
          refine ⟨trivial, rfl, (callsIn_wide.2 (Hand.out _)).mono ?_⟩
          rintro _ u2 ⟨rfl, hb2⟩
          rw [hT0]
          have HR3 : Hid (∀ b, R b → u2.heap[b]? = w.heap[b]?) := Lib.hid (fun b hb => (hb2.block b (lt_of_sameT (HRlt.out b hb) (HR2.out b hb))).trans (HR2.out b hb))
          have HT3 := Lib.hid (HT2.out.trans (Turns.of_below' hb2))
          clear hb2 f0 f1 f2 f3 p0 p1 p2 p3 HR2 HT2 Hand hT0
          obtain ⟨fn, tmps, assign, body, hy, hRd⟩ := HY.out pre (num, T0) (rowT pw ph r (q + 1) (q1 - (q + 1)) ++ rowsT pw ph (r + 1) (r1 - (r + 1)) q0 (q1 - q0)) Tp (fun _ => False) Wp u2 #[.int .i64 (num : Int), RV T0] HE3.out HJ.out HT3.out (fun _ h => h.elim) (fun _ h => h.elim) HR3.out rfl
          gi_wp2
          refine ⟨rfl, hRd.mono ?_⟩
          rintro e W3 (⟨rfl, hJ3, hsz3, hk3⟩ | ⟨rfl, hJx3, -, -⟩)
          · have HR4 : Hid (∀ b, R b → W3.heap[b]? = w.heap[b]?) := Lib.hid (fun b hb => (hk3 b (Or.inl hb)).trans (HR3.out b hb))
            have HJ4 := Lib.hid hJ3
            clear hk3 hJ3 hy hRd hnum2 hrcI
            gi_wp2
            go_wp2
            go_roundw
            case rel => exact ⟨q + 1, pre ++ [(num, T0)], fun _ => False, W3, by go_num, by omega, Lib.hid (by rw [HE3.out]; simp), HJ4, Lib.hid (Turns.refl _ _), HR4⟩
            case measure => simp [intOf]; omega
          · have HPx : pre ++ [(num, T0)] <+: unL pw ph X Y A B := ⟨rowT pw ph r (q + 1) (q1 - (q + 1)) ++ rowsT pw ph (r + 1) (r1 - (r + 1)) q0 (q1 - q0), by rw [HE3.out]; simp⟩
            gi_wp2
            go_wp2
            refine bodyPost_ret (results_none rfl _ _ _) rfl ?_
            exact ⟨⟨_, rfl⟩, .inr ⟨_, _, _, HPx, hJx3, Turns.refl _ _⟩⟩
        · have d2 : decide ((q : Int) * 16 < (X : Int) + (A : Int)) = false := by simp; omega
          have HE3 : Hid (unL pw ph X Y A B = pre ++ rowsT pw ph (r + 1) (r1 - (r + 1)) q0 (q1 - q0)) := Lib.hid (by
            rw [HE.out, show q1 - q = 0 by omega]; rfl)
          go_wp2
          go_roundw
          case rel => exact ⟨r + 1, pre, Tp, Wp, by go_num, by omega, HE3, HJ, HT, HR⟩
          case measure => simp [intOf]; omega
    · have d1 : decide ((r : Int) * 16 < (Y : Int) + (B : Int)) = false := by simp; omega
      have HX : Hid (unL pw ph X Y A B = pre) := Lib.hid (by rw [HE.out, show r1 - r = 0 by omega]; simp [rowsT])
      go_wp2
      go_end0
      exact ⟨⟨_, rfl⟩, .inl ⟨_, _, by rw [HX.out]; exact HJ.out, HT.out⟩⟩

end Go.Proofs.YtajoipmchgabfaaGreat
