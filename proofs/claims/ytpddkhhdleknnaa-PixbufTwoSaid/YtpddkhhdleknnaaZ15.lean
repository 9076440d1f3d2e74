/- Blit, whatever is laid wherever: what it answers, and each pixel behind it. -/
import Derived.Test.YtpddkhhdleknnaaZ13
import Derived.Test.YtpddkhhdleknnaaZ14
namespace Go.Proofs.Ytpddkhhdleknnaa
open Go.RowKit

set_option maxRecDepth 100000 in
set_option maxHeartbeats 2000000 in
theorem blit_nopict (B : Nat) (x y mwd mht : Int) (p : Option Addr) (n c : Nat) (clip : Rc) (w : World) (hp : pictB mwd mht n = false) :
    Makes Try.prog 38 #[.pointer (some ⟨B, 0, none⟩), .int .i64 x, .int .i64 y, IV mwd mht (.slice p n c), RV clip] w (.tuple #[]) := by
  unfold Makes
  have Hp := Lib.hid hp
  clear hp
  go_enter Try.func38, Try.ntmps38
  go_wp2_with fail
  refine Calls.mono (isPicture_any mwd mht p n c _) ?_
  rw [Hp.out]
  rintro e w1 ⟨rfl, hb1⟩
  have Hb := Lib.hid (Below.thn (Below.al2 w _ _) hb1)
  clear hb1
  go_wp2
  go_returns
  exact ⟨rfl, Hb.out⟩

set_option maxRecDepth 100000 in
set_option maxHeartbeats 4000000 in
theorem blit_unseen (B wd ht g : Nat) (x y mwd mht : Int) (p : Option Addr) (n c : Nat) (clip R1 R2 R3 : Rc) (L : List Int) (w : World) (h : BufAt w B wd ht g L) (hp : pictB mwd mht n = true) (hfc : Fit clip) (hfm : Fit ⟨0, 0, mwd, mht⟩)
    (h1 : shiftR ⟨0, 0, mwd, mht⟩ x y = R1) (hf1 : Fit R1) (h2 : andR R1 clip = R2) (hf2 : Fit R2) (h3 : andR R2 ⟨0, 0, (wd : Int), (ht : Int)⟩ = R3) (hf3 : Fit R3) (he : emptyR R3 = true) :
    Makes Try.prog 38 #[.pointer (some ⟨B, 0, none⟩), .int .i64 x, .int .i64 y, IV mwd mht (.slice p n c), RV clip] w (.tuple #[]) := by
  unfold Makes
  have hfw : Fit ⟨0, 0, (wd : Int), (ht : Int)⟩ := ⟨show (0 : Int) ≤ 9223372036854775807 by decide, show (0 : Int) ≤ 9223372036854775807 by decide⟩
  have hal := Below.al2 w (.cells #[.int .i64 mwd, .int .i64 mht, .slice p n c] 39) (RO clip)
  have bm : Im3 ((w.alloc (.cells #[.int .i64 mwd, .int .i64 mht, .slice p n c] 39)).alloc (RO clip)) w.heap.size mwd mht (.slice p n c) := (Im3.new rfl).later (Below.al1 _ _)
  have lc : Lies ((w.alloc (.cells #[.int .i64 mwd, .int .i64 mht, .slice p n c] 39)).alloc (RO clip)) (w.heap.size + 1) clip := Lies.new (by simp)
  have h0 := h.later hal
  have Hal := Lib.hid hal
  have Hp := Lib.hid hp
  clear hal h hp
  go_enter Try.func38, Try.ntmps38
  go_wp2_with fail
  generalize ((w.alloc (.cells #[.int .i64 mwd, .int .i64 mht, .slice p n c] 39)).alloc (RO clip)) = W at *
  refine Calls.mono (isPicture_any mwd mht p n c _) ?_
  rw [Hp.out]
  rintro e w1 ⟨rfl, hb1⟩
  have bm1 := bm.later hb1
  obtain ⟨a0, a1, a2⟩ := bm1.cells
  have Hb1 := Lib.hid hb1
  clear hb1
  go_wp2_with fail
  refine Calls.mono (whole_any _ _ _ _) ?_
  rintro e w2 ⟨rfl, hb2⟩
  go_wp2_with fail
  refine Calls.mono (shift_eq _ x y _ h1 hfm) ?_
  rintro e w3 ⟨rfl, hb3⟩
  have hbW3 := (Below.thn Hb1.out (Below.thn hb2 hb3))
  have hal3 := Below.al1 w3 (.cells #[.int .i64 R1.x, .int .i64 R1.y, .int .i64 R1.a, .int .i64 R1.b] 30)
  have hbW := Below.thn hbW3 hal3
  have l10 : Lies (w3.alloc (.cells #[.int .i64 R1.x, .int .i64 R1.y, .int .i64 R1.a, .int .i64 R1.b] 30)) w3.heap.size R1 := Lies.new rfl
  have bm4 := bm.later hbW
  have lc4 := lc.later hbW
  have h04 := h0.later hbW
  have Hb4 := Lib.hid (Hal.out.trans (hbW.mono Hal.out.size))
  clear a0 a1 a2 bm1 hb2 hb3 hbW3 hal3 hbW bm lc h0 Hb1 Hal
  go_upto_region 3 with (fail)
  generalize (w3.alloc (.cells #[.int .i64 R1.x, .int .i64 R1.y, .int .i64 R1.a, .int .i64 R1.b] 30)) = W4 at *
  have hW4 : w3.heap.size < W4.heap.size := World.block_lt_of_cell? _ _ l10.c0
  have hq := After.ne W4
  obtain ⟨r0, r1, r2, r3⟩ := l10.rules
  obtain ⟨e0, e1, e2, e3⟩ := lc4.rules
  have k0 := After.rule h04.three.1
  have k1 := After.rule h04.three.2.1
  have k2 := After.rule h04.three.2.2
  have Hh1 := Lib.hid h1
  have Hh2 := Lib.hid h2
  have Hh3 := Lib.hid h3
  have He := Lib.hid he
  clear l10 bm4 lc4 h04 h1 h2 h3 he
  refine wp_region_box1 9 _ (.cells #[.int .i64 0, .int .i64 0, .int .i64 0, .int .i64 0] 30) (by kernel_rfl) (by kernel_rfl) (by kernel_rfl) rfl rfl (by intro a w; go_simp) ?_
  iterate 8 (refine Lq_step (fun K hK => ?_); go_simp; first | (refine hK _ ?_; clear hK K) | (apply Exists.intro; refine ⟨fun n => ?_, hK _ ?_⟩; (first | (go_at_call 81; exact whole_any _ _ _ _) | (go_at_call 83; exact and_eq R1 clip _ Hh2.out hf1 hfc)); clear hK K))
  refine Lq_step (fun K hK => ?_)
  go_simp
  apply Exists.intro
  refine ⟨fun n => ?_, hK _ ?_⟩
  · go_at_call 83
    exact and_eq R2 ⟨0, 0, (wd : Int), (ht : Int)⟩ _ Hh3.out hf2 hfw
  clear hK K
  refine Lq_nil ?_
  intro B5 w5 hB5 hb5 hz5
  have x0 : w5.cell? ⟨B5, 0, none⟩ = some (.int .i64 0) := by simp [World.cell?, hz5]
  have x1 : w5.cell? ⟨B5, 1, none⟩ = some (.int .i64 0) := by simp [World.cell?, hz5]
  have x2 : w5.cell? ⟨B5, 2, none⟩ = some (.int .i64 0) := by simp [World.cell?, hz5]
  have x3 : w5.cell? ⟨B5, 3, none⟩ = some (.int .i64 0) := by simp [World.cell?, hz5]
  have y0 : w5.frozen? ⟨B5, 0, none⟩ = false := by simp [World.frozen?, hz5]
  have y1 : w5.frozen? ⟨B5, 1, none⟩ = false := by simp [World.frozen?, hz5]
  have y2 : w5.frozen? ⟨B5, 2, none⟩ = false := by simp [World.frozen?, hz5]
  have y3 : w5.frozen? ⟨B5, 3, none⟩ = false := by simp [World.frozen?, hz5]
  have hz6 := four_put (.int .i64 R3.x) (.int .i64 R3.y) (.int .i64 R3.a) (.int .i64 R3.b) hz5
  have hb45 : Below W4.heap.size W4 ((((w5.setCell ⟨B5, 0, none⟩ (.int .i64 R3.x)).setCell ⟨B5, 1, none⟩ (.int .i64 R3.y)).setCell ⟨B5, 2, none⟩ (.int .i64 R3.a)).setCell ⟨B5, 3, none⟩ (.int .i64 R3.b)) := hb5.trans ((Below.stored (w := w5) (B := B5) R3).mono hB5)
  have l5 : Lies ((((w5.setCell ⟨B5, 0, none⟩ (.int .i64 R3.x)).setCell ⟨B5, 1, none⟩ (.int .i64 R3.y)).setCell ⟨B5, 2, none⟩ (.int .i64 R3.a)).setCell ⟨B5, 3, none⟩ (.int .i64 R3.b)) B5 R3 := by
    refine ⟨?_, ?_, ?_, ?_⟩ <;> simp [World.cell?, hz6]
  have Hb05 := Lib.hid (Hb4.out.trans (hb45.mono Hb4.out.size))
  clear r0 r1 r2 r3 e0 e1 e2 e3 k0 k1 k2 hq hb5 hb45 hz5 hz6
  obtain ⟨W5, hW5⟩ : ∃ W5, ((((w5.setCell ⟨B5, 0, none⟩ (.int .i64 R3.x)).setCell ⟨B5, 1, none⟩ (.int .i64 R3.y)).setCell ⟨B5, 2, none⟩ (.int .i64 R3.a)).setCell ⟨B5, 3, none⟩ (.int .i64 R3.b)) = W5 := ⟨_, rfl⟩
  rw [hW5] at Hb05 l5
  obtain ⟨z0, z1, z2, z3⟩ := l5
  go_upto_region 4 with (fail)
  clear x0 x1 x2 x3 y0 y1 y2 y3 hW5
  go_wp2_with fail
  refine Calls.mono (empty_eq R3 _ He.out hf3) ?_
  rintro e w6 ⟨rfl, hb6⟩
  have Hb06 := Lib.hid (Hb05.out.trans (hb6.mono Hb05.out.size))
  clear hb6
  go_wp2
  go_returns
  exact ⟨rfl, Hb06.out⟩

theorem shiftR_cases (r : Rc) (dx dy : Int) : (shiftR r dx dy = ⟨r.x + dx, r.y + dy, r.a, r.b⟩ ∧ goodR r = true ∧ (-1048576 - r.x ≤ dx ∧ dx ≤ 1048576 - (r.x + r.a)) ∧ (-1048576 - r.y ≤ dy ∧ dy ≤ 1048576 - (r.y + r.b))) ∨ shiftR r dx dy = zeroRc := by
  by_cases h : (goodR r && (wayShift r.x r.a dx && wayShift r.y r.b dy)) = true
  · left
    refine ⟨by unfold shiftR; rw [if_pos h], ?_⟩
    simpa [wayShift] using h
  · right
    unfold shiftR
    rw [if_neg h]

/-- What a picture's pixels are behind a Blit. -/
def BlitOf (wd ht : Nat) (x y mwd mht : Int) (clip : Rc) (M L L' : List Int) : Prop :=
  ∀ X Y : Nat, X < wd → Y < ht → L'[Y * wd + X]? = if (pictB mwd mht M.length && (hasR clip X Y && hasR (shiftR ⟨0, 0, mwd, mht⟩ x y) X Y)) = true then M[((Y : Int) - y).toNat * mwd.toNat + ((X : Int) - x).toNat]?.map cut24 else L[Y * wd + X]?

theorem has_box {px py aw ah : Nat} {X Y : Int} (h : emptyR ⟨(px : Int), (py : Int), (aw : Int), (ah : Int)⟩ = false) : hasR ⟨(px : Int), (py : Int), (aw : Int), (ah : Int)⟩ X Y = true ↔ ((px : Int) ≤ X ∧ X < px + aw) ∧ ((py : Int) ≤ Y ∧ Y < py + ah) := by
  rw [has_iff]
  constructor
  · rintro ⟨-, h2⟩; exact h2
  · intro h2; exact ⟨h, h2⟩

theorem has_whole {wd ht X Y : Nat} (hX : X < wd) (hY : Y < ht) (hw : wd ≤ 256) (hh : ht ≤ 256) : hasR ⟨0, 0, (wd : Int), (ht : Int)⟩ X Y = true := by
  rw [has_iff]
  exact ⟨emptyR_false.2 (by simp only; omega), by simp only; omega, by simp only; omega⟩

set_option maxRecDepth 100000 in
theorem blit_any (B wd ht g : Nat) (x y mwd mht : Int) (p : Option Addr) (c : Nat) (M : List Int) (clip : Rc) (L : List Int) (w : World) (h : BufAt w B wd ht g L) (hBg : B ≠ g) (hM : RowAt encU 1 w p M) (hU : U32 M) (hmc : M.length ≤ c) (hcm : c ≤ 9223372036854775807) (hne : ∀ a, p = some a → a.block ≠ g) (hfc : Fit clip) :
    Calls Try.prog 38 #[.pointer (some ⟨B, 0, none⟩), .int .i64 x, .int .i64 y, IV mwd mht (.slice p M.length c), RV clip] w fun e w' =>
      e = .returned (.tuple #[]) ∧ (∃ L', BufAt w' B wd ht g L' ∧ BlitOf wd ht x y mwd mht clip M L L') ∧ Turns (fun b => b = g) w w' := by
  cases hp : pictB mwd mht M.length
  · refine Calls.mono (blit_nopict B x y mwd mht p M.length c clip w hp) ?_
    rintro e w' ⟨rfl, hb⟩
    exact ⟨rfl, ⟨L, h.later hb, fun X Y _ _ => by rw [hp]; simp⟩, Turns.of_below' hb⟩
  · obtain ⟨mw, mh, fb, fo, rfl, rfl, hm1, hm2, hmn, rfl⟩ := pict_open hp hM
    obtain ⟨R1, h1⟩ : ∃ R, shiftR ⟨0, 0, (mw : Int), (mh : Int)⟩ x y = R := ⟨_, rfl⟩
    obtain ⟨R2, h2⟩ : ∃ R, andR R1 clip = R := ⟨_, rfl⟩
    obtain ⟨R3, h3⟩ : ∃ R, andR R2 ⟨0, 0, (wd : Int), (ht : Int)⟩ = R := ⟨_, rfl⟩
    have hf1 : Fit R1 := h1 ▸ shift_fit' _ _ _
    have hf2 : Fit R2 := h2 ▸ and_fit _ _
    have hf3 : Fit R3 := h3 ▸ and_fit _ _
    have hfm : Fit ⟨0, 0, (mw : Int), (mh : Int)⟩ := ⟨show (0 : Int) ≤ 9223372036854775807 by decide, show (0 : Int) ≤ 9223372036854775807 by decide⟩
    have hwd := h.wd1
    have hht := h.ht1
    have hpix : ∀ X Y : Nat, X < wd → Y < ht → hasR R3 X Y = (hasR clip X Y && hasR R1 X Y) := fun X Y hX hY => by
      rw [← h3, has_and, ← h2, has_and, has_whole hX hY (by omega) (by omega), Bool.and_true, Bool.and_comm]
    cases he : emptyR R3
    · have hin3 : inR R3 ⟨0, 0, (wd : Int), (ht : Int)⟩ = true := by rw [← h3]; exact in_and_right _ _
      have hin1 : inR R3 R1 = true := by
        have e1 : inR R3 R2 = true := by rw [← h3]; exact in_and_left _ _
        have e2 : inR R2 R1 = true := by rw [← h2]; exact in_and_left _ _
        exact in_trans e1 e2
      have hall : allInB R3 wd ht = true := by rw [allInB, he, hin3]; rfl
      obtain ⟨sx, sy, sw, sh, rfl, s1, s2, s3, s4⟩ := allInB_true hall
      rcases in_iff.1 hin1 with e1 | ⟨-, e2, e3, e4, e5, e6⟩
      · rw [he] at e1; cases e1
      rcases shiftR_cases ⟨0, 0, (mw : Int), (mh : Int)⟩ x y with ⟨f1, -, f2, f3⟩ | f1
      · rw [h1] at f1
        subst f1
        simp only at e3 e4 e5 e6 f2 f3
        obtain ⟨qx, hqx⟩ := Int.eq_ofNat_of_zero_le (show 0 ≤ (sx : Int) - x by omega)
        obtain ⟨qy, hqy⟩ := Int.eq_ofNat_of_zero_le (show 0 ≤ (sy : Int) - y by omega)
        have hnx : IntKind.i64.wrap (-x) = -x := IntWalk.i64_in _ (by omega)
        have hny : IntKind.i64.wrap (-y) = -y := IntWalk.i64_in _ (by omega)
        have h4 : shiftR ⟨(sx : Int), (sy : Int), (sw : Int), (sh : Int)⟩ (IntKind.i64.wrap (-x)) (IntKind.i64.wrap (-y)) = ⟨(qx : Int), (qy : Int), (sw : Int), (sh : Int)⟩ := by
          rw [hnx, hny, shiftR_yes (goodR_iff.2 (by simp only; omega)) (by simp only; omega) (by simp only; omega)]
          refine Rc.eq_of ?_ ?_ rfl rfl <;> (simp only; omega)
        refine Calls.mono (blit_yes B wd ht g mw mh fb fo M.length c sx sy sw sh qx qy x y clip _ R2 L M w h hM (hne _ rfl) hBg rfl hmc hcm hU hm1 hm2 hmn hfc h1 hf1 h2 hf2 h3 s1 s2 s3 s4 h4 (by omega) (by omega)) ?_
        rintro e w' ⟨rfl, hB, ht'⟩
        refine ⟨rfl, ⟨_, hB, fun X Y hX hY => ?_⟩, ht'⟩
        have hfit1 := h.fit s3 s4
        have hfit2 := fit_of (fw := mw) (px := qx) (py := qy) (aw := sw) (ah := sh) (by omega) (show qy + sh ≤ mh by omega) hmn
        rw [layL_get wd sx sy sw mw qx qy M L hU h.u.u32 s3 hX sh (fun k hk => ⟨hfit1 k hk, hfit2 k hk⟩), hp, Bool.true_and, h1, ← hpix X Y hX hY]
        by_cases hc : hasR ⟨(sx : Int), (sy : Int), (sw : Int), (sh : Int)⟩ X Y = true
        · have hc' := (has_box he).1 hc
          rw [if_pos hc, if_pos (by omega)]
          have ey : ((Y : Int) - y).toNat = qy + (Y - sy) := by omega
          have ex : ((X : Int) - x).toNat = qx + (X - sx) := by omega
          rw [ey, ex, show ((mw : Int)).toNat = mw by omega, Nat.add_assoc]
        · rw [if_neg hc, if_neg (fun hh => hc ((has_box he).2 (by omega)))]
      · rw [h1] at f1
        rw [f1] at e2
        exact absurd e2 (by decide)
    · refine Calls.mono (blit_unseen B wd ht g x y mw mh _ M.length c clip R1 R2 R3 L w h hp hfc hfm h1 hf1 h2 hf2 h3 hf3 he) ?_
      rintro e w' ⟨rfl, hb⟩
      refine ⟨rfl, ⟨L, h.later hb, fun X Y hX hY => ?_⟩, Turns.of_below' hb⟩
      have hno : hasR R3 X Y = false := by
        cases hh : hasR R3 X Y
        · rfl
        · rw [has_iff, he] at hh; simp at hh
      rw [hp, Bool.true_and, h1, ← hpix X Y hX hY, hno, if_neg (by simp)]

end Go.Proofs.Ytpddkhhdleknnaa
