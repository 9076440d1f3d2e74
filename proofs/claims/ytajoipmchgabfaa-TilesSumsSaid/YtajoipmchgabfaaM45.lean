/- Several texts in one, each with its own head. -/
import Derived.Test.YtajoipmchgabfaaM44
/- pixbuf's At, Same. -/
namespace Go.Proofs.Ytajoipmchgabfaa
open Go.RowKit

set_option maxHeartbeats 1000000 in
theorem at_in (B wd ht g x y : Nat) (L : List Int) (w : World) (h : BufAt w B wd ht g L) (hx : x < wd) (hy : y < ht) (hi : y * wd + x < L.length) :
    Makes Try.prog 23 #[.pointer (some ⟨B, 0, none⟩), .int .i64 (x : Int), .int .i64 (y : Int)] w (.tuple #[.int .u32 L[y * wd + x], .int .i64 0]) := by
  unfold Makes
  have hw := h.wd1
  have hht := h.ht1
  have hlen := h.len
  have hhas : hasR ⟨0, 0, (wd : Int), (ht : Int)⟩ x y = true := has_iff.2 ⟨emptyR_false.2 (by simp only; omega), by simp only; omega, by simp only; omega⟩
  have hf : Fit ⟨0, 0, (wd : Int), (ht : Int)⟩ := ⟨show (0 : Int) ≤ 9223372036854775807 by decide, show (0 : Int) ≤ 9223372036854775807 by decide⟩
  obtain ⟨q, hq⟩ : ∃ q, y * wd = q := ⟨_, rfl⟩
  obtain ⟨i, hii⟩ : ∃ i, q + x = i := ⟨_, rfl⟩
  obtain ⟨V, hV⟩ : ∃ V, L[y * wd + x] = V := ⟨_, rfl⟩
  have hcell : w.cell? ⟨g, i, none⟩ = some (.int .u32 V) := by
    have := h.pix.cell hi
    rw [hV] at this
    rw [← hii, ← hq]; exact this
  have hil : i < L.length := by rw [← hii, ← hq]; exact hi
  have z1 : IntKind.i64.wrap ((y : Int) * (wd : Int)) = (q : Int) := by rw [← Int.natCast_mul, hq]; exact IntWalk.i64_in _ (by omega)
  have z2 : IntKind.i64.wrap ((q : Int) + (x : Int)) = (i : Int) := by rw [← Int.natCast_add, hii]; exact IntWalk.i64_in _ (by omega)
  rw [hV]
  obtain ⟨c0, c1, c2⟩ := h.three
  have Hh := Lib.hid h
  have Hhas := Lib.hid hhas
  clear h hhas hq hii hV hi
  go_enter Try.func23, Try.ntmps23
  go_wp2_with fail
  refine Calls.mono (whole_any _ _ _ _) ?_
  rintro e w1 ⟨rfl, hb1⟩
  go_wp2_with fail
  refine Calls.mono (has_eq _ x y _ Hhas.out hf) ?_
  rintro e w2 ⟨rfl, hb2⟩
  have hb := Below.thn hb1 hb2
  have d0 := cell_later hb c0
  have d1 := cell_later hb c1
  have d2 := cell_later hb c2
  have d3 := cell_later hb hcell
  have Hb := Lib.hid hb
  clear c0 c1 c2 hcell hb1 hb2 hb
  go_wp2
  go_quiet (fail)
  go_wp2
  go_ret2
  exact ⟨rfl, Below.drewN' Hb.out _⟩

/-- Two rows of numbers held against each other. -/
def eqL : List Int → List Int → Bool
  | [], [] => true
  | a :: l, b :: m => a == b && eqL l m
  | _, _ => false
theorem eqL_iff {l m : List Int} : eqL l m = true ↔ l = m := by
  induction l generalizing m with
  | nil => cases m <;> simp [eqL]
  | cons a l ih =>
    cases m with
    | nil => simp [eqL]
    | cons b m => simp [eqL, ih]
theorem eqL_at {l m : List Int} {k : Nat} (h1 : k < l.length) (h2 : k < m.length) : eqL (l.drop k) (m.drop k) = (l[k] == m[k] && eqL (l.drop (k + 1)) (m.drop (k + 1))) := by
  rw [List.drop_eq_getElem_cons h1, List.drop_eq_getElem_cons h2]; rfl

end Go.Proofs.Ytajoipmchgabfaa

/- pixbuf's Same, Blit; the statements' great. -/
namespace Go.Proofs.Ytajoipmchgabfaa
open Go.RowKit

set_option maxHeartbeats 1000000 in
theorem great_any (wd ht : Int) (p : Option Addr) (n c : Nat) (w : World) : Makes Try.prog 5 #[IV wd ht (.slice p n c), .slice none 0 0] w (.bool (decide (1000 < n))) := by
  unfold Makes
  by_cases h : 1000 < n
  · have d : decide ((1000 : Int) < (n : Int)) = true := by simp; omega
    have hd : decide (1000 < n) = true := by simpa using h
    rw [hd]
    clear h hd
    go_enter Try.func5, Try.ntmps5
    go_wp2
    go_ret
    exact ⟨rfl, Below.al1 _ _⟩
  · have d : decide ((1000 : Int) < (n : Int)) = false := by simp; omega
    have hd : decide (1000 < n) = false := by simpa using h
    rw [hd]
    clear h hd
    go_enter Try.func5, Try.ntmps5
    go_wp2
    go_loopw [5] (fun i wr => i = .int .i64 0 ∧ wr = w.alloc (.cells #[.int .i64 wd, .int .i64 ht, .slice p n c] 24)) (fun _ _ => 0)
    case atStart => exact ⟨rfl, rfl⟩
    case round =>
      obtain ⟨rfl, rfl⟩ := hrel
      go_wp2
      go_ret
      exact ⟨rfl, Below.al1 _ _⟩

theorem and_eq {t : Rc} (r s : Rc) (w : World) (h : andR r s = t) (hr : Fit r) (hs : Fit s) : Makes Try.prog 34 #[RV r, RV s] w (RV t) := h ▸ and_any r s w hr hs

theorem four_put {W : World} {B : Nat} {t : TypeId} {a b c d : Value} (a' b' c' d' : Value) (h : W.heap[B]? = some (.cells #[a, b, c, d] t)) :
    ((((W.setCell ⟨B, 0, none⟩ a').setCell ⟨B, 1, none⟩ b').setCell ⟨B, 2, none⟩ c').setCell ⟨B, 3, none⟩ d').heap[B]? = some (.cells #[a', b', c', d'] t) := by
  have one : ∀ (W : World) (i : Nat) (l : Array Value) (u : Value), W.heap[B]? = some (.cells l t) → (W.setCell ⟨B, i, none⟩ u).heap[B]? = some (.cells (l.setIfInBounds i u) t) := by
    intro W i l u h
    obtain ⟨hlt, hk⟩ := Array.getElem?_eq_some_iff.1 h
    show (W.heap.modify B _)[B]? = _
    rw [Array.getElem?_eq_getElem (by rw [Array.size_modify]; exact hlt), Array.getElem_modify_self, hk]
    rfl
  have := one _ 3 _ d' (one _ 2 _ c' (one _ 1 _ b' (one _ 0 _ a' h)))
  simpa using this

set_option maxHeartbeats 4000000 in
theorem blit_yes (B wd ht g mw mh mb moff mn mc sx sy sw sh qx qy : Nat) (x y : Int) (clip R1 R2 : Rc) (L M : List Int) (w : World) (h : BufAt w B wd ht g L) (hM : RowAt encU 1 w (some ⟨mb, moff, none⟩) M) (hne : mb ≠ g) (hBg : B ≠ g) (hml : M.length = mn) (hmc : mn ≤ mc) (hmx : mc ≤ 9223372036854775807) (hU : U32 M)
    (m1 : 1 ≤ mw ∧ mw ≤ 256) (m2 : 1 ≤ mh ∧ mh ≤ 256) (hmn : mw * mh = mn) (hfc : Fit clip)
    (h1 : shiftR ⟨0, 0, (mw : Int), (mh : Int)⟩ x y = R1) (hf1 : Fit R1) (h2 : andR R1 clip = R2) (hf2 : Fit R2) (h3 : andR R2 ⟨0, 0, (wd : Int), (ht : Int)⟩ = ⟨sx, sy, sw, sh⟩)
    (hsw : 1 ≤ sw) (hsh : 1 ≤ sh) (hsx : sx + sw ≤ wd) (hsy : sy + sh ≤ ht) (h4 : shiftR ⟨sx, sy, sw, sh⟩ (IntKind.i64.wrap (-x)) (IntKind.i64.wrap (-y)) = ⟨qx, qy, sw, sh⟩) (hqx : qx + sw ≤ mw) (hqy : qy + sh ≤ mh) :
    Calls Try.prog 17 #[.pointer (some ⟨B, 0, none⟩), .int .i64 x, .int .i64 y, IV mw mh (.slice (some ⟨mb, moff, none⟩) mn mc), RV clip] w fun e w' =>
      e = .returned (.tuple #[]) ∧ BufAt w' B wd ht g (layL wd sx sy sw mw qx qy M L sh) ∧ Turns (fun b => b = g) w w' := by
  have hwd := h.wd1
  have hht := h.ht1
  have hlen := h.len
  have hgl := h.pix.lt
  have hpict : pictB mw mh mn = true := by
    have : ((mn : Nat) : Int) = (mw : Int) * (mh : Int) := by rw [← hmn, Int.natCast_mul]
    simp [pictB, sizedB, this]; omega
  have hfm : Fit ⟨0, 0, (mw : Int), (mh : Int)⟩ := ⟨show (0 : Int) ≤ 9223372036854775807 by decide, show (0 : Int) ≤ 9223372036854775807 by decide⟩
  have hfw : Fit ⟨0, 0, (wd : Int), (ht : Int)⟩ := ⟨show (0 : Int) ≤ 9223372036854775807 by decide, show (0 : Int) ≤ 9223372036854775807 by decide⟩
  have hfs : Fit ⟨sx, sy, sw, sh⟩ := ⟨show (sx : Int) ≤ 9223372036854775807 by omega, show (sy : Int) ≤ 9223372036854775807 by omega⟩
  have hes : emptyR ⟨sx, sy, sw, sh⟩ = false := emptyR_false.2 (by simp only; omega)
  obtain ⟨nx, hnx⟩ : ∃ nx, IntKind.i64.wrap (-x) = nx := ⟨_, rfl⟩
  obtain ⟨ny, hny⟩ : ∃ ny, IntKind.i64.wrap (-y) = ny := ⟨_, rfl⟩
  rw [hnx, hny] at h4
  have hfit1 := h.fit hsx hsy
  have hfit2 : ∀ k, k < sh → (qy + k) * mw + qx + sw ≤ M.length := fun k hk => by
    rw [hml, ← hmn]
    have : (qy + k + 1) * mw ≤ mh * mw := Nat.mul_le_mul_right mw (by omega)
    rw [Nat.add_mul (qy + k), Nat.one_mul, Nat.mul_comm mh mw] at this
    omega
  have hgB := heap_pushed [.cells #[.int .i64 (mw : Int), .int .i64 (mh : Int), .slice (some ⟨mb, moff, none⟩) mn mc] 24, .cells #[.int .i64 clip.x, .int .i64 clip.y, .int .i64 clip.a, .int .i64 clip.b] 38] w
  simp only [List.foldl_cons, List.foldl_nil] at hgB
  have hal := Below.al2 w (.cells #[.int .i64 (mw : Int), .int .i64 (mh : Int), .slice (some ⟨mb, moff, none⟩) mn mc] 24) (.cells #[.int .i64 clip.x, .int .i64 clip.y, .int .i64 clip.a, .int .i64 clip.b] 38)
  have bm : Im3 ((w.alloc (.cells #[.int .i64 (mw : Int), .int .i64 (mh : Int), .slice (some ⟨mb, moff, none⟩) mn mc] 24)).alloc (.cells #[.int .i64 clip.x, .int .i64 clip.y, .int .i64 clip.a, .int .i64 clip.b] 38)) w.heap.size mw mh (.slice (some ⟨mb, moff, none⟩) mn mc) := (hgB 0 _).2 rfl
  have lc : Lies ((w.alloc (.cells #[.int .i64 (mw : Int), .int .i64 (mh : Int), .slice (some ⟨mb, moff, none⟩) mn mc] 24)).alloc (.cells #[.int .i64 clip.x, .int .i64 clip.y, .int .i64 clip.a, .int .i64 clip.b] 38)) (w.heap.size + 1) clip := Lies.new (by simp)
  have h0 := h.later hal
  have hM0 := hM.below hal
  have Hal := Lib.hid hal
  have Hu := Lib.hid h.u
  have Hsz := Lib.hid h.size
  have Hcells := Lib.hid h.cells
  have Hpict := Lib.hid hpict
  clear hgB hal h hM hpict
  go_enter Try.func17, Try.ntmps17
  go_wp2_with fail
  generalize ((w.alloc (.cells #[.int .i64 (mw : Int), .int .i64 (mh : Int), .slice (some ⟨mb, moff, none⟩) mn mc] 24)).alloc (.cells #[.int .i64 clip.x, .int .i64 clip.y, .int .i64 clip.a, .int .i64 clip.b] 38)) = W at *
  refine Calls.mono (isPicture_any mw mh _ mn mc _) ?_
  rw [Hpict.out]
  rintro e w1 ⟨rfl, hb1⟩
  have bm1 := bm.later hb1
  obtain ⟨a0, a1, a2⟩ := bm1.cells
  have Hb1 := Lib.hid hb1
  clear hb1
  go_wp2_with fail
  refine Calls.mono (whole_any _ _ _ _) ?_
  rintro e w2 ⟨rfl, hb2⟩
  go_wp2_with fail
  refine Calls.mono (shift_eq _ x y _ h1 hfm) ?_
  rintro e w3 ⟨rfl, hb3⟩
  have hbW3 := (Below.thn Hb1.out (Below.thn hb2 hb3))
  have hal3 := Below.al1 w3 (.cells #[.int .i64 R1.x, .int .i64 R1.y, .int .i64 R1.a, .int .i64 R1.b] 38)
  have hbW := Below.thn hbW3 hal3
  have l10 : Lies (w3.alloc (.cells #[.int .i64 R1.x, .int .i64 R1.y, .int .i64 R1.a, .int .i64 R1.b] 38)) w3.heap.size R1 := Lies.new rfl
  have bm4 := bm.later hbW
  have lc4 := lc.later hbW
  have h04 := h0.later hbW
  have HM4 := Lib.hid (hM0.below hbW)
  have Hb4 := Lib.hid (Hal.out.trans (hbW.mono Hal.out.size))
  clear a0 a1 a2 bm1 hb2 hb3 hbW3 hal3 hbW bm lc h0 hM0 Hb1 Hal
  go_upto_region 3 with (fail)
  generalize (w3.alloc (.cells #[.int .i64 R1.x, .int .i64 R1.y, .int .i64 R1.a, .int .i64 R1.b] 38)) = W4 at *
  have hW4 : w3.heap.size < W4.heap.size := World.block_lt_of_cell? _ _ l10.c0
  have hq := After.ne W4
  obtain ⟨r0, r1, r2, r3⟩ := l10.rules
  obtain ⟨e0, e1, e2, e3⟩ := lc4.rules
  have k0 := After.rule h04.three.1
  have k1 := After.rule h04.three.2.1
  have k2 := After.rule h04.three.2.2
  have H04 := Lib.hid h04
  have Hbm4 := Lib.hid bm4
  have Hh1 := Lib.hid h1
  have Hh2 := Lib.hid h2
  have Hh3 := Lib.hid h3
  have Hh4 := Lib.hid h4
  clear l10 bm4 lc4 h04 h1 h2 h3 h4
  refine wp_region_box1 9 _ (.cells #[.int .i64 0, .int .i64 0, .int .i64 0, .int .i64 0] 38) (by kernel_rfl) (by kernel_rfl) (by kernel_rfl) rfl rfl (by intro a w; go_simp) ?_
  iterate 8 (refine Lq_step (fun K hK => ?_); go_simp; first | (refine hK _ ?_; clear hK K) | (apply Exists.intro; refine ⟨fun n => ?_, hK _ ?_⟩; (first | (go_at_call 31; exact whole_any _ _ _ _) | (go_at_call 34; exact and_eq R1 clip _ Hh2.out hf1 hfc)); clear hK K))
  refine Lq_step (fun K hK => ?_)
  go_simp
  apply Exists.intro
  refine ⟨fun n => ?_, hK _ ?_⟩
  · go_at_call 34
    exact and_eq R2 ⟨0, 0, (wd : Int), (ht : Int)⟩ _ Hh3.out hf2 hfw
  clear hK K
  refine Lq_nil ?_
  intro B5 w5 hB5 hb5 hz5
  have x0 : w5.cell? ⟨B5, 0, none⟩ = some (.int .i64 0) := by simp [World.cell?, hz5]
  have x1 : w5.cell? ⟨B5, 1, none⟩ = some (.int .i64 0) := by simp [World.cell?, hz5]
  have x2 : w5.cell? ⟨B5, 2, none⟩ = some (.int .i64 0) := by simp [World.cell?, hz5]
  have x3 : w5.cell? ⟨B5, 3, none⟩ = some (.int .i64 0) := by simp [World.cell?, hz5]
  have y0 : w5.frozen? ⟨B5, 0, none⟩ = false := by simp [World.frozen?, hz5]
  have y1 : w5.frozen? ⟨B5, 1, none⟩ = false := by simp [World.frozen?, hz5]
  have y2 : w5.frozen? ⟨B5, 2, none⟩ = false := by simp [World.frozen?, hz5]
  have y3 : w5.frozen? ⟨B5, 3, none⟩ = false := by simp [World.frozen?, hz5]
  have hz6 := four_put (.int .i64 (sx : Int)) (.int .i64 (sy : Int)) (.int .i64 (sw : Int)) (.int .i64 (sh : Int)) hz5
  have hb45 : Below W4.heap.size W4 ((((w5.setCell ⟨B5, 0, none⟩ (.int .i64 (sx : Int))).setCell ⟨B5, 1, none⟩ (.int .i64 (sy : Int))).setCell ⟨B5, 2, none⟩ (.int .i64 (sw : Int))).setCell ⟨B5, 3, none⟩ (.int .i64 (sh : Int))) := hb5.trans ((Below.stored (w := w5) (B := B5) ⟨sx, sy, sw, sh⟩).mono hB5)
  have l5 : Lies ((((w5.setCell ⟨B5, 0, none⟩ (.int .i64 (sx : Int))).setCell ⟨B5, 1, none⟩ (.int .i64 (sy : Int))).setCell ⟨B5, 2, none⟩ (.int .i64 (sw : Int))).setCell ⟨B5, 3, none⟩ (.int .i64 (sh : Int))) B5 ⟨sx, sy, sw, sh⟩ := by
    refine ⟨?_, ?_, ?_, ?_⟩ <;> simp [World.cell?, hz6]
  have h05 := H04.out.later hb45
  have bm5 := Hbm4.out.later hb45
  have HM5 := Lib.hid (HM4.out.below hb45)
  have Hb05 := Lib.hid (Hb4.out.trans (hb45.mono Hb4.out.size))
  clear r0 r1 r2 r3 e0 e1 e2 e3 k0 k1 k2 hq hb5 hb45 hz5 hz6
  obtain ⟨W5, hW5⟩ : ∃ W5, ((((w5.setCell ⟨B5, 0, none⟩ (.int .i64 (sx : Int))).setCell ⟨B5, 1, none⟩ (.int .i64 (sy : Int))).setCell ⟨B5, 2, none⟩ (.int .i64 (sw : Int))).setCell ⟨B5, 3, none⟩ (.int .i64 (sh : Int))) = W5 := ⟨_, rfl⟩
  rw [hW5] at h05 bm5 HM5 Hb05 l5
  obtain ⟨z0, z1, z2, z3⟩ := l5
  have l5 : Lies W5 B5 ⟨sx, sy, sw, sh⟩ := ⟨z0, z1, z2, z3⟩
  go_upto_region 4 with (fail)
  clear x0 x1 x2 x3 y0 y1 y2 y3 hW5
  go_wp2_with fail
  refine Calls.mono (empty_eq ⟨sx, sy, sw, sh⟩ _ hes hfs) ?_
  rintro e w6 ⟨rfl, hb6⟩
  have h06 := h05.later hb6
  have bm6 := bm5.later hb6
  have l6 := l5.later hb6
  have HM6 := Lib.hid (HM5.out.below hb6)
  have Hb06 := Lib.hid (Hb05.out.trans (hb6.mono Hb05.out.size))
  clear hb6 h05 bm5 l5
  go_upto_region 5 with (fail)
  have hq := After.ne w6
  obtain ⟨r0, r1, r2, r3⟩ := l6.rules
  have k0 := After.rule h06.three.1
  have k1 := After.rule h06.three.2.1
  have k2 := After.rule h06.three.2.2
  have e0 := After.rule bm6.cells.1
  have e1 := After.rule bm6.cells.2.1
  have e2 := After.rule bm6.cells.2.2
  have H06 := Lib.hid h06
  clear h06 bm6 l6
  refine wp_region_head 12 (by kernel_rfl) (by kernel_rfl) (by kernel_rfl) ?_
  repeat (refine Lq_step (fun K hK => ?_); go_simp; first | (refine hK _ ?_; clear hK K) | (apply Exists.intro; refine ⟨fun n => ?_, hK _ ?_⟩; (go_at_call 37; exact shift_eq ⟨sx, sy, sw, sh⟩ nx ny _ Hh4.out hfs); clear hK K))
  refine Lq_nil ?_
  intro w7 hb7
  have h07 := H06.out.later hb7
  have hlay := lay_any wd ht sx sy sw sh mw mh qx qy g mb moff mn mc M L w7 h07.pix (HM6.out.below hb7) hne hml hmc hmx (by omega) hU Hu.out.u32 (by omega) (by omega) (by omega) (by omega) (by omega) (fun k hk => ⟨hfit1 k hk, hfit2 k hk⟩)
  have Hb07 := Lib.hid (Hb06.out.trans (hb7.mono Hb06.out.size))
  have H07 := Lib.hid h07
  clear r0 r1 r2 r3 e0 e1 e2 k0 k1 k2 hq hb7 h07
  go_wp2_with fail
  refine Calls.mono hlay ?_
  rintro e w8 ⟨rfl, hP8, ht8⟩
  have hl8 : (layL wd sx sy sw mw qx qy M L sh).length = L.length := layL_len0 hU Hu.out.u32 (fun k hk => ⟨hfit1 k hk, hfit2 k hk⟩)
  have Hfin := Lib.hid (show BufAt w8 B wd ht g (layL wd sx sy sw mw qx qy M L sh) from ⟨by rw [hl8]; exact (ht8.block B H07.out.lt hBg).trans H07.out.cells, hP8, by rw [hl8]; exact Hsz.out, hwd, hht, layL_U24 hU Hu.out sh (fun k hk => ⟨hfit1 k hk, hfit2 k hk⟩)⟩)
  have Htr := Lib.hid (show Turns (fun b => b = g) w w8 from (Turns.of_below' Hb07.out).trans ht8)
  clear hlay hP8 ht8
  go_wp2
  go_end0
  exact ⟨rfl, Hfin.out, Htr.out⟩

end Go.Proofs.Ytajoipmchgabfaa

/- The document's own Same, of two pictures: what it answers. -/
namespace Go.Proofs.Ytajoipmchgabfaa
open Go.RowKit

theorem eqL_len {l m : List Int} (h : l.length ≠ m.length) : eqL l m = false := by
  cases h1 : eqL l m with
  | false => rfl
  | true => exact absurd (congrArg List.length (eqL_iff.1 h1)) h

theorem Im3.new {w : World} {n : Nat} {wd ht : Int} {sv : Value} (h : n = w.heap.size) : Im3 (w.alloc (.cells #[.int .i64 wd, .int .i64 ht, sv] 24)) n wd ht sv := by
  subst h
  exact Array.getElem?_push_size

theorem RowAt.u32_at {w : World} {p : Option Addr} {l : List Int} (h : RowAt encU 1 w p l) {k : Nat} (hk : k < l.length) : ∃ b off, p = some ⟨b, off, none⟩ ∧ ∀ w', Below w.heap.size w w' → w'.cell? ⟨b, off + k, none⟩ = some (.int .u32 l[k]) := by
  rcases h with ⟨_, rfl⟩ | ⟨b, off, rfl, hb, hc⟩
  · simp at hk
  · refine ⟨b, off, rfl, fun w' hbw => ?_⟩
    have h1 := hc k l[k] (List.getElem?_eq_getElem hk) 0 (.int .u32 l[k]) rfl
    exact cell_later hbw (by simpa using h1)

set_option maxHeartbeats 1000000 in
theorem refSame_any (wd ht wd' ht' : Int) (p p' : Option Addr) (c c' : Nat) (L M : List Int) (w : World) (hL : RowAt encU 1 w p L) (hM : RowAt encU 1 w p' M) (hl : L.length ≤ 1048576) :
    Makes Try.prog 9 #[IV wd ht (.slice p L.length c), IV wd' ht' (.slice p' M.length c')] w (.bool (decide (wd = wd') && (decide (ht = ht') && eqL L M))) := by
  unfold Makes
  by_cases h1 : wd = wd'
  · by_cases h2 : ht = ht'
    · by_cases h3 : L.length = M.length
      · have b1 : (wd != wd') = false := by simp [h1]
        have b2 : (ht != ht') = false := by simp [h2]
        have b3 : ((L.length : Int) != (M.length : Int)) = false := by simp [h3]
        have hv : (decide (wd = wd') && (decide (ht = ht') && eqL L M)) = eqL L M := by simp [h1, h2]
        rw [hv]
        have H3 := Lib.hid h3
        have HL := Lib.hid hL
        have HM := Lib.hid hM
        clear h1 h2 h3 hv hL hM
        go_enter Try.func9, Try.ntmps9
        go_wp2
        obtain ⟨W0, hW0⟩ : ∃ W0, (w.alloc (.cells #[.int .i64 wd, .int .i64 ht, .slice p L.length c] 24)).alloc (.cells #[.int .i64 wd', .int .i64 ht', .slice p' M.length c'] 24) = W0 := ⟨_, rfl⟩
        have i1 : Im3 W0 w.heap.size wd ht (.slice p L.length c) := by rw [← hW0]; exact Im3.later (Im3.new rfl) (Below.al1 _ _)
        have i2 : Im3 W0 (w.heap.size + 1) wd' ht' (.slice p' M.length c') := by rw [← hW0]; exact Im3.new (by simp)
        have hb0 : Below w.heap.size w W0 := by rw [← hW0]; exact Below.al2 _ _ _
        rw [hW0]
        clear hW0
        have I1 := Lib.hid i1
        have I2 := Lib.hid i2
        have Hb0 := Lib.hid hb0
        clear i1 i2 hb0
        go_loopw [5] (fun i wr => ∃ k : Nat, k ≤ L.length ∧ i = .int .i64 k ∧ Below W0.heap.size W0 wr ∧ Hid (eqL L M = eqL (L.drop k) (M.drop k))) (fun i _ => L.length - (intOf i).toNat)
        case atStart => exact ⟨0, by omega, rfl, Below.refl _ _, Lib.hid rfl⟩
        case round =>
          obtain ⟨k, hk, rfl, hb, he⟩ := hrel
          obtain ⟨-, -, e1⟩ := (I1.out.later hb).cells
          obtain ⟨-, -, e2⟩ := (I2.out.later hb).cells
          by_cases hlt : k < L.length
          · have hlt2 : k < M.length := by rw [← H3.out]; exact hlt
            obtain ⟨g1, o1, rfl, f1⟩ := HL.out.u32_at hlt
            obtain ⟨g2, o2, rfl, f2⟩ := HM.out.u32_at hlt2
            have c0 := f1 wr (Hb0.out.trans (hb.mono Hb0.out.size))
            have c1 := f2 wr (Hb0.out.trans (hb.mono Hb0.out.size))
            have Hat := Lib.hid (eqL_at hlt hlt2)
            clear f1 f2
            generalize L[k] = a at *
            generalize M[k] = b at *
            go_wp2
            by_cases hab : a = b
            · have hab' : ((a : Int) != b) = false := by simp [hab]
              have Hn := Lib.hid (show eqL L M = eqL (L.drop (k + 1)) (M.drop (k + 1)) by rw [he.out, Hat.out]; simp [hab])
              clear hab
              go_quiet (fail)
              go_wp2
              go_roundw
              case rel => exact ⟨k + 1, by omega, by go_num, Below.drewN' hb _, Hn⟩
              case measure => simp [intOf]; omega
            · have hab' : ((a : Int) != b) = true := by simpa using hab
              have Hn := Lib.hid (show eqL L M = false by rw [he.out, Hat.out]; simp [hab])
              clear hab
              go_quiet (fail)
              go_wp2
              go_ret
              exact ⟨ret_bool Hn.out.symm, Below.drewN' (Hb0.out.trans (hb.mono Hb0.out.size)) _⟩
          · have Hn := Lib.hid (show eqL L M = true by
              rw [he.out, List.drop_eq_nil_of_le (by omega), List.drop_eq_nil_of_le (by have := H3.out; omega)]; rfl)
            go_wp2
            go_ret
            exact ⟨ret_bool Hn.out.symm, Hb0.out.trans (hb.mono Hb0.out.size)⟩
      · have b1 : (wd != wd') = false := by simp [h1]
        have b2 : (ht != ht') = false := by simp [h2]
        have b3 : ((L.length : Int) != (M.length : Int)) = true := by simp; omega
        have hv : (decide (wd = wd') && (decide (ht = ht') && eqL L M)) = false := by rw [eqL_len h3]; simp
        rw [hv]
        clear h1 h2 h3 hv
        go_enter Try.func9, Try.ntmps9
        go_wp2
        go_ret
        exact ⟨rfl, Below.al2 _ _ _⟩
    · have b1 : (wd != wd') = false := by simp [h1]
      have b2 : (ht != ht') = true := by simpa using h2
      have hv : (decide (wd = wd') && (decide (ht = ht') && eqL L M)) = false := by simp [h2]
      rw [hv]
      clear h1 h2 hv
      go_enter Try.func9, Try.ntmps9
      go_wp2
      go_ret
      exact ⟨rfl, Below.al2 _ _ _⟩
  · have b1 : (wd != wd') = true := by simpa using h1
    have hv : (decide (wd = wd') && (decide (ht = ht') && eqL L M)) = false := by simp [h1]
    rw [hv]
    clear h1 hv
    go_enter Try.func9, Try.ntmps9
    go_wp2
    go_ret
    exact ⟨rfl, Below.al2 _ _ _⟩

end Go.Proofs.Ytajoipmchgabfaa
