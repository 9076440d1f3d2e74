/- pixbuf's W, H, From, Image, Clone. -/
import Derived.Test.YtiamooijflaggaaPixF
namespace Go.Proofs.Ytiamooijflaggaa
open Go.RowKit

set_option maxHeartbeats 400000 in
theorem bufW_any (B wd ht g : Nat) (L : List Int) (w : World) (h : BufAt w B wd ht g L) : Makes Try.prog 34 #[.pointer (some ⟨B, 0, none⟩)] w (.int .i64 (wd : Int)) := by
  unfold Makes
  obtain ⟨c0, c1, c2⟩ := h.three
  go_enter Try.func34, Try.ntmps34
  go_wp2
  go_ret
  exact ⟨rfl, Below.refl _ _⟩

set_option maxHeartbeats 400000 in
theorem bufH_any (B wd ht g : Nat) (L : List Int) (w : World) (h : BufAt w B wd ht g L) : Makes Try.prog 35 #[.pointer (some ⟨B, 0, none⟩)] w (.int .i64 (ht : Int)) := by
  unfold Makes
  obtain ⟨c0, c1, c2⟩ := h.three
  go_enter Try.func35, Try.ntmps35
  go_wp2
  go_ret
  exact ⟨rfl, Below.refl _ _⟩

set_option maxHeartbeats 1000000 in
theorem from_no (wd ht : Int) (p : Option Addr) (n c : Nat) (w : World) (hb : pictB wd ht n = false) : Makes Try.prog 31 #[IV wd ht (.slice p n c)] w (.tuple #[.pointer none, .int .i64 1]) := by
  unfold Makes
  go_enter Try.func31, Try.ntmps31
  go_wp2_with fail
  refine Calls.mono (isPicture_any wd ht p n c _) ?_
  rw [hb]
  rintro e w1 ⟨rfl, hb1⟩
  go_wp2
  go_ret2
  exact ⟨rfl, Below.thn (Below.al1 _ _) hb1⟩

set_option maxHeartbeats 2000000 in
theorem from_yes (wd ht fb foff n c : Nat) (S : List Int) (w : World) (hSr : RowAt encU 1 w (some ⟨fb, foff, none⟩) S) (hSl : S.length = n) (hcap : n ≤ c) (hmax : c ≤ 9223372036854775807) (hS : U32 S) (h1 : 1 ≤ wd ∧ wd ≤ 256) (h2 : 1 ≤ ht ∧ ht ≤ 256) (hn : wd * ht = n) :
    Calls Try.prog 31 #[IV wd ht (.slice (some ⟨fb, foff, none⟩) n c)] w fun e w' => ∃ B g, e = .returned (.tuple #[.pointer (some ⟨B, 0, none⟩), .int .i64 0]) ∧ BufAt w' B wd ht g (cutL wd 0 0 wd ht S) ∧ w.heap.size ≤ B ∧ w.heap.size ≤ g ∧ B ≠ g ∧ Below w.heap.size w w' := by
  have hp : pictB wd ht n = true := by
    have : ((n : Nat) : Int) = (wd : Int) * (ht : Int) := by rw [← hn, Int.natCast_mul]
    simp [pictB, sizedB, this]; omega
  have hfit : ∀ k, k < ht → (0 + k) * wd + 0 + wd ≤ S.length := fun k hk => by
    rw [hSl, ← hn, Nat.zero_add, Nat.add_zero]
    have : (k + 1) * wd ≤ ht * wd := Nat.mul_le_mul_right wd (by omega)
    rw [Nat.add_mul, Nat.one_mul, Nat.mul_comm ht wd] at this
    exact this
  obtain ⟨k1, k2⟩ := cutL_ok hS hfit
  have Hs := Lib.hid hSr
  have Hfit := Lib.hid hfit
  have Hk1 := Lib.hid k1
  have Hk2 := Lib.hid k2
  clear hfit k1 k2 hSr
  go_enter Try.func31, Try.ntmps31
  go_wp2_with fail
  refine Calls.mono (isPicture_any wd ht _ n c _) ?_
  rw [hp]
  rintro e w1 ⟨rfl, hb1⟩
  have hbw := Below.thn (Below.al1 w (.cells #[.int .i64 (wd : Int), .int .i64 (ht : Int), .slice (some ⟨fb, foff, none⟩) n c] 39)) hb1
  have bm : Im3 w1 w.heap.size wd ht (.slice (some ⟨fb, foff, none⟩) n c) := Im3.later (World.alloc_heap_new w _) hb1
  have Hbw := Lib.hid hbw
  clear hb1 hbw
  go_upto_region 3 with (fail)
  have hne := After.ne w1
  have k0 := After.rule bm.cells.1
  have k1 := After.rule bm.cells.2.1
  have k2 := After.rule bm.cells.2.2
  refine wp_region_head 3 (by kernel_rfl) (by kernel_rfl) (by kernel_rfl) ?_
  repeat (refine Lq_step (fun K hK => ?_); go_simp; first | (refine hK _ ?_; clear hK K) | (apply Exists.intro; refine ⟨fun n => ?_, hK _ ?_⟩; (go_at_call 84; exact whole_any _ _ _ _); clear hK K))
  refine Lq_nil ?_
  intro w2 hb2
  clear k0 k1 k2 hne bm
  have hb02 := Hbw.out.trans (hb2.mono Hbw.out.size)
  have hco := cutOut_any wd ht 0 0 wd ht fb foff n c S w2 (Hs.out.below hb02) hSl hcap hmax hS (by omega) (by omega) (by omega) (by omega) (by omega) Hfit.out
  rw [show ((0 : Nat) : Int) = 0 from rfl] at hco
  have Hb02 := Lib.hid hb02
  clear hb2 hb02
  go_wp2_with fail
  refine Calls.mono hco ?_
  rintro e w3 ⟨g, rfl, hg, hP, hb3⟩
  have hb03 := Hb02.out.trans (hb3.mono Hb02.out.size)
  have hsz2 := Hb02.out.size
  have hg3 : g < w3.heap.size := hP.lt
  have HP := Lib.hid hP
  have Hb03 := Lib.hid hb03
  clear hco hP hb3 hb03
  go_wp2
  go_ret2
  have hal := Below.al1 w3 (.cells #[.int .i64 (wd : Int), .int .i64 (ht : Int), .slice (some ⟨g, 0, none⟩) n n] 102)
  have hcl : (cutL wd 0 0 wd ht S).length = n := Hk1.out.trans hn
  refine ⟨w3.heap.size, g, rfl, ⟨?_, HP.out.later hal, hn.trans hcl.symm, h1, h2, Hk2.out⟩, by have := Hb03.out.size; omega, by omega, by omega, Hb03.out.trans (hal.mono Hb03.out.size)⟩
  rw [hcl]
  exact World.alloc_heap_new _ _


/-- The facts of a buffer's part. -/
theorem BufAt.fit {w : World} {B wd ht g : Nat} {L : List Int} (h : BufAt w B wd ht g L) {px py aw ah : Nat} (h1 : px + aw ≤ wd) (h2 : py + ah ≤ ht) : ∀ k, k < ah → (py + k) * wd + px + aw ≤ L.length := fun k hk => by
  rw [← h.size]
  have : (py + k + 1) * wd ≤ ht * wd := Nat.mul_le_mul_right wd (by omega)
  rw [Nat.add_mul (py + k), Nat.one_mul, Nat.mul_comm ht wd] at this
  omega

set_option maxHeartbeats 2000000 in
theorem image_any (B wd ht g : Nat) (L : List Int) (w : World) (h : BufAt w B wd ht g L) :
    Calls Try.prog 48 #[.pointer (some ⟨B, 0, none⟩)] w fun e w' => ∃ g', e = .returned (IV wd ht (.slice (some ⟨g', 0, none⟩) L.length L.length)) ∧ w.heap.size ≤ g' ∧ Pix w' g' L ∧ Below w.heap.size w w' := by
  have Hb := Lib.hid h
  have hfit := h.fit (px := 0) (py := 0) (aw := wd) (ah := ht) (by omega) (by omega)
  have hL := h.len
  have hal := Below.al1 w (.cells #[.int .i64 0, .int .i64 0, .slice none 0 0] 39)
  have h0 := h.later hal
  obtain ⟨c0, c1, c2⟩ := h0.three
  have br : Im3 (w.alloc (.cells #[.int .i64 0, .int .i64 0, .slice none 0 0] 39)) w.heap.size 0 0 (.slice none 0 0) := World.alloc_heap_new _ _
  have Hal := Lib.hid hal
  have Hbr := Lib.hid br
  have H0 := Lib.hid h0
  have hs1 := h.size
  obtain ⟨hw1, hw2⟩ := h.wd1
  obtain ⟨hh1, hh2⟩ := h.ht1
  have hu := Lib.hid h.u
  clear h h0 hal br
  go_enter Try.func48, Try.ntmps48
  go_upto_region 3 with (fail)
  generalize (w.alloc (.cells #[.int .i64 0, .int .i64 0, .slice none 0 0] 39)) = W at *
  have hne := After.ne W
  have k0 := After.rule c0
  have k1 := After.rule c1
  have k2 := After.rule c2
  clear c0 c1 c2
  refine wp_region_head 9 (by kernel_rfl) (by kernel_rfl) (by kernel_rfl) ?_
  repeat (refine Lq_step (fun K hK => ?_); go_simp; first | (refine hK _ ?_; clear hK K) | (apply Exists.intro; refine ⟨fun n => ?_, hK _ ?_⟩; (go_at_call 84; exact whole_any _ _ _ _); clear hK K))
  refine Lq_nil ?_
  intro w2 hb2
  clear k0 k1 k2 hne
  have h2 := H0.out.later hb2
  have hco := cutOut_any wd ht 0 0 wd ht g 0 L.length L.length L w2 h2.pix.row rfl (Nat.le_refl _) (by omega) hu.out.u32 (by omega) (by omega) (by omega) (by omega) (by omega) hfit
  rw [show ((0 : Nat) : Int) = 0 from rfl, cutL_whole hu.out hs1, hs1] at hco
  have Hb02 := Lib.hid (Hal.out.trans (hb2.mono Hal.out.size))
  have Hbr2 := Lib.hid (Hbr.out.later hb2)
  clear hb2 h2
  go_wp2_with fail
  refine Calls.mono hco ?_
  rintro e w3 ⟨g', rfl, hg, hP, hb3⟩
  have br3 := Hbr2.out.later hb3
  have hlt3 := Hbr2.out.lt
  obtain ⟨d0, d1, d2⟩ := br3.cells
  have f0 := br3.free 0
  have f1 := br3.free 1
  have f2 := br3.free 2
  have Hres := Lib.hid (br3.set wd ht (.slice (some ⟨g', 0, none⟩) L.length L.length))
  have HP := Lib.hid hP
  have Hbel := Lib.hid (Hb02.out.trans (hb3.mono Hb02.out.size))
  have hgn : g' ≠ w.heap.size := by omega
  have hgs := Hb02.out.size
  clear hco hP hb3 br3
  go_wp2
  refine bodyPost_ret (v := IV wd ht (.slice (some ⟨g', 0, none⟩) L.length L.length)) (results_iv (B := w.heap.size) Try.results48 rfl Hres.out) rfl ⟨g', rfl, by omega, ?_, Hbel.out.trans ((below_set3 _ _ _).mono (Nat.le_refl _))⟩
  exact HP.out.same (((Below.heap_setCell _ _ _ _ (fun e => hgn e)).trans (Below.heap_setCell _ _ _ _ (fun e => hgn e))).trans (Below.heap_setCell _ _ _ _ (fun e => hgn e)))

set_option maxHeartbeats 1000000 in
theorem clone_any (B wd ht g : Nat) (L : List Int) (w : World) (h : BufAt w B wd ht g L) :
    Calls Try.prog 55 #[.pointer (some ⟨B, 0, none⟩)] w fun e w' => ∃ B' g', e = .returned (.pointer (some ⟨B', 0, none⟩)) ∧ BufAt w' B' wd ht g' L ∧ w.heap.size ≤ B' ∧ w.heap.size ≤ g' ∧ B' ≠ g' ∧ Below w.heap.size w w' := by
  have h1 := h.size
  have h2 := h.wd1
  have h3 := h.ht1
  have h4 := Lib.hid h.u
  go_enter Try.func55, Try.ntmps55
  go_wp2_with fail
  refine Calls.mono (image_any B wd ht g L _ h) ?_
  rintro e w1 ⟨g', rfl, hg, hP, hb1⟩
  have hlt : g' < w1.heap.size := hP.lt
  have hsz := hb1.size
  have HP := Lib.hid hP
  have Hb1 := Lib.hid hb1
  clear hP hb1
  go_wp2
  go_ret
  have hal := Below.al1 w1 (.cells #[.int .i64 (wd : Int), .int .i64 (ht : Int), .slice (some ⟨g', 0, none⟩) L.length L.length] 102)
  exact ⟨w1.heap.size, g', rfl, ⟨World.alloc_heap_new _ _, HP.out.later hal, h1, h2, h3, h4.out⟩, by omega, by omega, by omega, Hb1.out.trans (hal.mono hsz)⟩

end Go.Proofs.Ytiamooijflaggaa
