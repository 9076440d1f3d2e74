/- pixbuf's cutOut: the picture of a part, in memory of its own. -/
import Derived.Test.YtiamooijflaggaaPixD
import Derived.Test.YtiamooijflaggaaHead
namespace Go.Proofs.Ytiamooijflaggaa
open Go.RowKit

/-- Block B is a picture's three cells. -/
def Im3 (w : World) (B : Nat) (wd ht : Int) (sv : Value) : Prop := w.heap[B]? = some (.cells #[.int .i64 wd, .int .i64 ht, sv] 39)

theorem Im3.lt {w : World} {B : Nat} {wd ht : Int} {sv : Value} (h : Im3 w B wd ht sv) : B < w.heap.size := (Array.getElem?_eq_some_iff.1 h).1
theorem Im3.cells {w : World} {B : Nat} {wd ht : Int} {sv : Value} (h : Im3 w B wd ht sv) : w.cell? ⟨B, 0, none⟩ = some (.int .i64 wd) ∧ w.cell? ⟨B, 1, none⟩ = some (.int .i64 ht) ∧ w.cell? ⟨B, 2, none⟩ = some sv := by
  unfold Im3 at h
  refine ⟨?_, ?_, ?_⟩ <;> simp [World.cell?, h]
theorem Im3.free {w : World} {B : Nat} {wd ht : Int} {sv : Value} (h : Im3 w B wd ht sv) (i : Nat) : w.frozen? ⟨B, i, none⟩ = false := by
  unfold Im3 at h
  simp [World.frozen?, h]
theorem Im3.same {w w1 : World} {B : Nat} {wd ht : Int} {sv : Value} (h : Im3 w B wd ht sv) (hs : w1.heap[B]? = w.heap[B]?) : Im3 w1 B wd ht sv := hs.trans h
theorem Im3.later {w w1 : World} {B : Nat} {wd ht : Int} {sv : Value} (h : Im3 w B wd ht sv) (hb : Below w.heap.size w w1) : Im3 w1 B wd ht sv := h.same (hb.block B h.lt)
theorem Im3.set {w : World} {B : Nat} {wd ht : Int} {sv : Value} (h : Im3 w B wd ht sv) (wd' ht' : Int) (sv' : Value) : Im3 (((w.setCell ⟨B, 0, none⟩ (.int .i64 wd')).setCell ⟨B, 1, none⟩ (.int .i64 ht')).setCell ⟨B, 2, none⟩ sv') B wd' ht' sv' := by
  have one : ∀ (W : World) (i : Nat) (l : Array Value) (u : Value), W.heap[B]? = some (.cells l 39) → (W.setCell ⟨B, i, none⟩ u).heap[B]? = some (.cells (l.setIfInBounds i u) 39) := by
    intro W i l u h
    obtain ⟨hlt, hk⟩ := Array.getElem?_eq_some_iff.1 h
    show (W.heap.modify B _)[B]? = _
    rw [Array.getElem?_eq_getElem (by rw [Array.size_modify]; exact hlt), Array.getElem_modify_self, hk]
    rfl
  have := one _ 2 _ sv' (one _ 1 _ (.int .i64 ht') (one _ 0 _ (.int .i64 wd') h))
  unfold Im3
  simpa using this
theorem below_set3 {w : World} {B : Nat} (wd' ht' : Int) (sv' : Value) : Below B w (((w.setCell ⟨B, 0, none⟩ (.int .i64 wd')).setCell ⟨B, 1, none⟩ (.int .i64 ht')).setCell ⟨B, 2, none⟩ sv') := by
  refine Below.setCell ?_ (Nat.le_refl B) _
  refine Below.setCell ?_ (Nat.le_refl B) _
  refine Below.setCell ?_ (Nat.le_refl B) _
  exact Below.refl _ _

/-- The numbers of a part of a picture, cut to 24 bits. -/
def cutL (fw px py aw ah : Nat) (S : List Int) : List Int := layL aw 0 0 aw fw px py S (List.replicate (aw * ah) 0) ah

set_option maxRecDepth 100000 in
set_option maxHeartbeats 2000000 in
theorem cutOut_any (fw fh px py aw ah fb foff fn fcap : Nat) (S : List Int) (w : World) (hSr : RowAt encU 1 w (some ⟨fb, foff, none⟩) S) (hSl : S.length = fn) (hcap : fn ≤ fcap) (hmax : fcap ≤ 9223372036854775807) (hS : U32 S)
    (hw2 : fw ≤ 1048576) (hy2 : py + ah ≤ 1048576) (ha : 0 < aw) (ha2 : aw ≤ 1024) (hh2 : ah ≤ 1024) (hfit : ∀ k, k < ah → (py + k) * fw + px + aw ≤ S.length) :
    Calls Try.prog 83 #[IV fw fh (.slice (some ⟨fb, foff, none⟩) fn fcap), RV ⟨px, py, aw, ah⟩] w fun e w' =>
      ∃ g, e = .returned (IV aw ah (.slice (some ⟨g, 0, none⟩) (aw * ah) (aw * ah))) ∧ w.heap.size ≤ g ∧ Pix w' g (cutL fw px py aw ah S) ∧ Below w.heap.size w w' := by
  obtain ⟨n, hn⟩ : ∃ n, aw * ah = n := ⟨_, rfl⟩
  have hnm : n ≤ 1048576 := by rw [← hn]; exact Nat.mul_le_mul ha2 hh2
  have Hfit := Lib.hid hfit
  have HSr := Lib.hid hSr
  clear hfit hSr
  rw [hn]
  go_enter Try.func83, Try.ntmps83
  go_wp2_with fail
  refine Calls.mono (blank_any aw ah n _ hn hnm) ?_
  rintro e w1 ⟨g, rfl, hg1, hP1, hb1⟩
  have hg := heap_pushed [.cells #[.int .i64 (fw : Int), .int .i64 (fh : Int), .slice (some ⟨fb, foff, none⟩) fn fcap] 39, .cells #[.int .i64 (px : Int), .int .i64 (py : Int), .int .i64 (aw : Int), .int .i64 (ah : Int)] 30, .cells #[.int .i64 0, .int .i64 0, .slice none 0 0] 39] w
  simp only [List.foldl_cons, List.foldl_nil] at hg
  have hB3 := Below.al3 w (.cells #[.int .i64 (fw : Int), .int .i64 (fh : Int), .slice (some ⟨fb, foff, none⟩) fn fcap] 39) (.cells #[.int .i64 (px : Int), .int .i64 (py : Int), .int .i64 (aw : Int), .int .i64 (ah : Int)] 30) (.cells #[.int .i64 0, .int .i64 0, .slice none 0 0] 39)
  have hsz : (((w.alloc (.cells #[.int .i64 (fw : Int), .int .i64 (fh : Int), .slice (some ⟨fb, foff, none⟩) fn fcap] 39)).alloc (.cells #[.int .i64 (px : Int), .int .i64 (py : Int), .int .i64 (aw : Int), .int .i64 (ah : Int)] 30)).alloc (.cells #[.int .i64 0, .int .i64 0, .slice none 0 0] 39)).heap.size = w.heap.size + 3 := by simp
  generalize (((w.alloc (.cells #[.int .i64 (fw : Int), .int .i64 (fh : Int), .slice (some ⟨fb, foff, none⟩) fn fcap] 39)).alloc (.cells #[.int .i64 (px : Int), .int .i64 (py : Int), .int .i64 (aw : Int), .int .i64 (ah : Int)] 30)).alloc (.cells #[.int .i64 0, .int .i64 0, .slice none 0 0] 39)) = W0 at *
  have bm0 : Im3 W0 w.heap.size fw fh (.slice (some ⟨fb, foff, none⟩) fn fcap) := (hg 0 _).2 rfl
  have bp0 : W0.heap[w.heap.size + 1]? = some (.cells #[.int .i64 (px : Int), .int .i64 (py : Int), .int .i64 (aw : Int), .int .i64 (ah : Int)] 30) := (hg 1 _).2 rfl
  have br0 : Im3 W0 (w.heap.size + 1 + 1) 0 0 (.slice none 0 0) := (hg 2 _).2 rfl
  have hal := Below.al1 w1 (.cells #[.int .i64 (aw : Int), .int .i64 (ah : Int), .slice (some ⟨g, 0, none⟩) n n] 39)
  have hbW := Below.thn hb1 hal
  have HB := Lib.hid (hB3.trans (hbW.mono hB3.size))
  have b5 : Im3 (w1.alloc (.cells #[.int .i64 (aw : Int), .int .i64 (ah : Int), .slice (some ⟨g, 0, none⟩) n n] 39)) w1.heap.size aw ah (.slice (some ⟨g, 0, none⟩) n n) := World.alloc_heap_new _ _
  have bm := bm0.later hbW
  have bp := (hbW.block _ (by omega)).trans bp0
  have br := br0.later hbW
  have HP := Lib.hid (hP1.later hal)
  have hg3 : w.heap.size + 3 ≤ g := by omega
  have hg5 : g < w1.heap.size := hP1.lt
  have h15 : w.heap.size + 3 ≤ w1.heap.size := by have := hb1.size; omega
  clear hg hb1 hal hbW bm0 bp0 br0 hP1 hg1 hB3 hsz
  go_upto_region 2 with (fail)
  generalize (w1.alloc (.cells #[.int .i64 (aw : Int), .int .i64 (ah : Int), .slice (some ⟨g, 0, none⟩) n n] 39)) = W at *
  have hne := After.ne W
  have Hbm := Lib.hid bm
  have Hbp := Lib.hid bp
  have Hbr := Lib.hid br
  have Hb5 := Lib.hid b5
  have hWsz : w1.heap.size < W.heap.size := b5.lt
  have k0 := After.rule bm.cells.1
  have k1 := After.rule bm.cells.2.1
  have k2 := After.rule bm.cells.2.2
  have k3 := After.rule b5.cells.1
  have k4 := After.rule b5.cells.2.1
  have k5 := After.rule b5.cells.2.2
  have q0 : W.cell? ⟨w.heap.size + 1, 0, none⟩ = some (.int .i64 (px : Nat)) := by simp [World.cell?, bp]
  have q1 : W.cell? ⟨w.heap.size + 1, 1, none⟩ = some (.int .i64 (py : Nat)) := by simp [World.cell?, bp]
  have q2 : W.cell? ⟨w.heap.size + 1, 2, none⟩ = some (.int .i64 (aw : Nat)) := by simp [World.cell?, bp]
  have q3 : W.cell? ⟨w.heap.size + 1, 3, none⟩ = some (.int .i64 (ah : Nat)) := by simp [World.cell?, bp]
  have k6 := After.rule q0
  have k7 := After.rule q1
  have k8 := After.rule q2
  have k9 := After.rule q3
  clear bm bp br b5 q0 q1 q2 q3
  refine wp_region_head 5 (by kernel_rfl) (by kernel_rfl) (by kernel_rfl) ?_
  repeat (refine Lq_step (fun K hK => ?_); go_simp; first | (refine hK _ ?_; clear hK K) | (apply Exists.intro; refine ⟨fun n => ?_, hK _ ?_⟩; (go_at_call 84; exact whole_any _ _ _ _); clear hK K))
  refine Lq_nil ?_
  intro w2 hb2
  clear k0 k1 k2 k3 k4 k5 k6 k7 k8 k9 hne
  have hP2 := HP.out.later hb2
  have HB2 := Lib.hid (HB.out.trans (hb2.mono HB.out.size))
  have hlen : (List.replicate n (0 : Int)).length = n := List.length_replicate
  have hlay := lay_any aw ah 0 0 aw ah fw fh px py g fb foff fn fcap S (List.replicate n 0) w2 hP2 (HSr.out.below HB2.out) (by
    rcases HSr.out with ⟨h, _⟩ | ⟨b, off, h, h3, _⟩
    · cases h
    · cases h; omega) hSl hcap hmax (by omega) hS (fun v hv => by rw [List.mem_replicate] at hv; omega) (by omega) hw2 (by omega) hy2 ha (fun k hk => ⟨by
      rw [hlen, ← hn, Nat.zero_add, Nat.add_zero]
      have : (k + 1) * aw ≤ ah * aw := Nat.mul_le_mul_right aw (by omega)
      rw [Nat.add_mul, Nat.one_mul, Nat.mul_comm ah aw] at this
      exact this, Hfit.out k hk⟩)
  rw [hlen, show ((0 : Nat) : Int) = 0 from rfl] at hlay
  go_wp2_with fail
  refine Calls.mono hlay ?_
  rintro e w3 ⟨rfl, hP3, ht3⟩
  have b53 := (Hb5.out.later hb2).same (ht3.block _ (Hb5.out.later hb2).lt (by omega))
  have br3 := (Hbr.out.later hb2).same (ht3.block _ (Hbr.out.later hb2).lt (by omega))
  obtain ⟨c0, c1, c2⟩ := b53.cells
  obtain ⟨d0, d1, d2⟩ := br3.cells
  have f0 := br3.free 0
  have f1 := br3.free 1
  have f2 := br3.free 2
  have Hres := Lib.hid (br3.set aw ah (.slice (some ⟨g, 0, none⟩) n n))
  have Hbel := Lib.hid (HB2.out.trans (ht3.below (B := w.heap.size) HB2.out.size (fun i hi => by omega)))
  have HP3 := Lib.hid hP3
  have hgn : g ≠ w.heap.size + 1 + 1 := by omega
  clear hlay hP2 hP3 ht3 b53 br3 hb2
  go_wp2
  refine bodyPost_ret (v := IV aw ah (.slice (some ⟨g, 0, none⟩) n n)) (results_iv (B := w.heap.size + 1 + 1) Try.results83 rfl Hres.out) rfl ⟨g, rfl, by omega, ?_, Hbel.out.trans ((below_set3 _ _ _).mono (by omega))⟩
  rw [cutL, hn]
  exact HP3.out.same (((Below.heap_setCell _ _ _ _ (fun e => hgn e)).trans (Below.heap_setCell _ _ _ _ (fun e => hgn e))).trans (Below.heap_setCell _ _ _ _ (fun e => hgn e)))

end Go.Proofs.Ytiamooijflaggaa
