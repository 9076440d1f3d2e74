/- Several texts in one, each with its own head. -/
import Derived.Test.YtajoipmchgabfaaM42
import Derived.Test.YtajoipmchgabfaaM29
import Derived.Test.YtajoipmchgabfaaM21
/- pixbuf's cutOut: the picture of a part, in memory of its own. -/
namespace Go.Proofs.Ytajoipmchgabfaa
open Go.RowKit

/-- Block B is a picture's three cells. -/
def Im3 (w : World) (B : Nat) (wd ht : Int) (sv : Value) : Prop := w.heap[B]? = some (.cells #[.int .i64 wd, .int .i64 ht, sv] 24)

theorem Im3.lt {w : World} {B : Nat} {wd ht : Int} {sv : Value} (h : Im3 w B wd ht sv) : B < w.heap.size := (Array.getElem?_eq_some_iff.1 h).1
theorem Im3.cells {w : World} {B : Nat} {wd ht : Int} {sv : Value} (h : Im3 w B wd ht sv) : w.cell? ⟨B, 0, none⟩ = some (.int .i64 wd) ∧ w.cell? ⟨B, 1, none⟩ = some (.int .i64 ht) ∧ w.cell? ⟨B, 2, none⟩ = some sv := by
  unfold Im3 at h
  refine ⟨?_, ?_, ?_⟩ <;> simp [World.cell?, h]
theorem Im3.free {w : World} {B : Nat} {wd ht : Int} {sv : Value} (h : Im3 w B wd ht sv) (i : Nat) : w.frozen? ⟨B, i, none⟩ = false := by
  unfold Im3 at h
  simp [World.frozen?, h]
theorem Im3.same {w w1 : World} {B : Nat} {wd ht : Int} {sv : Value} (h : Im3 w B wd ht sv) (hs : w1.heap[B]? = w.heap[B]?) : Im3 w1 B wd ht sv := hs.trans h
theorem Im3.later {w w1 : World} {B : Nat} {wd ht : Int} {sv : Value} (h : Im3 w B wd ht sv) (hb : Below w.heap.size w w1) : Im3 w1 B wd ht sv := h.same (hb.block B h.lt)
theorem Im3.set {w : World} {B : Nat} {wd ht : Int} {sv : Value} (h : Im3 w B wd ht sv) (wd' ht' : Int) (sv' : Value) : Im3 (((w.setCell ⟨B, 0, none⟩ (.int .i64 wd')).setCell ⟨B, 1, none⟩ (.int .i64 ht')).setCell ⟨B, 2, none⟩ sv') B wd' ht' sv' := by
  have one : ∀ (W : World) (i : Nat) (l : Array Value) (u : Value), W.heap[B]? = some (.cells l 24) → (W.setCell ⟨B, i, none⟩ u).heap[B]? = some (.cells (l.setIfInBounds i u) 24) := by
    intro W i l u h
    obtain ⟨hlt, hk⟩ := Array.getElem?_eq_some_iff.1 h
    show (W.heap.modify B _)[B]? = _
    rw [Array.getElem?_eq_getElem (by rw [Array.size_modify]; exact hlt), Array.getElem_modify_self, hk]
    rfl
  have := one _ 2 _ sv' (one _ 1 _ (.int .i64 ht') (one _ 0 _ (.int .i64 wd') h))
  unfold Im3
  simpa using this
theorem below_set3 {w : World} {B : Nat} (wd' ht' : Int) (sv' : Value) : Below B w (((w.setCell ⟨B, 0, none⟩ (.int .i64 wd')).setCell ⟨B, 1, none⟩ (.int .i64 ht')).setCell ⟨B, 2, none⟩ sv') := by
  refine Below.setCell ?_ (Nat.le_refl B) _
  refine Below.setCell ?_ (Nat.le_refl B) _
  refine Below.setCell ?_ (Nat.le_refl B) _
  exact Below.refl _ _

/-- The numbers of a part of a picture, cut to 24 bits. -/
def cutL (fw px py aw ah : Nat) (S : List Int) : List Int := layL aw 0 0 aw fw px py S (List.replicate (aw * ah) 0) ah

set_option maxRecDepth 100000 in
set_option maxHeartbeats 2000000 in
theorem cutOut_any (fw fh px py aw ah fb foff fn fcap : Nat) (S : List Int) (w : World) (hSr : RowAt encU 1 w (some ⟨fb, foff, none⟩) S) (hSl : S.length = fn) (hcap : fn ≤ fcap) (hmax : fcap ≤ 9223372036854775807) (hS : U32 S)
    (hw2 : fw ≤ 1048576) (hy2 : py + ah ≤ 1048576) (ha : 0 < aw) (ha2 : aw ≤ 1024) (hh2 : ah ≤ 1024) (hfit : ∀ k, k < ah → (py + k) * fw + px + aw ≤ S.length) :
    Calls Try.prog 30 #[IV fw fh (.slice (some ⟨fb, foff, none⟩) fn fcap), RV ⟨px, py, aw, ah⟩] w fun e w' =>
      ∃ g, e = .returned (IV aw ah (.slice (some ⟨g, 0, none⟩) (aw * ah) (aw * ah))) ∧ w.heap.size ≤ g ∧ Pix w' g (cutL fw px py aw ah S) ∧ Below w.heap.size w w' := by
  obtain ⟨n, hn⟩ : ∃ n, aw * ah = n := ⟨_, rfl⟩
  have hnm : n ≤ 1048576 := by rw [← hn]; exact Nat.mul_le_mul ha2 hh2
  have Hfit := Lib.hid hfit
  have HSr := Lib.hid hSr
  clear hfit hSr
  rw [hn]
  go_enter Try.func30, Try.ntmps30
  go_wp2_with fail
  refine Calls.mono (blank_any aw ah n _ hn hnm) ?_
  rintro e w1 ⟨g, rfl, hg1, hP1, hb1⟩
  have hg := heap_pushed [.cells #[.int .i64 (fw : Int), .int .i64 (fh : Int), .slice (some ⟨fb, foff, none⟩) fn fcap] 24, .cells #[.int .i64 (px : Int), .int .i64 (py : Int), .int .i64 (aw : Int), .int .i64 (ah : Int)] 38, .cells #[.int .i64 0, .int .i64 0, .slice none 0 0] 24] w
  simp only [List.foldl_cons, List.foldl_nil] at hg
  have hB3 := Below.al3 w (.cells #[.int .i64 (fw : Int), .int .i64 (fh : Int), .slice (some ⟨fb, foff, none⟩) fn fcap] 24) (.cells #[.int .i64 (px : Int), .int .i64 (py : Int), .int .i64 (aw : Int), .int .i64 (ah : Int)] 38) (.cells #[.int .i64 0, .int .i64 0, .slice none 0 0] 24)
  have hsz : (((w.alloc (.cells #[.int .i64 (fw : Int), .int .i64 (fh : Int), .slice (some ⟨fb, foff, none⟩) fn fcap] 24)).alloc (.cells #[.int .i64 (px : Int), .int .i64 (py : Int), .int .i64 (aw : Int), .int .i64 (ah : Int)] 38)).alloc (.cells #[.int .i64 0, .int .i64 0, .slice none 0 0] 24)).heap.size = w.heap.size + 3 := by simp
  generalize (((w.alloc (.cells #[.int .i64 (fw : Int), .int .i64 (fh : Int), .slice (some ⟨fb, foff, none⟩) fn fcap] 24)).alloc (.cells #[.int .i64 (px : Int), .int .i64 (py : Int), .int .i64 (aw : Int), .int .i64 (ah : Int)] 38)).alloc (.cells #[.int .i64 0, .int .i64 0, .slice none 0 0] 24)) = W0 at *
  have bm0 : Im3 W0 w.heap.size fw fh (.slice (some ⟨fb, foff, none⟩) fn fcap) := (hg 0 _).2 rfl
  have bp0 : W0.heap[w.heap.size + 1]? = some (.cells #[.int .i64 (px : Int), .int .i64 (py : Int), .int .i64 (aw : Int), .int .i64 (ah : Int)] 38) := (hg 1 _).2 rfl
  have br0 : Im3 W0 (w.heap.size + 1 + 1) 0 0 (.slice none 0 0) := (hg 2 _).2 rfl
  have hal := Below.al1 w1 (.cells #[.int .i64 (aw : Int), .int .i64 (ah : Int), .slice (some ⟨g, 0, none⟩) n n] 24)
  have hbW := Below.thn hb1 hal
  have HB := Lib.hid (hB3.trans (hbW.mono hB3.size))
  have b5 : Im3 (w1.alloc (.cells #[.int .i64 (aw : Int), .int .i64 (ah : Int), .slice (some ⟨g, 0, none⟩) n n] 24)) w1.heap.size aw ah (.slice (some ⟨g, 0, none⟩) n n) := World.alloc_heap_new _ _
  have bm := bm0.later hbW
  have bp := (hbW.block _ (by omega)).trans bp0
  have br := br0.later hbW
  have HP := Lib.hid (hP1.later hal)
  have hg3 : w.heap.size + 3 ≤ g := by omega
  have hg5 : g < w1.heap.size := hP1.lt
  have h15 : w.heap.size + 3 ≤ w1.heap.size := by have := hb1.size; omega
  clear hg hb1 hal hbW bm0 bp0 br0 hP1 hg1 hB3 hsz
  go_upto_region 2 with (fail)
  generalize (w1.alloc (.cells #[.int .i64 (aw : Int), .int .i64 (ah : Int), .slice (some ⟨g, 0, none⟩) n n] 24)) = W at *
  have hne := After.ne W
  have Hbm := Lib.hid bm
  have Hbp := Lib.hid bp
  have Hbr := Lib.hid br
  have Hb5 := Lib.hid b5
  have hWsz : w1.heap.size < W.heap.size := b5.lt
  have k0 := After.rule bm.cells.1
  have k1 := After.rule bm.cells.2.1
  have k2 := After.rule bm.cells.2.2
  have k3 := After.rule b5.cells.1
  have k4 := After.rule b5.cells.2.1
  have k5 := After.rule b5.cells.2.2
  have q0 : W.cell? ⟨w.heap.size + 1, 0, none⟩ = some (.int .i64 (px : Nat)) := by simp [World.cell?, bp]
  have q1 : W.cell? ⟨w.heap.size + 1, 1, none⟩ = some (.int .i64 (py : Nat)) := by simp [World.cell?, bp]
  have q2 : W.cell? ⟨w.heap.size + 1, 2, none⟩ = some (.int .i64 (aw : Nat)) := by simp [World.cell?, bp]
  have q3 : W.cell? ⟨w.heap.size + 1, 3, none⟩ = some (.int .i64 (ah : Nat)) := by simp [World.cell?, bp]
  have k6 := After.rule q0
  have k7 := After.rule q1
  have k8 := After.rule q2
  have k9 := After.rule q3
  clear bm bp br b5 q0 q1 q2 q3
  refine wp_region_head 5 (by kernel_rfl) (by kernel_rfl) (by kernel_rfl) ?_
  repeat (refine Lq_step (fun K hK => ?_); go_simp; first | (refine hK _ ?_; clear hK K) | (apply Exists.intro; refine ⟨fun n => ?_, hK _ ?_⟩; (go_at_call 31; exact whole_any _ _ _ _); clear hK K))
  refine Lq_nil ?_
  intro w2 hb2
  clear k0 k1 k2 k3 k4 k5 k6 k7 k8 k9 hne
  have hP2 := HP.out.later hb2
  have HB2 := Lib.hid (HB.out.trans (hb2.mono HB.out.size))
  have hlen : (List.replicate n (0 : Int)).length = n := List.length_replicate
  have hlay := lay_any aw ah 0 0 aw ah fw fh px py g fb foff fn fcap S (List.replicate n 0) w2 hP2 (HSr.out.below HB2.out) (by
    rcases HSr.out with ⟨h, _⟩ | ⟨b, off, h, h3, _⟩
    · cases h
    · cases h; omega) hSl hcap hmax (by omega) hS (fun v hv => by rw [List.mem_replicate] at hv; omega) (by omega) hw2 (by omega) hy2 ha (fun k hk => ⟨by
      rw [hlen, ← hn, Nat.zero_add, Nat.add_zero]
      have : (k + 1) * aw ≤ ah * aw := Nat.mul_le_mul_right aw (by omega)
      rw [Nat.add_mul, Nat.one_mul, Nat.mul_comm ah aw] at this
      exact this, Hfit.out k hk⟩)
  rw [hlen, show ((0 : Nat) : Int) = 0 from rfl] at hlay
  go_wp2_with fail
  refine Calls.mono hlay ?_
  rintro e w3 ⟨rfl, hP3, ht3⟩
  have b53 := (Hb5.out.later hb2).same (ht3.block _ (Hb5.out.later hb2).lt (by omega))
  have br3 := (Hbr.out.later hb2).same (ht3.block _ (Hbr.out.later hb2).lt (by omega))
  obtain ⟨c0, c1, c2⟩ := b53.cells
  obtain ⟨d0, d1, d2⟩ := br3.cells
  have f0 := br3.free 0
  have f1 := br3.free 1
  have f2 := br3.free 2
  have Hres := Lib.hid (br3.set aw ah (.slice (some ⟨g, 0, none⟩) n n))
  have Hbel := Lib.hid (HB2.out.trans (ht3.below (B := w.heap.size) HB2.out.size (fun i hi => by omega)))
  have HP3 := Lib.hid hP3
  have hgn : g ≠ w.heap.size + 1 + 1 := by omega
  clear hlay hP2 hP3 ht3 b53 br3 hb2
  go_wp2
  refine bodyPost_ret (v := IV aw ah (.slice (some ⟨g, 0, none⟩) n n)) (results_iv (B := w.heap.size + 1 + 1) Try.results30 rfl Hres.out) rfl ⟨g, rfl, by omega, ?_, Hbel.out.trans ((below_set3 _ _ _).mono (by omega))⟩
  rw [cutL, hn]
  exact HP3.out.same (((Below.heap_setCell _ _ _ _ (fun e => hgn e)).trans (Below.heap_setCell _ _ _ _ (fun e => hgn e))).trans (Below.heap_setCell _ _ _ _ (fun e => hgn e)))

end Go.Proofs.Ytajoipmchgabfaa

/- pixbuf's buffers: From, W, H, allIn. -/
namespace Go.Proofs.Ytajoipmchgabfaa
open Go.RowKit

/-- Numbers of 24 bits. -/
def U24 (l : List Int) : Prop := ∀ v ∈ l, 0 ≤ v ∧ v < 16777216
theorem U24.u32 {l : List Int} (h : U24 l) : U32 l := fun v hv => by have := h v hv; omega

/-- B is a buffer of a picture: wd times ht pixels, in block g. -/
structure BufAt (w : World) (B : Nat) (wd ht g : Nat) (L : List Int) : Prop where
  cells : w.heap[B]? = some (.cells #[.int .i64 (wd : Int), .int .i64 (ht : Int), .slice (some ⟨g, 0, none⟩) L.length L.length] 65)
  pix : Pix w g L
  size : wd * ht = L.length
  wd1 : 1 ≤ wd ∧ wd ≤ 256
  ht1 : 1 ≤ ht ∧ ht ≤ 256
  u : U24 L

theorem BufAt.lt {w : World} {B wd ht g : Nat} {L : List Int} (h : BufAt w B wd ht g L) : B < w.heap.size := (Array.getElem?_eq_some_iff.1 h.cells).1
theorem BufAt.same {w w1 : World} {B wd ht g : Nat} {L : List Int} (h : BufAt w B wd ht g L) (h1 : w1.heap[B]? = w.heap[B]?) (h2 : w1.heap[g]? = w.heap[g]?) : BufAt w1 B wd ht g L :=
  ⟨h1.trans h.cells, h.pix.same h2, h.size, h.wd1, h.ht1, h.u⟩
theorem BufAt.later {w w1 : World} {B wd ht g : Nat} {L : List Int} (h : BufAt w B wd ht g L) (hb : Below w.heap.size w w1) : BufAt w1 B wd ht g L :=
  h.same (hb.block B h.lt) (hb.block g h.pix.lt)
theorem BufAt.three {w : World} {B wd ht g : Nat} {L : List Int} (h : BufAt w B wd ht g L) : w.cell? ⟨B, 0, none⟩ = some (.int .i64 (wd : Int)) ∧ w.cell? ⟨B, 1, none⟩ = some (.int .i64 (ht : Int)) ∧ w.cell? ⟨B, 2, none⟩ = some (.slice (some ⟨g, 0, none⟩) L.length L.length) := by
  have hc := h.cells
  refine ⟨?_, ?_, ?_⟩ <;> simp [World.cell?, hc]
theorem BufAt.len {w : World} {B wd ht g : Nat} {L : List Int} (h : BufAt w B wd ht g L) : L.length ≤ 65536 := by
  rw [← h.size]; exact Nat.mul_le_mul h.wd1.2 h.ht1.2

/-- A picture's pixels as a row. -/
theorem Pix.row {w : World} {g : Nat} {L : List Int} (h : Pix w g L) : RowAt encU 1 w (some ⟨g, 0, none⟩) L :=
  .inr ⟨g, 0, rfl, h.lt, fun i x hi j u hj => by
    obtain ⟨hl, rfl⟩ := List.getElem?_eq_some_iff.1 hi
    have hj0 : j = 0 := by
      have := (List.getElem?_eq_some_iff.1 hj).1
      simp [encU] at this; exact this
    subst hj0
    simp [encU] at hj
    subst hj
    have := h.cell hl
    rw [Nat.zero_add, Nat.mul_one, Nat.add_zero]
    exact this⟩

theorem layL_len0 {tw ax ay aw fw px py : Nat} {S L : List Int} (hS : U32 S) (hL : U32 L) {n : Nat} (h : ∀ k, k < n → (ay + k) * tw + ax + aw ≤ L.length ∧ (py + k) * fw + px + aw ≤ S.length) : (layL tw ax ay aw fw px py S L n).length = L.length := (layL_ok tw ax ay aw fw px py S L hS hL n h).1

theorem splice_get {α : Type} (L cs : List α) (o i : Nat) (h : o + cs.length ≤ L.length) : (splice L o cs)[i]? = if o ≤ i ∧ i < o + cs.length then cs[i - o]? else L[i]? := by
  have ht : (L.take o).length = o := by rw [List.length_take]; omega
  unfold splice
  by_cases h1 : i < o
  · rw [if_neg (by omega), List.getElem?_append_left (by omega), List.getElem?_take, if_pos h1]
  · rw [List.getElem?_append_right (by omega), ht]
    by_cases h2 : i < o + cs.length
    · rw [if_pos ⟨by omega, h2⟩, List.getElem?_append_left (by omega)]
    · rw [if_neg (by omega), List.getElem?_append_right (by omega), List.getElem?_drop]
      congr 1
      omega

theorem mapAt_get? (f : Int → Int) (o n : Nat) (l : List Int) (i : Nat) : (mapAt f o n l)[i]? = if o ≤ i ∧ i < o + n then l[i]?.map f else l[i]? := by
  simp only [mapAt, List.getElem?_mapIdx]
  split
  · rename_i h
    cases l[i]? <;> simp
  · rename_i h
    cases l[i]? <;> simp

/-- A pixel behind one row more. -/
theorem layStep_get (tw ax ay aw fw px py : Nat) (S L : List Int) (k i : Nat) (h1 : (ay + k) * tw + ax + aw ≤ L.length) (h2 : (py + k) * fw + px + aw ≤ S.length) :
    (layStep tw ax ay aw fw px py S L k)[i]? = if (ay + k) * tw + ax ≤ i ∧ i < (ay + k) * tw + ax + aw then S[(py + k) * fw + px + (i - ((ay + k) * tw + ax))]?.map cut24 else L[i]? := by
  have hsl := seg_len (S := S) (F := (py + k) * fw + px) (aw := aw) h2
  rw [layStep, mapAt_get?]
  by_cases h : (ay + k) * tw + ax ≤ i ∧ i < (ay + k) * tw + ax + aw
  · rw [if_pos h, if_pos h, splice_get _ _ _ _ (by rw [hsl]; exact h1), hsl, if_pos h, List.getElem?_take, if_pos (by omega), List.getElem?_drop]
  · rw [if_neg h, if_neg h, splice_get _ _ _ _ (by rw [hsl]; exact h1), hsl, if_neg h]

theorem layL_U24 {tw ax ay aw fw px py : Nat} {S L : List Int} (hS : U32 S) (hL : U24 L) : ∀ n, (∀ k, k < n → (ay + k) * tw + ax + aw ≤ L.length ∧ (py + k) * fw + px + aw ≤ S.length) → U24 (layL tw ax ay aw fw px py S L n)
  | 0, _ => hL
  | n + 1, h => by
    have ih := layL_U24 hS hL n (fun k hk => h k (by omega))
    obtain ⟨h1, h2⟩ := layL_ok tw ax ay aw fw px py S L hS hL.u32 n (fun k hk => h k (by omega))
    have hn := h n (by omega)
    rw [layL_succ]
    intro v hv
    obtain ⟨i, hi⟩ := List.mem_iff_getElem?.1 hv
    rw [layStep_get _ _ _ _ _ _ _ _ _ _ _ (by rw [h1]; exact hn.1) hn.2] at hi
    split at hi
    · cases hs : S[(py + n) * fw + px + (i - ((ay + n) * tw + ax))]? with
      | none => rw [hs] at hi; cases hi
      | some q => rw [hs] at hi; cases hi; unfold cut24; omega
    · exact ih v (List.mem_iff_getElem?.2 ⟨i, hi⟩)

theorem row_iff {tw ax aw s y x : Nat} (hx : x < tw) (ha : ax + aw ≤ tw) : (s * tw + ax ≤ y * tw + x ∧ y * tw + x < s * tw + ax + aw) ↔ (y = s ∧ ax ≤ x ∧ x < ax + aw) := by
  rcases Nat.lt_trichotomy y s with h | h | h
  · have h1 : (y + 1) * tw ≤ s * tw := Nat.mul_le_mul_right tw h
    rw [Nat.add_mul, Nat.one_mul] at h1
    omega
  · subst h; omega
  · have h1 : (s + 1) * tw ≤ y * tw := Nat.mul_le_mul_right tw h
    rw [Nat.add_mul, Nat.one_mul] at h1
    omega

/-- A pixel behind lay. -/
theorem layL_get (tw ax ay aw fw px py : Nat) (S L : List Int) (hS : U32 S) (hL : U32 L) (ha : ax + aw ≤ tw) {x y : Nat} (hx : x < tw) : ∀ n, (∀ k, k < n → (ay + k) * tw + ax + aw ≤ L.length ∧ (py + k) * fw + px + aw ≤ S.length) →
    (layL tw ax ay aw fw px py S L n)[y * tw + x]? = if (ax ≤ x ∧ x < ax + aw) ∧ (ay ≤ y ∧ y < ay + n) then S[(py + (y - ay)) * fw + px + (x - ax)]?.map cut24 else L[y * tw + x]?
  | 0, _ => by rw [if_neg (by omega)]; rfl
  | n + 1, h => by
    have ih := layL_get tw ax ay aw fw px py S L hS hL ha (y := y) hx n (fun k hk => h k (by omega))
    have hn := h n (by omega)
    have hl := layL_len0 hS hL (n := n) (fun k hk => h k (by omega))
    rw [layL_succ, layStep_get _ _ _ _ _ _ _ _ _ _ _ (by rw [hl]; exact hn.1) hn.2, ih]
    by_cases h1 : y = ay + n ∧ ax ≤ x ∧ x < ax + aw
    · rw [if_pos ((row_iff hx ha).2 h1), if_pos (by omega)]
      obtain ⟨rfl, h2, h3⟩ := h1
      rw [show (ay + n) * tw + x - ((ay + n) * tw + ax) = x - ax by omega, show ay + n - ay = n by omega]
    · rw [if_neg (fun hh => h1 ((row_iff hx ha).1 hh))]
      by_cases h2 : (ax ≤ x ∧ x < ax + aw) ∧ (ay ≤ y ∧ y < ay + n)
      · rw [if_pos h2, if_pos (by omega)]
      · rw [if_neg h2, if_neg (by omega)]

theorem U24.zeros (n : Nat) : U24 (List.replicate n 0) := fun v hv => by
  rw [List.mem_replicate] at hv; omega

theorem cutL_ok {fw px py aw ah : Nat} {S : List Int} (hS : U32 S) (hfit : ∀ k, k < ah → (py + k) * fw + px + aw ≤ S.length) : (cutL fw px py aw ah S).length = aw * ah ∧ U24 (cutL fw px py aw ah S) := by
  have h : ∀ k, k < ah → (0 + k) * aw + 0 + aw ≤ (List.replicate (aw * ah) (0 : Int)).length ∧ (py + k) * fw + px + aw ≤ S.length := fun k hk => ⟨by
    rw [List.length_replicate, Nat.zero_add, Nat.add_zero]
    have : (k + 1) * aw ≤ ah * aw := Nat.mul_le_mul_right aw (by omega)
    rw [Nat.add_mul, Nat.one_mul, Nat.mul_comm ah aw] at this
    exact this, hfit k hk⟩
  exact ⟨by rw [cutL, layL_len0 hS (U24.zeros _).u32 h, List.length_replicate], layL_U24 hS (U24.zeros _) ah h⟩

/-- A pixel of a part. -/
theorem cutL_get {fw px py aw ah : Nat} {S : List Int} (hS : U32 S) (hfit : ∀ k, k < ah → (py + k) * fw + px + aw ≤ S.length) {x y : Nat} (hx : x < aw) (hy : y < ah) : (cutL fw px py aw ah S)[y * aw + x]? = S[(py + y) * fw + px + x]?.map cut24 := by
  have h : ∀ k, k < ah → (0 + k) * aw + 0 + aw ≤ (List.replicate (aw * ah) (0 : Int)).length ∧ (py + k) * fw + px + aw ≤ S.length := fun k hk => ⟨by
    rw [List.length_replicate, Nat.zero_add, Nat.add_zero]
    have : (k + 1) * aw ≤ ah * aw := Nat.mul_le_mul_right aw (by omega)
    rw [Nat.add_mul, Nat.one_mul, Nat.mul_comm ah aw] at this
    exact this, hfit k hk⟩
  rw [cutL, layL_get aw 0 0 aw fw px py S _ hS (U24.zeros _).u32 (by omega) hx ah h, if_pos (by omega)]
  simp

theorem cut24_same {v : Int} (h : 0 ≤ v ∧ v < 16777216) : cut24 v = v := by unfold cut24; omega

/-- All of a picture of colours is the picture. -/
theorem cutL_whole {aw ah : Nat} {S : List Int} (hS : U24 S) (hl : aw * ah = S.length) : cutL aw 0 0 aw ah S = S := by
  have hfit : ∀ k, k < ah → (0 + k) * aw + 0 + aw ≤ S.length := fun k hk => by
    rw [← hl, Nat.zero_add, Nat.add_zero]
    have : (k + 1) * aw ≤ ah * aw := Nat.mul_le_mul_right aw (by omega)
    rw [Nat.add_mul, Nat.one_mul, Nat.mul_comm ah aw] at this
    exact this
  obtain ⟨h1, -⟩ := cutL_ok hS.u32 hfit
  refine List.ext_getElem (by rw [h1, hl]) (fun i hi1 hi2 => ?_)
  have haw : 0 < aw := by
    rcases Nat.eq_zero_or_pos aw with e | e
    · subst e; simp at hl; omega
    · exact e
  have hy : i / aw < ah := by
    rw [Nat.div_lt_iff_lt_mul haw, Nat.mul_comm]; omega
  have hx : i % aw < aw := Nat.mod_lt _ haw
  have hi : i / aw * aw + i % aw = i := by rw [Nat.mul_comm]; exact Nat.div_add_mod i aw
  have := cutL_get hS.u32 hfit hx hy
  rw [Nat.zero_add, Nat.add_zero, hi, List.getElem?_eq_getElem hi1, List.getElem?_eq_getElem hi2] at this
  rw [Option.some.inj this, cut24_same (hS _ (List.getElem_mem hi2))]

end Go.Proofs.Ytajoipmchgabfaa
