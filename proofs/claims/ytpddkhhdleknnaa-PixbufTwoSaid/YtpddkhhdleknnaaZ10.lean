/- Several texts in one, each with its own head. -/
import Derived.Test.YtpddkhhdleknnaaZ9
/- pixbuf's buffers: From, W, H, allIn. -/
namespace Go.Proofs.Ytpddkhhdleknnaa
open Go.RowKit

/-- Numbers of 24 bits. -/
def U24 (l : List Int) : Prop := ∀ v ∈ l, 0 ≤ v ∧ v < 16777216
theorem U24.u32 {l : List Int} (h : U24 l) : U32 l := fun v hv => by have := h v hv; omega

/-- B is a buffer of a picture: wd times ht pixels, in block g. -/
structure BufAt (w : World) (B : Nat) (wd ht g : Nat) (L : List Int) : Prop where
  cells : w.heap[B]? = some (.cells #[.int .i64 (wd : Int), .int .i64 (ht : Int), .slice (some ⟨g, 0, none⟩) L.length L.length] 99)
  pix : Pix w g L
  size : wd * ht = L.length
  wd1 : 1 ≤ wd ∧ wd ≤ 256
  ht1 : 1 ≤ ht ∧ ht ≤ 256
  u : U24 L

theorem BufAt.lt {w : World} {B wd ht g : Nat} {L : List Int} (h : BufAt w B wd ht g L) : B < w.heap.size := (Array.getElem?_eq_some_iff.1 h.cells).1
theorem BufAt.same {w w1 : World} {B wd ht g : Nat} {L : List Int} (h : BufAt w B wd ht g L) (h1 : w1.heap[B]? = w.heap[B]?) (h2 : w1.heap[g]? = w.heap[g]?) : BufAt w1 B wd ht g L :=
  ⟨h1.trans h.cells, h.pix.same h2, h.size, h.wd1, h.ht1, h.u⟩
theorem BufAt.later {w w1 : World} {B wd ht g : Nat} {L : List Int} (h : BufAt w B wd ht g L) (hb : Below w.heap.size w w1) : BufAt w1 B wd ht g L :=
  h.same (hb.block B h.lt) (hb.block g h.pix.lt)
theorem BufAt.three {w : World} {B wd ht g : Nat} {L : List Int} (h : BufAt w B wd ht g L) : w.cell? ⟨B, 0, none⟩ = some (.int .i64 (wd : Int)) ∧ w.cell? ⟨B, 1, none⟩ = some (.int .i64 (ht : Int)) ∧ w.cell? ⟨B, 2, none⟩ = some (.slice (some ⟨g, 0, none⟩) L.length L.length) := by
  have hc := h.cells
  refine ⟨?_, ?_, ?_⟩ <;> simp [World.cell?, hc]
theorem BufAt.len {w : World} {B wd ht g : Nat} {L : List Int} (h : BufAt w B wd ht g L) : L.length ≤ 65536 := by
  rw [← h.size]; exact Nat.mul_le_mul h.wd1.2 h.ht1.2

/-- A picture's pixels as a row. -/
theorem Pix.row {w : World} {g : Nat} {L : List Int} (h : Pix w g L) : RowAt encU 1 w (some ⟨g, 0, none⟩) L :=
  .inr ⟨g, 0, rfl, h.lt, fun i x hi j u hj => by
    obtain ⟨hl, rfl⟩ := List.getElem?_eq_some_iff.1 hi
    have hj0 : j = 0 := by
      have := (List.getElem?_eq_some_iff.1 hj).1
      simp [encU] at this; exact this
    subst hj0
    simp [encU] at hj
    subst hj
    have := h.cell hl
    rw [Nat.zero_add, Nat.mul_one, Nat.add_zero]
    exact this⟩

theorem layL_len0 {tw ax ay aw fw px py : Nat} {S L : List Int} (hS : U32 S) (hL : U32 L) {n : Nat} (h : ∀ k, k < n → (ay + k) * tw + ax + aw ≤ L.length ∧ (py + k) * fw + px + aw ≤ S.length) : (layL tw ax ay aw fw px py S L n).length = L.length := (layL_ok tw ax ay aw fw px py S L hS hL n h).1

theorem splice_get {α : Type} (L cs : List α) (o i : Nat) (h : o + cs.length ≤ L.length) : (splice L o cs)[i]? = if o ≤ i ∧ i < o + cs.length then cs[i - o]? else L[i]? := by
  have ht : (L.take o).length = o := by rw [List.length_take]; omega
  unfold splice
  by_cases h1 : i < o
  · rw [if_neg (by omega), List.getElem?_append_left (by omega), List.getElem?_take, if_pos h1]
  · rw [List.getElem?_append_right (by omega), ht]
    by_cases h2 : i < o + cs.length
    · rw [if_pos ⟨by omega, h2⟩, List.getElem?_append_left (by omega)]
    · rw [if_neg (by omega), List.getElem?_append_right (by omega), List.getElem?_drop]
      congr 1
      omega

theorem mapAt_get? (f : Int → Int) (o n : Nat) (l : List Int) (i : Nat) : (mapAt f o n l)[i]? = if o ≤ i ∧ i < o + n then l[i]?.map f else l[i]? := by
  simp only [mapAt, List.getElem?_mapIdx]
  split
  · rename_i h
    cases l[i]? <;> simp
  · rename_i h
    cases l[i]? <;> simp

/-- A pixel behind one row more. -/
theorem layStep_get (tw ax ay aw fw px py : Nat) (S L : List Int) (k i : Nat) (h1 : (ay + k) * tw + ax + aw ≤ L.length) (h2 : (py + k) * fw + px + aw ≤ S.length) :
    (layStep tw ax ay aw fw px py S L k)[i]? = if (ay + k) * tw + ax ≤ i ∧ i < (ay + k) * tw + ax + aw then S[(py + k) * fw + px + (i - ((ay + k) * tw + ax))]?.map cut24 else L[i]? := by
  have hsl := seg_len (S := S) (F := (py + k) * fw + px) (aw := aw) h2
  rw [layStep, mapAt_get?]
  by_cases h : (ay + k) * tw + ax ≤ i ∧ i < (ay + k) * tw + ax + aw
  · rw [if_pos h, if_pos h, splice_get _ _ _ _ (by rw [hsl]; exact h1), hsl, if_pos h, List.getElem?_take, if_pos (by omega), List.getElem?_drop]
  · rw [if_neg h, if_neg h, splice_get _ _ _ _ (by rw [hsl]; exact h1), hsl, if_neg h]

theorem layL_U24 {tw ax ay aw fw px py : Nat} {S L : List Int} (hS : U32 S) (hL : U24 L) : ∀ n, (∀ k, k < n → (ay + k) * tw + ax + aw ≤ L.length ∧ (py + k) * fw + px + aw ≤ S.length) → U24 (layL tw ax ay aw fw px py S L n)
  | 0, _ => hL
  | n + 1, h => by
    have ih := layL_U24 hS hL n (fun k hk => h k (by omega))
    obtain ⟨h1, h2⟩ := layL_ok tw ax ay aw fw px py S L hS hL.u32 n (fun k hk => h k (by omega))
    have hn := h n (by omega)
    rw [layL_succ]
    intro v hv
    obtain ⟨i, hi⟩ := List.mem_iff_getElem?.1 hv
    rw [layStep_get _ _ _ _ _ _ _ _ _ _ _ (by rw [h1]; exact hn.1) hn.2] at hi
    split at hi
    · cases hs : S[(py + n) * fw + px + (i - ((ay + n) * tw + ax))]? with
      | none => rw [hs] at hi; cases hi
      | some q => rw [hs] at hi; cases hi; unfold cut24; omega
    · exact ih v (List.mem_iff_getElem?.2 ⟨i, hi⟩)

theorem row_iff {tw ax aw s y x : Nat} (hx : x < tw) (ha : ax + aw ≤ tw) : (s * tw + ax ≤ y * tw + x ∧ y * tw + x < s * tw + ax + aw) ↔ (y = s ∧ ax ≤ x ∧ x < ax + aw) := by
  rcases Nat.lt_trichotomy y s with h | h | h
  · have h1 : (y + 1) * tw ≤ s * tw := Nat.mul_le_mul_right tw h
    rw [Nat.add_mul, Nat.one_mul] at h1
    omega
  · subst h; omega
  · have h1 : (s + 1) * tw ≤ y * tw := Nat.mul_le_mul_right tw h
    rw [Nat.add_mul, Nat.one_mul] at h1
    omega

/-- A pixel behind lay. -/
theorem layL_get (tw ax ay aw fw px py : Nat) (S L : List Int) (hS : U32 S) (hL : U32 L) (ha : ax + aw ≤ tw) {x y : Nat} (hx : x < tw) : ∀ n, (∀ k, k < n → (ay + k) * tw + ax + aw ≤ L.length ∧ (py + k) * fw + px + aw ≤ S.length) →
    (layL tw ax ay aw fw px py S L n)[y * tw + x]? = if (ax ≤ x ∧ x < ax + aw) ∧ (ay ≤ y ∧ y < ay + n) then S[(py + (y - ay)) * fw + px + (x - ax)]?.map cut24 else L[y * tw + x]?
  | 0, _ => by rw [if_neg (by omega)]; rfl
  | n + 1, h => by
    have ih := layL_get tw ax ay aw fw px py S L hS hL ha (y := y) hx n (fun k hk => h k (by omega))
    have hn := h n (by omega)
    have hl := layL_len0 hS hL (n := n) (fun k hk => h k (by omega))
    rw [layL_succ, layStep_get _ _ _ _ _ _ _ _ _ _ _ (by rw [hl]; exact hn.1) hn.2, ih]
    by_cases h1 : y = ay + n ∧ ax ≤ x ∧ x < ax + aw
    · rw [if_pos ((row_iff hx ha).2 h1), if_pos (by omega)]
      obtain ⟨rfl, h2, h3⟩ := h1
      rw [show (ay + n) * tw + x - ((ay + n) * tw + ax) = x - ax by omega, show ay + n - ay = n by omega]
    · rw [if_neg (fun hh => h1 ((row_iff hx ha).1 hh))]
      by_cases h2 : (ax ≤ x ∧ x < ax + aw) ∧ (ay ≤ y ∧ y < ay + n)
      · rw [if_pos h2, if_pos (by omega)]
      · rw [if_neg h2, if_neg (by omega)]

theorem U24.zeros (n : Nat) : U24 (List.replicate n 0) := fun v hv => by
  rw [List.mem_replicate] at hv; omega

theorem cutL_ok {fw px py aw ah : Nat} {S : List Int} (hS : U32 S) (hfit : ∀ k, k < ah → (py + k) * fw + px + aw ≤ S.length) : (cutL fw px py aw ah S).length = aw * ah ∧ U24 (cutL fw px py aw ah S) := by
  have h : ∀ k, k < ah → (0 + k) * aw + 0 + aw ≤ (List.replicate (aw * ah) (0 : Int)).length ∧ (py + k) * fw + px + aw ≤ S.length := fun k hk => ⟨by
    rw [List.length_replicate, Nat.zero_add, Nat.add_zero]
    have : (k + 1) * aw ≤ ah * aw := Nat.mul_le_mul_right aw (by omega)
    rw [Nat.add_mul, Nat.one_mul, Nat.mul_comm ah aw] at this
    exact this, hfit k hk⟩
  exact ⟨by rw [cutL, layL_len0 hS (U24.zeros _).u32 h, List.length_replicate], layL_U24 hS (U24.zeros _) ah h⟩

/-- A pixel of a part. -/
theorem cutL_get {fw px py aw ah : Nat} {S : List Int} (hS : U32 S) (hfit : ∀ k, k < ah → (py + k) * fw + px + aw ≤ S.length) {x y : Nat} (hx : x < aw) (hy : y < ah) : (cutL fw px py aw ah S)[y * aw + x]? = S[(py + y) * fw + px + x]?.map cut24 := by
  have h : ∀ k, k < ah → (0 + k) * aw + 0 + aw ≤ (List.replicate (aw * ah) (0 : Int)).length ∧ (py + k) * fw + px + aw ≤ S.length := fun k hk => ⟨by
    rw [List.length_replicate, Nat.zero_add, Nat.add_zero]
    have : (k + 1) * aw ≤ ah * aw := Nat.mul_le_mul_right aw (by omega)
    rw [Nat.add_mul, Nat.one_mul, Nat.mul_comm ah aw] at this
    exact this, hfit k hk⟩
  rw [cutL, layL_get aw 0 0 aw fw px py S _ hS (U24.zeros _).u32 (by omega) hx ah h, if_pos (by omega)]
  simp

theorem cut24_same {v : Int} (h : 0 ≤ v ∧ v < 16777216) : cut24 v = v := by unfold cut24; omega

/-- All of a picture of colours is the picture. -/
theorem cutL_whole {aw ah : Nat} {S : List Int} (hS : U24 S) (hl : aw * ah = S.length) : cutL aw 0 0 aw ah S = S := by
  have hfit : ∀ k, k < ah → (0 + k) * aw + 0 + aw ≤ S.length := fun k hk => by
    rw [← hl, Nat.zero_add, Nat.add_zero]
    have : (k + 1) * aw ≤ ah * aw := Nat.mul_le_mul_right aw (by omega)
    rw [Nat.add_mul, Nat.one_mul, Nat.mul_comm ah aw] at this
    exact this
  obtain ⟨h1, -⟩ := cutL_ok hS.u32 hfit
  refine List.ext_getElem (by rw [h1, hl]) (fun i hi1 hi2 => ?_)
  have haw : 0 < aw := by
    rcases Nat.eq_zero_or_pos aw with e | e
    · subst e; simp at hl; omega
    · exact e
  have hy : i / aw < ah := by
    rw [Nat.div_lt_iff_lt_mul haw, Nat.mul_comm]; omega
  have hx : i % aw < aw := Nat.mod_lt _ haw
  have hi : i / aw * aw + i % aw = i := by rw [Nat.mul_comm]; exact Nat.div_add_mod i aw
  have := cutL_get hS.u32 hfit hx hy
  rw [Nat.zero_add, Nat.add_zero, hi, List.getElem?_eq_getElem hi1, List.getElem?_eq_getElem hi2] at this
  rw [Option.some.inj this, cut24_same (hS _ (List.getElem_mem hi2))]

end Go.Proofs.Ytpddkhhdleknnaa

/- pixbuf's W, H, From, Image, Clone. -/
namespace Go.Proofs.Ytpddkhhdleknnaa
open Go.RowKit

set_option maxHeartbeats 400000 in
theorem bufW_any (B wd ht g : Nat) (L : List Int) (w : World) (h : BufAt w B wd ht g L) : Makes Try.prog 31 #[.pointer (some ⟨B, 0, none⟩)] w (.int .i64 (wd : Int)) := by
  unfold Makes
  obtain ⟨c0, c1, c2⟩ := h.three
  go_enter Try.func31, Try.ntmps31
  go_wp2
  go_ret
  exact ⟨rfl, Below.refl _ _⟩

set_option maxHeartbeats 400000 in
theorem bufH_any (B wd ht g : Nat) (L : List Int) (w : World) (h : BufAt w B wd ht g L) : Makes Try.prog 32 #[.pointer (some ⟨B, 0, none⟩)] w (.int .i64 (ht : Int)) := by
  unfold Makes
  obtain ⟨c0, c1, c2⟩ := h.three
  go_enter Try.func32, Try.ntmps32
  go_wp2
  go_ret
  exact ⟨rfl, Below.refl _ _⟩

set_option maxHeartbeats 1000000 in
theorem from_no (wd ht : Int) (p : Option Addr) (n c : Nat) (w : World) (hb : pictB wd ht n = false) : Makes Try.prog 28 #[IV wd ht (.slice p n c)] w (.tuple #[.pointer none, .int .i64 1]) := by
  unfold Makes
  go_enter Try.func28, Try.ntmps28
  go_wp2_with fail
  refine Calls.mono (isPicture_any wd ht p n c _) ?_
  rw [hb]
  rintro e w1 ⟨rfl, hb1⟩
  go_wp2
  go_ret2
  exact ⟨rfl, Below.thn (Below.al1 _ _) hb1⟩

set_option maxHeartbeats 2000000 in
theorem from_yes (wd ht fb foff n c : Nat) (S : List Int) (w : World) (hSr : RowAt encU 1 w (some ⟨fb, foff, none⟩) S) (hSl : S.length = n) (hcap : n ≤ c) (hmax : c ≤ 9223372036854775807) (hS : U32 S) (h1 : 1 ≤ wd ∧ wd ≤ 256) (h2 : 1 ≤ ht ∧ ht ≤ 256) (hn : wd * ht = n) :
    Calls Try.prog 28 #[IV wd ht (.slice (some ⟨fb, foff, none⟩) n c)] w fun e w' => ∃ B g, e = .returned (.tuple #[.pointer (some ⟨B, 0, none⟩), .int .i64 0]) ∧ BufAt w' B wd ht g (cutL wd 0 0 wd ht S) ∧ w.heap.size ≤ B ∧ w.heap.size ≤ g ∧ B ≠ g ∧ Below w.heap.size w w' := by
  have hp : pictB wd ht n = true := by
    have : ((n : Nat) : Int) = (wd : Int) * (ht : Int) := by rw [← hn, Int.natCast_mul]
    simp [pictB, sizedB, this]; omega
  have hfit : ∀ k, k < ht → (0 + k) * wd + 0 + wd ≤ S.length := fun k hk => by
    rw [hSl, ← hn, Nat.zero_add, Nat.add_zero]
    have : (k + 1) * wd ≤ ht * wd := Nat.mul_le_mul_right wd (by omega)
    rw [Nat.add_mul, Nat.one_mul, Nat.mul_comm ht wd] at this
    exact this
  obtain ⟨k1, k2⟩ := cutL_ok hS hfit
  have Hs := Lib.hid hSr
  have Hfit := Lib.hid hfit
  have Hk1 := Lib.hid k1
  have Hk2 := Lib.hid k2
  clear hfit k1 k2 hSr
  go_enter Try.func28, Try.ntmps28
  go_wp2_with fail
  refine Calls.mono (isPicture_any wd ht _ n c _) ?_
  rw [hp]
  rintro e w1 ⟨rfl, hb1⟩
  have hbw := Below.thn (Below.al1 w (.cells #[.int .i64 (wd : Int), .int .i64 (ht : Int), .slice (some ⟨fb, foff, none⟩) n c] 39)) hb1
  have bm : Im3 w1 w.heap.size wd ht (.slice (some ⟨fb, foff, none⟩) n c) := Im3.later (World.alloc_heap_new w _) hb1
  have Hbw := Lib.hid hbw
  clear hb1 hbw
  go_upto_region 3 with (fail)
  have hne := After.ne w1
  have k0 := After.rule bm.cells.1
  have k1 := After.rule bm.cells.2.1
  have k2 := After.rule bm.cells.2.2
  refine wp_region_head 3 (by kernel_rfl) (by kernel_rfl) (by kernel_rfl) ?_
  repeat (refine Lq_step (fun K hK => ?_); go_simp; first | (refine hK _ ?_; clear hK K) | (apply Exists.intro; refine ⟨fun n => ?_, hK _ ?_⟩; (go_at_call 81; exact whole_any _ _ _ _); clear hK K))
  refine Lq_nil ?_
  intro w2 hb2
  clear k0 k1 k2 hne bm
  have hb02 := Hbw.out.trans (hb2.mono Hbw.out.size)
  have hco := cutOut_any wd ht 0 0 wd ht fb foff n c S w2 (Hs.out.below hb02) hSl hcap hmax hS (by omega) (by omega) (by omega) (by omega) (by omega) Hfit.out
  rw [show ((0 : Nat) : Int) = 0 from rfl] at hco
  have Hb02 := Lib.hid hb02
  clear hb2 hb02
  go_wp2_with fail
  refine Calls.mono hco ?_
  rintro e w3 ⟨g, rfl, hg, hP, hb3⟩
  have hb03 := Hb02.out.trans (hb3.mono Hb02.out.size)
  have hsz2 := Hb02.out.size
  have hg3 : g < w3.heap.size := hP.lt
  have HP := Lib.hid hP
  have Hb03 := Lib.hid hb03
  clear hco hP hb3 hb03
  go_wp2
  go_ret2
  have hal := Below.al1 w3 (.cells #[.int .i64 (wd : Int), .int .i64 (ht : Int), .slice (some ⟨g, 0, none⟩) n n] 99)
  have hcl : (cutL wd 0 0 wd ht S).length = n := Hk1.out.trans hn
  refine ⟨w3.heap.size, g, rfl, ⟨?_, HP.out.later hal, hn.trans hcl.symm, h1, h2, Hk2.out⟩, by have := Hb03.out.size; omega, by omega, by omega, Hb03.out.trans (hal.mono Hb03.out.size)⟩
  rw [hcl]
  exact World.alloc_heap_new _ _


/-- The facts of a buffer's part. -/
theorem BufAt.fit {w : World} {B wd ht g : Nat} {L : List Int} (h : BufAt w B wd ht g L) {px py aw ah : Nat} (h1 : px + aw ≤ wd) (h2 : py + ah ≤ ht) : ∀ k, k < ah → (py + k) * wd + px + aw ≤ L.length := fun k hk => by
  rw [← h.size]
  have : (py + k + 1) * wd ≤ ht * wd := Nat.mul_le_mul_right wd (by omega)
  rw [Nat.add_mul (py + k), Nat.one_mul, Nat.mul_comm ht wd] at this
  omega

set_option maxHeartbeats 2000000 in
theorem image_any (B wd ht g : Nat) (L : List Int) (w : World) (h : BufAt w B wd ht g L) :
    Calls Try.prog 45 #[.pointer (some ⟨B, 0, none⟩)] w fun e w' => ∃ g', e = .returned (IV wd ht (.slice (some ⟨g', 0, none⟩) L.length L.length)) ∧ w.heap.size ≤ g' ∧ Pix w' g' L ∧ Below w.heap.size w w' := by
  have Hb := Lib.hid h
  have hfit := h.fit (px := 0) (py := 0) (aw := wd) (ah := ht) (by omega) (by omega)
  have hL := h.len
  have hal := Below.al1 w (.cells #[.int .i64 0, .int .i64 0, .slice none 0 0] 39)
  have h0 := h.later hal
  obtain ⟨c0, c1, c2⟩ := h0.three
  have br : Im3 (w.alloc (.cells #[.int .i64 0, .int .i64 0, .slice none 0 0] 39)) w.heap.size 0 0 (.slice none 0 0) := World.alloc_heap_new _ _
  have Hal := Lib.hid hal
  have Hbr := Lib.hid br
  have H0 := Lib.hid h0
  have hs1 := h.size
  obtain ⟨hw1, hw2⟩ := h.wd1
  obtain ⟨hh1, hh2⟩ := h.ht1
  have hu := Lib.hid h.u
  clear h h0 hal br
  go_enter Try.func45, Try.ntmps45
  go_upto_region 3 with (fail)
  generalize (w.alloc (.cells #[.int .i64 0, .int .i64 0, .slice none 0 0] 39)) = W at *
  have hne := After.ne W
  have k0 := After.rule c0
  have k1 := After.rule c1
  have k2 := After.rule c2
  clear c0 c1 c2
  refine wp_region_head 9 (by kernel_rfl) (by kernel_rfl) (by kernel_rfl) ?_
  repeat (refine Lq_step (fun K hK => ?_); go_simp; first | (refine hK _ ?_; clear hK K) | (apply Exists.intro; refine ⟨fun n => ?_, hK _ ?_⟩; (go_at_call 81; exact whole_any _ _ _ _); clear hK K))
  refine Lq_nil ?_
  intro w2 hb2
  clear k0 k1 k2 hne
  have h2 := H0.out.later hb2
  have hco := cutOut_any wd ht 0 0 wd ht g 0 L.length L.length L w2 h2.pix.row rfl (Nat.le_refl _) (by omega) hu.out.u32 (by omega) (by omega) (by omega) (by omega) (by omega) hfit
  rw [show ((0 : Nat) : Int) = 0 from rfl, cutL_whole hu.out hs1, hs1] at hco
  have Hb02 := Lib.hid (Hal.out.trans (hb2.mono Hal.out.size))
  have Hbr2 := Lib.hid (Hbr.out.later hb2)
  clear hb2 h2
  go_wp2_with fail
  refine Calls.mono hco ?_
  rintro e w3 ⟨g', rfl, hg, hP, hb3⟩
  have br3 := Hbr2.out.later hb3
  have hlt3 := Hbr2.out.lt
  obtain ⟨d0, d1, d2⟩ := br3.cells
  have f0 := br3.free 0
  have f1 := br3.free 1
  have f2 := br3.free 2
  have Hres := Lib.hid (br3.set wd ht (.slice (some ⟨g', 0, none⟩) L.length L.length))
  have HP := Lib.hid hP
  have Hbel := Lib.hid (Hb02.out.trans (hb3.mono Hb02.out.size))
  have hgn : g' ≠ w.heap.size := by omega
  have hgs := Hb02.out.size
  clear hco hP hb3 br3
  go_wp2
  refine bodyPost_ret (v := IV wd ht (.slice (some ⟨g', 0, none⟩) L.length L.length)) (results_iv (B := w.heap.size) Try.results45 rfl Hres.out) rfl ⟨g', rfl, by omega, ?_, Hbel.out.trans ((below_set3 _ _ _).mono (Nat.le_refl _))⟩
  exact HP.out.same (((Below.heap_setCell _ _ _ _ (fun e => hgn e)).trans (Below.heap_setCell _ _ _ _ (fun e => hgn e))).trans (Below.heap_setCell _ _ _ _ (fun e => hgn e)))

set_option maxHeartbeats 1000000 in
theorem clone_any (B wd ht g : Nat) (L : List Int) (w : World) (h : BufAt w B wd ht g L) :
    Calls Try.prog 52 #[.pointer (some ⟨B, 0, none⟩)] w fun e w' => ∃ B' g', e = .returned (.pointer (some ⟨B', 0, none⟩)) ∧ BufAt w' B' wd ht g' L ∧ w.heap.size ≤ B' ∧ w.heap.size ≤ g' ∧ B' ≠ g' ∧ Below w.heap.size w w' := by
  have h1 := h.size
  have h2 := h.wd1
  have h3 := h.ht1
  have h4 := Lib.hid h.u
  go_enter Try.func52, Try.ntmps52
  go_wp2_with fail
  refine Calls.mono (image_any B wd ht g L _ h) ?_
  rintro e w1 ⟨g', rfl, hg, hP, hb1⟩
  have hlt : g' < w1.heap.size := hP.lt
  have hsz := hb1.size
  have HP := Lib.hid hP
  have Hb1 := Lib.hid hb1
  clear hP hb1
  go_wp2
  go_ret
  have hal := Below.al1 w1 (.cells #[.int .i64 (wd : Int), .int .i64 (ht : Int), .slice (some ⟨g', 0, none⟩) L.length L.length] 99)
  exact ⟨w1.heap.size, g', rfl, ⟨World.alloc_heap_new _ _, HP.out.later hal, h1, h2, h3, h4.out⟩, by omega, by omega, by omega, Hb1.out.trans (hal.mono hsz)⟩

end Go.Proofs.Ytpddkhhdleknnaa
