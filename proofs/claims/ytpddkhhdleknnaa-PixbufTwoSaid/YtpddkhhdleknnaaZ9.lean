/- Several texts in one, each with its own head. -/
import Derived.Test.YtpddkhhdleknnaaZ8
import Derived.Test.YtpddkhhdleknnaaZ6
import Derived.Test.YtpddkhhdleknnaaZ4
import Derived.Test.YtpddkhhdleknnaaZ7
/- Regions that draw their order, whose head only reads and calls what keeps all that there is, and whose tail waits for all of the head: one walk of the head in the order of the text. Nothing here speaks of one program. -/
namespace Go.Proofs.Ytpddkhhdleknnaa
open Go.RowKit

section
variable {P : Program}

theorem wp_region_head {id : Nat} {Q : Exit → Act → World → Prop} {a : Act} {w : World} {l : List Oper} (n : Nat) (hm : P.follows .mixedOrders = true) (hS : shapeB .any l.toArray n = true)
    (hseq : Region.seqB .any l.toArray (l.drop n).length n (headDone l.toArray.size n) = true)
    (h : Lq P l.toArray w (fun a' => ∀ w' : World, Below w.heap.size w w' → wpList P l.toArray Q (l.drop n) a' w') (l.take n) a) : (Code.region id l.toArray true).wp P Q a w := by
  have S := shape_of hS
  have hle : n ≤ l.length := by simpa using S.le
  have htake : (l.take n).length = n := by simp; omega
  refine wp_region_any hm ?_
  have H := boxes_any (P := P) (W := w) (md := .any) (Q' := Q) (F := fun _ a' => ∀ w' : World, Below w.heap.size w w' → wpList P l.toArray Q (l.drop n) a' w')
    [] (fun _ => default) (l.drop n) S (fun j => by simp [List.getElem?_drop]) hseq
    (fun p hp => by cases hp)
    (fun β a' w' hF hb _ _ => hF w' hb)
    n (Array.replicate l.toArray.size false) a { w with drawn := w.drawn + 1 } (fun _ => 0) (placed 0 (l.take n)) [] (by rw [placed_len, htake]; rfl)
    ⟨by simp, fun j oj _ hl => (by rw [getD_replicate_false] at hl; cases hl), fun t _ ht => getD_in (by simpa using ht) (getD_replicate_false _ _)⟩
    { size := by simp
      all := fun i hi _ => Or.inl (placed_all _ 0 i (by omega) (by rw [htake]; omega))
      q := fun p hp => by
        obtain ⟨p1, p2, p3⟩ := placed_mem _ 0 p hp
        rw [htake] at p2
        refine ⟨by omega, ?_, ?_⟩
        · exact getD_in (by simp; omega) (getD_replicate_false _ _)
        · rw [Nat.sub_zero, List.getElem?_take, if_pos (by omega)] at p3
          simpa using p3
      a := fun p hp => by cases hp
      qa := fun p hp r hr => by cases hr
      sq := placed_sorted _ _
      sa := List.Pairwise.nil
      tail := fun t _ ht => getD_in (by simpa using ht) (getD_replicate_false _ _)
      below := ⟨rfl, rfl, rfl, Nat.le_refl _, fun _ _ => rfl⟩
      rooms := fun p hp => by cases hp
      apart := fun p hp _ _ _ _ _ => by cases hp }
    (by
      rw [placed_snd]
      exact h)
  have hfuel : n + (l.drop n).length = l.toArray.size := by simp; omega
  rw [hfuel] at H
  exact H

/-- A region whose head ends in one new block. -/
theorem wp_region_box1 {id : Nat} {Q : Exit → Act → World → Prop} {a : Act} {w : World} {l : List Oper} (n : Nat) (o1 : Oper) (b1 : Obj) (hm : P.follows .mixedOrders = true) (hS : shapeB .any l.toArray (n + 1) = true)
    (hseq : Region.seqB .any l.toArray (l.drop (n + 1)).length (n + 1) (headDone l.toArray.size (n + 1)) = true) (h1 : l[n]? = some o1) (hg1 : o1.guard = none)
    (hr1 : ∀ (a : Act) (w : World), (execOp a.eval o1).run P w = .ok (.value (.pointer (some ⟨w.heap.size, 0, none⟩))) (w.alloc b1))
    (h : Lq P l.toArray w (fun a' => ∀ (B1 : Nat) (w' : World), w.heap.size ≤ B1 → Below w.heap.size w w' → w'.heap[B1]? = some b1 →
      wpList P l.toArray Q (l.drop (n + 1)) (a'.put o1.dst (.pointer (some ⟨B1, 0, none⟩))) w') (l.take n) a) : (Code.region id l.toArray true).wp P Q a w := by
  have S := shape_of hS
  have hle : n + 1 ≤ l.length := by simpa using S.le
  have htake : (l.take n).length = n := by simp; omega
  refine wp_region_any hm ?_
  have H := boxes_any (P := P) (W := w) (md := .any) (Q' := Q) (F := fun β a' => ∀ w' : World, w.heap.size ≤ β n → Below w.heap.size w w' → w'.heap[β n]? = some b1 → wpList P l.toArray Q (l.drop (n + 1)) a' w')
    [(n, o1)] (fun _ => b1) (l.drop (n + 1)) S (fun j => by simp [List.getElem?_drop]) hseq
    (fun p hp => by
      rcases List.mem_cons.1 hp with rfl | hp
      · exact ⟨by simpa using h1, hg1, fun a w => hr1 a w⟩
      · cases hp)
    (fun β a' w' hF hb hrm _ => by
      have r1 := hrm (n, o1) (by simp)
      exact hF w' r1.1 hb r1.2)
    (n + 1) (Array.replicate l.toArray.size false) a { w with drawn := w.drawn + 1 } (fun _ => 0) (placed 0 (l.take n)) [(n, o1)] (by rw [placed_len, htake]; rfl)
    ⟨by simp, fun j oj _ hl => (by rw [getD_replicate_false] at hl; cases hl), fun t _ ht => getD_in (by simpa using ht) (getD_replicate_false _ _)⟩
    { size := by simp
      all := fun i hi _ => by
        by_cases e : i < n
        · exact Or.inl (placed_all _ 0 i (by omega) (by rw [htake]; omega))
        · exact Or.inr ⟨(n, o1), by simp, by simp only; omega⟩
      q := fun p hp => by
        obtain ⟨p1, p2, p3⟩ := placed_mem _ 0 p hp
        rw [htake] at p2
        refine ⟨by omega, ?_, ?_⟩
        · exact getD_in (by simp; omega) (getD_replicate_false _ _)
        · rw [Nat.sub_zero, List.getElem?_take, if_pos (by omega)] at p3
          simpa using p3
      a := fun p hp => by
        refine ⟨hp, ?_⟩
        rcases List.mem_cons.1 hp with rfl | hp
        · exact ⟨by simp, getD_in (by simp; omega) (getD_replicate_false _ _), by simpa using h1⟩
        · cases hp
      qa := fun p hp r hr => by
        have p2 := (placed_mem _ 0 p hp).2.1
        rw [htake] at p2
        rcases List.mem_cons.1 hr with rfl | hr
        · simp only; omega
        · cases hr
      sq := placed_sorted _ _
      sa := by simp
      tail := fun t _ ht => getD_in (by simpa using ht) (getD_replicate_false _ _)
      below := ⟨rfl, rfl, rfl, Nat.le_refl _, fun _ _ => rfl⟩
      rooms := fun p hp => Or.inl hp
      apart := fun p hp _ _ hn _ _ => absurd hp hn }
    (by
      rw [placed_snd]
      refine Lq.mono (fun a' h' => ?_) _ _ h
      intro B1 hB1 w' _ hb x1
      simp only [updB_same] at x1
      exact h' B1 w' hB1 hb x1)
  have hfuel : n + 1 + (l.drop (n + 1)).length = l.toArray.size := by simp; omega
  rw [hfuel] at H
  exact H


end

end Go.Proofs.Ytpddkhhdleknnaa

/- pixbuf's cutOut: the picture of a part, in memory of its own. -/
namespace Go.Proofs.Ytpddkhhdleknnaa
open Go.RowKit

/-- Block B is a picture's three cells. -/
def Im3 (w : World) (B : Nat) (wd ht : Int) (sv : Value) : Prop := w.heap[B]? = some (.cells #[.int .i64 wd, .int .i64 ht, sv] 39)

theorem Im3.lt {w : World} {B : Nat} {wd ht : Int} {sv : Value} (h : Im3 w B wd ht sv) : B < w.heap.size := (Array.getElem?_eq_some_iff.1 h).1
theorem Im3.cells {w : World} {B : Nat} {wd ht : Int} {sv : Value} (h : Im3 w B wd ht sv) : w.cell? ⟨B, 0, none⟩ = some (.int .i64 wd) ∧ w.cell? ⟨B, 1, none⟩ = some (.int .i64 ht) ∧ w.cell? ⟨B, 2, none⟩ = some sv := by
  unfold Im3 at h
  refine ⟨?_, ?_, ?_⟩ <;> simp [World.cell?, h]
theorem Im3.free {w : World} {B : Nat} {wd ht : Int} {sv : Value} (h : Im3 w B wd ht sv) (i : Nat) : w.frozen? ⟨B, i, none⟩ = false := by
  unfold Im3 at h
  simp [World.frozen?, h]
theorem Im3.same {w w1 : World} {B : Nat} {wd ht : Int} {sv : Value} (h : Im3 w B wd ht sv) (hs : w1.heap[B]? = w.heap[B]?) : Im3 w1 B wd ht sv := hs.trans h
theorem Im3.later {w w1 : World} {B : Nat} {wd ht : Int} {sv : Value} (h : Im3 w B wd ht sv) (hb : Below w.heap.size w w1) : Im3 w1 B wd ht sv := h.same (hb.block B h.lt)
theorem Im3.set {w : World} {B : Nat} {wd ht : Int} {sv : Value} (h : Im3 w B wd ht sv) (wd' ht' : Int) (sv' : Value) : Im3 (((w.setCell ⟨B, 0, none⟩ (.int .i64 wd')).setCell ⟨B, 1, none⟩ (.int .i64 ht')).setCell ⟨B, 2, none⟩ sv') B wd' ht' sv' := by
  have one : ∀ (W : World) (i : Nat) (l : Array Value) (u : Value), W.heap[B]? = some (.cells l 39) → (W.setCell ⟨B, i, none⟩ u).heap[B]? = some (.cells (l.setIfInBounds i u) 39) := by
    intro W i l u h
    obtain ⟨hlt, hk⟩ := Array.getElem?_eq_some_iff.1 h
    show (W.heap.modify B _)[B]? = _
    rw [Array.getElem?_eq_getElem (by rw [Array.size_modify]; exact hlt), Array.getElem_modify_self, hk]
    rfl
  have := one _ 2 _ sv' (one _ 1 _ (.int .i64 ht') (one _ 0 _ (.int .i64 wd') h))
  unfold Im3
  simpa using this
theorem below_set3 {w : World} {B : Nat} (wd' ht' : Int) (sv' : Value) : Below B w (((w.setCell ⟨B, 0, none⟩ (.int .i64 wd')).setCell ⟨B, 1, none⟩ (.int .i64 ht')).setCell ⟨B, 2, none⟩ sv') := by
  refine Below.setCell ?_ (Nat.le_refl B) _
  refine Below.setCell ?_ (Nat.le_refl B) _
  refine Below.setCell ?_ (Nat.le_refl B) _
  exact Below.refl _ _

/-- The numbers of a part of a picture, cut to 24 bits. -/
def cutL (fw px py aw ah : Nat) (S : List Int) : List Int := layL aw 0 0 aw fw px py S (List.replicate (aw * ah) 0) ah

set_option maxRecDepth 100000 in
set_option maxHeartbeats 2000000 in
theorem cutOut_any (fw fh px py aw ah fb foff fn fcap : Nat) (S : List Int) (w : World) (hSr : RowAt encU 1 w (some ⟨fb, foff, none⟩) S) (hSl : S.length = fn) (hcap : fn ≤ fcap) (hmax : fcap ≤ 9223372036854775807) (hS : U32 S)
    (hw2 : fw ≤ 1048576) (hy2 : py + ah ≤ 1048576) (ha : 0 < aw) (ha2 : aw ≤ 1024) (hh2 : ah ≤ 1024) (hfit : ∀ k, k < ah → (py + k) * fw + px + aw ≤ S.length) :
    Calls Try.prog 80 #[IV fw fh (.slice (some ⟨fb, foff, none⟩) fn fcap), RV ⟨px, py, aw, ah⟩] w fun e w' =>
      ∃ g, e = .returned (IV aw ah (.slice (some ⟨g, 0, none⟩) (aw * ah) (aw * ah))) ∧ w.heap.size ≤ g ∧ Pix w' g (cutL fw px py aw ah S) ∧ Below w.heap.size w w' := by
  obtain ⟨n, hn⟩ : ∃ n, aw * ah = n := ⟨_, rfl⟩
  have hnm : n ≤ 1048576 := by rw [← hn]; exact Nat.mul_le_mul ha2 hh2
  have Hfit := Lib.hid hfit
  have HSr := Lib.hid hSr
  clear hfit hSr
  rw [hn]
  go_enter Try.func80, Try.ntmps80
  go_wp2_with fail
  refine Calls.mono (blank_any aw ah n _ hn hnm) ?_
  rintro e w1 ⟨g, rfl, hg1, hP1, hb1⟩
  have hg := heap_pushed [.cells #[.int .i64 (fw : Int), .int .i64 (fh : Int), .slice (some ⟨fb, foff, none⟩) fn fcap] 39, .cells #[.int .i64 (px : Int), .int .i64 (py : Int), .int .i64 (aw : Int), .int .i64 (ah : Int)] 30, .cells #[.int .i64 0, .int .i64 0, .slice none 0 0] 39] w
  simp only [List.foldl_cons, List.foldl_nil] at hg
  have hB3 := Below.al3 w (.cells #[.int .i64 (fw : Int), .int .i64 (fh : Int), .slice (some ⟨fb, foff, none⟩) fn fcap] 39) (.cells #[.int .i64 (px : Int), .int .i64 (py : Int), .int .i64 (aw : Int), .int .i64 (ah : Int)] 30) (.cells #[.int .i64 0, .int .i64 0, .slice none 0 0] 39)
  have hsz : (((w.alloc (.cells #[.int .i64 (fw : Int), .int .i64 (fh : Int), .slice (some ⟨fb, foff, none⟩) fn fcap] 39)).alloc (.cells #[.int .i64 (px : Int), .int .i64 (py : Int), .int .i64 (aw : Int), .int .i64 (ah : Int)] 30)).alloc (.cells #[.int .i64 0, .int .i64 0, .slice none 0 0] 39)).heap.size = w.heap.size + 3 := by simp
  generalize (((w.alloc (.cells #[.int .i64 (fw : Int), .int .i64 (fh : Int), .slice (some ⟨fb, foff, none⟩) fn fcap] 39)).alloc (.cells #[.int .i64 (px : Int), .int .i64 (py : Int), .int .i64 (aw : Int), .int .i64 (ah : Int)] 30)).alloc (.cells #[.int .i64 0, .int .i64 0, .slice none 0 0] 39)) = W0 at *
  have bm0 : Im3 W0 w.heap.size fw fh (.slice (some ⟨fb, foff, none⟩) fn fcap) := (hg 0 _).2 rfl
  have bp0 : W0.heap[w.heap.size + 1]? = some (.cells #[.int .i64 (px : Int), .int .i64 (py : Int), .int .i64 (aw : Int), .int .i64 (ah : Int)] 30) := (hg 1 _).2 rfl
  have br0 : Im3 W0 (w.heap.size + 1 + 1) 0 0 (.slice none 0 0) := (hg 2 _).2 rfl
  have hal := Below.al1 w1 (.cells #[.int .i64 (aw : Int), .int .i64 (ah : Int), .slice (some ⟨g, 0, none⟩) n n] 39)
  have hbW := Below.thn hb1 hal
  have HB := Lib.hid (hB3.trans (hbW.mono hB3.size))
  have b5 : Im3 (w1.alloc (.cells #[.int .i64 (aw : Int), .int .i64 (ah : Int), .slice (some ⟨g, 0, none⟩) n n] 39)) w1.heap.size aw ah (.slice (some ⟨g, 0, none⟩) n n) := World.alloc_heap_new _ _
  have bm := bm0.later hbW
  have bp := (hbW.block _ (by omega)).trans bp0
  have br := br0.later hbW
  have HP := Lib.hid (hP1.later hal)
  have hg3 : w.heap.size + 3 ≤ g := by omega
  have hg5 : g < w1.heap.size := hP1.lt
  have h15 : w.heap.size + 3 ≤ w1.heap.size := by have := hb1.size; omega
  clear hg hb1 hal hbW bm0 bp0 br0 hP1 hg1 hB3 hsz
  go_upto_region 2 with (fail)
  generalize (w1.alloc (.cells #[.int .i64 (aw : Int), .int .i64 (ah : Int), .slice (some ⟨g, 0, none⟩) n n] 39)) = W at *
  have hne := After.ne W
  have Hbm := Lib.hid bm
  have Hbp := Lib.hid bp
  have Hbr := Lib.hid br
  have Hb5 := Lib.hid b5
  have hWsz : w1.heap.size < W.heap.size := b5.lt
  have k0 := After.rule bm.cells.1
  have k1 := After.rule bm.cells.2.1
  have k2 := After.rule bm.cells.2.2
  have k3 := After.rule b5.cells.1
  have k4 := After.rule b5.cells.2.1
  have k5 := After.rule b5.cells.2.2
  have q0 : W.cell? ⟨w.heap.size + 1, 0, none⟩ = some (.int .i64 (px : Nat)) := by simp [World.cell?, bp]
  have q1 : W.cell? ⟨w.heap.size + 1, 1, none⟩ = some (.int .i64 (py : Nat)) := by simp [World.cell?, bp]
  have q2 : W.cell? ⟨w.heap.size + 1, 2, none⟩ = some (.int .i64 (aw : Nat)) := by simp [World.cell?, bp]
  have q3 : W.cell? ⟨w.heap.size + 1, 3, none⟩ = some (.int .i64 (ah : Nat)) := by simp [World.cell?, bp]
  have k6 := After.rule q0
  have k7 := After.rule q1
  have k8 := After.rule q2
  have k9 := After.rule q3
  clear bm bp br b5 q0 q1 q2 q3
  refine wp_region_head 5 (by kernel_rfl) (by kernel_rfl) (by kernel_rfl) ?_
  repeat (refine Lq_step (fun K hK => ?_); go_simp; first | (refine hK _ ?_; clear hK K) | (apply Exists.intro; refine ⟨fun n => ?_, hK _ ?_⟩; (go_at_call 81; exact whole_any _ _ _ _); clear hK K))
  refine Lq_nil ?_
  intro w2 hb2
  clear k0 k1 k2 k3 k4 k5 k6 k7 k8 k9 hne
  have hP2 := HP.out.later hb2
  have HB2 := Lib.hid (HB.out.trans (hb2.mono HB.out.size))
  have hlen : (List.replicate n (0 : Int)).length = n := List.length_replicate
  have hlay := lay_any aw ah 0 0 aw ah fw fh px py g fb foff fn fcap S (List.replicate n 0) w2 hP2 (HSr.out.below HB2.out) (by
    rcases HSr.out with ⟨h, _⟩ | ⟨b, off, h, h3, _⟩
    · cases h
    · cases h; omega) hSl hcap hmax (by omega) hS (fun v hv => by rw [List.mem_replicate] at hv; omega) (by omega) hw2 (by omega) hy2 ha (fun k hk => ⟨by
      rw [hlen, ← hn, Nat.zero_add, Nat.add_zero]
      have : (k + 1) * aw ≤ ah * aw := Nat.mul_le_mul_right aw (by omega)
      rw [Nat.add_mul, Nat.one_mul, Nat.mul_comm ah aw] at this
      exact this, Hfit.out k hk⟩)
  rw [hlen, show ((0 : Nat) : Int) = 0 from rfl] at hlay
  go_wp2_with fail
  refine Calls.mono hlay ?_
  rintro e w3 ⟨rfl, hP3, ht3⟩
  have b53 := (Hb5.out.later hb2).same (ht3.block _ (Hb5.out.later hb2).lt (by omega))
  have br3 := (Hbr.out.later hb2).same (ht3.block _ (Hbr.out.later hb2).lt (by omega))
  obtain ⟨c0, c1, c2⟩ := b53.cells
  obtain ⟨d0, d1, d2⟩ := br3.cells
  have f0 := br3.free 0
  have f1 := br3.free 1
  have f2 := br3.free 2
  have Hres := Lib.hid (br3.set aw ah (.slice (some ⟨g, 0, none⟩) n n))
  have Hbel := Lib.hid (HB2.out.trans (ht3.below (B := w.heap.size) HB2.out.size (fun i hi => by omega)))
  have HP3 := Lib.hid hP3
  have hgn : g ≠ w.heap.size + 1 + 1 := by omega
  clear hlay hP2 hP3 ht3 b53 br3 hb2
  go_wp2
  refine bodyPost_ret (v := IV aw ah (.slice (some ⟨g, 0, none⟩) n n)) (results_iv (B := w.heap.size + 1 + 1) Try.results80 rfl Hres.out) rfl ⟨g, rfl, by omega, ?_, Hbel.out.trans ((below_set3 _ _ _).mono (by omega))⟩
  rw [cutL, hn]
  exact HP3.out.same (((Below.heap_setCell _ _ _ _ (fun e => hgn e)).trans (Below.heap_setCell _ _ _ _ (fun e => hgn e))).trans (Below.heap_setCell _ _ _ _ (fun e => hgn e)))

end Go.Proofs.Ytpddkhhdleknnaa

/- The walk of package rect's In: what it answers. -/
namespace Go.Proofs.Ytpddkhhdleknnaa
open Go.RowKit

theorem Lies.after {w : World} {B : Nat} {r : Rc} (h : Lies w B r) (n : After w) : Lies n.world B r := h.later n.below

set_option maxHeartbeats 800000 in
theorem in_any (r s : Rc) (w : World) (hfr : Fit r) (hfs : Fit s) : Makes Try.prog 54 #[RV r, RV s] w (.bool (inR r s)) := by
  unfold Makes
  go_enter Try.func54, Try.ntmps54
  go_wp2
  have hl : Lies ((w.alloc (.cells #[.int .i64 r.x, .int .i64 r.y, .int .i64 r.a, .int .i64 r.b] 30)).alloc (.cells #[.int .i64 s.x, .int .i64 s.y, .int .i64 s.a, .int .i64 s.b] 30)) w.heap.size r := (Lies.new rfl).later (Below.al1 _ _)
  have hm : Lies ((w.alloc (.cells #[.int .i64 r.x, .int .i64 r.y, .int .i64 r.a, .int .i64 r.b] 30)).alloc (.cells #[.int .i64 s.x, .int .i64 s.y, .int .i64 s.a, .int .i64 s.b] 30)) (w.heap.size + 1) s := Lies.new (by simp)
  have hbw := Below.al2 w (.cells #[.int .i64 r.x, .int .i64 r.y, .int .i64 r.a, .int .i64 r.b] 30) (.cells #[.int .i64 s.x, .int .i64 s.y, .int .i64 s.a, .int .i64 s.b] 30)
  generalize ((w.alloc (.cells #[.int .i64 r.x, .int .i64 r.y, .int .i64 r.a, .int .i64 r.b] 30)).alloc (.cells #[.int .i64 s.x, .int .i64 s.y, .int .i64 s.a, .int .i64 s.b] 30)) = W at *
  have c0 := After.cell hl.c0
  have c1 := After.cell hl.c1
  have c2 := After.cell hl.c2
  have c3 := After.cell hl.c3
  have d0 := After.cell hm.c0
  have d1 := After.cell hm.c1
  have d2 := After.cell hm.c2
  have d3 := After.cell hm.c3
  clear hl hm
  have hne := After.ne W
  have hq := eql_rc
  have hg := guard_rc
  cases her : emptyR r
  · have hE : ∀ w1, Makes Try.prog 64 #[RV r] w1 (.bool false) := fun w1 => her ▸ empty_any r w1 hfr
    have HE := Lib.hid hE
    have Her := Lib.hid her
    clear hE her
    refine wp_region_after (by kernel_rfl) (by kernel_rfl) ?_
    repeat (go_big_quiet_step ((first | (go_at_call 64; exact Makes.after (HE.out _)) | (go_at_call 83; exact Makes.after (and_any _ _ _ hfr hfs)))))
    refine wpQuiet_nil ?_
    rintro _ ⟨nq, rfl⟩
    go_wp2
    go_ret
    exact ⟨ret_bool (show eqR (andR r s) r = inR r s from by simp [inR, Her.out]), Below.thn hbw nq.below⟩
  · have hE : ∀ w1, Makes Try.prog 64 #[RV r] w1 (.bool true) := fun w1 => her ▸ empty_any r w1 hfr
    have HE := Lib.hid hE
    have Her := Lib.hid her
    clear hE her
    refine wp_region_after (by kernel_rfl) (by kernel_rfl) ?_
    repeat (go_big_quiet_step ((go_at_call 64; exact Makes.after (HE.out _))))
    refine wpQuiet_nil ?_
    rintro _ ⟨nq, rfl⟩
    go_wp2
    go_ret
    exact ⟨ret_bool (by simp [inR, Her.out]), Below.thn hbw nq.below⟩

end Go.Proofs.Ytpddkhhdleknnaa
