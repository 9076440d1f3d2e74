/- What the walk of PixbufTwo asks for: the document's Is, Diff, Same and Rects as they are called there, and plain facts. -/
import Derived.Test.YtpddkhhdleknnaaZ42
import Derived.Test.YtpddkhhdleknnaaZ43
import Derived.Test.YtpddkhhdleknnaaZ44
import Derived.Test.YtpddkhhdleknnaaZ46
import Derived.Test.YtpddkhhdleknnaaZ36
import Derived.Deep.RegionWith
import Derived.Deep.RegionHeld3
import Derived.Deep.DeepCutAuto
import Derived.Handy
namespace Go.Proofs.Ytpddkhhdleknnaa
open Go.RowKit

theorem refIs_eq {t : Bool} (wd ht : Int) (p : Option Addr) (n c : Nat) (w : World) (h : pictB wd ht n = t) : Makes Try.prog 29 #[IV wd ht (.slice p n c)] w (.bool t) := h ▸ refIs_any wd ht p n c w

theorem image_len (B wd ht g n : Nat) (L : List Int) (w : World) (h : BufAt w B wd ht g L) (hn : L.length = n) :
    Calls Try.prog 45 #[.pointer (some ⟨B, 0, none⟩)] w fun e w' => ∃ g', e = .returned (IV wd ht (.slice (some ⟨g', 0, none⟩) n n)) ∧ w.heap.size ≤ g' ∧ Pix w' g' L ∧ Below w.heap.size w w' := by
  have := image_any B wd ht g L w h
  rw [hn] at this
  exact this
theorem refSame_len {t : Bool} (wd ht wd' ht' : Int) (p p' : Option Addr) (n n' c c' : Nat) (L M : List Int) (w : World) (hL : RowAt encU 1 w p L) (hM : RowAt encU 1 w p' M) (h1 : L.length = n) (h2 : M.length = n') (hl : n ≤ 1048576) (ht0 : (decide (wd = wd') && (decide (ht = ht') && eqL L M)) = t) :
    Makes Try.prog 30 #[IV wd ht (.slice p n c), IV wd' ht' (.slice p' n' c')] w (.bool t) := by
  have := refSame_any wd ht wd' ht' p p' c c' L M w hL hM (by omega)
  rw [h1, h2, ht0] at this
  exact this

theorem cutL_map {a b : Nat} {S : List Int} (hS : U32 S) (hl : a * b = S.length) : cutL a 0 0 a b S = S.map cut24 := by
  have hfit : ∀ k, k < b → (0 + k) * a + 0 + a ≤ S.length := fun k hk => by
    rw [← hl, Nat.zero_add, Nat.add_zero]
    have : (k + 1) * a ≤ b * a := Nat.mul_le_mul_right a (by omega)
    rw [Nat.add_mul, Nat.one_mul, Nat.mul_comm b a] at this
    exact this
  refine pix_ext (cutL_ok hS hfit).1 (by rw [List.length_map]; exact hl.symm) fun X Y hX hY => ?_
  have h1 := cutL_get hS hfit (x := X) (y := Y) hX hY
  rw [Nat.zero_add, Nat.add_zero] at h1
  rw [h1, List.getElem?_map]
theorem heap_set_other {w : World} {B C i : Nat} (hne : C ≠ B) (x : Value) : (w.setCell ⟨C, i, none⟩ x).heap[B]? = w.heap[B]? := by
  show (w.heap.modify C _)[B]? = _
  rw [Array.getElem?_modify, if_neg hne]
theorem im3_other {w : World} {B C : Nat} {wd ht : Int} {sv : Value} (h : Im3 w B wd ht sv) (hne : C ≠ B) (x y z : Value) : Im3 (((w.setCell ⟨C, 0, none⟩ x).setCell ⟨C, 1, none⟩ y).setCell ⟨C, 2, none⟩ z) B wd ht sv :=
  h.same (by rw [heap_set_other hne, heap_set_other hne, heap_set_other hne])
theorem own_at {w : World} {base n c : Nat} {p : Option Addr} {l : List Int} (h : w.ownsRow base 49 1 (.slice p n c) n (u32V l)) (hn : l.length = n) (h0 : 0 < n) : ∃ g, p = some ⟨g, 0, none⟩ ∧ RowAt encU 1 w p l ∧ base ≤ g ∧ ∀ cs, w.heap[g]? ≠ some (.cells cs 39) := by
  have hfl : ∀ l : List Int, u32V l = l.flatMap encU := fun l => by
    induction l with
    | nil => rfl
    | cons a r ih => rw [List.flatMap_cons, ← ih]; rfl
  have h2 := h.2
  subst hn
  rw [hfl] at h
  have hr := owns_row' (enc := encU) (k := 1) (fun _ => rfl) h
  obtain ⟨p', c', e, -, -, hr⟩ := hr
  cases e
  rcases h2 with ⟨-, h2⟩ | ⟨g, cap, cur, e, hg, hh, -⟩
  · omega
  · cases e
    exact ⟨g, rfl, hr, hg, fun cs hc => by rw [hh] at hc; simp at hc⟩
theorem rects3_any (v u : Value) (xs : List Rc) (w : World) (hv : Row encR 4 w v xs) (hu : Row encR 4 w u xs) : Makes Try.prog 50 #[v, u] w (.bool true) := by
  unfold Makes
  have hc := refRects_any v u xs xs w hv hu
  rw [eqRs_iff.2 rfl] at hc
  have Hc := Lib.hid hc
  clear hv hu hc
  go_enter Try.func50, Try.ntmps50
  go_wp2_with fail
  refine Calls.mono Hc.out ?_
  rintro e w1 ⟨rfl, hb1⟩
  go_wp2
  go_ret
  exact ⟨rfl, hb1⟩
theorem refDiff_len (wd ht n n' : Nat) (p p' : Option Addr) (c c' : Nat) (L M : List Int) (w : World) (hL : RowAt encU 1 w p L) (hM : RowAt encU 1 w p' M) (hl1 : L.length = n) (hl2 : M.length = n') (hl : wd * ht = n) (hl' : wd * ht = n') (hwd : 1 ≤ wd ∧ wd ≤ 256) (hht : 1 ≤ ht ∧ ht ≤ 256) :
    Calls Try.prog 51 #[IV wd ht (.slice p n c), IV wd ht (.slice p' n' c')] w fun e w' => ∃ u, e = .returned u ∧ Row encR 4 w' u (unlL wd ht L M) ∧ Below w.heap.size w w' := by
  have := refDiff_any wd ht wd ht p p' c c' L M w hL hM (by omega) (by omega) hwd hht
  rw [hl1, hl2] at this
  refine Calls.mono this ?_
  rintro e w' ⟨u, rfl, hu, hb⟩
  exact ⟨u, rfl, owns_row' (enc := encR) (k := 4) (fun _ => rfl) hu, hb⟩

theorem Im3.rules {W : World} {B : Nat} {wd ht : Int} {sv : Value} (h : Im3 W B wd ht sv) : (∀ n : After W, n.world.cell? ⟨B, 0, none⟩ = some (.int .i64 wd)) ∧ (∀ n : After W, n.world.cell? ⟨B, 1, none⟩ = some (.int .i64 ht)) ∧ ∀ n : After W, n.world.cell? ⟨B, 2, none⟩ = some sv :=
  ⟨After.rule h.cells.1, After.rule h.cells.2.1, After.rule h.cells.2.2⟩

theorem s3_later {w wx : World} {a b c : Addr} {x y z : Value} (hb : Below w.heap.size w wx) (h : w.cell? a = some x ∧ w.cell? b = some y ∧ w.cell? c = some z) : wx.cell? a = some x ∧ wx.cell? b = some y ∧ wx.cell? c = some z :=
  ⟨cell_later hb h.1, cell_later hb h.2.1, cell_later hb h.2.2⟩

theorem s6_later {w wx : World} {a b c d e f : Addr} {x y z p q r : Value} (hb : Below w.heap.size w wx) (h : (w.cell? a = some x ∧ w.cell? b = some y ∧ w.cell? c = some z) ∧ (w.cell? d = some p ∧ w.cell? e = some q ∧ w.cell? f = some r)) : (wx.cell? a = some x ∧ wx.cell? b = some y ∧ wx.cell? c = some z) ∧ (wx.cell? d = some p ∧ wx.cell? e = some q ∧ wx.cell? f = some r) :=
  ⟨s3_later hb h.1, s3_later hb h.2⟩
theorem undrew {w w' : World} (h : Below w.drew.heap.size w.drew w') : Below w.heap.size w w' := ⟨h.os, h.tape, h.output, h.size, h.block⟩
def postImg (wd ht : Int) (n base : Nat) (L : List Int) (v : Value) (w : World) : Prop := ∃ p c, v = IV wd ht (.slice p n c) ∧ w.ownsRow base 49 1 (.slice p n c) n (u32V L)
def postBox (base : Nat) (v : Value) (w : World) : Prop := ∃ B, v = .pointer (some ⟨B, 0, none⟩) ∧ base ≤ B ∧ Im3 w B 0 0 (.slice none 0 0)
theorem postImg_stays (wd ht : Int) (n base : Nat) (L : List Int) (v : Value) : Stays (postImg wd ht n base L v) := by
  rintro w1 w2 ⟨p, c, e, h⟩ hb
  exact ⟨p, c, e, (Turns.of_below' (T := fun _ => False) hb).owns h (fun _ _ h => h)⟩
theorem postBox_stays (base : Nat) (v : Value) : Stays (postBox base v) := by
  rintro w1 w2 ⟨B, e, h1, h2⟩ hb
  exact ⟨B, e, h1, h2.later hb⟩
theorem posts_stay {a b c d : Value → World → Prop} (ha : ∀ v, Stays (a v)) (hb : ∀ v, Stays (b v)) (hc : ∀ v, Stays (c v)) (hd : ∀ v, Stays (d v)) : ∀ p ∈ [a, b, c, d], ∀ v, Stays (p v) := by
  intro p hp
  rcases List.mem_cons.1 hp with rfl | hp
  · exact ha
  rcases List.mem_cons.1 hp with rfl | hp
  · exact hb
  rcases List.mem_cons.1 hp with rfl | hp
  · exact hc
  rcases List.mem_cons.1 hp with rfl | hp
  · exact hd
  cases hp
theorem Md_cons {P : Program} {W : World} {F : (World → List Nat → Prop) → Act → Prop} {j : Maker} {rest : List Maker} {Kn : World → List Nat → Prop} {a : Act} (h1 : ∀ m : After W, mkOut P m.world (newPost m.world j.post) ((execOp a.eval j.op).run P m.world))
    (h2 : ∀ v, Md P W F rest (fun w us => ∃ us', us.Perm (blkOf v ++ us') ∧ Kn w us' ∧ j.post v w) (a.put j.op.dst v)) : Md P W F (j :: rest) Kn a := ⟨h1, h2⟩
theorem Md_nil {P : Program} {W : World} {F : (World → List Nat → Prop) → Act → Prop} {Kn : World → List Nat → Prop} {a : Act} (h : F Kn a) : Md P W F [] Kn a := h
theorem apart2 {us us1 us2 : List Nat} {x y : Nat} (hn : us.Nodup) (p1 : us.Perm ([y] ++ us1)) (p2 : us1.Perm ([x] ++ us2)) : x ≠ y := by
  rintro rfl
  have h1 := p1.nodup_iff.1 hn
  have h2 : x ∈ us1 := p2.mem_iff.2 (by simp)
  exact (List.nodup_cons.1 h1).1 h2

end Go.Proofs.Ytpddkhhdleknnaa
