/- Several texts in one, each with its own head. -/
import Derived.Test.YtpddkhhdleknnaaZ12
import Derived.Deep.RegionWith
import Derived.Deep.DeepCutAuto
import Derived.Handy
/- The document's own Same, of two pictures: what it answers. -/
namespace Go.Proofs.Ytpddkhhdleknnaa
open Go.RowKit

theorem eqL_len {l m : List Int} (h : l.length ≠ m.length) : eqL l m = false := by
  cases h1 : eqL l m with
  | false => rfl
  | true => exact absurd (congrArg List.length (eqL_iff.1 h1)) h

theorem Im3.new {w : World} {n : Nat} {wd ht : Int} {sv : Value} (h : n = w.heap.size) : Im3 (w.alloc (.cells #[.int .i64 wd, .int .i64 ht, sv] 39)) n wd ht sv := by
  subst h
  exact Array.getElem?_push_size

theorem RowAt.u32_at {w : World} {p : Option Addr} {l : List Int} (h : RowAt encU 1 w p l) {k : Nat} (hk : k < l.length) : ∃ b off, p = some ⟨b, off, none⟩ ∧ ∀ w', Below w.heap.size w w' → w'.cell? ⟨b, off + k, none⟩ = some (.int .u32 l[k]) := by
  rcases h with ⟨_, rfl⟩ | ⟨b, off, rfl, hb, hc⟩
  · simp at hk
  · refine ⟨b, off, rfl, fun w' hbw => ?_⟩
    have h1 := hc k l[k] (List.getElem?_eq_getElem hk) 0 (.int .u32 l[k]) rfl
    exact cell_later hbw (by simpa using h1)

set_option maxHeartbeats 1000000 in
theorem refSame_any (wd ht wd' ht' : Int) (p p' : Option Addr) (c c' : Nat) (L M : List Int) (w : World) (hL : RowAt encU 1 w p L) (hM : RowAt encU 1 w p' M) (hl : L.length ≤ 1048576) :
    Makes Try.prog 30 #[IV wd ht (.slice p L.length c), IV wd' ht' (.slice p' M.length c')] w (.bool (decide (wd = wd') && (decide (ht = ht') && eqL L M))) := by
  unfold Makes
  by_cases h1 : wd = wd'
  · by_cases h2 : ht = ht'
    · by_cases h3 : L.length = M.length
      · have b1 : (wd != wd') = false := by simp [h1]
        have b2 : (ht != ht') = false := by simp [h2]
        have b3 : ((L.length : Int) != (M.length : Int)) = false := by simp [h3]
        have hv : (decide (wd = wd') && (decide (ht = ht') && eqL L M)) = eqL L M := by simp [h1, h2]
        rw [hv]
        have H3 := Lib.hid h3
        have HL := Lib.hid hL
        have HM := Lib.hid hM
        clear h1 h2 h3 hv hL hM
        go_enter Try.func30, Try.ntmps30
        go_wp2
        obtain ⟨W0, hW0⟩ : ∃ W0, (w.alloc (.cells #[.int .i64 wd, .int .i64 ht, .slice p L.length c] 39)).alloc (.cells #[.int .i64 wd', .int .i64 ht', .slice p' M.length c'] 39) = W0 := ⟨_, rfl⟩
        have i1 : Im3 W0 w.heap.size wd ht (.slice p L.length c) := by rw [← hW0]; exact Im3.later (Im3.new rfl) (Below.al1 _ _)
        have i2 : Im3 W0 (w.heap.size + 1) wd' ht' (.slice p' M.length c') := by rw [← hW0]; exact Im3.new (by simp)
        have hb0 : Below w.heap.size w W0 := by rw [← hW0]; exact Below.al2 _ _ _
        rw [hW0]
        clear hW0
        have I1 := Lib.hid i1
        have I2 := Lib.hid i2
        have Hb0 := Lib.hid hb0
        clear i1 i2 hb0
        go_loopw [5] (fun i wr => ∃ k : Nat, k ≤ L.length ∧ i = .int .i64 k ∧ Below W0.heap.size W0 wr ∧ Hid (eqL L M = eqL (L.drop k) (M.drop k))) (fun i _ => L.length - (intOf i).toNat)
        case atStart => exact ⟨0, by omega, rfl, Below.refl _ _, Lib.hid rfl⟩
        case round =>
          obtain ⟨k, hk, rfl, hb, he⟩ := hrel
          obtain ⟨-, -, e1⟩ := (I1.out.later hb).cells
          obtain ⟨-, -, e2⟩ := (I2.out.later hb).cells
          by_cases hlt : k < L.length
          · have hlt2 : k < M.length := by rw [← H3.out]; exact hlt
            obtain ⟨g1, o1, rfl, f1⟩ := HL.out.u32_at hlt
            obtain ⟨g2, o2, rfl, f2⟩ := HM.out.u32_at hlt2
            have c0 := f1 wr (Hb0.out.trans (hb.mono Hb0.out.size))
            have c1 := f2 wr (Hb0.out.trans (hb.mono Hb0.out.size))
            have Hat := Lib.hid (eqL_at hlt hlt2)
            clear f1 f2
            generalize L[k] = a at *
            generalize M[k] = b at *
            go_wp2
            by_cases hab : a = b
            · have hab' : ((a : Int) != b) = false := by simp [hab]
              have Hn := Lib.hid (show eqL L M = eqL (L.drop (k + 1)) (M.drop (k + 1)) by rw [he.out, Hat.out]; simp [hab])
              clear hab
              go_quiet (fail)
              go_wp2
              go_roundw
              case rel => exact ⟨k + 1, by omega, by go_num, Below.drewN' hb _, Hn⟩
              case measure => simp [intOf]; omega
            · have hab' : ((a : Int) != b) = true := by simpa using hab
              have Hn := Lib.hid (show eqL L M = false by rw [he.out, Hat.out]; simp [hab])
              clear hab
              go_quiet (fail)
              go_wp2
              go_ret
              exact ⟨ret_bool Hn.out.symm, Below.drewN' (Hb0.out.trans (hb.mono Hb0.out.size)) _⟩
          · have Hn := Lib.hid (show eqL L M = true by
              rw [he.out, List.drop_eq_nil_of_le (by omega), List.drop_eq_nil_of_le (by have := H3.out; omega)]; rfl)
            go_wp2
            go_ret
            exact ⟨ret_bool Hn.out.symm, Hb0.out.trans (hb.mono Hb0.out.size)⟩
      · have b1 : (wd != wd') = false := by simp [h1]
        have b2 : (ht != ht') = false := by simp [h2]
        have b3 : ((L.length : Int) != (M.length : Int)) = true := by simp; omega
        have hv : (decide (wd = wd') && (decide (ht = ht') && eqL L M)) = false := by rw [eqL_len h3]; simp
        rw [hv]
        clear h1 h2 h3 hv
        go_enter Try.func30, Try.ntmps30
        go_wp2
        go_ret
        exact ⟨rfl, Below.al2 _ _ _⟩
    · have b1 : (wd != wd') = false := by simp [h1]
      have b2 : (ht != ht') = true := by simpa using h2
      have hv : (decide (wd = wd') && (decide (ht = ht') && eqL L M)) = false := by simp [h2]
      rw [hv]
      clear h1 h2 hv
      go_enter Try.func30, Try.ntmps30
      go_wp2
      go_ret
      exact ⟨rfl, Below.al2 _ _ _⟩
  · have b1 : (wd != wd') = true := by simpa using h1
    have hv : (decide (wd = wd') && (decide (ht = ht') && eqL L M)) = false := by simp [h1]
    rw [hv]
    clear h1 hv
    go_enter Try.func30, Try.ntmps30
    go_wp2
    go_ret
    exact ⟨rfl, Below.al2 _ _ _⟩

end Go.Proofs.Ytpddkhhdleknnaa

/- pixbuf's Copy: what it answers, and what it leaves. -/
namespace Go.Proofs.Ytpddkhhdleknnaa
open Go.RowKit

/-- A Copy's value. -/
abbrev CV (r : Rc) (dx dy : Int) : Value := .agg #[.int .i64 r.x, .int .i64 r.y, .int .i64 r.a, .int .i64 r.b, .int .i64 dx, .int .i64 dy]

theorem copy_cells {w : World} {B : Nat} {a b c d e f : Value} {t : TypeId} (h : w.heap[B]? = some (.cells #[a, b, c, d, e, f] t)) :
    w.cell? ⟨B, 0, none⟩ = some a ∧ w.cell? ⟨B, 1, none⟩ = some b ∧ w.cell? ⟨B, 2, none⟩ = some c ∧ w.cell? ⟨B, 3, none⟩ = some d ∧ w.cell? ⟨B, 4, none⟩ = some e ∧ w.cell? ⟨B, 5, none⟩ = some f := by
  refine ⟨?_, ?_, ?_, ?_, ?_, ?_⟩ <;> simp [World.cell?, h]

theorem allInB_yes {px py aw ah wd ht : Nat} (ha : 1 ≤ aw) (hh : 1 ≤ ah) (h1 : px + aw ≤ wd) (h2 : py + ah ≤ ht) (hwd : 1 ≤ wd ∧ wd ≤ 256) (hht : 1 ≤ ht ∧ ht ≤ 256) : allInB ⟨px, py, aw, ah⟩ wd ht = true := by
  have he : emptyR ⟨px, py, aw, ah⟩ = false := emptyR_false.2 (by simp only; omega)
  have he2 : emptyR ⟨0, 0, (wd : Int), (ht : Int)⟩ = false := emptyR_false.2 (by simp only; omega)
  rw [allInB, he, in_iff.2 (.inr ⟨he, he2, by simp only; omega, by simp only; omega, by simp only; omega, by simp only; omega⟩)]; rfl

/-- The two ends of a region that takes a picture into a new place: the place was made behind the call, or ahead of it. -/
theorem copy_end1 {w4 w5 : World} {aw ah g6 : Nat} {l : List Int} (hg : w4.drew.heap.size ≤ g6) (hP : Pix w5 g6 l) (hb : Below w4.drew.heap.size w4.drew w5) :
    ∃ B6 g', Value.pointer (some ⟨w5.heap.size, 0, none⟩) = .pointer (some ⟨B6, 0, none⟩) ∧ Im3 (w5.alloc (.cells #[.int .i64 (aw : Int), .int .i64 (ah : Int), .slice (some ⟨g6, 0, none⟩) (aw * ah) (aw * ah)] 39)) B6 aw ah (.slice (some ⟨g', 0, none⟩) (aw * ah) (aw * ah)) ∧
      Pix (w5.alloc (.cells #[.int .i64 (aw : Int), .int .i64 (ah : Int), .slice (some ⟨g6, 0, none⟩) (aw * ah) (aw * ah)] 39)) g' l ∧ Below w4.heap.size w4 (w5.alloc (.cells #[.int .i64 (aw : Int), .int .i64 (ah : Int), .slice (some ⟨g6, 0, none⟩) (aw * ah) (aw * ah)] 39)) ∧ w4.heap.size ≤ g' := by
  have h0 : Below w4.heap.size w4 w5 := (Below.drew (Below.refl _ _)).trans hb
  exact ⟨_, g6, rfl, Im3.new rfl, hP.later (Below.al1 _ _), h0.trans ((Below.al1 w5 _).mono h0.size), hg⟩
theorem copy_end2 {w4 w5 : World} {aw ah g6 : Nat} {l : List Int} {o : Value} (hg : (w4.alloc (.cells #[.int .i64 0, .int .i64 0, o] 39)).drew.heap.size ≤ g6) (hP : Pix w5 g6 l) (hb : Below (w4.alloc (.cells #[.int .i64 0, .int .i64 0, o] 39)).drew.heap.size (w4.alloc (.cells #[.int .i64 0, .int .i64 0, o] 39)).drew w5) :
    ∃ B6 g', Value.pointer (some ⟨w4.heap.size, 0, none⟩) = .pointer (some ⟨B6, 0, none⟩) ∧ Im3 (((w5.setCell ⟨w4.heap.size, 0, none⟩ (.int .i64 (aw : Int))).setCell ⟨w4.heap.size, 1, none⟩ (.int .i64 (ah : Int))).setCell ⟨w4.heap.size, 2, none⟩ (.slice (some ⟨g6, 0, none⟩) (aw * ah) (aw * ah))) B6 aw ah (.slice (some ⟨g', 0, none⟩) (aw * ah) (aw * ah)) ∧
      Pix (((w5.setCell ⟨w4.heap.size, 0, none⟩ (.int .i64 (aw : Int))).setCell ⟨w4.heap.size, 1, none⟩ (.int .i64 (ah : Int))).setCell ⟨w4.heap.size, 2, none⟩ (.slice (some ⟨g6, 0, none⟩) (aw * ah) (aw * ah))) g' l ∧ Below w4.heap.size w4 (((w5.setCell ⟨w4.heap.size, 0, none⟩ (.int .i64 (aw : Int))).setCell ⟨w4.heap.size, 1, none⟩ (.int .i64 (ah : Int))).setCell ⟨w4.heap.size, 2, none⟩ (.slice (some ⟨g6, 0, none⟩) (aw * ah) (aw * ah))) ∧ w4.heap.size ≤ g' := by
  have hsz : (w4.alloc (.cells #[.int .i64 0, .int .i64 0, o] 39)).drew.heap.size = w4.heap.size + 1 := by simp
  have h1 : Below w4.heap.size w4 (w4.alloc (.cells #[.int .i64 0, .int .i64 0, o] 39)).drew := Below.drew (Below.al1 _ _)
  have h0 : Below w4.heap.size w4 w5 := h1.trans (hb.mono h1.size)
  have hi : Im3 (w4.alloc (.cells #[.int .i64 0, .int .i64 0, o] 39)).drew w4.heap.size 0 0 o := Im3.new (w := w4) rfl
  have hgn : g6 ≠ w4.heap.size := by omega
  refine ⟨_, g6, rfl, (hi.later hb).set _ _ _, ?_, h0.trans (below_set3 _ _ _), by omega⟩
  exact hP.same (((Below.heap_setCell _ _ _ _ (fun e => hgn e)).trans (Below.heap_setCell _ _ _ _ (fun e => hgn e))).trans (Below.heap_setCell _ _ _ _ (fun e => hgn e)))

set_option maxRecDepth 100000 in
set_option maxHeartbeats 4000000 in
theorem copy_yes (B wd ht g tx ty aw ah fx fy : Nat) (dx dy : Int) (L : List Int) (w : World) (h : BufAt w B wd ht g L) (hBg : B ≠ g) (ha : 1 ≤ aw) (hh : 1 ≤ ah) (t1 : tx + aw ≤ wd) (t2 : ty + ah ≤ ht) (f1 : fx + aw ≤ wd) (f2 : fy + ah ≤ ht)
    (h4 : shiftR ⟨tx, ty, aw, ah⟩ (IntKind.i64.wrap (-dx)) (IntKind.i64.wrap (-dy)) = ⟨fx, fy, aw, ah⟩) :
    Calls Try.prog 40 #[.pointer (some ⟨B, 0, none⟩), CV ⟨tx, ty, aw, ah⟩ dx dy] w fun e w' =>
      e = .returned (.int .i64 0) ∧ BufAt w' B wd ht g (layL wd tx ty aw aw 0 0 (cutL wd fx fy aw ah L) L ah) ∧ Turns (fun b => b = g) w w' := by
  have hwd := h.wd1
  have hht := h.ht1
  have hlen := h.len
  have hgl := h.pix.lt
  have hft : Fit ⟨tx, ty, aw, ah⟩ := ⟨show (tx : Int) ≤ 9223372036854775807 by omega, show (ty : Int) ≤ 9223372036854775807 by omega⟩
  have hff : Fit ⟨fx, fy, aw, ah⟩ := ⟨show (fx : Int) ≤ 9223372036854775807 by omega, show (fy : Int) ≤ 9223372036854775807 by omega⟩
  have het : emptyR ⟨tx, ty, aw, ah⟩ = false := emptyR_false.2 (by simp only; omega)
  have hef : emptyR ⟨fx, fy, aw, ah⟩ = false := emptyR_false.2 (by simp only; omega)
  obtain ⟨nx, hnx⟩ : ∃ nx, IntKind.i64.wrap (-dx) = nx := ⟨_, rfl⟩
  obtain ⟨ny, hny⟩ : ∃ ny, IntKind.i64.wrap (-dy) = ny := ⟨_, rfl⟩
  rw [hnx, hny] at h4
  have hfit1 := h.fit t1 t2
  have hfit2 := h.fit f1 f2
  have H4 := Lib.hid h4
  clear h4
  go_enter Try.func40, Try.ntmps40
  go_wp2_with fail
  obtain ⟨W0, hW0⟩ : ∃ W0, w.alloc (.cells #[.int .i64 (tx : Int), .int .i64 (ty : Int), .int .i64 (aw : Int), .int .i64 (ah : Int), .int .i64 dx, .int .i64 dy] 52) = W0 := ⟨_, rfl⟩
  have hz0 : W0.heap[w.heap.size]? = some (.cells #[.int .i64 (tx : Int), .int .i64 (ty : Int), .int .i64 (aw : Int), .int .i64 (ah : Int), .int .i64 dx, .int .i64 dy] 52) := by rw [← hW0]; exact Array.getElem?_push_size
  have hbw0 : Below w.heap.size w W0 := by rw [← hW0]; exact Below.al1 _ _
  have h0 := h.later hbw0
  have hu := h.u
  have hsz := h.size
  have hcells := h.cells
  rw [hW0]
  clear hW0 h
  have Hu := Lib.hid hu
  have Hsz := Lib.hid hsz
  have Hcells := Lib.hid hcells
  have Hz0 := Lib.hid hz0
  have H0 := Lib.hid h0
  have Hb0 := Lib.hid hbw0
  clear hu hsz hcells hz0 h0 hbw0
  refine Calls.mono (empty_eq ⟨tx, ty, aw, ah⟩ _ het hft) ?_
  rintro e w1 ⟨rfl, hb1⟩
  have hz1 := (hb1.block _ (Array.getElem?_eq_some_iff.1 Hz0.out).1).trans Hz0.out
  obtain ⟨z0, z1, z2, z3, z4, z5⟩ := copy_cells hz1
  go_wp2_with fail
  refine Calls.mono (shift_eq ⟨tx, ty, aw, ah⟩ nx ny _ H4.out hft) ?_
  rintro e w2 ⟨rfl, hb2⟩
  have hz2 := (hb2.block _ (Array.getElem?_eq_some_iff.1 hz1).1).trans hz1
  have hb02 := Below.thn (Below.thn Hb0.out hb1) hb2
  have h2 := H0.out.later (Below.thn hb1 hb2)
  clear z0 z1 z2 z3 z4 z5 hz1 hb1 Hz0 H0 Hb0
  have hal := Below.al1 w2 (.cells #[.int .i64 (fx : Int), .int .i64 (fy : Int), .int .i64 (aw : Int), .int .i64 (ah : Int)] 30)
  have l3 : Lies (w2.alloc (.cells #[.int .i64 (fx : Int), .int .i64 (fy : Int), .int .i64 (aw : Int), .int .i64 (ah : Int)] 30)) w2.heap.size ⟨fx, fy, aw, ah⟩ := Lies.new (r := (⟨fx, fy, aw, ah⟩ : Rc)) rfl
  have h3 := h2.later hal
  have hz3 := (hal.block _ (Array.getElem?_eq_some_iff.1 hz2).1).trans hz2
  have Hb3 := Lib.hid (Below.thn hb02 hal)
  clear h2 hz2 hal hb02 hb2
  go_upto_region 6 with (fail)
  generalize (w2.alloc (.cells #[.int .i64 (fx : Int), .int .i64 (fy : Int), .int .i64 (aw : Int), .int .i64 (ah : Int)] 30)) = W3 at *
  obtain ⟨z0, z1, z2, z3, z4, z5⟩ := copy_cells hz3
  have y0 := After.rule z0
  have y1 := After.rule z1
  have y2 := After.rule z2
  have y3 := After.rule z3
  have hq := After.ne W3
  obtain ⟨r0, r1, r2, r3⟩ := l3.rules
  have k0 := After.rule h3.three.1
  have k1 := After.rule h3.three.2.1
  have k2 := After.rule h3.three.2.2
  have a1 : allInB ⟨tx, ty, aw, ah⟩ wd ht = true := allInB_yes ha hh t1 t2 hwd hht
  have a2 : allInB ⟨fx, fy, aw, ah⟩ wd ht = true := allInB_yes ha hh f1 f2 hwd hht
  clear z0 z1 z2 z3 z4 z5
  refine wp_region_in ⟨W3, Below.refl _ _⟩ (by kernel_rfl) (by kernel_rfl) ?_
  iterate 7 (go_big_quiet_step ((go_at_call 87; exact Makes.after (allIn_eq ⟨tx, ty, aw, ah⟩ wd ht _ _ a1 hft))))
  repeat (go_big_quiet_step ((go_at_call 87; exact Makes.after (allIn_eq ⟨fx, fy, aw, ah⟩ wd ht _ _ a2 hff))))
  refine wpQuiet_nil ?_
  rintro _ ⟨n1, rfl⟩
  clear y0 y1 y2 y3 hq r0 r1 r2 r3 k0 k1 k2 a1 a2
  go_upto_region 8 with (fail)
  obtain ⟨w4, hw4⟩ : ∃ w4, w4 = n1.world := ⟨_, rfl⟩
  have hb4 : Below W3.heap.size W3 w4 := by rw [hw4]; exact n1.below
  rw [← hw4]
  clear hw4
  have h4 := h3.later hb4
  have l4 := l3.later hb4
  have hz4 := (hb4.block _ (Array.getElem?_eq_some_iff.1 hz3).1).trans hz3
  have Hb4 := Lib.hid (Below.thn Hb3.out hb4)
  obtain ⟨k0, k1, k2⟩ := h4.three
  obtain ⟨r0, r1, r2, r3⟩ := l4
  have Hh4 := Lib.hid h4
  have Hz4 := Lib.hid hz4
  have Hco := Lib.hid (fun (w5 : World) (hb5 : Below w4.heap.size w4 w5) => cutOut_any wd ht fx fy aw ah g 0 L.length L.length L w5 (Hh4.out.later hb5).pix.row rfl (Nat.le_refl _) (by omega) Hu.out.u32 (by omega) (by omega) (by omega) (by omega) (by omega) hfit2)
  clear h4 hz4 h3 l3 hz3 hb4 Hb3
  go_cut [6] (fun s wx => ∃ B6 g6, s = .pointer (some ⟨B6, 0, none⟩) ∧ Im3 wx B6 aw ah (.slice (some ⟨g6, 0, none⟩) (aw * ah) (aw * ah)) ∧ Pix wx g6 (cutL wd fx fy aw ah L) ∧ Below w4.heap.size w4 wx ∧ w4.heap.size ≤ g6)
  case first =>
    have hgw : ∀ o, Below w4.heap.size w4 (w4.alloc o).drew := fun o => by go_grown
    have q0 := fun o => cell_later (hgw o) r0
    have q1 := fun o => cell_later (hgw o) r1
    have q2 := fun o => cell_later (hgw o) r2
    have q3 := fun o => cell_later (hgw o) r3
    have q4 := fun o => cell_later (hgw o) k0
    have q5 := fun o => cell_later (hgw o) k1
    have q6 := fun o => cell_later (hgw o) k2
    have Hgw := Lib.hid hgw
    clear hgw
    go_region_with (refine Calls.mono (Hco.out _ (by go_grown)) ?_; rintro _ w5 ⟨g6, rfl, hg6, hP6, hb6⟩; have hk1 := fun (b o : Nat) h => hb6.cell (p := ⟨b, o, none⟩) h; have hk2 := fun (b o : Nat) h => hb6.frozen (p := ⟨b, o, none⟩) h)
    all_goals clear q0 q1 q2 q3 q4 q5 q6 hk1 hk2
    all_goals go_wp2_with fail
    all_goals go_meet
    all_goals first
      | exact copy_end1 hg6 hP6 hb6
      | exact copy_end2 hg6 hP6 hb6
  case rest =>
  obtain ⟨B6, g6, rfl, hI6, hP6, hb6, hg6⟩ := hcut
  obtain ⟨w6, hw6⟩ : ∃ w6, w6 = wc := ⟨_, rfl⟩
  subst hw6
  clear k0 k1 k2 r0 r1 r2 r3
  have h6 := Hh4.out.later hb6
  have hz6 := (hb6.block _ (Array.getElem?_eq_some_iff.1 Hz4.out).1).trans Hz4.out
  have hgl4 := Hh4.out.pix.lt
  have hg6g : g6 ≠ g := by omega
  have Hb6 := Lib.hid (Hb4.out.trans (hb6.mono Hb4.out.size))
  obtain ⟨z0, z1, z2, z3, z4, z5⟩ := copy_cells hz6
  have y0 := After.rule z0
  have y1 := After.rule z1
  have y2 := After.rule z2
  have y3 := After.rule z3
  have hq := After.ne w6
  have k0 := After.rule h6.three.1
  have k1 := After.rule h6.three.2.1
  have k2 := After.rule h6.three.2.2
  have e0 := After.rule hI6.cells.1
  have e1 := After.rule hI6.cells.2.1
  have e2 := After.rule hI6.cells.2.2
  have H6 := Lib.hid h6
  have HP6 := Lib.hid hP6
  clear z0 z1 z2 z3 z4 z5 hz6 h6 hP6 hb6 hI6 Hz4 Hh4 Hb4 Hco
  go_upto_region 9 with (fail)
  refine wp_region_head 9 (by kernel_rfl) (by kernel_rfl) (by kernel_rfl) ?_
  repeat (refine Lq_step (fun K hK => ?_); go_simp; first | (refine hK _ ?_; clear hK K) | (apply Exists.intro; refine ⟨fun n => ?_, hK _ ?_⟩; (go_at_call 81; exact whole_any _ _ _ _); clear hK K))
  refine Lq_nil ?_
  intro w7 hb7
  have h07 := H6.out.later hb7
  have HP7 := HP6.out.later hb7
  have hfit3 : ∀ k, k < ah → (0 + k) * aw + 0 + aw ≤ (cutL wd fx fy aw ah L).length := fun k hk => by
    rw [(cutL_ok Hu.out.u32 hfit2).1, Nat.zero_add, Nat.add_zero]
    have : (k + 1) * aw ≤ ah * aw := Nat.mul_le_mul_right aw (by omega)
    rw [Nat.add_mul, Nat.one_mul, Nat.mul_comm ah aw] at this
    omega
  have hcl := (cutL_ok Hu.out.u32 hfit2).1
  have hcu := (cutL_ok Hu.out.u32 hfit2).2
  have hmu : aw * ah ≤ 65536 := by
    have h1 : aw * ah ≤ 256 * ah := Nat.mul_le_mul_right ah (by omega)
    have h2 : 256 * ah ≤ 256 * 256 := Nat.mul_le_mul_left 256 (by omega)
    omega
  have hlay := lay_any wd ht tx ty aw ah aw ah 0 0 g g6 0 (aw * ah) (aw * ah) (cutL wd fx fy aw ah L) L w7 h07.pix HP7.row hg6g hcl (Nat.le_refl _) (by omega) (by omega) hcu.u32 Hu.out.u32 (by omega) (by omega) (by omega) (by omega) (by omega) (fun k hk => ⟨hfit1 k hk, hfit3 k hk⟩)
  rw [show ((0 : Nat) : Int) = 0 from rfl] at hlay
  have Hb07 := Lib.hid (Hb6.out.trans (hb7.mono Hb6.out.size))
  have H07 := Lib.hid h07
  have Hcu := Lib.hid hcu
  have Hf3 := Lib.hid hfit3
  clear y0 y1 y2 y3 k0 k1 k2 e0 e1 e2 hq hb7 h07 hcl hcu hfit3 HP7 hmu
  go_wp2_with fail
  refine Calls.mono hlay ?_
  rintro e w8 ⟨rfl, hP8, ht8⟩
  have hl8 : (layL wd tx ty aw aw 0 0 (cutL wd fx fy aw ah L) L ah).length = L.length := layL_len0 Hcu.out.u32 Hu.out.u32 (fun k hk => ⟨hfit1 k hk, Hf3.out k hk⟩)
  have Hfin := Lib.hid (show BufAt w8 B wd ht g (layL wd tx ty aw aw 0 0 (cutL wd fx fy aw ah L) L ah) from ⟨by rw [hl8]; exact (ht8.block B H07.out.lt hBg).trans H07.out.cells, hP8, by rw [hl8]; exact Hsz.out, hwd, hht, layL_U24 Hcu.out.u32 Hu.out ah (fun k hk => ⟨hfit1 k hk, Hf3.out k hk⟩)⟩)
  have Htr := Lib.hid (show Turns (fun b => b = g) w w8 from (Turns.of_below' Hb07.out).trans ht8)
  clear hlay hP8 ht8
  go_wp2
  go_ret
  exact ⟨rfl, Hfin.out, Htr.out⟩

end Go.Proofs.Ytpddkhhdleknnaa
