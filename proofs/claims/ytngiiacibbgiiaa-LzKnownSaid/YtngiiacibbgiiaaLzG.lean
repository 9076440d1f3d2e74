/- lz's stood, walked. -/
import Derived.Test.YtngiiacibbgiiaaLzF
namespace Go.Proofs.Ytngiiacibbgiiaa
open Go.RowKit Go.Maps

set_option maxRecDepth 20000 in
set_option maxHeartbeats 20000000 in
theorem stood_any (l : List Nat) (vb : Value) (w : World) (hvr : Row enc8 1 w vb l) (hby : ∀ b ∈ l, b < 256) (hl : l.length ≤ 1048576) :
    Calls Try.prog 15 #[vb] w fun e w' => ∃ (v' : Value) (A : List Nat), e = .returned v' ∧ A.length = l.length - 2 ∧ w'.ownsRow w.heap.size 33 1 v' A.length (A.map hv) ∧ (∀ p, p < A.length → IsAhead (fb l) p (fb A p)) ∧ Below w.heap.size w w' := by
  have Hv := Lib.hid hvr
  have Hby := Lib.hid (fb_lt hby)
  have HvB : Hid (∀ g, vb.ownBlock = some g → g < w.heap.size) := Lib.hid (fun g hg => by
    obtain ⟨p, c, rfl, -, -, h⟩ := hvr
    rcases h with ⟨rfl, -⟩ | ⟨b, off, rfl, h, -⟩
    · cases hg
    · cases hg; exact h)
  obtain ⟨p, c, rfl, -, -, -⟩ := hvr
  obtain ⟨N, hN⟩ : ∃ N, l.length - 2 = N := ⟨_, rfl⟩
  rw [hN]
  have HN := Lib.hid hN
  have hN1 : N ≤ 1048576 := by omega
  have em : ∀ (ts : Array TypeId) (t : TypeId) (w : World), (Builtin.max_ ts t #[.int .i64 0, .int .i64 ((l.length : Int) - 3 + 1)]).run Try.prog w = .ok (.int .i64 (N : Int)) w := fun ts t w => by
    rw [max_lz, show max (0 : Int) ((l.length : Int) - 3 + 1) = (N : Int) by omega]
  have hmk := make_half N hN1
  have hmm := run_makeMap (P := Try.prog) 47 w
  have HJ0 : Hid (StJ w (.slice p l.length c) l N 0 ((w.alloc (.map #[] 0)).alloc (.cells (hZ N) 33))) := Lib.hid (by
    have hb := Below.al2 w (.map #[] 0) (.cells (hZ N) 33)
    refine ⟨⟨List.replicate N 0, fun _ => none, by simp, ?_, fun p h => by omega, fun p _ => ?_, LastF.start _, ?_⟩, Hv.out.below hb, hb⟩
    · have := World.ownsRow_lit (base := w.heap.size + 1) (size := 1) (e := 33) (w.alloc (.map #[] 0)) (hZ N) N (by simp) (by simp only [maxLen]; omega) (by simp [hZ])
      rw [show (hZ N).toList = (List.replicate N 0).map hv from rfl] at this
      simpa using this
    · unfold fb
      rw [List.getD_eq_getElem?_getD, List.getElem?_replicate]
      split <;> rfl
    · exact (Map3.made w).turned (T := fun _ => False) ((Turns.refl _ _).alloc _) (fun h => h))
  have Hlc : Hid (l.length ≤ c ∧ c ≤ maxLen) := Lib.hid (by
    obtain ⟨p', c', e, k1, k2, -⟩ := Hv.out
    cases e
    exact ⟨k1, k2⟩)
  clear hN
  go_enter Try.func15, Try.ntmps15
  go_wp2_with fail
  go_loopw [18] (fun kv wr => ∃ k : Nat, kv = .int .i64 (k : Int) ∧ k ≤ N ∧ Hid (StJ w (.slice p l.length c) l N k wr)) (fun kv _ => N - (intOf kv).toNat)
  case atStart => exact ⟨0, rfl, Nat.zero_le _, HJ0⟩
  case round =>
    obtain ⟨k, rfl, hk, HJ⟩ := hrel
    by_cases hlt : k < N
    · obtain ⟨A, F, hA, hown, h1, h2, h3, hm⟩ := HJ.out.ex
      have d0 : decide ((k : Int) < (N : Int)) = true := by simp; omega
      have hvx := HJ.out.row
      obtain ⟨pp, cc, e, -, -, hrow⟩ := hvx
      cases e
      obtain ⟨g, off, rfl, hx⟩ := hrow.byteF (k := k) (by have := HN.out; omega)
      obtain ⟨g', off', e, hy⟩ := hrow.byteF (k := k + 1) (by have := HN.out; omega)
      cases e
      obtain ⟨g', off', e, hz⟩ := hrow.byteF (k := k + 2) (by have := HN.out; omega)
      cases e
      have hb3 := Hby.out
      have hB3 : B3 (fb l k, fb l (k + 1), fb l (k + 2)) := ⟨hb3 _, hb3 _, hb3 _⟩
      have Hall := Lib.hid (And.intro hA (And.intro hown (And.intro h1 (And.intro h2 (And.intro h3 (And.intro hrow hm))))))
      obtain ⟨o, ho⟩ : ∃ o, F (fb l k, fb l (k + 1), fb l (k + 2)) = o := ⟨_, rfl⟩
      obtain ⟨h, hh⟩ : ∃ h, hopOf F (fb l) k = h := ⟨_, rfl⟩
      have Ho := Lib.hid (And.intro ho hh)
      obtain ⟨x, hxx⟩ : ∃ x, fb l k = x := ⟨_, rfl⟩
      obtain ⟨y, hyy⟩ : ∃ y, fb l (k + 1) = y := ⟨_, rfl⟩
      obtain ⟨z, hzz⟩ : ∃ z, fb l (k + 2) = z := ⟨_, rfl⟩
      rw [hxx] at hx hB3
      rw [hyy] at hy hB3
      rw [hzz] at hz hB3
      have Hxyz := Lib.hid (show (fb l k, fb l (k + 1), fb l (k + 2)) = (x, y, z) by rw [hxx, hyy, hzz])
      have HB3 := Lib.hid hB3
      obtain ⟨k1, hk1⟩ : ∃ k1, k + 1 = k1 := ⟨_, rfl⟩
      obtain ⟨k2, hk2⟩ : ∃ k2, k + 2 = k2 := ⟨_, rfl⟩
      rw [hk1] at hy
      rw [hk2] at hz
      have hkb1 : k1 ≤ 2097152 := by omega
      have hkb2 : k2 ≤ 2097152 := by omega
      have hw1 : IntKind.i64.wrap (k1 : Int) = (k1 : Int) := IntWalk.i64_in _ (by omega)
      have hw2 : IntKind.i64.wrap (k2 : Int) = (k2 : Int) := IntWalk.i64_in _ (by omega)
      have e1 : (k : Int) + 1 = (k1 : Int) := by omega
      have e2 : (k : Int) + 2 = (k2 : Int) := by omega
      have i0 : (0 : Int) ≤ (k : Int) := by omega
      have i1 : (k : Int) < (l.length : Int) := by have := HN.out; omega
      have i2 : (0 : Int) ≤ (k1 : Int) := by omega
      have i3 : (k1 : Int) < (l.length : Int) := by have := HN.out; omega
      have i4 : (0 : Int) ≤ (k2 : Int) := by omega
      have i5 : (k2 : Int) < (l.length : Int) := by have := HN.out; omega
      have Hk12 := Lib.hid (And.intro hk1 hk2)
      clear hk1 hk2 hxx hyy hzz ho hh hA hown h1 h2 h3 hm hrow hB3 hb3
      go_upto_region 6 with (fail)
      have hq := After.ne wr
      have r0 := After.rule hx
      have r1 := After.rule hy
      have r2 := After.rule hz
      refine wp_region_box1 15 _ (.cells #[.int .u8 0, .int .u8 0, .int .u8 0] 48) (by kernel_rfl) (by kernel_rfl) (by kernel_rfl) rfl rfl (by intro a w; go_simp) ?_
      repeat (refine Lq_step (fun K hK => ?_); go_simp; (refine hK _ ?_; clear hK K))
      refine Lq_nil ?_
      intro B w5 hB hb5 hz5
      have Hw5 : Hid (Below wr.heap.size wr (((w5.setCell ⟨B, 0, none⟩ (.int .u8 (x : Int))).setCell ⟨B, 1, none⟩ (.int .u8 (y : Int))).setCell ⟨B, 2, none⟩ (.int .u8 (z : Int)))) := Lib.hid (((hb5.setCell hB _).setCell hB _).setCell hB _)
      have hs5 := three_set (.int .u8 (x : Int)) (.int .u8 (y : Int)) (.int .u8 (z : Int)) hz5
      have f0 : w5.frozen? ⟨B, 0, none⟩ = false := by simp [World.frozen?, hz5]
      have f1 : w5.frozen? ⟨B, 1, none⟩ = false := by simp [World.frozen?, hz5]
      have f2 : w5.frozen? ⟨B, 2, none⟩ = false := by simp [World.frozen?, hz5]
      have g0 : w5.cell? ⟨B, 0, none⟩ = some (.int .u8 0) := cell_heap hz5 rfl
      have g1 : w5.cell? ⟨B, 1, none⟩ = some (.int .u8 0) := cell_heap hz5 rfl
      have g2 : w5.cell? ⟨B, 2, none⟩ = some (.int .u8 0) := cell_heap hz5 rfl
      clear hq r0 r1 r2 hb5 hz5 hx hy hz
      go_upto_region 7 with (fail)
      obtain ⟨W5, hW5⟩ : ∃ W5, (((w5.setCell ⟨B, 0, none⟩ (.int .u8 (x : Int))).setCell ⟨B, 1, none⟩ (.int .u8 (y : Int))).setCell ⟨B, 2, none⟩ (.int .u8 (z : Int))) = W5 := ⟨_, rfl⟩
      rw [hW5] at Hw5 hs5 ⊢
      have HW5 := Hw5
      have q0 : W5.cell? ⟨B, 0, none⟩ = some (.int .u8 (x : Int)) := cell_heap hs5 rfl
      have q1 : W5.cell? ⟨B, 1, none⟩ = some (.int .u8 (y : Int)) := cell_heap hs5 rfl
      have q2 : W5.cell? ⟨B, 2, none⟩ = some (.int .u8 (z : Int)) := cell_heap hs5 rfl
      have Hs5 := Lib.hid (And.intro hs5 hB)
      have HM5 := Lib.hid (Hall.out.2.2.2.2.2.2.turned (T := fun _ => False) (Turns.of_below' HW5.out) (fun h => h))
      have Hown5 := Lib.hid ((Turns.of_below' (T := fun _ => False) HW5.out).owns Hall.out.2.1 (fun _ _ h => h))
      have hlook := HM5.out.look HB3.out
      unfold tv at hlook
      rw [show F (x, y, z) = o by rw [← Hxyz.out]; exact Ho.out.1] at hlook
      clear f0 f1 f2 g0 g1 g2 hW5 hs5 hB
      cases o with
      | none =>
        have h0 : h = 0 := by rw [← Ho.out.2]; unfold hopOf; rw [Ho.out.1]
        go_wp2_with (refine wpList_put3 _ rfl _ _ _ rfl w.heap.size k k (x, y, z) F rfl HM5.out (by simp only [maxLen]; omega) HB3.out (by omega) rfl rfl ?_)
        intro w8 hm8 ht8
        have HJ8 := Lib.hid (StJ.step (h := h) HvB.out Hall.out.1 hlt Hall.out.2.1 Hall.out.2.2.1 Hall.out.2.2.2.1 Hall.out.2.2.2.2.1 ⟨_, _, rfl, Hlc.out.1, Hlc.out.2, Hall.out.2.2.2.2.2.1⟩ HJ.out.below HW5.out (.inl ⟨h0, rfl⟩) Ho.out.2.symm (by rw [Hxyz.out]; exact hm8) ht8)
        clear hm8 ht8
        go_wp2
        go_roundw
        case rel => exact ⟨k + 1, by go_num, by omega, HJ8⟩
        case measure => simp [intOf]; omega
      | some u =>
        obtain ⟨hu, -, -⟩ := Hall.out.2.2.2.2.1.is _ u Ho.out.1
        obtain ⟨d, hd⟩ : ∃ d, k - u = d := ⟨_, rfl⟩
        have ed : (k : Int) - (u : Int) = (d : Int) := by omega
        have hu0 : u ≤ 1048576 := by omega
        have hd0 : d ≤ 1048576 := by omega
        have hho : h = if d ≤ 32768 then d else 0 := by
          rw [← Ho.out.2]; unfold hopOf; rw [Ho.out.1]; simp only [hd]
        by_cases hdl : d ≤ 32768
        · rw [if_pos hdl] at hho
          subst hho
          have d1 : decide ((h : Int) ≤ 32768) = true := by simp; omega
          have hw3 : IntKind.u16.wrap (h : Int) = (h : Int) := by rw [IntKind.wrap_u16]; omega
          obtain ⟨g3, c3, e3, -, -, hc3, hf3⟩ := own_at Hown5.out (i := k) (u := hv (fb A k)) (by rw [List.getElem?_map, List.getElem?_eq_getElem (by have := Hall.out.1; omega), fb_at (by have := Hall.out.1; omega)]; rfl)
          cases e3
          have HM6 := Lib.hid (HM5.out.turned (Turns.set (T := fun i => i = w.heap.size + 1) (Turns.refl _ W5) (p := ⟨w.heap.size + 1, k, none⟩) rfl (.int .u16 (h : Int))) (by omega))
          have i6 : (k : Int) < (N : Int) := by omega
          have p0 := cell_heap (b := B) (i := 0) Hs5.out.1 rfl
          have Hq : Hid ((W5.setCell ⟨w.heap.size + 1, k, none⟩ (.int .u16 (h : Int))).heap[B]? = some (.cells #[.int .u8 (x : Int), .int .u8 (y : Int), .int .u8 (z : Int)] 48)) := Lib.hid ((Below.heap_setCell _ _ _ _ (fun e => by
            have h1 := (Hown5.out.lt (w.heap.size + 1) rfl).2
            have h2 := (Hall.out.2.1.lt (w.heap.size + 1) rfl).2
            have h3 := Hs5.out.2
            simp only at e
            omega)).trans Hs5.out.1)
          have s0 := cell_heap (i := 0) Hq.out rfl
          have s1 := cell_heap (i := 1) Hq.out rfl
          have s2 := cell_heap (i := 2) Hq.out rfl
          clear hd p0
          go_wp2_with (refine wpList_put3 _ rfl _ _ _ rfl w.heap.size k k (x, y, z) F rfl HM6.out (by simp only [maxLen]; omega) HB3.out (by omega) rfl rfl ?_)
          intro w8 hm8 ht8
          have HJ8 := Lib.hid (StJ.step (h := h) HvB.out Hall.out.1 hlt Hall.out.2.1 Hall.out.2.2.1 Hall.out.2.2.2.1 Hall.out.2.2.2.2.1 ⟨_, _, rfl, Hlc.out.1, Hlc.out.2, Hall.out.2.2.2.2.2.1⟩ HJ.out.below HW5.out (.inr rfl) Ho.out.2.symm (by rw [Hxyz.out]; exact hm8) ht8)
          clear hm8 ht8
          go_wp2
          go_roundw
          case rel => exact ⟨k + 1, by go_num, by omega, HJ8⟩
          case measure => simp [intOf]; omega
        · rw [if_neg hdl] at hho
          have d1 : decide ((d : Int) ≤ 32768) = false := by simp; omega
          clear hd
          go_wp2_with (refine wpList_put3 _ rfl _ _ _ rfl w.heap.size k k (x, y, z) F rfl HM5.out (by simp only [maxLen]; omega) HB3.out (by omega) rfl rfl ?_)
          intro w8 hm8 ht8
          have HJ8 := Lib.hid (StJ.step (h := h) HvB.out Hall.out.1 hlt Hall.out.2.1 Hall.out.2.2.1 Hall.out.2.2.2.1 Hall.out.2.2.2.2.1 ⟨_, _, rfl, Hlc.out.1, Hlc.out.2, Hall.out.2.2.2.2.2.1⟩ HJ.out.below HW5.out (.inl ⟨hho, rfl⟩) Ho.out.2.symm (by rw [Hxyz.out]; exact hm8) ht8)
          clear hm8 ht8
          go_wp2
          go_roundw
          case rel => exact ⟨k + 1, by go_num, by omega, HJ8⟩
          case measure => simp [intOf]; omega
    · obtain rfl : k = N := by omega
      have d0 : decide ((k : Int) < (k : Int)) = false := by simp
      go_wp2_with fail
      go_ret
      obtain ⟨A, F, hA, hown, h1, h2, h3, hm⟩ := HJ.out.ex
      subst hA
      exact ⟨_, A, rfl, rfl, owns_base hown (show w.heap.size ≤ w.heap.size + 1 by omega), h1, HJ.out.below⟩

end Go.Proofs.Ytngiiacibbgiiaa
