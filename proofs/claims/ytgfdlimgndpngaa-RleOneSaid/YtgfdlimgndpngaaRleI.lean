/- rle: the document's Decode. -/
import Derived.Test.YtgfdlimgndpngaaRleH
import Derived.Test.YtgfdlimgndpngaaRleD
namespace Go.Proofs.Ytgfdlimgndpngaa
open Go.RowKit

attribute [local go_sem] Oper.semAt_some

set_option maxRecDepth 20000 in
set_option maxHeartbeats 8000000 in
theorem refDecode_any (p : Option Addr) (c : Nat) (l : List Nat) (N : Int) (w : World) (hp : RowAt enc8 1 w p l) (h8 : ∀ x ∈ l, x < 256) (hl : l.length ≤ 1048576) (hN : -9223372036854775808 ≤ N ∧ N ≤ 9223372036854775807) :
    Calls Try.prog 14 #[.slice p l.length c, .int .i64 N] w fun e w' => ∃ v', e = .returned (.tuple #[v', .int .i64 (rlD l N).2]) ∧ w'.ownsRow w.heap.size 34 1 v' (rlD l N).1.length ((rlD l N).1.map pxv) ∧ Below w.heap.size w w' := by
  have Hp := Lib.hid hp
  obtain ⟨i0, hi0, hz0, hz1, hz2⟩ := info_parts pxv_info
  have H8 : Hid (∀ i, lq l i < 256) := Lib.hid (fun i => by
    unfold lq
    rw [List.getD_eq_getElem?_getD]
    cases h : l[i]? with
    | none => decide
    | some x => exact h8 x (List.mem_of_getElem? h))
  obtain ⟨n, hn⟩ : ∃ n, l.length = n := ⟨_, rfl⟩
  have Hn := Lib.hid hn
  rw [hn] at hl ⊢
  obtain ⟨A, hA⟩ : ∃ A, rlD l N = A := ⟨_, rfl⟩
  have HA := Lib.hid hA
  rw [hA]
  clear hp h8 hn hA
  go_enter Try.func14, Try.ntmps14
  by_cases h1 : N < 0
  · have d1 : decide (N < 0) = true := by simpa using h1
    obtain rfl : A = ([], 1) := by rw [← HA.out]; exact rlD_arg (.inl h1)
    go_wp2
    go_ret2
    exact ⟨_, rfl, World.ownsRow_nil _ _ _ _, Below.refl _ _⟩
  have d1 : decide (N < 0) = false := by simp; omega
  by_cases h2 : 65536 < N
  · have d2 : decide (N > 65536) = true := by simp; omega
    obtain rfl : A = ([], 1) := by rw [← HA.out]; exact rlD_arg (.inr h2)
    go_wp2
    go_ret2
    exact ⟨_, rfl, World.ownsRow_nil _ _ _ _, Below.refl _ _⟩
  have d2 : decide (N > 65536) = false := by simp; omega
  obtain ⟨M, rfl⟩ : ∃ M : Nat, N = (M : Int) := ⟨N.toNat, by omega⟩
  have hM : M ≤ 65536 := by omega
  go_wp2_with fail
  clear h1 h2 d1 d2 hN
  go_loopw [6, 7] (fun ov iv wr => ∃ (a : Nat) (pre : List (Nat × Nat)), iv = .int .i64 (a : Int) ∧ a ≤ n ∧ a % 4 = 0 ∧ (rlay pre).length ≤ M ∧ Hid (rlT l = pre ++ rlT (l.drop a)) ∧ Hid (wr.ownsRow w.heap.size 34 1 ov (rlay pre).length ((rlay pre).map pxv)) ∧ Hid (Below w.heap.size w wr)) (fun _ av _ => n - (intOf av).toNat)
  case atStart => exact ⟨0, [], rfl, Nat.zero_le _, rfl, Nat.zero_le _, Lib.hid rfl, Lib.hid (World.ownsRow_nil _ _ _ _), Lib.hid (Below.refl _ _)⟩
  case round =>
    obtain ⟨a, pre, rfl, ha, ha4, hq, HE, HO, HB⟩ := hrel
    obtain ⟨q, hqe⟩ : ∃ q, (rlay pre).length = q := ⟨_, rfl⟩
    have Hq := Lib.hid hqe
    rw [hqe] at hq HO
    clear hqe
    obtain ⟨vp, vc, rfl⟩ := owns_slice HO.out
    by_cases han : a < n
    · have d1 : decide ((a : Int) < (n : Int)) = true := by simp; omega
      by_cases hodd : n - a < 4
      · have d2 : decide ((n : Int) - (a : Int) < 4) = true := by simp; omega
        obtain rfl : A = ([], 131) := by rw [← HA.out]; exact rlD_odd (by omega) (by rw [Hn.out]; omega)
        go_wp2
        go_ret2
        exact ⟨_, rfl, World.ownsRow_nil _ _ _ _, HB.out⟩
      have d2 : decide ((n : Int) - (a : Int) < 4) = false := by simp; omega
      have han' : a < l.length := by rw [Hn.out]; exact han
      obtain ⟨g, off, rfl, hcell⟩ : ∃ g off, p = some ⟨g, off, none⟩ ∧ ∀ i, i < l.length → w.cell? ⟨g, off + i, none⟩ = some (.int .u8 ((lq l i : Nat) : Int)) := by
        obtain ⟨g, off, e, -⟩ := Hp.out.byte han'
        refine ⟨g, off, e, fun i hi => ?_⟩
        obtain ⟨g', off', e', h⟩ := Hp.out.byte hi
        rw [e] at e'; cases e'
        exact h
      have hx0 := hcell a (by rw [Hn.out]; omega)
      have hx1 := hcell (a + 1) (by rw [Hn.out]; omega)
      have hx2 := hcell (a + 2) (by rw [Hn.out]; omega)
      have hx3 := hcell (a + 3) (by rw [Hn.out]; omega)
      have hd := rlT_drop (b := l) (a := a) (by rw [Hn.out]; omega)
      have b0 := H8.out a
      have b1 := H8.out (a + 1)
      have b2 := H8.out (a + 2)
      have b3 := H8.out (a + 3)
      change rlT (l.drop a) = (lq l a + 1, lq l (a + 1) * 65536 + lq l (a + 2) * 256 + lq l (a + 3)) :: rlT (l.drop (a + 4)) at hd
      generalize lq l a = y0 at *
      generalize lq l (a + 1) = y1 at *
      generalize lq l (a + 2) = y2 at *
      generalize lq l (a + 3) = y3 at *
      obtain ⟨z, hz⟩ : ∃ z, y1 * 65536 + y2 * 256 + y3 = z := ⟨_, rfl⟩
      have hzz : (y1 : Int) * 65536 + (y2 : Int) * 256 + (y3 : Int) = (z : Int) := by omega
      rw [hz] at hd
      have HE3 : Hid (rlT l = pre ++ (y0 + 1, z) :: rlT (l.drop (a + 4))) := Lib.hid (by rw [HE.out, hd])
      obtain ⟨a1, ha1⟩ : ∃ x, a + 1 = x := ⟨_, rfl⟩
      obtain ⟨a2, ha2⟩ : ∃ x, a + 2 = x := ⟨_, rfl⟩
      obtain ⟨a3, ha3⟩ : ∃ x, a + 3 = x := ⟨_, rfl⟩
      rw [ha1] at hx1
      rw [ha2] at hx2
      rw [ha3] at hx3
      have j1 : (a : Int) + 1 = (a1 : Int) := by omega
      have j2 : (a : Int) + 2 = (a2 : Int) := by omega
      have j3 : (a : Int) + 3 = (a3 : Int) := by omega
      have Hx := Lib.hid (And.intro hx0 (And.intro hx1 (And.intro hx2 hx3)))
      clear hx0 hx1 hx2 hx3 hcell hd han'
      go_wp2_with fail
      generalize wr = W0 at *
      go_loopw [6, 8] (fun ov kv wz => ∃ k : Nat, kv = .int .i64 (k : Int) ∧ k ≤ y0 + 1 ∧ q + k ≤ M ∧ Hid (wz.ownsRow w.heap.size 34 1 ov (q + k) ((rlay pre ++ List.replicate k z).map pxv)) ∧ Hid (Below w.heap.size w wz)) (fun _ kv _ => y0 + 1 - (intOf kv).toNat)
      case atStart => exact ⟨0, rfl, Nat.zero_le _, by omega, Lib.hid (by simpa using HO.out), HB⟩
      case round =>
        clear HO HB
        obtain ⟨k, rfl, hk, hkM, HO, HB⟩ := hrel
        obtain ⟨r, hr⟩ : ∃ r, q + k = r := ⟨_, rfl⟩
        rw [hr] at hkM
        have HO' := HO.out
        rw [hr] at HO'
        have HO := Lib.hid HO'
        clear HO'
        obtain ⟨op, oc, rfl⟩ := owns_slice HO.out
        have Hr := Lib.hid hr
        clear hr
        have x0 := cell_later HB.out Hx.out.1
        have k0 : (0 : Int) ≤ (a : Int) := by omega
        have k1 : (a : Int) < (n : Int) := by omega
        by_cases hky : k ≤ y0
        · have d3 : decide ((k : Int) ≤ (y0 : Int)) = true := by simp; omega
          have d3' : decide (k ≤ y0) = true := by simp; omega
          by_cases hfull : r = M
          · have d4 : ((r : Int) == (M : Int)) = true := by simp; omega
            obtain rfl : A = ([], 131) := by
              rw [← HA.out]
              refine rlD_no (by omega) ?_
              have := Hr.out
              rw [HE3.out, rlay_app, rlay_cons, List.length_append, List.length_append, List.length_replicate, Hq.out]
              simp only
              omega
            go_wp2
            go_ret2
            exact ⟨_, rfl, World.ownsRow_nil _ _ _ _, HB.out⟩
          · have d4 : ((r : Int) == (M : Int)) = false := by simp; omega
            have x1 := cell_later HB.out Hx.out.2.1
            have x2 := cell_later HB.out Hx.out.2.2.1
            have x3 := cell_later HB.out Hx.out.2.2.2
            have hs0 := HB.out.size
            have k2 : (0 : Int) ≤ (a1 : Int) := by omega
            have k3 : (a1 : Int) < (n : Int) := by omega
            have k4 : (0 : Int) ≤ (a2 : Int) := by omega
            have k5 : (a2 : Int) < (n : Int) := by omega
            have k6 : (0 : Int) ≤ (a3 : Int) := by omega
            have k7 : (a3 : Int) < (n : Int) := by omega
            have ww1 : IntKind.i64.wrap (a1 : Int) = (a1 : Int) := IntWalk.i64_in _ (by omega)
            have ww2 : IntKind.i64.wrap (a2 : Int) = (a2 : Int) := IntWalk.i64_in _ (by omega)
            have ww3 : IntKind.i64.wrap (a3 : Int) = (a3 : Int) := IntWalk.i64_in _ (by omega)
            have wu : ∀ v : Int, 0 ≤ v → v < 4294967296 → IntKind.u32.wrap v = v := fun v h1 h2 => by rw [IntKind.wrap_u32]; omega
            have ww4 := wu ((y1 : Int) * 65536) (by omega) (by omega)
            have ww5 := wu ((y2 : Int) * 256) (by omega) (by omega)
            have ww6 := wu ((y1 : Int) * 65536 + (y2 : Int) * 256) (by omega) (by omega)
            have ww7 := wu (z : Int) (by omega) (by omega)
            have ww8 := wu (y1 : Int) (by omega) (by omega)
            have ww9 := wu (y2 : Int) (by omega) (by omega)
            have ww10 := wu (y3 : Int) (by omega) (by omega)
            clear wu
            go_upto_region 13 with (fail)
            generalize wr = W2 at *
            have q1 := cell_later (Below.al1 W2 (.cells #[.int .u32 (z : Int)] 34)) x0
            go_region_law (refine step_append_lies _ (by rfl) (.tmp 37) (.tmp 60) 22 (by rfl) w.heap.size 34 i0 _ 1 4 Try.underlying22 hi0 hz0 hz1 hz2 rfl (by decide) (.slice op r oc) r ((rlay pre ++ List.replicate k z).map pxv) (by rfl) (owns_drewR (HO.out.alloc _)) _ 1 1 [.int .u32 (z : Int)] (by rfl) rfl (fun j u hu => news_drewR _ _ [.int .u32 (z : Int)] j u hu) (oneP [z]) (by decide) (by simp only [maxLen]; omega) (by omega) (by simp; omega) (W2.heap.size + 1) (by simp) ?_; intro g5 cap5 w9 hown5 hgr5 hpl5 hlt5)
            all_goals
              have Ho5 : Hid (w9.ownsRow w.heap.size 34 1 (.slice (some ⟨g5, 0, none⟩) (r + 1) cap5) (q + (k + 1)) ((rlay pre ++ List.replicate (k + 1) z).map pxv)) := Lib.hid (by
                rw [List.replicate_succ', ← List.append_assoc, List.map_append, show q + (k + 1) = r + 1 by have := Hr.out; omega]; exact hown5)
              have hT : Turns (fun i => (Value.slice op r oc).ownBlock = some i) W2 w9 := (Turns.of_below' (Below.drew (Below.al1 W2 _))).trans (Turns.of_grown hgr5 (fun _ h => h))
              have HB5 : Hid (Below w.heap.size w w9) := Lib.hid (HB.out.trans (hT.below HB.out.size (fun i hi => (HO.out.lt i hi).1)))
              have hrM : q + (k + 1) ≤ M := by have := Hr.out; omega
              clear hown5 hgr5 hpl5 hlt5 hT q1 x0 x1 x2 x3 hzz ww1 ww2 ww3 ww4 ww5 ww6 ww7 ww8 ww9 ww10
              go_wp2
              go_roundw
              case rel => exact ⟨k + 1, by go_num, by omega, hrM, Ho5, HB5⟩
              case measure => simp [intOf]; omega
        · obtain rfl : k = y0 + 1 := by omega
          obtain ⟨k', hk'⟩ : ∃ k', y0 + 1 = k' := ⟨_, rfl⟩
          rw [hk'] at HO Hr ⊢
          have d3 : decide ((k' : Int) ≤ (y0 : Int)) = false := by simp; omega
          have d3' : decide (k' ≤ y0) = false := by simp; omega
          have HE4 : Hid (rlT l = (pre ++ [(k', z)]) ++ rlT (l.drop (a + 4))) := Lib.hid (by rw [HE3.out, hk']; simp)
          have HO4 : Hid (wr.ownsRow w.heap.size 34 1 (.slice op r oc) (rlay (pre ++ [(k', z)])).length ((rlay (pre ++ [(k', z)])).map pxv)) := Lib.hid (by
            have e : rlay (pre ++ [(k', z)]) = rlay pre ++ List.replicate k' z := by rw [rlay_app, rlay_cons]; simp [rlay]
            rw [e, List.length_append, List.length_replicate, Hq.out, Hr.out]; exact HO.out)
          have hlen4 : (rlay (pre ++ [(k', z)])).length ≤ M := by
            have e : rlay (pre ++ [(k', z)]) = rlay pre ++ List.replicate k' z := by rw [rlay_app, rlay_cons]; simp [rlay]
            rw [e, List.length_append, List.length_replicate, Hq.out, Hr.out]; exact hkM
          clear hk' hk
          go_wp2
          go_roundw
          case rel => exact ⟨a + 4, pre ++ [(k', z)], by go_num, by omega, by omega, hlen4, HE4, HO4, HB⟩
          case measure => simp [intOf]; omega
    · obtain rfl : a = n := by omega
      have d1 : decide ((a : Int) < (a : Int)) = false := by simp
      have HX : Hid (rlT l = pre) := Lib.hid (by rw [HE.out, ← Hn.out, List.drop_length]; simp [rlT])
      by_cases hqM : q = M
      · subst hqM
        have d2 : ((q : Int) != (q : Int)) = false := by simp
        obtain rfl : A = (rlay (rlT l), 0) := by
          rw [← HA.out]
          exact rlD_yes (by omega) (by rw [Hn.out]; exact ha4) (by rw [HX.out, Hq.out])
        go_wp2
        go_ret2
        refine ⟨_, rfl, ?_, HB.out⟩
        rw [HX.out, Hq.out]
        exact HO.out
      · have d2 : ((q : Int) != (M : Int)) = true := by simp; omega
        obtain rfl : A = ([], 131) := by
          rw [← HA.out]
          exact rlD_no (by omega) (by rw [HX.out, Hq.out]; omega)
        go_wp2
        go_ret2
        exact ⟨_, rfl, World.ownsRow_nil _ _ _ _, HB.out⟩

end Go.Proofs.Ytgfdlimgndpngaa
