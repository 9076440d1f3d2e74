/- Several texts in one, each with its own head. -/
import Derived.Test.YtoladolgmeanhaaGreatQc20
import Derived.Maps.OwnSet
import Derived.Maps.OwnOps
import Derived.DeepKeys4
/- lz's search: token. -/
namespace Go.Proofs.YtoladolgmeanhaaGreat
open Go.RowKit

def LJ (f : Nat → Nat) (a m L D fr dist : Nat) : Prop := (dist = 0 ∧ Sea f a m L D fr 32769) ∨ (1 ≤ dist ∧ Hits f fr dist ∧ Sea f a m L D fr dist)
theorem LJ.next {f : Nat → Nat} {a m L D fr dist hop : Nat} (h : Sea f a m L D fr (dist + 1)) (ht : Hits f fr dist) (hh : IsAhead f (fr - dist) hop) : LJ f a m L D fr (nextN hop dist) := by
  by_cases h0 : hop = 0
  · subst h0
    rw [show nextN 0 dist = 0 from if_pos (.inl rfl)]
    exact .inl ⟨rfl, h.none ht hh⟩
  · by_cases h1 : 32768 < dist + hop
    · rw [show nextN hop dist = 0 from if_pos (.inr h1)]
      exact .inl ⟨rfl, (h.next ht hh).far (.inl h1)⟩
    · rw [show nextN hop dist = dist + hop from if_neg (by omega)]
      exact .inr ⟨by omega, ht.next hh (by omega) (by omega), h.next ht hh⟩
theorem LJ.le {f : Nat → Nat} {a m L D fr dist : Nat} (h : LJ f a m L D fr dist) : dist ≤ 32768 ∧ dist ≤ fr ∧ a ≤ fr ∧ fr + 2 ≤ a + max L 2 := by
  rcases h with ⟨rfl, h⟩ | ⟨h1, h2, h⟩
  · exact ⟨by omega, by omega, h.fr⟩
  · exact ⟨h2.1, h2.2.1, h.fr⟩
theorem Sea.more {f : Nat → Nat} {a m L D fr dist n : Nat} (h : Sea f a m L D fr dist) (ht : Hits f fr dist) (hr : IsRun f a dist m n) (hL : L < n) (hm : 3 ≤ m) (hd : dist ≤ a) : max L 2 < n := by
  rcases h.is with ⟨e1, -⟩ | ⟨h1, -⟩
  · have hfr := h.fr
    obtain rfl : fr = a := by omega
    have := hr.ge hm (fun j hj => by
      obtain ⟨t0, t1, t2⟩ := ht.2.2
      have : j = 0 ∨ j = 1 ∨ j = 2 := by omega
      rcases this with rfl | rfl | rfl
      · exact t0
      · rw [t1]; exact congrArg f (by omega)
      · rw [t2]; exact congrArg f (by omega))
    omega
  · omega
theorem nextN_gt (hop dist : Nat) : nextN hop dist = 0 ∨ (dist < nextN hop dist ∧ nextN hop dist ≤ 32768) := by
  unfold nextN
  split
  · exact .inl rfl
  · exact .inr (by omega)
theorem meas_lz {x y d nd : Nat} (h : x ≤ y) (h1 : 1 ≤ d) (h2 : d ≤ 32768) (h3 : nd = 0 ∨ (d < nd ∧ nd ≤ 32768)) : x * 40000 + (if nd = 0 then 0 else 40000 - nd) < y * 40000 + (if d = 0 then 0 else 40000 - d) := by
  split <;> split <;> omega
theorem meas2_lz {x y d nd : Nat} (h : x < y) (h3 : nd ≤ 32768) : x * 40000 + (if nd = 0 then 0 else 40000 - nd) < y * 40000 + (if d = 0 then 0 else 40000 - d) := by
  have : x * 40000 + 40000 ≤ y * 40000 := by omega
  split <;> split <;> omega
theorem min_lz (ts : Array TypeId) (t : TypeId) (k k' : IntKind) (x y : Int) (w : World) : (Builtin.min_ ts t #[.int k x, .int k' y]).run Tryz.prog w = .ok (.int k (min x y)) w := by
  rw [run_min_int2]; congr 2; split <;> omega
theorem results_tk {fn : Func} {p : Tmp} {tmps : Array Value} {w : World} {B : Nat} {t : Tk} (h : fn.results = #[.cell p 71]) (hp : tmps.getD p undef = .pointer (some ⟨B, 0, none⟩))
    (hl : w.heap[B]? = some (.cells #[.int .u8 (t.b : Int), .int .i64 t.n, .int .i64 t.d] 71)) : (results fn tmps).run Tryz.prog w = .ok (tkV t) w := by
  have c0 : w.cell? ⟨B, 0, none⟩ = some (.int .u8 (t.b : Int)) := cell_heap hl rfl
  have c1 : w.cell? ⟨B, 1, none⟩ = some (.int .i64 t.n) := cell_heap hl rfl
  have c2 : w.cell? ⟨B, 2, none⟩ = some (.int .i64 t.d) := cell_heap hl rfl
  have hp' : tmps[p]?.getD undef = .pointer (some ⟨B, 0, none⟩) := by simpa using hp
  simp [results, h, hp', go_sem, c0, c1, c2, tkV]
set_option maxRecDepth 20000 in
set_option maxHeartbeats 40000000 in
theorem token_any (l A : List Nat) (vb va : Value) (a : Nat) (w : World) (hv : Row enc8 1 w vb l) (hva : Row encH 1 w va A) (hA : A.length = l.length - 2) (hAh : ∀ p, p < A.length → IsAhead (fb l) p (fb A p)) (ha : a < l.length) (hl : l.length ≤ 1048576) :
    Calls Tryz.prog 41 #[.agg #[vb, va], .int .i64 (a : Int)] w fun e w' => ∃ t, e = .returned (tkV t) ∧ IsTok (fb l) l.length a t ∧ Below w.heap.size w w' := by
  have Hv := Lib.hid hv
  have Hva := Lib.hid hva
  have Hah := Lib.hid hAh
  have HA := Lib.hid hA
  have HvB : Hid (∀ g, vb.ownBlock = some g → g < w.heap.size) := Lib.hid (fun g hg => by
    obtain ⟨p, c, rfl, -, -, h⟩ := hv
    rcases h with ⟨rfl, -⟩ | ⟨b, off, rfl, h, -⟩
    · cases hg
    · cases hg; exact h)
  obtain ⟨p, c, rfl, -, -, hrow⟩ := hv
  obtain ⟨pa, ca, rfl, -, -, -⟩ := hva
  obtain ⟨g, off, rfl, hx⟩ := hrow.byteF ha
  obtain ⟨x, hxx⟩ : ∃ x, fb l a = x := ⟨_, rfl⟩
  rw [hxx] at hx
  have Hxx := Lib.hid hxx
  have a0 : (0 : Int) ≤ (a : Int) := by omega
  have a1 : (a : Int) < (l.length : Int) := by omega
  obtain ⟨r, hr⟩ : ∃ r, l.length - a = r := ⟨_, rfl⟩
  have er : (l.length : Int) - (a : Int) = (r : Int) := by omega
  obtain ⟨m, hm⟩ : ∃ m, min 258 r = m := ⟨_, rfl⟩
  have hmo : mo l.length a = m := by unfold mo; rw [hr, hm]
  have Hm := Lib.hid hmo
  have em : ∀ (ts : Array TypeId) (t : TypeId) (w : World), (Builtin.min_ ts t #[.int .i64 258, .int .i64 (r : Int)]).run Tryz.prog w = .ok (.int .i64 (m : Int)) w := fun ts t w => by
    rw [min_lz, show min (258 : Int) (r : Int) = (m : Int) by omega]
  have hml : Hid (a + m ≤ l.length) := Lib.hid (by omega)
  have hx3 := cell_later (Below.al3 w (.cells #[.slice (some ⟨g, off, none⟩) l.length c, .slice pa A.length ca] 69) (.cells #[.int .i64 (a : Int)] 3) (.cells #[.int .u8 0, .int .i64 0, .int .i64 0] 71)) hx
  clear hrow hxx hAh hr hm hx hA hmo
  by_cases h3 : m < 3
  · have d0 : decide ((m : Int) < 3) = true := by simp; omega
    go_enter Tryz.func41, Tryz.ntmps41
    go_wp2_with fail
    have hp := heap_pushed [.cells #[.slice (some ⟨g, off, none⟩) l.length c, .slice pa A.length ca] 69, .cells #[.int .i64 (a : Int)] 3, .cells #[.int .u8 (x : Int), .int .i64 0, .int .i64 0] 71, .cells #[.int .u8 (x : Int), .int .i64 0, .int .i64 0] 71, .cells #[.int .i64 (m : Int)] 3] w
    exact bodyPost_ret (v := tkV ⟨x, 0, 0⟩) (results_tk Tryz.results41 rfl ((hp 2 _).2 rfl)) rfl ⟨⟨x, 0, 0⟩, rfl, by rw [← Hxx.out]; exact IsTok.short (by rw [Hm.out]; exact h3), Below.thn (Below.al3 w _ _ _) (Below.al2 _ _ _)⟩
  have d0 : decide ((m : Int) < 3) = false := by simp; omega
  obtain ⟨W, hW⟩ : ∃ W, (((((w.alloc (.cells #[.slice (some ⟨g, off, none⟩) l.length c, .slice pa A.length ca] 69)).alloc (.cells #[.int .i64 (a : Int)] 3)).alloc (.cells #[.int .u8 0, .int .i64 0, .int .i64 0] 71)).alloc (.cells #[.int .u8 (x : Int), .int .i64 0, .int .i64 0] 71)).alloc (.cells #[.int .i64 (m : Int)] 3)) = W := ⟨_, rfl⟩
  have hp := heap_pushed [.cells #[.slice (some ⟨g, off, none⟩) l.length c, .slice pa A.length ca] 69, .cells #[.int .i64 (a : Int)] 3, .cells #[.int .u8 0, .int .i64 0, .int .i64 0] 71, .cells #[.int .u8 (x : Int), .int .i64 0, .int .i64 0] 71, .cells #[.int .i64 (m : Int)] 3] w
  have hbw : Below w.heap.size w W := by rw [← hW]; exact Below.thn (Below.al3 w _ _ _) (Below.al2 _ _ _)
  have htk : TkB W w.heap.size (w.heap.size + 1) (w.heap.size + 1 + 1 + 1) (w.heap.size + 1 + 1 + 1 + 1) (.slice (some ⟨g, off, none⟩) l.length c) (.slice pa A.length ca) a m x 0 0 := by
    rw [← hW]
    exact ⟨(hp 0 _).2 rfl, (hp 1 _).2 rfl, (hp 3 _).2 rfl, (hp 4 _).2 rfl⟩
  have hres : W.heap[w.heap.size + 1 + 1]? = some (.cells #[.int .u8 0, .int .i64 0, .int .i64 0] 71) := by rw [← hW]; exact (hp 2 _).2 rfl
  have HW := Lib.hid hW
  have Hbw := Lib.hid hbw
  have Htk := Lib.hid htk
  have Hres := Lib.hid hres
  clear hp hbw htk hres hW
  go_enter Tryz.func41, Tryz.ntmps41
  go_wp2_with fail
  rw [HW.out]
  have hAlen : a < A.length := by have := HA.out; have := hml.out; omega
  have hlt0 : ∀ p, p < A.length → fb A p ≤ 32768 := fun p hp => (Hah.out p hp).le.1
  have Hlt0 := Lib.hid hlt0
  clear hx3 hlt0 HW
  refine Calls.mono (srNext_any A _ _ a 0 W (Hva.out.below Hbw.out) ⟨_, _, _, rfl⟩ (by omega) (by omega) (by have := Hlt0.out a hAlen; simpa using this) (by omega) (by omega)) ?_
  rintro e w1 ⟨rfl, hb1⟩
  have HJ0 := Lib.hid (LJ.next (Sea.start (fb l) a m) (Hits.zero _ a) (Hah.out (a - 0) (by omega)))
  obtain ⟨dist0, hd0⟩ : ∃ d, nextN (fb A (a - 0)) 0 = d := ⟨_, rfl⟩
  rw [hd0] at HJ0 ⊢
  have Hbw1 := Lib.hid (Below.thn Hbw.out hb1)
  have Htk1 := Lib.hid (Htk.out.below hb1)
  have Hres1 := Lib.hid ((hb1.block _ (lt_heap Hres.out)).trans Hres.out)
  clear hb1 hd0 Hbw Htk Hres
  have hBw : Hid (∀ g', (Value.slice (some ⟨g, off, none⟩) l.length c).ownBlock = some g' → g' ≠ w.heap.size + 1 + 1 + 1) := Lib.hid (fun g' h => by have := HvB.out g' h; omega)
  go_wp2_with fail
  go_loopw [8, 9] (fun fv dv wr => ∃ fr dist bv L D : Nat, fv = .int .i64 (fr : Int) ∧ dv = .int .i64 (dist : Int) ∧ L < m ∧ Hid ((L = 0 → bv = x ∧ D = 0) ∧ (0 < L → bv = 0)) ∧ Hid (LJ (fb l) a m L D fr dist) ∧
      Hid (TkB wr w.heap.size (w.heap.size + 1) (w.heap.size + 1 + 1 + 1) (w.heap.size + 1 + 1 + 1 + 1) (.slice (some ⟨g, off, none⟩) l.length c) (.slice pa A.length ca) a m bv L D) ∧
      Hid (wr.heap[w.heap.size + 1 + 1]? = some (.cells #[.int .u8 0, .int .i64 0, .int .i64 0] 71)) ∧ Hid (Below w.heap.size w wr))
    (fun _ dv wr => (m - (intOf ((wr.cell? ⟨w.heap.size + 1 + 1 + 1, 1, none⟩).getD undef)).toNat) * 40000 + (if (intOf dv).toNat = 0 then 0 else 40000 - (intOf dv).toNat))
  case atStart => exact ⟨a, dist0, x, 0, 0, rfl, rfl, by omega, Lib.hid ⟨fun _ => ⟨rfl, rfl⟩, fun h => by omega⟩, HJ0, Htk1, Hres1, Hbw1⟩
  case round =>
    obtain ⟨fr, dist, bv, L, D, rfl, rfl, hLm, Hbv, HJ, HT, HR, HB⟩ := hrel
    have hms : (intOf ((wr.cell? ⟨w.heap.size + 1 + 1 + 1, 1, none⟩).getD undef)).toNat = L := by rw [cell_heap HT.out.best rfl]; simp [intOf]
    rw [hms]
    clear hms
    obtain ⟨j1, j2, j3, j4⟩ := HJ.out.le
    have c0 : wr.cell? ⟨w.heap.size + 1, 0, none⟩ = some (.int .i64 (a : Int)) := cell_heap HT.out.at' rfl
    have c1 : wr.cell? ⟨w.heap.size + 1 + 1 + 1, 2, none⟩ = some (.int .i64 (D : Int)) := cell_heap HT.out.best rfl
    have c2 : wr.cell? ⟨w.heap.size, 0, none⟩ = some (.slice (some ⟨g, off, none⟩) l.length c) := cell_heap HT.out.s rfl
    have c3 : wr.cell? ⟨w.heap.size, 1, none⟩ = some (.slice pa A.length ca) := cell_heap HT.out.s rfl
    by_cases hgo : 1 ≤ dist ∧ dist ≤ a
    · have d1 : decide ((0 : Int) < (dist : Int)) = true := by simp; omega
      have d2 : decide ((dist : Int) ≤ (a : Int)) = true := by simp; omega
      obtain ⟨hd1, hd2⟩ := hgo
      have hsea : Sea (fb l) a m L D fr dist ∧ Hits (fb l) fr dist := by
        rcases HJ.out with ⟨h, -⟩ | ⟨-, h1, h2⟩
        · omega
        · exact ⟨h2, h1⟩
      have Hsea := Lib.hid hsea
      clear hsea
      have hfm : fr + 3 ≤ a + m := by omega
      have hfA : fr < A.length := by have := HA.out; have := hml.out; omega
      have hfl : fr ≤ 1048576 := by have := HA.out; omega
      by_cases hold : dist ≤ D
      · have d3 : decide (dist ≤ D) = true := by simp; omega
        have Hs := Lib.hid (Hsea.out.1.old hd1 hold)
        go_wp2_with fail
        refine Calls.mono (srNext_any A _ _ fr dist wr (Hva.out.below HB.out) ⟨_, _, _, rfl⟩ (by omega) (by omega) (Hlt0.out _ (by omega)) (by omega) (by omega)) ?_
        rintro e w9 ⟨rfl, hb9⟩
        obtain ⟨nd, hnd⟩ : ∃ nd, nextN (fb A (fr - dist)) dist = nd := ⟨_, rfl⟩
        have HJ9 : Hid (LJ (fb l) a m L D fr nd) := Lib.hid (by rw [← hnd]; exact LJ.next Hs.out Hsea.out.2 (Hah.out (fr - dist) (by omega)))
        have hnd2 : nd = 0 ∨ (dist < nd ∧ nd ≤ 32768) := by rw [← hnd]; exact nextN_gt _ _
        rw [hnd]
        have HT9 := Lib.hid (HT.out.below hb9)
        have HR9 := Lib.hid ((hb9.block _ (lt_heap HR.out)).trans HR.out)
        have HB9 := Lib.hid (Below.thn HB.out hb9)
        clear hb9 hnd c0 c1 c2 c3
        go_wp2_with fail
        go_roundw
        case rel => exact ⟨fr, nd, bv, L, D, rfl, rfl, hLm, Hbv, HJ9, HT9, HR9, HB9⟩
        case measure =>
          rw [cell_heap HT9.out.best rfl]
          simp only [intOf, Int.toNat_natCast]
          exact meas_lz (Nat.le_refl _) hd1 j1 hnd2
      · have d3 : decide (dist ≤ D) = false := by simp; omega
        have hvw := Hv.out.below HB.out
        have Hvw := Lib.hid hvw
        clear hvw
        go_wp2_with fail
        refine Calls.mono (longer_any l _ _ w.heap.size (w.heap.size + 1) (w.heap.size + 1 + 1 + 1) (w.heap.size + 1 + 1 + 1 + 1) a m bv L D dist wr HT.out Hvw.out ⟨_, _, _, rfl⟩ hBw.out hd1 hd2 hml.out hLm hl (by omega) (by omega) (by omega)) ?_
        rintro e w2 ⟨rb, bv', L', D', rfl, hT2, ht2, hans⟩
        have HT2 := Lib.hid hT2
        have HR2 := Lib.hid ((ht2.block _ (lt_heap HR.out) (by omega)).trans HR.out)
        have HB2 := Lib.hid (HB.out.trans (ht2.below HB.out.size (fun i hi => by omega)))
        have c0 : w2.cell? ⟨w.heap.size + 1, 0, none⟩ = some (.int .i64 (a : Int)) := cell_heap hT2.at' rfl
        have c1 : w2.cell? ⟨w.heap.size + 1 + 1 + 1, 1, none⟩ = some (.int .i64 (L' : Int)) := cell_heap hT2.best rfl
        have c2 : w2.cell? ⟨w.heap.size, 0, none⟩ = some (.slice (some ⟨g, off, none⟩) l.length c) := cell_heap hT2.s rfl
        have c3 : w2.cell? ⟨w.heap.size, 1, none⟩ = some (.slice pa A.length ca) := cell_heap hT2.s rfl
        have cM : w2.cell? ⟨w.heap.size + 1 + 1 + 1 + 1, 0, none⟩ = some (.int .i64 (m : Int)) := cell_heap hT2.most rfl
        rcases hans with ⟨rfl, rfl, rfl, rfl, hno⟩ | ⟨rfl, rfl, hD', hLL, hrun⟩
        · have Hs := Lib.hid (Hsea.out.1.skip (fun n hn => by have := hno n hn; omega))
          clear hT2 ht2 hno HT HR HB hold
          go_wp2_with fail
          refine Calls.mono (srNext_any A _ _ fr dist w2 (Hva.out.below HB2.out) ⟨_, _, _, rfl⟩ (by omega) (by omega) (Hlt0.out _ (by omega)) (by omega) (by omega)) ?_
          rintro e w9 ⟨rfl, hb9⟩
          obtain ⟨nd, hnd⟩ : ∃ nd, nextN (fb A (fr - dist)) dist = nd := ⟨_, rfl⟩
          have HJ9 : Hid (LJ (fb l) a m L' D' fr nd) := Lib.hid (by rw [← hnd]; exact LJ.next Hs.out Hsea.out.2 (Hah.out (fr - dist) (by omega)))
          have hnd2 : nd = 0 ∨ (dist < nd ∧ nd ≤ 32768) := by rw [← hnd]; exact nextN_gt _ _
          rw [hnd]
          have HT9 := Lib.hid (HT2.out.below hb9)
          have HR9 := Lib.hid ((hb9.block _ (lt_heap HR2.out)).trans HR2.out)
          have HB9 := Lib.hid (Below.thn HB2.out hb9)
          clear hb9 hnd c0 c1 c2 c3 cM
          go_wp2_with fail
          go_roundw
          case rel => exact ⟨fr, nd, bv', L', D', rfl, rfl, hLm, Hbv, HJ9, HT9, HR9, HB9⟩
          case measure =>
            rw [cell_heap HT9.out.best rfl]
            simp only [intOf, Int.toNat_natCast]
            exact meas_lz (Nat.le_refl _) hd1 j1 hnd2
        · have hD2 := hD'.symm
          subst hD2
          have hmore := Hsea.out.1.more Hsea.out.2 hrun hLL (by omega) hd2
          have hle := hrun.le
          have Hrun := Lib.hid hrun
          clear hT2 ht2 hrun HT HR HB hold Hbv HJ
          by_cases hfull : L' = m
          · have d4 : ((L' : Int) == (m : Int)) = true := by simp; omega
            have HtkX : Hid (IsTok (fb l) l.length a ⟨0, L', dist⟩) := Lib.hid (by
              have h1 := Hsea.out.1.found (fr' := a) hd1 hd2 j1 Hrun.out hmore ⟨Nat.le_refl _, by omega⟩
              exact (show Sea (fb l) a (mo l.length a) L' dist a 1 by rw [Hm.out]; exact h1).full (by omega) (by rw [Hm.out]; exact hfull))
            clear hmore c1 hfull
            have c4 : w2.cell? ⟨w.heap.size + 1 + 1 + 1, 0, none⟩ = some (.int .u8 ((0 : Nat) : Int)) := cell_heap HT2.out.best rfl
            have c5 : w2.cell? ⟨w.heap.size + 1 + 1 + 1, 1, none⟩ = some (.int .i64 (L' : Int)) := cell_heap HT2.out.best rfl
            have f0 : w2.frozen? ⟨w.heap.size + 1 + 1, 0, none⟩ = false := by simp [World.frozen?, HR2.out]
            have f1 : w2.frozen? ⟨w.heap.size + 1 + 1, 1, none⟩ = false := by simp [World.frozen?, HR2.out]
            have f2 : w2.frozen? ⟨w.heap.size + 1 + 1, 2, none⟩ = false := by simp [World.frozen?, HR2.out]
            have r0 : w2.cell? ⟨w.heap.size + 1 + 1, 0, none⟩ = some (.int .u8 0) := cell_heap HR2.out rfl
            have r1 : w2.cell? ⟨w.heap.size + 1 + 1, 1, none⟩ = some (.int .i64 0) := cell_heap HR2.out rfl
            have r2 : w2.cell? ⟨w.heap.size + 1 + 1, 2, none⟩ = some (.int .i64 0) := cell_heap HR2.out rfl
            have c6 : w2.cell? ⟨w.heap.size + 1 + 1 + 1, 2, none⟩ = some (.int .i64 (dist : Int)) := cell_heap HT2.out.best rfl
            go_wp2_with fail
            exact bodyPost_ret (v := tkV ⟨0, L', dist⟩) (results_tk Tryz.results41 rfl (three_set _ _ _ HR2.out)) rfl ⟨⟨0, L', dist⟩, rfl, HtkX.out, ((HB2.out.setCell (show w.heap.size ≤ w.heap.size + 1 + 1 by omega) _).setCell (show w.heap.size ≤ w.heap.size + 1 + 1 by omega) _).setCell (show w.heap.size ≤ w.heap.size + 1 + 1 by omega) _⟩
          · have d4 : ((L' : Int) == (m : Int)) = false := by simp; omega
            obtain ⟨q, hq⟩ : ∃ q, a + L' = q := ⟨_, rfl⟩
            obtain ⟨q3, hq3'⟩ : ∃ q3, q - 3 = q3 := ⟨_, rfl⟩
            obtain ⟨tt, htt⟩ : ∃ tt, q3 + 1 = tt := ⟨_, rfl⟩
            have e1 : (a : Int) + (L' : Int) = (q : Int) := by omega
            have e2 : (q : Int) - 3 = (q3 : Int) := by omega
            have e3 : (q3 : Int) + 1 = (tt : Int) := by omega
            have hqb : q ≤ 2097152 := by have := hml.out; omega
            have hq3b : q3 ≤ 2097152 := by omega
            have hq3 : 3 ≤ q := by omega
            have hft : fr ≤ tt := by omega
            have htA : tt < A.length := by have := HA.out; have := hml.out; omega
            have Htt := Lib.hid (show tt + 2 = a + L' by omega)
            have Hva2 := Lib.hid (Hva.out.below HB2.out)
            clear hq hq3' htt
            go_wp2_with fail
            refine Calls.mono (srRarest_any A _ _ fr tt w2 Hva2.out ⟨_, _, _, rfl⟩ hft htA (by have := HA.out; omega)) ?_
            rintro e w3 ⟨fr', rfl, hr1, hr2, hb3⟩
            have HT3 := Lib.hid (HT2.out.below hb3)
            have HR3 := Lib.hid ((hb3.block _ (lt_heap HR2.out)).trans HR2.out)
            have HB3 := Lib.hid (Below.thn HB2.out hb3)
            have Hs := Lib.hid (Hsea.out.1.found (fr' := fr') hd1 hd2 j1 Hrun.out hmore ⟨by omega, by have := Htt.out; omega⟩)
            have c2 : w3.cell? ⟨w.heap.size, 0, none⟩ = some (.slice (some ⟨g, off, none⟩) l.length c) := cell_heap HT3.out.s rfl
            have c3 : w3.cell? ⟨w.heap.size, 1, none⟩ = some (.slice pa A.length ca) := cell_heap HT3.out.s rfl
            clear hb3 c0 c1 cM HT2 HR2 e1 e2 e3 Hva2
            go_wp2_with fail
            refine Calls.mono (srNext_any A _ _ fr' 0 w3 (Hva.out.below HB3.out) ⟨_, _, _, rfl⟩ (by omega) (by omega) (Hlt0.out _ (by omega)) (by omega) (by have := HA.out; omega)) ?_
            rintro e w9 ⟨rfl, hb9⟩
            obtain ⟨nd, hnd⟩ : ∃ nd, nextN (fb A (fr' - 0)) 0 = nd := ⟨_, rfl⟩
            have HJ9 : Hid (LJ (fb l) a m L' dist fr' nd) := Lib.hid (by rw [← hnd]; exact LJ.next Hs.out (Hits.zero _ _) (Hah.out (fr' - 0) (by omega)))
            have hnd2 : nd ≤ 32768 := by rw [← hnd]; rcases nextN_gt (fb A (fr' - 0)) 0 with h | h <;> omega
            rw [hnd]
            have HT9 := Lib.hid (HT3.out.below hb9)
            have HR9 := Lib.hid ((hb9.block _ (lt_heap HR3.out)).trans HR3.out)
            have HB9 := Lib.hid (Below.thn HB3.out hb9)
            clear hb9 hnd c2 c3
            go_wp2_with fail
            go_roundw
            case rel => exact ⟨fr', nd, 0, L', dist, rfl, rfl, by omega, Lib.hid ⟨fun h => by omega, fun _ => rfl⟩, HJ9, HT9, HR9, HB9⟩
            case measure =>
              rw [cell_heap HT9.out.best rfl]
              simp only [intOf, Int.toNat_natCast]
              exact meas2_lz (show m - L' < m - L by omega) hnd2
    · have hsea : Sea (fb l) a m L D fr 32769 := by
        rcases HJ.out with ⟨-, h⟩ | ⟨h1, -, h⟩
        · exact h
        · exact h.far (.inr (by omega))
      have HtkX : Hid (IsTok (fb l) l.length a ⟨bv, L, D⟩) := Lib.hid (by
        have hdn := (show Sea (fb l) a (mo l.length a) L D fr 32769 by rw [Hm.out]; exact hsea).done
        by_cases h0 : L = 0
        · obtain ⟨e1, e2⟩ := Hbv.out.1 h0
          have := hdn.1 h0
          rw [h0, e1, e2, ← Hxx.out]; exact this
        · rw [Hbv.out.2 (by omega)]; exact hdn.2 (by omega))
      clear hsea HJ Hbv
      have c4 : wr.cell? ⟨w.heap.size + 1 + 1 + 1, 0, none⟩ = some (.int .u8 (bv : Int)) := cell_heap HT.out.best rfl
      have c5 : wr.cell? ⟨w.heap.size + 1 + 1 + 1, 1, none⟩ = some (.int .i64 (L : Int)) := cell_heap HT.out.best rfl
      have f0 : wr.frozen? ⟨w.heap.size + 1 + 1, 0, none⟩ = false := by simp [World.frozen?, HR.out]
      have f1 : wr.frozen? ⟨w.heap.size + 1 + 1, 1, none⟩ = false := by simp [World.frozen?, HR.out]
      have f2 : wr.frozen? ⟨w.heap.size + 1 + 1, 2, none⟩ = false := by simp [World.frozen?, HR.out]
      have r0 : wr.cell? ⟨w.heap.size + 1 + 1, 0, none⟩ = some (.int .u8 0) := cell_heap HR.out rfl
      have r1 : wr.cell? ⟨w.heap.size + 1 + 1, 1, none⟩ = some (.int .i64 0) := cell_heap HR.out rfl
      have r2 : wr.cell? ⟨w.heap.size + 1 + 1, 2, none⟩ = some (.int .i64 0) := cell_heap HR.out rfl
      by_cases h0 : dist = 0
      · subst h0
        go_wp2_with fail
        exact bodyPost_ret (v := tkV ⟨bv, L, D⟩) (results_tk Tryz.results41 rfl (three_set _ _ _ HR.out)) rfl ⟨⟨bv, L, D⟩, rfl, HtkX.out, ((HB.out.setCell (show w.heap.size ≤ w.heap.size + 1 + 1 by omega) _).setCell (show w.heap.size ≤ w.heap.size + 1 + 1 by omega) _).setCell (show w.heap.size ≤ w.heap.size + 1 + 1 by omega) _⟩
      · have d1 : decide ((0 : Int) < (dist : Int)) = true := by simp; omega
        have d2 : decide ((dist : Int) ≤ (a : Int)) = false := by simp; omega
        go_wp2_with fail
        exact bodyPost_ret (v := tkV ⟨bv, L, D⟩) (results_tk Tryz.results41 rfl (three_set _ _ _ HR.out)) rfl ⟨⟨bv, L, D⟩, rfl, HtkX.out, ((HB.out.setCell (show w.heap.size ≤ w.heap.size + 1 + 1 by omega) _).setCell (show w.heap.size ≤ w.heap.size + 1 + 1 by omega) _).setCell (show w.heap.size ≤ w.heap.size + 1 + 1 by omega) _⟩
end Go.Proofs.YtoladolgmeanhaaGreat

/- Maps whose keys are three bytes: what a store and a look-up do. -/
namespace Go.Proofs.YtoladolgmeanhaaGreat
open Go.RowKit Go.Maps

set_option maxRecDepth 100000

def tv (k : Nat × Nat × Nat) : Value := .agg #[.int .u8 (k.1 : Int), .int .u8 (k.2.1 : Int), .int .u8 (k.2.2 : Int)]
theorem thr_under : Tryz.prog.underlying 118 = some (.array 3 5) := by kernel_rfl
theorem thr_cells : Tryz.prog.cellsOf 118 = 3 := by kernel_rfl
theorem byt_cells : Tryz.prog.cellsOf 5 = 1 := by kernel_rfl
theorem thr_keyt : Tryz.prog.keyType 118 = true := by kernel_rfl
theorem typs_pos : Tryz.prog.types.size = Tryz.prog.types.size - 1 + 1 := by kernel_rfl
theorem thr_laid : laidOutB Tryz.prog = true := by kernel_rfl
theorem thr_row : (118 : TypeId) < Tryz.prog.types.size := of_decide_eq_true (by kernel_rfl)
theorem thr_wide : (match Tryz.prog.underlying 118 with | some (.array _ _) | some (.struct _) => true | _ => false) = true := by rw [thr_under]
theorem thr_tiled : Tryz.prog.keyTypeAt 2 118 = true := by kernel_rfl
theorem thr_law : WideMaps.KeyLaw Tryz.prog 118 := deep_law_laid thr_laid (m := 2) (by omega) thr_row thr_tiled thr_wide
theorem thr_keyed : Keyed Tryz.prog 118 := Keyed.of_law thr_law
theorem thr_formed {c0 c1 c2 : Value} : (Value.agg #[c0, c1, c2]).formed Tryz.prog 118 = true := by
  simp [Value.formed, thr_cells]
theorem wf_byt {a : Nat} (h : a < 256) : (Lit.int .u8 (a : Int)).wf = true := by
  have hm : IntKind.u8.min = 0 := by decide
  have hx : IntKind.u8.max = 255 := by decide
  simp [Lit.wf, hm, hx]; omega
theorem lit_byt {a : Nat} (h : a < 256) (d : Nat) : Tryz.prog.keyLits (d + 1) 5 [.int .u8 (a : Int)] = some [.int .u8 (a : Int)] := by
  have hu : Tryz.prog.underlying 5 = some (.int .u8) := by kernel_rfl
  unfold Program.keyLits
  rw [hu]
  simp [wf_byt h]
def tl3 (k : Nat × Nat × Nat) : Lit := .string (keyBytes [.int .u8 (k.1 : Int), .int .u8 (k.2.1 : Int), .int .u8 (k.2.2 : Int)])
def B3 (k : Nat × Nat × Nat) : Prop := k.1 < 256 ∧ k.2.1 < 256 ∧ k.2.2 < 256
theorem lits_thr {k : Nat × Nat × Nat} (h : B3 k) (d : Nat) : Tryz.prog.keyLits (d + 2) 118 [.int .u8 (k.1 : Int), .int .u8 (k.2.1 : Int), .int .u8 (k.2.2 : Int)] = some [.int .u8 (k.1 : Int), .int .u8 (k.2.1 : Int), .int .u8 (k.2.2 : Int)] := by
  unfold Program.keyLits
  rw [thr_under]
  simp only [List.length_cons, List.length_nil, thr_cells]
  have hr : List.range 3 = [0, 1, 2] := rfl
  rw [hr]
  simp [byt_cells, lit_byt h.1, lit_byt h.2.1, lit_byt h.2.2]
theorem thr_key {k : Nat × Nat × Nat} (h : B3 k) : keyOf Tryz.prog 118 (tv k) = some (tl3 k) := by
  unfold keyOf
  rw [thr_under]
  simp only [thr_keyt, tv, thr_formed, Bool.and_self, if_true]
  have hd : Tryz.prog.types.size + 1 = Tryz.prog.types.size - 1 + 2 := by have := typs_pos; omega
  rw [hd]
  have : (Value.agg #[.int .u8 (k.1 : Int), .int .u8 (k.2.1 : Int), .int .u8 (k.2.2 : Int)]).cells.toList = [.int .u8 (k.1 : Int), .int .u8 (k.2.1 : Int), .int .u8 (k.2.2 : Int)] := by simp [Value.cells]
  rw [this, lits_thr h]
  rfl
theorem tl3_inj {k k' : Nat × Nat × Nat} (h1 : B3 k) (h2 : B3 k') (h : tl3 k = tl3 k') : k = k' := by
  have e := thr_keyed.inj (thr_key h1) (by rw [h]; exact thr_key h2)
  unfold tv at e
  simp only [Value.agg.injEq] at e
  simp at e
  obtain ⟨a, b, c⟩ := k
  obtain ⟨a', b', c'⟩ := k'
  simp only at e
  obtain ⟨e1, e2, e3⟩ := e
  have e1 : a = a' := by omega
  have e2 : b = b' := by omega
  have e3 : c = c' := by omega
  rw [e1, e2, e3]
theorem tl3_isKey (k : Nat × Nat × Nat) : WideAt.IsKeyLit (tl3 k) := trivial
noncomputable abbrev relem3 : Value → Option (DataW Unit × List MemPlace) := plainElem Tryz.prog 3
def Map3 (w : World) (M n : Nat) (F : Nat × Nat × Nat → Option Nat) : Prop :=
  ∃ D : DataW Unit, w.ownsMap Tryz.prog 118 relem3 M n D ∧ ∀ k : Nat × Nat × Nat, B3 k → Maps.has D (tl3 k) = (F k).isSome ∧ ∀ x, F k = some x → ∀ z, D.atKey (tl3 k) z = .lit (.int .i64 (x : Int))
theorem int3_under : Tryz.prog.underlying 3 = some (.int .i64) := by kernel_rfl
theorem map3_under : Tryz.prog.underlying 117 = some (.map 118 3) := by kernel_rfl
theorem wf_sml {x : Nat} (h : x ≤ 1048576) : (Lit.int .i64 (x : Int)).wf = true := by
  have hm : IntKind.i64.min = -9223372036854775808 := by decide
  have hx : IntKind.i64.max = 9223372036854775807 := by decide
  simp [Lit.wf, hm, hx]; omega
theorem Map3.made (w : World) : Map3 (w.alloc (.map #[] 0)) w.heap.size 0 fun _ => none :=
  ⟨_, World.ownsMap_made w _ _ _, fun k _ => ⟨rfl, fun x h => by cases h⟩⟩
theorem Map3.put {w : World} {M n x : Nat} {F : Nat × Nat × Nat → Option Nat} {k : Nat × Nat × Nat} (h : Map3 w M n F) (hn : n < maxLen) (h1 : B3 k) (hx : x ≤ 1048576) :
    ∃ w', (Instr.mapUpdate 117 (.map (some M)) (tv k) (.int .i64 (x : Int))).run Tryz.prog w = .ok () w' ∧ Map3 w' M (n + 1) (fun k' => if k' = k then some x else F k') ∧ w.mapTurned w' M := by
  obtain ⟨D, hD, hF⟩ := h
  obtain ⟨w', hr, ho, ht⟩ := hD.store thr_keyed map3_under hn (thr_key h1) (plainElem_int int3_under (wf_sml hx))
  refine ⟨w', hr, ⟨_, ho, fun k' g1 => ?_⟩, ht⟩
  by_cases e : k' = k
  · subst e
    simp only [if_true, Option.isSome_some, Option.some.injEq]
    exact ⟨Maps.has_put_same hD.isMap (tl3_isKey _) _, fun y hy z => by subst hy; exact Maps.atKey_put_same hD.isMap (tl3_isKey _) _ z⟩
  · simp only [if_neg e]
    have hne : tl3 k' ≠ tl3 k := fun he => e (tl3_inj g1 h1 he)
    exact ⟨by rw [Maps.has_put_other hne]; exact (hF k' g1).1, fun y hy z => by rw [Maps.atKey_put_other hne]; exact (hF k' g1).2 y hy z⟩
theorem int3_zero (w : World) : (zeroValue 3).run Tryz.prog w = .ok (.int .i64 0) w := by
  kernel_rfl
theorem Map3.look {w : World} {M n : Nat} {F : Nat × Nat × Nat → Option Nat} {k : Nat × Nat × Nat} (h : Map3 w M n F) (h1 : B3 k) :
    (Instr.lookup 117 (.map (some M)) (tv k) true).run Tryz.prog w = .ok (.tuple #[.int .i64 (((F k).getD 0 : Nat) : Int), .bool (F k).isSome]) w := by
  obtain ⟨D, hD, hF⟩ := h
  obtain ⟨v, ps, hr, hv⟩ := hD.look_ok thr_keyed map3_under (int3_zero w) (plainElem_int int3_under (wf_sml (x := 0) (by omega))) (thr_key h1)
  obtain ⟨a, rfl, hz, -⟩ := plainElem_int_inv int3_under hv
  simp only [Prod.mk.injEq] at hz
  rw [hr, (hF k h1).1]
  cases hk : F k with
  | none =>
    rw [Maps.atKey_of_not_has (by rw [(hF k h1).1, hk]; rfl)] at hz
    simp at hz
    simp [← hz.1]
  | some x =>
    rw [(hF k h1).2 x hk] at hz
    simp at hz
    simp [← hz.1]
theorem Map3.turned {w w' : World} {M n : Nat} {F : Nat × Nat × Nat → Option Nat} (h : Map3 w M n F) {T : Nat → Prop} (ht : Turns T w w') (hT : ¬ T M) : Map3 w' M n F := by
  obtain ⟨D, ⟨es, clock, hb, r⟩, hF⟩ := h
  exact ⟨D, ⟨es, clock, (ht.block M (lt_heap hb) hT).trans hb, r⟩, hF⟩
theorem mt_turns3 {w w' : World} {M : Nat} (h : w.mapTurned w' M) : Turns (fun i => i = M) w w' := Turns.of_grown h.grown (fun i e => by cases e; rfl)
theorem wpList_put3 (w : World) {ops : Array Oper} {rest : List Oper} {o : Oper} {a : Act} {Q : Exit → Act → World → Prop} (hg : o.guard = none) (m x v : Operand) (hop : o.op = Op.mapUpdate 117 m x v)
    (M n s : Nat) (k : Nat × Nat × Nat) (F : Nat × Nat × Nat → Option Nat) (hm : a.eval m = .map (some M)) (hown : Map3 w M n F) (hn : n < maxLen) (h1 : B3 k) (hs : s ≤ 1048576)
    (hx : a.eval x = tv k) (hv : a.eval v = .int .i64 (s : Int))
    (hK : ∀ w', Map3 w' M (n + 1) (fun k' => if k' = k then some s else F k') → Turns (fun i => i = M) w w' → wpList Tryz.prog ops Q rest (a.put o.dst undef) w') : wpList Tryz.prog ops Q (o :: rest) a w := by
  refine wpList_plain hg fun K' hK' => ?_
  obtain ⟨w', hrun, r1, r2⟩ := hown.put (k := k) hn h1 hs
  unfold Oper.wp
  simp [execOp, hop, hm, hx, hv, hrun, Result.andThen]
  exact hK' _ _ (hK w' r1 (mt_turns3 r2))
end Go.Proofs.YtoladolgmeanhaaGreat

/- lz's stood: for each place, how far ahead its three bytes stood last. -/
namespace Go.Proofs.YtoladolgmeanhaaGreat
open Go.RowKit Go.Maps

def hv (x : Nat) : Value := .int .u16 (x : Int)
theorem flatH : ∀ l : List Nat, l.flatMap encH = l.map hv
  | [] => rfl
  | b :: r => by rw [List.flatMap_cons, flatH r]; rfl
theorem half_info : (Tryz.prog.info? 120).map (fun i => (i.zero, i.size, i.bytes)) = some (some (.int .u16 0), 1, 2) := by kernel_rfl
def hZ (n : Nat) : Array Value := ((List.replicate n 0).map hv).toArray
theorem made_half (n : Nat) : madeCells #[Value.int .u16 0] n = hZ n := by
  unfold hZ
  refine Array.ext (by simp [size_madeCells]) (fun i h1 h2 => ?_)
  simp [madeCells, Nat.mod_one, hv]
theorem make_half (n : Nat) (hn : n ≤ 1048576) (w : World) : (Instr.makeSlice 66 (.int .i64 (n : Int)) (.int .i64 (n : Int))).run Tryz.prog w = .ok (.slice (some ⟨w.heap.size, 0, none⟩) n n) (w.alloc (.cells (hZ n) 120)) := by
  obtain ⟨i, hi, hz, hs, hb⟩ := info_parts half_info
  have h := run_make (P := Tryz.prog) w 66 120 i _ Tryz.underlying66 hi hz .i64 .i64 (n : Int) (n : Int) (by omega) (Int.le_refl _) (by rw [hb]; omega) (by omega)
  rw [h]
  simp only [Int.toNat_natCast, hs, Nat.mul_one]
  rw [show (Value.int IntKind.u16 0).cells = #[Value.int .u16 0] from rfl, made_half]
theorem max_lz (ts : Array TypeId) (t : TypeId) (k k' : IntKind) (x y : Int) (w : World) : (Builtin.max_ ts t #[.int k x, .int k' y]).run Tryz.prog w = .ok (.int k (max x y)) w := by
  rw [run_max_int2]; congr 2; split <;> omega
theorem set_map_hv (A : List Nat) (k h : Nat) : (A.map hv).set k (.int .u16 (h : Int)) = (A.set k h).map hv := (List.map_set (f := hv)).symm
theorem fb_set_same {A : List Nat} {k h : Nat} (hk : k < A.length) : fb (A.set k h) k = h := by simp [fb, List.getD_eq_getElem?_getD, hk]
theorem fb_set_ne {A : List Nat} {k h p : Nat} (hp : p ≠ k) : fb (A.set k h) p = fb A p := by
  simp [fb, List.getD_eq_getElem?_getD, List.getElem?_set_ne (Ne.symm hp)]
structure StJ (w0 : World) (vb : Value) (l : List Nat) (N k : Nat) (w : World) : Prop where
  ex : ∃ (A : List Nat) (F : Nat × Nat × Nat → Option Nat), A.length = N ∧ w.ownsRow (w0.heap.size + 1) 120 1 (.slice (some ⟨w0.heap.size + 1, 0, none⟩) N N) N (A.map hv) ∧ (∀ p, p < k → IsAhead (fb l) p (fb A p)) ∧ (∀ p, k ≤ p → fb A p = 0) ∧ LastF (fb l) k F ∧ Map3 w w0.heap.size k F
  row : Row enc8 1 w vb l
  below : Below w0.heap.size w0 w
theorem StJ.step {w0 : World} {vb : Value} {l : List Nat} {N k h : Nat} {w w1 w2 w3 : World} {A : List Nat} {F : Nat × Nat × Nat → Option Nat} (hvb : ∀ b, vb.ownBlock = some b → b < w0.heap.size)
    (hA : A.length = N) (hk : k < N) (hown : w.ownsRow (w0.heap.size + 1) 120 1 (.slice (some ⟨w0.heap.size + 1, 0, none⟩) N N) N (A.map hv)) (h1 : ∀ p, p < k → IsAhead (fb l) p (fb A p)) (h2 : ∀ p, k ≤ p → fb A p = 0) (h3 : LastF (fb l) k F)
    (hrow : Row enc8 1 w vb l) (hb : Below w0.heap.size w0 w) (hb1 : Below w.heap.size w w1) (hst : (h = 0 ∧ w2 = w1) ∨ w2 = w1.setCell ⟨w0.heap.size + 1, k, none⟩ (.int .u16 (h : Int))) (hh : h = hopOf F (fb l) k)
    (hm : Map3 w3 w0.heap.size (k + 1) (fun k' => if k' = (fb l k, fb l (k + 1), fb l (k + 2)) then some k else F k')) (ht : Turns (fun i => i = w0.heap.size) w2 w3) : StJ w0 vb l N (k + 1) w3 := by
  have ho1 := (Turns.of_below' (T := fun _ => False) hb1).owns hown (fun _ _ h => h)
  have ht1 : Turns (fun i => i = w0.heap.size + 1) w1 w2 := by
    rcases hst with ⟨-, rfl⟩ | rfl
    · exact Turns.refl _ _
    · exact Turns.set (T := fun i => i = w0.heap.size + 1) (Turns.refl _ _) (p := ⟨w0.heap.size + 1, k, none⟩) rfl _
  have hset : A.set k h = A.set k (hopOf F (fb l) k) := by rw [hh]
  have ho2 : w2.ownsRow (w0.heap.size + 1) 120 1 (.slice (some ⟨w0.heap.size + 1, 0, none⟩) N N) N ((A.set k h).map hv) := by
    rcases hst with ⟨e, rfl⟩ | rfl
    · have : A.set k h = A := by
        refine List.ext_getElem (by simp) (fun i i1 i2 => ?_)
        by_cases e' : i = k
        · subst e'
          have := h2 i (Nat.le_refl _)
          rw [fb_at (by omega)] at this
          simp [e, this]
        · rw [List.getElem_set_ne (fun h => e' h.symm)]
      rw [this]; exact ho1
    · have := owns_setCell ho1 k (.int .u16 (h : Int))
      rwa [set_map_hv] at this
  have ho3 := ht.owns ho2 (fun b hb e => by cases hb; simp at e)
  have hbw1 := Below.thn hb hb1
  have hbw2 := hbw1.trans (ht1.below hbw1.size (fun i hi => by omega))
  have hbw3 := hbw2.trans (ht.below hbw2.size (fun i hi => by omega))
  refine ⟨⟨A.set k h, _, by simpa using hA, ho3, fun p hp => ?_, fun p hp => ?_, h3.put, hm⟩, ?_, hbw3⟩
  · by_cases e : p = k
    · subst e
      rw [fb_set_same (by omega), hh]
      exact h3.hop
    · rw [fb_set_ne e]; exact h1 p (by omega)
  · rw [fb_set_ne (by omega)]; exact h2 p (by omega)
  · refine ((hrow.below hb1).turns ht1 (fun b hb e => ?_)).turns ht (fun b hb e => ?_)
    · have := hvb b hb; omega
    · have := hvb b hb; omega
end Go.Proofs.YtoladolgmeanhaaGreat
