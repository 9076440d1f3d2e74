/- rle: the runs of pixels, as an iterator hands them over. -/
import Derived.Test.YtgfdlimgndpngaaRleC
import Derived.Test.YtgfdlimgndpngaaTurns
import Derived.OwnWalkIn
import Derived.TacticsInMore
import Derived.LoopNIn
import Derived.LoopIn
import Derived.Laws.Cover3
namespace Go.Proofs.Ytgfdlimgndpngaa
open Go.RowKit

attribute [local go_sem] Oper.semAt_some

def ElRn (_ _ : World) (_ : Nat → Prop) (x : Nat × Nat) (vs : Array Value) : Prop := vs = #[RnV x.1 x.2]
theorem lt_of_sameR {w w' : World} {b : Nat} (h : b < w.heap.size) (e : w'.heap[b]? = w.heap[b]?) : b < w'.heap.size := by
  rw [Array.getElem?_eq_getElem h] at e
  exact lt_heap e
theorem getD_drop (l : List Nat) (a i : Nat) : (l.drop a).getD i 0 = l.getD (a + i) 0 := by
  rw [List.getD_eq_getElem?_getD, List.getD_eq_getElem?_getD, List.getElem?_drop]

set_option maxRecDepth 20000 in
set_option maxHeartbeats 4000000 in
theorem alike_iter (Bl : Nat) (p : Option Addr) (c : Nat) (l : List Nat) (w : World) (R : Nat → Prop) (hBl : w.cell? ⟨Bl, 0, none⟩ = some (.slice p l.length c)) (hp : RowAt encP 1 w p l) (h32 : ∀ x ∈ l, x < 4294967296) (hl : l.length ≤ 1048576) (hlc : l.length ≤ c)
    (hRlt : ∀ b, R b → b < w.heap.size) (hR1 : R Bl) (hR3 : ∀ a, p = some a → R a.block) :
    Iter Try.prog 20 #[.pointer (some ⟨Bl, 0, none⟩)] ElRn R (rlO l) w := by
  intro ll J Jx W hsz hRW hJ0 hY
  refine callsIn_wide.2 ?_
  have HY := Lib.hid hY
  have HRW := Lib.hid hRW
  have Hp := Lib.hid hp
  have HRlt := Lib.hid hRlt
  have HBl := Lib.hid hBl
  have H32 : Hid (∀ i, l.getD i 0 < 4294967296) := Lib.hid (fun i => by
    rw [List.getD_eq_getElem?_getD]
    cases h : l[i]? with
    | none => decide
    | some x => exact h32 x (List.mem_of_getElem? h))
  obtain ⟨n, hn⟩ : ∃ n, l.length = n := ⟨_, rfl⟩
  have Hn := Lib.hid hn
  rw [hn] at hlc hl HBl
  clear hY hRW hp hRlt hBl hn h32
  go_enter Try.func20, Try.ntmps20
  go_wp2
  go_loopw [3] (fun av wr => ∃ (a : Nat) (pre : List (Nat × Nat)) (Tp : Nat → Prop) (Wp : World), av = .int .i64 (a : Int) ∧ a ≤ n ∧ Hid (rlO l = pre ++ rlO (l.drop a)) ∧ Hid (J pre Tp Wp) ∧ Hid (Turns Tp Wp wr) ∧ Hid (∀ b, R b → wr.heap[b]? = w.heap[b]?)) (fun av _ => n - (intOf av).toNat)
  case atStart => exact ⟨0, [], fun _ => False, W, rfl, Nat.zero_le _, Lib.hid rfl, Lib.hid hJ0, Lib.hid (Turns.refl _ _), HRW⟩
  case round =>
    obtain ⟨a, pre, Tp, Wp, rfl, ha, HE, HJ, HT, HR⟩ := hrel
    have xb := (World.cell?_of_block (a := ⟨Bl, 0, none⟩) (HR.out Bl hR1)).trans HBl.out
    by_cases han : a < n
    · have d1 : decide ((a : Int) < (n : Int)) = true := by simp; omega
      have han' : a < l.length := by rw [Hn.out]; exact han
      obtain ⟨g, off, rfl, hcell⟩ : ∃ g off, p = some ⟨g, off, none⟩ ∧ ∀ i, i < l.length → w.cell? ⟨g, off + i, none⟩ = some (.int .u32 (l.getD i 0 : Int)) := by
        obtain ⟨g, off, e, -⟩ := Hp.out.px han'
        refine ⟨g, off, e, fun i hi => ?_⟩
        obtain ⟨g', off', e', h⟩ := Hp.out.px hi
        rw [e] at e'; cases e'
        exact h
      have hRg := HR.out g (hR3 _ rfl)
      have hdl : (l.drop a).length = n - a := by rw [List.length_drop, Hn.out]
      have hrun := first_any g (off + a) (c - a) (l.drop a) wr (by rw [hdl]; omega) (by rw [hdl]; omega) (fun i => by rw [getD_drop]; exact H32.out _) (fun i hi => by
        rw [getD_drop, Nat.add_assoc]
        exact (World.cell?_of_block (a := ⟨g, off + (a + i), none⟩) hRg).trans (hcell (a + i) (by have := Hn.out; rw [hdl] at hi; omega)))
      rw [hdl, getD_drop, Nat.add_zero] at hrun
      have Hrun := Lib.hid hrun
      clear hrun hcell hRg hdl
      have i0 : (0 : Int) ≤ (a : Int) := by omega
      have i1 : (a : Int) ≤ (n : Int) := by omega
      have i2 : (a : Int) ≤ (c : Int) := by omega
      go_wp2_with fail
      refine Calls.mono Hrun.out ?_
      rintro _ u1 ⟨k, rfl, k1, k2, k3, k4, hb1⟩
      obtain ⟨z, hz⟩ : ∃ z, rlw (l.getD a 0) = z := ⟨_, rfl⟩
      rw [hz] at k4 ⊢
      have HE3 : Hid (rlO l = pre ++ (k, z) :: rlO (l.drop (a + k))) := Lib.hid (by rw [HE.out, k4, List.drop_drop])
      have HR1 : Hid (∀ b, R b → u1.heap[b]? = w.heap[b]?) := Lib.hid (fun b hb => (hb1.block b (lt_of_sameR (HRlt.out b hb) (HR.out b hb))).trans (HR.out b hb))
      have HT1 := Lib.hid (HT.out.trans (Turns.of_below' hb1))
      have xb1 := (World.cell?_of_block (a := ⟨Bl, 0, none⟩) (HR1.out Bl hR1)).trans HBl.out
      clear hb1 Hrun xb hz k4
      go_upto_region 3 with (fail)
      have hp := RnAt.new u1 k z
      have hbp := Below.al1 u1 (.cells #[.int .i64 (k : Int), .int .u32 (z : Int)] 39)
      have hps : u1.heap.size < (u1.alloc (.cells #[.int .i64 (k : Int), .int .u32 (z : Int)] 39)).heap.size := by rw [World.size_alloc]; omega
      generalize u1.alloc (.cells #[.int .i64 (k : Int), .int .u32 (z : Int)] 39) = u2 at *
      obtain ⟨p0, p1⟩ := hp.c
      have Hp0 := Lib.hid p0
      have HR2 : Hid (∀ b, R b → u2.heap[b]? = w.heap[b]?) := Lib.hid (fun b hb => (hbp.block b (lt_of_sameR (HRlt.out b hb) (HR1.out b hb))).trans (HR1.out b hb))
      have HT2 := Lib.hid (HT1.out.trans (Turns.of_below' hbp))
      have hpW : Wp.heap.size ≤ u1.heap.size := HT1.out.size
      generalize u1.heap.size = pb at *
      clear hp hbp xb1
      obtain ⟨fn, tmps, assign, body, hy, hRd⟩ := HY.out pre (k, z) (rlO (l.drop (a + k))) Tp (fun b => b = pb) Wp u2 #[RnV k z] HE3.out HJ.out HT2.out (fun b h => .inr (by omega)) (fun b h => by omega) HR2.out rfl
      refine (wpIn_wide (n := 0)).1 ?_
      gi_wp2
      refine ⟨rfl, hRd.mono ?_⟩
      rintro e W3 (⟨rfl, hJ3, hsz3, hk3⟩ | ⟨rfl, hJx3, -, -⟩)
      · have HR3 : Hid (∀ b, R b → W3.heap[b]? = w.heap[b]?) := Lib.hid (fun b hb => (hk3 b (Or.inl hb)).trans (HR2.out b hb))
        have HJ3 := Lib.hid hJ3
        have q0 := (World.cell?_of_block (a := ⟨pb, 0, none⟩) (hk3 pb (.inr rfl))).trans Hp0.out
        clear hk3 hJ3 hy hRd p0 p1
        gi_wp2
        go_wp2
        go_roundw
        case rel => exact ⟨a + k, pre ++ [(k, z)], fun b => b = pb, W3, by go_num, by omega, Lib.hid (by rw [HE3.out]; simp), HJ3, Lib.hid (Turns.refl _ _), HR3⟩
        case measure => simp [intOf]; omega
      · have HP : pre ++ [(k, z)] <+: rlO l := ⟨rlO (l.drop (a + k)), by rw [HE3.out]; simp⟩
        gi_wp2
        go_wp2
        refine bodyPost_ret (results_none rfl _ _ _) rfl ?_
        exact ⟨⟨_, rfl⟩, .inr ⟨_, _, _, HP, hJx3, Turns.refl _ _⟩⟩
    · obtain rfl : a = n := by omega
      have d1 : decide ((a : Int) < (a : Int)) = false := by simp
      have HX : Hid (rlO l = pre) := Lib.hid (by rw [HE.out, ← Hn.out, List.drop_length]; simp [rlO])
      go_wp2
      go_end0
      exact ⟨⟨_, rfl⟩, .inl ⟨_, _, by rw [HX.out]; exact HJ.out, HT.out⟩⟩

/-- The runs of bytes, as an iterator hands them over. -/
theorem rlT_drop {b : List Nat} {a : Nat} (h : a + 4 ≤ b.length) : rlT (b.drop a) = (b.getD a 0 + 1, b.getD (a + 1) 0 * 65536 + b.getD (a + 2) 0 * 256 + b.getD (a + 3) 0) :: rlT (b.drop (a + 4)) := by
  have e : b.drop a = b.getD a 0 :: b.getD (a + 1) 0 :: b.getD (a + 2) 0 :: b.getD (a + 3) 0 :: b.drop (a + 4) := by
    have k : ∀ i (hi : i < b.length), b.drop i = b.getD i 0 :: b.drop (i + 1) := fun i hi => by
      rw [List.drop_eq_getElem_cons hi, List.getD_eq_getElem?_getD, List.getElem?_eq_getElem hi]; rfl
    rw [k a (by omega), k (a + 1) (by omega), k (a + 1 + 1) (by omega), k (a + 1 + 1 + 1) (by omega)]
  rw [e]; rfl

set_option maxRecDepth 20000 in
set_option maxHeartbeats 4000000 in
theorem told_iterR (Bl : Nat) (p : Option Addr) (c : Nat) (l : List Nat) (w : World) (R : Nat → Prop) (hBl : w.cell? ⟨Bl, 0, none⟩ = some (.slice p l.length c)) (hp : RowAt enc8 1 w p l) (h8 : ∀ x ∈ l, x < 256) (h4 : l.length % 4 = 0) (hl : l.length ≤ 1048576) (hlc : l.length ≤ c)
    (hRlt : ∀ b, R b → b < w.heap.size) (hR1 : R Bl) (hR3 : ∀ a, p = some a → R a.block) :
    Iter Try.prog 22 #[.pointer (some ⟨Bl, 0, none⟩)] ElRn R (rlT l) w := by
  intro ll J Jx W hsz hRW hJ0 hY
  refine callsIn_wide.2 ?_
  have HY := Lib.hid hY
  have HRW := Lib.hid hRW
  have Hp := Lib.hid hp
  have HRlt := Lib.hid hRlt
  have HBl := Lib.hid hBl
  have H8 : Hid (∀ i, lq l i < 256) := Lib.hid (fun i => by
    unfold lq
    rw [List.getD_eq_getElem?_getD]
    cases h : l[i]? with
    | none => decide
    | some x => exact h8 x (List.mem_of_getElem? h))
  obtain ⟨n, hn⟩ : ∃ n, l.length = n := ⟨_, rfl⟩
  have Hn := Lib.hid hn
  rw [hn] at hlc hl HBl h4
  clear hY hRW hp hRlt hBl hn h8
  go_enter Try.func22, Try.ntmps22
  go_wp2
  go_loopw [3] (fun av wr => ∃ (a : Nat) (pre : List (Nat × Nat)) (Tp : Nat → Prop) (Wp : World), av = .int .i64 (a : Int) ∧ a ≤ n ∧ a % 4 = 0 ∧ Hid (rlT l = pre ++ rlT (l.drop a)) ∧ Hid (J pre Tp Wp) ∧ Hid (Turns Tp Wp wr) ∧ Hid (∀ b, R b → wr.heap[b]? = w.heap[b]?)) (fun av _ => n - (intOf av).toNat)
  case atStart => exact ⟨0, [], fun _ => False, W, rfl, Nat.zero_le _, rfl, Lib.hid rfl, Lib.hid hJ0, Lib.hid (Turns.refl _ _), HRW⟩
  case round =>
    obtain ⟨a, pre, Tp, Wp, rfl, ha, ha4, HE, HJ, HT, HR⟩ := hrel
    have xb := (World.cell?_of_block (a := ⟨Bl, 0, none⟩) (HR.out Bl hR1)).trans HBl.out
    by_cases han : a < n
    · have d1 : decide ((a : Int) < (n : Int)) = true := by simp; omega
      have han' : a < l.length := by rw [Hn.out]; exact han
      have ha3 : a + 4 ≤ n := by omega
      obtain ⟨g, off, rfl, hcell⟩ : ∃ g off, p = some ⟨g, off, none⟩ ∧ ∀ i, i < l.length → w.cell? ⟨g, off + i, none⟩ = some (.int .u8 ((lq l i : Nat) : Int)) := by
        obtain ⟨g, off, e, -⟩ := Hp.out.byte han'
        refine ⟨g, off, e, fun i hi => ?_⟩
        obtain ⟨g', off', e', h⟩ := Hp.out.byte hi
        rw [e] at e'; cases e'
        exact h
      have hRg := HR.out g (hR3 _ rfl)
      have x0 := (World.cell?_of_block (a := ⟨g, off + a, none⟩) hRg).trans (hcell a han')
      have x1 := (World.cell?_of_block (a := ⟨g, off + (a + 1), none⟩) hRg).trans (hcell (a + 1) (by rw [Hn.out]; omega))
      have x2 := (World.cell?_of_block (a := ⟨g, off + (a + 2), none⟩) hRg).trans (hcell (a + 2) (by rw [Hn.out]; omega))
      have x3 := (World.cell?_of_block (a := ⟨g, off + (a + 3), none⟩) hRg).trans (hcell (a + 3) (by rw [Hn.out]; omega))
      rw [← Nat.add_assoc] at x1 x2 x3
      have hd := rlT_drop (b := l) (a := a) (by rw [Hn.out]; exact ha3)
      have b0 := H8.out a
      have b1 := H8.out (a + 1)
      have b2 := H8.out (a + 2)
      have b3 := H8.out (a + 3)
      change rlT (l.drop a) = (lq l a + 1, lq l (a + 1) * 65536 + lq l (a + 2) * 256 + lq l (a + 3)) :: rlT (l.drop (a + 4)) at hd
      generalize lq l a = y0 at *
      generalize lq l (a + 1) = y1 at *
      generalize lq l (a + 2) = y2 at *
      generalize lq l (a + 3) = y3 at *
      have Hread := Lib.hid (fun W => rread_any y0 y1 y2 y3 W b0 b1 b2 b3)
      have HE3 : Hid (rlT l = pre ++ (y0 + 1, y1 * 65536 + y2 * 256 + y3) :: rlT (l.drop (a + 4))) := Lib.hid (by rw [HE.out, hd])
      have i0 : (0 : Int) ≤ (a : Int) := by omega
      have i1 : (a : Int) ≤ (n : Int) := by omega
      have i2 : (a : Int) ≤ (c : Int) := by omega
      have i4 : (4 : Int) ≤ (n : Int) - (a : Int) := by omega
      have i5 : 4 ≤ n - a := by omega
      clear hcell hRg hd b0 b1 b2 b3
      have hat : ∀ w, (Instr.arrayAt 46 (.slice (some ⟨g, off + a, none⟩) (n - a) (c - a))).run Try.prog w = .ok (.pointer (some ⟨g, off + a, none⟩)) w := fun w => run_arrayAt w 46 _ 4 _ (n - a) (c - a) Try.underlying46 i5
      go_upto_region 3 with (fail)
      refine (wpIn_wide (n := 0)).1 ?_
      gi_wp2
      refine ⟨trivial, rfl, (callsIn_wide.2 (Hread.out _)).mono ?_⟩
      rintro _ u1 ⟨rfl, hb1⟩
      have HR1 : Hid (∀ b, R b → u1.heap[b]? = w.heap[b]?) := Lib.hid (fun b hb => (hb1.block b (lt_of_sameR (HRlt.out b hb) (HR.out b hb))).trans (HR.out b hb))
      have HT1 := Lib.hid (HT.out.trans (Turns.of_below' hb1))
      clear hb1 Hread x0 x1 x2 x3 xb
      generalize y0 + 1 = k0 at *
      generalize y1 * 65536 + y2 * 256 + y3 = z at *
      obtain ⟨fn, tmps, assign, body, hy, hRd⟩ := HY.out pre (k0, z) (rlT (l.drop (a + 4))) Tp (fun _ => False) Wp u1 #[RnV k0 z] HE3.out HJ.out HT1.out (fun _ h => h.elim) (fun _ h => h.elim) HR1.out rfl
      gi_wp2
      refine ⟨rfl, hRd.mono ?_⟩
      rintro e W3 (⟨rfl, hJ3, hsz3, hk3⟩ | ⟨rfl, hJx3, -, -⟩)
      · have HR3 : Hid (∀ b, R b → W3.heap[b]? = w.heap[b]?) := Lib.hid (fun b hb => (hk3 b (Or.inl hb)).trans (HR1.out b hb))
        have HJ3 := Lib.hid hJ3
        clear hk3 hJ3 hy hRd
        gi_wp2
        go_wp2
        go_roundw
        case rel => exact ⟨a + 4, pre ++ [(k0, z)], fun _ => False, W3, by go_num, by omega, by omega, Lib.hid (by rw [HE3.out]; simp), HJ3, Lib.hid (Turns.refl _ _), HR3⟩
        case measure => simp [intOf]; omega
      · have HP : pre ++ [(k0, z)] <+: rlT l := ⟨rlT (l.drop (a + 4)), by rw [HE3.out]; simp⟩
        gi_wp2
        go_wp2
        refine bodyPost_ret (results_none rfl _ _ _) rfl ?_
        exact ⟨⟨_, rfl⟩, .inr ⟨_, _, _, HP, hJx3, Turns.refl _ _⟩⟩
    · obtain rfl : a = n := by omega
      have d1 : decide ((a : Int) < (a : Int)) = false := by simp
      have HX : Hid (rlT l = pre) := Lib.hid (by rw [HE.out, ← Hn.out, List.drop_length]; simp [rlT])
      go_wp2
      go_end0
      exact ⟨⟨_, rfl⟩, .inl ⟨_, _, by rw [HX.out]; exact HJ.out, HT.out⟩⟩

end Go.Proofs.Ytgfdlimgndpngaa
