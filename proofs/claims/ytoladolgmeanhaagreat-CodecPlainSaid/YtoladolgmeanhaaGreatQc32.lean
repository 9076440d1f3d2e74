/- Several texts in one, each with its own head. -/
import Derived.Test.YtoladolgmeanhaaGreatQc31
import Derived.Test.YtoladolgmeanhaaGreatQc3
import Derived.OwnWalkIn
import Derived.TacticsInMore
import Derived.LoopNIn
import Derived.LoopIn
import Derived.Laws.Cover3
import Derived.Test.YtoladolgmeanhaaGreatQc23
import Derived.Test.YtoladolgmeanhaaGreatQc4
/- rle: lay, read, first. -/
namespace Go.Proofs.YtoladolgmeanhaaGreat
open Go.RowKit

attribute [local go_sem] Oper.semAt_some

theorem rep_snoc (k c : Nat) (o : List Nat) : o ++ List.replicate (k + 1) c = (o ++ List.replicate k c) ++ [c] := by
  rw [List.replicate_succ', List.append_assoc]
set_option maxRecDepth 20000 in
set_option maxHeartbeats 4000000 in
theorem rlay_any (n c : Nat) (hn : n ≤ 256) (base : Nat) (vb : Value) (o : List Nat) (w : World) (hown : w.ownsRow base 41 1 vb o.length (o.map pxv)) (hlen : o.length ≤ 1048576) (hbase : base ≤ w.heap.size) :
    Calls Tryz.prog 67 #[RnV n c, vb] w fun e w' => ∃ v', e = .returned v' ∧ w'.ownsRow base 41 1 v' (o ++ List.replicate n c).length ((o ++ List.replicate n c).map pxv) ∧ Turns (fun k => vb.ownBlock = some k) w w' ∧ (∀ k, v'.ownBlock = some k → vb.ownBlock = some k ∨ w.heap.size ≤ k) := by
  obtain ⟨pb, cb, rfl⟩ := owns_slice hown
  have Hglt := Lib.hid hown.lt
  obtain ⟨W, hW⟩ : ∃ W, w.alloc (.cells #[.int .i64 (n : Int), .int .u32 (c : Int)] 108) = W := ⟨_, rfl⟩
  have hbW : Below w.heap.size w W := by rw [← hW]; exact Below.al1 w _
  have hT : W.heap[w.heap.size]? = some (.cells #[.int .i64 (n : Int), .int .u32 (c : Int)] 108) := by
    rw [← hW]; exact World.alloc_heap_new w _
  have c0 : W.cell? ⟨w.heap.size, 0, none⟩ = some (.int .i64 (n : Int)) := cell_heap hT rfl
  have c1 : W.cell? ⟨w.heap.size, 1, none⟩ = some (.int .u32 (c : Int)) := cell_heap hT rfl
  have HownW := Lib.hid ((Turns.of_below' (T := fun _ => False) hbW).owns hown (fun _ _ h => h))
  have hsW : base ≤ W.heap.size := Nat.le_trans hbase hbW.size
  have HbW := Lib.hid hbW
  clear hown hbW hT
  go_enter Tryz.func67, Tryz.ntmps67
  go_upto_region 1 with (fail)
  clear hW
  go_wp2_with fail
  go_loopw [1, 7] (fun bv kv wr => ∃ k : Nat, kv = .int .i64 (k : Int) ∧ k ≤ n ∧ Hid (wr.ownsRow base 41 1 bv (o.length + k) ((o ++ List.replicate k c).map pxv)) ∧ Hid (Turns (fun b => (Value.slice pb o.length cb).ownBlock = some b) W wr) ∧ Hid (∀ b, bv.ownBlock = some b → (Value.slice pb o.length cb).ownBlock = some b ∨ W.heap.size ≤ b)) (fun _ kv _ => n - (intOf kv).toNat)
  case atStart => exact ⟨0, rfl, Nat.zero_le _, Lib.hid (by simpa using HownW.out), Lib.hid (Turns.refl _ _), Lib.hid fun b h => .inl h⟩
  case round =>
    obtain ⟨k, rfl, hk, HO, HTu, HBk⟩ := hrel
    obtain ⟨q, hq⟩ : ∃ q, o.length + k = q := ⟨_, rfl⟩
    have hqb : q ≤ 1048832 := by omega
    by_cases hlt : k < n
    · have d0 : decide ((k : Int) < (n : Int)) = true := by simp; omega
      have Hs := Lib.hid (rep_snoc k c o)
      obtain ⟨g, cg, e⟩ := owns_slice HO.out
      subst e
      rw [hq] at HO HBk ⊢
      have hc2 : wr.cell? ⟨w.heap.size, 1, none⟩ = some (.int .u32 (c : Int)) := HTu.out.cell c1 (fun e => by have h := (Hglt.out _ e).2; simp only at h; omega)
      have hs1 : base ≤ wr.heap.size := Nat.le_trans hsW HTu.out.size
      have Hq := Lib.hid hq
      clear hq
      go_wp2_with (at_builtin; refine wpList_append_one wr rfl (.tmp 9) (.tmp 12) 22 rfl base 41 _ 4 pxv_info Tryz.underlying22 rfl (.slice g q cg) q ((o ++ List.replicate k c).map pxv) rfl HO.out (.int .u32 (c : Int)) _ rfl rfl ?m3 ?m4 hs1 ?_)
      case m3 => simp only [maxLen]; omega
      case m4 => omega
      intro g1 cap1 w5 ho1 ht1 hg1
      have Ho1 : Hid (w5.ownsRow base 41 1 (.slice (some ⟨g1, 0, none⟩) (q + 1) cap1) (o.length + (k + 1)) ((o ++ List.replicate (k + 1) c).map pxv)) := Lib.hid (by
        rw [Hs.out, show o.length + (k + 1) = q + 1 by have := Hq.out; omega]; simpa [pxv] using ho1)
      have Ht1 := Lib.hid (HTu.out.trans' ht1 (fun b hb h => (HBk.out b h).elim id fun h2 => by omega))
      have Hg1 := Lib.hid (show ∀ b, (Value.slice (some ⟨g1, 0, none⟩) (q + 1) cap1).ownBlock = some b → (Value.slice pb o.length cb).ownBlock = some b ∨ W.heap.size ≤ b from fun b hb => by
        cases hb
        rcases hg1 with h | h
        · exact HBk.out _ h
        · exact .inr (Nat.le_trans HTu.out.size h))
      clear ho1 ht1 hg1
      go_wp2
      go_roundw
      case rel => exact ⟨k + 1, by go_num, by omega, Ho1, Ht1, Hg1⟩
      case measure => simp [intOf]; omega
    · obtain rfl : k = n := by omega
      have d0 : decide ((k : Int) < (k : Int)) = false := by simp
      go_wp2
      go_ret
      refine ⟨_, rfl, ?_, (Turns.of_below' HbW.out).trans HTu.out, fun b hb => (HBk.out b hb).imp id fun h => Nat.le_trans HbW.out.size h⟩
      rw [show (o ++ List.replicate k c).length = o.length + k by simp]
      exact HO.out
set_option maxRecDepth 20000 in
set_option maxHeartbeats 4000000 in
theorem rread_any (a b c d : Nat) (w : World) (ha : a < 256) (hb : b < 256) (hc : c < 256) (hd : d < 256) :
    Makes Tryz.prog 97 #[.agg #[u8v a, u8v b, u8v c, u8v d]] w (RnV (a + 1) (b * 65536 + c * 256 + d)) := by
  unfold Makes u8v
  go_enter Tryz.func97, Tryz.ntmps97
  have o1 : bits .or .u32 ((b : Int) * 65536) ((c : Int) * 256) = (b : Int) * 65536 + (c : Int) * 256 :=
    bits_join .u32 32 (by decide) (fun n h0 h1 => by rw [IntKind.wrap_u32]; omega) 16 ((b : Int) * 65536) ((c : Int) * 256) (by omega) (by omega) (by omega) (by omega) (by omega) (by omega)
  have o2 : bits .or .u32 ((b : Int) * 65536 + (c : Int) * 256) (d : Int) = (b : Int) * 65536 + (c : Int) * 256 + (d : Int) :=
    bits_join .u32 32 (by decide) (fun n h0 h1 => by rw [IntKind.wrap_u32]; omega) 8 ((b : Int) * 65536 + (c : Int) * 256) (d : Int) (by omega) (by omega) (by omega) (by omega) (by omega) (by omega)
  go_wp2
  go_returns
  exact ⟨by simp, Below.al2 _ _ _⟩
def RnAt (w : World) (B n c : Nat) : Prop := w.heap[B]? = some (.cells #[.int .i64 (n : Int), .int .u32 (c : Int)] 108)
theorem RnAt.c {w : World} {B n c : Nat} (h : RnAt w B n c) : w.cell? ⟨B, 0, none⟩ = some (.int .i64 (n : Int)) ∧ w.cell? ⟨B, 1, none⟩ = some (.int .u32 (c : Int)) := ⟨cell_heap h rfl, cell_heap h rfl⟩
theorem RnAt.free {w : World} {B n c : Nat} (h : RnAt w B n c) (i : Nat) : w.frozen? ⟨B, i, none⟩ = false := by
  unfold RnAt at h
  simp [World.frozen?, h]
theorem RnAt.later {w w1 : World} {B n c : Nat} (h : RnAt w B n c) (hb : Below w.heap.size w w1) : RnAt w1 B n c := (hb.block B (lt_heap h)).trans h
theorem RnAt.new (w : World) (n c : Nat) : RnAt (w.alloc (.cells #[.int .i64 (n : Int), .int .u32 (c : Int)] 108)) w.heap.size n c := World.alloc_heap_new w _
theorem RnAt.set0 {w : World} {B n n' c : Nat} (h : RnAt w B n c) : RnAt (w.setCell ⟨B, 0, none⟩ (.int .i64 (n' : Int))) B n' c := two_set0 _ h
theorem RnAt.set {w : World} {B n n' c c' : Nat} (h : RnAt w B n c) : RnAt ((w.setCell ⟨B, 0, none⟩ (.int .i64 (n' : Int))).setCell ⟨B, 1, none⟩ (.int .u32 (c' : Int))) B n' c' := two_set1 _ (two_set0 _ h)
theorem RnAt.other {w : World} {B C i n c : Nat} {u : Value} (h : RnAt w B n c) (hne : B ≠ C) : RnAt (w.setCell ⟨C, i, none⟩ u) B n c := (Below.heap_setCell _ _ _ B hne).trans h
theorem results_rn {fn : Func} {p : Tmp} {tmps : Array Value} {w : World} {B n c : Nat} (h : fn.results = #[.cell p 108]) (hp : tmps.getD p undef = .pointer (some ⟨B, 0, none⟩)) (hl : RnAt w B n c) : (results fn tmps).run Tryz.prog w = .ok (RnV n c) w := by
  obtain ⟨c0, c1⟩ := hl.c
  have hp' : tmps[p]?.getD undef = .pointer (some ⟨B, 0, none⟩) := by simpa using hp
  simp [results, h, hp', go_sem, c0, c1]
theorem min_R (ts : Array TypeId) (t : TypeId) (k k' : IntKind) (x y : Int) (w : World) : (Builtin.min_ ts t #[.int k x, .int k' y]).run Tryz.prog w = .ok (.int k (min x y)) w := by
  rw [run_min_int2]; congr 2; split <;> omega
set_option maxRecDepth 20000 in
set_option maxHeartbeats 4000000 in
theorem first_any (g off c : Nat) (l : List Nat) (w : World) (h0 : 0 < l.length) (hl : l.length ≤ 1048576) (h32 : ∀ i, l.getD i 0 < 4294967296) (hc : ∀ i, i < l.length → w.cell? ⟨g, off + i, none⟩ = some (.int .u32 (l.getD i 0 : Int))) :
    Calls Tryz.prog 122 #[.slice (some ⟨g, off, none⟩) l.length c] w fun e w' => ∃ k, e = .returned (RnV k (rlw (l.getD 0 0))) ∧ 1 ≤ k ∧ k ≤ 256 ∧ k ≤ l.length ∧ rlO l = (k, rlw (l.getD 0 0)) :: rlO (l.drop k) ∧ Below w.heap.size w w' := by
  have Hc := Lib.hid hc
  have H32 := Lib.hid h32
  have Hrun := Lib.hid (fun k => rl_run (l := l) (k := k))
  obtain ⟨n, hn⟩ : ∃ n, l.length = n := ⟨_, rfl⟩
  obtain ⟨m, hm⟩ : ∃ m, min n 256 = m := ⟨_, rfl⟩
  have hmn : (min (n : Int) 256) = (m : Int) := by omega
  rw [hn] at h0 hl Hc Hrun ⊢
  have hm0 : 0 < m := by omega
  have hm1 : m ≤ n := by omega
  have hm2 : m ≤ 256 := by omega
  have Hm := Lib.hid hm
  have hq0 := h32 0
  have c0 := hc 0 (by omega)
  rw [Nat.add_zero] at c0
  obtain ⟨q, hq⟩ : ∃ q, l.getD 0 0 = q := ⟨_, rfl⟩
  have Hq := Lib.hid hq
  rw [hq] at hq0 c0 Hrun ⊢
  have i0 : (0 : Int) < (n : Int) := by omega
  have hmin := fun w => (min_R #[3, 3] 3 .i64 .i64 (n : Int) 256 w).trans (by rw [hmn])
  obtain ⟨z, hz⟩ : ∃ z, rlw q = z := ⟨_, rfl⟩
  have Hz := Lib.hid hz
  rw [hz] at Hrun ⊢
  clear hc hn hm hmn h32 hq
  go_enter Tryz.func122, Tryz.ntmps122
  have hal := Below.al1 w (.cells #[.int .i64 0, .int .u32 0] 108)
  have c0' := cell_later hal c0
  have hR0 : RnAt (w.alloc (.cells #[.int .i64 0, .int .u32 0] 108)) w.heap.size 0 0 := RnAt.new w 0 0
  go_wp2_with fail
  refine Calls.mono (rlow_any q _ hq0) ?_
  rintro _ w1 ⟨rfl, rfl⟩
  rw [hz]
  clear hz
  go_wp2_with fail
  have hR1 : RnAt ((w.alloc (.cells #[.int .i64 0, .int .u32 0] 108)).alloc (.cells #[.int .i64 0, .int .u32 (z : Int)] 108)) (w.heap.size + 1) 0 z := by
    have := RnAt.new (w.alloc (.cells #[.int .i64 0, .int .u32 0] 108)) 0 z
    rwa [World.size_alloc] at this
  have hR0' := hR0.later (Below.al1 _ (.cells #[.int .i64 0, .int .u32 (z : Int)] 108))
  have hb2 := Below.al2 w (.cells #[.int .i64 0, .int .u32 0] 108) (.cells #[.int .i64 0, .int .u32 (z : Int)] 108)
  generalize (w.alloc (.cells #[.int .i64 0, .int .u32 0] 108)).alloc (.cells #[.int .i64 0, .int .u32 (z : Int)] 108) = W at *
  have HR0 := Lib.hid hR0'
  have HR1 := Lib.hid hR1
  have Hb2 := Lib.hid hb2
  clear hal c0' hR0 hR0' hR1 hb2 c0
  go_loopw [28] (fun _ wr => ∃ k : Nat, k ≤ m ∧ Hid (RnAt wr (w.heap.size + 1) k z) ∧ Hid (RnAt wr w.heap.size 0 0) ∧ Hid (Below w.heap.size w wr) ∧ Hid (∀ i, i < k → rlw (l.getD i 0) = z)) (fun _ wr => m - (intOf ((wr.cell? ⟨w.heap.size + 1, 0, none⟩).getD undef)).toNat)
  case atStart => exact ⟨0, Nat.zero_le _, HR1, HR0, Hb2, Lib.hid (fun i hi => by omega)⟩
  case round =>
    obtain ⟨k, hk, HA, HB, HW, HL⟩ := hrel
    obtain ⟨a0, a1⟩ := HA.out.c
    have f0 := HA.out.free 0
    by_cases hkm : k < m
    · have d0 : decide ((k : Int) < (m : Int)) = true := by simp; omega
      obtain ⟨x, hx⟩ : ∃ x, l.getD k 0 = x := ⟨_, rfl⟩
      have x0 := cell_later HW.out (Hc.out k (by omega))
      have hx32 := H32.out k
      rw [hx] at x0 hx32
      have i1 : (0 : Int) ≤ (k : Int) := by omega
      have i2 : (k : Int) < (n : Int) := by omega
      have Hx := Lib.hid hx
      obtain ⟨y, hy⟩ : ∃ y, rlw x = y := ⟨_, rfl⟩
      have hcall := fun W => rlow_any x W hx32
      rw [hy] at hcall
      have Hcall := Lib.hid hcall
      have Hy := Lib.hid hy
      clear hx hy hcall
      by_cases hyz : y = z
      · have d1 : ((y : Int) == (z : Int)) = true := by simp; omega
        go_upto_region 2 with (fail)
        go_quiet ((go_at_call 144; exact Calls.quiet_of_same (Hcall.out _)))
        rename_i nq
        have hd := Below.drewN' (Below.refl wr.heap.size wr) nq
        have hA2 := HA.out.later hd
        obtain ⟨b0, b1⟩ := hA2.c
        have g0 := hA2.free 0
        have HA2 := Lib.hid hA2
        have HB2 := Lib.hid (HB.out.later hd)
        have HW2 := Lib.hid (Below.thn HW.out hd)
        generalize wr.drewN nq = W2 at *
        clear hd hA2 a0 a1 x0 f0
        go_wp2
        have hcell : (W2.setCell ⟨w.heap.size + 1, 0, none⟩ (.int .i64 ((k : Int) + 1))).cell? ⟨w.heap.size + 1, 0, none⟩ = some (.int .i64 ((k : Int) + 1)) := (HA2.out.set0 (n' := k + 1)).c.1
        go_roundw
        case rel => exact ⟨k + 1, by omega, Lib.hid (HA2.out.set0 (n' := k + 1)), Lib.hid (HB2.out.other (by omega)), Lib.hid (Below.setCell HW2.out (by simp) _), Lib.hid (fun i hi => by
          by_cases h : i < k
          · exact HL.out i h
          · rw [show i = k by omega, Hx.out, Hy.out, hyz])⟩
        case measure => rw [hcell, HA.out.c.1]; simp [intOf]; omega
      · have d1 : ((y : Int) == (z : Int)) = false := by simp; omega
        go_upto_region 2 with (fail)
        go_quiet ((go_at_call 144; exact Calls.quiet_of_same (Hcall.out _)))
        rename_i nq
        have hd := Below.drewN' (Below.refl wr.heap.size wr) nq
        have hA2 := HA.out.later hd
        have hB2 := HB.out.later hd
        obtain ⟨b0, b1⟩ := hA2.c
        have g0 := hB2.free 0
        have g1 := hB2.free 1
        obtain ⟨e0, e1⟩ := hB2.c
        have HB2 := Lib.hid hB2
        have HW2 := Lib.hid (Below.thn HW.out hd)
        have HE := Lib.hid (fun h1 => Hrun.out k h1 (by omega) (by omega) HL.out (.inr (.inr (by rw [Hx.out, Hy.out]; exact hyz))))
        generalize wr.drewN nq = W2 at *
        clear hd hA2 hB2 a0 a1 x0 f0
        have Hk1 : Hid (1 ≤ k) := Lib.hid (by
          by_cases h : k = 0
          · subst h
            rw [Hq.out] at Hx
            exact absurd (by rw [← Hy.out, ← Hx.out, Hz.out]) hyz
          · omega)
        go_wp2
        have hk1 := Hk1.out
        exact bodyPost_ret (v := RnV k z) (results_rn Tryz.results122 rfl (HB2.out.set (n' := k) (c' := z))) rfl ⟨k, rfl, by omega, by omega, by omega, HE.out hk1, Below.setCell (Below.setCell HW2.out (Nat.le_refl _) _) (Nat.le_refl _) _⟩
    · obtain rfl : k = m := by omega
      have d0 : decide ((k : Int) < (k : Int)) = false := by simp
      go_upto_region 2 with (fail)
      go_quiet (fail)
      rename_i nq
      have hd := Below.drewN' (Below.refl wr.heap.size wr) nq
      have hA2 := HA.out.later hd
      have hB2 := HB.out.later hd
      obtain ⟨b0, b1⟩ := hA2.c
      have g0 := hB2.free 0
      have g1 := hB2.free 1
      obtain ⟨e0, e1⟩ := hB2.c
      have HB2 := Lib.hid hB2
      have HW2 := Lib.hid (Below.thn HW.out hd)
      have HE := Lib.hid (Hrun.out k (by omega) (by omega) (by omega) HL.out (by have := Hm.out; omega))
      generalize wr.drewN nq = W2 at *
      clear hd hA2 hB2 a0 a1 f0
      go_wp2
      exact bodyPost_ret (v := RnV k z) (results_rn Tryz.results122 rfl (HB2.out.set (n' := k) (c' := z))) rfl ⟨k, rfl, by omega, by omega, by omega, HE.out, Below.setCell (Below.setCell HW2.out (Nat.le_refl _) _) (Nat.le_refl _) _⟩
end Go.Proofs.YtoladolgmeanhaaGreat

/- rle: the runs of pixels, as an iterator hands them over. -/
namespace Go.Proofs.YtoladolgmeanhaaGreat
open Go.RowKit

attribute [local go_sem] Oper.semAt_some

def ElRn (_ _ : World) (_ : Nat → Prop) (x : Nat × Nat) (vs : Array Value) : Prop := vs = #[RnV x.1 x.2]
theorem lt_of_sameR {w w' : World} {b : Nat} (h : b < w.heap.size) (e : w'.heap[b]? = w.heap[b]?) : b < w'.heap.size := by
  rw [Array.getElem?_eq_getElem h] at e
  exact lt_heap e
theorem getD_drop (l : List Nat) (a i : Nat) : (l.drop a).getD i 0 = l.getD (a + i) 0 := by
  rw [List.getD_eq_getElem?_getD, List.getD_eq_getElem?_getD, List.getElem?_drop]
set_option maxRecDepth 20000 in
set_option maxHeartbeats 4000000 in
theorem alike_iter (Bl : Nat) (p : Option Addr) (c : Nat) (l : List Nat) (w : World) (R : Nat → Prop) (hBl : w.cell? ⟨Bl, 0, none⟩ = some (.slice p l.length c)) (hp : RowAt encP 1 w p l) (h32 : ∀ x ∈ l, x < 4294967296) (hl : l.length ≤ 1048576) (hlc : l.length ≤ c)
    (hRlt : ∀ b, R b → b < w.heap.size) (hR1 : R Bl) (hR3 : ∀ a, p = some a → R a.block) :
    Iter Tryz.prog 121 #[.pointer (some ⟨Bl, 0, none⟩)] ElRn R (rlO l) w := by
  intro ll J Jx W hsz hRW hJ0 hY
  refine callsIn_wide.2 ?_
  have HY := Lib.hid hY
  have HRW := Lib.hid hRW
  have Hp := Lib.hid hp
  have HRlt := Lib.hid hRlt
  have HBl := Lib.hid hBl
  have H32 : Hid (∀ i, l.getD i 0 < 4294967296) := Lib.hid (fun i => by
    rw [List.getD_eq_getElem?_getD]
    cases h : l[i]? with
    | none => decide
    | some x => exact h32 x (List.mem_of_getElem? h))
  obtain ⟨n, hn⟩ : ∃ n, l.length = n := ⟨_, rfl⟩
  have Hn := Lib.hid hn
  rw [hn] at hlc hl HBl
  clear hY hRW hp hRlt hBl hn h32
  go_enter Tryz.func121, Tryz.ntmps121
  go_wp2
  go_loopw [3] (fun av wr => ∃ (a : Nat) (pre : List (Nat × Nat)) (Tp : Nat → Prop) (Wp : World), av = .int .i64 (a : Int) ∧ a ≤ n ∧ Hid (rlO l = pre ++ rlO (l.drop a)) ∧ Hid (J pre Tp Wp) ∧ Hid (Turns Tp Wp wr) ∧ Hid (∀ b, R b → wr.heap[b]? = w.heap[b]?)) (fun av _ => n - (intOf av).toNat)
  case atStart => exact ⟨0, [], fun _ => False, W, rfl, Nat.zero_le _, Lib.hid rfl, Lib.hid hJ0, Lib.hid (Turns.refl _ _), HRW⟩
  case round =>
    obtain ⟨a, pre, Tp, Wp, rfl, ha, HE, HJ, HT, HR⟩ := hrel
    have xb := (World.cell?_of_block (a := ⟨Bl, 0, none⟩) (HR.out Bl hR1)).trans HBl.out
    by_cases han : a < n
    · have d1 : decide ((a : Int) < (n : Int)) = true := by simp; omega
      have han' : a < l.length := by rw [Hn.out]; exact han
      obtain ⟨g, off, rfl, hcell⟩ : ∃ g off, p = some ⟨g, off, none⟩ ∧ ∀ i, i < l.length → w.cell? ⟨g, off + i, none⟩ = some (.int .u32 (l.getD i 0 : Int)) := by
        obtain ⟨g, off, e, -⟩ := Hp.out.px han'
        refine ⟨g, off, e, fun i hi => ?_⟩
        obtain ⟨g', off', e', h⟩ := Hp.out.px hi
        rw [e] at e'; cases e'
        exact h
      have hRg := HR.out g (hR3 _ rfl)
      have hdl : (l.drop a).length = n - a := by rw [List.length_drop, Hn.out]
      have hrun := first_any g (off + a) (c - a) (l.drop a) wr (by rw [hdl]; omega) (by rw [hdl]; omega) (fun i => by rw [getD_drop]; exact H32.out _) (fun i hi => by
        rw [getD_drop, Nat.add_assoc]
        exact (World.cell?_of_block (a := ⟨g, off + (a + i), none⟩) hRg).trans (hcell (a + i) (by have := Hn.out; rw [hdl] at hi; omega)))
      rw [hdl, getD_drop, Nat.add_zero] at hrun
      have Hrun := Lib.hid hrun
      clear hrun hcell hRg hdl
      have i0 : (0 : Int) ≤ (a : Int) := by omega
      have i1 : (a : Int) ≤ (n : Int) := by omega
      have i2 : (a : Int) ≤ (c : Int) := by omega
      go_wp2_with fail
      refine Calls.mono Hrun.out ?_
      rintro _ u1 ⟨k, rfl, k1, k2, k3, k4, hb1⟩
      obtain ⟨z, hz⟩ : ∃ z, rlw (l.getD a 0) = z := ⟨_, rfl⟩
      rw [hz] at k4 ⊢
      have HE3 : Hid (rlO l = pre ++ (k, z) :: rlO (l.drop (a + k))) := Lib.hid (by rw [HE.out, k4, List.drop_drop])
      have HR1 : Hid (∀ b, R b → u1.heap[b]? = w.heap[b]?) := Lib.hid (fun b hb => (hb1.block b (lt_of_sameR (HRlt.out b hb) (HR.out b hb))).trans (HR.out b hb))
      have HT1 := Lib.hid (HT.out.trans (Turns.of_below' hb1))
      have xb1 := (World.cell?_of_block (a := ⟨Bl, 0, none⟩) (HR1.out Bl hR1)).trans HBl.out
      clear hb1 Hrun xb hz k4
      go_upto_region 3 with (fail)
      have hp := RnAt.new u1 k z
      have hbp := Below.al1 u1 (.cells #[.int .i64 (k : Int), .int .u32 (z : Int)] 108)
      have hps : u1.heap.size < (u1.alloc (.cells #[.int .i64 (k : Int), .int .u32 (z : Int)] 108)).heap.size := by rw [World.size_alloc]; omega
      generalize u1.alloc (.cells #[.int .i64 (k : Int), .int .u32 (z : Int)] 108) = u2 at *
      obtain ⟨p0, p1⟩ := hp.c
      have Hp0 := Lib.hid p0
      have HR2 : Hid (∀ b, R b → u2.heap[b]? = w.heap[b]?) := Lib.hid (fun b hb => (hbp.block b (lt_of_sameR (HRlt.out b hb) (HR1.out b hb))).trans (HR1.out b hb))
      have HT2 := Lib.hid (HT1.out.trans (Turns.of_below' hbp))
      have hpW : Wp.heap.size ≤ u1.heap.size := HT1.out.size
      generalize u1.heap.size = pb at *
      clear hp hbp xb1
      obtain ⟨fn, tmps, assign, body, hy, hRd⟩ := HY.out pre (k, z) (rlO (l.drop (a + k))) Tp (fun b => b = pb) Wp u2 #[RnV k z] HE3.out HJ.out HT2.out (fun b h => .inr (by omega)) (fun b h => by omega) HR2.out rfl
      refine (wpIn_wide (n := 0)).1 ?_
      gi_wp2
      refine ⟨rfl, hRd.mono ?_⟩
      rintro e W3 (⟨rfl, hJ3, hsz3, hk3⟩ | ⟨rfl, hJx3, -, -⟩)
      · have HR3 : Hid (∀ b, R b → W3.heap[b]? = w.heap[b]?) := Lib.hid (fun b hb => (hk3 b (Or.inl hb)).trans (HR2.out b hb))
        have HJ3 := Lib.hid hJ3
        have q0 := (World.cell?_of_block (a := ⟨pb, 0, none⟩) (hk3 pb (.inr rfl))).trans Hp0.out
        clear hk3 hJ3 hy hRd p0 p1
        gi_wp2
        go_wp2
        go_roundw
        case rel => exact ⟨a + k, pre ++ [(k, z)], fun b => b = pb, W3, by go_num, by omega, Lib.hid (by rw [HE3.out]; simp), HJ3, Lib.hid (Turns.refl _ _), HR3⟩
        case measure => simp [intOf]; omega
      · have HP : pre ++ [(k, z)] <+: rlO l := ⟨rlO (l.drop (a + k)), by rw [HE3.out]; simp⟩
        gi_wp2
        go_wp2
        refine bodyPost_ret (results_none rfl _ _ _) rfl ?_
        exact ⟨⟨_, rfl⟩, .inr ⟨_, _, _, HP, hJx3, Turns.refl _ _⟩⟩
    · obtain rfl : a = n := by omega
      have d1 : decide ((a : Int) < (a : Int)) = false := by simp
      have HX : Hid (rlO l = pre) := Lib.hid (by rw [HE.out, ← Hn.out, List.drop_length]; simp [rlO])
      go_wp2
      go_end0
      exact ⟨⟨_, rfl⟩, .inl ⟨_, _, by rw [HX.out]; exact HJ.out, HT.out⟩⟩
theorem rlT_drop {b : List Nat} {a : Nat} (h : a + 4 ≤ b.length) : rlT (b.drop a) = (b.getD a 0 + 1, b.getD (a + 1) 0 * 65536 + b.getD (a + 2) 0 * 256 + b.getD (a + 3) 0) :: rlT (b.drop (a + 4)) := by
  have e : b.drop a = b.getD a 0 :: b.getD (a + 1) 0 :: b.getD (a + 2) 0 :: b.getD (a + 3) 0 :: b.drop (a + 4) := by
    have k : ∀ i (hi : i < b.length), b.drop i = b.getD i 0 :: b.drop (i + 1) := fun i hi => by
      rw [List.drop_eq_getElem_cons hi, List.getD_eq_getElem?_getD, List.getElem?_eq_getElem hi]; rfl
    rw [k a (by omega), k (a + 1) (by omega), k (a + 1 + 1) (by omega), k (a + 1 + 1 + 1) (by omega)]
  rw [e]; rfl
set_option maxRecDepth 20000 in
set_option maxHeartbeats 4000000 in
theorem told_iterR (Bl : Nat) (p : Option Addr) (c : Nat) (l : List Nat) (w : World) (R : Nat → Prop) (hBl : w.cell? ⟨Bl, 0, none⟩ = some (.slice p l.length c)) (hp : RowAt enc8 1 w p l) (h8 : ∀ x ∈ l, x < 256) (h4 : l.length % 4 = 0) (hl : l.length ≤ 1048576) (hlc : l.length ≤ c)
    (hRlt : ∀ b, R b → b < w.heap.size) (hR1 : R Bl) (hR3 : ∀ a, p = some a → R a.block) :
    Iter Tryz.prog 96 #[.pointer (some ⟨Bl, 0, none⟩)] ElRn R (rlT l) w := by
  intro ll J Jx W hsz hRW hJ0 hY
  refine callsIn_wide.2 ?_
  have HY := Lib.hid hY
  have HRW := Lib.hid hRW
  have Hp := Lib.hid hp
  have HRlt := Lib.hid hRlt
  have HBl := Lib.hid hBl
  have H8 : Hid (∀ i, lq l i < 256) := Lib.hid (fun i => by
    unfold lq
    rw [List.getD_eq_getElem?_getD]
    cases h : l[i]? with
    | none => decide
    | some x => exact h8 x (List.mem_of_getElem? h))
  obtain ⟨n, hn⟩ : ∃ n, l.length = n := ⟨_, rfl⟩
  have Hn := Lib.hid hn
  rw [hn] at hlc hl HBl h4
  clear hY hRW hp hRlt hBl hn h8
  go_enter Tryz.func96, Tryz.ntmps96
  go_wp2
  go_loopw [3] (fun av wr => ∃ (a : Nat) (pre : List (Nat × Nat)) (Tp : Nat → Prop) (Wp : World), av = .int .i64 (a : Int) ∧ a ≤ n ∧ a % 4 = 0 ∧ Hid (rlT l = pre ++ rlT (l.drop a)) ∧ Hid (J pre Tp Wp) ∧ Hid (Turns Tp Wp wr) ∧ Hid (∀ b, R b → wr.heap[b]? = w.heap[b]?)) (fun av _ => n - (intOf av).toNat)
  case atStart => exact ⟨0, [], fun _ => False, W, rfl, Nat.zero_le _, rfl, Lib.hid rfl, Lib.hid hJ0, Lib.hid (Turns.refl _ _), HRW⟩
  case round =>
    obtain ⟨a, pre, Tp, Wp, rfl, ha, ha4, HE, HJ, HT, HR⟩ := hrel
    have xb := (World.cell?_of_block (a := ⟨Bl, 0, none⟩) (HR.out Bl hR1)).trans HBl.out
    by_cases han : a < n
    · have d1 : decide ((a : Int) < (n : Int)) = true := by simp; omega
      have han' : a < l.length := by rw [Hn.out]; exact han
      have ha3 : a + 4 ≤ n := by omega
      obtain ⟨g, off, rfl, hcell⟩ : ∃ g off, p = some ⟨g, off, none⟩ ∧ ∀ i, i < l.length → w.cell? ⟨g, off + i, none⟩ = some (.int .u8 ((lq l i : Nat) : Int)) := by
        obtain ⟨g, off, e, -⟩ := Hp.out.byte han'
        refine ⟨g, off, e, fun i hi => ?_⟩
        obtain ⟨g', off', e', h⟩ := Hp.out.byte hi
        rw [e] at e'; cases e'
        exact h
      have hRg := HR.out g (hR3 _ rfl)
      have x0 := (World.cell?_of_block (a := ⟨g, off + a, none⟩) hRg).trans (hcell a han')
      have x1 := (World.cell?_of_block (a := ⟨g, off + (a + 1), none⟩) hRg).trans (hcell (a + 1) (by rw [Hn.out]; omega))
      have x2 := (World.cell?_of_block (a := ⟨g, off + (a + 2), none⟩) hRg).trans (hcell (a + 2) (by rw [Hn.out]; omega))
      have x3 := (World.cell?_of_block (a := ⟨g, off + (a + 3), none⟩) hRg).trans (hcell (a + 3) (by rw [Hn.out]; omega))
      rw [← Nat.add_assoc] at x1 x2 x3
      have hd := rlT_drop (b := l) (a := a) (by rw [Hn.out]; exact ha3)
      have b0 := H8.out a
      have b1 := H8.out (a + 1)
      have b2 := H8.out (a + 2)
      have b3 := H8.out (a + 3)
      change rlT (l.drop a) = (lq l a + 1, lq l (a + 1) * 65536 + lq l (a + 2) * 256 + lq l (a + 3)) :: rlT (l.drop (a + 4)) at hd
      generalize lq l a = y0 at *
      generalize lq l (a + 1) = y1 at *
      generalize lq l (a + 2) = y2 at *
      generalize lq l (a + 3) = y3 at *
      have Hread := Lib.hid (fun W => rread_any y0 y1 y2 y3 W b0 b1 b2 b3)
      have HE3 : Hid (rlT l = pre ++ (y0 + 1, y1 * 65536 + y2 * 256 + y3) :: rlT (l.drop (a + 4))) := Lib.hid (by rw [HE.out, hd])
      have i0 : (0 : Int) ≤ (a : Int) := by omega
      have i1 : (a : Int) ≤ (n : Int) := by omega
      have i2 : (a : Int) ≤ (c : Int) := by omega
      have i4 : (4 : Int) ≤ (n : Int) - (a : Int) := by omega
      have i5 : 4 ≤ n - a := by omega
      clear hcell hRg hd b0 b1 b2 b3
      have hat : ∀ w, (Instr.arrayAt 151 (.slice (some ⟨g, off + a, none⟩) (n - a) (c - a))).run Tryz.prog w = .ok (.pointer (some ⟨g, off + a, none⟩)) w := fun w => run_arrayAt w 151 _ 4 _ (n - a) (c - a) Tryz.underlying151 i5
      go_upto_region 3 with (fail)
      refine (wpIn_wide (n := 0)).1 ?_
      gi_wp2
      refine ⟨trivial, rfl, (callsIn_wide.2 (Hread.out _)).mono ?_⟩
      rintro _ u1 ⟨rfl, hb1⟩
      have HR1 : Hid (∀ b, R b → u1.heap[b]? = w.heap[b]?) := Lib.hid (fun b hb => (hb1.block b (lt_of_sameR (HRlt.out b hb) (HR.out b hb))).trans (HR.out b hb))
      have HT1 := Lib.hid (HT.out.trans (Turns.of_below' hb1))
      clear hb1 Hread x0 x1 x2 x3 xb
      generalize y0 + 1 = k0 at *
      generalize y1 * 65536 + y2 * 256 + y3 = z at *
      obtain ⟨fn, tmps, assign, body, hy, hRd⟩ := HY.out pre (k0, z) (rlT (l.drop (a + 4))) Tp (fun _ => False) Wp u1 #[RnV k0 z] HE3.out HJ.out HT1.out (fun _ h => h.elim) (fun _ h => h.elim) HR1.out rfl
      gi_wp2
      refine ⟨rfl, hRd.mono ?_⟩
      rintro e W3 (⟨rfl, hJ3, hsz3, hk3⟩ | ⟨rfl, hJx3, -, -⟩)
      · have HR3 : Hid (∀ b, R b → W3.heap[b]? = w.heap[b]?) := Lib.hid (fun b hb => (hk3 b (Or.inl hb)).trans (HR1.out b hb))
        have HJ3 := Lib.hid hJ3
        clear hk3 hJ3 hy hRd
        gi_wp2
        go_wp2
        go_roundw
        case rel => exact ⟨a + 4, pre ++ [(k0, z)], fun _ => False, W3, by go_num, by omega, by omega, Lib.hid (by rw [HE3.out]; simp), HJ3, Lib.hid (Turns.refl _ _), HR3⟩
        case measure => simp [intOf]; omega
      · have HP : pre ++ [(k0, z)] <+: rlT l := ⟨rlT (l.drop (a + 4)), by rw [HE3.out]; simp⟩
        gi_wp2
        go_wp2
        refine bodyPost_ret (results_none rfl _ _ _) rfl ?_
        exact ⟨⟨_, rfl⟩, .inr ⟨_, _, _, HP, hJx3, Turns.refl _ _⟩⟩
    · obtain rfl : a = n := by omega
      have d1 : decide ((a : Int) < (a : Int)) = false := by simp
      have HX : Hid (rlT l = pre) := Lib.hid (by rw [HE.out, ← Hn.out, List.drop_length]; simp [rlT])
      go_wp2
      go_end0
      exact ⟨⟨_, rfl⟩, .inl ⟨_, _, by rw [HX.out]; exact HJ.out, HT.out⟩⟩
end Go.Proofs.YtoladolgmeanhaaGreat

/- A box that holds a row of one's own, ahead of a range over a function. Nothing here speaks of one program. -/
namespace Go.Proofs.YtoladolgmeanhaaGreat
open Go.RowKit

structure OwnI (e : TypeId) (w0 : World) (b1 n : Nat) (T : Nat → Prop) (xs : List Value) (w : World) : Prop where
  vb : ∃ vb, w.cell? ⟨b1, 0, none⟩ = some vb ∧ w.ownsRow (n + 2) e 1 vb xs.length xs ∧ ∀ k, vb.ownBlock = some k → ¬ T k
  free : w.frozen? ⟨b1, 0, none⟩ = false
  lt : b1 < n
  bel : Below w0.heap.size w0 w
theorem OwnI.turn {e : TypeId} {w0 : World} {b1 n : Nat} {Tp T S : Nat → Prop} {xs : List Value} {w w' : World} {m : Nat} (h : OwnI e w0 b1 n Tp xs w) (ht : Turns S w w') (hS : ∀ b, S b → Tp b ∨ b = n + 1 ∨ b = n) (hTp : ∀ b, Tp b → n + 1 < b) (hn : w0.heap.size ≤ n) (hm : w.heap.size ≤ m) (hT : ∀ b, T b → Tp b ∨ m ≤ b) : OwnI e w0 b1 n T xs w' := by
  obtain ⟨⟨vb, h1, h2, h3⟩, h4, h5, h6⟩ := h
  have hSb : ¬ S b1 := fun hb => by
    rcases hS _ hb with h | h | h
    · have := hTp _ h; omega
    · omega
    · omega
  refine ⟨⟨vb, ht.cell h1 hSb, ht.owns h2 (fun k hk hb => ?_), fun k hk hb => ?_⟩, ht.free h1 h4 hSb, h5, ?_⟩
  · have := (h2.lt k hk).1
    rcases hS _ hb with h | h | h
    · exact h3 k hk h
    · omega
    · omega
  · have := (h2.lt k hk).2
    rcases hT _ hb with h | h
    · exact h3 k hk h
    · omega
  · exact h6.trans (ht.below h6.size (fun i hi => by
      rcases hS _ hi with h | h | h
      · have := hTp _ h; omega
      · omega
      · omega))
end Go.Proofs.YtoladolgmeanhaaGreat
