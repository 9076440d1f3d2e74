/- rle: lay, read, first. -/
import Derived.Test.YtgfdlimgndpngaaRleB
namespace Go.Proofs.Ytgfdlimgndpngaa
open Go.RowKit

attribute [local go_sem] Oper.semAt_some

theorem rep_snoc (k c : Nat) (o : List Nat) : o ++ List.replicate (k + 1) c = (o ++ List.replicate k c) ++ [c] := by
  rw [List.replicate_succ', List.append_assoc]

set_option maxRecDepth 20000 in
set_option maxHeartbeats 4000000 in
theorem rlay_any (n c : Nat) (hn : n ≤ 256) (base : Nat) (vb : Value) (o : List Nat) (w : World) (hown : w.ownsRow base 34 1 vb o.length (o.map pxv)) (hlen : o.length ≤ 1048576) (hbase : base ≤ w.heap.size) :
    Calls Try.prog 19 #[RnV n c, vb] w fun e w' => ∃ v', e = .returned v' ∧ w'.ownsRow base 34 1 v' (o ++ List.replicate n c).length ((o ++ List.replicate n c).map pxv) ∧ Turns (fun k => vb.ownBlock = some k) w w' ∧ (∀ k, v'.ownBlock = some k → vb.ownBlock = some k ∨ w.heap.size ≤ k) := by
  obtain ⟨pb, cb, rfl⟩ := owns_slice hown
  have Hglt := Lib.hid hown.lt
  obtain ⟨W, hW⟩ : ∃ W, w.alloc (.cells #[.int .i64 (n : Int), .int .u32 (c : Int)] 39) = W := ⟨_, rfl⟩
  have hbW : Below w.heap.size w W := by rw [← hW]; exact Below.al1 w _
  have hT : W.heap[w.heap.size]? = some (.cells #[.int .i64 (n : Int), .int .u32 (c : Int)] 39) := by
    rw [← hW]; exact World.alloc_heap_new w _
  have c0 : W.cell? ⟨w.heap.size, 0, none⟩ = some (.int .i64 (n : Int)) := cell_heap hT rfl
  have c1 : W.cell? ⟨w.heap.size, 1, none⟩ = some (.int .u32 (c : Int)) := cell_heap hT rfl
  have HownW := Lib.hid ((Turns.of_below' (T := fun _ => False) hbW).owns hown (fun _ _ h => h))
  have hsW : base ≤ W.heap.size := Nat.le_trans hbase hbW.size
  have HbW := Lib.hid hbW
  clear hown hbW hT
  go_enter Try.func19, Try.ntmps19
  go_upto_region 1 with (fail)
  clear hW
  go_wp2_with fail
  go_loopw [1, 7] (fun bv kv wr => ∃ k : Nat, kv = .int .i64 (k : Int) ∧ k ≤ n ∧ Hid (wr.ownsRow base 34 1 bv (o.length + k) ((o ++ List.replicate k c).map pxv)) ∧ Hid (Turns (fun b => (Value.slice pb o.length cb).ownBlock = some b) W wr) ∧ Hid (∀ b, bv.ownBlock = some b → (Value.slice pb o.length cb).ownBlock = some b ∨ W.heap.size ≤ b)) (fun _ kv _ => n - (intOf kv).toNat)
  case atStart => exact ⟨0, rfl, Nat.zero_le _, Lib.hid (by simpa using HownW.out), Lib.hid (Turns.refl _ _), Lib.hid fun b h => .inl h⟩
  case round =>
    obtain ⟨k, rfl, hk, HO, HTu, HBk⟩ := hrel
    obtain ⟨q, hq⟩ : ∃ q, o.length + k = q := ⟨_, rfl⟩
    have hqb : q ≤ 1048832 := by omega
    by_cases hlt : k < n
    · have d0 : decide ((k : Int) < (n : Int)) = true := by simp; omega
      have Hs := Lib.hid (rep_snoc k c o)
      obtain ⟨g, cg, e⟩ := owns_slice HO.out
      subst e
      rw [hq] at HO HBk ⊢
      have hc2 : wr.cell? ⟨w.heap.size, 1, none⟩ = some (.int .u32 (c : Int)) := HTu.out.cell c1 (fun e => by have h := (Hglt.out _ e).2; simp only at h; omega)
      have hs1 : base ≤ wr.heap.size := Nat.le_trans hsW HTu.out.size
      have Hq := Lib.hid hq
      clear hq
      go_wp2_with (at_builtin; refine wpList_append_one wr rfl (.tmp 9) (.tmp 12) 22 rfl base 34 _ 4 pxv_info Try.underlying22 rfl (.slice g q cg) q ((o ++ List.replicate k c).map pxv) rfl HO.out (.int .u32 (c : Int)) _ rfl rfl ?m3 ?m4 hs1 ?_)
      case m3 => simp only [maxLen]; omega
      case m4 => omega
      intro g1 cap1 w5 ho1 ht1 hg1
      have Ho1 : Hid (w5.ownsRow base 34 1 (.slice (some ⟨g1, 0, none⟩) (q + 1) cap1) (o.length + (k + 1)) ((o ++ List.replicate (k + 1) c).map pxv)) := Lib.hid (by
        rw [Hs.out, show o.length + (k + 1) = q + 1 by have := Hq.out; omega]; simpa [pxv] using ho1)
      have Ht1 := Lib.hid (HTu.out.trans' ht1 (fun b hb h => (HBk.out b h).elim id fun h2 => by omega))
      have Hg1 := Lib.hid (show ∀ b, (Value.slice (some ⟨g1, 0, none⟩) (q + 1) cap1).ownBlock = some b → (Value.slice pb o.length cb).ownBlock = some b ∨ W.heap.size ≤ b from fun b hb => by
        cases hb
        rcases hg1 with h | h
        · exact HBk.out _ h
        · exact .inr (Nat.le_trans HTu.out.size h))
      clear ho1 ht1 hg1
      go_wp2
      go_roundw
      case rel => exact ⟨k + 1, by go_num, by omega, Ho1, Ht1, Hg1⟩
      case measure => simp [intOf]; omega
    · obtain rfl : k = n := by omega
      have d0 : decide ((k : Int) < (k : Int)) = false := by simp
      go_wp2
      go_ret
      refine ⟨_, rfl, ?_, (Turns.of_below' HbW.out).trans HTu.out, fun b hb => (HBk.out b hb).imp id fun h => Nat.le_trans HbW.out.size h⟩
      rw [show (o ++ List.replicate k c).length = o.length + k by simp]
      exact HO.out

set_option maxRecDepth 20000 in
set_option maxHeartbeats 4000000 in
theorem rread_any (a b c d : Nat) (w : World) (ha : a < 256) (hb : b < 256) (hc : c < 256) (hd : d < 256) :
    Makes Try.prog 23 #[.agg #[u8v a, u8v b, u8v c, u8v d]] w (RnV (a + 1) (b * 65536 + c * 256 + d)) := by
  unfold Makes u8v
  go_enter Try.func23, Try.ntmps23
  have o1 : bits .or .u32 ((b : Int) * 65536) ((c : Int) * 256) = (b : Int) * 65536 + (c : Int) * 256 :=
    bits_join .u32 32 (by decide) (fun n h0 h1 => by rw [IntKind.wrap_u32]; omega) 16 ((b : Int) * 65536) ((c : Int) * 256) (by omega) (by omega) (by omega) (by omega) (by omega) (by omega)
  have o2 : bits .or .u32 ((b : Int) * 65536 + (c : Int) * 256) (d : Int) = (b : Int) * 65536 + (c : Int) * 256 + (d : Int) :=
    bits_join .u32 32 (by decide) (fun n h0 h1 => by rw [IntKind.wrap_u32]; omega) 8 ((b : Int) * 65536 + (c : Int) * 256) (d : Int) (by omega) (by omega) (by omega) (by omega) (by omega) (by omega)
  go_wp2
  go_returns
  exact ⟨by simp, Below.al2 _ _ _⟩

/-- A run that lies in block B. -/
def RnAt (w : World) (B n c : Nat) : Prop := w.heap[B]? = some (.cells #[.int .i64 (n : Int), .int .u32 (c : Int)] 39)
theorem RnAt.c {w : World} {B n c : Nat} (h : RnAt w B n c) : w.cell? ⟨B, 0, none⟩ = some (.int .i64 (n : Int)) ∧ w.cell? ⟨B, 1, none⟩ = some (.int .u32 (c : Int)) := ⟨cell_heap h rfl, cell_heap h rfl⟩
theorem RnAt.free {w : World} {B n c : Nat} (h : RnAt w B n c) (i : Nat) : w.frozen? ⟨B, i, none⟩ = false := by
  unfold RnAt at h
  simp [World.frozen?, h]
theorem RnAt.later {w w1 : World} {B n c : Nat} (h : RnAt w B n c) (hb : Below w.heap.size w w1) : RnAt w1 B n c := (hb.block B (lt_heap h)).trans h
theorem RnAt.new (w : World) (n c : Nat) : RnAt (w.alloc (.cells #[.int .i64 (n : Int), .int .u32 (c : Int)] 39)) w.heap.size n c := World.alloc_heap_new w _
theorem RnAt.set0 {w : World} {B n n' c : Nat} (h : RnAt w B n c) : RnAt (w.setCell ⟨B, 0, none⟩ (.int .i64 (n' : Int))) B n' c := two_set0 _ h
theorem RnAt.set {w : World} {B n n' c c' : Nat} (h : RnAt w B n c) : RnAt ((w.setCell ⟨B, 0, none⟩ (.int .i64 (n' : Int))).setCell ⟨B, 1, none⟩ (.int .u32 (c' : Int))) B n' c' := two_set1 _ (two_set0 _ h)
theorem RnAt.other {w : World} {B C i n c : Nat} {u : Value} (h : RnAt w B n c) (hne : B ≠ C) : RnAt (w.setCell ⟨C, i, none⟩ u) B n c := (Below.heap_setCell _ _ _ B hne).trans h
theorem results_rn {fn : Func} {p : Tmp} {tmps : Array Value} {w : World} {B n c : Nat} (h : fn.results = #[.cell p 39]) (hp : tmps.getD p undef = .pointer (some ⟨B, 0, none⟩)) (hl : RnAt w B n c) : (results fn tmps).run Try.prog w = .ok (RnV n c) w := by
  obtain ⟨c0, c1⟩ := hl.c
  have hp' : tmps[p]?.getD undef = .pointer (some ⟨B, 0, none⟩) := by simpa using hp
  simp [results, h, hp', go_sem, c0, c1]

theorem min_R (ts : Array TypeId) (t : TypeId) (k k' : IntKind) (x y : Int) (w : World) : (Builtin.min_ ts t #[.int k x, .int k' y]).run Try.prog w = .ok (.int k (min x y)) w := by
  rw [run_min_int2]; congr 2; split <;> omega

set_option maxRecDepth 20000 in
set_option maxHeartbeats 4000000 in
theorem first_any (g off c : Nat) (l : List Nat) (w : World) (h0 : 0 < l.length) (hl : l.length ≤ 1048576) (h32 : ∀ i, l.getD i 0 < 4294967296) (hc : ∀ i, i < l.length → w.cell? ⟨g, off + i, none⟩ = some (.int .u32 (l.getD i 0 : Int))) :
    Calls Try.prog 21 #[.slice (some ⟨g, off, none⟩) l.length c] w fun e w' => ∃ k, e = .returned (RnV k (rlw (l.getD 0 0))) ∧ 1 ≤ k ∧ k ≤ 256 ∧ k ≤ l.length ∧ rlO l = (k, rlw (l.getD 0 0)) :: rlO (l.drop k) ∧ Below w.heap.size w w' := by
  have Hc := Lib.hid hc
  have H32 := Lib.hid h32
  have Hrun := Lib.hid (fun k => rl_run (l := l) (k := k))
  obtain ⟨n, hn⟩ : ∃ n, l.length = n := ⟨_, rfl⟩
  obtain ⟨m, hm⟩ : ∃ m, min n 256 = m := ⟨_, rfl⟩
  have hmn : (min (n : Int) 256) = (m : Int) := by omega
  rw [hn] at h0 hl Hc Hrun ⊢
  have hm0 : 0 < m := by omega
  have hm1 : m ≤ n := by omega
  have hm2 : m ≤ 256 := by omega
  have Hm := Lib.hid hm
  have hq0 := h32 0
  have c0 := hc 0 (by omega)
  rw [Nat.add_zero] at c0
  obtain ⟨q, hq⟩ : ∃ q, l.getD 0 0 = q := ⟨_, rfl⟩
  have Hq := Lib.hid hq
  rw [hq] at hq0 c0 Hrun ⊢
  have i0 : (0 : Int) < (n : Int) := by omega
  have hmin := fun w => (min_R #[3, 3] 3 .i64 .i64 (n : Int) 256 w).trans (by rw [hmn])
  obtain ⟨z, hz⟩ : ∃ z, rlw q = z := ⟨_, rfl⟩
  have Hz := Lib.hid hz
  rw [hz] at Hrun ⊢
  clear hc hn hm hmn h32 hq
  go_enter Try.func21, Try.ntmps21
  have hal := Below.al1 w (.cells #[.int .i64 0, .int .u32 0] 39)
  have c0' := cell_later hal c0
  have hR0 : RnAt (w.alloc (.cells #[.int .i64 0, .int .u32 0] 39)) w.heap.size 0 0 := RnAt.new w 0 0
  go_wp2_with fail
  refine Calls.mono (low_any q _ hq0) ?_
  rintro _ w1 ⟨rfl, rfl⟩
  rw [hz]
  clear hz
  go_wp2_with fail
  have hR1 : RnAt ((w.alloc (.cells #[.int .i64 0, .int .u32 0] 39)).alloc (.cells #[.int .i64 0, .int .u32 (z : Int)] 39)) (w.heap.size + 1) 0 z := by
    have := RnAt.new (w.alloc (.cells #[.int .i64 0, .int .u32 0] 39)) 0 z
    rwa [World.size_alloc] at this
  have hR0' := hR0.later (Below.al1 _ (.cells #[.int .i64 0, .int .u32 (z : Int)] 39))
  have hb2 := Below.al2 w (.cells #[.int .i64 0, .int .u32 0] 39) (.cells #[.int .i64 0, .int .u32 (z : Int)] 39)
  generalize (w.alloc (.cells #[.int .i64 0, .int .u32 0] 39)).alloc (.cells #[.int .i64 0, .int .u32 (z : Int)] 39) = W at *
  have HR0 := Lib.hid hR0'
  have HR1 := Lib.hid hR1
  have Hb2 := Lib.hid hb2
  clear hal c0' hR0 hR0' hR1 hb2 c0
  go_loopw [28] (fun _ wr => ∃ k : Nat, k ≤ m ∧ Hid (RnAt wr (w.heap.size + 1) k z) ∧ Hid (RnAt wr w.heap.size 0 0) ∧ Hid (Below w.heap.size w wr) ∧ Hid (∀ i, i < k → rlw (l.getD i 0) = z)) (fun _ wr => m - (intOf ((wr.cell? ⟨w.heap.size + 1, 0, none⟩).getD undef)).toNat)
  case atStart => exact ⟨0, Nat.zero_le _, HR1, HR0, Hb2, Lib.hid (fun i hi => by omega)⟩
  case round =>
    obtain ⟨k, hk, HA, HB, HW, HL⟩ := hrel
    obtain ⟨a0, a1⟩ := HA.out.c
    have f0 := HA.out.free 0
    by_cases hkm : k < m
    · have d0 : decide ((k : Int) < (m : Int)) = true := by simp; omega
      obtain ⟨x, hx⟩ : ∃ x, l.getD k 0 = x := ⟨_, rfl⟩
      have x0 := cell_later HW.out (Hc.out k (by omega))
      have hx32 := H32.out k
      rw [hx] at x0 hx32
      have i1 : (0 : Int) ≤ (k : Int) := by omega
      have i2 : (k : Int) < (n : Int) := by omega
      have Hx := Lib.hid hx
      obtain ⟨y, hy⟩ : ∃ y, rlw x = y := ⟨_, rfl⟩
      have hcall := fun W => low_any x W hx32
      rw [hy] at hcall
      have Hcall := Lib.hid hcall
      have Hy := Lib.hid hy
      clear hx hy hcall
      by_cases hyz : y = z
      · have d1 : ((y : Int) == (z : Int)) = true := by simp; omega
        go_upto_region 2 with (fail)
        go_quiet ((go_at_call 24; exact Calls.quiet_of_same (Hcall.out _)))
        rename_i nq
        have hd := Below.drewN' (Below.refl wr.heap.size wr) nq
        have hA2 := HA.out.later hd
        obtain ⟨b0, b1⟩ := hA2.c
        have g0 := hA2.free 0
        have HA2 := Lib.hid hA2
        have HB2 := Lib.hid (HB.out.later hd)
        have HW2 := Lib.hid (Below.thn HW.out hd)
        generalize wr.drewN nq = W2 at *
        clear hd hA2 a0 a1 x0 f0
        go_wp2
        have hcell : (W2.setCell ⟨w.heap.size + 1, 0, none⟩ (.int .i64 ((k : Int) + 1))).cell? ⟨w.heap.size + 1, 0, none⟩ = some (.int .i64 ((k : Int) + 1)) := (HA2.out.set0 (n' := k + 1)).c.1
        go_roundw
        case rel => exact ⟨k + 1, by omega, Lib.hid (HA2.out.set0 (n' := k + 1)), Lib.hid (HB2.out.other (by omega)), Lib.hid (Below.setCell HW2.out (by simp) _), Lib.hid (fun i hi => by
          by_cases h : i < k
          · exact HL.out i h
          · rw [show i = k by omega, Hx.out, Hy.out, hyz])⟩
        case measure => rw [hcell, HA.out.c.1]; simp [intOf]; omega
      · have d1 : ((y : Int) == (z : Int)) = false := by simp; omega
        go_upto_region 2 with (fail)
        go_quiet ((go_at_call 24; exact Calls.quiet_of_same (Hcall.out _)))
        rename_i nq
        have hd := Below.drewN' (Below.refl wr.heap.size wr) nq
        have hA2 := HA.out.later hd
        have hB2 := HB.out.later hd
        obtain ⟨b0, b1⟩ := hA2.c
        have g0 := hB2.free 0
        have g1 := hB2.free 1
        obtain ⟨e0, e1⟩ := hB2.c
        have HB2 := Lib.hid hB2
        have HW2 := Lib.hid (Below.thn HW.out hd)
        have HE := Lib.hid (fun h1 => Hrun.out k h1 (by omega) (by omega) HL.out (.inr (.inr (by rw [Hx.out, Hy.out]; exact hyz))))
        generalize wr.drewN nq = W2 at *
        clear hd hA2 hB2 a0 a1 x0 f0
        have Hk1 : Hid (1 ≤ k) := Lib.hid (by
          by_cases h : k = 0
          · subst h
            rw [Hq.out] at Hx
            exact absurd (by rw [← Hy.out, ← Hx.out, Hz.out]) hyz
          · omega)
        go_wp2
        have hk1 := Hk1.out
        exact bodyPost_ret (v := RnV k z) (results_rn Try.results21 rfl (HB2.out.set (n' := k) (c' := z))) rfl ⟨k, rfl, by omega, by omega, by omega, HE.out hk1, Below.setCell (Below.setCell HW2.out (Nat.le_refl _) _) (Nat.le_refl _) _⟩
    · obtain rfl : k = m := by omega
      have d0 : decide ((k : Int) < (k : Int)) = false := by simp
      go_upto_region 2 with (fail)
      go_quiet (fail)
      rename_i nq
      have hd := Below.drewN' (Below.refl wr.heap.size wr) nq
      have hA2 := HA.out.later hd
      have hB2 := HB.out.later hd
      obtain ⟨b0, b1⟩ := hA2.c
      have g0 := hB2.free 0
      have g1 := hB2.free 1
      obtain ⟨e0, e1⟩ := hB2.c
      have HB2 := Lib.hid hB2
      have HW2 := Lib.hid (Below.thn HW.out hd)
      have HE := Lib.hid (Hrun.out k (by omega) (by omega) (by omega) HL.out (by have := Hm.out; omega))
      generalize wr.drewN nq = W2 at *
      clear hd hA2 hB2 a0 a1 f0
      go_wp2
      exact bodyPost_ret (v := RnV k z) (results_rn Try.results21 rfl (HB2.out.set (n' := k) (c' := z))) rfl ⟨k, rfl, by omega, by omega, by omega, HE.out, Below.setCell (Below.setCell HW2.out (Nat.le_refl _) _) (Nat.le_refl _) _⟩

end Go.Proofs.Ytgfdlimgndpngaa
