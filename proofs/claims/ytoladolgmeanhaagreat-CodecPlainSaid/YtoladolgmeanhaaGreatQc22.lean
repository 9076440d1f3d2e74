/- Several texts in one, each with its own head. -/
import Derived.Test.YtoladolgmeanhaaGreatQc21
import Derived.Test.YtoladolgmeanhaaGreatQc19
import Derived.Test.YtoladolgmeanhaaGreatQc3
import Derived.OwnWalkIn
import Derived.TacticsInMore
import Derived.LoopNIn
import Derived.LoopIn
/- lz's stood, walked. -/
namespace Go.Proofs.YtoladolgmeanhaaGreat
open Go.RowKit Go.Maps

set_option maxRecDepth 20000 in
set_option maxHeartbeats 20000000 in
theorem stood_any (l : List Nat) (vb : Value) (w : World) (hvr : Row enc8 1 w vb l) (hby : ∀ b ∈ l, b < 256) (hl : l.length ≤ 1048576) :
    Calls Tryz.prog 40 #[vb] w fun e w' => ∃ (v' : Value) (A : List Nat), e = .returned v' ∧ A.length = l.length - 2 ∧ w'.ownsRow w.heap.size 120 1 v' A.length (A.map hv) ∧ (∀ p, p < A.length → IsAhead (fb l) p (fb A p)) ∧ Below w.heap.size w w' := by
  have Hv := Lib.hid hvr
  have Hby := Lib.hid (fb_lt hby)
  have HvB : Hid (∀ g, vb.ownBlock = some g → g < w.heap.size) := Lib.hid (fun g hg => by
    obtain ⟨p, c, rfl, -, -, h⟩ := hvr
    rcases h with ⟨rfl, -⟩ | ⟨b, off, rfl, h, -⟩
    · cases hg
    · cases hg; exact h)
  obtain ⟨p, c, rfl, -, -, -⟩ := hvr
  obtain ⟨N, hN⟩ : ∃ N, l.length - 2 = N := ⟨_, rfl⟩
  rw [hN]
  have HN := Lib.hid hN
  have hN1 : N ≤ 1048576 := by omega
  have em : ∀ (ts : Array TypeId) (t : TypeId) (w : World), (Builtin.max_ ts t #[.int .i64 0, .int .i64 ((l.length : Int) - 3 + 1)]).run Tryz.prog w = .ok (.int .i64 (N : Int)) w := fun ts t w => by
    rw [max_lz, show max (0 : Int) ((l.length : Int) - 3 + 1) = (N : Int) by omega]
  have hmk := make_half N hN1
  have hmm := run_makeMap (P := Tryz.prog) 117 w
  have HJ0 : Hid (StJ w (.slice p l.length c) l N 0 ((w.alloc (.map #[] 0)).alloc (.cells (hZ N) 120))) := Lib.hid (by
    have hb := Below.al2 w (.map #[] 0) (.cells (hZ N) 120)
    refine ⟨⟨List.replicate N 0, fun _ => none, by simp, ?_, fun p h => by omega, fun p _ => ?_, LastF.start _, ?_⟩, Hv.out.below hb, hb⟩
    · have := World.ownsRow_lit (base := w.heap.size + 1) (size := 1) (e := 120) (w.alloc (.map #[] 0)) (hZ N) N (by simp) (by simp only [maxLen]; omega) (by simp [hZ])
      rw [show (hZ N).toList = (List.replicate N 0).map hv from rfl] at this
      simpa using this
    · unfold fb
      rw [List.getD_eq_getElem?_getD, List.getElem?_replicate]
      split <;> rfl
    · exact (Map3.made w).turned (T := fun _ => False) ((Turns.refl _ _).alloc _) (fun h => h))
  have Hlc : Hid (l.length ≤ c ∧ c ≤ maxLen) := Lib.hid (by
    obtain ⟨p', c', e, k1, k2, -⟩ := Hv.out
    cases e
    exact ⟨k1, k2⟩)
  clear hN
  go_enter Tryz.func40, Tryz.ntmps40
  go_wp2_with fail
  go_loopw [18] (fun kv wr => ∃ k : Nat, kv = .int .i64 (k : Int) ∧ k ≤ N ∧ Hid (StJ w (.slice p l.length c) l N k wr)) (fun kv _ => N - (intOf kv).toNat)
  case atStart => exact ⟨0, rfl, Nat.zero_le _, HJ0⟩
  case round =>
    obtain ⟨k, rfl, hk, HJ⟩ := hrel
    by_cases hlt : k < N
    · obtain ⟨A, F, hA, hown, h1, h2, h3, hm⟩ := HJ.out.ex
      have d0 : decide ((k : Int) < (N : Int)) = true := by simp; omega
      have hvx := HJ.out.row
      obtain ⟨pp, cc, e, -, -, hrow⟩ := hvx
      cases e
      obtain ⟨g, off, rfl, hx⟩ := hrow.byteF (k := k) (by have := HN.out; omega)
      obtain ⟨g', off', e, hy⟩ := hrow.byteF (k := k + 1) (by have := HN.out; omega)
      cases e
      obtain ⟨g', off', e, hz⟩ := hrow.byteF (k := k + 2) (by have := HN.out; omega)
      cases e
      have hb3 := Hby.out
      have hB3 : B3 (fb l k, fb l (k + 1), fb l (k + 2)) := ⟨hb3 _, hb3 _, hb3 _⟩
      have Hall := Lib.hid (And.intro hA (And.intro hown (And.intro h1 (And.intro h2 (And.intro h3 (And.intro hrow hm))))))
      obtain ⟨o, ho⟩ : ∃ o, F (fb l k, fb l (k + 1), fb l (k + 2)) = o := ⟨_, rfl⟩
      obtain ⟨h, hh⟩ : ∃ h, hopOf F (fb l) k = h := ⟨_, rfl⟩
      have Ho := Lib.hid (And.intro ho hh)
      obtain ⟨x, hxx⟩ : ∃ x, fb l k = x := ⟨_, rfl⟩
      obtain ⟨y, hyy⟩ : ∃ y, fb l (k + 1) = y := ⟨_, rfl⟩
      obtain ⟨z, hzz⟩ : ∃ z, fb l (k + 2) = z := ⟨_, rfl⟩
      rw [hxx] at hx hB3
      rw [hyy] at hy hB3
      rw [hzz] at hz hB3
      have Hxyz := Lib.hid (show (fb l k, fb l (k + 1), fb l (k + 2)) = (x, y, z) by rw [hxx, hyy, hzz])
      have HB3 := Lib.hid hB3
      obtain ⟨k1, hk1⟩ : ∃ k1, k + 1 = k1 := ⟨_, rfl⟩
      obtain ⟨k2, hk2⟩ : ∃ k2, k + 2 = k2 := ⟨_, rfl⟩
      rw [hk1] at hy
      rw [hk2] at hz
      have hkb1 : k1 ≤ 2097152 := by omega
      have hkb2 : k2 ≤ 2097152 := by omega
      have hw1 : IntKind.i64.wrap (k1 : Int) = (k1 : Int) := IntWalk.i64_in _ (by omega)
      have hw2 : IntKind.i64.wrap (k2 : Int) = (k2 : Int) := IntWalk.i64_in _ (by omega)
      have e1 : (k : Int) + 1 = (k1 : Int) := by omega
      have e2 : (k : Int) + 2 = (k2 : Int) := by omega
      have i0 : (0 : Int) ≤ (k : Int) := by omega
      have i1 : (k : Int) < (l.length : Int) := by have := HN.out; omega
      have i2 : (0 : Int) ≤ (k1 : Int) := by omega
      have i3 : (k1 : Int) < (l.length : Int) := by have := HN.out; omega
      have i4 : (0 : Int) ≤ (k2 : Int) := by omega
      have i5 : (k2 : Int) < (l.length : Int) := by have := HN.out; omega
      have Hk12 := Lib.hid (And.intro hk1 hk2)
      clear hk1 hk2 hxx hyy hzz ho hh hA hown h1 h2 h3 hm hrow hB3 hb3
      go_upto_region 6 with (fail)
      have hq := After.ne wr
      have r0 := After.rule hx
      have r1 := After.rule hy
      have r2 := After.rule hz
      refine wp_region_box1 15 _ (.cells #[.int .u8 0, .int .u8 0, .int .u8 0] 118) (by kernel_rfl) (by kernel_rfl) (by kernel_rfl) rfl rfl (by intro a w; go_simp) ?_
      repeat (refine Lq_step (fun K hK => ?_); go_simp; (refine hK _ ?_; clear hK K))
      refine Lq_nil ?_
      intro B w5 hB hb5 hz5
      have Hw5 : Hid (Below wr.heap.size wr (((w5.setCell ⟨B, 0, none⟩ (.int .u8 (x : Int))).setCell ⟨B, 1, none⟩ (.int .u8 (y : Int))).setCell ⟨B, 2, none⟩ (.int .u8 (z : Int)))) := Lib.hid (((hb5.setCell hB _).setCell hB _).setCell hB _)
      have hs5 := three_set (.int .u8 (x : Int)) (.int .u8 (y : Int)) (.int .u8 (z : Int)) hz5
      have f0 : w5.frozen? ⟨B, 0, none⟩ = false := by simp [World.frozen?, hz5]
      have f1 : w5.frozen? ⟨B, 1, none⟩ = false := by simp [World.frozen?, hz5]
      have f2 : w5.frozen? ⟨B, 2, none⟩ = false := by simp [World.frozen?, hz5]
      have g0 : w5.cell? ⟨B, 0, none⟩ = some (.int .u8 0) := cell_heap hz5 rfl
      have g1 : w5.cell? ⟨B, 1, none⟩ = some (.int .u8 0) := cell_heap hz5 rfl
      have g2 : w5.cell? ⟨B, 2, none⟩ = some (.int .u8 0) := cell_heap hz5 rfl
      clear hq r0 r1 r2 hb5 hz5 hx hy hz
      go_upto_region 7 with (fail)
      obtain ⟨W5, hW5⟩ : ∃ W5, (((w5.setCell ⟨B, 0, none⟩ (.int .u8 (x : Int))).setCell ⟨B, 1, none⟩ (.int .u8 (y : Int))).setCell ⟨B, 2, none⟩ (.int .u8 (z : Int))) = W5 := ⟨_, rfl⟩
      rw [hW5] at Hw5 hs5 ⊢
      have HW5 := Hw5
      have q0 : W5.cell? ⟨B, 0, none⟩ = some (.int .u8 (x : Int)) := cell_heap hs5 rfl
      have q1 : W5.cell? ⟨B, 1, none⟩ = some (.int .u8 (y : Int)) := cell_heap hs5 rfl
      have q2 : W5.cell? ⟨B, 2, none⟩ = some (.int .u8 (z : Int)) := cell_heap hs5 rfl
      have Hs5 := Lib.hid (And.intro hs5 hB)
      have HM5 := Lib.hid (Hall.out.2.2.2.2.2.2.turned (T := fun _ => False) (Turns.of_below' HW5.out) (fun h => h))
      have Hown5 := Lib.hid ((Turns.of_below' (T := fun _ => False) HW5.out).owns Hall.out.2.1 (fun _ _ h => h))
      have hlook := HM5.out.look HB3.out
      unfold tv at hlook
      rw [show F (x, y, z) = o by rw [← Hxyz.out]; exact Ho.out.1] at hlook
      clear f0 f1 f2 g0 g1 g2 hW5 hs5 hB
      cases o with
      | none =>
        have h0 : h = 0 := by rw [← Ho.out.2]; unfold hopOf; rw [Ho.out.1]
        go_wp2_with (refine wpList_put3 _ rfl _ _ _ rfl w.heap.size k k (x, y, z) F rfl HM5.out (by simp only [maxLen]; omega) HB3.out (by omega) rfl rfl ?_)
        intro w8 hm8 ht8
        have HJ8 := Lib.hid (StJ.step (h := h) HvB.out Hall.out.1 hlt Hall.out.2.1 Hall.out.2.2.1 Hall.out.2.2.2.1 Hall.out.2.2.2.2.1 ⟨_, _, rfl, Hlc.out.1, Hlc.out.2, Hall.out.2.2.2.2.2.1⟩ HJ.out.below HW5.out (.inl ⟨h0, rfl⟩) Ho.out.2.symm (by rw [Hxyz.out]; exact hm8) ht8)
        clear hm8 ht8
        go_wp2
        go_roundw
        case rel => exact ⟨k + 1, by go_num, by omega, HJ8⟩
        case measure => simp [intOf]; omega
      | some u =>
        obtain ⟨hu, -, -⟩ := Hall.out.2.2.2.2.1.is _ u Ho.out.1
        obtain ⟨d, hd⟩ : ∃ d, k - u = d := ⟨_, rfl⟩
        have ed : (k : Int) - (u : Int) = (d : Int) := by omega
        have hu0 : u ≤ 1048576 := by omega
        have hd0 : d ≤ 1048576 := by omega
        have hho : h = if d ≤ 32768 then d else 0 := by
          rw [← Ho.out.2]; unfold hopOf; rw [Ho.out.1]; simp only [hd]
        by_cases hdl : d ≤ 32768
        · rw [if_pos hdl] at hho
          subst hho
          have d1 : decide ((h : Int) ≤ 32768) = true := by simp; omega
          have hw3 : IntKind.u16.wrap (h : Int) = (h : Int) := by rw [IntKind.wrap_u16]; omega
          obtain ⟨g3, c3, e3, -, -, hc3, hf3⟩ := own_at Hown5.out (i := k) (u := hv (fb A k)) (by rw [List.getElem?_map, List.getElem?_eq_getElem (by have := Hall.out.1; omega), fb_at (by have := Hall.out.1; omega)]; rfl)
          cases e3
          have HM6 := Lib.hid (HM5.out.turned (Turns.set (T := fun i => i = w.heap.size + 1) (Turns.refl _ W5) (p := ⟨w.heap.size + 1, k, none⟩) rfl (.int .u16 (h : Int))) (by omega))
          have i6 : (k : Int) < (N : Int) := by omega
          have p0 := cell_heap (b := B) (i := 0) Hs5.out.1 rfl
          have Hq : Hid ((W5.setCell ⟨w.heap.size + 1, k, none⟩ (.int .u16 (h : Int))).heap[B]? = some (.cells #[.int .u8 (x : Int), .int .u8 (y : Int), .int .u8 (z : Int)] 118)) := Lib.hid ((Below.heap_setCell _ _ _ _ (fun e => by
            have h1 := (Hown5.out.lt (w.heap.size + 1) rfl).2
            have h2 := (Hall.out.2.1.lt (w.heap.size + 1) rfl).2
            have h3 := Hs5.out.2
            simp only at e
            omega)).trans Hs5.out.1)
          have s0 := cell_heap (i := 0) Hq.out rfl
          have s1 := cell_heap (i := 1) Hq.out rfl
          have s2 := cell_heap (i := 2) Hq.out rfl
          clear hd p0
          go_wp2_with (refine wpList_put3 _ rfl _ _ _ rfl w.heap.size k k (x, y, z) F rfl HM6.out (by simp only [maxLen]; omega) HB3.out (by omega) rfl rfl ?_)
          intro w8 hm8 ht8
          have HJ8 := Lib.hid (StJ.step (h := h) HvB.out Hall.out.1 hlt Hall.out.2.1 Hall.out.2.2.1 Hall.out.2.2.2.1 Hall.out.2.2.2.2.1 ⟨_, _, rfl, Hlc.out.1, Hlc.out.2, Hall.out.2.2.2.2.2.1⟩ HJ.out.below HW5.out (.inr rfl) Ho.out.2.symm (by rw [Hxyz.out]; exact hm8) ht8)
          clear hm8 ht8
          go_wp2
          go_roundw
          case rel => exact ⟨k + 1, by go_num, by omega, HJ8⟩
          case measure => simp [intOf]; omega
        · rw [if_neg hdl] at hho
          have d1 : decide ((d : Int) ≤ 32768) = false := by simp; omega
          clear hd
          go_wp2_with (refine wpList_put3 _ rfl _ _ _ rfl w.heap.size k k (x, y, z) F rfl HM5.out (by simp only [maxLen]; omega) HB3.out (by omega) rfl rfl ?_)
          intro w8 hm8 ht8
          have HJ8 := Lib.hid (StJ.step (h := h) HvB.out Hall.out.1 hlt Hall.out.2.1 Hall.out.2.2.1 Hall.out.2.2.2.1 Hall.out.2.2.2.2.1 ⟨_, _, rfl, Hlc.out.1, Hlc.out.2, Hall.out.2.2.2.2.2.1⟩ HJ.out.below HW5.out (.inl ⟨hho, rfl⟩) Ho.out.2.symm (by rw [Hxyz.out]; exact hm8) ht8)
          clear hm8 ht8
          go_wp2
          go_roundw
          case rel => exact ⟨k + 1, by go_num, by omega, HJ8⟩
          case measure => simp [intOf]; omega
    · obtain rfl : k = N := by omega
      have d0 : decide ((k : Int) < (k : Int)) = false := by simp
      go_wp2_with fail
      go_ret
      obtain ⟨A, F, hA, hown, h1, h2, h3, hm⟩ := HJ.out.ex
      subst hA
      exact ⟨_, A, rfl, rfl, owns_base hown (show w.heap.size ≤ w.heap.size + 1 by omega), h1, HJ.out.below⟩
end Go.Proofs.YtoladolgmeanhaaGreat

/- lz's Match. -/
namespace Go.Proofs.YtoladolgmeanhaaGreat
open Go.RowKit Go.Maps

theorem tok_info : (Tryz.prog.info? 71).map (fun i => (i.zero, i.size, i.bytes)) = some (some (.agg #[.int .u8 0, .int .i64 0, .int .i64 0]), 3, 24) := by kernel_rfl
theorem wpList_append_three {P : Program} (w : World) {ops : Array Oper} {rest : List Oper} {o : Oper} {a : Act} {Q : Exit → Act → World → Prop} (hgd : o.guard = none) (s x : Operand) (t : TypeId)
    (ho : o.op = .call { callee := .builtin .append, args := #[s, x], argTypes := #[t, t] })
    (base : Nat) (e : TypeId) (z : Value) (bytes : Nat) (hinfo : (P.info? e).map (fun i => (i.zero, i.size, i.bytes)) = some (some z, 3, bytes)) (ht : P.underlying t = some (.slice e)) (hzs : z.cells.size = 3)
    (v : Value) (n : Nat) (xs : List Value) (hs : a.eval s = v) (hown : w.ownsRow base e 3 v n xs) (u u2 u3 : Value) (te : TypeId) (hx : a.eval x = .slice (some ⟨w.heap.size, 0, none⟩) 1 1) (hu : u.oneCell' = true) (hu2 : u2.oneCell' = true) (hu3 : u3.oneCell' = true)
    (h63 : n + 1 ≤ maxLen) (hbytes : (n + 1) * bytes ≤ 140737488355328) (hbase : base ≤ w.heap.size)
    (h : ∀ g cap w', w'.ownsRow base e 3 (.slice (some ⟨g, 0, none⟩) (n + 1) cap) (n + 1) (xs ++ [u, u2, u3]) → Turns (fun b => v.ownBlock = some b) w w' → (v.ownBlock = some g ∨ w.heap.size ≤ g) → wpList P ops Q rest (a.put o.dst (.slice (some ⟨g, 0, none⟩) (n + 1) cap)) w') :
    wpList P ops Q (o :: rest) a (w.alloc (.cells #[u, u2, u3] te)) := by
  obtain ⟨i, hi, hz, hsz, hby⟩ := info_parts hinfo
  refine wpList_append_mine (P := P) (w.alloc (.cells #[u, u2, u3] te)) hgd s x t ho base e i z 3 bytes ht hi hz hsz hby hzs (by decide) v n xs hs (hown.alloc _) (some ⟨w.heap.size, 0, none⟩) 1 1 [u, u2, u3] hx rfl (.inr ⟨_, rfl, news_cells (c := [u, u2, u3])⟩)
    (fun q hq => by
      rcases List.mem_cons.1 hq with rfl | hq
      · exact hu
      rcases List.mem_cons.1 hq with rfl | hq
      · exact hu2
      · rcases List.mem_singleton.1 hq with rfl; exact hu3) h63 hbytes (by rw [World.size_alloc]; omega) ?_
  intro v' w' h2 h3 h4
  rcases h2.2 with ⟨-, h0⟩ | ⟨g, cap, cur, rfl, -⟩
  · omega
  · refine h g cap w' h2 ?_ ?_
    · exact (Turns.of_below' (Below.al1 w _)).trans (Turns.of_grown h3 (fun _ h => h))
    · rcases h4 g rfl with h | h
      · exact .inl h
      · rw [World.size_alloc] at h
        exact .inr (by omega)
def OwnT (w : World) (base : Nat) (v : Value) (ts : List Tk) : Prop := w.ownsRow base 71 3 v ts.length (ts.flatMap encT)
theorem Row.ownH {w : World} {base : Nat} {v : Value} {A : List Nat} (h : w.ownsRow base 120 1 v A.length (A.map hv)) : Row encH 1 w v A := by
  rw [← flatH] at h
  exact owns_row' encH_len h
theorem IsTok.byte {f : Nat → Nat} {N a : Nat} {t : Tk} (h : IsTok f N a t) (hf : ∀ i, f i < 256) : t.b < 256 := by
  rcases h with ⟨rfl, -⟩ | ⟨n, d, rfl, -⟩
  · exact hf a
  · show 0 < 256; omega
theorem IsTok.small {f : Nat → Nat} {N a : Nat} {t : Tk} (h : IsTok f N a t) : t.n ≤ 258 := by
  rcases h with ⟨rfl, -⟩ | ⟨n, d, rfl, h1, h2, h3, h4, h5, -⟩
  · show (0 : Int) ≤ 258; omega
  · have := h5.le
    unfold mo at this
    show (n : Int) ≤ 258; omega
set_option maxRecDepth 20000 in
set_option maxHeartbeats 8000000 in
theorem match_any (l : List Nat) (vb : Value) (w : World) (hvr : Row enc8 1 w vb l) (hby : ∀ b ∈ l, b < 256) (hl : l.length ≤ 1048576) :
    Calls Tryz.prog 22 #[vb] w fun e w' => ∃ (v' : Value) (ts : List Tk), e = .returned v' ∧ OwnT w' w.heap.size v' ts ∧ Toks (fb l) l.length 0 ts ∧ Below w.heap.size w w' := by
  have Hv := Lib.hid hvr
  obtain ⟨p, c, rfl, -, -, -⟩ := hvr
  go_enter Tryz.func22, Tryz.ntmps22
  go_wp2_with fail
  refine Calls.mono (stood_any l _ w Hv.out hby hl) ?_
  rintro e w1 ⟨va, A, rfl, hA, hown, hah, hb1⟩
  obtain ⟨pa, ca, rfl⟩ := owns_slice hown
  obtain ⟨W, hW⟩ : ∃ W, w1.alloc (.cells #[.slice p l.length c, .slice pa A.length ca] 69) = W := ⟨_, rfl⟩
  have hbW : Below w1.heap.size w1 W := by rw [← hW]; exact Below.al1 w1 _
  have hS : W.heap[w1.heap.size]? = some (.cells #[.slice p l.length c, .slice pa A.length ca] 69) := by
    rw [← hW]
    exact (heap_pushed [.cells #[.slice p l.length c, .slice pa A.length ca] 69] w1 0 _).2 rfl
  have HvW := Lib.hid (Hv.out.below (Below.thn hb1 hbW))
  have HaW := Lib.hid ((Row.ownH hown).below hbW)
  have HS := Lib.hid hS
  have HbW := Lib.hid (Below.thn hb1 hbW)
  have HW := Lib.hid hW
  have Hah := Lib.hid (And.intro hA hah)
  have HsW : Hid (w1.heap.size < W.heap.size) := Lib.hid (lt_heap hS)
  clear hb1 hbW hS hown hA hah hW
  go_wp2_with fail
  rw [HW.out]
  go_loopw [4, 5] (fun lv av wr => ∃ (a : Nat) (ts : List Tk), av = .int .i64 (a : Int) ∧ a ≤ l.length ∧ ts.length ≤ a ∧ Hid (OwnT wr W.heap.size lv ts) ∧ Hid (ToksTo (fb l) l.length a ts) ∧ Hid (Below W.heap.size W wr)) (fun _ av _ => l.length - (intOf av).toNat)
  case atStart => exact ⟨0, [], rfl, Nat.zero_le _, Nat.le_refl _, Lib.hid (World.ownsRow_nil _ _ _ _), Lib.hid .nil, Lib.hid (Below.refl _ _)⟩
  case round =>
    obtain ⟨a, ts, rfl, ha, hts, HO, HT, HB⟩ := hrel
    by_cases hlt : a < l.length
    · have d0 : decide ((a : Int) < (l.length : Int)) = true := by simp; omega
      have c0 := cell_later HB.out (cell_heap (i := 0) HS.out rfl)
      have c1 := cell_later HB.out (cell_heap (i := 1) HS.out rfl)
      obtain ⟨po, co, rfl⟩ := owns_slice HO.out
      obtain ⟨q, hq⟩ : ∃ q, ts.length = q := ⟨_, rfl⟩
      have HO2 : Hid (wr.ownsRow W.heap.size 71 3 (.slice po q co) q (ts.flatMap encT)) := Lib.hid (by rw [← hq]; exact HO.out)
      have Hq := Lib.hid hq
      rw [hq] at hts ⊢
      clear HO hq
      go_wp2_with fail
      refine Calls.mono (token_any l A _ _ a wr (HvW.out.below HB.out) (HaW.out.below HB.out) Hah.out.1 Hah.out.2 hlt hl) ?_
      rintro e w2 ⟨t, rfl, htok, hb2⟩
      have Htok := Lib.hid htok
      have HB2 := Lib.hid (Below.thn HB.out hb2)
      have HO3 := Lib.hid ((Turns.of_below' (T := fun _ => False) hb2).owns HO2.out (fun _ _ h => h))
      have hs1 : W.heap.size ≤ w2.heap.size := HB2.out.size
      have hsml := htok.small
      have hpos := htok.size_pos
      have hfit := htok.fits hlt
      obtain ⟨tb, tn, td⟩ := t
      obtain ⟨z, hz⟩ : ∃ z, Tk.size ⟨tb, tn, td⟩ = z := ⟨_, rfl⟩
      rw [hz] at hpos hfit
      have Hz := Lib.hid hz
      simp only at hsml
      unfold tkV
      simp only
      clear htok hb2 hz HO2 c0 c1
      have hc : (w2.alloc (.cells #[.int .u8 (tb : Int), .int .i64 tn, .int .i64 td] 71)).heap[w2.heap.size]? = some (.cells #[.int .u8 (tb : Int), .int .i64 tn, .int .i64 td] 71) := (heap_pushed [.cells #[.int .u8 (tb : Int), .int .i64 tn, .int .i64 td] 71] w2 0 _).2 rfl
      have hb23 := Below.al1 w2 (.cells #[.int .u8 (tb : Int), .int .i64 tn, .int .i64 td] 71)
      go_upto_region 6 with (fail)
      generalize w2.alloc (.cells #[.int .u8 (tb : Int), .int .i64 tn, .int .i64 td] 71) = W3 at *
      have HO4 := Lib.hid ((Turns.of_below' (T := fun _ => False) hb23).owns HO3.out (fun _ _ h => h))
      have HB3 := Lib.hid (Below.thn HB2.out hb23)
      have hs2 : W.heap.size ≤ W3.heap.size := HB3.out.size
      have x0 : W3.cell? ⟨w2.heap.size, 0, none⟩ = some (.int .u8 (tb : Int)) := cell_heap hc rfl
      have x1 : W3.cell? ⟨w2.heap.size, 1, none⟩ = some (.int .i64 tn) := cell_heap hc rfl
      have x2 : W3.cell? ⟨w2.heap.size, 2, none⟩ = some (.int .i64 td) := cell_heap hc rfl
      have Hc := Lib.hid (And.intro hc hb23)
      clear hc hb23
      go_wp2_with (at_builtin; refine wpList_append_three W3 rfl (.tmp 18) (.tmp 20) 50 rfl W.heap.size 71 _ 24 tok_info Tryz.underlying50 rfl (.slice po q co) q (ts.flatMap encT) rfl HO4.out (.int .u8 (tb : Int)) (.int .i64 tn) (.int .i64 td) _ rfl rfl rfl rfl ?n3 ?n4 hs2 ?_)
      case n3 => simp only [maxLen]; omega
      case n4 => omega
      intro g1 cap1 w5 ho1 ht1 hg1
      have HB5 := Lib.hid (HB3.out.trans (ht1.below hs2 (fun k hk => (HO4.out.lt k hk).1)))
      have hc5 := (ht1.block w2.heap.size (lt_heap Hc.out.1) (fun e => by
        have := (HO3.out.lt w2.heap.size e).2
        omega)).trans Hc.out.1
      have x0 : w5.cell? ⟨w2.heap.size, 0, none⟩ = some (.int .u8 (tb : Int)) := cell_heap hc5 rfl
      have x1 : w5.cell? ⟨w2.heap.size, 1, none⟩ = some (.int .i64 tn) := cell_heap hc5 rfl
      have x2 : w5.cell? ⟨w2.heap.size, 2, none⟩ = some (.int .i64 td) := cell_heap hc5 rfl
      have HO5 : Hid (OwnT w5 W.heap.size (.slice (some ⟨g1, 0, none⟩) (q + 1) cap1) (ts ++ [⟨tb, tn, td⟩])) := Lib.hid (by
        unfold OwnT
        rw [List.length_append, Hq.out, List.flatMap_append]
        exact ho1)
      have HT5 : Hid (ToksTo (fb l) l.length (a + z) (ts ++ [⟨tb, tn, td⟩])) := Lib.hid (by rw [← Hz.out]; exact .snoc HT.out hlt Htok.out)
      have Hlen : Hid ((ts ++ [(⟨tb, tn, td⟩ : Tk)]).length = q + 1) := Lib.hid (by rw [List.length_append, Hq.out]; rfl)
      clear hc5 ho1 ht1 hg1 HO3 HO4 hs2 Hc HB3
      go_wp2_with fail
      refine Calls.mono (size_any ⟨tb, tn, td⟩ w5 (by show tn ≤ 1000; omega)) ?_
      rintro e w6 ⟨rfl, hb6⟩
      rw [Hz.out]
      have HB6 := Lib.hid (HB5.out.trans (hb6.mono HB5.out.size))
      have HO6 := Lib.hid (show OwnT w6 W.heap.size _ _ from (Turns.of_below' (T := fun _ => False) hb6).owns HO5.out (fun _ _ h => h))
      have ez : (a : Int) + (z : Int) = ((a + z : Nat) : Int) := by omega
      obtain ⟨az, haz⟩ : ∃ az, a + z = az := ⟨_, rfl⟩
      rw [haz] at HT5 hfit ez
      have haz2 : a < az := by omega
      clear hb6 x0 x1 x2 haz HB5 HO5
      go_wp2_with fail
      go_roundw
      case rel => exact ⟨az, ts ++ [⟨tb, tn, td⟩], rfl, hfit, by rw [Hlen.out]; omega, HO6, HT5, HB6⟩
      case measure => simp [intOf]; omega
    · obtain rfl : a = l.length := by omega
      have d0 : decide ((l.length : Int) < (l.length : Int)) = false := by simp
      go_wp2_with fail
      go_ret
      exact ⟨_, ts, rfl, owns_base HO.out HbW.out.size, HT.out.all, HbW.out.trans (HB.out.mono HbW.out.size)⟩
end Go.Proofs.YtoladolgmeanhaaGreat

/- lz's tell and Expand. -/
namespace Go.Proofs.YtoladolgmeanhaaGreat
open Go.RowKit

end Go.Proofs.YtoladolgmeanhaaGreat

/- deflate: what tokens become, as an iterator hands it over. -/
namespace Go.Proofs.YtoladolgmeanhaaGreat
open Go.RowKit Go.Shelf

attribute [local go_sem] Oper.semAt_some

def paT (t : Tk) : List Pa := if t.n = 0 then [⟨0, t.b, 0, 0⟩] else [lnP t.n.toNat, dsP t.d.toNat]
def pasT (ts : List Tk) : List Pa := ts.flatMap paT ++ [⟨0, 256, 0, 0⟩]
def ElPa (_ _ : World) (_ : Nat → Prop) (x : Pa) (vs : Array Value) : Prop := vs = #[PaV x]
theorem tk_okD {t : Tk} (h : t.okB = true) : (t.n = 0) ∨ (∃ n d : Nat, t.n = (n : Int) ∧ t.d = (d : Int) ∧ 3 ≤ n ∧ n ≤ 258 ∧ 1 ≤ d ∧ d ≤ 32768) := by
  by_cases h0 : t.n = 0
  · exact .inl h0
  · have hk : t.okB = decide (3 ≤ t.n ∧ t.n ≤ 258 ∧ 1 ≤ t.d ∧ t.d ≤ 32768 ∧ t.b = 0) := if_neg h0
    rw [h] at hk
    have hk := of_decide_eq_true hk.symm
    exact .inr ⟨t.n.toNat, t.d.toNat, by omega, by omega, by omega, by omega, by omega, by omega⟩
theorem pasT_cut (ts : List Tk) {i : Nat} (hi : i < ts.length) : pasT ts = (ts.take i).flatMap paT ++ (paT ts[i] ++ pasT (ts.drop (i + 1))) := by
  unfold pasT
  have e : ts.flatMap paT = (ts.take i ++ ts[i] :: ts.drop (i + 1)).flatMap paT := by rw [← List.drop_eq_getElem_cons hi, List.take_append_drop]
  rw [e]
  simp only [List.flatMap_append, List.flatMap_cons, List.append_assoc]
theorem take_pas (ts : List Tk) {i : Nat} (hi : i < ts.length) : (ts.take (i + 1)).flatMap paT = (ts.take i).flatMap paT ++ paT ts[i] := by
  rw [List.take_succ_eq_append_getElem hi, List.flatMap_append]; simp
theorem tok_cells {W : World} {p : Option Addr} {ts : List Tk} (h : RowAt encT 3 W p ts) {i : Nat} (hi : i < ts.length) : ∃ b off, p = some ⟨b, off, none⟩ ∧ W.cell? ⟨b, off + i * 3, none⟩ = some (.int .u8 (ts[i].b : Int)) ∧ W.cell? ⟨b, off + i * 3 + 1, none⟩ = some (.int .i64 ts[i].n) ∧ W.cell? ⟨b, off + i * 3 + 2, none⟩ = some (.int .i64 ts[i].d) := by
  rcases h with ⟨-, rfl⟩ | ⟨b, off, rfl, -, h4⟩
  · simp at hi
  · exact ⟨b, off, rfl, h4 i _ (List.getElem?_eq_getElem hi) 0 _ rfl, h4 i _ (List.getElem?_eq_getElem hi) 1 _ rfl, h4 i _ (List.getElem?_eq_getElem hi) 2 _ rfl⟩
set_option maxRecDepth 20000 in
set_option maxHeartbeats 4000000 in
theorem told_iter (Bl : Nat) (p : Option Addr) (c : Nat) (ts : List Tk) (w : World) (R : Nat → Prop) (hBl : w.cell? ⟨Bl, 0, none⟩ = some (.slice p ts.length c)) (hp : RowAt encT 3 w p ts) (hx : ∀ t ∈ ts, t.okB = true ∧ t.b < 256) (hl : ts.length ≤ 1048576)
    (hRlt : ∀ b, R b → b < w.heap.size) (hR1 : R Bl) (hR3 : ∀ a, p = some a → R a.block) :
    Iter Tryz.prog 109 #[.pointer (some ⟨Bl, 0, none⟩)] ElPa R (pasT ts) w := by
  intro l J Jx W hsz hRW hJ0 hY
  refine callsIn_wide.2 ?_
  have hcl : W.cell? ⟨Bl, 0, none⟩ = some (.slice p ts.length c) := (World.cell?_of_block (hRW Bl hR1)).trans hBl
  have HY := Lib.hid hY
  have HRW := Lib.hid hRW
  have Hp := Lib.hid hp
  have Hx := Lib.hid hx
  have HRlt := Lib.hid hRlt
  obtain ⟨n, hn⟩ : ∃ n, ts.length = n := ⟨_, rfl⟩
  have Hn := Lib.hid hn
  rw [hn] at hcl hl
  clear hY hRW hp hx hRlt hBl hn
  go_enter Tryz.func109, Tryz.ntmps109
  go_wp2
  go_loopw [7] (fun iv wr => ∃ (i : Nat) (Tp : Nat → Prop) (Wp : World), iv = .int .i64 (i : Int) ∧ i ≤ n ∧ Hid (J ((ts.take i).flatMap paT) Tp Wp) ∧ Hid (Turns Tp Wp wr) ∧ Hid (∀ b, R b → wr.heap[b]? = w.heap[b]?) ∧ Hid (∀ b, Tp b → Wp.heap.size ≤ b ∨ True)) (fun iv _ => n - (intOf iv).toNat)
  case atStart => exact ⟨0, fun _ => False, W, rfl, Nat.zero_le _, Lib.hid hJ0, Lib.hid (Turns.refl _ _), HRW, Lib.hid (fun _ h => h.elim)⟩
  case round =>
    obtain ⟨i, Tp, Wp, rfl, hi, HJ, HT, HR, -⟩ := hrel
    by_cases hin : i < n
    · have d1 : decide ((i : Int) < (n : Int)) = true := by simp; omega
      have hin' : i < ts.length := by rw [Hn.out]; exact hin
      obtain ⟨b, off, rfl, x0, x1, x2⟩ := tok_cells Hp.out hin'
      have hRb := hR3 _ rfl
      have hsame := HR.out b hRb
      have x0 := (World.cell?_of_block (a := ⟨b, off + i * 3, none⟩) hsame).trans x0
      have x1 := (World.cell?_of_block (a := ⟨b, off + i * 3 + 1, none⟩) hsame).trans x1
      have x2 := (World.cell?_of_block (a := ⟨b, off + i * 3 + 2, none⟩) hsame).trans x2
      obtain ⟨hok, hb256⟩ := Hx.out _ (List.getElem_mem hin')
      have Hcut := Lib.hid (pasT_cut ts hin')
      have Htk := Lib.hid (take_pas ts hin')
      have i0 : (0 : Int) ≤ (i : Int) := by omega
      have i1 : (i : Int) < (n : Int) := by omega
      generalize ts[i] = t at *
      clear hsame hin'
      go_upto_region 3 with (fail)
      have hb1 := Below.al1 wr (.cells #[.int .u8 (t.b : Int), .int .i64 t.n, .int .i64 t.d] 71)
      have y0 : (wr.alloc (.cells #[.int .u8 (t.b : Int), .int .i64 t.n, .int .i64 t.d] 71)).cell? ⟨wr.heap.size, 0, none⟩ = some (.int .u8 (t.b : Int)) := cell_heap (World.alloc_heap_new wr _) rfl
      have y1 : (wr.alloc (.cells #[.int .u8 (t.b : Int), .int .i64 t.n, .int .i64 t.d] 71)).cell? ⟨wr.heap.size, 1, none⟩ = some (.int .i64 t.n) := cell_heap (World.alloc_heap_new wr _) rfl
      have y2 : (wr.alloc (.cells #[.int .u8 (t.b : Int), .int .i64 t.n, .int .i64 t.d] 71)).cell? ⟨wr.heap.size, 2, none⟩ = some (.int .i64 t.d) := cell_heap (World.alloc_heap_new wr _) rfl
      have hgs : wr.heap.size < (wr.alloc (.cells #[.int .u8 (t.b : Int), .int .i64 t.n, .int .i64 t.d] 71)).heap.size := by rw [World.size_alloc]; omega
      generalize wr.alloc (.cells #[.int .u8 (t.b : Int), .int .i64 t.n, .int .i64 t.d] 71) = u1 at *
      have HR1 : Hid (∀ b, R b → u1.heap[b]? = w.heap[b]?) := Lib.hid (fun b hb => (hb1.block b (lt_of_same (HRlt.out b hb) (HR.out b hb))).trans (HR.out b hb))
      have HT1 := Lib.hid (HT.out.trans (Turns.of_below' hb1))
      have hWp : Wp.heap.size ≤ wr.heap.size := HT.out.size
      generalize wr.heap.size = gt at *
      clear x0 x1 x2 hb1
      rcases tk_okD hok with h0 | ⟨nn, dd, e1, e2, n1, n2, n3, n4⟩
      · rw [h0] at y1
        have e0 : paT t = [⟨0, t.b, 0, 0⟩] := if_pos h0
        rw [e0] at Hcut Htk
        have hwb : IntKind.i64.wrap (t.b : Int) = (t.b : Int) := IntWalk.i64_in _ (by omega)
        go_upto_region 4 with (fail)
        obtain ⟨fn, tmps, assign, body, hy, hRd⟩ := HY.out ((ts.take i).flatMap paT) ⟨0, t.b, 0, 0⟩ (pasT (ts.drop (i + 1))) Tp (fun _ => False) Wp u1 #[PaV ⟨0, t.b, 0, 0⟩] Hcut.out HJ.out HT1.out (fun _ h => h.elim) (fun _ h => h.elim) HR1.out rfl
        change Sem.run _ (Instr.yield l #[.agg #[.int .i64 0, .int .i64 (t.b : Int), .int .i64 0, .int .i64 0]]) u1 = _ at hy
        refine (wpIn_wide (n := 0)).1 ?_
        gi_wp2
        refine ⟨rfl, hRd.mono ?_⟩
        rintro e W3 (⟨rfl, hJ3, hsz3, hk3⟩ | ⟨rfl, hJx3, -, -⟩)
        · have HR3 : Hid (∀ b, R b → W3.heap[b]? = w.heap[b]?) := Lib.hid (fun b hb => (hk3 b (Or.inl hb)).trans (HR1.out b hb))
          have HJ3 := Lib.hid hJ3
          clear hk3 hJ3
          gi_wp2
          go_wp2
          go_roundw
          case rel => exact ⟨i + 1, fun _ => False, W3, by go_num, by omega, by rw [Htk.out]; exact HJ3, Lib.hid (Turns.refl _ _), HR3, Lib.hid (fun _ h => h.elim)⟩
          case measure => simp [intOf]; omega
        · have HP : (ts.take i).flatMap paT ++ [⟨0, t.b, 0, 0⟩] <+: pasT ts := ⟨pasT (ts.drop (i + 1)), by rw [Hcut.out]; simp⟩
          gi_wp2
          go_wp2
          refine bodyPost_ret (results_none rfl _ _ _) rfl ?_
          exact ⟨⟨_, rfl⟩, .inr ⟨_, _, _, HP, hJx3, Turns.refl _ _⟩⟩
      · rw [e1] at y1
        rw [e2] at y2
        have h0 : t.n ≠ 0 := by omega
        have e0 : paT t = [lnP nn, dsP dd] := by
          unfold paT
          rw [if_neg h0, e1, e2]; rfl
        rw [e0] at Hcut Htk
        have d2 : ((nn : Int) == 0) = false := by simp; omega
        go_upto_region 5 with (fail)
        refine (wpIn_wide (n := 0)).1 ?_
        gi_wp2
        refine ⟨trivial, rfl, (callsIn_wide.2 (dlength_any nn u1 n1 n2)).mono ?_⟩
        rintro _ u2 ⟨rfl, hb2⟩
        have HR2 : Hid (∀ b, R b → u2.heap[b]? = w.heap[b]?) := Lib.hid (fun b hb => (hb2.block b (lt_of_same (HRlt.out b hb) (HR1.out b hb))).trans (HR1.out b hb))
        have HT2 := Lib.hid (HT1.out.trans (Turns.of_below' hb2))
        have z2 := cell_later hb2 y2
        have hgs2 : gt < u2.heap.size := Nat.lt_of_lt_of_le hgs hb2.size
        obtain ⟨fn, tmps, assign, body, hy, hRd⟩ := HY.out ((ts.take i).flatMap paT) (lnP nn) (dsP dd :: pasT (ts.drop (i + 1))) Tp (fun b => b = gt) Wp u2 #[PaV (lnP nn)] Hcut.out HJ.out HT2.out (fun b h => .inr (by rw [h]; exact hWp)) (fun b h => by rw [h]; exact hgs2) HR2.out rfl
        clear y0 y1 y2 hb2
        gi_wp2
        refine ⟨rfl, hRd.mono ?_⟩
        rintro e W3 (⟨rfl, hJ3, hsz3, hk3⟩ | ⟨rfl, hJx3, -, -⟩)
        · have HR3 : Hid (∀ b, R b → W3.heap[b]? = w.heap[b]?) := Lib.hid (fun b hb => (hk3 b (Or.inl hb)).trans (HR2.out b hb))
          have HJ3 := Lib.hid hJ3
          have z3 := (World.cell?_of_block (a := ⟨gt, 2, none⟩) (hk3 gt (Or.inr rfl))).trans z2
          clear hk3 hJ3 hy hRd z2
          gi_wp2
          refine ⟨trivial, rfl, (callsIn_wide.2 (ddistance_any dd W3 n3 n4)).mono ?_⟩
          rintro _ u4 ⟨rfl, hb4⟩
          have HR4 : Hid (∀ b, R b → u4.heap[b]? = w.heap[b]?) := Lib.hid (fun b hb => (hb4.block b (lt_of_same (HRlt.out b hb) (HR3.out b hb))).trans (HR3.out b hb))
          have HT4 := Lib.hid (Turns.of_below' (T := fun b => b = gt) hb4)
          obtain ⟨fn, tmps, assign, body, hy, hRd⟩ := HY.out ((ts.take i).flatMap paT ++ [lnP nn]) (dsP dd) (pasT (ts.drop (i + 1))) (fun b => b = gt) (fun _ => False) W3 u4 #[PaV (dsP dd)] (by rw [Hcut.out]; simp) HJ3.out HT4.out (fun _ h => h.elim) (fun _ h => h.elim) HR4.out rfl
          clear hb4 z3
          gi_wp2
          refine ⟨rfl, hRd.mono ?_⟩
          rintro e W5 (⟨rfl, hJ5, hsz5, hk5⟩ | ⟨rfl, hJx5, -, -⟩)
          · have HR5 : Hid (∀ b, R b → W5.heap[b]? = w.heap[b]?) := Lib.hid (fun b hb => (hk5 b (Or.inl hb)).trans (HR4.out b hb))
            have HJ5 : Hid (J ((ts.take (i + 1)).flatMap paT) (fun _ => False) W5) := Lib.hid (by rw [Htk.out]; simpa using hJ5)
            clear hk5 hJ5 hy hRd
            gi_wp2
            go_wp2
            go_roundw
            case rel => exact ⟨i + 1, fun _ => False, W5, by go_num, by omega, HJ5, Lib.hid (Turns.refl _ _), HR5, Lib.hid (fun _ h => h.elim)⟩
            case measure => simp [intOf]; omega
          · have HP : (ts.take i).flatMap paT ++ [lnP nn] ++ [dsP dd] <+: pasT ts := ⟨pasT (ts.drop (i + 1)), by rw [Hcut.out]; simp⟩
            gi_wp2
            go_wp2
            refine bodyPost_ret (results_none rfl _ _ _) rfl ?_
            exact ⟨⟨_, rfl⟩, .inr ⟨_, _, _, HP, hJx5, Turns.refl _ _⟩⟩
        · have HP : (ts.take i).flatMap paT ++ [lnP nn] <+: pasT ts := ⟨dsP dd :: pasT (ts.drop (i + 1)), by rw [Hcut.out]; simp⟩
          gi_wp2
          refine ⟨trivial, ?_⟩
          gi_wp2
          refine ⟨fun _ h => (by cases h), ?_⟩
          gi_wp2
          go_wp2
          refine bodyPost_ret (results_none rfl _ _ _) rfl ?_
          exact ⟨⟨_, rfl⟩, .inr ⟨_, _, _, HP, hJx3, Turns.refl _ _⟩⟩
    · obtain rfl : i = n := by omega
      have hE : ts.take i = ts := List.take_of_length_le (by rw [Hn.out]; exact Nat.le_refl _)
      rw [hE] at HJ
      clear hE
      go_upto_region 7 with (fail)
      obtain ⟨fn, tmps, assign, body, hy, hRd⟩ := HY.out (ts.flatMap paT) ⟨0, 256, 0, 0⟩ [] Tp (fun _ => False) Wp wr #[PaV ⟨0, 256, 0, 0⟩] rfl HJ.out HT.out (fun _ h => h.elim) (fun _ h => h.elim) HR.out rfl
      change Sem.run _ (Instr.yield l #[.agg #[.int .i64 0, .int .i64 256, .int .i64 0, .int .i64 0]]) wr = _ at hy
      refine (wpIn_wide (n := 0)).1 ?_
      gi_wp2
      refine ⟨rfl, hRd.mono ?_⟩
      rintro e W3 (⟨rfl, hJ3, hsz3, hk3⟩ | ⟨rfl, hJx3, -, -⟩)
      · gi_wp2
        go_wp2
        go_end0
        exact ⟨⟨_, rfl⟩, .inl ⟨_, _, hJ3, Turns.refl _ _⟩⟩
      · have HP : ts.flatMap paT ++ [⟨0, 256, 0, 0⟩] <+: pasT ts := ⟨[], by unfold pasT; simp⟩
        gi_wp2
        go_wp2
        go_end0
        exact ⟨⟨_, rfl⟩, .inr ⟨_, _, _, HP, hJx3, Turns.refl _ _⟩⟩
end Go.Proofs.YtoladolgmeanhaaGreat
