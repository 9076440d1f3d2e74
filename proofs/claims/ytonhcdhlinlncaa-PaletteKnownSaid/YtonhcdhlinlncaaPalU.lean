/- palette: the document's Decode. -/
import Derived.Test.YtonhcdhlinlncaaPalT
import Derived.Test.YtonhcdhlinlncaaPalE
import Derived.Test.YtonhcdhlinlncaaPalF
import Derived.Test.YtonhcdhlinlncaaPalG
namespace Go.Proofs.Ytonhcdhlinlncaa
open Go.RowKit

attribute [local go_sem] Oper.semAt_some

/-- A part of a row of bits, as the document cuts it. -/
theorem slice_bits {w : World} {p : Option Addr} {n c a s : Nat} {l : List Bool} (h : RwB w (.slice p n c) l) (hfit : a + s ≤ l.length) :
    ∃ p' c', (∀ w' : World, (Instr.slice 46 (.slice p n c) (some (.int .i64 (a : Int))) (some (.int .i64 ((a + s : Nat) : Int))) none).run Try.prog w' = .ok (.slice p' s c') w') ∧ BitsAt w p' ((l.drop a).take s) := by
  obtain ⟨p0, c0, e, hc1, hc2, hcell⟩ := h.cells
  injection e with e1 e2 e3
  subst e1
  subst e3
  have hrun : ∀ w' : World, (Instr.slice 46 (.slice p n c) (some (.int .i64 (a : Int))) (some (.int .i64 ((a + s : Nat) : Int))) none).run Try.prog w' = .ok (if c = a then .slice p s 0 else .slice (p.map fun x => x.add a) s (c - a)) w' := fun w' => by
    obtain ⟨i, hi, hz, hs, hb⟩ := info_parts bool_info
    rw [run_slice_lh w' 46 p n c (by kernel_rfl) .i64 .i64 (a : Int) ((a + s : Nat) : Int) (by omega) (by omega) (by omega), Int.toNat_natCast, Int.toNat_natCast]
    by_cases hca : c = a
    · subst hca
      obtain rfl : s = 0 := by omega
      simp [go_sem]
    · simp [go_sem, hca]
  by_cases hca : c = a
  · refine ⟨p, 0, fun w' => by rw [hrun, if_pos hca], fun i hi => ?_⟩
    rw [List.length_take, List.length_drop] at hi
    omega
  · refine ⟨p.map fun x => x.add a, c - a, fun w' => by rw [hrun, if_neg hca], ?_⟩
    rcases p with _ | ⟨g, off, sel⟩
    · intro i hi
      rw [List.length_take, List.length_drop] at hi
      obtain ⟨_, _, e, _⟩ := hcell (a + i) (by omega)
      cases e
    · by_cases h0 : 0 < l.length
      · obtain ⟨_, _, e, _⟩ := hcell 0 h0
        cases e
        show BitsAt w (some ((⟨g, off, none⟩ : Addr).add a)) _
        rw [Addr.add_lit]
        exact BitsAt.part hcell a s
      · intro i hi
        rw [List.length_take, List.length_drop] at hi
        omega
theorem slice_tail8 {w : World} {g off n c S : Nat} {l : List Nat} (h : RowAt enc8 1 w (some ⟨g, off, none⟩) l) (hn : l.length = n) (hS : S ≤ n) (hc : n ≤ c) :
    ∃ p' c', (∀ w' : World, (Instr.slice 23 (.slice (some ⟨g, off, none⟩) n c) (some (.int .i64 (S : Int))) none none).run Try.prog w' = .ok (.slice p' (n - S) c') w') ∧ RowAt enc8 1 w p' (l.drop S) ∧ n - S ≤ c' ∧ c' ≤ c ∧ p' ≠ none := by
  obtain ⟨i, hi, hz, hs, hb⟩ := info_parts u8_info
  have hrun : ∀ w' : World, (Instr.slice 23 (.slice (some ⟨g, off, none⟩) n c) (some (.int .i64 (S : Int))) none none).run Try.prog w' = .ok (if c = S then .slice (some ⟨g, off, none⟩) (n - S) 0 else .slice (some ⟨g, off + S, none⟩) (n - S) (c - S)) w' := fun w' => by
    rw [run_slice_l w' 23 (some ⟨g, off, none⟩) n c (by kernel_rfl) .i64 (S : Int) (by omega) (by omega), Int.toNat_natCast]
    by_cases hcs : c = S
    · subst hcs
      simp [go_sem]
    · simp [go_sem, hcs, Addr.add]
  rcases h with ⟨h, -⟩ | ⟨b, o, e, hb, hcl⟩
  · cases h
  cases e
  by_cases hcs : c = S
  · refine ⟨_, 0, fun w' => by rw [hrun, if_pos hcs], .inr ⟨_, _, rfl, hb, fun i x hi => ?_⟩, by omega, by omega, by simp⟩
    rw [List.drop_of_length_le (by omega)] at hi
    simp at hi
  · refine ⟨_, c - S, fun w' => by rw [hrun, if_neg hcs], .inr ⟨_, _, rfl, hb, fun i x hi j u hu => ?_⟩, by omega, by omega, by simp⟩
    rw [List.getElem?_drop] at hi
    have := hcl (S + i) x hi j u hu
    rw [Nat.mul_one] at this ⊢
    rw [← this]
    congr 2
    omega
theorem numL_none : ∀ {l : List Bool}, (∀ b ∈ l, b = false) → numL l = 0
  | [], _ => rfl
  | b :: r, h => by rw [numL, h b (by simp), numL_none (fun x hx => h x (by simp [hx]))]; rfl
theorem numL_some : ∀ {l : List Bool}, numL l = 0 → ∀ b ∈ l, b = false
  | [], _, b, hb => by cases hb
  | x :: r, h, b, hb => by
    rw [numL] at h
    have h1 : x.toNat = 0 := by omega
    have h2 : numL r = 0 := by omega
    rcases List.mem_cons.1 hb with rfl | hb
    · simpa using h1
    · exact numL_some h2 b hb
theorem plP_tail {cs r : List Nat} {N : Nat} (h8 : ∀ x ∈ r, x < 256) (h : ∃ i, plZ cs.length * N ≤ i ∧ ∃ h' : i < (ofB r).length, (ofB r)[i] = true) : plP cs r N = none := by
  refine plP_bit fun h0 => ?_
  obtain ⟨i, h1, h2, h3⟩ := h
  have hle : plZ cs.length * N ≤ (ofB r).length := by omega
  have e := numL_drop (ofB r) (plZ cs.length * N) hle
  rw [numL_ofB r h8, h0] at e
  have := numL_some e true (by
    rw [← h3, show (ofB r)[i] = ((ofB r).drop (plZ cs.length * N))[i - plZ cs.length * N]'(by rw [List.length_drop]; omega) by
      rw [List.getElem_drop]; congr 1; omega]
    exact List.getElem_mem _)
  cases this
theorem plP_all {cs r : List Nat} {N : Nat} (h8 : ∀ x ∈ r, x < 256) (h1 : r.length = (N * plZ cs.length + 7) / 8) (h2 : ∀ i, i < N → numB r / 2 ^ (plZ cs.length * i) % 2 ^ plZ cs.length < cs.length) (h3 : ∀ i, plZ cs.length * N ≤ i → ∀ h' : i < (ofB r).length, (ofB r)[i] = false) : plP cs r N = some ((plG r (plZ cs.length) N).map fun v => cs.getD v 0) := by
  refine plP_some h1 h2 ?_
  have hle : plZ cs.length * N ≤ (ofB r).length := by rw [ofB_len, h1, Nat.mul_comm]; omega
  have e := numL_drop (ofB r) (plZ cs.length * N) hle
  rw [numL_ofB r h8] at e
  rw [← e]
  refine numL_none fun b hb => ?_
  obtain ⟨i, hi, rfl⟩ := List.getElem_of_mem hb
  rw [List.length_drop] at hi
  rw [List.getElem_drop]
  exact h3 _ (by omega) _

set_option maxRecDepth 100000 in
set_option maxHeartbeats 8000000 in
theorem prefDecode_any (p : Option Addr) (c : Nat) (l : List Nat) (N : Int) (w : World) (hp : RowAt enc8 1 w p l) (h8 : ∀ x ∈ l, x < 256) (hl : l.length ≤ 1048576) (hlc : l.length ≤ c) (hc63 : c ≤ maxLen) :
    Calls Try.prog 13 #[.slice p l.length c, .int .i64 N] w fun e w' => ∃ v', e = .returned (.tuple #[v', .int .i64 (plD l N).2]) ∧ w'.ownsRow w.heap.size 35 1 v' (plD l N).1.length ((plD l N).1.map pxv) ∧ Below w.heap.size w w' := by
  have Hp := Lib.hid hp
  have Harg := Lib.hid (fun h => plD_arg (b := l) (n := N) h)
  have H8' := Lib.hid h8
  have H8 : Hid (∀ i, lq l i < 256) := Lib.hid (fun i => by
    unfold lq
    rw [List.getD_eq_getElem?_getD]
    cases h : l[i]? with
    | none => decide
    | some x => exact h8 x (List.mem_of_getElem? h))
  have Hc63 := Lib.hid hc63
  have hcb : c ≤ 9223372036854775807 := by simp only [maxLen] at hc63; omega
  obtain ⟨E, hE⟩ : ∃ E, plD l N = E := ⟨_, rfl⟩
  have HE := Lib.hid hE
  rw [hE] at Harg ⊢
  obtain ⟨n, hn⟩ : ∃ n, l.length = n := ⟨_, rfl⟩
  have Hn := Lib.hid hn
  have HQ : Hid (plQ l ↔ ¬ (n = 0 ∨ 16 ≤ lq l 0 ∨ n < 1 + 3 * (lq l 0 + 1))) := Lib.hid (by unfold plQ; rw [hn])
  rw [hn] at hl hlc ⊢
  clear hp h8 hE hn hc63
  go_enter Try.func13, Try.ntmps13
  by_cases h1 : N < 1
  · have d1 : decide (N < 1) = true := by simpa using h1
    obtain rfl : E = ([], 1) := Harg.out (.inl h1)
    go_wp2
    go_ret2
    exact ⟨_, rfl, World.ownsRow_nil _ _ _ _, Below.refl _ _⟩
  have d1 : decide (N < 1) = false := by simp; omega
  by_cases h2 : 65536 < N
  · have d2 : decide (N > 65536) = true := by simp; omega
    obtain rfl : E = ([], 1) := Harg.out (.inr h2)
    go_wp2
    go_ret2
    exact ⟨_, rfl, World.ownsRow_nil _ _ _ _, Below.refl _ _⟩
  have d2 : decide (N > 65536) = false := by simp; omega
  obtain ⟨M, rfl⟩ : ∃ m : Nat, N = (m : Int) := ⟨N.toNat, by omega⟩
  have hM : M ≤ 65536 := by omega
  have HN : Hid (¬ ((M : Int) < 1 ∨ 65536 < (M : Int))) := Lib.hid (by omega)
  have hno : ¬ plQ l → E = ([], 131) := fun hq => by rw [← HE.out]; exact plD_no HN.out hq
  have Hno := Lib.hid hno
  clear hno h1 h2
  by_cases h0 : n < 1
  · have d3 : decide ((n : Int) < 1) = true := by simp; omega
    have d3' : decide (n < 1) = true := by simp; omega
    obtain rfl : E = ([], 131) := Hno.out (by rw [HQ.out]; omega)
    go_wp2
    go_ret2
    exact ⟨_, rfl, World.ownsRow_nil _ _ _ _, Below.refl _ _⟩
  have d3 : decide ((n : Int) < 1) = false := by simp; omega
  have d3' : decide (n < 1) = false := by simp; omega
  obtain ⟨g, off, rfl, hcell⟩ := Hp.out.bytes (by rw [Hn.out]; omega)
  have Hcell := Lib.hid hcell
  have x0 := hcell 0 (by rw [Hn.out]; omega)
  rw [Nat.add_zero] at x0
  have hy8 := H8.out 0
  obtain ⟨y, hy⟩ : ∃ y, lq l 0 = y := ⟨_, rfl⟩
  have Hy := Lib.hid hy
  rw [hy] at x0 hy8 HQ
  have i0 : (0 : Int) < (n : Int) := by omega
  clear hcell hy
  by_cases h1 : 15 < y
  · have d4 : decide ((y : Int) > 15) = true := by simp; omega
    obtain rfl : E = ([], 131) := Hno.out (by rw [HQ.out]; omega)
    go_wp2
    go_ret2
    exact ⟨_, rfl, World.ownsRow_nil _ _ _ _, Below.refl _ _⟩
  have d4 : decide ((y : Int) > 15) = false := by simp; omega
  obtain ⟨k, hk⟩ : ∃ k, y + 1 = k := ⟨_, rfl⟩
  have ek : (y : Int) + 1 = (k : Int) := by omega
  obtain ⟨S, hS⟩ : ∃ S, 1 + 3 * k = S := ⟨_, rfl⟩
  have eS : 1 + 3 * (k : Int) = (S : Int) := by omega
  have hk16 : k ≤ 16 := by omega
  have hk0 : 1 ≤ k := by omega
  by_cases h2 : n < S
  · have d5 : decide ((n : Int) < (S : Int)) = true := by simp; omega
    have d5' : decide (n < S) = true := by simp; omega
    obtain rfl : E = ([], 131) := Hno.out (by rw [HQ.out]; omega)
    clear hk hS
    go_wp2
    go_ret2
    exact ⟨_, rfl, World.ownsRow_nil _ _ _ _, Below.refl _ _⟩
  have d5 : decide ((n : Int) < (S : Int)) = false := by simp; omega
  have d5' : decide (n < S) = false := by simp; omega
  have HQ2 : Hid (plQ l) := Lib.hid (by rw [HQ.out]; omega)
  have hSn : S ≤ n := by omega
  have Hk : Hid (S = 1 + 3 * k ∧ lq l 0 + 1 = k) := Lib.hid ⟨hS.symm, by rw [Hy.out]; exact hk⟩
  have hQl : 1 + 3 * (lq l 0 + 1) ≤ l.length := by rw [Hk.out.2, Hn.out, ← Hk.out.1]; exact hSn
  have hKl := plK_len hQl
  rw [Hk.out.2] at hKl
  have HKl := Lib.hid hKl
  have HKa := Lib.hid (fun (j : Nat) (hj : j < k) => plK_at hQl (j := j) (by rw [Hk.out.2]; exact hj))
  have hgw : g < w.heap.size := World.block_lt_of_cell? _ _ (Hcell.out 0 (by rw [Hn.out]; omega))
  have Hgw := Lib.hid hgw
  have HSS := Lib.hid eS
  obtain ⟨nf, hj0, hj1, hj2, hj3⟩ := info_parts pxv_info
  clear hk hS HQ h1 h2 hQl hKl hgw
  go_wp2_with fail
  go_loopw [7, 8] (fun ov iv wr => ∃ (i q : Nat), iv = .int .i64 (i : Int) ∧ i ≤ k ∧ q ≤ 16 ∧ Hid (q = i) ∧ Hid (wr.ownsRow w.heap.size 35 1 ov q (((plK l).take i).map pxv)) ∧ Hid (Below w.heap.size w wr)) (fun _ iv _ => k - (intOf iv).toNat)
  case atStart => exact ⟨0, 0, rfl, Nat.zero_le _, by omega, Lib.hid rfl, Lib.hid (World.ownsRow_nil _ _ _ _), Lib.hid (Below.refl _ _)⟩
  case round =>
    obtain ⟨i, q, rfl, hi, hq, HQq, HO, HB⟩ := hrel
    obtain ⟨vp, vc, rfl⟩ := owns_slice HO.out
    by_cases hin : i < k
    · have d6 : decide ((i : Int) < (k : Int)) = true := by simp; omega
      have hlj : 1 + 3 * i + 2 < l.length := by rw [Hn.out]; have := Hk.out.1; omega
      have x1 := cell_later HB.out (Hcell.out (1 + 3 * i) (by omega))
      have x2 := cell_later HB.out (Hcell.out (1 + 3 * i + 1) (by omega))
      have x3 := cell_later HB.out (Hcell.out (1 + 3 * i + 2) (by omega))
      have Hat := HKa.out i hin
      have y0b := H8.out (1 + 3 * i)
      have y1b := H8.out (1 + 3 * i + 1)
      have y2b := H8.out (1 + 3 * i + 2)
      generalize lq l (1 + 3 * i) = y0 at *
      generalize lq l (1 + 3 * i + 1) = y1 at *
      generalize lq l (1 + 3 * i + 2) = y2 at *
      obtain ⟨t, ht⟩ : ∃ t, 3 * i = t := ⟨_, rfl⟩
      obtain ⟨a1, ha1⟩ : ∃ a, 1 + 3 * i = a := ⟨_, rfl⟩
      obtain ⟨a2, ha2⟩ : ∃ a, 1 + 3 * i + 1 = a := ⟨_, rfl⟩
      obtain ⟨a3, ha3⟩ : ∃ a, 1 + 3 * i + 2 = a := ⟨_, rfl⟩
      rw [ha1] at x1
      rw [ha2] at x2
      rw [ha3] at x3
      have f0 : 3 * (i : Int) = (t : Int) := by omega
      have f1 : 1 + (t : Int) = (a1 : Int) := by omega
      have f2 : 2 + (t : Int) = (a2 : Int) := by omega
      have f3 : 3 + (t : Int) = (a3 : Int) := by omega
      have a1n : a1 < n := by rw [Hn.out] at hlj; omega
      have a2n : a2 < n := by rw [Hn.out] at hlj; omega
      have a3n : a3 < n := by rw [Hn.out] at hlj; omega
      have k1 : (0 : Int) ≤ (a1 : Int) := by omega
      have k2 : (a1 : Int) < (n : Int) := by omega
      have k3 : (0 : Int) ≤ (a2 : Int) := by omega
      have k4 : (a2 : Int) < (n : Int) := by omega
      have k5 : (0 : Int) ≤ (a3 : Int) := by omega
      have k6 : (a3 : Int) < (n : Int) := by omega
      have b0 : IntKind.i64.wrap (t : Int) = (t : Int) := IntWalk.i64_in _ (by omega)
      have b1 : IntKind.i64.wrap (a1 : Int) = (a1 : Int) := IntWalk.i64_in _ (by omega)
      have b2 : IntKind.i64.wrap (a2 : Int) = (a2 : Int) := IntWalk.i64_in _ (by omega)
      have b3 : IntKind.i64.wrap (a3 : Int) = (a3 : Int) := IntWalk.i64_in _ (by omega)
      have wu : ∀ v : Int, 0 ≤ v → v < 4294967296 → IntKind.u32.wrap v = v := fun v h1 h2 => by rw [IntKind.wrap_u32]; omega
      have ww1 := wu (y0 : Int) (by omega) (by omega)
      have ww2 := wu (y1 : Int) (by omega) (by omega)
      have ww3 := wu (y2 : Int) (by omega) (by omega)
      have ww4 := wu ((y0 : Int) * 65536) (by omega) (by omega)
      have ww5 := wu ((y1 : Int) * 256) (by omega) (by omega)
      have ww6 := wu ((y0 : Int) * 65536 + (y1 : Int) * 256) (by omega) (by omega)
      obtain ⟨z, hz⟩ : ∃ z, y0 * 65536 + y1 * 256 + y2 = z := ⟨_, rfl⟩
      have hzz : (y0 : Int) * 65536 + (y1 : Int) * 256 + (y2 : Int) = (z : Int) := by omega
      have ww7 := wu (z : Int) (by omega) (by omega)
      rw [hz] at Hat
      have HAt := Lib.hid Hat
      have hs1 := HB.out.size
      clear ht ha1 ha2 ha3 hz wu Hat hlj
      go_wp2_with fail
      obtain ⟨C, hC⟩ : ∃ C : World → Prop, C = fun w' => Turns (fun b => (Value.slice vp q vc).ownBlock = some b) wr w' := ⟨_, rfl⟩
      have hCst : StaysC C := by
        rw [hC]
        exact fun w w' h hb => h.trans (Turns.of_below' hb)
      have hCi : ∀ w, C w → Turns (fun b => (Value.slice vp q vc).ownBlock = some b) wr w := by
        rw [hC]
        exact fun _ h => h
      have hgn : ∀ b, (Value.slice vp q vc).ownBlock = some b → b ≠ g := fun b h e => by have := (HO.out.lt b h).1; have := Hgw.out; omega
      have q1 : ∀ n : InC C, n.world.cell? ⟨g, off + a1, none⟩ = some (.int .u8 (y0 : Int)) := fun n => (hCi _ n.ok).cell x1 (fun h => hgn _ h rfl)
      have q2 : ∀ n : InC C, n.world.cell? ⟨g, off + a2, none⟩ = some (.int .u8 (y1 : Int)) := fun n => (hCi _ n.ok).cell x2 (fun h => hgn _ h rfl)
      have q3 : ∀ n : InC C, n.world.cell? ⟨g, off + a3, none⟩ = some (.int .u8 (y2 : Int)) := fun n => (hCi _ n.ok).cell x3 (fun h => hgn _ h rfl)
      have hC2 : C wr := by rw [hC]; exact Turns.refl _ _
      have hK0 : StaysC (fun w => Below wr.heap.size wr w) := fun w w' h hb => h.trans (hb.mono h.size)
      have hqq : Nonempty (InC C) := ⟨⟨wr, hC2⟩⟩
      have HC := Lib.hid hC
      have HCi := Lib.hid hCi
      clear hC hCi x0 x1 x2 x3 hgn
      refine wp_region_chainT 26 28 C (fun w => Below wr.heap.size wr w) (by kernel_rfl) (by decide) (by kernel_rfl) (by kernel_rfl) (by kernel_rfl) hCst hC2 hK0 (Below.refl _ _) ?_
      repeat (refine LqC_on (fun K hK => ?_); go_simp; (refine hK _ ?_; clear hK K))
      refine LqC_nil ?_
      simp only [List.take_succ_cons, List.take_zero, List.drop_succ_cons, List.drop_zero]
      refine ChC_build rfl 1 #[.int .u32 (z : Int)] 35 ?hrun hCst hK0 (fun sv => ?_)
      case hrun =>
        intro w'
        first
          | rfl
          | (go_simp; done)
          | kernel_rfl
      refine ChC_append rfl (.tmp 46) (.tmp 72) 22 rfl w.heap.size 35 nf _ 1 4 Try.underlying22 hj0 hj1 hj2 hj3 rfl (by decide) (.slice vp q vc) q (((plK l).take i).map pxv) rfl sv 1 [.int .u32 (z : Int)] rfl rfl ?c2 ?c3 ?c4 ?hin wr.heap.size ?hZ ?hCa (fun v' => ?_)
      case c2 => intro u hu; simp at hu; subst hu; rfl
      case c3 => simp only [maxLen]; omega
      case c4 => omega
      case hin =>
        rintro w' - ⟨hk, B, e1, e2⟩
        refine ⟨(Turns.of_below' (T := fun _ => False) hk).owns HO.out (fun _ _ h => h), Nat.le_trans hs1 hk.size, _, _, e1, .inr ⟨_, rfl, World.news_of_block e2⟩⟩
      case hZ => exact fun w' hw => (HCi.out w' hw).size
      case hCa =>
        intro w' w'' hw _ hg
        rw [HC.out] at hw ⊢
        exact hw.trans (Turns.of_grown hg (fun _ h => h))
      intro w4 hw4 hk4
      obtain ⟨ho4, hp4⟩ := hk4
      have ht4 := HCi.out w4 hw4
      have Ho4 : Hid (w4.ownsRow w.heap.size 35 1 v' (q + 1) (((plK l).take (i + 1)).map pxv)) := Lib.hid (by
        rw [HAt.out, List.map_append]
        exact ho4)
      have Hb4 := Lib.hid (HB.out.trans (ht4.below hs1 (fun b hb => (HO.out.lt b hb).1)))
      have HQ4 : Hid (q + 1 = i + 1) := Lib.hid (by rw [HQq.out])
      have hq1 : q + 1 ≤ 16 := by have := HQq.out; omega
      clear ho4 ht4 hp4 hw4 hCst hC2 hK0 hqq q1 q2 q3 f0 f1 f2 f3 b0 b1 b2 b3 ww1 ww2 ww3 ww4 ww5 ww6 ww7 hzz
      go_simp
      go_wp2
      go_roundw
      case rel => exact ⟨i + 1, q + 1, by go_num, by omega, hq1, HQ4, Ho4, Hb4⟩
      case measure => simp [intOf]; omega
    · obtain rfl : i = k := by omega
      have d6 : decide ((i : Int) < (i : Int)) = false := by simp
      obtain ⟨p', c', hsl, hr1, hc1, hc2, hpn⟩ := slice_tail8 (Hp.out.below HB.out) Hn.out hSn hlc
      obtain ⟨R, hR⟩ : ∃ R, l.drop S = R := ⟨_, rfl⟩
      have hRl : R.length = n - S := by rw [← hR, List.length_drop, Hn.out]
      have hR8 : ∀ x ∈ R, x < 256 := fun x hx => H8'.out x (by rw [← hR] at hx; exact List.mem_of_mem_drop hx)
      rw [hR] at hr1
      have hRw : Rw8 wr (.slice p' (n - S) c') R := ⟨⟨p', c', by rw [hRl], by rw [hRl]; exact hc1, Nat.le_trans hc2 Hc63.out, hr1⟩, fun c0 e => by
        injection e with e1 e2 e3
        exact absurd e1 hpn⟩
      have Hof := Lib.hid (refOf_any (.slice p' (n - S) c') R wr hRw hR8 (by omega))
      have HRe : Hid (l.drop (1 + 3 * (lq l 0 + 1)) = R) := Lib.hid (by rw [Hk.out.2, ← Hk.out.1]; exact hR)
      have HR8 := Lib.hid hR8
      have Hcs : Hid (((plK l).take i).map pxv = (plK l).map pxv ∧ q = i) := Lib.hid ⟨by rw [List.take_of_length_le (by rw [HKl.out]; exact Nat.le_refl _)], HQq.out⟩
      have HOc : Hid (wr.ownsRow w.heap.size 35 1 (.slice vp q vc) q ((plK l).map pxv)) := Lib.hid (by rw [← Hcs.out.1]; exact HO.out)
      have hz4 := plZ_le i
      have hSz := fun W => refSize_any i W (by omega)
      have hnone := fun (h : plP (plK l) R M = none) => plD_none HN.out HQ2.out (by rw [HRe.out]; exact h)
      have hsome := fun (L : List Nat) (h : plP (plK l) R M = some L) => plD_some HN.out HQ2.out (by rw [HRe.out]; exact h)
      rw [HE.out] at hnone hsome
      have hfew := fun h => plP_few (cs := plK l) (r := R) (N := M) h
      have hwide := fun j hj h => plP_wide (cs := plK l) (r := R) (N := M) (i := j) hj h
      have htail := fun h => plP_tail (cs := plK l) (r := R) (N := M) hR8 h
      have hall := fun h1 h2 h3 => plP_all (cs := plK l) (r := R) (N := M) hR8 h1 h2 h3
      have HGl := Lib.hid (plG_len R (plZ i) M)
      have HGa := Lib.hid (fun j (hj : j < M) => plG_at R (plZ i) M j (by rw [plG_len]; exact hj))
      rw [HKl.out] at hfew hwide htail hall
      obtain ⟨s, hs⟩ : ∃ s, plZ i = s := ⟨_, rfl⟩
      have hzp := plZ_pow (k := i) (by omega)
      rw [hs] at hz4 hSz hfew hwide htail hall HGl HGa
      have HSz := Lib.hid hSz
      have Hnone := Lib.hid hnone
      have Hsome := Lib.hid hsome
      have Hfew := Lib.hid hfew
      have Hwide := Lib.hid hwide
      have Htail := Lib.hid htail
      have Hall := Lib.hid hall
      obtain ⟨LL, hLL⟩ : ∃ LL, (plG R s M).map (fun v => (plK l).getD v 0) = LL := ⟨_, rfl⟩
      rw [hLL] at Hall
      have hLlen : LL.length = M := by rw [← hLL, List.length_map, HGl.out]
      have hLat : ∀ j, j < M → LL.take (j + 1) = LL.take j ++ [(plK l).getD (numB R / 2 ^ (s * j) % 2 ^ s) 0] := fun j hj => by
        rw [List.take_succ_eq_append_getElem (by rw [hLlen]; exact hj)]
        congr 2
        have : LL[j]? = some ((plK l).getD (numB R / 2 ^ (s * j) % 2 ^ s) 0) := by
          rw [← hLL, List.getElem?_map, List.getElem?_eq_getElem (by rw [HGl.out]; exact hj), HGa.out j hj]
          rfl
        rw [List.getElem?_eq_getElem (by rw [hLlen]; exact hj)] at this
        injection this
      have HLlen := Lib.hid hLlen
      have HLat := Lib.hid hLat
      have hsM : M * s ≤ 262144 := by
        have : M * s ≤ 65536 * 4 := Nat.mul_le_mul hM hz4
        omega
      obtain ⟨T, hT⟩ : ∃ t, M * s = t := ⟨_, rfl⟩
      have hTi : (M : Int) * (s : Int) = (T : Int) := by rw [← hT]; simp
      have HT : Hid (M * s = T ∧ s * M = T) := Lib.hid ⟨hT, by rw [Nat.mul_comm]; exact hT⟩
      rw [hT] at hsM
      have Hofl := Lib.hid (ofB_len R)
      have Hofn := Lib.hid (numL_ofB R hR8)
      obtain ⟨RL, hRL⟩ : ∃ x, 8 * R.length = x := ⟨_, rfl⟩
      rw [hRL] at Hofl
      have HRL := Lib.hid hRL
      have hRLb : RL ≤ 8388608 := by omega
      have h8s : (8 : Nat) * (n - S) = RL := by omega
      clear hr1 hRw hR hRl hR8 hc1 hc2 hpn hSz hnone hsome hfew hwide htail hall hs hzp hLL hLlen hLat hT hRL HO h8s
      go_wp2_with fail
      refine Calls.mono Hof.out ?_
      rintro _ w2 ⟨u, rfl, hou, hb2⟩
      have Hou := Lib.hid hou.rw
      obtain ⟨rp, rc, hu⟩ := owns_slice hou
      rw [Hofl.out] at hu
      subst hu
      have Hb2 := Lib.hid (Below.thn HB.out hb2)
      have HO2 := Lib.hid ((Turns.of_below' (T := fun _ => False) hb2).owns HOc.out (fun _ _ h => h))
      clear hou hb2 Hof
      go_wp2_with fail
      refine Calls.mono (HSz.out _) ?_
      rintro _ w3 ⟨rfl, rfl⟩
      have hRL := HRL.out
      have hMs := HT.out.1
      by_cases h1 : RL < T
      · have d7 : decide ((RL : Int) < (T : Int)) = true := by simp; omega
        have d7' : decide (RL < T) = true := by simp; omega
        have he : E = ([], 131) := Hnone.out (Hfew.out (by omega))
        subst he
        clear hRL hMs
        go_wp2
        go_ret2
        exact ⟨_, rfl, World.ownsRow_nil _ _ _ _, Hb2.out⟩
      have d7 : decide ((RL : Int) < (T : Int)) = false := by simp; omega
      have d7' : decide (RL < T) = false := by simp; omega
      by_cases h2 : 7 < RL - T
      · have d8 : decide ((RL : Int) - (T : Int) > 7) = true := by simp; omega
        have he : E = ([], 131) := Hnone.out (Hfew.out (by omega))
        subst he
        clear hRL hMs
        go_wp2
        go_ret2
        exact ⟨_, rfl, World.ownsRow_nil _ _ _ _, Hb2.out⟩
      have d8 : decide ((RL : Int) - (T : Int) > 7) = false := by simp; omega
      have Hfit : Hid (R.length = (M * s + 7) / 8) := Lib.hid (by omega)
      have hTR : T ≤ RL := by omega
      obtain ⟨vpc, hvq⟩ : ∃ x, q = x := ⟨_, rfl⟩
      have hqk : q = i := Hcs.out.2
      subst hqk
      have Hcc : Hid (∀ W, Below w3.heap.size w3 W → ∀ v, v < q → ∃ g off, vp = some ⟨g, off, none⟩ ∧ W.cell? ⟨g, off + v, none⟩ = some (.int .u32 ((plK l).getD v 0 : Int))) := Lib.hid (fun W hW v hv => by
        obtain ⟨g', off', e, hc⟩ := (own_rowP HO2.out).at'.1.pxs (by rw [HKl.out]; omega)
        exact ⟨g', off', e, cell_later hW (hc v (by rw [HKl.out]; exact hv))⟩)
      clear hRL hMs h1 h2 hvq
      go_wp2_with fail
      go_loopw [11, 12] (fun ov jv wr => ∃ (j r : Nat), jv = .int .i64 (j : Int) ∧ j ≤ M ∧ r ≤ 65536 ∧ Hid (r = j) ∧ Hid (∀ x, x < j → numB R / 2 ^ (s * x) % 2 ^ s < q) ∧ Hid (wr.ownsRow w3.heap.size 35 1 ov r ((LL.take j).map pxv)) ∧ Hid (Below w3.heap.size w3 wr)) (fun _ jv _ => M - (intOf jv).toNat)
      case atStart => exact ⟨0, 0, rfl, Nat.zero_le _, by omega, Lib.hid rfl, Lib.hid (fun x hx => by omega), Lib.hid (World.ownsRow_nil _ _ _ _), Lib.hid (Below.refl _ _)⟩
      case round =>
        obtain ⟨j, r, rfl, hj, hr, HRj, HV, HOo, HBo⟩ := hrel
        obtain ⟨op, oc, rfl⟩ := owns_slice HOo.out
        by_cases hjM : j < M
        · have d9 : decide ((j : Int) < (M : Int)) = true := by simp; omega
          have hfit2 : s * j + s ≤ (ofB R).length := by
            rw [Hofl.out]
            have h1 : s * (j + 1) ≤ s * M := Nat.mul_le_mul_left _ (by omega)
            rw [Nat.mul_add, Nat.mul_one, HT.out.2] at h1
            omega
          have hOu : RwB wr (.slice rp RL rc) (ofB R) := Hou.out.below HBo.out
          obtain ⟨pb, cb, hslb, hbt⟩ := slice_bits hOu hfit2
          have hnl : s = (((ofB R).drop (s * j)).take s).length := by rw [List.length_take, List.length_drop]; omega
          have hnum := number_len pb cb s (((ofB R).drop (s * j)).take s) wr hnl (by rw [← hnl]; omega) hbt
          rw [numL_seg _ _ _ hfit2, Hofn.out] at hnum
          have hWd := Hwide.out j hjM
          have hLa := HLat.out j hjM
          obtain ⟨v, hv⟩ : ∃ v, numB R / 2 ^ (s * j) % 2 ^ s = v := ⟨_, rfl⟩
          rw [hv] at hnum hWd hLa
          have Hv := Lib.hid hv
          have hv16 : v < 16 := by
            rw [← hv]
            have h1 := Nat.mod_lt (numB R / 2 ^ (s * j)) (pow_pos' s)
            have h2 : 2 ^ s ≤ 2 ^ 4 := Nat.pow_le_pow_right (by decide) hz4
            omega
          have Hnum := Lib.hid hnum
          have HWd := Lib.hid hWd
          have HLa := Lib.hid hLa
          have hajs : s * j ≤ 262144 := by
            have h1 : s * j ≤ s * M := Nat.mul_le_mul_left _ (by omega)
            have := HT.out.2
            omega
          obtain ⟨a, ha⟩ : ∃ a, s * j = a := ⟨_, rfl⟩
          obtain ⟨b, hb⟩ : ∃ b, a + s = b := ⟨_, rfl⟩
          rw [ha] at hslb hajs
          rw [hb] at hslb
          have f1 : (j : Int) * (s : Int) = (a : Int) := by rw [← ha, Nat.mul_comm]; simp
          have f2 : (a : Int) + (s : Int) = (b : Int) := by omega
          have b1 : IntKind.i64.wrap (a : Int) = (a : Int) := IntWalk.i64_in _ (by omega)
          have b2 : IntKind.i64.wrap (b : Int) = (b : Int) := IntWalk.i64_in _ (by omega)
          have b3 : IntKind.i64.wrap (v : Int) = (v : Int) := IntWalk.i64_in _ (by omega)
          clear hfit2 hOu hbt hnl hnum hWd hLa hv ha hb
          go_wp2_with fail
          refine Calls.mono (HSz.out _) ?_
          rintro _ w4 ⟨rfl, rfl⟩
          go_wp2_with fail
          refine Calls.mono (HSz.out _) ?_
          rintro _ w4 ⟨rfl, rfl⟩
          go_wp2_with fail
          refine Calls.mono (HSz.out _) ?_
          rintro _ w4 ⟨rfl, rfl⟩
          go_wp2_with fail
          refine Calls.mono Hnum.out ?_
          rintro _ w5 ⟨rfl, rfl⟩
          clear hslb f1 f2 b1 b2
          by_cases hvk : q ≤ v
          · have d10 : decide ((v : Int) ≥ (q : Int)) = true := by simp; omega
            have he : E = ([], 131) := Hnone.out (HWd.out hvk)
            subst he
            have Hb5 := Lib.hid (Below.thn Hb2.out HBo.out)
            go_wp2
            go_ret2
            exact ⟨_, rfl, World.ownsRow_nil _ _ _ _, Hb5.out⟩
          · have d10 : decide ((v : Int) ≥ (q : Int)) = false := by simp; omega
            obtain ⟨gc, offc, rfl, x0⟩ := Hcc.out _ HBo.out v (by omega)
            obtain ⟨z, hz⟩ : ∃ z, (plK l).getD v 0 = z := ⟨_, rfl⟩
            rw [hz] at x0 HLa
            have k0 : (0 : Int) ≤ (v : Int) := by omega
            have k1 : (v : Int) < (q : Int) := by omega
            have hs1 := HBo.out.size
            have HV2 : Hid (∀ x, x < j + 1 → numB R / 2 ^ (s * x) % 2 ^ s < q) := Lib.hid (fun x hx => by
              by_cases e : x = j
              · subst e; rw [Hv.out]; omega
              · exact HV.out x (by omega))
            have HRj2 : Hid (r + 1 = j + 1) := Lib.hid (by rw [HRj.out])
            have hr2 : r + 1 ≤ 65536 := by have := HRj.out; omega
            clear hz
            go_wp2_with (at_builtin; refine wpList_append_one w5 rfl (.tmp 118) (.tmp 123) 22 rfl w3.heap.size 35 _ 4 pxv_info Try.underlying22 rfl (.slice op r oc) r ((LL.take j).map pxv) rfl HOo.out (.int .u32 (z : Int)) _ rfl rfl ?m3 ?m4 hs1 ?_)
            case m3 => simp only [maxLen]; omega
            case m4 => omega
            intro g1 cap1 w6 ho1 ht1 hg1
            have Ho1 : Hid (w6.ownsRow w3.heap.size 35 1 (.slice (some ⟨g1, 0, none⟩) (r + 1) cap1) (r + 1) ((LL.take (j + 1)).map pxv)) := Lib.hid (by
              rw [HLa.out, List.map_append]
              simpa [pxv] using ho1)
            have HB6 := Lib.hid (HBo.out.trans (ht1.below hs1 (fun b hb => (HOo.out.lt b hb).1)))
            clear ho1 ht1 hg1 x0 b3
            go_wp2
            go_roundw
            case rel => exact ⟨j + 1, r + 1, by go_num, by omega, hr2, HRj2, HV2, Ho1, HB6⟩
            case measure => simp [intOf]; omega
        · obtain rfl : j = M := by omega
          have d9 : decide ((j : Int) < (j : Int)) = false := by simp
          have HLt : Hid (LL.take j = LL ∧ r = LL.length) := Lib.hid ⟨List.take_of_length_le (by rw [HLlen.out]; exact Nat.le_refl _), by rw [HLlen.out, HRj.out]⟩
          have Hb5 := Lib.hid (Below.thn Hb2.out HBo.out)
          have HOu := Lib.hid (Hou.out.below HBo.out)
          have HOL : Hid (wr.ownsRow w.heap.size 35 1 (.slice op r oc) LL.length (LL.map pxv)) := Lib.hid (by
            have h := HOo.out
            rw [HLt.out.1] at h
            rw [← HLt.out.2]
            exact owns_base h Hb2.out.size)
          go_wp2_with fail
          go_loopw [14] (fun xv wq => ∃ x : Nat, xv = .int .i64 (x : Int) ∧ T ≤ x ∧ x ≤ RL ∧ Hid (∀ t, T ≤ t → t < x → ∀ h : t < (ofB R).length, (ofB R)[t] = false) ∧ wq = wr) (fun xv _ => RL - (intOf xv).toNat)
          case atStart => exact ⟨T, rfl, Nat.le_refl _, hTR, Lib.hid (fun t h1 h2 => by omega), rfl⟩
          case round =>
            obtain ⟨x, rfl, hx1, hx2, HF, rfl⟩ := hrel
            by_cases hxR : x < RL
            · have d11 : decide ((x : Int) < (RL : Int)) = true := by simp; omega
              obtain ⟨pb, cb, e, -, -, hcl⟩ := RwB.cells HOu.out
              injection e with e1 e2 e3
              subst e1
              clear e2 e3
              have hxl : x < (ofB R).length := by rw [Hofl.out]; exact hxR
              obtain ⟨gb, offb, rfl, x0⟩ := hcl x hxl
              have k0 : (0 : Int) ≤ (x : Int) := by omega
              have k1 : (x : Int) < (RL : Int) := by omega
              obtain ⟨bb, hbb⟩ : ∃ bb, (ofB R)[x] = bb := ⟨_, rfl⟩
              rw [hbb] at x0
              cases bb with
              | true =>
                have he : E = ([], 131) := Hnone.out (Htail.out ⟨x, by rw [HT.out.2]; exact hx1, hxl, hbb⟩)
                subst he
                clear hcl hbb
                go_wp2
                go_ret2
                exact ⟨_, rfl, World.ownsRow_nil _ _ _ _, Hb5.out⟩
              | false =>
                have HF2 : Hid (∀ t, T ≤ t → t < x + 1 → ∀ h : t < (ofB R).length, (ofB R)[t] = false) := Lib.hid (fun t h1 h2 h => by
                  by_cases e : t = x
                  · subst e; exact hbb
                  · exact HF.out t h1 (by omega) h)
                clear hcl hbb
                go_wp2
                go_roundw
                case rel => exact ⟨x + 1, by go_num, by omega, by omega, HF2, by trivial⟩
                case measure => simp [intOf]; omega
            · obtain rfl : x = RL := by omega
              have d11 : decide ((x : Int) < (x : Int)) = false := by simp
              have he : E = (LL, 0) := Hsome.out LL (Hall.out Hfit.out HV.out (fun t h1 h2 => HF.out t (by rw [← HT.out.2]; exact h1) (by rw [Hofl.out] at h2; exact h2) h2))
              subst he
              go_wp2
              go_ret2
              exact ⟨_, rfl, HOL.out, Hb5.out⟩

end Go.Proofs.Ytonhcdhlinlncaa
