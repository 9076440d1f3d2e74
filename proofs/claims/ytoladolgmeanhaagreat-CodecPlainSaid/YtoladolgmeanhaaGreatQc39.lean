/- codec: readPlain. -/
import Derived.Test.YtoladolgmeanhaaGreatQc34
import Derived.Test.YtoladolgmeanhaaGreatQc38
namespace Go.Proofs.YtoladolgmeanhaaGreat
open Go.RowKit

attribute [local go_sem] Oper.semAt_some

theorem make_px (n : Nat) (hn : n ≤ 1048576) (w : World) : (Instr.makeSlice 22 (.int .i64 0) (.int .i64 (n : Int))).run Tryz.prog w = .ok (.slice (some ⟨w.heap.size, 0, none⟩) 0 n) (w.alloc (.cells (madeCells #[.int .u32 0] n) 41)) := by
  obtain ⟨i, hi, hz, hs, hb⟩ := info_parts pxv_info
  have h := run_make (P := Tryz.prog) w 22 41 i _ Tryz.underlying22 hi hz .i64 .i64 0 (n : Int) (by omega) (by omega) (by rw [hb]; omega) (by omega)
  rw [h]
  simp only [Int.toNat_natCast, Int.toNat_zero, hs, Nat.mul_one]
  rfl
theorem plTri_snoc {b : List Nat} {k j : Nat} (hb : b.length = 3 * k) (hj : j < k) : (plTri b).take (j + 1) = (plTri b).take j ++ [lq b (3 * j) * 65536 + lq b (3 * j + 1) * 256 + lq b (3 * j + 2)] := by
  rw [List.take_add_one, plTri_at j b (by omega)]
  rfl
set_option maxRecDepth 100000 in
set_option maxHeartbeats 8000000 in
theorem creadPlain_any (p : Option Addr) (c : Nat) (l : List Nat) (k : Nat) (w : World) (hp : RowAt enc8 1 w p l) (h8 : ∀ x ∈ l, x < 256) (hl : l.length ≤ 1048576) (hlc : l.length ≤ c) (hk1 : 1 ≤ k) (hk : k ≤ 65536) :
    Calls Tryz.prog 33 #[.slice p l.length c, .int .i64 (k : Int)] w fun e w' => Below w.heap.size w w' ∧ ((l.length ≠ 3 * k ∧ e = .returned (.tuple #[.slice none 0 0, .int .i64 131])) ∨ (l.length = 3 * k ∧ ∃ v, e = .returned (.tuple #[v, .int .i64 0]) ∧ w'.ownsRow w.heap.size 41 1 v (plTri l).length ((plTri l).map pxv))) := by
  have Hp := Lib.hid hp
  have H8 : Hid (∀ i, lq l i < 256) := Lib.hid (fun i => by
    unfold lq
    rw [List.getD_eq_getElem?_getD]
    cases h : l[i]? with
    | none => decide
    | some x => exact h8 x (List.mem_of_getElem? h))
  obtain ⟨n, hn⟩ : ∃ n, l.length = n := ⟨_, rfl⟩
  have Hn := Lib.hid hn
  rw [hn] at hl hlc ⊢
  clear hp h8 hn
  refine (callsIn_wide (n := 0)).1 ?_
  refine callsIn_of_wp_marks Tryz.func33 rfl trivial ?_ rfl
  simp only [Tryz.ntmps33, List.size_toArray, List.length_cons, List.length_nil, Nat.reduceAdd, Nat.reduceSub, Array.replicate_succ, Array.replicate_zero, List.push_toArray, List.append_toArray, List.nil_append, List.cons_append]
  refine wpIn_wide.2 ?_
  by_cases h3 : n = 3 * k
  case neg =>
    have hw0 : IntKind.i64.wrap ((k : Int) * 3) = (k : Int) * 3 := IntWalk.i64_in _ (by omega)
    have d0 : ((n : Int) != (k : Int) * 3) = true := by simp; omega
    go_wp2
    refine ⟨_, results_tmp2 rfl _ _ _, Below.refl _ _, .inl ⟨h3, rfl⟩⟩
  have hw0 : IntKind.i64.wrap ((k : Int) * 3) = (n : Int) := by rw [h3]; exact (IntWalk.i64_in _ (by omega)).trans (by omega)
  have he3 : (k : Int) * 3 = (n : Int) := by omega
  have d0 : ((n : Int) != (n : Int)) = false := by simp
  obtain ⟨g, off, rfl, hcell⟩ := Hp.out.bytes (by rw [Hn.out]; omega)
  have Hcell := Lib.hid hcell
  have Hg0 := Lib.hid (World.block_lt_of_cell? _ _ (hcell 0 (by rw [Hn.out]; omega)))
  have hmk := fun w => make_px k (by omega) w
  have hwk : IntKind.i64.wrap (k : Int) = (k : Int) := IntWalk.i64_in _ (by omega)
  have HC := Lib.hid (fun W => chunk_made8 (some ⟨g, off, none⟩) n c 3 W (by decide))
  have H3 := Lib.hid h3
  clear hcell h3
  go_wp2_with fail
  have hz1 := World.alloc_heap_new (w.alloc (.cells (madeCells #[.int .u32 0] k) 41)) (.cells #[.slice (some ⟨w.heap.size, 0, none⟩) 0 k] 22)
  rw [World.size_alloc] at hz1
  have hb2 := Below.al2 w (.cells (madeCells #[.int .u32 0] k) 41) (.cells #[.slice (some ⟨w.heap.size, 0, none⟩) 0 k] 22)
  have hs2 : ((w.alloc (.cells (madeCells #[.int .u32 0] k) 41)).alloc (.cells #[.slice (some ⟨w.heap.size, 0, none⟩) 0 k] 22)).heap.size = w.heap.size + 1 + 1 := by simp
  have ho2 : ((w.alloc (.cells (madeCells #[.int .u32 0] k) 41)).alloc (.cells #[.slice (some ⟨w.heap.size, 0, none⟩) 0 k] 22)).ownsRow w.heap.size 41 1 (.slice (some ⟨w.heap.size, 0, none⟩) 0 k) 0 [] := (World.ownsRow_made w _ k (Nat.le_refl _) (by simp only [maxLen]; omega) (by simp [size_madeCells])).alloc _
  generalize (w.alloc (.cells (madeCells #[.int .u32 0] k) 41)).alloc (.cells #[.slice (some ⟨w.heap.size, 0, none⟩) 0 k] 22) = W1 at *
  have Hb1 := Lib.hid hb2
  obtain ⟨Z, hZ⟩ : ∃ b, w.heap.size = b := ⟨_, rfl⟩
  have HZ := Lib.hid hZ
  rw [hZ] at hz1 hs2 Hg0 ⊢
  have Hz1 := Lib.hid hz1
  have Ho2 : Hid (W1.ownsRow Z 41 1 (.slice (some ⟨Z, 0, none⟩) 0 k) 0 []) := Lib.hid (by rw [← hZ]; exact ho2)
  clear hz1 hb2 ho2 hmk hwk hw0
  refine Calls.mono (HC.out W1) ?_
  rintro _ u4 ⟨rfl, rfl⟩
  obtain ⟨m0, hm0⟩ : ∃ b, Z + 1 = b := ⟨_, rfl⟩
  have hs1 : W1.heap.size = m0 + 1 := by rw [hs2, hm0]
  have hal := Below.al2 W1 (.cells #[.slice (some ⟨g, off, none⟩) n c] 25) (.cells #[.int .i64 ((3 : Nat) : Int)] 3)
  have hg := heap_pushed [.cells #[.slice (some ⟨g, off, none⟩) n c] 25, .cells #[.int .i64 ((3 : Nat) : Int)] 3] W1
  simp only [List.foldl_cons, List.foldl_nil] at hg
  have hsz : ((W1.alloc (.cells #[.slice (some ⟨g, off, none⟩) n c] 25)).alloc (.cells #[.int .i64 ((3 : Nat) : Int)] 3)).heap.size = m0 + 3 := by simp [hs1]
  generalize (W1.alloc (.cells #[.slice (some ⟨g, off, none⟩) n c] 25)).alloc (.cells #[.int .i64 ((3 : Nat) : Int)] 3) = W4 at *
  rw [hs1] at hg ⊢
  have k3 : W4.cell? ⟨m0 + 1, 0, none⟩ = some (.slice (some ⟨g, off, none⟩) n c) := cell_heap ((hg 0 _).2 rfl) rfl
  have k4 : W4.cell? ⟨m0 + 1 + 1, 0, none⟩ = some (.int .i64 ((3 : Nat) : Int)) := cell_heap ((hg 1 _).2 rfl) rfl
  have hz1 := Hz1.out
  rw [hm0] at hz1 ⊢
  have hk2 := (hal.block m0 (by omega)).trans hz1
  have k2 : W4.cell? ⟨m0, 0, none⟩ = some (.slice (some ⟨Z, 0, none⟩) 0 k) := cell_heap hk2 rfl
  have f2 : W4.frozen? ⟨m0, 0, none⟩ = false := by simp [World.frozen?, hk2]
  have Hm0 := Lib.hid hm0
  obtain ⟨K, hK⟩ : ∃ K : Nat → Prop, K = fun b => b ≠ Z ∧ b < m0 + 5 := ⟨_, rfl⟩
  have HK := Lib.hid hK
  have HKn : Hid (K (m0 + 3) ∧ K (m0 + 3 + 1)) := Lib.hid (by rw [hK]; constructor <;> constructor <;> omega)
  have hBw := Below.thn Hb1.out hal
  have HBw : Hid (Below Z w W4) := Lib.hid (by rw [← HZ.out]; exact hBw)
  have hI0 : OwnL 41 w m0 (m0 + 3) Z (fun _ => False) K (fun _ => False) [] W4 := ⟨⟨_, k2, (Turns.of_below' (T := fun _ => False) hal).owns Ho2.out (fun _ _ h => h), fun b hb => by
    cases hb
    exact ⟨fun h => h, fun h => by rw [hK] at h; exact h.1 rfl, .inr (by rw [HZ.out]; exact Nat.le_refl _)⟩⟩, f2, by omega, Turns.of_below' hBw⟩
  have HIt := chunk_iter8 (m0 + 1) (m0 + 1 + 1) (some ⟨g, off, none⟩) n 3 c W4 (fun b => b = m0 + 1 ∨ b = m0 + 1 + 1) k3 k4 (fun _ => ⟨g, off, rfl⟩) (by omega) (by decide) (by decide) (by omega) (fun b hb => by rcases hb with rfl | rfl <;> omega) (.inl rfl) (.inr rfl)
  rw [H3.out, chL_thr] at HIt
  have HIt := Lib.hid HIt
  clear hg hal hk2 k2 k3 k4 f2 hz1 HC hs1 hK hBw
  go_wp2_with fail
  refine (wpIn_wide (n := 0)).1 ?_
  refine wpIn_rangeFunc_turns (gf := 93) (El := ElCh (some ⟨g, off, none⟩)) (xs := (List.range k).map fun j => (3 * j, 3)) (w0 := W4) ?hg ?eg HIt.out ?hs0 ?hRr ?hps
    (fun pre T W' => OwnL 41 w m0 (m0 + 3) Z (fun _ => False) K T (((plTri l).take pre.length).map pxv) W') (fun _ _ _ _ => False) ?start
    (fun vs => { tmps := #[.slice (some ⟨g, off, none⟩) n c, .int .i64 (k : Int), undef, undef, .slice none 0 0, .int .i64 0, .pointer (some ⟨m0, 0, none⟩), vs.getD 0 undef, .slice (some ⟨g, off, none⟩) n c, .int .i64 (n : Int), .int .i64 (k : Int), .int .i64 (n : Int), .bool false, .int .i64 (k : Int), .slice (some ⟨Z, 0, none⟩) 0 k, .slice (some ⟨g, off, none⟩) n c, .func (.func 93) #[] #[.pointer (some ⟨m0 + 1, 0, none⟩), .pointer (some ⟨m0 + 1 + 1, 0, none⟩)], vs.getD 0 undef, undef, undef, undef, undef, undef, undef, undef, undef, undef, undef, undef, undef, undef, undef, undef, undef, undef, undef, undef, undef], defers := [] }) ?assign ?body ?done ?stop
  case hg => rfl
  case eg => exact fun _ _ => rfl
  case hs0 => exact Nat.le_refl _
  case hRr => exact fun q hq => ⟨by rcases hq with rfl | rfl <;> omega, rfl⟩
  case hps =>
    rintro _ _ _ x _ ⟨_, _, _, h⟩
    rw [h]; rfl
  case start => exact hI0
  case assign =>
    intro l vs W' K hvs hK
    obtain ⟨v0, rfl⟩ := size_one hvs
    gi_wp2
    first
      | exact hK
      | simpa using hK
      | simpa [Array.zip, Array.zipWith] using hK
  case stop => exact fun _ _ _ _ _ _ h => h.elim
  case body =>
    rintro pre x rest Tp T Wq Wp W1' W2 vs hxs hI htqp hsq ht2 hTp hT hT2 hR2 hEl h12 hs12 hLt hL1 hD2 hL2
    obtain ⟨rfl, hjk⟩ := thr_split hxs
    obtain ⟨g', off', e', rfl⟩ := hEl
    cases e'
    simp only [hsz] at ht2 hTp hT2 h12 hLt hL1 hD2 hL2 htqp ⊢
    obtain ⟨⟨vb, v1, v2, v3⟩, v4, v5, v6⟩ := hI.turn ht2 (fun b hb => hb) (fun b hb => (hTp b hb).1) HKn.out (by rw [HZ.out]; omega) hsq (T := T) hT
    obtain ⟨j, hj⟩ : ∃ j, pre.length = j := ⟨_, rfl⟩
    have Hj := Lib.hid hj
    rw [hj] at v2 hjk ⊢
    have hl3 : l.length = 3 * k := by rw [Hn.out]; exact H3.out
    have hKl := plTri_len k l hl3
    have hNl : (((plTri l).take j).map pxv).length = j := by rw [List.length_map, List.length_take, hKl]; omega
    rw [hNl] at v2
    have Hat : Hid ((plTri l).take (j + 1) = (plTri l).take j ++ [lq l (3 * j) * 65536 + lq l (3 * j + 1) * 256 + lq l (3 * j + 2)]) := Lib.hid (plTri_snoc hl3 hjk)
    obtain ⟨vp, vc, rfl⟩ := owns_slice v2
    have hs2 : m0 + 3 + 2 ≤ W2.heap.size := by omega
    have hT4 : ∀ b, T b → m0 + 3 + 1 < b := fun b hb => (hT2 b hb).1
    have hBw2 : Below Z w W2 := v6.below (by rw [HZ.out]; exact Nat.le_refl _) (fun _ h => h.elim)
    have hcl : ∀ i, i < l.length → W2.cell? ⟨g, off + i, none⟩ = some (.int .u8 (lq l i : Int)) := fun i hi => cell_later (by rw [HZ.out]; exact hBw2) (Hcell.out i hi)
    have hlj : 3 * j + 2 < l.length := by rw [hl3]; omega
    have x0 := hcl (3 * j) (by omega)
    have x1 := hcl (3 * j + 1) (by omega)
    have x2 := hcl (3 * j + 2) (by omega)
    have y0b := H8.out (3 * j)
    have y1b := H8.out (3 * j + 1)
    have y2b := H8.out (3 * j + 2)
    generalize lq l (3 * j) = y0 at *
    generalize lq l (3 * j + 1) = y1 at *
    generalize lq l (3 * j + 2) = y2 at *
    obtain ⟨a, ha⟩ : ∃ a, off + 3 * j = a := ⟨_, rfl⟩
    rw [ha] at x0
    rw [show off + (3 * j + 1) = a + 1 by omega] at x1
    rw [show off + (3 * j + 2) = a + 2 by omega] at x2
    have e0 : (#[Value.slice (some ⟨g, off + (3 * j, 3).1, none⟩) (3 * j, 3).2 (3 * j, 3).2] : Array Value).getD 0 undef = .slice (some ⟨g, a, none⟩) 3 3 := by rw [← ha]; rfl
    rw [e0]
    have o1 : bits .or .u32 ((y0 : Int) * 65536) ((y1 : Int) * 256) = (y0 : Int) * 65536 + (y1 : Int) * 256 :=
      bits_join .u32 32 (by decide) (fun n h0 h1 => by rw [IntKind.wrap_u32]; omega) 16 ((y0 : Int) * 65536) ((y1 : Int) * 256) (by omega) (by omega) (by omega) (by omega) (by omega) (by omega)
    have o2 : bits .or .u32 ((y0 : Int) * 65536 + (y1 : Int) * 256) (y2 : Int) = (y0 : Int) * 65536 + (y1 : Int) * 256 + (y2 : Int) :=
      bits_join .u32 32 (by decide) (fun n h0 h1 => by rw [IntKind.wrap_u32]; omega) 8 ((y0 : Int) * 65536 + (y1 : Int) * 256) (y2 : Int) (by omega) (by omega) (by omega) (by omega) (by omega) (by omega)
    obtain ⟨z, hz⟩ : ∃ z, y0 * 65536 + y1 * 256 + y2 = z := ⟨_, rfl⟩
    have hzz : (y0 : Int) * 65536 + (y1 : Int) * 256 + (y2 : Int) = (z : Int) := by omega
    rw [hz] at Hat
    rw [hzz] at o2
    have ww1 : IntKind.u32.wrap (y0 : Int) = (y0 : Int) := by rw [IntKind.wrap_u32]; omega
    have ww2 : IntKind.u32.wrap ((y0 : Int) * 65536) = (y0 : Int) * 65536 := by rw [IntKind.wrap_u32]; omega
    have ww3 : IntKind.u32.wrap (y1 : Int) = (y1 : Int) := by rw [IntKind.wrap_u32]; omega
    have ww4 : IntKind.u32.wrap ((y1 : Int) * 256) = (y1 : Int) * 256 := by rw [IntKind.wrap_u32]; omega
    have ww5 : IntKind.u32.wrap (y2 : Int) = (y2 : Int) := by rw [IntKind.wrap_u32]; omega
    have Hv3 := Lib.hid v3
    have HV6 := Lib.hid v6
    have HT4 := Lib.hid hT4
    have HTs : Hid (∀ b, T b → b < W2.heap.size) := Lib.hid (fun b hb => (hT2 b hb).2)
    obtain ⟨nf, hj0, hj1, hj2, hj3⟩ := info_parts pxv_info
    obtain ⟨XS, hXS⟩ : ∃ XS, ((plTri l).take j).map pxv = XS := ⟨_, rfl⟩
    rw [hXS] at v2
    have HXS := Lib.hid hXS
    have Hv2 := Lib.hid v2
    have hj15 : j < 65536 := by omega
    have hZs : Z ≤ W2.heap.size := by omega
    have hKm : ∀ b, (Value.slice vp j vc).ownBlock = some b → b = Z ∨ m0 + 5 ≤ b := fun b hb => by
      have h1 := (Hv3.out b hb).2.1
      rw [HK.out] at h1
      omega
    have HKm := Lib.hid hKm
    clear hI htqp hsq ht2 hTp hT hT2 hR2 h12 hs12 hLt hD2 hL2 hL1 hxs hT4 e0 hI0 hcl hKl hNl ha hz hzz hlj v3 v6 hXS hj hl3 hBw2
    gi_wp2
    obtain ⟨C, hC⟩ : ∃ C : World → Prop, C = fun w' => Turns (fun b => (Value.slice vp j vc).ownBlock = some b) W2 w' := ⟨_, rfl⟩
    have hCst : StaysC C := by
      rw [hC]
      exact fun w w' h hb => h.trans (Turns.of_below' hb)
    have hCi : ∀ w, C w → Turns (fun b => (Value.slice vp j vc).ownBlock = some b) W2 w := by
      rw [hC]
      exact fun _ h => h
    have q1 : ∀ n : InC C, n.world.cell? ⟨m0, 0, none⟩ = some (.slice vp j vc) := fun n => (hCi _ n.ok).cell v1 (fun h => by have h1 := HKm.out _ h; have := Hm0.out; simp only at h1; omega)
    have hgn : ∀ b, (Value.slice vp j vc).ownBlock = some b → b ≠ g := fun b h e => by have := HKm.out b h; have := Hg0.out; have := Hm0.out; omega
    have q2 : ∀ n : InC C, n.world.cell? ⟨g, a, none⟩ = some (.int .u8 (y0 : Int)) := fun n => (hCi _ n.ok).cell x0 (fun h => hgn _ h rfl)
    have q3 : ∀ n : InC C, n.world.cell? ⟨g, a + 1, none⟩ = some (.int .u8 (y1 : Int)) := fun n => (hCi _ n.ok).cell x1 (fun h => hgn _ h rfl)
    have q4 : ∀ n : InC C, n.world.cell? ⟨g, a + 2, none⟩ = some (.int .u8 (y2 : Int)) := fun n => (hCi _ n.ok).cell x2 (fun h => hgn _ h rfl)
    have hC2 : C W2 := by rw [hC]; exact Turns.refl _ _
    have hK0 : StaysC (fun w => Below W2.heap.size W2 w) := fun w w' h hb => h.trans (hb.mono h.size)
    have hqq : Nonempty (InC C) := ⟨⟨W2, hC2⟩⟩
    have HC := Lib.hid hC
    have HCi := Lib.hid hCi
    have Hv1 := Lib.hid v1
    have Hv4 := Lib.hid v4
    clear hC hCi hgn v1 v4 x0 x1 x2 v2 hKm
    refine wpIn_region_chainT 17 19 C (fun w => Below W2.heap.size W2 w) (by kernel_rfl) (by decide) (by kernel_rfl) (by kernel_rfl) (by kernel_rfl) (by kernel_rfl) (fun h => by obtain ⟨_, _, h⟩ := h; exact h) hCst hC2 hK0 (Below.refl _ _) ?_
    repeat (refine LqC_on (fun K hK => ?_); go_simp; (refine hK _ ?_; clear hK K))
    refine LqC_nil ?_
    simp only [List.take_succ_cons, List.take_zero, List.drop_succ_cons, List.drop_zero]
    refine ChC_build rfl 1 #[.int .u32 (z : Int)] 41 ?hrun hCst hK0 (fun sv => ?_)
    case hrun =>
      intro w'
      first
        | rfl
        | (go_simp; done)
        | kernel_rfl
    refine ChC_append rfl (.tmp 18) (.tmp 35) 22 rfl Z 41 nf _ 1 4 Tryz.underlying22 hj0 hj1 hj2 hj3 rfl (by decide) (.slice vp j vc) j XS rfl sv 1 [.int .u32 (z : Int)] rfl rfl ?c2 ?c3 ?c4 ?hin W2.heap.size ?hZ ?hCa (fun v' => ?_)
    case c2 => intro u hu; simp at hu; subst hu; rfl
    case c3 => simp only [maxLen]; omega
    case c4 => omega
    case hin =>
      rintro w' - ⟨hk, B, e1, e2⟩
      refine ⟨(Turns.of_below' (T := fun _ => False) hk).owns Hv2.out (fun _ _ h => h), Nat.le_trans hZs hk.size, _, _, e1, .inr ⟨_, rfl, World.news_of_block e2⟩⟩
    case hZ => exact fun w' hw => (HCi.out w' hw).size
    case hCa =>
      intro w' w'' hw _ hg
      rw [HC.out] at hw ⊢
      exact hw.trans (Turns.of_grown hg (fun _ h => h))
    intro w4 hw4 hk4
    obtain ⟨ho4, hp4⟩ := hk4
    have ht4 := HCi.out w4 hw4
    obtain ⟨vp4, vc4, rfl⟩ := owns_slice ho4
    have hb1 : ¬ (Value.slice vp j vc).ownBlock = some m0 := fun e => by have := HKm.out _ e; have := Hm0.out; omega
    have x1 := ht4.cell Hv1.out hb1
    have x4 := ht4.free Hv1.out Hv4.out hb1
    have Ho4 := Lib.hid ho4
    have Ht4 := Lib.hid ht4
    have Hg4 := Lib.hid hp4
    clear ho4 ht4 hp4 hw4 hCst hC2 hK0 hqq q1 q2 q3 q4
    go_simp
    go_wp2
    gi_wp2
    have y1 : (w4.setCell ⟨m0, 0, none⟩ (.slice vp4 (j + 1) vc4)).cell? ⟨m0, 0, none⟩ = some (.slice vp4 (j + 1) vc4) := by simp [go_sem, x1]
    have y4 : (w4.setCell ⟨m0, 0, none⟩ (.slice vp4 (j + 1) vc4)).frozen? ⟨m0, 0, none⟩ = false := by simp [go_sem, x4]
    have hts := Turns.set1 m0 w4 (.slice vp4 (j + 1) vc4)
    have hm0 := Hm0.out
    have hLn : (((plTri l).take (pre ++ [(3 * j, 3)]).length).map pxv) = XS ++ [.int .u32 (z : Int)] := by
      rw [List.length_append, Hj.out]
      show ((plTri l).take (j + 1)).map pxv = _
      rw [Hat.out, List.map_append, HXS.out]; rfl
    have hXl : (XS ++ [Value.int .u32 (z : Int)]).length = j + 1 := by have := Ho4.out.1; omega
    refine ⟨⟨⟨_, y1, ?_, fun b hb => ⟨fun hT => ?_, fun hb2 => ?_, ?_⟩⟩, y4, by omega, ?_⟩, ?_, fun b hb => ?_⟩
    · rw [hLn, hXl]
      exact hts.owns Ho4.out (fun b hb (h : b = m0) => by
        rcases Hg4.out b hb with h1 | h1
        · exact hb1 (h ▸ h1)
        · omega)
    · rcases Hg4.out b hb with h | h
      · exact (Hv3.out b h).1 hT
      · have := HTs.out b hT; omega
    · rcases Hg4.out b hb with h | h
      · exact (Hv3.out b h).2.1 hb2
      · rw [HK.out] at hb2; omega
    · rcases Hg4.out b hb with h | h
      · exact (Hv3.out b h).2.2
      · exact .inr (by rw [HZ.out]; omega)
    · exact (HV6.out.trans' Ht4.out (fun i hi h => ((Hv3.out i h).2.2).elim id fun h2 => by omega)).trans' hts (fun i hi (h : i = m0) => by have := HZ.out; omega)
    · exact Nat.le_trans Ht4.out.size hts.size
    · have hX : b < W2.heap.size ∧ b ≠ m0 ∧ ¬ (Value.slice vp j vc).ownBlock = some b := by
        rcases hb with hb | hb | hb | hb
        · have h3 : b = m0 + 1 ∨ b = m0 + 1 + 1 := hb
          exact ⟨by omega, by omega, fun e => by have := HKm.out b e; omega⟩
        · exact ⟨HTs.out b hb, by have := HT4.out b hb; omega, fun e => (Hv3.out b e).1 hb⟩
        · exact ⟨by omega, by omega, fun e => by have := HKm.out b e; omega⟩
        · exact ⟨by omega, by omega, fun e => by have := HKm.out b e; omega⟩
      exact (hts.block b (Nat.lt_of_lt_of_le hX.1 Ht4.out.size) hX.2.1).trans (Ht4.out.block b hX.1 hX.2.2)
  case done =>
    intro Tp Wq W' hI htt hTp hlt hD
    rw [hsz] at htt hTp hlt hD
    obtain ⟨⟨vb, v1, v2, v3⟩, v4, v5, v6⟩ := hI.turn (T := fun _ => False) htt (fun b hb => hb) hTp HKn.out (by rw [HZ.out]; omega) (Nat.le_refl _) (fun _ h => h.elim)
    rw [hsz]
    have HD := Lib.hid hD
    have hl3 : l.length = 3 * k := by rw [Hn.out]; exact H3.out
    have hKl := plTri_len k l hl3
    simp only [List.length_map, List.length_range] at v2
    rw [List.take_of_length_le (Nat.le_of_eq hKl)] at v2
    obtain ⟨vp, vc, rfl⟩ := owns_slice v2
    have HV2 := Lib.hid v2
    have HV3 := Lib.hid v3
    have HV6 := Lib.hid v6
    clear hI htt hD hI0 v2 v3 v6 hl3 hKl
    dsimp only
    go_wp2
    refine ⟨by simp, .inl ⟨_, _, rfl, run_takeDeferred HD.out, ?_⟩⟩
    have htd := Turns.put (T := fun b => b = m0 + 3) W' (m0 + 3) (.deferred none) rfl
    refine ⟨_, results_tmp2 rfl _ _ _, ?_, .inr ⟨H3.out, _, rfl, ?_⟩⟩
    · have h1 := HV6.out.trans' htd (fun i hi (h : i = m0 + 3) => by have := HZ.out; have := Hm0.out; omega)
      exact h1.below (Nat.le_refl _) (fun _ h => h.elim)
    · rw [HZ.out]
      exact htd.owns HV2.out (fun b hb (h : b = m0 + 3) => (HV3.out b hb).2.1 (h ▸ HKn.out.1))
end Go.Proofs.YtoladolgmeanhaaGreat
