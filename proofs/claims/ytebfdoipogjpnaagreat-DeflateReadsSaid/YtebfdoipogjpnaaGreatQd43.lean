/- deflate: text.dynamic. -/
import Derived.Test.YtebfdoipogjpnaaGreatQd42
import Derived.BigQuiet
namespace Go.Proofs.YtebfdoipogjpnaaGreat
open Go.RowKit Go.Maps

theorem pas_in {ts : List Tk} (hx : ∀ t ∈ ts, t.okB = true ∧ t.b < 256) : ∀ x ∈ pasT ts, x.c < 2 ∧ x.s < two 286 30 x.c := by
  intro x hxm
  rcases List.mem_append.1 hxm with hxm | hxm
  · obtain ⟨t, ht, hxt⟩ := List.mem_flatMap.1 hxm
    obtain ⟨h1, h2⟩ := hx t ht
    unfold paT at hxt
    by_cases h0 : t.n = 0
    · rw [if_pos h0, List.mem_singleton] at hxt
      subst hxt
      exact ⟨Nat.zero_lt_two, by show t.b < 286; omega⟩
    · rw [if_neg h0] at hxt
      rcases tk_okD h1 with e | ⟨n, d, e1, e2, n1, n2, n3, n4⟩
      · exact absurd e h0
      · have f1 : t.n.toNat = n := by omega
        have f2 : t.d.toNat = d := by omega
        rw [f1, f2] at hxt
        obtain ⟨s1, s2, -⟩ := lnSym_ok n (by omega) n1
        obtain ⟨r1, -⟩ := dsSym_ok n3 n4
        rcases List.mem_cons.1 hxt with rfl | hxt
        · exact ⟨Nat.zero_lt_two, by show lnSym n < 286; omega⟩
        · rw [List.mem_singleton] at hxt
          subst hxt
          exact ⟨Nat.one_lt_two, by show dsSym d < 30; omega⟩
  · rw [List.mem_singleton] at hxm
    subst hxm
    exact ⟨Nat.zero_lt_two, by show 256 < 286; decide⟩
theorem pas_len : ∀ {ts : List Tk}, (∀ t ∈ ts, t.okB = true) → (pasT ts).length ≤ (ts.map Tk.size).sum + 1
  | [], _ => by show 1 ≤ 0 + 1; omega
  | t :: r, h => by
    have e : pasT (t :: r) = paT t ++ pasT r := by unfold pasT; rw [List.flatMap_cons, List.append_assoc]
    have h2 := pas_len (ts := r) fun x hx => h x (List.mem_cons_of_mem _ hx)
    have h1 : (paT t).length ≤ t.size := by
      rcases tk_okD (h t List.mem_cons_self) with h0 | ⟨n, d, e1, e2, n1, n2, n3, n4⟩
      · unfold paT Tk.size
        rw [if_pos h0, h0]
        simp
      · have h0 : t.n ≠ 0 := by omega
        unfold paT Tk.size
        rw [if_neg h0]
        have f1 : t.n.toNat = n := by omega
        first | (rw [if_neg h0]; simp only [List.length_cons, List.length_nil]; omega) | (simp; omega)
    rw [e, List.length_append, List.map_cons, List.sum_cons]
    omega

theorem dyn_sz {ts : List Tk} {P : Pt} (h : DynF ts P) (hx : ∀ t ∈ ts, t.okB = true ∧ t.b < 256) : szP P ≤ 15 * (ts.map Tk.size).sum + 7100 := by
  obtain ⟨gA, gD, gC, hA, hD, hC, rfl⟩ := h.ex
  have cA := best_chk hA.1 (by decide) (by decide)
  have cD := best_chk hD.1 (by decide) (by decide)
  have K := DynK.of (gl gC 19) (gl_len gA 286) (gl_len gD 30) cA cD
  obtain ⟨-, -, -, -, r4⟩ := rnL_best K.h16 hC.1
  have s1 := putR_sz K.x1.2 K.y1.2 K.k.2 r4
  have s2 := pas_sz (lq_15 cA) (lq_15 cD) (ts := ts) fun t ht => (hx t ht).1
  unfold dynP
  simp only [szP_app, szP]
  omega

set_option maxRecDepth 20000 in
set_option maxHeartbeats 4000000 in
theorem tdynamic_any {G : Nat → Prop} {W : World} {base B : Nat} (vb : Value) (p : Option Addr) (c : Nat) (ts : List Tk) (w : World) (h : WrY G base B [] W w) (hp : RowAt encT 3 W p ts) (hG : ∀ a, p = some a → G a.block) (hx : ∀ t ∈ ts, t.okB = true ∧ t.b < 256) (hl : ts.length ≤ 1048576) (hm : (ts.map Tk.size).sum ≤ 524288) :
    Calls Tryz.prog 58 #[.agg #[vb, .slice p ts.length c], .pointer (some ⟨B, 0, none⟩)] w fun e w' => ∃ P, e = .returned (.tuple #[]) ∧ DynF ts P ∧ WrY G base B P W w' := by
  have HGW : Hid (∀ b, G b → b < W.heap.size) := Lib.hid fun b hb => by obtain ⟨_, _, _, _, _, h5⟩ := h; exact (h5 b hb).2.2
  have H := Lib.hid h
  have Hp := Lib.hid hp
  have HG := Lib.hid hG
  have Hx := Lib.hid hx
  have Hm := Lib.hid hm
  obtain ⟨n, hn⟩ : ∃ n, ts.length = n := ⟨_, rfl⟩
  have Hn := Lib.hid hn
  rw [hn] at hl ⊢
  clear h hp hG hx hm hn
  go_enter Tryz.func58, Tryz.ntmps58
  go_wp2_with fail
  have hb0 := Below.al1 w (.cells #[vb, .slice p n c] 53)
  have hz0 := World.alloc_heap_new w (.cells #[vb, .slice p n c] 53)
  have hs0 : (w.alloc (.cells #[vb, .slice p n c] 53)).heap.size = w.heap.size + 1 := World.size_alloc _ _
  have hY := H.out.more hb0
  have hWw : W.heap.size ≤ w.heap.size := H.out.turns.size
  generalize w.alloc (.cells #[vb, .slice p n c] 53) = w1 at *
  obtain ⟨Z, hZ⟩ : ∃ Z, w.heap.size = Z := ⟨_, rfl⟩
  rw [hZ] at hz0 hs0 hY hWw ⊢
  have HF : Hid (WrF (fun b => G b ∨ Z ≤ b ∧ b < w1.heap.size) w1 (fun w' => w'.heap[Z]? = some (.cells #[vb, .slice p n c] 53)) base B [] w1) := Lib.hid (WrF.start hY fun w' ht => (ht.block Z (by omega) (fun h => h (.inr ⟨Nat.le_refl _, by omega⟩))).trans hz0)
  have HT1 : Hid (Turns (fun b => ¬ G b) W w1) := Lib.hid (H.out.turns.trans (Turns.of_below' hb0))
  have Hs1 := Lib.hid hs0
  clear hb0 hz0 hs0 hY
  refine Calls.mono (headD_any (kind := 2) true HF.out (by decide) (by decide)) ?_
  rintro _ w2 ⟨rfl, hF2⟩
  have hz2 : w2.heap[Z]? = some (.cells #[vb, .slice p n c] 53) := hF2.now
  have HY2 := Lib.hid hF2.done
  have x1 : w2.cell? ⟨Z, 1, none⟩ = some (.slice p n c) := cell_heap hz2 rfl
  have hs2 : Z < w2.heap.size := lt_heap hz2
  clear hF2 HF
  go_wp2_with fail
  refine Calls.mono (told_made p n c w2) ?_
  rintro _ w3 ⟨rfl, rfl⟩
  have Hb3 := Lib.hid (Below.al1 w2 (.cells #[.slice p n c] 50))
  have Hz3 := Lib.hid (World.alloc_heap_new w2 (.cells #[.slice p n c] 50))
  have Hs3 : Hid ((w2.alloc (.cells #[.slice p n c] 50)).heap.size = w2.heap.size + 1) := Lib.hid (World.size_alloc _ _)
  generalize w2.alloc (.cells #[.slice p n c] 50) = w3 at *
  obtain ⟨Y, hY⟩ : ∃ Y, w2.heap.size = Y := ⟨_, rfl⟩
  have hu3 : w3.heap.size = Y + 1 := by have := Hs3.out; omega
  rw [hY] at Hz3 hs2
  rw [hY]
  have HYe := Lib.hid hY
  have Hz2 := Lib.hid hz2
  clear hY Hs3 hz2 x1
  go_wp2_with fail
  have hb4 := Below.al1 w3 (.cells #[.int .i64 286, .int .i64 30] 3)
  have hc40 : (w3.alloc (.cells #[.int .i64 286, .int .i64 30] 3)).cell? ⟨w3.heap.size, 0, none⟩ = some (.int .i64 ((286 : Nat) : Int)) := cell_heap (World.alloc_heap_new _ _) rfl
  have hc41 : (w3.alloc (.cells #[.int .i64 286, .int .i64 30] 3)).cell? ⟨w3.heap.size, 1, none⟩ = some (.int .i64 ((30 : Nat) : Int)) := cell_heap (World.alloc_heap_new _ _) rfl
  have hBl4 := cell_later hb4 (cell_heap (i := 0) Hz3.out rfl)
  have HB24 := Lib.hid (Below.thn Hb3.out hb4)
  have HY3 : Hid (WrY (fun b => G b ∨ Z ≤ b ∧ b < w1.heap.size) base B [(1, 1), (2, 2)] w1 w2) := Lib.hid (HY2.out.congr (by simp))
  have HTg : Hid (∀ w', Below w2.heap.size w2 w' → Turns (fun b => ¬ G b) W w') := Lib.hid fun w' hb => (HT1.out.trans (HY3.out.turns.mono fun i _ hi hg => hi (.inl hg))).trans (Turns.of_below' hb)
  have hT4 := HTg.out _ HB24.out
  have hRow4 : RowAt encT 3 (w3.alloc (.cells #[.int .i64 286, .int .i64 30] 3)) p ts := Hp.out.turns hT4 fun a ha h => h (HG.out a ha)
  have hpl4 : ∀ a, p = some a → a.block < (w3.alloc (.cells #[.int .i64 286, .int .i64 30] 3)).heap.size := fun a ha => Nat.lt_of_lt_of_le (HGW.out _ (HG.out a ha)) hT4.size
  have hs4 : (w3.alloc (.cells #[.int .i64 286, .int .i64 30] 3)).heap.size = w3.heap.size + 1 := World.size_alloc _ _
  have hit := told_iter Y p c ts (w3.alloc (.cells #[.int .i64 286, .int .i64 30] 3)) (fun b => b = Y ∨ ∃ a, p = some a ∧ a.block = b) (by rw [Hn.out]; exact hBl4) hRow4 Hx.out (by rw [Hn.out]; exact hl) (fun b hb => by
    rcases hb with rfl | ⟨a, ha, rfl⟩
    · omega
    · exact hpl4 a ha) (.inl rfl) (fun a ha => .inr ⟨a, ha, rfl⟩)
  have hpl := pas_len (ts := ts) fun t ht => (Hx.out t ht).1
  have hbc := dbest_any 121 #[.pointer (some ⟨Y, 0, none⟩)] (pasT ts) 15 w3.heap.size 2 2 (two 286 30) (w3.alloc (.cells #[.int .i64 286, .int .i64 30] 3)) (enters_of Tryz.func121 (by kernel_rfl) rfl) hit (fun b hb => by
    rcases hb with rfl | ⟨a, ha, rfl⟩
    · omega
    · exact hpl4 a ha) (by decide) (fun j hj => by
      rcases (show j = 0 ∨ j = 1 by omega) with rfl | rfl
      · exact hc40
      · exact hc41) (fun j _ => by unfold two; split <;> decide) (pas_in Hx.out) (by have := Hm.out; omega) (by decide) (fun j _ => by unfold two; split <;> decide) (fun j _ => best_may (by unfold two; split <;> decide) (by have := Hm.out; omega) (by decide) (by decide) (by unfold two; split <;> decide))
  rw [hu3] at hbc
  have Hbc := Lib.hid hbc
  generalize w3.alloc (.cells #[.int .i64 286, .int .i64 30] 3) = w4 at *
  clear hb4 hc40 hc41 hBl4 hit hbc hpl hT4 hRow4 hpl4 Hb3 Hz3 HY2
  refine Calls.mono Hbc.out ?_
  rintro _ w5 ⟨vc, gg, fga, fca, fgc, fcc, rfl, hB, hb5⟩
  obtain ⟨g, cp, cur5, xa, ya, xc, yc, xa', ya', xc', yc', rfl, hg5, hz5, ⟨k0, k1, k2, k3⟩, hC, hD, hBA, hBD⟩ := hB.both (n0 := 286) (n1 := 30) (by rw [ctZ_len]; rfl) (by rw [ctZ_len]; rfl)
  have HBest : Hid (BestOf (ctZ (cntP (pasT ts) 0) 286) 15 (gg 0) ∧ BestOf (ctZ (cntP (pasT ts) 1) 30) 15 (gg 1)) := Lib.hid ⟨hBA, hBD⟩
  have Hb5 := Lib.hid (Below.thn HB24.out hb5)
  have x0 : w5.cell? ⟨g, 0, none⟩ = some (.slice (some ⟨xa, 0, none⟩) 286 ya) := cell_heap hz5 k0
  have x1 : w5.cell? ⟨g, 1, none⟩ = some (.slice (some ⟨xc, 0, none⟩) 286 yc) := cell_heap hz5 k1
  have x2 : w5.cell? ⟨g, 2, none⟩ = some (.slice (some ⟨xa', 0, none⟩) 30 ya') := cell_heap hz5 k2
  have x3 : w5.cell? ⟨g, 3, none⟩ = some (.slice (some ⟨xc', 0, none⟩) 30 yc') := cell_heap hz5 k3
  have Hz5 := Lib.hid (And.intro hz5 (And.intro k0 (And.intro k1 (And.intro k2 k3))))
  have HCD := Lib.hid (And.intro hC hD)
  have hw24 := HB24.out.size
  have hgY : Y ≤ g := by have := HYe.out; omega
  have hxY : Y ≤ xa ∧ Y ≤ xc ∧ Y ≤ xa' ∧ Y ≤ xc' := by have := hC.a; have := hC.c; have := hD.a; have := hD.c; have := HYe.out; omega
  clear hB hb5 hBA hBD hz5 k0 k1 k2 k3 hC hD Hbc hg5 HB24
  go_upto_region 3 with (fail)
  have hqq := After.ne w5
  have C0 := After.rule x0
  have C1 := After.rule x1
  have C2 := After.rule x2
  have C3 := After.rule x3
  refine wp_region_head 7 (by kernel_rfl) (by kernel_rfl) (by kernel_rfl) ?_
  repeat (refine Lq_step (fun K hK => ?_); go_simp; (refine hK _ ?_; clear hK K))
  refine Lq_nil ?_
  intro w6 hb6
  simp only [List.drop_succ_cons, List.drop_zero]
  have Hb6 := Lib.hid (Below.thn Hb5.out hb6)
  have hs5 := hb6.size
  have HC6 := Lib.hid (HCD.out.1.below hb6)
  have HD6 := Lib.hid (HCD.out.2.below hb6)
  have Hz6 : Hid (w6.heap[g]? = some (.cells cur5 151)) := Lib.hid ((hb6.block _ (lt_heap Hz5.out.1)).trans Hz5.out.1)
  clear C0 C1 C2 C3 hqq hb6 x0 x1 x2 x3
  have hY6 := HY3.out.more Hb6.out
  rw [HYe.out] at hY6
  have hlC := HC6.out.lt
  have hlD := HD6.out.lt
  have hchA := best_chk HBest.out.1.1 (by decide) (by decide)
  have hchD := best_chk HBest.out.2.1 (by decide) (by decide)
  have hdn := downD_any w6 hY6 HC6.out HD6.out ⟨.inr ⟨hxY.1, hlC.1⟩, .inr ⟨hxY.2.2.1, hlD.1⟩, .inr ⟨hxY.2.1, hlC.2⟩, .inr ⟨hxY.2.2.2, hlD.2⟩⟩ (gl_len _ _) (gl_len _ _) hchA hchD (by simp only [szP]; decide)
  have Hdn := Lib.hid hdn
  clear hdn hY6 hchA hchD hlC hlD
  go_wp2_with fail
  refine Calls.mono Hdn.out ?_
  rintro _ w7 ⟨gC, rfl, hBC, hY7⟩
  have HY7 := Lib.hid hY7
  have HBC := Lib.hid hBC
  have hZ6 : w6.heap[Z]? = some (.cells #[vb, .slice p n c] 53) := (Hb6.out.block _ (lt_heap Hz2.out)).trans Hz2.out
  have hs1 := Hs1.out
  have hZ7 : w7.heap[Z]? = some (.cells #[vb, .slice p n c] 53) := (hY7.turns.block _ (lt_heap hZ6) (fun h => h (.inl (.inr ⟨Nat.le_refl _, by omega⟩)))).trans hZ6
  have x1 : w7.cell? ⟨Z, 1, none⟩ = some (.slice p n c) := cell_heap hZ7 rfl
  have HT7 : Hid (Turns (fun b => ¬ G b) W w7) := Lib.hid ((HTg.out _ Hb6.out).trans (hY7.turns.mono fun b _ hb hg => hb (.inl (.inl hg))))
  have HCd : Hid (∀ w', Turns (fun b => ¬ ((G b ∨ Z ≤ b ∧ b < w1.heap.size) ∨ Y ≤ b ∧ b < w6.heap.size)) w6 w' → CdF g (two xa xa') (two ya ya') (two xc xc') (two yc yc') [gl (gg 0) 286, gl (gg 1) 30] w') := Lib.hid fun w' ht => by
    have hlC := HC6.out.lt
    have hlD := HD6.out.lt
    refine cdf_cur2 (t := 151) (HC6.out.turns ht (fun h => h (.inr ⟨hxY.1, hlC.1⟩)) (fun h => h (.inr ⟨hxY.2.1, hlC.2⟩))) (HD6.out.turns ht (fun h => h (.inr ⟨hxY.2.2.1, hlD.1⟩)) (fun h => h (.inr ⟨hxY.2.2.2, hlD.2⟩))) ((ht.block _ (lt_heap Hz6.out) (fun h => h (.inr ⟨hgY, lt_heap Hz6.out⟩))).trans Hz6.out) ?_ ?_ ?_ ?_
    · rw [gl_len]; exact Hz5.out.2.1
    · rw [gl_len]; exact Hz5.out.2.2.1
    · rw [gl_len]; exact Hz5.out.2.2.2.1
    · rw [gl_len]; exact Hz5.out.2.2.2.2
  clear hY7 hBC hZ6 hZ7 hs1 hZ hxY hgY hs5 hs4 hw24 Hdn HC6 HD6 Hz6 HCD Hz5 Hz2 HY3 hs2 HYe
  go_wp2_with fail
  refine Calls.mono (told_made p n c w7) ?_
  rintro _ z8 ⟨rfl, rfl⟩
  have hb8 := Below.al1 w7 (.cells #[.slice p n c] 50)
  have hBl8 : (w7.alloc (.cells #[.slice p n c] 50)).cell? ⟨w7.heap.size, 0, none⟩ = some (.slice p n c) := cell_heap (World.alloc_heap_new _ _) rfl
  have hs8 : (w7.alloc (.cells #[.slice p n c] 50)).heap.size = w7.heap.size + 1 := World.size_alloc _ _
  have hY8 := HY7.out.more hb8
  have hT8 : Turns (fun b => ¬ G b) W (w7.alloc (.cells #[.slice p n c] 50)) := HT7.out.trans (Turns.of_below' hb8)
  have hT68 := HY7.out.turns.trans (Turns.of_below' hb8)
  generalize w7.alloc (.cells #[.slice p n c] 50) = w8 at *
  have hRow8 : RowAt encT 3 w8 p ts := Hp.out.turns hT8 fun a ha h => h (HG.out a ha)
  have hpl8 : ∀ a, p = some a → a.block < w8.heap.size := fun a ha => Nat.lt_of_lt_of_le (HGW.out _ (HG.out a ha)) hT8.size
  have hit := told_iter w7.heap.size p c ts w8 (fun b => b = w7.heap.size ∨ ∃ a, p = some a ∧ a.block = b) (by rw [Hn.out]; exact hBl8) hRow8 Hx.out (by rw [Hn.out]; exact hl) (fun b hb => by
    rcases hb with rfl | ⟨a, ha, rfl⟩
    · omega
    · exact hpl8 a ha) (.inl rfl) (fun a ha => .inr ⟨a, ha, rfl⟩)
  have hDyn : DynF ts (dynP ts (gl (gg 0) 286) (gl (gg 1) 30) (gl gC 19)) := ⟨gg 0, gg 1, gC, HBest.out.1, HBest.out.2, HBC.out, rfl⟩
  obtain ⟨hcod, h0⟩ := best_ok Hx.out HBest.out.1.1 HBest.out.2.1
  have h01 : ∀ j, j < [gl (gg 0) 286, gl (gg 1) 30].length → j = 0 ∨ j = 1 := fun j hj => by simp at hj; omega
  have hsl := slay_any (P := [(1, 1), (2, 2)] ++ putR (cutX (gl (gg 0) 286)) (cutY (gl (gg 1) 30)) (gl gC 19) (trN (ordO (gl gC 19)) 4 19)) 121 #[.pointer (some ⟨w7.heap.size, 0, none⟩)] (pasT ts) g cp (two xa xa') (two ya ya') (two xc xc') (two yc yc') [gl (gg 0) 286, gl (gg 1) 30] w8 (enters_of Tryz.func121 (by kernel_rfl) rfl) hit (Nat.le_refl _) (fun b hb => ⟨by
    rcases hb with rfl | ⟨a, ha, rfl⟩
    · exact .inr ⟨Nat.le_refl _, by omega⟩
    · exact .inl (.inl (.inl (HG.out a ha))), rfl⟩) hY8 (fun w' ht => HCd.out w' (hT68.trans (ht.mono fun b _ hb hg => hb (.inl hg)))) (fun j hj => by
      rcases h01 j hj with rfl | rfl
      · exact ⟨best_chk HBest.out.1.1 (by decide) (by decide), by show (gl (gg 0) 286).length ≤ 320; rw [gl_len]; decide⟩
      · exact ⟨best_chk HBest.out.2.1 (by decide) (by decide), by show (gl (gg 1) 30).length ≤ 320; rw [gl_len]; decide⟩) (pas_ok (fun t ht => (Hx.out t ht).1) hcod ⟨by rw [gl_len]; decide, h0⟩) (by
      have h5 := dyn_sz hDyn (fun t ht => Hx.out t ht)
      have := Hm.out
      unfold dynP at h5
      rw [szP_app] at h5
      omega)
  have Hsl := Lib.hid hsl
  have HT8 := Lib.hid hT8
  have HDyn := Lib.hid hDyn
  clear hb8 hBl8 hs8 hY8 hT8 hT68 hRow8 hpl8 hit hDyn hcod h0 h01 hsl x1
  go_wp2_with fail
  refine Calls.mono Hsl.out ?_
  rintro _ w10 ⟨rfl, hY10⟩
  have HY10 := Lib.hid (hY10.less (G := G) (W := W) (fun b hb => ⟨.inl (.inl (.inl hb)), HGW.out b hb⟩) HT8.out)
  clear hY10 Hsl
  go_wp2
  go_end0
  exact ⟨_, rfl, HDyn.out, HY10.out⟩

end Go.Proofs.YtebfdoipogjpnaaGreat
