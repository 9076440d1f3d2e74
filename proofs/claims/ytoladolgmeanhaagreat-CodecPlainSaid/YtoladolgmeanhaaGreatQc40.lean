/- Several texts in one, each with its own head. -/
import Derived.Test.YtoladolgmeanhaaGreatQc31
import Derived.BigQuiet
/- deflate: ownCodes. -/
namespace Go.Proofs.YtoladolgmeanhaaGreat
open Go.RowKit Go.Maps

set_option maxRecDepth 20000 in
set_option maxHeartbeats 4000000 in
theorem downD_any {G : Nat → Prop} {W : World} {base B : Nat} {P : Pt} {A D : List Nat} {v1 v2 : Value} {ga ca gc cc ga' ca' gc' cc' b0 : Nat} (w : World) (h : WrY G base B P W w) (h1 : Cdr W b0 v1 A ga ca gc cc) (h2 : Cdr W b0 v2 D ga' ca' gc' cc') (hG : G ga ∧ G ga' ∧ G gc ∧ G gc') (hA : A.length = 286) (hD : D.length = 30) (hcA : chk A = 0) (hcD : chk D = 0) (hm : szP P + 8000 ≤ 8388608) :
    Calls Tryz.prog 84 #[.pointer (some ⟨B, 0, none⟩), v1, v2] w fun e w' => ∃ gC, e = .returned (.tuple #[]) ∧ BestOf (ctZ (cntP (rnL (A.take (trN A 257 286) ++ D.take (trN D 1 30))) 0) 19) 7 gC ∧ WrY G base B (P ++ putR (A.take (trN A 257 286)) (D.take (trN D 1 30)) (gl gC 19) (trN (ordO (gl gC 19)) 4 19)) W w' := by
  have HGW : Hid (∀ b, G b → b < W.heap.size) := Lib.hid fun b hb => by obtain ⟨_, _, _, _, _, h5⟩ := h; exact (h5 b hb).2.2
  have Hm := Lib.hid hm
  obtain rfl := h1.e
  obtain rfl := h2.e
  have HW1 := h1.turns h.turns (fun hn => hn hG.1) (fun hn => hn hG.2.2.1)
  have HW2 := h2.turns h.turns (fun hn => hn hG.2.1) (fun hn => hn hG.2.2.2)
  have H := Lib.hid h
  have H1 := Lib.hid HW1
  have H2 := Lib.hid HW2
  have hcm : ca ≤ maxLen ∧ ca' ≤ maxLen := ⟨HW1.km, HW2.km⟩
  have hka := HW1.ka
  have hka' := HW2.ka
  rw [hA, hD]
  rw [hA] at hka
  rw [hD] at hka'
  have HA := Lib.hid (And.intro hA (And.intro hD (And.intro hcA hcD)))
  clear h h1 h2 HW1 HW2 hA hD hcA hcD hm
  go_enter Tryz.func84, Tryz.ntmps84
  have hal := Below.al (Below.al1 w (.cells #[.slice (some ⟨ga, 0, none⟩) 286 ca, .slice (some ⟨gc, 0, none⟩) 286 cc] 135)) (.cells #[.slice (some ⟨ga', 0, none⟩) 30 ca', .slice (some ⟨gc', 0, none⟩) 30 cc'] 135)
  have hg := heap_pushed [.cells #[.slice (some ⟨ga, 0, none⟩) 286 ca, .slice (some ⟨gc, 0, none⟩) 286 cc] 135, .cells #[.slice (some ⟨ga', 0, none⟩) 30 ca', .slice (some ⟨gc', 0, none⟩) 30 cc'] 135] w
  simp only [List.foldl_cons, List.foldl_nil] at hg
  go_upto_region 1 with (fail)
  generalize (w.alloc (.cells #[.slice (some ⟨ga, 0, none⟩) 286 ca, .slice (some ⟨gc, 0, none⟩) 286 cc] 135)).alloc (.cells #[.slice (some ⟨ga', 0, none⟩) 30 ca', .slice (some ⟨gc', 0, none⟩) 30 cc'] 135) = w1 at *
  have y1 : w1.cell? ⟨w.heap.size, 0, none⟩ = some (.slice (some ⟨ga, 0, none⟩) 286 ca) := cell_heap ((hg 0 _).2 rfl) rfl
  have y2 : w1.cell? ⟨w.heap.size + 1, 0, none⟩ = some (.slice (some ⟨ga', 0, none⟩) 30 ca') := cell_heap ((hg 1 _).2 rfl) rfl
  have Hal := Lib.hid hal
  have HT1 : Hid (∀ n, Calls Tryz.prog 116 #[.slice (some ⟨ga, 0, none⟩) 286 ca, .int .i64 257] (w1.drewN n) fun e w' => e = .returned (.slice (some ⟨ga, 0, none⟩) (trN A 257 286) ca) ∧ w' = w1.drewN n) := Lib.hid fun n => by
    obtain ⟨a1, -, -, -⟩ := HA.out
    obtain ⟨cur, t, b1, b2⟩ := H1.out.oa
    have := trimmed_any ga 0 ca 257 A (w1.drewN n) (by omega) (by omega) (by decide) (fun i hi => by
      rw [Nat.zero_add]
      exact cell_heap (((Below.drewN' hal n).block ga (lt_heap b1)).trans b1) (b2 i hi))
    rwa [a1] at this
  have HT2 : Hid (∀ n, Calls Tryz.prog 116 #[.slice (some ⟨ga', 0, none⟩) 30 ca', .int .i64 1] (w1.drewN n) fun e w' => e = .returned (.slice (some ⟨ga', 0, none⟩) (trN D 1 30) ca') ∧ w' = w1.drewN n) := Lib.hid fun n => by
    obtain ⟨-, a1, -, -⟩ := HA.out
    obtain ⟨cur, t, b1, b2⟩ := H2.out.oa
    have := trimmed_any ga' 0 ca' 1 D (w1.drewN n) (by omega) (by omega) (by decide) (fun i hi => by
      rw [Nat.zero_add]
      exact cell_heap (((Below.drewN' hal n).block ga' (lt_heap b1)).trans b1) (b2 i hi))
    rwa [a1] at this
  clear hal hg
  go_quiet ((go_at_call 116; first | with_reducible exact Calls.quiet_of_same (HT1.out _) | with_reducible exact Calls.quiet_of_same (HT2.out _)))
  rename_i nq
  have Hq := Lib.hid (Below.drewN' Hal.out nq)
  generalize w1.drewN nq = u1 at *
  obtain ⟨X, hX⟩ : ∃ X, A.take (trN A 257 286) = X := ⟨_, rfl⟩
  obtain ⟨Y, hY⟩ : ∃ Y, D.take (trN D 1 30) = Y := ⟨_, rfl⟩
  have cutA : Cut A (trN A 257 286) := by have := Cut.of A 257; rwa [HA.out.1] at this
  have cutD : Cut D (trN D 1 30) := by have := Cut.of D 1; rwa [HA.out.2.1] at this
  have hlX : X.length = trN A 257 286 := by rw [← hX]; exact cutA.len
  have hlY : Y.length = trN D 1 30 := by rw [← hY]; exact cutD.len
  have R1 : Rw8 u1 (.slice (some ⟨ga, 0, none⟩) (trN A 257 286) ca) X := by
    rw [← hX]
    exact ⟨rw8_take cutA.le (by rw [HA.out.1]; exact hka) hcm.1 (H1.out.below Hq.out).oa, fun c h => by cases h⟩
  have R2 : Rw8 u1 (.slice (some ⟨ga', 0, none⟩) (trN D 1 30) ca') Y := by
    rw [← hY]
    exact ⟨rw8_take cutD.le (by rw [HA.out.2.1]; exact hka') hcm.2 (H2.out.below Hq.out).oa, fun c h => by cases h⟩
  have x1 : 257 ≤ X.length ∧ X.length ≤ 286 := by rw [hlX]; exact ⟨trN_least A 257 286 (by decide), trN_le _ _ _⟩
  have y1' : 1 ≤ Y.length ∧ Y.length ≤ 30 := by rw [hlY]; exact ⟨trN_least D 1 30 (by decide), trN_le _ _ _⟩
  have HX := Lib.hid (And.intro hX (And.intro cutA (And.intro hY cutD)))
  have HR := Lib.hid (And.intro R1 R2)
  rw [← hlX, ← hlY] at HR
  have hHR := HR
  rw [← hlX, ← hlY]
  clear hX hY cutA cutD R1 R2 hlX hlY y1 y2 hHR HT1 HT2
  go_wp2_with fail
  refine Calls.mono (concatD_two HR.out.1 HR.out.2 (by omega) (by omega)) ?_
  rintro _ u2 ⟨vr, rfl, hor, hbr⟩
  obtain ⟨gr, cr, cur, rfl, hgr, hcr, hzr, hcl⟩ := owns_block hor (by rw [List.length_append]; omega)
  have hck : chk X = 0 ∧ chk Y = 0 := ⟨by rw [← HX.out.1]; exact HX.out.2.1.chk HA.out.2.2.1, by rw [← HX.out.2.2.1]; exact HX.out.2.2.2.chk HA.out.2.2.2⟩
  have H16 : Hid (∀ i, lq (X ++ Y) i < 16) := Lib.hid (lq_app16 (lq_15 hck.1) (lq_15 hck.2))
  obtain ⟨nx, hnx⟩ : ∃ n, X.length = n := ⟨_, rfl⟩
  obtain ⟨ny, hny⟩ : ∃ n, Y.length = n := ⟨_, rfl⟩
  obtain ⟨V, hV⟩ : ∃ V, X ++ Y = V := ⟨_, rfl⟩
  have hVl : V.length = nx + ny := by rw [← hV, List.length_append, hnx, hny]
  rw [hV] at hcl H16 hcr
  rw [hnx] at x1
  rw [hny] at y1'
  rw [hVl] at hcr
  have HN := Lib.hid (And.intro hnx (And.intro hny (And.intro hV hVl)))
  rw [hV, hVl, hnx, hny]
  have Hcl : Hid (∀ i, i < V.length → u2.cell? ⟨gr, i, none⟩ = some (.int .u8 ((lq V i : Nat) : Int))) := Lib.hid fun i hi => cell_heap hzr (hcl i _ (by rw [List.getElem?_map, List.getElem?_eq_getElem hi, ← lq_at hi]; rfl))
  have Hb2 := Lib.hid (Below.thn Hq.out hbr)
  have hrl := lt_heap hzr
  have hgrw : w.heap.size ≤ gr := Nat.le_trans Hq.out.size hgr
  clear hnx hny hV hVl hck hor hbr hgr hzr hcl H1 H2 HA HR Hal Hq
  go_wp2_with fail
  refine Calls.mono (runs_made (some ⟨gr, 0, none⟩) (nx + ny) cr u2) ?_
  rintro _ u3 ⟨rfl, rfl⟩
  have Hb3 := Lib.hid (Below.al1 u2 (.cells #[.slice (some ⟨gr, 0, none⟩) (nx + ny) cr] 25))
  have Hz3 := Lib.hid (World.alloc_heap_new u2 (.cells #[.slice (some ⟨gr, 0, none⟩) (nx + ny) cr] 25))
  have Hs3 : Hid ((u2.alloc (.cells #[.slice (some ⟨gr, 0, none⟩) (nx + ny) cr] 25)).heap.size = u2.heap.size + 1) := Lib.hid (World.size_alloc _ _)
  generalize u2.alloc (.cells #[.slice (some ⟨gr, 0, none⟩) (nx + ny) cr] 25) = u3 at *
  obtain ⟨Z, hZ⟩ : ∃ Z, u2.heap.size = Z := ⟨_, rfl⟩
  have hu3 : u3.heap.size = Z + 1 := by have := Hs3.out; omega
  rw [hZ] at Hz3 hrl
  rw [hZ]
  have hZw : w.heap.size ≤ Z := by have := Hb2.out.size; omega
  have HZ2 := Lib.hid hZ
  clear hZ Hs3
  go_wp2_with fail
  have hb4 := Below.al1 u3 (.cells #[.int .i64 19] 3)
  have hc4 : (u3.alloc (.cells #[.int .i64 19] 3)).cell? ⟨u3.heap.size, 0, none⟩ = some (.int .i64 ((19 : Nat) : Int)) := cell_heap (World.alloc_heap_new _ _) rfl
  have hs4 : (u3.alloc (.cells #[.int .i64 19] 3)).heap.size = u3.heap.size + 1 := World.size_alloc _ _
  have hBl4 := cell_later hb4 (cell_heap (i := 0) Hz3.out rfl)
  have hcl4 : ∀ i, i < V.length → (u3.alloc (.cells #[.int .i64 19] 3)).cell? ⟨gr, 0 + i, none⟩ = some (.int .u8 ((lq V i : Nat) : Int)) := fun i hi => by
    rw [Nat.zero_add]
    exact cell_later hb4 (cell_later Hb3.out (Hcl.out i hi))
  have hVl := HN.out.2.2.2
  have hit := runs_iter Z gr 0 cr V (u3.alloc (.cells #[.int .i64 19] 3)) (fun b => b = Z ∨ b = gr) (by rw [hVl]; exact hBl4) hcl4 (fun i => by have := H16.out i; omega) (by omega) (by omega) (fun b hb => by rcases hb with rfl | rfl <;> omega) (.inl rfl) (.inr rfl)
  obtain ⟨c1, c2⟩ := rnL_cnt H16.out
  have hbc := dbest_any 141 #[.pointer (some ⟨Z, 0, none⟩)] (rnL V) 7 u3.heap.size 1 1 (fun _ => 19) (u3.alloc (.cells #[.int .i64 19] 3)) (enters_of Tryz.func141 (by kernel_rfl) rfl) hit (fun b hb => by rcases hb with rfl | rfl <;> omega) (by decide) (fun j hj => by have e : j = 0 := (by omega); subst e; exact hc4) (fun _ _ => by decide) c1 (by omega) (by decide) (fun _ _ => by decide) (fun j _ => best_may (by decide) (by omega) (by decide) (by decide) (by decide))
  rw [hu3] at hbc
  have Hbc := Lib.hid hbc
  have Hb4 := Lib.hid (Below.thn Hb2.out (Below.thn Hb3.out hb4))
  have Hb34 := Lib.hid (Below.thn Hb3.out hb4)
  generalize u3.alloc (.cells #[.int .i64 19] 3) = u4 at *
  clear hb4 hc4 hBl4 hcl4 hit hbc c1 c2
  refine Calls.mono Hbc.out ?_
  rintro _ u5 ⟨vc, gg, fga, fca, fgc, fcc, rfl, hB, hb5⟩
  obtain ⟨g, cp, cur5, xa, ya, xc, yc, rfl, hg5, hz5, k0, k1, hC, hBest⟩ := hB.one (n0 := 19) (by rw [ctZ_len])
  have HBest := Lib.hid hBest
  obtain ⟨C, hCe⟩ : ∃ C, gl (gg 0) 19 = C := ⟨_, rfl⟩
  have hlC : C.length = 19 := by rw [← hCe, gl_len]
  obtain ⟨r0, r1, r2, r3, r4⟩ := rnL_best H16.out hBest.1
  rw [hCe] at hC r0 r1 r2 r3 r4
  have HCe := Lib.hid hCe
  have HC := Lib.hid hC
  have HR := Lib.hid (And.intro r0 (And.intro r1 (And.intro r2 (And.intro r3 r4))))
  have Hz5 := Lib.hid (And.intro hz5 (And.intro k0 (And.intro k1 hlC)))
  have x0 : u5.cell? ⟨g, 0, none⟩ = some (.slice (some ⟨xa, 0, none⟩) 19 ya) := cell_heap hz5 k0
  have Hb5 := Lib.hid (Below.thn Hb4.out hb5)
  have Hb35 := Lib.hid (Below.thn Hb34.out hb5)
  have hg5w : w.heap.size ≤ g := Nat.le_trans Hb4.out.size hg5
  have hxaw : w.heap.size ≤ xa := Nat.le_trans Hb4.out.size hC.a
  have hord := ordered_any xa 0 ya C u5 hlC (fun i => by have := r3 i; omega) (fun i hi => by
    obtain ⟨cur', t', a1, a2⟩ := hC.oa
    rw [Nat.zero_add]
    exact cell_heap a1 (a2 i hi))
  have Hord := Lib.hid hord
  clear hB hb5 hBest hCe hC r0 r1 r2 r3 r4 hz5 k0 k1 hlC hord Hbc Hb34
  go_wp2_with fail
  refine Calls.mono Hord.out ?_
  rintro _ u6 ⟨v6, rfl, ho6, hb6⟩
  obtain ⟨g6, c6, cur6, rfl, hg6, hc6, hz6, hq6⟩ := owns_block ho6 (by decide)
  have hol := ordO_len C
  have hc6' : ∀ i, i < (ordO C).length → u6.cell? ⟨g6, i, none⟩ = some (.int .u8 ((lq (ordO C) i : Nat) : Int)) := fun i hi => cell_heap hz6 (hq6 i _ (by rw [List.getElem?_map, List.getElem?_eq_getElem hi, ← lq_at hi]; rfl))
  have htr := trimmed_any g6 0 c6 4 (ordO C) u6 (by rw [hol]; exact hc6.1) (by rw [hol]; decide) (by decide) (fun i hi => by rw [Nat.zero_add]; exact hc6' i hi)
  rw [hol] at htr hc6'
  have Htr := Lib.hid htr
  have Hc6 := Lib.hid hc6'
  have Hb6 := Lib.hid (Below.thn Hb5.out hb6)
  have Hb36 := Lib.hid (Below.thn Hb35.out hb6)
  have Hb56 := Lib.hid hb6
  have hg6w : w.heap.size ≤ g6 := Nat.le_trans Hb5.out.size hg6
  have hg6l := lt_heap hz6
  obtain ⟨kk, hkk⟩ : ∃ k, trN (ordO C) 4 19 = k := ⟨_, rfl⟩
  have hk19 : kk ≤ 19 := by rw [← hkk]; exact trN_le _ _ _
  have hk4 : 4 ≤ kk := by rw [← hkk]; exact trN_least _ _ _ (by decide)
  rw [hkk] at Htr
  have Hkk := Lib.hid hkk
  clear ho6 hb6 hz6 hq6 hol hc6' htr hkk Hord Hb35 x0
  go_wp2_with fail
  refine Calls.mono Htr.out ?_
  rintro _ u7 ⟨rfl, rfl⟩
  clear Htr
  have hWs : W.heap.size ≤ w.heap.size := H.out.turns.size
  have hC7 := HC.out.below Hb56.out
  have hz7 := (Hb56.out.block _ (lt_heap Hz5.out.1)).trans Hz5.out.1
  have hxcw : w.heap.size ≤ xc := Nat.le_trans Hb4.out.size HC.out.c
  have hgl := lt_heap hz7
  have hCl := hC7.lt
  have hc7' := Hcl.out
  obtain ⟨G1, hG1⟩ : ∃ G1 : Nat → Prop, G1 = fun b => G b ∨ w.heap.size ≤ b ∧ b < u7.heap.size := ⟨_, rfl⟩
  have hin : ∀ b, w.heap.size ≤ b → b < u7.heap.size → G1 b := fun b h1 h2 => by rw [hG1]; exact .inr ⟨h1, h2⟩
  have hY7 : WrY G1 base B P u7 u7 := by rw [hG1]; exact H.out.more Hb6.out
  have HT7 : Hid (Turns (fun b => ¬ G b) W u7) := Lib.hid (H.out.turns.trans (Turns.of_below' Hb6.out))
  have HGG : Hid (∀ b, G b → G1 b) := Lib.hid fun b hb => by rw [hG1]; exact .inl hb
  have HF : Hid (WrF G1 u7 (fun w' => Turns (fun b => ¬ G1 b) u7 w') base B P u7) := Lib.hid (WrF.start hY7 fun _ ht => ht)
  have HCd : Hid (∀ w', Turns (fun b => ¬ G1 b) u7 w' → CdF g (fun _ => xa) (fun _ => ya) (fun _ => xc) (fun _ => yc) [C] w') := Lib.hid fun w' ht => by
    refine cdf_cur1 (t := 135) (hC7.turns ht (fun h => h (hin _ hxaw hCl.1)) (fun h => h (hin _ hxcw hCl.2))) ((ht.block _ hgl (fun h => h (hin _ hg5w hgl))).trans hz7) ?_ ?_
    · rw [Hz5.out.2.2.2]; exact Hz5.out.2.1
    · rw [Hz5.out.2.2.2]; exact Hz5.out.2.2.1
  have HRun : Hid (∀ w', Turns (fun b => ¬ G1 b) u7 w' → ∀ i, i < V.length → w'.cell? ⟨gr, i, none⟩ = some (.int .u8 ((lq V i : Nat) : Int))) := Lib.hid fun w' ht i hi => by
    have hc := cell_later Hb36.out (Hcl.out i hi)
    exact ht.cell hc (fun h => h (hin _ hgrw (World.block_lt_of_cell? _ _ hc)))
  have HSz : Hid (∀ w', Turns (fun b => ¬ G1 b) u7 w' → ∀ i, i < 19 → w'.cell? ⟨g6, i, none⟩ = some (.int .u8 ((lq (ordO C) i : Nat) : Int))) := Lib.hid fun w' ht i hi => ht.cell (Hc6.out i hi) (fun h => h (hin _ hg6w hg6l))
  have Hgr : Hid (G1 gr) := Lib.hid (hin _ hgrw (Nat.lt_of_lt_of_le hrl (by have := Hb36.out.size; have := HZ2.out; omega)))
  have HlC := Lib.hid Hz5.out.2.2.2
  have e1 : (nx : Int) - 257 = ((nx - 257 : Nat) : Int) := by omega
  have e2 : (ny : Int) - 1 = ((ny - 1 : Nat) : Int) := by omega
  have e3 : (kk : Int) - 4 = ((kk - 4 : Nat) : Int) := by omega
  clear hC7 hz7 hxcw hgl hCl hc7' hY7 hin hG1 hxaw hg5w hgrw hg6w hg6l hrl hZw hu3 Hcl Hc6 Hz5 HC Hb2 Hb3 Hz3 Hb4 Hb5 Hb6 Hb36 Hb56
  go_wp2_with fail
  refine Calls.mono (numberD_any (v := nx - 257) (k := 5) HF.out (by show _ < 32; omega) (by decide) (by have := Hm.out; omega)) ?_
  rintro _ z1 ⟨rfl, h1⟩
  have HF1 := Lib.hid h1
  clear h1 HF
  go_wp2_with fail
  refine Calls.mono (numberD_any (v := ny - 1) (k := 5) HF1.out (by show _ < 32; omega) (by decide) (by have := Hm.out; simp only [szP_app, szP]; omega)) ?_
  rintro _ z2 ⟨rfl, h2⟩
  have HF2 := Lib.hid h2
  clear h2 HF1
  go_wp2_with fail
  refine Calls.mono (numberD_any (v := kk - 4) (k := 4) HF2.out (by show _ < 16; omega) (by decide) (by have := Hm.out; simp only [szP_app, szP]; omega)) ?_
  rintro _ z3 ⟨rfl, h3⟩
  have HF3 := Lib.hid h3
  clear h3 HF2 e1 e2 e3
  go_wp2_with fail
  go_loopw [50] (fun iv wr => ∃ i : Nat, iv = .int .i64 (i : Int) ∧ i ≤ kk ∧ Hid (WrF G1 u7 (fun w' => Turns (fun b => ¬ G1 b) u7 w') base B (P ++ [(nx - 257, 5)] ++ [(ny - 1, 5)] ++ [(kk - 4, 4)] ++ (ordL.take i).map (fun i => (lq C i, 3))) wr)) (fun iv _ => kk - (intOf iv).toNat)
  case atStart => exact ⟨0, rfl, Nat.zero_le _, Lib.hid (HF3.out.congr (by simp))⟩
  case round =>
    clear HF3
    obtain ⟨i, rfl, hi, HW⟩ := hrel
    by_cases hin : i < kk
    · have d1 : decide ((i : Int) < (kk : Int)) = true := by simp; omega
      have cx := HSz.out _ HW.out.now i (by omega)
      have hx : lq (ordO C) i < 8 := by rw [ordO_at C (by omega)]; exact HR.out.2.2.2.1 _
      have Ht := Lib.hid (take_ord C (i := i) (by omega))
      have Hsz := Lib.hid (szP_ord C (i := i) (by omega))
      obtain ⟨x, hxx⟩ : ∃ x, lq (ordO C) i = x := ⟨_, rfl⟩
      rw [hxx] at cx hx Ht
      have i0 : (0 : Int) ≤ (i : Int) := by omega
      have i1 : (i : Int) < (kk : Int) := by omega
      have hw1 : IntKind.i64.wrap (x : Int) = (x : Int) := IntWalk.i64_in _ (by omega)
      clear hxx
      go_wp2_with fail
      refine Calls.mono (numberD_any (v := x) (k := 3) HW.out hx (by decide) (by have := Hm.out; have := Hsz.out; simp only [szP_app, szP]; omega)) ?_
      rintro _ w6 ⟨rfl, h6⟩
      have H6 := Lib.hid (h6.congr (List.append_assoc _ _ _))
      rw [← Ht.out] at H6
      clear h6
      go_wp2
      go_roundw
      case rel => exact ⟨i + 1, by go_num, by omega, H6⟩
      case measure => simp [intOf]; omega
    · obtain rfl : i = kk := by omega
      have Hsz := Lib.hid (szP_ord C (i := i) (by omega))
      go_wp2_with fail
      refine Calls.mono (runs_made (some ⟨gr, 0, none⟩) (nx + ny) cr wr) ?_
      rintro _ z4 ⟨rfl, rfl⟩
      have hb9 := Below.al1 wr (.cells #[.slice (some ⟨gr, 0, none⟩) (nx + ny) cr] 25)
      have hBl9 : (wr.alloc (.cells #[.slice (some ⟨gr, 0, none⟩) (nx + ny) cr] 25)).cell? ⟨wr.heap.size, 0, none⟩ = some (.slice (some ⟨gr, 0, none⟩) (nx + ny) cr) := cell_heap (World.alloc_heap_new _ _) rfl
      have hs9 : (wr.alloc (.cells #[.slice (some ⟨gr, 0, none⟩) (nx + ny) cr] 25)).heap.size = wr.heap.size + 1 := World.size_alloc _ _
      have hY9 := HW.out.done.more hb9
      have hT9 := HW.out.now.trans (Turns.of_below' (T := fun b => ¬ G1 b) hb9)
      have hTW := HT7.out.trans (hT9.mono fun b _ hb hg => hb (HGG.out b hg))
      have hVl := HN.out.2.2.2
      have hcl9 := HRun.out _ hT9
      generalize wr.alloc (.cells #[.slice (some ⟨gr, 0, none⟩) (nx + ny) cr] 25) = w9 at *
      have hit := runs_iter wr.heap.size gr 0 cr V w9 (fun b => b = wr.heap.size ∨ b = gr) (by rw [hVl]; exact hBl9) (fun i hi => by rw [Nat.zero_add]; exact hcl9 i hi) (fun i => by have := H16.out i; omega) (by omega) (by omega) (fun b hb => by
        rcases hb with rfl | rfl
        · omega
        · exact World.block_lt_of_cell? _ _ (hcl9 0 (by omega))) (.inl rfl) (.inr rfl)
      have hsl := slay_any (P := P ++ [(nx - 257, 5)] ++ [(ny - 1, 5)] ++ [(i - 4, 4)] ++ (ordL.take i).map (fun i => (lq C i, 3))) 141 #[.pointer (some ⟨wr.heap.size, 0, none⟩)] (rnL V) g cp (fun _ => xa) (fun _ => ya) (fun _ => xc) (fun _ => yc) [C] w9 (enters_of Tryz.func141 (by kernel_rfl) rfl) hit (Nat.le_refl _) (fun b hb => ⟨by
        rcases hb with rfl | rfl
        · exact .inr ⟨Nat.le_refl _, by omega⟩
        · exact .inl Hgr.out, rfl⟩) hY9 (fun w' ht => HCd.out w' (hT9.trans (ht.mono fun b _ hb hg => hb (.inl hg)))) (fun j hj => by
          have e : j = 0 := by simp at hj; omega
          subst e
          exact ⟨HR.out.1, by show C.length ≤ 320; rw [HlC.out]; decide⟩) HR.out.2.2.1 (by
          have := Hm.out
          have := Hsz.out
          have := HR.out.2.2.2.2
          simp only [szP_app, szP]; omega)
      have Hsl := Lib.hid hsl
      have HTW := Lib.hid hTW
      clear hb9 hBl9 hs9 hY9 hT9 hTW hcl9 hit hsl
      go_wp2_with fail
      refine Calls.mono Hsl.out ?_
      rintro _ w10 ⟨rfl, hY10⟩
      have HY10 := Lib.hid (hY10.less (G := G) (W := W) (fun b hb => ⟨.inl (HGG.out b hb), HGW.out b hb⟩) HTW.out)
      clear hY10 Hsl
      go_wp2
      go_end0
      obtain ⟨n1, n2, n3, n4⟩ := HN.out
      refine ⟨gg 0, rfl, ?_, ?_⟩
      · rw [HX.out.1, HX.out.2.2.1, n3]
        exact HBest.out
      · rw [HX.out.1, HX.out.2.2.1, HCe.out, Hkk.out]
        refine HY10.out.congr ?_
        unfold putR
        rw [n1, n2, n3]
        simp only [List.append_assoc, List.cons_append, List.nil_append]
end Go.Proofs.YtoladolgmeanhaaGreat

/- deflate: text.dynamic. -/
namespace Go.Proofs.YtoladolgmeanhaaGreat
open Go.RowKit Go.Maps

theorem pas_in {ts : List Tk} (hx : ∀ t ∈ ts, t.okB = true ∧ t.b < 256) : ∀ x ∈ pasT ts, x.c < 2 ∧ x.s < two 286 30 x.c := by
  intro x hxm
  rcases List.mem_append.1 hxm with hxm | hxm
  · obtain ⟨t, ht, hxt⟩ := List.mem_flatMap.1 hxm
    obtain ⟨h1, h2⟩ := hx t ht
    unfold paT at hxt
    by_cases h0 : t.n = 0
    · rw [if_pos h0, List.mem_singleton] at hxt
      subst hxt
      exact ⟨Nat.zero_lt_two, by show t.b < 286; omega⟩
    · rw [if_neg h0] at hxt
      rcases tk_okD h1 with e | ⟨n, d, e1, e2, n1, n2, n3, n4⟩
      · exact absurd e h0
      · have f1 : t.n.toNat = n := by omega
        have f2 : t.d.toNat = d := by omega
        rw [f1, f2] at hxt
        obtain ⟨s1, s2, -⟩ := lnSym_ok n (by omega) n1
        obtain ⟨r1, -⟩ := dsSym_ok n3 n4
        rcases List.mem_cons.1 hxt with rfl | hxt
        · exact ⟨Nat.zero_lt_two, by show lnSym n < 286; omega⟩
        · rw [List.mem_singleton] at hxt
          subst hxt
          exact ⟨Nat.one_lt_two, by show dsSym d < 30; omega⟩
  · rw [List.mem_singleton] at hxm
    subst hxm
    exact ⟨Nat.zero_lt_two, by show 256 < 286; decide⟩
theorem pas_len : ∀ {ts : List Tk}, (∀ t ∈ ts, t.okB = true) → (pasT ts).length ≤ (ts.map Tk.size).sum + 1
  | [], _ => by show 1 ≤ 0 + 1; omega
  | t :: r, h => by
    have e : pasT (t :: r) = paT t ++ pasT r := by unfold pasT; rw [List.flatMap_cons, List.append_assoc]
    have h2 := pas_len (ts := r) fun x hx => h x (List.mem_cons_of_mem _ hx)
    have h1 : (paT t).length ≤ t.size := by
      rcases tk_okD (h t List.mem_cons_self) with h0 | ⟨n, d, e1, e2, n1, n2, n3, n4⟩
      · unfold paT Tk.size
        rw [if_pos h0, h0]
        simp
      · have h0 : t.n ≠ 0 := by omega
        unfold paT Tk.size
        rw [if_neg h0]
        have f1 : t.n.toNat = n := by omega
        first | (rw [if_neg h0]; simp only [List.length_cons, List.length_nil]; omega) | (simp; omega)
    rw [e, List.length_append, List.map_cons, List.sum_cons]
    omega
theorem dyn_sz {ts : List Tk} {P : Pt} (h : DynF ts P) (hx : ∀ t ∈ ts, t.okB = true ∧ t.b < 256) : szP P ≤ 15 * (ts.map Tk.size).sum + 7100 := by
  obtain ⟨gA, gD, gC, hA, hD, hC, rfl⟩ := h.ex
  have cA := best_chk hA.1 (by decide) (by decide)
  have cD := best_chk hD.1 (by decide) (by decide)
  have K := DynK.of (gl gC 19) (gl_len gA 286) (gl_len gD 30) cA cD
  obtain ⟨-, -, -, -, r4⟩ := rnL_best K.h16 hC.1
  have s1 := putR_sz K.x1.2 K.y1.2 K.k.2 r4
  have s2 := pas_sz (lq_15 cA) (lq_15 cD) (ts := ts) fun t ht => (hx t ht).1
  unfold dynP
  simp only [szP_app, szP]
  omega
set_option maxRecDepth 20000 in
set_option maxHeartbeats 4000000 in
theorem tdynamic_any {G : Nat → Prop} {W : World} {base B : Nat} (vb : Value) (p : Option Addr) (c : Nat) (ts : List Tk) (w : World) (h : WrY G base B [] W w) (hp : RowAt encT 3 W p ts) (hG : ∀ a, p = some a → G a.block) (hx : ∀ t ∈ ts, t.okB = true ∧ t.b < 256) (hl : ts.length ≤ 1048576) (hm : (ts.map Tk.size).sum ≤ 524288) :
    Calls Tryz.prog 45 #[.agg #[vb, .slice p ts.length c], .pointer (some ⟨B, 0, none⟩)] w fun e w' => ∃ P, e = .returned (.tuple #[]) ∧ DynF ts P ∧ WrY G base B P W w' := by
  have HGW : Hid (∀ b, G b → b < W.heap.size) := Lib.hid fun b hb => by obtain ⟨_, _, _, _, _, h5⟩ := h; exact (h5 b hb).2.2
  have H := Lib.hid h
  have Hp := Lib.hid hp
  have HG := Lib.hid hG
  have Hx := Lib.hid hx
  have Hm := Lib.hid hm
  obtain ⟨n, hn⟩ : ∃ n, ts.length = n := ⟨_, rfl⟩
  have Hn := Lib.hid hn
  rw [hn] at hl ⊢
  clear h hp hG hx hm hn
  go_enter Tryz.func45, Tryz.ntmps45
  go_wp2_with fail
  have hb0 := Below.al1 w (.cells #[vb, .slice p n c] 53)
  have hz0 := World.alloc_heap_new w (.cells #[vb, .slice p n c] 53)
  have hs0 : (w.alloc (.cells #[vb, .slice p n c] 53)).heap.size = w.heap.size + 1 := World.size_alloc _ _
  have hY := H.out.more hb0
  have hWw : W.heap.size ≤ w.heap.size := H.out.turns.size
  generalize w.alloc (.cells #[vb, .slice p n c] 53) = w1 at *
  obtain ⟨Z, hZ⟩ : ∃ Z, w.heap.size = Z := ⟨_, rfl⟩
  rw [hZ] at hz0 hs0 hY hWw ⊢
  have HF : Hid (WrF (fun b => G b ∨ Z ≤ b ∧ b < w1.heap.size) w1 (fun w' => w'.heap[Z]? = some (.cells #[vb, .slice p n c] 53)) base B [] w1) := Lib.hid (WrF.start hY fun w' ht => (ht.block Z (by omega) (fun h => h (.inr ⟨Nat.le_refl _, by omega⟩))).trans hz0)
  have HT1 : Hid (Turns (fun b => ¬ G b) W w1) := Lib.hid (H.out.turns.trans (Turns.of_below' hb0))
  have Hs1 := Lib.hid hs0
  clear hb0 hz0 hs0 hY
  refine Calls.mono (headD_any (kind := 2) true HF.out (by decide) (by decide)) ?_
  rintro _ w2 ⟨rfl, hF2⟩
  have hz2 : w2.heap[Z]? = some (.cells #[vb, .slice p n c] 53) := hF2.now
  have HY2 := Lib.hid hF2.done
  have x1 : w2.cell? ⟨Z, 1, none⟩ = some (.slice p n c) := cell_heap hz2 rfl
  have hs2 : Z < w2.heap.size := lt_heap hz2
  clear hF2 HF
  go_wp2_with fail
  refine Calls.mono (told_made p n c w2) ?_
  rintro _ w3 ⟨rfl, rfl⟩
  have Hb3 := Lib.hid (Below.al1 w2 (.cells #[.slice p n c] 50))
  have Hz3 := Lib.hid (World.alloc_heap_new w2 (.cells #[.slice p n c] 50))
  have Hs3 : Hid ((w2.alloc (.cells #[.slice p n c] 50)).heap.size = w2.heap.size + 1) := Lib.hid (World.size_alloc _ _)
  generalize w2.alloc (.cells #[.slice p n c] 50) = w3 at *
  obtain ⟨Y, hY⟩ : ∃ Y, w2.heap.size = Y := ⟨_, rfl⟩
  have hu3 : w3.heap.size = Y + 1 := by have := Hs3.out; omega
  rw [hY] at Hz3 hs2
  rw [hY]
  have HYe := Lib.hid hY
  have Hz2 := Lib.hid hz2
  clear hY Hs3 hz2 x1
  go_wp2_with fail
  have hb4 := Below.al1 w3 (.cells #[.int .i64 286, .int .i64 30] 3)
  have hc40 : (w3.alloc (.cells #[.int .i64 286, .int .i64 30] 3)).cell? ⟨w3.heap.size, 0, none⟩ = some (.int .i64 ((286 : Nat) : Int)) := cell_heap (World.alloc_heap_new _ _) rfl
  have hc41 : (w3.alloc (.cells #[.int .i64 286, .int .i64 30] 3)).cell? ⟨w3.heap.size, 1, none⟩ = some (.int .i64 ((30 : Nat) : Int)) := cell_heap (World.alloc_heap_new _ _) rfl
  have hBl4 := cell_later hb4 (cell_heap (i := 0) Hz3.out rfl)
  have HB24 := Lib.hid (Below.thn Hb3.out hb4)
  have HY3 : Hid (WrY (fun b => G b ∨ Z ≤ b ∧ b < w1.heap.size) base B [(1, 1), (2, 2)] w1 w2) := Lib.hid (HY2.out.congr (by simp))
  have HTg : Hid (∀ w', Below w2.heap.size w2 w' → Turns (fun b => ¬ G b) W w') := Lib.hid fun w' hb => (HT1.out.trans (HY3.out.turns.mono fun i _ hi hg => hi (.inl hg))).trans (Turns.of_below' hb)
  have hT4 := HTg.out _ HB24.out
  have hRow4 : RowAt encT 3 (w3.alloc (.cells #[.int .i64 286, .int .i64 30] 3)) p ts := Hp.out.turns hT4 fun a ha h => h (HG.out a ha)
  have hpl4 : ∀ a, p = some a → a.block < (w3.alloc (.cells #[.int .i64 286, .int .i64 30] 3)).heap.size := fun a ha => Nat.lt_of_lt_of_le (HGW.out _ (HG.out a ha)) hT4.size
  have hs4 : (w3.alloc (.cells #[.int .i64 286, .int .i64 30] 3)).heap.size = w3.heap.size + 1 := World.size_alloc _ _
  have hit := told_iter Y p c ts (w3.alloc (.cells #[.int .i64 286, .int .i64 30] 3)) (fun b => b = Y ∨ ∃ a, p = some a ∧ a.block = b) (by rw [Hn.out]; exact hBl4) hRow4 Hx.out (by rw [Hn.out]; exact hl) (fun b hb => by
    rcases hb with rfl | ⟨a, ha, rfl⟩
    · omega
    · exact hpl4 a ha) (.inl rfl) (fun a ha => .inr ⟨a, ha, rfl⟩)
  have hpl := pas_len (ts := ts) fun t ht => (Hx.out t ht).1
  have hbc := dbest_any 109 #[.pointer (some ⟨Y, 0, none⟩)] (pasT ts) 15 w3.heap.size 2 2 (two 286 30) (w3.alloc (.cells #[.int .i64 286, .int .i64 30] 3)) (enters_of Tryz.func109 (by kernel_rfl) rfl) hit (fun b hb => by
    rcases hb with rfl | ⟨a, ha, rfl⟩
    · omega
    · exact hpl4 a ha) (by decide) (fun j hj => by
      rcases (show j = 0 ∨ j = 1 by omega) with rfl | rfl
      · exact hc40
      · exact hc41) (fun j _ => by unfold two; split <;> decide) (pas_in Hx.out) (by have := Hm.out; omega) (by decide) (fun j _ => by unfold two; split <;> decide) (fun j _ => best_may (by unfold two; split <;> decide) (by have := Hm.out; omega) (by decide) (by decide) (by unfold two; split <;> decide))
  rw [hu3] at hbc
  have Hbc := Lib.hid hbc
  generalize w3.alloc (.cells #[.int .i64 286, .int .i64 30] 3) = w4 at *
  clear hb4 hc40 hc41 hBl4 hit hbc hpl hT4 hRow4 hpl4 Hb3 Hz3 HY2
  refine Calls.mono Hbc.out ?_
  rintro _ w5 ⟨vc, gg, fga, fca, fgc, fcc, rfl, hB, hb5⟩
  obtain ⟨g, cp, cur5, xa, ya, xc, yc, xa', ya', xc', yc', rfl, hg5, hz5, ⟨k0, k1, k2, k3⟩, hC, hD, hBA, hBD⟩ := hB.both (n0 := 286) (n1 := 30) (by rw [ctZ_len]; rfl) (by rw [ctZ_len]; rfl)
  have HBest : Hid (BestOf (ctZ (cntP (pasT ts) 0) 286) 15 (gg 0) ∧ BestOf (ctZ (cntP (pasT ts) 1) 30) 15 (gg 1)) := Lib.hid ⟨hBA, hBD⟩
  have Hb5 := Lib.hid (Below.thn HB24.out hb5)
  have x0 : w5.cell? ⟨g, 0, none⟩ = some (.slice (some ⟨xa, 0, none⟩) 286 ya) := cell_heap hz5 k0
  have x1 : w5.cell? ⟨g, 1, none⟩ = some (.slice (some ⟨xc, 0, none⟩) 286 yc) := cell_heap hz5 k1
  have x2 : w5.cell? ⟨g, 2, none⟩ = some (.slice (some ⟨xa', 0, none⟩) 30 ya') := cell_heap hz5 k2
  have x3 : w5.cell? ⟨g, 3, none⟩ = some (.slice (some ⟨xc', 0, none⟩) 30 yc') := cell_heap hz5 k3
  have Hz5 := Lib.hid (And.intro hz5 (And.intro k0 (And.intro k1 (And.intro k2 k3))))
  have HCD := Lib.hid (And.intro hC hD)
  have hw24 := HB24.out.size
  have hgY : Y ≤ g := by have := HYe.out; omega
  have hxY : Y ≤ xa ∧ Y ≤ xc ∧ Y ≤ xa' ∧ Y ≤ xc' := by have := hC.a; have := hC.c; have := hD.a; have := hD.c; have := HYe.out; omega
  clear hB hb5 hBA hBD hz5 k0 k1 k2 k3 hC hD Hbc hg5 HB24
  go_upto_region 3 with (fail)
  have hqq := After.ne w5
  have C0 := After.rule x0
  have C1 := After.rule x1
  have C2 := After.rule x2
  have C3 := After.rule x3
  refine wp_region_head 7 (by kernel_rfl) (by kernel_rfl) (by kernel_rfl) ?_
  repeat (refine Lq_step (fun K hK => ?_); go_simp; (refine hK _ ?_; clear hK K))
  refine Lq_nil ?_
  intro w6 hb6
  simp only [List.drop_succ_cons, List.drop_zero]
  have Hb6 := Lib.hid (Below.thn Hb5.out hb6)
  have hs5 := hb6.size
  have HC6 := Lib.hid (HCD.out.1.below hb6)
  have HD6 := Lib.hid (HCD.out.2.below hb6)
  have Hz6 : Hid (w6.heap[g]? = some (.cells cur5 135)) := Lib.hid ((hb6.block _ (lt_heap Hz5.out.1)).trans Hz5.out.1)
  clear C0 C1 C2 C3 hqq hb6 x0 x1 x2 x3
  have hY6 := HY3.out.more Hb6.out
  rw [HYe.out] at hY6
  have hlC := HC6.out.lt
  have hlD := HD6.out.lt
  have hchA := best_chk HBest.out.1.1 (by decide) (by decide)
  have hchD := best_chk HBest.out.2.1 (by decide) (by decide)
  have hdn := downD_any w6 hY6 HC6.out HD6.out ⟨.inr ⟨hxY.1, hlC.1⟩, .inr ⟨hxY.2.2.1, hlD.1⟩, .inr ⟨hxY.2.1, hlC.2⟩, .inr ⟨hxY.2.2.2, hlD.2⟩⟩ (gl_len _ _) (gl_len _ _) hchA hchD (by simp only [szP]; decide)
  have Hdn := Lib.hid hdn
  clear hdn hY6 hchA hchD hlC hlD
  go_wp2_with fail
  refine Calls.mono Hdn.out ?_
  rintro _ w7 ⟨gC, rfl, hBC, hY7⟩
  have HY7 := Lib.hid hY7
  have HBC := Lib.hid hBC
  have hZ6 : w6.heap[Z]? = some (.cells #[vb, .slice p n c] 53) := (Hb6.out.block _ (lt_heap Hz2.out)).trans Hz2.out
  have hs1 := Hs1.out
  have hZ7 : w7.heap[Z]? = some (.cells #[vb, .slice p n c] 53) := (hY7.turns.block _ (lt_heap hZ6) (fun h => h (.inl (.inr ⟨Nat.le_refl _, by omega⟩)))).trans hZ6
  have x1 : w7.cell? ⟨Z, 1, none⟩ = some (.slice p n c) := cell_heap hZ7 rfl
  have HT7 : Hid (Turns (fun b => ¬ G b) W w7) := Lib.hid ((HTg.out _ Hb6.out).trans (hY7.turns.mono fun b _ hb hg => hb (.inl (.inl hg))))
  have HCd : Hid (∀ w', Turns (fun b => ¬ ((G b ∨ Z ≤ b ∧ b < w1.heap.size) ∨ Y ≤ b ∧ b < w6.heap.size)) w6 w' → CdF g (two xa xa') (two ya ya') (two xc xc') (two yc yc') [gl (gg 0) 286, gl (gg 1) 30] w') := Lib.hid fun w' ht => by
    have hlC := HC6.out.lt
    have hlD := HD6.out.lt
    refine cdf_cur2 (t := 135) (HC6.out.turns ht (fun h => h (.inr ⟨hxY.1, hlC.1⟩)) (fun h => h (.inr ⟨hxY.2.1, hlC.2⟩))) (HD6.out.turns ht (fun h => h (.inr ⟨hxY.2.2.1, hlD.1⟩)) (fun h => h (.inr ⟨hxY.2.2.2, hlD.2⟩))) ((ht.block _ (lt_heap Hz6.out) (fun h => h (.inr ⟨hgY, lt_heap Hz6.out⟩))).trans Hz6.out) ?_ ?_ ?_ ?_
    · rw [gl_len]; exact Hz5.out.2.1
    · rw [gl_len]; exact Hz5.out.2.2.1
    · rw [gl_len]; exact Hz5.out.2.2.2.1
    · rw [gl_len]; exact Hz5.out.2.2.2.2
  clear hY7 hBC hZ6 hZ7 hs1 hZ hxY hgY hs5 hs4 hw24 Hdn HC6 HD6 Hz6 HCD Hz5 Hz2 HY3 hs2 HYe
  go_wp2_with fail
  refine Calls.mono (told_made p n c w7) ?_
  rintro _ z8 ⟨rfl, rfl⟩
  have hb8 := Below.al1 w7 (.cells #[.slice p n c] 50)
  have hBl8 : (w7.alloc (.cells #[.slice p n c] 50)).cell? ⟨w7.heap.size, 0, none⟩ = some (.slice p n c) := cell_heap (World.alloc_heap_new _ _) rfl
  have hs8 : (w7.alloc (.cells #[.slice p n c] 50)).heap.size = w7.heap.size + 1 := World.size_alloc _ _
  have hY8 := HY7.out.more hb8
  have hT8 : Turns (fun b => ¬ G b) W (w7.alloc (.cells #[.slice p n c] 50)) := HT7.out.trans (Turns.of_below' hb8)
  have hT68 := HY7.out.turns.trans (Turns.of_below' hb8)
  generalize w7.alloc (.cells #[.slice p n c] 50) = w8 at *
  have hRow8 : RowAt encT 3 w8 p ts := Hp.out.turns hT8 fun a ha h => h (HG.out a ha)
  have hpl8 : ∀ a, p = some a → a.block < w8.heap.size := fun a ha => Nat.lt_of_lt_of_le (HGW.out _ (HG.out a ha)) hT8.size
  have hit := told_iter w7.heap.size p c ts w8 (fun b => b = w7.heap.size ∨ ∃ a, p = some a ∧ a.block = b) (by rw [Hn.out]; exact hBl8) hRow8 Hx.out (by rw [Hn.out]; exact hl) (fun b hb => by
    rcases hb with rfl | ⟨a, ha, rfl⟩
    · omega
    · exact hpl8 a ha) (.inl rfl) (fun a ha => .inr ⟨a, ha, rfl⟩)
  have hDyn : DynF ts (dynP ts (gl (gg 0) 286) (gl (gg 1) 30) (gl gC 19)) := ⟨gg 0, gg 1, gC, HBest.out.1, HBest.out.2, HBC.out, rfl⟩
  obtain ⟨hcod, h0⟩ := best_ok Hx.out HBest.out.1.1 HBest.out.2.1
  have h01 : ∀ j, j < [gl (gg 0) 286, gl (gg 1) 30].length → j = 0 ∨ j = 1 := fun j hj => by simp at hj; omega
  have hsl := slay_any (P := [(1, 1), (2, 2)] ++ putR (cutX (gl (gg 0) 286)) (cutY (gl (gg 1) 30)) (gl gC 19) (trN (ordO (gl gC 19)) 4 19)) 109 #[.pointer (some ⟨w7.heap.size, 0, none⟩)] (pasT ts) g cp (two xa xa') (two ya ya') (two xc xc') (two yc yc') [gl (gg 0) 286, gl (gg 1) 30] w8 (enters_of Tryz.func109 (by kernel_rfl) rfl) hit (Nat.le_refl _) (fun b hb => ⟨by
    rcases hb with rfl | ⟨a, ha, rfl⟩
    · exact .inr ⟨Nat.le_refl _, by omega⟩
    · exact .inl (.inl (.inl (HG.out a ha))), rfl⟩) hY8 (fun w' ht => HCd.out w' (hT68.trans (ht.mono fun b _ hb hg => hb (.inl hg)))) (fun j hj => by
      rcases h01 j hj with rfl | rfl
      · exact ⟨best_chk HBest.out.1.1 (by decide) (by decide), by show (gl (gg 0) 286).length ≤ 320; rw [gl_len]; decide⟩
      · exact ⟨best_chk HBest.out.2.1 (by decide) (by decide), by show (gl (gg 1) 30).length ≤ 320; rw [gl_len]; decide⟩) (pas_ok (fun t ht => (Hx.out t ht).1) hcod ⟨by rw [gl_len]; decide, h0⟩) (by
      have h5 := dyn_sz hDyn (fun t ht => Hx.out t ht)
      have := Hm.out
      unfold dynP at h5
      rw [szP_app] at h5
      omega)
  have Hsl := Lib.hid hsl
  have HT8 := Lib.hid hT8
  have HDyn := Lib.hid hDyn
  clear hb8 hBl8 hs8 hY8 hT8 hT68 hRow8 hpl8 hit hDyn hcod h0 h01 hsl x1
  go_wp2_with fail
  refine Calls.mono Hsl.out ?_
  rintro _ w10 ⟨rfl, hY10⟩
  have HY10 := Lib.hid (hY10.less (G := G) (W := W) (fun b hb => ⟨.inl (.inl (.inl hb)), HGW.out b hb⟩) HT8.out)
  clear hY10 Hsl
  go_wp2
  go_end0
  exact ⟨_, rfl, HDyn.out, HY10.out⟩
end Go.Proofs.YtoladolgmeanhaaGreat
