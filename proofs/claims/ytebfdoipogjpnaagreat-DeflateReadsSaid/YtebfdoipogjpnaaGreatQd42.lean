/- Several texts in one, each with its own head. -/
import Derived.Test.YtebfdoipogjpnaaGreatQd41
import Derived.BigQuiet
import Derived.Test.YtebfdoipogjpnaaGreatQd28
/- deflate: ownCodes. -/
namespace Go.Proofs.YtebfdoipogjpnaaGreat
open Go.RowKit Go.Maps

set_option maxRecDepth 20000 in
set_option maxHeartbeats 4000000 in
theorem downD_any {G : Nat → Prop} {W : World} {base B : Nat} {P : Pt} {A D : List Nat} {v1 v2 : Value} {ga ca gc cc ga' ca' gc' cc' b0 : Nat} (w : World) (h : WrY G base B P W w) (h1 : Cdr W b0 v1 A ga ca gc cc) (h2 : Cdr W b0 v2 D ga' ca' gc' cc') (hG : G ga ∧ G ga' ∧ G gc ∧ G gc') (hA : A.length = 286) (hD : D.length = 30) (hcA : chk A = 0) (hcD : chk D = 0) (hm : szP P + 8000 ≤ 8388608) :
    Calls Tryz.prog 98 #[.pointer (some ⟨B, 0, none⟩), v1, v2] w fun e w' => ∃ gC, e = .returned (.tuple #[]) ∧ BestOf (ctZ (cntP (rnL (A.take (trN A 257 286) ++ D.take (trN D 1 30))) 0) 19) 7 gC ∧ WrY G base B (P ++ putR (A.take (trN A 257 286)) (D.take (trN D 1 30)) (gl gC 19) (trN (ordO (gl gC 19)) 4 19)) W w' := by
  have HGW : Hid (∀ b, G b → b < W.heap.size) := Lib.hid fun b hb => by obtain ⟨_, _, _, _, _, h5⟩ := h; exact (h5 b hb).2.2
  have Hm := Lib.hid hm
  obtain rfl := h1.e
  obtain rfl := h2.e
  have HW1 := h1.turns h.turns (fun hn => hn hG.1) (fun hn => hn hG.2.2.1)
  have HW2 := h2.turns h.turns (fun hn => hn hG.2.1) (fun hn => hn hG.2.2.2)
  have H := Lib.hid h
  have H1 := Lib.hid HW1
  have H2 := Lib.hid HW2
  have hcm : ca ≤ maxLen ∧ ca' ≤ maxLen := ⟨HW1.km, HW2.km⟩
  have hka := HW1.ka
  have hka' := HW2.ka
  rw [hA, hD]
  rw [hA] at hka
  rw [hD] at hka'
  have HA := Lib.hid (And.intro hA (And.intro hD (And.intro hcA hcD)))
  clear h h1 h2 HW1 HW2 hA hD hcA hcD hm
  go_enter Tryz.func98, Tryz.ntmps98
  have hal := Below.al (Below.al1 w (.cells #[.slice (some ⟨ga, 0, none⟩) 286 ca, .slice (some ⟨gc, 0, none⟩) 286 cc] 151)) (.cells #[.slice (some ⟨ga', 0, none⟩) 30 ca', .slice (some ⟨gc', 0, none⟩) 30 cc'] 151)
  have hg := heap_pushed [.cells #[.slice (some ⟨ga, 0, none⟩) 286 ca, .slice (some ⟨gc, 0, none⟩) 286 cc] 151, .cells #[.slice (some ⟨ga', 0, none⟩) 30 ca', .slice (some ⟨gc', 0, none⟩) 30 cc'] 151] w
  simp only [List.foldl_cons, List.foldl_nil] at hg
  go_upto_region 1 with (fail)
  generalize (w.alloc (.cells #[.slice (some ⟨ga, 0, none⟩) 286 ca, .slice (some ⟨gc, 0, none⟩) 286 cc] 151)).alloc (.cells #[.slice (some ⟨ga', 0, none⟩) 30 ca', .slice (some ⟨gc', 0, none⟩) 30 cc'] 151) = w1 at *
  have y1 : w1.cell? ⟨w.heap.size, 0, none⟩ = some (.slice (some ⟨ga, 0, none⟩) 286 ca) := cell_heap ((hg 0 _).2 rfl) rfl
  have y2 : w1.cell? ⟨w.heap.size + 1, 0, none⟩ = some (.slice (some ⟨ga', 0, none⟩) 30 ca') := cell_heap ((hg 1 _).2 rfl) rfl
  have Hal := Lib.hid hal
  have HT1 : Hid (∀ n, Calls Tryz.prog 128 #[.slice (some ⟨ga, 0, none⟩) 286 ca, .int .i64 257] (w1.drewN n) fun e w' => e = .returned (.slice (some ⟨ga, 0, none⟩) (trN A 257 286) ca) ∧ w' = w1.drewN n) := Lib.hid fun n => by
    obtain ⟨a1, -, -, -⟩ := HA.out
    obtain ⟨cur, t, b1, b2⟩ := H1.out.oa
    have := trimmed_any ga 0 ca 257 A (w1.drewN n) (by omega) (by omega) (by decide) (fun i hi => by
      rw [Nat.zero_add]
      exact cell_heap (((Below.drewN' hal n).block ga (lt_heap b1)).trans b1) (b2 i hi))
    rwa [a1] at this
  have HT2 : Hid (∀ n, Calls Tryz.prog 128 #[.slice (some ⟨ga', 0, none⟩) 30 ca', .int .i64 1] (w1.drewN n) fun e w' => e = .returned (.slice (some ⟨ga', 0, none⟩) (trN D 1 30) ca') ∧ w' = w1.drewN n) := Lib.hid fun n => by
    obtain ⟨-, a1, -, -⟩ := HA.out
    obtain ⟨cur, t, b1, b2⟩ := H2.out.oa
    have := trimmed_any ga' 0 ca' 1 D (w1.drewN n) (by omega) (by omega) (by decide) (fun i hi => by
      rw [Nat.zero_add]
      exact cell_heap (((Below.drewN' hal n).block ga' (lt_heap b1)).trans b1) (b2 i hi))
    rwa [a1] at this
  clear hal hg
  go_quiet ((go_at_call 128; first | with_reducible exact Calls.quiet_of_same (HT1.out _) | with_reducible exact Calls.quiet_of_same (HT2.out _)))
  rename_i nq
  have Hq := Lib.hid (Below.drewN' Hal.out nq)
  generalize w1.drewN nq = u1 at *
  obtain ⟨X, hX⟩ : ∃ X, A.take (trN A 257 286) = X := ⟨_, rfl⟩
  obtain ⟨Y, hY⟩ : ∃ Y, D.take (trN D 1 30) = Y := ⟨_, rfl⟩
  have cutA : Cut A (trN A 257 286) := by have := Cut.of A 257; rwa [HA.out.1] at this
  have cutD : Cut D (trN D 1 30) := by have := Cut.of D 1; rwa [HA.out.2.1] at this
  have hlX : X.length = trN A 257 286 := by rw [← hX]; exact cutA.len
  have hlY : Y.length = trN D 1 30 := by rw [← hY]; exact cutD.len
  have R1 : Rw8 u1 (.slice (some ⟨ga, 0, none⟩) (trN A 257 286) ca) X := by
    rw [← hX]
    exact ⟨rw8_take cutA.le (by rw [HA.out.1]; exact hka) hcm.1 (H1.out.below Hq.out).oa, fun c h => by cases h⟩
  have R2 : Rw8 u1 (.slice (some ⟨ga', 0, none⟩) (trN D 1 30) ca') Y := by
    rw [← hY]
    exact ⟨rw8_take cutD.le (by rw [HA.out.2.1]; exact hka') hcm.2 (H2.out.below Hq.out).oa, fun c h => by cases h⟩
  have x1 : 257 ≤ X.length ∧ X.length ≤ 286 := by rw [hlX]; exact ⟨trN_least A 257 286 (by decide), trN_le _ _ _⟩
  have y1' : 1 ≤ Y.length ∧ Y.length ≤ 30 := by rw [hlY]; exact ⟨trN_least D 1 30 (by decide), trN_le _ _ _⟩
  have HX := Lib.hid (And.intro hX (And.intro cutA (And.intro hY cutD)))
  have HR := Lib.hid (And.intro R1 R2)
  rw [← hlX, ← hlY] at HR
  have hHR := HR
  rw [← hlX, ← hlY]
  clear hX hY cutA cutD R1 R2 hlX hlY y1 y2 hHR HT1 HT2
  go_wp2_with fail
  refine Calls.mono (concatD_two HR.out.1 HR.out.2 (by omega) (by omega)) ?_
  rintro _ u2 ⟨vr, rfl, hor, hbr⟩
  obtain ⟨gr, cr, cur, rfl, hgr, hcr, hzr, hcl⟩ := owns_block hor (by rw [List.length_append]; omega)
  have hck : chk X = 0 ∧ chk Y = 0 := ⟨by rw [← HX.out.1]; exact HX.out.2.1.chk HA.out.2.2.1, by rw [← HX.out.2.2.1]; exact HX.out.2.2.2.chk HA.out.2.2.2⟩
  have H16 : Hid (∀ i, lq (X ++ Y) i < 16) := Lib.hid (lq_app16 (lq_15 hck.1) (lq_15 hck.2))
  obtain ⟨nx, hnx⟩ : ∃ n, X.length = n := ⟨_, rfl⟩
  obtain ⟨ny, hny⟩ : ∃ n, Y.length = n := ⟨_, rfl⟩
  obtain ⟨V, hV⟩ : ∃ V, X ++ Y = V := ⟨_, rfl⟩
  have hVl : V.length = nx + ny := by rw [← hV, List.length_append, hnx, hny]
  rw [hV] at hcl H16 hcr
  rw [hnx] at x1
  rw [hny] at y1'
  rw [hVl] at hcr
  have HN := Lib.hid (And.intro hnx (And.intro hny (And.intro hV hVl)))
  rw [hV, hVl, hnx, hny]
  have Hcl : Hid (∀ i, i < V.length → u2.cell? ⟨gr, i, none⟩ = some (.int .u8 ((lq V i : Nat) : Int))) := Lib.hid fun i hi => cell_heap hzr (hcl i _ (by rw [List.getElem?_map, List.getElem?_eq_getElem hi, ← lq_at hi]; rfl))
  have Hb2 := Lib.hid (Below.thn Hq.out hbr)
  have hrl := lt_heap hzr
  have hgrw : w.heap.size ≤ gr := Nat.le_trans Hq.out.size hgr
  clear hnx hny hV hVl hck hor hbr hgr hzr hcl H1 H2 HA HR Hal Hq
  go_wp2_with fail
  refine Calls.mono (runs_made (some ⟨gr, 0, none⟩) (nx + ny) cr u2) ?_
  rintro _ u3 ⟨rfl, rfl⟩
  have Hb3 := Lib.hid (Below.al1 u2 (.cells #[.slice (some ⟨gr, 0, none⟩) (nx + ny) cr] 22))
  have Hz3 := Lib.hid (World.alloc_heap_new u2 (.cells #[.slice (some ⟨gr, 0, none⟩) (nx + ny) cr] 22))
  have Hs3 : Hid ((u2.alloc (.cells #[.slice (some ⟨gr, 0, none⟩) (nx + ny) cr] 22)).heap.size = u2.heap.size + 1) := Lib.hid (World.size_alloc _ _)
  generalize u2.alloc (.cells #[.slice (some ⟨gr, 0, none⟩) (nx + ny) cr] 22) = u3 at *
  obtain ⟨Z, hZ⟩ : ∃ Z, u2.heap.size = Z := ⟨_, rfl⟩
  have hu3 : u3.heap.size = Z + 1 := by have := Hs3.out; omega
  rw [hZ] at Hz3 hrl
  rw [hZ]
  have hZw : w.heap.size ≤ Z := by have := Hb2.out.size; omega
  have HZ2 := Lib.hid hZ
  clear hZ Hs3
  go_wp2_with fail
  have hb4 := Below.al1 u3 (.cells #[.int .i64 19] 3)
  have hc4 : (u3.alloc (.cells #[.int .i64 19] 3)).cell? ⟨u3.heap.size, 0, none⟩ = some (.int .i64 ((19 : Nat) : Int)) := cell_heap (World.alloc_heap_new _ _) rfl
  have hs4 : (u3.alloc (.cells #[.int .i64 19] 3)).heap.size = u3.heap.size + 1 := World.size_alloc _ _
  have hBl4 := cell_later hb4 (cell_heap (i := 0) Hz3.out rfl)
  have hcl4 : ∀ i, i < V.length → (u3.alloc (.cells #[.int .i64 19] 3)).cell? ⟨gr, 0 + i, none⟩ = some (.int .u8 ((lq V i : Nat) : Int)) := fun i hi => by
    rw [Nat.zero_add]
    exact cell_later hb4 (cell_later Hb3.out (Hcl.out i hi))
  have hVl := HN.out.2.2.2
  have hit := runs_iter Z gr 0 cr V (u3.alloc (.cells #[.int .i64 19] 3)) (fun b => b = Z ∨ b = gr) (by rw [hVl]; exact hBl4) hcl4 (fun i => by have := H16.out i; omega) (by omega) (by omega) (fun b hb => by rcases hb with rfl | rfl <;> omega) (.inl rfl) (.inr rfl)
  obtain ⟨c1, c2⟩ := rnL_cnt H16.out
  have hbc := dbest_any 167 #[.pointer (some ⟨Z, 0, none⟩)] (rnL V) 7 u3.heap.size 1 1 (fun _ => 19) (u3.alloc (.cells #[.int .i64 19] 3)) (enters_of Tryz.func167 (by kernel_rfl) rfl) hit (fun b hb => by rcases hb with rfl | rfl <;> omega) (by decide) (fun j hj => by have e : j = 0 := (by omega); subst e; exact hc4) (fun _ _ => by decide) c1 (by omega) (by decide) (fun _ _ => by decide) (fun j _ => best_may (by decide) (by omega) (by decide) (by decide) (by decide))
  rw [hu3] at hbc
  have Hbc := Lib.hid hbc
  have Hb4 := Lib.hid (Below.thn Hb2.out (Below.thn Hb3.out hb4))
  have Hb34 := Lib.hid (Below.thn Hb3.out hb4)
  generalize u3.alloc (.cells #[.int .i64 19] 3) = u4 at *
  clear hb4 hc4 hBl4 hcl4 hit hbc c1 c2
  refine Calls.mono Hbc.out ?_
  rintro _ u5 ⟨vc, gg, fga, fca, fgc, fcc, rfl, hB, hb5⟩
  obtain ⟨g, cp, cur5, xa, ya, xc, yc, rfl, hg5, hz5, k0, k1, hC, hBest⟩ := hB.one (n0 := 19) (by rw [ctZ_len])
  have HBest := Lib.hid hBest
  obtain ⟨C, hCe⟩ : ∃ C, gl (gg 0) 19 = C := ⟨_, rfl⟩
  have hlC : C.length = 19 := by rw [← hCe, gl_len]
  obtain ⟨r0, r1, r2, r3, r4⟩ := rnL_best H16.out hBest.1
  rw [hCe] at hC r0 r1 r2 r3 r4
  have HCe := Lib.hid hCe
  have HC := Lib.hid hC
  have HR := Lib.hid (And.intro r0 (And.intro r1 (And.intro r2 (And.intro r3 r4))))
  have Hz5 := Lib.hid (And.intro hz5 (And.intro k0 (And.intro k1 hlC)))
  have x0 : u5.cell? ⟨g, 0, none⟩ = some (.slice (some ⟨xa, 0, none⟩) 19 ya) := cell_heap hz5 k0
  have Hb5 := Lib.hid (Below.thn Hb4.out hb5)
  have Hb35 := Lib.hid (Below.thn Hb34.out hb5)
  have hg5w : w.heap.size ≤ g := Nat.le_trans Hb4.out.size hg5
  have hxaw : w.heap.size ≤ xa := Nat.le_trans Hb4.out.size hC.a
  have hord := ordered_any xa 0 ya C u5 hlC (fun i => by have := r3 i; omega) (fun i hi => by
    obtain ⟨cur', t', a1, a2⟩ := hC.oa
    rw [Nat.zero_add]
    exact cell_heap a1 (a2 i hi))
  have Hord := Lib.hid hord
  clear hB hb5 hBest hCe hC r0 r1 r2 r3 r4 hz5 k0 k1 hlC hord Hbc Hb34
  go_wp2_with fail
  refine Calls.mono Hord.out ?_
  rintro _ u6 ⟨v6, rfl, ho6, hb6⟩
  obtain ⟨g6, c6, cur6, rfl, hg6, hc6, hz6, hq6⟩ := owns_block ho6 (by decide)
  have hol := ordO_len C
  have hc6' : ∀ i, i < (ordO C).length → u6.cell? ⟨g6, i, none⟩ = some (.int .u8 ((lq (ordO C) i : Nat) : Int)) := fun i hi => cell_heap hz6 (hq6 i _ (by rw [List.getElem?_map, List.getElem?_eq_getElem hi, ← lq_at hi]; rfl))
  have htr := trimmed_any g6 0 c6 4 (ordO C) u6 (by rw [hol]; exact hc6.1) (by rw [hol]; decide) (by decide) (fun i hi => by rw [Nat.zero_add]; exact hc6' i hi)
  rw [hol] at htr hc6'
  have Htr := Lib.hid htr
  have Hc6 := Lib.hid hc6'
  have Hb6 := Lib.hid (Below.thn Hb5.out hb6)
  have Hb36 := Lib.hid (Below.thn Hb35.out hb6)
  have Hb56 := Lib.hid hb6
  have hg6w : w.heap.size ≤ g6 := Nat.le_trans Hb5.out.size hg6
  have hg6l := lt_heap hz6
  obtain ⟨kk, hkk⟩ : ∃ k, trN (ordO C) 4 19 = k := ⟨_, rfl⟩
  have hk19 : kk ≤ 19 := by rw [← hkk]; exact trN_le _ _ _
  have hk4 : 4 ≤ kk := by rw [← hkk]; exact trN_least _ _ _ (by decide)
  rw [hkk] at Htr
  have Hkk := Lib.hid hkk
  clear ho6 hb6 hz6 hq6 hol hc6' htr hkk Hord Hb35 x0
  go_wp2_with fail
  refine Calls.mono Htr.out ?_
  rintro _ u7 ⟨rfl, rfl⟩
  clear Htr
  have hWs : W.heap.size ≤ w.heap.size := H.out.turns.size
  have hC7 := HC.out.below Hb56.out
  have hz7 := (Hb56.out.block _ (lt_heap Hz5.out.1)).trans Hz5.out.1
  have hxcw : w.heap.size ≤ xc := Nat.le_trans Hb4.out.size HC.out.c
  have hgl := lt_heap hz7
  have hCl := hC7.lt
  have hc7' := Hcl.out
  obtain ⟨G1, hG1⟩ : ∃ G1 : Nat → Prop, G1 = fun b => G b ∨ w.heap.size ≤ b ∧ b < u7.heap.size := ⟨_, rfl⟩
  have hin : ∀ b, w.heap.size ≤ b → b < u7.heap.size → G1 b := fun b h1 h2 => by rw [hG1]; exact .inr ⟨h1, h2⟩
  have hY7 : WrY G1 base B P u7 u7 := by rw [hG1]; exact H.out.more Hb6.out
  have HT7 : Hid (Turns (fun b => ¬ G b) W u7) := Lib.hid (H.out.turns.trans (Turns.of_below' Hb6.out))
  have HGG : Hid (∀ b, G b → G1 b) := Lib.hid fun b hb => by rw [hG1]; exact .inl hb
  have HF : Hid (WrF G1 u7 (fun w' => Turns (fun b => ¬ G1 b) u7 w') base B P u7) := Lib.hid (WrF.start hY7 fun _ ht => ht)
  have HCd : Hid (∀ w', Turns (fun b => ¬ G1 b) u7 w' → CdF g (fun _ => xa) (fun _ => ya) (fun _ => xc) (fun _ => yc) [C] w') := Lib.hid fun w' ht => by
    refine cdf_cur1 (t := 151) (hC7.turns ht (fun h => h (hin _ hxaw hCl.1)) (fun h => h (hin _ hxcw hCl.2))) ((ht.block _ hgl (fun h => h (hin _ hg5w hgl))).trans hz7) ?_ ?_
    · rw [Hz5.out.2.2.2]; exact Hz5.out.2.1
    · rw [Hz5.out.2.2.2]; exact Hz5.out.2.2.1
  have HRun : Hid (∀ w', Turns (fun b => ¬ G1 b) u7 w' → ∀ i, i < V.length → w'.cell? ⟨gr, i, none⟩ = some (.int .u8 ((lq V i : Nat) : Int))) := Lib.hid fun w' ht i hi => by
    have hc := cell_later Hb36.out (Hcl.out i hi)
    exact ht.cell hc (fun h => h (hin _ hgrw (World.block_lt_of_cell? _ _ hc)))
  have HSz : Hid (∀ w', Turns (fun b => ¬ G1 b) u7 w' → ∀ i, i < 19 → w'.cell? ⟨g6, i, none⟩ = some (.int .u8 ((lq (ordO C) i : Nat) : Int))) := Lib.hid fun w' ht i hi => ht.cell (Hc6.out i hi) (fun h => h (hin _ hg6w hg6l))
  have Hgr : Hid (G1 gr) := Lib.hid (hin _ hgrw (Nat.lt_of_lt_of_le hrl (by have := Hb36.out.size; have := HZ2.out; omega)))
  have HlC := Lib.hid Hz5.out.2.2.2
  have e1 : (nx : Int) - 257 = ((nx - 257 : Nat) : Int) := by omega
  have e2 : (ny : Int) - 1 = ((ny - 1 : Nat) : Int) := by omega
  have e3 : (kk : Int) - 4 = ((kk - 4 : Nat) : Int) := by omega
  clear hC7 hz7 hxcw hgl hCl hc7' hY7 hin hG1 hxaw hg5w hgrw hg6w hg6l hrl hZw hu3 Hcl Hc6 Hz5 HC Hb2 Hb3 Hz3 Hb4 Hb5 Hb6 Hb36 Hb56
  go_wp2_with fail
  refine Calls.mono (numberD_any (v := nx - 257) (k := 5) HF.out (by show _ < 32; omega) (by decide) (by have := Hm.out; omega)) ?_
  rintro _ z1 ⟨rfl, h1⟩
  have HF1 := Lib.hid h1
  clear h1 HF
  go_wp2_with fail
  refine Calls.mono (numberD_any (v := ny - 1) (k := 5) HF1.out (by show _ < 32; omega) (by decide) (by have := Hm.out; simp only [szP_app, szP]; omega)) ?_
  rintro _ z2 ⟨rfl, h2⟩
  have HF2 := Lib.hid h2
  clear h2 HF1
  go_wp2_with fail
  refine Calls.mono (numberD_any (v := kk - 4) (k := 4) HF2.out (by show _ < 16; omega) (by decide) (by have := Hm.out; simp only [szP_app, szP]; omega)) ?_
  rintro _ z3 ⟨rfl, h3⟩
  have HF3 := Lib.hid h3
  clear h3 HF2 e1 e2 e3
  go_wp2_with fail
  go_loopw [50] (fun iv wr => ∃ i : Nat, iv = .int .i64 (i : Int) ∧ i ≤ kk ∧ Hid (WrF G1 u7 (fun w' => Turns (fun b => ¬ G1 b) u7 w') base B (P ++ [(nx - 257, 5)] ++ [(ny - 1, 5)] ++ [(kk - 4, 4)] ++ (ordL.take i).map (fun i => (lq C i, 3))) wr)) (fun iv _ => kk - (intOf iv).toNat)
  case atStart => exact ⟨0, rfl, Nat.zero_le _, Lib.hid (HF3.out.congr (by simp))⟩
  case round =>
    clear HF3
    obtain ⟨i, rfl, hi, HW⟩ := hrel
    by_cases hin : i < kk
    · have d1 : decide ((i : Int) < (kk : Int)) = true := by simp; omega
      have cx := HSz.out _ HW.out.now i (by omega)
      have hx : lq (ordO C) i < 8 := by rw [ordO_at C (by omega)]; exact HR.out.2.2.2.1 _
      have Ht := Lib.hid (take_ord C (i := i) (by omega))
      have Hsz := Lib.hid (szP_ord C (i := i) (by omega))
      obtain ⟨x, hxx⟩ : ∃ x, lq (ordO C) i = x := ⟨_, rfl⟩
      rw [hxx] at cx hx Ht
      have i0 : (0 : Int) ≤ (i : Int) := by omega
      have i1 : (i : Int) < (kk : Int) := by omega
      have hw1 : IntKind.i64.wrap (x : Int) = (x : Int) := IntWalk.i64_in _ (by omega)
      clear hxx
      go_wp2_with fail
      refine Calls.mono (numberD_any (v := x) (k := 3) HW.out hx (by decide) (by have := Hm.out; have := Hsz.out; simp only [szP_app, szP]; omega)) ?_
      rintro _ w6 ⟨rfl, h6⟩
      have H6 := Lib.hid (h6.congr (List.append_assoc _ _ _))
      rw [← Ht.out] at H6
      clear h6
      go_wp2
      go_roundw
      case rel => exact ⟨i + 1, by go_num, by omega, H6⟩
      case measure => simp [intOf]; omega
    · obtain rfl : i = kk := by omega
      have Hsz := Lib.hid (szP_ord C (i := i) (by omega))
      go_wp2_with fail
      refine Calls.mono (runs_made (some ⟨gr, 0, none⟩) (nx + ny) cr wr) ?_
      rintro _ z4 ⟨rfl, rfl⟩
      have hb9 := Below.al1 wr (.cells #[.slice (some ⟨gr, 0, none⟩) (nx + ny) cr] 22)
      have hBl9 : (wr.alloc (.cells #[.slice (some ⟨gr, 0, none⟩) (nx + ny) cr] 22)).cell? ⟨wr.heap.size, 0, none⟩ = some (.slice (some ⟨gr, 0, none⟩) (nx + ny) cr) := cell_heap (World.alloc_heap_new _ _) rfl
      have hs9 : (wr.alloc (.cells #[.slice (some ⟨gr, 0, none⟩) (nx + ny) cr] 22)).heap.size = wr.heap.size + 1 := World.size_alloc _ _
      have hY9 := HW.out.done.more hb9
      have hT9 := HW.out.now.trans (Turns.of_below' (T := fun b => ¬ G1 b) hb9)
      have hTW := HT7.out.trans (hT9.mono fun b _ hb hg => hb (HGG.out b hg))
      have hVl := HN.out.2.2.2
      have hcl9 := HRun.out _ hT9
      generalize wr.alloc (.cells #[.slice (some ⟨gr, 0, none⟩) (nx + ny) cr] 22) = w9 at *
      have hit := runs_iter wr.heap.size gr 0 cr V w9 (fun b => b = wr.heap.size ∨ b = gr) (by rw [hVl]; exact hBl9) (fun i hi => by rw [Nat.zero_add]; exact hcl9 i hi) (fun i => by have := H16.out i; omega) (by omega) (by omega) (fun b hb => by
        rcases hb with rfl | rfl
        · omega
        · exact World.block_lt_of_cell? _ _ (hcl9 0 (by omega))) (.inl rfl) (.inr rfl)
      have hsl := slay_any (P := P ++ [(nx - 257, 5)] ++ [(ny - 1, 5)] ++ [(i - 4, 4)] ++ (ordL.take i).map (fun i => (lq C i, 3))) 167 #[.pointer (some ⟨wr.heap.size, 0, none⟩)] (rnL V) g cp (fun _ => xa) (fun _ => ya) (fun _ => xc) (fun _ => yc) [C] w9 (enters_of Tryz.func167 (by kernel_rfl) rfl) hit (Nat.le_refl _) (fun b hb => ⟨by
        rcases hb with rfl | rfl
        · exact .inr ⟨Nat.le_refl _, by omega⟩
        · exact .inl Hgr.out, rfl⟩) hY9 (fun w' ht => HCd.out w' (hT9.trans (ht.mono fun b _ hb hg => hb (.inl hg)))) (fun j hj => by
          have e : j = 0 := by simp at hj; omega
          subst e
          exact ⟨HR.out.1, by show C.length ≤ 320; rw [HlC.out]; decide⟩) HR.out.2.2.1 (by
          have := Hm.out
          have := Hsz.out
          have := HR.out.2.2.2.2
          simp only [szP_app, szP]; omega)
      have Hsl := Lib.hid hsl
      have HTW := Lib.hid hTW
      clear hb9 hBl9 hs9 hY9 hT9 hTW hcl9 hit hsl
      go_wp2_with fail
      refine Calls.mono Hsl.out ?_
      rintro _ w10 ⟨rfl, hY10⟩
      have HY10 := Lib.hid (hY10.less (G := G) (W := W) (fun b hb => ⟨.inl (HGG.out b hb), HGW.out b hb⟩) HTW.out)
      clear hY10 Hsl
      go_wp2
      go_end0
      obtain ⟨n1, n2, n3, n4⟩ := HN.out
      refine ⟨gg 0, rfl, ?_, ?_⟩
      · rw [HX.out.1, HX.out.2.2.1, n3]
        exact HBest.out
      · rw [HX.out.1, HX.out.2.2.1, HCe.out, Hkk.out]
        refine HY10.out.congr ?_
        unfold putR
        rw [n1, n2, n3]
        simp only [List.append_assoc, List.cons_append, List.nil_append]

end Go.Proofs.YtebfdoipogjpnaaGreat

/- deflate, plainly: each of the three forms tells the bytes; none is too long; the shortest one of them is what is answered. -/
namespace Go.Proofs.YtebfdoipogjpnaaGreat
open Go.RowKit

/-- Laid numbers tell bytes, whatever stands behind. -/
def Tells (P : Pt) (b : List Nat) : Prop := ∃ Q, SameP P Q ∧ okP Q ∧ ∀ l q lim, AtP l 0 (Q ++ q) → b.length ≤ lim → InfBl l lim 0 [] (.go (szP Q) b)
theorem SameP.bytP {P Q : Pt} (h : SameP P Q) : bytP P = bytP Q := by unfold Proofs.YtebfdoipogjpnaaGreat.bytP; rw [h.1, h.2]
theorem Tells.infl {P : Pt} {b : List Nat} (h : Tells P b) (m : List Nat) {lim : Nat} (hl : lim ≤ 524288) (hb : b.length ≤ lim) : Infl (bytP P ++ m) lim b (bytP P).length 0 := by
  obtain ⟨Q, h1, h2, h3⟩ := h
  rw [h1.bytP]
  have t := h3 (Proofs.YtebfdoipogjpnaaGreat.bytP Q ++ m) [] lim (by rw [List.append_nil]; exact atP_all h2 m) hb
  have := Infl.go lim _ _ rfl hl t
  rw [bytP_len, show (szP Q + 7) / 8 = alN (szP Q) / 8 by unfold alN; omega]
  exact this

theorem xp_okD : ∀ {ts : List Tk} {o : List Nat}, (xp ts o).2 = 0 → ∀ t ∈ ts, t.okB = true
  | [], _, _, t, ht => by cases ht
  | x :: r, o, h, t, ht => by
    by_cases e : tkErr x o.length = 0
    · rw [xp_cons_ok e] at h
      rcases List.mem_cons.1 ht with rfl | ht
      · exact (tkErr_zero e).1
      · exact xp_okD h t ht
    · rw [xp_cons_bad e] at h
      exact absurd h e
theorem stB_tells {b : List Nat} (hb : ∀ x ∈ b, x < 256) : Tells (putB 0 (stB b)) b :=
  ⟨_, SameP.refl _, bnB_okP (stB_ok hb) 0, fun l q lim h hl => by
    have := (bn_bl lim (stB_ne b) (stB_ok hb) h).1 (by rw [stB_tell]; exact hl)
    rw [stB_tell, Nat.zero_add] at this
    exact this⟩

/-- The fixed form. -/
def fixP (ts : List Tk) : Pt := [(1, 1), (1, 2)] ++ (pasT ts).flatMap (plP [fixA, fixD])
theorem fix_tells {ts : List Tk} {b : List Nat} (hx : xp ts [] = (b, 0)) (h256 : ∀ t ∈ ts, t.b < 256) : Tells (fixP ts) b := by
  have h2 : (xp ts []).2 = 0 := by rw [hx]
  have hok := xp_okD h2
  have hB : okB [Bn.fx (ts.map tn)] [] := ⟨xp_may h2 fun t ht => fix_cod (hok t ht) (h256 t ht), trivial⟩
  have ht : tellB [Bn.fx (ts.map tn)] [] = b := by
    show toldT (ts.map tn) [] = b
    rw [← xp_told h2, hx]
  refine ⟨putB 0 [Bn.fx (ts.map tn)], ?_, bnB_okP hB 0, fun l q lim h hl => ?_⟩
  · show SameP (fixP ts) (((1, 1) :: (1, 2) :: (laidT fixA fixD (ts.map tn) ++ endP fixA)) ++ [])
    rw [List.append_nil]
    exact (SameP.refl [(1, 1), (1, 2)]).app (pas_laid hok)
  · have := (bn_bl lim (by simp) hB h).1 (by rw [ht]; exact hl)
    rw [ht, Nat.zero_add] at this
    exact this

def cutX (A : List Nat) : List Nat := A.take (trN A 257 286)
def cutY (D : List Nat) : List Nat := D.take (trN D 1 30)
/-- The form with codes of its own. -/
def dynP (ts : List Tk) (A D C : List Nat) : Pt := [(1, 1), (2, 2)] ++ putR (cutX A) (cutY D) C (trN (ordO C) 4 19) ++ (pasT ts).flatMap (plP [A, D])
structure DynF (ts : List Tk) (P : Pt) : Prop where
  ex : ∃ gA gD gC, BestOf (ctZ (cntP (pasT ts) 0) 286) 15 gA ∧ BestOf (ctZ (cntP (pasT ts) 1) 30) 15 gD ∧ BestOf (ctZ (cntP (rnL (cutX (gl gA 286) ++ cutY (gl gD 30))) 0) 19) 7 gC ∧ P = dynP ts (gl gA 286) (gl gD 30) (gl gC 19)
theorem DynF.det {ts : List Tk} {P P' : Pt} (h : DynF ts P) (k : DynF ts P') : P = P' := by
  obtain ⟨gA, gD, gC, a1, a2, a3, rfl⟩ := h.ex
  obtain ⟨gA', gD', gC', b1, b2, b3, rfl⟩ := k.ex
  have e1 := a1.det b1
  have e2 := a2.det b2
  rw [ctZ_len] at e1 e2
  rw [← e1, ← e2] at b3
  have e3 := a3.det b3
  rw [ctZ_len] at e3
  rw [e1, e2, e3]

theorem pasT_c {ts : List Tk} {x : Pa} (h : x ∈ pasT ts) : x.c < 2 := by
  rcases List.mem_append.1 h with h | h
  · obtain ⟨t, -, hx⟩ := List.mem_flatMap.1 h
    unfold paT at hx
    split at hx
    · rw [List.mem_singleton] at hx; subst hx; exact Nat.zero_lt_two
    · rcases List.mem_cons.1 hx with rfl | hx
      · exact Nat.zero_lt_two
      · rw [List.mem_singleton] at hx; subst hx; exact Nat.one_lt_two
  · rw [List.mem_singleton] at h; subst h; exact Nat.zero_lt_two
theorem cut_flat {A D : List Nat} {m k : Nat} (hA : Cut A m) (hD : Cut D k) {xs : List Pa} (h : ∀ x ∈ xs, x.c < 2) : xs.flatMap (plP [A, D]) = xs.flatMap (plP [A.take m, D.take k]) := by
  induction xs with
  | nil => rfl
  | cons x r ih =>
    rw [List.flatMap_cons, List.flatMap_cons, ih fun y hy => h y (List.mem_cons_of_mem _ hy), cut_pl hA hD x (h x List.mem_cons_self)]

structure DynK (A D C : List Nat) : Prop where
  x1 : 257 ≤ (cutX A).length ∧ (cutX A).length ≤ 286
  y1 : 1 ≤ (cutY D).length ∧ (cutY D).length ≤ 30
  k : 4 ≤ trN (ordO C) 4 19 ∧ trN (ordO C) 4 19 ≤ 19
  cx : chk (cutX A) = 0
  cy : chk (cutY D) = 0
  h16 : ∀ i, lq (cutX A ++ cutY D) i < 16
  hz : ∀ j, trN (ordO C) 4 19 ≤ j → j < 19 → lq C (ordL.getD j 0) = 0
theorem DynK.of {A D : List Nat} (C : List Nat) (hA : A.length = 286) (hD : D.length = 30) (cA : chk A = 0) (cD : chk D = 0) : DynK A D C := by
  have cutA : Cut A (trN A 257 286) := by have := Cut.of A 257; rwa [hA] at this
  have cutD : Cut D (trN D 1 30) := by have := Cut.of D 1; rwa [hD] at this
  have cx : chk (cutX A) = 0 := cutA.chk cA
  have cy : chk (cutY D) = 0 := cutD.chk cD
  refine ⟨?_, ?_, ⟨trN_least _ _ _ (by decide), trN_le _ _ _⟩, cx, cy, lq_app16 (lq_15 cx) (lq_15 cy), fun j h1 h2 => ?_⟩
  · show 257 ≤ (A.take _).length ∧ (A.take _).length ≤ 286
    rw [cutA.len]
    exact ⟨trN_least A 257 286 (by decide), trN_le _ _ _⟩
  · show 1 ≤ (D.take _).length ∧ (D.take _).length ≤ 30
    rw [cutD.len]
    exact ⟨trN_least D 1 30 (by decide), trN_le _ _ _⟩
  · rw [← ordO_at C h2]
    exact trN_zero (ordO C) 4 19 j h1 h2

theorem rn_okP {C : List Nat} {xs : List Pa} (h : ∀ x ∈ xs, PaOk [C] x) : okP (xs.flatMap (plP [C])) := fun p hp => by
  obtain ⟨x, hx, hp⟩ := List.mem_flatMap.1 hp
  obtain ⟨-, -, -, h4, -⟩ := h x hx
  unfold plP at hp
  rcases List.mem_cons.1 hp with rfl | hp
  · exact cd_low _ _ _
  · rw [List.mem_singleton] at hp; subst hp; exact h4
theorem putR_ok {X Y C : List Nat} {k : Nat} (x1 : X.length ≤ 286) (y1 : Y.length ≤ 30) (k4 : k ≤ 19) (h8 : ∀ i, lq C i < 8) (h : ∀ x ∈ rnL (X ++ Y), PaOk [C] x) : okP (putR X Y C k) := by
  refine okP_cons (by show X.length - 257 < 32; omega) (okP_cons (by show Y.length - 1 < 32; omega) (okP_cons (by show k - 4 < 16; omega) (okP_app (fun p hp => ?_) (rn_okP h))))
  obtain ⟨i, -, rfl⟩ := List.mem_map.1 hp
  exact h8 i
theorem putR_sz {X Y C : List Nat} {k : Nat} (x1 : X.length ≤ 286) (y1 : Y.length ≤ 30) (k4 : k ≤ 19) (h : szP ((rnL (X ++ Y)).flatMap (plP [C])) ≤ 22 * (X ++ Y).length) : szP (putR X Y C k) ≤ 7023 := by
  unfold putR
  rw [List.length_append] at h
  simp only [szP, szP_app, szP_threes, List.length_take]
  have : min k ordL.length ≤ 19 := by omega
  omega

theorem DynF.tells {ts : List Tk} {P : Pt} {b : List Nat} (h : DynF ts P) (hx : xp ts [] = (b, 0)) (h256 : ∀ t ∈ ts, t.b < 256) : Tells P b ∧ szP P ≤ 15 * b.length + 7100 := by
  have h2 : (xp ts []).2 = 0 := by rw [hx]
  have hok := xp_okD h2
  obtain ⟨gA, gD, gC, hA, hD, hC, rfl⟩ := h.ex
  obtain ⟨hcod, h0⟩ := best_ok (fun t ht => ⟨hok t ht, h256 t ht⟩) hA.1 hD.1
  have cA := best_chk hA.1 (by decide) (by decide)
  have cD := best_chk hD.1 (by decide) (by decide)
  have lA := gl_len gA 286
  have lD := gl_len gD 30
  have lC := gl_len gC 19
  have K := DynK.of (gl gC 19) lA lD cA cD
  have cutA : Cut (gl gA 286) (trN (gl gA 286) 257 286) := by have := Cut.of (gl gA 286) 257; rwa [lA] at this
  have cutD : Cut (gl gD 30) (trN (gl gD 30) 1 30) := by have := Cut.of (gl gD 30) 1; rwa [lD] at this
  obtain ⟨cC, r1, r2, r3, r4⟩ := rnL_best K.h16 hC.1
  have hfl := cut_flat cutA cutD (xs := pasT ts) fun x hx => pasT_c hx
  have hm : mayT (cutX (gl gA 286)) (cutY (gl gD 30)) (ts.map tn) [] := xp_may h2 fun t ht => cutA.codT cutD (hcod t ht)
  have h06 : 0 < lq (cutX (gl gA 286)) 256 := by show 0 < lq ((gl gA 286).take _) 256; rw [cutA.lq]; exact h0
  refine ⟨⟨(1, 1) :: ((2, 2) :: (putR (cutX (gl gA 286)) (cutY (gl gD 30)) (gl gC 19) (trN (ordO (gl gC 19)) 4 19) ++ (laidT (cutX (gl gA 286)) (cutY (gl gD 30)) (ts.map tn) ++ endP (cutX (gl gA 286))))), ?_, ?_, fun l q lim h hl => ?_⟩, ?_⟩
  · unfold dynP
    rw [hfl, List.append_assoc]
    exact (SameP.refl [(1, 1), (2, 2)]).app ((SameP.refl _).app (pas_laid hok))
  · exact okP_cons (by decide) (okP_cons (by decide) (okP_app (putR_ok K.x1.2 K.y1.2 K.k.2 r3 r2) (okP_app (tnT_okP hm) (okP_one (cd_low _ _ _)))))
  · obtain ⟨p1, q1, h⟩ := h
    have ht : toldT (ts.map tn) [] = b := by rw [← xp_told h2, hx]
    have := dyn_bk (lim := lim) K.x1.1 K.x1.2 K.y1.1 K.y1.2 K.k.1 K.k.2 lC cC K.hz K.h16 r1 K.cx K.cy h06 hm h (by rw [ht]; exact hl)
    rw [ht] at this
    have h3 := InfBl.last 0 [] q1 p1 _ _ this
    simp only [szP, Nat.zero_add] at h3 ⊢
    exact h3
  · have s1 := putR_sz K.x1.2 K.y1.2 K.k.2 r4
    have s2 := pas_sz (lq_15 cA) (lq_15 cD) (ts := ts) hok
    have s3 := xp_sizes h2
    rw [hx] at s3
    simp only [List.length_nil, Nat.zero_add] at s3
    rw [← s3] at s2
    unfold dynP
    simp only [szP_app, szP]
    omega
theorem fix_sz {ts : List Tk} {b : List Nat} (hx : xp ts [] = (b, 0)) : szP ((pasT ts).flatMap (plP [fixA, fixD])) ≤ 15 * b.length + 15 := by
  have h2 : (xp ts []).2 = 0 := by rw [hx]
  have s2 := pas_sz (lq_15 fixA_chk) (lq_15 fixD_chk) (ts := ts) (xp_okD h2)
  have s3 := xp_sizes h2
  rw [hx] at s3
  simp only [List.length_nil, Nat.zero_add] at s3
  rwa [← s3] at s2

/-- Of two forms the shorter one, the first one if they are as long. -/
def pickP (P Q : Pt) : Pt := if szP Q < szP P then Q else P
theorem pickP_le (P Q : Pt) : szP (pickP P Q) ≤ szP P ∧ szP (pickP P Q) ≤ szP Q := by
  unfold pickP
  split <;> omega
theorem pickP_tells {P Q : Pt} {b : List Nat} (h : Tells P b) (k : Tells Q b) : Tells (pickP P Q) b := by
  unfold pickP
  split
  · exact k
  · exact h
/-- The answer: a stream that hangs on the bytes alone. -/
structure DefS (b S : List Nat) : Prop where
  ex : ∃ ts P, Toks (fb b) b.length 0 ts ∧ (∀ t ∈ ts, t.b < 256) ∧ DynF ts P ∧ S = bytP (pickP (pickP (putB 0 (stB b)) (fixP ts)) P)
theorem DefS.det {b S S' : List Nat} (h : DefS b S) (k : DefS b S') : S = S' := by
  obtain ⟨ts, P, h1, -, h2, rfl⟩ := h.ex
  obtain ⟨ts', P', k1, -, k2, rfl⟩ := k.ex
  obtain rfl := h1.uniq k1
  obtain rfl := h2.det k2
  rfl
theorem DefS.infl {b S : List Nat} (h : DefS b S) (hb : ∀ x ∈ b, x < 256) (hl : b.length ≤ 524288) (m : List Nat) {lim : Nat} (h1 : lim ≤ 524288) (h2 : b.length ≤ lim) : Infl (S ++ m) lim b S.length 0 := by
  obtain ⟨ts, P, h3, h4, h5, rfl⟩ := h.ex
  have hx := h3.tell hl
  exact (pickP_tells (pickP_tells (stB_tells hb) (fix_tells hx h4)) (h5.tells hx h4).1).infl m h1 h2
theorem DefS.small {b S : List Nat} (h : DefS b S) {ts : List Tk} (ht : Toks (fb b) b.length 0 ts) : S.length ≤ (szP (putB 0 (stB b)) + 7) / 8 ∧ S.length ≤ (szP (fixP ts) + 7) / 8 := by
  obtain ⟨ts', P, h3, -, h5, rfl⟩ := h.ex
  obtain rfl := ht.uniq h3
  have a := pickP_le (pickP (putB 0 (stB b)) (fixP ts)) P
  have c := pickP_le (putB 0 (stB b)) (fixP ts)
  rw [bytP_len]
  omega
theorem DefS.lt {b S : List Nat} (h : DefS b S) : ∀ x ∈ S, x < 256 := by
  obtain ⟨ts, P, -, -, -, rfl⟩ := h.ex
  exact byts_lt _ _

end Go.Proofs.YtebfdoipogjpnaaGreat
