/- inflate: the statement's lay of tokens: codes of their own, the last block. (Written by a program, out of the walk in InfLo.) -/
import Derived.Test.YtdcmalbbijchiaaZq43
namespace Go.Proofs.Ytdcmalbbijchiaa
open Go.RowKit Go.Maps

set_option maxRecDepth 20000 in
set_option maxHeartbeats 16000000 in
theorem lay_t21 {G : Nat → Prop} {W : World} {F : World → Prop} {base B : Nat} {P : Pt} (k : Nat) (p q : Option Addr) (c m d : Nat) (ts : List Tk) (w : World) (hk : k < 256) (h0 : k % 3 = 2) (h : WrF G W F base B P w)
    (hT : ∀ w, F w → ts = [] ∨ RowAt encT 3 w p ts) (hc : ts.length ≤ c ∧ c ≤ maxLen) (hx : ∀ t ∈ ts, t.okB = true ∧ t.b < 256) (hl : ts.length ≤ 300) (hm : szP P ≤ 8000000) :
    Calls Try.prog 6 #[.pointer (some ⟨B, 0, none⟩), .agg #[.int .u8 (k : Int), .slice p ts.length c], .bool true, .slice q m d] w fun e w' => e = .returned (.tuple #[]) ∧ ∃ A D, CodS ts A D ∧ KindC k A D ∧ WrF G W F base B (P ++ (Bn.dy A D (ts.map tn)).put (szP P) true) w' := by
  have H := Lib.hid h
  have HT := Lib.hid hT
  have Hx := Lib.hid hx
  have Hm := Lib.hid hm
  have Hc := Lib.hid hc
  obtain ⟨n, hn⟩ : ∃ n, ts.length = n := ⟨_, rfl⟩
  have Hn := Lib.hid hn
  rw [hn] at hl ⊢
  have hk3 : (k : Int) % 3 = 2 := by omega
  have Hk := Lib.hid hk
  clear h hT hx hm hc hn h0
  go_enter Try.func6, Try.ntmps6
  have hb0 := Below.al1 w (.cells #[.int .u8 (k : Int), .slice p n c] 28)
  have H0 := Lib.hid (H.out.more hb0 (F2 := fun w' => w'.cell? ⟨w.heap.size, 0, none⟩ = some (.int .u8 (k : Int)) ∧ w'.cell? ⟨w.heap.size, 1, none⟩ = some (.slice p n c)) (fun w' ht => ⟨new_cell ht (Nat.le_refl _) (cell_heap (World.alloc_heap_new w _) rfl), new_cell ht (Nat.le_refl _) (cell_heap (World.alloc_heap_new w _) rfl)⟩))
  clear hb0 H
  go_wp2_with fail
  refine Calls.mono (H0.out.put (v := 1) (k := 1) (by decide) (by decide) (by have := Hm.out; omega)) ?_
  rintro _ w1 ⟨rfl, h1⟩
  have H1 := Lib.hid h1
  obtain ⟨c0, c1⟩ := h1.now.2
  generalize w.heap.size = b0 at *
  clear h1 H0
  go_wp2_with fail
  refine Calls.mono (H1.out.put (v := 2) (k := 2) (by decide) (by decide) (by have := Hm.out; simp only [szP_app, szP]; omega)) ?_
  rintro _ w2 ⟨rfl, h2⟩
  have H2 := Lib.hid h2
  obtain ⟨c0, c1⟩ := h2.now.2
  have hrow : RowIn encT 3 w2 (.slice p n c) ts := ⟨p, c, by rw [Hn.out], Hc.out.1, Hc.out.2, HT.out _ h2.now.1⟩
  have Hcall := Lib.hid (lengths_any k (.slice p n c) ts w2 Hk.out hrow Hx.out (by rw [Hn.out]; exact hl))
  clear h2 H1 hrow
  go_wp2_with fail
  refine Calls.mono Hcall.out ?_
  rintro _ w3 ⟨va, vb, A, D, rfl, hC, hKC, ho1, ho2, hb3⟩
  have HC := Lib.hid hC
  have HKC := Lib.hid hKC
  have hla := hC.la
  have hld := hC.ld
  have h256 := hC.h256.1
  have hd0 : 0 < D.length := by
    rcases hKC with ⟨-, -, rfl⟩ | ⟨-, -, e⟩
    · decide
    · omega
  have c0 := cell_later hb3 c0
  have c1 := cell_later hb3 c1
  obtain ⟨ga, cca, rfl, hga, hxa⟩ := u8_cell ho1 (by omega)
  obtain ⟨gb, ccb, rfl, hgb, hxb⟩ := u8_cell ho2 hd0
  obtain ⟨bs3, hbs3⟩ : ∃ b, w2.heap.size = b := ⟨_, rfl⟩
  have H3 := Lib.hid (H2.out.more hb3 (F2 := fun w' => w'.ownsRow bs3 5 1 (.slice (some ⟨ga, 0, none⟩) A.length cca) A.length (A.map u8v) ∧ w'.ownsRow bs3 5 1 (.slice (some ⟨gb, 0, none⟩) D.length ccb) D.length (D.map u8v))
    (fun w' ht => by rw [← hbs3]; exact ⟨new_owns ht ho1, new_owns ht ho2⟩))
  have Ho1 := Lib.hid ho1
  have Ho2 := Lib.hid ho2
  clear hC hKC Hcall H2 hb3 hxa hxb ho1 ho2 hga hgb hbs3
  go_wp2_with fail
  refine Calls.mono (H3.out.put (v := 29) (k := 5) (by decide) (by decide) (by have := Hm.out; simp only [szP_app, szP]; omega)) ?_
  rintro _ a1 ⟨rfl, h⟩
  have H3a := Lib.hid h
  clear h H3
  go_wp2_with fail
  refine Calls.mono (H3a.out.put (v := 29) (k := 5) (by decide) (by decide) (by have := Hm.out; simp only [szP_app, szP]; omega)) ?_
  rintro _ a2 ⟨rfl, h⟩
  have H3b := Lib.hid h
  clear h H3a
  go_wp2_with fail
  refine Calls.mono (H3b.out.put (v := 15) (k := 4) (by decide) (by decide) (by have := Hm.out; simp only [szP_app, szP]; omega)) ?_
  rintro _ a3 ⟨rfl, h⟩
  have H3c := Lib.hid h
  clear h H3b c0 c1
  go_wp2_with fail
  go_loopw [11, 12] (fun v iv wr => ∃ i : Nat, iv = .int .i64 (i : Int) ∧ i ≤ 19 ∧ Hid (wr.ownsRow a3.heap.size 5 1 v i ((clens.take i).map u8v)) ∧ Hid (Below a3.heap.size a3 wr)) (fun _ iv _ => 19 - (intOf iv).toNat)
  case atStart => exact ⟨0, rfl, Nat.zero_le _, Lib.hid (World.ownsRow_nil _ _ _ _), Lib.hid (Below.refl _ _)⟩
  case round =>
    obtain ⟨i, rfl, hi, HO, HB⟩ := hrel
    obtain ⟨p5, c5, rfl⟩ := owns_slice HO.out
    have hs := HB.out.size
    by_cases hin : i < 19
    · have d1 : decide ((i : Int) < 19) = true := by simp; omega
      by_cases h12 : 12 < i
      · have d2 : decide ((i : Int) > 12) = true := by simp; omega
        have Hat := Lib.hid (clens_hi i hin h12)
        go_wp2_with (at_builtin; refine wpList_append_one wr rfl (.tmp 91) (.tmp 93) 23 rfl a3.heap.size 5 _ 1 u8_info Try.underlying23 rfl (.slice p5 i c5) i _ rfl HO.out (.int .u8 5) _ rfl rfl ?n30 ?n40 hs ?_)
        case n30 => simp only [maxLen]; omega
        case n40 => omega
        intro g1 cap1 w5 ho1 ht1 hg1
        have HO1 : Hid (w5.ownsRow a3.heap.size 5 1 (.slice (some ⟨g1, 0, none⟩) (i + 1) cap1) (i + 1) ((clens.take (i + 1)).map u8v)) := Lib.hid (by rw [Hat.out, List.map_append, List.map_take]; exact ho1)
        have HB1 := Lib.hid (HB.out.trans (ht1.below hs (fun k hk => (HO.out.lt k hk).1)))
        clear ho1 ht1 hg1
        go_wp2
        go_roundw
        case rel => exact ⟨i + 1, by go_num, by omega, HO1, HB1⟩
        case measure => simp [intOf]; omega
      · have d2 : decide ((i : Int) > 12) = false := by simp; omega
        have Hat := Lib.hid (clens_lo i (by omega))
        go_wp2_with (at_builtin; refine wpList_append_one wr rfl (.tmp 91) (.tmp 93) 23 rfl a3.heap.size 5 _ 1 u8_info Try.underlying23 rfl (.slice p5 i c5) i _ rfl HO.out (.int .u8 4) _ rfl rfl ?n31 ?n41 hs ?_)
        case n31 => simp only [maxLen]; omega
        case n41 => omega
        intro g1 cap1 w5 ho1 ht1 hg1
        have HO1 : Hid (w5.ownsRow a3.heap.size 5 1 (.slice (some ⟨g1, 0, none⟩) (i + 1) cap1) (i + 1) ((clens.take (i + 1)).map u8v)) := Lib.hid (by rw [Hat.out, List.map_append, List.map_take]; exact ho1)
        have HB1 := Lib.hid (HB.out.trans (ht1.below hs (fun k hk => (HO.out.lt k hk).1)))
        clear ho1 ht1 hg1
        go_wp2
        go_roundw
        case rel => exact ⟨i + 1, by go_num, by omega, HO1, HB1⟩
        case measure => simp [intOf]; omega
    · obtain rfl : i = 19 := by omega
      have hle := HO.out
      rw [show clens.take 19 = clens from rfl] at hle
      obtain ⟨gl1, gl2, e, hgl, hxl⟩ := u8_cell (A := clens) hle (by decide)
      injection e with e e9 e2
      clear e9
      subst e e2
      rw [show clens.length = 19 from rfl] at hxl
      have Hle := Lib.hid (Rw8.own hle rfl).row
      have H4 := Lib.hid (H3c.out.more HB.out (fun w' ht => fun i hi => new_cell ht hgl (hxl i hi)))
      generalize wr = a4 at *
      clear HO HB hle H3c hxl hgl
      rw [show ((19 : Nat) : Int) = 19 from rfl]
      go_wp2_with fail
      refine Calls.mono (order_new a4) ?_
      rintro _ a5 ⟨go1, go2, rfl, hgo, hxo, hb5⟩
      have H5 := Lib.hid (H4.out.more hb5 (fun w' ht => fun i hi => new_cell ht hgo (hxo i hi)))
      have Hle5 := Lib.hid (Hle.out.below hb5)
      clear H4 Hle hxo hgo hb5
      go_wp2_with fail
      go_loopw [15] (fun iv wr => ∃ i : Nat, iv = .int .i64 (i : Int) ∧ i ≤ 19 ∧ Hid (WrF G W (HdF F b0 k (.slice p n c) A D ga gb cca ccb bs3 gl1 go1) base B (P ++ [(1, 1)] ++ [(2, 2)] ++ [(29, 5)] ++ [(29, 5)] ++ [(15, 4)] ++ (ordL.take i).map (fun i => (lq clens i, 3))) wr)) (fun iv _ => 19 - (intOf iv).toNat)
      case atStart => exact ⟨0, rfl, Nat.zero_le _, Lib.hid ((H5.out.weak (F2 := HdF F b0 k (.slice p n c) A D ga gb cca ccb bs3 gl1 go1) (fun w h => ⟨h.1.1.1, h.1.1.2, h.1.2, h.2⟩)).congr (by simp))⟩
      case round =>
        clear H5
        obtain ⟨i, rfl, hi, HW⟩ := hrel
        have HF := HW.out.now
        by_cases hin : i < 19
        · have d1 : decide ((i : Int) < 19) = true := by simp; omega
          have hol : ordL.getD i 0 < 19 := ord_lt i hin
          have xo := HF.o i hin
          have xl := HF.l _ hol
          have Hts := Lib.hid (ord_take i hin)
          have hK := clens_le (ordL.getD i 0)
          have HX := Lib.hid (clens_small (ordL.getD i 0))
          have Hsz := Lib.hid (szP_threes (lq clens) (ordL.take i))
          have hst : (ordL.take i).length ≤ 19 := by rw [List.length_take]; omega
          generalize ordL.getD i 0 = oi at *
          generalize lq clens oi = X at *
          have i0 : (0 : Int) ≤ (i : Int) := by omega
          have i1 : (i : Int) < 19 := by omega
          have j0 : (0 : Int) ≤ (oi : Int) := by omega
          have j1 : (oi : Int) < 19 := by omega
          have hw1 : IntKind.u32.wrap (X : Int) = (X : Int) := IntWalk.u32_in _ (by omega)
          go_wp2_with fail
          refine Calls.mono (HW.out.put (v := X) (k := 3) HX.out (by decide) (by have := Hm.out; have := Hsz.out; simp only [szP_app, szP]; omega)) ?_
          rintro _ u3 ⟨rfl, h8⟩
          have H8 := Lib.hid (h8.congr (List.append_assoc _ _ _))
          rw [← Hts.out] at H8
          clear h8
          go_wp2
          go_roundw
          case rel => exact ⟨i + 1, by go_num, by omega, H8⟩
          case measure => simp [intOf]; omega
        · obtain rfl : i = 19 := by omega
          rw [show ordL.take 19 = ordL from rfl] at HW
          have Hle6 : Hid (Row enc8 1 wr (.slice (some ⟨gl1, 0, none⟩) 19 c5) clens) := Lib.hid (rw_cells8 (A := clens) (g := gl1) (c := c5) Hle5.out HF.l (by have := HW.out.now.l 0 (by omega); exact World.block_lt_of_cell? _ _ this))
          have Hcl := Lib.hid (codes_ok clens _ wr Hle6.out clens_chk)
          generalize wr = a6 at *
          clear HF Hle5
          rw [show ((19 : Nat) : Int) = 19 from rfl]
          go_wp2_with fail
          refine Calls.mono Hcl.out ?_
          rintro _ a7 ⟨v7, rfl, ho7, hb7⟩
          obtain ⟨gz, ccz, rfl, hgz, hxz⟩ := u16_cell ho7 (by decide)
          rw [show clens.length = 19 from rfl] at hxz ⊢
          have H7 := Lib.hid (HW.out.more hb7 (fun w' ht => fun i hi hl => new_cell ht hgz (hxz i hi hl)))
          clear HW Hcl Hle6 hxz hgz hb7 ho7
          obtain ⟨i0', hi0, hz0, hz1, hz2⟩ := info_parts u8_info
          have hbe := Below.al1 a7 (.cells #[] 5)
          have Hbe := Lib.hid hbe
          have Hown := Lib.hid (show (a7.alloc (.cells #[] 5)).ownsRow a7.heap.size 5 1 (.slice (some ⟨a7.heap.size, 0, none⟩) 0 0) 0 [] from by
            simpa using World.ownsRow_lit (base := a7.heap.size) (size := 1) (e := 5) a7 #[] 0 (Nat.le_refl _) (Nat.zero_le _) rfl)
          have Hsa := Lib.hid (show ((some (⟨ga, 0, none⟩ : Addr)) = none ∧ A.length = 0 ∧ cca = 0) ∨ ∃ ad, (some (⟨ga, 0, none⟩ : Addr)) = some ad ∧ ∀ j u, (A.map u8v)[j]? = some u → (a7.alloc (.cells #[] 5)).cell? (ad.add j) = some u from
            .inr ⟨_, rfl, fun j u hu => src8 (cells_b hbe (u8_at H7.out.now.1.rows.1)) hu⟩)
          clear hbe
          go_wp2_with (at_builtin; refine wpList_append_mine _ rfl (.tmp 115) (.tmp 116) 23 rfl a7.heap.size 5 i0' _ 1 1 Try.underlying23 hi0 hz0 hz1 hz2 rfl (by decide) (.slice (some ⟨a7.heap.size, 0, none⟩) 0 0) 0 [] rfl Hown.out (some ⟨ga, 0, none⟩) A.length cca (A.map u8v) rfl (by simp) Hsa.out (one8 _) ?n3 ?n4 ?n5 ?_)
          case n3 => simp only [maxLen]; omega
          case n4 => omega
          case n5 => simp
          intro v8 a8 ho8 hg8 _
          have ht8 := Turns.of_grown (T := fun q => q = a7.heap.size) hg8 (fun i h => by cases h; rfl)
          have hb8 : Below a7.heap.size a7 a8 := Hbe.out.trans (ht8.below Hbe.out.size (fun i h => by omega))
          replace ho8 : a8.ownsRow a7.heap.size 5 1 v8 A.length (A.map u8v) := by simpa using ho8
          obtain ⟨p8, c8, rfl⟩ := owns_slice ho8
          have Ho8 := Lib.hid ho8
          have Hb8 := Lib.hid hb8
          have hs8 : a7.heap.size ≤ a8.heap.size := hb8.size
          have Hsb := Lib.hid (show ((some (⟨gb, 0, none⟩ : Addr)) = none ∧ D.length = 0 ∧ ccb = 0) ∨ ∃ ad, (some (⟨gb, 0, none⟩ : Addr)) = some ad ∧ ∀ j u, (D.map u8v)[j]? = some u → a8.cell? (ad.add j) = some u from
            .inr ⟨_, rfl, fun j u hu => src8 (cells_b hb8 (u8_at H7.out.now.1.rows.2)) hu⟩)
          clear ho8 hg8 ht8 hb8 Hsa Hown Hbe
          go_wp2_with (at_builtin; refine wpList_append_mine _ rfl (.tmp 117) (.tmp 118) 23 rfl a7.heap.size 5 i0' _ 1 1 Try.underlying23 hi0 hz0 hz1 hz2 rfl (by decide) (.slice p8 A.length c8) A.length (A.map u8v) rfl Ho8.out (some ⟨gb, 0, none⟩) D.length ccb (D.map u8v) rfl (by simp) Hsb.out (one8 _) ?m3 ?m4 hs8 ?_)
          case m3 => simp only [maxLen]; omega
          case m4 => omega
          intro v9 a9 ho9 hg9 _
          have hb9 : Below a7.heap.size a7 a9 := Hb8.out.trans ((Turns.of_grown (T := fun q => (Value.slice p8 A.length c8).ownBlock = some q) hg9 (fun i h => h)).below hs8 (fun i h => (Ho8.out.lt i h).1))
          rw [← List.map_append, ← List.length_append] at ho9
          have hV16 := HC.out.low
          obtain ⟨V, hV⟩ : ∃ V, A ++ D = V := ⟨_, rfl⟩
          have hVl : V.length ≤ 320 := by rw [← hV, List.length_append]; omega
          have hV0 : 0 < V.length := by rw [← hV, List.length_append]; omega
          have HV := Lib.hid hV
          rw [hV] at ho9 hV16
          have HV16 := Lib.hid hV16
          obtain ⟨gv, cv, rfl, hgv, hxv⟩ := u8_cell ho9 hV0
          have H9 := Lib.hid (((H7.out.more hb9 (fun w' ht => fun i hi => new_cell ht hgv (hxv i hi))).weak (F2 := HeF F b0 k (.slice p n c) A D V ga gb cca ccb bs3 gl1 gz gv) (fun w h => ⟨h.1.1.f, h.1.1.rows, h.1.1.l, h.1.2, h.2⟩)).congr (Q := P ++ [(1, 1)] ++ [(2, 2)] ++ [(29, 5)] ++ [(29, 5)] ++ [(15, 4)] ++ ordL.map (fun i => (lq clens i, 3)) ++ putV (V.take 0)) (by simp [putV]))
          have hlV : A.length + D.length = V.length := by rw [← hV, List.length_append]
          try simp only [hlV]
          obtain ⟨nV, hnV⟩ : ∃ nV, V.length = nV := ⟨_, rfl⟩
          have HnV := Lib.hid hnV
          rw [hnV] at hVl hV0
          simp only [hnV]
          clear ho9 hg9 hb9 hV hV16 hxv hgv H7 Ho8 Hb8 Hsb hs8 hlV hnV hi0 hz0 hz1 hz2
          go_wp2_with fail
          go_loopw [19] (fun iv wr => ∃ i : Nat, iv = .int .i64 (i : Int) ∧ i ≤ nV ∧ Hid (WrF G W (HeF F b0 k (.slice p n c) A D V ga gb cca ccb bs3 gl1 gz gv) base B (P ++ [(1, 1)] ++ [(2, 2)] ++ [(29, 5)] ++ [(29, 5)] ++ [(15, 4)] ++ ordL.map (fun i => (lq clens i, 3)) ++ putV (V.take i)) wr)) (fun iv _ => nV - (intOf iv).toNat)
          case atStart => exact ⟨0, rfl, Nat.zero_le _, H9⟩
          case round =>
            clear H9
            obtain ⟨i, rfl, hi, HW⟩ := hrel
            have HF := HW.out.now
            by_cases hin : i < nV
            · have d1 : decide ((i : Int) < (nV : Int)) = true := by simp; omega
              have hin' : i < V.length := by rw [HnV.out]; exact hin
              have h16 : lq V i < 16 := by
                have := HV16.out _ (List.getElem_mem hin')
                rwa [lq_at hin'] at this
              obtain ⟨hc1, hc2⟩ := clens_has _ h16
              have xv := HF.v i hin'
              have xl := HF.l _ (show lq V i < 19 by omega)
              have xz := HF.z _ (show lq V i < 19 by omega) hc2
              have Hts := Lib.hid (putV_take hin')
              have hK := clens_le (lq V i)
              have HX := Lib.hid (cd_low (lq clens) clens.length (lq V i))
              have HX16 := Lib.hid (cd_16 clens_chk (lq V i))
              have Hsz : Hid (szP (putV (V.take i)) ≤ 1600) := Lib.hid (by
                have h1 := putV_sz (V.take i)
                rw [List.length_take] at h1
                omega)
              have Hth := Lib.hid (szP_threes (lq clens) ordL)
              rw [show clens.length = 19 from rfl] at HX HX16 Hts
              generalize cd (lq clens) 19 (lq V i) = X at *
              generalize lq clens (lq V i) = K at *
              generalize lq V i = vi at *
              have i0 : (0 : Int) ≤ (i : Int) := by omega
              have i1 : (i : Int) < (nV : Int) := by omega
              have j0 : (0 : Int) ≤ (vi : Int) := by omega
              have j1 : (vi : Int) < 19 := by omega
              have h19 : vi < 19 := by omega
              have hwb : IntKind.i64.wrap (vi : Int) = (vi : Int) := IntWalk.i64_in _ (by omega)
              have hwK : IntKind.i64.wrap (K : Int) = (K : Int) := IntWalk.i64_in _ (by omega)
              clear HF hin' hc1 hc2
              go_upto_region 36 with (fail)
              have hqq := After.ne wr
              have C0 := After.rule xv
              have C1 := After.rule xl
              have HC2 := Lib.hid (After.rule xz)
              refine wp_region_head 16 (by kernel_rfl) (by kernel_rfl) (by kernel_rfl) ?_
              repeat (refine Lq_step (fun K hK => ?_); go_simp; first | (refine hK _ ?_; clear hK K) | (apply Exists.intro; refine ⟨fun n => ?_, hK _ ?_⟩; (go_at_call 17; exact word_makes gz 19 ccz vi X wr h19 HX16.out HC2.out n); clear hK K))
              refine Lq_nil ?_
              intro u2 hb2
              simp only [List.drop_succ_cons, List.drop_zero]
              have H10 := Lib.hid (HW.out.below hb2)
              clear C0 C1 HC2 hqq hb2 xv xl xz HW
              go_wp2_with fail
              refine Calls.mono (H10.out.put (v := X) (k := K) HX.out (by omega) (by have := Hm.out; have := Hsz.out; have h57 := Hth.out; rw [show ordL.length = 19 from rfl] at h57; simp only [szP_app, szP]; omega)) ?_
              rintro _ u3 ⟨rfl, h8⟩
              have H8 := Lib.hid (h8.congr (List.append_assoc _ _ _))
              rw [← Hts.out] at H8
              clear h8 H10
              go_wp2
              go_roundw
              case rel => exact ⟨i + 1, by go_num, by omega, H8⟩
              case measure => simp [intOf]; omega
            · obtain rfl : i = nV := by omega
              have hE : V.take i = V := List.take_of_length_le (by rw [HnV.out]; exact Nat.le_refl _)
              rw [hE] at HW
              have H3 := Lib.hid ((HW.out.weak (F2 := fun w => (F w ∧ w.cell? ⟨b0, 0, none⟩ = some (.int .u8 (k : Int)) ∧ w.cell? ⟨b0, 1, none⟩ = some (.slice p n c)) ∧ (w.ownsRow bs3 5 1 (.slice (some ⟨ga, 0, none⟩) A.length cca) A.length (A.map u8v) ∧ w.ownsRow bs3 5 1 (.slice (some ⟨gb, 0, none⟩) D.length ccb) D.length (D.map u8v))) (fun w h => ⟨h.f, h.rows⟩)).congr (Q := P ++ [(1, 1)] ++ [(2, 2)] ++ putO A D) (by rw [← HV.out]; simp only [putO, List.append_assoc, List.cons_append, List.nil_append]))
              generalize wr = w3 at *
              obtain ⟨⟨-, c0, c1⟩, Ho1', Ho2'⟩ := H3.out.now
              have Ho1 := Lib.hid Ho1'
              have Ho2 := Lib.hid Ho2'
              clear HW HF hE Ho1' Ho2' HV16 HV HnV
              have Hca := Lib.hid (codes_ok A _ w3 (Rw8.own Ho1.out rfl).row HC.out.ca)
              go_wp2_with fail
              refine Calls.mono Hca.out ?_
              rintro _ w4 ⟨v4, rfl, ho4, hb4⟩
              have Hcb := Lib.hid (codes_ok D _ w4 (Rw8.own ((Turns.of_below' (T := fun _ => False) hb4).owns Ho2.out (fun _ _ h => h)) rfl).row HC.out.cd)
              obtain ⟨gc, ccc, rfl, hgc, hxc⟩ := u16_cell ho4 (by omega)
              have H4 := Lib.hid (H3.out.more hb4 (fun w' ht => fun i hi hl => new_cell ht hgc (hxc i hi hl)))
              have c0 := cell_later hb4 c0
              have c1 := cell_later hb4 c1
              clear Hca H3 hxc ho4 hb4 hgc
              go_wp2_with fail
              refine Calls.mono Hcb.out ?_
              rintro _ w5 ⟨v5, rfl, ho5, hb5⟩
              obtain ⟨gd, ccd, rfl, hgd, hxd⟩ := u16_cell ho5 hd0
              have H5 := Lib.hid ((H4.out.more hb5 (fun w' ht => fun i hi hl => new_cell ht hgd (hxd i hi hl))).weak (F2 := LoF F b0 k (.slice p n c) A D ga gb gc gd) (fun w h => ⟨h.1.1.1.1, h.1.1.1.2.1, h.1.1.1.2.2, u8_at h.1.1.2.1, u8_at h.1.1.2.2, h.1.2, h.2⟩))
              have c0 := cell_later hb5 c0
              have c1 := cell_later hb5 c1
              clear Hcb H4 hxd ho5 hb5 hgd
              obtain ⟨NA, hNA⟩ : ∃ NA, A.length = NA := ⟨_, rfl⟩
              obtain ⟨ND, hND⟩ : ∃ ND, D.length = ND := ⟨_, rfl⟩
              have HNA := Lib.hid hNA
              have HND := Lib.hid hND
              rw [hNA] at hla h256
              rw [hND] at hld hd0
              simp only [hNA, hND]
              clear hNA hND Ho1 Ho2
              go_wp2_with fail
              go_loopw [24] (fun iv wr => ∃ i : Nat, iv = .int .i64 (i : Int) ∧ i ≤ n ∧ Hid (WrF G W (LoF F b0 k (.slice p n c) A D ga gb gc gd) base B (P ++ [(1, 1)] ++ [(2, 2)] ++ putO A D ++ laidT A D ((ts.take i).map tn)) wr)) (fun iv _ => n - (intOf iv).toNat)
              case atStart => exact ⟨0, rfl, Nat.zero_le _, Lib.hid (H5.out.congr (by simp [laidT]))⟩
              case round =>
                clear H5 c0 c1
                obtain ⟨i, rfl, hi, HW⟩ := hrel
                have HF := HW.out.now
                have cb := HF.c1
                by_cases hin : i < n
                · have d1 : decide ((i : Int) < (n : Int)) = true := by simp; omega
                  have hin' : i < ts.length := by rw [Hn.out]; exact hin
                  obtain ⟨g, off, rfl, hg, htk⟩ := RowAt.tk (HT.out _ HF.f) hin'
                  obtain ⟨x0, x1, x2⟩ := htk
                  obtain ⟨hok, hb256⟩ := Hx.out _ (List.getElem_mem hin')
                  have hcod := HC.out.cod _ (List.getElem_mem hin')
                  have Hlay := Lib.hid (take_laid A D ts hin')
                  have Hsz : Hid (szP (laidT A D ((ts.take i).map tn)) ≤ 14400) := Lib.hid (by
                    have h1 := tnT_szk (ts := ts.take i) HC.out.ca HC.out.cd (fun t ht => Hx.out t (List.mem_of_mem_take ht))
                    rw [List.length_take] at h1
                    omega)
                  have i0 : (0 : Int) ≤ (i : Int) := by omega
                  have i1 : (i : Int) < (n : Int) := by omega
                  generalize ts[i] = t at *
                  clear hg hin'
                  go_upto_region 43 with (fail)
                  have hb1 := Below.al1 wr (.cells #[.int .u8 (t.b : Int), .int .i64 t.n, .int .i64 t.d] 40)
                  have HT1 := tk_new wr t
                  have H6 := Lib.hid (HW.out.more hb1 (F2 := fun w' => TkAt w' wr.heap.size 0 t) (fun w' ht => ⟨new_cell ht (Nat.le_refl _) HT1.c0, new_cell ht (Nat.le_refl _) HT1.c1, new_cell ht (Nat.le_refl _) HT1.c2⟩))
                  generalize wr.alloc (.cells #[.int .u8 (t.b : Int), .int .i64 t.n, .int .i64 t.d] 40) = u1 at *
                  generalize wr.heap.size = gt at *
                  clear x0 x1 x2 cb HF HW hb1
                  obtain ⟨y0, y1, y2⟩ := HT1
                  rcases tk_ok hok with h0 | ⟨nn, dd, e1, e2, n1, n2, n3, n4⟩
                  · rw [h0] at y1
                    obtain ⟨hc1, hc2, hc3⟩ := hcod.1 h0
                    have Hput : Hid ((tn t).put A D = [(cd (lq A) A.length t.b, lq A t.b)]) := Lib.hid (if_pos (show t.n.toNat = 0 by omega))
                    have xa := H6.out.now.1.a _ hc2
                    have xc := H6.out.now.1.c _ hc2 hc3
                    have hK := lq_15 HC.out.ca t.b
                    have HX := Lib.hid (cd_low (lq A) A.length t.b)
                    have HX16 := Lib.hid (cd_16 HC.out.ca t.b)
                    rw [HNA.out] at hc2
                    generalize cd (lq A) A.length t.b = X at *
                    generalize lq A t.b = K at *
                    generalize t.b = tb at *
                    have j0 : (0 : Int) ≤ (tb : Int) := by omega
                    have j1 : (tb : Int) < (NA : Int) := by omega
                    have hwb : IntKind.i64.wrap (tb : Int) = (tb : Int) := IntWalk.i64_in _ (by omega)
                    have hwK : IntKind.i64.wrap (K : Int) = (K : Int) := IntWalk.i64_in _ (by omega)
                    clear hcod hc1 hc3 hok y2
                    rw [h0]
                    go_upto_region 44 with (fail)
                    have hqq := After.ne u1
                    have C0 := After.rule y0
                    have C1 := After.rule xa
                    have C2 := After.rule xc
                    have HC2 := Lib.hid C2
                    clear C2
                    refine wp_region_head 12 (by kernel_rfl) (by kernel_rfl) (by kernel_rfl) ?_
                    repeat (refine Lq_step (fun K hK => ?_); go_simp; first | (refine hK _ ?_; clear hK K) | (apply Exists.intro; refine ⟨fun n => ?_, hK _ ?_⟩; (go_at_call 17; exact word_makes gc NA ccc tb X u1 hc2 HX16.out HC2.out n); clear hK K))
                    refine Lq_nil ?_
                    intro u2 hb2
                    simp only [List.drop_succ_cons, List.drop_zero]
                    have H7 := Lib.hid (H6.out.below hb2)
                    clear C0 C1 HC2 hqq hb2 y0 y1 xa xc H6
                    go_wp2_with fail
                    refine Calls.mono (H7.out.put (v := X) (k := K) HX.out (by omega) (by have := Hm.out; have := Hsz.out; have := putO_sz A D; have := HNA.out; have := HND.out; simp only [szP_app, szP]; omega)) ?_
                    rintro _ u3 ⟨rfl, h8⟩
                    have H8 := Lib.hid ((h8.weak (F2 := LoF F b0 k (.slice (some ⟨g, off, none⟩) n c) A D ga gb gc gd) (fun _ h => h.1)).congr (List.append_assoc _ _ _))
                    rw [← Hput.out, ← Hlay.out] at H8
                    clear h8 H7
                    go_wp2
                    go_roundw
                    case rel => exact ⟨i + 1, by go_num, by omega, H8⟩
                    case measure => simp [intOf]; omega
                  · rw [e1] at y1
                    rw [e2] at y2
                    have h0 : t.n ≠ 0 := by omega
                    obtain ⟨hc1, hc2, hc3, hc4⟩ := hcod.2 h0
                    have f1 : t.n.toNat = nn := by omega
                    have f2 : t.d.toNat = dd := by omega
                    have Hput : Hid ((tn t).put A D = [(cd (lq A) A.length (lnSym nn), lq A (lnSym nn)), (nn - lnBase (lnSym nn), lnBits (lnSym nn)), (cd (lq D) D.length (dsSym dd), lq D (dsSym dd)), (dd - dsBase (dsSym dd), dsBits (dsSym dd))]) := Lib.hid (by
                      unfold Tn.put
                      rw [if_neg (show ¬ (tn t).n = 0 by show ¬ t.n.toNat = 0; omega)]
                      show [(cd (lq A) A.length (lnSym t.n.toNat), lq A (lnSym t.n.toNat)), (t.n.toNat - lnBase (lnSym t.n.toNat), lnBits (lnSym t.n.toNat)), (cd (lq D) D.length (dsSym t.d.toNat), lq D (dsSym t.d.toNat)), (t.d.toNat - dsBase (dsSym t.d.toNat), dsBits (dsSym t.d.toNat))] = _
                      rw [f1, f2])
                    rw [f1] at hc1 hc2
                    rw [f2] at hc3 hc4
                    obtain ⟨s1, s2, s3, s4⟩ := lnSym_ok nn (by omega) n1
                    obtain ⟨r1, r2, r3⟩ := dsSym_ok n3 n4
                    have Hsy := Lib.hid (symbol_any nn u1 n1 n2)
                    have Hds := Lib.hid (fun W => distance_any dd W n3 n4)
                    have xa := H6.out.now.1.a _ hc1
                    have xc := H6.out.now.1.c _ hc1 hc2
                    have Hxb := Lib.hid (fun w (h : LoF F b0 k (.slice (some ⟨g, off, none⟩) n c) A D ga gb gc gd w) => h.b _ hc3)
                    have Hxd := Lib.hid (fun w (h : LoF F b0 k (.slice (some ⟨g, off, none⟩) n c) A D ga gb gc gd w) => h.d _ hc3 hc4)
                    have hK := lq_15 HC.out.ca (lnSym nn)
                    have HX := Lib.hid (cd_low (lq A) A.length (lnSym nn))
                    have HX16 := Lib.hid (cd_16 HC.out.ca (lnSym nn))
                    have hL := lq_15 HC.out.cd (dsSym dd)
                    have HY := Lib.hid (cd_low (lq D) D.length (dsSym dd))
                    have HY16 := Lib.hid (cd_16 HC.out.cd (dsSym dd))
                    have hbl := lnBits_lo (lnSym nn) (by omega)
                    have hbd := dsBits_lo (dsSym dd) (by omega)
                    rw [HNA.out] at hc1
                    rw [HND.out] at hc3
                    have hq258 : nn - lnBase (lnSym nn) ≤ 258 := by omega
                    have hq32 : dd - dsBase (dsSym dd) ≤ 32768 := by omega
                    generalize cd (lq A) A.length (lnSym nn) = X at *
                    generalize lq A (lnSym nn) = K at *
                    generalize cd (lq D) D.length (dsSym dd) = Y at *
                    generalize lq D (dsSym dd) = L at *
                    generalize nn - lnBase (lnSym nn) = ex at *
                    generalize lnBits (lnSym nn) = eb at *
                    generalize dd - dsBase (dsSym dd) = fx at *
                    generalize dsBits (dsSym dd) = fb2 at *
                    generalize lnSym nn = sa at *
                    generalize dsSym dd = sd at *
                    have HS4 := Lib.hid s4
                    have HR3 := Lib.hid r3
                    have d2 : ((nn : Int) == 0) = false := by simp; omega
                    have j0 : (0 : Int) ≤ (sa : Int) := by omega
                    have j1 : (sa : Int) < (NA : Int) := by omega
                    have j2 : (0 : Int) ≤ (sd : Int) := by omega
                    have j3 : (sd : Int) < (ND : Int) := by omega
                    have hwK : IntKind.i64.wrap (K : Int) = (K : Int) := IntWalk.i64_in _ (by omega)
                    have hwL : IntKind.i64.wrap (L : Int) = (L : Int) := IntWalk.i64_in _ (by omega)
                    have hwe : IntKind.u32.wrap (ex : Int) = (ex : Int) := IntWalk.u32_in _ (by omega)
                    have hwf : IntKind.u32.wrap (fx : Int) = (fx : Int) := IntWalk.u32_in _ (by omega)
                    clear hcod hc2 hc4 hok h0 f1 f2 s1 s2 s3 s4 r1 r2 r3
                    rw [e1]
                    go_wp2_with fail
                    refine Calls.mono Hsy.out ?_
                    rintro _ z2 ⟨rfl, hz2⟩
                    rw [hz2]
                    clear hz2 z2
                    go_upto_region 46 with (fail)
                    have hqq := After.ne u1
                    have C1 := After.rule xa
                    have HC2 := Lib.hid (After.rule xc)
                    refine wp_region_head 9 (by kernel_rfl) (by kernel_rfl) (by kernel_rfl) ?_
                    repeat (refine Lq_step (fun K hK => ?_); go_simp; first | (refine hK _ ?_; clear hK K) | (apply Exists.intro; refine ⟨fun n => ?_, hK _ ?_⟩; (go_at_call 17; exact word_makes gc NA ccc sa X u1 hc1 HX16.out HC2.out n); clear hK K))
                    refine Lq_nil ?_
                    intro u2 hb2
                    simp only [List.drop_succ_cons, List.drop_zero]
                    have H7 := Lib.hid (H6.out.below hb2)
                    clear C1 HC2 hqq hb2 y0 y1 xa xc H6 y2
                    go_wp2_with fail
                    refine Calls.mono (H7.out.put (v := X) (k := K) HX.out (by omega) (by have := Hm.out; have := Hsz.out; have := putO_sz A D; have := HNA.out; have := HND.out; simp only [szP_app, szP]; omega)) ?_
                    rintro _ u3 ⟨rfl, h8⟩
                    have H8 := Lib.hid h8
                    clear h8 H7
                    go_wp2_with fail
                    refine Calls.mono (H8.out.put (v := ex) (k := eb) HS4.out (by omega) (by have := Hm.out; have := Hsz.out; have := putO_sz A D; have := HNA.out; have := HND.out; simp only [szP_app, szP]; omega)) ?_
                    rintro _ u4 ⟨rfl, h9⟩
                    have H9 := Lib.hid h9
                    have y2 := h9.now.2.c2
                    rw [e2] at y2
                    clear h9 H8
                    go_wp2_with fail
                    refine Calls.mono (Hds.out u4) ?_
                    rintro _ z5 ⟨rfl, hz5⟩
                    rw [hz5]
                    clear hz5 z5
                    have xb := Hxb.out _ H9.out.now.1
                    have xd := Hxd.out _ H9.out.now.1
                    go_upto_region 49 with (fail)
                    have hqq := After.ne u4
                    have C1 := After.rule xb
                    have HC2 := Lib.hid (After.rule xd)
                    refine wp_region_head 9 (by kernel_rfl) (by kernel_rfl) (by kernel_rfl) ?_
                    repeat (refine Lq_step (fun K hK => ?_); go_simp; first | (refine hK _ ?_; clear hK K) | (apply Exists.intro; refine ⟨fun n => ?_, hK _ ?_⟩; (go_at_call 17; exact word_makes gd ND ccd sd Y u4 hc3 HY16.out HC2.out n); clear hK K))
                    refine Lq_nil ?_
                    intro u6 hb6
                    simp only [List.drop_succ_cons, List.drop_zero]
                    have H10 := Lib.hid (H9.out.below hb6)
                    clear C1 HC2 hqq hb6 xb xd H9 y2
                    go_wp2_with fail
                    refine Calls.mono (H10.out.put (v := Y) (k := L) HY.out (by omega) (by have := Hm.out; have := Hsz.out; have := putO_sz A D; have := HNA.out; have := HND.out; simp only [szP_app, szP]; omega)) ?_
                    rintro _ u7 ⟨rfl, h11⟩
                    have H11 := Lib.hid h11
                    clear h11 H10
                    go_wp2_with fail
                    refine Calls.mono (H11.out.put (v := fx) (k := fb2) HR3.out (by omega) (by have := Hm.out; have := Hsz.out; have := putO_sz A D; have := HNA.out; have := HND.out; simp only [szP_app, szP]; omega)) ?_
                    rintro _ u8 ⟨rfl, h12⟩
                    have H12 := Lib.hid ((h12.weak (F2 := LoF F b0 k (.slice (some ⟨g, off, none⟩) n c) A D ga gb gc gd) (fun _ h => h.1)).congr (show _ = P ++ [(1, 1)] ++ [(2, 2)] ++ putO A D ++ laidT A D ((ts.take (i + 1)).map tn) by rw [Hlay.out, Hput.out]; simp only [List.append_assoc, List.cons_append, List.nil_append]))
                    clear h12 H11
                    go_wp2
                    go_roundw
                    case rel => exact ⟨i + 1, by go_num, by omega, H12⟩
                    case measure => simp [intOf]; omega
                · obtain rfl : i = n := by omega
                  have hE : ts.take i = ts := List.take_of_length_le (by rw [Hn.out]; exact Nat.le_refl _)
                  rw [hE] at HW
                  have Hsz : Hid (szP (laidT A D (ts.map tn)) ≤ 14400) := Lib.hid (by
                    have h1 := tnT_szk (ts := ts) HC.out.ca HC.out.cd Hx.out
                    rw [Hn.out] at h1
                    omega)
                  obtain ⟨hc1, hc2⟩ := HC.out.h256
                  have xa := HF.a _ hc1
                  have xc := HF.c _ hc1 hc2
                  have hK := lq_15 HC.out.ca 256
                  have HX := Lib.hid (cd_low (lq A) A.length 256)
                  have HX16 := Lib.hid (cd_16 HC.out.ca 256)
                  obtain ⟨X, hX⟩ : ∃ X, cd (lq A) A.length 256 = X := ⟨_, rfl⟩
                  obtain ⟨K, hKK⟩ : ∃ K, lq A 256 = K := ⟨_, rfl⟩
                  have HeX := Lib.hid hX
                  have HeK := Lib.hid hKK
                  rw [hX, hKK] at HX
                  rw [hX] at HX16 xc
                  rw [hKK] at xa hK
                  have j0 : (256 : Int) < (NA : Int) := by omega
                  have hwK : IntKind.i64.wrap (K : Int) = (K : Int) := IntWalk.i64_in _ (by omega)
                  clear hc1 hc2 hE hX hKK HF
                  go_upto_region 51 with (fail)
                  have hqq := After.ne wr
                  have C1 := After.rule xa
                  have HC2 := Lib.hid (After.rule xc)
                  refine wp_region_head 7 (by kernel_rfl) (by kernel_rfl) (by kernel_rfl) ?_
                  repeat (refine Lq_step (fun K hK => ?_); go_simp; first | (refine hK _ ?_; clear hK K) | (apply Exists.intro; refine ⟨fun n => ?_, hK _ ?_⟩; (go_at_call 17; exact word_makes gc NA ccc 256 X wr h256 HX16.out HC2.out n); clear hK K))
                  refine Lq_nil ?_
                  intro u2 hb2
                  simp only [List.drop_succ_cons, List.drop_zero]
                  have H7 := Lib.hid (HW.out.below hb2)
                  clear C1 HC2 hqq hb2 xa xc HW cb
                  go_wp2_with fail
                  refine Calls.mono (H7.out.put (v := X) (k := K) HX.out (by omega) (by have := Hm.out; have := Hsz.out; have := putO_sz A D; have := HNA.out; have := HND.out; simp only [szP_app, szP]; omega)) ?_
                  rintro _ u3 ⟨rfl, h8⟩
                  have H8 := Lib.hid (h8.weak (F2 := F) (fun _ h => h.f))
                  clear h8 H7
                  go_wp2
                  go_end0
                  refine ⟨rfl, A, D, HC.out, HKC.out, H8.out.congr ?_⟩
                  have e1 := HeX.out
                  have e2 := HeK.out
                  simp only [List.append_assoc, Bn.put, Bn.body, endP, Bn.kind, ← e1, ← e2, List.cons_append, List.nil_append]
                  rfl

end Go.Proofs.Ytdcmalbbijchiaa
