/- inflate: the statement's lay of tokens, by the fixed codes or by the best ones. (Written by a program: four walks, alike but for the last block's mark and the codes' own head.) -/
import Derived.Test.YtdcmalbbijchiaaZq41
import Derived.Test.YtdcmalbbijchiaaZq42
namespace Go.Proofs.Ytdcmalbbijchiaa
open Go.RowKit Go.Maps

/-- Codes that serve tokens. -/
structure CodS (ts : List Tk) (A D : List Nat) : Prop where
  ca : chk A = 0
  cd : chk D = 0
  la : A.length ≤ 288
  ld : D.length ≤ 32
  h256 : 256 < A.length ∧ 0 < lq A 256
  low : ∀ v ∈ A ++ D, v < 16
  cod : ∀ t ∈ ts, codT A D t

theorem fix_low : ∀ v ∈ fixA ++ fixD, v < 16 := by decide +kernel
theorem fix_cods {ts : List Tk} (hx : ∀ t ∈ ts, t.okB = true ∧ t.b < 256) : CodS ts fixA fixD :=
  ⟨fixA_chk, fixD_chk, by rw [fix_len]; exact Nat.le_refl _, by decide, fix_256, fix_low, fun t ht => fix_cod (hx t ht).1 (hx t ht).2⟩

/-- The codes by which a block of this type is laid. -/
def KindC (k : Nat) (A D : List Nat) : Prop := (k % 3 = 1 ∧ A = fixA ∧ D = fixD) ∨ (k % 3 ≠ 1 ∧ A.length = 286 ∧ D.length = 30)

set_option maxRecDepth 20000 in
set_option maxHeartbeats 8000000 in
theorem lengths_fix (k : Nat) (v : Value) (w : World) (h1 : k % 3 = 1) :
    Calls Try.prog 14 #[.agg #[.int .u8 (k : Int), v]] w fun e w' => ∃ va vb, e = .returned (.tuple #[va, vb]) ∧
      w'.ownsRow w.heap.size 5 1 va 288 (fixA.map u8v) ∧ w'.ownsRow w.heap.size 5 1 vb 32 (fixD.map u8v) ∧ Below w.heap.size w w' := by
  have d0 : (k : Int) % 3 = 1 := by omega
  go_enter Try.func14, Try.ntmps14
  go_wp2_with fail
  refine Calls.mono (fixed_any _) ?_
  rintro _ w1 ⟨va, vb, rfl, h1, h2, h3⟩
  have H1 := Lib.hid h1
  have H2 := Lib.hid h2
  have H3 := Lib.hid (Below.thn (Below.al1 w _) h3)
  have hs : w.heap.size ≤ (w.alloc (.cells #[.int .u8 (k : Int), v] 28)).heap.size := by rw [World.size_alloc]; omega
  clear h1 h2 h3
  go_wp2
  go_ret2
  exact ⟨va, vb, rfl, owns_baseI H1.out hs, owns_baseI H2.out hs, H3.out⟩

theorem lengths_any (k : Nat) (v : Value) (ts : List Tk) (w : World) (hk : k < 256) (hv : RowIn encT 3 w v ts) (hx : ∀ t ∈ ts, t.okB = true ∧ t.b < 256) (hl : ts.length ≤ 300) :
    Calls Try.prog 14 #[.agg #[.int .u8 (k : Int), v]] w fun e w' => ∃ va vb A D, e = .returned (.tuple #[va, vb]) ∧ CodS ts A D ∧ KindC k A D ∧
      w'.ownsRow w.heap.size 5 1 va A.length (A.map u8v) ∧ w'.ownsRow w.heap.size 5 1 vb D.length (D.map u8v) ∧ Below w.heap.size w w' := by
  by_cases h1 : k % 3 = 1
  · refine (lengths_fix k v w h1).mono ?_
    rintro _ w' ⟨va, vb, rfl, h2, h3, h4⟩
    exact ⟨va, vb, fixA, fixD, rfl, fix_cods hx, .inl ⟨h1, rfl, rfl⟩, by rw [fix_len]; exact h2, h3, h4⟩
  · refine (lengths_own k v ts w hk h1 hv hx hl).mono ?_
    rintro _ w' ⟨va, vb, g, h, rfl, h2, h3, h4, h5, h6⟩
    obtain ⟨e1, e2, e3, e4, e5, e6, e7⟩ := best_cod h2 h3 hx
    exact ⟨va, vb, gl g 286, gl h 30, rfl, ⟨e4, e5, by omega, by omega, ⟨by omega, e6⟩, e3, e7⟩, .inr ⟨h1, e1, e2⟩, by rw [e1]; exact h4, by rw [e2]; exact h5, h6⟩

theorem word_makes (g n c s x : Nat) (w : World) (hs : s < n) (hx : x < 65536) (hc : ∀ m : After w, m.world.cell? ⟨g, s, none⟩ = some (.int .u16 (x : Int))) (m : After w) :
    Calls Try.prog 17 #[.slice (some ⟨g, 0, none⟩) n c, .int .i64 (s : Int)] m.world fun e w' => e = .returned (.int .u32 (x : Int)) ∧ Below m.world.heap.size m.world w' :=
  (word_any g n c s x m.world hs hx (hc m)).mono fun e w' ⟨h1, h2⟩ => ⟨h1, by rw [h2]; exact Below.refl _ _⟩

theorem u8_cell {w : World} {base : Nat} {v : Value} {A : List Nat} (h : w.ownsRow base 5 1 v A.length (A.map u8v)) (h0 : 0 < A.length) : ∃ g c, v = .slice (some ⟨g, 0, none⟩) A.length c ∧ base ≤ g ∧ ∀ i, i < A.length → w.cell? ⟨g, i, none⟩ = some (.int .u8 ((lq A i : Nat) : Int)) := by
  obtain ⟨g, c, e, hb, -, h⟩ := owns_ptr h h0
  exact ⟨g, c, e, hb, fun i hi => h i _ (by rw [List.getElem?_map, List.getElem?_eq_getElem hi, lq_at hi]; rfl)⟩
theorem u16_cell {w : World} {base : Nat} {v : Value} {A : List Nat} (h : w.ownsRow base 73 1 v A.length (cRow (fun i => if 0 < lq A i then cd (lq A) A.length i else 0) A.length)) (h0 : 0 < A.length) : ∃ g c, v = .slice (some ⟨g, 0, none⟩) A.length c ∧ base ≤ g ∧ ∀ i, i < A.length → 0 < lq A i → w.cell? ⟨g, i, none⟩ = some (.int .u16 ((cd (lq A) A.length i : Nat) : Int)) := by
  obtain ⟨g, c, e, hb, -, h⟩ := owns_ptr h h0
  refine ⟨g, c, e, hb, fun i hi hl => ?_⟩
  have := h i (.int .u16 ((cd (lq A) A.length i : Nat) : Int)) (by simp [cRow, hi, hl, u16v])
  exact this
theorem clens_hi : ∀ i, i < 19 → 12 < i → clens.take (i + 1) = clens.take i ++ [5] := by decide +kernel
theorem clens_lo : ∀ i, i < 13 → clens.take (i + 1) = clens.take i ++ [4] := by decide +kernel
theorem order_new (w : World) : Calls Try.prog 15 #[] w fun e w' => ∃ g c, e = .returned (.slice (some ⟨g, 0, none⟩) 19 c) ∧ w.heap.size ≤ g ∧ (∀ k, k < 19 → w'.cell? ⟨g, k, none⟩ = some (.int .i64 ((ordL.getD k 0 : Nat) : Int))) ∧ Below w.heap.size w w' := by
  go_enter Try.func15, Try.ntmps15
  go_wp2
  go_ret
  refine ⟨_, _, rfl, Nat.le_refl _, fun k hk => ?_, Below.al1 w _⟩
  refine cell_heap (World.alloc_heap_new w _) ?_
  have key : ∀ k, k < 19 → (ordL.map fun (x : Nat) => Value.int .i64 (x : Int)).toArray[k]? = some (Value.int .i64 ((ordL.getD k 0 : Nat) : Int)) := by
    intro k hk
    rw [List.getElem?_toArray, List.getElem?_map, List.getD_eq_getElem?_getD, List.getElem?_eq_getElem (show k < ordL.length from hk)]
    rfl
  exact key k hk
/-- What the walk keeps at hand while it lays a block's own codes. -/
structure HdF (F : World → Prop) (b0 k : Nat) (v : Value) (A D : List Nat) (ga gb ca cb bs gl1 go : Nat) (w : World) : Prop where
  f : (F w ∧ w.cell? ⟨b0, 0, none⟩ = some (.int .u8 (k : Int)) ∧ w.cell? ⟨b0, 1, none⟩ = some v)
  rows : w.ownsRow bs 5 1 (.slice (some ⟨ga, 0, none⟩) A.length ca) A.length (A.map u8v) ∧ w.ownsRow bs 5 1 (.slice (some ⟨gb, 0, none⟩) D.length cb) D.length (D.map u8v)
  l : ∀ i, i < 19 → w.cell? ⟨gl1, i, none⟩ = some (.int .u8 ((lq clens i : Nat) : Int))
  o : ∀ i, i < 19 → w.cell? ⟨go, i, none⟩ = some (.int .i64 ((ordL.getD i 0 : Nat) : Int))
/-- .. and behind the codes of these. -/
structure HeF (F : World → Prop) (b0 k : Nat) (v : Value) (A D V : List Nat) (ga gb ca cb bs gl1 gz gv : Nat) (w : World) : Prop where
  f : (F w ∧ w.cell? ⟨b0, 0, none⟩ = some (.int .u8 (k : Int)) ∧ w.cell? ⟨b0, 1, none⟩ = some v)
  rows : w.ownsRow bs 5 1 (.slice (some ⟨ga, 0, none⟩) A.length ca) A.length (A.map u8v) ∧ w.ownsRow bs 5 1 (.slice (some ⟨gb, 0, none⟩) D.length cb) D.length (D.map u8v)
  l : ∀ i, i < 19 → w.cell? ⟨gl1, i, none⟩ = some (.int .u8 ((lq clens i : Nat) : Int))
  z : ∀ i, i < 19 → 0 < lq clens i → w.cell? ⟨gz, i, none⟩ = some (.int .u16 ((cd (lq clens) 19 i : Nat) : Int))
  v : ∀ i, i < V.length → w.cell? ⟨gv, i, none⟩ = some (.int .u8 ((lq V i : Nat) : Int))
theorem ord_lt : ∀ i, i < 19 → ordL.getD i 0 < 19 := by decide
theorem ord_take : ∀ i, i < 19 → (ordL.take (i + 1)).map (fun i => ((lq clens i, 3) : Nat × Nat)) = (ordL.take i).map (fun i => (lq clens i, 3)) ++ [(lq clens (ordL.getD i 0), 3)] := by decide +kernel
theorem putV_take {V : List Nat} {i : Nat} (hi : i < V.length) : putV (V.take (i + 1)) = putV (V.take i) ++ [(cd (lq clens) clens.length (lq V i), lq clens (lq V i))] := by
  unfold putV
  rw [List.take_succ_eq_append_getElem hi, List.map_append, lq_at hi]; rfl
theorem cells_b {w w' : World} {g n : Nat} {f : Nat → Value} (hb : Below w.heap.size w w') (h : ∀ i, i < n → w.cell? ⟨g, i, none⟩ = some (f i)) : ∀ i, i < n → w'.cell? ⟨g, i, none⟩ = some (f i) := fun i hi => cell_later hb (h i hi)
theorem src8 {w : World} {g : Nat} {A : List Nat} (h : ∀ i, i < A.length → w.cell? ⟨g, i, none⟩ = some (.int .u8 ((lq A i : Nat) : Int))) {j : Nat} {u : Value} (hu : (A.map u8v)[j]? = some u) : w.cell? ((⟨g, 0, none⟩ : Addr).add j) = some u := by
  have hj : j < A.length := by simpa using (List.getElem?_eq_some_iff.1 hu).1
  rw [List.getElem?_map, List.getElem?_eq_getElem hj, lq_at hj] at hu
  rw [Addr.add_lit, Nat.zero_add, h j hj]
  exact hu
theorem rw_cells8 {w w' : World} {g c : Nat} {A : List Nat} (h : Row enc8 1 w (.slice (some ⟨g, 0, none⟩) A.length c) A) (hc : ∀ i, i < A.length → w'.cell? ⟨g, i, none⟩ = some (.int .u8 ((lq A i : Nat) : Int))) (hg : g < w'.heap.size) : Row enc8 1 w' (.slice (some ⟨g, 0, none⟩) A.length c) A := by
  obtain ⟨p', c', e, h1, h2, -⟩ := h
  cases e
  refine ⟨_, c, rfl, h1, h2, .inr ⟨g, 0, rfl, hg, fun i x hx j u hu => ?_⟩⟩
  obtain ⟨hi, hx⟩ := List.getElem?_eq_some_iff.1 hx
  obtain ⟨hj, hu⟩ := List.getElem?_eq_some_iff.1 hu
  have hj0 : j = 0 := by simp [enc8] at hj; exact hj
  subst hj0
  rw [lq_at hi] at hx
  rw [Nat.zero_add, Nat.mul_one, Nat.add_zero, hc i hi, hx]
  simpa [enc8, u8v] using hu
/-- What the walk keeps at hand. -/
structure LoF (F : World → Prop) (b0 k : Nat) (v : Value) (A D : List Nat) (ga gb gc gd : Nat) (w : World) : Prop where
  f : F w
  c0 : w.cell? ⟨b0, 0, none⟩ = some (.int .u8 (k : Int))
  c1 : w.cell? ⟨b0, 1, none⟩ = some v
  a : ∀ i, i < A.length → w.cell? ⟨ga, i, none⟩ = some (.int .u8 ((lq A i : Nat) : Int))
  b : ∀ i, i < D.length → w.cell? ⟨gb, i, none⟩ = some (.int .u8 ((lq D i : Nat) : Int))
  c : ∀ i, i < A.length → 0 < lq A i → w.cell? ⟨gc, i, none⟩ = some (.int .u16 ((cd (lq A) A.length i : Nat) : Int))
  d : ∀ i, i < D.length → 0 < lq D i → w.cell? ⟨gd, i, none⟩ = some (.int .u16 ((cd (lq D) D.length i : Nat) : Int))
theorem u8_at {w : World} {base g c : Nat} {A : List Nat} (h : w.ownsRow base 5 1 (.slice (some ⟨g, 0, none⟩) A.length c) A.length (A.map u8v)) : ∀ i, i < A.length → w.cell? ⟨g, i, none⟩ = some (.int .u8 ((lq A i : Nat) : Int)) := fun i hi => by
  obtain ⟨g', c', e, -, hx⟩ := u8_cell h (by omega)
  injection e with e _ _
  injection e with e
  injection e with e _ _
  subst e
  exact hx i hi
theorem cd_16 {A : List Nat} (h : chk A = 0) (i : Nat) : cd (lq A) A.length i < 65536 :=
  Nat.lt_of_lt_of_le (cd_low _ _ _) (Nat.le_trans (Nat.pow_le_pow_right (n := 2) (by omega) (lq_15 h i)) (by decide))
theorem tnT_szk {A D : List Nat} (hA : chk A = 0) (hD : chk D = 0) : ∀ {ts : List Tk}, (∀ t ∈ ts, t.okB = true ∧ t.b < 256) → szP (laidT A D (ts.map tn)) ≤ 48 * ts.length
  | [], _ => Nat.le_refl _
  | t :: r, h => by
    have h2 := tnT_szk hA hD (ts := r) fun x hx => h x (List.mem_cons_of_mem _ hx)
    have h1 : szP ((tn t).put A D) ≤ 48 := by
      have a1 := lq_15 hA
      have d1 := lq_15 hD
      unfold Tn.put
      split
      · have := a1 (tn t).b
        simp only [szP]; omega
      · rename_i h0
        rcases tk_ok (h t List.mem_cons_self).1 with e | ⟨n, d, e1, e2, n1, n2, n3, n4⟩
        · exact absurd (by show t.n.toNat = 0; omega) h0
        · have f1 : (tn t).n = n := by show t.n.toNat = n; omega
          have f2 : (tn t).d = d := by show t.d.toNat = d; omega
          rw [f1, f2]
          obtain ⟨-, s2, -, -⟩ := lnSym_ok n (by omega) n1
          obtain ⟨r1, -, -⟩ := dsSym_ok n3 n4
          have := lnBits_lo _ (show lnSym n < 286 by omega)
          have := dsBits_lo _ (show dsSym d < 30 by omega)
          have := a1 (lnSym n)
          have := d1 (dsSym d)
          simp only [szP]; omega
    rw [List.map_cons, laidT, szP_app, List.length_cons]; omega
theorem take_laid (A D : List Nat) (ts : List Tk) {i : Nat} (hi : i < ts.length) : laidT A D ((ts.take (i + 1)).map tn) = laidT A D ((ts.take i).map tn) ++ (tn ts[i]).put A D := by
  rw [List.take_succ_eq_append_getElem hi, List.map_append, List.map_singleton, laidT_snoc]

set_option maxRecDepth 20000 in
set_option maxHeartbeats 16000000 in
theorem lay_t10 {G : Nat → Prop} {W : World} {F : World → Prop} {base B : Nat} {P : Pt} (k : Nat) (p q : Option Addr) (c m d : Nat) (ts : List Tk) (w : World) (hk : k < 256) (h0 : k % 3 = 1) (h : WrF G W F base B P w)
    (hT : ∀ w, F w → ts = [] ∨ RowAt encT 3 w p ts) (hc : ts.length ≤ c ∧ c ≤ maxLen) (hx : ∀ t ∈ ts, t.okB = true ∧ t.b < 256) (hl : ts.length ≤ 300) (hm : szP P ≤ 8000000) :
    Calls Try.prog 6 #[.pointer (some ⟨B, 0, none⟩), .agg #[.int .u8 (k : Int), .slice p ts.length c], .bool false, .slice q m d] w fun e w' => e = .returned (.tuple #[]) ∧ ∃ A D, CodS ts A D ∧ KindC k A D ∧ WrF G W F base B (P ++ (Bn.fx (ts.map tn)).put (szP P) false) w' := by
  have H := Lib.hid h
  have HT := Lib.hid hT
  have Hx := Lib.hid hx
  have Hm := Lib.hid hm
  have Hc := Lib.hid hc
  obtain ⟨n, hn⟩ : ∃ n, ts.length = n := ⟨_, rfl⟩
  have Hn := Lib.hid hn
  rw [hn] at hl ⊢
  have hk3 : (k : Int) % 3 = 1 := by omega
  have Hk := Lib.hid hk
  clear h hT hx hm hc hn h0
  go_enter Try.func6, Try.ntmps6
  have hb0 := Below.al1 w (.cells #[.int .u8 (k : Int), .slice p n c] 28)
  have H0 := Lib.hid (H.out.more hb0 (F2 := fun w' => w'.cell? ⟨w.heap.size, 0, none⟩ = some (.int .u8 (k : Int)) ∧ w'.cell? ⟨w.heap.size, 1, none⟩ = some (.slice p n c)) (fun w' ht => ⟨new_cell ht (Nat.le_refl _) (cell_heap (World.alloc_heap_new w _) rfl), new_cell ht (Nat.le_refl _) (cell_heap (World.alloc_heap_new w _) rfl)⟩))
  clear hb0 H
  go_wp2_with fail
  refine Calls.mono (H0.out.put (v := 0) (k := 1) (by decide) (by decide) (by have := Hm.out; omega)) ?_
  rintro _ w1 ⟨rfl, h1⟩
  have H1 := Lib.hid h1
  obtain ⟨c0, c1⟩ := h1.now.2
  generalize w.heap.size = b0 at *
  clear h1 H0
  go_wp2_with fail
  refine Calls.mono (H1.out.put (v := 1) (k := 2) (by decide) (by decide) (by have := Hm.out; simp only [szP_app, szP]; omega)) ?_
  rintro _ w2 ⟨rfl, h2⟩
  have H2 := Lib.hid h2
  obtain ⟨c0, c1⟩ := h2.now.2
  have hrow : RowIn encT 3 w2 (.slice p n c) ts := ⟨p, c, by rw [Hn.out], Hc.out.1, Hc.out.2, HT.out _ h2.now.1⟩
  have Hcall := Lib.hid (lengths_any k (.slice p n c) ts w2 Hk.out hrow Hx.out (by rw [Hn.out]; exact hl))
  clear h2 H1 hrow
  go_wp2_with fail
  refine Calls.mono Hcall.out ?_
  rintro _ w3 ⟨va, vb, A, D, rfl, hC, hKC, ho1, ho2, hb3⟩
  have HC := Lib.hid hC
  have HKC := Lib.hid hKC
  have hla := hC.la
  have hld := hC.ld
  have h256 := hC.h256.1
  have hd0 : 0 < D.length := by
    rcases hKC with ⟨-, -, rfl⟩ | ⟨-, -, e⟩
    · decide
    · omega
  have c0 := cell_later hb3 c0
  have c1 := cell_later hb3 c1
  obtain ⟨ga, cca, rfl, hga, hxa⟩ := u8_cell ho1 (by omega)
  obtain ⟨gb, ccb, rfl, hgb, hxb⟩ := u8_cell ho2 hd0
  obtain ⟨bs3, hbs3⟩ : ∃ b, w2.heap.size = b := ⟨_, rfl⟩
  have H3 := Lib.hid (H2.out.more hb3 (F2 := fun w' => w'.ownsRow bs3 5 1 (.slice (some ⟨ga, 0, none⟩) A.length cca) A.length (A.map u8v) ∧ w'.ownsRow bs3 5 1 (.slice (some ⟨gb, 0, none⟩) D.length ccb) D.length (D.map u8v))
    (fun w' ht => by rw [← hbs3]; exact ⟨new_owns ht ho1, new_owns ht ho2⟩))
  have Ho1 := Lib.hid ho1
  have Ho2 := Lib.hid ho2
  clear hC hKC Hcall H2 hb3 hxa hxb ho1 ho2 hga hgb hbs3
  have Hca := Lib.hid (codes_ok A _ w3 (Rw8.own Ho1.out rfl).row HC.out.ca)
  go_wp2_with fail
  refine Calls.mono Hca.out ?_
  rintro _ w4 ⟨v4, rfl, ho4, hb4⟩
  have Hcb := Lib.hid (codes_ok D _ w4 (Rw8.own ((Turns.of_below' (T := fun _ => False) hb4).owns Ho2.out (fun _ _ h => h)) rfl).row HC.out.cd)
  obtain ⟨gc, ccc, rfl, hgc, hxc⟩ := u16_cell ho4 (by omega)
  have H4 := Lib.hid (H3.out.more hb4 (fun w' ht => fun i hi hl => new_cell ht hgc (hxc i hi hl)))
  have c0 := cell_later hb4 c0
  have c1 := cell_later hb4 c1
  clear Hca H3 hxc ho4 hb4 hgc
  go_wp2_with fail
  refine Calls.mono Hcb.out ?_
  rintro _ w5 ⟨v5, rfl, ho5, hb5⟩
  obtain ⟨gd, ccd, rfl, hgd, hxd⟩ := u16_cell ho5 hd0
  have H5 := Lib.hid ((H4.out.more hb5 (fun w' ht => fun i hi hl => new_cell ht hgd (hxd i hi hl))).weak (F2 := LoF F b0 k (.slice p n c) A D ga gb gc gd) (fun w h => ⟨h.1.1.1.1, h.1.1.1.2.1, h.1.1.1.2.2, u8_at h.1.1.2.1, u8_at h.1.1.2.2, h.1.2, h.2⟩))
  have c0 := cell_later hb5 c0
  have c1 := cell_later hb5 c1
  clear Hcb H4 hxd ho5 hb5 hgd
  obtain ⟨NA, hNA⟩ : ∃ NA, A.length = NA := ⟨_, rfl⟩
  obtain ⟨ND, hND⟩ : ∃ ND, D.length = ND := ⟨_, rfl⟩
  have HNA := Lib.hid hNA
  have HND := Lib.hid hND
  rw [hNA] at hla h256
  rw [hND] at hld hd0
  simp only [hNA, hND]
  clear hNA hND Ho1 Ho2
  go_wp2_with fail
  go_loopw [24] (fun iv wr => ∃ i : Nat, iv = .int .i64 (i : Int) ∧ i ≤ n ∧ Hid (WrF G W (LoF F b0 k (.slice p n c) A D ga gb gc gd) base B (P ++ [(0, 1)] ++ [(1, 2)] ++ laidT A D ((ts.take i).map tn)) wr)) (fun iv _ => n - (intOf iv).toNat)
  case atStart => exact ⟨0, rfl, Nat.zero_le _, Lib.hid (H5.out.congr (by simp [laidT]))⟩
  case round =>
    clear H5 c0 c1
    obtain ⟨i, rfl, hi, HW⟩ := hrel
    have HF := HW.out.now
    have cb := HF.c1
    by_cases hin : i < n
    · have d1 : decide ((i : Int) < (n : Int)) = true := by simp; omega
      have hin' : i < ts.length := by rw [Hn.out]; exact hin
      obtain ⟨g, off, rfl, hg, htk⟩ := RowAt.tk (HT.out _ HF.f) hin'
      obtain ⟨x0, x1, x2⟩ := htk
      obtain ⟨hok, hb256⟩ := Hx.out _ (List.getElem_mem hin')
      have hcod := HC.out.cod _ (List.getElem_mem hin')
      have Hlay := Lib.hid (take_laid A D ts hin')
      have Hsz : Hid (szP (laidT A D ((ts.take i).map tn)) ≤ 14400) := Lib.hid (by
        have h1 := tnT_szk (ts := ts.take i) HC.out.ca HC.out.cd (fun t ht => Hx.out t (List.mem_of_mem_take ht))
        rw [List.length_take] at h1
        omega)
      have i0 : (0 : Int) ≤ (i : Int) := by omega
      have i1 : (i : Int) < (n : Int) := by omega
      generalize ts[i] = t at *
      clear hg hin'
      go_upto_region 43 with (fail)
      have hb1 := Below.al1 wr (.cells #[.int .u8 (t.b : Int), .int .i64 t.n, .int .i64 t.d] 40)
      have HT1 := tk_new wr t
      have H6 := Lib.hid (HW.out.more hb1 (F2 := fun w' => TkAt w' wr.heap.size 0 t) (fun w' ht => ⟨new_cell ht (Nat.le_refl _) HT1.c0, new_cell ht (Nat.le_refl _) HT1.c1, new_cell ht (Nat.le_refl _) HT1.c2⟩))
      generalize wr.alloc (.cells #[.int .u8 (t.b : Int), .int .i64 t.n, .int .i64 t.d] 40) = u1 at *
      generalize wr.heap.size = gt at *
      clear x0 x1 x2 cb HF HW hb1
      obtain ⟨y0, y1, y2⟩ := HT1
      rcases tk_ok hok with h0 | ⟨nn, dd, e1, e2, n1, n2, n3, n4⟩
      · rw [h0] at y1
        obtain ⟨hc1, hc2, hc3⟩ := hcod.1 h0
        have Hput : Hid ((tn t).put A D = [(cd (lq A) A.length t.b, lq A t.b)]) := Lib.hid (if_pos (show t.n.toNat = 0 by omega))
        have xa := H6.out.now.1.a _ hc2
        have xc := H6.out.now.1.c _ hc2 hc3
        have hK := lq_15 HC.out.ca t.b
        have HX := Lib.hid (cd_low (lq A) A.length t.b)
        have HX16 := Lib.hid (cd_16 HC.out.ca t.b)
        rw [HNA.out] at hc2
        generalize cd (lq A) A.length t.b = X at *
        generalize lq A t.b = K at *
        generalize t.b = tb at *
        have j0 : (0 : Int) ≤ (tb : Int) := by omega
        have j1 : (tb : Int) < (NA : Int) := by omega
        have hwb : IntKind.i64.wrap (tb : Int) = (tb : Int) := IntWalk.i64_in _ (by omega)
        have hwK : IntKind.i64.wrap (K : Int) = (K : Int) := IntWalk.i64_in _ (by omega)
        clear hcod hc1 hc3 hok y2
        rw [h0]
        go_upto_region 44 with (fail)
        have hqq := After.ne u1
        have C0 := After.rule y0
        have C1 := After.rule xa
        have C2 := After.rule xc
        have HC2 := Lib.hid C2
        clear C2
        refine wp_region_head 12 (by kernel_rfl) (by kernel_rfl) (by kernel_rfl) ?_
        repeat (refine Lq_step (fun K hK => ?_); go_simp; first | (refine hK _ ?_; clear hK K) | (apply Exists.intro; refine ⟨fun n => ?_, hK _ ?_⟩; (go_at_call 17; exact word_makes gc NA ccc tb X u1 hc2 HX16.out HC2.out n); clear hK K))
        refine Lq_nil ?_
        intro u2 hb2
        simp only [List.drop_succ_cons, List.drop_zero]
        have H7 := Lib.hid (H6.out.below hb2)
        clear C0 C1 HC2 hqq hb2 y0 y1 xa xc H6
        go_wp2_with fail
        refine Calls.mono (H7.out.put (v := X) (k := K) HX.out (by omega) (by have := Hm.out; have := Hsz.out; skip; simp only [szP_app, szP]; omega)) ?_
        rintro _ u3 ⟨rfl, h8⟩
        have H8 := Lib.hid ((h8.weak (F2 := LoF F b0 k (.slice (some ⟨g, off, none⟩) n c) A D ga gb gc gd) (fun _ h => h.1)).congr (List.append_assoc _ _ _))
        rw [← Hput.out, ← Hlay.out] at H8
        clear h8 H7
        go_wp2
        go_roundw
        case rel => exact ⟨i + 1, by go_num, by omega, H8⟩
        case measure => simp [intOf]; omega
      · rw [e1] at y1
        rw [e2] at y2
        have h0 : t.n ≠ 0 := by omega
        obtain ⟨hc1, hc2, hc3, hc4⟩ := hcod.2 h0
        have f1 : t.n.toNat = nn := by omega
        have f2 : t.d.toNat = dd := by omega
        have Hput : Hid ((tn t).put A D = [(cd (lq A) A.length (lnSym nn), lq A (lnSym nn)), (nn - lnBase (lnSym nn), lnBits (lnSym nn)), (cd (lq D) D.length (dsSym dd), lq D (dsSym dd)), (dd - dsBase (dsSym dd), dsBits (dsSym dd))]) := Lib.hid (by
          unfold Tn.put
          rw [if_neg (show ¬ (tn t).n = 0 by show ¬ t.n.toNat = 0; omega)]
          show [(cd (lq A) A.length (lnSym t.n.toNat), lq A (lnSym t.n.toNat)), (t.n.toNat - lnBase (lnSym t.n.toNat), lnBits (lnSym t.n.toNat)), (cd (lq D) D.length (dsSym t.d.toNat), lq D (dsSym t.d.toNat)), (t.d.toNat - dsBase (dsSym t.d.toNat), dsBits (dsSym t.d.toNat))] = _
          rw [f1, f2])
        rw [f1] at hc1 hc2
        rw [f2] at hc3 hc4
        obtain ⟨s1, s2, s3, s4⟩ := lnSym_ok nn (by omega) n1
        obtain ⟨r1, r2, r3⟩ := dsSym_ok n3 n4
        have Hsy := Lib.hid (symbol_any nn u1 n1 n2)
        have Hds := Lib.hid (fun W => distance_any dd W n3 n4)
        have xa := H6.out.now.1.a _ hc1
        have xc := H6.out.now.1.c _ hc1 hc2
        have Hxb := Lib.hid (fun w (h : LoF F b0 k (.slice (some ⟨g, off, none⟩) n c) A D ga gb gc gd w) => h.b _ hc3)
        have Hxd := Lib.hid (fun w (h : LoF F b0 k (.slice (some ⟨g, off, none⟩) n c) A D ga gb gc gd w) => h.d _ hc3 hc4)
        have hK := lq_15 HC.out.ca (lnSym nn)
        have HX := Lib.hid (cd_low (lq A) A.length (lnSym nn))
        have HX16 := Lib.hid (cd_16 HC.out.ca (lnSym nn))
        have hL := lq_15 HC.out.cd (dsSym dd)
        have HY := Lib.hid (cd_low (lq D) D.length (dsSym dd))
        have HY16 := Lib.hid (cd_16 HC.out.cd (dsSym dd))
        have hbl := lnBits_lo (lnSym nn) (by omega)
        have hbd := dsBits_lo (dsSym dd) (by omega)
        rw [HNA.out] at hc1
        rw [HND.out] at hc3
        have hq258 : nn - lnBase (lnSym nn) ≤ 258 := by omega
        have hq32 : dd - dsBase (dsSym dd) ≤ 32768 := by omega
        generalize cd (lq A) A.length (lnSym nn) = X at *
        generalize lq A (lnSym nn) = K at *
        generalize cd (lq D) D.length (dsSym dd) = Y at *
        generalize lq D (dsSym dd) = L at *
        generalize nn - lnBase (lnSym nn) = ex at *
        generalize lnBits (lnSym nn) = eb at *
        generalize dd - dsBase (dsSym dd) = fx at *
        generalize dsBits (dsSym dd) = fb2 at *
        generalize lnSym nn = sa at *
        generalize dsSym dd = sd at *
        have HS4 := Lib.hid s4
        have HR3 := Lib.hid r3
        have d2 : ((nn : Int) == 0) = false := by simp; omega
        have j0 : (0 : Int) ≤ (sa : Int) := by omega
        have j1 : (sa : Int) < (NA : Int) := by omega
        have j2 : (0 : Int) ≤ (sd : Int) := by omega
        have j3 : (sd : Int) < (ND : Int) := by omega
        have hwK : IntKind.i64.wrap (K : Int) = (K : Int) := IntWalk.i64_in _ (by omega)
        have hwL : IntKind.i64.wrap (L : Int) = (L : Int) := IntWalk.i64_in _ (by omega)
        have hwe : IntKind.u32.wrap (ex : Int) = (ex : Int) := IntWalk.u32_in _ (by omega)
        have hwf : IntKind.u32.wrap (fx : Int) = (fx : Int) := IntWalk.u32_in _ (by omega)
        clear hcod hc2 hc4 hok h0 f1 f2 s1 s2 s3 s4 r1 r2 r3
        rw [e1]
        go_wp2_with fail
        refine Calls.mono Hsy.out ?_
        rintro _ z2 ⟨rfl, hz2⟩
        rw [hz2]
        clear hz2 z2
        go_upto_region 46 with (fail)
        have hqq := After.ne u1
        have C1 := After.rule xa
        have HC2 := Lib.hid (After.rule xc)
        refine wp_region_head 9 (by kernel_rfl) (by kernel_rfl) (by kernel_rfl) ?_
        repeat (refine Lq_step (fun K hK => ?_); go_simp; first | (refine hK _ ?_; clear hK K) | (apply Exists.intro; refine ⟨fun n => ?_, hK _ ?_⟩; (go_at_call 17; exact word_makes gc NA ccc sa X u1 hc1 HX16.out HC2.out n); clear hK K))
        refine Lq_nil ?_
        intro u2 hb2
        simp only [List.drop_succ_cons, List.drop_zero]
        have H7 := Lib.hid (H6.out.below hb2)
        clear C1 HC2 hqq hb2 y0 y1 xa xc H6 y2
        go_wp2_with fail
        refine Calls.mono (H7.out.put (v := X) (k := K) HX.out (by omega) (by have := Hm.out; have := Hsz.out; skip; simp only [szP_app, szP]; omega)) ?_
        rintro _ u3 ⟨rfl, h8⟩
        have H8 := Lib.hid h8
        clear h8 H7
        go_wp2_with fail
        refine Calls.mono (H8.out.put (v := ex) (k := eb) HS4.out (by omega) (by have := Hm.out; have := Hsz.out; skip; simp only [szP_app, szP]; omega)) ?_
        rintro _ u4 ⟨rfl, h9⟩
        have H9 := Lib.hid h9
        have y2 := h9.now.2.c2
        rw [e2] at y2
        clear h9 H8
        go_wp2_with fail
        refine Calls.mono (Hds.out u4) ?_
        rintro _ z5 ⟨rfl, hz5⟩
        rw [hz5]
        clear hz5 z5
        have xb := Hxb.out _ H9.out.now.1
        have xd := Hxd.out _ H9.out.now.1
        go_upto_region 49 with (fail)
        have hqq := After.ne u4
        have C1 := After.rule xb
        have HC2 := Lib.hid (After.rule xd)
        refine wp_region_head 9 (by kernel_rfl) (by kernel_rfl) (by kernel_rfl) ?_
        repeat (refine Lq_step (fun K hK => ?_); go_simp; first | (refine hK _ ?_; clear hK K) | (apply Exists.intro; refine ⟨fun n => ?_, hK _ ?_⟩; (go_at_call 17; exact word_makes gd ND ccd sd Y u4 hc3 HY16.out HC2.out n); clear hK K))
        refine Lq_nil ?_
        intro u6 hb6
        simp only [List.drop_succ_cons, List.drop_zero]
        have H10 := Lib.hid (H9.out.below hb6)
        clear C1 HC2 hqq hb6 xb xd H9 y2
        go_wp2_with fail
        refine Calls.mono (H10.out.put (v := Y) (k := L) HY.out (by omega) (by have := Hm.out; have := Hsz.out; skip; simp only [szP_app, szP]; omega)) ?_
        rintro _ u7 ⟨rfl, h11⟩
        have H11 := Lib.hid h11
        clear h11 H10
        go_wp2_with fail
        refine Calls.mono (H11.out.put (v := fx) (k := fb2) HR3.out (by omega) (by have := Hm.out; have := Hsz.out; skip; simp only [szP_app, szP]; omega)) ?_
        rintro _ u8 ⟨rfl, h12⟩
        have H12 := Lib.hid ((h12.weak (F2 := LoF F b0 k (.slice (some ⟨g, off, none⟩) n c) A D ga gb gc gd) (fun _ h => h.1)).congr (show _ = P ++ [(0, 1)] ++ [(1, 2)] ++ laidT A D ((ts.take (i + 1)).map tn) by rw [Hlay.out, Hput.out]; simp only [List.append_assoc, List.cons_append, List.nil_append]))
        clear h12 H11
        go_wp2
        go_roundw
        case rel => exact ⟨i + 1, by go_num, by omega, H12⟩
        case measure => simp [intOf]; omega
    · obtain rfl : i = n := by omega
      have hE : ts.take i = ts := List.take_of_length_le (by rw [Hn.out]; exact Nat.le_refl _)
      rw [hE] at HW
      have Hsz : Hid (szP (laidT A D (ts.map tn)) ≤ 14400) := Lib.hid (by
        have h1 := tnT_szk (ts := ts) HC.out.ca HC.out.cd Hx.out
        rw [Hn.out] at h1
        omega)
      obtain ⟨hc1, hc2⟩ := HC.out.h256
      have xa := HF.a _ hc1
      have xc := HF.c _ hc1 hc2
      have hK := lq_15 HC.out.ca 256
      have HX := Lib.hid (cd_low (lq A) A.length 256)
      have HX16 := Lib.hid (cd_16 HC.out.ca 256)
      obtain ⟨X, hX⟩ : ∃ X, cd (lq A) A.length 256 = X := ⟨_, rfl⟩
      obtain ⟨K, hKK⟩ : ∃ K, lq A 256 = K := ⟨_, rfl⟩
      have HeX := Lib.hid hX
      have HeK := Lib.hid hKK
      rw [hX, hKK] at HX
      rw [hX] at HX16 xc
      rw [hKK] at xa hK
      have j0 : (256 : Int) < (NA : Int) := by omega
      have hwK : IntKind.i64.wrap (K : Int) = (K : Int) := IntWalk.i64_in _ (by omega)
      clear hc1 hc2 hE hX hKK HF
      go_upto_region 51 with (fail)
      have hqq := After.ne wr
      have C1 := After.rule xa
      have HC2 := Lib.hid (After.rule xc)
      refine wp_region_head 7 (by kernel_rfl) (by kernel_rfl) (by kernel_rfl) ?_
      repeat (refine Lq_step (fun K hK => ?_); go_simp; first | (refine hK _ ?_; clear hK K) | (apply Exists.intro; refine ⟨fun n => ?_, hK _ ?_⟩; (go_at_call 17; exact word_makes gc NA ccc 256 X wr h256 HX16.out HC2.out n); clear hK K))
      refine Lq_nil ?_
      intro u2 hb2
      simp only [List.drop_succ_cons, List.drop_zero]
      have H7 := Lib.hid (HW.out.below hb2)
      clear C1 HC2 hqq hb2 xa xc HW cb
      go_wp2_with fail
      refine Calls.mono (H7.out.put (v := X) (k := K) HX.out (by omega) (by have := Hm.out; have := Hsz.out; skip; simp only [szP_app, szP]; omega)) ?_
      rintro _ u3 ⟨rfl, h8⟩
      have H8 := Lib.hid (h8.weak (F2 := F) (fun _ h => h.f))
      clear h8 H7
      go_wp2
      go_end0
      refine ⟨rfl, A, D, HC.out, HKC.out, H8.out.congr ?_⟩
      rcases HKC.out with ⟨-, rfl, rfl⟩ | ⟨h1, -⟩
      · have e1 := HeX.out
        have e2 := HeK.out
        simp only [List.append_assoc, Bn.put, Bn.body, endP, Bn.kind, ← e1, ← e2, List.cons_append, List.nil_append]
        rfl
      · exact absurd (by have := hk3; omega) h1

end Go.Proofs.Ytdcmalbbijchiaa
