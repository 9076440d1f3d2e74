/- Several texts in one, each with its own head. -/
import Derived.Test.YtebfdoipogjpnaaGreatQd40
import Derived.Test.YtebfdoipogjpnaaGreatQd34
import Derived.Test.YtebfdoipogjpnaaGreatQd39
/- deflate, plainly: a dynamic block's own head, laid by runs, is read. -/
namespace Go.Proofs.YtebfdoipogjpnaaGreat

theorem clF_part {l : List Nat} {b : Nat} {f : Nat → Nat} : ∀ k, k ≤ 19 → (∀ j, j < k → nb l (b + 3 * j) 3 = f (ordL.getD j 0)) → ∀ i, clF l b k i = if i ∈ ordL.take k then f i else 0
  | 0, _, _, i => by simp; rfl
  | k + 1, hk, h, i => by
    show (if i = ordL.getD k 0 then nb l (b + 3 * k) 3 else clF l b k i) = _
    have hk' : k < ordL.length := by show k < 19; omega
    have hg : ordL.getD k 0 = ordL[k] := by rw [List.getD_eq_getElem?_getD, List.getElem?_eq_getElem hk']; rfl
    rw [List.take_succ_eq_append_getElem hk', ← hg]
    by_cases e : i = ordL.getD k 0
    · rw [if_pos e, h k (by omega), if_pos (by rw [e]; exact List.mem_append_right _ (List.mem_singleton.2 rfl)), e]
    · rw [if_neg e, clF_part k (by omega) (fun j hj => h j (by omega)) i]
      by_cases m : i ∈ ordL.take k
      · rw [if_pos m, if_pos (List.mem_append_left _ m)]
      · rw [if_neg m, if_neg fun m' => ?_]
        rcases List.mem_append.1 m' with m' | m'
        · exact m m'
        · exact e (List.mem_singleton.1 m')
theorem clL_part {l C : List Nat} {b k : Nat} (hC : C.length = 19) (hk : k ≤ 19) (h : ∀ j, j < k → nb l (b + 3 * j) 3 = lq C (ordL.getD j 0)) (hz : ∀ j, k ≤ j → j < 19 → lq C (ordL.getD j 0) = 0) : clL l b k = C := by
  unfold clL
  refine List.ext_getElem (by simp [hC]) fun i h1 h2 => ?_
  rw [List.getElem_map, List.getElem_range, clF_part k hk h i, lq_at h2]
  by_cases m : i ∈ ordL.take k
  · rw [if_pos m]
  · rw [if_neg m]
    obtain ⟨j, hj, e⟩ := List.getElem_of_mem (ordL_all i (by omega))
    have hg : ordL.getD j 0 = i := by rw [List.getD_eq_getElem?_getD, List.getElem?_eq_getElem hj, ← e]; rfl
    by_cases hjk : j < k
    · exact absurd (List.mem_take_iff_getElem.2 ⟨j, by omega, e⟩) m
    · rw [← hg, hz j (by omega) hj]
theorem AtP.threes_end {l : List Nat} {f : Nat → Nat} : ∀ {xs : List Nat} {b : Nat} {q : Pt}, xs ≠ [] → AtP l b (xs.map (fun i => (f i, 3)) ++ q) → b + 3 * xs.length ≤ 8 * l.length
  | [], _, _, h, _ => absurd rfl h
  | [x], b, q, _, h => h.2.1
  | x :: y :: xs, b, q, _, h => by
    have := AtP.threes_end (f := f) (xs := y :: xs) (by simp) h.2.2
    rw [List.length_cons]
    simp only at this
    omega

/-- How many lengths of the lengths' code are told. -/
def putR (X Y C : List Nat) (k : Nat) : Pt := (X.length - 257, 5) :: (Y.length - 1, 5) :: (k - 4, 4) :: ((ordL.take k).map (fun i => (lq C i, 3)) ++ (rnL (X ++ Y)).flatMap (plP [C]))
theorem own_rn {l X Y C : List Nat} {k : Nat} (x1 : 257 ≤ X.length) (x2 : X.length ≤ 286) (y1 : 1 ≤ Y.length) (y2 : Y.length ≤ 30) (k4 : 4 ≤ k) (k19 : k ≤ 19) (hC : C.length = 19) (cC : chk C = 0) (hz : ∀ j, k ≤ j → j < 19 → lq C (ordL.getD j 0) = 0)
    (h16 : ∀ i, lq (X ++ Y) i < 16) (hx : ∀ x ∈ rnL (X ++ Y), x.c = 0 ∧ x.s < C.length ∧ 0 < lq C x.s) (cx : chk X = 0) (cy : chk Y = 0) (h0 : 0 < lq X 256) {a : Nat} {q : Pt} (h : AtP l a (putR X Y C k ++ q)) : InfDy l a X.length (.go (a + szP (putR X Y C k)) (X ++ Y)) := by
  obtain ⟨p1, q1, p2, q2, p3, q3, h⟩ := h
  simp only at p1 q1 p2 q2 p3 q3 h
  rw [show a + 5 + 5 = a + 10 by omega] at p3 q3 h
  rw [show a + 10 + 4 = a + 14 by omega] at q3 h
  change AtP l (a + 14) (((ordL.take k).map (fun i => (lq C i, 3)) ++ (rnL (X ++ Y)).flatMap (plP [C])) ++ q) at h
  rw [List.append_assoc] at h
  have hlk : (ordL.take k).length = k := by rw [List.length_take, show ordL.length = 19 from rfl]; omega
  have hcl : clL l (a + 14) k = C := clL_part hC k19 (fun j hj => by
    have := AtP.threes (lq C) (xs := ordL.take k) h j (by omega)
    rw [this]
    congr 1
    rw [List.getD_eq_getElem?_getD, List.getD_eq_getElem?_getD, List.getElem?_take, if_pos hj]) hz
  have hend := AtP.threes_end (fun e => by rw [e] at hlk; simp at hlk; omega) h
  rw [hlk] at hend
  obtain ⟨-, h2⟩ := h.app
  rw [szP_threes, hlk] at h2
  have hls := runs_ls cC h16 ((X ++ Y).length + 1) 0 (by omega) (by omega) hx h2
  rw [List.take_zero] at hls
  change InfLs C l (X ++ Y).length (a + 14 + 3 * k) [] (.go (a + 14 + 3 * k + szP ((rnL (X ++ Y)).flatMap (plP [C]))) (X ++ Y)) at hls
  have e1 : nb l a 5 + 257 = X.length := by rw [p1]; omega
  have e2 : nb l (a + 5) 5 + 1 = Y.length := by rw [p2]; omega
  have e3 : nb l (a + 10) 4 + 4 = k := by rw [p3]; omega
  have ht : (X ++ Y).take X.length = X := List.take_left
  have hd : (X ++ Y).drop X.length = Y := List.drop_left
  have hq : lq (X ++ Y) 256 = lq X 256 := by
    unfold lq
    rw [List.getD_eq_getElem?_getD, List.getD_eq_getElem?_getD, List.getElem?_append_left (by omega)]
  have := InfDy.done (l := l) (a := a) q3 (by rw [e1, e2]; omega) (by rw [e3]; omega) (by rw [e3, hcl]; exact cC) _ (X ++ Y) (by
    rw [e1, e2, e3, hcl, ← List.length_append]
    exact hls) (by rw [e1, hq, ht, hd]; exact ⟨by omega, cx, cy⟩)
  rw [e1] at this
  rw [show a + szP (putR X Y C k) = a + 14 + 3 * k + szP ((rnL (X ++ Y)).flatMap (plP [C])) by
    unfold putR
    simp only [szP, szP_app, szP_threes, hlk]
    omega]
  exact this

end Go.Proofs.YtebfdoipogjpnaaGreat

/- deflate, plainly: noughts at the end of lengths change no code. -/
namespace Go.Proofs.YtebfdoipogjpnaaGreat

theorem sm_tail {f : Nat → Nat} {m : Nat} : ∀ {n : Nat}, m ≤ n → (∀ i, m ≤ i → i < n → f i = 0) → sm n f = sm m f
  | 0, h, _ => by obtain rfl : m = 0 := by omega
                  rfl
  | n + 1, h, hz => by
    by_cases e : m = n + 1
    · rw [e]
    · show sm n f + f n = sm m f
      rw [hz n (by omega) (by omega), Nat.add_zero]
      exact sm_tail (by omega) fun i h1 h2 => hz i h1 (by omega)

/-- A row of lengths whose end is noughts, and the row without them. -/
structure Cut (l : List Nat) (m : Nat) : Prop where
  le : m ≤ l.length
  z : ∀ i, m ≤ i → i < l.length → lq l i = 0
theorem Cut.of (l : List Nat) (least : Nat) : Cut l (trN l least l.length) := ⟨trN_le _ _ _, fun i h1 h2 => trN_zero l least l.length i h1 h2⟩
section
variable {l : List Nat} {m : Nat}
theorem Cut.len (h : Cut l m) : (l.take m).length = m := by rw [List.length_take]; have := h.le; omega
theorem Cut.lq (h : Cut l m) : lq (l.take m) = lq l := by
  funext i
  by_cases h1 : i < m
  · unfold Proofs.YtebfdoipogjpnaaGreat.lq
    rw [List.getD_eq_getElem?_getD, List.getD_eq_getElem?_getD, List.getElem?_take, if_pos h1]
  · have e1 : Proofs.YtebfdoipogjpnaaGreat.lq (l.take m) i = 0 := by
      unfold Proofs.YtebfdoipogjpnaaGreat.lq
      rw [List.getD_eq_getElem?_getD, List.getElem?_take, if_neg h1]; rfl
    rw [e1]
    by_cases h2 : i < l.length
    · exact (h.z i (by omega) h2).symm
    · unfold Proofs.YtebfdoipogjpnaaGreat.lq
      rw [List.getD_eq_getElem?_getD, List.getElem?_eq_none (by omega)]; rfl
theorem Cut.cn (h : Cut l m) (n : Nat) : cn (Proofs.YtebfdoipogjpnaaGreat.lq l) (n + 1) l.length = cn (Proofs.YtebfdoipogjpnaaGreat.lq l) (n + 1) m := sm_tail h.le fun i h1 h2 => by rw [h.z i h1 h2]; rfl
theorem Cut.en (h : Cut l m) : ∀ n, en (Proofs.YtebfdoipogjpnaaGreat.lq l) l.length n = en (Proofs.YtebfdoipogjpnaaGreat.lq l) m n
  | 0 => rfl
  | n + 1 => by rw [Proofs.YtebfdoipogjpnaaGreat.en, Proofs.YtebfdoipogjpnaaGreat.en, h.en n, h.cn n]
theorem Cut.cd (h : Cut l m) (i : Nat) : cd (Proofs.YtebfdoipogjpnaaGreat.lq (l.take m)) (l.take m).length i = cd (Proofs.YtebfdoipogjpnaaGreat.lq l) l.length i := by
  rw [h.lq, h.len]
  unfold Proofs.YtebfdoipogjpnaaGreat.cd nx
  rw [h.en]
theorem Cut.chk (h : Cut l m) (hc : chk l = 0) : chk (l.take m) = 0 := by
  obtain ⟨h1, h2, h3⟩ := chk_zero hc
  have hm := h.le
  have e1 : many l.length (Proofs.YtebfdoipogjpnaaGreat.lq l) = many m (Proofs.YtebfdoipogjpnaaGreat.lq l) := sm_tail hm fun i a b => by rw [h.z i a b]; rfl
  have e2 : room l.length 15 (Proofs.YtebfdoipogjpnaaGreat.lq l) = room m 15 (Proofs.YtebfdoipogjpnaaGreat.lq l) := sm_tail hm fun i a b => by rw [h.z i a b]; rfl
  rw [chk_rest (by rw [h.len]; omega) (fun i hi => by rw [h.lq]; rw [h.len] at hi; exact h2 i (by omega)), h.lq, h.len, ← e1, ← e2]
  exact if_pos h3
theorem Cut.has (h : Cut l m) {i : Nat} (hi : i < l.length) (hp : 0 < Proofs.YtebfdoipogjpnaaGreat.lq l i) : i < m := by
  rcases Nat.lt_or_ge i m with h1 | h1
  · exact h1
  · have := h.z i h1 hi; omega
end

/-- Tokens are laid alike, and are there, where noughts are left out. -/
theorem Cut.codT {A D : List Nat} {m k : Nat} (hA : Cut A m) (hD : Cut D k) {t : Tk} (h : codT A D t) : codT (A.take m) (D.take k) t := by
  obtain ⟨h1, h2⟩ := h
  refine ⟨fun h0 => ?_, fun h0 => ?_⟩
  · obtain ⟨b1, b2, b3⟩ := h1 h0
    rw [hA.len, hA.lq]
    exact ⟨b1, hA.has b2 b3, b3⟩
  · obtain ⟨b1, b2, b3, b4⟩ := h2 h0
    rw [hA.len, hA.lq, hD.len, hD.lq]
    exact ⟨hA.has b1 b2, b2, hD.has b3 b4, b4⟩
theorem cut_pl {A D : List Nat} {m k : Nat} (hA : Cut A m) (hD : Cut D k) (x : Pa) (hx : x.c < 2) : plP [A.take m, D.take k] x = plP [A, D] x := by
  unfold plP
  rcases (show x.c = 0 ∨ x.c = 1 by omega) with e | e
  · rw [e]
    show [(cd (lq (A.take m)) (A.take m).length x.s, lq (A.take m) x.s), (x.m, x.z)] = [(cd (lq A) A.length x.s, lq A x.s), (x.m, x.z)]
    rw [hA.cd, hA.lq]
  · rw [e]
    show [(cd (lq (D.take k)) (D.take k).length x.s, lq (D.take k) x.s), (x.m, x.z)] = [(cd (lq D) D.length x.s, lq D x.s), (x.m, x.z)]
    rw [hD.cd, hD.lq]

end Go.Proofs.YtebfdoipogjpnaaGreat

/- deflate, plainly: what tokens take at most. -/
namespace Go.Proofs.YtebfdoipogjpnaaGreat

theorem ln_sz : ∀ n, n < 259 → 3 ≤ n → 43 + lnBits (lnSym n) ≤ 15 * n := by decide +kernel
theorem ds_sz : ∀ s, s < 30 → dsBits s ≤ 13 := by decide +kernel
theorem pa_sz {A D : List Nat} (hA : ∀ i, lq A i ≤ 15) (hD : ∀ i, lq D i ≤ 15) {t : Tk} (h : t.okB = true) : szP ((paT t).flatMap (plP [A, D])) ≤ 15 * t.size := by
  rcases tk_okD h with h0 | ⟨n, d, e1, e2, n1, n2, n3, n4⟩
  · unfold paT Tk.size
    rw [if_pos h0, h0]
    have := hA t.b
    show lq A t.b + (0 + 0) ≤ 15 * _
    simp; omega
  · have h0 : t.n ≠ 0 := by omega
    unfold paT Tk.size
    rw [if_neg h0]
    have f1 : t.n.toNat = n := by omega
    have f2 : t.d.toNat = d := by omega
    rw [f1, f2]
    obtain ⟨r1, -⟩ := dsSym_ok n3 n4
    have k1 := hA (lnSym n)
    have k2 := hD (dsSym d)
    have k3 := ln_sz n (by omega) n1
    have k4 := ds_sz (dsSym d) (by omega)
    show lq A (lnSym n) + (lnBits (lnSym n) + (lq D (dsSym d) + (dsBits (dsSym d) + 0))) ≤ _
    first | (rw [if_neg h0]; omega) | (simp; omega) | omega
theorem pas_sz {A D : List Nat} (hA : ∀ i, lq A i ≤ 15) (hD : ∀ i, lq D i ≤ 15) : ∀ {ts : List Tk}, (∀ t ∈ ts, t.okB = true) → szP ((pasT ts).flatMap (plP [A, D])) ≤ 15 * (ts.map Tk.size).sum + 15
  | [], _ => by
    have := hA 256
    show lq A 256 + (0 + 0) ≤ _
    simp; omega
  | t :: r, h => by
    have e : pasT (t :: r) = paT t ++ pasT r := by unfold pasT; rw [List.flatMap_cons, List.append_assoc]
    have h1 := pa_sz hA hD (h t List.mem_cons_self)
    have h2 := pas_sz hA hD (ts := r) fun x hx => h x (List.mem_cons_of_mem _ hx)
    rw [e, List.flatMap_append, szP_app, List.map_cons, List.sum_cons]
    omega
/-- What tokens tell is as long as they say. -/
theorem xp_sizes : ∀ {ts : List Tk} {o : List Nat}, (xp ts o).2 = 0 → (xp ts o).1.length = o.length + (ts.map Tk.size).sum
  | [], o, _ => rfl
  | t :: r, o, h => by
    by_cases e : tkErr t o.length = 0
    · rw [xp_cons_ok e] at h ⊢
      rw [xp_sizes h, tellT_len _ _ (tkErr_ok e).1, List.map_cons, List.sum_cons]
      omega
    · rw [xp_cons_bad e] at h
      exact absurd h e
/-- All of a row's lengths, laid. -/
theorem rn_sz {C : List Nat} (hC : ∀ i, lq C i ≤ 15) {xs : List Pa} (h : ∀ x ∈ xs, x.c = 0 ∧ x.z ≤ 7) : szP (xs.flatMap (plP [C])) ≤ 22 * xs.length := by
  induction xs with
  | nil => simp [szP]
  | cons x r ih =>
    obtain ⟨h1, h2⟩ := h x List.mem_cons_self
    have h3 := ih fun y hy => h y (List.mem_cons_of_mem _ hy)
    have h4 := hC x.s
    have e : szP (plP [C] x) = lq C x.s + x.z := by
      unfold plP
      rw [h1]; rfl
    rw [List.flatMap_cons, szP_app, List.length_cons, e]
    omega

end Go.Proofs.YtebfdoipogjpnaaGreat

/- deflate: ownCodes: two rows one behind the other. -/
namespace Go.Proofs.YtebfdoipogjpnaaGreat
open Go.RowKit Go.Maps

theorem two_cellsD {w : World} {a b : Value} {t : TypeId} : ∀ i v, [a, b][i]? = some v → (w.alloc (.cells #[a, b] t)).cell? ⟨w.heap.size, i, none⟩ = some v := fun i v h => by
  have hb := World.alloc_heap_new w (.cells #[a, b] t)
  simp only [World.cell?, hb]
  have : (#[a, b] : Array Value)[i]? = some v := by rw [← h]; simp
  rw [this]; rfl
theorem concatD_two {w4 : World} {v1 v2 : Value} {r1 r2 : List Nat} (H1 : Rw8 w4 v1 r1) (H2 : Rw8 w4 v2 r2) (h0 : 0 < r1.length) (hn : r1.length + r2.length ≤ 10000) :
    Calls Tryz.prog 124 #[.slice (some ⟨w4.heap.size, 0, none⟩) 2 2] (w4.alloc (.cells #[v1, v2] 22)) fun e w' => ∃ v, e = .returned v ∧ w'.ownsRow w4.heap.size 5 1 v (r1 ++ r2).length ((r1 ++ r2).map u8v) ∧ Below w4.heap.size w4 w' := by
  obtain ⟨R, hR⟩ : ∃ R, R = [(v1, r1), (v2, r2)] := ⟨_, rfl⟩
  have hlen : R.length = 2 := by rw [hR]; rfl
  have htot : tot R 2 = (r1 ++ r2).length := by rw [hR]; simp [tot]
  have hcat : cat R 2 = r1 ++ r2 := by rw [hR]; simp [cat]
  have hl : (r1 ++ r2).length = r1.length + r2.length := List.length_append
  have hcells := two_cellsD (w := w4) (a := v1) (b := v2) (t := 22)
  have hb := Below.al1 w4 (.cells #[v1, v2] 22)
  have hcc := sconcat_any w4.heap.size 2 R (w4.alloc (.cells #[v1, v2] 22)) (fun i hi => by
    subst hR
    have hi : i < 2 := hi
    have : i = 0 ∨ i = 1 := by omega
    rcases this with rfl | rfl
    · exact ⟨hcells 0 _ rfl, H1.below hb⟩
    · exact ⟨hcells 1 _ rfl, H2.below hb⟩) (by rw [hlen, htot]; omega) (by rw [hlen, htot]; omega) (by omega)
  rw [hlen, htot, hcat] at hcc
  refine Calls.mono hcc ?_
  rintro e w' ⟨v, rfl, ho, hb2⟩
  exact ⟨v, rfl, owns_lower ho hb.size, Below.thn hb hb2⟩

/-- A part of a row that lies from the block's beginning on. -/
theorem rw8_take {w : World} {g c : Nat} {l : List Nat} {m : Nat} (h : m ≤ l.length) (hc : l.length ≤ c) (hm : c ≤ maxLen) (hg : ∃ cur t, w.heap[g]? = some (.cells cur t) ∧ ∀ i, i < l.length → cur[i]? = some (.int .u8 ((lq l i : Nat) : Int))) : Row enc8 1 w (.slice (some ⟨g, 0, none⟩) m c) (l.take m) := by
  obtain ⟨cur, t, h1, h2⟩ := hg
  have hl : (l.take m).length = m := by rw [List.length_take]; omega
  refine ⟨some ⟨g, 0, none⟩, c, by rw [hl], by rw [hl]; omega, hm, .inr ⟨g, 0, rfl, lt_heap h1, fun k x hx j u hu => ?_⟩⟩
  cases j with
  | succ j => cases hu
  | zero =>
    cases hu
    have hk : k < m := by rw [← hl]; exact (List.getElem?_eq_some_iff.1 hx).1
    rw [Nat.mul_one, Nat.zero_add, Nat.add_zero]
    refine cell_heap h1 ?_
    rw [h2 k (by omega)]
    have : lq l k = x := by
      unfold lq
      rw [List.getElem?_take, if_pos hk] at hx
      rw [List.getD_eq_getElem?_getD, hx]; rfl
    rw [this]; rfl

end Go.Proofs.YtebfdoipogjpnaaGreat

/- deflate, plainly: what the best codes of counted parts are good for. -/
namespace Go.Proofs.YtebfdoipogjpnaaGreat

theorem ctZ_ctL (f : Nat → Nat) (n : Nat) : ctZ f n = ctL f n := rfl
/-- Counts may be asked for. -/
theorem best_may {xs : List Pa} {j n lim : Nat} (hn : n ≤ 320) (hl : xs.length ≤ 1000000) (h1 : 1 ≤ lim) (h15 : lim ≤ 15) (hm : n ≤ 2 ^ lim) : mayB (ctZ (cntP xs j) n) (lim : Int) = true ∧ many n (fq (ctZ (cntP xs j) n)) ≤ 2 ^ lim := by
  have h := ctL_may (f := cntP xs j) hn (fun i => Nat.le_trans (cntP_le xs j i) hl)
  refine ⟨?_, Nat.le_trans (many_le _ _) hm⟩
  unfold mayB at h ⊢
  rw [Bool.and_eq_true] at h ⊢
  refine ⟨?_, h.2⟩
  rw [ctZ_len]
  exact decide_eq_true ⟨by omega, by omega, hn⟩
/-- Every symbol that is counted has a code. -/
theorem best_has {xs : List Pa} {j n lim : Nat} {g : Nat → Nat} (h : LensOk (ctZ (cntP xs j) n) lim g) {x : Pa} (hx : x ∈ xs) (hc : x.c = j) (hs : x.s < n) : 0 < lq (gl g n) x.s := by
  rw [gl_at g hs]
  refine ((h.le x.s (by rw [ctZ_len]; exact hs)).2).2 ?_
  rw [ctZ_ctL, ctL_fq _ hs]
  unfold cntP
  exact List.countP_pos_iff.2 ⟨x, hx, by simp [hc]⟩
/-- They are codes. -/
theorem best_chk {xs : List Pa} {j n lim : Nat} {g : Nat → Nat} (h : LensOk (ctZ (cntP xs j) n) lim g) (h15 : lim ≤ 15) (hn : n ≤ 320) : chk (gl g n) = 0 := by
  have := lens_chk h h15 (by rw [ctZ_len]; exact hn)
  rwa [ctZ_len] at this
theorem best_le {xs : List Pa} {j n lim : Nat} {g : Nat → Nat} (h : LensOk (ctZ (cntP xs j) n) lim g) (i : Nat) : lq (gl g n) i ≤ lim := by
  by_cases hi : i < n
  · rw [gl_at g hi]
    exact (h.le i (by rw [ctZ_len]; exact hi)).1
  · unfold lq
    rw [List.getD_eq_getElem?_getD, List.getElem?_eq_none (by rw [gl_len]; omega)]
    exact Nat.zero_le _
/-- Parts of tokens, by the codes that are best for them, may be laid. -/
theorem best_ok {ts : List Tk} {g k : Nat → Nat} (hx : ∀ t ∈ ts, t.okB = true ∧ t.b < 256) (h1 : LensOk (ctZ (cntP (pasT ts) 0) 286) 15 g) (h2 : LensOk (ctZ (cntP (pasT ts) 1) 30) 15 k) :
    (∀ t ∈ ts, codT (gl g 286) (gl k 30) t) ∧ 0 < lq (gl g 286) 256 := by
  refine ⟨fun t ht => ?_, best_has (x := ⟨0, 256, 0, 0⟩) h1 (List.mem_append_right _ (List.mem_singleton.2 rfl)) rfl (by decide)⟩
  have hin : ∀ x ∈ paT t, x ∈ pasT ts := fun x hxm => List.mem_append_left _ (List.mem_flatMap.2 ⟨t, ht, hxm⟩)
  refine ⟨fun h0 => ?_, fun h0 => ?_⟩
  · have hb := (hx t ht).2
    rw [gl_len]
    exact ⟨hb, by omega, best_has (x := ⟨0, t.b, 0, 0⟩) h1 (hin _ (by unfold paT; rw [if_pos h0]; exact List.mem_singleton.2 rfl)) rfl (by show t.b < 286; omega)⟩
  · rcases tk_okD (hx t ht).1 with e | ⟨n, d, e1, e2, n1, n2, n3, n4⟩
    · exact absurd e h0
    · have f1 : t.n.toNat = n := by omega
      have f2 : t.d.toNat = d := by omega
      obtain ⟨s1, s2, -⟩ := lnSym_ok n (by omega) n1
      obtain ⟨r1, -⟩ := dsSym_ok n3 n4
      have hp : paT t = [lnP n, dsP d] := by unfold paT; rw [if_neg h0, f1, f2]
      rw [f1, f2, gl_len, gl_len]
      refine ⟨by omega, best_has (x := lnP n) h1 (hin _ (by rw [hp]; exact List.mem_cons_self)) rfl (by show lnSym n < 286; omega), by omega, best_has (x := dsP d) h2 (hin _ (by rw [hp]; exact List.mem_cons_of_mem _ (List.mem_singleton.2 rfl))) rfl (by show dsSym d < 30; omega)⟩

end Go.Proofs.YtebfdoipogjpnaaGreat

/- deflate, plainly: the symbols of a row of lengths, and the best code for them. -/
namespace Go.Proofs.YtebfdoipogjpnaaGreat

theorem rnQ_ok {x k y a : Nat} (h : x < 16) : (rnQ x k y a).1.c = 0 ∧ (rnQ x k y a).1.s < 19 ∧ (rnQ x k y a).1.m < 2 ^ (rnQ x k y a).1.z ∧ (rnQ x k y a).1.z ≤ 7 := by
  unfold rnQ
  by_cases h1 : x = 0 ∧ 11 ≤ k
  · rw [if_pos h1]
    exact ⟨rfl, by show 18 < 19; decide, by show min k 138 - 11 < 128; omega, by show 7 ≤ 7; decide⟩
  · rw [if_neg h1]
    by_cases h2 : x = 0 ∧ 3 ≤ k
    · rw [if_pos h2]
      exact ⟨rfl, by show 17 < 19; decide, by show k - 3 < 8; omega, by show 3 ≤ 7; decide⟩
    · rw [if_neg h2]
      by_cases h3 : 3 ≤ k ∧ 0 < a ∧ x = y
      · rw [if_pos h3]
        exact ⟨rfl, by show 16 < 19; decide, by show min k 6 - 3 < 4; omega, by show 2 ≤ 7; decide⟩
      · rw [if_neg h3]
        exact ⟨rfl, by show x < 19; omega, by show 0 < 1; decide, by show 0 ≤ 7; decide⟩
theorem rnF_ok {V : List Nat} (h : ∀ i, lq V i < 16) : ∀ (f i : Nat), ∀ x ∈ rnF V f i, x.c = 0 ∧ x.s < 19 ∧ x.m < 2 ^ x.z ∧ x.z ≤ 7
  | 0, i, x, hx => by cases hx
  | f + 1, i, x, hx => by
    by_cases hi : i < V.length
    · rw [rnF_cons hi] at hx
      rcases List.mem_cons.1 hx with rfl | hx
      · exact rnQ_ok (h i)
      · exact rnF_ok h f _ x hx
    · rw [rnF_end (by omega)] at hx
      cases hx
theorem rnF_len (V : List Nat) : ∀ (f i : Nat), i ≤ V.length → (rnF V f i).length ≤ V.length - i
  | 0, i, _ => Nat.zero_le _
  | f + 1, i, h => by
    by_cases hi : i < V.length
    · obtain ⟨r1, r2⟩ := rnP_le hi
      have := rnF_len V f (i + (rnP V i).2) r2
      rw [rnF_cons hi, List.length_cons]
      omega
    · rw [rnF_end (by omega)]
      exact Nat.zero_le _
/-- The lengths' code, as it is made of what the row becomes: all of it may be laid and read. -/
theorem rnL_best {V : List Nat} {g : Nat → Nat} (h16 : ∀ i, lq V i < 16) (h : LensOk (ctZ (cntP (rnL V) 0) 19) 7 g) :
    chk (gl g 19) = 0 ∧ (∀ x ∈ rnL V, x.c = 0 ∧ x.s < (gl g 19).length ∧ 0 < lq (gl g 19) x.s) ∧ (∀ x ∈ rnL V, PaOk [gl g 19] x) ∧ (∀ i, lq (gl g 19) i < 8) ∧ szP ((rnL V).flatMap (plP [gl g 19])) ≤ 22 * V.length := by
  have hok := rnF_ok h16 (V.length + 1) 0
  have hl := rnF_len V (V.length + 1) 0 (Nat.zero_le _)
  have hh : ∀ x ∈ rnL V, x.c = 0 ∧ x.s < (gl g 19).length ∧ 0 < lq (gl g 19) x.s := fun x hx => by
    obtain ⟨h1, h2, -⟩ := hok x hx
    rw [gl_len]
    exact ⟨h1, h2, best_has h hx h1 h2⟩
  refine ⟨best_chk h (by decide) (by decide), hh, fun x hx => ?_, fun i => by have := best_le h i; omega, ?_⟩
  · obtain ⟨h1, -, h3, h4⟩ := hok x hx
    obtain ⟨-, k2, k3⟩ := hh x hx
    unfold PaOk
    rw [h1]
    exact ⟨by show 0 < 1; decide, k2, k3, h3, by omega⟩
  · have := rn_sz (C := gl g 19) (fun i => by have := best_le h i; omega) (xs := rnL V) (fun x hx => ⟨(hok x hx).1, (hok x hx).2.2.2⟩)
    have hl' : (rnL V).length ≤ V.length := by show (rnF V (V.length + 1) 0).length ≤ V.length; omega
    omega
theorem rnL_cnt {V : List Nat} (h16 : ∀ i, lq V i < 16) : (∀ x ∈ rnL V, x.c < 1 ∧ x.s < 19) ∧ (rnL V).length ≤ V.length := by
  refine ⟨fun x hx => ?_, by have := rnF_len V (V.length + 1) 0 (Nat.zero_le _); show (rnF V (V.length + 1) 0).length ≤ V.length; omega⟩
  obtain ⟨h1, h2, -⟩ := rnF_ok h16 (V.length + 1) 0 x hx
  exact ⟨by omega, h2⟩

end Go.Proofs.YtebfdoipogjpnaaGreat

/- deflate, plainly: a dynamic block, laid, tells its tokens. -/
namespace Go.Proofs.YtebfdoipogjpnaaGreat

theorem dyn_bk {l X Y C : List Nat} {k : Nat} (x1 : 257 ≤ X.length) (x2 : X.length ≤ 286) (y1 : 1 ≤ Y.length) (y2 : Y.length ≤ 30) (k4 : 4 ≤ k) (k19 : k ≤ 19) (hC : C.length = 19) (cC : chk C = 0) (hz : ∀ j, k ≤ j → j < 19 → lq C (ordL.getD j 0) = 0)
    (h16 : ∀ i, lq (X ++ Y) i < 16) (hx : ∀ x ∈ rnL (X ++ Y), x.c = 0 ∧ x.s < C.length ∧ 0 < lq C x.s) (cx : chk X = 0) (cy : chk Y = 0) (h0 : 0 < lq X 256) {ts : List Tn} {o : List Nat} (hm : mayT X Y ts o) {lim a : Nat} {q : Pt}
    (h : AtP l a (((2, 2) :: (putR X Y C k ++ (laidT X Y ts ++ endP X))) ++ q)) (hl : (toldT ts o).length ≤ lim) : InfBk l lim a o (.go (a + szP ((2, 2) :: (putR X Y C k ++ (laidT X Y ts ++ endP X)))) (toldT ts o)) := by
  obtain ⟨p2, q2, h⟩ := h
  simp only at p2 q2 h
  change AtP l (a + 2) ((putR X Y C k ++ (laidT X Y ts ++ endP X)) ++ q) at h
  rw [List.append_assoc] at h
  have hd := own_rn x1 x2 y1 y2 k4 k19 hC cC hz h16 hx cx cy h0 h
  obtain ⟨-, h⟩ := h.app
  rw [List.append_assoc] at h
  obtain ⟨t1, -⟩ := tn_toks cx cy (by omega) h0 lim (ts := ts) hm h
  have e1 : (X ++ Y).take X.length = X := List.take_left
  have e2 : (X ++ Y).drop X.length = Y := List.drop_left
  have h3 := InfBk.dyn q2 p2 X.length _ _ hd _ (by rw [e1, e2]; exact t1 hl)
  rw [show a + szP ((2, 2) :: (putR X Y C k ++ (laidT X Y ts ++ endP X))) = a + 2 + szP (putR X Y C k) + szP (laidT X Y ts) + lq X 256 by
    simp only [szP, szP_app, endP]; omega]
  exact h3

end Go.Proofs.YtebfdoipogjpnaaGreat

/- deflate, plainly: best lengths are the same each time; blocks of owned rows; two rows' lengths. -/
namespace Go.Proofs.YtebfdoipogjpnaaGreat
open Go.RowKit

/-- The lengths that are best for counts, in the code's own order. -/
def BestOf (fs : List Int) (lim : Nat) (g : Nat → Nat) : Prop := LensOk fs lim g ∧ (many fs.length (fq fs) ≠ 1 → LensD fs lim g)
theorem BestOf.det {fs : List Int} {lim : Nat} {g g' : Nat → Nat} (h : BestOf fs lim g) (k : BestOf fs lim g') : gl g fs.length = gl g' fs.length := by
  by_cases h1 : many fs.length (fq fs) = 1
  · unfold gl
    refine List.map_congr_left fun i hi => ?_
    have hi' : i < fs.length := List.mem_range.1 hi
    have a1 := h.1.one h1 i hi'
    have a2 := k.1.one h1 i hi'
    have b1 := (h.1.le i hi').2
    have b2 := (k.1.le i hi').2
    by_cases h0 : 0 < fq fs i
    · have := b1.2 h0; have := b2.2 h0; omega
    · have c1 : ¬ 0 < g i := fun h => h0 (b1.1 h)
      have c2 : ¬ 0 < g' i := fun h => h0 (b2.1 h)
      omega
  · rw [(h.2 h1).det (k.2 h1)]

theorem owns_blockN {w : World} {base s : Nat} {e : TypeId} {v : Value} {n : Nat} {xs : List Value} (h : w.ownsRow base e s v n xs) (h0 : 0 < n) : ∃ g c cur, v = .slice (some ⟨g, 0, none⟩) n c ∧ base ≤ g ∧ (n ≤ c ∧ c ≤ maxLen) ∧ w.heap[g]? = some (.cells cur e) ∧ ∀ (i : Nat) (x : Value), xs[i]? = some x → cur[i]? = some x := by
  obtain ⟨hl, ⟨-, h⟩ | ⟨g, c, cur, e1, e2, e3, e4, e5, e6, e7⟩⟩ := h
  · omega
  · refine ⟨g, c, cur, e1, e2, ⟨e4, e5⟩, e3, fun i x hx => ?_⟩
    have hi : i < n * s := by rw [← hl]; exact (List.getElem?_eq_some_iff.1 hx).1
    rw [← e7, List.getElem?_take, if_pos hi, Array.getElem?_toList] at hx
    exact hx

theorem lq_app16 {X Y : List Nat} (hx : ∀ i, lq X i ≤ 15) (hy : ∀ i, lq Y i ≤ 15) (i : Nat) : lq (X ++ Y) i < 16 := by
  unfold lq
  rw [List.getD_eq_getElem?_getD, List.getElem?_append]
  split
  · have := hx i
    unfold lq at this
    rw [List.getD_eq_getElem?_getD] at this
    omega
  · have := hy (i - X.length)
    unfold lq at this
    rw [List.getD_eq_getElem?_getD] at this
    omega
theorem ordO_len (l : List Nat) : (ordO l).length = 19 := by unfold ordO; rw [List.length_map]; rfl
theorem ordO_at (l : List Nat) {i : Nat} (hi : i < 19) : lq (ordO l) i = lq l (ordL.getD i 0) := by
  have hi' : i < ordL.length := hi
  show (ordO l).getD i 0 = _
  unfold ordO
  rw [List.getD_eq_getElem?_getD, List.getElem?_map, List.getElem?_eq_getElem hi', List.getD_eq_getElem?_getD, List.getElem?_eq_getElem hi']; rfl
theorem take_ord (C : List Nat) {i : Nat} (hi : i < 19) : (ordL.take (i + 1)).map (fun i => ((lq C i, 3) : Nat × Nat)) = (ordL.take i).map (fun i => (lq C i, 3)) ++ [(lq (ordO C) i, 3)] := by
  have hi' : i < ordL.length := hi
  rw [List.take_succ_eq_append_getElem hi', List.map_append, ordO_at C hi, List.getD_eq_getElem?_getD, List.getElem?_eq_getElem hi']; rfl
theorem szP_ord (C : List Nat) {i : Nat} (hi : i ≤ 19) : szP ((ordL.take i).map (fun i => ((lq C i, 3) : Nat × Nat))) = 3 * i := by
  rw [szP_threes, List.length_take, show ordL.length = 19 from rfl]; omega

/-- Codes beside each other, as lay takes them, whatever else their block holds. -/
theorem cdf_cur2 {w : World} {base base' : Nat} {v1 v2 : Value} {A D : List Nat} {g ga ca gc cc ga' ca' gc' cc' : Nat} {cur : Array Value} {t : TypeId} (h1 : Cdr w base v1 A ga ca gc cc) (h2 : Cdr w base' v2 D ga' ca' gc' cc')
    (hg : w.heap[g]? = some (.cells cur t)) (k0 : cur[0]? = some (.slice (some ⟨ga, 0, none⟩) A.length ca)) (k1 : cur[1]? = some (.slice (some ⟨gc, 0, none⟩) A.length cc)) (k2 : cur[2]? = some (.slice (some ⟨ga', 0, none⟩) D.length ca')) (k3 : cur[3]? = some (.slice (some ⟨gc', 0, none⟩) D.length cc')) : CdF g (two ga ga') (two ca ca') (two gc gc') (two cc cc') [A, D] w := by
  obtain ⟨cur1, t1, a1, a2⟩ := h1.oa
  obtain ⟨cur2, t2, b1, b2⟩ := h1.oc
  obtain ⟨cur3, t3, c1, c2⟩ := h2.oa
  obtain ⟨cur4, t4, d1, d2⟩ := h2.oc
  have h01 : ∀ j, j < [A, D].length → j = 0 ∨ j = 1 := fun j hj => by simp at hj; omega
  refine ⟨fun j hj => ?_, fun j hj => ?_, fun j hj i hi => ?_, fun j hj i hi hp => ?_⟩
  all_goals rcases h01 j hj with rfl | rfl
  · exact cell_heap hg k0
  · exact cell_heap hg k2
  · exact cell_heap hg k1
  · exact cell_heap hg k3
  · exact cell_heap a1 (a2 i hi)
  · exact cell_heap c1 (c2 i hi)
  · exact cell_heap b1 (b2 i hi hp)
  · exact cell_heap d1 (d2 i hi hp)
theorem cdf_cur1 {w : World} {base : Nat} {v1 : Value} {A : List Nat} {g ga ca gc cc : Nat} {cur : Array Value} {t : TypeId} (h1 : Cdr w base v1 A ga ca gc cc)
    (hg : w.heap[g]? = some (.cells cur t)) (k0 : cur[0]? = some (.slice (some ⟨ga, 0, none⟩) A.length ca)) (k1 : cur[1]? = some (.slice (some ⟨gc, 0, none⟩) A.length cc)) : CdF g (fun _ => ga) (fun _ => ca) (fun _ => gc) (fun _ => cc) [A] w := by
  obtain ⟨cur1, t1, a1, a2⟩ := h1.oa
  obtain ⟨cur2, t2, b1, b2⟩ := h1.oc
  have h01 : ∀ j, j < [A].length → j = 0 := fun j hj => by simp at hj; omega
  refine ⟨fun j hj => ?_, fun j hj => ?_, fun j hj i hi => ?_, fun j hj i hi hp => ?_⟩
  all_goals obtain rfl := h01 j hj
  · exact cell_heap hg k0
  · exact cell_heap hg k1
  · exact cell_heap a1 (a2 i hi)
  · exact cell_heap b1 (b2 i hi hp)

/-- What bestCodes answers for one row of counts. -/
theorem BsC.one {W w : World} {lim n0 : Nat} {fs : Nat → List Int} {v : Value} {gg ga ca gc cc : Nat → Nat → Nat} (h : BsC W lim fs 1 v gg ga ca gc cc w) (e0 : (fs 0).length = n0) :
    ∃ g cp cur xa ya xc yc, v = .slice (some ⟨g, 0, none⟩) 1 cp ∧ W.heap.size ≤ g ∧ w.heap[g]? = some (.cells cur 151) ∧ cur[0]? = some (.slice (some ⟨xa, 0, none⟩) n0 ya) ∧ cur[1]? = some (.slice (some ⟨xc, 0, none⟩) n0 yc) ∧
      Cdr w W.heap.size (.agg #[.slice (some ⟨xa, 0, none⟩) n0 ya, .slice (some ⟨xc, 0, none⟩) n0 yc]) (gl (gg 0) n0) xa ya xc yc ∧ BestOf (fs 0) lim (gg 0) := by
  obtain ⟨g, cp, cur, rfl, h1, -, h2, h3⟩ := owns_blockN h.own (by decide)
  obtain ⟨cv, h4⟩ := h.cdr 0 (by decide)
  rw [e0] at h4
  have he := h4.e
  rw [gl_len] at he
  subst he
  refine ⟨g, cp, cur, ga 0 0, ca 0 0, gc 0 0, cc 0 0, rfl, h1, h2, h3 0 _ ?_, h3 1 _ ?_, h4, h.ok 0 (by decide)⟩
  · simp [cdrL, gl_len, e0]
  · simp [cdrL, gl_len, e0]
/-- What it answers for two. -/
theorem BsC.both {W w : World} {lim n0 n1 : Nat} {fs : Nat → List Int} {v : Value} {gg ga ca gc cc : Nat → Nat → Nat} (h : BsC W lim fs 2 v gg ga ca gc cc w) (e0 : (fs 0).length = n0) (e1 : (fs 1).length = n1) :
    ∃ g cp cur xa ya xc yc xa' ya' xc' yc', v = .slice (some ⟨g, 0, none⟩) 2 cp ∧ W.heap.size ≤ g ∧ w.heap[g]? = some (.cells cur 151) ∧ (cur[0]? = some (.slice (some ⟨xa, 0, none⟩) n0 ya) ∧ cur[1]? = some (.slice (some ⟨xc, 0, none⟩) n0 yc) ∧ cur[2]? = some (.slice (some ⟨xa', 0, none⟩) n1 ya') ∧ cur[3]? = some (.slice (some ⟨xc', 0, none⟩) n1 yc')) ∧
      Cdr w W.heap.size (.agg #[.slice (some ⟨xa, 0, none⟩) n0 ya, .slice (some ⟨xc, 0, none⟩) n0 yc]) (gl (gg 0) n0) xa ya xc yc ∧ Cdr w W.heap.size (.agg #[.slice (some ⟨xa', 0, none⟩) n1 ya', .slice (some ⟨xc', 0, none⟩) n1 yc']) (gl (gg 1) n1) xa' ya' xc' yc' ∧ BestOf (fs 0) lim (gg 0) ∧ BestOf (fs 1) lim (gg 1) := by
  obtain ⟨g, cp, cur, rfl, h1, -, h2, h3⟩ := owns_blockN h.own (by decide)
  obtain ⟨cv, h4⟩ := h.cdr 0 (by decide)
  obtain ⟨cv', h5⟩ := h.cdr 1 (by decide)
  rw [e0] at h4
  rw [e1] at h5
  have he := h4.e
  have he' := h5.e
  rw [gl_len] at he he'
  subst he he'
  refine ⟨g, cp, cur, ga 0 0, ca 0 0, gc 0 0, cc 0 0, ga 0 1, ca 0 1, gc 0 1, cc 0 1, rfl, h1, h2, ⟨h3 0 _ ?_, h3 1 _ ?_, h3 2 _ ?_, h3 3 _ ?_⟩, h4, h5, h.ok 0 (by decide), h.ok 1 (by decide)⟩
  all_goals simp [cdrL, gl_len, e0, e1, List.range_succ]

end Go.Proofs.YtebfdoipogjpnaaGreat
