/- Several texts in one, each with its own head. -/
import Derived.Test.YtoladolgmeanhaaGreatQc30
import Derived.Test.YtoladolgmeanhaaGreatQc19
import Derived.Test.YtoladolgmeanhaaGreatQc1
import Derived.Test.YtoladolgmeanhaaGreatQc17
import Derived.Test.YtoladolgmeanhaaGreatQc3
import Derived.Laws.BitsLemmas
/- deflate, plainly: what the best codes of counted parts are good for. -/
namespace Go.Proofs.YtoladolgmeanhaaGreat

theorem ctZ_ctL (f : Nat → Nat) (n : Nat) : ctZ f n = ctL f n := rfl
theorem best_may {xs : List Pa} {j n lim : Nat} (hn : n ≤ 320) (hl : xs.length ≤ 1000000) (h1 : 1 ≤ lim) (h15 : lim ≤ 15) (hm : n ≤ 2 ^ lim) : mayB (ctZ (cntP xs j) n) (lim : Int) = true ∧ many n (fq (ctZ (cntP xs j) n)) ≤ 2 ^ lim := by
  have h := ctL_may (f := cntP xs j) hn (fun i => Nat.le_trans (cntP_le xs j i) hl)
  refine ⟨?_, Nat.le_trans (many_le _ _) hm⟩
  unfold mayB at h ⊢
  rw [Bool.and_eq_true] at h ⊢
  refine ⟨?_, h.2⟩
  rw [ctZ_len]
  exact decide_eq_true ⟨by omega, by omega, hn⟩
theorem best_has {xs : List Pa} {j n lim : Nat} {g : Nat → Nat} (h : LensOk (ctZ (cntP xs j) n) lim g) {x : Pa} (hx : x ∈ xs) (hc : x.c = j) (hs : x.s < n) : 0 < lq (gl g n) x.s := by
  rw [gl_at g hs]
  refine ((h.le x.s (by rw [ctZ_len]; exact hs)).2).2 ?_
  rw [ctZ_ctL, ctL_fq _ hs]
  unfold cntP
  exact List.countP_pos_iff.2 ⟨x, hx, by simp [hc]⟩
theorem best_chk {xs : List Pa} {j n lim : Nat} {g : Nat → Nat} (h : LensOk (ctZ (cntP xs j) n) lim g) (h15 : lim ≤ 15) (hn : n ≤ 320) : chk (gl g n) = 0 := by
  have := lens_chk h h15 (by rw [ctZ_len]; exact hn)
  rwa [ctZ_len] at this
theorem best_le {xs : List Pa} {j n lim : Nat} {g : Nat → Nat} (h : LensOk (ctZ (cntP xs j) n) lim g) (i : Nat) : lq (gl g n) i ≤ lim := by
  by_cases hi : i < n
  · rw [gl_at g hi]
    exact (h.le i (by rw [ctZ_len]; exact hi)).1
  · unfold lq
    rw [List.getD_eq_getElem?_getD, List.getElem?_eq_none (by rw [gl_len]; omega)]
    exact Nat.zero_le _
theorem best_ok {ts : List Tk} {g k : Nat → Nat} (hx : ∀ t ∈ ts, t.okB = true ∧ t.b < 256) (h1 : LensOk (ctZ (cntP (pasT ts) 0) 286) 15 g) (h2 : LensOk (ctZ (cntP (pasT ts) 1) 30) 15 k) :
    (∀ t ∈ ts, codT (gl g 286) (gl k 30) t) ∧ 0 < lq (gl g 286) 256 := by
  refine ⟨fun t ht => ?_, best_has (x := ⟨0, 256, 0, 0⟩) h1 (List.mem_append_right _ (List.mem_singleton.2 rfl)) rfl (by decide)⟩
  have hin : ∀ x ∈ paT t, x ∈ pasT ts := fun x hxm => List.mem_append_left _ (List.mem_flatMap.2 ⟨t, ht, hxm⟩)
  refine ⟨fun h0 => ?_, fun h0 => ?_⟩
  · have hb := (hx t ht).2
    rw [gl_len]
    exact ⟨hb, by omega, best_has (x := ⟨0, t.b, 0, 0⟩) h1 (hin _ (by unfold paT; rw [if_pos h0]; exact List.mem_singleton.2 rfl)) rfl (by show t.b < 286; omega)⟩
  · rcases tk_okD (hx t ht).1 with e | ⟨n, d, e1, e2, n1, n2, n3, n4⟩
    · exact absurd e h0
    · have f1 : t.n.toNat = n := by omega
      have f2 : t.d.toNat = d := by omega
      obtain ⟨s1, s2, -⟩ := lnSym_ok n (by omega) n1
      obtain ⟨r1, -⟩ := dsSym_ok n3 n4
      have hp : paT t = [lnP n, dsP d] := by unfold paT; rw [if_neg h0, f1, f2]
      rw [f1, f2, gl_len, gl_len]
      refine ⟨by omega, best_has (x := lnP n) h1 (hin _ (by rw [hp]; exact List.mem_cons_self)) rfl (by show lnSym n < 286; omega), by omega, best_has (x := dsP d) h2 (hin _ (by rw [hp]; exact List.mem_cons_of_mem _ (List.mem_singleton.2 rfl))) rfl (by show dsSym d < 30; omega)⟩
end Go.Proofs.YtoladolgmeanhaaGreat

/- deflate, plainly: the symbols of a row of lengths, and the best code for them. -/
namespace Go.Proofs.YtoladolgmeanhaaGreat

theorem rnQ_ok {x k y a : Nat} (h : x < 16) : (rnQ x k y a).1.c = 0 ∧ (rnQ x k y a).1.s < 19 ∧ (rnQ x k y a).1.m < 2 ^ (rnQ x k y a).1.z ∧ (rnQ x k y a).1.z ≤ 7 := by
  unfold rnQ
  by_cases h1 : x = 0 ∧ 11 ≤ k
  · rw [if_pos h1]
    exact ⟨rfl, by show 18 < 19; decide, by show min k 138 - 11 < 128; omega, by show 7 ≤ 7; decide⟩
  · rw [if_neg h1]
    by_cases h2 : x = 0 ∧ 3 ≤ k
    · rw [if_pos h2]
      exact ⟨rfl, by show 17 < 19; decide, by show k - 3 < 8; omega, by show 3 ≤ 7; decide⟩
    · rw [if_neg h2]
      by_cases h3 : 3 ≤ k ∧ 0 < a ∧ x = y
      · rw [if_pos h3]
        exact ⟨rfl, by show 16 < 19; decide, by show min k 6 - 3 < 4; omega, by show 2 ≤ 7; decide⟩
      · rw [if_neg h3]
        exact ⟨rfl, by show x < 19; omega, by show 0 < 1; decide, by show 0 ≤ 7; decide⟩
theorem rnF_ok {V : List Nat} (h : ∀ i, lq V i < 16) : ∀ (f i : Nat), ∀ x ∈ rnF V f i, x.c = 0 ∧ x.s < 19 ∧ x.m < 2 ^ x.z ∧ x.z ≤ 7
  | 0, i, x, hx => by cases hx
  | f + 1, i, x, hx => by
    by_cases hi : i < V.length
    · rw [rnF_cons hi] at hx
      rcases List.mem_cons.1 hx with rfl | hx
      · exact rnQ_ok (h i)
      · exact rnF_ok h f _ x hx
    · rw [rnF_end (by omega)] at hx
      cases hx
theorem rnF_len (V : List Nat) : ∀ (f i : Nat), i ≤ V.length → (rnF V f i).length ≤ V.length - i
  | 0, i, _ => Nat.zero_le _
  | f + 1, i, h => by
    by_cases hi : i < V.length
    · obtain ⟨r1, r2⟩ := rnP_le hi
      have := rnF_len V f (i + (rnP V i).2) r2
      rw [rnF_cons hi, List.length_cons]
      omega
    · rw [rnF_end (by omega)]
      exact Nat.zero_le _
theorem rnL_best {V : List Nat} {g : Nat → Nat} (h16 : ∀ i, lq V i < 16) (h : LensOk (ctZ (cntP (rnL V) 0) 19) 7 g) :
    chk (gl g 19) = 0 ∧ (∀ x ∈ rnL V, x.c = 0 ∧ x.s < (gl g 19).length ∧ 0 < lq (gl g 19) x.s) ∧ (∀ x ∈ rnL V, PaOk [gl g 19] x) ∧ (∀ i, lq (gl g 19) i < 8) ∧ szP ((rnL V).flatMap (plP [gl g 19])) ≤ 22 * V.length := by
  have hok := rnF_ok h16 (V.length + 1) 0
  have hl := rnF_len V (V.length + 1) 0 (Nat.zero_le _)
  have hh : ∀ x ∈ rnL V, x.c = 0 ∧ x.s < (gl g 19).length ∧ 0 < lq (gl g 19) x.s := fun x hx => by
    obtain ⟨h1, h2, -⟩ := hok x hx
    rw [gl_len]
    exact ⟨h1, h2, best_has h hx h1 h2⟩
  refine ⟨best_chk h (by decide) (by decide), hh, fun x hx => ?_, fun i => by have := best_le h i; omega, ?_⟩
  · obtain ⟨h1, -, h3, h4⟩ := hok x hx
    obtain ⟨-, k2, k3⟩ := hh x hx
    unfold PaOk
    rw [h1]
    exact ⟨by show 0 < 1; decide, k2, k3, h3, by omega⟩
  · have := rn_sz (C := gl g 19) (fun i => by have := best_le h i; omega) (xs := rnL V) (fun x hx => ⟨(hok x hx).1, (hok x hx).2.2.2⟩)
    have hl' : (rnL V).length ≤ V.length := by show (rnF V (V.length + 1) 0).length ≤ V.length; omega
    omega
theorem rnL_cnt {V : List Nat} (h16 : ∀ i, lq V i < 16) : (∀ x ∈ rnL V, x.c < 1 ∧ x.s < 19) ∧ (rnL V).length ≤ V.length := by
  refine ⟨fun x hx => ?_, by have := rnF_len V (V.length + 1) 0 (Nat.zero_le _); show (rnF V (V.length + 1) 0).length ≤ V.length; omega⟩
  obtain ⟨h1, h2, -⟩ := rnF_ok h16 (V.length + 1) 0 x hx
  exact ⟨by omega, h2⟩
end Go.Proofs.YtoladolgmeanhaaGreat

/- deflate, plainly: a dynamic block, laid, tells its tokens. -/
namespace Go.Proofs.YtoladolgmeanhaaGreat

end Go.Proofs.YtoladolgmeanhaaGreat

/- deflate, plainly: best lengths are the same each time; blocks of owned rows; two rows' lengths. -/
namespace Go.Proofs.YtoladolgmeanhaaGreat
open Go.RowKit

def BestOf (fs : List Int) (lim : Nat) (g : Nat → Nat) : Prop := LensOk fs lim g ∧ (many fs.length (fq fs) ≠ 1 → LensD fs lim g)
theorem owns_blockN {w : World} {base s : Nat} {e : TypeId} {v : Value} {n : Nat} {xs : List Value} (h : w.ownsRow base e s v n xs) (h0 : 0 < n) : ∃ g c cur, v = .slice (some ⟨g, 0, none⟩) n c ∧ base ≤ g ∧ (n ≤ c ∧ c ≤ maxLen) ∧ w.heap[g]? = some (.cells cur e) ∧ ∀ (i : Nat) (x : Value), xs[i]? = some x → cur[i]? = some x := by
  obtain ⟨hl, ⟨-, h⟩ | ⟨g, c, cur, e1, e2, e3, e4, e5, e6, e7⟩⟩ := h
  · omega
  · refine ⟨g, c, cur, e1, e2, ⟨e4, e5⟩, e3, fun i x hx => ?_⟩
    have hi : i < n * s := by rw [← hl]; exact (List.getElem?_eq_some_iff.1 hx).1
    rw [← e7, List.getElem?_take, if_pos hi, Array.getElem?_toList] at hx
    exact hx
theorem lq_app16 {X Y : List Nat} (hx : ∀ i, lq X i ≤ 15) (hy : ∀ i, lq Y i ≤ 15) (i : Nat) : lq (X ++ Y) i < 16 := by
  unfold lq
  rw [List.getD_eq_getElem?_getD, List.getElem?_append]
  split
  · have := hx i
    unfold lq at this
    rw [List.getD_eq_getElem?_getD] at this
    omega
  · have := hy (i - X.length)
    unfold lq at this
    rw [List.getD_eq_getElem?_getD] at this
    omega
theorem ordO_len (l : List Nat) : (ordO l).length = 19 := by unfold ordO; rw [List.length_map]; rfl
theorem ordO_at (l : List Nat) {i : Nat} (hi : i < 19) : lq (ordO l) i = lq l (ordL.getD i 0) := by
  have hi' : i < ordL.length := hi
  show (ordO l).getD i 0 = _
  unfold ordO
  rw [List.getD_eq_getElem?_getD, List.getElem?_map, List.getElem?_eq_getElem hi', List.getD_eq_getElem?_getD, List.getElem?_eq_getElem hi']; rfl
theorem take_ord (C : List Nat) {i : Nat} (hi : i < 19) : (ordL.take (i + 1)).map (fun i => ((lq C i, 3) : Nat × Nat)) = (ordL.take i).map (fun i => (lq C i, 3)) ++ [(lq (ordO C) i, 3)] := by
  have hi' : i < ordL.length := hi
  rw [List.take_succ_eq_append_getElem hi', List.map_append, ordO_at C hi, List.getD_eq_getElem?_getD, List.getElem?_eq_getElem hi']; rfl
theorem szP_ord (C : List Nat) {i : Nat} (hi : i ≤ 19) : szP ((ordL.take i).map (fun i => ((lq C i, 3) : Nat × Nat))) = 3 * i := by
  rw [szP_threes, List.length_take, show ordL.length = 19 from rfl]; omega
theorem cdf_cur2 {w : World} {base base' : Nat} {v1 v2 : Value} {A D : List Nat} {g ga ca gc cc ga' ca' gc' cc' : Nat} {cur : Array Value} {t : TypeId} (h1 : Cdr w base v1 A ga ca gc cc) (h2 : Cdr w base' v2 D ga' ca' gc' cc')
    (hg : w.heap[g]? = some (.cells cur t)) (k0 : cur[0]? = some (.slice (some ⟨ga, 0, none⟩) A.length ca)) (k1 : cur[1]? = some (.slice (some ⟨gc, 0, none⟩) A.length cc)) (k2 : cur[2]? = some (.slice (some ⟨ga', 0, none⟩) D.length ca')) (k3 : cur[3]? = some (.slice (some ⟨gc', 0, none⟩) D.length cc')) : CdF g (two ga ga') (two ca ca') (two gc gc') (two cc cc') [A, D] w := by
  obtain ⟨cur1, t1, a1, a2⟩ := h1.oa
  obtain ⟨cur2, t2, b1, b2⟩ := h1.oc
  obtain ⟨cur3, t3, c1, c2⟩ := h2.oa
  obtain ⟨cur4, t4, d1, d2⟩ := h2.oc
  have h01 : ∀ j, j < [A, D].length → j = 0 ∨ j = 1 := fun j hj => by simp at hj; omega
  refine ⟨fun j hj => ?_, fun j hj => ?_, fun j hj i hi => ?_, fun j hj i hi hp => ?_⟩
  all_goals rcases h01 j hj with rfl | rfl
  · exact cell_heap hg k0
  · exact cell_heap hg k2
  · exact cell_heap hg k1
  · exact cell_heap hg k3
  · exact cell_heap a1 (a2 i hi)
  · exact cell_heap c1 (c2 i hi)
  · exact cell_heap b1 (b2 i hi hp)
  · exact cell_heap d1 (d2 i hi hp)
theorem cdf_cur1 {w : World} {base : Nat} {v1 : Value} {A : List Nat} {g ga ca gc cc : Nat} {cur : Array Value} {t : TypeId} (h1 : Cdr w base v1 A ga ca gc cc)
    (hg : w.heap[g]? = some (.cells cur t)) (k0 : cur[0]? = some (.slice (some ⟨ga, 0, none⟩) A.length ca)) (k1 : cur[1]? = some (.slice (some ⟨gc, 0, none⟩) A.length cc)) : CdF g (fun _ => ga) (fun _ => ca) (fun _ => gc) (fun _ => cc) [A] w := by
  obtain ⟨cur1, t1, a1, a2⟩ := h1.oa
  obtain ⟨cur2, t2, b1, b2⟩ := h1.oc
  have h01 : ∀ j, j < [A].length → j = 0 := fun j hj => by simp at hj; omega
  refine ⟨fun j hj => ?_, fun j hj => ?_, fun j hj i hi => ?_, fun j hj i hi hp => ?_⟩
  all_goals obtain rfl := h01 j hj
  · exact cell_heap hg k0
  · exact cell_heap hg k1
  · exact cell_heap a1 (a2 i hi)
  · exact cell_heap b1 (b2 i hi hp)
theorem BsC.one {W w : World} {lim n0 : Nat} {fs : Nat → List Int} {v : Value} {gg ga ca gc cc : Nat → Nat → Nat} (h : BsC W lim fs 1 v gg ga ca gc cc w) (e0 : (fs 0).length = n0) :
    ∃ g cp cur xa ya xc yc, v = .slice (some ⟨g, 0, none⟩) 1 cp ∧ W.heap.size ≤ g ∧ w.heap[g]? = some (.cells cur 135) ∧ cur[0]? = some (.slice (some ⟨xa, 0, none⟩) n0 ya) ∧ cur[1]? = some (.slice (some ⟨xc, 0, none⟩) n0 yc) ∧
      Cdr w W.heap.size (.agg #[.slice (some ⟨xa, 0, none⟩) n0 ya, .slice (some ⟨xc, 0, none⟩) n0 yc]) (gl (gg 0) n0) xa ya xc yc ∧ BestOf (fs 0) lim (gg 0) := by
  obtain ⟨g, cp, cur, rfl, h1, -, h2, h3⟩ := owns_blockN h.own (by decide)
  obtain ⟨cv, h4⟩ := h.cdr 0 (by decide)
  rw [e0] at h4
  have he := h4.e
  rw [gl_len] at he
  subst he
  refine ⟨g, cp, cur, ga 0 0, ca 0 0, gc 0 0, cc 0 0, rfl, h1, h2, h3 0 _ ?_, h3 1 _ ?_, h4, h.ok 0 (by decide)⟩
  · simp [cdrL, gl_len, e0]
  · simp [cdrL, gl_len, e0]
theorem BsC.both {W w : World} {lim n0 n1 : Nat} {fs : Nat → List Int} {v : Value} {gg ga ca gc cc : Nat → Nat → Nat} (h : BsC W lim fs 2 v gg ga ca gc cc w) (e0 : (fs 0).length = n0) (e1 : (fs 1).length = n1) :
    ∃ g cp cur xa ya xc yc xa' ya' xc' yc', v = .slice (some ⟨g, 0, none⟩) 2 cp ∧ W.heap.size ≤ g ∧ w.heap[g]? = some (.cells cur 135) ∧ (cur[0]? = some (.slice (some ⟨xa, 0, none⟩) n0 ya) ∧ cur[1]? = some (.slice (some ⟨xc, 0, none⟩) n0 yc) ∧ cur[2]? = some (.slice (some ⟨xa', 0, none⟩) n1 ya') ∧ cur[3]? = some (.slice (some ⟨xc', 0, none⟩) n1 yc')) ∧
      Cdr w W.heap.size (.agg #[.slice (some ⟨xa, 0, none⟩) n0 ya, .slice (some ⟨xc, 0, none⟩) n0 yc]) (gl (gg 0) n0) xa ya xc yc ∧ Cdr w W.heap.size (.agg #[.slice (some ⟨xa', 0, none⟩) n1 ya', .slice (some ⟨xc', 0, none⟩) n1 yc']) (gl (gg 1) n1) xa' ya' xc' yc' ∧ BestOf (fs 0) lim (gg 0) ∧ BestOf (fs 1) lim (gg 1) := by
  obtain ⟨g, cp, cur, rfl, h1, -, h2, h3⟩ := owns_blockN h.own (by decide)
  obtain ⟨cv, h4⟩ := h.cdr 0 (by decide)
  obtain ⟨cv', h5⟩ := h.cdr 1 (by decide)
  rw [e0] at h4
  rw [e1] at h5
  have he := h4.e
  have he' := h5.e
  rw [gl_len] at he he'
  subst he he'
  refine ⟨g, cp, cur, ga 0 0, ca 0 0, gc 0 0, cc 0 0, ga 0 1, ca 0 1, gc 0 1, cc 0 1, rfl, h1, h2, ⟨h3 0 _ ?_, h3 1 _ ?_, h3 2 _ ?_, h3 3 _ ?_⟩, h4, h5, h.ok 0 (by decide), h.ok 1 (by decide)⟩
  all_goals simp [cdrL, gl_len, e0, e1, List.range_succ]
end Go.Proofs.YtoladolgmeanhaaGreat

/- deflate, plainly: each of the three forms tells the bytes; none is too long; the shortest one of them is what is answered. -/
namespace Go.Proofs.YtoladolgmeanhaaGreat
open Go.RowKit

theorem xp_okD : ∀ {ts : List Tk} {o : List Nat}, (xp ts o).2 = 0 → ∀ t ∈ ts, t.okB = true
  | [], _, _, t, ht => by cases ht
  | x :: r, o, h, t, ht => by
    by_cases e : tkErr x o.length = 0
    · rw [xp_cons_ok e] at h
      rcases List.mem_cons.1 ht with rfl | ht
      · exact (tkErr_zero e).1
      · exact xp_okD h t ht
    · rw [xp_cons_bad e] at h
      exact absurd h e
def fixP (ts : List Tk) : Pt := [(1, 1), (1, 2)] ++ (pasT ts).flatMap (plP [fixA, fixD])
def cutX (A : List Nat) : List Nat := A.take (trN A 257 286)
def cutY (D : List Nat) : List Nat := D.take (trN D 1 30)
def dynP (ts : List Tk) (A D C : List Nat) : Pt := [(1, 1), (2, 2)] ++ putR (cutX A) (cutY D) C (trN (ordO C) 4 19) ++ (pasT ts).flatMap (plP [A, D])
structure DynF (ts : List Tk) (P : Pt) : Prop where
  ex : ∃ gA gD gC, BestOf (ctZ (cntP (pasT ts) 0) 286) 15 gA ∧ BestOf (ctZ (cntP (pasT ts) 1) 30) 15 gD ∧ BestOf (ctZ (cntP (rnL (cutX (gl gA 286) ++ cutY (gl gD 30))) 0) 19) 7 gC ∧ P = dynP ts (gl gA 286) (gl gD 30) (gl gC 19)
structure DynK (A D C : List Nat) : Prop where
  x1 : 257 ≤ (cutX A).length ∧ (cutX A).length ≤ 286
  y1 : 1 ≤ (cutY D).length ∧ (cutY D).length ≤ 30
  k : 4 ≤ trN (ordO C) 4 19 ∧ trN (ordO C) 4 19 ≤ 19
  cx : chk (cutX A) = 0
  cy : chk (cutY D) = 0
  h16 : ∀ i, lq (cutX A ++ cutY D) i < 16
  hz : ∀ j, trN (ordO C) 4 19 ≤ j → j < 19 → lq C (ordL.getD j 0) = 0
theorem DynK.of {A D : List Nat} (C : List Nat) (hA : A.length = 286) (hD : D.length = 30) (cA : chk A = 0) (cD : chk D = 0) : DynK A D C := by
  have cutA : Cut A (trN A 257 286) := by have := Cut.of A 257; rwa [hA] at this
  have cutD : Cut D (trN D 1 30) := by have := Cut.of D 1; rwa [hD] at this
  have cx : chk (cutX A) = 0 := cutA.chk cA
  have cy : chk (cutY D) = 0 := cutD.chk cD
  refine ⟨?_, ?_, ⟨trN_least _ _ _ (by decide), trN_le _ _ _⟩, cx, cy, lq_app16 (lq_15 cx) (lq_15 cy), fun j h1 h2 => ?_⟩
  · show 257 ≤ (A.take _).length ∧ (A.take _).length ≤ 286
    rw [cutA.len]
    exact ⟨trN_least A 257 286 (by decide), trN_le _ _ _⟩
  · show 1 ≤ (D.take _).length ∧ (D.take _).length ≤ 30
    rw [cutD.len]
    exact ⟨trN_least D 1 30 (by decide), trN_le _ _ _⟩
  · rw [← ordO_at C h2]
    exact trN_zero (ordO C) 4 19 j h1 h2
theorem putR_sz {X Y C : List Nat} {k : Nat} (x1 : X.length ≤ 286) (y1 : Y.length ≤ 30) (k4 : k ≤ 19) (h : szP ((rnL (X ++ Y)).flatMap (plP [C])) ≤ 22 * (X ++ Y).length) : szP (putR X Y C k) ≤ 7023 := by
  unfold putR
  rw [List.length_append] at h
  simp only [szP, szP_app, szP_threes, List.length_take]
  have : min k ordL.length ≤ 19 := by omega
  omega
theorem fix_sz {ts : List Tk} {b : List Nat} (hx : xp ts [] = (b, 0)) : szP ((pasT ts).flatMap (plP [fixA, fixD])) ≤ 15 * b.length + 15 := by
  have h2 : (xp ts []).2 = 0 := by rw [hx]
  have s2 := pas_sz (lq_15 fixA_chk) (lq_15 fixD_chk) (ts := ts) (xp_okD h2)
  have s3 := xp_sizes h2
  rw [hx] at s3
  simp only [List.length_nil, Nat.zero_add] at s3
  rwa [← s3] at s2
def pickP (P Q : Pt) : Pt := if szP Q < szP P then Q else P
structure DefS (b S : List Nat) : Prop where
  ex : ∃ ts P, Toks (fb b) b.length 0 ts ∧ (∀ t ∈ ts, t.b < 256) ∧ DynF ts P ∧ S = bytP (pickP (pickP (putB 0 (stB b)) (fixP ts)) P)
end Go.Proofs.YtoladolgmeanhaaGreat

/- codec, plainly: what is decoded, and of what is encoded. -/
namespace Go.Proofs.YtoladolgmeanhaaGreat

def CdR (k : Nat) (b : List Nat) (n : Nat) (r : Option (List Nat)) : Prop :=
  (k = 1 ∧ r = if b.length = 3 * n then some (plTri b) else none) ∨
  (k = 2 ∧ r = if (rlD b n).2 = 0 then some (rlD b n).1 else none) ∨
  (k = 3 ∧ r = if (plD b n).2 = 0 then some (plD b n).1 else none) ∨
  (k = 4 ∧ ∃ o m er, Infl b ((3 * n : Nat) : Int) o m er ∧ r = if er = 0 ∧ m = b.length ∧ o.length = 3 * n then some (plTri o) else none)
theorem CdR.det {k : Nat} {b : List Nat} {n : Nat} {r r' : Option (List Nat)} (h : CdR k b n r) (h' : CdR k b n r') : r = r' := by
  rcases h with ⟨h, e⟩ | ⟨h, e⟩ | ⟨h, e⟩ | ⟨h, o, m, er, hi, e⟩ <;> rcases h' with ⟨h', e'⟩ | ⟨h', e'⟩ | ⟨h', e'⟩ | ⟨h', o', m', er', hi', e'⟩ <;> first | (exfalso; omega) | (rw [e, e']; done) | skip
  obtain ⟨rfl, rfl, rfl⟩ := hi.det hi'
  rw [e, e']
end Go.Proofs.YtoladolgmeanhaaGreat

/- rle: pixels as rows of cells; low, tell, lay. -/
namespace Go.Proofs.YtoladolgmeanhaaGreat
open Go.RowKit

attribute [local go_sem] Oper.semAt_some

def pxv (x : Nat) : Value := .int .u32 (x : Int)
def encP (x : Nat) : List Value := [pxv x]
theorem encP_len (x : Nat) : (encP x).length = 1 := rfl
theorem flatP : ∀ l : List Nat, l.flatMap encP = l.map pxv
  | [] => rfl
  | b :: r => by rw [List.flatMap_cons, flatP r]; rfl
theorem pxv_info : (Tryz.prog.info? 41).map (fun i => (i.zero, i.size, i.bytes)) = some (some (.int .u32 0), 1, 4) := by kernel_rfl
abbrev RwP (w : World) (v : Value) (l : List Nat) : Prop := RwG encP 1 w v l
theorem RwP.own {w : World} {base : Nat} {v : Value} {l : List Nat} {n : Nat} (h : w.ownsRow base 41 1 v n (l.map pxv)) (hn : n = l.length) : RwP w v l := by
  subst hn
  rw [← flatP] at h
  exact RwG.owned encP_len h
theorem Row.ownP {w : World} {base : Nat} {v : Value} {l : List Nat} (h : w.ownsRow base 41 1 v l.length (l.map pxv)) : Row encP 1 w v l := (RwP.own h rfl).row
theorem Row.own8' {w : World} {base : Nat} {v : Value} {l : List Nat} (h : w.ownsRow base 5 1 v l.length (l.map u8v)) : Row enc8 1 w v l := (Rw8.own h rfl).row
theorem RowAt.px {W : World} {p : Option Addr} {xs : List Nat} (h : RowAt encP 1 W p xs) {k : Nat} (hk : k < xs.length) : ∃ b off, p = some ⟨b, off, none⟩ ∧ W.cell? ⟨b, off + k, none⟩ = some (.int .u32 (xs.getD k 0 : Int)) := by
  rcases h with ⟨-, rfl⟩ | ⟨b, off, rfl, -, h⟩
  · simp at hk
  · refine ⟨b, off, rfl, ?_⟩
    have := h k xs[k] (List.getElem?_eq_getElem hk) 0 _ rfl
    rw [Nat.mul_one, Nat.add_zero] at this
    rw [this, List.getD_eq_getElem?_getD, List.getElem?_eq_getElem hk]
    rfl
abbrev RnV (n c : Nat) : Value := .agg #[.int .i64 (n : Int), .int .u32 (c : Int)]
theorem mask_lw (x : Nat) (h : x < 4294967296) : bits .and .u32 (x : Int) 16777215 = ((rlw x : Nat) : Int) := by
  have e := bits_mask .u32 32 (by decide) (fun n h0 h1 => by rw [IntKind.wrap_u32]; omega) 24 (by decide) (x : Int) (by omega) (by omega)
  have e2 : bits .and .u32 (x : Int) 16777215 = (x : Int) % 16777216 := by simpa using e
  rw [e2]
  show (x : Int) % 16777216 = ((x % 16777216 : Nat) : Int)
  omega
def StillR (f : FuncId) (args : Array Value) (w : World) (v : Value) : Prop :=
  Calls Tryz.prog f args w fun e w' => e = .returned v ∧ w' = w
theorem rlow_any (x : Nat) (w : World) (h : x < 4294967296) : StillR 144 #[.int .u32 (x : Int)] w (.int .u32 ((rlw x : Nat) : Int)) := by
  unfold StillR
  have e := mask_lw x h
  go_enter Tryz.func144, Tryz.ntmps144
  go_wp2
  go_ret
  exact ⟨by first | rfl | rw [e] | simp [e], rfl⟩
set_option maxRecDepth 20000 in
set_option maxHeartbeats 4000000 in
theorem rtell_any (n c : Nat) (hok : RlOk (n, c)) (base : Nat) (vb : Value) (o : List Nat) (w : World) (hown : w.ownsRow base 5 1 vb o.length (o.map u8v)) (hlen : o.length ≤ 8388608) (hbase : base ≤ w.heap.size) :
    Calls Tryz.prog 95 #[RnV n c, vb] w fun e w' => ∃ v', e = .returned v' ∧ w'.ownsRow base 5 1 v' (o ++ rlB (n, c)).length ((o ++ rlB (n, c)).map u8v) ∧ Turns (fun k => vb.ownBlock = some k) w w' ∧ (∀ k, v'.ownBlock = some k → vb.ownBlock = some k ∨ w.heap.size ≤ k) := by
  obtain ⟨h1, h2, h3⟩ := hok
  simp only at h1 h2 h3
  obtain ⟨pb, cb, rfl⟩ := owns_slice hown
  have Hown := Lib.hid hown
  obtain ⟨i0, hi0, hz0, hz1, hz2⟩ := info_parts u8_info
  obtain ⟨a1, ha1⟩ : ∃ a, n - 1 = a := ⟨_, rfl⟩
  obtain ⟨a2, ha2⟩ : ∃ a, c / 65536 = a := ⟨_, rfl⟩
  obtain ⟨a3, ha3⟩ : ∃ a, c / 256 % 256 = a := ⟨_, rfl⟩
  obtain ⟨a4, ha4⟩ : ∃ a, c % 256 = a := ⟨_, rfl⟩
  have e1 : (n : Int) - 1 = (a1 : Int) := by omega
  have e2 : (c : Int) / 65536 = (a2 : Int) := by omega
  have b1 : a1 ≤ 255 := by omega
  have b2 : a2 ≤ 255 := by omega
  have e3 : ((c : Int) / 256) % 256 = (a3 : Int) := by omega
  have e4 : (c : Int) % 256 = (a4 : Int) := by omega
  have Hb : Hid (rlB (n, c) = [a1, a2, a3, a4]) := Lib.hid (by show [n - 1, c / 65536, c / 256 % 256, c % 256] = _; rw [ha1, ha2, ha3, ha4])
  clear hown ha1 ha2 ha3 ha4
  go_enter Tryz.func95, Tryz.ntmps95
  go_wp2_with (at_builtin; refine wpList_append_mine _ rfl (.tmp 5) (.tmp 21) 25 rfl base 5 i0 _ 1 1 Tryz.underlying25 hi0 hz0 hz1 hz2 rfl (by decide) (.slice pb o.length cb) o.length (o.map u8v) rfl ((Hown.out.alloc _).alloc _) (some ⟨w.heap.size + 1, 0, none⟩) 4 4 [.int .u8 a1, .int .u8 a2, .int .u8 a3, .int .u8 a4] rfl rfl (.inr ⟨_, rfl, ?c2⟩) ?c3 ?c4 ?c5 ?c6 ?_)
  case c2 =>
    have := news_cells (w := w.alloc (.cells #[.int .i64 (n : Int), .int .u32 (c : Int)] 108)) (c := [.int .u8 (a1 : Int), .int .u8 (a2 : Int), .int .u8 (a3 : Int), .int .u8 (a4 : Int)]) (t := 5)
    rw [World.size_alloc] at this
    exact this
  case c3 =>
    intro u hu
    simp only [List.mem_cons, List.not_mem_nil, or_false] at hu
    rcases hu with rfl | rfl | rfl | rfl <;> rfl
  case c4 => simp only [maxLen]; omega
  case c5 => omega
  case c6 => simp only [World.size_alloc]; omega
  intro v' w5 ho1 ht1 hg1
  have Ho1 : Hid (w5.ownsRow base 5 1 v' (o ++ rlB (n, c)).length ((o ++ rlB (n, c)).map u8v)) := Lib.hid (by
    rw [Hb.out, List.length_append, List.map_append]
    exact ho1)
  have Ht1 : Hid (Turns (fun k => (Value.slice pb o.length cb).ownBlock = some k) w w5) := Lib.hid ((Turns.of_below' (Below.al2 w _ _)).trans (Turns.of_grown ht1 (fun _ h => h)))
  have Hg1 : Hid (∀ k, v'.ownBlock = some k → (Value.slice pb o.length cb).ownBlock = some k ∨ w.heap.size ≤ k) := Lib.hid (fun k hk => (hg1 k hk).elim Or.inl fun h => Or.inr (Nat.le_trans (by first | omega | simp) h))
  clear ho1 ht1 hg1 e1 e2 e3 e4
  go_wp2
  go_ret
  exact ⟨_, rfl, Ho1.out, Ht1.out, Hg1.out⟩
end Go.Proofs.YtoladolgmeanhaaGreat
