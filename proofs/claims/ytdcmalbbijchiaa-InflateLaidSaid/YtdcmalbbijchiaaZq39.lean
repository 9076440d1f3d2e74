/- Several texts in one, each with its own head. -/
import Derived.Test.YtdcmalbbijchiaaZq38
import Derived.Test.YtdcmalbbijchiaaZq2
import Derived.ProofKit
import Derived.Lib.SmallJoins
import Derived.Test.YtdcmalbbijchiaaZq5
import Derived.Deep.Slices
import Derived.Test.YtdcmalbbijchiaaZq17
/- inflate, plainly: how often tokens have each symbol, and that best lengths for that give all of them codes; blocks that are laid from the left. -/
namespace Go.Proofs.Ytdcmalbbijchiaa
open Go.RowKit

def symA (t : Tk) : Nat := if t.n = 0 then t.b else lnSym t.n.toNat
def symD (t : Tk) : Nat := dsSym t.d.toNat
def cA (ts : List Tk) (i : Nat) : Nat := (if i = 256 then 1 else 0) + (ts.filter fun t => decide (symA t = i)).length
def cD (ts : List Tk) (i : Nat) : Nat := (ts.filter fun t => decide (t.n ≠ 0 ∧ symD t = i)).length
theorem cA_snoc (ts : List Tk) (t : Tk) (i : Nat) : cA (ts ++ [t]) i = cA ts i + if symA t = i then 1 else 0 := by
  unfold cA
  rw [List.filter_append, List.length_append, ← Nat.add_assoc]
  congr 1
  by_cases e : symA t = i <;> simp [e]
theorem cD_snoc (ts : List Tk) (t : Tk) (i : Nat) : cD (ts ++ [t]) i = cD ts i + if t.n ≠ 0 ∧ symD t = i then 1 else 0 := by
  unfold cD
  rw [List.filter_append, List.length_append]
  congr 1
  by_cases e : t.n ≠ 0 ∧ symD t = i
  · rw [if_pos e]; simp [e]
  · rw [if_neg e]; simp at e ⊢; intro h; exact e h
theorem cA_le (ts : List Tk) (i : Nat) : cA ts i ≤ ts.length + 1 := by
  unfold cA
  have := List.length_filter_le (fun t => decide (symA t = i)) ts
  split <;> omega
theorem cD_le (ts : List Tk) (i : Nat) : cD ts i ≤ ts.length := List.length_filter_le _ _
theorem cA_pos {ts : List Tk} {t : Tk} (h : t ∈ ts) : 0 < cA ts (symA t) := by
  unfold cA
  have : 0 < (ts.filter fun x => decide (symA x = symA t)).length := List.length_pos_of_mem (List.mem_filter.2 ⟨h, by simp⟩)
  omega
theorem cD_pos {ts : List Tk} {t : Tk} (h : t ∈ ts) (hn : t.n ≠ 0) : 0 < cD ts (symD t) :=
  List.length_pos_of_mem (List.mem_filter.2 ⟨h, by simp [hn]⟩)
theorem cA_256 (ts : List Tk) : 0 < cA ts 256 := by unfold cA; rw [if_pos rfl]; omega

/-- Counts as a list. -/
def ctL (f : Nat → Nat) (n : Nat) : List Int := (List.range n).map fun i => (f i : Int)
theorem ctL_len (f : Nat → Nat) (n : Nat) : (ctL f n).length = n := by simp [ctL]
theorem ctL_fq (f : Nat → Nat) {n i : Nat} (h : i < n) : fq (ctL f n) i = f i := by
  unfold fq ctL
  rw [List.getD_eq_getElem?_getD, List.getElem?_map, List.getElem?_range h]
  simp
theorem ctL_may {f : Nat → Nat} {n : Nat} (hn : n ≤ 320) (h : ∀ i, f i ≤ 1000000) : mayB (ctL f n) 15 = true := by
  unfold mayB
  rw [Bool.and_eq_true]
  refine ⟨by rw [ctL_len]; simp; omega, List.all_eq_true.2 fun x hx => ?_⟩
  obtain ⟨i, -, rfl⟩ := List.mem_map.1 hx
  have := h i
  unfold okF
  simp; omega

/-- Best lengths for the counts of tokens give all of their symbols codes. -/
theorem best_cod {ts : List Tk} {g k : Nat → Nat} (hg : LensOk (ctL (cA ts) 286) 15 g) (hk : LensOk (ctL (cD ts) 30) 15 k) (hx : ∀ t ∈ ts, t.okB = true ∧ t.b < 256) :
    (gl g 286).length = 286 ∧ (gl k 30).length = 30 ∧ (∀ v ∈ gl g 286 ++ gl k 30, v < 16) ∧ chk (gl g 286) = 0 ∧ chk (gl k 30) = 0 ∧ 0 < lq (gl g 286) 256 ∧ ∀ t ∈ ts, codT (gl g 286) (gl k 30) t := by
  have c1 := lens_chk hg (by omega) (by rw [ctL_len]; omega)
  have c2 := lens_chk hk (by omega) (by rw [ctL_len]; omega)
  rw [ctL_len] at c1 c2
  have l1 : ∀ i, i < 286 → g i ≤ 15 ∧ (0 < g i ↔ 0 < cA ts i) := fun i hi => by
    have := hg.le i (by rw [ctL_len]; exact hi)
    rwa [ctL_fq _ hi] at this
  have l2 : ∀ i, i < 30 → k i ≤ 15 ∧ (0 < k i ↔ 0 < cD ts i) := fun i hi => by
    have := hk.le i (by rw [ctL_len]; exact hi)
    rwa [ctL_fq _ hi] at this
  refine ⟨gl_len _ _, gl_len _ _, fun v hv => ?_, c1, c2, ?_, fun t ht => ?_⟩
  · rcases List.mem_append.1 hv with hv | hv
    · obtain ⟨i, hi, rfl⟩ := List.mem_map.1 hv
      have := (l1 i (List.mem_range.1 hi)).1; omega
    · obtain ⟨i, hi, rfl⟩ := List.mem_map.1 hv
      have := (l2 i (List.mem_range.1 hi)).1; omega
  · rw [gl_at g (by omega)]; exact (l1 256 (by omega)).2.2 (cA_256 ts)
  · obtain ⟨h1, h2⟩ := hx t ht
    have en := okB_nn h1
    have pa := cA_pos ht
    refine ⟨fun h0 => ?_, fun h0 => ?_⟩
    · have e : symA t = t.b := if_pos h0
      rw [e] at pa
      rw [gl_len]
      exact ⟨h2, by omega, by rw [gl_at g (by omega)]; exact (l1 _ (by omega)).2.2 pa⟩
    · have hk : t.okB = decide (3 ≤ t.n ∧ t.n ≤ 258 ∧ 1 ≤ t.d ∧ t.d ≤ 32768 ∧ t.b = 0) := if_neg h0
      rw [h1] at hk
      have hk := of_decide_eq_true hk.symm
      have e : symA t = lnSym t.n.toNat := if_neg h0
      have pd := cD_pos ht h0
      obtain ⟨s1, s2, -⟩ := lnSym_ok t.n.toNat (by omega) (by omega)
      obtain ⟨r1, -⟩ := dsSym_ok (d := t.d.toNat) (by omega) (by omega)
      rw [e] at pa
      rw [gl_len, gl_len]
      exact ⟨by omega, by rw [gl_at g (by omega)]; exact (l1 _ (by omega)).2.2 pa, by omega, by rw [gl_at k (by omega)]; exact (l2 _ (by omega)).2.2 pd⟩

/-- The fixed codes have all of them. -/
theorem fix_cod {t : Tk} (h1 : t.okB = true) (h2 : t.b < 256) : codT fixA fixD t := by
  have en := okB_nn h1
  have fa : ∀ i, i < 288 → i < fixA.length ∧ 0 < lq fixA i := by decide +kernel
  have fd : ∀ i, i < 32 → i < fixD.length ∧ 0 < lq fixD i := by decide +kernel
  refine ⟨fun h0 => ⟨h2, fa _ (by omega)⟩, fun h0 => ?_⟩
  have hk : t.okB = decide (3 ≤ t.n ∧ t.n ≤ 258 ∧ 1 ≤ t.d ∧ t.d ≤ 32768 ∧ t.b = 0) := if_neg h0
  rw [h1] at hk
  have hk := of_decide_eq_true hk.symm
  obtain ⟨s1, s2, -⟩ := lnSym_ok t.n.toNat (by omega) (by omega)
  obtain ⟨r1, -⟩ := dsSym_ok (d := t.d.toNat) (by omega) (by omega)
  exact ⟨(fa _ (by omega)).1, (fa _ (by omega)).2, fd _ (by omega)⟩

/-- Blocks, none of them the last one. -/
def putF : Nat → List Bn → Pt
  | _, [] => []
  | a, b :: r => b.put a false ++ putF (a + szP (b.put a false)) r
theorem putF_snoc : ∀ (a : Nat) (bs : List Bn) (b : Bn), putF a (bs ++ [b]) = putF a bs ++ b.put (a + szP (putF a bs)) false
  | a, [], b => by simp [putF, szP]
  | a, x :: r, b => by
    rw [List.cons_append, putF, putF, putF_snoc, List.append_assoc, szP_app, Nat.add_assoc]
theorem putB_snoc : ∀ (a : Nat) (bs : List Bn) (b : Bn), putB a (bs ++ [b]) = putF a bs ++ b.put (a + szP (putF a bs)) true
  | a, [], b => by simp [putF, putB, szP]
  | a, x :: r, b => by
    have e : (r ++ [b]).isEmpty = false := by cases r <;> rfl
    rw [List.cons_append, putB, putF, e, putB_snoc, List.append_assoc, szP_app, Nat.add_assoc]
theorem tellB_snoc : ∀ (bs : List Bn) (b : Bn) (o : List Nat), tellB (bs ++ [b]) o = b.tell (tellB bs o)
  | [], _, _ => rfl
  | _ :: r, b, _ => tellB_snoc r b _
theorem okB_snoc : ∀ {bs : List Bn} {b : Bn} {o : List Nat}, okB bs o → b.ok (tellB bs o) → okB (bs ++ [b]) o
  | [], _, _, _, h => ⟨h, trivial⟩
  | _ :: r, _, _, h1, h2 => ⟨h1.1, okB_snoc (bs := r) h1.2 h2⟩

/-- How many bits at most. -/
theorem lnBits_lo : ∀ x, x < 286 → lnBits x ≤ 5 := by decide +kernel
theorem dsBits_lo : ∀ x, x < 30 → dsBits x ≤ 13 := by decide +kernel
theorem lq_15 {ls : List Nat} (h : chk ls = 0) (i : Nat) : lq ls i ≤ 15 := by
  by_cases hi : i < ls.length
  · exact (chk_zero h).2.1 i hi
  · unfold lq
    rw [List.getD_eq_getElem?_getD, List.getElem?_eq_none (by omega)]
    decide
theorem tn_sz {A D : List Nat} (hA : chk A = 0) (hD : chk D = 0) {t : Tn} {o : List Nat} (h : t.ok A D o) : szP (t.put A D) ≤ 48 := by
  have a1 := lq_15 hA
  have d1 := lq_15 hD
  unfold Tn.put
  split
  · have := a1 t.b
    simp only [szP]; omega
  · rename_i h0
    obtain ⟨n1, n2, q1, q2, -⟩ := h.2 h0
    obtain ⟨-, s2, -, -⟩ := lnSym_ok t.n (by omega) n1
    obtain ⟨r1, -, -⟩ := dsSym_ok q1 q2
    have := lnBits_lo _ (show lnSym t.n < 286 by omega)
    have := dsBits_lo _ (show dsSym t.d < 30 by omega)
    have := a1 (lnSym t.n)
    have := d1 (dsSym t.d)
    simp only [szP]; omega
theorem tnT_sz {A D : List Nat} (hA : chk A = 0) (hD : chk D = 0) : ∀ {ts : List Tn} {o : List Nat}, mayT A D ts o → szP (laidT A D ts) ≤ 48 * ts.length
  | [], _, _ => Nat.le_refl _
  | t :: r, o, h => by
    have h1 := tn_sz hA hD h.1
    have h2 := tnT_sz hA hD (ts := r) h.2
    rw [laidT, szP_app, List.length_cons]; omega
theorem laidT_snoc (A D : List Nat) : ∀ (ts : List Tn) (t : Tn), laidT A D (ts ++ [t]) = laidT A D ts ++ t.put A D
  | [], t => by simp [laidT]
  | x :: r, t => by rw [List.cons_append, laidT, laidT_snoc, laidT, List.append_assoc]
theorem toldT_app : ∀ (a b : List Tn) (o : List Nat), toldT (a ++ b) o = toldT b (toldT a o)
  | [], _, _ => rfl
  | x :: r, b, o => by rw [List.cons_append, toldT, toldT_app r b]; rfl
theorem mayT_app {A D : List Nat} : ∀ {a b : List Tn} {o : List Nat}, mayT A D (a ++ b) o → mayT A D a o ∧ mayT A D b (toldT a o)
  | [], _, _, h => ⟨trivial, h⟩
  | _ :: r, _, _, h => ⟨⟨h.1, (mayT_app (a := r) h.2).1⟩, (mayT_app (a := r) h.2).2⟩
theorem clens_le (v : Nat) : lq clens v ≤ 5 := by
  by_cases h : v < 19
  · have : ∀ v, v < 19 → lq clens v ≤ 5 := by decide +kernel
    exact this v h
  · unfold lq
    rw [List.getD_eq_getElem?_getD, List.getElem?_eq_none (by show 19 ≤ v; omega)]
    decide
theorem putV_sz : ∀ vs : List Nat, szP (putV vs) ≤ 5 * vs.length
  | [] => Nat.le_refl _
  | v :: r => by
    have := putV_sz r
    have := clens_le v
    show lq clens v + szP (putV r) ≤ _
    rw [List.length_cons]; omega
theorem putO_sz (x y : List Nat) : szP (putO x y) ≤ 71 + 5 * (x.length + y.length) := by
  have := putV_sz (x ++ y)
  rw [List.length_append] at this
  unfold putO
  simp only [szP, szP_app, szP_threes, show ordL.length = 19 from rfl]
  omega
def Bn.few (n m : Nat) : Bn → Prop
  | .st bs => bs.length ≤ n
  | .fx ts => ts.length ≤ m
  | .dy _ _ ts => ts.length ≤ m
theorem bn_sz {b : Bn} {o : List Nat} (h : b.ok o) (hf : b.few 20000 300) (a : Nat) (last : Bool) : szP (b.put a last) ≤ 180000 := by
  have e : szP (b.put a last) = 3 + szP (b.body (a + 3)) := by unfold Bn.put; simp only [szP]; omega
  rw [e]
  cases b with
  | st bs =>
    have hf : bs.length ≤ 20000 := hf
    have : szP ((Bn.st bs).body (a + 3)) = (8 - (a + 3) % 8) % 8 + 32 + 8 * bs.length := by
      show szP (putS (a + 3) bs) = _
      unfold putS; simp only [szP, szP_bys]; omega
    omega
  | fx ts =>
    have hf : ts.length ≤ 300 := hf
    have h1 := tnT_sz fixA_chk fixD_chk (show mayT fixA fixD ts o from h)
    have h2 := lq_15 fixA_chk 256
    show 3 + szP (laidT fixA fixD ts ++ endP fixA) ≤ _
    rw [szP_app]; simp only [endP, szP]; omega
  | dy x y ts =>
    have hf : ts.length ≤ 300 := hf
    obtain ⟨hx, hy, h15, cx, cy, h0, ht⟩ := h
    have h1 := tnT_sz cx cy ht
    have h2 := lq_15 cx 256
    have h3 := putO_sz x y
    show 3 + szP (putO x y ++ (laidT x y ts ++ endP x)) ≤ _
    rw [szP_app, szP_app]; simp only [endP, szP]; omega

end Go.Proofs.Ytdcmalbbijchiaa

/- From a walk that ends in true, and that changes nothing that was there, to what a statement says: whatever the arguments, they read behind the call as they read before. Nothing here speaks of one function. -/
namespace Go.Proofs.Ytdcmalbbijchiaa
open Go.ChangeShapes Go.WideShapes Go.ChangeAt Go.RowKit Go.Joins

theorem Try.own : ownKnob Try.prog.godebug = none := by kernel_rfl
theorem Try.laidOut : laidOutB Try.prog = true := by kernel_rfl

/-- Arguments read behind a call that keeps all that was there as they read before it. -/
theorem trodAll_below {H : Type} {enc : TypeId × Value → H} {P : Program} (hl : laidOutB P = true) {W W' : World} (hb : Below W.heap.size W W') :
    ∀ (ts : List TypeId) (vs : List Value) (ds : List (DataW H)) (ps : List MemPlace), (∀ t ∈ ts, P.readableRec t = true ∧ t < P.types.size) → DataW.TrodAll enc P W 0 (fun _ => true) true ts vs ds ps → (∀ x ∈ ps, x.block < W.heap.size) →
      DataW.TrodAll enc P W' 0 (fun b => decide (b < W.heap.size)) true ts vs ds ps
  | [], _, _, _, _, h, _ => by
    obtain ⟨rfl, rfl, rfl⟩ := trodAll_nil h
    exact trodAll_mk0
  | t :: ts, _, _, _, hr, h, hlt => by
    obtain ⟨v, vs', d, ds', p, q, rfl, rfl, rfl, h1, h2⟩ := trodAll_cons h
    have ht := hr t (by simp)
    exact trodAll_cons_mk (Below.trod hl ht.1 ht.2 h1 hb (fun x hx => hlt x (by simp [hx]))) (trodAll_below hl hb ts vs' ds' q (fun t' h' => hr t' (by simp [h'])) h2 (fun x hx => hlt x (by simp [hx])))

/-- What a statement asks behind the call, where the call answers true and keeps all that was there. -/
theorem law_post {H : Type} {enc : TypeId × Value → H} {f : Func} {s : ChangeSpec} (tb : TypeId) {W W' : World} {args : Array Value} {ds gs : List (DataW H)} {before : List MemPlace}
    (hread : ∀ t ∈ f.params.toList, Try.prog.readableRec t = true ∧ t < Try.prog.types.size) (hrt : f.resultTypes = #[tb]) (hub : Try.prog.underlying tb = some .bool) (hv : s.vars = [])
    (hW : DataW.Whole enc Try.prog f.params.toList s.vars false W args.toList ds gs before) (hr : (s.fn H (ds ++ gs)).results = [.lit (.bool true)]) (ha : (s.fn H (ds ++ gs)).args = ds) (hvs : (s.fn H (ds ++ gs)).vars = [])
    (hb : Below W.heap.size W W') : s.post enc Try.prog f false true false false W args (.bool true) W' := by
  have hlt := hW.lt
  have hW' := hW
  obtain ⟨p, q, hA, hV, rfl, hfz, hnd⟩ := hW
  rw [hv] at hV
  obtain ⟨rfl, rfl⟩ := trodVars_none hV
  refine ⟨_, _, _, [], p, [], hW', ?_, ?_, ?_, hb.frame _, fun h => by cases h⟩
  · rw [hr, hrt]
    exact trodAll_mk1 (shut_bool hub true)
  · rw [ha]
    exact trodAll_below Try.laidOut hb _ _ _ _ hread hA (fun x hx => by simpa using hlt x (by simp [hx]))
  · rw [hvs, hv]
    rfl

theorem trodAll_four_mine {H : Type} {enc : TypeId × Value → H} {P : Program} {w : World} {base : Nat} {spare : Nat → Bool} {held : Bool} {t0 t1 t2 t3 : TypeId} {args : Array Value} {ds : List (DataW H)} {ps : List MemPlace} (h : DataW.TrodAll enc P w base spare held [t0, t1, t2, t3] args.toList ds ps) :
    ∃ v0 v1 v2 v3 d0 d1 d2 d3 p0 p1 p2 p3, args = #[v0, v1, v2, v3] ∧ ds = [d0, d1, d2, d3] ∧ ps = p0 ++ (p1 ++ (p2 ++ p3)) ∧ DataW.Trod enc P w base spare held t0 v0 d0 p0 ∧ DataW.Trod enc P w base spare held t1 v1 d1 p1 ∧ DataW.Trod enc P w base spare held t2 v2 d2 p2 ∧ DataW.Trod enc P w base spare held t3 v3 d3 p3 := by
  obtain ⟨v0, vs0, d0, ds0, p0, q0, hargs, rfl, rfl, h0, r0⟩ := trodAll_cons h
  obtain ⟨v1, vs1, d1, ds1, p1, q1, rfl, rfl, rfl, h1, r1⟩ := trodAll_cons r0
  obtain ⟨v2, vs2, d2, ds2, p2, q2, rfl, rfl, rfl, h2, r2⟩ := trodAll_cons r1
  obtain ⟨v3, vs3, d3, ds3, p3, q3, rfl, rfl, rfl, h3, r3⟩ := trodAll_cons r2
  obtain ⟨rfl, rfl, rfl⟩ := trodAll_nil r3
  exact ⟨v0, v1, v2, v3, d0, d1, d2, d3, p0, p1, p2, p3, by cases args; simp_all, rfl, by simp, h0, h1, h2, h3⟩

theorem trodAll_five_mine {H : Type} {enc : TypeId × Value → H} {P : Program} {w : World} {base : Nat} {spare : Nat → Bool} {held : Bool} {t0 t1 t2 t3 t4 : TypeId} {args : Array Value} {ds : List (DataW H)} {ps : List MemPlace} (h : DataW.TrodAll enc P w base spare held [t0, t1, t2, t3, t4] args.toList ds ps) :
    ∃ v0 v1 v2 v3 v4 d0 d1 d2 d3 d4 p0 p1 p2 p3 p4, args = #[v0, v1, v2, v3, v4] ∧ ds = [d0, d1, d2, d3, d4] ∧ ps = p0 ++ (p1 ++ (p2 ++ (p3 ++ p4))) ∧ DataW.Trod enc P w base spare held t0 v0 d0 p0 ∧ DataW.Trod enc P w base spare held t1 v1 d1 p1 ∧ DataW.Trod enc P w base spare held t2 v2 d2 p2 ∧ DataW.Trod enc P w base spare held t3 v3 d3 p3 ∧ DataW.Trod enc P w base spare held t4 v4 d4 p4 := by
  obtain ⟨v0, vs0, d0, ds0, p0, q0, hargs, rfl, rfl, h0, r0⟩ := trodAll_cons h
  obtain ⟨v1, vs1, d1, ds1, p1, q1, rfl, rfl, rfl, h1, r1⟩ := trodAll_cons r0
  obtain ⟨v2, vs2, d2, ds2, p2, q2, rfl, rfl, rfl, h2, r2⟩ := trodAll_cons r1
  obtain ⟨v3, vs3, d3, ds3, p3, q3, rfl, rfl, rfl, h3, r3⟩ := trodAll_cons r2
  obtain ⟨v4, vs4, d4, ds4, p4, q4, rfl, rfl, rfl, h4, r4⟩ := trodAll_cons r3
  obtain ⟨rfl, rfl, rfl⟩ := trodAll_nil r4
  exact ⟨v0, v1, v2, v3, v4, d0, d1, d2, d3, d4, p0, p1, p2, p3, p4, by cases args; simp_all, rfl, by simp, h0, h1, h2, h3, h4⟩

theorem wf_bounds {n : Int} (h : (Lit.int .i64 n).wf = true) : -9223372036854775808 ≤ n ∧ n ≤ 9223372036854775807 := by
  have hm : IntKind.i64.min = -9223372036854775808 := by decide
  simpa [Lit.wf, hm] using h

theorem wf_u8b {n : Int} (h : (Lit.int .u8 n).wf = true) : 0 ≤ n ∧ n ≤ 255 := by
  have hm : IntKind.u8.min = 0 := by decide
  have hx : IntKind.u8.max = 255 := by decide
  simpa [Lit.wf, hm, hx] using h

theorem wf_u32b {n : Int} (h : (Lit.int .u32 n).wf = true) : 0 ≤ n ∧ n < 4294967296 := by
  have hm : IntKind.u32.min = 0 := by decide
  have hx : IntKind.u32.max = 4294967295 := by decide
  have := h
  simp [Lit.wf, hm, hx] at this
  omega

end Go.Proofs.Ytdcmalbbijchiaa

/- A slice that comes in as an argument, of elements of any kind that can be opened: what it reads as. -/
namespace Go.Proofs.Ytdcmalbbijchiaa
open Go.ChangeShapes Go.WideShapes Go.ChangeAt Go.RowKit Go.Joins Go.Deep

set_option maxRecDepth 100000 in
theorem open_rows {α : Type} [Inhabited α] {ec : α → List Value} {k : Nat} {Good : α → Prop} {H : Type} {enc : TypeId × Value → H} {W : World} {base : Nat} {v : Value} {d : DataW H} {p : List MemPlace} {t e : TypeId}
    (ht : Try.prog.underlying t = some (.slice e)) (hk : Try.prog.cellsOf e = k)
    (hat : ∀ (n : Nat) (a : Addr) (D : DataW H) (Pl : List MemPlace) (cs : List Value), W.cells? 0 a k = some cs → DataW.trod enc Try.prog W 0 (fun _ => true) true n e cs = some (D, Pl) → ∃ x : α, Good x ∧ ∀ j u, (ec x)[j]? = some u → W.cell? (a.add j) = some u)
    (hv : Value.okWide Try.prog W .any base t v) (h : DataW.Trod enc Try.prog W 0 (fun _ => true) true t v d p) :
    ∃ xs : List α, RwG ec k W v xs ∧ ∀ x ∈ xs, Good x := by
  obtain ⟨a0, len, cap, rfl⟩ := okWide_slice ht hv
  obtain ⟨fuel, hf⟩ := h
  rcases open_slice ht hf with ⟨hcs, -⟩ | ⟨a, len', cap', m, n, D, Pl, hcs, hb, hl, hm, hmm, hx, hi⟩
  · simp [Value.cells] at hcs
    obtain ⟨rfl, rfl, rfl⟩ := hcs
    exact ⟨[], ⟨⟨none, 0, rfl, Nat.le_refl _, by simp [maxLen], .inl ⟨rfl, rfl⟩⟩, fun c h => by cases h; rfl⟩, fun r h => by cases h⟩
  · simp [Value.cells] at hcs
    obtain ⟨rfl, rfl, rfl⟩ := hcs
    have hh : W.has Try.prog .any base a e cap := by
      have h1 := hv
      unfold Value.okWide at h1
      rw [ht] at h1
      simp only [Cell.okWide, ht, Cell.ok] at h1
      exact h1.2.2
    obtain ⟨-, hspot, row, cells, hsh, -⟩ := hh
    have hlt : a.block < W.heap.size := by
      unfold World.shape? at hsh
      cases hq : W.heap[a.block]? with
      | none => rw [hq] at hsh; cases hsh
      | some o => exact (Array.getElem?_eq_some_iff.1 hq).1
    obtain ⟨ab, ao, asp⟩ := a
    dsimp only at hspot hlt
    subst hspot
    rw [hk] at hi
    have H : ∀ i, i < len → ∃ r : α, Good r ∧ ∀ j u, (ec r)[j]? = some u → W.cell? ((⟨ab, ao, none⟩ : Addr).add (i * k) |>.add j) = some u := fun i him => by
      obtain ⟨cs', hc, ht⟩ := hi i (by rw [hmm]; simp; omega)
      exact hat _ _ _ _ _ hc ht
    obtain ⟨f, hf'⟩ : ∃ f : Nat → α, ∀ i, i < len → Good (f i) ∧ ∀ j u, (ec (f i))[j]? = some u → W.cell? ((⟨ab, ao, none⟩ : Addr).add (i * k) |>.add j) = some u := by
      classical
      refine ⟨fun i => if h : i < len then Classical.choose (H i h) else default, fun i him => ?_⟩
      simp only [him, dif_pos]
      exact Classical.choose_spec (H i him)
    have hln : ((List.range len).map f).length = len := by simp
    refine ⟨(List.range len).map f, ⟨⟨_, cap, by rw [hln], by rw [hln]; exact hl, hm, .inr ⟨_, _, rfl, hlt, fun i x hx j u hu => ?_⟩⟩, fun c h => by cases h⟩, fun r hr => ?_⟩
    · rw [List.getElem?_map] at hx
      cases hr : (List.range len)[i]? with
      | none => rw [hr] at hx; cases hx
      | some q =>
        rw [hr] at hx
        obtain ⟨hlt2, hq⟩ := List.getElem?_eq_some_iff.1 hr
        rw [List.getElem_range] at hq
        subst hq
        cases hx
        have h4 := (hf' i (by simpa using hlt2)).2 j u hu
        rw [Addr.add_lit, Addr.add_lit] at h4
        exact h4
    · obtain ⟨i, hi', rfl⟩ := List.mem_map.1 hr
      exact (hf' i (by simpa using hi')).1

end Go.Proofs.Ytdcmalbbijchiaa

/- Slices of bytes, cells of blocks. Nothing here speaks of one program. -/
namespace Go.Proofs.Ytdcmalbbijchiaa
open Go.RowKit

theorem cell_later {w w' : World} (hb : Below w.heap.size w w') {a : Addr} {v : Value} (h : w.cell? a = some v) : w'.cell? a = some v :=
  (hb.cell (World.block_lt_of_cell? _ _ h)).trans h
/-- A cell of a row of ones that is owned. -/
theorem own_at {w : World} {base : Nat} {e : TypeId} {v : Value} {n : Nat} {xs : List Value} (h : w.ownsRow base e 1 v n xs) {i : Nat} {u : Value} (hi : xs[i]? = some u) : ∃ g c, v = .slice (some ⟨g, 0, none⟩) n c ∧ base ≤ g ∧ g < w.heap.size ∧ w.cell? ⟨g, i, none⟩ = some u ∧ w.frozen? ⟨g, i, none⟩ = false := by
  have hl := h.1
  have hlt := (List.getElem?_eq_some_iff.1 hi).1
  rcases h.2 with ⟨rfl, h0⟩ | ⟨g, cap, cur, rfl, hg, hh, -⟩
  · omega
  · exact ⟨g, cap, rfl, hg, lt_heap hh, by rw [h.cellAt i (by omega)]; exact hi, h.frozenAt i⟩


theorem owns_base {w : World} {B B' : Nat} {e : TypeId} {size : Nat} {v : Value} {n : Nat} {xs : List Value} (h : w.ownsRow B e size v n xs) (hb : B' ≤ B) : w.ownsRow B' e size v n xs :=
  ⟨h.1, h.2.imp id fun ⟨g, cap, cur, a, b, c⟩ => ⟨g, cap, cur, a, Nat.le_trans hb b, c⟩⟩

end Go.Proofs.Ytdcmalbbijchiaa

/- lz's search: match, next, rarest, size, mayBe. -/
namespace Go.Proofs.Ytdcmalbbijchiaa
open Go.RowKit

/-- Numbers of two bytes as cells. -/
def encH (x : Nat) : List Value := [.int .u16 (x : Int)]
theorem encH_len (x : Nat) : (encH x).length = 1 := rfl
theorem RowAt.half {W : World} {p : Option Addr} {xs : List Nat} (h : RowAt encH 1 W p xs) {k : Nat} (hk : k < xs.length) : ∃ b off, p = some ⟨b, off, none⟩ ∧ W.cell? ⟨b, off + k, none⟩ = some (.int .u16 (fb xs k : Int)) := by
  rcases h with ⟨-, rfl⟩ | ⟨b, off, rfl, -, h⟩
  · simp at hk
  · refine ⟨b, off, rfl, ?_⟩
    have := h k xs[k] (List.getElem?_eq_getElem hk) 0 _ rfl
    rw [fb_at hk]
    simpa using this
theorem RowAt.byteF {W : World} {p : Option Addr} {xs : List Nat} (h : RowAt enc8 1 W p xs) {k : Nat} (hk : k < xs.length) : ∃ b off, p = some ⟨b, off, none⟩ ∧ W.cell? ⟨b, off + k, none⟩ = some (.int .u8 (fb xs k : Int)) := h.byte hk

/-- A search as a value. -/
def srV (b a : Value) : Value := .agg #[b, a]

end Go.Proofs.Ytdcmalbbijchiaa
