/- Several texts in one, each with its own head. -/
import Derived.Test.YtebfdoipogjpnaaGreatQd25
import Derived.Test.YtebfdoipogjpnaaGreatQd14
import Derived.Test.YtebfdoipogjpnaaGreatQd27
import Derived.Test.YtebfdoipogjpnaaGreatQd26
/- Lengths that are best for frequencies make a code (plain; nothing of the document's own answers). -/
namespace Go.Proofs.YtebfdoipogjpnaaGreat
open Go.RowKit

/-- Lengths as a list. -/
def gl (g : Nat → Nat) (N : Nat) : List Nat := (List.range N).map g
theorem gl_len (g : Nat → Nat) (N : Nat) : (gl g N).length = N := by simp [gl]
theorem gl_at (g : Nat → Nat) {N i : Nat} (hi : i < N) : lq (gl g N) i = g i := by
  unfold lq gl
  rw [List.getD_eq_getElem?_getD, List.getElem?_map, List.getElem?_range hi]; rfl
theorem gl_row (g : Nat → Nat) (N : Nat) : lensRow g N = (gl g N).map u8v := by simp [lensRow, gl]

theorem many_same {f g : Nat → Nat} : ∀ {n : Nat}, (∀ i, i < n → (0 < f i ↔ 0 < g i)) → many n f = many n g
  | 0, _ => rfl
  | n + 1, h => by
    rw [many_succ, many_succ, many_same (fun i hi => h i (by omega))]
    have := h n (by omega)
    by_cases h0 : 0 < f n
    · rw [if_pos h0, if_pos (this.1 h0)]
    · rw [if_neg h0, if_neg (fun h => h0 (this.2 h))]
theorem room_same {L : Nat} {f g : Nat → Nat} : ∀ {n : Nat}, (∀ i, i < n → f i = g i) → room n L f = room n L g
  | 0, _ => rfl
  | n + 1, h => by rw [room_succ, room_succ, room_same (fun i hi => h i (by omega)), h n (by omega)]
theorem room_one {f : Nat → Nat} : ∀ {n : Nat}, (∀ i, i < n → f i ≤ 1) → room n 15 f = many n f * 16384
  | 0, _ => by simp [room, many, sm]
  | n + 1, h => by
    rw [room_succ, many_succ, room_one (fun i hi => h i (by omega)), Nat.add_mul]
    have := h n (by omega)
    by_cases h0 : 0 < f n
    · have e : f n = 1 := by omega
      have e2 : 2 ^ (15 - f n) = 16384 := by rw [e]
      rw [if_pos h0, if_pos h0, e2]
    · rw [if_neg h0, if_neg h0, Nat.zero_mul]
theorem room_up {L : Nat} (hL : L ≤ 15) {l : Nat → Nat} : ∀ {n : Nat}, (∀ i, i < n → l i ≤ L) → room n 15 l = room n L l * 2 ^ (15 - L)
  | 0, _ => by simp [sm, room]
  | n + 1, h => by
    have h1 := room_up hL (n := n) (fun i hi => h i (by omega))
    have h2 := h n (by omega)
    rw [room_succ, room_succ, h1, Nat.add_mul]
    by_cases h0 : 0 < l n
    · rw [if_pos h0, if_pos h0, ← Nat.pow_add, show L - l n + (15 - L) = 15 - l n by omega]
    · rw [if_neg h0, if_neg h0, Nat.zero_mul]

theorem lens_chk {fs : List Int} {L : Nat} {g : Nat → Nat} (h : LensOk fs L g) (hL : L ≤ 15) (hN : fs.length ≤ 320) : chk (gl g fs.length) = 0 := by
  have hle : ∀ i, i < fs.length → g i ≤ L := fun i hi => (h.le i hi).1
  have hm : many fs.length (lq (gl g fs.length)) = many fs.length (fq fs) := by
    refine many_same fun i hi => ?_
    rw [gl_at g hi]; exact (h.le i hi).2
  have hr : room fs.length 15 (lq (gl g fs.length)) = room fs.length 15 g := room_same fun i hi => gl_at g hi
  rw [chk_rest (by rw [gl_len]; exact hN) (fun i hi => by rw [gl_len] at hi; rw [gl_at g hi]; have := hle i hi; omega), gl_len, hm, hr, if_pos]
  by_cases h0 : many fs.length (fq fs) = 0
  · exact .inl h0
  by_cases h1 : many fs.length (fq fs) = 1
  · refine .inr (.inr ⟨h1, ?_⟩)
    rw [room_one (h.one h1), many_same (f := g) (g := fq fs) (fun i hi => (h.le i hi).2), h1]
  · refine .inr (.inl ?_)
    rw [room_up hL hle, h.code (by omega), ← Nat.pow_add, show L + (15 - L) = 15 by omega]

end Go.Proofs.YtebfdoipogjpnaaGreat

/- inflate, plainly: how often tokens have each symbol, and that best lengths for that give all of them codes; blocks that are laid from the left. -/
namespace Go.Proofs.YtebfdoipogjpnaaGreat
open Go.RowKit

def symA (t : Tk) : Nat := if t.n = 0 then t.b else lnSym t.n.toNat
def symD (t : Tk) : Nat := dsSym t.d.toNat
def cA (ts : List Tk) (i : Nat) : Nat := (if i = 256 then 1 else 0) + (ts.filter fun t => decide (symA t = i)).length
def cD (ts : List Tk) (i : Nat) : Nat := (ts.filter fun t => decide (t.n ≠ 0 ∧ symD t = i)).length
theorem cA_snoc (ts : List Tk) (t : Tk) (i : Nat) : cA (ts ++ [t]) i = cA ts i + if symA t = i then 1 else 0 := by
  unfold cA
  rw [List.filter_append, List.length_append, ← Nat.add_assoc]
  congr 1
  by_cases e : symA t = i <;> simp [e]
theorem cD_snoc (ts : List Tk) (t : Tk) (i : Nat) : cD (ts ++ [t]) i = cD ts i + if t.n ≠ 0 ∧ symD t = i then 1 else 0 := by
  unfold cD
  rw [List.filter_append, List.length_append]
  congr 1
  by_cases e : t.n ≠ 0 ∧ symD t = i
  · rw [if_pos e]; simp [e]
  · rw [if_neg e]; simp at e ⊢; intro h; exact e h
theorem cA_le (ts : List Tk) (i : Nat) : cA ts i ≤ ts.length + 1 := by
  unfold cA
  have := List.length_filter_le (fun t => decide (symA t = i)) ts
  split <;> omega
theorem cD_le (ts : List Tk) (i : Nat) : cD ts i ≤ ts.length := List.length_filter_le _ _
theorem cA_pos {ts : List Tk} {t : Tk} (h : t ∈ ts) : 0 < cA ts (symA t) := by
  unfold cA
  have : 0 < (ts.filter fun x => decide (symA x = symA t)).length := List.length_pos_of_mem (List.mem_filter.2 ⟨h, by simp⟩)
  omega
theorem cD_pos {ts : List Tk} {t : Tk} (h : t ∈ ts) (hn : t.n ≠ 0) : 0 < cD ts (symD t) :=
  List.length_pos_of_mem (List.mem_filter.2 ⟨h, by simp [hn]⟩)
theorem cA_256 (ts : List Tk) : 0 < cA ts 256 := by unfold cA; rw [if_pos rfl]; omega

/-- Counts as a list. -/
def ctL (f : Nat → Nat) (n : Nat) : List Int := (List.range n).map fun i => (f i : Int)
theorem ctL_len (f : Nat → Nat) (n : Nat) : (ctL f n).length = n := by simp [ctL]
theorem ctL_fq (f : Nat → Nat) {n i : Nat} (h : i < n) : fq (ctL f n) i = f i := by
  unfold fq ctL
  rw [List.getD_eq_getElem?_getD, List.getElem?_map, List.getElem?_range h]
  simp
theorem ctL_may {f : Nat → Nat} {n : Nat} (hn : n ≤ 320) (h : ∀ i, f i ≤ 1000000) : mayB (ctL f n) 15 = true := by
  unfold mayB
  rw [Bool.and_eq_true]
  refine ⟨by rw [ctL_len]; simp; omega, List.all_eq_true.2 fun x hx => ?_⟩
  obtain ⟨i, -, rfl⟩ := List.mem_map.1 hx
  have := h i
  unfold okF
  simp; omega

/-- Best lengths for the counts of tokens give all of their symbols codes. -/
theorem best_cod {ts : List Tk} {g k : Nat → Nat} (hg : LensOk (ctL (cA ts) 286) 15 g) (hk : LensOk (ctL (cD ts) 30) 15 k) (hx : ∀ t ∈ ts, t.okB = true ∧ t.b < 256) :
    (gl g 286).length = 286 ∧ (gl k 30).length = 30 ∧ (∀ v ∈ gl g 286 ++ gl k 30, v < 16) ∧ chk (gl g 286) = 0 ∧ chk (gl k 30) = 0 ∧ 0 < lq (gl g 286) 256 ∧ ∀ t ∈ ts, codT (gl g 286) (gl k 30) t := by
  have c1 := lens_chk hg (by omega) (by rw [ctL_len]; omega)
  have c2 := lens_chk hk (by omega) (by rw [ctL_len]; omega)
  rw [ctL_len] at c1 c2
  have l1 : ∀ i, i < 286 → g i ≤ 15 ∧ (0 < g i ↔ 0 < cA ts i) := fun i hi => by
    have := hg.le i (by rw [ctL_len]; exact hi)
    rwa [ctL_fq _ hi] at this
  have l2 : ∀ i, i < 30 → k i ≤ 15 ∧ (0 < k i ↔ 0 < cD ts i) := fun i hi => by
    have := hk.le i (by rw [ctL_len]; exact hi)
    rwa [ctL_fq _ hi] at this
  refine ⟨gl_len _ _, gl_len _ _, fun v hv => ?_, c1, c2, ?_, fun t ht => ?_⟩
  · rcases List.mem_append.1 hv with hv | hv
    · obtain ⟨i, hi, rfl⟩ := List.mem_map.1 hv
      have := (l1 i (List.mem_range.1 hi)).1; omega
    · obtain ⟨i, hi, rfl⟩ := List.mem_map.1 hv
      have := (l2 i (List.mem_range.1 hi)).1; omega
  · rw [gl_at g (by omega)]; exact (l1 256 (by omega)).2.2 (cA_256 ts)
  · obtain ⟨h1, h2⟩ := hx t ht
    have en := okB_nn h1
    have pa := cA_pos ht
    refine ⟨fun h0 => ?_, fun h0 => ?_⟩
    · have e : symA t = t.b := if_pos h0
      rw [e] at pa
      rw [gl_len]
      exact ⟨h2, by omega, by rw [gl_at g (by omega)]; exact (l1 _ (by omega)).2.2 pa⟩
    · have hk : t.okB = decide (3 ≤ t.n ∧ t.n ≤ 258 ∧ 1 ≤ t.d ∧ t.d ≤ 32768 ∧ t.b = 0) := if_neg h0
      rw [h1] at hk
      have hk := of_decide_eq_true hk.symm
      have e : symA t = lnSym t.n.toNat := if_neg h0
      have pd := cD_pos ht h0
      obtain ⟨s1, s2, -⟩ := lnSym_ok t.n.toNat (by omega) (by omega)
      obtain ⟨r1, -⟩ := dsSym_ok (d := t.d.toNat) (by omega) (by omega)
      rw [e] at pa
      rw [gl_len, gl_len]
      exact ⟨by omega, by rw [gl_at g (by omega)]; exact (l1 _ (by omega)).2.2 pa, by omega, by rw [gl_at k (by omega)]; exact (l2 _ (by omega)).2.2 pd⟩

/-- The fixed codes have all of them. -/
theorem fix_cod {t : Tk} (h1 : t.okB = true) (h2 : t.b < 256) : codT fixA fixD t := by
  have en := okB_nn h1
  have fa : ∀ i, i < 288 → i < fixA.length ∧ 0 < lq fixA i := by decide +kernel
  have fd : ∀ i, i < 32 → i < fixD.length ∧ 0 < lq fixD i := by decide +kernel
  refine ⟨fun h0 => ⟨h2, fa _ (by omega)⟩, fun h0 => ?_⟩
  have hk : t.okB = decide (3 ≤ t.n ∧ t.n ≤ 258 ∧ 1 ≤ t.d ∧ t.d ≤ 32768 ∧ t.b = 0) := if_neg h0
  rw [h1] at hk
  have hk := of_decide_eq_true hk.symm
  obtain ⟨s1, s2, -⟩ := lnSym_ok t.n.toNat (by omega) (by omega)
  obtain ⟨r1, -⟩ := dsSym_ok (d := t.d.toNat) (by omega) (by omega)
  exact ⟨(fa _ (by omega)).1, (fa _ (by omega)).2, fd _ (by omega)⟩

/-- Blocks, none of them the last one. -/
def putF : Nat → List Bn → Pt
  | _, [] => []
  | a, b :: r => b.put a false ++ putF (a + szP (b.put a false)) r
theorem putF_snoc : ∀ (a : Nat) (bs : List Bn) (b : Bn), putF a (bs ++ [b]) = putF a bs ++ b.put (a + szP (putF a bs)) false
  | a, [], b => by simp [putF, szP]
  | a, x :: r, b => by
    rw [List.cons_append, putF, putF, putF_snoc, List.append_assoc, szP_app, Nat.add_assoc]
theorem putB_snoc : ∀ (a : Nat) (bs : List Bn) (b : Bn), putB a (bs ++ [b]) = putF a bs ++ b.put (a + szP (putF a bs)) true
  | a, [], b => by simp [putF, putB, szP]
  | a, x :: r, b => by
    have e : (r ++ [b]).isEmpty = false := by cases r <;> rfl
    rw [List.cons_append, putB, putF, e, putB_snoc, List.append_assoc, szP_app, Nat.add_assoc]
theorem tellB_snoc : ∀ (bs : List Bn) (b : Bn) (o : List Nat), tellB (bs ++ [b]) o = b.tell (tellB bs o)
  | [], _, _ => rfl
  | _ :: r, b, _ => tellB_snoc r b _
theorem okB_snoc : ∀ {bs : List Bn} {b : Bn} {o : List Nat}, okB bs o → b.ok (tellB bs o) → okB (bs ++ [b]) o
  | [], _, _, _, h => ⟨h, trivial⟩
  | _ :: r, _, _, h1, h2 => ⟨h1.1, okB_snoc (bs := r) h1.2 h2⟩

/-- How many bits at most. -/
theorem lnBits_lo : ∀ x, x < 286 → lnBits x ≤ 5 := by decide +kernel
theorem dsBits_lo : ∀ x, x < 30 → dsBits x ≤ 13 := by decide +kernel
theorem lq_15 {ls : List Nat} (h : chk ls = 0) (i : Nat) : lq ls i ≤ 15 := by
  by_cases hi : i < ls.length
  · exact (chk_zero h).2.1 i hi
  · unfold lq
    rw [List.getD_eq_getElem?_getD, List.getElem?_eq_none (by omega)]
    decide
theorem tn_sz {A D : List Nat} (hA : chk A = 0) (hD : chk D = 0) {t : Tn} {o : List Nat} (h : t.ok A D o) : szP (t.put A D) ≤ 48 := by
  have a1 := lq_15 hA
  have d1 := lq_15 hD
  unfold Tn.put
  split
  · have := a1 t.b
    simp only [szP]; omega
  · rename_i h0
    obtain ⟨n1, n2, q1, q2, -⟩ := h.2 h0
    obtain ⟨-, s2, -, -⟩ := lnSym_ok t.n (by omega) n1
    obtain ⟨r1, -, -⟩ := dsSym_ok q1 q2
    have := lnBits_lo _ (show lnSym t.n < 286 by omega)
    have := dsBits_lo _ (show dsSym t.d < 30 by omega)
    have := a1 (lnSym t.n)
    have := d1 (dsSym t.d)
    simp only [szP]; omega
theorem tnT_sz {A D : List Nat} (hA : chk A = 0) (hD : chk D = 0) : ∀ {ts : List Tn} {o : List Nat}, mayT A D ts o → szP (laidT A D ts) ≤ 48 * ts.length
  | [], _, _ => Nat.le_refl _
  | t :: r, o, h => by
    have h1 := tn_sz hA hD h.1
    have h2 := tnT_sz hA hD (ts := r) h.2
    rw [laidT, szP_app, List.length_cons]; omega
theorem laidT_snoc (A D : List Nat) : ∀ (ts : List Tn) (t : Tn), laidT A D (ts ++ [t]) = laidT A D ts ++ t.put A D
  | [], t => by simp [laidT]
  | x :: r, t => by rw [List.cons_append, laidT, laidT_snoc, laidT, List.append_assoc]
theorem toldT_app : ∀ (a b : List Tn) (o : List Nat), toldT (a ++ b) o = toldT b (toldT a o)
  | [], _, _ => rfl
  | x :: r, b, o => by rw [List.cons_append, toldT, toldT_app r b]; rfl
theorem mayT_app {A D : List Nat} : ∀ {a b : List Tn} {o : List Nat}, mayT A D (a ++ b) o → mayT A D a o ∧ mayT A D b (toldT a o)
  | [], _, _, h => ⟨trivial, h⟩
  | _ :: r, _, _, h => ⟨⟨h.1, (mayT_app (a := r) h.2).1⟩, (mayT_app (a := r) h.2).2⟩
theorem clens_le (v : Nat) : lq clens v ≤ 5 := by
  by_cases h : v < 19
  · have : ∀ v, v < 19 → lq clens v ≤ 5 := by decide +kernel
    exact this v h
  · unfold lq
    rw [List.getD_eq_getElem?_getD, List.getElem?_eq_none (by show 19 ≤ v; omega)]
    decide
theorem putV_sz : ∀ vs : List Nat, szP (putV vs) ≤ 5 * vs.length
  | [] => Nat.le_refl _
  | v :: r => by
    have := putV_sz r
    have := clens_le v
    show lq clens v + szP (putV r) ≤ _
    rw [List.length_cons]; omega
theorem putO_sz (x y : List Nat) : szP (putO x y) ≤ 71 + 5 * (x.length + y.length) := by
  have := putV_sz (x ++ y)
  rw [List.length_append] at this
  unfold putO
  simp only [szP, szP_app, szP_threes, show ordL.length = 19 from rfl]
  omega
def Bn.few (n m : Nat) : Bn → Prop
  | .st bs => bs.length ≤ n
  | .fx ts => ts.length ≤ m
  | .dy _ _ ts => ts.length ≤ m
theorem bn_sz {b : Bn} {o : List Nat} (h : b.ok o) (hf : b.few 20000 300) (a : Nat) (last : Bool) : szP (b.put a last) ≤ 180000 := by
  have e : szP (b.put a last) = 3 + szP (b.body (a + 3)) := by unfold Bn.put; simp only [szP]; omega
  rw [e]
  cases b with
  | st bs =>
    have hf : bs.length ≤ 20000 := hf
    have : szP ((Bn.st bs).body (a + 3)) = (8 - (a + 3) % 8) % 8 + 32 + 8 * bs.length := by
      show szP (putS (a + 3) bs) = _
      unfold putS; simp only [szP, szP_bys]; omega
    omega
  | fx ts =>
    have hf : ts.length ≤ 300 := hf
    have h1 := tnT_sz fixA_chk fixD_chk (show mayT fixA fixD ts o from h)
    have h2 := lq_15 fixA_chk 256
    show 3 + szP (laidT fixA fixD ts ++ endP fixA) ≤ _
    rw [szP_app]; simp only [endP, szP]; omega
  | dy x y ts =>
    have hf : ts.length ≤ 300 := hf
    obtain ⟨hx, hy, h15, cx, cy, h0, ht⟩ := h
    have h1 := tnT_sz cx cy ht
    have h2 := lq_15 cx 256
    have h3 := putO_sz x y
    show 3 + szP (putO x y ++ (laidT x y ts ++ endP x)) ≤ _
    rw [szP_app, szP_app]; simp only [endP, szP]; omega

end Go.Proofs.YtebfdoipogjpnaaGreat

/- deflate: number, head and stored of a stream that is written; the stored form. -/
namespace Go.Proofs.YtebfdoipogjpnaaGreat
open Go.RowKit Go.Maps

set_option maxHeartbeats 2000000 in
theorem numberD_any {G : Nat → Prop} {W : World} {F : World → Prop} {base B v k : Nat} {P : Pt} {w : World} (h : WrF G W F base B P w) (hv : v < 2 ^ k) (hk : k ≤ 24) (hmax : szP P + k ≤ 8388608) :
    Calls Tryz.prog 120 #[.pointer (some ⟨B, 0, none⟩), .int .i64 (v : Int), .int .i64 (k : Int)] w fun e w' => e = .returned (.tuple #[]) ∧ WrF G W F base B (P ++ [(v, k)]) w' := by
  have hv24 : v < 16777216 := Nat.lt_of_lt_of_le hv (Nat.le_trans (Nat.pow_le_pow_right (n := 2) (by omega) hk) (by decide))
  have hw : IntKind.u32.wrap (v : Int) = (v : Int) := IntWalk.u32_in _ (by omega)
  have H := Lib.hid (h.put hv hk hmax)
  clear h hv
  go_enter Tryz.func120, Tryz.ntmps120
  go_wp2_with fail
  refine Calls.mono H.out ?_
  rintro _ w1 ⟨rfl, h1⟩
  have H1 := Lib.hid h1
  clear h1 H
  go_wp2
  go_end0
  exact ⟨rfl, H1.out⟩

set_option maxHeartbeats 2000000 in
theorem headD_any {G : Nat → Prop} {W : World} {F : World → Prop} {base B kind : Nat} {P : Pt} {w : World} (last : Bool) (h : WrF G W F base B P w) (hk : kind < 4) (hmax : szP P + 3 ≤ 8388608) :
    Calls Tryz.prog 93 #[.pointer (some ⟨B, 0, none⟩), .bool last, .int .i64 (kind : Int)] w fun e w' => e = .returned (.tuple #[]) ∧ WrF G W F base B (P ++ [(if last then 1 else 0, 1)] ++ [(kind, 2)]) w' := by
  have H := Lib.hid h
  have Hm := Lib.hid hmax
  have Hk := Lib.hid hk
  clear h hmax hk
  cases last
  · go_enter Tryz.func93, Tryz.ntmps93
    go_wp2_with fail
    refine Calls.mono (numberD_any (v := 0) (k := 1) H.out (by decide) (by decide) (by have := Hm.out; omega)) ?_
    rintro _ w1 ⟨rfl, h1⟩
    have H1 := Lib.hid h1
    clear h1 H
    go_wp2_with fail
    refine Calls.mono (numberD_any (v := kind) (k := 2) H1.out (by have := Hk.out; omega) (by decide) (by have := Hm.out; simp only [szP_app, szP]; omega)) ?_
    rintro _ w2 ⟨rfl, h2⟩
    have H2 := Lib.hid h2
    clear h2 H1
    go_wp2
    go_end0
    exact ⟨rfl, H2.out.congr (by simp)⟩
  · go_enter Tryz.func93, Tryz.ntmps93
    go_wp2_with fail
    refine Calls.mono (numberD_any (v := 1) (k := 1) H.out (by decide) (by decide) (by have := Hm.out; omega)) ?_
    rintro _ w1 ⟨rfl, h1⟩
    have H1 := Lib.hid h1
    clear h1 H
    go_wp2_with fail
    refine Calls.mono (numberD_any (v := kind) (k := 2) H1.out (by have := Hk.out; omega) (by decide) (by have := Hm.out; simp only [szP_app, szP]; omega)) ?_
    rintro _ w2 ⟨rfl, h2⟩
    have H2 := Lib.hid h2
    clear h2 H1
    go_wp2
    go_end0
    exact ⟨rfl, H2.out.congr (by simp)⟩

/-- Bytes that lie from p on. -/
def BsAt (w : World) (p : Option Addr) (bs : List Nat) : Prop := ∀ i (_ : i < bs.length), ∃ g off, p = some ⟨g, off, none⟩ ∧ w.cell? ⟨g, off + i, none⟩ = some (.int .u8 ((bs.getD i 0 : Nat) : Int))
theorem take_map8 (bs : List Nat) {i : Nat} (hi : i < bs.length) : (bs.take (i + 1)).map (fun b => ((b, 8) : Nat × Nat)) = (bs.take i).map (fun b => (b, 8)) ++ [(bs.getD i 0, 8)] := by
  rw [List.take_succ_eq_append_getElem hi, List.map_append, List.getD_eq_getElem?_getD, List.getElem?_eq_getElem hi]; rfl
theorem szP_take8 (bs : List Nat) {i : Nat} (hi : i ≤ bs.length) : szP ((bs.take i).map (fun b => ((b, 8) : Nat × Nat))) = 8 * i := by
  rw [szP_bys, List.length_take, Nat.min_eq_left hi]

set_option maxRecDepth 20000 in
set_option maxHeartbeats 8000000 in
theorem sstoredD_any {G : Nat → Prop} {W : World} {F : World → Prop} {base B : Nat} {P : Pt} (last : Bool) (p : Option Addr) (c : Nat) (bs : List Nat) (w : World) (h : WrF G W F base B P w) (hB : ∀ w, F w → BsAt w p bs) (hby : ∀ i, bs.getD i 0 < 256) (hl : bs.length ≤ 65535) (hm : szP P + 8 * bs.length + 50 ≤ 8388608) :
    Calls Tryz.prog 92 #[.pointer (some ⟨B, 0, none⟩), .bool last, .slice p bs.length c] w fun e w' => e = .returned (.tuple #[]) ∧ WrF G W F base B (P ++ (Bn.st bs).put (szP P) last) w' := by
  have H := Lib.hid h
  have HB := Lib.hid hB
  have Hby := Lib.hid hby
  obtain ⟨n, hn⟩ : ∃ n, bs.length = n := ⟨_, rfl⟩
  have Hn := Lib.hid hn
  rw [hn] at hl hm ⊢
  have Hm := Lib.hid hm
  obtain ⟨la, hla⟩ : ∃ la, (if last then 1 else 0 : Nat) = la := ⟨_, rfl⟩
  have Hla := Lib.hid hla
  have hh := headD_any (kind := 0) last h (by decide) (by omega)
  rw [hla] at hh
  have Hh := Lib.hid hh
  clear h hB hby hm hn hh hla
  go_enter Tryz.func92, Tryz.ntmps92
  go_wp2_with fail
  refine Calls.mono Hh.out ?_
  rintro _ w2 ⟨rfl, h2⟩
  have H2 := Lib.hid h2
  clear h2 H Hh
  go_wp2_with fail
  refine Calls.mono (H2.out.align (by have := Hm.out; simp only [szP_app, szP]; omega)) ?_
  rintro _ w3 ⟨rfl, h3⟩
  have H3 := Lib.hid h3
  clear h3 H2
  have hw3 : (65535 : Int) - (n : Int) = ((65535 - n : Nat) : Int) := by omega
  go_wp2_with fail
  refine Calls.mono (numberD_any (v := n) (k := 16) H3.out (by omega) (by decide) (by have := Hm.out; simp only [szP_app, szP]; omega)) ?_
  rintro _ w4 ⟨rfl, h4⟩
  have H4 := Lib.hid h4
  clear h4 H3
  go_wp2_with fail
  refine Calls.mono (numberD_any (v := 65535 - n) (k := 16) H4.out (by omega) (by decide) (by have := Hm.out; simp only [szP_app, szP]; omega)) ?_
  rintro _ w5 ⟨rfl, h5⟩
  have H5 := Lib.hid h5
  clear h5 H4 hw3
  go_wp2_with fail
  go_loopw [26] (fun iv wr => ∃ i : Nat, iv = .int .i64 (i : Int) ∧ i ≤ n ∧ Hid (WrF G W F base B (P ++ [(la, 1)] ++ [(0, 2)] ++ [(0, (8 - szP (P ++ [(la, 1)] ++ [(0, 2)]) % 8) % 8)] ++ [(n, 16)] ++ [(65535 - n, 16)] ++ (bs.take i).map (fun b => (b, 8))) wr)) (fun iv _ => n - (intOf iv).toNat)
  case atStart => exact ⟨0, rfl, Nat.zero_le _, Lib.hid (H5.out.congr (by simp))⟩
  case round =>
    clear H5
    obtain ⟨i, rfl, hi, HW⟩ := hrel
    by_cases hin : i < n
    · have d1 : decide ((i : Int) < (n : Int)) = true := by simp; omega
      have hin' : i < bs.length := by rw [Hn.out]; exact hin
      obtain ⟨g, off, rfl, cx⟩ := HB.out _ HW.out.now i hin'
      have hx := Hby.out i
      have Ht := Lib.hid (take_map8 bs hin')
      have Hsz := Lib.hid (szP_take8 bs (Nat.le_of_lt hin'))
      obtain ⟨x, hxx⟩ : ∃ x, bs.getD i 0 = x := ⟨_, rfl⟩
      rw [hxx] at cx hx Ht
      have i0 : (0 : Int) ≤ (i : Int) := by omega
      have i1 : (i : Int) < (n : Int) := by omega
      have hw1 : IntKind.i64.wrap (x : Int) = (x : Int) := IntWalk.i64_in _ (by omega)
      clear hxx hin'
      go_wp2_with fail
      refine Calls.mono (numberD_any (v := x) (k := 8) HW.out hx (by decide) (by have := Hm.out; have := Hsz.out; simp only [szP_app, szP]; omega)) ?_
      rintro _ w6 ⟨rfl, h6⟩
      have H6 := Lib.hid (h6.congr (List.append_assoc _ _ _))
      rw [← Ht.out] at H6
      clear h6
      go_wp2
      go_roundw
      case rel => exact ⟨i + 1, by go_num, by omega, H6⟩
      case measure => simp [intOf]; omega
    · obtain rfl : i = n := by omega
      have hE : bs.take i = bs := List.take_of_length_le (by rw [Hn.out]; exact Nat.le_refl _)
      rw [hE] at HW
      clear hE
      go_wp2
      go_end0
      refine ⟨rfl, HW.out.congr ?_⟩
      have e := Hn.out
      have e2 := Hla.out
      simp only [List.append_assoc, szP_app, szP, Bn.put, Bn.body, putS, Bn.kind, e, ← e2]
      rfl

end Go.Proofs.YtebfdoipogjpnaaGreat

/- deflate: the stored form. -/
namespace Go.Proofs.YtebfdoipogjpnaaGreat
open Go.RowKit Go.Maps

/-- The blocks of the stored form that are full, so many. -/
def stD (b : List Nat) (j : Nat) : List Bn := (List.range j).map fun i => .st ((b.drop (65535 * i)).take 65535)
theorem stD_succ (b : List Nat) (j : Nat) : stD b (j + 1) = stD b j ++ [.st ((b.drop (65535 * j)).take 65535)] := by
  unfold stD
  rw [List.range_succ, List.map_append]; rfl
/-- How many of them there are. -/
def stJ (n : Nat) : Nat := (n - 1) / 65535
def stB (b : List Nat) : List Bn := stD b (stJ b.length) ++ [.st (b.drop (65535 * stJ b.length))]

theorem stPut_sz (bs : List Nat) (a : Nat) (last : Bool) (h : a % 8 = 0) : szP ((Bn.st bs).put a last) = 8 * bs.length + 40 := by
  have e : szP ((Bn.st bs).put a last) = 3 + szP ((Bn.st bs).body (a + 3)) := by unfold Bn.put; simp only [szP]; omega
  rw [e]
  show 3 + szP (putS (a + 3) bs) = _
  unfold putS; simp only [szP, szP_bys]; omega
theorem stD_tell (b : List Nat) : ∀ j, tellB (stD b j) [] = b.take (65535 * j)
  | 0 => by simp [stD, tellB]
  | j + 1 => by
    rw [stD_succ, tellB_snoc, stD_tell b j]
    show b.take (65535 * j) ++ (b.drop (65535 * j)).take 65535 = _
    rw [Nat.mul_add, Nat.mul_one, List.take_add]
theorem stD_ok {b : List Nat} (hb : ∀ x ∈ b, x < 256) : ∀ j, okB (stD b j) []
  | 0 => trivial
  | j + 1 => by
    rw [stD_succ]
    exact okB_snoc (stD_ok hb j) ⟨by rw [List.length_take]; omega, fun x hx => hb x (List.mem_of_mem_drop (List.mem_of_mem_take hx))⟩
theorem stD_sz (b : List Nat) : ∀ j, 65535 * j ≤ b.length → szP (putF 0 (stD b j)) = 524320 * j
  | 0, _ => rfl
  | j + 1, h => by
    have ih := stD_sz b j (by omega)
    rw [stD_succ, putF_snoc, szP_app, ih, Nat.zero_add, stPut_sz _ _ _ (by omega), List.length_take, List.length_drop]
    omega
theorem stD_put (b : List Nat) (j : Nat) : putF 0 (stD b (j + 1)) = putF 0 (stD b j) ++ (Bn.st ((b.drop (65535 * j)).take 65535)).put (szP (putF 0 (stD b j))) false := by
  rw [stD_succ, putF_snoc, Nat.zero_add]
theorem st_round {n m d j : Nat} (h1 : m + 65535 * j ≤ n) (h2 : n ≤ m + 65535 * j) (h3 : m ≤ d) (h4 : 65535 < m) : m - 65535 + 65535 * (j + 1) ≤ n ∧ n ≤ m - 65535 + 65535 * (j + 1) ∧ m - 65535 ≤ d - 65535 ∧ j + 1 ≤ stJ n := by
  unfold stJ
  refine ⟨by omega, by omega, by omega, by omega⟩
theorem stB_ne (b : List Nat) : stB b ≠ [] := by unfold stB; simp
theorem stB_tell (b : List Nat) : tellB (stB b) [] = b := by
  unfold stB
  rw [tellB_snoc, stD_tell]
  show b.take _ ++ b.drop _ = b
  rw [List.take_append_drop]
theorem stJ_le (n : Nat) : 65535 * stJ n ≤ n ∧ n - 65535 * stJ n ≤ 65535 := by unfold stJ; omega
theorem stB_ok {b : List Nat} (hb : ∀ x ∈ b, x < 256) : okB (stB b) [] :=
  okB_snoc (stD_ok hb _) ⟨by rw [List.length_drop]; exact (stJ_le _).2, fun x hx => hb x (List.mem_of_mem_drop hx)⟩
theorem stB_sz (b : List Nat) : szP (putB 0 (stB b)) = 8 * b.length + 40 * (stJ b.length + 1) := by
  have h := stD_sz b (stJ b.length) (stJ_le _).1
  unfold stB
  rw [putB_snoc, szP_app, h, Nat.zero_add, stPut_sz _ _ _ (by omega), List.length_drop]
  have := stJ_le b.length
  omega

theorem slice_hiD (p : Option Addr) (n c m : Nat) (h : m ≤ c) (w : World) : (Instr.slice 22 (.slice p n c) none (some (.int .i64 (m : Int))) none).run Tryz.prog w = .ok (.slice p m c) w := by
  obtain ⟨i, hi, hz, hs, hb⟩ := info_parts u8_info
  rw [run_slice_h w 22 p n c (by kernel_rfl) .i64 (m : Int) (by omega) (by omega), Int.toNat_natCast]
  simp [go_sem]
theorem slice_loD (g : Nat) (off n c m : Nat) (h : m ≤ n) (hc : m < c) (w : World) : (Instr.slice 22 (.slice (some ⟨g, off, none⟩) n c) (some (.int .i64 (m : Int))) none none).run Tryz.prog w = .ok (.slice (some ⟨g, off + m, none⟩) (n - m) (c - m)) w := by
  obtain ⟨i, hi, hz, hs, hb⟩ := info_parts u8_info
  rw [run_slice_l w 22 (some ⟨g, off, none⟩) n c (by kernel_rfl) .i64 (m : Int) (by omega) (by omega), Int.toNat_natCast]
  have : ¬ c = m := by omega
  simp [go_sem, this, Addr.add]
theorem BsAt.take {w : World} {p : Option Addr} {bs : List Nat} (h : BsAt w p bs) (m : Nat) : BsAt w p (bs.take m) := fun i hi => by
  rw [List.length_take] at hi
  obtain ⟨g, off, e, hc⟩ := h i (by omega)
  refine ⟨g, off, e, ?_⟩
  rw [hc, List.getD_eq_getElem?_getD, List.getD_eq_getElem?_getD, List.getElem?_take, if_pos (by omega)]
theorem BsAt.drop {w : World} {g off m : Nat} {bs : List Nat} (h : BsAt w (some ⟨g, off, none⟩) bs) : BsAt w (some ⟨g, off + m, none⟩) (bs.drop m) := fun i hi => by
  rw [List.length_drop] at hi
  obtain ⟨g', off', e, hc⟩ := h (m + i) (by omega)
  injection e with e
  injection e with e1 e2 _
  subst e1 e2
  refine ⟨g, off + m, rfl, ?_⟩
  rw [Nat.add_assoc, hc, List.getD_eq_getElem?_getD, List.getD_eq_getElem?_getD, List.getElem?_drop]

set_option maxRecDepth 20000 in
set_option maxHeartbeats 8000000 in
theorem tstored_any {G : Nat → Prop} {W : World} {F : World → Prop} {base B : Nat} (p : Option Addr) (c : Nat) (vt : Value) (b : List Nat) (w : World) (h : WrF G W F base B [] w) (hB : ∀ w, F w → BsAt w p b) (hby : ∀ x ∈ b, x < 256) (hl : b.length ≤ 524288) (hc : b.length ≤ c) :
    Calls Tryz.prog 56 #[.agg #[.slice p b.length c, vt], .pointer (some ⟨B, 0, none⟩)] w fun e w' => e = .returned (.tuple #[]) ∧ WrF G W F base B (putB 0 (stB b)) w' := by
  have H := Lib.hid h
  have HB := Lib.hid hB
  have Hby : Hid (∀ i, b.getD i 0 < 256) := Lib.hid (fun i => by
    rw [List.getD_eq_getElem?_getD]
    cases e : b[i]? with
    | none => decide
    | some x => exact hby x (List.mem_of_getElem? e))
  obtain ⟨n, hn⟩ : ∃ n, b.length = n := ⟨_, rfl⟩
  have Hn := Lib.hid hn
  rw [hn] at hl hc ⊢
  clear h hB hby hn
  go_enter Tryz.func56, Tryz.ntmps56
  have H0 := Lib.hid (H.out.below (Below.al1 w (.cells #[.slice p n c, vt] 53)))
  clear H
  go_upto_region 1 with (fail)
  have hx0 : (w.alloc (.cells #[.slice p n c, vt] 53)).cell? ⟨w.heap.size, 0, none⟩ = some (.slice p n c) := cell_heap (World.alloc_heap_new w _) rfl
  generalize w.alloc (.cells #[.slice p n c, vt] 53) = w1 at *
  generalize w.heap.size = b0 at *
  go_wp2_with fail
  go_loopw [4] (fun rv wr => ∃ (j m d : Nat) (q : Option Addr), rv = .slice q m d ∧ m + 65535 * j ≤ n ∧ n ≤ m + 65535 * j ∧ m ≤ d ∧ Hid (∀ w, F w → BsAt w q (b.drop (65535 * j))) ∧ Hid (j ≤ stJ n) ∧ Hid (WrF G W F base B (putF 0 (stD b j)) wr)) (fun rv _ => match rv with | .slice _ m _ => m | _ => 0)
  case atStart => exact ⟨0, n, c, p, rfl, by omega, by omega, hc, Lib.hid (by simpa using HB.out), Lib.hid (Nat.zero_le _), Lib.hid (H0.out.congr rfl)⟩
  case round =>
    clear H0 hx0 hc
    obtain ⟨j, m, d, q, rfl, hj, hm', hd, HQ, HJ, HW⟩ := hrel
    have hlen : (b.drop (65535 * j)).length = m := by rw [List.length_drop, Hn.out]; omega
    have hbd : ∀ k i, ((b.drop k).take 65535).getD i 0 < 256 ∧ (b.drop k).getD i 0 < 256 := fun k i => by
      have h1 : (b.drop k).getD i 0 < 256 := by
        rw [List.getD_eq_getElem?_getD, List.getElem?_drop, ← List.getD_eq_getElem?_getD]
        exact Hby.out _
      refine ⟨?_, h1⟩
      rw [List.getD_eq_getElem?_getD, List.getElem?_take]
      split
      · rwa [List.getD_eq_getElem?_getD] at h1
      · decide
    have hsz := stD_sz b j (by rw [Hn.out]; omega)
    by_cases hgt : 65535 < m
    · have FF := Lib.hid (st_round hj hm' hd hgt)
      have d1 : decide ((m : Int) > 65535) = true := by simp; omega
      obtain ⟨g, off, rfl, -⟩ := HQ.out _ HW.out.now 0 (by rw [hlen]; omega)
      have hsl1 : ∀ w : World, (Instr.slice 22 (.slice (some ⟨g, off, none⟩) m d) none (some (.int .i64 65535)) none).run Tryz.prog w = .ok (.slice (some ⟨g, off, none⟩) 65535 d) w := slice_hiD _ m d 65535 (by omega)
      have hsl2 : ∀ w : World, (Instr.slice 22 (.slice (some ⟨g, off, none⟩) m d) (some (.int .i64 65535)) none none).run Tryz.prog w = .ok (.slice (some ⟨g, off + 65535, none⟩) (m - 65535) (d - 65535)) w := slice_loD g off m d 65535 (by omega) (by omega)
      have hlt : ((b.drop (65535 * j)).take 65535).length = 65535 := by rw [List.length_take, hlen]; omega
      have hcall := sstoredD_any false (some ⟨g, off, none⟩) d ((b.drop (65535 * j)).take 65535) wr HW.out (fun w h => (HQ.out w h).take _) (fun i => (hbd _ i).1) (by rw [hlt]; exact Nat.le_refl _) (by rw [hlt, hsz]; omega)
      rw [hlt] at hcall
      have Hcall := Lib.hid hcall
      have hJ := HJ.out
      clear hcall hlen hbd hsz hlt
      go_wp2_with fail
      refine Calls.mono Hcall.out ?_
      rintro _ w2 ⟨rfl, h2⟩
      have H2 := Lib.hid (h2.congr (stD_put b j).symm)
      clear h2 Hcall
      go_wp2
      go_roundw
      case rel => exact ⟨j + 1, m - 65535, d - 65535, some ⟨g, off + 65535, none⟩, rfl, FF.out.1, FF.out.2.1, FF.out.2.2.1, Lib.hid (fun w h => by
        have := (HQ.out w h).drop (m := 65535)
        rwa [List.drop_drop] at this), Lib.hid FF.out.2.2.2, H2⟩
      case measure => simp; omega
    · have d1 : decide ((m : Int) > 65535) = false := by simp; omega
      have hjJ : j = stJ n := by have := HJ.out; unfold stJ at this ⊢; omega
      have hcall := sstoredD_any true q d (b.drop (65535 * j)) wr HW.out HQ.out (fun i => (hbd _ i).2) (by rw [hlen]; omega) (by rw [hlen, hsz]; omega)
      rw [hlen] at hcall
      have Hcall := Lib.hid hcall
      have Hj := Lib.hid hjJ
      clear hcall hlen hbd hsz hjJ
      go_wp2_with fail
      refine Calls.mono Hcall.out ?_
      rintro _ w2 ⟨rfl, h2⟩
      have H2 := Lib.hid (h2.congr (show _ = putB 0 (stB b) by unfold stB; rw [Hn.out, ← Hj.out, putB_snoc, Nat.zero_add]))
      clear h2 Hcall
      go_wp2
      go_end0
      exact ⟨rfl, H2.out⟩

end Go.Proofs.YtebfdoipogjpnaaGreat
