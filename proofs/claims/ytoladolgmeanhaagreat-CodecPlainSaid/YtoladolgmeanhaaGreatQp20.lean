/- Several texts in one, each with its own head. -/
import Derived.Test.YtoladolgmeanhaaGreatQp19
import Derived.Test.YtoladolgmeanhaaGreatQp18
import Derived.Test.YtoladolgmeanhaaGreatQp10
/- What tokens tell (plain). Nothing here speaks of a program. -/
namespace Go.Proofs.YtoladolgmeanhaaGreat

def Tk.okB (t : Tk) : Bool := if t.n = 0 then decide (t.d = 0) else decide (3 ≤ t.n ∧ t.n ≤ 258 ∧ 1 ≤ t.d ∧ t.d ≤ 32768 ∧ t.b = 0)
def rpt (d : Nat) : Nat → List Nat → List Nat
  | 0, o => o
  | k + 1, o => rpt d k (o ++ [o.getD (o.length - d) 0])
theorem rpt_len (d : Nat) : ∀ k o, (rpt d k o).length = o.length + k
  | 0, o => rfl
  | k + 1, o => by rw [rpt, rpt_len]; simp; omega
def tellT (t : Tk) (o : List Nat) : List Nat := if t.n = 0 then o ++ [t.b] else rpt t.d.toNat t.n.toNat o
def tkErr (t : Tk) (n : Nat) : Int := if ¬ t.okB ∨ (n : Int) < t.d then 70 else if 524288 < n + t.size then 2 else 0
theorem tellT_len (t : Tk) (o : List Nat) (h : t.okB) : (tellT t o).length = o.length + t.size := by
  unfold tellT Tk.size
  unfold Tk.okB at h
  split
  · rename_i h0; rw [h0]; simp
  · rename_i h0; rw [rpt_len]; simp [h0] at h; omega
def xp : List Tk → List Nat → List Nat × Int
  | [], o => (o, 0)
  | t :: r, o => if tkErr t o.length = 0 then xp r (tellT t o) else ([], tkErr t o.length)
theorem xp_cons_ok {t : Tk} {r : List Tk} {o : List Nat} (h : tkErr t o.length = 0) : xp (t :: r) o = xp r (tellT t o) := by rw [xp, if_pos h]
theorem xp_cons_bad {t : Tk} {r : List Tk} {o : List Nat} (h : tkErr t o.length ≠ 0) : xp (t :: r) o = ([], tkErr t o.length) := by rw [xp, if_neg h]
theorem xp_append : ∀ (l r : List Tk) (o : List Nat), xp (l ++ r) o = if (xp l o).2 = 0 then xp r (xp l o).1 else xp l o
  | [], r, o => by simp [xp]
  | t :: l, r, o => by
    rw [List.cons_append]
    by_cases h : tkErr t o.length = 0
    · rw [xp_cons_ok h, xp_cons_ok h, xp_append l r]
    · rw [xp_cons_bad h, xp_cons_bad h, if_neg h]
theorem tkErr_ok {t : Tk} {n : Nat} (h : tkErr t n = 0) : t.okB = true ∧ t.d ≤ (n : Int) ∧ n + t.size ≤ 524288 := by
  unfold tkErr at h
  split at h
  · omega
  · rename_i h1
    split at h
    · omega
    · simp at h1; exact ⟨h1.1, by omega, by omega⟩
def fb (l : List Nat) : Nat → Nat := fun i => l.getD i 0
theorem fb_at {l : List Nat} {i : Nat} (h : i < l.length) : fb l i = l[i] := by simp [fb, List.getD_eq_getElem?_getD, List.getElem?_eq_getElem h]
theorem fb_lt {l : List Nat} (h : ∀ b ∈ l, b < 256) (i : Nat) : fb l i < 256 := by
  unfold fb
  rw [List.getD_eq_getElem?_getD]
  cases hq : l[i]? with
  | none => simp
  | some x => exact h x (List.mem_of_getElem? hq)
theorem rpt_run {l : List Nat} {a d : Nat} (h1 : 1 ≤ d) (h2 : d ≤ a) : ∀ {n : Nat}, a + n ≤ l.length → (∀ j, j < n → fb l (a + j) = fb l (a + j - d)) → rpt d n (l.take a) = l.take (a + n) := by
  intro n
  induction n generalizing a with
  | zero => intro _ _; rfl
  | succ n ih =>
    intro ha hr
    have hla : (l.take a).length = a := by rw [List.length_take]; omega
    have e : (l.take a).getD (a - d) 0 = l[a]'(by omega) := by
      rw [List.getD_eq_getElem?_getD, List.getElem?_take, if_pos (by omega)]
      have := hr 0 (by omega)
      rw [Nat.add_zero, fb_at (by omega)] at this
      rw [this]
      simp [fb, List.getD_eq_getElem?_getD]
    rw [rpt, hla, e, ← List.take_succ_eq_append_getElem (by omega)]
    rw [ih (a := a + 1) (by omega) (by omega) (fun j hj => ?_)]
    · rw [show a + 1 + n = a + (n + 1) by omega]
    · have := hr (j + 1) (by omega)
      rw [show a + 1 + j = a + (j + 1) by omega]; exact this
theorem IsTok.okB {f : Nat → Nat} {N a : Nat} {t : Tk} (h : IsTok f N a t) : t.okB = true ∧ t.d ≤ (a : Int) := by
  rcases h with ⟨rfl, -⟩ | ⟨n, d, rfl, h1, h2, h3, h4, h5, -⟩
  · simp [Tk.okB]
  · have := h5.le
    unfold mo at this
    refine ⟨?_, by simpa using h4⟩
    unfold Tk.okB
    rw [if_neg (by simp; omega)]
    simp; omega
theorem IsTok.tell {l : List Nat} {a : Nat} {t : Tk} (h : IsTok (fb l) l.length a t) (ha : a < l.length) : tellT t (l.take a) = l.take (a + t.size) := by
  have hf := h.fits ha
  rcases h with ⟨rfl, -⟩ | ⟨n, d, rfl, h1, h2, h3, h4, h5, -⟩
  · simp only [tellT, if_true]
    rw [fb_at ha, ← List.take_succ_eq_append_getElem ha]
    rfl
  · have hs : Tk.size ⟨0, (n : Int), (d : Int)⟩ = n := by simp [Tk.size]; omega
    rw [hs] at hf ⊢
    have := rpt_run (l := l) h2 h4 hf h5.eq
    unfold tellT
    rw [if_neg (by simp; omega)]
    exact this
theorem ToksTo.tell {l : List Nat} (hl : l.length ≤ 524288) {a : Nat} {ts : List Tk} (h : ToksTo (fb l) l.length a ts) : xp ts [] = (l.take a, 0) := by
  induction h with
  | nil => simp [xp]
  | @snoc a t ts h ha ht ih =>
    rw [xp_append, ih, if_pos rfl]
    have hla : (l.take a).length = a := by rw [List.length_take]; omega
    have hf := ht.fits ha
    have he : tkErr t (l.take a).length = 0 := by
      rw [hla]
      unfold tkErr
      rw [if_neg (by simp [ht.okB.1]; exact ht.okB.2), if_neg (by omega)]
    simp only
    rw [xp_cons_ok he, ht.tell ha]
    rfl
theorem Toks.tell {l : List Nat} (hl : l.length ≤ 524288) {ts : List Tk} (h : Toks (fb l) l.length 0 ts) : xp ts [] = (l, 0) := by
  have key : ∀ n, n ≤ ts.length → ∃ a, ToksTo (fb l) l.length a (ts.take n) := by
    intro n
    induction n with
    | zero => intro _; exact ⟨0, .nil⟩
    | succ n ih =>
      intro hn
      obtain ⟨a, h1, h2, h3, h4⟩ := h.at (i := n) (by omega)
      exact ⟨_, h4⟩
  obtain ⟨a, ha⟩ := key ts.length (Nat.le_refl _)
  rw [List.take_length] at ha
  rw [ha.tell hl, h.end ha, List.take_length]
end Go.Proofs.YtoladolgmeanhaaGreat

/- inflate, plainly: what lz's tokens tell, as laid tokens tell it. -/
namespace Go.Proofs.YtoladolgmeanhaaGreat

def tn (t : Tk) : Tn := ⟨t.b, t.n.toNat, t.d.toNat⟩
theorem okB_nn {t : Tk} (h : t.okB = true) : (t.n = 0 ↔ t.n.toNat = 0) := by
  unfold Tk.okB at h
  split at h
  · rename_i h0; simp [h0]
  · rename_i h0; simp at h; omega
theorem tkErr_zero {t : Tk} {n : Nat} (h : tkErr t n = 0) : t.okB = true ∧ t.d ≤ (n : Int) ∧ n + t.size ≤ 524288 := by
  unfold tkErr at h
  split at h
  · cases h
  · rename_i h1
    split at h
    · cases h
    · rename_i h2
      refine ⟨?_, by omega, by omega⟩
      cases e : t.okB with
      | true => rfl
      | false => exact absurd (Or.inl (by simp [e])) h1
def codT (A D : List Nat) (t : Tk) : Prop :=
  (t.n = 0 → t.b < 256 ∧ t.b < A.length ∧ 0 < lq A t.b) ∧
  (t.n ≠ 0 → lnSym t.n.toNat < A.length ∧ 0 < lq A (lnSym t.n.toNat) ∧ dsSym t.d.toNat < D.length ∧ 0 < lq D (dsSym t.d.toNat))
theorem ext_byte {d : Nat} : ∀ {n : Nat} {o : List Nat}, (∀ b ∈ o, b < 256) → ∀ b ∈ ext d n o, b < 256
  | 0, _, h => h
  | n + 1, o, h => ext_byte (n := n) (fun b hb => by
      rcases List.mem_append.1 hb with hb | hb
      · exact h b hb
      · rw [List.mem_singleton.1 hb, List.getD_eq_getElem?_getD]
        cases e : o[o.length - d]? with
        | none => decide
        | some x => exact h x (List.mem_of_getElem? e))
end Go.Proofs.YtoladolgmeanhaaGreat

/- Lengths that are best for frequencies make a code (plain; nothing of the document's own answers). -/
namespace Go.Proofs.YtoladolgmeanhaaGreat
open Go.RowKit

def gl (g : Nat → Nat) (N : Nat) : List Nat := (List.range N).map g
theorem gl_len (g : Nat → Nat) (N : Nat) : (gl g N).length = N := by simp [gl]
theorem gl_at (g : Nat → Nat) {N i : Nat} (hi : i < N) : lq (gl g N) i = g i := by
  unfold lq gl
  rw [List.getD_eq_getElem?_getD, List.getElem?_map, List.getElem?_range hi]; rfl
theorem gl_row (g : Nat → Nat) (N : Nat) : lensRow g N = (gl g N).map u8v := by simp [lensRow, gl]
theorem many_same {f g : Nat → Nat} : ∀ {n : Nat}, (∀ i, i < n → (0 < f i ↔ 0 < g i)) → many n f = many n g
  | 0, _ => rfl
  | n + 1, h => by
    rw [many_succ, many_succ, many_same (fun i hi => h i (by omega))]
    have := h n (by omega)
    by_cases h0 : 0 < f n
    · rw [if_pos h0, if_pos (this.1 h0)]
    · rw [if_neg h0, if_neg (fun h => h0 (this.2 h))]
theorem room_same {L : Nat} {f g : Nat → Nat} : ∀ {n : Nat}, (∀ i, i < n → f i = g i) → room n L f = room n L g
  | 0, _ => rfl
  | n + 1, h => by rw [room_succ, room_succ, room_same (fun i hi => h i (by omega)), h n (by omega)]
theorem room_one {f : Nat → Nat} : ∀ {n : Nat}, (∀ i, i < n → f i ≤ 1) → room n 15 f = many n f * 16384
  | 0, _ => by simp [room, many, sm]
  | n + 1, h => by
    rw [room_succ, many_succ, room_one (fun i hi => h i (by omega)), Nat.add_mul]
    have := h n (by omega)
    by_cases h0 : 0 < f n
    · have e : f n = 1 := by omega
      have e2 : 2 ^ (15 - f n) = 16384 := by rw [e]
      rw [if_pos h0, if_pos h0, e2]
    · rw [if_neg h0, if_neg h0, Nat.zero_mul]
theorem room_up {L : Nat} (hL : L ≤ 15) {l : Nat → Nat} : ∀ {n : Nat}, (∀ i, i < n → l i ≤ L) → room n 15 l = room n L l * 2 ^ (15 - L)
  | 0, _ => by simp [sm, room]
  | n + 1, h => by
    have h1 := room_up hL (n := n) (fun i hi => h i (by omega))
    have h2 := h n (by omega)
    rw [room_succ, room_succ, h1, Nat.add_mul]
    by_cases h0 : 0 < l n
    · rw [if_pos h0, if_pos h0, ← Nat.pow_add, show L - l n + (15 - L) = 15 - l n by omega]
    · rw [if_neg h0, if_neg h0, Nat.zero_mul]
theorem lens_chk {fs : List Int} {L : Nat} {g : Nat → Nat} (h : LensOk fs L g) (hL : L ≤ 15) (hN : fs.length ≤ 320) : chk (gl g fs.length) = 0 := by
  have hle : ∀ i, i < fs.length → g i ≤ L := fun i hi => (h.le i hi).1
  have hm : many fs.length (lq (gl g fs.length)) = many fs.length (fq fs) := by
    refine many_same fun i hi => ?_
    rw [gl_at g hi]; exact (h.le i hi).2
  have hr : room fs.length 15 (lq (gl g fs.length)) = room fs.length 15 g := room_same fun i hi => gl_at g hi
  rw [chk_rest (by rw [gl_len]; exact hN) (fun i hi => by rw [gl_len] at hi; rw [gl_at g hi]; have := hle i hi; omega), gl_len, hm, hr, if_pos]
  by_cases h0 : many fs.length (fq fs) = 0
  · exact .inl h0
  by_cases h1 : many fs.length (fq fs) = 1
  · refine .inr (.inr ⟨h1, ?_⟩)
    rw [room_one (h.one h1), many_same (f := g) (g := fq fs) (fun i hi => (h.le i hi).2), h1]
  · refine .inr (.inl ?_)
    rw [room_up hL hle, h.code (by omega), ← Nat.pow_add, show L + (15 - L) = 15 by omega]
end Go.Proofs.YtoladolgmeanhaaGreat

/- inflate, plainly: how often tokens have each symbol, and that best lengths for that give all of them codes; blocks that are laid from the left. -/
namespace Go.Proofs.YtoladolgmeanhaaGreat
open Go.RowKit

def symA (t : Tk) : Nat := if t.n = 0 then t.b else lnSym t.n.toNat
def symD (t : Tk) : Nat := dsSym t.d.toNat
def cA (ts : List Tk) (i : Nat) : Nat := (if i = 256 then 1 else 0) + (ts.filter fun t => decide (symA t = i)).length
def cD (ts : List Tk) (i : Nat) : Nat := (ts.filter fun t => decide (t.n ≠ 0 ∧ symD t = i)).length
def ctL (f : Nat → Nat) (n : Nat) : List Int := (List.range n).map fun i => (f i : Int)
theorem ctL_len (f : Nat → Nat) (n : Nat) : (ctL f n).length = n := by simp [ctL]
theorem ctL_fq (f : Nat → Nat) {n i : Nat} (h : i < n) : fq (ctL f n) i = f i := by
  unfold fq ctL
  rw [List.getD_eq_getElem?_getD, List.getElem?_map, List.getElem?_range h]
  simp
theorem ctL_may {f : Nat → Nat} {n : Nat} (hn : n ≤ 320) (h : ∀ i, f i ≤ 1000000) : mayB (ctL f n) 15 = true := by
  unfold mayB
  rw [Bool.and_eq_true]
  refine ⟨by rw [ctL_len]; simp; omega, List.all_eq_true.2 fun x hx => ?_⟩
  obtain ⟨i, -, rfl⟩ := List.mem_map.1 hx
  have := h i
  unfold okF
  simp; omega
theorem fix_cod {t : Tk} (h1 : t.okB = true) (h2 : t.b < 256) : codT fixA fixD t := by
  have en := okB_nn h1
  have fa : ∀ i, i < 288 → i < fixA.length ∧ 0 < lq fixA i := by decide +kernel
  have fd : ∀ i, i < 32 → i < fixD.length ∧ 0 < lq fixD i := by decide +kernel
  refine ⟨fun h0 => ⟨h2, fa _ (by omega)⟩, fun h0 => ?_⟩
  have hk : t.okB = decide (3 ≤ t.n ∧ t.n ≤ 258 ∧ 1 ≤ t.d ∧ t.d ≤ 32768 ∧ t.b = 0) := if_neg h0
  rw [h1] at hk
  have hk := of_decide_eq_true hk.symm
  obtain ⟨s1, s2, -⟩ := lnSym_ok t.n.toNat (by omega) (by omega)
  obtain ⟨r1, -⟩ := dsSym_ok (d := t.d.toNat) (by omega) (by omega)
  exact ⟨(fa _ (by omega)).1, (fa _ (by omega)).2, fd _ (by omega)⟩
def putF : Nat → List Bn → Pt
  | _, [] => []
  | a, b :: r => b.put a false ++ putF (a + szP (b.put a false)) r
theorem putF_snoc : ∀ (a : Nat) (bs : List Bn) (b : Bn), putF a (bs ++ [b]) = putF a bs ++ b.put (a + szP (putF a bs)) false
  | a, [], b => by simp [putF, szP]
  | a, x :: r, b => by
    rw [List.cons_append, putF, putF, putF_snoc, List.append_assoc, szP_app, Nat.add_assoc]
theorem putB_snoc : ∀ (a : Nat) (bs : List Bn) (b : Bn), putB a (bs ++ [b]) = putF a bs ++ b.put (a + szP (putF a bs)) true
  | a, [], b => by simp [putF, putB, szP]
  | a, x :: r, b => by
    have e : (r ++ [b]).isEmpty = false := by cases r <;> rfl
    rw [List.cons_append, putB, putF, e, putB_snoc, List.append_assoc, szP_app, Nat.add_assoc]
theorem lnBits_lo : ∀ x, x < 286 → lnBits x ≤ 5 := by decide +kernel
theorem dsBits_lo : ∀ x, x < 30 → dsBits x ≤ 13 := by decide +kernel
theorem lq_15 {ls : List Nat} (h : chk ls = 0) (i : Nat) : lq ls i ≤ 15 := by
  by_cases hi : i < ls.length
  · exact (chk_zero h).2.1 i hi
  · unfold lq
    rw [List.getD_eq_getElem?_getD, List.getElem?_eq_none (by omega)]
    decide
def Bn.few (n m : Nat) : Bn → Prop
  | .st bs => bs.length ≤ n
  | .fx ts => ts.length ≤ m
  | .dy _ _ ts => ts.length ≤ m
end Go.Proofs.YtoladolgmeanhaaGreat

/- deflate: number, head and stored of a stream that is written; the stored form. -/
namespace Go.Proofs.YtoladolgmeanhaaGreat
open Go.RowKit Go.Maps

set_option maxHeartbeats 2000000 in
theorem numberD_any {G : Nat → Prop} {W : World} {F : World → Prop} {base B v k : Nat} {P : Pt} {w : World} (h : WrF G W F base B P w) (hv : v < 2 ^ k) (hk : k ≤ 24) (hmax : szP P + k ≤ 8388608) :
    Calls Tryz.prog 108 #[.pointer (some ⟨B, 0, none⟩), .int .i64 (v : Int), .int .i64 (k : Int)] w fun e w' => e = .returned (.tuple #[]) ∧ WrF G W F base B (P ++ [(v, k)]) w' := by
  have hv24 : v < 16777216 := Nat.lt_of_lt_of_le hv (Nat.le_trans (Nat.pow_le_pow_right (n := 2) (by omega) hk) (by decide))
  have hw : IntKind.u32.wrap (v : Int) = (v : Int) := IntWalk.u32_in _ (by omega)
  have H := Lib.hid (h.put hv hk hmax)
  clear h hv
  go_enter Tryz.func108, Tryz.ntmps108
  go_wp2_with fail
  refine Calls.mono H.out ?_
  rintro _ w1 ⟨rfl, h1⟩
  have H1 := Lib.hid h1
  clear h1 H
  go_wp2
  go_end0
  exact ⟨rfl, H1.out⟩
set_option maxHeartbeats 2000000 in
theorem headD_any {G : Nat → Prop} {W : World} {F : World → Prop} {base B kind : Nat} {P : Pt} {w : World} (last : Bool) (h : WrF G W F base B P w) (hk : kind < 4) (hmax : szP P + 3 ≤ 8388608) :
    Calls Tryz.prog 79 #[.pointer (some ⟨B, 0, none⟩), .bool last, .int .i64 (kind : Int)] w fun e w' => e = .returned (.tuple #[]) ∧ WrF G W F base B (P ++ [(if last then 1 else 0, 1)] ++ [(kind, 2)]) w' := by
  have H := Lib.hid h
  have Hm := Lib.hid hmax
  have Hk := Lib.hid hk
  clear h hmax hk
  cases last
  · go_enter Tryz.func79, Tryz.ntmps79
    go_wp2_with fail
    refine Calls.mono (numberD_any (v := 0) (k := 1) H.out (by decide) (by decide) (by have := Hm.out; omega)) ?_
    rintro _ w1 ⟨rfl, h1⟩
    have H1 := Lib.hid h1
    clear h1 H
    go_wp2_with fail
    refine Calls.mono (numberD_any (v := kind) (k := 2) H1.out (by have := Hk.out; omega) (by decide) (by have := Hm.out; simp only [szP_app, szP]; omega)) ?_
    rintro _ w2 ⟨rfl, h2⟩
    have H2 := Lib.hid h2
    clear h2 H1
    go_wp2
    go_end0
    exact ⟨rfl, H2.out.congr (by simp)⟩
  · go_enter Tryz.func79, Tryz.ntmps79
    go_wp2_with fail
    refine Calls.mono (numberD_any (v := 1) (k := 1) H.out (by decide) (by decide) (by have := Hm.out; omega)) ?_
    rintro _ w1 ⟨rfl, h1⟩
    have H1 := Lib.hid h1
    clear h1 H
    go_wp2_with fail
    refine Calls.mono (numberD_any (v := kind) (k := 2) H1.out (by have := Hk.out; omega) (by decide) (by have := Hm.out; simp only [szP_app, szP]; omega)) ?_
    rintro _ w2 ⟨rfl, h2⟩
    have H2 := Lib.hid h2
    clear h2 H1
    go_wp2
    go_end0
    exact ⟨rfl, H2.out.congr (by simp)⟩
def BsAt (w : World) (p : Option Addr) (bs : List Nat) : Prop := ∀ i (_ : i < bs.length), ∃ g off, p = some ⟨g, off, none⟩ ∧ w.cell? ⟨g, off + i, none⟩ = some (.int .u8 ((bs.getD i 0 : Nat) : Int))
theorem take_map8 (bs : List Nat) {i : Nat} (hi : i < bs.length) : (bs.take (i + 1)).map (fun b => ((b, 8) : Nat × Nat)) = (bs.take i).map (fun b => (b, 8)) ++ [(bs.getD i 0, 8)] := by
  rw [List.take_succ_eq_append_getElem hi, List.map_append, List.getD_eq_getElem?_getD, List.getElem?_eq_getElem hi]; rfl
theorem szP_take8 (bs : List Nat) {i : Nat} (hi : i ≤ bs.length) : szP ((bs.take i).map (fun b => ((b, 8) : Nat × Nat))) = 8 * i := by
  rw [szP_bys, List.length_take, Nat.min_eq_left hi]
set_option maxRecDepth 20000 in
set_option maxHeartbeats 8000000 in
theorem sstoredD_any {G : Nat → Prop} {W : World} {F : World → Prop} {base B : Nat} {P : Pt} (last : Bool) (p : Option Addr) (c : Nat) (bs : List Nat) (w : World) (h : WrF G W F base B P w) (hB : ∀ w, F w → BsAt w p bs) (hby : ∀ i, bs.getD i 0 < 256) (hl : bs.length ≤ 65535) (hm : szP P + 8 * bs.length + 50 ≤ 8388608) :
    Calls Tryz.prog 78 #[.pointer (some ⟨B, 0, none⟩), .bool last, .slice p bs.length c] w fun e w' => e = .returned (.tuple #[]) ∧ WrF G W F base B (P ++ (Bn.st bs).put (szP P) last) w' := by
  have H := Lib.hid h
  have HB := Lib.hid hB
  have Hby := Lib.hid hby
  obtain ⟨n, hn⟩ : ∃ n, bs.length = n := ⟨_, rfl⟩
  have Hn := Lib.hid hn
  rw [hn] at hl hm ⊢
  have Hm := Lib.hid hm
  obtain ⟨la, hla⟩ : ∃ la, (if last then 1 else 0 : Nat) = la := ⟨_, rfl⟩
  have Hla := Lib.hid hla
  have hh := headD_any (kind := 0) last h (by decide) (by omega)
  rw [hla] at hh
  have Hh := Lib.hid hh
  clear h hB hby hm hn hh hla
  go_enter Tryz.func78, Tryz.ntmps78
  go_wp2_with fail
  refine Calls.mono Hh.out ?_
  rintro _ w2 ⟨rfl, h2⟩
  have H2 := Lib.hid h2
  clear h2 H Hh
  go_wp2_with fail
  refine Calls.mono (H2.out.align (by have := Hm.out; simp only [szP_app, szP]; omega)) ?_
  rintro _ w3 ⟨rfl, h3⟩
  have H3 := Lib.hid h3
  clear h3 H2
  have hw3 : (65535 : Int) - (n : Int) = ((65535 - n : Nat) : Int) := by omega
  go_wp2_with fail
  refine Calls.mono (numberD_any (v := n) (k := 16) H3.out (by omega) (by decide) (by have := Hm.out; simp only [szP_app, szP]; omega)) ?_
  rintro _ w4 ⟨rfl, h4⟩
  have H4 := Lib.hid h4
  clear h4 H3
  go_wp2_with fail
  refine Calls.mono (numberD_any (v := 65535 - n) (k := 16) H4.out (by omega) (by decide) (by have := Hm.out; simp only [szP_app, szP]; omega)) ?_
  rintro _ w5 ⟨rfl, h5⟩
  have H5 := Lib.hid h5
  clear h5 H4 hw3
  go_wp2_with fail
  go_loopw [26] (fun iv wr => ∃ i : Nat, iv = .int .i64 (i : Int) ∧ i ≤ n ∧ Hid (WrF G W F base B (P ++ [(la, 1)] ++ [(0, 2)] ++ [(0, (8 - szP (P ++ [(la, 1)] ++ [(0, 2)]) % 8) % 8)] ++ [(n, 16)] ++ [(65535 - n, 16)] ++ (bs.take i).map (fun b => (b, 8))) wr)) (fun iv _ => n - (intOf iv).toNat)
  case atStart => exact ⟨0, rfl, Nat.zero_le _, Lib.hid (H5.out.congr (by simp))⟩
  case round =>
    clear H5
    obtain ⟨i, rfl, hi, HW⟩ := hrel
    by_cases hin : i < n
    · have d1 : decide ((i : Int) < (n : Int)) = true := by simp; omega
      have hin' : i < bs.length := by rw [Hn.out]; exact hin
      obtain ⟨g, off, rfl, cx⟩ := HB.out _ HW.out.now i hin'
      have hx := Hby.out i
      have Ht := Lib.hid (take_map8 bs hin')
      have Hsz := Lib.hid (szP_take8 bs (Nat.le_of_lt hin'))
      obtain ⟨x, hxx⟩ : ∃ x, bs.getD i 0 = x := ⟨_, rfl⟩
      rw [hxx] at cx hx Ht
      have i0 : (0 : Int) ≤ (i : Int) := by omega
      have i1 : (i : Int) < (n : Int) := by omega
      have hw1 : IntKind.i64.wrap (x : Int) = (x : Int) := IntWalk.i64_in _ (by omega)
      clear hxx hin'
      go_wp2_with fail
      refine Calls.mono (numberD_any (v := x) (k := 8) HW.out hx (by decide) (by have := Hm.out; have := Hsz.out; simp only [szP_app, szP]; omega)) ?_
      rintro _ w6 ⟨rfl, h6⟩
      have H6 := Lib.hid (h6.congr (List.append_assoc _ _ _))
      rw [← Ht.out] at H6
      clear h6
      go_wp2
      go_roundw
      case rel => exact ⟨i + 1, by go_num, by omega, H6⟩
      case measure => simp [intOf]; omega
    · obtain rfl : i = n := by omega
      have hE : bs.take i = bs := List.take_of_length_le (by rw [Hn.out]; exact Nat.le_refl _)
      rw [hE] at HW
      clear hE
      go_wp2
      go_end0
      refine ⟨rfl, HW.out.congr ?_⟩
      have e := Hn.out
      have e2 := Hla.out
      simp only [List.append_assoc, szP_app, szP, Bn.put, Bn.body, putS, Bn.kind, e, ← e2]
      rfl
end Go.Proofs.YtoladolgmeanhaaGreat

/- deflate: the stored form. -/
namespace Go.Proofs.YtoladolgmeanhaaGreat
open Go.RowKit Go.Maps

def stD (b : List Nat) (j : Nat) : List Bn := (List.range j).map fun i => .st ((b.drop (65535 * i)).take 65535)
theorem stD_succ (b : List Nat) (j : Nat) : stD b (j + 1) = stD b j ++ [.st ((b.drop (65535 * j)).take 65535)] := by
  unfold stD
  rw [List.range_succ, List.map_append]; rfl
def stJ (n : Nat) : Nat := (n - 1) / 65535
def stB (b : List Nat) : List Bn := stD b (stJ b.length) ++ [.st (b.drop (65535 * stJ b.length))]
theorem stPut_sz (bs : List Nat) (a : Nat) (last : Bool) (h : a % 8 = 0) : szP ((Bn.st bs).put a last) = 8 * bs.length + 40 := by
  have e : szP ((Bn.st bs).put a last) = 3 + szP ((Bn.st bs).body (a + 3)) := by unfold Bn.put; simp only [szP]; omega
  rw [e]
  show 3 + szP (putS (a + 3) bs) = _
  unfold putS; simp only [szP, szP_bys]; omega
theorem stD_sz (b : List Nat) : ∀ j, 65535 * j ≤ b.length → szP (putF 0 (stD b j)) = 524320 * j
  | 0, _ => rfl
  | j + 1, h => by
    have ih := stD_sz b j (by omega)
    rw [stD_succ, putF_snoc, szP_app, ih, Nat.zero_add, stPut_sz _ _ _ (by omega), List.length_take, List.length_drop]
    omega
theorem stD_put (b : List Nat) (j : Nat) : putF 0 (stD b (j + 1)) = putF 0 (stD b j) ++ (Bn.st ((b.drop (65535 * j)).take 65535)).put (szP (putF 0 (stD b j))) false := by
  rw [stD_succ, putF_snoc, Nat.zero_add]
theorem st_round {n m d j : Nat} (h1 : m + 65535 * j ≤ n) (h2 : n ≤ m + 65535 * j) (h3 : m ≤ d) (h4 : 65535 < m) : m - 65535 + 65535 * (j + 1) ≤ n ∧ n ≤ m - 65535 + 65535 * (j + 1) ∧ m - 65535 ≤ d - 65535 ∧ j + 1 ≤ stJ n := by
  unfold stJ
  refine ⟨by omega, by omega, by omega, by omega⟩
theorem slice_hiD (p : Option Addr) (n c m : Nat) (h : m ≤ c) (w : World) : (Instr.slice 25 (.slice p n c) none (some (.int .i64 (m : Int))) none).run Tryz.prog w = .ok (.slice p m c) w := by
  obtain ⟨i, hi, hz, hs, hb⟩ := info_parts u8_info
  rw [run_slice_h w 25 p n c (by kernel_rfl) .i64 (m : Int) (by omega) (by omega), Int.toNat_natCast]
  simp [go_sem]
theorem slice_loD (g : Nat) (off n c m : Nat) (h : m ≤ n) (hc : m < c) (w : World) : (Instr.slice 25 (.slice (some ⟨g, off, none⟩) n c) (some (.int .i64 (m : Int))) none none).run Tryz.prog w = .ok (.slice (some ⟨g, off + m, none⟩) (n - m) (c - m)) w := by
  obtain ⟨i, hi, hz, hs, hb⟩ := info_parts u8_info
  rw [run_slice_l w 25 (some ⟨g, off, none⟩) n c (by kernel_rfl) .i64 (m : Int) (by omega) (by omega), Int.toNat_natCast]
  have : ¬ c = m := by omega
  simp [go_sem, this, Addr.add]
theorem BsAt.take {w : World} {p : Option Addr} {bs : List Nat} (h : BsAt w p bs) (m : Nat) : BsAt w p (bs.take m) := fun i hi => by
  rw [List.length_take] at hi
  obtain ⟨g, off, e, hc⟩ := h i (by omega)
  refine ⟨g, off, e, ?_⟩
  rw [hc, List.getD_eq_getElem?_getD, List.getD_eq_getElem?_getD, List.getElem?_take, if_pos (by omega)]
theorem BsAt.drop {w : World} {g off m : Nat} {bs : List Nat} (h : BsAt w (some ⟨g, off, none⟩) bs) : BsAt w (some ⟨g, off + m, none⟩) (bs.drop m) := fun i hi => by
  rw [List.length_drop] at hi
  obtain ⟨g', off', e, hc⟩ := h (m + i) (by omega)
  injection e with e
  injection e with e1 e2 _
  subst e1 e2
  refine ⟨g, off + m, rfl, ?_⟩
  rw [Nat.add_assoc, hc, List.getD_eq_getElem?_getD, List.getD_eq_getElem?_getD, List.getElem?_drop]
set_option maxRecDepth 20000 in
set_option maxHeartbeats 8000000 in
theorem tstored_any {G : Nat → Prop} {W : World} {F : World → Prop} {base B : Nat} (p : Option Addr) (c : Nat) (vt : Value) (b : List Nat) (w : World) (h : WrF G W F base B [] w) (hB : ∀ w, F w → BsAt w p b) (hby : ∀ x ∈ b, x < 256) (hl : b.length ≤ 524288) (hc : b.length ≤ c) :
    Calls Tryz.prog 43 #[.agg #[.slice p b.length c, vt], .pointer (some ⟨B, 0, none⟩)] w fun e w' => e = .returned (.tuple #[]) ∧ WrF G W F base B (putB 0 (stB b)) w' := by
  have H := Lib.hid h
  have HB := Lib.hid hB
  have Hby : Hid (∀ i, b.getD i 0 < 256) := Lib.hid (fun i => by
    rw [List.getD_eq_getElem?_getD]
    cases e : b[i]? with
    | none => decide
    | some x => exact hby x (List.mem_of_getElem? e))
  obtain ⟨n, hn⟩ : ∃ n, b.length = n := ⟨_, rfl⟩
  have Hn := Lib.hid hn
  rw [hn] at hl hc ⊢
  clear h hB hby hn
  go_enter Tryz.func43, Tryz.ntmps43
  have H0 := Lib.hid (H.out.below (Below.al1 w (.cells #[.slice p n c, vt] 53)))
  clear H
  go_upto_region 1 with (fail)
  have hx0 : (w.alloc (.cells #[.slice p n c, vt] 53)).cell? ⟨w.heap.size, 0, none⟩ = some (.slice p n c) := cell_heap (World.alloc_heap_new w _) rfl
  generalize w.alloc (.cells #[.slice p n c, vt] 53) = w1 at *
  generalize w.heap.size = b0 at *
  go_wp2_with fail
  go_loopw [4] (fun rv wr => ∃ (j m d : Nat) (q : Option Addr), rv = .slice q m d ∧ m + 65535 * j ≤ n ∧ n ≤ m + 65535 * j ∧ m ≤ d ∧ Hid (∀ w, F w → BsAt w q (b.drop (65535 * j))) ∧ Hid (j ≤ stJ n) ∧ Hid (WrF G W F base B (putF 0 (stD b j)) wr)) (fun rv _ => match rv with | .slice _ m _ => m | _ => 0)
  case atStart => exact ⟨0, n, c, p, rfl, by omega, by omega, hc, Lib.hid (by simpa using HB.out), Lib.hid (Nat.zero_le _), Lib.hid (H0.out.congr rfl)⟩
  case round =>
    clear H0 hx0 hc
    obtain ⟨j, m, d, q, rfl, hj, hm', hd, HQ, HJ, HW⟩ := hrel
    have hlen : (b.drop (65535 * j)).length = m := by rw [List.length_drop, Hn.out]; omega
    have hbd : ∀ k i, ((b.drop k).take 65535).getD i 0 < 256 ∧ (b.drop k).getD i 0 < 256 := fun k i => by
      have h1 : (b.drop k).getD i 0 < 256 := by
        rw [List.getD_eq_getElem?_getD, List.getElem?_drop, ← List.getD_eq_getElem?_getD]
        exact Hby.out _
      refine ⟨?_, h1⟩
      rw [List.getD_eq_getElem?_getD, List.getElem?_take]
      split
      · rwa [List.getD_eq_getElem?_getD] at h1
      · decide
    have hsz := stD_sz b j (by rw [Hn.out]; omega)
    by_cases hgt : 65535 < m
    · have FF := Lib.hid (st_round hj hm' hd hgt)
      have d1 : decide ((m : Int) > 65535) = true := by simp; omega
      obtain ⟨g, off, rfl, -⟩ := HQ.out _ HW.out.now 0 (by rw [hlen]; omega)
      have hsl1 : ∀ w : World, (Instr.slice 25 (.slice (some ⟨g, off, none⟩) m d) none (some (.int .i64 65535)) none).run Tryz.prog w = .ok (.slice (some ⟨g, off, none⟩) 65535 d) w := slice_hiD _ m d 65535 (by omega)
      have hsl2 : ∀ w : World, (Instr.slice 25 (.slice (some ⟨g, off, none⟩) m d) (some (.int .i64 65535)) none none).run Tryz.prog w = .ok (.slice (some ⟨g, off + 65535, none⟩) (m - 65535) (d - 65535)) w := slice_loD g off m d 65535 (by omega) (by omega)
      have hlt : ((b.drop (65535 * j)).take 65535).length = 65535 := by rw [List.length_take, hlen]; omega
      have hcall := sstoredD_any false (some ⟨g, off, none⟩) d ((b.drop (65535 * j)).take 65535) wr HW.out (fun w h => (HQ.out w h).take _) (fun i => (hbd _ i).1) (by rw [hlt]; exact Nat.le_refl _) (by rw [hlt, hsz]; omega)
      rw [hlt] at hcall
      have Hcall := Lib.hid hcall
      have hJ := HJ.out
      clear hcall hlen hbd hsz hlt
      go_wp2_with fail
      refine Calls.mono Hcall.out ?_
      rintro _ w2 ⟨rfl, h2⟩
      have H2 := Lib.hid (h2.congr (stD_put b j).symm)
      clear h2 Hcall
      go_wp2
      go_roundw
      case rel => exact ⟨j + 1, m - 65535, d - 65535, some ⟨g, off + 65535, none⟩, rfl, FF.out.1, FF.out.2.1, FF.out.2.2.1, Lib.hid (fun w h => by
        have := (HQ.out w h).drop (m := 65535)
        rwa [List.drop_drop] at this), Lib.hid FF.out.2.2.2, H2⟩
      case measure => simp; omega
    · have d1 : decide ((m : Int) > 65535) = false := by simp; omega
      have hjJ : j = stJ n := by have := HJ.out; unfold stJ at this ⊢; omega
      have hcall := sstoredD_any true q d (b.drop (65535 * j)) wr HW.out HQ.out (fun i => (hbd _ i).2) (by rw [hlen]; omega) (by rw [hlen, hsz]; omega)
      rw [hlen] at hcall
      have Hcall := Lib.hid hcall
      have Hj := Lib.hid hjJ
      clear hcall hlen hbd hsz hjJ
      go_wp2_with fail
      refine Calls.mono Hcall.out ?_
      rintro _ w2 ⟨rfl, h2⟩
      have H2 := Lib.hid (h2.congr (show _ = putB 0 (stB b) by unfold stB; rw [Hn.out, ← Hj.out, putB_snoc, Nat.zero_add]))
      clear h2 Hcall
      go_wp2
      go_end0
      exact ⟨rfl, H2.out⟩
end Go.Proofs.YtoladolgmeanhaaGreat
