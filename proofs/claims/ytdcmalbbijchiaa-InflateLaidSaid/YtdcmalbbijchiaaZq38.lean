/- Several texts in one, each with its own head. -/
import Derived.Test.YtdcmalbbijchiaaZq37
import Derived.Test.YtdcmalbbijchiaaZq35
import Derived.Test.YtdcmalbbijchiaaZq33
import Derived.Test.YtdcmalbbijchiaaZq17
/- What tokens tell (plain). Nothing here speaks of a program. -/
namespace Go.Proofs.Ytdcmalbbijchiaa

/-- May this be a token? -/
def Tk.okB (t : Tk) : Bool := if t.n = 0 then decide (t.d = 0) else decide (3 ≤ t.n ∧ t.n ≤ 258 ∧ 1 ≤ t.d ∧ t.d ≤ 32768 ∧ t.b = 0)
/-- So many bytes from so far ahead. -/
def rpt (d : Nat) : Nat → List Nat → List Nat
  | 0, o => o
  | k + 1, o => rpt d k (o ++ [o.getD (o.length - d) 0])
theorem rpt_len (d : Nat) : ∀ k o, (rpt d k o).length = o.length + k
  | 0, o => rfl
  | k + 1, o => by rw [rpt, rpt_len]; simp; omega
/-- What a token tells behind these bytes. -/
def tellT (t : Tk) (o : List Nat) : List Nat := if t.n = 0 then o ++ [t.b] else rpt t.d.toNat t.n.toNat o
/-- What is wrong with a token behind so many bytes. -/
def tkErr (t : Tk) (n : Nat) : Int := if ¬ t.okB ∨ (n : Int) < t.d then 70 else if 524288 < n + t.size then 2 else 0
theorem tellT_len (t : Tk) (o : List Nat) (h : t.okB) : (tellT t o).length = o.length + t.size := by
  unfold tellT Tk.size
  unfold Tk.okB at h
  split
  · rename_i h0; rw [h0]; simp
  · rename_i h0; rw [rpt_len]; simp [h0] at h; omega
/-- The bytes that tokens tell behind others, and what is wrong. -/
def xp : List Tk → List Nat → List Nat × Int
  | [], o => (o, 0)
  | t :: r, o => if tkErr t o.length = 0 then xp r (tellT t o) else ([], tkErr t o.length)
theorem xp_cons_ok {t : Tk} {r : List Tk} {o : List Nat} (h : tkErr t o.length = 0) : xp (t :: r) o = xp r (tellT t o) := by rw [xp, if_pos h]
theorem xp_cons_bad {t : Tk} {r : List Tk} {o : List Nat} (h : tkErr t o.length ≠ 0) : xp (t :: r) o = ([], tkErr t o.length) := by rw [xp, if_neg h]
theorem xp_append : ∀ (l r : List Tk) (o : List Nat), xp (l ++ r) o = if (xp l o).2 = 0 then xp r (xp l o).1 else xp l o
  | [], r, o => by simp [xp]
  | t :: l, r, o => by
    rw [List.cons_append]
    by_cases h : tkErr t o.length = 0
    · rw [xp_cons_ok h, xp_cons_ok h, xp_append l r]
    · rw [xp_cons_bad h, xp_cons_bad h, if_neg h]
theorem xp_bad : ∀ (l : List Tk) (o : List Nat), (xp l o).2 ≠ 0 → (xp l o).1 = []
  | [], o, h => absurd rfl h
  | t :: l, o, h => by
    by_cases h' : tkErr t o.length = 0
    · rw [xp_cons_ok h'] at h ⊢; exact xp_bad l _ h
    · rw [xp_cons_bad h']
theorem tkErr_ok {t : Tk} {n : Nat} (h : tkErr t n = 0) : t.okB = true ∧ t.d ≤ (n : Int) ∧ n + t.size ≤ 524288 := by
  unfold tkErr at h
  split at h
  · omega
  · rename_i h1
    split at h
    · omega
    · simp at h1; exact ⟨h1.1, by omega, by omega⟩
theorem xp_len : ∀ (l : List Tk) (o : List Nat), o.length ≤ 524288 → (xp l o).1.length ≤ 524288
  | [], o, h => h
  | t :: l, o, h => by
    by_cases h' : tkErr t o.length = 0
    · rw [xp_cons_ok h']
      refine xp_len l _ ?_
      rw [tellT_len _ _ (tkErr_ok h').1]
      exact (tkErr_ok h').2.2
    · rw [xp_cons_bad h']; simp
/-- It goes on from bytes that are there. -/
theorem rpt_pre (d : Nat) : ∀ k o, o <+: rpt d k o
  | 0, _ => List.prefix_refl _
  | k + 1, _ => (List.prefix_append _ _).trans (rpt_pre d k _)
theorem tellT_pre (t : Tk) (o : List Nat) : o <+: tellT t o := by
  unfold tellT
  split
  · exact List.prefix_append _ _
  · exact rpt_pre _ _ _
theorem xp_pre : ∀ (l : List Tk) (o : List Nat), (xp l o).2 = 0 → o <+: (xp l o).1
  | [], o, _ => List.prefix_refl _
  | t :: l, o, h => by
    by_cases h' : tkErr t o.length = 0
    · rw [xp_cons_ok h'] at h ⊢; exact (tellT_pre t o).trans (xp_pre l _ h)
    · rw [xp_cons_bad h'] at h; exact absurd h h'
theorem xp_take (l : List Tk) (n : Nat) (h : (xp l []).2 = 0) : (xp (l.take n) []).2 = 0 ∧ (xp (l.take n) []).1 <+: (xp l []).1 := by
  have e : xp l [] = xp (l.take n ++ l.drop n) [] := by rw [List.take_append_drop]
  rw [e, xp_append] at h ⊢
  by_cases h' : (xp (l.take n) []).2 = 0
  · rw [if_pos h'] at h ⊢
    exact ⟨h', xp_pre _ _ h⟩
  · rw [if_neg h'] at h; exact absurd h h'
theorem xp_byte : ∀ (l : List Tk) (o : List Nat), (∀ b ∈ o, b < 256) → (∀ t ∈ l, t.b < 256) → ∀ b ∈ (xp l o).1, b < 256
  | [], o, h, _ => h
  | t :: l, o, h, h2 => by
    by_cases h' : tkErr t o.length = 0
    · rw [xp_cons_ok h']
      refine xp_byte l _ ?_ (fun t ht => h2 t (by simp [ht]))
      unfold tellT
      split
      · intro b hb
        rcases List.mem_append.1 hb with hb | hb
        · exact h b hb
        · simp at hb; rw [hb]; exact h2 t (by simp)
      · have key : ∀ k o, (∀ b ∈ o, b < 256) → ∀ b ∈ rpt t.d.toNat k o, b < 256 := by
          intro k
          induction k with
          | zero => intro o h; exact h
          | succ k ih =>
            intro o h
            refine ih _ (fun b hb => ?_)
            rcases List.mem_append.1 hb with hb | hb
            · exact h b hb
            · simp only [List.mem_singleton] at hb
              rw [hb, List.getD_eq_getElem?_getD]
              cases hq : o[o.length - t.d.toNat]? with
              | none => simp
              | some x => exact h x (List.mem_of_getElem? hq)
        exact key _ _ h
    · rw [xp_cons_bad h']; intro b hb; cases hb

/-- Bytes as a function. -/
def fb (l : List Nat) : Nat → Nat := fun i => l.getD i 0
theorem fb_at {l : List Nat} {i : Nat} (h : i < l.length) : fb l i = l[i] := by simp [fb, List.getD_eq_getElem?_getD, List.getElem?_eq_getElem h]
theorem fb_lt {l : List Nat} (h : ∀ b ∈ l, b < 256) (i : Nat) : fb l i < 256 := by
  unfold fb
  rw [List.getD_eq_getElem?_getD]
  cases hq : l[i]? with
  | none => simp
  | some x => exact h x (List.mem_of_getElem? hq)
/-- A run tells its bytes. -/
theorem rpt_run {l : List Nat} {a d : Nat} (h1 : 1 ≤ d) (h2 : d ≤ a) : ∀ {n : Nat}, a + n ≤ l.length → (∀ j, j < n → fb l (a + j) = fb l (a + j - d)) → rpt d n (l.take a) = l.take (a + n) := by
  intro n
  induction n generalizing a with
  | zero => intro _ _; rfl
  | succ n ih =>
    intro ha hr
    have hla : (l.take a).length = a := by rw [List.length_take]; omega
    have e : (l.take a).getD (a - d) 0 = l[a]'(by omega) := by
      rw [List.getD_eq_getElem?_getD, List.getElem?_take, if_pos (by omega)]
      have := hr 0 (by omega)
      rw [Nat.add_zero, fb_at (by omega)] at this
      rw [this]
      simp [fb, List.getD_eq_getElem?_getD]
    rw [rpt, hla, e, ← List.take_succ_eq_append_getElem (by omega)]
    rw [ih (a := a + 1) (by omega) (by omega) (fun j hj => ?_)]
    · rw [show a + 1 + n = a + (n + 1) by omega]
    · have := hr (j + 1) (by omega)
      rw [show a + 1 + j = a + (j + 1) by omega]; exact this
theorem IsTok.okB {f : Nat → Nat} {N a : Nat} {t : Tk} (h : IsTok f N a t) : t.okB = true ∧ t.d ≤ (a : Int) := by
  rcases h with ⟨rfl, -⟩ | ⟨n, d, rfl, h1, h2, h3, h4, h5, -⟩
  · simp [Tk.okB]
  · have := h5.le
    unfold mo at this
    refine ⟨?_, by simpa using h4⟩
    unfold Tk.okB
    rw [if_neg (by simp; omega)]
    simp; omega
theorem IsTok.tell {l : List Nat} {a : Nat} {t : Tk} (h : IsTok (fb l) l.length a t) (ha : a < l.length) : tellT t (l.take a) = l.take (a + t.size) := by
  have hf := h.fits ha
  rcases h with ⟨rfl, -⟩ | ⟨n, d, rfl, h1, h2, h3, h4, h5, -⟩
  · simp only [tellT, if_true]
    rw [fb_at ha, ← List.take_succ_eq_append_getElem ha]
    rfl
  · have hs : Tk.size ⟨0, (n : Int), (d : Int)⟩ = n := by simp [Tk.size]; omega
    rw [hs] at hf ⊢
    have := rpt_run (l := l) h2 h4 hf h5.eq
    unfold tellT
    rw [if_neg (by simp; omega)]
    exact this
/-- The tokens of bytes tell them. -/
theorem ToksTo.tell {l : List Nat} (hl : l.length ≤ 524288) {a : Nat} {ts : List Tk} (h : ToksTo (fb l) l.length a ts) : xp ts [] = (l.take a, 0) := by
  induction h with
  | nil => simp [xp]
  | @snoc a t ts h ha ht ih =>
    rw [xp_append, ih, if_pos rfl]
    have hla : (l.take a).length = a := by rw [List.length_take]; omega
    have hf := ht.fits ha
    have he : tkErr t (l.take a).length = 0 := by
      rw [hla]
      unfold tkErr
      rw [if_neg (by simp [ht.okB.1]; exact ht.okB.2), if_neg (by omega)]
    simp only
    rw [xp_cons_ok he, ht.tell ha]
    rfl
theorem Toks.tell {l : List Nat} (hl : l.length ≤ 524288) {ts : List Tk} (h : Toks (fb l) l.length 0 ts) : xp ts [] = (l, 0) := by
  have key : ∀ n, n ≤ ts.length → ∃ a, ToksTo (fb l) l.length a (ts.take n) := by
    intro n
    induction n with
    | zero => intro _; exact ⟨0, .nil⟩
    | succ n ih =>
      intro hn
      obtain ⟨a, h1, h2, h3, h4⟩ := h.at (i := n) (by omega)
      exact ⟨_, h4⟩
  obtain ⟨a, ha⟩ := key ts.length (Nat.le_refl _)
  rw [List.take_length] at ha
  rw [ha.tell hl, h.end ha, List.take_length]

end Go.Proofs.Ytdcmalbbijchiaa

/- inflate, plainly: what lz's tokens tell, as laid tokens tell it. -/
namespace Go.Proofs.Ytdcmalbbijchiaa

/-- A token of lz as one that is laid. -/
def tn (t : Tk) : Tn := ⟨t.b, t.n.toNat, t.d.toNat⟩
theorem rpt_ext (d : Nat) : ∀ (k : Nat) (o : List Nat), rpt d k o = ext d k o
  | 0, _ => rfl
  | k + 1, o => by rw [rpt, ext, rpt_ext d k]
theorem okB_nn {t : Tk} (h : t.okB = true) : (t.n = 0 ↔ t.n.toNat = 0) := by
  unfold Tk.okB at h
  split at h
  · rename_i h0; simp [h0]
  · rename_i h0; simp at h; omega
theorem tn_tell {t : Tk} (h : t.okB = true) (o : List Nat) : (tn t).tell o = tellT t o := by
  have e := okB_nn h
  unfold Tn.tell tellT
  by_cases h0 : t.n = 0
  · rw [if_pos h0, if_pos (show (tn t).n = 0 from e.1 h0)]; rfl
  · rw [if_neg h0, if_neg (show ¬ (tn t).n = 0 from fun h => h0 (e.2 h)), rpt_ext]; rfl
theorem tkErr_zero {t : Tk} {n : Nat} (h : tkErr t n = 0) : t.okB = true ∧ t.d ≤ (n : Int) ∧ n + t.size ≤ 524288 := by
  unfold tkErr at h
  split at h
  · cases h
  · rename_i h1
    split at h
    · cases h
    · rename_i h2
      refine ⟨?_, by omega, by omega⟩
      cases e : t.okB with
      | true => rfl
      | false => exact absurd (Or.inl (by simp [e])) h1
theorem xp_told : ∀ {ts : List Tk} {o : List Nat}, (xp ts o).2 = 0 → (xp ts o).1 = toldT (ts.map tn) o
  | [], _, _ => rfl
  | t :: r, o, h => by
    by_cases e : tkErr t o.length = 0
    · rw [xp_cons_ok e] at h ⊢
      obtain ⟨h1, -⟩ := tkErr_zero e
      rw [List.map_cons, toldT, tn_tell h1]
      exact xp_told h
    · rw [xp_cons_bad e] at h
      exact absurd h e
/-- Its symbols have codes. -/
def codT (A D : List Nat) (t : Tk) : Prop :=
  (t.n = 0 → t.b < 256 ∧ t.b < A.length ∧ 0 < lq A t.b) ∧
  (t.n ≠ 0 → lnSym t.n.toNat < A.length ∧ 0 < lq A (lnSym t.n.toNat) ∧ dsSym t.d.toNat < D.length ∧ 0 < lq D (dsSym t.d.toNat))
theorem xp_may {A D : List Nat} : ∀ {ts : List Tk} {o : List Nat}, (xp ts o).2 = 0 → (∀ t ∈ ts, codT A D t) → mayT A D (ts.map tn) o
  | [], _, _, _ => trivial
  | t :: r, o, h, hc => by
    by_cases e : tkErr t o.length = 0
    · rw [xp_cons_ok e] at h
      obtain ⟨h1, h2, -⟩ := tkErr_zero e
      have hr := xp_may (A := A) (D := D) h (fun x hx => hc x (List.mem_cons_of_mem _ hx))
      obtain ⟨c1, c2⟩ := hc t List.mem_cons_self
      have en := okB_nn h1
      refine ⟨⟨fun h0 => c1 (en.2 h0), fun h0 => ?_⟩, by rw [tn_tell h1]; exact hr⟩
      have hn : t.n ≠ 0 := fun h => h0 (en.1 h)
      have hk : t.okB = decide (3 ≤ t.n ∧ t.n ≤ 258 ∧ 1 ≤ t.d ∧ t.d ≤ 32768 ∧ t.b = 0) := if_neg hn
      rw [h1] at hk
      have hk := of_decide_eq_true hk.symm
      obtain ⟨x1, x2, x3, x4⟩ := c2 hn
      refine ⟨?_, ?_, ?_, ?_, ?_, x1, x2, x3, x4⟩ <;> simp only [tn] <;> omega
    · rw [xp_cons_bad e] at h
      exact absurd h e

theorem ext_pre (d : Nat) : ∀ (n : Nat) (o : List Nat), ∃ z, ext d n o = o ++ z
  | 0, o => ⟨[], by simp [ext]⟩
  | n + 1, o => by
    obtain ⟨z, hz⟩ := ext_pre d n (o ++ [o.getD (o.length - d) 0])
    exact ⟨[o.getD (o.length - d) 0] ++ z, by rw [ext, hz, List.append_assoc]⟩
theorem told_pre : ∀ (ts : List Tn) (o : List Nat), ∃ z, toldT ts o = o ++ z
  | [], o => ⟨[], by simp [toldT]⟩
  | t :: r, o => by
    obtain ⟨z1, h1⟩ : ∃ z, t.tell o = o ++ z := by
      unfold Tn.tell
      split
      · exact ⟨_, rfl⟩
      · exact ext_pre _ _ _
    obtain ⟨z2, h2⟩ := told_pre r (t.tell o)
    exact ⟨z1 ++ z2, by rw [toldT, h2, h1, List.append_assoc]⟩
theorem ext_byte {d : Nat} : ∀ {n : Nat} {o : List Nat}, (∀ b ∈ o, b < 256) → ∀ b ∈ ext d n o, b < 256
  | 0, _, h => h
  | n + 1, o, h => ext_byte (n := n) (fun b hb => by
      rcases List.mem_append.1 hb with hb | hb
      · exact h b hb
      · rw [List.mem_singleton.1 hb, List.getD_eq_getElem?_getD]
        cases e : o[o.length - d]? with
        | none => decide
        | some x => exact h x (List.mem_of_getElem? e))
theorem told_byte : ∀ {ts : List Tn} {o : List Nat}, (∀ b ∈ o, b < 256) → (∀ t ∈ ts, t.n = 0 → t.b < 256) → ∀ b ∈ toldT ts o, b < 256
  | [], _, h, _ => h
  | t :: r, o, h, ht => told_byte (ts := r) (o := t.tell o) (by
      unfold Tn.tell
      split
      · rename_i h0
        intro b hb
        rcases List.mem_append.1 hb with hb | hb
        · exact h b hb
        · rw [List.mem_singleton.1 hb]; exact ht t List.mem_cons_self h0
      · exact ext_byte h) (fun x hx => ht x (List.mem_cons_of_mem _ hx))

end Go.Proofs.Ytdcmalbbijchiaa

/- Lengths that are best for frequencies make a code (plain; nothing of the document's own answers). -/
namespace Go.Proofs.Ytdcmalbbijchiaa
open Go.RowKit

/-- Lengths as a list. -/
def gl (g : Nat → Nat) (N : Nat) : List Nat := (List.range N).map g
theorem gl_len (g : Nat → Nat) (N : Nat) : (gl g N).length = N := by simp [gl]
theorem gl_at (g : Nat → Nat) {N i : Nat} (hi : i < N) : lq (gl g N) i = g i := by
  unfold lq gl
  rw [List.getD_eq_getElem?_getD, List.getElem?_map, List.getElem?_range hi]; rfl
theorem gl_row (g : Nat → Nat) (N : Nat) : lensRow g N = (gl g N).map u8v := by simp [lensRow, gl]

theorem many_same {f g : Nat → Nat} : ∀ {n : Nat}, (∀ i, i < n → (0 < f i ↔ 0 < g i)) → many n f = many n g
  | 0, _ => rfl
  | n + 1, h => by
    rw [many_succ, many_succ, many_same (fun i hi => h i (by omega))]
    have := h n (by omega)
    by_cases h0 : 0 < f n
    · rw [if_pos h0, if_pos (this.1 h0)]
    · rw [if_neg h0, if_neg (fun h => h0 (this.2 h))]
theorem room_same {L : Nat} {f g : Nat → Nat} : ∀ {n : Nat}, (∀ i, i < n → f i = g i) → room n L f = room n L g
  | 0, _ => rfl
  | n + 1, h => by rw [room_succ, room_succ, room_same (fun i hi => h i (by omega)), h n (by omega)]
theorem room_one {f : Nat → Nat} : ∀ {n : Nat}, (∀ i, i < n → f i ≤ 1) → room n 15 f = many n f * 16384
  | 0, _ => by simp [room, many, sm]
  | n + 1, h => by
    rw [room_succ, many_succ, room_one (fun i hi => h i (by omega)), Nat.add_mul]
    have := h n (by omega)
    by_cases h0 : 0 < f n
    · have e : f n = 1 := by omega
      have e2 : 2 ^ (15 - f n) = 16384 := by rw [e]
      rw [if_pos h0, if_pos h0, e2]
    · rw [if_neg h0, if_neg h0, Nat.zero_mul]
theorem room_up {L : Nat} (hL : L ≤ 15) {l : Nat → Nat} : ∀ {n : Nat}, (∀ i, i < n → l i ≤ L) → room n 15 l = room n L l * 2 ^ (15 - L)
  | 0, _ => by simp [sm, room]
  | n + 1, h => by
    have h1 := room_up hL (n := n) (fun i hi => h i (by omega))
    have h2 := h n (by omega)
    rw [room_succ, room_succ, h1, Nat.add_mul]
    by_cases h0 : 0 < l n
    · rw [if_pos h0, if_pos h0, ← Nat.pow_add, show L - l n + (15 - L) = 15 - l n by omega]
    · rw [if_neg h0, if_neg h0, Nat.zero_mul]

theorem lens_chk {fs : List Int} {L : Nat} {g : Nat → Nat} (h : LensOk fs L g) (hL : L ≤ 15) (hN : fs.length ≤ 320) : chk (gl g fs.length) = 0 := by
  have hle : ∀ i, i < fs.length → g i ≤ L := fun i hi => (h.le i hi).1
  have hm : many fs.length (lq (gl g fs.length)) = many fs.length (fq fs) := by
    refine many_same fun i hi => ?_
    rw [gl_at g hi]; exact (h.le i hi).2
  have hr : room fs.length 15 (lq (gl g fs.length)) = room fs.length 15 g := room_same fun i hi => gl_at g hi
  rw [chk_rest (by rw [gl_len]; exact hN) (fun i hi => by rw [gl_len] at hi; rw [gl_at g hi]; have := hle i hi; omega), gl_len, hm, hr, if_pos]
  by_cases h0 : many fs.length (fq fs) = 0
  · exact .inl h0
  by_cases h1 : many fs.length (fq fs) = 1
  · refine .inr (.inr ⟨h1, ?_⟩)
    rw [room_one (h.one h1), many_same (f := g) (g := fq fs) (fun i hi => (h.le i hi).2), h1]
  · refine .inr (.inl ?_)
    rw [room_up hL hle, h.code (by omega), ← Nat.pow_add, show L + (15 - L) = 15 by omega]

end Go.Proofs.Ytdcmalbbijchiaa
