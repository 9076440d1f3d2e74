/- What tokens tell (plain). Nothing here speaks of a program. -/
import Derived.Test.YtngiiacibbgiiaaLzA
namespace Go.Proofs.Ytngiiacibbgiiaa

/-- May this be a token? -/
def Tk.okB (t : Tk) : Bool := if t.n = 0 then decide (t.d = 0) else decide (3 ≤ t.n ∧ t.n ≤ 258 ∧ 1 ≤ t.d ∧ t.d ≤ 32768 ∧ t.b = 0)
/-- So many bytes from so far ahead. -/
def rpt (d : Nat) : Nat → List Nat → List Nat
  | 0, o => o
  | k + 1, o => rpt d k (o ++ [o.getD (o.length - d) 0])
theorem rpt_len (d : Nat) : ∀ k o, (rpt d k o).length = o.length + k
  | 0, o => rfl
  | k + 1, o => by rw [rpt, rpt_len]; simp; omega
/-- What a token tells behind these bytes. -/
def tellT (t : Tk) (o : List Nat) : List Nat := if t.n = 0 then o ++ [t.b] else rpt t.d.toNat t.n.toNat o
/-- What is wrong with a token behind so many bytes. -/
def tkErr (t : Tk) (n : Nat) : Int := if ¬ t.okB ∨ (n : Int) < t.d then 70 else if 524288 < n + t.size then 2 else 0
theorem tellT_len (t : Tk) (o : List Nat) (h : t.okB) : (tellT t o).length = o.length + t.size := by
  unfold tellT Tk.size
  unfold Tk.okB at h
  split
  · rename_i h0; rw [h0]; simp
  · rename_i h0; rw [rpt_len]; simp [h0] at h; omega
/-- The bytes that tokens tell behind others, and what is wrong. -/
def xp : List Tk → List Nat → List Nat × Int
  | [], o => (o, 0)
  | t :: r, o => if tkErr t o.length = 0 then xp r (tellT t o) else ([], tkErr t o.length)
theorem xp_cons_ok {t : Tk} {r : List Tk} {o : List Nat} (h : tkErr t o.length = 0) : xp (t :: r) o = xp r (tellT t o) := by rw [xp, if_pos h]
theorem xp_cons_bad {t : Tk} {r : List Tk} {o : List Nat} (h : tkErr t o.length ≠ 0) : xp (t :: r) o = ([], tkErr t o.length) := by rw [xp, if_neg h]
theorem xp_append : ∀ (l r : List Tk) (o : List Nat), xp (l ++ r) o = if (xp l o).2 = 0 then xp r (xp l o).1 else xp l o
  | [], r, o => by simp [xp]
  | t :: l, r, o => by
    rw [List.cons_append]
    by_cases h : tkErr t o.length = 0
    · rw [xp_cons_ok h, xp_cons_ok h, xp_append l r]
    · rw [xp_cons_bad h, xp_cons_bad h, if_neg h]
theorem xp_bad : ∀ (l : List Tk) (o : List Nat), (xp l o).2 ≠ 0 → (xp l o).1 = []
  | [], o, h => absurd rfl h
  | t :: l, o, h => by
    by_cases h' : tkErr t o.length = 0
    · rw [xp_cons_ok h'] at h ⊢; exact xp_bad l _ h
    · rw [xp_cons_bad h']
theorem tkErr_ok {t : Tk} {n : Nat} (h : tkErr t n = 0) : t.okB = true ∧ t.d ≤ (n : Int) ∧ n + t.size ≤ 524288 := by
  unfold tkErr at h
  split at h
  · omega
  · rename_i h1
    split at h
    · omega
    · simp at h1; exact ⟨h1.1, by omega, by omega⟩
theorem xp_len : ∀ (l : List Tk) (o : List Nat), o.length ≤ 524288 → (xp l o).1.length ≤ 524288
  | [], o, h => h
  | t :: l, o, h => by
    by_cases h' : tkErr t o.length = 0
    · rw [xp_cons_ok h']
      refine xp_len l _ ?_
      rw [tellT_len _ _ (tkErr_ok h').1]
      exact (tkErr_ok h').2.2
    · rw [xp_cons_bad h']; simp
/-- It goes on from bytes that are there. -/
theorem rpt_pre (d : Nat) : ∀ k o, o <+: rpt d k o
  | 0, _ => List.prefix_refl _
  | k + 1, _ => (List.prefix_append _ _).trans (rpt_pre d k _)
theorem tellT_pre (t : Tk) (o : List Nat) : o <+: tellT t o := by
  unfold tellT
  split
  · exact List.prefix_append _ _
  · exact rpt_pre _ _ _
theorem xp_pre : ∀ (l : List Tk) (o : List Nat), (xp l o).2 = 0 → o <+: (xp l o).1
  | [], o, _ => List.prefix_refl _
  | t :: l, o, h => by
    by_cases h' : tkErr t o.length = 0
    · rw [xp_cons_ok h'] at h ⊢; exact (tellT_pre t o).trans (xp_pre l _ h)
    · rw [xp_cons_bad h'] at h; exact absurd h h'
theorem xp_take (l : List Tk) (n : Nat) (h : (xp l []).2 = 0) : (xp (l.take n) []).2 = 0 ∧ (xp (l.take n) []).1 <+: (xp l []).1 := by
  have e : xp l [] = xp (l.take n ++ l.drop n) [] := by rw [List.take_append_drop]
  rw [e, xp_append] at h ⊢
  by_cases h' : (xp (l.take n) []).2 = 0
  · rw [if_pos h'] at h ⊢
    exact ⟨h', xp_pre _ _ h⟩
  · rw [if_neg h'] at h; exact absurd h h'
theorem xp_byte : ∀ (l : List Tk) (o : List Nat), (∀ b ∈ o, b < 256) → (∀ t ∈ l, t.b < 256) → ∀ b ∈ (xp l o).1, b < 256
  | [], o, h, _ => h
  | t :: l, o, h, h2 => by
    by_cases h' : tkErr t o.length = 0
    · rw [xp_cons_ok h']
      refine xp_byte l _ ?_ (fun t ht => h2 t (by simp [ht]))
      unfold tellT
      split
      · intro b hb
        rcases List.mem_append.1 hb with hb | hb
        · exact h b hb
        · simp at hb; rw [hb]; exact h2 t (by simp)
      · have key : ∀ k o, (∀ b ∈ o, b < 256) → ∀ b ∈ rpt t.d.toNat k o, b < 256 := by
          intro k
          induction k with
          | zero => intro o h; exact h
          | succ k ih =>
            intro o h
            refine ih _ (fun b hb => ?_)
            rcases List.mem_append.1 hb with hb | hb
            · exact h b hb
            · simp only [List.mem_singleton] at hb
              rw [hb, List.getD_eq_getElem?_getD]
              cases hq : o[o.length - t.d.toNat]? with
              | none => simp
              | some x => exact h x (List.mem_of_getElem? hq)
        exact key _ _ h
    · rw [xp_cons_bad h']; intro b hb; cases hb

/-- Bytes as a function. -/
def fb (l : List Nat) : Nat → Nat := fun i => l.getD i 0
theorem fb_at {l : List Nat} {i : Nat} (h : i < l.length) : fb l i = l[i] := by simp [fb, List.getD_eq_getElem?_getD, List.getElem?_eq_getElem h]
theorem fb_lt {l : List Nat} (h : ∀ b ∈ l, b < 256) (i : Nat) : fb l i < 256 := by
  unfold fb
  rw [List.getD_eq_getElem?_getD]
  cases hq : l[i]? with
  | none => simp
  | some x => exact h x (List.mem_of_getElem? hq)
/-- A run tells its bytes. -/
theorem rpt_run {l : List Nat} {a d : Nat} (h1 : 1 ≤ d) (h2 : d ≤ a) : ∀ {n : Nat}, a + n ≤ l.length → (∀ j, j < n → fb l (a + j) = fb l (a + j - d)) → rpt d n (l.take a) = l.take (a + n) := by
  intro n
  induction n generalizing a with
  | zero => intro _ _; rfl
  | succ n ih =>
    intro ha hr
    have hla : (l.take a).length = a := by rw [List.length_take]; omega
    have e : (l.take a).getD (a - d) 0 = l[a]'(by omega) := by
      rw [List.getD_eq_getElem?_getD, List.getElem?_take, if_pos (by omega)]
      have := hr 0 (by omega)
      rw [Nat.add_zero, fb_at (by omega)] at this
      rw [this]
      simp [fb, List.getD_eq_getElem?_getD]
    rw [rpt, hla, e, ← List.take_succ_eq_append_getElem (by omega)]
    rw [ih (a := a + 1) (by omega) (by omega) (fun j hj => ?_)]
    · rw [show a + 1 + n = a + (n + 1) by omega]
    · have := hr (j + 1) (by omega)
      rw [show a + 1 + j = a + (j + 1) by omega]; exact this
theorem IsTok.okB {f : Nat → Nat} {N a : Nat} {t : Tk} (h : IsTok f N a t) : t.okB = true ∧ t.d ≤ (a : Int) := by
  rcases h with ⟨rfl, -⟩ | ⟨n, d, rfl, h1, h2, h3, h4, h5, -⟩
  · simp [Tk.okB]
  · have := h5.le
    unfold mo at this
    refine ⟨?_, by simpa using h4⟩
    unfold Tk.okB
    rw [if_neg (by simp; omega)]
    simp; omega
theorem IsTok.tell {l : List Nat} {a : Nat} {t : Tk} (h : IsTok (fb l) l.length a t) (ha : a < l.length) : tellT t (l.take a) = l.take (a + t.size) := by
  have hf := h.fits ha
  rcases h with ⟨rfl, -⟩ | ⟨n, d, rfl, h1, h2, h3, h4, h5, -⟩
  · simp only [tellT, if_true]
    rw [fb_at ha, ← List.take_succ_eq_append_getElem ha]
    rfl
  · have hs : Tk.size ⟨0, (n : Int), (d : Int)⟩ = n := by simp [Tk.size]; omega
    rw [hs] at hf ⊢
    have := rpt_run (l := l) h2 h4 hf h5.eq
    unfold tellT
    rw [if_neg (by simp; omega)]
    exact this
/-- The tokens of bytes tell them. -/
theorem ToksTo.tell {l : List Nat} (hl : l.length ≤ 524288) {a : Nat} {ts : List Tk} (h : ToksTo (fb l) l.length a ts) : xp ts [] = (l.take a, 0) := by
  induction h with
  | nil => simp [xp]
  | @snoc a t ts h ha ht ih =>
    rw [xp_append, ih, if_pos rfl]
    have hla : (l.take a).length = a := by rw [List.length_take]; omega
    have hf := ht.fits ha
    have he : tkErr t (l.take a).length = 0 := by
      rw [hla]
      unfold tkErr
      rw [if_neg (by simp [ht.okB.1]; exact ht.okB.2), if_neg (by omega)]
    simp only
    rw [xp_cons_ok he, ht.tell ha]
    rfl
theorem Toks.tell {l : List Nat} (hl : l.length ≤ 524288) {ts : List Tk} (h : Toks (fb l) l.length 0 ts) : xp ts [] = (l, 0) := by
  have key : ∀ n, n ≤ ts.length → ∃ a, ToksTo (fb l) l.length a (ts.take n) := by
    intro n
    induction n with
    | zero => intro _; exact ⟨0, .nil⟩
    | succ n ih =>
      intro hn
      obtain ⟨a, h1, h2, h3, h4⟩ := h.at (i := n) (by omega)
      exact ⟨_, h4⟩
  obtain ⟨a, ha⟩ := key ts.length (Nat.le_refl _)
  rw [List.take_length] at ha
  rw [ha.tell hl, h.end ha, List.take_length]

end Go.Proofs.Ytngiiacibbgiiaa
