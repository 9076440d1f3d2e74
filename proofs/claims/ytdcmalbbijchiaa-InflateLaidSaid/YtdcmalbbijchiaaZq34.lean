/- Several texts in one, each with its own head. -/
import Derived.Test.YtdcmalbbijchiaaZq33
/- inflate, plainly: numbers that are put one behind the other are read where they stand; symbols of a code likewise; tokens that are laid. -/
namespace Go.Proofs.Ytdcmalbbijchiaa

/-- What is put: numbers, and of how many bits each is. -/
abbrev Pt := List (Nat × Nat)
def szP : Pt → Nat
  | [] => 0
  | p :: r => p.2 + szP r
def nmP : Pt → Nat
  | [] => 0
  | p :: r => p.1 + 2 ^ p.2 * nmP r
def okP (P : Pt) : Prop := ∀ p ∈ P, p.1 < 2 ^ p.2
theorem okP.app {a b : Pt} (h : okP (a ++ b)) : okP a ∧ okP b := ⟨fun p hp => h p (List.mem_append_left _ hp), fun p hp => h p (List.mem_append_right _ hp)⟩
theorem okP_app {a b : Pt} (ha : okP a) (hb : okP b) : okP (a ++ b) := fun p hp => (List.mem_append.1 hp).elim (ha p) (hb p)
theorem okP_one {v k : Nat} (h : v < 2 ^ k) : okP [(v, k)] := fun p hp => by rw [List.mem_singleton.1 hp]; exact h
theorem szP_app : ∀ a b : Pt, szP (a ++ b) = szP a + szP b
  | [], b => by simp [szP]
  | p :: a, b => by rw [List.cons_append, szP, szP, szP_app a b]; omega
theorem nmP_app : ∀ a b : Pt, nmP (a ++ b) = nmP a + 2 ^ szP a * nmP b
  | [], b => by simp [nmP, szP]
  | p :: a, b => by
    rw [List.cons_append, nmP, nmP, nmP_app a b, szP, Nat.pow_add, Nat.mul_add, Nat.add_assoc, Nat.mul_assoc]
theorem nmP_lt : ∀ {P : Pt}, okP P → nmP P < 2 ^ szP P
  | [], _ => by simp [nmP, szP]
  | p :: r, h => by
    have h1 := h p List.mem_cons_self
    have h2 := nmP_lt (P := r) fun q hq => h q (List.mem_cons_of_mem _ hq)
    rw [nmP, szP, Nat.pow_add]
    calc p.1 + 2 ^ p.2 * nmP r < 2 ^ p.2 + 2 ^ p.2 * nmP r := by omega
      _ = 2 ^ p.2 * (nmP r + 1) := by rw [Nat.mul_add, Nat.mul_one, Nat.add_comm]
      _ ≤ 2 ^ p.2 * 2 ^ szP r := Nat.mul_le_mul_left _ h2
/-- As a writer has it. -/
theorem nmP_snoc (P : Pt) (v k : Nat) : nmP (P ++ [(v, k)]) = nmP P + v * 2 ^ szP P ∧ szP (P ++ [(v, k)]) = szP P + k := by
  refine ⟨?_, by rw [szP_app]; simp [szP]⟩
  rw [nmP_app, nmP, nmP, Nat.mul_zero, Nat.add_zero, Nat.mul_comm]

def bytP (P : Pt) : List Nat := byts (nmP P) ((szP P + 7) / 8)
theorem bytP_len (P : Pt) : (bytP P).length = (szP P + 7) / 8 := byts_len _ _
theorem bytP_num {P : Pt} (h : okP P) : numB (bytP P) = nmP P := by
  refine numB_byts _ _ (Nat.lt_of_lt_of_le (nmP_lt h) ?_)
  rw [p256]
  exact Nat.pow_le_pow_right (by omega) (by omega)

/-- What was put stands where it was put, whatever is behind. -/
theorem put_at {P p q : Pt} {v k : Nat} (h : okP P) (e : P = p ++ (v, k) :: q) (m : List Nat) : nb (bytP P ++ m) (szP p) k = v ∧ szP p + k ≤ 8 * (bytP P ++ m).length := by
  have hs : szP P = szP p + (k + szP q) := by rw [e, szP_app, szP]
  have hl : szP p + k ≤ 8 * (bytP P).length := by rw [bytP_len]; omega
  refine ⟨?_, by rw [List.length_append]; omega⟩
  rw [nb_ext _ _ _ _ hl]
  unfold nb
  rw [bytP_num h]
  subst e
  have hp := nmP_lt h.app.1
  have hv : v < 2 ^ k := h (v, k) (by simp)
  rw [nmP_app, nmP, Nat.add_mul_div_left _ _ (Nat.two_pow_pos _), Nat.div_eq_of_lt hp, Nat.zero_add, Nat.add_mul_mod_self_left, Nat.mod_eq_of_lt hv]

theorem nb_less (l : List Nat) (a : Nat) {t s : Nat} (h : t ≤ s) : nb l a t = nb l a s % 2 ^ t := by
  unfold nb
  rw [Nat.mod_mod_of_dvd _ (Nat.pow_dvd_pow 2 h)]

/-- The symbol of a repetition's length: the greatest one that may be; of its distance. -/
def lnF (n : Nat) : Nat → Nat
  | 0 => 0
  | k + 1 => if lnBase (257 + k) ≤ n ∧ (257 + k ≠ 285 ∨ n = 258) then 257 + k else lnF n k
def lnSym (n : Nat) : Nat := lnF n 29
def dsF (d : Nat) : Nat → Nat
  | 0 => 0
  | k + 1 => if dsBase k ≤ d then k else dsF d k
def dsSym (d : Nat) : Nat := dsF d 30
theorem lnSym_ok : ∀ n, n < 259 → 3 ≤ n → 257 ≤ lnSym n ∧ lnSym n ≤ 285 ∧ lnBase (lnSym n) ≤ n ∧ n - lnBase (lnSym n) < 2 ^ lnBits (lnSym n) := by decide +kernel
theorem ds_step : ∀ y, y < 30 → dsBase (y + 1) = dsBase y + 2 ^ dsBits y := by decide +kernel
theorem dsF_ok (d : Nat) : ∀ k, k ≤ 30 → d < dsBase k → 1 ≤ d → dsF d k < 30 ∧ dsBase (dsF d k) ≤ d ∧ d - dsBase (dsF d k) < 2 ^ dsBits (dsF d k)
  | 0, _, h, h1 => by simp [dsBase, stpBase] at h; omega
  | k + 1, hk, h, h1 => by
    rw [dsF]
    by_cases hd : dsBase k ≤ d
    · rw [if_pos hd]
      have := ds_step k (by omega)
      exact ⟨by omega, hd, by omega⟩
    · rw [if_neg hd]
      exact dsF_ok d k (by omega) (by omega) h1
theorem dsSym_ok {d : Nat} (h1 : 1 ≤ d) (h : d ≤ 32768) : dsSym d ≤ 29 ∧ dsBase (dsSym d) ≤ d ∧ d - dsBase (dsSym d) < 2 ^ dsBits (dsSym d) := by
  have e : dsBase 30 = 32769 := by decide
  obtain ⟨a, b⟩ := dsF_ok d 30 (Nat.le_refl _) (by omega) h1
  exact ⟨Nat.le_of_lt_succ a, b⟩

/-- These numbers stand there, one behind the other, from a on. -/
def AtP (l : List Nat) : Nat → Pt → Prop
  | _, [] => True
  | a, p :: q => nb l a p.2 = p.1 ∧ a + p.2 ≤ 8 * l.length ∧ AtP l (a + p.2) q
theorem AtP.app {l : List Nat} : ∀ {a : Nat} {x y : Pt}, AtP l a (x ++ y) → AtP l a x ∧ AtP l (a + szP x) y
  | _, [], _, h => ⟨trivial, h⟩
  | a, p :: x, y, h => by
    obtain ⟨h1, h2, h3⟩ := h
    obtain ⟨h4, h5⟩ := AtP.app (x := x) h3
    exact ⟨⟨h1, h2, h4⟩, by rw [szP, ← Nat.add_assoc]; exact h5⟩
theorem atP_of {P : Pt} (h : okP P) (m : List Nat) : ∀ {p q : Pt}, P = p ++ q → AtP (bytP P ++ m) (szP p) q
  | _, [], _ => trivial
  | p, (v, k) :: q, e => by
    obtain ⟨h1, h2⟩ := put_at h e m
    refine ⟨h1, h2, ?_⟩
    have := atP_of h m (p := p ++ [(v, k)]) (q := q) (by rw [e]; simp)
    rwa [(nmP_snoc p v k).2] at this
theorem atP_all {P : Pt} (h : okP P) (m : List Nat) : AtP (bytP P ++ m) 0 P := atP_of h m (p := []) rfl

theorem AtP.sy {ls l : List Nat} (hc : chk ls = 0) {x a : Nat} (hx : x < ls.length) (h0 : 0 < lq ls x) {q : Pt} (h : AtP l a ((cd (lq ls) ls.length x, lq ls x) :: q)) : Sy ls l a x 0 (lq ls x) ∧ AtP l (a + lq ls x) q := by
  obtain ⟨h1, h2, h3⟩ := h
  refine ⟨sy_of hc hx h0 rfl h1 (fun t t1 t2 i hi ⟨hi1, hi2⟩ => ?_) h2, h3⟩
  rw [nb_less _ _ (Nat.le_of_lt t1), h1] at hi2
  subst hi1
  exact cdn_apart hc hi hx t2 (by omega) (fun e => by subst e; omega) hi2

/-- A token: a byte, or so many bytes once more, the first of them so far ahead. -/
structure Tn where
  b : Nat
  n : Nat
  d : Nat
def Tn.put (A D : List Nat) (t : Tn) : Pt :=
  if t.n = 0 then [(cd (lq A) A.length t.b, lq A t.b)]
  else [(cd (lq A) A.length (lnSym t.n), lq A (lnSym t.n)), (t.n - lnBase (lnSym t.n), lnBits (lnSym t.n)), (cd (lq D) D.length (dsSym t.d), lq D (dsSym t.d)), (t.d - dsBase (dsSym t.d), dsBits (dsSym t.d))]
def Tn.tell (t : Tn) (o : List Nat) : List Nat := if t.n = 0 then o ++ [t.b] else ext t.d t.n o
/-- It may be told, and its symbols have codes. -/
def Tn.ok (A D : List Nat) (t : Tn) (o : List Nat) : Prop :=
  (t.n = 0 → t.b < 256 ∧ t.b < A.length ∧ 0 < lq A t.b) ∧
  (t.n ≠ 0 → 3 ≤ t.n ∧ t.n ≤ 258 ∧ 1 ≤ t.d ∧ t.d ≤ 32768 ∧ t.d ≤ o.length ∧ lnSym t.n < A.length ∧ 0 < lq A (lnSym t.n) ∧ dsSym t.d < D.length ∧ 0 < lq D (dsSym t.d))
theorem Tn.tell_len (t : Tn) (o : List Nat) : (t.tell o).length = o.length + (if t.n = 0 then 1 else t.n) := by
  unfold Tn.tell
  split
  · simp
  · rw [ext_len]

theorem tn_tk {A D l : List Nat} (hA : chk A = 0) (hD : chk D = 0) {t : Tn} {o : List Nat} (ht : t.ok A D o) {a : Nat} {q : Pt} (h : AtP l a (t.put A D ++ q)) (lim : Nat) :
    ((t.tell o).length ≤ lim → InfTk A D l lim a o (.go (a + szP (t.put A D)) (t.tell o))) ∧ (o.length ≤ lim → lim < (t.tell o).length → InfTk A D l lim a o (.no 81)) := by
  have hlen := t.tell_len o
  by_cases h0 : t.n = 0
  · obtain ⟨b1, b2, b3⟩ := ht.1 h0
    have e : t.put A D = [(cd (lq A) A.length t.b, lq A t.b)] := if_pos h0
    have e2 : t.tell o = o ++ [t.b] := if_pos h0
    rw [if_pos h0] at hlen
    rw [e] at h ⊢
    rw [hlen, e2]
    obtain ⟨s1, -⟩ := AtP.sy hA b2 b3 h
    refine ⟨fun hl => ?_, fun h1 h2 => .full _ _ s1 b1 (by omega)⟩
    have := InfTk.byte (A := A) (D := D) (l := l) (lim := lim) (a := a) (o := o) _ _ s1 b1 (by omega)
    simpa [szP] using this
  · obtain ⟨n1, n2, d1, d2, d3, x1, x2, y1, y2⟩ := ht.2 h0
    obtain ⟨s1, s2, s3, s4⟩ := lnSym_ok t.n (by omega) n1
    obtain ⟨r1, r2, r3⟩ := dsSym_ok d1 d2
    have e : t.put A D = [(cd (lq A) A.length (lnSym t.n), lq A (lnSym t.n)), (t.n - lnBase (lnSym t.n), lnBits (lnSym t.n)), (cd (lq D) D.length (dsSym t.d), lq D (dsSym t.d)), (t.d - dsBase (dsSym t.d), dsBits (dsSym t.d))] := if_neg h0
    have e2 : t.tell o = ext t.d t.n o := if_neg h0
    rw [if_neg h0] at hlen
    rw [e] at h ⊢
    rw [hlen, e2]
    obtain ⟨p1, h⟩ := AtP.sy hA x1 x2 h
    obtain ⟨p2, p3, h⟩ := h
    obtain ⟨p4, h⟩ := AtP.sy hD y1 y2 h
    obtain ⟨p5, p6, -⟩ := h
    simp only at p2 p3 p4 p5 p6
    have hd : dsBase (dsSym t.d) + nb l (a + lq A (lnSym t.n) + lnBits (lnSym t.n) + lq D (dsSym t.d)) (dsBits (dsSym t.d)) = t.d := by rw [p5]; omega
    have hn : lnBase (lnSym t.n) + nb l (a + lq A (lnSym t.n)) (lnBits (lnSym t.n)) = t.n := by rw [p2]; omega
    refine ⟨fun hl => ?_, fun h1 h2 => ?_⟩
    · have := InfRp.done (D := D) (l := l) (lim := lim) (a := a + lq A (lnSym t.n)) (x := lnSym t.n) (o := o) (by omega) p3 _ _ p4 r1 p6 (by rw [hd]; exact d3) (by rw [hn]; exact hl)
      rw [hd, hn] at this
      have h2 := InfTk.rep (A := A) (D := D) (l := l) (lim := lim) (a := a) (o := o) _ _ _ p1 (by omega) this
      rw [show a + szP [(cd (lq A) A.length (lnSym t.n), lq A (lnSym t.n)), (t.n - lnBase (lnSym t.n), lnBits (lnSym t.n)), (cd (lq D) D.length (dsSym t.d), lq D (dsSym t.d)), (t.d - dsBase (dsSym t.d), dsBits (dsSym t.d))] = a + lq A (lnSym t.n) + lnBits (lnSym t.n) + lq D (dsSym t.d) + dsBits (dsSym t.d) by simp only [szP]; omega]
      exact h2
    · exact .rep _ _ _ p1 (by omega) (.over (by omega) p3 _ _ p4 r1 p6 (by rw [hd]; exact d3) (by rw [hn]; omega))

def laidT (A D : List Nat) : List Tn → Pt
  | [] => []
  | t :: r => t.put A D ++ laidT A D r
def toldT : List Tn → List Nat → List Nat
  | [], o => o
  | t :: r, o => toldT r (t.tell o)
def mayT (A D : List Nat) : List Tn → List Nat → Prop
  | [], _ => True
  | t :: r, o => t.ok A D o ∧ mayT A D r (t.tell o)
theorem toldT_len : ∀ (ts : List Tn) (o : List Nat), o.length ≤ (toldT ts o).length
  | [], _ => Nat.le_refl _
  | t :: r, o => by
    have := toldT_len r (t.tell o)
    have := t.tell_len o
    rw [toldT]; omega

/-- The tokens of a block, up to its end. -/
theorem tn_toks {A D l : List Nat} (hA : chk A = 0) (hD : chk D = 0) (h6 : 256 < A.length) (h7 : 0 < lq A 256) (lim : Nat) : ∀ {ts : List Tn} {o : List Nat}, mayT A D ts o → ∀ {a : Nat} {q : Pt}, AtP l a (laidT A D ts ++ (cd (lq A) A.length 256, lq A 256) :: q) →
    ((toldT ts o).length ≤ lim → InfToks A D l lim a o (.go (a + szP (laidT A D ts) + lq A 256) (toldT ts o))) ∧ (o.length ≤ lim → lim < (toldT ts o).length → InfToks A D l lim a o (.no 81))
  | [], o, _, a, q, h => by
    obtain ⟨s1, -⟩ := AtP.sy hA h6 h7 h
    refine ⟨fun _ => ?_, fun h1 h2 => absurd h2 (by rw [toldT]; omega)⟩
    exact .fin _ _ _ (.fin _ s1)
  | t :: r, o, ht, a, q, h => by
    rw [laidT, List.append_assoc] at h
    obtain ⟨t1, t2⟩ := tn_tk hA hD ht.1 h lim
    obtain ⟨-, h3⟩ := h.app
    obtain ⟨r1, r2⟩ := tn_toks hA hD h6 h7 lim (ts := r) ht.2 h3
    have hle := toldT_len r (t.tell o)
    refine ⟨fun hl => ?_, fun h1 h2 => ?_⟩
    · rw [toldT] at hl
      have h4 := InfToks.more _ _ _ _ _ (t1 (by omega)) (r1 hl)
      rw [laidT, szP_app, toldT, ← Nat.add_assoc a]
      exact h4
    · rw [toldT] at h2
      by_cases h5 : (t.tell o).length ≤ lim
      · exact .more _ _ _ _ _ (t1 h5) (r2 h5 h2)
      · exact .no _ _ _ (t2 h1 (by omega))

end Go.Proofs.Ytdcmalbbijchiaa

/- inflate, plainly: blocks that are laid are told: stored, by the fixed codes, by their own. -/
namespace Go.Proofs.Ytdcmalbbijchiaa

/-- The lengths by which a dynamic block's lengths are laid. -/
def clens : List Nat := List.replicate 13 4 ++ List.replicate 6 5
theorem clens_chk : chk clens = 0 := by decide +kernel
theorem clens_has : ∀ v, v < 16 → v < clens.length ∧ 0 < lq clens v := by decide +kernel

theorem clF_of {l : List Nat} {b : Nat} {f : Nat → Nat} (h : ∀ k, k < 19 → nb l (b + 3 * k) 3 = f (ordL.getD k 0)) : ∀ k, k ≤ 19 → ∀ i, i ∈ ordL.take k → clF l b k i = f i
  | 0, _, i, hi => by simp at hi
  | k + 1, hk, i, hi => by
    show (if i = ordL.getD k 0 then nb l (b + 3 * k) 3 else clF l b k i) = f i
    have hk' : k < ordL.length := by show k < 19; omega
    by_cases e : i = ordL.getD k 0
    · rw [if_pos e, h k (by omega), e]
    · rw [if_neg e]
      refine clF_of h k (by omega) i ?_
      rw [List.take_succ_eq_append_getElem hk', List.mem_append, List.mem_singleton] at hi
      rcases hi with hi | hi
      · exact hi
      · exact absurd (by rw [hi, List.getD_eq_getElem?_getD, List.getElem?_eq_getElem hk']; rfl) e
theorem ordL_all : ∀ i, i < 19 → i ∈ ordL := by decide
theorem clL_of {l : List Nat} {b : Nat} (h : ∀ k, k < 19 → nb l (b + 3 * k) 3 = lq clens (ordL.getD k 0)) : clL l b 19 = clens := by
  have e : clens = (List.range 19).map (lq clens) := by decide +kernel
  rw [e]
  unfold clL
  refine List.map_congr_left fun i hi => ?_
  exact clF_of (f := lq clens) h 19 (Nat.le_refl _) i (ordL_all i (List.mem_range.1 hi))

theorem AtP.threes {l : List Nat} (f : Nat → Nat) : ∀ {xs : List Nat} {b : Nat} {q : Pt}, AtP l b (xs.map (fun i => (f i, 3)) ++ q) → ∀ k, k < xs.length → nb l (b + 3 * k) 3 = f (xs.getD k 0)
  | [], _, _, _, k, hk => absurd hk (by simp)
  | x :: xs, b, q, h, 0, _ => h.1
  | x :: xs, b, q, h, k + 1, hk => by
    have := AtP.threes f (xs := xs) h.2.2 k (by simpa using hk)
    rw [show b + 3 * (k + 1) = b + 3 + 3 * k by omega]
    exact this
theorem szP_threes (f : Nat → Nat) : ∀ xs : List Nat, szP (xs.map fun i => (f i, 3)) = 3 * xs.length
  | [] => rfl
  | x :: xs => by rw [List.map_cons, szP, szP_threes f xs, List.length_cons]; omega

/-- How lengths are laid. -/
def putV (vs : List Nat) : Pt := vs.map fun v => (cd (lq clens) clens.length v, lq clens v)
theorem vs_ls {l : List Nat} (n : Nat) : ∀ {vs ls : List Nat} {a : Nat} {q : Pt}, (∀ v ∈ vs, v < 16) → AtP l a (putV vs ++ q) → ls.length + vs.length = n → InfLs clens l n a ls (.go (a + szP (putV vs)) (ls ++ vs))
  | [], ls, a, q, _, _, hn => by
    have : InfLs clens l n a ls (.go a ls) := .fin a ls (by simp at hn; omega)
    simpa [putV, szP] using this
  | v :: vs, ls, a, q, hv, h, hn => by
    have h16 := hv v List.mem_cons_self
    obtain ⟨c1, c2⟩ := clens_has v h16
    obtain ⟨s1, h2⟩ := AtP.sy clens_chk c1 c2 (q := putV vs ++ q) h
    have hle : a + lq clens v ≤ 8 * l.length := h.2.1
    have hg := InfSv.go (C := clens) (l := l) (n := n) (a := a) (ls := ls) v (lq clens v) 0 1 v s1 (.inr (.inr (.inr ⟨h16, rfl, rfl, rfl⟩))) (by omega) (by rw [nb_zero]; rw [List.length_cons] at hn; omega)
    rw [nb_zero, Nat.add_zero, Nat.add_zero, List.replicate_one] at hg
    have hr := vs_ls n (vs := vs) (ls := ls ++ [v]) (fun x hx => hv x (List.mem_cons_of_mem _ hx)) h2 (by rw [List.length_cons] at hn; simp; omega)
    have h3 := InfLs.more _ _ _ _ _ (by rw [List.length_cons] at hn; omega) hg hr
    rw [List.append_assoc, List.singleton_append, Nat.add_assoc] at h3
    exact h3

/-- A dynamic block's codes, as they are laid. -/
def putO (x y : List Nat) : Pt := (29, 5) :: (29, 5) :: (15, 4) :: (ordL.map (fun i => (lq clens i, 3)) ++ putV (x ++ y))
theorem own_dy {l x y : List Nat} (hx : x.length = 286) (hy : y.length = 30) (h15 : ∀ v ∈ x ++ y, v < 16) (cx : chk x = 0) (cy : chk y = 0) (h0 : 0 < lq x 256) {a : Nat} {q : Pt} (h : AtP l a (putO x y ++ q)) : InfDy l a 286 (.go (a + szP (putO x y)) (x ++ y)) := by
  obtain ⟨p1, q1, p2, q2, p3, q3, h⟩ := h
  simp only at p1 q1 p2 q2 p3 q3 h
  rw [show a + 5 + 5 = a + 10 by omega] at p3 q3 h
  rw [show a + 10 + 4 = a + 14 by omega] at q3 h
  change AtP l (a + 14) ((ordL.map (fun i => (lq clens i, 3)) ++ putV (x ++ y)) ++ q) at h
  rw [List.append_assoc] at h
  have hcl := clL_of (AtP.threes (lq clens) (xs := ordL) h)
  obtain ⟨-, h2⟩ := h.app
  rw [szP_threes, show ordL.length = 19 from rfl] at h2
  have hls := vs_ls 316 (ls := []) h15 h2 (by rw [List.length_nil, List.length_append]; omega)
  have hend : a + 14 + 57 ≤ 8 * l.length := by
    cases x with
    | nil => simp at hx
    | cons v r => exact Nat.le_trans (Nat.le_add_right _ _) h2.2.1
  have e1 : nb l a 5 + 257 = 286 := by rw [p1]
  have e2 : nb l (a + 5) 5 + 1 = 30 := by rw [p2]
  have e3 : nb l (a + 10) 4 + 4 = 19 := by rw [p3]
  have ht : (x ++ y).take 286 = x := by rw [← hx, List.take_left]
  have hd : (x ++ y).drop 286 = y := by rw [← hx, List.drop_left]
  have hq : lq (x ++ y) 256 = lq x 256 := by
    unfold lq
    rw [List.getD_eq_getElem?_getD, List.getD_eq_getElem?_getD, List.getElem?_append_left (by omega)]
  have := InfDy.done (l := l) (a := a) q3 (by rw [e1, e2]; omega) (by rw [e3]; omega) (by rw [e3, hcl]; exact clens_chk) _ (x ++ y) (by
    rw [e1, e2, e3, hcl]
    rw [List.nil_append] at hls
    exact hls) (by rw [e1, hq, ht, hd]; exact ⟨by omega, cx, cy⟩)
  rw [e1] at this
  rw [show a + szP (putO x y) = a + 14 + 3 * 19 + szP (putV (x ++ y)) by
    unfold putO
    simp only [szP, szP_app, szP_threes, show ordL.length = 19 from rfl]
    omega]
  exact this

/-- Bytes that are laid by eight bits each. -/
theorem AtP.bytes {l : List Nat} : ∀ {bs : List Nat} {a : Nat} {q : Pt}, AtP l a (bs.map (fun b => (b, 8)) ++ q) → bys l a bs.length = bs ∧ (bs = [] ∨ a + 8 * bs.length ≤ 8 * l.length)
  | [], a, q, _ => ⟨rfl, .inl rfl⟩
  | b :: bs, a, q, h => by
    obtain ⟨h1, h2, h3⟩ := h
    simp only at h1 h2 h3
    obtain ⟨h4, h5⟩ := AtP.bytes (bs := bs) h3
    refine ⟨?_, .inr ?_⟩
    · unfold bys at h4 ⊢
      rw [List.length_cons, List.range_succ_eq_map, List.map_cons, List.map_map, Nat.mul_zero, Nat.add_zero, h1]
      congr 1
      conv => rhs; rw [← h4]
      refine List.map_congr_left fun i _ => ?_
      show nb l (a + 8 * (i + 1)) 8 = nb l (a + 8 + 8 * i) 8
      rw [show a + 8 * (i + 1) = a + 8 + 8 * i by omega]
    · rcases h5 with rfl | h5
      · simp; omega
      · rw [List.length_cons]; omega
theorem szP_bys : ∀ bs : List Nat, szP (bs.map fun b => (b, 8)) = 8 * bs.length
  | [] => rfl
  | b :: bs => by rw [List.map_cons, szP, szP_bys bs, List.length_cons]; omega

/-- A stored block, behind its type, laid from a on. -/
def putS (a : Nat) (bs : List Nat) : Pt := (0, (8 - a % 8) % 8) :: (bs.length, 16) :: (65535 - bs.length, 16) :: bs.map fun b => (b, 8)
theorem szP_putS (a : Nat) (bs : List Nat) : a + szP (putS a bs) = alN a + 32 + 8 * bs.length := by
  unfold putS alN
  simp only [szP, szP_bys]
  omega
theorem stored_sd {l bs o : List Nat} {a lim : Nat} (hb : bs.length ≤ 65535) {q : Pt} (h : AtP l a (putS a bs ++ q)) :
    (o.length + bs.length ≤ lim → InfSd l lim a o (.go (a + szP (putS a bs)) (o ++ bs))) ∧ (lim < o.length + bs.length → InfSd l lim a o (.no 81)) := by
  obtain ⟨-, -, p2, q2, p3, q3, h⟩ := h
  simp only at p2 q2 p3 q3 h
  have e : a + (8 - a % 8) % 8 = alN a := rfl
  rw [e] at p2 q2 p3 q3 h
  rw [show alN a + 16 + 16 = alN a + 32 by omega] at q3 h
  obtain ⟨h4, h5⟩ := AtP.bytes h
  have hs : nb l (alN a + 16) 16 + nb l (alN a) 16 = 65535 := by rw [p2, p3]; omega
  refine ⟨fun hl => ?_, fun hl => .over q3 hs (by rw [p2]; exact hl)⟩
  have := InfSd.done (l := l) (lim := lim) (a := a) (o := o) q3 hs (by rw [p2]; exact hl) (by
    rw [p2]
    rcases h5 with rfl | h5
    · simpa using q3
    · exact h5)
  rw [p2, h4] at this
  rw [szP_putS]
  exact this

end Go.Proofs.Ytdcmalbbijchiaa
