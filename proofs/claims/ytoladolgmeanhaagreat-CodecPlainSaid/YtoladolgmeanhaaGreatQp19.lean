/- Several texts in one, each with its own head. -/
import Derived.Test.YtoladolgmeanhaaGreatQp18
import Derived.Test.YtoladolgmeanhaaGreatQp5
import Derived.Test.YtoladolgmeanhaaGreatQp1
/- inflate, plainly: numbers that are put one behind the other are read where they stand; symbols of a code likewise; tokens that are laid. -/
namespace Go.Proofs.YtoladolgmeanhaaGreat

abbrev Pt := List (Nat × Nat)
def szP : Pt → Nat
  | [] => 0
  | p :: r => p.2 + szP r
def nmP : Pt → Nat
  | [] => 0
  | p :: r => p.1 + 2 ^ p.2 * nmP r
theorem szP_app : ∀ a b : Pt, szP (a ++ b) = szP a + szP b
  | [], b => by simp [szP]
  | p :: a, b => by rw [List.cons_append, szP, szP, szP_app a b]; omega
theorem nmP_app : ∀ a b : Pt, nmP (a ++ b) = nmP a + 2 ^ szP a * nmP b
  | [], b => by simp [nmP, szP]
  | p :: a, b => by
    rw [List.cons_append, nmP, nmP, nmP_app a b, szP, Nat.pow_add, Nat.mul_add, Nat.add_assoc, Nat.mul_assoc]
theorem nmP_snoc (P : Pt) (v k : Nat) : nmP (P ++ [(v, k)]) = nmP P + v * 2 ^ szP P ∧ szP (P ++ [(v, k)]) = szP P + k := by
  refine ⟨?_, by rw [szP_app]; simp [szP]⟩
  rw [nmP_app, nmP, nmP, Nat.mul_zero, Nat.add_zero, Nat.mul_comm]
def bytP (P : Pt) : List Nat := byts (nmP P) ((szP P + 7) / 8)
theorem bytP_len (P : Pt) : (bytP P).length = (szP P + 7) / 8 := byts_len _ _
theorem nb_less (l : List Nat) (a : Nat) {t s : Nat} (h : t ≤ s) : nb l a t = nb l a s % 2 ^ t := by
  unfold nb
  rw [Nat.mod_mod_of_dvd _ (Nat.pow_dvd_pow 2 h)]
def lnF (n : Nat) : Nat → Nat
  | 0 => 0
  | k + 1 => if lnBase (257 + k) ≤ n ∧ (257 + k ≠ 285 ∨ n = 258) then 257 + k else lnF n k
def lnSym (n : Nat) : Nat := lnF n 29
def dsF (d : Nat) : Nat → Nat
  | 0 => 0
  | k + 1 => if dsBase k ≤ d then k else dsF d k
def dsSym (d : Nat) : Nat := dsF d 30
theorem lnSym_ok : ∀ n, n < 259 → 3 ≤ n → 257 ≤ lnSym n ∧ lnSym n ≤ 285 ∧ lnBase (lnSym n) ≤ n ∧ n - lnBase (lnSym n) < 2 ^ lnBits (lnSym n) := by decide +kernel
theorem ds_step : ∀ y, y < 30 → dsBase (y + 1) = dsBase y + 2 ^ dsBits y := by decide +kernel
theorem dsF_ok (d : Nat) : ∀ k, k ≤ 30 → d < dsBase k → 1 ≤ d → dsF d k < 30 ∧ dsBase (dsF d k) ≤ d ∧ d - dsBase (dsF d k) < 2 ^ dsBits (dsF d k)
  | 0, _, h, h1 => by simp [dsBase, stpBase] at h; omega
  | k + 1, hk, h, h1 => by
    rw [dsF]
    by_cases hd : dsBase k ≤ d
    · rw [if_pos hd]
      have := ds_step k (by omega)
      exact ⟨by omega, hd, by omega⟩
    · rw [if_neg hd]
      exact dsF_ok d k (by omega) (by omega) h1
theorem dsSym_ok {d : Nat} (h1 : 1 ≤ d) (h : d ≤ 32768) : dsSym d ≤ 29 ∧ dsBase (dsSym d) ≤ d ∧ d - dsBase (dsSym d) < 2 ^ dsBits (dsSym d) := by
  have e : dsBase 30 = 32769 := by decide
  obtain ⟨a, b⟩ := dsF_ok d 30 (Nat.le_refl _) (by omega) h1
  exact ⟨Nat.le_of_lt_succ a, b⟩
def AtP (l : List Nat) : Nat → Pt → Prop
  | _, [] => True
  | a, p :: q => nb l a p.2 = p.1 ∧ a + p.2 ≤ 8 * l.length ∧ AtP l (a + p.2) q
theorem AtP.sy {ls l : List Nat} (hc : chk ls = 0) {x a : Nat} (hx : x < ls.length) (h0 : 0 < lq ls x) {q : Pt} (h : AtP l a ((cd (lq ls) ls.length x, lq ls x) :: q)) : Sy ls l a x 0 (lq ls x) ∧ AtP l (a + lq ls x) q := by
  obtain ⟨h1, h2, h3⟩ := h
  refine ⟨sy_of hc hx h0 rfl h1 (fun t t1 t2 i hi ⟨hi1, hi2⟩ => ?_) h2, h3⟩
  rw [nb_less _ _ (Nat.le_of_lt t1), h1] at hi2
  subst hi1
  exact cdn_apart hc hi hx t2 (by omega) (fun e => by subst e; omega) hi2
structure Tn where
  b : Nat
  n : Nat
  d : Nat
def Tn.put (A D : List Nat) (t : Tn) : Pt :=
  if t.n = 0 then [(cd (lq A) A.length t.b, lq A t.b)]
  else [(cd (lq A) A.length (lnSym t.n), lq A (lnSym t.n)), (t.n - lnBase (lnSym t.n), lnBits (lnSym t.n)), (cd (lq D) D.length (dsSym t.d), lq D (dsSym t.d)), (t.d - dsBase (dsSym t.d), dsBits (dsSym t.d))]
def Tn.tell (t : Tn) (o : List Nat) : List Nat := if t.n = 0 then o ++ [t.b] else ext t.d t.n o
def Tn.ok (A D : List Nat) (t : Tn) (o : List Nat) : Prop :=
  (t.n = 0 → t.b < 256 ∧ t.b < A.length ∧ 0 < lq A t.b) ∧
  (t.n ≠ 0 → 3 ≤ t.n ∧ t.n ≤ 258 ∧ 1 ≤ t.d ∧ t.d ≤ 32768 ∧ t.d ≤ o.length ∧ lnSym t.n < A.length ∧ 0 < lq A (lnSym t.n) ∧ dsSym t.d < D.length ∧ 0 < lq D (dsSym t.d))
def laidT (A D : List Nat) : List Tn → Pt
  | [] => []
  | t :: r => t.put A D ++ laidT A D r
def toldT : List Tn → List Nat → List Nat
  | [], o => o
  | t :: r, o => toldT r (t.tell o)
def mayT (A D : List Nat) : List Tn → List Nat → Prop
  | [], _ => True
  | t :: r, o => t.ok A D o ∧ mayT A D r (t.tell o)
end Go.Proofs.YtoladolgmeanhaaGreat

/- inflate: a writer of laid numbers beside other memory that it leaves alone. -/
namespace Go.Proofs.YtoladolgmeanhaaGreat
open Go.RowKit Go.Maps

def WrY (G : Nat → Prop) (base B : Nat) (P : Pt) (W w : World) : Prop :=
  ∃ sv, Wr w base B sv (nmP P) (szP P) ∧ base ≤ w.heap.size ∧ szP P ≤ 8388608 ∧ Turns (fun b => ¬ G b) W w ∧ ∀ b, G b → b ≠ B ∧ sv.ownBlock ≠ some b ∧ b < W.heap.size
theorem WrY.turns {G : Nat → Prop} {base B : Nat} {P : Pt} {W w : World} (h : WrY G base B P W w) : Turns (fun b => ¬ G b) W w := by obtain ⟨_, _, _, _, h, _⟩ := h; exact h
theorem WrY.max {G : Nat → Prop} {base B : Nat} {P : Pt} {W w : World} (h : WrY G base B P W w) : szP P ≤ 8388608 := by obtain ⟨_, _, _, h, _⟩ := h; exact h
theorem WrY.of {G : Nat → Prop} {base B : Nat} {Q : Pt} {W w w' : World} {sv : Value} (h2 : base ≤ w.heap.size) (h4 : Turns (fun b => ¬ G b) W w) (h5 : ∀ b, G b → b ≠ B ∧ sv.ownBlock ≠ some b ∧ b < W.heap.size) (hQ : szP Q ≤ 8388608)
    (hto : WrTo base B sv (nmP Q) (szP Q) w w') : WrY G base B Q W w' := by
  obtain ⟨sv', k1, k2, k3⟩ := hto
  refine ⟨sv', k1, Nat.le_trans h2 k2.size, hQ, h4.trans (k2.mono fun i _ hi hg => ?_), fun b hb => ?_⟩
  · obtain ⟨a1, a2, -⟩ := h5 i hg
    rcases hi with hi | hi
    · exact a1 hi
    · exact a2 hi
  · obtain ⟨a1, a2, a3⟩ := h5 b hb
    refine ⟨a1, fun hs => ?_, a3⟩
    rcases k3 b hs with hs | hs
    · exact a2 hs
    · have := h4.size; omega
theorem putY {G : Nat → Prop} {base B v k : Nat} {P : Pt} {W w : World} (h : WrY G base B P W w) (hv : v < 2 ^ k) (hk : k ≤ 24) (hmax : szP P + k ≤ 8388608) :
    Calls Tryz.prog 101 #[.pointer (some ⟨B, 0, none⟩), .int .u32 (v : Int), .int .i64 (k : Int)] w fun e w' => e = .returned (.int .i64 0) ∧ WrY G base B (P ++ [(v, k)]) W w' := by
  obtain ⟨e1, e2⟩ := nmP_snoc P v k
  obtain ⟨sv, h1, h2, -, h4, h5⟩ := h
  exact (put_ok base B (nmP P) (szP P) v k sv w h1 hv hk hmax h2).mono fun e w' ⟨he, hto⟩ => ⟨he, WrY.of h2 h4 h5 (by rw [e2]; exact hmax) (by rw [e1, e2]; exact hto)⟩
theorem alignY {G : Nat → Prop} {base B : Nat} {P : Pt} {W w : World} (h : WrY G base B P W w) (hmax : szP P + 8 ≤ 8388608) :
    Calls Tryz.prog 107 #[.pointer (some ⟨B, 0, none⟩)] w fun e w' => e = .returned (.int .i64 0) ∧ WrY G base B (P ++ [(0, (8 - szP P % 8) % 8)]) W w' := by
  obtain ⟨e1, e2⟩ := nmP_snoc P 0 ((8 - szP P % 8) % 8)
  rw [Nat.zero_mul, Nat.add_zero] at e1
  obtain ⟨sv, h1, h2, h3, h4, h5⟩ := h
  exact (walign_any base B (nmP P) (szP P) sv w h1 h3 h2).mono fun e w' ⟨he, hto⟩ => ⟨he, WrY.of h2 h4 h5 (by rw [e2]; omega) (by rw [e1, e2]; exact hto)⟩
theorem WrY.below {G : Nat → Prop} {base B : Nat} {P : Pt} {W w w' : World} (h : WrY G base B P W w) (hb : Below w.heap.size w w') : WrY G base B P W w' := by
  obtain ⟨sv, h1, h2, h3, h4, h5⟩ := h
  exact ⟨sv, h1.below hb, Nat.le_trans h2 hb.size, h3, h4.trans (Turns.of_below' hb), h5⟩
theorem WrY.more {G : Nat → Prop} {base B : Nat} {P : Pt} {W w w' : World} (h : WrY G base B P W w) (hb : Below w.heap.size w w') : WrY (fun b => G b ∨ (w.heap.size ≤ b ∧ b < w'.heap.size)) base B P w' w' := by
  obtain ⟨sv, h1, h2, h3, h4, h5⟩ := h
  refine ⟨sv, h1.below hb, Nat.le_trans h2 hb.size, h3, Turns.refl _ _, fun b hb' => ?_⟩
  have hs := h1.size
  rcases hb' with hg | ⟨g1, g2⟩
  · obtain ⟨a1, a2, a3⟩ := h5 b hg
    exact ⟨a1, a2, by have := h4.size; have := hb.size; omega⟩
  · refine ⟨by omega, fun e => ?_, g2⟩
    have := (h1.own.lt b e).2
    omega
theorem WrY.less {G G' : Nat → Prop} {base B : Nat} {P : Pt} {W W' w : World} (h : WrY G' base B P W' w) (hG : ∀ b, G b → G' b ∧ b < W.heap.size) (ht : Turns (fun b => ¬ G b) W W') : WrY G base B P W w := by
  obtain ⟨sv, h1, h2, h3, h4, h5⟩ := h
  refine ⟨sv, h1, h2, h3, ht.trans (h4.mono fun i _ hi hg => hi (hG i hg).1), fun b hb => ?_⟩
  obtain ⟨a1, a2, -⟩ := h5 b (hG b hb).1
  exact ⟨a1, a2, (hG b hb).2⟩
theorem WrY.congr {G : Nat → Prop} {base B : Nat} {P Q : Pt} {W w : World} (h : WrY G base B P W w) (e : P = Q) : WrY G base B Q W w := e ▸ h
theorem WrY.owns {G : Nat → Prop} {base B : Nat} {P : Pt} {W w : World} (h : WrY G base B P W w) {bs : Nat} {e : TypeId} {size : Nat} {v : Value} {n : Nat} {xs : List Value} (hc : W.ownsRow bs e size v n xs) (hn : ∀ k, v.ownBlock = some k → G k) : w.ownsRow bs e size v n xs :=
  h.turns.owns hc fun k hk hg => hg (hn k hk)
theorem WrY.cell {G : Nat → Prop} {base B : Nat} {P : Pt} {W w : World} (h : WrY G base B P W w) {p : Addr} {v : Value} (hc : W.cell? p = some v) (hn : G p.block) : w.cell? p = some v :=
  h.turns.cell hc fun hg => hg hn
def WrF (G : Nat → Prop) (W : World) (F : World → Prop) (base B : Nat) (P : Pt) (w : World) : Prop :=
  ∃ (G' : Nat → Prop) (W' : World), WrY G' base B P W' w ∧ (∀ b, G b → G' b ∧ b < W.heap.size) ∧ Turns (fun b => ¬ G b) W W' ∧ ∀ w', Turns (fun b => ¬ G' b) W' w' → F w'
theorem WrF.start {G : Nat → Prop} {W w : World} {F : World → Prop} {base B : Nat} {P : Pt} (h : WrY G base B P W w) (hF : ∀ w', Turns (fun b => ¬ G b) W w' → F w') : WrF G W F base B P w :=
  ⟨G, W, h, fun b hb => ⟨hb, by obtain ⟨_, _, _, _, _, h5⟩ := h; exact (h5 b hb).2.2⟩, Turns.refl _ _, hF⟩
theorem WrF.now {G : Nat → Prop} {W w : World} {F : World → Prop} {base B : Nat} {P : Pt} (h : WrF G W F base B P w) : F w := by
  obtain ⟨G', W', h1, -, -, h4⟩ := h; exact h4 w h1.turns
theorem WrF.max {G : Nat → Prop} {W w : World} {F : World → Prop} {base B : Nat} {P : Pt} (h : WrF G W F base B P w) : szP P ≤ 8388608 := by
  obtain ⟨G', W', h1, -⟩ := h; exact h1.max
theorem WrF.done {G : Nat → Prop} {W w : World} {F : World → Prop} {base B : Nat} {P : Pt} (h : WrF G W F base B P w) : WrY G base B P W w := by
  obtain ⟨G', W', h1, h2, h3, -⟩ := h; exact h1.less h2 h3
theorem WrF.put {G : Nat → Prop} {W w : World} {F : World → Prop} {base B v k : Nat} {P : Pt} (h : WrF G W F base B P w) (hv : v < 2 ^ k) (hk : k ≤ 24) (hmax : szP P + k ≤ 8388608) :
    Calls Tryz.prog 101 #[.pointer (some ⟨B, 0, none⟩), .int .u32 (v : Int), .int .i64 (k : Int)] w fun e w' => e = .returned (.int .i64 0) ∧ WrF G W F base B (P ++ [(v, k)]) w' := by
  obtain ⟨G', W', h1, h2, h3, h4⟩ := h
  exact (putY h1 hv hk hmax).mono fun e w' ⟨he, h5⟩ => ⟨he, G', W', h5, h2, h3, h4⟩
theorem WrF.align {G : Nat → Prop} {W w : World} {F : World → Prop} {base B : Nat} {P : Pt} (h : WrF G W F base B P w) (hmax : szP P + 8 ≤ 8388608) :
    Calls Tryz.prog 107 #[.pointer (some ⟨B, 0, none⟩)] w fun e w' => e = .returned (.int .i64 0) ∧ WrF G W F base B (P ++ [(0, (8 - szP P % 8) % 8)]) w' := by
  obtain ⟨G', W', h1, h2, h3, h4⟩ := h
  exact (alignY h1 hmax).mono fun e w' ⟨he, h5⟩ => ⟨he, G', W', h5, h2, h3, h4⟩
theorem WrF.below {G : Nat → Prop} {W w w' : World} {F : World → Prop} {base B : Nat} {P : Pt} (h : WrF G W F base B P w) (hb : Below w.heap.size w w') : WrF G W F base B P w' := by
  obtain ⟨G', W', h1, h2, h3, h4⟩ := h
  exact ⟨G', W', h1.below hb, h2, h3, h4⟩
theorem WrF.more {G : Nat → Prop} {W w w' : World} {F F2 : World → Prop} {base B : Nat} {P : Pt} (h : WrF G W F base B P w) (hb : Below w.heap.size w w')
    (hF : ∀ w'', Turns (fun b => ¬ (w.heap.size ≤ b ∧ b < w'.heap.size)) w' w'' → F2 w'') : WrF G W (fun w => F w ∧ F2 w) base B P w' := by
  obtain ⟨G', W', h1, h2, h3, h4⟩ := h
  refine ⟨_, w', h1.more hb, fun b hg => ⟨.inl (h2 b hg).1, (h2 b hg).2⟩, h3.trans (((h1.turns).trans (Turns.of_below' hb)).mono fun i _ hi hg => hi (h2 i hg).1), fun w'' ht => ⟨h4 w'' ?_, hF w'' (ht.mono fun i _ hi hn => hi (.inr hn))⟩⟩
  exact ((h1.turns).trans (Turns.of_below' hb)).trans (ht.mono fun i _ hi hn => hi (.inl hn))
theorem WrF.congr {G : Nat → Prop} {W w : World} {F : World → Prop} {base B : Nat} {P Q : Pt} (h : WrF G W F base B P w) (e : P = Q) : WrF G W F base B Q w := e ▸ h
end Go.Proofs.YtoladolgmeanhaaGreat

/- inflate, plainly: blocks that are laid are told: stored, by the fixed codes, by their own. -/
namespace Go.Proofs.YtoladolgmeanhaaGreat

def clens : List Nat := List.replicate 13 4 ++ List.replicate 6 5
theorem szP_threes (f : Nat → Nat) : ∀ xs : List Nat, szP (xs.map fun i => (f i, 3)) = 3 * xs.length
  | [] => rfl
  | x :: xs => by rw [List.map_cons, szP, szP_threes f xs, List.length_cons]; omega
def putV (vs : List Nat) : Pt := vs.map fun v => (cd (lq clens) clens.length v, lq clens v)
def putO (x y : List Nat) : Pt := (29, 5) :: (29, 5) :: (15, 4) :: (ordL.map (fun i => (lq clens i, 3)) ++ putV (x ++ y))
theorem AtP.bytes {l : List Nat} : ∀ {bs : List Nat} {a : Nat} {q : Pt}, AtP l a (bs.map (fun b => (b, 8)) ++ q) → bys l a bs.length = bs ∧ (bs = [] ∨ a + 8 * bs.length ≤ 8 * l.length)
  | [], a, q, _ => ⟨rfl, .inl rfl⟩
  | b :: bs, a, q, h => by
    obtain ⟨h1, h2, h3⟩ := h
    simp only at h1 h2 h3
    obtain ⟨h4, h5⟩ := AtP.bytes (bs := bs) h3
    refine ⟨?_, .inr ?_⟩
    · unfold bys at h4 ⊢
      rw [List.length_cons, List.range_succ_eq_map, List.map_cons, List.map_map, Nat.mul_zero, Nat.add_zero, h1]
      congr 1
      conv => rhs; rw [← h4]
      refine List.map_congr_left fun i _ => ?_
      show nb l (a + 8 * (i + 1)) 8 = nb l (a + 8 + 8 * i) 8
      rw [show a + 8 * (i + 1) = a + 8 + 8 * i by omega]
    · rcases h5 with rfl | h5
      · simp; omega
      · rw [List.length_cons]; omega
theorem szP_bys : ∀ bs : List Nat, szP (bs.map fun b => (b, 8)) = 8 * bs.length
  | [] => rfl
  | b :: bs => by rw [List.map_cons, szP, szP_bys bs, List.length_cons]; omega
def putS (a : Nat) (bs : List Nat) : Pt := (0, (8 - a % 8) % 8) :: (bs.length, 16) :: (65535 - bs.length, 16) :: bs.map fun b => (b, 8)
end Go.Proofs.YtoladolgmeanhaaGreat

/- inflate, plainly: all blocks that are laid, one behind the other, are told. -/
namespace Go.Proofs.YtoladolgmeanhaaGreat

inductive Bn where
  | st (bs : List Nat)
  | fx (ts : List Tn)
  | dy (x y : List Nat) (ts : List Tn)
def Bn.kind : Bn → Nat
  | .st _ => 0
  | .fx _ => 1
  | .dy _ _ _ => 2
def endP (A : List Nat) : Pt := [(cd (lq A) A.length 256, lq A 256)]
def Bn.body (a : Nat) : Bn → Pt
  | .st bs => putS a bs
  | .fx ts => laidT fixA fixD ts ++ endP fixA
  | .dy x y ts => putO x y ++ (laidT x y ts ++ endP x)
def Bn.put (a : Nat) (last : Bool) (b : Bn) : Pt := (if last then 1 else 0, 1) :: (b.kind, 2) :: b.body (a + 3)
def Bn.tell (b : Bn) (o : List Nat) : List Nat := match b with
  | .st bs => o ++ bs
  | .fx ts => toldT ts o
  | .dy _ _ ts => toldT ts o
def Bn.ok (b : Bn) (o : List Nat) : Prop := match b with
  | .st bs => bs.length ≤ 65535 ∧ ∀ x ∈ bs, x < 256
  | .fx ts => mayT fixA fixD ts o
  | .dy x y ts => x.length = 286 ∧ y.length = 30 ∧ (∀ v ∈ x ++ y, v < 16) ∧ chk x = 0 ∧ chk y = 0 ∧ 0 < lq x 256 ∧ mayT x y ts o
def putB : Nat → List Bn → Pt
  | _, [] => []
  | a, b :: r => b.put a r.isEmpty ++ putB (a + szP (b.put a r.isEmpty)) r
def okB : List Bn → List Nat → Prop
  | [], _ => True
  | b :: r, o => b.ok o ∧ okB r (b.tell o)
theorem cd_low (f : Nat → Nat) (N i : Nat) : cd f N i < 2 ^ f i := trn_low _ _
end Go.Proofs.YtoladolgmeanhaaGreat

/- Runs, the longest ones, and tokens (plain). Nothing here speaks of a program. -/
namespace Go.Proofs.YtoladolgmeanhaaGreat

structure IsRun (f : Nat → Nat) (at' d most n : Nat) : Prop where
  le : n ≤ most
  eq : ∀ j, j < n → f (at' + j) = f (at' + j - d)
  ne : n < most → f (at' + n) ≠ f (at' + n - d)
theorem IsRun.uniq {f : Nat → Nat} {a d m n n' : Nat} (h : IsRun f a d m n) (k : IsRun f a d m n') : n = n' := by
  rcases Nat.lt_trichotomy n n' with e | e | e
  · exact absurd (k.eq n e) (h.ne (by have := k.le; omega))
  · exact e
  · exact absurd (h.eq n' e) (k.ne (by have := h.le; omega))
theorem IsRun.ex (f : Nat → Nat) (a d : Nat) : ∀ m, ∃ n, IsRun f a d m n
  | 0 => ⟨0, Nat.le_refl _, fun j h => by omega, fun h => by omega⟩
  | m + 1 => by
    obtain ⟨n, h⟩ := IsRun.ex f a d m
    by_cases e : n < m
    · exact ⟨n, by have := h.le; omega, h.eq, fun _ => h.ne e⟩
    · have e : n = m := by have := h.le; omega
      subst e
      by_cases g : f (a + n) = f (a + n - d)
      · refine ⟨n + 1, Nat.le_refl _, fun j hj => ?_, fun h => by omega⟩
        by_cases hj' : j = n
        · rw [hj']; exact g
        · exact h.eq j (by omega)
      · exact ⟨n, by omega, h.eq, fun _ => g⟩
theorem IsRun.ge {f : Nat → Nat} {a d m n k : Nat} (h : IsRun f a d m n) (hk : k ≤ m) (he : ∀ j, j < k → f (a + j) = f (a + j - d)) : k ≤ n := by
  rcases Nat.lt_or_ge n k with e | e
  · exact absurd (he n e) (h.ne (by omega))
  · exact e
theorem IsRun.lt {f : Nat → Nat} {a d m n k : Nat} (h : IsRun f a d m n) (he : f (a + k) ≠ f (a + k - d)) : n ≤ k := by
  rcases Nat.lt_or_ge k n with e | e
  · exact absurd (h.eq k e) he
  · exact e
structure Tk where
  b : Nat
  n : Int
  d : Int
def Tk.size (t : Tk) : Nat := max t.n.toNat 1
def mo (N a : Nat) : Nat := min 258 (N - a)
def IsTok (f : Nat → Nat) (N a : Nat) (t : Tk) : Prop :=
  (t = ⟨f a, 0, 0⟩ ∧ ∀ d n, 1 ≤ d → d ≤ 32768 → d ≤ a → IsRun f a d (mo N a) n → n < 3) ∨
  ∃ n d : Nat, t = ⟨0, n, d⟩ ∧ 3 ≤ n ∧ 1 ≤ d ∧ d ≤ 32768 ∧ d ≤ a ∧ IsRun f a d (mo N a) n ∧ ∀ d' n', 1 ≤ d' → d' ≤ 32768 → d' ≤ a → IsRun f a d' (mo N a) n' → n' ≤ n ∧ (d' < d → n' < n)
theorem IsTok.uniq {f : Nat → Nat} {N a : Nat} {t t' : Tk} (h : IsTok f N a t) (k : IsTok f N a t') : t = t' := by
  rcases h with ⟨rfl, h⟩ | ⟨n, d, rfl, h1, h2, h3, h4, h5, h6⟩ <;> rcases k with ⟨rfl, k⟩ | ⟨n', d', rfl, k1, k2, k3, k4, k5, k6⟩
  · rfl
  · exact absurd (h d' n' k2 k3 k4 k5) (by omega)
  · exact absurd (k d n h2 h3 h4 h5) (by omega)
  · have e1 := h6 d' n' k2 k3 k4 k5
    have e2 := k6 d n h2 h3 h4 h5
    have en : n = n' := by omega
    have ed : d = d' := by omega
    rw [en, ed]
theorem IsTok.size_pos {f : Nat → Nat} {N a : Nat} {t : Tk} (_h : IsTok f N a t) : 1 ≤ t.size := by unfold Tk.size; omega
theorem IsTok.fits {f : Nat → Nat} {N a : Nat} {t : Tk} (h : IsTok f N a t) (ha : a < N) : a + t.size ≤ N := by
  rcases h with ⟨rfl, -⟩ | ⟨n, d, rfl, h1, -, -, -, h5, -⟩
  · simp [Tk.size]; omega
  · have := h5.le
    unfold mo at this
    simp [Tk.size]; omega
inductive Toks (f : Nat → Nat) (N : Nat) : Nat → List Tk → Prop
  | nil : Toks f N N []
  | cons {a : Nat} {t : Tk} {l : List Tk} (ha : a < N) (ht : IsTok f N a t) (hl : Toks f N (a + t.size) l) : Toks f N a (t :: l)
theorem Toks.uniq {f : Nat → Nat} {N a : Nat} {l l' : List Tk} (h : Toks f N a l) (k : Toks f N a l') : l = l' := by
  induction h generalizing l' with
  | nil =>
    cases k with
    | nil => rfl
    | cons ha => omega
  | cons ha ht hl ih =>
    cases k with
    | nil => omega
    | cons ha' ht' hl' =>
      obtain rfl := ht.uniq ht'
      rw [ih hl']
theorem Toks.le {f : Nat → Nat} {N a : Nat} {l : List Tk} (h : Toks f N a l) : a ≤ N ∧ l.length + a ≤ N := by
  induction h with
  | nil => simp
  | cons ha ht hl ih => have := ht.size_pos; simp; omega
inductive ToksTo (f : Nat → Nat) (N : Nat) : Nat → List Tk → Prop
  | nil : ToksTo f N 0 []
  | snoc {a : Nat} {t : Tk} {l : List Tk} (hl : ToksTo f N a l) (ha : a < N) (ht : IsTok f N a t) : ToksTo f N (a + t.size) (l ++ [t])
theorem ToksTo.join {f : Nat → Nat} {N a : Nat} {l : List Tk} (h : ToksTo f N a l) : ∀ {r : List Tk}, Toks f N a r → Toks f N 0 (l ++ r) := by
  induction h with
  | nil => intro r hr; exact hr
  | snoc hl ha ht ih => intro r hr; rw [List.append_assoc]; exact ih (.cons ha ht hr)
theorem ToksTo.all {f : Nat → Nat} {N : Nat} {l : List Tk} (h : ToksTo f N N l) : Toks f N 0 l := by simpa using h.join .nil
theorem ToksTo.le {f : Nat → Nat} {N a : Nat} {l : List Tk} (h : ToksTo f N a l) : a ≤ N ∧ l.length ≤ a := by
  induction h with
  | nil => simp
  | snoc hl ha ht ih => have := ht.size_pos; have := ht.fits ha; simp; omega
theorem ToksTo.same {f : Nat → Nat} {N a : Nat} {l r : List Tk} (h : ToksTo f N a l) (k : Toks f N 0 (l ++ r)) : Toks f N a r := by
  induction h generalizing r with
  | nil => exact k
  | snoc hl ha ht ih =>
    rw [List.append_assoc] at k
    have := ih k
    cases this with
    | cons ha' ht' hl' => exact hl'
theorem Toks.at {f : Nat → Nat} {N : Nat} {l : List Tk} (h : Toks f N 0 l) {i : Nat} (hi : i < l.length) : ∃ a, ToksTo f N a (l.take i) ∧ a < N ∧ IsTok f N a l[i] ∧ ToksTo f N (a + l[i].size) (l.take (i + 1)) := by
  have key : ∀ i, i ≤ l.length → ∃ a, ToksTo f N a (l.take i) := by
    intro i
    induction i with
    | zero => intro _; exact ⟨0, .nil⟩
    | succ i ih =>
      intro hi
      obtain ⟨a, ha⟩ := ih (by omega)
      have hd := ha.same (r := l.drop i) (by rw [List.take_append_drop]; exact h)
      rw [List.drop_eq_getElem_cons (by omega)] at hd
      cases hd with
      | cons h1 h2 h3 =>
        refine ⟨a + l[i].size, ?_⟩
        rw [List.take_succ_eq_append_getElem (by omega)]
        exact .snoc ha h1 h2
  obtain ⟨a, ha⟩ := key i (by omega)
  have hd := ha.same (r := l.drop i) (by rw [List.take_append_drop]; exact h)
  rw [List.drop_eq_getElem_cons hi] at hd
  cases hd with
  | cons h1 h2 h3 =>
    refine ⟨a, ha, h1, h2, ?_⟩
    rw [List.take_succ_eq_append_getElem hi]
    exact .snoc ha h1 h2
theorem ToksTo.uniq {f : Nat → Nat} {N a a' : Nat} {l : List Tk} (h : ToksTo f N a l) (k : ToksTo f N a' l) : a = a' := by
  induction h generalizing a' with
  | nil =>
    generalize hl : ([] : List Tk) = l at k
    cases k with
    | nil => rfl
    | snoc hl ha ht => simp at hl
  | @snoc a t l hl ha ht ih =>
    generalize hl' : l ++ [t] = l' at k
    cases k with
    | nil => simp at hl'
    | @snoc a2 t2 l2 hl2 ha2 ht2 =>
      obtain ⟨rfl, e⟩ := List.append_inj' hl' rfl
      simp at e
      subst e
      rw [ih hl2]
theorem Toks.end {f : Nat → Nat} {N a : Nat} {l : List Tk} (h : Toks f N 0 l) (k : ToksTo f N a l) : a = N := by
  have := k.same (r := []) (by simpa using h)
  cases this with
  | nil => rfl
structure Scan (f : Nat → Nat) (a m d L D : Nat) : Prop where
  all : ∀ d' n', 1 ≤ d' → d' < d → IsRun f a d' m n' → n' ≤ L ∧ (d' < D → n' < L)
  is : (L = 0 ∧ D = 0) ∨ (1 ≤ L ∧ 1 ≤ D ∧ D < d ∧ IsRun f a D m L)
theorem Scan.start (f : Nat → Nat) (a m : Nat) : Scan f a m 1 0 0 := ⟨fun d' n' h1 h2 => by omega, .inl ⟨rfl, rfl⟩⟩
theorem Scan.more {f : Nat → Nat} {a m d L D n : Nat} (h : Scan f a m d L D) (hd : 1 ≤ d) (hn : IsRun f a d m n) (hg : L < n) : Scan f a m (d + 1) n d :=
  ⟨fun d' n' h1 h2 h3 => by
    by_cases e : d' = d
    · subst e
      have := hn.uniq h3
      exact ⟨by omega, fun h => by omega⟩
    · have := h.all d' n' h1 (by omega) h3
      exact ⟨by omega, fun h => by omega⟩, .inr ⟨by omega, hd, by omega, hn⟩⟩
theorem Scan.less {f : Nat → Nat} {a m d L D n : Nat} (h : Scan f a m d L D) (hn : IsRun f a d m n) (hg : n ≤ L) : Scan f a m (d + 1) L D :=
  ⟨fun d' n' h1 h2 h3 => by
    by_cases e : d' = d
    · subst e
      have := hn.uniq h3
      exact ⟨by omega, fun _ => by rcases h.is with ⟨_, _⟩ | ⟨_, _, _, _⟩ <;> omega⟩
    · exact h.all d' n' h1 (by omega) h3, by
    rcases h.is with h' | ⟨h1, h2, h3, h4⟩
    · exact .inl h'
    · exact .inr ⟨h1, h2, by omega, h4⟩⟩
theorem Scan.rep {f : Nat → Nat} {N a d L D : Nat} (h : Scan f a (mo N a) d L D) (hd : ∀ d', d' ≤ 32768 → d' ≤ a → d' < d) (hda : d ≤ 32769 ∧ d ≤ a + 1) (h3 : 3 ≤ L) : IsTok f N a ⟨0, L, D⟩ := by
  rcases h.is with ⟨h', -⟩ | ⟨h1, h2, h4, h5⟩
  · omega
  · exact .inr ⟨L, D, rfl, h3, h2, by omega, by omega, h5, fun d' n' k1 k2 k3 k4 => h.all d' n' k1 (hd d' k2 k3) k4⟩
theorem Scan.byte {f : Nat → Nat} {N a d L D : Nat} (h : Scan f a (mo N a) d L D) (hd : ∀ d', d' ≤ 32768 → d' ≤ a → d' < d) (h3 : L < 3) : IsTok f N a ⟨f a, 0, 0⟩ :=
  .inl ⟨rfl, fun d' n' k1 k2 k3 k4 => by have := (h.all d' n' k1 (hd d' k2 k3) k4).1; omega⟩
def three (f : Nat → Nat) (p q : Nat) : Prop := f p = f q ∧ f (p + 1) = f (q + 1) ∧ f (p + 2) = f (q + 2)
theorem three.symm {f : Nat → Nat} {p q : Nat} (h : three f p q) : three f q p := ⟨h.1.symm, h.2.1.symm, h.2.2.symm⟩
theorem three.trans {f : Nat → Nat} {p q r : Nat} (h : three f p q) (k : three f q r) : three f p r := ⟨h.1.trans k.1, h.2.1.trans k.2.1, h.2.2.trans k.2.2⟩
structure IsAhead (f : Nat → Nat) (p a : Nat) : Prop where
  le : a ≤ 32768 ∧ a ≤ p
  is : 0 < a → three f p (p - a)
  no : ∀ q, q < p → p - q ≤ 32768 → (0 < a → p - a < q) → ¬ three f p q
theorem IsRun.three {f : Nat → Nat} {a d m n p : Nat} (h : IsRun f a d m n) (h1 : a ≤ p) (h2 : p + 3 ≤ a + n) : three f p (p - d) ∨ p < d ∨ d = 0 := by
  by_cases e : d = 0 ∨ p < d
  · rcases e with e | e
    · exact .inr (.inr e)
    · exact .inr (.inl e)
  have k : ∀ i, i < 3 → f (p + i) = f (p + i - d) := fun i hi => by
    have := h.eq (p - a + i) (by omega)
    rwa [show a + (p - a + i) = p + i by omega] at this
  refine .inl ⟨k 0 (by omega), ?_, ?_⟩
  · rw [k 1 (by omega)]; exact congrArg f (by omega)
  · rw [k 2 (by omega)]; exact congrArg f (by omega)
structure Sea (f : Nat → Nat) (a m L D fr dist : Nat) : Prop where
  is : (L = 0 ∧ D = 0) ∨ (3 ≤ L ∧ 1 ≤ D ∧ D ≤ a ∧ D ≤ 32768 ∧ IsRun f a D m L)
  fr : a ≤ fr ∧ fr + 2 ≤ a + max L 2
  best : ∀ d' n', 1 ≤ d' → d' ≤ D → IsRun f a d' m n' → n' ≤ L ∧ (d' < D → n' < L)
  seen : ∀ d' n', 1 ≤ d' → d' < dist → d' ≤ a → d' ≤ 32768 → IsRun f a d' m n' → n' ≤ max L 2
def Hits (f : Nat → Nat) (fr dist : Nat) : Prop := dist ≤ 32768 ∧ dist ≤ fr ∧ three f fr (fr - dist)
theorem Sea.start (f : Nat → Nat) (a m : Nat) : Sea f a m 0 0 a 1 := ⟨.inl ⟨rfl, rfl⟩, ⟨Nat.le_refl _, by omega⟩, fun d' n' h1 h2 => by omega, fun d' n' h1 h2 => by omega⟩
theorem Hits.zero (f : Nat → Nat) (fr : Nat) : Hits f fr 0 := ⟨by omega, by omega, rfl, rfl, rfl⟩
theorem Sea.gap {f : Nat → Nat} {a m L D fr dist hop s d' n' : Nat} (h : Sea f a m L D fr s) (ht : Hits f fr dist) (hh : IsAhead f (fr - dist) hop) (h1 : dist < d') (h0 : 0 < hop → d' < dist + hop) (h2 : d' ≤ a) (h3 : d' ≤ 32768) (hr : IsRun f a d' m n') : n' ≤ max L 2 := by
  rcases Nat.lt_or_ge (max L 2) n' with e | e
  · exfalso
    have hfr := h.fr
    have hle := hh.le.2
    rcases hr.three hfr.1 (by omega) with k | k | k
    · exact hh.no (fr - d') (by omega) (by omega) (fun g => by have := h0 g; omega) (ht.2.2.symm.trans k)
    · omega
    · omega
  · exact e
theorem Sea.next {f : Nat → Nat} {a m L D fr dist hop : Nat} (h : Sea f a m L D fr (dist + 1)) (ht : Hits f fr dist) (hh : IsAhead f (fr - dist) hop) : Sea f a m L D fr (dist + hop) :=
  ⟨h.is, h.fr, h.best, fun d' n' k1 k2 k3 k4 k5 => by
    by_cases e : d' < dist + 1
    · exact h.seen d' n' k1 e k3 k4 k5
    · exact h.gap ht hh (by omega) (fun _ => k2) k3 k4 k5⟩
theorem Hits.next {f : Nat → Nat} {fr dist hop : Nat} (ht : Hits f fr dist) (hh : IsAhead f (fr - dist) hop) (h0 : 0 < hop) (h3 : dist + hop ≤ 32768) : Hits f fr (dist + hop) :=
  ⟨h3, by have := hh.le.2; have := ht.2.1; omega, ht.2.2.trans (by have := hh.is h0; rwa [Nat.sub_sub] at this)⟩
theorem Sea.none {f : Nat → Nat} {a m L D fr dist : Nat} (h : Sea f a m L D fr (dist + 1)) (ht : Hits f fr dist) (hh : IsAhead f (fr - dist) 0) : Sea f a m L D fr 32769 :=
  ⟨h.is, h.fr, h.best, fun d' n' k1 k2 k3 k4 k5 => by
    by_cases e : d' < dist + 1
    · exact h.seen d' n' k1 e k3 k4 k5
    · exact h.gap ht hh (by omega) (fun h => by omega) k3 k4 k5⟩
theorem Sea.far {f : Nat → Nat} {a m L D fr s : Nat} (h : Sea f a m L D fr s) (hs : 32768 < s ∨ a < s) : Sea f a m L D fr 32769 :=
  ⟨h.is, h.fr, h.best, fun d' n' k1 _ k3 k4 k5 => h.seen d' n' k1 (by omega) k3 k4 k5⟩
theorem Sea.skip {f : Nat → Nat} {a m L D fr dist : Nat} (h : Sea f a m L D fr dist) (hn : ∀ n, IsRun f a dist m n → n ≤ max L 2) : Sea f a m L D fr (dist + 1) :=
  ⟨h.is, h.fr, h.best, fun d' n' k1 k2 k3 k4 k5 => by
    by_cases e : d' = dist
    · subst e; exact hn n' k5
    · exact h.seen d' n' k1 (by omega) k3 k4 k5⟩
theorem Sea.old {f : Nat → Nat} {a m L D fr dist : Nat} (h : Sea f a m L D fr dist) (h1 : 1 ≤ dist) (hd : dist ≤ D) : Sea f a m L D fr (dist + 1) :=
  h.skip fun n hn => by have := (h.best dist n h1 hd hn).1; omega
theorem Sea.found {f : Nat → Nat} {a m L D fr dist n fr' : Nat} (h : Sea f a m L D fr dist) (h1 : 1 ≤ dist) (h2 : dist ≤ a) (h3 : dist ≤ 32768) (hn : IsRun f a dist m n) (hg : max L 2 < n) (hf : a ≤ fr' ∧ fr' + 2 ≤ a + n) : Sea f a m n dist fr' 1 :=
  ⟨.inr ⟨by omega, h1, h2, h3, hn⟩, ⟨hf.1, by omega⟩, fun d' n' k1 k2 k3 => by
    by_cases e : d' = dist
    · subst e
      have := hn.uniq k3
      exact ⟨by omega, fun h => by omega⟩
    · have := h.seen d' n' k1 (by omega) (by omega) (by omega) k3
      exact ⟨by omega, fun _ => by omega⟩, fun d' n' h1 h2 => by omega⟩
theorem Sea.done {f : Nat → Nat} {N a L D fr : Nat} (h : Sea f a (mo N a) L D fr 32769) : (L = 0 → IsTok f N a ⟨f a, 0, 0⟩) ∧ (0 < L → IsTok f N a ⟨0, L, D⟩) := by
  rcases h.is with ⟨e1, e2⟩ | ⟨h1, h2, h3, h4, h5⟩
  · refine ⟨fun _ => .inl ⟨rfl, fun d n k1 k2 k3 k4 => ?_⟩, fun h => by omega⟩
    have := h.seen d n k1 (by omega) k3 k2 k4
    omega
  · refine ⟨fun h => by omega, fun _ => .inr ⟨L, D, rfl, h1, h2, h4, h3, h5, fun d' n' k1 k2 k3 k4 => ⟨?_, fun e => (h.best d' n' k1 (by omega) k4).2 e⟩⟩⟩
    have := h.seen d' n' k1 (by omega) k3 k2 k4
    omega
theorem Sea.full {f : Nat → Nat} {N a L D fr s : Nat} (h : Sea f a (mo N a) L D fr s) (h0 : 0 < L) (hL : L = mo N a) : IsTok f N a ⟨0, L, D⟩ := by
  rcases h.is with ⟨e1, e2⟩ | ⟨h1, h2, h3, h4, h5⟩
  · omega
  · exact .inr ⟨L, D, rfl, h1, h2, h4, h3, h5, fun d' n' k1 k2 k3 k4 => ⟨hL ▸ k4.le, fun e => (h.best d' n' k1 (by omega) k4).2 e⟩⟩
theorem IsTok.short {f : Nat → Nat} {N a : Nat} (h : mo N a < 3) : IsTok f N a ⟨f a, 0, 0⟩ := .inl ⟨rfl, fun d n _ _ _ k => by have := k.le; omega⟩
structure LastF (f : Nat → Nat) (at' : Nat) (F : Nat × Nat × Nat → Option Nat) : Prop where
  is : ∀ k x, F k = some x → x < at' ∧ k = (f x, f (x + 1), f (x + 2)) ∧ ∀ y, x < y → y < at' → (f y, f (y + 1), f (y + 2)) ≠ k
  no : ∀ k, F k = none → ∀ y, y < at' → (f y, f (y + 1), f (y + 2)) ≠ k
theorem three_eq {f : Nat → Nat} {p q : Nat} : three f p q ↔ (f p, f (p + 1), f (p + 2)) = (f q, f (q + 1), f (q + 2)) := by simp [three]
theorem LastF.start (f : Nat → Nat) : LastF f 0 fun _ => none := ⟨fun k x h => (by cases h), fun k _ y h => by omega⟩
theorem LastF.put {f : Nat → Nat} {a : Nat} {F : Nat × Nat × Nat → Option Nat} (h : LastF f a F) : LastF f (a + 1) fun k => if k = (f a, f (a + 1), f (a + 2)) then some a else F k := by
  refine ⟨fun k x hx => ?_, fun k hk y hy => ?_⟩
  · by_cases e : k = (f a, f (a + 1), f (a + 2))
    · simp only [if_pos e, Option.some.injEq] at hx
      subst hx
      exact ⟨by omega, e, fun y h1 h2 => by omega⟩
    · simp only [if_neg e] at hx
      obtain ⟨h1, h2, h3⟩ := h.is k x hx
      refine ⟨by omega, h2, fun y k1 k2 => ?_⟩
      by_cases e' : y = a
      · subst e'; exact fun h => e h.symm
      · exact h3 y k1 (by omega)
  · by_cases e : k = (f a, f (a + 1), f (a + 2))
    · simp only [if_pos e] at hk; cases hk
    · simp only [if_neg e] at hk
      by_cases e' : y = a
      · subst e'; exact fun h => e h.symm
      · exact h.no k hk y (by omega)
def hopOf (F : Nat × Nat × Nat → Option Nat) (f : Nat → Nat) (a : Nat) : Nat := match F (f a, f (a + 1), f (a + 2)) with
  | some x => if a - x ≤ 32768 then a - x else 0
  | none => 0
theorem LastF.hop {f : Nat → Nat} {a : Nat} {F : Nat × Nat × Nat → Option Nat} (h : LastF f a F) : IsAhead f a (hopOf F f a) := by
  unfold hopOf
  cases hF : F (f a, f (a + 1), f (a + 2)) with
  | none =>
    show IsAhead f a 0
    exact ⟨by omega, fun h => by omega, fun q hq _ _ ht => h.no _ hF q hq (three_eq.1 ht).symm⟩
  | some x =>
    obtain ⟨h1, h2, h3⟩ := h.is _ x hF
    show IsAhead f a (if a - x ≤ 32768 then a - x else 0)
    by_cases e : a - x ≤ 32768
    · simp only [if_pos e]
      refine ⟨by omega, fun _ => ?_, fun q hq _ hg ht => h3 q (by have := hg (by omega); omega) hq (three_eq.1 ht).symm⟩
      rw [show a - (a - x) = x by omega]
      exact three_eq.2 h2
    · simp only [if_neg e]
      refine ⟨by omega, fun h => by omega, fun q hq hd _ ht => ?_⟩
      exact h3 q (by omega) hq (three_eq.1 ht).symm
end Go.Proofs.YtoladolgmeanhaaGreat
