/- Several texts in one, each with its own head. -/
import Derived.Test.YtebfdoipogjpnaaGreatQd5
import Derived.Test.YtebfdoipogjpnaaGreatQd25
/- inflate: a writer of laid numbers beside other memory that it leaves alone. -/
namespace Go.Proofs.YtebfdoipogjpnaaGreat
open Go.RowKit Go.Maps

/-- A writer that has P; the blocks G are none of its own, and as they were in W. -/
def WrY (G : Nat → Prop) (base B : Nat) (P : Pt) (W w : World) : Prop :=
  ∃ sv, Wr w base B sv (nmP P) (szP P) ∧ base ≤ w.heap.size ∧ szP P ≤ 8388608 ∧ Turns (fun b => ¬ G b) W w ∧ ∀ b, G b → b ≠ B ∧ sv.ownBlock ≠ some b ∧ b < W.heap.size

theorem WrY.turns {G : Nat → Prop} {base B : Nat} {P : Pt} {W w : World} (h : WrY G base B P W w) : Turns (fun b => ¬ G b) W w := by obtain ⟨_, _, _, _, h, _⟩ := h; exact h
theorem WrY.max {G : Nat → Prop} {base B : Nat} {P : Pt} {W w : World} (h : WrY G base B P W w) : szP P ≤ 8388608 := by obtain ⟨_, _, _, h, _⟩ := h; exact h
theorem WrY.of {G : Nat → Prop} {base B : Nat} {Q : Pt} {W w w' : World} {sv : Value} (h2 : base ≤ w.heap.size) (h4 : Turns (fun b => ¬ G b) W w) (h5 : ∀ b, G b → b ≠ B ∧ sv.ownBlock ≠ some b ∧ b < W.heap.size) (hQ : szP Q ≤ 8388608)
    (hto : WrTo base B sv (nmP Q) (szP Q) w w') : WrY G base B Q W w' := by
  obtain ⟨sv', k1, k2, k3⟩ := hto
  refine ⟨sv', k1, Nat.le_trans h2 k2.size, hQ, h4.trans (k2.mono fun i _ hi hg => ?_), fun b hb => ?_⟩
  · obtain ⟨a1, a2, -⟩ := h5 i hg
    rcases hi with hi | hi
    · exact a1 hi
    · exact a2 hi
  · obtain ⟨a1, a2, a3⟩ := h5 b hb
    refine ⟨a1, fun hs => ?_, a3⟩
    rcases k3 b hs with hs | hs
    · exact a2 hs
    · have := h4.size; omega
theorem putY {G : Nat → Prop} {base B v k : Nat} {P : Pt} {W w : World} (h : WrY G base B P W w) (hv : v < 2 ^ k) (hk : k ≤ 24) (hmax : szP P + k ≤ 8388608) :
    Calls Tryz.prog 158 #[.pointer (some ⟨B, 0, none⟩), .int .u32 (v : Int), .int .i64 (k : Int)] w fun e w' => e = .returned (.int .i64 0) ∧ WrY G base B (P ++ [(v, k)]) W w' := by
  obtain ⟨e1, e2⟩ := nmP_snoc P v k
  obtain ⟨sv, h1, h2, -, h4, h5⟩ := h
  exact (put_ok base B (nmP P) (szP P) v k sv w h1 hv hk hmax h2).mono fun e w' ⟨he, hto⟩ => ⟨he, WrY.of h2 h4 h5 (by rw [e2]; exact hmax) (by rw [e1, e2]; exact hto)⟩
theorem alignY {G : Nat → Prop} {base B : Nat} {P : Pt} {W w : World} (h : WrY G base B P W w) (hmax : szP P + 8 ≤ 8388608) :
    Calls Tryz.prog 119 #[.pointer (some ⟨B, 0, none⟩)] w fun e w' => e = .returned (.int .i64 0) ∧ WrY G base B (P ++ [(0, (8 - szP P % 8) % 8)]) W w' := by
  obtain ⟨e1, e2⟩ := nmP_snoc P 0 ((8 - szP P % 8) % 8)
  rw [Nat.zero_mul, Nat.add_zero] at e1
  obtain ⟨sv, h1, h2, h3, h4, h5⟩ := h
  exact (walign_any base B (nmP P) (szP P) sv w h1 h3 h2).mono fun e w' ⟨he, hto⟩ => ⟨he, WrY.of h2 h4 h5 (by rw [e2]; omega) (by rw [e1, e2]; exact hto)⟩
theorem WrY.below {G : Nat → Prop} {base B : Nat} {P : Pt} {W w w' : World} (h : WrY G base B P W w) (hb : Below w.heap.size w w') : WrY G base B P W w' := by
  obtain ⟨sv, h1, h2, h3, h4, h5⟩ := h
  exact ⟨sv, h1.below hb, Nat.le_trans h2 hb.size, h3, h4.trans (Turns.of_below' hb), h5⟩
/-- What is new beside it is left alone, too. -/
theorem WrY.more {G : Nat → Prop} {base B : Nat} {P : Pt} {W w w' : World} (h : WrY G base B P W w) (hb : Below w.heap.size w w') : WrY (fun b => G b ∨ (w.heap.size ≤ b ∧ b < w'.heap.size)) base B P w' w' := by
  obtain ⟨sv, h1, h2, h3, h4, h5⟩ := h
  refine ⟨sv, h1.below hb, Nat.le_trans h2 hb.size, h3, Turns.refl _ _, fun b hb' => ?_⟩
  have hs := h1.size
  rcases hb' with hg | ⟨g1, g2⟩
  · obtain ⟨a1, a2, a3⟩ := h5 b hg
    exact ⟨a1, a2, by have := h4.size; have := hb.size; omega⟩
  · refine ⟨by omega, fun e => ?_, g2⟩
    have := (h1.own.lt b e).2
    omega
theorem WrY.less {G G' : Nat → Prop} {base B : Nat} {P : Pt} {W W' w : World} (h : WrY G' base B P W' w) (hG : ∀ b, G b → G' b ∧ b < W.heap.size) (ht : Turns (fun b => ¬ G b) W W') : WrY G base B P W w := by
  obtain ⟨sv, h1, h2, h3, h4, h5⟩ := h
  refine ⟨sv, h1, h2, h3, ht.trans (h4.mono fun i _ hi hg => hi (hG i hg).1), fun b hb => ?_⟩
  obtain ⟨a1, a2, -⟩ := h5 b (hG b hb).1
  exact ⟨a1, a2, (hG b hb).2⟩
theorem WrY.congr {G : Nat → Prop} {base B : Nat} {P Q : Pt} {W w : World} (h : WrY G base B P W w) (e : P = Q) : WrY G base B Q W w := e ▸ h
theorem WrY.owns {G : Nat → Prop} {base B : Nat} {P : Pt} {W w : World} (h : WrY G base B P W w) {bs : Nat} {e : TypeId} {size : Nat} {v : Value} {n : Nat} {xs : List Value} (hc : W.ownsRow bs e size v n xs) (hn : ∀ k, v.ownBlock = some k → G k) : w.ownsRow bs e size v n xs :=
  h.turns.owns hc fun k hk hg => hg (hn k hk)
theorem WrY.cell {G : Nat → Prop} {base B : Nat} {P : Pt} {W w : World} (h : WrY G base B P W w) {p : Addr} {v : Value} (hc : W.cell? p = some v) (hn : G p.block) : w.cell? p = some v :=
  h.turns.cell hc fun hg => hg hn

/-- A writer beside G as in W, and beside what F tells, which hangs on guarded blocks alone. -/
def WrF (G : Nat → Prop) (W : World) (F : World → Prop) (base B : Nat) (P : Pt) (w : World) : Prop :=
  ∃ (G' : Nat → Prop) (W' : World), WrY G' base B P W' w ∧ (∀ b, G b → G' b ∧ b < W.heap.size) ∧ Turns (fun b => ¬ G b) W W' ∧ ∀ w', Turns (fun b => ¬ G' b) W' w' → F w'

theorem WrF.start {G : Nat → Prop} {W w : World} {F : World → Prop} {base B : Nat} {P : Pt} (h : WrY G base B P W w) (hF : ∀ w', Turns (fun b => ¬ G b) W w' → F w') : WrF G W F base B P w :=
  ⟨G, W, h, fun b hb => ⟨hb, by obtain ⟨_, _, _, _, _, h5⟩ := h; exact (h5 b hb).2.2⟩, Turns.refl _ _, hF⟩
theorem WrF.now {G : Nat → Prop} {W w : World} {F : World → Prop} {base B : Nat} {P : Pt} (h : WrF G W F base B P w) : F w := by
  obtain ⟨G', W', h1, -, -, h4⟩ := h; exact h4 w h1.turns
theorem WrF.max {G : Nat → Prop} {W w : World} {F : World → Prop} {base B : Nat} {P : Pt} (h : WrF G W F base B P w) : szP P ≤ 8388608 := by
  obtain ⟨G', W', h1, -⟩ := h; exact h1.max
theorem WrF.done {G : Nat → Prop} {W w : World} {F : World → Prop} {base B : Nat} {P : Pt} (h : WrF G W F base B P w) : WrY G base B P W w := by
  obtain ⟨G', W', h1, h2, h3, -⟩ := h; exact h1.less h2 h3
theorem WrF.put {G : Nat → Prop} {W w : World} {F : World → Prop} {base B v k : Nat} {P : Pt} (h : WrF G W F base B P w) (hv : v < 2 ^ k) (hk : k ≤ 24) (hmax : szP P + k ≤ 8388608) :
    Calls Tryz.prog 158 #[.pointer (some ⟨B, 0, none⟩), .int .u32 (v : Int), .int .i64 (k : Int)] w fun e w' => e = .returned (.int .i64 0) ∧ WrF G W F base B (P ++ [(v, k)]) w' := by
  obtain ⟨G', W', h1, h2, h3, h4⟩ := h
  exact (putY h1 hv hk hmax).mono fun e w' ⟨he, h5⟩ => ⟨he, G', W', h5, h2, h3, h4⟩
theorem WrF.align {G : Nat → Prop} {W w : World} {F : World → Prop} {base B : Nat} {P : Pt} (h : WrF G W F base B P w) (hmax : szP P + 8 ≤ 8388608) :
    Calls Tryz.prog 119 #[.pointer (some ⟨B, 0, none⟩)] w fun e w' => e = .returned (.int .i64 0) ∧ WrF G W F base B (P ++ [(0, (8 - szP P % 8) % 8)]) w' := by
  obtain ⟨G', W', h1, h2, h3, h4⟩ := h
  exact (alignY h1 hmax).mono fun e w' ⟨he, h5⟩ => ⟨he, G', W', h5, h2, h3, h4⟩
theorem WrF.below {G : Nat → Prop} {W w w' : World} {F : World → Prop} {base B : Nat} {P : Pt} (h : WrF G W F base B P w) (hb : Below w.heap.size w w') : WrF G W F base B P w' := by
  obtain ⟨G', W', h1, h2, h3, h4⟩ := h
  exact ⟨G', W', h1.below hb, h2, h3, h4⟩
theorem WrF.more {G : Nat → Prop} {W w w' : World} {F F2 : World → Prop} {base B : Nat} {P : Pt} (h : WrF G W F base B P w) (hb : Below w.heap.size w w')
    (hF : ∀ w'', Turns (fun b => ¬ (w.heap.size ≤ b ∧ b < w'.heap.size)) w' w'' → F2 w'') : WrF G W (fun w => F w ∧ F2 w) base B P w' := by
  obtain ⟨G', W', h1, h2, h3, h4⟩ := h
  refine ⟨_, w', h1.more hb, fun b hg => ⟨.inl (h2 b hg).1, (h2 b hg).2⟩, h3.trans (((h1.turns).trans (Turns.of_below' hb)).mono fun i _ hi hg => hi (h2 i hg).1), fun w'' ht => ⟨h4 w'' ?_, hF w'' (ht.mono fun i _ hi hn => hi (.inr hn))⟩⟩
  exact ((h1.turns).trans (Turns.of_below' hb)).trans (ht.mono fun i _ hi hn => hi (.inl hn))
theorem WrF.weak {G : Nat → Prop} {W w : World} {F F2 : World → Prop} {base B : Nat} {P : Pt} (h : WrF G W F base B P w) (hF : ∀ w, F w → F2 w) : WrF G W F2 base B P w := by
  obtain ⟨G', W', h1, h2, h3, h4⟩ := h
  exact ⟨G', W', h1, h2, h3, fun w' ht => hF w' (h4 w' ht)⟩
theorem WrF.congr {G : Nat → Prop} {W w : World} {F : World → Prop} {base B : Nat} {P Q : Pt} (h : WrF G W F base B P w) (e : P = Q) : WrF G W F base B Q w := e ▸ h
theorem new_owns {w w' w'' : World} (ht : Turns (fun b => ¬ (w.heap.size ≤ b ∧ b < w'.heap.size)) w' w'') {e : TypeId} {size : Nat} {v : Value} {n : Nat} {xs : List Value} (h : w'.ownsRow w.heap.size e size v n xs) : w''.ownsRow w.heap.size e size v n xs :=
  ht.owns h fun k hk hn => hn (h.lt k hk)
theorem new_cell {w w' w'' : World} (ht : Turns (fun b => ¬ (w.heap.size ≤ b ∧ b < w'.heap.size)) w' w'') {p : Addr} {v : Value} (hp : w.heap.size ≤ p.block) (h : w'.cell? p = some v) : w''.cell? p = some v :=
  ht.cell h fun hn => hn ⟨hp, World.block_lt_of_cell? _ _ h⟩

end Go.Proofs.YtebfdoipogjpnaaGreat

/- inflate, plainly: blocks that are laid are told: stored, by the fixed codes, by their own. -/
namespace Go.Proofs.YtebfdoipogjpnaaGreat

/-- The lengths by which a dynamic block's lengths are laid. -/
def clens : List Nat := List.replicate 13 4 ++ List.replicate 6 5
theorem clens_chk : chk clens = 0 := by decide +kernel
theorem clens_has : ∀ v, v < 16 → v < clens.length ∧ 0 < lq clens v := by decide +kernel

theorem clF_of {l : List Nat} {b : Nat} {f : Nat → Nat} (h : ∀ k, k < 19 → nb l (b + 3 * k) 3 = f (ordL.getD k 0)) : ∀ k, k ≤ 19 → ∀ i, i ∈ ordL.take k → clF l b k i = f i
  | 0, _, i, hi => by simp at hi
  | k + 1, hk, i, hi => by
    show (if i = ordL.getD k 0 then nb l (b + 3 * k) 3 else clF l b k i) = f i
    have hk' : k < ordL.length := by show k < 19; omega
    by_cases e : i = ordL.getD k 0
    · rw [if_pos e, h k (by omega), e]
    · rw [if_neg e]
      refine clF_of h k (by omega) i ?_
      rw [List.take_succ_eq_append_getElem hk', List.mem_append, List.mem_singleton] at hi
      rcases hi with hi | hi
      · exact hi
      · exact absurd (by rw [hi, List.getD_eq_getElem?_getD, List.getElem?_eq_getElem hk']; rfl) e
theorem ordL_all : ∀ i, i < 19 → i ∈ ordL := by decide
theorem clL_of {l : List Nat} {b : Nat} (h : ∀ k, k < 19 → nb l (b + 3 * k) 3 = lq clens (ordL.getD k 0)) : clL l b 19 = clens := by
  have e : clens = (List.range 19).map (lq clens) := by decide +kernel
  rw [e]
  unfold clL
  refine List.map_congr_left fun i hi => ?_
  exact clF_of (f := lq clens) h 19 (Nat.le_refl _) i (ordL_all i (List.mem_range.1 hi))

theorem AtP.threes {l : List Nat} (f : Nat → Nat) : ∀ {xs : List Nat} {b : Nat} {q : Pt}, AtP l b (xs.map (fun i => (f i, 3)) ++ q) → ∀ k, k < xs.length → nb l (b + 3 * k) 3 = f (xs.getD k 0)
  | [], _, _, _, k, hk => absurd hk (by simp)
  | x :: xs, b, q, h, 0, _ => h.1
  | x :: xs, b, q, h, k + 1, hk => by
    have := AtP.threes f (xs := xs) h.2.2 k (by simpa using hk)
    rw [show b + 3 * (k + 1) = b + 3 + 3 * k by omega]
    exact this
theorem szP_threes (f : Nat → Nat) : ∀ xs : List Nat, szP (xs.map fun i => (f i, 3)) = 3 * xs.length
  | [] => rfl
  | x :: xs => by rw [List.map_cons, szP, szP_threes f xs, List.length_cons]; omega

/-- How lengths are laid. -/
def putV (vs : List Nat) : Pt := vs.map fun v => (cd (lq clens) clens.length v, lq clens v)
theorem vs_ls {l : List Nat} (n : Nat) : ∀ {vs ls : List Nat} {a : Nat} {q : Pt}, (∀ v ∈ vs, v < 16) → AtP l a (putV vs ++ q) → ls.length + vs.length = n → InfLs clens l n a ls (.go (a + szP (putV vs)) (ls ++ vs))
  | [], ls, a, q, _, _, hn => by
    have : InfLs clens l n a ls (.go a ls) := .fin a ls (by simp at hn; omega)
    simpa [putV, szP] using this
  | v :: vs, ls, a, q, hv, h, hn => by
    have h16 := hv v List.mem_cons_self
    obtain ⟨c1, c2⟩ := clens_has v h16
    obtain ⟨s1, h2⟩ := AtP.sy clens_chk c1 c2 (q := putV vs ++ q) h
    have hle : a + lq clens v ≤ 8 * l.length := h.2.1
    have hg := InfSv.go (C := clens) (l := l) (n := n) (a := a) (ls := ls) v (lq clens v) 0 1 v s1 (.inr (.inr (.inr ⟨h16, rfl, rfl, rfl⟩))) (by omega) (by rw [nb_zero]; rw [List.length_cons] at hn; omega)
    rw [nb_zero, Nat.add_zero, Nat.add_zero, List.replicate_one] at hg
    have hr := vs_ls n (vs := vs) (ls := ls ++ [v]) (fun x hx => hv x (List.mem_cons_of_mem _ hx)) h2 (by rw [List.length_cons] at hn; simp; omega)
    have h3 := InfLs.more _ _ _ _ _ (by rw [List.length_cons] at hn; omega) hg hr
    rw [List.append_assoc, List.singleton_append, Nat.add_assoc] at h3
    exact h3

/-- A dynamic block's codes, as they are laid. -/
def putO (x y : List Nat) : Pt := (29, 5) :: (29, 5) :: (15, 4) :: (ordL.map (fun i => (lq clens i, 3)) ++ putV (x ++ y))
theorem own_dy {l x y : List Nat} (hx : x.length = 286) (hy : y.length = 30) (h15 : ∀ v ∈ x ++ y, v < 16) (cx : chk x = 0) (cy : chk y = 0) (h0 : 0 < lq x 256) {a : Nat} {q : Pt} (h : AtP l a (putO x y ++ q)) : InfDy l a 286 (.go (a + szP (putO x y)) (x ++ y)) := by
  obtain ⟨p1, q1, p2, q2, p3, q3, h⟩ := h
  simp only at p1 q1 p2 q2 p3 q3 h
  rw [show a + 5 + 5 = a + 10 by omega] at p3 q3 h
  rw [show a + 10 + 4 = a + 14 by omega] at q3 h
  change AtP l (a + 14) ((ordL.map (fun i => (lq clens i, 3)) ++ putV (x ++ y)) ++ q) at h
  rw [List.append_assoc] at h
  have hcl := clL_of (AtP.threes (lq clens) (xs := ordL) h)
  obtain ⟨-, h2⟩ := h.app
  rw [szP_threes, show ordL.length = 19 from rfl] at h2
  have hls := vs_ls 316 (ls := []) h15 h2 (by rw [List.length_nil, List.length_append]; omega)
  have hend : a + 14 + 57 ≤ 8 * l.length := by
    cases x with
    | nil => simp at hx
    | cons v r => exact Nat.le_trans (Nat.le_add_right _ _) h2.2.1
  have e1 : nb l a 5 + 257 = 286 := by rw [p1]
  have e2 : nb l (a + 5) 5 + 1 = 30 := by rw [p2]
  have e3 : nb l (a + 10) 4 + 4 = 19 := by rw [p3]
  have ht : (x ++ y).take 286 = x := by rw [← hx, List.take_left]
  have hd : (x ++ y).drop 286 = y := by rw [← hx, List.drop_left]
  have hq : lq (x ++ y) 256 = lq x 256 := by
    unfold lq
    rw [List.getD_eq_getElem?_getD, List.getD_eq_getElem?_getD, List.getElem?_append_left (by omega)]
  have := InfDy.done (l := l) (a := a) q3 (by rw [e1, e2]; omega) (by rw [e3]; omega) (by rw [e3, hcl]; exact clens_chk) _ (x ++ y) (by
    rw [e1, e2, e3, hcl]
    rw [List.nil_append] at hls
    exact hls) (by rw [e1, hq, ht, hd]; exact ⟨by omega, cx, cy⟩)
  rw [e1] at this
  rw [show a + szP (putO x y) = a + 14 + 3 * 19 + szP (putV (x ++ y)) by
    unfold putO
    simp only [szP, szP_app, szP_threes, show ordL.length = 19 from rfl]
    omega]
  exact this

/-- Bytes that are laid by eight bits each. -/
theorem AtP.bytes {l : List Nat} : ∀ {bs : List Nat} {a : Nat} {q : Pt}, AtP l a (bs.map (fun b => (b, 8)) ++ q) → bys l a bs.length = bs ∧ (bs = [] ∨ a + 8 * bs.length ≤ 8 * l.length)
  | [], a, q, _ => ⟨rfl, .inl rfl⟩
  | b :: bs, a, q, h => by
    obtain ⟨h1, h2, h3⟩ := h
    simp only at h1 h2 h3
    obtain ⟨h4, h5⟩ := AtP.bytes (bs := bs) h3
    refine ⟨?_, .inr ?_⟩
    · unfold bys at h4 ⊢
      rw [List.length_cons, List.range_succ_eq_map, List.map_cons, List.map_map, Nat.mul_zero, Nat.add_zero, h1]
      congr 1
      conv => rhs; rw [← h4]
      refine List.map_congr_left fun i _ => ?_
      show nb l (a + 8 * (i + 1)) 8 = nb l (a + 8 + 8 * i) 8
      rw [show a + 8 * (i + 1) = a + 8 + 8 * i by omega]
    · rcases h5 with rfl | h5
      · simp; omega
      · rw [List.length_cons]; omega
theorem szP_bys : ∀ bs : List Nat, szP (bs.map fun b => (b, 8)) = 8 * bs.length
  | [] => rfl
  | b :: bs => by rw [List.map_cons, szP, szP_bys bs, List.length_cons]; omega

/-- A stored block, behind its type, laid from a on. -/
def putS (a : Nat) (bs : List Nat) : Pt := (0, (8 - a % 8) % 8) :: (bs.length, 16) :: (65535 - bs.length, 16) :: bs.map fun b => (b, 8)
theorem szP_putS (a : Nat) (bs : List Nat) : a + szP (putS a bs) = alN a + 32 + 8 * bs.length := by
  unfold putS alN
  simp only [szP, szP_bys]
  omega
theorem stored_sd {l bs o : List Nat} {a lim : Nat} (hb : bs.length ≤ 65535) {q : Pt} (h : AtP l a (putS a bs ++ q)) :
    (o.length + bs.length ≤ lim → InfSd l lim a o (.go (a + szP (putS a bs)) (o ++ bs))) ∧ (lim < o.length + bs.length → InfSd l lim a o (.no 81)) := by
  obtain ⟨-, -, p2, q2, p3, q3, h⟩ := h
  simp only at p2 q2 p3 q3 h
  have e : a + (8 - a % 8) % 8 = alN a := rfl
  rw [e] at p2 q2 p3 q3 h
  rw [show alN a + 16 + 16 = alN a + 32 by omega] at q3 h
  obtain ⟨h4, h5⟩ := AtP.bytes h
  have hs : nb l (alN a + 16) 16 + nb l (alN a) 16 = 65535 := by rw [p2, p3]; omega
  refine ⟨fun hl => ?_, fun hl => .over q3 hs (by rw [p2]; exact hl)⟩
  have := InfSd.done (l := l) (lim := lim) (a := a) (o := o) q3 hs (by rw [p2]; exact hl) (by
    rw [p2]
    rcases h5 with rfl | h5
    · simpa using q3
    · exact h5)
  rw [p2, h4] at this
  rw [szP_putS]
  exact this

end Go.Proofs.YtebfdoipogjpnaaGreat

/- inflate, plainly: all blocks that are laid, one behind the other, are told. -/
namespace Go.Proofs.YtebfdoipogjpnaaGreat

/-- A block that is laid: stored bytes; tokens by the fixed codes; tokens by codes of its own. -/
inductive Bn where
  | st (bs : List Nat)
  | fx (ts : List Tn)
  | dy (x y : List Nat) (ts : List Tn)
def Bn.kind : Bn → Nat
  | .st _ => 0
  | .fx _ => 1
  | .dy _ _ _ => 2
def endP (A : List Nat) : Pt := [(cd (lq A) A.length 256, lq A 256)]
def Bn.body (a : Nat) : Bn → Pt
  | .st bs => putS a bs
  | .fx ts => laidT fixA fixD ts ++ endP fixA
  | .dy x y ts => putO x y ++ (laidT x y ts ++ endP x)
def Bn.put (a : Nat) (last : Bool) (b : Bn) : Pt := (if last then 1 else 0, 1) :: (b.kind, 2) :: b.body (a + 3)
def Bn.tell (b : Bn) (o : List Nat) : List Nat := match b with
  | .st bs => o ++ bs
  | .fx ts => toldT ts o
  | .dy _ _ ts => toldT ts o
def Bn.ok (b : Bn) (o : List Nat) : Prop := match b with
  | .st bs => bs.length ≤ 65535 ∧ ∀ x ∈ bs, x < 256
  | .fx ts => mayT fixA fixD ts o
  | .dy x y ts => x.length = 286 ∧ y.length = 30 ∧ (∀ v ∈ x ++ y, v < 16) ∧ chk x = 0 ∧ chk y = 0 ∧ 0 < lq x 256 ∧ mayT x y ts o
theorem Bn.tell_len (b : Bn) (o : List Nat) : o.length ≤ (b.tell o).length := by
  cases b with
  | st bs => show o.length ≤ (o ++ bs).length; simp
  | fx ts => exact toldT_len ts o
  | dy x y ts => exact toldT_len ts o

theorem fix_256 : 256 < fixA.length ∧ 0 < lq fixA 256 := by decide +kernel

theorem bn_bk {l o : List Nat} {b : Bn} (hb : b.ok o) {a lim : Nat} {last : Bool} {q : Pt} (h : AtP l a (b.put a last ++ q)) :
    ((b.tell o).length ≤ lim → InfBk l lim (a + 1) o (.go (a + szP (b.put a last)) (b.tell o))) ∧ (o.length ≤ lim → lim < (b.tell o).length → InfBk l lim (a + 1) o (.no 81)) := by
  obtain ⟨-, -, p2, q2, h⟩ := h
  simp only at p2 q2 h
  change AtP l (a + 1 + 2) (b.body (a + 3) ++ q) at h
  have e : szP (b.put a last) = 3 + szP (b.body (a + 3)) := by unfold Bn.put; simp only [szP]; omega
  cases b with
  | st bs =>
    obtain ⟨s1, s2⟩ := stored_sd (lim := lim) (o := o) hb.1 h
    have hl : ((Bn.st bs).tell o).length = o.length + bs.length := List.length_append
    rw [hl, e]
    refine ⟨fun h1 => ?_, fun _ h1 => .stored q2 p2 _ (s2 h1)⟩
    rw [← Nat.add_assoc]
    exact .stored q2 p2 _ (s1 h1)
  | fx ts =>
    obtain ⟨c1, c2⟩ := fix_256
    change AtP l (a + 1 + 2) ((laidT fixA fixD ts ++ endP fixA) ++ q) at h
    rw [List.append_assoc] at h
    obtain ⟨t1, t2⟩ := tn_toks fixA_chk fixD_chk c1 c2 lim (ts := ts) hb h
    rw [e]
    refine ⟨fun h1 => ?_, fun h0 h1 => .fixed q2 p2 _ (t2 h0 h1)⟩
    have h3 := InfBk.fixed q2 p2 _ (t1 h1)
    rw [show a + (3 + szP ((Bn.fx ts).body (a + 3))) = a + 1 + 2 + szP (laidT fixA fixD ts) + lq fixA 256 by
      show a + (3 + szP (laidT fixA fixD ts ++ endP fixA)) = _
      rw [szP_app]; simp only [endP, szP]; omega]
    exact h3
  | dy x y ts =>
    obtain ⟨hx, hy, h15, cx, cy, h0, ht⟩ := hb
    change AtP l (a + 1 + 2) ((putO x y ++ (laidT x y ts ++ endP x)) ++ q) at h
    rw [List.append_assoc] at h
    have hd := own_dy hx hy h15 cx cy h0 h
    obtain ⟨-, h⟩ := h.app
    rw [List.append_assoc] at h
    obtain ⟨t1, t2⟩ := tn_toks cx cy (by omega) h0 lim (ts := ts) ht h
    have e1 : (x ++ y).take 286 = x := by rw [← hx, List.take_left]
    have e2 : (x ++ y).drop 286 = y := by rw [← hx, List.drop_left]
    have key : ∀ r, InfToks x y l lim (a + 1 + 2 + szP (putO x y)) o r → InfBk l lim (a + 1) o r := fun r hr => .dyn q2 p2 286 _ _ hd r (by rw [e1, e2]; exact hr)
    rw [e]
    refine ⟨fun h1 => ?_, fun h0 h1 => key _ (t2 h0 h1)⟩
    have h3 := key _ (t1 h1)
    rw [show a + (3 + szP ((Bn.dy x y ts).body (a + 3))) = a + 1 + 2 + szP (putO x y) + szP (laidT x y ts) + lq x 256 by
      show a + (3 + szP (putO x y ++ (laidT x y ts ++ endP x))) = _
      rw [szP_app, szP_app]; simp only [endP, szP]; omega]
    exact h3

def putB : Nat → List Bn → Pt
  | _, [] => []
  | a, b :: r => b.put a r.isEmpty ++ putB (a + szP (b.put a r.isEmpty)) r
def tellB : List Bn → List Nat → List Nat
  | [], o => o
  | b :: r, o => tellB r (b.tell o)
def okB : List Bn → List Nat → Prop
  | [], _ => True
  | b :: r, o => b.ok o ∧ okB r (b.tell o)
theorem tellB_len : ∀ (bs : List Bn) (o : List Nat), o.length ≤ (tellB bs o).length
  | [], _ => Nat.le_refl _
  | b :: r, o => Nat.le_trans (b.tell_len o) (tellB_len r (b.tell o))

theorem bn_bl {l : List Nat} (lim : Nat) : ∀ {bs : List Bn} {o : List Nat}, bs ≠ [] → okB bs o → ∀ {a : Nat} {q : Pt}, AtP l a (putB a bs ++ q) →
    ((tellB bs o).length ≤ lim → InfBl l lim a o (.go (a + szP (putB a bs)) (tellB bs o))) ∧ (o.length ≤ lim → lim < (tellB bs o).length → InfBl l lim a o (.no 81))
  | [], _, h0, _, _, _, _ => absurd rfl h0
  | [b], o, _, hb, a, q, h => by
    have e : putB a [b] = b.put a true := by simp [putB]
    rw [e] at h ⊢
    obtain ⟨t1, t2⟩ := bn_bk (lim := lim) hb.1 h
    have p1 : nb l a 1 = 1 := h.1
    have q1 : a + 1 ≤ 8 * l.length := h.2.1
    exact ⟨fun h1 => .last _ _ q1 p1 _ _ (t1 h1), fun h0 h1 => .no _ _ q1 _ (t2 h0 h1)⟩
  | b :: c :: r, o, _, hb, a, q, h => by
    have e : putB a (b :: c :: r) = b.put a false ++ putB (a + szP (b.put a false)) (c :: r) := by rw [putB]; rfl
    rw [e] at h ⊢
    rw [List.append_assoc] at h
    obtain ⟨t1, t2⟩ := bn_bk (lim := lim) hb.1 h
    have p1 : nb l a 1 = 0 := h.1
    have q1 : a + 1 ≤ 8 * l.length := h.2.1
    obtain ⟨-, h⟩ := h.app
    obtain ⟨r1, r2⟩ := bn_bl lim (bs := c :: r) (o := b.tell o) (by simp) hb.2 h
    have hle := tellB_len (c :: r) (b.tell o)
    have et : tellB (b :: c :: r) o = tellB (c :: r) (b.tell o) := rfl
    rw [et, szP_app, ← Nat.add_assoc]
    refine ⟨fun h1 => .more _ _ q1 (by omega) _ _ (t1 (by omega)) _ (r1 h1), fun h0 h1 => ?_⟩
    by_cases h5 : (b.tell o).length ≤ lim
    · exact .more _ _ q1 (by omega) _ _ (t1 h5) _ (r2 h5 h1)
    · exact .no _ _ q1 _ (t2 h0 (by omega))

theorem cd_low (f : Nat → Nat) (N i : Nat) : cd f N i < 2 ^ f i := trn_low _ _
theorem okP_cons {p : Nat × Nat} {P : Pt} (h : p.1 < 2 ^ p.2) (hP : okP P) : okP (p :: P) := fun x hx => by
  rcases List.mem_cons.1 hx with rfl | hx
  · exact h
  · exact hP x hx
theorem okP_nil : okP [] := fun _ h => by simp at h
theorem tn_okP {A D : List Nat} {t : Tn} {o : List Nat} (h : t.ok A D o) : okP (t.put A D) := by
  unfold Tn.put
  split
  · exact okP_one (cd_low _ _ _)
  · rename_i h0
    obtain ⟨n1, n2, d1, d2, -⟩ := h.2 h0
    obtain ⟨-, -, -, s4⟩ := lnSym_ok t.n (by omega) n1
    obtain ⟨-, -, r3⟩ := dsSym_ok d1 d2
    exact okP_cons (cd_low _ _ _) (okP_cons s4 (okP_cons (cd_low _ _ _) (okP_cons r3 okP_nil)))
theorem tnT_okP {A D : List Nat} : ∀ {ts : List Tn} {o : List Nat}, mayT A D ts o → okP (laidT A D ts)
  | [], _, _ => okP_nil
  | _ :: r, _, h => okP_app (tn_okP h.1) (tnT_okP (ts := r) h.2)
theorem clens_small : ∀ i, lq clens i < 2 ^ 3 := fun i => by
  by_cases h : i < 19
  · have : ∀ i, i < 19 → lq clens i < 2 ^ 3 := by decide +kernel
    exact this i h
  · unfold lq
    rw [List.getD_eq_getElem?_getD, List.getElem?_eq_none (by show 19 ≤ i; omega)]
    decide
theorem putO_okP (x y : List Nat) : okP (putO x y) := by
  refine okP_cons (by decide) (okP_cons (by decide) (okP_cons (by decide) (okP_app (fun p hp => ?_) (fun p hp => ?_))))
  · obtain ⟨i, -, rfl⟩ := List.mem_map.1 hp
    exact clens_small i
  · obtain ⟨v, -, rfl⟩ := List.mem_map.1 hp
    exact cd_low _ _ _
theorem bn_okP {b : Bn} {o : List Nat} (h : b.ok o) (a : Nat) (last : Bool) : okP (b.put a last) := by
  refine okP_cons (by cases last <;> decide) (okP_cons (by show b.kind < 4; cases b <;> (show _ < 4; simp [Bn.kind])) ?_)
  cases b with
  | st bs =>
    obtain ⟨h1, h2⟩ := h
    refine okP_cons (Nat.two_pow_pos _) (okP_cons (by show bs.length < 65536; omega) (okP_cons (by show 65535 - bs.length < 65536; omega) (fun p hp => ?_)))
    obtain ⟨x, hx, rfl⟩ := List.mem_map.1 hp
    exact h2 x hx
  | fx ts => exact okP_app (tnT_okP (o := o) h) (okP_one (cd_low _ _ _))
  | dy x y ts => exact okP_app (putO_okP x y) (okP_app (tnT_okP (o := o) h.2.2.2.2.2.2) (okP_one (cd_low _ _ _)))
theorem bnB_okP : ∀ {bs : List Bn} {o : List Nat}, okB bs o → ∀ a, okP (putB a bs)
  | [], _, _, _ => okP_nil
  | _ :: r, _, h, _ => okP_app (bn_okP h.1 _ _) (bnB_okP (bs := r) h.2 _)

/-- What was laid is told, whatever is behind; with a lesser limit it is too much. -/
theorem laid_infl {bs : List Bn} (h0 : bs ≠ []) (h : okB bs []) (m : List Nat) {lim : Nat} (hl : lim ≤ 524288) :
    ((tellB bs []).length ≤ lim → Infl (bytP (putB 0 bs) ++ m) lim (tellB bs []) (bytP (putB 0 bs)).length 0) ∧ (lim < (tellB bs []).length → Infl (bytP (putB 0 bs) ++ m) lim [] 0 81) := by
  have ha := atP_all (bnB_okP h 0) m
  rw [← List.append_nil (putB 0 bs)] at ha
  obtain ⟨t1, t2⟩ := bn_bl lim h0 h ha
  rw [List.append_nil] at t1 t2
  refine ⟨fun h1 => ?_, fun h1 => .no lim 81 rfl hl (t2 (Nat.zero_le _) h1)⟩
  have := Infl.go lim _ _ rfl hl (t1 h1)
  rw [bytP_len]
  rw [show (szP (putB 0 bs) + 7) / 8 = alN (0 + szP (putB 0 bs)) / 8 by unfold alN; omega]
  exact this

end Go.Proofs.YtebfdoipogjpnaaGreat
