/- What the statements ask of best lengths: who is more frequent has no longer code; twice the frequencies, twice the cost; Lengths whatever is asked. -/
import Derived.Test.YtajidlihepjegaaK822
namespace Go.Proofs.Ytajidlihepjegaa
open Go.RowKit

theorem sm_swap {h h' : Nat → Nat} {a b : Nat} (hab : a ≠ b) (he : ∀ i, i ≠ a → i ≠ b → h i = h' i) : ∀ {n : Nat}, a < n → b < n → sm n h + h' a + h' b = sm n h' + h a + h b := by
  intro n
  have key : ∀ n, sm n h + (if a < n then h' a else 0) + (if b < n then h' b else 0) = sm n h' + (if a < n then h a else 0) + (if b < n then h b else 0) := by
    intro n
    induction n with
    | zero => simp [sm]
    | succ n ih =>
      simp only [sm]
      by_cases ha : n = a
      · subst ha
        rw [if_neg (by omega : ¬ n < n)] at ih
        rw [if_neg (by omega : ¬ n < n)] at ih
        rw [if_pos (by omega : n < n + 1), if_pos (by omega : n < n + 1)]
        by_cases hb : b < n
        · rw [if_pos hb, if_pos hb] at ih
          rw [if_pos (by omega), if_pos (by omega)]
          omega
        · rw [if_neg hb, if_neg hb] at ih
          rw [if_neg (by omega), if_neg (by omega)]
          omega
      · by_cases hb : n = b
        · subst hb
          rw [if_neg (by omega : ¬ n < n), if_neg (by omega : ¬ n < n)] at ih
          rw [if_pos (by omega : n < n + 1), if_pos (by omega : n < n + 1)]
          by_cases ha2 : a < n
          · rw [if_pos ha2, if_pos ha2] at ih
            rw [if_pos (by omega), if_pos (by omega)]
            omega
          · rw [if_neg ha2, if_neg ha2] at ih
            rw [if_neg (by omega), if_neg (by omega)]
            omega
        · have := he n ha hb
          have e1 : (a < n + 1) = (a < n) := by rw [eq_iff_iff]; omega
          have e2 : (b < n + 1) = (b < n) := by rw [eq_iff_iff]; omega
          simp only [e1, e2]
          omega
  intro ha hb
  have := key n
  rw [if_pos ha, if_pos hb, if_pos ha, if_pos hb] at this
  exact this

theorem many_two (f : Nat → Nat) {a b : Nat} (hab : a ≠ b) (ha : 0 < f a) (hb : 0 < f b) : ∀ {n : Nat}, a < n → b < n → 2 ≤ many n f := by
  intro n h1 h2
  have h3 := sm_one (k := a) (c := 1) h1
  have h4 := sm_one (k := b) (c := 1) h2
  unfold many
  have : sm n (fun i => (if i = a then 1 else 0) + (if i = b then 1 else 0)) ≤ sm n fun i => if 0 < f i then 1 else 0 := sm_le fun i _ => by
    by_cases e1 : i = a
    · subst e1
      rw [if_pos rfl, if_neg hab, if_pos ha]; omega
    · rw [if_neg e1]
      by_cases e2 : i = b
      · subst e2
        rw [if_pos rfl, if_pos hb]; omega
      · rw [if_neg e2]; omega
  rw [sm_add, h3, h4] at this
  omega

/-- No lengths of these kinds cost less. -/
theorem LensOk.best {fs : List Int} {L : Nat} {g : Nat → Nat} (h : LensOk fs L g) (hm : 2 ≤ many fs.length (fq fs)) {l : Nat → Nat} (hl : ∀ i, i < fs.length → l i ≤ L) (hf : ∀ i, i < fs.length → (0 < l i ↔ 0 < fq fs i)) (hr : room fs.length L l ≤ 2 ^ L) :
    cost fs.length (fq fs) g ≤ cost fs.length (fq fs) l := by
  obtain ⟨P, hP, -, hc⟩ := h.least hm
  rw [hc]
  exact (lens_least hl hf hP hm hr).1

theorem LensOk.order {fs : List Int} {L : Nat} {g : Nat → Nat} (h : LensOk fs L g) {i k : Nat} (hi : i < fs.length) (hk : k < fs.length) (h0 : 0 < fq fs k) (hlt : fq fs k < fq fs i) : g i ≤ g k := by
  rcases Nat.lt_or_ge (g k) (g i) with hg | hg
  · exfalso
    have hik : i ≠ k := fun e => by subst e; omega
    have hm := many_two (fq fs) hik (by omega) h0 hi hk
    obtain ⟨l, hl⟩ : ∃ l : Nat → Nat, l = fun j => if j = i then g k else if j = k then g i else g j := ⟨_, rfl⟩
    have li : l i = g k := by rw [hl]; simp
    have lk : l k = g i := by rw [hl]; simp [Ne.symm hik]
    have lo : ∀ j, j ≠ i → j ≠ k → l j = g j := fun j h1 h2 => by rw [hl]; simp [h1, h2]
    have g1 := h.le i hi
    have g2 := h.le k hk
    have hle : ∀ j, j < fs.length → l j ≤ L := fun j hj => by
      by_cases e1 : j = i
      · subst e1; rw [li]; exact g2.1
      · by_cases e2 : j = k
        · subst e2; rw [lk]; exact g1.1
        · rw [lo j e1 e2]; exact (h.le j hj).1
    have hfi : ∀ j, j < fs.length → (0 < l j ↔ 0 < fq fs j) := fun j hj => by
      by_cases e1 : j = i
      · subst e1; rw [li]; have := g2.2; have := g1.2; omega
      · by_cases e2 : j = k
        · subst e2; rw [lk]; have := g2.2; have := g1.2; omega
        · rw [lo j e1 e2]; exact (h.le j hj).2
    have hroom : room fs.length L l = 2 ^ L := by
      rw [← h.code hm]
      have := sm_swap (h := fun j => if 0 < l j then 2 ^ (L - l j) else 0) (h' := fun j => if 0 < g j then 2 ^ (L - g j) else 0) hik (fun j h1 h2 => by simp only [lo j h1 h2]) hi hk
      simp only [li, lk] at this
      unfold room
      omega
    have hb := h.best hm hle hfi (by rw [hroom]; exact Nat.le_refl _)
    have hc := sm_swap (h := fun j => fq fs j * l j) (h' := fun j => fq fs j * g j) hik (fun j h1 h2 => by simp only [lo j h1 h2]) hi hk
    simp only [li, lk] at hc
    unfold cost at hb
    obtain ⟨a, ha⟩ : ∃ a, fq fs i = fq fs k + a := ⟨fq fs i - fq fs k, by omega⟩
    obtain ⟨b, hb'⟩ : ∃ b, g i = g k + b := ⟨g i - g k, by omega⟩
    rw [ha, hb'] at hc
    have e1 : (fq fs k + a) * (g k + b) + fq fs k * g k = (fq fs k + a) * g k + fq fs k * (g k + b) + a * b := by
      simp only [Nat.add_mul, Nat.mul_add]; omega
    have : 0 < a * b := Nat.mul_pos (by omega) (by omega)
    omega
  · exact hg

theorem pairN_two : ∀ l : List Nat, pairN (l.map (2 * ·)) = (pairN l).map (2 * ·)
  | [] => by simp [pairN]
  | [_] => by simp [pairN]
  | a :: b :: r => by simp [pairN, pairN_two r, Nat.mul_add]
theorem RowN.two {coins : List Nat} : ∀ {j : Nat} {P : List Nat}, RowN coins j P → RowN (coins.map (2 * ·)) j (P.map (2 * ·))
  | 0, _, h => by subst h; rfl
  | _ + 1, _, ⟨Q, hQ, hu, hp⟩ => ⟨_, hQ.two, List.pairwise_map.2 (hu.imp fun h => by omega), by
    have := hp.map (2 * ·)
    rw [List.map_append, ← pairN_two] at this
    exact this⟩
theorem sum_two : ∀ l : List Nat, (l.map (2 * ·)).sum = 2 * l.sum
  | [] => rfl
  | a :: l => by simp only [List.map_cons, List.sum_cons, sum_two l]; omega

theorem many_dbl {f f2 : Nat → Nat} {n : Nat} (h : ∀ i, i < n → f2 i = 2 * f i) : many n f2 = many n f := by
  unfold many
  refine sm_congr fun i hi => ?_
  rw [h i hi]
  by_cases e : 0 < f i
  · rw [if_pos e, if_pos (by omega)]
  · rw [if_neg e, if_neg (by omega)]

/-- Twice the frequencies cost twice as much. -/
theorem LensOk.twice {fs fs2 : List Int} {L : Nat} {g g2 : Nat → Nat} (h : LensOk fs L g) (h2 : LensOk fs2 L g2) (hl : fs2.length = fs.length) (hf : ∀ i, i < fs.length → fq fs2 i = 2 * fq fs i) :
    cost fs2.length (fq fs2) g2 = 2 * cost fs.length (fq fs) g := by
  have hmany := many_dbl hf
  have hmul : ∀ l : Nat → Nat, cost fs2.length (fq fs2) l = 2 * cost fs.length (fq fs) l := fun l => by
    unfold cost
    rw [hl, ← sm_mul]
    refine sm_congr fun i hi => ?_
    rw [hf i hi, Nat.mul_assoc]
  by_cases hm : 2 ≤ many fs.length (fq fs)
  · obtain ⟨P, hP, -, hc⟩ := h.least hm
    obtain ⟨P2, hP2, -, hc2⟩ := h2.least (by rw [hl, hmany]; exact hm)
    have hco : (((List.range fs2.length).map (fq fs2)).filter fun c => decide (0 < c)) = (((List.range fs.length).map (fq fs)).filter fun c => decide (0 < c)).map (2 * ·) := by
      rw [hl, List.map_congr_left (g := fun i => 2 * fq fs i) (fun i hi => hf i (List.mem_range.1 hi))]
      rw [show (fun i => 2 * fq fs i) = (2 * ·) ∘ (fq fs) from rfl, ← List.map_map, List.filter_map]
      congr 1
      refine List.filter_congr fun x _ => ?_
      simp only [Function.comp, decide_eq_decide]; omega
    rw [hco] at hP2
    have e := RowN.eq hP2 hP.two
    rw [hc, hc2, e, hl, hmany, ← List.map_take, sum_two]
  · rw [hmul]
    have hone : ∀ i, i < fs.length → g2 i = g i := fun i hi => by
      have a1 := h.le i hi
      have a2 := h2.le i (by rw [hl]; exact hi)
      rw [hf i hi] at a2
      by_cases h1 : many fs.length (fq fs) = 1
      · have b1 := h.one h1 i hi
        have b2 := h2.one (by rw [hl, hmany]; exact h1) i (by rw [hl]; exact hi)
        omega
      · have h0 : many fs.length (fq fs) = 0 := by omega
        have hs : syms (fq fs) fs.length = [] := List.eq_nil_of_length_eq_zero (by rw [syms_len, h0])
        have : ¬ 0 < fq fs i := fun h3 => by
          have := syms_has (fq fs) hi h3
          rw [hs] at this; cases this
        omega
    unfold cost
    rw [sm_congr (fun i hi => by rw [hone i hi])]

/-- What Lengths tells, and how many lengths it hands back. -/
def lErr (fs : List Int) (limit : Int) : Int := if mayB fs limit = false then 1 else if 2 ^ limit.toNat < many fs.length (fq fs) then 60 else 0
def lLen (fs : List Int) (limit : Int) : Nat := if lErr fs limit = 0 then fs.length else 0

theorem lengths_all (fs : List Int) (v : Value) (limit : Int) (w : World) (hv : Row encZ 1 w v fs) :
    Calls Try.prog 33 #[v, .int .i64 limit] w fun e w' => ∃ (v' : Value) (g : Nat → Nat), e = .returned (.tuple #[v', .int .i64 (lErr fs limit)]) ∧ w'.ownsRow w.heap.size 5 1 v' (lLen fs limit) (lensRow g (lLen fs limit)) ∧ (lErr fs limit = 0 → LensOk fs limit.toNat g) ∧ Below w.heap.size w w' := by
  by_cases hb : mayB fs limit = false
  · have e1 : lErr fs limit = 1 := by unfold lErr; rw [if_pos hb]
    have e2 : lLen fs limit = 0 := by unfold lLen; rw [e1, if_neg (by decide)]
    rw [e1, e2]
    refine (lengths_bad fs v limit w hv hb).mono ?_
    rintro e w' ⟨rfl, rfl⟩
    exact ⟨_, fun _ => 0, rfl, World.ownsRow_nil _ _ _ _, (fun h => by cases h), Below.refl _ _⟩
  · have hb' : mayB fs limit = true := by simpa using hb
    have hL : limit = ((limit.toNat : Nat) : Int) := by
      unfold mayB at hb'
      rw [Bool.and_eq_true, decide_eq_true_iff] at hb'
      omega
    obtain ⟨L, hLL⟩ : ∃ L, limit.toNat = L := ⟨_, rfl⟩
    rw [hLL] at hL
    subst hL
    by_cases hm : 2 ^ L < many fs.length (fq fs)
    · have e1 : lErr fs (L : Int) = 60 := by unfold lErr; rw [if_neg hb, if_pos (by rw [hLL]; exact hm)]
      have e2 : lLen fs (L : Int) = 0 := by unfold lLen; rw [e1, if_neg (by decide)]
      rw [e1, e2]
      refine (lengths_code fs v L w hv hb' hm).mono ?_
      rintro e w' ⟨rfl, hbw⟩
      exact ⟨_, fun _ => 0, rfl, World.ownsRow_nil _ _ _ _, (fun h => by cases h), hbw⟩
    · have e1 : lErr fs (L : Int) = 0 := by unfold lErr; rw [if_neg hb, if_neg (by rw [hLL]; exact hm)]
      have e2 : lLen fs (L : Int) = fs.length := by unfold lLen; rw [e1, if_pos rfl]
      rw [e1, e2, hLL]
      refine (lengths_ok fs v L w hv hb' (by omega)).mono ?_
      rintro e w' ⟨v', g, rfl, h1, h2, h3⟩
      exact ⟨v', g, rfl, h1, fun _ => h2, h3⟩

end Go.Proofs.Ytajidlihepjegaa
