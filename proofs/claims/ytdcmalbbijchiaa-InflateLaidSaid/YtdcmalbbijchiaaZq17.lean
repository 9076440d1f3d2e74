/- Several texts in one, each with its own head. -/
import Derived.Test.YtdcmalbbijchiaaZq16
import Derived.Maps.OwnSet
import Derived.Maps.OwnOps
import Derived.DeepKeys4
/- The statements' own: is an example what it is; how many frequencies are above nought. -/
namespace Go.Proofs.Ytdcmalbbijchiaa
open Go.RowKit

theorem flatZ : ∀ l : List Int, l.flatMap encZ = l.map (Value.int .i64)
  | [] => rfl
  | b :: r => by rw [List.flatMap_cons, flatZ r]; rfl

theorem row_lit8 (w : World) (ls : List Nat) (h : ls.length ≤ 1048576) : Row enc8 1 (w.alloc (.cells (ls.map u8v).toArray 5)) (.slice (some ⟨w.heap.size, 0, none⟩) ls.length ls.length) ls := by
  have := World.ownsRow_lit (base := 0) (size := 1) (e := 5) w (ls.map u8v).toArray ls.length (Nat.zero_le _) (by simp only [maxLen]; omega) (by simp)
  rw [show (ls.map u8v).toArray.toList = ls.flatMap enc8 from (flat8 ls).symm] at this
  exact owns_row' enc8_len this
theorem row_litZ (w : World) (fs : List Int) (h : fs.length ≤ 1048576) : Row encZ 1 (w.alloc (.cells (fs.map (Value.int .i64)).toArray 3)) (.slice (some ⟨w.heap.size, 0, none⟩) fs.length fs.length) fs := by
  have := World.ownsRow_lit (base := 0) (size := 1) (e := 3) w (fs.map (Value.int .i64)).toArray fs.length (Nat.zero_le _) (by simp only [maxLen]; omega) (by simp)
  rw [show (fs.map (Value.int .i64)).toArray.toList = fs.flatMap encZ from (flatZ fs).symm] at this
  exact owns_row' encZ_len this

theorem owns_ptr {w : World} {base : Nat} {e : TypeId} {v : Value} {n : Nat} {xs : List Value} (h : w.ownsRow base e 1 v n xs) (hn : 0 < n) : ∃ g c, v = .slice (some ⟨g, 0, none⟩) n c ∧ base ≤ g ∧ g < w.heap.size ∧ ∀ i u, xs[i]? = some u → w.cell? ⟨g, i, none⟩ = some u := by
  have hl := h.1
  rcases h.2 with ⟨-, h0⟩ | ⟨g, cap, cur, rfl, hg, hh, -⟩
  · omega
  · refine ⟨g, cap, rfl, hg, lt_heap hh, fun i u hi => ?_⟩
    have := (List.getElem?_eq_some_iff.1 hi).1
    rw [h.cellAt i (by omega)]; exact hi

theorem ex_codes : chk [2, 1, 3, 3] = 0 := by decide
theorem ex_may : mayB [1, 1, 2, 4] ((2 : Nat) : Int) = true := by decide
theorem ex_many : many 4 (fq [1, 1, 2, 4]) = 4 := by decide

theorem ex_lens {g : Nat → Nat} (h : LensOk [1, 1, 2, 4] 2 g) : g 0 = 2 ∧ g 3 = 2 := by
  have h0 := (h.le 0 (by decide))
  have h1 := (h.le 1 (by decide))
  have h2 := (h.le 2 (by decide))
  have h3 := (h.le 3 (by decide))
  have f0 : 0 < fq [1, 1, 2, 4] 0 := by decide
  have f1 : 0 < fq [1, 1, 2, 4] 1 := by decide
  have f2 : 0 < fq [1, 1, 2, 4] 2 := by decide
  have f3 : 0 < fq [1, 1, 2, 4] 3 := by decide
  have p0 := h0.2.2 f0
  have p1 := h1.2.2 f1
  have p2 := h2.2.2 f2
  have p3 := h3.2.2 f3
  have hr := h.code (by show 2 ≤ many 4 (fq [1, 1, 2, 4]); rw [ex_many]; decide)
  have hr' : room 4 2 g = 4 := hr
  simp only [room, sm, if_pos p0, if_pos p1, if_pos p2, if_pos p3, Nat.zero_add] at hr'
  have key : ∀ x, 0 < x → x ≤ 2 → (x = 1 ∧ 2 ^ (2 - x) = 2) ∨ (x = 2 ∧ 2 ^ (2 - x) = 1) := fun x a b => by
    have : x = 1 ∨ x = 2 := by omega
    rcases this with rfl | rfl
    · exact .inl ⟨rfl, rfl⟩
    · exact .inr ⟨rfl, rfl⟩
  have k0 := key _ p0 h0.1
  have k1 := key _ p1 h1.1
  have k2 := key _ p2 h2.1
  have k3 := key _ p3 h3.1
  omega

end Go.Proofs.Ytdcmalbbijchiaa

/- What the statements ask of best lengths: who is more frequent has no longer code; twice the frequencies, twice the cost; Lengths whatever is asked. -/
namespace Go.Proofs.Ytdcmalbbijchiaa
open Go.RowKit

theorem sm_swap {h h' : Nat → Nat} {a b : Nat} (hab : a ≠ b) (he : ∀ i, i ≠ a → i ≠ b → h i = h' i) : ∀ {n : Nat}, a < n → b < n → sm n h + h' a + h' b = sm n h' + h a + h b := by
  intro n
  have key : ∀ n, sm n h + (if a < n then h' a else 0) + (if b < n then h' b else 0) = sm n h' + (if a < n then h a else 0) + (if b < n then h b else 0) := by
    intro n
    induction n with
    | zero => simp [sm]
    | succ n ih =>
      simp only [sm]
      by_cases ha : n = a
      · subst ha
        rw [if_neg (by omega : ¬ n < n)] at ih
        rw [if_neg (by omega : ¬ n < n)] at ih
        rw [if_pos (by omega : n < n + 1), if_pos (by omega : n < n + 1)]
        by_cases hb : b < n
        · rw [if_pos hb, if_pos hb] at ih
          rw [if_pos (by omega), if_pos (by omega)]
          omega
        · rw [if_neg hb, if_neg hb] at ih
          rw [if_neg (by omega), if_neg (by omega)]
          omega
      · by_cases hb : n = b
        · subst hb
          rw [if_neg (by omega : ¬ n < n), if_neg (by omega : ¬ n < n)] at ih
          rw [if_pos (by omega : n < n + 1), if_pos (by omega : n < n + 1)]
          by_cases ha2 : a < n
          · rw [if_pos ha2, if_pos ha2] at ih
            rw [if_pos (by omega), if_pos (by omega)]
            omega
          · rw [if_neg ha2, if_neg ha2] at ih
            rw [if_neg (by omega), if_neg (by omega)]
            omega
        · have := he n ha hb
          have e1 : (a < n + 1) = (a < n) := by rw [eq_iff_iff]; omega
          have e2 : (b < n + 1) = (b < n) := by rw [eq_iff_iff]; omega
          simp only [e1, e2]
          omega
  intro ha hb
  have := key n
  rw [if_pos ha, if_pos hb, if_pos ha, if_pos hb] at this
  exact this

theorem many_two (f : Nat → Nat) {a b : Nat} (hab : a ≠ b) (ha : 0 < f a) (hb : 0 < f b) : ∀ {n : Nat}, a < n → b < n → 2 ≤ many n f := by
  intro n h1 h2
  have h3 := sm_one (k := a) (c := 1) h1
  have h4 := sm_one (k := b) (c := 1) h2
  unfold many
  have : sm n (fun i => (if i = a then 1 else 0) + (if i = b then 1 else 0)) ≤ sm n fun i => if 0 < f i then 1 else 0 := sm_le fun i _ => by
    by_cases e1 : i = a
    · subst e1
      rw [if_pos rfl, if_neg hab, if_pos ha]; omega
    · rw [if_neg e1]
      by_cases e2 : i = b
      · subst e2
        rw [if_pos rfl, if_pos hb]; omega
      · rw [if_neg e2]; omega
  rw [sm_add, h3, h4] at this
  omega

/-- No lengths of these kinds cost less. -/
theorem LensOk.best {fs : List Int} {L : Nat} {g : Nat → Nat} (h : LensOk fs L g) (hm : 2 ≤ many fs.length (fq fs)) {l : Nat → Nat} (hl : ∀ i, i < fs.length → l i ≤ L) (hf : ∀ i, i < fs.length → (0 < l i ↔ 0 < fq fs i)) (hr : room fs.length L l ≤ 2 ^ L) :
    cost fs.length (fq fs) g ≤ cost fs.length (fq fs) l := by
  obtain ⟨P, hP, -, hc⟩ := h.least hm
  rw [hc]
  exact (lens_least hl hf hP hm hr).1

theorem LensOk.order {fs : List Int} {L : Nat} {g : Nat → Nat} (h : LensOk fs L g) {i k : Nat} (hi : i < fs.length) (hk : k < fs.length) (h0 : 0 < fq fs k) (hlt : fq fs k < fq fs i) : g i ≤ g k := by
  rcases Nat.lt_or_ge (g k) (g i) with hg | hg
  · exfalso
    have hik : i ≠ k := fun e => by subst e; omega
    have hm := many_two (fq fs) hik (by omega) h0 hi hk
    obtain ⟨l, hl⟩ : ∃ l : Nat → Nat, l = fun j => if j = i then g k else if j = k then g i else g j := ⟨_, rfl⟩
    have li : l i = g k := by rw [hl]; simp
    have lk : l k = g i := by rw [hl]; simp [Ne.symm hik]
    have lo : ∀ j, j ≠ i → j ≠ k → l j = g j := fun j h1 h2 => by rw [hl]; simp [h1, h2]
    have g1 := h.le i hi
    have g2 := h.le k hk
    have hle : ∀ j, j < fs.length → l j ≤ L := fun j hj => by
      by_cases e1 : j = i
      · subst e1; rw [li]; exact g2.1
      · by_cases e2 : j = k
        · subst e2; rw [lk]; exact g1.1
        · rw [lo j e1 e2]; exact (h.le j hj).1
    have hfi : ∀ j, j < fs.length → (0 < l j ↔ 0 < fq fs j) := fun j hj => by
      by_cases e1 : j = i
      · subst e1; rw [li]; have := g2.2; have := g1.2; omega
      · by_cases e2 : j = k
        · subst e2; rw [lk]; have := g2.2; have := g1.2; omega
        · rw [lo j e1 e2]; exact (h.le j hj).2
    have hroom : room fs.length L l = 2 ^ L := by
      rw [← h.code hm]
      have := sm_swap (h := fun j => if 0 < l j then 2 ^ (L - l j) else 0) (h' := fun j => if 0 < g j then 2 ^ (L - g j) else 0) hik (fun j h1 h2 => by simp only [lo j h1 h2]) hi hk
      simp only [li, lk] at this
      unfold room
      omega
    have hb := h.best hm hle hfi (by rw [hroom]; exact Nat.le_refl _)
    have hc := sm_swap (h := fun j => fq fs j * l j) (h' := fun j => fq fs j * g j) hik (fun j h1 h2 => by simp only [lo j h1 h2]) hi hk
    simp only [li, lk] at hc
    unfold cost at hb
    obtain ⟨a, ha⟩ : ∃ a, fq fs i = fq fs k + a := ⟨fq fs i - fq fs k, by omega⟩
    obtain ⟨b, hb'⟩ : ∃ b, g i = g k + b := ⟨g i - g k, by omega⟩
    rw [ha, hb'] at hc
    have e1 : (fq fs k + a) * (g k + b) + fq fs k * g k = (fq fs k + a) * g k + fq fs k * (g k + b) + a * b := by
      simp only [Nat.add_mul, Nat.mul_add]; omega
    have : 0 < a * b := Nat.mul_pos (by omega) (by omega)
    omega
  · exact hg

theorem pairN_two : ∀ l : List Nat, pairN (l.map (2 * ·)) = (pairN l).map (2 * ·)
  | [] => by simp [pairN]
  | [_] => by simp [pairN]
  | a :: b :: r => by simp [pairN, pairN_two r, Nat.mul_add]
theorem RowN.two {coins : List Nat} : ∀ {j : Nat} {P : List Nat}, RowN coins j P → RowN (coins.map (2 * ·)) j (P.map (2 * ·))
  | 0, _, h => by subst h; rfl
  | _ + 1, _, ⟨Q, hQ, hu, hp⟩ => ⟨_, hQ.two, List.pairwise_map.2 (hu.imp fun h => by omega), by
    have := hp.map (2 * ·)
    rw [List.map_append, ← pairN_two] at this
    exact this⟩
theorem sum_two : ∀ l : List Nat, (l.map (2 * ·)).sum = 2 * l.sum
  | [] => rfl
  | a :: l => by simp only [List.map_cons, List.sum_cons, sum_two l]; omega

theorem many_dbl {f f2 : Nat → Nat} {n : Nat} (h : ∀ i, i < n → f2 i = 2 * f i) : many n f2 = many n f := by
  unfold many
  refine sm_congr fun i hi => ?_
  rw [h i hi]
  by_cases e : 0 < f i
  · rw [if_pos e, if_pos (by omega)]
  · rw [if_neg e, if_neg (by omega)]

/-- Twice the frequencies cost twice as much. -/
theorem LensOk.twice {fs fs2 : List Int} {L : Nat} {g g2 : Nat → Nat} (h : LensOk fs L g) (h2 : LensOk fs2 L g2) (hl : fs2.length = fs.length) (hf : ∀ i, i < fs.length → fq fs2 i = 2 * fq fs i) :
    cost fs2.length (fq fs2) g2 = 2 * cost fs.length (fq fs) g := by
  have hmany := many_dbl hf
  have hmul : ∀ l : Nat → Nat, cost fs2.length (fq fs2) l = 2 * cost fs.length (fq fs) l := fun l => by
    unfold cost
    rw [hl, ← sm_mul]
    refine sm_congr fun i hi => ?_
    rw [hf i hi, Nat.mul_assoc]
  by_cases hm : 2 ≤ many fs.length (fq fs)
  · obtain ⟨P, hP, -, hc⟩ := h.least hm
    obtain ⟨P2, hP2, -, hc2⟩ := h2.least (by rw [hl, hmany]; exact hm)
    have hco : (((List.range fs2.length).map (fq fs2)).filter fun c => decide (0 < c)) = (((List.range fs.length).map (fq fs)).filter fun c => decide (0 < c)).map (2 * ·) := by
      rw [hl, List.map_congr_left (g := fun i => 2 * fq fs i) (fun i hi => hf i (List.mem_range.1 hi))]
      rw [show (fun i => 2 * fq fs i) = (2 * ·) ∘ (fq fs) from rfl, ← List.map_map, List.filter_map]
      congr 1
      refine List.filter_congr fun x _ => ?_
      simp only [Function.comp, decide_eq_decide]; omega
    rw [hco] at hP2
    have e := RowN.eq hP2 hP.two
    rw [hc, hc2, e, hl, hmany, ← List.map_take, sum_two]
  · rw [hmul]
    have hone : ∀ i, i < fs.length → g2 i = g i := fun i hi => by
      have a1 := h.le i hi
      have a2 := h2.le i (by rw [hl]; exact hi)
      rw [hf i hi] at a2
      by_cases h1 : many fs.length (fq fs) = 1
      · have b1 := h.one h1 i hi
        have b2 := h2.one (by rw [hl, hmany]; exact h1) i (by rw [hl]; exact hi)
        omega
      · have h0 : many fs.length (fq fs) = 0 := by omega
        have hs : syms (fq fs) fs.length = [] := List.eq_nil_of_length_eq_zero (by rw [syms_len, h0])
        have : ¬ 0 < fq fs i := fun h3 => by
          have := syms_has (fq fs) hi h3
          rw [hs] at this; cases this
        omega
    unfold cost
    rw [sm_congr (fun i hi => by rw [hone i hi])]

/-- What Lengths tells, and how many lengths it hands back. -/
def lErr (fs : List Int) (limit : Int) : Int := if mayB fs limit = false then 1 else if 2 ^ limit.toNat < many fs.length (fq fs) then 60 else 0
def lLen (fs : List Int) (limit : Int) : Nat := if lErr fs limit = 0 then fs.length else 0

theorem lengths_all (fs : List Int) (v : Value) (limit : Int) (w : World) (hv : Row encZ 1 w v fs) :
    Calls Try.prog 29 #[v, .int .i64 limit] w fun e w' => ∃ (v' : Value) (g : Nat → Nat), e = .returned (.tuple #[v', .int .i64 (lErr fs limit)]) ∧ w'.ownsRow w.heap.size 5 1 v' (lLen fs limit) (lensRow g (lLen fs limit)) ∧ (lErr fs limit = 0 → LensOk fs limit.toNat g) ∧ Below w.heap.size w w' := by
  by_cases hb : mayB fs limit = false
  · have e1 : lErr fs limit = 1 := by unfold lErr; rw [if_pos hb]
    have e2 : lLen fs limit = 0 := by unfold lLen; rw [e1, if_neg (by decide)]
    rw [e1, e2]
    refine (lengths_bad fs v limit w hv hb).mono ?_
    rintro e w' ⟨rfl, rfl⟩
    exact ⟨_, fun _ => 0, rfl, World.ownsRow_nil _ _ _ _, (fun h => by cases h), Below.refl _ _⟩
  · have hb' : mayB fs limit = true := by simpa using hb
    have hL : limit = ((limit.toNat : Nat) : Int) := by
      unfold mayB at hb'
      rw [Bool.and_eq_true, decide_eq_true_iff] at hb'
      omega
    obtain ⟨L, hLL⟩ : ∃ L, limit.toNat = L := ⟨_, rfl⟩
    rw [hLL] at hL
    subst hL
    by_cases hm : 2 ^ L < many fs.length (fq fs)
    · have e1 : lErr fs (L : Int) = 60 := by unfold lErr; rw [if_neg hb, if_pos (by rw [hLL]; exact hm)]
      have e2 : lLen fs (L : Int) = 0 := by unfold lLen; rw [e1, if_neg (by decide)]
      rw [e1, e2]
      refine (lengths_code fs v L w hv hb' hm).mono ?_
      rintro e w' ⟨rfl, hbw⟩
      exact ⟨_, fun _ => 0, rfl, World.ownsRow_nil _ _ _ _, (fun h => by cases h), hbw⟩
    · have e1 : lErr fs (L : Int) = 0 := by unfold lErr; rw [if_neg hb, if_neg (by rw [hLL]; exact hm)]
      have e2 : lLen fs (L : Int) = fs.length := by unfold lLen; rw [e1, if_pos rfl]
      rw [e1, e2, hLL]
      refine (lengths_ok fs v L w hv hb' (by omega)).mono ?_
      rintro e w' ⟨v', g, rfl, h1, h2, h3⟩
      exact ⟨v', g, rfl, h1, fun _ => h2, h3⟩

end Go.Proofs.Ytdcmalbbijchiaa

/- Maps whose keys are codes: what a store and a look-up do. -/
namespace Go.Proofs.Ytdcmalbbijchiaa
open Go.RowKit Go.Maps

set_option maxRecDepth 100000

/-- A code as a key. -/
def ck (k : Nat × Nat) : Value := .agg #[.int .u16 (k.1 : Int), .int .u16 (k.2 : Int)]

noncomputable def codeFields : Array Field := match Try.prog.underlying 75 with | some (.struct fs) => fs | _ => #[]

theorem code_under : Try.prog.underlying 75 = some (.struct codeFields) := by kernel_rfl
theorem code_fields : codeFields.toList.map (fun f => (f.type, f.offset)) = [(73, 0), (73, 1)] := by kernel_rfl
theorem code_named : codeFields.all (·.name != "_") = true := by kernel_rfl
theorem code_cells : Try.prog.cellsOf 75 = 2 := by kernel_rfl
theorem u16_cells : Try.prog.cellsOf 73 = 1 := by kernel_rfl
theorem code_keyt : Try.prog.keyType 75 = true := by kernel_rfl
theorem types_pos : Try.prog.types.size = Try.prog.types.size - 1 + 1 := by kernel_rfl

theorem code_laid : laidOutB Try.prog = true := by kernel_rfl
theorem code_row : (75 : TypeId) < Try.prog.types.size := of_decide_eq_true (by kernel_rfl)
theorem code_wide : (match Try.prog.underlying 75 with | some (.array _ _) | some (.struct _) => true | _ => false) = true := by rw [code_under]
theorem code_tiled : Try.prog.keyTypeAt 2 75 = true := by kernel_rfl
theorem code_law : WideMaps.KeyLaw Try.prog 75 := deep_law_laid code_laid (m := 2) (by omega) code_row code_tiled code_wide
theorem code_keyed : Keyed Try.prog 75 := Keyed.of_law code_law

theorem code_formed {c0 c1 : Value} : (Value.agg #[c0, c1]).formed Try.prog 75 = true := by
  simp [Value.formed, code_cells]

theorem wf_u16 {a : Nat} (h : a < 65536) : (Lit.int .u16 (a : Int)).wf = true := by
  have hm : IntKind.u16.min = 0 := by decide
  have hx : IntKind.u16.max = 65535 := by decide
  simp [Lit.wf, hm, hx]; omega

theorem lit_u16 {a : Nat} (h : a < 65536) (d : Nat) : Try.prog.keyLits (d + 1) 73 [.int .u16 (a : Int)] = some [.int .u16 (a : Int)] := by
  have hu : Try.prog.underlying 73 = some (.int .u16) := by kernel_rfl
  unfold Program.keyLits
  rw [hu]
  simp [wf_u16 h]

/-- The key's own words. -/
def kl (k : Nat × Nat) : Lit := .string (keyBytes [.int .u16 (k.1 : Int), .int .u16 (k.2 : Int)])

theorem lits_code {k : Nat × Nat} (h1 : k.1 < 65536) (h2 : k.2 < 65536) (d : Nat) : Try.prog.keyLits (d + 2) 75 [.int .u16 (k.1 : Int), .int .u16 (k.2 : Int)] = some [.int .u16 (k.1 : Int), .int .u16 (k.2 : Int)] := by
  unfold Program.keyLits
  rw [code_under]
  have hm : codeFields.toList.mapM (fun f => Try.prog.keyLits (d + 1) f.type (([Value.int .u16 (k.1 : Int), .int .u16 (k.2 : Int)].drop f.offset).take (Try.prog.cellsOf f.type))) = some [[Lit.int .u16 (k.1 : Int)], [.int .u16 (k.2 : Int)]] := by
    have := List.mapM_map (m := Option) (f := fun f : Field => (f.type, f.offset)) (g := fun p : TypeId × Nat => Try.prog.keyLits (d + 1) p.1 (([Value.int .u16 (k.1 : Int), .int .u16 (k.2 : Int)].drop p.2).take (Try.prog.cellsOf p.1))) (l := codeFields.toList)
    rw [code_fields] at this
    refine this.symm.trans ?_
    simp [u16_cells, lit_u16 h1, lit_u16 h2]
  simp only [List.length_cons, List.length_nil, code_cells, code_named, hm]
  simp

theorem code_key {k : Nat × Nat} (h1 : k.1 < 65536) (h2 : k.2 < 65536) : keyOf Try.prog 75 (ck k) = some (kl k) := by
  unfold keyOf
  rw [code_under]
  simp only [code_keyt, ck, code_formed, Bool.and_self, if_true]
  have hd : Try.prog.types.size + 1 = Try.prog.types.size - 1 + 2 := by have := types_pos; omega
  rw [hd]
  have : (Value.agg #[.int .u16 (k.1 : Int), .int .u16 (k.2 : Int)]).cells.toList = [.int .u16 (k.1 : Int), .int .u16 (k.2 : Int)] := by simp [Value.cells]
  rw [this, lits_code h1 h2]
  rfl

theorem kl_inj {k k' : Nat × Nat} (h1 : k.1 < 65536) (h2 : k.2 < 65536) (h1' : k'.1 < 65536) (h2' : k'.2 < 65536) (h : kl k = kl k') : k = k' := by
  have e := code_keyed.inj (code_key h1 h2) (by rw [h]; exact code_key h1' h2')
  unfold ck at e
  simp only [Value.agg.injEq] at e
  simp at e
  exact Prod.ext (by omega) (by omega)

theorem kl_isKey (k : Nat × Nat) : WideAt.IsKeyLit (kl k) := trivial

/-- The element's reading. -/
noncomputable abbrev relem : Value → Option (DataW Unit × List MemPlace) := plainElem Try.prog 3

/-- Block M is a map of at most n entries that reads as F. -/
def MapAt (w : World) (M n : Nat) (F : Nat × Nat → Option Nat) : Prop :=
  ∃ D : DataW Unit, w.ownsMap Try.prog 75 relem M n D ∧ ∀ k : Nat × Nat, k.1 < 65536 → k.2 < 65536 → Maps.has D (kl k) = (F k).isSome ∧ ∀ x, F k = some x → ∀ z, D.atKey (kl k) z = .lit (.int .i64 (x : Int))

theorem int_under : Try.prog.underlying 3 = some (.int .i64) := by kernel_rfl
theorem map_under : Try.prog.underlying 137 = some (.map 75 3) := by kernel_rfl

theorem wf_small {x : Nat} (h : x ≤ 1000000) : (Lit.int .i64 (x : Int)).wf = true := by
  have hm : IntKind.i64.min = -9223372036854775808 := by decide
  have hx : IntKind.i64.max = 9223372036854775807 := by decide
  simp [Lit.wf, hm, hx]; omega

theorem MapAt.made (w : World) : MapAt (w.alloc (.map #[] 0)) w.heap.size 0 fun _ => none :=
  ⟨_, World.ownsMap_made w _ _ _, fun k _ _ => ⟨rfl, fun x h => by cases h⟩⟩

theorem MapAt.put {w : World} {M n x : Nat} {F : Nat × Nat → Option Nat} {k : Nat × Nat} (h : MapAt w M n F) (hn : n < maxLen) (h1 : k.1 < 65536) (h2 : k.2 < 65536) (hx : x ≤ 1000000) :
    ∃ w', (Instr.mapUpdate 137 (.map (some M)) (ck k) (.int .i64 (x : Int))).run Try.prog w = .ok () w' ∧ MapAt w' M (n + 1) (fun k' => if k' = k then some x else F k') ∧ w.mapTurned w' M := by
  obtain ⟨D, hD, hF⟩ := h
  obtain ⟨w', hr, ho, ht⟩ := hD.store code_keyed map_under hn (code_key h1 h2) (plainElem_int int_under (wf_small hx))
  refine ⟨w', hr, ⟨_, ho, fun k' g1 g2 => ?_⟩, ht⟩
  by_cases e : k' = k
  · subst e
    simp only [if_true, Option.isSome_some, Option.some.injEq]
    exact ⟨Maps.has_put_same hD.isMap (kl_isKey _) _, fun y hy z => by subst hy; exact Maps.atKey_put_same hD.isMap (kl_isKey _) _ z⟩
  · simp only [if_neg e]
    have hne : kl k' ≠ kl k := fun he => e (kl_inj g1 g2 h1 h2 he)
    exact ⟨by rw [Maps.has_put_other hne]; exact (hF k' g1 g2).1, fun y hy z => by rw [Maps.atKey_put_other hne]; exact (hF k' g1 g2).2 y hy z⟩

theorem int_zero (w : World) : (zeroValue 3).run Try.prog w = .ok (.int .i64 0) w := by
  kernel_rfl

theorem MapAt.look {w : World} {M n : Nat} {F : Nat × Nat → Option Nat} {k : Nat × Nat} (h : MapAt w M n F) (h1 : k.1 < 65536) (h2 : k.2 < 65536) :
    (Instr.lookup 137 (.map (some M)) (ck k) true).run Try.prog w = .ok (.tuple #[.int .i64 (((F k).getD 0 : Nat) : Int), .bool (F k).isSome]) w := by
  obtain ⟨D, hD, hF⟩ := h
  obtain ⟨v, ps, hr, hv⟩ := hD.look_ok code_keyed map_under (int_zero w) (plainElem_int int_under (wf_small (x := 0) (by omega))) (code_key h1 h2)
  obtain ⟨a, rfl, hz, -⟩ := plainElem_int_inv int_under hv
  simp only [Prod.mk.injEq] at hz
  rw [hr, (hF k h1 h2).1]
  cases hk : F k with
  | none =>
    rw [Maps.atKey_of_not_has (by rw [(hF k h1 h2).1, hk]; rfl)] at hz
    simp at hz
    simp [← hz.1]
  | some x =>
    rw [(hF k h1 h2).2 x hk] at hz
    simp at hz
    simp [← hz.1]

theorem MapAt.kept {w w' : World} {M n : Nat} {F : Nat × Nat → Option Nat} {row : Option Nat} (h : MapAt w M n F) (hg : w.grownBy w' row) (hne : some M ≠ row) : MapAt w' M n F := by
  obtain ⟨D, hD, hF⟩ := h
  exact ⟨D, hD.kept hg hne, hF⟩

end Go.Proofs.Ytdcmalbbijchiaa
