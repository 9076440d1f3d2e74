/- Several texts in one, each with its own head. -/
import Derived.Test.YtebfdoipogjpnaaGreatQd13
import Derived.Maps.OwnSet
import Derived.Maps.OwnOps
import Derived.DeepKeys4
import Derived.StillTailTactics
/- What the statements ask of best lengths: who is more frequent has no longer code; twice the frequencies, twice the cost; Lengths whatever is asked. -/
namespace Go.Proofs.YtebfdoipogjpnaaGreat
open Go.RowKit

theorem sm_swap {h h' : Nat → Nat} {a b : Nat} (hab : a ≠ b) (he : ∀ i, i ≠ a → i ≠ b → h i = h' i) : ∀ {n : Nat}, a < n → b < n → sm n h + h' a + h' b = sm n h' + h a + h b := by
  intro n
  have key : ∀ n, sm n h + (if a < n then h' a else 0) + (if b < n then h' b else 0) = sm n h' + (if a < n then h a else 0) + (if b < n then h b else 0) := by
    intro n
    induction n with
    | zero => simp [sm]
    | succ n ih =>
      simp only [sm]
      by_cases ha : n = a
      · subst ha
        rw [if_neg (by omega : ¬ n < n)] at ih
        rw [if_neg (by omega : ¬ n < n)] at ih
        rw [if_pos (by omega : n < n + 1), if_pos (by omega : n < n + 1)]
        by_cases hb : b < n
        · rw [if_pos hb, if_pos hb] at ih
          rw [if_pos (by omega), if_pos (by omega)]
          omega
        · rw [if_neg hb, if_neg hb] at ih
          rw [if_neg (by omega), if_neg (by omega)]
          omega
      · by_cases hb : n = b
        · subst hb
          rw [if_neg (by omega : ¬ n < n), if_neg (by omega : ¬ n < n)] at ih
          rw [if_pos (by omega : n < n + 1), if_pos (by omega : n < n + 1)]
          by_cases ha2 : a < n
          · rw [if_pos ha2, if_pos ha2] at ih
            rw [if_pos (by omega), if_pos (by omega)]
            omega
          · rw [if_neg ha2, if_neg ha2] at ih
            rw [if_neg (by omega), if_neg (by omega)]
            omega
        · have := he n ha hb
          have e1 : (a < n + 1) = (a < n) := by rw [eq_iff_iff]; omega
          have e2 : (b < n + 1) = (b < n) := by rw [eq_iff_iff]; omega
          simp only [e1, e2]
          omega
  intro ha hb
  have := key n
  rw [if_pos ha, if_pos hb, if_pos ha, if_pos hb] at this
  exact this

theorem many_two (f : Nat → Nat) {a b : Nat} (hab : a ≠ b) (ha : 0 < f a) (hb : 0 < f b) : ∀ {n : Nat}, a < n → b < n → 2 ≤ many n f := by
  intro n h1 h2
  have h3 := sm_one (k := a) (c := 1) h1
  have h4 := sm_one (k := b) (c := 1) h2
  unfold many
  have : sm n (fun i => (if i = a then 1 else 0) + (if i = b then 1 else 0)) ≤ sm n fun i => if 0 < f i then 1 else 0 := sm_le fun i _ => by
    by_cases e1 : i = a
    · subst e1
      rw [if_pos rfl, if_neg hab, if_pos ha]; omega
    · rw [if_neg e1]
      by_cases e2 : i = b
      · subst e2
        rw [if_pos rfl, if_pos hb]; omega
      · rw [if_neg e2]; omega
  rw [sm_add, h3, h4] at this
  omega

/-- No lengths of these kinds cost less. -/
theorem LensOk.best {fs : List Int} {L : Nat} {g : Nat → Nat} (h : LensOk fs L g) (hm : 2 ≤ many fs.length (fq fs)) {l : Nat → Nat} (hl : ∀ i, i < fs.length → l i ≤ L) (hf : ∀ i, i < fs.length → (0 < l i ↔ 0 < fq fs i)) (hr : room fs.length L l ≤ 2 ^ L) :
    cost fs.length (fq fs) g ≤ cost fs.length (fq fs) l := by
  obtain ⟨P, hP, -, hc⟩ := h.least hm
  rw [hc]
  exact (lens_least hl hf hP hm hr).1

theorem LensOk.order {fs : List Int} {L : Nat} {g : Nat → Nat} (h : LensOk fs L g) {i k : Nat} (hi : i < fs.length) (hk : k < fs.length) (h0 : 0 < fq fs k) (hlt : fq fs k < fq fs i) : g i ≤ g k := by
  rcases Nat.lt_or_ge (g k) (g i) with hg | hg
  · exfalso
    have hik : i ≠ k := fun e => by subst e; omega
    have hm := many_two (fq fs) hik (by omega) h0 hi hk
    obtain ⟨l, hl⟩ : ∃ l : Nat → Nat, l = fun j => if j = i then g k else if j = k then g i else g j := ⟨_, rfl⟩
    have li : l i = g k := by rw [hl]; simp
    have lk : l k = g i := by rw [hl]; simp [Ne.symm hik]
    have lo : ∀ j, j ≠ i → j ≠ k → l j = g j := fun j h1 h2 => by rw [hl]; simp [h1, h2]
    have g1 := h.le i hi
    have g2 := h.le k hk
    have hle : ∀ j, j < fs.length → l j ≤ L := fun j hj => by
      by_cases e1 : j = i
      · subst e1; rw [li]; exact g2.1
      · by_cases e2 : j = k
        · subst e2; rw [lk]; exact g1.1
        · rw [lo j e1 e2]; exact (h.le j hj).1
    have hfi : ∀ j, j < fs.length → (0 < l j ↔ 0 < fq fs j) := fun j hj => by
      by_cases e1 : j = i
      · subst e1; rw [li]; have := g2.2; have := g1.2; omega
      · by_cases e2 : j = k
        · subst e2; rw [lk]; have := g2.2; have := g1.2; omega
        · rw [lo j e1 e2]; exact (h.le j hj).2
    have hroom : room fs.length L l = 2 ^ L := by
      rw [← h.code hm]
      have := sm_swap (h := fun j => if 0 < l j then 2 ^ (L - l j) else 0) (h' := fun j => if 0 < g j then 2 ^ (L - g j) else 0) hik (fun j h1 h2 => by simp only [lo j h1 h2]) hi hk
      simp only [li, lk] at this
      unfold room
      omega
    have hb := h.best hm hle hfi (by rw [hroom]; exact Nat.le_refl _)
    have hc := sm_swap (h := fun j => fq fs j * l j) (h' := fun j => fq fs j * g j) hik (fun j h1 h2 => by simp only [lo j h1 h2]) hi hk
    simp only [li, lk] at hc
    unfold cost at hb
    obtain ⟨a, ha⟩ : ∃ a, fq fs i = fq fs k + a := ⟨fq fs i - fq fs k, by omega⟩
    obtain ⟨b, hb'⟩ : ∃ b, g i = g k + b := ⟨g i - g k, by omega⟩
    rw [ha, hb'] at hc
    have e1 : (fq fs k + a) * (g k + b) + fq fs k * g k = (fq fs k + a) * g k + fq fs k * (g k + b) + a * b := by
      simp only [Nat.add_mul, Nat.mul_add]; omega
    have : 0 < a * b := Nat.mul_pos (by omega) (by omega)
    omega
  · exact hg

theorem pairN_two : ∀ l : List Nat, pairN (l.map (2 * ·)) = (pairN l).map (2 * ·)
  | [] => by simp [pairN]
  | [_] => by simp [pairN]
  | a :: b :: r => by simp [pairN, pairN_two r, Nat.mul_add]
theorem RowN.two {coins : List Nat} : ∀ {j : Nat} {P : List Nat}, RowN coins j P → RowN (coins.map (2 * ·)) j (P.map (2 * ·))
  | 0, _, h => by subst h; rfl
  | _ + 1, _, ⟨Q, hQ, hu, hp⟩ => ⟨_, hQ.two, List.pairwise_map.2 (hu.imp fun h => by omega), by
    have := hp.map (2 * ·)
    rw [List.map_append, ← pairN_two] at this
    exact this⟩
theorem sum_two : ∀ l : List Nat, (l.map (2 * ·)).sum = 2 * l.sum
  | [] => rfl
  | a :: l => by simp only [List.map_cons, List.sum_cons, sum_two l]; omega

theorem many_dbl {f f2 : Nat → Nat} {n : Nat} (h : ∀ i, i < n → f2 i = 2 * f i) : many n f2 = many n f := by
  unfold many
  refine sm_congr fun i hi => ?_
  rw [h i hi]
  by_cases e : 0 < f i
  · rw [if_pos e, if_pos (by omega)]
  · rw [if_neg e, if_neg (by omega)]

/-- Twice the frequencies cost twice as much. -/
theorem LensOk.twice {fs fs2 : List Int} {L : Nat} {g g2 : Nat → Nat} (h : LensOk fs L g) (h2 : LensOk fs2 L g2) (hl : fs2.length = fs.length) (hf : ∀ i, i < fs.length → fq fs2 i = 2 * fq fs i) :
    cost fs2.length (fq fs2) g2 = 2 * cost fs.length (fq fs) g := by
  have hmany := many_dbl hf
  have hmul : ∀ l : Nat → Nat, cost fs2.length (fq fs2) l = 2 * cost fs.length (fq fs) l := fun l => by
    unfold cost
    rw [hl, ← sm_mul]
    refine sm_congr fun i hi => ?_
    rw [hf i hi, Nat.mul_assoc]
  by_cases hm : 2 ≤ many fs.length (fq fs)
  · obtain ⟨P, hP, -, hc⟩ := h.least hm
    obtain ⟨P2, hP2, -, hc2⟩ := h2.least (by rw [hl, hmany]; exact hm)
    have hco : (((List.range fs2.length).map (fq fs2)).filter fun c => decide (0 < c)) = (((List.range fs.length).map (fq fs)).filter fun c => decide (0 < c)).map (2 * ·) := by
      rw [hl, List.map_congr_left (g := fun i => 2 * fq fs i) (fun i hi => hf i (List.mem_range.1 hi))]
      rw [show (fun i => 2 * fq fs i) = (2 * ·) ∘ (fq fs) from rfl, ← List.map_map, List.filter_map]
      congr 1
      refine List.filter_congr fun x _ => ?_
      simp only [Function.comp, decide_eq_decide]; omega
    rw [hco] at hP2
    have e := RowN.eq hP2 hP.two
    rw [hc, hc2, e, hl, hmany, ← List.map_take, sum_two]
  · rw [hmul]
    have hone : ∀ i, i < fs.length → g2 i = g i := fun i hi => by
      have a1 := h.le i hi
      have a2 := h2.le i (by rw [hl]; exact hi)
      rw [hf i hi] at a2
      by_cases h1 : many fs.length (fq fs) = 1
      · have b1 := h.one h1 i hi
        have b2 := h2.one (by rw [hl, hmany]; exact h1) i (by rw [hl]; exact hi)
        omega
      · have h0 : many fs.length (fq fs) = 0 := by omega
        have hs : syms (fq fs) fs.length = [] := List.eq_nil_of_length_eq_zero (by rw [syms_len, h0])
        have : ¬ 0 < fq fs i := fun h3 => by
          have := syms_has (fq fs) hi h3
          rw [hs] at this; cases this
        omega
    unfold cost
    rw [sm_congr (fun i hi => by rw [hone i hi])]

/-- What Lengths tells, and how many lengths it hands back. -/
def lErr (fs : List Int) (limit : Int) : Int := if mayB fs limit = false then 1 else if 2 ^ limit.toNat < many fs.length (fq fs) then 60 else 0
def lLen (fs : List Int) (limit : Int) : Nat := if lErr fs limit = 0 then fs.length else 0

theorem lengths_all (fs : List Int) (v : Value) (limit : Int) (w : World) (hv : Row encZ 1 w v fs) :
    Calls Tryz.prog 127 #[v, .int .i64 limit] w fun e w' => ∃ (v' : Value) (g : Nat → Nat), e = .returned (.tuple #[v', .int .i64 (lErr fs limit)]) ∧ w'.ownsRow w.heap.size 5 1 v' (lLen fs limit) (lensRow g (lLen fs limit)) ∧ (lErr fs limit = 0 → LensOk fs limit.toNat g) ∧ Below w.heap.size w w' := by
  by_cases hb : mayB fs limit = false
  · have e1 : lErr fs limit = 1 := by unfold lErr; rw [if_pos hb]
    have e2 : lLen fs limit = 0 := by unfold lLen; rw [e1, if_neg (by decide)]
    rw [e1, e2]
    refine (lengths_bad fs v limit w hv hb).mono ?_
    rintro e w' ⟨rfl, rfl⟩
    exact ⟨_, fun _ => 0, rfl, World.ownsRow_nil _ _ _ _, (fun h => by cases h), Below.refl _ _⟩
  · have hb' : mayB fs limit = true := by simpa using hb
    have hL : limit = ((limit.toNat : Nat) : Int) := by
      unfold mayB at hb'
      rw [Bool.and_eq_true, decide_eq_true_iff] at hb'
      omega
    obtain ⟨L, hLL⟩ : ∃ L, limit.toNat = L := ⟨_, rfl⟩
    rw [hLL] at hL
    subst hL
    by_cases hm : 2 ^ L < many fs.length (fq fs)
    · have e1 : lErr fs (L : Int) = 60 := by unfold lErr; rw [if_neg hb, if_pos (by rw [hLL]; exact hm)]
      have e2 : lLen fs (L : Int) = 0 := by unfold lLen; rw [e1, if_neg (by decide)]
      rw [e1, e2]
      refine (lengths_code fs v L w hv hb' hm).mono ?_
      rintro e w' ⟨rfl, hbw⟩
      exact ⟨_, fun _ => 0, rfl, World.ownsRow_nil _ _ _ _, (fun h => by cases h), hbw⟩
    · have e1 : lErr fs (L : Int) = 0 := by unfold lErr; rw [if_neg hb, if_neg (by rw [hLL]; exact hm)]
      have e2 : lLen fs (L : Int) = fs.length := by unfold lLen; rw [e1, if_pos rfl]
      rw [e1, e2, hLL]
      refine (lengths_ok fs v L w hv hb' (by omega)).mono ?_
      rintro e w' ⟨v', g, rfl, h1, h2, h3⟩
      exact ⟨v', g, rfl, h1, fun _ => h2, h3⟩

end Go.Proofs.YtebfdoipogjpnaaGreat

/- Maps whose keys are codes: what a store and a look-up do. -/
namespace Go.Proofs.YtebfdoipogjpnaaGreat
open Go.RowKit Go.Maps

set_option maxRecDepth 100000

/-- A code as a key. -/
def ck (k : Nat × Nat) : Value := .agg #[.int .u16 (k.1 : Int), .int .u16 (k.2 : Int)]

noncomputable def codeFields : Array Field := match Tryz.prog.underlying 254 with | some (.struct fs) => fs | _ => #[]

theorem code_under : Tryz.prog.underlying 254 = some (.struct codeFields) := by kernel_rfl
theorem code_fields : codeFields.toList.map (fun f => (f.type, f.offset)) = [(33, 0), (33, 1)] := by kernel_rfl
theorem code_named : codeFields.all (·.name != "_") = true := by kernel_rfl
theorem code_cells : Tryz.prog.cellsOf 254 = 2 := by kernel_rfl
theorem u16_cells : Tryz.prog.cellsOf 33 = 1 := by kernel_rfl
theorem code_keyt : Tryz.prog.keyType 254 = true := by kernel_rfl
theorem types_pos : Tryz.prog.types.size = Tryz.prog.types.size - 1 + 1 := by kernel_rfl

theorem code_laid : laidOutB Tryz.prog = true := by kernel_rfl
theorem code_row : (254 : TypeId) < Tryz.prog.types.size := of_decide_eq_true (by kernel_rfl)
theorem code_wide : (match Tryz.prog.underlying 254 with | some (.array _ _) | some (.struct _) => true | _ => false) = true := by rw [code_under]
theorem code_tiled : Tryz.prog.keyTypeAt 2 254 = true := by kernel_rfl
theorem code_law : WideMaps.KeyLaw Tryz.prog 254 := deep_law_laid code_laid (m := 2) (by omega) code_row code_tiled code_wide
theorem code_keyed : Keyed Tryz.prog 254 := Keyed.of_law code_law

theorem code_formed {c0 c1 : Value} : (Value.agg #[c0, c1]).formed Tryz.prog 254 = true := by
  simp [Value.formed, code_cells]

theorem wf_u16 {a : Nat} (h : a < 65536) : (Lit.int .u16 (a : Int)).wf = true := by
  have hm : IntKind.u16.min = 0 := by decide
  have hx : IntKind.u16.max = 65535 := by decide
  simp [Lit.wf, hm, hx]; omega

theorem lit_u16 {a : Nat} (h : a < 65536) (d : Nat) : Tryz.prog.keyLits (d + 1) 33 [.int .u16 (a : Int)] = some [.int .u16 (a : Int)] := by
  have hu : Tryz.prog.underlying 33 = some (.int .u16) := by kernel_rfl
  unfold Program.keyLits
  rw [hu]
  simp [wf_u16 h]

/-- The key's own words. -/
def kl (k : Nat × Nat) : Lit := .string (keyBytes [.int .u16 (k.1 : Int), .int .u16 (k.2 : Int)])

theorem lits_code {k : Nat × Nat} (h1 : k.1 < 65536) (h2 : k.2 < 65536) (d : Nat) : Tryz.prog.keyLits (d + 2) 254 [.int .u16 (k.1 : Int), .int .u16 (k.2 : Int)] = some [.int .u16 (k.1 : Int), .int .u16 (k.2 : Int)] := by
  unfold Program.keyLits
  rw [code_under]
  have hm : codeFields.toList.mapM (fun f => Tryz.prog.keyLits (d + 1) f.type (([Value.int .u16 (k.1 : Int), .int .u16 (k.2 : Int)].drop f.offset).take (Tryz.prog.cellsOf f.type))) = some [[Lit.int .u16 (k.1 : Int)], [.int .u16 (k.2 : Int)]] := by
    have := List.mapM_map (m := Option) (f := fun f : Field => (f.type, f.offset)) (g := fun p : TypeId × Nat => Tryz.prog.keyLits (d + 1) p.1 (([Value.int .u16 (k.1 : Int), .int .u16 (k.2 : Int)].drop p.2).take (Tryz.prog.cellsOf p.1))) (l := codeFields.toList)
    rw [code_fields] at this
    refine this.symm.trans ?_
    simp [u16_cells, lit_u16 h1, lit_u16 h2]
  simp only [List.length_cons, List.length_nil, code_cells, code_named, hm]
  simp

theorem code_key {k : Nat × Nat} (h1 : k.1 < 65536) (h2 : k.2 < 65536) : keyOf Tryz.prog 254 (ck k) = some (kl k) := by
  unfold keyOf
  rw [code_under]
  simp only [code_keyt, ck, code_formed, Bool.and_self, if_true]
  have hd : Tryz.prog.types.size + 1 = Tryz.prog.types.size - 1 + 2 := by have := types_pos; omega
  rw [hd]
  have : (Value.agg #[.int .u16 (k.1 : Int), .int .u16 (k.2 : Int)]).cells.toList = [.int .u16 (k.1 : Int), .int .u16 (k.2 : Int)] := by simp [Value.cells]
  rw [this, lits_code h1 h2]
  rfl

theorem kl_inj {k k' : Nat × Nat} (h1 : k.1 < 65536) (h2 : k.2 < 65536) (h1' : k'.1 < 65536) (h2' : k'.2 < 65536) (h : kl k = kl k') : k = k' := by
  have e := code_keyed.inj (code_key h1 h2) (by rw [h]; exact code_key h1' h2')
  unfold ck at e
  simp only [Value.agg.injEq] at e
  simp at e
  exact Prod.ext (by omega) (by omega)

theorem kl_isKey (k : Nat × Nat) : WideAt.IsKeyLit (kl k) := trivial

/-- The element's reading. -/
noncomputable abbrev relem : Value → Option (DataW Unit × List MemPlace) := plainElem Tryz.prog 3

/-- Block M is a map of at most n entries that reads as F. -/
def MapAt (w : World) (M n : Nat) (F : Nat × Nat → Option Nat) : Prop :=
  ∃ D : DataW Unit, w.ownsMap Tryz.prog 254 relem M n D ∧ ∀ k : Nat × Nat, k.1 < 65536 → k.2 < 65536 → Maps.has D (kl k) = (F k).isSome ∧ ∀ x, F k = some x → ∀ z, D.atKey (kl k) z = .lit (.int .i64 (x : Int))

theorem int_under : Tryz.prog.underlying 3 = some (.int .i64) := by kernel_rfl
theorem map_under : Tryz.prog.underlying 282 = some (.map 254 3) := by kernel_rfl

theorem wf_small {x : Nat} (h : x ≤ 1000000) : (Lit.int .i64 (x : Int)).wf = true := by
  have hm : IntKind.i64.min = -9223372036854775808 := by decide
  have hx : IntKind.i64.max = 9223372036854775807 := by decide
  simp [Lit.wf, hm, hx]; omega

theorem MapAt.made (w : World) : MapAt (w.alloc (.map #[] 0)) w.heap.size 0 fun _ => none :=
  ⟨_, World.ownsMap_made w _ _ _, fun k _ _ => ⟨rfl, fun x h => by cases h⟩⟩

theorem MapAt.put {w : World} {M n x : Nat} {F : Nat × Nat → Option Nat} {k : Nat × Nat} (h : MapAt w M n F) (hn : n < maxLen) (h1 : k.1 < 65536) (h2 : k.2 < 65536) (hx : x ≤ 1000000) :
    ∃ w', (Instr.mapUpdate 282 (.map (some M)) (ck k) (.int .i64 (x : Int))).run Tryz.prog w = .ok () w' ∧ MapAt w' M (n + 1) (fun k' => if k' = k then some x else F k') ∧ w.mapTurned w' M := by
  obtain ⟨D, hD, hF⟩ := h
  obtain ⟨w', hr, ho, ht⟩ := hD.store code_keyed map_under hn (code_key h1 h2) (plainElem_int int_under (wf_small hx))
  refine ⟨w', hr, ⟨_, ho, fun k' g1 g2 => ?_⟩, ht⟩
  by_cases e : k' = k
  · subst e
    simp only [if_true, Option.isSome_some, Option.some.injEq]
    exact ⟨Maps.has_put_same hD.isMap (kl_isKey _) _, fun y hy z => by subst hy; exact Maps.atKey_put_same hD.isMap (kl_isKey _) _ z⟩
  · simp only [if_neg e]
    have hne : kl k' ≠ kl k := fun he => e (kl_inj g1 g2 h1 h2 he)
    exact ⟨by rw [Maps.has_put_other hne]; exact (hF k' g1 g2).1, fun y hy z => by rw [Maps.atKey_put_other hne]; exact (hF k' g1 g2).2 y hy z⟩

theorem int_zero (w : World) : (zeroValue 3).run Tryz.prog w = .ok (.int .i64 0) w := by
  kernel_rfl

theorem MapAt.look {w : World} {M n : Nat} {F : Nat × Nat → Option Nat} {k : Nat × Nat} (h : MapAt w M n F) (h1 : k.1 < 65536) (h2 : k.2 < 65536) :
    (Instr.lookup 282 (.map (some M)) (ck k) true).run Tryz.prog w = .ok (.tuple #[.int .i64 (((F k).getD 0 : Nat) : Int), .bool (F k).isSome]) w := by
  obtain ⟨D, hD, hF⟩ := h
  obtain ⟨v, ps, hr, hv⟩ := hD.look_ok code_keyed map_under (int_zero w) (plainElem_int int_under (wf_small (x := 0) (by omega))) (code_key h1 h2)
  obtain ⟨a, rfl, hz, -⟩ := plainElem_int_inv int_under hv
  simp only [Prod.mk.injEq] at hz
  rw [hr, (hF k h1 h2).1]
  cases hk : F k with
  | none =>
    rw [Maps.atKey_of_not_has (by rw [(hF k h1 h2).1, hk]; rfl)] at hz
    simp at hz
    simp [← hz.1]
  | some x =>
    rw [(hF k h1 h2).2 x hk] at hz
    simp at hz
    simp [← hz.1]

theorem MapAt.kept {w w' : World} {M n : Nat} {F : Nat × Nat → Option Nat} {row : Option Nat} (h : MapAt w M n F) (hg : w.grownBy w' row) (hne : some M ≠ row) : MapAt w' M n F := by
  obtain ⟨D, hD, hF⟩ := h
  exact ⟨D, hD.kept hg hne, hF⟩

end Go.Proofs.YtebfdoipogjpnaaGreat

/- huff's New: what its closure does. -/
namespace Go.Proofs.YtebfdoipogjpnaaGreat
open Go.RowKit Go.Maps

theorem MapAt.turned {w w' : World} {M n : Nat} {F : Nat × Nat → Option Nat} (h : MapAt w M n F) {T : Nat → Prop} (ht : Turns T w w') (hT : ¬ T M) : MapAt w' M n F := by
  obtain ⟨D, ⟨es, clock, hb, r⟩, hF⟩ := h
  exact ⟨D, ⟨es, clock, (ht.block M (lt_heap hb) hT).trans hb, r⟩, hF⟩

theorem mt_turns {w w' : World} {M : Nat} (h : w.mapTurned w' M) : Turns (fun i => i = M) w w' := Turns.of_grown h.grown (fun i e => by cases e; rfl)

theorem wpList_put_at (w : World) {ops : Array Oper} {rest : List Oper} {o : Oper} {a : Act} {Q : Exit → Act → World → Prop} (hg : o.guard = none) (m x v : Operand) (hop : o.op = Op.mapUpdate 282 m x v)
    (M n s r z : Nat) (F : Nat × Nat → Option Nat) (hm : a.eval m = .map (some M)) (hown : MapAt w M n F) (hn : n < maxLen) (h1 : r < 65536) (h2 : z < 65536) (hs : s ≤ 1000000)
    (hx : a.eval x = .agg #[.int .u16 (r : Int), .int .u16 (z : Int)]) (hv : a.eval v = .int .i64 (s : Int))
    (hK : ∀ w', MapAt w' M (n + 1) (fun k' => if k' = (r, z) then some s else F k') → Turns (fun i => i = M) w w' → wpList Tryz.prog ops Q rest (a.put o.dst undef) w') : wpList Tryz.prog ops Q (o :: rest) a w := by
  refine wpList_plain hg fun K' hK' => ?_
  obtain ⟨w', hrun, r1, r2⟩ := hown.put (k := (r, z)) hn h1 h2 hs
  unfold ck at hrun
  unfold Oper.wp
  simp [execOp, hop, hm, hx, hv, hrun, Result.andThen]
  exact hK' _ _ (hK w' r1 (mt_turns r2))

/-- A table as New builds it: the box of t, its two fields, its map. -/
structure TabAt (w : World) (M T X n L : Nat) (F : Nat × Nat → Option Nat) : Prop where
  box : w.heap[X]? = some (.cells #[.pointer (some ⟨T, 0, none⟩)] 222)
  tab : w.heap[T]? = some (.cells #[.map (some M), .int .u16 (L : Int)] 284)
  map : MapAt w M n F

set_option maxRecDepth 20000 in
set_option maxHeartbeats 1000000 in
theorem new1_any (M T X n L r z s : Nat) (F : Nat × Nat → Option Nat) (w : World) (h : TabAt w M T X n L F) (hn : n < maxLen) (hr : r < 65536) (hz : z < 65536) (hs : s ≤ 1000000) (hMT : M ≠ T) (hMX : M ≠ X) (hTX : T ≠ X) (hMw : M < w.heap.size) :
    Calls Tryz.prog 221 #[.int .i64 (s : Int), .agg #[.int .u16 (r : Int), .int .u16 (z : Int)], .pointer (some ⟨X, 0, none⟩)] w fun e w' => e = .returned (.tuple #[]) ∧ TabAt w' M T X (n + 1) (max L z) (fun k' => if k' = (r, z) then some s else F k') ∧ Turns (fun i => i = M ∨ i = T) w w' := by
  obtain ⟨W, hW⟩ : ∃ W, w.alloc (.cells #[.int .u16 (r : Int), .int .u16 (z : Int)] 254) = W := ⟨_, rfl⟩
  have hbw : Below w.heap.size w W := by rw [← hW]; exact Below.al1 w _
  have hbox : W.heap[X]? = _ := (hbw.block X (lt_heap h.box)).trans h.box
  have htab : W.heap[T]? = _ := (hbw.block T (lt_heap h.tab)).trans h.tab
  have hmap : MapAt W M n F := h.map.turned (T := fun _ => False) (Turns.of_below' hbw) (fun h => h)
  have hBc : W.heap[w.heap.size]? = some (.cells #[.int .u16 (r : Int), .int .u16 (z : Int)] 254) := by rw [← hW]; exact (heap_pushed [.cells #[.int .u16 (r : Int), .int .u16 (z : Int)] 254] w 0 _).2 rfl
  have c0 : W.cell? ⟨X, 0, none⟩ = some (.pointer (some ⟨T, 0, none⟩)) := cell_heap hbox rfl
  have c1 : W.cell? ⟨T, 0, none⟩ = some (.map (some M)) := cell_heap htab rfl
  have c2 : W.cell? ⟨w.heap.size, 0, none⟩ = some (.int .u16 (r : Int)) := cell_heap hBc rfl
  have c3 : W.cell? ⟨w.heap.size, 1, none⟩ = some (.int .u16 (z : Int)) := cell_heap hBc rfl
  have Hmap := Lib.hid hmap
  subst hW
  go_enter Tryz.func221, Tryz.ntmps221
  go_wp2_with fail
  generalize w.alloc (.cells #[.int .u16 (r : Int), .int .u16 (z : Int)] 254) = W at *
  refine wp_region_still_tail 6 (by kernel_rfl) (by kernel_rfl) ?_
  simp only [List.take_succ_cons, List.take_zero, List.drop_succ_cons, List.drop_zero]
  have d0 : W.drew.cell? ⟨X, 0, none⟩ = some (.pointer (some ⟨T, 0, none⟩)) := c0
  have d1 : W.drew.cell? ⟨T, 0, none⟩ = some (.map (some M)) := c1
  have d2 : W.drew.cell? ⟨w.heap.size, 0, none⟩ = some (.int .u16 (r : Int)) := c2
  have d3 : W.drew.cell? ⟨w.heap.size, 1, none⟩ = some (.int .u16 (z : Int)) := c3
  have Dmap : Hid (MapAt W.drew M n F) := Lib.hid hmap
  have Hww : Hid (Turns (fun _ => False) w W.drew) := Lib.hid ⟨hbw.os, hbw.tape, hbw.output, hbw.size, fun i hi _ => hbw.block i hi⟩
  have dbox : Hid (W.drew.heap[X]? = some (.cells #[.pointer (some ⟨T, 0, none⟩)] 222)) := Lib.hid hbox
  have dtab : Hid (W.drew.heap[T]? = some (.cells #[.map (some M), .int .u16 (L : Int)] 284)) := Lib.hid htab
  change wpStill _ _ W.drew (fun a' => wpList _ _ _ _ a' W.drew) _ _
  clear hbox htab hmap hBc hbw c0 c1 c2 c3 Hmap h
  generalize W.drew = W1 at *
  repeat still_step
  try refine wpStill_nil ?_
  refine wpList_put_at _ rfl _ _ _ rfl M n s r z F rfl Dmap.out hn hr hz hs rfl rfl ?_
  intro W2 hm2 ht2
  have Hm2 := Lib.hid hm2
  have Hw2 : Hid (Turns (fun i => i = M) w W2) := Lib.hid ((Hww.out.mono (T' := fun i => i = M) (fun i _ h => h.elim)).trans ht2)
  have e0 : Hid (W2.drew.heap[X]? = some (.cells #[.pointer (some ⟨T, 0, none⟩)] 222)) := Lib.hid ((ht2.block X (lt_heap dbox.out) (fun e => hMX e.symm)).trans dbox.out)
  have e1 : Hid (W2.drew.heap[T]? = some (.cells #[.map (some M), .int .u16 (L : Int)] 284)) := Lib.hid ((ht2.block T (lt_heap dtab.out) (fun e => hMT e.symm)).trans dtab.out)
  have c0 : W2.drew.cell? ⟨X, 0, none⟩ = some (.pointer (some ⟨T, 0, none⟩)) := cell_heap e0.out rfl
  have c1 : W2.drew.cell? ⟨T, 1, none⟩ = some (.int .u16 (L : Int)) := cell_heap e1.out rfl
  have c3 : W2.drew.cell? ⟨w.heap.size, 1, none⟩ = some (.int .u16 (z : Int)) := ht2.cell d3 (fun e => by simp at e; omega)
  have f1 : W2.drew.frozen? ⟨T, 1, none⟩ = false := by simp [World.frozen?, e1.out]
  clear hm2 ht2 d0 d1 d2 d3
  go_wp2_with fail
  refine wp_region_still_tail 10 (by kernel_rfl) (by kernel_rfl) ?_
  simp only [List.take_succ_cons, List.take_zero, List.drop_succ_cons, List.drop_zero]
  change wpStill _ _ W2.drew (fun a' => wpList _ _ _ _ a' W2.drew) _ _
  have Hm3 : Hid (MapAt W2.drew M (n + 1) fun k' => if k' = (r, z) then some s else F k') := Lib.hid Hm2.out
  have Hw3 : Hid (Turns (fun i => i = M) w W2.drew) := Lib.hid ⟨Hw2.out.os, Hw2.out.tape, Hw2.out.output, Hw2.out.size, Hw2.out.block⟩
  clear Hm2 Hw2
  generalize W2.drew = W3 at *
  repeat still_step
  try refine wpStill_nil ?_
  have hmx : (if L < z then (z : Int) else (L : Int)) = ((max L z : Nat) : Int) := by split <;> omega
  rw [hmx]
  clear hmx
  go_wp2
  go_end0
  have hset := Turns.set (Turns.refl (fun i => i = T) W3) (p := ⟨T, 1, none⟩) rfl (.int .u16 ((max L z : Nat) : Int))
  exact ⟨rfl, ⟨(hset.block X (lt_heap e0.out) (fun e => hTX e.symm)).trans e0.out, two_set1 _ e1.out, Hm3.out.turned hset hMT⟩,
    (Hw3.out.mono (T' := fun i => i = M ∨ i = T) (fun i _ h => .inl h)).trans (hset.mono (fun i _ h => .inr h))⟩

end Go.Proofs.YtebfdoipogjpnaaGreat

/- huff's New. -/
namespace Go.Proofs.YtebfdoipogjpnaaGreat
open Go.RowKit Go.Maps

theorem trn_lt : ∀ n r x, trn n r x < (r + 1) * 2 ^ n
  | 0, r, x => by simp [trn]
  | n + 1, r, x => by
    rw [trn]
    refine Nat.lt_of_lt_of_le (trn_lt n _ _) ?_
    rw [Nat.pow_succ, ← Nat.mul_assoc, Nat.mul_right_comm]
    exact Nat.mul_le_mul_right _ (by omega)
theorem trn_small {n x : Nat} (h : n ≤ 15) : trn n 0 x < 65536 := by
  have h1 := trn_lt n 0 x
  have h2 : 2 ^ n ≤ 2 ^ 15 := Nat.pow_le_pow_right (by decide) h
  have h3 : (2 : Nat) ^ 15 = 32768 := rfl
  omega

theorem MapAt.mono {w : World} {M n n' : Nat} {F : Nat × Nat → Option Nat} (h : MapAt w M n F) (hn : n ≤ n') : MapAt w M n' F := by
  obtain ⟨D, hD, hF⟩ := h
  exact ⟨D, hD.mono hn, hF⟩
theorem MapAt.lt {w : World} {M n : Nat} {F : Nat × Nat → Option Nat} (h : MapAt w M n F) : M < w.heap.size := by
  obtain ⟨D, hD, _⟩ := h
  exact hD.lt

/-- Symbol i is told before symbol k of length n + 1. -/
def Tld (f : Nat → Nat) (n k i : Nat) : Prop := 0 < f i ∧ (f i ≤ n ∨ (f i = n + 1 ∧ i < k))
theorem Tld.next {f : Nat → Nat} {N n i : Nat} (hi : i < N) : Tld f n N i ↔ Tld f (n + 1) 0 i := by unfold Tld; omega
theorem Tld.skip {f : Nat → Nat} {n k i : Nat} (h : f k ≠ n + 1) : Tld f n k i ↔ Tld f n (k + 1) i := by
  unfold Tld
  have : i = k → f i ≠ n + 1 := fun e => by subst e; exact h
  omega
theorem Tld.hand {f : Nat → Nat} {n k i : Nat} (h : f k = n + 1) : Tld f n (k + 1) i ↔ Tld f n k i ∨ i = k := by
  unfold Tld
  by_cases e : i = k
  · subst e; simp [h]
  · simp only [e, or_false]; omega

/-- No two symbols have one code. -/
def Apt (f : Nat → Nat) (N : Nat) : Prop := ∀ i j, i < N → j < N → 0 < f i → f i = f j → cd f N i = cd f N j → i = j

/-- What the map says, once the symbols ahead of (n, k) are told. -/
structure ToldF (f : Nat → Nat) (N n k : Nat) (F : Nat × Nat → Option Nat) : Prop where
  has : ∀ i, i < N → Tld f n k i → F (cd f N i, f i) = some i
  out : ∀ q x, F q = some x → x < N ∧ Tld f n k x ∧ q = (cd f N x, f x)
/-- The greatest length that is told. -/
structure ToldM (f : Nat → Nat) (N n k L : Nat) : Prop where
  ge : ∀ i, i < N → Tld f n k i → f i ≤ L
  le : L = 0 ∨ ∃ i, i < N ∧ Tld f n k i ∧ f i = L

theorem ToldF.congr {f : Nat → Nat} {N n k n' k' : Nat} {F : Nat × Nat → Option Nat} (h : ToldF f N n k F) (e : ∀ i, i < N → (Tld f n k i ↔ Tld f n' k' i)) : ToldF f N n' k' F :=
  ⟨fun i hi ht => h.has i hi ((e i hi).2 ht), fun q x hx => let ⟨a, b, c⟩ := h.out q x hx; ⟨a, (e x a).1 b, c⟩⟩
theorem ToldM.congr {f : Nat → Nat} {N n k n' k' L : Nat} (h : ToldM f N n k L) (e : ∀ i, i < N → (Tld f n k i ↔ Tld f n' k' i)) : ToldM f N n' k' L :=
  ⟨fun i hi ht => h.ge i hi ((e i hi).2 ht), h.le.imp id fun ⟨i, a, b, c⟩ => ⟨i, a, (e i a).1 b, c⟩⟩

theorem ToldF.hand {f : Nat → Nat} {N n k : Nat} {F : Nat × Nat → Option Nat} (h : ToldF f N n k F) (ha : Apt f N) (hk : k < N) (hl : f k = n + 1) : ToldF f N n (k + 1) (fun q => if q = (cd f N k, n + 1) then some k else F q) := by
  refine ⟨fun i hi ht => ?_, fun q x hx => ?_⟩
  · by_cases e : (cd f N i, f i) = (cd f N k, n + 1)
    · simp only [if_pos e, Option.some.injEq]
      simp only [Prod.mk.injEq] at e
      exact (ha i k hi hk ht.1 (by omega) e.1).symm
    · simp only [if_neg e]
      rcases (Tld.hand hl).1 ht with h1 | rfl
      · exact h.has i hi h1
      · exact absurd (by rw [hl]) e
  · by_cases e : q = (cd f N k, n + 1)
    · simp only [if_pos e, Option.some.injEq] at hx
      subst hx
      exact ⟨hk, (Tld.hand hl).2 (.inr rfl), by rw [hl]; exact e⟩
    · simp only [if_neg e] at hx
      obtain ⟨a, b, c⟩ := h.out q x hx
      exact ⟨a, (Tld.hand hl).2 (.inl b), c⟩
theorem ToldM.hand {f : Nat → Nat} {N n k L : Nat} (h : ToldM f N n k L) (hk : k < N) (hl : f k = n + 1) : ToldM f N n (k + 1) (max L (n + 1)) := by
  refine ⟨fun i hi ht => ?_, .inr ?_⟩
  · have := ht.2
    omega
  · rcases Nat.lt_or_ge (n + 1) L with h1 | h1
    · rcases h.le with h2 | ⟨i, a, b, c⟩
      · omega
      · exact ⟨i, a, (Tld.hand hl).2 (.inl b), by omega⟩
    · exact ⟨k, hk, (Tld.hand hl).2 (.inr rfl), by omega⟩

/-- What New holds while it is told. -/
structure NJ (w0 : World) (v : Value) (ls : List Nat) (M T X n k : Nat) (w : World) : Prop where
  tab : ∃ L F, TabAt w M T X (n * ls.length + k) L F ∧ ToldF (lq ls) ls.length n k F ∧ ToldM (lq ls) ls.length n k L
  lens : Row enc8 1 w v ls
  below : Below w0.heap.size w0 w
  gM : w0.heap.size ≤ M
  gT : w0.heap.size ≤ T

theorem NJ.hand (w0 : World) (v : Value) (ls : List Nat) (M T X n k : Nat) (w : World) (hN : ls.length ≤ 320) (ha : Apt (lq ls) ls.length) (hv0 : ∀ b, v.ownBlock = some b → b < w0.heap.size) (hMT : M ≠ T) (hMX : M ≠ X) (hTX : T ≠ X)
    (hn : n < 15) (hk : k < ls.length) (hl : lq ls k = n + 1) (h : NJ w0 v ls M T X n k w) :
    Calls Tryz.prog 221 #[.int .i64 (k : Int), .agg #[.int .u16 ((trn (n + 1) 0 (nx (lq ls) ls.length n k) : Nat) : Int), .int .u16 ((n + 1 : Nat) : Int)], .pointer (some ⟨X, 0, none⟩)] w fun e w' => e = .returned (.tuple #[]) ∧ NJ w0 v ls M T X n (k + 1) w' := by
  obtain ⟨L, F, h1, h2, h3⟩ := h.tab
  have hb : n * ls.length ≤ 14 * 320 := Nat.mul_le_mul (by omega) hN
  have e : trn (n + 1) 0 (nx (lq ls) ls.length n k) = cd (lq ls) ls.length k := by
    unfold cd
    rw [hl, Nat.add_sub_cancel]
  refine Calls.mono (new1_any M T X _ L _ (n + 1) k F w h1 (by unfold maxLen; omega) (trn_small (by omega)) (by omega) (by omega) hMT hMX hTX h1.map.lt) ?_
  rintro _ w' ⟨rfl, g1, ht⟩
  refine ⟨rfl, ⟨_, _, g1, by rw [e]; exact h2.hand ha hk hl, h3.hand hk hl⟩, h.lens.turns ht (fun b hb e => ?_), Below.trans h.below (ht.below h.below.size (fun i hi => ?_)), h.gM, h.gT⟩
  · have := hv0 b hb
    have := h.gM
    have := h.gT
    omega
  · have := h.gM
    have := h.gT
    omega

theorem NJ.skip (w0 : World) (v : Value) (ls : List Nat) (M T X n k : Nat) (w : World) (hl : lq ls k ≠ n + 1) (h : NJ w0 v ls M T X n k w) : NJ w0 v ls M T X n (k + 1) w := by
  obtain ⟨L, F, h1, h2, h3⟩ := h.tab
  exact ⟨⟨L, F, ⟨h1.box, h1.tab, h1.map.mono (by omega)⟩, h2.congr fun i _ => Tld.skip hl, h3.congr fun i _ => Tld.skip hl⟩, h.lens, h.below, h.gM, h.gT⟩

theorem NJ.next (w0 : World) (v : Value) (ls : List Nat) (M T X n : Nat) (w : World) (h : NJ w0 v ls M T X n ls.length w) : NJ w0 v ls M T X (n + 1) 0 w := by
  obtain ⟨L, F, h1, h2, h3⟩ := h.tab
  exact ⟨⟨L, F, ⟨h1.box, h1.tab, h1.map.mono (by rw [Nat.succ_mul]; omega)⟩, h2.congr fun i hi => Tld.next hi, h3.congr fun i hi => Tld.next hi⟩, h.lens, h.below, h.gM, h.gT⟩

end Go.Proofs.YtebfdoipogjpnaaGreat
