/- Several texts in one, each with its own head. -/
import Derived.Test.YtdcmalbbijchiaaZq39
import Derived.Test.YtdcmalbbijchiaaZq31
import Derived.Test.YtdcmalbbijchiaaZq15
import Derived.Test.YtdcmalbbijchiaaZq36
/- lz's search: next, rarest; size, mayBe. -/
namespace Go.Proofs.Ytdcmalbbijchiaa
open Go.RowKit

/-- The next distance. -/
def nextN (hop dist : Nat) : Nat := if hop = 0 ∨ 32768 < dist + hop then 0 else dist + hop

/-- A token as a value, and as cells. -/
def tkV (t : Tk) : Value := .agg #[.int .u8 (t.b : Int), .int .i64 t.n, .int .i64 t.d]
def encT (t : Tk) : List Value := [.int .u8 (t.b : Int), .int .i64 t.n, .int .i64 t.d]
theorem encT_len (t : Tk) : (encT t).length = 3 := rfl
theorem encT_one (l : List Tk) : ∀ u ∈ l.flatMap encT, u.oneCell' = true := by
  intro u hu
  obtain ⟨t, -, ht⟩ := List.mem_flatMap.1 hu
  simp [encT] at ht
  rcases ht with rfl | rfl | rfl <;> rfl

theorem size_any (t : Tk) (w : World) (hn : t.n ≤ 1000) :
    Makes Try.prog 10 #[tkV t] w (.int .i64 ((t.size : Nat) : Int)) := by
  unfold Makes
  obtain ⟨b, n, d⟩ := t
  unfold tkV
  simp only at hn ⊢
  have hs : ((Tk.size ⟨b, n, d⟩ : Nat) : Int) = max n 1 := by unfold Tk.size; simp only; omega
  rw [hs]
  clear hs
  go_enter Try.func10, Try.ntmps10
  go_wp2
  all_goals
    go_ret
    exact ⟨ret_int (by omega), Below.al1 w _⟩

set_option maxHeartbeats 1000000 in
theorem lzMayBe_any (t : Tk) (w : World) :
    Makes Try.prog 9 #[tkV t] w (.bool t.okB) := by
  unfold Makes
  obtain ⟨b, n, d⟩ := t
  unfold tkV
  obtain ⟨r, hr⟩ : ∃ r, Tk.okB ⟨b, n, d⟩ = r := ⟨_, rfl⟩
  simp only [hr]
  have Hr := Lib.hid hr
  clear hr
  by_cases h0 : n = 0
  · have e0 : (n == 0) = true := by simp; omega
    have hr : r = (d == 0) := by
      rw [← Hr.out]; unfold Tk.okB; simp only [if_pos h0]; rw [Bool.eq_iff_iff]; simp
    rw [hr]
    clear h0 hr
    go_enter Try.func9, Try.ntmps9
    go_wp2
    go_ret
    exact ⟨rfl, Below.al1 w _⟩
  have e0 : (n == 0) = false := by simp; omega
  have hr0 : r = decide (3 ≤ n ∧ n ≤ 258 ∧ 1 ≤ d ∧ d ≤ 32768 ∧ b = 0) := by
    rw [← Hr.out]; unfold Tk.okB; simp only [if_neg h0]
  have Hr0 := Lib.hid hr0
  clear hr0 Hr h0
  by_cases h1 : 3 ≤ n
  · have d1 : decide (3 ≤ n) = true := by simp; omega
    by_cases h2 : n ≤ 258
    · have d2 : decide (n ≤ 258) = true := by simp; omega
      by_cases h3 : 1 ≤ d
      · have d3 : decide (1 ≤ d) = true := by simp; omega
        by_cases h4 : d ≤ 32768
        · have d4 : decide (d ≤ 32768) = true := by simp; omega
          have hr : r = ((b : Int) == 0) := by
            rw [Hr0.out, Bool.eq_iff_iff]; simp; omega
          rw [hr]
          clear hr
          go_enter Try.func9, Try.ntmps9
          go_wp2
          go_ret
          exact ⟨rfl, Below.al1 w _⟩
        · have d4 : decide (d ≤ 32768) = false := by simp; omega
          obtain rfl : r = false := by rw [Hr0.out]; simp; omega
          go_enter Try.func9, Try.ntmps9
          go_wp2
          go_ret
          exact ⟨rfl, Below.al1 w _⟩
      · have d3 : decide (1 ≤ d) = false := by simp; omega
        obtain rfl : r = false := by rw [Hr0.out]; simp; omega
        go_enter Try.func9, Try.ntmps9
        go_wp2
        go_ret
        exact ⟨rfl, Below.al1 w _⟩
    · have d2 : decide (n ≤ 258) = false := by simp; omega
      obtain rfl : r = false := by rw [Hr0.out]; simp; omega
      go_enter Try.func9, Try.ntmps9
      go_wp2
      go_ret
      exact ⟨rfl, Below.al1 w _⟩
  · have d1 : decide (3 ≤ n) = false := by simp; omega
    obtain rfl : r = false := by rw [Hr0.out]; simp; omega
    go_enter Try.func9, Try.ntmps9
    go_wp2
    go_ret
    exact ⟨rfl, Below.al1 w _⟩

end Go.Proofs.Ytdcmalbbijchiaa

/- Slices of bytes and of tokens that come in as arguments. -/
namespace Go.Proofs.Ytdcmalbbijchiaa
open Go.ChangeShapes Go.WideShapes Go.ChangeAt Go.RowKit Go.Joins Go.Deep

set_option maxRecDepth 100000 in
theorem byte_atZ {H : Type} {enc : TypeId × Value → H} {W : World} (n : Nat) (a : Addr) (D : DataW H) (Pl : List MemPlace) (cs : List Value) (hc : W.cells? 0 a 1 = some cs) (ht : DataW.trod enc Try.prog W 0 (fun _ => true) true n 5 cs = some (D, Pl)) :
    ∃ x : Nat, x < 256 ∧ ∀ j u, (enc8 x)[j]? = some u → W.cell? (a.add j) = some u := by
  obtain ⟨-, hl, hat⟩ := World.cells?_some hc
  match cs, hl with
  | [c0], _ =>
    obtain ⟨x, e0, -, wf⟩ := DataW.trod_int Try.underlying5 ht
    simp at e0
    subst e0
    have hb := wf_u8b wf
    obtain ⟨m, rfl⟩ := Int.eq_ofNat_of_zero_le hb.1
    refine ⟨m, by omega, fun j u hu => ?_⟩
    have hj : j < 1 := by
      have := (List.getElem?_eq_some_iff.1 hu).1
      simpa [enc8] using this
    rw [hat j hj]
    exact hu

set_option maxRecDepth 100000 in
theorem open_bytesZ {H : Type} {enc : TypeId × Value → H} {W : World} {base : Nat} {v : Value} {d : DataW H} {p : List MemPlace} (hv : Value.okWide Try.prog W .any base 23 v) (h : DataW.Trod enc Try.prog W 0 (fun _ => true) true 23 v d p) :
    ∃ xs : List Nat, Rw8 W v xs ∧ ∀ x ∈ xs, x < 256 :=
  open_rows Try.underlying23 (by kernel_rfl) byte_atZ hv h

theorem wf_u16z {x : Int} (h : (Lit.int .u16 x).wf = true) : 0 ≤ x ∧ x ≤ 65535 := by
  have hm : IntKind.u16.min = 0 := by decide
  have hx : IntKind.u16.max = 65535 := by decide
  simpa [Lit.wf, hm, hx] using h

/-- A token that may stand in memory. -/
def GoodT (t : Tk) : Prop := t.b < 256 ∧ (-9223372036854775808 ≤ t.n ∧ t.n ≤ 9223372036854775807) ∧ (-9223372036854775808 ≤ t.d ∧ t.d ≤ 9223372036854775807)
instance : Inhabited Tk := ⟨⟨0, 0, 0⟩⟩
set_option maxRecDepth 100000 in
theorem tok_at {H : Type} {enc : TypeId × Value → H} {W : World} (n : Nat) (a : Addr) (D : DataW H) (Pl : List MemPlace) (cs : List Value) (hc : W.cells? 0 a 3 = some cs) (ht : DataW.trod enc Try.prog W 0 (fun _ => true) true n 40 cs = some (D, Pl)) :
    ∃ t : Tk, GoodT t ∧ ∀ j u, (encT t)[j]? = some u → W.cell? (a.add j) = some u := by
  obtain ⟨-, hl, hat⟩ := World.cells?_some hc
  obtain ⟨ys, n', -, -, -, hyl, hf⟩ := DataW.trod_struct Try.underlying40 ht
  have h0 := hf 0 _ rfl
  have h1 := hf 1 _ rfl
  have h2 := hf 2 _ rfl
  match ys, hyl with
  | [y0, y1, y2], _ =>
    match cs, hl with
    | [c0, c1, c2], _ =>
      have hci : Try.prog.cellsOf 3 = 1 := by kernel_rfl
      have hcb : Try.prog.cellsOf 5 = 1 := by kernel_rfl
      obtain ⟨p, e0, -, wa⟩ := DataW.trod_int Try.underlying5 h0
      obtain ⟨q, e1, -, wb⟩ := DataW.trod_int Try.underlying3 h1
      obtain ⟨s, e2, -, wc⟩ := DataW.trod_int Try.underlying3 h2
      simp [hci, hcb] at e0 e1 e2
      subst e0 e1 e2
      have hb := wf_u8b wa
      obtain ⟨m, rfl⟩ := Int.eq_ofNat_of_zero_le hb.1
      refine ⟨⟨m, q, s⟩, ⟨by show m < 256; omega, wf_bounds wb, wf_bounds wc⟩, fun j u hu => ?_⟩
      have hj : j < 3 := by
        have := (List.getElem?_eq_some_iff.1 hu).1
        simpa [encT] using this
      rw [hat j hj]
      exact hu

set_option maxRecDepth 100000 in
theorem open_toks {H : Type} {enc : TypeId × Value → H} {W : World} {base : Nat} {v : Value} {d : DataW H} {p : List MemPlace} (hv : Value.okWide Try.prog W .any base 26 v) (h : DataW.Trod enc Try.prog W 0 (fun _ => true) true 26 v d p) :
    ∃ ts : List Tk, RwG encT 3 W v ts ∧ ∀ t ∈ ts, GoodT t :=
  open_rows Try.underlying26 (by kernel_rfl) tok_at hv h

end Go.Proofs.Ytdcmalbbijchiaa

/- inflate: blocks that come in as an argument: a slice of structs, each a byte and a slice of tokens. -/
namespace Go.Proofs.Ytdcmalbbijchiaa
open Go.ChangeShapes Go.WideShapes Go.ChangeAt Go.RowKit Go.Joins Go.Deep

/-- A slice within memory: where it has elements, they lie. -/
def RowIn {α : Type} (enc : α → List Value) (k : Nat) (W : World) (v : Value) (xs : List α) : Prop :=
  ∃ p c, v = .slice p xs.length c ∧ xs.length ≤ c ∧ c ≤ maxLen ∧ (xs = [] ∨ RowAt enc k W p xs)

theorem RowIn.below {α : Type} {enc : α → List Value} {k : Nat} {W W' : World} {v : Value} {xs : List α} (h : RowIn enc k W v xs) (hb : Below W.heap.size W W') : RowIn enc k W' v xs := by
  obtain ⟨p, c, rfl, h1, h2, h3⟩ := h
  exact ⟨p, c, rfl, h1, h2, h3.imp id fun h => h.below hb⟩

set_option maxRecDepth 100000 in
theorem rows_in {α : Type} [Inhabited α] {ec : α → List Value} {k : Nat} {Good : α → Prop} {H : Type} {enc : TypeId × Value → H} {W : World} {t e : TypeId} {fuel : Nat} {cs : List Value} {x : DataW H × List MemPlace}
    (ht : Try.prog.underlying t = some (.slice e)) (hk : Try.prog.cellsOf e = k) (hk0 : 0 < k)
    (hat : ∀ (n : Nat) (a : Addr) (D : DataW H) (Pl : List MemPlace) (cs : List Value), W.cells? 0 a k = some cs → DataW.trod enc Try.prog W 0 (fun _ => true) true n e cs = some (D, Pl) → ∃ x : α, Good x ∧ ∀ j u, (ec x)[j]? = some u → W.cell? (a.add j) = some u)
    (h : DataW.trod enc Try.prog W 0 (fun _ => true) true fuel t cs = some x) :
    ∃ (v : Value) (xs : List α), cs = [v] ∧ RowIn ec k W v xs ∧ (∀ x ∈ xs, Good x) ∧ ∀ n c, v = .slice none n c → c = 0 := by
  rcases open_slice ht h with ⟨rfl, -⟩ | ⟨a, len, cap, m, n, D, Pl, rfl, hb, hl, hm, hmm, hx, hi⟩
  · exact ⟨_, [], rfl, ⟨none, 0, rfl, Nat.le_refl _, by simp [maxLen], .inl rfl⟩, (fun r h => by cases h), fun n c h => (by cases h; rfl)⟩
  · rw [hk] at hi
    have H : ∀ i, i < len → ∃ r : α, Good r ∧ ∀ j u, (ec r)[j]? = some u → W.cell? ((a.add (i * k)).add j) = some u := fun i him => by
      obtain ⟨cs', hc, ht⟩ := hi i (by rw [hmm]; simp; omega)
      exact hat _ _ _ _ _ hc ht
    obtain ⟨f, hf'⟩ : ∃ f : Nat → α, ∀ i, i < len → Good (f i) ∧ ∀ j u, (ec (f i))[j]? = some u → W.cell? ((a.add (i * k)).add j) = some u := by
      classical
      refine ⟨fun i => if h : i < len then Classical.choose (H i h) else default, fun i him => ?_⟩
      simp only [him, dif_pos]
      exact Classical.choose_spec (H i him)
    have hln : ((List.range len).map f).length = len := by simp
    refine ⟨_, (List.range len).map f, rfl, ⟨some a, cap, by rw [hln], by rw [hln]; exact hl, hm, ?_⟩, fun r hr => ?_, fun n c h => by cases h⟩
    · by_cases h0 : len = 0
      · subst h0; exact .inl rfl
      · obtain ⟨cs', hc, -⟩ := hi 0 (by rw [hmm]; simp; omega)
        obtain ⟨-, hl', hat'⟩ := World.cells?_some hc
        have h5 := hat' 0 hk0
        rw [List.getElem?_eq_getElem (by omega), show (a.add (0 * k)).add 0 = a by simp [Addr.add]] at h5
        have h6 : a.block < W.heap.size ∧ a.spot = none := by
          unfold World.cell? at h5
          split at h5
          · rename_i hq
            refine ⟨(Array.getElem?_eq_some_iff.1 hq).1, ?_⟩
            cases e : a.spot with
            | none => rfl
            | some s => rw [e] at h5; cases h5
          · cases h5
        obtain ⟨ab, ao, asp⟩ := a
        obtain ⟨hlt, rfl⟩ := h6
        refine .inr (.inr ⟨ab, ao, rfl, hlt, fun i x hx j u hu => ?_⟩)
        rw [List.getElem?_map] at hx
        cases hr : (List.range len)[i]? with
        | none => rw [hr] at hx; cases hx
        | some q =>
          rw [hr] at hx
          obtain ⟨hlt2, hq⟩ := List.getElem?_eq_some_iff.1 hr
          rw [List.getElem_range] at hq
          subst hq
          cases hx
          have h4 := (hf' i (by simpa using hlt2)).2 j u hu
          rw [Addr.add_lit, Addr.add_lit] at h4
          exact h4
    · obtain ⟨i, hi', rfl⟩ := List.mem_map.1 hr
      exact (hf' i (by simpa using hi')).1

/-- A block as it lies: its type, its slice, and what that reads as. -/
structure BkE where
  k : Nat
  v : Value
  ts : List Tk
instance : Inhabited BkE := ⟨⟨0, .slice none 0 0, []⟩⟩
def encBk (b : BkE) : List Value := [.int .u8 (b.k : Int), b.v]
def GoodBk (W : World) (b : BkE) : Prop := b.k < 256 ∧ RowIn encT 3 W b.v b.ts ∧ (∀ t ∈ b.ts, GoodT t) ∧ ∀ n c, b.v = .slice none n c → c = 0

set_option maxRecDepth 100000 in
theorem block_at {H : Type} {enc : TypeId × Value → H} {W : World} (n : Nat) (a : Addr) (D : DataW H) (Pl : List MemPlace) (cs : List Value) (hc : W.cells? 0 a 2 = some cs) (ht : DataW.trod enc Try.prog W 0 (fun _ => true) true n 28 cs = some (D, Pl)) :
    ∃ b : BkE, GoodBk W b ∧ ∀ j u, (encBk b)[j]? = some u → W.cell? (a.add j) = some u := by
  obtain ⟨-, hl, hat⟩ := World.cells?_some hc
  obtain ⟨ys, n', -, -, -, hyl, hf⟩ := DataW.trod_struct Try.underlying28 ht
  have h0 := hf 0 _ rfl
  have h1 := hf 1 _ rfl
  match ys, hyl with
  | [y0, y1], _ =>
    match cs, hl with
    | [c0, c1], _ =>
      have hci : Try.prog.cellsOf 26 = 1 := by kernel_rfl
      have hcb : Try.prog.cellsOf 5 = 1 := by kernel_rfl
      have hct : Try.prog.cellsOf 40 = 3 := by kernel_rfl
      obtain ⟨p, e0, -, wa⟩ := DataW.trod_int Try.underlying5 h0
      obtain ⟨v, ts, e1, hr, hg, hz⟩ := rows_in Try.underlying26 hct (by omega) tok_at h1
      simp [hci, hcb] at e0 e1
      subst e0 e1
      have hb := wf_u8b wa
      obtain ⟨m, rfl⟩ := Int.eq_ofNat_of_zero_le hb.1
      refine ⟨⟨m, c1, ts⟩, ⟨by show m < 256; omega, hr, hg, hz⟩, fun j u hu => ?_⟩
      have hj : j < 2 := by
        have := (List.getElem?_eq_some_iff.1 hu).1
        simpa [encBk] using this
      rw [hat j hj]
      exact hu

set_option maxRecDepth 100000 in
theorem open_blocks {H : Type} {enc : TypeId × Value → H} {W : World} {base : Nat} {v : Value} {d : DataW H} {p : List MemPlace} (hv : Value.okWide Try.prog W .any base 22 v) (h : DataW.Trod enc Try.prog W 0 (fun _ => true) true 22 v d p) :
    ∃ bs : List BkE, RwG encBk 2 W v bs ∧ ∀ b ∈ bs, GoodBk W b :=
  open_rows Try.underlying22 (by kernel_rfl) block_at hv h

end Go.Proofs.Ytdcmalbbijchiaa

/- inflate: a writer of laid numbers beside other memory that it leaves alone. -/
namespace Go.Proofs.Ytdcmalbbijchiaa
open Go.RowKit Go.Maps

/-- A writer that has P; the blocks G are none of its own, and as they were in W. -/
def WrY (G : Nat → Prop) (base B : Nat) (P : Pt) (W w : World) : Prop :=
  ∃ sv, Wr w base B sv (nmP P) (szP P) ∧ base ≤ w.heap.size ∧ szP P ≤ 8388608 ∧ Turns (fun b => ¬ G b) W w ∧ ∀ b, G b → b ≠ B ∧ sv.ownBlock ≠ some b ∧ b < W.heap.size

theorem WrY.turns {G : Nat → Prop} {base B : Nat} {P : Pt} {W w : World} (h : WrY G base B P W w) : Turns (fun b => ¬ G b) W w := by obtain ⟨_, _, _, _, h, _⟩ := h; exact h
theorem WrY.max {G : Nat → Prop} {base B : Nat} {P : Pt} {W w : World} (h : WrY G base B P W w) : szP P ≤ 8388608 := by obtain ⟨_, _, _, h, _⟩ := h; exact h
theorem WrY.of {G : Nat → Prop} {base B : Nat} {Q : Pt} {W w w' : World} {sv : Value} (h2 : base ≤ w.heap.size) (h4 : Turns (fun b => ¬ G b) W w) (h5 : ∀ b, G b → b ≠ B ∧ sv.ownBlock ≠ some b ∧ b < W.heap.size) (hQ : szP Q ≤ 8388608)
    (hto : WrTo base B sv (nmP Q) (szP Q) w w') : WrY G base B Q W w' := by
  obtain ⟨sv', k1, k2, k3⟩ := hto
  refine ⟨sv', k1, Nat.le_trans h2 k2.size, hQ, h4.trans (k2.mono fun i _ hi hg => ?_), fun b hb => ?_⟩
  · obtain ⟨a1, a2, -⟩ := h5 i hg
    rcases hi with hi | hi
    · exact a1 hi
    · exact a2 hi
  · obtain ⟨a1, a2, a3⟩ := h5 b hb
    refine ⟨a1, fun hs => ?_, a3⟩
    rcases k3 b hs with hs | hs
    · exact a2 hs
    · have := h4.size; omega
theorem putY {G : Nat → Prop} {base B v k : Nat} {P : Pt} {W w : World} (h : WrY G base B P W w) (hv : v < 2 ^ k) (hk : k ≤ 24) (hmax : szP P + k ≤ 8388608) :
    Calls Try.prog 12 #[.pointer (some ⟨B, 0, none⟩), .int .u32 (v : Int), .int .i64 (k : Int)] w fun e w' => e = .returned (.int .i64 0) ∧ WrY G base B (P ++ [(v, k)]) W w' := by
  obtain ⟨e1, e2⟩ := nmP_snoc P v k
  obtain ⟨sv, h1, h2, -, h4, h5⟩ := h
  exact (put_ok base B (nmP P) (szP P) v k sv w h1 hv hk hmax h2).mono fun e w' ⟨he, hto⟩ => ⟨he, WrY.of h2 h4 h5 (by rw [e2]; exact hmax) (by rw [e1, e2]; exact hto)⟩
theorem alignY {G : Nat → Prop} {base B : Nat} {P : Pt} {W w : World} (h : WrY G base B P W w) (hmax : szP P + 8 ≤ 8388608) :
    Calls Try.prog 13 #[.pointer (some ⟨B, 0, none⟩)] w fun e w' => e = .returned (.int .i64 0) ∧ WrY G base B (P ++ [(0, (8 - szP P % 8) % 8)]) W w' := by
  obtain ⟨e1, e2⟩ := nmP_snoc P 0 ((8 - szP P % 8) % 8)
  rw [Nat.zero_mul, Nat.add_zero] at e1
  obtain ⟨sv, h1, h2, h3, h4, h5⟩ := h
  exact (walign_any base B (nmP P) (szP P) sv w h1 h3 h2).mono fun e w' ⟨he, hto⟩ => ⟨he, WrY.of h2 h4 h5 (by rw [e2]; omega) (by rw [e1, e2]; exact hto)⟩
theorem WrY.below {G : Nat → Prop} {base B : Nat} {P : Pt} {W w w' : World} (h : WrY G base B P W w) (hb : Below w.heap.size w w') : WrY G base B P W w' := by
  obtain ⟨sv, h1, h2, h3, h4, h5⟩ := h
  exact ⟨sv, h1.below hb, Nat.le_trans h2 hb.size, h3, h4.trans (Turns.of_below' hb), h5⟩
/-- What is new beside it is left alone, too. -/
theorem WrY.more {G : Nat → Prop} {base B : Nat} {P : Pt} {W w w' : World} (h : WrY G base B P W w) (hb : Below w.heap.size w w') : WrY (fun b => G b ∨ (w.heap.size ≤ b ∧ b < w'.heap.size)) base B P w' w' := by
  obtain ⟨sv, h1, h2, h3, h4, h5⟩ := h
  refine ⟨sv, h1.below hb, Nat.le_trans h2 hb.size, h3, Turns.refl _ _, fun b hb' => ?_⟩
  have hs := h1.size
  rcases hb' with hg | ⟨g1, g2⟩
  · obtain ⟨a1, a2, a3⟩ := h5 b hg
    exact ⟨a1, a2, by have := h4.size; have := hb.size; omega⟩
  · refine ⟨by omega, fun e => ?_, g2⟩
    have := (h1.own.lt b e).2
    omega
theorem WrY.less {G G' : Nat → Prop} {base B : Nat} {P : Pt} {W W' w : World} (h : WrY G' base B P W' w) (hG : ∀ b, G b → G' b ∧ b < W.heap.size) (ht : Turns (fun b => ¬ G b) W W') : WrY G base B P W w := by
  obtain ⟨sv, h1, h2, h3, h4, h5⟩ := h
  refine ⟨sv, h1, h2, h3, ht.trans (h4.mono fun i _ hi hg => hi (hG i hg).1), fun b hb => ?_⟩
  obtain ⟨a1, a2, -⟩ := h5 b (hG b hb).1
  exact ⟨a1, a2, (hG b hb).2⟩
theorem WrY.congr {G : Nat → Prop} {base B : Nat} {P Q : Pt} {W w : World} (h : WrY G base B P W w) (e : P = Q) : WrY G base B Q W w := e ▸ h
theorem WrY.owns {G : Nat → Prop} {base B : Nat} {P : Pt} {W w : World} (h : WrY G base B P W w) {bs : Nat} {e : TypeId} {size : Nat} {v : Value} {n : Nat} {xs : List Value} (hc : W.ownsRow bs e size v n xs) (hn : ∀ k, v.ownBlock = some k → G k) : w.ownsRow bs e size v n xs :=
  h.turns.owns hc fun k hk hg => hg (hn k hk)
theorem WrY.cell {G : Nat → Prop} {base B : Nat} {P : Pt} {W w : World} (h : WrY G base B P W w) {p : Addr} {v : Value} (hc : W.cell? p = some v) (hn : G p.block) : w.cell? p = some v :=
  h.turns.cell hc fun hg => hg hn

/-- A writer beside G as in W, and beside what F tells, which hangs on guarded blocks alone. -/
def WrF (G : Nat → Prop) (W : World) (F : World → Prop) (base B : Nat) (P : Pt) (w : World) : Prop :=
  ∃ (G' : Nat → Prop) (W' : World), WrY G' base B P W' w ∧ (∀ b, G b → G' b ∧ b < W.heap.size) ∧ Turns (fun b => ¬ G b) W W' ∧ ∀ w', Turns (fun b => ¬ G' b) W' w' → F w'

theorem WrF.start {G : Nat → Prop} {W w : World} {F : World → Prop} {base B : Nat} {P : Pt} (h : WrY G base B P W w) (hF : ∀ w', Turns (fun b => ¬ G b) W w' → F w') : WrF G W F base B P w :=
  ⟨G, W, h, fun b hb => ⟨hb, by obtain ⟨_, _, _, _, _, h5⟩ := h; exact (h5 b hb).2.2⟩, Turns.refl _ _, hF⟩
theorem WrF.now {G : Nat → Prop} {W w : World} {F : World → Prop} {base B : Nat} {P : Pt} (h : WrF G W F base B P w) : F w := by
  obtain ⟨G', W', h1, -, -, h4⟩ := h; exact h4 w h1.turns
theorem WrF.max {G : Nat → Prop} {W w : World} {F : World → Prop} {base B : Nat} {P : Pt} (h : WrF G W F base B P w) : szP P ≤ 8388608 := by
  obtain ⟨G', W', h1, -⟩ := h; exact h1.max
theorem WrF.done {G : Nat → Prop} {W w : World} {F : World → Prop} {base B : Nat} {P : Pt} (h : WrF G W F base B P w) : WrY G base B P W w := by
  obtain ⟨G', W', h1, h2, h3, -⟩ := h; exact h1.less h2 h3
theorem WrF.put {G : Nat → Prop} {W w : World} {F : World → Prop} {base B v k : Nat} {P : Pt} (h : WrF G W F base B P w) (hv : v < 2 ^ k) (hk : k ≤ 24) (hmax : szP P + k ≤ 8388608) :
    Calls Try.prog 12 #[.pointer (some ⟨B, 0, none⟩), .int .u32 (v : Int), .int .i64 (k : Int)] w fun e w' => e = .returned (.int .i64 0) ∧ WrF G W F base B (P ++ [(v, k)]) w' := by
  obtain ⟨G', W', h1, h2, h3, h4⟩ := h
  exact (putY h1 hv hk hmax).mono fun e w' ⟨he, h5⟩ => ⟨he, G', W', h5, h2, h3, h4⟩
theorem WrF.align {G : Nat → Prop} {W w : World} {F : World → Prop} {base B : Nat} {P : Pt} (h : WrF G W F base B P w) (hmax : szP P + 8 ≤ 8388608) :
    Calls Try.prog 13 #[.pointer (some ⟨B, 0, none⟩)] w fun e w' => e = .returned (.int .i64 0) ∧ WrF G W F base B (P ++ [(0, (8 - szP P % 8) % 8)]) w' := by
  obtain ⟨G', W', h1, h2, h3, h4⟩ := h
  exact (alignY h1 hmax).mono fun e w' ⟨he, h5⟩ => ⟨he, G', W', h5, h2, h3, h4⟩
theorem WrF.below {G : Nat → Prop} {W w w' : World} {F : World → Prop} {base B : Nat} {P : Pt} (h : WrF G W F base B P w) (hb : Below w.heap.size w w') : WrF G W F base B P w' := by
  obtain ⟨G', W', h1, h2, h3, h4⟩ := h
  exact ⟨G', W', h1.below hb, h2, h3, h4⟩
theorem WrF.more {G : Nat → Prop} {W w w' : World} {F F2 : World → Prop} {base B : Nat} {P : Pt} (h : WrF G W F base B P w) (hb : Below w.heap.size w w')
    (hF : ∀ w'', Turns (fun b => ¬ (w.heap.size ≤ b ∧ b < w'.heap.size)) w' w'' → F2 w'') : WrF G W (fun w => F w ∧ F2 w) base B P w' := by
  obtain ⟨G', W', h1, h2, h3, h4⟩ := h
  refine ⟨_, w', h1.more hb, fun b hg => ⟨.inl (h2 b hg).1, (h2 b hg).2⟩, h3.trans (((h1.turns).trans (Turns.of_below' hb)).mono fun i _ hi hg => hi (h2 i hg).1), fun w'' ht => ⟨h4 w'' ?_, hF w'' (ht.mono fun i _ hi hn => hi (.inr hn))⟩⟩
  exact ((h1.turns).trans (Turns.of_below' hb)).trans (ht.mono fun i _ hi hn => hi (.inl hn))
theorem WrF.weak {G : Nat → Prop} {W w : World} {F F2 : World → Prop} {base B : Nat} {P : Pt} (h : WrF G W F base B P w) (hF : ∀ w, F w → F2 w) : WrF G W F2 base B P w := by
  obtain ⟨G', W', h1, h2, h3, h4⟩ := h
  exact ⟨G', W', h1, h2, h3, fun w' ht => hF w' (h4 w' ht)⟩
theorem WrF.congr {G : Nat → Prop} {W w : World} {F : World → Prop} {base B : Nat} {P Q : Pt} (h : WrF G W F base B P w) (e : P = Q) : WrF G W F base B Q w := e ▸ h
theorem new_owns {w w' w'' : World} (ht : Turns (fun b => ¬ (w.heap.size ≤ b ∧ b < w'.heap.size)) w' w'') {e : TypeId} {size : Nat} {v : Value} {n : Nat} {xs : List Value} (h : w'.ownsRow w.heap.size e size v n xs) : w''.ownsRow w.heap.size e size v n xs :=
  ht.owns h fun k hk hn => hn (h.lt k hk)
theorem new_cell {w w' w'' : World} (ht : Turns (fun b => ¬ (w.heap.size ≤ b ∧ b < w'.heap.size)) w' w'') {p : Addr} {v : Value} (hp : w.heap.size ≤ p.block) (h : w'.cell? p = some v) : w''.cell? p = some v :=
  ht.cell h fun hn => hn ⟨hp, World.block_lt_of_cell? _ _ h⟩

end Go.Proofs.Ytdcmalbbijchiaa
