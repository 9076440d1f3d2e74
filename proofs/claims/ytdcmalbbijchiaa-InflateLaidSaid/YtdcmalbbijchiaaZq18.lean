/- Several texts in one, each with its own head. -/
import Derived.Test.YtdcmalbbijchiaaZq17
import Derived.StillTailTactics
/- huff's New: what its closure does. -/
namespace Go.Proofs.Ytdcmalbbijchiaa
open Go.RowKit Go.Maps

theorem MapAt.turned {w w' : World} {M n : Nat} {F : Nat × Nat → Option Nat} (h : MapAt w M n F) {T : Nat → Prop} (ht : Turns T w w') (hT : ¬ T M) : MapAt w' M n F := by
  obtain ⟨D, ⟨es, clock, hb, r⟩, hF⟩ := h
  exact ⟨D, ⟨es, clock, (ht.block M (lt_heap hb) hT).trans hb, r⟩, hF⟩

theorem mt_turns {w w' : World} {M : Nat} (h : w.mapTurned w' M) : Turns (fun i => i = M) w w' := Turns.of_grown h.grown (fun i e => by cases e; rfl)

theorem wpList_put_at (w : World) {ops : Array Oper} {rest : List Oper} {o : Oper} {a : Act} {Q : Exit → Act → World → Prop} (hg : o.guard = none) (m x v : Operand) (hop : o.op = Op.mapUpdate 137 m x v)
    (M n s r z : Nat) (F : Nat × Nat → Option Nat) (hm : a.eval m = .map (some M)) (hown : MapAt w M n F) (hn : n < maxLen) (h1 : r < 65536) (h2 : z < 65536) (hs : s ≤ 1000000)
    (hx : a.eval x = .agg #[.int .u16 (r : Int), .int .u16 (z : Int)]) (hv : a.eval v = .int .i64 (s : Int))
    (hK : ∀ w', MapAt w' M (n + 1) (fun k' => if k' = (r, z) then some s else F k') → Turns (fun i => i = M) w w' → wpList Try.prog ops Q rest (a.put o.dst undef) w') : wpList Try.prog ops Q (o :: rest) a w := by
  refine wpList_plain hg fun K' hK' => ?_
  obtain ⟨w', hrun, r1, r2⟩ := hown.put (k := (r, z)) hn h1 h2 hs
  unfold ck at hrun
  unfold Oper.wp
  simp [execOp, hop, hm, hx, hv, hrun, Result.andThen]
  exact hK' _ _ (hK w' r1 (mt_turns r2))

/-- A table as New builds it: the box of t, its two fields, its map. -/
structure TabAt (w : World) (M T X n L : Nat) (F : Nat × Nat → Option Nat) : Prop where
  box : w.heap[X]? = some (.cells #[.pointer (some ⟨T, 0, none⟩)] 109)
  tab : w.heap[T]? = some (.cells #[.map (some M), .int .u16 (L : Int)] 139)
  map : MapAt w M n F

set_option maxRecDepth 20000 in
set_option maxHeartbeats 1000000 in
theorem new1_any (M T X n L r z s : Nat) (F : Nat × Nat → Option Nat) (w : World) (h : TabAt w M T X n L F) (hn : n < maxLen) (hr : r < 65536) (hz : z < 65536) (hs : s ≤ 1000000) (hMT : M ≠ T) (hMX : M ≠ X) (hTX : T ≠ X) (hMw : M < w.heap.size) :
    Calls Try.prog 84 #[.int .i64 (s : Int), .agg #[.int .u16 (r : Int), .int .u16 (z : Int)], .pointer (some ⟨X, 0, none⟩)] w fun e w' => e = .returned (.tuple #[]) ∧ TabAt w' M T X (n + 1) (max L z) (fun k' => if k' = (r, z) then some s else F k') ∧ Turns (fun i => i = M ∨ i = T) w w' := by
  obtain ⟨W, hW⟩ : ∃ W, w.alloc (.cells #[.int .u16 (r : Int), .int .u16 (z : Int)] 75) = W := ⟨_, rfl⟩
  have hbw : Below w.heap.size w W := by rw [← hW]; exact Below.al1 w _
  have hbox : W.heap[X]? = _ := (hbw.block X (lt_heap h.box)).trans h.box
  have htab : W.heap[T]? = _ := (hbw.block T (lt_heap h.tab)).trans h.tab
  have hmap : MapAt W M n F := h.map.turned (T := fun _ => False) (Turns.of_below' hbw) (fun h => h)
  have hBc : W.heap[w.heap.size]? = some (.cells #[.int .u16 (r : Int), .int .u16 (z : Int)] 75) := by rw [← hW]; exact (heap_pushed [.cells #[.int .u16 (r : Int), .int .u16 (z : Int)] 75] w 0 _).2 rfl
  have c0 : W.cell? ⟨X, 0, none⟩ = some (.pointer (some ⟨T, 0, none⟩)) := cell_heap hbox rfl
  have c1 : W.cell? ⟨T, 0, none⟩ = some (.map (some M)) := cell_heap htab rfl
  have c2 : W.cell? ⟨w.heap.size, 0, none⟩ = some (.int .u16 (r : Int)) := cell_heap hBc rfl
  have c3 : W.cell? ⟨w.heap.size, 1, none⟩ = some (.int .u16 (z : Int)) := cell_heap hBc rfl
  have Hmap := Lib.hid hmap
  subst hW
  go_enter Try.func84, Try.ntmps84
  go_wp2_with fail
  generalize w.alloc (.cells #[.int .u16 (r : Int), .int .u16 (z : Int)] 75) = W at *
  refine wp_region_still_tail 6 (by kernel_rfl) (by kernel_rfl) ?_
  simp only [List.take_succ_cons, List.take_zero, List.drop_succ_cons, List.drop_zero]
  have d0 : W.drew.cell? ⟨X, 0, none⟩ = some (.pointer (some ⟨T, 0, none⟩)) := c0
  have d1 : W.drew.cell? ⟨T, 0, none⟩ = some (.map (some M)) := c1
  have d2 : W.drew.cell? ⟨w.heap.size, 0, none⟩ = some (.int .u16 (r : Int)) := c2
  have d3 : W.drew.cell? ⟨w.heap.size, 1, none⟩ = some (.int .u16 (z : Int)) := c3
  have Dmap : Hid (MapAt W.drew M n F) := Lib.hid hmap
  have Hww : Hid (Turns (fun _ => False) w W.drew) := Lib.hid ⟨hbw.os, hbw.tape, hbw.output, hbw.size, fun i hi _ => hbw.block i hi⟩
  have dbox : Hid (W.drew.heap[X]? = some (.cells #[.pointer (some ⟨T, 0, none⟩)] 109)) := Lib.hid hbox
  have dtab : Hid (W.drew.heap[T]? = some (.cells #[.map (some M), .int .u16 (L : Int)] 139)) := Lib.hid htab
  change wpStill _ _ W.drew (fun a' => wpList _ _ _ _ a' W.drew) _ _
  clear hbox htab hmap hBc hbw c0 c1 c2 c3 Hmap h
  generalize W.drew = W1 at *
  repeat still_step
  try refine wpStill_nil ?_
  refine wpList_put_at _ rfl _ _ _ rfl M n s r z F rfl Dmap.out hn hr hz hs rfl rfl ?_
  intro W2 hm2 ht2
  have Hm2 := Lib.hid hm2
  have Hw2 : Hid (Turns (fun i => i = M) w W2) := Lib.hid ((Hww.out.mono (T' := fun i => i = M) (fun i _ h => h.elim)).trans ht2)
  have e0 : Hid (W2.drew.heap[X]? = some (.cells #[.pointer (some ⟨T, 0, none⟩)] 109)) := Lib.hid ((ht2.block X (lt_heap dbox.out) (fun e => hMX e.symm)).trans dbox.out)
  have e1 : Hid (W2.drew.heap[T]? = some (.cells #[.map (some M), .int .u16 (L : Int)] 139)) := Lib.hid ((ht2.block T (lt_heap dtab.out) (fun e => hMT e.symm)).trans dtab.out)
  have c0 : W2.drew.cell? ⟨X, 0, none⟩ = some (.pointer (some ⟨T, 0, none⟩)) := cell_heap e0.out rfl
  have c1 : W2.drew.cell? ⟨T, 1, none⟩ = some (.int .u16 (L : Int)) := cell_heap e1.out rfl
  have c3 : W2.drew.cell? ⟨w.heap.size, 1, none⟩ = some (.int .u16 (z : Int)) := ht2.cell d3 (fun e => by simp at e; omega)
  have f1 : W2.drew.frozen? ⟨T, 1, none⟩ = false := by simp [World.frozen?, e1.out]
  clear hm2 ht2 d0 d1 d2 d3
  go_wp2_with fail
  refine wp_region_still_tail 10 (by kernel_rfl) (by kernel_rfl) ?_
  simp only [List.take_succ_cons, List.take_zero, List.drop_succ_cons, List.drop_zero]
  change wpStill _ _ W2.drew (fun a' => wpList _ _ _ _ a' W2.drew) _ _
  have Hm3 : Hid (MapAt W2.drew M (n + 1) fun k' => if k' = (r, z) then some s else F k') := Lib.hid Hm2.out
  have Hw3 : Hid (Turns (fun i => i = M) w W2.drew) := Lib.hid ⟨Hw2.out.os, Hw2.out.tape, Hw2.out.output, Hw2.out.size, Hw2.out.block⟩
  clear Hm2 Hw2
  generalize W2.drew = W3 at *
  repeat still_step
  try refine wpStill_nil ?_
  have hmx : (if L < z then (z : Int) else (L : Int)) = ((max L z : Nat) : Int) := by split <;> omega
  rw [hmx]
  clear hmx
  go_wp2
  go_end0
  have hset := Turns.set (Turns.refl (fun i => i = T) W3) (p := ⟨T, 1, none⟩) rfl (.int .u16 ((max L z : Nat) : Int))
  exact ⟨rfl, ⟨(hset.block X (lt_heap e0.out) (fun e => hTX e.symm)).trans e0.out, two_set1 _ e1.out, Hm3.out.turned hset hMT⟩,
    (Hw3.out.mono (T' := fun i => i = M ∨ i = T) (fun i _ h => .inl h)).trans (hset.mono (fun i _ h => .inr h))⟩

end Go.Proofs.Ytdcmalbbijchiaa

/- huff's New. -/
namespace Go.Proofs.Ytdcmalbbijchiaa
open Go.RowKit Go.Maps

theorem trn_lt : ∀ n r x, trn n r x < (r + 1) * 2 ^ n
  | 0, r, x => by simp [trn]
  | n + 1, r, x => by
    rw [trn]
    refine Nat.lt_of_lt_of_le (trn_lt n _ _) ?_
    rw [Nat.pow_succ, ← Nat.mul_assoc, Nat.mul_right_comm]
    exact Nat.mul_le_mul_right _ (by omega)
theorem trn_small {n x : Nat} (h : n ≤ 15) : trn n 0 x < 65536 := by
  have h1 := trn_lt n 0 x
  have h2 : 2 ^ n ≤ 2 ^ 15 := Nat.pow_le_pow_right (by decide) h
  have h3 : (2 : Nat) ^ 15 = 32768 := rfl
  omega

theorem MapAt.mono {w : World} {M n n' : Nat} {F : Nat × Nat → Option Nat} (h : MapAt w M n F) (hn : n ≤ n') : MapAt w M n' F := by
  obtain ⟨D, hD, hF⟩ := h
  exact ⟨D, hD.mono hn, hF⟩
theorem MapAt.lt {w : World} {M n : Nat} {F : Nat × Nat → Option Nat} (h : MapAt w M n F) : M < w.heap.size := by
  obtain ⟨D, hD, _⟩ := h
  exact hD.lt

/-- Symbol i is told before symbol k of length n + 1. -/
def Tld (f : Nat → Nat) (n k i : Nat) : Prop := 0 < f i ∧ (f i ≤ n ∨ (f i = n + 1 ∧ i < k))
theorem Tld.next {f : Nat → Nat} {N n i : Nat} (hi : i < N) : Tld f n N i ↔ Tld f (n + 1) 0 i := by unfold Tld; omega
theorem Tld.skip {f : Nat → Nat} {n k i : Nat} (h : f k ≠ n + 1) : Tld f n k i ↔ Tld f n (k + 1) i := by
  unfold Tld
  have : i = k → f i ≠ n + 1 := fun e => by subst e; exact h
  omega
theorem Tld.hand {f : Nat → Nat} {n k i : Nat} (h : f k = n + 1) : Tld f n (k + 1) i ↔ Tld f n k i ∨ i = k := by
  unfold Tld
  by_cases e : i = k
  · subst e; simp [h]
  · simp only [e, or_false]; omega

/-- No two symbols have one code. -/
def Apt (f : Nat → Nat) (N : Nat) : Prop := ∀ i j, i < N → j < N → 0 < f i → f i = f j → cd f N i = cd f N j → i = j

/-- What the map says, once the symbols ahead of (n, k) are told. -/
structure ToldF (f : Nat → Nat) (N n k : Nat) (F : Nat × Nat → Option Nat) : Prop where
  has : ∀ i, i < N → Tld f n k i → F (cd f N i, f i) = some i
  out : ∀ q x, F q = some x → x < N ∧ Tld f n k x ∧ q = (cd f N x, f x)
/-- The greatest length that is told. -/
structure ToldM (f : Nat → Nat) (N n k L : Nat) : Prop where
  ge : ∀ i, i < N → Tld f n k i → f i ≤ L
  le : L = 0 ∨ ∃ i, i < N ∧ Tld f n k i ∧ f i = L

theorem ToldF.congr {f : Nat → Nat} {N n k n' k' : Nat} {F : Nat × Nat → Option Nat} (h : ToldF f N n k F) (e : ∀ i, i < N → (Tld f n k i ↔ Tld f n' k' i)) : ToldF f N n' k' F :=
  ⟨fun i hi ht => h.has i hi ((e i hi).2 ht), fun q x hx => let ⟨a, b, c⟩ := h.out q x hx; ⟨a, (e x a).1 b, c⟩⟩
theorem ToldM.congr {f : Nat → Nat} {N n k n' k' L : Nat} (h : ToldM f N n k L) (e : ∀ i, i < N → (Tld f n k i ↔ Tld f n' k' i)) : ToldM f N n' k' L :=
  ⟨fun i hi ht => h.ge i hi ((e i hi).2 ht), h.le.imp id fun ⟨i, a, b, c⟩ => ⟨i, a, (e i a).1 b, c⟩⟩

theorem ToldF.hand {f : Nat → Nat} {N n k : Nat} {F : Nat × Nat → Option Nat} (h : ToldF f N n k F) (ha : Apt f N) (hk : k < N) (hl : f k = n + 1) : ToldF f N n (k + 1) (fun q => if q = (cd f N k, n + 1) then some k else F q) := by
  refine ⟨fun i hi ht => ?_, fun q x hx => ?_⟩
  · by_cases e : (cd f N i, f i) = (cd f N k, n + 1)
    · simp only [if_pos e, Option.some.injEq]
      simp only [Prod.mk.injEq] at e
      exact (ha i k hi hk ht.1 (by omega) e.1).symm
    · simp only [if_neg e]
      rcases (Tld.hand hl).1 ht with h1 | rfl
      · exact h.has i hi h1
      · exact absurd (by rw [hl]) e
  · by_cases e : q = (cd f N k, n + 1)
    · simp only [if_pos e, Option.some.injEq] at hx
      subst hx
      exact ⟨hk, (Tld.hand hl).2 (.inr rfl), by rw [hl]; exact e⟩
    · simp only [if_neg e] at hx
      obtain ⟨a, b, c⟩ := h.out q x hx
      exact ⟨a, (Tld.hand hl).2 (.inl b), c⟩
theorem ToldM.hand {f : Nat → Nat} {N n k L : Nat} (h : ToldM f N n k L) (hk : k < N) (hl : f k = n + 1) : ToldM f N n (k + 1) (max L (n + 1)) := by
  refine ⟨fun i hi ht => ?_, .inr ?_⟩
  · have := ht.2
    omega
  · rcases Nat.lt_or_ge (n + 1) L with h1 | h1
    · rcases h.le with h2 | ⟨i, a, b, c⟩
      · omega
      · exact ⟨i, a, (Tld.hand hl).2 (.inl b), by omega⟩
    · exact ⟨k, hk, (Tld.hand hl).2 (.inr rfl), by omega⟩

/-- What New holds while it is told. -/
structure NJ (w0 : World) (v : Value) (ls : List Nat) (M T X n k : Nat) (w : World) : Prop where
  tab : ∃ L F, TabAt w M T X (n * ls.length + k) L F ∧ ToldF (lq ls) ls.length n k F ∧ ToldM (lq ls) ls.length n k L
  lens : Row enc8 1 w v ls
  below : Below w0.heap.size w0 w
  gM : w0.heap.size ≤ M
  gT : w0.heap.size ≤ T

theorem NJ.hand (w0 : World) (v : Value) (ls : List Nat) (M T X n k : Nat) (w : World) (hN : ls.length ≤ 320) (ha : Apt (lq ls) ls.length) (hv0 : ∀ b, v.ownBlock = some b → b < w0.heap.size) (hMT : M ≠ T) (hMX : M ≠ X) (hTX : T ≠ X)
    (hn : n < 15) (hk : k < ls.length) (hl : lq ls k = n + 1) (h : NJ w0 v ls M T X n k w) :
    Calls Try.prog 84 #[.int .i64 (k : Int), .agg #[.int .u16 ((trn (n + 1) 0 (nx (lq ls) ls.length n k) : Nat) : Int), .int .u16 ((n + 1 : Nat) : Int)], .pointer (some ⟨X, 0, none⟩)] w fun e w' => e = .returned (.tuple #[]) ∧ NJ w0 v ls M T X n (k + 1) w' := by
  obtain ⟨L, F, h1, h2, h3⟩ := h.tab
  have hb : n * ls.length ≤ 14 * 320 := Nat.mul_le_mul (by omega) hN
  have e : trn (n + 1) 0 (nx (lq ls) ls.length n k) = cd (lq ls) ls.length k := by
    unfold cd
    rw [hl, Nat.add_sub_cancel]
  refine Calls.mono (new1_any M T X _ L _ (n + 1) k F w h1 (by unfold maxLen; omega) (trn_small (by omega)) (by omega) (by omega) hMT hMX hTX h1.map.lt) ?_
  rintro _ w' ⟨rfl, g1, ht⟩
  refine ⟨rfl, ⟨_, _, g1, by rw [e]; exact h2.hand ha hk hl, h3.hand hk hl⟩, h.lens.turns ht (fun b hb e => ?_), Below.trans h.below (ht.below h.below.size (fun i hi => ?_)), h.gM, h.gT⟩
  · have := hv0 b hb
    have := h.gM
    have := h.gT
    omega
  · have := h.gM
    have := h.gT
    omega

theorem NJ.skip (w0 : World) (v : Value) (ls : List Nat) (M T X n k : Nat) (w : World) (hl : lq ls k ≠ n + 1) (h : NJ w0 v ls M T X n k w) : NJ w0 v ls M T X n (k + 1) w := by
  obtain ⟨L, F, h1, h2, h3⟩ := h.tab
  exact ⟨⟨L, F, ⟨h1.box, h1.tab, h1.map.mono (by omega)⟩, h2.congr fun i _ => Tld.skip hl, h3.congr fun i _ => Tld.skip hl⟩, h.lens, h.below, h.gM, h.gT⟩

theorem NJ.next (w0 : World) (v : Value) (ls : List Nat) (M T X n : Nat) (w : World) (h : NJ w0 v ls M T X n ls.length w) : NJ w0 v ls M T X (n + 1) 0 w := by
  obtain ⟨L, F, h1, h2, h3⟩ := h.tab
  exact ⟨⟨L, F, ⟨h1.box, h1.tab, h1.map.mono (by rw [Nat.succ_mul]; omega)⟩, h2.congr fun i hi => Tld.next hi, h3.congr fun i hi => Tld.next hi⟩, h.lens, h.below, h.gM, h.gT⟩

end Go.Proofs.Ytdcmalbbijchiaa

/- huff's New, and Read's refusals. -/
namespace Go.Proofs.Ytdcmalbbijchiaa
open Go.RowKit Go.Maps

theorem new_bad (ls : List Nat) (v : Value) (w : World) (hv : Row enc8 1 w v ls) (hc : chk ls ≠ 0) :
    Calls Try.prog 77 #[v] w fun e w' => e = .returned (.tuple #[.pointer none, .int .i64 (chk ls)]) ∧ w' = w := by
  have Hv := Lib.hid hv
  obtain ⟨r, hr⟩ : ∃ r, chk ls = r := ⟨_, rfl⟩
  have Hr := Lib.hid hr
  rw [hr] at hc ⊢
  have e0 : (r != 0) = true := by simpa using hc
  clear hr hv
  go_enter Try.func77, Try.ntmps77
  go_wp2_with fail
  refine Calls.mono (check_any ls v w Hv.out) ?_
  rintro e w1 ⟨rfl, rfl⟩
  rw [Hr.out]
  go_wp2
  go_ret2
  exact ⟨rfl, rfl⟩

/-- A table that reads these lengths' codes, in blocks from B on. -/
structure TabOk (w : World) (T B : Nat) (ls : List Nat) : Prop where
  ex : ∃ (M n L : Nat) (F : Nat × Nat → Option Nat), w.heap[T]? = some (.cells #[.map (some M), .int .u16 (L : Int)] 139) ∧ MapAt w M n F ∧ ToldF (lq ls) ls.length 15 0 F ∧ ToldM (lq ls) ls.length 15 0 L ∧ B ≤ M
  ge : B ≤ T

theorem NJ.start (w : World) (v : Value) (ls : List Nat) (hv : Row enc8 1 w v ls) :
    NJ w v ls w.heap.size (w.heap.size + 1) (w.heap.size + 1 + 1) 0 0 (((w.alloc (.map #[] 0)).alloc (.cells #[.map (some w.heap.size), .int .u16 0] 139)).alloc (.cells #[.pointer (some ⟨w.heap.size + 1, 0, none⟩)] 109)) := by
  have hp := heap_pushed [.map #[] 0, .cells #[.map (some w.heap.size), .int .u16 0] 139, .cells #[.pointer (some ⟨w.heap.size + 1, 0, none⟩)] 109] w
  have hb : Below w.heap.size w (((w.alloc (.map #[] 0)).alloc (.cells #[.map (some w.heap.size), .int .u16 0] 139)).alloc (.cells #[.pointer (some ⟨w.heap.size + 1, 0, none⟩)] 109)) := Below.thn (Below.al2 w _ _) (Below.al1 _ _)
  have hm : MapAt (((w.alloc (.map #[] 0)).alloc (.cells #[.map (some w.heap.size), .int .u16 0] 139)).alloc (.cells #[.pointer (some ⟨w.heap.size + 1, 0, none⟩)] 109)) w.heap.size 0 fun _ => none :=
    (MapAt.made w).turned (T := fun _ => False) (((Turns.refl _ _).alloc _).alloc _) (fun h => h)
  refine ⟨⟨0, fun _ => none, ⟨(hp 2 _).2 rfl, (hp 1 _).2 rfl, ?_⟩, ⟨fun i hi ht => ?_, fun q x hx => by cases hx⟩, ⟨fun i hi ht => ?_, .inl rfl⟩⟩, hv.below hb, hb, Nat.le_refl _, by omega⟩
  · exact hm.mono (by omega)
  · unfold Tld at ht; omega
  · unfold Tld at ht; omega

set_option maxRecDepth 20000 in
set_option maxHeartbeats 1000000 in
theorem new_ok (ls : List Nat) (v : Value) (w : World) (hv : Row enc8 1 w v ls) (hc : chk ls = 0) (ha : Apt (lq ls) ls.length) :
    Calls Try.prog 77 #[v] w fun e w' => ∃ T, e = .returned (.tuple #[.pointer (some ⟨T, 0, none⟩), .int .i64 0]) ∧ TabOk w' T w.heap.size ls ∧ Below w.heap.size w w' := by
  obtain ⟨h1, h2, -⟩ := chk_zero hc
  have hvb : ∀ k, v.ownBlock = some k → k < w.heap.size := fun k hk => by
    obtain ⟨p, c, rfl, _, _, h⟩ := hv
    rcases h with ⟨rfl, -⟩ | ⟨bb, off, rfl, hbb, -⟩
    · cases hk
    · cases hk; exact hbb
  have Hv := Lib.hid hv
  have Hc := Lib.hid hc
  have H2 := Lib.hid h2
  have Hvb := Lib.hid hvb
  have Ha := Lib.hid ha
  obtain ⟨p, c, rfl, -, -, -⟩ := hv
  have hmk := run_makeMap (P := Try.prog) 137 w
  clear hc h2 hvb ha
  go_enter Try.func77, Try.ntmps77
  go_wp2_with fail
  refine Calls.mono (check_any ls _ w Hv.out) ?_
  rintro e w1 ⟨rfl, rfl⟩
  rw [Hc.out]
  go_wp2_with fail
  refine Calls.mono (tellN_any ls _ (w1.heap.size + 1 + 1) (fun n k w' => NJ w1 (.slice p ls.length c) ls w1.heap.size (w1.heap.size + 1) (w1.heap.size + 1 + 1) n k w') _ h1 (fun n k w' h => h.lens)
    (fun n k w' hn hk hl h => NJ.hand w1 _ ls _ _ _ n k w' h1 Ha.out Hvb.out (by omega) (by omega) (by omega) hn hk hl h)
    (fun n k w' _ hl h => NJ.skip w1 _ ls _ _ _ n k w' hl h) (fun n w' h => NJ.next w1 _ ls _ _ _ n w' h) (NJ.start w1 _ ls Hv.out)) ?_
  rintro e w2 ⟨rfl, hj⟩
  have HJ := Lib.hid hj
  obtain ⟨L, F, g1, -, -⟩ := hj.tab
  have c0 : w2.cell? ⟨w1.heap.size + 1 + 1, 0, none⟩ = some (.pointer (some ⟨w1.heap.size + 1, 0, none⟩)) := cell_heap g1.box rfl
  clear hj g1
  go_wp2
  go_ret2
  obtain ⟨L', F', g1, g2, g3⟩ := HJ.out.tab
  exact ⟨_, rfl, ⟨⟨_, _, L', F', g1.tab, g1.map, g2, g3, HJ.out.gM⟩, HJ.out.gT⟩, HJ.out.below⟩

/-- Read of no table, or from no reader. -/
theorem read_nil_t (v : Value) (w : World) : Calls Try.prog 78 #[.pointer none, v] w fun e w' => e = .returned (.tuple #[.int .i64 0, .int .i64 8]) ∧ w' = w := by
  go_enter Try.func78, Try.ntmps78
  go_wp2
  go_ret2
  exact ⟨rfl, rfl⟩
theorem read_nil_r (T : Nat) (w : World) : Calls Try.prog 78 #[.pointer (some ⟨T, 0, none⟩), .pointer none] w fun e w' => e = .returned (.tuple #[.int .i64 0, .int .i64 8]) ∧ w' = w := by
  go_enter Try.func78, Try.ntmps78
  go_wp2
  go_ret2
  exact ⟨rfl, rfl⟩

end Go.Proofs.Ytdcmalbbijchiaa
