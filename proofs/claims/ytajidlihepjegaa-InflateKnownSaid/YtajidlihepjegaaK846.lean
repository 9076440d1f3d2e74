/- For the closed statement of inflate: the streams that are laid with one thing wrong, as they lie in memory; a writer behind all that there is. -/
import Derived.Test.YtajidlihepjegaaK842
import Derived.Test.YtajidlihepjegaaK845
namespace Go.Proofs.Ytajidlihepjegaa
open Go.RowKit Go.Maps

/-- A block of numbers. -/
def objI (l : List Nat) : Obj := .cells (l.map fun (x : Nat) => Value.int .i64 (x : Int)).toArray 3
def szW (ns : List Nat) : Nat → Nat
  | 0 => 0
  | k + 1 => szW ns k + lq ns k
def nmW (vs ns : List Nat) : Nat → Nat
  | 0 => 0
  | k + 1 => nmW vs ns k + lq vs k * 2 ^ szW ns k

/-- A row of the streams. -/
structure RowW (W : World) (B i bv bn : Nat) (vs ns : List Nat) (e : Int) : Prop where
  c0 : W.cell? ⟨B, i * 3, none⟩ = some (.slice (some ⟨bv, 0, none⟩) vs.length vs.length)
  c1 : W.cell? ⟨B, i * 3 + 1, none⟩ = some (.slice (some ⟨bn, 0, none⟩) vs.length vs.length)
  c2 : W.cell? ⟨B, i * 3 + 2, none⟩ = some (.int .i64 e)
  v : ∀ k, k < vs.length → W.cell? ⟨bv, k, none⟩ = some (.int .i64 ((lq vs k : Nat) : Int))
  n : ∀ k, k < vs.length → W.cell? ⟨bn, k, none⟩ = some (.int .i64 ((lq ns k : Nat) : Int))
  ok : ∀ k, k < vs.length → lq vs k < 2 ^ lq ns k ∧ lq ns k ≤ 24
  len : vs.length ≤ 13
  infl : Infl (byts (nmW vs ns vs.length) ((szW ns vs.length + 7) / 8)) 100 [] 0 e

theorem szW_le {ns : List Nat} {m : Nat} (h : ∀ k, k < m → lq ns k ≤ 24) : ∀ k, k ≤ m → szW ns k ≤ 24 * k
  | 0, _ => Nat.le_refl _
  | k + 1, hk => by
    have := szW_le h k (by omega)
    have := h k (by omega)
    rw [szW]; omega

theorem objI_at {W : World} {b : Nat} {l : List Nat} (h : W.heap[b]? = some (objI l)) (k : Nat) (hk : k < l.length) : W.cell? ⟨b, k, none⟩ = some (.int .i64 ((lq l k : Nat) : Int)) :=
  cell_heap h (by rw [List.getElem?_toArray, List.getElem?_map, List.getElem?_eq_getElem hk, lq_at hk]; rfl)

theorem rowW_of {W : World} {B i bv bn n : Nat} {vs ns : List Nat} {e : Int} {L : List Nat} (hv : W.heap[bv]? = some (objI vs)) (hn : W.heap[bn]? = some (objI ns)) (hl : vs.length = n) (hl2 : ns.length = n)
    (c0 : W.cell? ⟨B, i * 3, none⟩ = some (.slice (some ⟨bv, 0, none⟩) n n)) (c1 : W.cell? ⟨B, i * 3 + 1, none⟩ = some (.slice (some ⟨bn, 0, none⟩) n n)) (c2 : W.cell? ⟨B, i * 3 + 2, none⟩ = some (.int .i64 e))
    (ok : ∀ k, k < n → lq vs k < 2 ^ lq ns k ∧ lq ns k ≤ 24) (len : n ≤ 13) (hL : byts (nmW vs ns n) ((szW ns n + 7) / 8) = L) (hi : Infl L 100 [] 0 e) : RowW W B i bv bn vs ns e := by
  subst hl
  exact ⟨c0, c1, c2, objI_at hv, fun k hk => objI_at hn k (by omega), ok, len, by rw [hL]; exact hi⟩

def wObjs (B : Nat) : List Obj := [objI [1, 1], objI [1, 2], objI [1, 1, 64, 0], objI [1, 2, 7, 5], objI [1, 1, 99], objI [1, 2, 8], objI [1, 2, 30, 0, 0], objI [1, 2, 5, 5, 4], objI [1, 2, 0, 30, 0], objI [1, 2, 5, 5, 4], objI [1, 2, 0, 0, 0, 1, 1, 1, 0], objI [1, 2, 5, 5, 4, 3, 3, 3, 3], objI [1, 2, 0, 0, 0, 1, 0, 0, 0, 0], objI [1, 2, 5, 5, 4, 3, 3, 3, 3, 1], objI [1, 2, 0, 0, 0, 0, 0, 1, 0, 0, 127, 0, 127], objI [1, 2, 5, 5, 4, 3, 3, 3, 3, 1, 7, 1, 7], objI [1, 2, 0, 0, 0, 0, 0, 1, 0, 0, 127, 0, 109], objI [1, 2, 5, 5, 4, 3, 3, 3, 3, 1, 7, 1, 7], objI [1, 2, 0, 0, 0, 0, 0, 1, 0, 1], objI [1, 2, 5, 5, 4, 3, 3, 3, 3, 1],
  .cells #[.slice (some ⟨B, 0, none⟩) 2 2, .slice (some ⟨(B + 1), 0, none⟩) 2 2, .int .i64 50, .slice (some ⟨(B + 2), 0, none⟩) 4 4, .slice (some ⟨(B + 3), 0, none⟩) 4 4, .int .i64 70, .slice (some ⟨(B + 4), 0, none⟩) 3 3, .slice (some ⟨(B + 5), 0, none⟩) 3 3, .int .i64 80, .slice (some ⟨(B + 6), 0, none⟩) 5 5, .slice (some ⟨(B + 7), 0, none⟩) 5 5, .int .i64 80, .slice (some ⟨(B + 8), 0, none⟩) 5 5, .slice (some ⟨(B + 9), 0, none⟩) 5 5, .int .i64 80, .slice (some ⟨(B + 10), 0, none⟩) 9 9, .slice (some ⟨(B + 11), 0, none⟩) 9 9, .int .i64 60, .slice (some ⟨(B + 12), 0, none⟩) 10 10, .slice (some ⟨(B + 13), 0, none⟩) 10 10, .int .i64 80, .slice (some ⟨(B + 14), 0, none⟩) 13 13, .slice (some ⟨(B + 15), 0, none⟩) 13 13, .int .i64 80, .slice (some ⟨(B + 16), 0, none⟩) 13 13, .slice (some ⟨(B + 17), 0, none⟩) 13 13, .int .i64 80, .slice (some ⟨(B + 18), 0, none⟩) 10 10, .slice (some ⟨(B + 19), 0, none⟩) 10 10, .int .i64 60] 71]

theorem w_world (w : World) : World.alloc (World.alloc (World.alloc (World.alloc (World.alloc (World.alloc (World.alloc (World.alloc (World.alloc (World.alloc (World.alloc (World.alloc (World.alloc (World.alloc (World.alloc (World.alloc (World.alloc (World.alloc (World.alloc (World.alloc (World.alloc w (.cells #[.int .i64 1, .int .i64 1] 3)) (.cells #[.int .i64 1, .int .i64 2] 3)) (.cells #[.int .i64 1, .int .i64 1, .int .i64 64, .int .i64 0] 3)) (.cells #[.int .i64 1, .int .i64 2, .int .i64 7, .int .i64 5] 3)) (.cells #[.int .i64 1, .int .i64 1, .int .i64 99] 3)) (.cells #[.int .i64 1, .int .i64 2, .int .i64 8] 3)) (.cells #[.int .i64 1, .int .i64 2, .int .i64 30, .int .i64 0, .int .i64 0] 3)) (.cells #[.int .i64 1, .int .i64 2, .int .i64 5, .int .i64 5, .int .i64 4] 3)) (.cells #[.int .i64 1, .int .i64 2, .int .i64 0, .int .i64 30, .int .i64 0] 3)) (.cells #[.int .i64 1, .int .i64 2, .int .i64 5, .int .i64 5, .int .i64 4] 3)) (.cells #[.int .i64 1, .int .i64 2, .int .i64 0, .int .i64 0, .int .i64 0, .int .i64 1, .int .i64 1, .int .i64 1, .int .i64 0] 3)) (.cells #[.int .i64 1, .int .i64 2, .int .i64 5, .int .i64 5, .int .i64 4, .int .i64 3, .int .i64 3, .int .i64 3, .int .i64 3] 3)) (.cells #[.int .i64 1, .int .i64 2, .int .i64 0, .int .i64 0, .int .i64 0, .int .i64 1, .int .i64 0, .int .i64 0, .int .i64 0, .int .i64 0] 3)) (.cells #[.int .i64 1, .int .i64 2, .int .i64 5, .int .i64 5, .int .i64 4, .int .i64 3, .int .i64 3, .int .i64 3, .int .i64 3, .int .i64 1] 3)) (.cells #[.int .i64 1, .int .i64 2, .int .i64 0, .int .i64 0, .int .i64 0, .int .i64 0, .int .i64 0, .int .i64 1, .int .i64 0, .int .i64 0, .int .i64 127, .int .i64 0, .int .i64 127] 3)) (.cells #[.int .i64 1, .int .i64 2, .int .i64 5, .int .i64 5, .int .i64 4, .int .i64 3, .int .i64 3, .int .i64 3, .int .i64 3, .int .i64 1, .int .i64 7, .int .i64 1, .int .i64 7] 3)) (.cells #[.int .i64 1, .int .i64 2, .int .i64 0, .int .i64 0, .int .i64 0, .int .i64 0, .int .i64 0, .int .i64 1, .int .i64 0, .int .i64 0, .int .i64 127, .int .i64 0, .int .i64 109] 3)) (.cells #[.int .i64 1, .int .i64 2, .int .i64 5, .int .i64 5, .int .i64 4, .int .i64 3, .int .i64 3, .int .i64 3, .int .i64 3, .int .i64 1, .int .i64 7, .int .i64 1, .int .i64 7] 3)) (.cells #[.int .i64 1, .int .i64 2, .int .i64 0, .int .i64 0, .int .i64 0, .int .i64 0, .int .i64 0, .int .i64 1, .int .i64 0, .int .i64 1] 3)) (.cells #[.int .i64 1, .int .i64 2, .int .i64 5, .int .i64 5, .int .i64 4, .int .i64 3, .int .i64 3, .int .i64 3, .int .i64 3, .int .i64 1] 3)) (.cells #[.slice (some ⟨w.heap.size, 0, none⟩) 2 2, .slice (some ⟨w.heap.size + 1, 0, none⟩) 2 2, .int .i64 50, .slice (some ⟨w.heap.size + 1 + 1, 0, none⟩) 4 4, .slice (some ⟨w.heap.size + 1 + 1 + 1, 0, none⟩) 4 4, .int .i64 70, .slice (some ⟨w.heap.size + 1 + 1 + 1 + 1, 0, none⟩) 3 3, .slice (some ⟨w.heap.size + 1 + 1 + 1 + 1 + 1, 0, none⟩) 3 3, .int .i64 80, .slice (some ⟨w.heap.size + 1 + 1 + 1 + 1 + 1 + 1, 0, none⟩) 5 5, .slice (some ⟨w.heap.size + 1 + 1 + 1 + 1 + 1 + 1 + 1, 0, none⟩) 5 5, .int .i64 80, .slice (some ⟨w.heap.size + 1 + 1 + 1 + 1 + 1 + 1 + 1 + 1, 0, none⟩) 5 5, .slice (some ⟨w.heap.size + 1 + 1 + 1 + 1 + 1 + 1 + 1 + 1 + 1, 0, none⟩) 5 5, .int .i64 80, .slice (some ⟨w.heap.size + 1 + 1 + 1 + 1 + 1 + 1 + 1 + 1 + 1 + 1, 0, none⟩) 9 9, .slice (some ⟨w.heap.size + 1 + 1 + 1 + 1 + 1 + 1 + 1 + 1 + 1 + 1 + 1, 0, none⟩) 9 9, .int .i64 60, .slice (some ⟨w.heap.size + 1 + 1 + 1 + 1 + 1 + 1 + 1 + 1 + 1 + 1 + 1 + 1, 0, none⟩) 10 10, .slice (some ⟨w.heap.size + 1 + 1 + 1 + 1 + 1 + 1 + 1 + 1 + 1 + 1 + 1 + 1 + 1, 0, none⟩) 10 10, .int .i64 80, .slice (some ⟨w.heap.size + 1 + 1 + 1 + 1 + 1 + 1 + 1 + 1 + 1 + 1 + 1 + 1 + 1 + 1, 0, none⟩) 13 13, .slice (some ⟨w.heap.size + 1 + 1 + 1 + 1 + 1 + 1 + 1 + 1 + 1 + 1 + 1 + 1 + 1 + 1 + 1, 0, none⟩) 13 13, .int .i64 80, .slice (some ⟨w.heap.size + 1 + 1 + 1 + 1 + 1 + 1 + 1 + 1 + 1 + 1 + 1 + 1 + 1 + 1 + 1 + 1, 0, none⟩) 13 13, .slice (some ⟨w.heap.size + 1 + 1 + 1 + 1 + 1 + 1 + 1 + 1 + 1 + 1 + 1 + 1 + 1 + 1 + 1 + 1 + 1, 0, none⟩) 13 13, .int .i64 80, .slice (some ⟨w.heap.size + 1 + 1 + 1 + 1 + 1 + 1 + 1 + 1 + 1 + 1 + 1 + 1 + 1 + 1 + 1 + 1 + 1 + 1, 0, none⟩) 10 10, .slice (some ⟨w.heap.size + 1 + 1 + 1 + 1 + 1 + 1 + 1 + 1 + 1 + 1 + 1 + 1 + 1 + 1 + 1 + 1 + 1 + 1 + 1, 0, none⟩) 10 10, .int .i64 60] 71) = (wObjs w.heap.size).foldl World.alloc w := rfl

theorem w_rows {w W : World} (h : (wObjs w.heap.size).foldl World.alloc w = W) : ∀ i, i < 10 → ∃ bv bn vs ns e, RowW W (w.heap.size + 20) i bv bn vs ns e := by
  subst h
  intro i hi
  obtain ⟨B, hB⟩ : ∃ B, w.heap.size = B := ⟨_, rfl⟩
  have hp : ∀ (i : Nat) (o : Obj), (wObjs B)[i]? = some o → ((wObjs B).foldl World.alloc w).heap[B + i]? = some o := fun i o ho => by
    have := (heap_pushed (wObjs B) w i o).2 ho
    rwa [hB] at this
  rw [hB]
  have hT := hp 20 _ rfl
  have hi : i = 0 ∨ i = 1 ∨ i = 2 ∨ i = 3 ∨ i = 4 ∨ i = 5 ∨ i = 6 ∨ i = 7 ∨ i = 8 ∨ i = 9 := by omega
  rcases hi with rfl | rfl | rfl | rfl | rfl | rfl | rfl | rfl | rfl | rfl
  · exact ⟨_, _, _, _, _, rowW_of (vs := [1, 1]) (ns := [1, 2]) (hp 0 _ rfl) (hp 1 _ rfl) rfl rfl (cell_heap hT rfl) (cell_heap hT rfl) (cell_heap hT rfl) (by decide) (by decide) (by decide +kernel) wr1⟩
  · exact ⟨_, _, _, _, _, rowW_of (vs := [1, 1, 64, 0]) (ns := [1, 2, 7, 5]) (hp 2 _ rfl) (hp 3 _ rfl) rfl rfl (cell_heap hT rfl) (cell_heap hT rfl) (cell_heap hT rfl) (by decide) (by decide) (by decide +kernel) wr2⟩
  · exact ⟨_, _, _, _, _, rowW_of (vs := [1, 1, 99]) (ns := [1, 2, 8]) (hp 4 _ rfl) (hp 5 _ rfl) rfl rfl (cell_heap hT rfl) (cell_heap hT rfl) (cell_heap hT rfl) (by decide) (by decide) (by decide +kernel) wr3⟩
  · exact ⟨_, _, _, _, _, rowW_of (vs := [1, 2, 30, 0, 0]) (ns := [1, 2, 5, 5, 4]) (hp 6 _ rfl) (hp 7 _ rfl) rfl rfl (cell_heap hT rfl) (cell_heap hT rfl) (cell_heap hT rfl) (by decide) (by decide) (by decide +kernel) wr4⟩
  · exact ⟨_, _, _, _, _, rowW_of (vs := [1, 2, 0, 30, 0]) (ns := [1, 2, 5, 5, 4]) (hp 8 _ rfl) (hp 9 _ rfl) rfl rfl (cell_heap hT rfl) (cell_heap hT rfl) (cell_heap hT rfl) (by decide) (by decide) (by decide +kernel) wr5⟩
  · exact ⟨_, _, _, _, _, rowW_of (vs := [1, 2, 0, 0, 0, 1, 1, 1, 0]) (ns := [1, 2, 5, 5, 4, 3, 3, 3, 3]) (hp 10 _ rfl) (hp 11 _ rfl) rfl rfl (cell_heap hT rfl) (cell_heap hT rfl) (cell_heap hT rfl) (by decide) (by decide) (by decide +kernel) wr6⟩
  · exact ⟨_, _, _, _, _, rowW_of (vs := [1, 2, 0, 0, 0, 1, 0, 0, 0, 0]) (ns := [1, 2, 5, 5, 4, 3, 3, 3, 3, 1]) (hp 12 _ rfl) (hp 13 _ rfl) rfl rfl (cell_heap hT rfl) (cell_heap hT rfl) (cell_heap hT rfl) (by decide) (by decide) (by decide +kernel) wr7⟩
  · exact ⟨_, _, _, _, _, rowW_of (vs := [1, 2, 0, 0, 0, 0, 0, 1, 0, 0, 127, 0, 127]) (ns := [1, 2, 5, 5, 4, 3, 3, 3, 3, 1, 7, 1, 7]) (hp 14 _ rfl) (hp 15 _ rfl) rfl rfl (cell_heap hT rfl) (cell_heap hT rfl) (cell_heap hT rfl) (by decide) (by decide) (by decide +kernel) wr8⟩
  · exact ⟨_, _, _, _, _, rowW_of (vs := [1, 2, 0, 0, 0, 0, 0, 1, 0, 0, 127, 0, 109]) (ns := [1, 2, 5, 5, 4, 3, 3, 3, 3, 1, 7, 1, 7]) (hp 16 _ rfl) (hp 17 _ rfl) rfl rfl (cell_heap hT rfl) (cell_heap hT rfl) (cell_heap hT rfl) (by decide) (by decide) (by decide +kernel) wr9⟩
  · exact ⟨_, _, _, _, _, rowW_of (vs := [1, 2, 0, 0, 0, 0, 0, 1, 0, 1]) (ns := [1, 2, 5, 5, 4, 3, 3, 3, 3, 1]) (hp 18 _ rfl) (hp 19 _ rfl) rfl rfl (cell_heap hT rfl) (cell_heap hT rfl) (cell_heap hT rfl) (by decide) (by decide) (by decide +kernel) wr10⟩
theorem w_keeps : ∀ (l : List Obj) (w : World), Below w.heap.size w (l.foldl World.alloc w) ∧ (l.foldl World.alloc w).heap.size = w.heap.size + l.length
  | [], w => ⟨Below.refl _ _, rfl⟩
  | o :: l, w => by
    obtain ⟨h1, h2⟩ := w_keeps l (w.alloc o)
    refine ⟨Below.thn (Below.al1 w o) h1, ?_⟩
    rw [List.foldl_cons, h2]
    simp; omega

/-- A writer of n bits, the number N, that was made behind W0 (at S); all that W0 had stands. -/
def WrI (S base B N n : Nat) (W0 w : World) : Prop := ∃ sv, Wr w base B sv N n ∧ Below S W0 w ∧ base ≤ w.heap.size ∧ S ≤ B ∧ n ≤ 8388608
theorem WrI.new (w : World) : WrI w.heap.size (w.heap.size + 1) w.heap.size 0 0 w (w.alloc (.cells #[.slice none 0 0, .int .i64 0] 25)) :=
  ⟨_, ⟨by omega, World.alloc_heap_new w _, World.ownsRow_nil _ _ _ _, by decide⟩, Below.al1 w _, by simp, Nat.le_refl _, by decide⟩
theorem WrI.keeps {S base B N n : Nat} {W0 w : World} (h : WrI S base B N n W0 w) : Below S W0 w := by obtain ⟨_, _, h, _⟩ := h; exact h
theorem WrI.below {S base B N n : Nat} {W0 w w' : World} (h : WrI S base B N n W0 w) (hb : Below w.heap.size w w') : WrI S base B N n W0 w' := by
  obtain ⟨sv, h1, h2, h3, h4, h5⟩ := h
  exact ⟨sv, h1.below hb, h2.trans (hb.mono (by have := h1.size; omega)), Nat.le_trans h3 hb.size, h4, h5⟩
theorem putI_ok {S base B N n v k : Nat} {W0 w : World} (h : WrI S base B N n W0 w) (hv : v < 2 ^ k) (hk : k ≤ 24) (hmax : n + k ≤ 8388608) :
    Calls Try.prog 16 #[.pointer (some ⟨B, 0, none⟩), .int .u32 (v : Int), .int .i64 (k : Int)] w fun e w' => e = .returned (.int .i64 0) ∧ WrI S base B (N + v * 2 ^ n) (n + k) W0 w' := by
  obtain ⟨sv, hw, hb, hs, hS, -⟩ := h
  refine (put_ok base B N n v k sv w hw hv hk hmax hs).mono fun e w' ⟨he, hto⟩ => ⟨he, ?_⟩
  obtain ⟨sv', h1, h2, h3⟩ := hto
  refine ⟨sv', h1, hb.trans (h2.below (by have := hw.size; omega) (fun i hi => ?_)), Nat.le_trans hs h2.size, hS, hmax⟩
  rcases hi with rfl | hi
  · exact hS
  · have h4 := (hw.own.lt i hi).1
    have h5 := hw.lt
    omega
theorem bytesI {S base B N n : Nat} {W0 w : World} (h : WrI S base B N n W0 w) :
    Calls Try.prog 10 #[.pointer (some ⟨B, 0, none⟩)] w fun e w' => ∃ v', e = .returned v' ∧ Own8 w.heap.size (byts N ((n + 7) / 8)) w w' v' := by
  obtain ⟨sv, h1, h2, h3, h4, h5⟩ := h
  exact wbytes_any base B N n sv w h1 h5

end Go.Proofs.Ytajidlihepjegaa
