/- huff's count: the steps of a parcel are added to the symbols' lengths. -/
import Derived.Test.YtdcmalbbijchiaaZq11
import Derived.Test.YtdcmalbbijchiaaZq12
namespace Go.Proofs.Ytdcmalbbijchiaa
open Go.RowKit

/-- Lengths as cells. -/
def lensRow (f : Nat → Nat) (n : Nat) : List Value := (List.range n).map fun i => u8v (f i)
theorem lensRow_len (f : Nat → Nat) (n : Nat) : (lensRow f n).length = n := by simp [lensRow]
theorem lensRow_at (f : Nat → Nat) {n s : Nat} (h : s < n) : (lensRow f n)[s]? = some (u8v (f s)) := by
  unfold lensRow
  rw [List.getElem?_map, List.getElem?_eq_getElem (by simpa using h)]
  simp
theorem lensRow_congr {f g : Nat → Nat} {n : Nat} (h : ∀ i, i < n → f i = g i) : lensRow f n = lensRow g n := by
  unfold lensRow
  refine List.map_congr_left fun i hi => ?_
  rw [h i (List.mem_range.1 hi)]
theorem lensRow_set (f : Nat → Nat) {n s : Nat} (x : Nat) : (lensRow f n).set s (u8v x) = lensRow (fun i => if i = s then x else f i) n := by
  refine List.ext_getElem? (fun k => ?_)
  rw [List.getElem?_set, lensRow_len]
  by_cases hk : k < n
  · rw [lensRow_at (fun i => if i = s then x else f i) hk, lensRow_at f hk]
    by_cases h : s = k
    · subst h; simp [hk]
    · simp [h, Ne.symm h]
  · rw [List.getElem?_eq_none (by rw [lensRow_len]; omega), List.getElem?_eq_none (by rw [lensRow_len]; omega)]
    by_cases h : s = k
    · subst h; simp [hk]
    · simp [h]

def LensAt (w : World) (base g n c : Nat) (f : Nat → Nat) : Prop := w.ownsRow base 5 1 (.slice (some ⟨g, 0, none⟩) n c) n (lensRow f n)

theorem LensAt.congr {w : World} {base g n c : Nat} {f f' : Nat → Nat} (h : LensAt w base g n c f) (e : ∀ i, i < n → f i = f' i) : LensAt w base g n c f' := by
  unfold LensAt at h ⊢
  rw [← lensRow_congr e]; exact h

set_option maxHeartbeats 1000000 in
theorem count_leaf (N : Nat → Prop) (base g n c b s cs : Nat) (f : Nat → Nat) (w : World) (ht : TrAt w N b (.leaf s cs)) (hL : LensAt w base g n c f) (hs : s < n) (hf : f s + 1 ≤ 255) (hg : ¬ N g) :
    Calls Try.prog 45 #[ptrV b, .slice (some ⟨g, 0, none⟩) n c] w fun e w' => e = .returned (.tuple #[]) ∧ LensAt w' base g n c (fun i => f i + (Tr.leaf s cs).cnt i) ∧ Turns (fun i => i = g) w w' := by
  unfold TrAt at ht
  have hb := ht.2
  have c1 : w.cell? ⟨b, 1, none⟩ = some (.int .i64 (s : Int)) := by simp [World.cell?, hb]
  have c2 : w.cell? ⟨b, 2, none⟩ = some (.slice none 0 0) := by simp [World.cell?, hb]
  have cl : w.cell? ⟨g, s, none⟩ = some (.int .u8 (f s : Int)) := by
    rw [World.ownsRow.cellAt hL s (by omega), lensRow_at f hs]; rfl
  have fl : w.frozen? ⟨g, s, none⟩ = false := World.ownsRow.frozenAt hL s
  have hst := (World.ownsRow.stored hL s (u8v (f s + 1)))
  have HR : Hid (LensAt (w.setCell ⟨g, s, none⟩ (.int .u8 ((f s : Int) + 1))) base g n c (fun i => f i + (Tr.leaf s cs).cnt i)) := Lib.hid (by
    have h1 := hst.1
    rw [lensRow_set] at h1
    refine LensAt.congr (f := fun i => if i = s then f s + 1 else f i) h1 (fun i _ => ?_)
    by_cases e : i = s
    · subst e; simp [Tr.cnt]
    · simp [Tr.cnt, e])
  have HT : Hid (Turns (fun i => i = g) w (w.setCell ⟨g, s, none⟩ (.int .u8 ((f s : Int) + 1)))) := Lib.hid ((Turns.refl _ w).set (T := fun i => i = g) (p := ⟨g, s, none⟩) rfl _)
  obtain ⟨x, hx⟩ : ∃ x, f s = x := ⟨_, rfl⟩
  rw [hx] at cl HR HT hf
  have c3 : (w.setCell ⟨g, s, none⟩ (.int .u8 ((x : Int) + 1))).cell? ⟨b, 2, none⟩ = some (.slice none 0 0) := HT.out.cell c2 (fun e => hg (e ▸ ht.1))
  have hn1 : (s : Int) < (n : Int) := by omega
  have hn0 : (0 : Int) ≤ (s : Int) := by omega
  unfold ptrV
  clear ht hL hst hb hx
  go_enter Try.func45, Try.ntmps45
  go_wp2
  obtain ⟨W, hW⟩ : ∃ W, w.setCell ⟨g, s, none⟩ (.int .u8 ((x : Int) + 1)) = W := ⟨_, rfl⟩
  rw [hW] at HR HT c3 ⊢
  clear hW
  go_loop [26] (fun kv => kv = .int .i64 0) (fun _ => 0)
  case atStart => rfl
  case round =>
    obtain rfl := hrel
    go_wp2
    go_end0
    exact ⟨rfl, HR.out, HT.out⟩

/-- What the first k parts of a pair make of lengths. -/
def stepC (f : Nat → Nat) (x y : Tr) (k : Nat) : Nat → Nat := fun i => f i + (if 1 ≤ k then x.cnt i else 0) + (if 2 ≤ k then y.cnt i else 0)
structure CntInv (base g n c : Nat) (f : Nat → Nat) (x y : Tr) (w wr : World) (k : Nat) : Prop where
  lens : LensAt wr base g n c (stepC f x y k)
  turns : Turns (fun i => i = g) w wr

theorem cell_heap {w : World} {b i : Nat} {cs : Array Value} {t : TypeId} {v : Value} (h : w.heap[b]? = some (.cells cs t)) (hi : cs[i]? = some v) : w.cell? ⟨b, i, none⟩ = some v := by
  simp [World.cell?, h, hi]

set_option maxHeartbeats 2000000 in
theorem count_any (N : Nat → Prop) (base g n c : Nat) (hg : ¬ N g) (fr : Nat → Nat) : ∀ (t : Tr) (b : Nat) (f : Nat → Nat) (w : World), TrAt w N b t → LensAt w base g n c f → t.Fits n fr → (∀ i, i < n → f i + t.cnt i ≤ 255) →
    Calls Try.prog 45 #[ptrV b, .slice (some ⟨g, 0, none⟩) n c] w fun e w' => e = .returned (.tuple #[]) ∧ LensAt w' base g n c (fun i => f i + t.cnt i) ∧ Turns (fun i => i = g) w w'
  | .leaf s cs, b, f, w, ht, hL, hF, hf => by
    have h1 := hf s hF.1
    rw [Tr.cnt, if_pos rfl] at h1
    exact count_leaf N base g n c b s cs f w ht hL hF.1 h1 hg
  | .node x y, b, f, w, ht, hL, hF, hf => by
    have ih1 := Lib.hid (count_any N base g n c hg fr x)
    have ih2 := Lib.hid (count_any N base g n c hg fr y)
    unfold TrAt at ht
    obtain ⟨hb, q, bx, by', hq, hh, hhq, hx, hy⟩ := ht
    have c2 : w.cell? ⟨b, 2, none⟩ = some (.slice (some ⟨q, 0, none⟩) 2 2) := cell_heap hh rfl
    have d0 : w.cell? ⟨q, 0, none⟩ = some (ptrV bx) := cell_heap hhq rfl
    have d1 : w.cell? ⟨q, 1, none⟩ = some (ptrV by') := cell_heap hhq rfl
    have HX := Lib.hid hx
    have HY := Lib.hid hy
    have HL := Lib.hid hL
    have HF := Lib.hid hF
    have Hf := Lib.hid hf
    have Hq := Lib.hid (fun (e : q = g) => hg (e ▸ hq))
    unfold ptrV at d0 d1
    unfold ptrV
    clear hb hh hhq hx hy hL hF hf hq
    go_enter Try.func45, Try.ntmps45
    go_wp2
    go_loopw [26] (fun kv wr => ∃ (k : Nat), kv = .int .i64 (k : Int) ∧ k ≤ 2 ∧ Hid (CntInv base g n c f x y w wr k)) (fun kv _ => 2 - (intOf kv).toNat)
    case atStart => exact ⟨0, rfl, by omega, Lib.hid ⟨HL.out.congr (fun i _ => by simp [stepC]), Turns.refl _ _⟩⟩
    case round =>
      obtain ⟨k, rfl, hk, HI⟩ := hrel
      have hcase : k = 0 ∨ k = 1 ∨ k = 2 := by omega
      rcases hcase with rfl | rfl | rfl
      · have e0 := HI.out.turns.cell d0 Hq.out
        have Hp : Hid (TrAt wr N bx x ∧ x.Fits n fr ∧ (∀ i, i < n → stepC f x y 0 i + x.cnt i ≤ 255)) := Lib.hid ⟨HX.out.keep (fun i hi hN => ⟨HI.out.turns.block i hi (fun e => hg (e ▸ hN)), hN⟩), HF.out.1, fun i hi => by
          have := Hf.out i hi
          simp [Tr.cnt, stepC] at this ⊢; omega⟩
        go_wp2_with fail
        refine Calls.mono (ih1.out bx (stepC f x y 0) wr Hp.out.1 HI.out.lens Hp.out.2.1 Hp.out.2.2) ?_
        rintro e w1 ⟨rfl, h1, h2⟩
        have HI1 : Hid (CntInv base g n c f x y w w1 1) := Lib.hid ⟨h1.congr (fun i _ => by simp [stepC]), HI.out.turns.trans h2⟩
        clear h1 h2
        go_wp2
        go_roundw
        case rel => exact ⟨1, by go_num, by omega, HI1⟩
        case measure => simp [intOf]
      · have e0 := HI.out.turns.cell d1 Hq.out
        have Hp : Hid (TrAt wr N by' y ∧ y.Fits n fr ∧ (∀ i, i < n → stepC f x y 1 i + y.cnt i ≤ 255)) := Lib.hid ⟨HY.out.keep (fun i hi hN => ⟨HI.out.turns.block i hi (fun e => hg (e ▸ hN)), hN⟩), HF.out.2, fun i hi => by
          have := Hf.out i hi
          simp [Tr.cnt, stepC] at this ⊢; omega⟩
        go_wp2_with fail
        refine Calls.mono (ih2.out by' (stepC f x y 1) wr Hp.out.1 HI.out.lens Hp.out.2.1 Hp.out.2.2) ?_
        rintro e w1 ⟨rfl, h1, h2⟩
        have HI1 : Hid (CntInv base g n c f x y w w1 2) := Lib.hid ⟨h1.congr (fun i _ => by simp [stepC]), HI.out.turns.trans h2⟩
        clear h1 h2
        go_wp2
        go_roundw
        case rel => exact ⟨2, by go_num, by omega, HI1⟩
        case measure => simp [intOf]
      · go_wp2
        go_end0
        exact ⟨rfl, HI.out.lens.congr (fun i _ => by simp only [stepC, Tr.cnt]; simp; omega), HI.out.turns⟩

end Go.Proofs.Ytdcmalbbijchiaa
