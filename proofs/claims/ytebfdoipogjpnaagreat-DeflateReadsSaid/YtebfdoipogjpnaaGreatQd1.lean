/- Several texts in one, each with its own head. -/
import Derived.Test.YtebfdoipogjpnaaGreatRows
import Derived.WalkKit
import Derived.WalkSpells
import Derived.WalkLawsBesides
import Derived.Deep.QuietTactic
import Derived.BigQuiet
import Derived.Lib.Hide
import Derived.Shelf.Abstract
import Derived.StillTail
/- Small laws on worlds that grow (Below), on calls that only make memory (Makes), and on regions that draw their order and whose calls only make memory. Nothing here speaks of one program. -/
namespace Go.Proofs.YtebfdoipogjpnaaGreat
open Go.RowKit

theorem Below.drewN' {B : Nat} {a w : World} (h : Below B a w) (n : Nat) : Below B a (w.drewN n) := ⟨h.os, h.tape, h.output, h.size, h.block⟩

/-- The call returns v; nothing that was there has changed. -/
def Makes (P : Program) (f : FuncId) (args : Array Value) (w : World) (v : Value) : Prop :=
  Calls P f args w fun e w' => e = .returned v ∧ Below w.heap.size w w'

/-- .. met in a world of the class 'below B as w was'. -/
theorem Makes.inClass {P : Program} {f : FuncId} {args : Array Value} {w w1 : World} {v : Value} {B : Nat} (h : Makes P f args w1 v) (hB : B ≤ w.heap.size) (hb : Below B w w1) :
    Calls P f args w1 fun e w'' => e = .returned v ∧ Below B w w'' :=
  Calls.mono h fun _ _ ⟨he, hb'⟩ => ⟨he, hb.trans (hb'.mono (Nat.le_trans hB hb.size))⟩

theorem below_cell {W w1 : World} {B : Nat} (hb : Below B W w1) {b o : Nat} {v : Value} (h : b < B) (hc : W.cell? ⟨b, o, none⟩ = some v) : w1.cell? ⟨b, o, none⟩ = some v :=
  (hb.cell (p := ⟨b, o, none⟩) h).trans hc

/-- Two steps, each of which keeps all that was there. -/
theorem Below.thn {a b c : World} (h : Below a.heap.size a b) (k : Below b.heap.size b c) : Below a.heap.size a c := h.trans (k.mono h.size)
theorem Below.al {a b : World} (h : Below a.heap.size a b) (o : Obj) : Below a.heap.size a (b.alloc o) := h.alloc h.size o
theorem Below.al1 (w : World) (o : Obj) : Below w.heap.size w (w.alloc o) := Below.al (Below.refl _ _) o
theorem Below.al2 (w : World) (o p : Obj) : Below w.heap.size w ((w.alloc o).alloc p) := Below.al (Below.al1 w o) p
theorem Below.al3 (w : World) (o p q : Obj) : Below w.heap.size w (((w.alloc o).alloc p).alloc q) := Below.al (Below.al2 w o p) q
theorem Below.al4 (w : World) (o p q r : Obj) : Below w.heap.size w ((((w.alloc o).alloc p).alloc q).alloc r) := Below.al (Below.al3 w o p q) r

theorem cell_at {w : World} {c : Array Value} {t : TypeId} {n i : Nat} {v : Value} (hn : n = w.heap.size) (hc : c[i]? = some v) : (w.alloc (.cells c t)).cell? ⟨n, i, none⟩ = some v := by
  rw [World.cell?_alloc_at c t n i hn]; exact hc

theorem free_at {w : World} {c : Array Value} {t : TypeId} {n i : Nat} (hn : n = w.heap.size) : (w.alloc (.cells c t)).frozen? ⟨n, i, none⟩ = false := World.frozen?_alloc_at c t n i hn
theorem free_later {w wx : World} {a : Addr} {v : Value} (hb : Below w.heap.size w wx) (h : w.cell? a = some v) (hf : w.frozen? a = false) : wx.frozen? a = false :=
  (hb.frozen (World.block_lt_of_cell? _ _ h)).trans hf
theorem Below.st {a b : World} (h : Below a.heap.size a b) (p : Addr) (hp : a.heap.size ≤ p.block) (u : Value) : Below a.heap.size a (b.setCell p u) := h.setCell hp u

theorem ret_bool {a b : Bool} (h : a = b) : Ending.returned (.bool a) = .returned (.bool b) := by rw [h]
theorem ret_int {k : IntKind} {a b : Int} (h : a = b) : Ending.returned (.int k a) = .returned (.int k b) := by rw [h]

/-- A region that draws its order, every operation of which, in every world that is below B as w was, yields one value and leaves such a world. -/
theorem wp_region_below {P : Program} {id : Nat} {Q : Exit → Act → World → Prop} {a : Act} {w : World} {l : List Oper} (B : Nat) (hm : P.follows .mixedOrders = true) (hB : Region.lexB .any l.toArray = true)
    (h : wpQuiet P l.toArray (Below B w) (fun a' => ∀ w', Below B w w' → Q .normal a' w') l a) : (Code.region id l.toArray true).wp P Q a w :=
  wp_region_quiet (C := Below B w) hm hB (Below.drew (Below.refl _ _)) (by simpa using h)

end Go.Proofs.YtebfdoipogjpnaaGreat

/- Numbers, bytes and bits: plain facts. Nothing here speaks of one program. -/
namespace Go.Proofs.YtebfdoipogjpnaaGreat

/-- m bytes of a number, the low one first. -/
def byts : Nat → Nat → List Nat
  | _, 0 => []
  | N, m + 1 => N % 256 :: byts (N / 256) m

/-- The number that bytes are. -/
def numB : List Nat → Nat
  | [] => 0
  | b :: r => b + 256 * numB r

/-- n bits of a number, the low one first. -/
def bitsL : Nat → Nat → List Bool
  | _, 0 => []
  | v, n + 1 => decide (v % 2 = 1) :: bitsL (v / 2) n

/-- The number that bits are. -/
def numL : List Bool → Nat
  | [] => 0
  | b :: r => b.toNat + 2 * numL r

theorem pow256 (q : Nat) : 256 ^ q = 2 ^ (8 * q) := by rw [Nat.pow_mul]
theorem pow_pos' (n : Nat) : 0 < 2 ^ n := Nat.pow_pos (by decide)

theorem byts_len : ∀ (N m : Nat), (byts N m).length = m
  | _, 0 => rfl
  | N, m + 1 => by simp [byts, byts_len]

theorem byts_snoc : ∀ (N m : Nat), byts N (m + 1) = byts N m ++ [N / 256 ^ m % 256]
  | N, 0 => by simp [byts]
  | N, m + 1 => by
    rw [byts, byts_snoc (N / 256) m, byts, List.cons_append, Nat.div_div_eq_div_mul, Nat.pow_succ, Nat.mul_comm 256]

theorem byts_add : ∀ (N m M : Nat), byts (N + 256 ^ m * M) m = byts N m
  | _, 0, _ => rfl
  | N, m + 1, M => by
    have e : 256 ^ (m + 1) * M = 256 * (256 ^ m * M) := by rw [Nat.pow_succ, Nat.mul_comm (256 ^ m), Nat.mul_assoc]
    rw [byts, byts, e, Nat.add_mul_mod_self_left, Nat.add_mul_div_left _ _ (by decide), byts_add]

theorem byts_lt : ∀ (N m : Nat), ∀ b ∈ byts N m, b < 256
  | _, 0, b, h => by cases h
  | N, m + 1, b, h => by
    rcases List.mem_cons.1 h with rfl | h
    · omega
    · exact byts_lt _ m b h

theorem numB_byts : ∀ (N m : Nat), N < 256 ^ m → numB (byts N m) = N
  | N, 0, h => by simp at h; subst h; rfl
  | N, m + 1, h => by
    rw [byts, numB, numB_byts (N / 256) m (by rw [Nat.pow_succ] at h; exact Nat.div_lt_of_lt_mul (by rwa [Nat.mul_comm]))]
    omega

theorem numB_lt : ∀ (l : List Nat), (∀ b ∈ l, b < 256) → numB l < 256 ^ l.length
  | [], _ => by simp [numB]
  | b :: r, h => by
    have h1 := numB_lt r (fun x hx => h x (by simp [hx]))
    have h2 := h b (by simp)
    rw [numB, List.length_cons, Nat.pow_succ]
    omega

theorem byts_numB : ∀ (l : List Nat), (∀ b ∈ l, b < 256) → byts (numB l) l.length = l
  | [], _ => rfl
  | b :: r, h => by
    have h1 := byts_numB r (fun x hx => h x (by simp [hx]))
    have h2 := h b (by simp)
    rw [List.length_cons, byts, numB, Nat.add_mul_mod_self_left, Nat.add_mul_div_left _ _ (by decide), Nat.mod_eq_of_lt h2, Nat.div_eq_of_lt h2, Nat.zero_add, h1]

theorem byts_get (N m i : Nat) (h : i < m) : (byts N m)[i]'(by rw [byts_len]; exact h) = N / 256 ^ i % 256 := by
  induction m generalizing N i with
  | zero => omega
  | succ m ih =>
    cases i with
    | zero => simp [byts]
    | succ i =>
      simp only [byts, List.getElem_cons_succ]
      rw [ih (N / 256) i (by omega), Nat.div_div_eq_div_mul, Nat.pow_succ, Nat.mul_comm 256]

theorem numB_get (l : List Nat) (h : ∀ b ∈ l, b < 256) (i : Nat) (hi : i < l.length) : numB l / 256 ^ i % 256 = l[i] := by
  have e := byts_get (numB l) l.length i hi
  rw [← e]
  congr 1
  exact byts_numB l h

/-- The bytes behind a piece more: the last byte alone has turned. -/
theorem byts_lay (N n p s : Nat) (hN : N < 2 ^ n) (hp : p < 2 ^ s) (hs : 0 < s) (hfit : n % 8 + s ≤ 8) :
    (n + s + 7) / 8 = n / 8 + 1 ∧ byts (N + p * 2 ^ n) (n / 8 + 1) = byts N (n / 8) ++ [N / 256 ^ (n / 8) + p * 2 ^ (n % 8)] ∧ N / 256 ^ (n / 8) < 2 ^ (n % 8) ∧ N + p * 2 ^ n < 2 ^ (n + s) ∧ N / 256 ^ (n / 8) + p * 2 ^ (n % 8) < 256 := by
  have hn : 2 ^ n = 256 ^ (n / 8) * 2 ^ (n % 8) := by rw [pow256, ← Nat.pow_add]; congr 1; omega
  have h3 : N / 256 ^ (n / 8) < 2 ^ (n % 8) := Nat.div_lt_of_lt_mul (by rw [← hn]; exact hN)
  have h5 : N / 256 ^ (n / 8) + p * 2 ^ (n % 8) < 256 := by
    have h6 : 2 ^ (n % 8) * 2 ^ s ≤ 2 ^ 8 := by rw [← Nat.pow_add]; exact Nat.pow_le_pow_right (by decide) hfit
    have h7 : p * 2 ^ (n % 8) + 2 ^ (n % 8) ≤ 2 ^ (n % 8) * 2 ^ s := by
      have : (p + 1) * 2 ^ (n % 8) ≤ 2 ^ s * 2 ^ (n % 8) := Nat.mul_le_mul_right _ hp
      rw [Nat.mul_comm (2 ^ (n % 8)) (2 ^ s)]
      rw [Nat.add_mul] at this
      omega
    have : (2 : Nat) ^ 8 = 256 := rfl
    omega
  refine ⟨by omega, ?_, h3, ?_, h5⟩
  · have e : N + p * 2 ^ n = N + 256 ^ (n / 8) * (p * 2 ^ (n % 8)) := by rw [hn, Nat.mul_left_comm]
    rw [byts_snoc, e, byts_add, Nat.add_mul_div_left _ _ (Nat.pow_pos (by decide)), Nat.mod_eq_of_lt h5]
  · have : (p + 1) * 2 ^ n ≤ 2 ^ s * 2 ^ n := Nat.mul_le_mul_right _ hp
    rw [Nat.pow_add, Nat.mul_comm (2 ^ n)]
    rw [Nat.add_mul] at this
    omega

theorem byts_zero (N n : Nat) (h : n % 8 ≠ 0) : byts N ((n + 7) / 8) = byts N (n / 8) ++ [N / 256 ^ (n / 8) % 256] := by
  rw [show (n + 7) / 8 = n / 8 + 1 by omega, byts_snoc]
theorem byts_full (N n : Nat) (h : n % 8 = 0) : byts N ((n + 7) / 8) = byts N (n / 8) := by
  rw [show (n + 7) / 8 = n / 8 by omega]

/-- What a piece of bits is, in the row's number. -/
theorem piece_num (l : List Nat) (h : ∀ b ∈ l, b < 256) (at_ s : Nat) (hfit : at_ % 8 + s ≤ 8) (hi : at_ / 8 < l.length) :
    l[at_ / 8] / 2 ^ (at_ % 8) % 2 ^ s = numB l / 2 ^ at_ % 2 ^ s := by
  have e := numB_get l h (at_ / 8) hi
  rw [← e, pow256]
  generalize numB l = X
  have h1 : X / 2 ^ at_ = X / 2 ^ (8 * (at_ / 8)) / 2 ^ (at_ % 8) := by
    rw [Nat.div_div_eq_div_mul, ← Nat.pow_add]; congr 2; omega
  rw [h1]
  generalize X / 2 ^ (8 * (at_ / 8)) = Y
  have h2 : (256 : Nat) = 2 ^ (at_ % 8) * 2 ^ (8 - at_ % 8) := by rw [← Nat.pow_add, show at_ % 8 + (8 - at_ % 8) = 8 by omega]
  rw [h2, Nat.mod_mul_right_div_self]
  have h3 : 2 ^ s ∣ 2 ^ (8 - at_ % 8) := Nat.pow_dvd_pow 2 (by omega)
  exact Nat.mod_mod_of_dvd _ h3

theorem mod_pow_add (x a b : Nat) : x % 2 ^ (a + b) = x % 2 ^ a + x / 2 ^ a % 2 ^ b * 2 ^ a := by
  rw [Nat.pow_add, Nat.mod_mul, Nat.mul_comm (2 ^ a) (x / 2 ^ a % 2 ^ b)]

theorem bitsL_len : ∀ (v n : Nat), (bitsL v n).length = n
  | _, 0 => rfl
  | v, n + 1 => by simp [bitsL, bitsL_len]

theorem bitsL_snoc : ∀ (v n : Nat), bitsL v (n + 1) = bitsL v n ++ [decide (v / 2 ^ n % 2 = 1)]
  | v, 0 => by simp [bitsL]
  | v, n + 1 => by
    rw [bitsL, bitsL_snoc (v / 2) n, bitsL, List.cons_append, Nat.div_div_eq_div_mul, Nat.pow_succ, Nat.mul_comm 2]

theorem numL_lt : ∀ (l : List Bool), numL l < 2 ^ l.length
  | [] => by simp [numL]
  | b :: r => by
    have h1 := numL_lt r
    have h2 : b.toNat ≤ 1 := Bool.toNat_le b
    rw [numL, List.length_cons, Nat.pow_succ]
    omega

theorem numL_append : ∀ (a b : List Bool), numL (a ++ b) = numL a + 2 ^ a.length * numL b
  | [], b => by simp [numL]
  | x :: r, b => by
    rw [List.cons_append, numL, numL, numL_append r b, List.length_cons, Nat.pow_succ, Nat.mul_add, Nat.mul_comm (2 ^ r.length) 2, Nat.mul_assoc, Nat.add_assoc]

theorem numL_bitsL : ∀ (v n : Nat), v < 2 ^ n → numL (bitsL v n) = v
  | v, 0, h => by simp at h; subst h; rfl
  | v, n + 1, h => by
    rw [bitsL, numL, numL_bitsL (v / 2) n (by rw [Nat.pow_succ] at h; omega)]
    by_cases e : v % 2 = 1 <;> simp [e] <;> omega

theorem bitsL_numL : ∀ (l : List Bool), bitsL (numL l) l.length = l
  | [] => rfl
  | b :: r => by
    have h2 : b.toNat ≤ 1 := Bool.toNat_le b
    rw [List.length_cons, bitsL, numL, show (b.toNat + 2 * numL r) / 2 = numL r by omega, bitsL_numL r]
    have : (b.toNat + 2 * numL r) % 2 = b.toNat := by omega
    rw [this]
    cases b <;> rfl

theorem numL_drop (l : List Bool) (k : Nat) (h : k ≤ l.length) : numL (l.drop k) = numL l / 2 ^ k := by
  have e := numL_append (l.take k) (l.drop k)
  rw [List.take_append_drop, List.length_take, Nat.min_eq_left h] at e
  have hl := numL_lt (l.take k)
  rw [List.length_take, Nat.min_eq_left h] at hl
  rw [e, Nat.add_mul_div_left _ _ (pow_pos' k), Nat.div_eq_of_lt hl, Nat.zero_add]

theorem numL_take (l : List Bool) (k : Nat) (h : k ≤ l.length) : numL (l.take k) = numL l % 2 ^ k := by
  have e := numL_append (l.take k) (l.drop k)
  rw [List.take_append_drop, List.length_take, Nat.min_eq_left h] at e
  have hl := numL_lt (l.take k)
  rw [List.length_take, Nat.min_eq_left h] at hl
  rw [e, Nat.add_mul_mod_self_left, Nat.mod_eq_of_lt hl]

theorem numL_take' (l : List Bool) (k : Nat) : numL (l.take k) = numL l % 2 ^ k := by
  by_cases h : k ≤ l.length
  · exact numL_take l k h
  · have h1 := numL_lt l
    have h2 : 2 ^ l.length ≤ 2 ^ k := Nat.pow_le_pow_right (by decide) (by omega)
    rw [List.take_of_length_le (by omega), Nat.mod_eq_of_lt (by omega)]
theorem numL_byte (l : List Bool) (q : Nat) (h : 8 * q ≤ l.length) : numL ((l.drop (8 * q)).take 8) = numL l / 256 ^ q % 256 := by
  rw [numL_take', numL_drop _ _ h, pow256]

theorem numL_seg (l : List Bool) (at_ n : Nat) (h : at_ + n ≤ l.length) : numL ((l.drop at_).take n) = numL l / 2 ^ at_ % 2 ^ n := by
  rw [numL_take _ _ (by rw [List.length_drop]; omega), numL_drop _ _ (by omega)]

theorem numL_zeros : ∀ n, numL (List.replicate n false) = 0
  | 0 => rfl
  | n + 1 => by rw [List.replicate_succ, numL, numL_zeros n]; rfl

/-- The bits of bytes. -/
def ofB (l : List Nat) : List Bool := l.flatMap fun b => bitsL b 8
theorem ofB_snoc (l : List Nat) (b : Nat) : ofB (l ++ [b]) = ofB l ++ bitsL b 8 := by simp [ofB]
theorem ofB_len : ∀ l : List Nat, (ofB l).length = 8 * l.length
  | [] => rfl
  | b :: r => by
    have := ofB_len r
    unfold ofB at this ⊢
    rw [List.flatMap_cons, List.length_append, this, bitsL_len, List.length_cons]
    omega
theorem numL_ofB : ∀ l : List Nat, (∀ b ∈ l, b < 256) → numL (ofB l) = numB l
  | [], _ => rfl
  | b :: r, h => by
    have h1 := numL_ofB r (fun x hx => h x (by simp [hx]))
    unfold ofB at h1 ⊢
    rw [List.flatMap_cons, numL_append, h1, numL_bitsL b 8 (h b (by simp)), bitsL_len, numB]

/-- What zeros behind do to a row's bytes: there are none to see. -/
theorem byts_align (N n k : Nat) (hk : n + k = (n + 7) / 8 * 8) : byts N ((n + k + 7) / 8) = byts N ((n + 7) / 8) := by
  congr 1; omega

theorem div_pow_zero {v n : Nat} : v / 2 ^ n = 0 ↔ v < 2 ^ n := by
  rw [Nat.div_eq_zero_iff]
  have := pow_pos' n
  omega

end Go.Proofs.YtebfdoipogjpnaaGreat

/- Regions that draw their order and whose calls only make memory: one walk in the order of the text. Nothing here speaks of one program. -/
namespace Go.Proofs.YtebfdoipogjpnaaGreat
open Go.RowKit

/-- A world in which all that w had is as it was. -/
structure After (w : World) where
  world : World
  below : Below w.heap.size w world

theorem After.ne (w : World) : Nonempty (After w) := ⟨⟨w, Below.refl _ _⟩⟩

theorem After.cell {w : World} {a : Addr} {v : Value} (h : w.cell? a = some v) (n : After w) : n.world.cell? a = some v := cell_later n.below h

/-- A call that only makes memory, met in such a world. -/
theorem Makes.after {P : Program} {f : FuncId} {args : Array Value} {w : World} {v : Value} {n : After w} (h : Makes P f args n.world v) :
    Calls P f args n.world fun e w'' => e = .returned v ∧ ∃ m : After w, w'' = m.world :=
  Calls.mono h fun _ w'' ⟨he, hb⟩ => ⟨he, ⟨w'', Below.thn n.below hb⟩, rfl⟩

theorem wp_region_after {P : Program} {id : Nat} {Q : Exit → Act → World → Prop} {a : Act} {w : World} {l : List Oper} (hm : P.follows .mixedOrders = true) (hB : Region.lexB .any l.toArray = true)
    (h : wpQuiet P l.toArray (fun w' => ∃ n : After w, w' = n.world) (fun a' => ∀ w', (∃ n : After w, w' = n.world) → Q .normal a' w') l a) : (Code.region id l.toArray true).wp P Q a w :=
  wp_region_quiet (C := fun w' => ∃ n : After w, w' = n.world) hm hB ⟨⟨w.drew, Below.drew (Below.refl _ _)⟩, rfl⟩ (by simpa using h)

theorem After.rule {W : World} {a : Addr} {v : Value} (h : W.cell? a = some v) : ∀ n : After W, n.world.cell? a = some v := fun n => cell_later n.below h

/-- The same from a world of the class on, behind an earlier region. -/
theorem wp_region_in {P : Program} {id : Nat} {Q : Exit → Act → World → Prop} {a : Act} {W : World} {l : List Oper} (n : After W) (hm : P.follows .mixedOrders = true) (hB : Region.lexB .any l.toArray = true)
    (h : wpQuiet P l.toArray (fun w' => ∃ m : After W, w' = m.world) (fun a' => ∀ w', (∃ m : After W, w' = m.world) → Q .normal a' w') l a) : (Code.region id l.toArray true).wp P Q a n.world :=
  wp_region_quiet (C := fun w' => ∃ m : After W, w' = m.world) hm hB ⟨⟨n.world.drew, Below.drew n.below⟩, rfl⟩ (by simpa using h)

theorem wpList_of_quiet {P : Program} {ops : Array Oper} {C : World → Prop} {Q : Act → Prop} {Q' : Exit → Act → World → Prop} (hQ : ∀ a w, C w → Q a → Q' .normal a w) : ∀ (l : List Oper) (a : Act) (w : World), C w → wpQuiet P ops C Q l a → wpList P ops Q' l a w
  | [], _, _, hw, h => hQ _ _ hw h
  | o :: rest, a, w, hw, h => by
    unfold wpQuiet at h
    unfold wpList
    split
    · rename_i hh
      rw [if_pos hh] at h
      exact Or.inl (Oper.wp_of_quiet hw (fun a' w' hw' hk => wpList_of_quiet hQ rest a' w' hw' hk) h)
    · rename_i hh
      rw [if_neg hh] at h
      exact wpList_of_quiet hQ rest _ w hw h

/-- A region whose order is the text's: the same walk. -/
theorem wp_region_seq {P : Program} {id : Nat} {Q : Exit → Act → World → Prop} {a : Act} {W : World} {l : List Oper} (n : After W)
    (h : wpQuiet P l.toArray (fun w' => ∃ m : After W, w' = m.world) (fun a' => ∀ w', (∃ m : After W, w' = m.world) → Q .normal a' w') l a) : (Code.region id l.toArray false).wp P Q a n.world :=
  wp_region_lit (wpList_of_quiet (C := fun w' => ∃ m : After W, w' = m.world) (fun _ w' hw' h => h w' hw') _ _ _ ⟨n, rfl⟩ h)

end Go.Proofs.YtebfdoipogjpnaaGreat

/- Regions that draw their order, whose head only reads and calls what keeps all that there is, and makes new blocks, and whose tail stores: one walk of the head in the order of the text serves every order. Nothing here speaks of one program. -/
namespace Go.Proofs.YtebfdoipogjpnaaGreat
open Go.RowKit

section
variable {P : Program} {ops : Array Oper} {W : World} {md : Region.Mode}

/-- A value in the very world, or a call that answers it and keeps all that there is. -/
def mkUpon (P : Program) (w : World) (v : Value) : Result Next → Prop
  | .ok (.value u) w' => w' = w ∧ u = v
  | .ok .skip w' => w' = w ∧ v = undef
  | .ok (.enter f args) w' => w' = w ∧ Calls P f args w (fun e w'' => e = .returned v ∧ Below w.heap.size w w'')
  | _ => False

attribute [go_sem] mkUpon

def Yields (P : Program) (ops : Array Oper) (W : World) (o : Oper) (v : Value) (a : Act) : Prop :=
  (Region.wanted o (yielded ops a.tmps) = true ∧ ∀ n : After W, mkUpon P n.world v ((execOp a.eval o).run P n.world)) ∨ (Region.wanted o (yielded ops a.tmps) = false ∧ v = undef)

theorem Yields.of_same {o : Oper} {v : Value} {a a' : Act} (hy : Yields P ops W o v a) (he : execOp a'.eval o = execOp a.eval o)
    (hw : Region.wanted o (yielded ops a'.tmps) = Region.wanted o (yielded ops a.tmps)) : Yields P ops W o v a' := by
  unfold Yields at *
  rw [he, hw]
  exact hy

/-- The head's reading and calling operations, in the order of the text. -/
def Lq (P : Program) (ops : Array Oper) (W : World) (E : Act → Prop) : List Oper → Act → Prop
  | [], a => E a
  | o :: rest, a => ∃ v, Yields P ops W o v a ∧ Lq P ops W E rest (a.put o.dst v)

theorem Lq_nil {E : Act → Prop} {a : Act} (h : E a) : Lq P ops W E [] a := h
theorem Lq_step {E : Act → Prop} {a : Act} {o : Oper} {rest : List Oper}
    (h : ∀ K : Act → Prop, (∀ a, Lq P ops W E rest a → K a) → if Region.wanted o (yielded ops a.tmps) then ∃ v, (∀ n : After W, mkUpon P n.world v ((execOp a.eval o).run P n.world)) ∧ K (a.put o.dst v) else K (a.put o.dst undef)) : Lq P ops W E (o :: rest) a := by
  have h1 := h _ (fun _ h => h)
  by_cases hw : Region.wanted o (yielded ops a.tmps) = true
  · rw [if_pos hw] at h1
    obtain ⟨v, h2, h3⟩ := h1
    exact ⟨v, Or.inl ⟨hw, h2⟩, h3⟩
  · rw [if_neg hw] at h1
    exact ⟨undef, Or.inr ⟨by simpa using hw, rfl⟩, h1⟩

theorem Lq.mono {E E' : Act → Prop} (hE : ∀ a, E a → E' a) : ∀ (l : List Oper) (a : Act), Lq P ops W E l a → Lq P ops W E' l a
  | [], a, h => hE a h
  | _ :: l, _, ⟨v, hy, h⟩ => ⟨v, hy, Lq.mono hE l _ h⟩

/-- One of them may come up ahead of others that are apart from it. -/
theorem Lq.pick {E : Act → Prop} (j : Oper) (post : List Oper) (hj : ∀ cs b, j.op ≠ .select cs b) : ∀ (pre : List Oper) (a : Act), (∀ p ∈ pre, p.apart ops j = true ∧ ∀ cs b, p.op ≠ .select cs b) → Lq P ops W E (pre ++ j :: post) a →
    ∃ v, Yields P ops W j v a ∧ Lq P ops W E (pre ++ post) (a.put j.dst v)
  | [], _, _, h => h
  | i :: pre, a, hap, h => by
    obtain ⟨vi, hyi, h'⟩ := h
    obtain ⟨v, hy, hL⟩ := Lq.pick j post hj pre (a.put i.dst vi) (fun p hp => hap p (by simp [hp])) h'
    obtain ⟨hi, hsi⟩ := hap i (by simp)
    obtain ⟨h1, h2, h3⟩ := Oper.apart_spec hi
    refine ⟨v, hy.of_same (execOp_put j hj a i.dst vi h1).symm (wanted_put j a i.dst vi h1).symm, vi, hyi.of_same (execOp_put i hsi a j.dst v h3) (wanted_put i a j.dst v h3), ?_⟩
    rw [← Act.put_comm a vi v h2]
    exact hL

/-- A slot that none of them looks at may be filled ahead of them. -/
theorem Lq.put {E E' : Act → Prop} (j : Oper) (x : Value) (hE : ∀ a, E a → E' (a.put j.dst x)) : ∀ (l : List Oper) (a : Act), (∀ p ∈ l, p.apart ops j = true ∧ ∀ cs b, p.op ≠ .select cs b) → Lq P ops W E l a → Lq P ops W E' l (a.put j.dst x)
  | [], a, _, h => hE a h
  | i :: l, a, hap, h => by
    obtain ⟨vi, hyi, h'⟩ := h
    obtain ⟨hi, hsi⟩ := hap i (by simp)
    obtain ⟨h1, h2, h3⟩ := Oper.apart_spec hi
    refine ⟨vi, hyi.of_same (execOp_put i hsi a j.dst x h3) (wanted_put i a j.dst x h3), ?_⟩
    rw [← Act.put_comm a vi x h2]
    exact Lq.put j x hE l (a.put i.dst vi) (fun p hp => hap p (by simp [hp])) h'

def updB (β : Nat → Nat) (i B : Nat) : Nat → Nat := fun k => if k = i then B else β k
theorem updB_same (β : Nat → Nat) (i B : Nat) : updB β i B i = B := by simp [updB]
theorem updB_ne (β : Nat → Nat) {i k : Nat} (B : Nat) (h : k ≠ i) : updB β i B k = β k := by simp [updB, h]
theorem updB_comm (β : Nat → Nat) {i j : Nat} (h : i ≠ j) (B C : Nat) : updB (updB β i B) j C = updB (updB β j C) i B := by
  funext k
  by_cases h1 : k = i
  · subst h1
    rw [updB_ne _ _ h, updB_same, updB_same]
  · by_cases h2 : k = j
    · subst h2
      rw [updB_same, updB_ne _ _ h1, updB_same]
    · rw [updB_ne _ _ h2, updB_ne _ _ h1, updB_ne _ _ h1, updB_ne _ _ h2]

/-- The head's new blocks: wherever they come to lie. -/
def La (W : World) (F : (Nat → Nat) → Act → Prop) : List (Nat × Oper) → (Nat → Nat) → Act → Prop
  | [], β, a => F β a
  | o :: rest, β, a => ∀ B, W.heap.size ≤ B → La W F rest (updB β o.1 B) (a.put o.2.dst (.pointer (some ⟨B, 0, none⟩)))

theorem La.pick {F : (Nat → Nat) → Act → Prop} (j : Nat × Oper) (post : List (Nat × Oper)) : ∀ (pre : List (Nat × Oper)) (β : Nat → Nat) (a : Act), (∀ p ∈ pre, p.1 ≠ j.1 ∧ ∀ d, p.2.dst = some d → j.2.dst ≠ some d) → La W F (pre ++ j :: post) β a →
    ∀ B, W.heap.size ≤ B → La W F (pre ++ post) (updB β j.1 B) (a.put j.2.dst (.pointer (some ⟨B, 0, none⟩)))
  | [], _, _, _, h => h
  | i :: pre, β, a, hap, h => fun B hB Bi hBi => by
    have h2 := La.pick j post pre (updB β i.1 Bi) (a.put i.2.dst (.pointer (some ⟨Bi, 0, none⟩))) (fun p hp => hap p (by simp [hp])) (h Bi hBi) B hB
    have hi := hap i (by simp)
    rw [updB_comm _ hi.1, Act.put_comm a _ _ hi.2] at h2
    exact h2

theorem not_waits {i j : Nat} {listed : Array Bool} (hj : j ∈ Region.ready md ops listed) (hi : listed.getD i true = false) : Region.waitsFor md ops j i = false := by
  cases h : Region.waitsFor md ops j i
  · rfl
  · obtain ⟨oj, hoj, e, he, hb, hon⟩ := Region.waitsFor_spec h
    obtain ⟨_, o, ho, hall⟩ := mem_ready.1 hj
    have : oj = o := Option.some.inj (hoj.symm.trans ho)
    subst this
    have h2 := hall e he hb
    rw [hon, getD_both hi] at h2
    cases h2

theorem split_at {α : Type} {x : α} {l : List α} (h : x ∈ l) : ∃ pre post, l = pre ++ x :: post := List.append_of_mem h

end
end Go.Proofs.YtebfdoipogjpnaaGreat
