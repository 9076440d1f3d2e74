/- Several texts in one, each with its own head. -/
import Derived.Test.YtdcmalbbijchiaaZq10
import Derived.Test.YtdcmalbbijchiaaZq2
import Derived.Test.YtdcmalbbijchiaaZq4
import Derived.Test.YtdcmalbbijchiaaZq5
import Derived.Laws.BitsLemmas
import Derived.IntWalk
import Derived.Handy
/- huff's singles and count. -/
namespace Go.Proofs.Ytdcmalbbijchiaa
open Go.RowKit

/-- What singles' loop holds. -/
structure SgInv (N : Nat → Prop) (f : Nat → Nat) (w wr : World) (k : Nat) (v : Value) (l : List (Nat × Tr)) : Prop where
  eq : l.map Prod.snd = leaves f k
  own : wr.ownsRow w.heap.size 90 1 v l.length ((l.map Prod.fst).map ptrV)
  at' : ∀ e ∈ l, TrAt wr (fun i => N i ∧ w.heap.size ≤ i ∧ v.ownBlock ≠ some i) e.1 e.2
  below : Below w.heap.size w wr

theorem fq_at {fs : List Int} {k : Nat} (hk : k < fs.length) (h0 : 0 ≤ fs[k]) : fs[k] = ((fq fs k : Nat) : Int) := by
  unfold fq
  rw [List.getD_eq_getElem?_getD, List.getElem?_eq_getElem hk]
  simp; omega

set_option maxHeartbeats 1000000 in
theorem singles_any (N : Nat → Prop) (fs : List Int) (v : Value) (w : World) (hN : ∀ i, w.heap.size ≤ i → N i) (hv : Row encZ 1 w v fs) (hlen : fs.length ≤ 320) (hpos : ∀ f ∈ fs, 0 ≤ f) :
    Calls Try.prog 43 #[v] w fun e w' => ∃ (v' : Value) (l : List (Nat × Tr)), e = .returned v' ∧ SgInv N (fq fs) w w' fs.length v' l := by
  obtain ⟨p, c, rfl, -, -, hrow⟩ := hv
  have Hrow := Lib.hid hrow
  have Hpos := Lib.hid hpos
  have HN := Lib.hid hN
  clear hrow hpos hN
  go_enter Try.func43, Try.ntmps43
  go_wp2
  go_loopw [3, 8] (fun v kv wr => ∃ (k : Nat) (l : List (Nat × Tr)), kv = .int .i64 (k : Int) ∧ k ≤ fs.length ∧ Hid (SgInv N (fq fs) w wr k v l)) (fun _ kv _ => fs.length - (intOf kv).toNat)
  case atStart => exact ⟨0, [], rfl, Nat.zero_le _, Lib.hid ⟨rfl, World.ownsRow_nil _ _ _ _, (fun e he => by cases he), Below.refl _ _⟩⟩
  case round =>
    obtain ⟨k, l, rfl, hk, HI⟩ := hrel
    obtain ⟨pv, cv, rfl⟩ := owns_slice HI.out.own
    by_cases hlt : k < fs.length
    · obtain ⟨g, off, rfl, hcell⟩ := Hrow.out.int hlt
      have hcell2 := cell_later HI.out.below hcell
      have Hfk := Lib.hid (fq_at hlt (Hpos.out _ (List.getElem_mem hlt)))
      rw [Hfk.out] at hcell2
      obtain ⟨x, hx⟩ : ∃ x, fq fs k = x := ⟨_, rfl⟩
      rw [hx] at hcell2
      have Hx := Lib.hid hx
      have k0 : (0 : Int) ≤ (k : Int) := by omega
      have k1 : (k : Int) < (fs.length : Int) := by omega
      clear hx hcell
      by_cases hx0 : 0 < x
      · have d0 : decide (0 < x) = true := by simpa using hx0
        have hll : l.length ≤ 320 := by
          have h1 := congrArg List.length HI.out.eq
          rw [List.length_map, leaves_len] at h1
          have h2 : many k (fq fs) ≤ k := by
            unfold many
            have := sm_le (n := k) (g := fun i => if 0 < fq fs i then 1 else 0) (h := fun _ => 1) (fun i _ => by split <;> omega)
            have h3 : ∀ m, sm m (fun _ => 1) = m := fun m => by
              induction m with
              | zero => rfl
              | succ m ih => rw [sm, ih]
            rw [h3] at this
            exact this
          omega
        have hs := HI.out.below.size
        have Hown2 : Hid ((wr.alloc (.cells #[.int .i64 (x : Int), .int .i64 (k : Int), .slice none 0 0] 89)).ownsRow w.heap.size 90 1 (.slice pv l.length cv) l.length ((l.map Prod.fst).map ptrV)) := Lib.hid (HI.out.own.alloc _)
        have hs2 : w.heap.size ≤ (wr.alloc (.cells #[.int .i64 (x : Int), .int .i64 (k : Int), .slice none 0 0] 89)).heap.size := by simp; omega
        go_wp2_with (at_builtin; refine wpList_append_one _ rfl (.tmp 15) (.tmp 20) 86 rfl w.heap.size 90 _ 8 ptr_info Try.underlying86 rfl (.slice pv l.length cv) l.length ((l.map Prod.fst).map ptrV) rfl Hown2.out (ptrV wr.heap.size) _ ?n1 rfl ?n3 ?n4 hs2 ?_)
        case n1 => rw [World.size_alloc]; rfl
        case n3 => simp only [maxLen]; omega
        case n4 => omega
        intro g5 cap5 w5 hown5 ht5 hpl5
        have HI5 : Hid (SgInv N (fq fs) w w5 (k + 1) (.slice (some ⟨g5, 0, none⟩) (l.length + 1) cap5) (l ++ [(wr.heap.size, .leaf k x)])) := Lib.hid (by
          have hx' : 0 < fq fs k := by rw [Hx.out]; exact hx0
          have hlt' := HI.out.own.lt
          have hno : ∀ i, i < wr.heap.size + 1 → (Value.slice pv l.length cv).ownBlock ≠ some i → g5 ≠ i := fun i h1 h2 e => by
            rcases hpl5 with h | h
            · exact h2 (e ▸ h)
            · omega
          refine ⟨?_, ?_, fun e he => ?_, ?_⟩
          · rw [List.map_append, HI.out.eq]
            conv => rhs; unfold leaves
            rw [if_pos hx', Hx.out]; rfl
          · rw [List.length_append, List.map_append, List.map_append, List.map_map]; exact hown5
          · rcases List.mem_append.1 he with he | he
            · exact (HI.out.at' e he).keep (fun i hi hn => ⟨(ht5.block i (by simp; omega) hn.2.2).trans (Below.heap_alloc wr _ i hi), hn.1, hn.2.1, fun e => hno i (by omega) hn.2.2 (by cases e; rfl)⟩)
            · obtain rfl : e = (wr.heap.size, .leaf k x) := by simpa using he
              have hn0 : (Value.slice pv l.length cv).ownBlock ≠ some wr.heap.size := fun e => by have := (hlt' _ e).2; omega
              unfold TrAt
              exact ⟨⟨HN.out _ hs, hs, fun e => hno wr.heap.size (by omega) hn0 (by cases e; rfl)⟩, (ht5.block wr.heap.size (by simp) hn0).trans (World.alloc_heap_new _ _)⟩
          · exact HI.out.below.trans (((Below.al1 wr _).mono hs).trans (ht5.below (by simp; omega) (fun i e => (hlt' i e).1))))
        clear hown5 ht5 hpl5 hs2 hs
        go_wp2
        go_roundw
        case rel => exact ⟨k + 1, _, by go_num, by omega, HI5⟩
        case measure => simp [intOf]; omega
      · have d0 : decide (0 < x) = false := by simpa using hx0
        have HI5 : Hid (SgInv N (fq fs) w wr (k + 1) (.slice pv l.length cv) l) := Lib.hid ⟨by
          rw [HI.out.eq]
          conv => rhs; unfold leaves
          rw [Hx.out, if_neg hx0, List.append_nil], HI.out.own, HI.out.at', HI.out.below⟩
        go_wp2
        go_roundw
        case rel => exact ⟨k + 1, l, by go_num, by omega, HI5⟩
        case measure => simp [intOf]; omega
    · obtain rfl : k = fs.length := by omega
      go_wp2
      go_ret
      exact ⟨_, l, rfl, HI.out⟩

end Go.Proofs.Ytdcmalbbijchiaa

/- Numbers, bytes and bits: plain facts. Nothing here speaks of one program. -/
namespace Go.Proofs.Ytdcmalbbijchiaa

/-- m bytes of a number, the low one first. -/
def byts : Nat → Nat → List Nat
  | _, 0 => []
  | N, m + 1 => N % 256 :: byts (N / 256) m

/-- The number that bytes are. -/
def numB : List Nat → Nat
  | [] => 0
  | b :: r => b + 256 * numB r

/-- n bits of a number, the low one first. -/
def bitsL : Nat → Nat → List Bool
  | _, 0 => []
  | v, n + 1 => decide (v % 2 = 1) :: bitsL (v / 2) n

/-- The number that bits are. -/
def numL : List Bool → Nat
  | [] => 0
  | b :: r => b.toNat + 2 * numL r

theorem pow256 (q : Nat) : 256 ^ q = 2 ^ (8 * q) := by rw [Nat.pow_mul]
theorem pow_pos' (n : Nat) : 0 < 2 ^ n := Nat.pow_pos (by decide)

theorem byts_len : ∀ (N m : Nat), (byts N m).length = m
  | _, 0 => rfl
  | N, m + 1 => by simp [byts, byts_len]

theorem byts_snoc : ∀ (N m : Nat), byts N (m + 1) = byts N m ++ [N / 256 ^ m % 256]
  | N, 0 => by simp [byts]
  | N, m + 1 => by
    rw [byts, byts_snoc (N / 256) m, byts, List.cons_append, Nat.div_div_eq_div_mul, Nat.pow_succ, Nat.mul_comm 256]

theorem byts_add : ∀ (N m M : Nat), byts (N + 256 ^ m * M) m = byts N m
  | _, 0, _ => rfl
  | N, m + 1, M => by
    have e : 256 ^ (m + 1) * M = 256 * (256 ^ m * M) := by rw [Nat.pow_succ, Nat.mul_comm (256 ^ m), Nat.mul_assoc]
    rw [byts, byts, e, Nat.add_mul_mod_self_left, Nat.add_mul_div_left _ _ (by decide), byts_add]

theorem byts_lt : ∀ (N m : Nat), ∀ b ∈ byts N m, b < 256
  | _, 0, b, h => by cases h
  | N, m + 1, b, h => by
    rcases List.mem_cons.1 h with rfl | h
    · omega
    · exact byts_lt _ m b h

theorem numB_byts : ∀ (N m : Nat), N < 256 ^ m → numB (byts N m) = N
  | N, 0, h => by simp at h; subst h; rfl
  | N, m + 1, h => by
    rw [byts, numB, numB_byts (N / 256) m (by rw [Nat.pow_succ] at h; exact Nat.div_lt_of_lt_mul (by rwa [Nat.mul_comm]))]
    omega

theorem numB_lt : ∀ (l : List Nat), (∀ b ∈ l, b < 256) → numB l < 256 ^ l.length
  | [], _ => by simp [numB]
  | b :: r, h => by
    have h1 := numB_lt r (fun x hx => h x (by simp [hx]))
    have h2 := h b (by simp)
    rw [numB, List.length_cons, Nat.pow_succ]
    omega

theorem byts_numB : ∀ (l : List Nat), (∀ b ∈ l, b < 256) → byts (numB l) l.length = l
  | [], _ => rfl
  | b :: r, h => by
    have h1 := byts_numB r (fun x hx => h x (by simp [hx]))
    have h2 := h b (by simp)
    rw [List.length_cons, byts, numB, Nat.add_mul_mod_self_left, Nat.add_mul_div_left _ _ (by decide), Nat.mod_eq_of_lt h2, Nat.div_eq_of_lt h2, Nat.zero_add, h1]

theorem byts_get (N m i : Nat) (h : i < m) : (byts N m)[i]'(by rw [byts_len]; exact h) = N / 256 ^ i % 256 := by
  induction m generalizing N i with
  | zero => omega
  | succ m ih =>
    cases i with
    | zero => simp [byts]
    | succ i =>
      simp only [byts, List.getElem_cons_succ]
      rw [ih (N / 256) i (by omega), Nat.div_div_eq_div_mul, Nat.pow_succ, Nat.mul_comm 256]

theorem numB_get (l : List Nat) (h : ∀ b ∈ l, b < 256) (i : Nat) (hi : i < l.length) : numB l / 256 ^ i % 256 = l[i] := by
  have e := byts_get (numB l) l.length i hi
  rw [← e]
  congr 1
  exact byts_numB l h

/-- The bytes behind a piece more: the last byte alone has turned. -/
theorem byts_lay (N n p s : Nat) (hN : N < 2 ^ n) (hp : p < 2 ^ s) (hs : 0 < s) (hfit : n % 8 + s ≤ 8) :
    (n + s + 7) / 8 = n / 8 + 1 ∧ byts (N + p * 2 ^ n) (n / 8 + 1) = byts N (n / 8) ++ [N / 256 ^ (n / 8) + p * 2 ^ (n % 8)] ∧ N / 256 ^ (n / 8) < 2 ^ (n % 8) ∧ N + p * 2 ^ n < 2 ^ (n + s) ∧ N / 256 ^ (n / 8) + p * 2 ^ (n % 8) < 256 := by
  have hn : 2 ^ n = 256 ^ (n / 8) * 2 ^ (n % 8) := by rw [pow256, ← Nat.pow_add]; congr 1; omega
  have h3 : N / 256 ^ (n / 8) < 2 ^ (n % 8) := Nat.div_lt_of_lt_mul (by rw [← hn]; exact hN)
  have h5 : N / 256 ^ (n / 8) + p * 2 ^ (n % 8) < 256 := by
    have h6 : 2 ^ (n % 8) * 2 ^ s ≤ 2 ^ 8 := by rw [← Nat.pow_add]; exact Nat.pow_le_pow_right (by decide) hfit
    have h7 : p * 2 ^ (n % 8) + 2 ^ (n % 8) ≤ 2 ^ (n % 8) * 2 ^ s := by
      have : (p + 1) * 2 ^ (n % 8) ≤ 2 ^ s * 2 ^ (n % 8) := Nat.mul_le_mul_right _ hp
      rw [Nat.mul_comm (2 ^ (n % 8)) (2 ^ s)]
      rw [Nat.add_mul] at this
      omega
    have : (2 : Nat) ^ 8 = 256 := rfl
    omega
  refine ⟨by omega, ?_, h3, ?_, h5⟩
  · have e : N + p * 2 ^ n = N + 256 ^ (n / 8) * (p * 2 ^ (n % 8)) := by rw [hn, Nat.mul_left_comm]
    rw [byts_snoc, e, byts_add, Nat.add_mul_div_left _ _ (Nat.pow_pos (by decide)), Nat.mod_eq_of_lt h5]
  · have : (p + 1) * 2 ^ n ≤ 2 ^ s * 2 ^ n := Nat.mul_le_mul_right _ hp
    rw [Nat.pow_add, Nat.mul_comm (2 ^ n)]
    rw [Nat.add_mul] at this
    omega

theorem byts_zero (N n : Nat) (h : n % 8 ≠ 0) : byts N ((n + 7) / 8) = byts N (n / 8) ++ [N / 256 ^ (n / 8) % 256] := by
  rw [show (n + 7) / 8 = n / 8 + 1 by omega, byts_snoc]
theorem byts_full (N n : Nat) (h : n % 8 = 0) : byts N ((n + 7) / 8) = byts N (n / 8) := by
  rw [show (n + 7) / 8 = n / 8 by omega]

/-- What a piece of bits is, in the row's number. -/
theorem piece_num (l : List Nat) (h : ∀ b ∈ l, b < 256) (at_ s : Nat) (hfit : at_ % 8 + s ≤ 8) (hi : at_ / 8 < l.length) :
    l[at_ / 8] / 2 ^ (at_ % 8) % 2 ^ s = numB l / 2 ^ at_ % 2 ^ s := by
  have e := numB_get l h (at_ / 8) hi
  rw [← e, pow256]
  generalize numB l = X
  have h1 : X / 2 ^ at_ = X / 2 ^ (8 * (at_ / 8)) / 2 ^ (at_ % 8) := by
    rw [Nat.div_div_eq_div_mul, ← Nat.pow_add]; congr 2; omega
  rw [h1]
  generalize X / 2 ^ (8 * (at_ / 8)) = Y
  have h2 : (256 : Nat) = 2 ^ (at_ % 8) * 2 ^ (8 - at_ % 8) := by rw [← Nat.pow_add, show at_ % 8 + (8 - at_ % 8) = 8 by omega]
  rw [h2, Nat.mod_mul_right_div_self]
  have h3 : 2 ^ s ∣ 2 ^ (8 - at_ % 8) := Nat.pow_dvd_pow 2 (by omega)
  exact Nat.mod_mod_of_dvd _ h3

theorem mod_pow_add (x a b : Nat) : x % 2 ^ (a + b) = x % 2 ^ a + x / 2 ^ a % 2 ^ b * 2 ^ a := by
  rw [Nat.pow_add, Nat.mod_mul, Nat.mul_comm (2 ^ a) (x / 2 ^ a % 2 ^ b)]

theorem bitsL_len : ∀ (v n : Nat), (bitsL v n).length = n
  | _, 0 => rfl
  | v, n + 1 => by simp [bitsL, bitsL_len]

theorem bitsL_snoc : ∀ (v n : Nat), bitsL v (n + 1) = bitsL v n ++ [decide (v / 2 ^ n % 2 = 1)]
  | v, 0 => by simp [bitsL]
  | v, n + 1 => by
    rw [bitsL, bitsL_snoc (v / 2) n, bitsL, List.cons_append, Nat.div_div_eq_div_mul, Nat.pow_succ, Nat.mul_comm 2]

theorem numL_lt : ∀ (l : List Bool), numL l < 2 ^ l.length
  | [] => by simp [numL]
  | b :: r => by
    have h1 := numL_lt r
    have h2 : b.toNat ≤ 1 := Bool.toNat_le b
    rw [numL, List.length_cons, Nat.pow_succ]
    omega

theorem numL_append : ∀ (a b : List Bool), numL (a ++ b) = numL a + 2 ^ a.length * numL b
  | [], b => by simp [numL]
  | x :: r, b => by
    rw [List.cons_append, numL, numL, numL_append r b, List.length_cons, Nat.pow_succ, Nat.mul_add, Nat.mul_comm (2 ^ r.length) 2, Nat.mul_assoc, Nat.add_assoc]

theorem numL_bitsL : ∀ (v n : Nat), v < 2 ^ n → numL (bitsL v n) = v
  | v, 0, h => by simp at h; subst h; rfl
  | v, n + 1, h => by
    rw [bitsL, numL, numL_bitsL (v / 2) n (by rw [Nat.pow_succ] at h; omega)]
    by_cases e : v % 2 = 1 <;> simp [e] <;> omega

theorem bitsL_numL : ∀ (l : List Bool), bitsL (numL l) l.length = l
  | [] => rfl
  | b :: r => by
    have h2 : b.toNat ≤ 1 := Bool.toNat_le b
    rw [List.length_cons, bitsL, numL, show (b.toNat + 2 * numL r) / 2 = numL r by omega, bitsL_numL r]
    have : (b.toNat + 2 * numL r) % 2 = b.toNat := by omega
    rw [this]
    cases b <;> rfl

theorem numL_drop (l : List Bool) (k : Nat) (h : k ≤ l.length) : numL (l.drop k) = numL l / 2 ^ k := by
  have e := numL_append (l.take k) (l.drop k)
  rw [List.take_append_drop, List.length_take, Nat.min_eq_left h] at e
  have hl := numL_lt (l.take k)
  rw [List.length_take, Nat.min_eq_left h] at hl
  rw [e, Nat.add_mul_div_left _ _ (pow_pos' k), Nat.div_eq_of_lt hl, Nat.zero_add]

theorem numL_take (l : List Bool) (k : Nat) (h : k ≤ l.length) : numL (l.take k) = numL l % 2 ^ k := by
  have e := numL_append (l.take k) (l.drop k)
  rw [List.take_append_drop, List.length_take, Nat.min_eq_left h] at e
  have hl := numL_lt (l.take k)
  rw [List.length_take, Nat.min_eq_left h] at hl
  rw [e, Nat.add_mul_mod_self_left, Nat.mod_eq_of_lt hl]

theorem numL_take' (l : List Bool) (k : Nat) : numL (l.take k) = numL l % 2 ^ k := by
  by_cases h : k ≤ l.length
  · exact numL_take l k h
  · have h1 := numL_lt l
    have h2 : 2 ^ l.length ≤ 2 ^ k := Nat.pow_le_pow_right (by decide) (by omega)
    rw [List.take_of_length_le (by omega), Nat.mod_eq_of_lt (by omega)]
theorem numL_byte (l : List Bool) (q : Nat) (h : 8 * q ≤ l.length) : numL ((l.drop (8 * q)).take 8) = numL l / 256 ^ q % 256 := by
  rw [numL_take', numL_drop _ _ h, pow256]

theorem numL_seg (l : List Bool) (at_ n : Nat) (h : at_ + n ≤ l.length) : numL ((l.drop at_).take n) = numL l / 2 ^ at_ % 2 ^ n := by
  rw [numL_take _ _ (by rw [List.length_drop]; omega), numL_drop _ _ (by omega)]

theorem numL_zeros : ∀ n, numL (List.replicate n false) = 0
  | 0 => rfl
  | n + 1 => by rw [List.replicate_succ, numL, numL_zeros n]; rfl

/-- The bits of bytes. -/
def ofB (l : List Nat) : List Bool := l.flatMap fun b => bitsL b 8
theorem ofB_snoc (l : List Nat) (b : Nat) : ofB (l ++ [b]) = ofB l ++ bitsL b 8 := by simp [ofB]
theorem ofB_len : ∀ l : List Nat, (ofB l).length = 8 * l.length
  | [] => rfl
  | b :: r => by
    have := ofB_len r
    unfold ofB at this ⊢
    rw [List.flatMap_cons, List.length_append, this, bitsL_len, List.length_cons]
    omega
theorem numL_ofB : ∀ l : List Nat, (∀ b ∈ l, b < 256) → numL (ofB l) = numB l
  | [], _ => rfl
  | b :: r, h => by
    have h1 := numL_ofB r (fun x hx => h x (by simp [hx]))
    unfold ofB at h1 ⊢
    rw [List.flatMap_cons, numL_append, h1, numL_bitsL b 8 (h b (by simp)), bitsL_len, numB]

/-- What zeros behind do to a row's bytes: there are none to see. -/
theorem byts_align (N n k : Nat) (hk : n + k = (n + 7) / 8 * 8) : byts N ((n + k + 7) / 8) = byts N ((n + 7) / 8) := by
  congr 1; omega

theorem div_pow_zero {v n : Nat} : v / 2 ^ n = 0 ↔ v < 2 ^ n := by
  rw [Nat.div_eq_zero_iff]
  have := pow_pos' n
  omega

end Go.Proofs.Ytdcmalbbijchiaa

/- bits' small functions: counts, low, missing, fitting. -/
namespace Go.Proofs.Ytdcmalbbijchiaa
open Go.RowKit

theorem counts_yes (n : Int) (w : World) (h0 : 0 ≤ n) (h1 : n ≤ 24) : Calls Try.prog 24 #[.int .i64 n] w fun e w' => e = .returned (.bool true) ∧ w' = w := by
  go_enter Try.func24, Try.ntmps24
  go_wp2
  go_ret
  exact ⟨rfl, rfl⟩

theorem counts_no (n : Int) (w : World) (h : n < 0 ∨ 24 < n) : Calls Try.prog 24 #[.int .i64 n] w fun e w' => e = .returned (.bool false) ∧ w' = w := by
  rcases h with h | h
  · have d1 : decide (0 ≤ n) = false := by simp; omega
    go_enter Try.func24, Try.ntmps24
    go_wp2
    go_ret
    exact ⟨rfl, rfl⟩
  · by_cases h0 : 0 ≤ n
    · have d1 : decide (n ≤ 24) = false := by simp; omega
      go_enter Try.func24, Try.ntmps24
      go_wp2
      go_ret
      exact ⟨rfl, rfl⟩
    · omega

theorem pow_le24 {n : Nat} (hn : n ≤ 24) : 2 ^ n ≤ 16777216 := Nat.pow_le_pow_right (by decide) hn

theorem cast_pow (n : Nat) : ((2 : Int) ^ n) = ((2 ^ n : Nat) : Int) := by simp

theorem low_num (v n : Nat) (hv : v < 4294967296) (hn : n ≤ 24) : bits .and .u32 (v : Int) ((2 ^ n - 1) % 4294967296) = ((v % 2 ^ n : Nat) : Int) := by
  have h2 := pow_le24 hn
  have h3 := pow_pos' n
  have e : ((2 : Int) ^ n - 1) % 4294967296 = 2 ^ n - 1 := by rw [cast_pow]; omega
  rw [e, bits_mask .u32 32 (by decide) (fun m h0 h1 => by rw [IntKind.wrap_u32]; omega) n (by omega) v (by omega) (by omega)]
  simp

theorem low_any (v n : Nat) (w : World) (hv : v < 4294967296) (hn : n ≤ 24) : Calls Try.prog 25 #[.int .u32 (v : Int), .int .i64 (n : Int)] w fun e w' => e = .returned (.int .u32 ((v % 2 ^ n : Nat) : Int)) ∧ w' = w := by
  have HL := Lib.hid (low_num v n hv hn)
  go_enter Try.func25, Try.ntmps25
  go_wp2
  go_ret
  exact ⟨ret_int HL.out, rfl⟩

theorem neg_mask7 (n : Nat) : bits .and .i64 (-(n : Int)) 7 = (((8 - n % 8) % 8 : Nat) : Int) := by
  unfold bits
  simp only [BitVec.toNat_and]
  have e7 : (BitVec.ofInt IntKind.i64.bits 7).toNat = 2 ^ 3 - 1 := by decide
  rw [e7, Nat.and_two_pow_sub_one_eq_mod]
  have e8 : (BitVec.ofInt IntKind.i64.bits (-(n : Int))).toNat = ((-(n : Int)) % 18446744073709551616).toNat := by
    rw [BitVec.toNat_ofInt]; rfl
  rw [e8]
  have e9 : ((-(n : Int)) % 18446744073709551616).toNat % 2 ^ 3 = (8 - n % 8) % 8 := by
    have : (2 : Nat) ^ 3 = 8 := rfl
    rw [this]
    omega
  rw [e9]
  exact IntWalk.i64_in _ (by omega)

theorem missing_any (n : Nat) (w : World) (hn : n ≤ 9223372036854775807) : Calls Try.prog 27 #[.int .i64 (n : Int)] w fun e w' => e = .returned (.int .i64 (((8 - n % 8) % 8 : Nat) : Int)) ∧ w' = w := by
  have HL := Lib.hid (neg_mask7 n)
  go_enter Try.func27, Try.ntmps27
  go_wp2
  go_ret
  exact ⟨ret_int HL.out, rfl⟩

theorem fitting_any (n a : Nat) (w : World) (ha : a ≤ 9223372036854775807) : Calls Try.prog 52 #[.int .i64 (n : Int), .int .i64 (a : Int)] w fun e w' => e = .returned (.int .i64 ((min n (8 - a % 8) : Nat) : Int)) ∧ w' = w := by
  go_enter Try.func52, Try.ntmps52
  go_wp2
  all_goals
    go_ret
    exact ⟨ret_int (by omega), rfl⟩

end Go.Proofs.Ytdcmalbbijchiaa
