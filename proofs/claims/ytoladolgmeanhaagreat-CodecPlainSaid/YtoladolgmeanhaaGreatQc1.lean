/- Several texts in one, each with its own head. -/
import Derived.Test.YtoladolgmeanhaaGreatRows
import Derived.WalkKit
import Derived.WalkSpells
import Derived.WalkLawsBesides
import Derived.Deep.QuietTactic
import Derived.BigQuiet
import Derived.Lib.Hide
import Derived.Shelf.Abstract
import Derived.StillTail
/- Small laws on worlds that grow (Below), on calls that only make memory (Makes), and on regions that draw their order and whose calls only make memory. Nothing here speaks of one program. -/
namespace Go.Proofs.YtoladolgmeanhaaGreat
open Go.RowKit

theorem Below.drewN' {B : Nat} {a w : World} (h : Below B a w) (n : Nat) : Below B a (w.drewN n) := ⟨h.os, h.tape, h.output, h.size, h.block⟩
def Makes (P : Program) (f : FuncId) (args : Array Value) (w : World) (v : Value) : Prop :=
  Calls P f args w fun e w' => e = .returned v ∧ Below w.heap.size w w'
theorem Below.thn {a b c : World} (h : Below a.heap.size a b) (k : Below b.heap.size b c) : Below a.heap.size a c := h.trans (k.mono h.size)
theorem Below.al {a b : World} (h : Below a.heap.size a b) (o : Obj) : Below a.heap.size a (b.alloc o) := h.alloc h.size o
theorem Below.al1 (w : World) (o : Obj) : Below w.heap.size w (w.alloc o) := Below.al (Below.refl _ _) o
theorem Below.al2 (w : World) (o p : Obj) : Below w.heap.size w ((w.alloc o).alloc p) := Below.al (Below.al1 w o) p
theorem Below.al3 (w : World) (o p q : Obj) : Below w.heap.size w (((w.alloc o).alloc p).alloc q) := Below.al (Below.al2 w o p) q
theorem Below.al4 (w : World) (o p q r : Obj) : Below w.heap.size w ((((w.alloc o).alloc p).alloc q).alloc r) := Below.al (Below.al3 w o p q) r
theorem cell_at {w : World} {c : Array Value} {t : TypeId} {n i : Nat} {v : Value} (hn : n = w.heap.size) (hc : c[i]? = some v) : (w.alloc (.cells c t)).cell? ⟨n, i, none⟩ = some v := by
  rw [World.cell?_alloc_at c t n i hn]; exact hc
theorem free_later {w wx : World} {a : Addr} {v : Value} (hb : Below w.heap.size w wx) (h : w.cell? a = some v) (hf : w.frozen? a = false) : wx.frozen? a = false :=
  (hb.frozen (World.block_lt_of_cell? _ _ h)).trans hf
theorem ret_int {k : IntKind} {a b : Int} (h : a = b) : Ending.returned (.int k a) = .returned (.int k b) := by rw [h]
end Go.Proofs.YtoladolgmeanhaaGreat

/- Numbers, bytes and bits: plain facts. Nothing here speaks of one program. -/
namespace Go.Proofs.YtoladolgmeanhaaGreat

def byts : Nat → Nat → List Nat
  | _, 0 => []
  | N, m + 1 => N % 256 :: byts (N / 256) m
def numB : List Nat → Nat
  | [] => 0
  | b :: r => b + 256 * numB r
theorem pow256 (q : Nat) : 256 ^ q = 2 ^ (8 * q) := by rw [Nat.pow_mul]
theorem pow_pos' (n : Nat) : 0 < 2 ^ n := Nat.pow_pos (by decide)
theorem byts_len : ∀ (N m : Nat), (byts N m).length = m
  | _, 0 => rfl
  | N, m + 1 => by simp [byts, byts_len]
theorem byts_snoc : ∀ (N m : Nat), byts N (m + 1) = byts N m ++ [N / 256 ^ m % 256]
  | N, 0 => by simp [byts]
  | N, m + 1 => by
    rw [byts, byts_snoc (N / 256) m, byts, List.cons_append, Nat.div_div_eq_div_mul, Nat.pow_succ, Nat.mul_comm 256]
theorem byts_add : ∀ (N m M : Nat), byts (N + 256 ^ m * M) m = byts N m
  | _, 0, _ => rfl
  | N, m + 1, M => by
    have e : 256 ^ (m + 1) * M = 256 * (256 ^ m * M) := by rw [Nat.pow_succ, Nat.mul_comm (256 ^ m), Nat.mul_assoc]
    rw [byts, byts, e, Nat.add_mul_mod_self_left, Nat.add_mul_div_left _ _ (by decide), byts_add]
theorem numB_lt : ∀ (l : List Nat), (∀ b ∈ l, b < 256) → numB l < 256 ^ l.length
  | [], _ => by simp [numB]
  | b :: r, h => by
    have h1 := numB_lt r (fun x hx => h x (by simp [hx]))
    have h2 := h b (by simp)
    rw [numB, List.length_cons, Nat.pow_succ]
    omega
theorem byts_numB : ∀ (l : List Nat), (∀ b ∈ l, b < 256) → byts (numB l) l.length = l
  | [], _ => rfl
  | b :: r, h => by
    have h1 := byts_numB r (fun x hx => h x (by simp [hx]))
    have h2 := h b (by simp)
    rw [List.length_cons, byts, numB, Nat.add_mul_mod_self_left, Nat.add_mul_div_left _ _ (by decide), Nat.mod_eq_of_lt h2, Nat.div_eq_of_lt h2, Nat.zero_add, h1]
theorem byts_get (N m i : Nat) (h : i < m) : (byts N m)[i]'(by rw [byts_len]; exact h) = N / 256 ^ i % 256 := by
  induction m generalizing N i with
  | zero => omega
  | succ m ih =>
    cases i with
    | zero => simp [byts]
    | succ i =>
      simp only [byts, List.getElem_cons_succ]
      rw [ih (N / 256) i (by omega), Nat.div_div_eq_div_mul, Nat.pow_succ, Nat.mul_comm 256]
theorem numB_get (l : List Nat) (h : ∀ b ∈ l, b < 256) (i : Nat) (hi : i < l.length) : numB l / 256 ^ i % 256 = l[i] := by
  have e := byts_get (numB l) l.length i hi
  rw [← e]
  congr 1
  exact byts_numB l h
theorem byts_lay (N n p s : Nat) (hN : N < 2 ^ n) (hp : p < 2 ^ s) (hs : 0 < s) (hfit : n % 8 + s ≤ 8) :
    (n + s + 7) / 8 = n / 8 + 1 ∧ byts (N + p * 2 ^ n) (n / 8 + 1) = byts N (n / 8) ++ [N / 256 ^ (n / 8) + p * 2 ^ (n % 8)] ∧ N / 256 ^ (n / 8) < 2 ^ (n % 8) ∧ N + p * 2 ^ n < 2 ^ (n + s) ∧ N / 256 ^ (n / 8) + p * 2 ^ (n % 8) < 256 := by
  have hn : 2 ^ n = 256 ^ (n / 8) * 2 ^ (n % 8) := by rw [pow256, ← Nat.pow_add]; congr 1; omega
  have h3 : N / 256 ^ (n / 8) < 2 ^ (n % 8) := Nat.div_lt_of_lt_mul (by rw [← hn]; exact hN)
  have h5 : N / 256 ^ (n / 8) + p * 2 ^ (n % 8) < 256 := by
    have h6 : 2 ^ (n % 8) * 2 ^ s ≤ 2 ^ 8 := by rw [← Nat.pow_add]; exact Nat.pow_le_pow_right (by decide) hfit
    have h7 : p * 2 ^ (n % 8) + 2 ^ (n % 8) ≤ 2 ^ (n % 8) * 2 ^ s := by
      have : (p + 1) * 2 ^ (n % 8) ≤ 2 ^ s * 2 ^ (n % 8) := Nat.mul_le_mul_right _ hp
      rw [Nat.mul_comm (2 ^ (n % 8)) (2 ^ s)]
      rw [Nat.add_mul] at this
      omega
    have : (2 : Nat) ^ 8 = 256 := rfl
    omega
  refine ⟨by omega, ?_, h3, ?_, h5⟩
  · have e : N + p * 2 ^ n = N + 256 ^ (n / 8) * (p * 2 ^ (n % 8)) := by rw [hn, Nat.mul_left_comm]
    rw [byts_snoc, e, byts_add, Nat.add_mul_div_left _ _ (Nat.pow_pos (by decide)), Nat.mod_eq_of_lt h5]
  · have : (p + 1) * 2 ^ n ≤ 2 ^ s * 2 ^ n := Nat.mul_le_mul_right _ hp
    rw [Nat.pow_add, Nat.mul_comm (2 ^ n)]
    rw [Nat.add_mul] at this
    omega
theorem piece_num (l : List Nat) (h : ∀ b ∈ l, b < 256) (at_ s : Nat) (hfit : at_ % 8 + s ≤ 8) (hi : at_ / 8 < l.length) :
    l[at_ / 8] / 2 ^ (at_ % 8) % 2 ^ s = numB l / 2 ^ at_ % 2 ^ s := by
  have e := numB_get l h (at_ / 8) hi
  rw [← e, pow256]
  generalize numB l = X
  have h1 : X / 2 ^ at_ = X / 2 ^ (8 * (at_ / 8)) / 2 ^ (at_ % 8) := by
    rw [Nat.div_div_eq_div_mul, ← Nat.pow_add]; congr 2; omega
  rw [h1]
  generalize X / 2 ^ (8 * (at_ / 8)) = Y
  have h2 : (256 : Nat) = 2 ^ (at_ % 8) * 2 ^ (8 - at_ % 8) := by rw [← Nat.pow_add, show at_ % 8 + (8 - at_ % 8) = 8 by omega]
  rw [h2, Nat.mod_mul_right_div_self]
  have h3 : 2 ^ s ∣ 2 ^ (8 - at_ % 8) := Nat.pow_dvd_pow 2 (by omega)
  exact Nat.mod_mod_of_dvd _ h3
theorem mod_pow_add (x a b : Nat) : x % 2 ^ (a + b) = x % 2 ^ a + x / 2 ^ a % 2 ^ b * 2 ^ a := by
  rw [Nat.pow_add, Nat.mod_mul, Nat.mul_comm (2 ^ a) (x / 2 ^ a % 2 ^ b)]
end Go.Proofs.YtoladolgmeanhaaGreat

/- rle, plainly: pixels as runs, runs as pixels and as bytes. Nothing here speaks of a program. -/
namespace Go.Proofs.YtoladolgmeanhaaGreat

def rlw (x : Nat) : Nat := x % 16777216
theorem rlw_lt (x : Nat) : rlw x < 16777216 := Nat.mod_lt _ (by decide)
theorem rlw_rlw (x : Nat) : rlw (rlw x) = rlw x := Nat.mod_mod _ _
def rgo : Nat → Nat → List Nat → List (Nat × Nat)
  | n, c, [] => [(n, c)]
  | n, c, x :: r => if rlw x = c ∧ n < 256 then rgo (n + 1) c r else (n, c) :: rgo 1 (rlw x) r
def rlO : List Nat → List (Nat × Nat)
  | [] => []
  | x :: r => rgo 1 (rlw x) r
theorem rgo_stop {n c : Nat} {r : List Nat} (h : n = 256 ∨ r = [] ∨ ∃ x r', r = x :: r' ∧ rlw x ≠ c) : rgo n c r = (n, c) :: rlO r := by
  cases r with
  | nil => rfl
  | cons x r' =>
    show (if rlw x = c ∧ n < 256 then _ else _) = _
    rw [if_neg]
    · rfl
    · rintro ⟨h1, h2⟩
      rcases h with h | h | ⟨y, r'', e, h⟩
      · omega
      · cases h
      · cases e; exact h h1
theorem rgo_more {n c x : Nat} {r : List Nat} (h : rlw x = c) (hn : n < 256) : rgo n c (x :: r) = rgo (n + 1) c r := if_pos ⟨h, hn⟩
theorem rgo_run {c : Nat} : ∀ (j n : Nat) (r : List Nat), n + j ≤ 256 → j ≤ r.length → (∀ i, i < j → rlw (r.getD i 0) = c) → (n + j = 256 ∨ j = r.length ∨ rlw (r.getD j 0) ≠ c) → rgo n c r = (n + j, c) :: rlO (r.drop j)
  | 0, n, r, _, _, _, h => by
    rw [List.drop_zero]
    refine rgo_stop ?_
    rcases h with h | h | h
    · exact .inl h
    · exact .inr (.inl (List.length_eq_zero_iff.1 h.symm))
    · cases r with
      | nil => exact .inr (.inl rfl)
      | cons x r => exact .inr (.inr ⟨x, r, rfl, h⟩)
  | j + 1, n, [], _, hl, _, _ => by simp at hl
  | j + 1, n, x :: r, hn, hl, ha, h => by
    have h0 : rlw x = c := ha 0 (by omega)
    rw [rgo_more h0 (by omega), rgo_run j (n + 1) r (by omega) (by simpa using hl) (fun i hi => ha (i + 1) (by omega)) (by
      rcases h with h | h | h
      · exact .inl (by omega)
      · exact .inr (.inl (by simpa using h))
      · exact .inr (.inr h)), List.drop_succ_cons]
    congr 2
    omega
theorem rl_run {l : List Nat} {k : Nat} (hk : 1 ≤ k) (h256 : k ≤ 256) (hl : k ≤ l.length) (ha : ∀ i, i < k → rlw (l.getD i 0) = rlw (l.getD 0 0)) (h : k = 256 ∨ k = l.length ∨ rlw (l.getD k 0) ≠ rlw (l.getD 0 0)) : rlO l = (k, rlw (l.getD 0 0)) :: rlO (l.drop k) := by
  cases l with
  | nil => simp at hl; omega
  | cons x r =>
    obtain ⟨j, rfl⟩ : ∃ j, k = j + 1 := ⟨k - 1, by omega⟩
    show rgo 1 (rlw x) r = _
    rw [rgo_run (c := rlw x) j 1 r (by omega) (by simpa using hl) (fun i hi => ha (i + 1) (by omega)) (by
      rcases h with h | h | h
      · exact .inl (by omega)
      · exact .inr (.inl (by simpa using h))
      · exact .inr (.inr h)), Nat.add_comm 1 j]
    rfl
def rlay (rs : List (Nat × Nat)) : List Nat := rs.flatMap fun r => List.replicate r.1 r.2
theorem rlay_cons (r : Nat × Nat) (rs : List (Nat × Nat)) : rlay (r :: rs) = List.replicate r.1 r.2 ++ rlay rs := rfl
theorem rlay_app (a b : List (Nat × Nat)) : rlay (a ++ b) = rlay a ++ rlay b := List.flatMap_append
def RlOk (r : Nat × Nat) : Prop := 1 ≤ r.1 ∧ r.1 ≤ 256 ∧ r.2 < 16777216
theorem rgo_ok : ∀ (r : List Nat) (n c : Nat), 1 ≤ n → n ≤ 256 → c < 16777216 → ∀ x ∈ rgo n c r, RlOk x
  | [], n, c, h1, h2, h3, x, hx => by
    simp [rgo] at hx; subst hx; exact ⟨h1, h2, h3⟩
  | y :: r, n, c, h1, h2, h3, x, hx => by
    unfold rgo at hx
    split at hx
    · rename_i h
      exact rgo_ok r (n + 1) c (by omega) (by omega) h3 x hx
    · rcases List.mem_cons.1 hx with rfl | hx
      · exact ⟨h1, h2, h3⟩
      · exact rgo_ok r 1 (rlw y) (by omega) (by omega) (rlw_lt y) x hx
theorem rl_ok (l : List Nat) : ∀ x ∈ rlO l, RlOk x := by
  cases l with
  | nil => intro x hx; cases hx
  | cons y r => exact rgo_ok r 1 (rlw y) (by omega) (by omega) (rlw_lt y)
theorem rgo_len : ∀ (r : List Nat) (n c : Nat), (rgo n c r).length ≤ r.length + 1
  | [], n, c => by simp [rgo]
  | x :: r, n, c => by
    unfold rgo
    split
    · have := rgo_len r (n + 1) c; simp; omega
    · have := rgo_len r 1 (rlw x); simp; omega
theorem rl_len (l : List Nat) : (rlO l).length ≤ l.length := by
  cases l with
  | nil => simp [rlO]
  | cons x r => exact rgo_len r 1 (rlw x)
/- Two rows are no more runs than both. -/
def rlB (r : Nat × Nat) : List Nat := [r.1 - 1, r.2 / 65536, r.2 / 256 % 256, r.2 % 256]
def rlBs (rs : List (Nat × Nat)) : List Nat := rs.flatMap rlB
theorem rlBs_len : ∀ rs : List (Nat × Nat), (rlBs rs).length = 4 * rs.length
  | [] => rfl
  | r :: rs => by show (rlB r ++ rlBs rs).length = _; rw [List.length_append, rlBs_len rs]; simp [rlB]; omega
def rlT : List Nat → List (Nat × Nat)
  | a :: b :: c :: d :: r => (a + 1, b * 65536 + c * 256 + d) :: rlT r
  | _ => []
theorem rlT_ok : ∀ b : List Nat, (∀ x ∈ b, x < 256) → ∀ r ∈ rlT b, RlOk r
  | [], _, r, hr => by simp [rlT] at hr
  | [_], _, r, hr => by simp [rlT] at hr
  | [_, _], _, r, hr => by simp [rlT] at hr
  | [_, _, _], _, r, hr => by simp [rlT] at hr
  | x :: y :: z :: u :: t, h, r, hr => by
    rcases List.mem_cons.1 (show r ∈ (x + 1, y * 65536 + z * 256 + u) :: rlT t from hr) with rfl | hr
    · have h1 := h x (by simp); have h2 := h y (by simp); have h3 := h z (by simp); have h4 := h u (by simp)
      exact ⟨by show 1 ≤ x + 1; omega, by show x + 1 ≤ 256; omega, by show y * 65536 + z * 256 + u < _; omega⟩
    · exact rlT_ok t (fun q hq => h q (by simp [hq])) r hr
def rlD (b : List Nat) (n : Int) : List Nat × Int :=
  if n < 0 ∨ 65536 < n then ([], 1) else if b.length % 4 ≠ 0 then ([], 131) else if ((rlay (rlT b)).length : Int) = n then (rlay (rlT b), 0) else ([], 131)
theorem rlD_arg {b : List Nat} {n : Int} (h : n < 0 ∨ 65536 < n) : rlD b n = ([], 1) := if_pos h
theorem rlD_odd {b : List Nat} {n : Int} (h : ¬ (n < 0 ∨ 65536 < n)) (h4 : b.length % 4 ≠ 0) : rlD b n = ([], 131) := by unfold rlD; rw [if_neg h, if_pos h4]
theorem rlD_no {b : List Nat} {n : Int} (h : ¬ (n < 0 ∨ 65536 < n)) (hl : ((rlay (rlT b)).length : Int) ≠ n) : rlD b n = ([], 131) := by
  unfold rlD; rw [if_neg h, if_neg hl]; split <;> rfl
theorem rlD_yes {b : List Nat} {n : Int} (h : ¬ (n < 0 ∨ 65536 < n)) (h4 : b.length % 4 = 0) (hl : ((rlay (rlT b)).length : Int) = n) : rlD b n = (rlay (rlT b), 0) := by
  unfold rlD; rw [if_neg h, if_neg (by omega), if_pos hl]
end Go.Proofs.YtoladolgmeanhaaGreat

/- palette, plainly: the colours of pixels, their numbers, and the bytes of both. Nothing here speaks of a program. -/
namespace Go.Proofs.YtoladolgmeanhaaGreat

def plS (acc : List Nat) (c : Nat) : List Nat := if c ∈ acc then acc else acc ++ [c]
def plC : List Nat → List Nat → List Nat
  | acc, [] => acc
  | acc, x :: r => plC (plS acc (rlw x)) r
def plCol (l : List Nat) : List Nat := plC [] l
theorem plS_old {acc : List Nat} {c : Nat} (h : c ∈ acc) : plS acc c = acc := if_pos h
theorem plS_new {acc : List Nat} {c : Nat} (h : c ∉ acc) : plS acc c = acc ++ [c] := if_neg h
theorem plS_mem {acc : List Nat} {c x : Nat} : x ∈ plS acc c ↔ x ∈ acc ∨ x = c := by
  unfold plS; split
  · rename_i h
    exact ⟨.inl, fun h' => h'.elim id (fun e => by rw [e]; exact h)⟩
  · simp
theorem plC_app : ∀ (a b acc : List Nat), plC acc (a ++ b) = plC (plC acc a) b
  | [], _, _ => rfl
  | x :: a, b, acc => plC_app a b (plS acc (rlw x))
theorem plC_mem : ∀ (l acc : List Nat) (c : Nat), c ∈ plC acc l ↔ c ∈ acc ∨ ∃ x ∈ l, rlw x = c
  | [], acc, c => by simp [plC]
  | x :: r, acc, c => by
    show c ∈ plC (plS acc (rlw x)) r ↔ _
    rw [plC_mem r, plS_mem]
    constructor
    · rintro ((h | h) | ⟨y, hy, e⟩)
      · exact .inl h
      · exact .inr ⟨x, by simp, h.symm⟩
      · exact .inr ⟨y, by simp [hy], e⟩
    · rintro (h | ⟨y, hy, e⟩)
      · exact .inl (.inl h)
      · rcases List.mem_cons.1 hy with rfl | hy
        · exact .inl (.inr e.symm)
        · exact .inr ⟨y, hy, e⟩
theorem plC_len : ∀ (l acc : List Nat), acc.length ≤ (plC acc l).length ∧ (plC acc l).length ≤ acc.length + l.length
  | [], acc => by simp [plC]
  | x :: r, acc => by
    have := plC_len r (plS acc (rlw x))
    have h2 : acc.length ≤ (plS acc (rlw x)).length ∧ (plS acc (rlw x)).length ≤ acc.length + 1 := by
      unfold plS; split <;> simp
    show acc.length ≤ (plC (plS acc (rlw x)) r).length ∧ (plC (plS acc (rlw x)) r).length ≤ _
    rw [List.length_cons]; omega
theorem plCol_lt (l : List Nat) : ∀ c ∈ plCol l, c < 16777216 := by
  intro c hc
  rcases (plC_mem l [] c).1 hc with h | ⟨x, _, rfl⟩
  · cases h
  · exact rlw_lt x
theorem plCol_nil {l : List Nat} : (plCol l).length = 0 ↔ l = [] := by
  constructor
  · intro h
    cases l with
    | nil => rfl
    | cons x r =>
      have : rlw x ∈ plCol (x :: r) := (plC_mem _ _ _).2 (.inr ⟨x, by simp, rfl⟩)
      rw [List.length_eq_zero_iff.1 h] at this
      cases this
  · rintro rfl; rfl
theorem plC_take {l : List Nat} {i : Nat} (h : i < l.length) (acc : List Nat) : plC acc (l.take (i + 1)) = plS (plC acc (l.take i)) (rlw (l.getD i 0)) := by
  rw [List.take_succ_eq_append_getElem h, plC_app, List.getD_eq_getElem?_getD, List.getElem?_eq_getElem h]
  rfl
theorem plC_long {l : List Nat} {i : Nat} (acc : List Nat) : (plC acc (l.take i)).length ≤ (plC acc l).length := by
  have e := plC_app (l.take i) (l.drop i) acc
  rw [List.take_append_drop] at e
  rw [e]
  exact (plC_len _ _).1
def plI (c : Nat) : List Nat → Nat
  | [] => 0
  | x :: r => if x = c then 0 else plI c r + 1
theorem plI_lt {c : Nat} : ∀ {l : List Nat}, plI c l < l.length ↔ c ∈ l
  | [] => by simp [plI]
  | x :: r => by
    unfold plI
    split
    · rename_i h; simp [h]
    · rename_i h
      have := plI_lt (c := c) (l := r)
      rw [List.length_cons, List.mem_cons, Nat.add_lt_add_iff_right, this]
      exact ⟨.inr, fun h' => h'.elim (fun e => absurd e.symm h) id⟩
theorem plI_app {c : Nat} {t : List Nat} : ∀ {l : List Nat}, c ∈ l → plI c (l ++ t) = plI c l
  | [], h => by cases h
  | x :: r, h => by
    show (if x = c then 0 else plI c (r ++ t) + 1) = if x = c then 0 else plI c r + 1
    split
    · rfl
    · rename_i e
      rw [plI_app ((List.mem_cons.1 h).resolve_left fun e' => e e'.symm)]
theorem plI_first {c : Nat} : ∀ {l : List Nat} {i : Nat}, i ≤ l.length → (∀ j, j < i → l.getD j 0 ≠ c) → (i = l.length ∨ l.getD i 0 = c) → plI c l = i
  | [], i, h, _, _ => by simp at h; subst h; rfl
  | x :: r, 0, _, _, h2 => by
    rcases h2 with h2 | h2
    · simp at h2
    · unfold plI; rw [if_pos (by simpa using h2)]
  | x :: r, i + 1, h, h1, h2 => by
    unfold plI
    rw [if_neg (by simpa using h1 0 (by omega)), plI_first (by simpa using h) (fun j hj => by simpa using h1 (j + 1) (by omega)) (by simpa using h2)]
def plZ (k : Nat) : Nat := if k ≤ 1 then 0 else if k ≤ 2 then 1 else if k ≤ 4 then 2 else 4
theorem plZ_le (k : Nat) : plZ k ≤ 4 := by unfold plZ; split <;> (try split) <;> (try split) <;> omega
theorem plZ_pow {k : Nat} (h : k ≤ 16) : k ≤ 2 ^ plZ k := by
  unfold plZ; split
  · simpa using by assumption
  · split
    · simpa using by assumption
    · split
      · simpa using by assumption
      · simpa using h
def plN (s : Nat) : List Nat → Nat
  | [] => 0
  | v :: r => v + 2 ^ s * plN s r
theorem plN_snoc (s v : Nat) : ∀ l : List Nat, plN s (l ++ [v]) = plN s l + v * 2 ^ (s * l.length)
  | [] => by simp [plN]
  | x :: r => by
    show x + 2 ^ s * plN s (r ++ [v]) = x + 2 ^ s * plN s r + v * 2 ^ (s * (r.length + 1))
    rw [plN_snoc s v r, Nat.mul_add, Nat.mul_add s, Nat.mul_one, Nat.pow_add, Nat.add_assoc]
    congr 2
    rw [← Nat.mul_assoc, Nat.mul_comm (2 ^ s) v, Nat.mul_assoc, Nat.mul_comm (2 ^ s)]
def plB (c : Nat) : List Nat := [c / 65536, c / 256 % 256, c % 256]
def plH (cs : List Nat) : List Nat := (cs.length - 1) :: cs.flatMap plB
def plV (cs l : List Nat) : List Nat := l.map fun x => plI (rlw x) cs
def plT (cs l : List Nat) : List Nat := byts (plN (plZ cs.length) (plV cs l)) ((plZ cs.length * l.length + 7) / 8)
theorem plH_len (cs : List Nat) : (plH cs).length = 1 + 3 * cs.length := by
  have : (cs.flatMap plB).length = 3 * cs.length := by
    induction cs with
    | nil => rfl
    | cons c r ih => rw [List.flatMap_cons, List.length_append, ih]; simp [plB]; omega
  unfold plH; rw [List.length_cons, this]; omega
theorem plT_len (cs l : List Nat) : (plT cs l).length = (plZ cs.length * l.length + 7) / 8 := byts_len _ _
theorem plV_len (cs l : List Nat) : (plV cs l).length = l.length := List.length_map _
def plE (l : List Nat) : List Nat × Bool := if (plCol l).length < 1 ∨ 16 < (plCol l).length then ([], false) else (plH (plCol l) ++ plT (plCol l) l, true)
theorem plE_no {l : List Nat} (h : (plCol l).length < 1 ∨ 16 < (plCol l).length) : plE l = ([], false) := if_pos h
theorem plE_yes {l : List Nat} (h : ¬ ((plCol l).length < 1 ∨ 16 < (plCol l).length)) : plE l = (plH (plCol l) ++ plT (plCol l) l, true) := if_neg h
theorem plE_len {l : List Nat} (h : l.length ≤ 1048576) : (plE l).1.length ≤ 1048576 := by
  unfold plE
  split
  · simp
  · rw [List.length_append, plH_len, plT_len]
    have := plZ_le (plCol l).length
    have h2 : plZ (plCol l).length * l.length ≤ 4 * 1048576 := Nat.mul_le_mul this h
    omega
def plTri : List Nat → List Nat
  | a :: b :: c :: r => (a * 65536 + b * 256 + c) :: plTri r
  | _ => []
def plG (b : List Nat) (s n : Nat) : List Nat := (List.range n).map fun i => numB b / 2 ^ (s * i) % 2 ^ s
def plPx (cs b : List Nat) (n : Nat) : Option (List Nat) :=
  if b.length ≠ (n * plZ cs.length + 7) / 8 then none else if ∃ v ∈ plG b (plZ cs.length) n, cs.length ≤ v then none else if numB b / 2 ^ (n * plZ cs.length) ≠ 0 then none else some ((plG b (plZ cs.length) n).map fun v => cs.getD v 0)
def plD (b : List Nat) (n : Int) : List Nat × Int :=
  if n < 1 ∨ 65536 < n then ([], 1)
  else if b.length = 0 ∨ 16 ≤ b.getD 0 0 ∨ b.length < 1 + 3 * (b.getD 0 0 + 1) then ([], 131)
  else match plPx (plTri ((b.drop 1).take (3 * (b.getD 0 0 + 1)))) (b.drop (1 + 3 * (b.getD 0 0 + 1))) n.toNat with
    | none => ([], 131)
    | some l => (l, 0)
theorem plD_arg {b : List Nat} {n : Int} (h : n < 1 ∨ 65536 < n) : plD b n = ([], 1) := if_pos h
theorem plD_head {b : List Nat} {n : Int} (h : ¬ (n < 1 ∨ 65536 < n)) (h2 : b.length = 0 ∨ 16 ≤ b.getD 0 0 ∨ b.length < 1 + 3 * (b.getD 0 0 + 1)) : plD b n = ([], 131) := by unfold plD; rw [if_neg h, if_pos h2]
theorem plD_of {b : List Nat} {n : Int} (h : ¬ (n < 1 ∨ 65536 < n)) (h2 : ¬ (b.length = 0 ∨ 16 ≤ b.getD 0 0 ∨ b.length < 1 + 3 * (b.getD 0 0 + 1))) : plD b n = match plPx (plTri ((b.drop 1).take (3 * (b.getD 0 0 + 1)))) (b.drop (1 + 3 * (b.getD 0 0 + 1))) n.toNat with | none => ([], 131) | some l => (l, 0) := by unfold plD; rw [if_neg h, if_neg h2]
theorem plG_len (b : List Nat) (s n : Nat) : (plG b s n).length = n := by simp [plG]
theorem plG_at (b : List Nat) (s n i : Nat) (h : i < (plG b s n).length) : (plG b s n)[i] = numB b / 2 ^ (s * i) % 2 ^ s := by simp [plG]
theorem plTri_len : ∀ (k : Nat) (b : List Nat), b.length = 3 * k → (plTri b).length = k
  | 0, b, h => by rw [List.length_eq_zero_iff.1 (by omega : b.length = 0)]; rfl
  | k + 1, [], h => by simp at h
  | k + 1, [_], h => by simp at h; omega
  | k + 1, [_, _], h => by simp at h; omega
  | k + 1, _ :: _ :: _ :: r, h => by
    show (plTri r).length + 1 = k + 1
    rw [plTri_len k r (by simp at h; omega)]
end Go.Proofs.YtoladolgmeanhaaGreat

/- codec, plainly: plain bytes, the shortest of four. -/
namespace Go.Proofs.YtoladolgmeanhaaGreat

def cdP (l : List Nat) : List Nat := (l.map rlw).flatMap plB
theorem cdP_cons (x : Nat) (l : List Nat) : cdP (x :: l) = plB (rlw x) ++ cdP l := rfl
theorem cdP_app (a b : List Nat) : cdP (a ++ b) = cdP a ++ cdP b := by unfold cdP; rw [List.map_append, List.flatMap_append]
theorem cdP_len : ∀ l : List Nat, (cdP l).length = 3 * l.length
  | [] => rfl
  | x :: l => by rw [cdP_cons, List.length_append, cdP_len l]; simp [plB]; omega
theorem plB_256 {c : Nat} (h : c < 16777216) : ∀ x ∈ plB c, x < 256 := by
  intro x hx
  simp only [plB, List.mem_cons, List.not_mem_nil, or_false] at hx
  rcases hx with rfl | rfl | rfl <;> omega
theorem cdP_256 (l : List Nat) : ∀ x ∈ cdP l, x < 256 := by
  intro x hx
  obtain ⟨c, hc, hx⟩ := List.mem_flatMap.1 hx
  obtain ⟨y, -, rfl⟩ := List.mem_map.1 hc
  exact plB_256 (rlw_lt y) x hx
theorem cdP_map (l : List Nat) : cdP (l.map rlw) = cdP l := by
  unfold cdP
  rw [List.map_map]
  congr 1
  exact List.map_congr_left fun x _ => rlw_rlw x
def cdS (acc : Nat × List Nat) (k : Nat) (b : List Nat) (is : Bool) : Nat × List Nat := if is = true ∧ (acc.1 = 0 ∨ b.length < acc.2.length) then (k, b) else acc
theorem cdS_yes {acc : Nat × List Nat} {k : Nat} {b : List Nat} {is : Bool} (h : is = true ∧ (acc.1 = 0 ∨ b.length < acc.2.length)) : cdS acc k b is = (k, b) := if_pos h
theorem cdS_no {acc : Nat × List Nat} {k : Nat} {b : List Nat} {is : Bool} (h : ¬ (is = true ∧ (acc.1 = 0 ∨ b.length < acc.2.length))) : cdS acc k b is = acc := if_neg h
def cdW (l S : List Nat) : Nat → List Nat × Bool
  | 0 => (cdP l, true)
  | 1 => (rlBs (rlO l), true)
  | 2 => plE l
  | _ => (S, true)
def cdG (l S : List Nat) : Nat → Nat × List Nat
  | 0 => (0, [])
  | i + 1 => cdS (cdG l S i) (i + 1) (cdW l S i).1 (cdW l S i).2
def cdE (l S : List Nat) : Nat × List Nat := cdG l S 4
theorem cdG_one (l S : List Nat) : cdG l S 1 = (1, cdP l) := rfl
theorem cdG_kind (l S : List Nat) : ∀ i, (cdG l S (i + 1)).1 ≠ 0 ∧ (cdG l S (i + 1)).1 ≤ i + 1
  | 0 => by rw [cdG_one]; simp
  | i + 1 => by
    have ih := cdG_kind l S i
    show (cdS _ _ _ _).1 ≠ 0 ∧ (cdS _ _ _ _).1 ≤ _
    by_cases h : (cdW l S (i + 1)).2 = true ∧ ((cdG l S (i + 1)).1 = 0 ∨ (cdW l S (i + 1)).1.length < (cdG l S (i + 1)).2.length)
    · rw [cdS_yes h]; simp
    · rw [cdS_no h]; omega
end Go.Proofs.YtoladolgmeanhaaGreat

/- Regions that draw their order and whose calls only make memory: one walk in the order of the text. Nothing here speaks of one program. -/
namespace Go.Proofs.YtoladolgmeanhaaGreat
open Go.RowKit

structure After (w : World) where
  world : World
  below : Below w.heap.size w world
theorem After.ne (w : World) : Nonempty (After w) := ⟨⟨w, Below.refl _ _⟩⟩
theorem After.rule {W : World} {a : Addr} {v : Value} (h : W.cell? a = some v) : ∀ n : After W, n.world.cell? a = some v := fun n => cell_later n.below h
end Go.Proofs.YtoladolgmeanhaaGreat

/- Regions that draw their order, whose head only reads and calls what keeps all that there is, and makes new blocks, and whose tail stores: one walk of the head in the order of the text serves every order. Nothing here speaks of one program. -/
namespace Go.Proofs.YtoladolgmeanhaaGreat
open Go.RowKit

section
variable {P : Program} {ops : Array Oper} {W : World} {md : Region.Mode}

def mkUpon (P : Program) (w : World) (v : Value) : Result Next → Prop
  | .ok (.value u) w' => w' = w ∧ u = v
  | .ok .skip w' => w' = w ∧ v = undef
  | .ok (.enter f args) w' => w' = w ∧ Calls P f args w (fun e w'' => e = .returned v ∧ Below w.heap.size w w'')
  | _ => False
attribute [go_sem] mkUpon

def Yields (P : Program) (ops : Array Oper) (W : World) (o : Oper) (v : Value) (a : Act) : Prop :=
  (Region.wanted o (yielded ops a.tmps) = true ∧ ∀ n : After W, mkUpon P n.world v ((execOp a.eval o).run P n.world)) ∨ (Region.wanted o (yielded ops a.tmps) = false ∧ v = undef)
theorem Yields.of_same {o : Oper} {v : Value} {a a' : Act} (hy : Yields P ops W o v a) (he : execOp a'.eval o = execOp a.eval o)
    (hw : Region.wanted o (yielded ops a'.tmps) = Region.wanted o (yielded ops a.tmps)) : Yields P ops W o v a' := by
  unfold Yields at *
  rw [he, hw]
  exact hy
def Lq (P : Program) (ops : Array Oper) (W : World) (E : Act → Prop) : List Oper → Act → Prop
  | [], a => E a
  | o :: rest, a => ∃ v, Yields P ops W o v a ∧ Lq P ops W E rest (a.put o.dst v)
theorem Lq_nil {E : Act → Prop} {a : Act} (h : E a) : Lq P ops W E [] a := h
theorem Lq_step {E : Act → Prop} {a : Act} {o : Oper} {rest : List Oper}
    (h : ∀ K : Act → Prop, (∀ a, Lq P ops W E rest a → K a) → if Region.wanted o (yielded ops a.tmps) then ∃ v, (∀ n : After W, mkUpon P n.world v ((execOp a.eval o).run P n.world)) ∧ K (a.put o.dst v) else K (a.put o.dst undef)) : Lq P ops W E (o :: rest) a := by
  have h1 := h _ (fun _ h => h)
  by_cases hw : Region.wanted o (yielded ops a.tmps) = true
  · rw [if_pos hw] at h1
    obtain ⟨v, h2, h3⟩ := h1
    exact ⟨v, Or.inl ⟨hw, h2⟩, h3⟩
  · rw [if_neg hw] at h1
    exact ⟨undef, Or.inr ⟨by simpa using hw, rfl⟩, h1⟩
theorem Lq.mono {E E' : Act → Prop} (hE : ∀ a, E a → E' a) : ∀ (l : List Oper) (a : Act), Lq P ops W E l a → Lq P ops W E' l a
  | [], a, h => hE a h
  | _ :: l, _, ⟨v, hy, h⟩ => ⟨v, hy, Lq.mono hE l _ h⟩
theorem Lq.pick {E : Act → Prop} (j : Oper) (post : List Oper) (hj : ∀ cs b, j.op ≠ .select cs b) : ∀ (pre : List Oper) (a : Act), (∀ p ∈ pre, p.apart ops j = true ∧ ∀ cs b, p.op ≠ .select cs b) → Lq P ops W E (pre ++ j :: post) a →
    ∃ v, Yields P ops W j v a ∧ Lq P ops W E (pre ++ post) (a.put j.dst v)
  | [], _, _, h => h
  | i :: pre, a, hap, h => by
    obtain ⟨vi, hyi, h'⟩ := h
    obtain ⟨v, hy, hL⟩ := Lq.pick j post hj pre (a.put i.dst vi) (fun p hp => hap p (by simp [hp])) h'
    obtain ⟨hi, hsi⟩ := hap i (by simp)
    obtain ⟨h1, h2, h3⟩ := Oper.apart_spec hi
    refine ⟨v, hy.of_same (execOp_put j hj a i.dst vi h1).symm (wanted_put j a i.dst vi h1).symm, vi, hyi.of_same (execOp_put i hsi a j.dst v h3) (wanted_put i a j.dst v h3), ?_⟩
    rw [← Act.put_comm a vi v h2]
    exact hL
theorem Lq.put {E E' : Act → Prop} (j : Oper) (x : Value) (hE : ∀ a, E a → E' (a.put j.dst x)) : ∀ (l : List Oper) (a : Act), (∀ p ∈ l, p.apart ops j = true ∧ ∀ cs b, p.op ≠ .select cs b) → Lq P ops W E l a → Lq P ops W E' l (a.put j.dst x)
  | [], a, _, h => hE a h
  | i :: l, a, hap, h => by
    obtain ⟨vi, hyi, h'⟩ := h
    obtain ⟨hi, hsi⟩ := hap i (by simp)
    obtain ⟨h1, h2, h3⟩ := Oper.apart_spec hi
    refine ⟨vi, hyi.of_same (execOp_put i hsi a j.dst x h3) (wanted_put i a j.dst x h3), ?_⟩
    rw [← Act.put_comm a vi x h2]
    exact Lq.put j x hE l (a.put i.dst vi) (fun p hp => hap p (by simp [hp])) h'
def updB (β : Nat → Nat) (i B : Nat) : Nat → Nat := fun k => if k = i then B else β k
theorem updB_same (β : Nat → Nat) (i B : Nat) : updB β i B i = B := by simp [updB]
theorem updB_ne (β : Nat → Nat) {i k : Nat} (B : Nat) (h : k ≠ i) : updB β i B k = β k := by simp [updB, h]
theorem updB_comm (β : Nat → Nat) {i j : Nat} (h : i ≠ j) (B C : Nat) : updB (updB β i B) j C = updB (updB β j C) i B := by
  funext k
  by_cases h1 : k = i
  · subst h1
    rw [updB_ne _ _ h, updB_same, updB_same]
  · by_cases h2 : k = j
    · subst h2
      rw [updB_same, updB_ne _ _ h1, updB_same]
    · rw [updB_ne _ _ h2, updB_ne _ _ h1, updB_ne _ _ h1, updB_ne _ _ h2]
def La (W : World) (F : (Nat → Nat) → Act → Prop) : List (Nat × Oper) → (Nat → Nat) → Act → Prop
  | [], β, a => F β a
  | o :: rest, β, a => ∀ B, W.heap.size ≤ B → La W F rest (updB β o.1 B) (a.put o.2.dst (.pointer (some ⟨B, 0, none⟩)))
theorem La.pick {F : (Nat → Nat) → Act → Prop} (j : Nat × Oper) (post : List (Nat × Oper)) : ∀ (pre : List (Nat × Oper)) (β : Nat → Nat) (a : Act), (∀ p ∈ pre, p.1 ≠ j.1 ∧ ∀ d, p.2.dst = some d → j.2.dst ≠ some d) → La W F (pre ++ j :: post) β a →
    ∀ B, W.heap.size ≤ B → La W F (pre ++ post) (updB β j.1 B) (a.put j.2.dst (.pointer (some ⟨B, 0, none⟩)))
  | [], _, _, _, h => h
  | i :: pre, β, a, hap, h => fun B hB Bi hBi => by
    have h2 := La.pick j post pre (updB β i.1 Bi) (a.put i.2.dst (.pointer (some ⟨Bi, 0, none⟩))) (fun p hp => hap p (by simp [hp])) (h Bi hBi) B hB
    have hi := hap i (by simp)
    rw [updB_comm _ hi.1, Act.put_comm a _ _ hi.2] at h2
    exact h2
theorem not_waits {i j : Nat} {listed : Array Bool} (hj : j ∈ Region.ready md ops listed) (hi : listed.getD i true = false) : Region.waitsFor md ops j i = false := by
  cases h : Region.waitsFor md ops j i
  · rfl
  · obtain ⟨oj, hoj, e, he, hb, hon⟩ := Region.waitsFor_spec h
    obtain ⟨_, o, ho, hall⟩ := mem_ready.1 hj
    have : oj = o := Option.some.inj (hoj.symm.trans ho)
    subst this
    have h2 := hall e he hb
    rw [hon, getD_both hi] at h2
    cases h2
theorem split_at {α : Type} {x : α} {l : List α} (h : x ∈ l) : ∃ pre post, l = pre ++ x :: post := List.append_of_mem h
end
end Go.Proofs.YtoladolgmeanhaaGreat
