/- Several texts in one, each with its own head. -/
import Derived.Test.YtoladolgmeanhaaGreatQc46
import Derived.WalkKit
import Derived.Lib.Hide
import Derived.Laws.BitsLemmas
namespace Go.Proofs.YtoladolgmeanhaaGreat
def bitsL : Nat → Nat → List Bool
  | _, 0 => []
  | v, n + 1 => decide (v % 2 = 1) :: bitsL (v / 2) n
def numL : List Bool → Nat
  | [] => 0
  | b :: r => b.toNat + 2 * numL r
theorem bitsL_len : ∀ (v n : Nat), (bitsL v n).length = n
  | _, 0 => rfl
  | v, n + 1 => by simp [bitsL, bitsL_len]
theorem bitsL_snoc : ∀ (v n : Nat), bitsL v (n + 1) = bitsL v n ++ [decide (v / 2 ^ n % 2 = 1)]
  | v, 0 => by simp [bitsL]
  | v, n + 1 => by
    rw [bitsL, bitsL_snoc (v / 2) n, bitsL, List.cons_append, Nat.div_div_eq_div_mul, Nat.pow_succ, Nat.mul_comm 2]
theorem numL_lt : ∀ (l : List Bool), numL l < 2 ^ l.length
  | [] => by simp [numL]
  | b :: r => by
    have h1 := numL_lt r
    have h2 : b.toNat ≤ 1 := Bool.toNat_le b
    rw [numL, List.length_cons, Nat.pow_succ]
    omega
theorem numL_append : ∀ (a b : List Bool), numL (a ++ b) = numL a + 2 ^ a.length * numL b
  | [], b => by simp [numL]
  | x :: r, b => by
    rw [List.cons_append, numL, numL, numL_append r b, List.length_cons, Nat.pow_succ, Nat.mul_add, Nat.mul_comm (2 ^ r.length) 2, Nat.mul_assoc, Nat.add_assoc]
theorem numL_bitsL : ∀ (v n : Nat), v < 2 ^ n → numL (bitsL v n) = v
  | v, 0, h => by simp at h; subst h; rfl
  | v, n + 1, h => by
    rw [bitsL, numL, numL_bitsL (v / 2) n (by rw [Nat.pow_succ] at h; omega)]
    by_cases e : v % 2 = 1 <;> simp [e] <;> omega
theorem numL_drop (l : List Bool) (k : Nat) (h : k ≤ l.length) : numL (l.drop k) = numL l / 2 ^ k := by
  have e := numL_append (l.take k) (l.drop k)
  rw [List.take_append_drop, List.length_take, Nat.min_eq_left h] at e
  have hl := numL_lt (l.take k)
  rw [List.length_take, Nat.min_eq_left h] at hl
  rw [e, Nat.add_mul_div_left _ _ (pow_pos' k), Nat.div_eq_of_lt hl, Nat.zero_add]
theorem numL_take (l : List Bool) (k : Nat) (h : k ≤ l.length) : numL (l.take k) = numL l % 2 ^ k := by
  have e := numL_append (l.take k) (l.drop k)
  rw [List.take_append_drop, List.length_take, Nat.min_eq_left h] at e
  have hl := numL_lt (l.take k)
  rw [List.length_take, Nat.min_eq_left h] at hl
  rw [e, Nat.add_mul_mod_self_left, Nat.mod_eq_of_lt hl]
theorem numL_take' (l : List Bool) (k : Nat) : numL (l.take k) = numL l % 2 ^ k := by
  by_cases h : k ≤ l.length
  · exact numL_take l k h
  · have h1 := numL_lt l
    have h2 : 2 ^ l.length ≤ 2 ^ k := Nat.pow_le_pow_right (by decide) (by omega)
    rw [List.take_of_length_le (by omega), Nat.mod_eq_of_lt (by omega)]
theorem numL_byte (l : List Bool) (q : Nat) (h : 8 * q ≤ l.length) : numL ((l.drop (8 * q)).take 8) = numL l / 256 ^ q % 256 := by
  rw [numL_take', numL_drop _ _ h, pow256]
theorem rlay_rgo : ∀ (r : List Nat) (n c : Nat), rlay (rgo n c r) = List.replicate n c ++ r.map rlw
  | [], n, c => by show List.replicate n c ++ [] = _; rfl
  | x :: r, n, c => by
    unfold rgo
    split
    · rename_i h
      rw [rlay_rgo r, List.replicate_succ', List.append_assoc, List.map_cons, h.1]
      rfl
    · rw [rlay_cons, rlay_rgo r]
      rfl
/- Two rows are no more runs than both. -/
theorem plS_pre (acc : List Nat) (c : Nat) : ∃ t, plS acc c = acc ++ t := by
  unfold plS; split
  · exact ⟨[], by simp⟩
  · exact ⟨[c], rfl⟩
theorem plC_pre : ∀ (l acc : List Nat), ∃ t, plC acc l = acc ++ t
  | [], acc => ⟨[], by simp [plC]⟩
  | x :: r, acc => by
    obtain ⟨t, e⟩ := plS_pre acc (rlw x)
    obtain ⟨u, e2⟩ := plC_pre r (plS acc (rlw x))
    exact ⟨t ++ u, by show plC (plS acc (rlw x)) r = _; rw [e2, e, List.append_assoc]⟩
theorem plC_map : ∀ (l acc : List Nat), plC acc (l.map rlw) = plC acc l
  | [], _ => rfl
  | x :: r, acc => by
    show plC (plS acc (rlw (rlw x))) (r.map rlw) = plC (plS acc (rlw x)) r
    rw [rlw_rlw, plC_map r]
theorem plI_le (c : Nat) : ∀ l : List Nat, plI c l ≤ l.length
  | [] => Nat.le_refl _
  | x :: r => by
    have := plI_le c r
    unfold plI; split <;> simp <;> omega
theorem plI_get {c : Nat} : ∀ {l : List Nat}, c ∈ l → l.getD (plI c l) 0 = c
  | [], h => by cases h
  | x :: r, h => by
    unfold plI
    split
    · rename_i e; simpa using e
    · rename_i e
      rw [List.getD_cons_succ]
      exact plI_get ((List.mem_cons.1 h).resolve_left fun e' => e e'.symm)
theorem plV_lt {l : List Nat} : ∀ v ∈ plV (plCol l) l, v < (plCol l).length := by
  intro v hv
  obtain ⟨x, hx, rfl⟩ := List.mem_map.1 hv
  exact plI_lt.2 ((plC_mem l [] _).2 (.inr ⟨x, hx, rfl⟩))
theorem sm_lt {g h : Nat → Nat} : ∀ {n k : Nat}, (∀ i, i < n → g i ≤ h i) → k < n → g k < h k → sm n g < sm n h
  | 0, k, _, hk, _ => by omega
  | n + 1, k, e, hk, hl => by
    simp only [sm]
    have h2 := e n (by omega)
    rcases Nat.lt_or_ge k n with h1 | h1
    · have := sm_lt (n := n) (fun i hi => e i (by omega)) h1 hl
      omega
    · obtain rfl : k = n := by omega
      have := sm_le (n := k) (fun i hi => e i (by omega))
      omega
open Go.RowKit
def encB (b : Bool) : List Value := [.bool b]
theorem encB_len (b : Bool) : (encB b).length = 1 := rfl
theorem flatB : ∀ l : List Bool, l.flatMap encB = l.map Value.bool
  | [] => rfl
  | b :: r => by rw [List.flatMap_cons, flatB r]; rfl
theorem oneB (l : List Bool) : ∀ u ∈ l.map Value.bool, u.oneCell' = true := by
  intro u hu
  obtain ⟨b, _, rfl⟩ := List.mem_map.1 hu
  rfl
theorem bool_info : (Tryz.prog.info? 4).map (fun i => (i.zero, i.size, i.bytes)) = some (some (.bool false), 1, 1) := by kernel_rfl
abbrev RwB (w : World) (v : Value) (l : List Bool) : Prop := RwG encB 1 w v l
def OwnB (w : World) (base : Nat) (v : Value) (l : List Bool) : Prop := w.ownsRow base 4 1 v l.length (l.map Value.bool)
theorem OwnB.rw {w : World} {base : Nat} {v : Value} {l : List Bool} (h : OwnB w base v l) : RwB w v l := by
  unfold OwnB at h
  rw [← flatB] at h
  exact RwG.owned encB_len h
set_option maxHeartbeats 1000000 in
theorem refBits_any (v n : Nat) (w : World) (hv : v < 4294967296) (hn : n ≤ 24) :
    Calls Tryz.prog 49 #[.int .u32 (v : Int), .int .i64 (n : Int)] w fun e w' => ∃ u, e = .returned u ∧ OwnB w' w.heap.size u (bitsL v n) ∧ Below w.heap.size w w' := by
  go_enter Tryz.func49, Tryz.ntmps49
  go_wp2
  go_loopw [0, 5, 6] (fun a o i wr => ∃ (k x : Nat), i = .int .i64 (k : Int) ∧ k ≤ n ∧ a = .int .u32 (x : Int) ∧ x < 4294967296 ∧ Hid (x = v / 2 ^ k) ∧ Hid (OwnB wr w.heap.size o (bitsL v k)) ∧ Hid (Below w.heap.size w wr)) (fun _ _ i _ => n - (intOf i).toNat)
  case atStart => exact ⟨0, v, rfl, Nat.zero_le _, rfl, hv, Lib.hid (by simp), Lib.hid (World.ownsRow_nil _ _ _ _), Lib.hid (Below.refl _ _)⟩
  case round =>
    obtain ⟨k, x, rfl, hk, rfl, hx, Hx, Ho, Hb⟩ := hrel
    have hos := owns_slice Ho.out
    rw [bitsL_len] at hos
    obtain ⟨p, c, rfl⟩ := hos
    by_cases hlt : k < n
    · obtain ⟨bb, hbb⟩ : ∃ bb : Bool, decide (x % 2 = 1) = bb := ⟨_, rfl⟩
      have hB : (((x : Int) % 2 : Int) == 1) = bb := by
        rw [← hbb, Bool.eq_iff_iff]; simp; omega
      have Hbb := Lib.hid hbb
      clear hbb
      have hs := Hb.out.size
      go_wp2_with (at_builtin; refine wpList_append_one wr rfl (.tmp 12) (.tmp 16) 80 rfl w.heap.size 4 _ 1 bool_info Tryz.underlying80 rfl (.slice p k c) k ((bitsL v k).map Value.bool) rfl (by have := Ho.out; unfold OwnB at this; rw [bitsL_len] at this; exact this) (.bool bb) _ rfl rfl ?n3 ?n4 hs ?_)
      case n3 => simp only [maxLen]; omega
      case n4 => omega
      intro g cap w1 ho1 ht1 hg1
      have Ho1 : Hid (OwnB w1 w.heap.size (.slice (some ⟨g, 0, none⟩) (k + 1) cap) (bitsL v (k + 1))) := Lib.hid (by
        unfold OwnB
        rw [bitsL_len, bitsL_snoc, ← Hx.out, Hbb.out, List.map_append]
        exact ho1)
      have Hb1 : Hid (Below w.heap.size w w1) := Lib.hid (Hb.out.trans (ht1.below hs (fun i hi => (Ho.out.lt i hi).1)))
      have Hx2 : Hid (x / 2 = v / 2 ^ (k + 1)) := Lib.hid (by rw [Hx.out, Nat.pow_succ, Nat.div_div_eq_div_mul])
      clear ho1 ht1 hg1 hs
      go_wp2
      go_roundw
      case rel => exact ⟨k + 1, x / 2, by go_num, by omega, by go_num, by omega, Hx2, Ho1, Hb1⟩
      case measure => simp [intOf]; omega
    · obtain rfl : k = n := by omega
      go_wp2
      go_ret
      exact ⟨_, rfl, Ho.out, Hb.out⟩
theorem numL_cons_drop (l : List Bool) (m : Nat) (h : m < l.length) : numL (l.drop m) = l[m].toNat + 2 * numL (l.drop (m + 1)) := by
  rw [List.drop_eq_getElem_cons h]; rfl
theorem RwB.cells {W : World} {v : Value} {l : List Bool} (h : RwB W v l) : ∃ p c, v = .slice p l.length c ∧ l.length ≤ c ∧ c ≤ maxLen ∧ ∀ i (hi : i < l.length), ∃ g off, p = some ⟨g, off, none⟩ ∧ W.cell? ⟨g, off + i, none⟩ = some (.bool l[i]) := by
  obtain ⟨⟨p, c, e, h1, h2, h3⟩, -⟩ := h
  refine ⟨p, c, e, h1, h2, fun i hi => ?_⟩
  rcases h3 with ⟨-, rfl⟩ | ⟨g, off, rfl, -, h4⟩
  · simp at hi
  · have := h4 i l[i] (List.getElem?_eq_getElem hi) 0 _ rfl
    rw [Nat.mul_one, Nat.add_zero] at this
    exact ⟨g, off, rfl, this⟩
def BitsAt (W : World) (p : Option Addr) (l : List Bool) : Prop := ∀ i (hi : i < l.length), ∃ g off, p = some ⟨g, off, none⟩ ∧ W.cell? ⟨g, off + i, none⟩ = some (.bool l[i])
set_option maxHeartbeats 2000000 in
theorem number_any (p : Option Addr) (c : Nat) (l : List Bool) (w : World) (hl : l.length ≤ 24) (hc : BitsAt w p l) :
    Calls Tryz.prog 61 #[.slice p l.length c] w fun e w' => e = .returned (.int .u32 ((numL l : Nat) : Int)) ∧ w' = w := by
  have Hc := Lib.hid hc
  clear hc
  go_enter Tryz.func61, Tryz.ntmps61
  go_wp2
  go_loop [3, 4] (fun a i => ∃ (j x : Nat) (y : Int), i = .int .i64 y ∧ y + 1 = (j : Int) ∧ j ≤ l.length ∧ a = .int .u32 (x : Int) ∧ Hid (x = numL (l.drop j))) (fun _ i => (intOf i + 1).toNat)
  case atStart => exact ⟨l.length, 0, _, rfl, by omega, Nat.le_refl _, rfl, Lib.hid (by rw [List.drop_length]; rfl)⟩
  case round =>
    obtain ⟨j, x, y, rfl, hy, hj, rfl, Hx⟩ := hrel
    by_cases h0 : 0 ≤ y
    · obtain ⟨m, rfl⟩ := Int.eq_ofNat_of_zero_le h0
      obtain rfl : j = m + 1 := by omega
      have hml : m < l.length := by omega
      obtain ⟨g, off, rfl, hcx⟩ := Hc.out m hml
      have hxb : x < 16777216 := by
        have h1 := numL_lt (l.drop (m + 1))
        have h2 : 2 ^ (l.drop (m + 1)).length ≤ 2 ^ 24 := Nat.pow_le_pow_right (by decide) (by rw [List.length_drop]; omega)
        have h3 : (2 : Nat) ^ 24 = 16777216 := rfl
        rw [Hx.out]
        omega
      have hcd := numL_cons_drop l m hml
      rw [← Hx.out] at hcd
      cases hb : l[m] with
      | false =>
        rw [hb] at hcx hcd
        have Hcd := Lib.hid hcd
        clear hcd hb hy
        go_wp2
        go_round
        case rel => exact ⟨m, 2 * x, (m : Int) - 1, rfl, by omega, by omega, by go_num, Lib.hid (by rw [Hcd.out]; simp)⟩
        case measure => simp [intOf]
      | true =>
        rw [hb] at hcx hcd
        have Hcd := Lib.hid hcd
        clear hcd hb hy
        go_wp2
        go_round
        case rel => exact ⟨m, 2 * x + 1, (m : Int) - 1, rfl, by omega, by omega, by go_num, Lib.hid (by rw [Hcd.out]; simp; omega)⟩
        case measure => simp [intOf]
    · obtain rfl : j = 0 := by omega
      have Hx' : Hid (x = numL l) := Lib.hid (by rw [Hx.out, List.drop_zero])
      go_wp2
      go_ret
      exact ⟨by rw [Hx'.out]; rfl, rfl⟩
theorem number_len (p : Option Addr) (c n : Nat) (l : List Bool) (w : World) (hn : n = l.length) (hl : l.length ≤ 24) (hc : BitsAt w p l) :
    Calls Tryz.prog 61 #[.slice p n c] w fun e w' => e = .returned (.int .u32 ((numL l : Nat) : Int)) ∧ w' = w := by
  subst hn; exact number_any p c l w hl hc
theorem BitsAt.below {W W' : World} {p : Option Addr} {l : List Bool} (h : BitsAt W p l) (hb : Below W.heap.size W W') : BitsAt W' p l := fun i hi => by
  obtain ⟨g, off, e, hc⟩ := h i hi
  exact ⟨g, off, e, cell_later hb hc⟩
theorem BitsAt.part {W : World} {g off : Nat} {l : List Bool} (h : BitsAt W (some ⟨g, off, none⟩) l) (a n : Nat) : BitsAt W (some ⟨g, off + a, none⟩) ((l.drop a).take n) := fun i hi => by
  rw [List.length_take, List.length_drop] at hi
  obtain ⟨g', off', e, hc⟩ := h (a + i) (by omega)
  cases e
  refine ⟨_, _, rfl, ?_⟩
  rw [Nat.add_assoc, hc]
  simp
set_option maxHeartbeats 4000000 in
set_option maxRecDepth 100000 in
theorem refBytes_any (v : Value) (l : List Bool) (w : World) (hv : RwB w v l) (hlen : l.length ≤ 8388608) :
    Calls Tryz.prog 52 #[v] w fun e w' => ∃ u, e = .returned u ∧ Own8 w.heap.size (byts (numL l) ((l.length + 7) / 8)) w w' u := by
  obtain ⟨p, c, rfl, hc1, hc2, hcell⟩ := hv.cells
  have hc63 : c ≤ 9223372036854775807 := by simp only [maxLen] at hc2; omega
  have Hc : Hid (BitsAt w p l) := Lib.hid hcell
  clear hv hcell hc2
  go_enter Tryz.func52, Tryz.ntmps52
  go_wp2
  go_loopw [3, 4] (fun o i wr => ∃ q : Nat, i = .int .i64 ((8 * q : Nat) : Int) ∧ q ≤ (l.length + 7) / 8 ∧ Hid (wr.ownsRow w.heap.size 5 1 o q ((byts (numL l) q).map u8v)) ∧ Hid (Below w.heap.size w wr)) (fun _ i _ => l.length + 8 - (intOf i).toNat)
  case atStart => exact ⟨0, rfl, Nat.zero_le _, Lib.hid (World.ownsRow_nil _ _ _ _), Lib.hid (Below.refl _ _)⟩
  case round =>
    obtain ⟨q, rfl, hq, Ho, Hb⟩ := hrel
    obtain ⟨po, co, rfl⟩ := owns_slice Ho.out
    by_cases hlt : 8 * q < l.length
    · obtain ⟨g, off, rfl, -⟩ := Hc.out 0 (by omega)
      have Hcb := Lib.hid ((Hc.out.below Hb.out).part (8 * q) 8)
      have Hnum := Lib.hid (numL_byte l q (by omega))
      have hs := Hb.out.size
      obtain ⟨s, hsz⟩ : ∃ s, ((l.drop (8 * q)).take 8).length = s := ⟨_, rfl⟩
      have hs8 : s = min 8 (l.length - 8 * q) := by rw [← hsz, List.length_take, List.length_drop]
      obtain ⟨x, hx⟩ : ∃ x, 8 * q = x := ⟨_, rfl⟩
      rw [hx] at hlt hs8 Hcb
      rw [hx] at hsz Hnum
      have Hx := Lib.hid hx
      have Hsz := Lib.hid hsz
      clear hx hsz
      rw [Hx.out]
      by_cases hm : x + 8 ≤ l.length
      · obtain rfl : s = 8 := by omega
        clear hs8
        go_wp2_with fail
        refine Calls.mono (number_len _ _ _ _ _ Hsz.out.symm (by rw [Hsz.out]; omega) Hcb.out) ?_
        rintro e w1 ⟨rfl, rfl⟩
        rw [Hnum.out]
        have hb256 : numL l / 256 ^ q % 256 < 256 := Nat.mod_lt _ (by decide)
        obtain ⟨b, hb⟩ : ∃ b, numL l / 256 ^ q % 256 = b := ⟨_, rfl⟩
        rw [hb] at hb256 ⊢
        have Hbb := Lib.hid hb
        clear hb
        go_wp2_with (at_builtin; refine wpList_append_one w1 rfl (.tmp 11) (.tmp 22) 25 rfl w.heap.size 5 _ 1 u8_info Tryz.underlying25 rfl (.slice po q co) q ((byts (numL l) q).map u8v) rfl Ho.out (.int .u8 (b : Int)) _ rfl rfl ?n1 ?n2 hs ?_)
        case n1 => simp only [maxLen]; omega
        case n2 => omega
        intro g1 cap w2 ho1 ht1 hg1
        have Ho1 : Hid (w2.ownsRow w.heap.size 5 1 (.slice (some ⟨g1, 0, none⟩) (q + 1) cap) (q + 1) ((byts (numL l) (q + 1)).map u8v)) := Lib.hid (by
          rw [byts_snoc, Hbb.out, List.map_append]
          exact ho1)
        have Hb1 : Hid (Below w.heap.size w w2) := Lib.hid (Hb.out.trans (ht1.below hs (fun i hi => (Ho.out.lt i hi).1)))
        clear ho1 ht1 hg1 hs
        have hxx := Hx.out
        have hx8 : x + 8 = 8 * (q + 1) := by omega
        have Hx8 := Lib.hid hx8
        clear hxx hx8
        go_wp2
        go_roundw
        case rel => exact ⟨q + 1, by rw [← Hx8.out]; go_num, by have := Hx.out; omega, Ho1, Hb1⟩
        case measure => simp [intOf]; omega
      · obtain rfl : s = l.length - x := by omega
        clear hs8
        go_wp2_with fail
        refine Calls.mono (number_len _ _ _ _ _ Hsz.out.symm (by rw [Hsz.out]; omega) Hcb.out) ?_
        rintro e w1 ⟨rfl, rfl⟩
        rw [Hnum.out]
        have hb256 : numL l / 256 ^ q % 256 < 256 := Nat.mod_lt _ (by decide)
        obtain ⟨b, hb⟩ : ∃ b, numL l / 256 ^ q % 256 = b := ⟨_, rfl⟩
        rw [hb] at hb256 ⊢
        have Hbb := Lib.hid hb
        clear hb
        go_wp2_with (at_builtin; refine wpList_append_one w1 rfl (.tmp 11) (.tmp 22) 25 rfl w.heap.size 5 _ 1 u8_info Tryz.underlying25 rfl (.slice po q co) q ((byts (numL l) q).map u8v) rfl Ho.out (.int .u8 (b : Int)) _ rfl rfl ?m1 ?m2 hs ?_)
        case m1 => simp only [maxLen]; omega
        case m2 => omega
        intro g1 cap w2 ho1 ht1 hg1
        have Ho1 : Hid (w2.ownsRow w.heap.size 5 1 (.slice (some ⟨g1, 0, none⟩) (q + 1) cap) (q + 1) ((byts (numL l) (q + 1)).map u8v)) := Lib.hid (by
          rw [byts_snoc, Hbb.out, List.map_append]
          exact ho1)
        have Hb1 : Hid (Below w.heap.size w w2) := Lib.hid (Hb.out.trans (ht1.below hs (fun i hi => (Ho.out.lt i hi).1)))
        clear ho1 ht1 hg1 hs
        have hxx := Hx.out
        have hx8 : x + 8 = 8 * (q + 1) := by omega
        have Hx8 := Lib.hid hx8
        clear hxx hx8
        go_wp2
        go_roundw
        case rel => exact ⟨q + 1, by rw [← Hx8.out]; go_num, by have := Hx.out; omega, Ho1, Hb1⟩
        case measure => simp [intOf]; omega
    · have hq' : q = (l.length + 7) / 8 := by omega
      have Hq := Lib.hid hq'
      clear hq hq'
      go_wp2
      go_ret
      refine ⟨_, rfl, ?_, Hb.out⟩
      rw [byts_len, ← Hq.out]
      exact Ho.out
theorem rwb_src {w : World} {v : Value} {l : List Bool} (h : RwB w v l) : ∃ p c, v = .slice p l.length c ∧ ((p = none ∧ l.length = 0 ∧ c = 0) ∨ ∃ ad, p = some ad ∧ ∀ j u, (l.map Value.bool)[j]? = some u → w.cell? (ad.add j) = some u) := by
  obtain ⟨p, c, h1, -, -, h2⟩ := h.src encB_len (by decide)
  rw [flatB] at h2
  exact ⟨p, c, h1, h2⟩
end Go.Proofs.YtoladolgmeanhaaGreat

namespace Go.Proofs.YtoladolgmeanhaaGreat
section
variable {α β : Type} [Inhabited α] [Inhabited β]
theorem UpR.det {E R R' : List (α × Nat)} {j : Nat} (h : UpR E j R) (k : UpR E j R') : R = R' := by
  induction h with
  | stop h =>
    cases k with
    | stop => rfl
    | step h0 h1 => exact absurd h1 (h.resolve_left (by omega))
  | step h0 h1 hr ih =>
    cases k with
    | stop h => exact absurd h1 (h.resolve_left (by omega))
    | step _ _ hr' => exact ih hr'
theorem DnR.det {m : Nat} {E R R' : List (α × Nat)} {i : Nat} (h : DnR m E i R) (k : DnR m E i R') : R = R' := by
  induction h with
  | stop h =>
    cases k with
    | stop => rfl
    | step h0 h1 => exact absurd h1 (h.resolve_left (by omega))
  | step h0 h1 hr ih =>
    cases k with
    | stop h => exact absurd h1 (h.resolve_left (by omega))
    | step _ _ hr' => exact ih hr'
theorem PopR.det {F G G' : List (α × Nat)} {x x' : α × Nat} (h : PopR F x G) (k : PopR F x' G') : x = x' ∧ G = G' := by
  obtain ⟨h1, D, h2, rfl⟩ := h
  obtain ⟨k1, D', k2, rfl⟩ := k
  rw [h1] at k1
  exact ⟨by injection k1, by rw [h2.det k2]⟩
theorem PutR.det {F l G G' : List (α × Nat)} (h : PutR F l G) (k : PutR F l G') : G = G' := by
  induction h with
  | nil => cases k; rfl
  | cons h hr ih =>
    cases k with
    | cons k kr =>
      obtain rfl := UpR.det h k
      exact ih kr
theorem TakeR.len {F P E : List (α × Nat)} (h : TakeR F P E) : F.length = P.length + E.length := by
  induction h with
  | nil => simp
  | cons h0 h hr ih =>
    have := h.len
    simp only [List.length_cons]; omega
theorem TakeR.det {F P E P' E' : List (α × Nat)} (h : TakeR F P E) (k : TakeR F P' E') (hl : P.length = P'.length) : P = P' ∧ E = E' := by
  induction h generalizing P' E' with
  | nil =>
    cases k with
    | nil => exact ⟨rfl, rfl⟩
    | cons => simp at hl
  | cons h0 h hr ih =>
    cases k with
    | nil => simp at hl
    | cons _ k kr =>
      obtain ⟨rfl, rfl⟩ := h.det k
      obtain ⟨rfl, rfl⟩ := ih kr (by simpa using hl)
      exact ⟨rfl, rfl⟩
theorem OrdR.det {X P E P' E' : List (α × Nat)} (h : OrdR X P E) (k : OrdR X P' E') : P = P' ∧ E = E' := by
  obtain ⟨F, h1, h2, h3, a, h4⟩ := h
  obtain ⟨F', k1, k2, k3, b, k4⟩ := k
  obtain rfl := h1.det k1
  have := h2.len
  have := k2.len
  exact h2.det k2 (by omega)
variable {f : α → β} (hf : f default = default)
include hf
end
end Go.Proofs.YtoladolgmeanhaaGreat

namespace Go.Proofs.YtoladolgmeanhaaGreat
open Go.RowKit
instance : Inhabited Tr := ⟨.leaf 0 0⟩
theorem OrdT.det {X Q Q' : List Tr} (h : OrdT X Q) (k : OrdT X Q') : Q = Q' := by
  obtain ⟨P, E, h1, rfl⟩ := h
  obtain ⟨P', E', k1, rfl⟩ := k
  obtain ⟨rfl, rfl⟩ := h1.det k1
  rfl
theorem RowD.det {ls : List Tr} : ∀ {j : Nat} {P P' : List Tr}, RowD ls j P → RowD ls j P' → P = P'
  | 0, _, _, h, k => h.trans k.symm
  | j + 1, _, _, ⟨Q, hQ, h⟩, ⟨Q', hQ', k⟩ => by
    obtain rfl := RowD.det hQ hQ'
    exact h.det k
end Go.Proofs.YtoladolgmeanhaaGreat

namespace Go.Proofs.YtoladolgmeanhaaGreat
open Go.RowKit
theorem LensD.det {fs : List Int} {L : Nat} {g g' : Nat → Nat} (h : LensD fs L g) (k : LensD fs L g') : g = g' := by
  obtain ⟨P, h1, h2⟩ := h
  obtain ⟨P', k1, k2⟩ := k
  obtain rfl := h1.det k1
  exact funext fun i => (h2 i).trans (k2 i).symm
end Go.Proofs.YtoladolgmeanhaaGreat

namespace Go.Proofs.YtoladolgmeanhaaGreat
open Go.RowKit
theorem BestOf.det {fs : List Int} {lim : Nat} {g g' : Nat → Nat} (h : BestOf fs lim g) (k : BestOf fs lim g') : gl g fs.length = gl g' fs.length := by
  by_cases h1 : many fs.length (fq fs) = 1
  · unfold gl
    refine List.map_congr_left fun i hi => ?_
    have hi' : i < fs.length := List.mem_range.1 hi
    have a1 := h.1.one h1 i hi'
    have a2 := k.1.one h1 i hi'
    have b1 := (h.1.le i hi').2
    have b2 := (k.1.le i hi').2
    by_cases h0 : 0 < fq fs i
    · have := b1.2 h0; have := b2.2 h0; omega
    · have c1 : ¬ 0 < g i := fun h => h0 (b1.1 h)
      have c2 : ¬ 0 < g' i := fun h => h0 (b2.1 h)
      omega
  · rw [(h.2 h1).det (k.2 h1)]
end Go.Proofs.YtoladolgmeanhaaGreat

namespace Go.Proofs.YtoladolgmeanhaaGreat
open Go.RowKit
theorem DynF.det {ts : List Tk} {P P' : Pt} (h : DynF ts P) (k : DynF ts P') : P = P' := by
  obtain ⟨gA, gD, gC, a1, a2, a3, rfl⟩ := h.ex
  obtain ⟨gA', gD', gC', b1, b2, b3, rfl⟩ := k.ex
  have e1 := a1.det b1
  have e2 := a2.det b2
  rw [ctZ_len] at e1 e2
  rw [← e1, ← e2] at b3
  have e3 := a3.det b3
  rw [ctZ_len] at e3
  rw [e1, e2, e3]
theorem DefS.det {b S S' : List Nat} (h : DefS b S) (k : DefS b S') : S = S' := by
  obtain ⟨ts, P, h1, -, h2, rfl⟩ := h.ex
  obtain ⟨ts', P', k1, -, k2, rfl⟩ := k.ex
  obtain rfl := h1.uniq k1
  obtain rfl := h2.det k2
  rfl
end Go.Proofs.YtoladolgmeanhaaGreat

namespace Go.Proofs.YtoladolgmeanhaaGreat
open Go.RowKit
attribute [local go_sem] Oper.semAt_some
theorem oneP (l : List Nat) : ∀ u ∈ l.map pxv, u.oneCell' = true := by
  intro u hu
  obtain ⟨b, _, rfl⟩ := List.mem_map.1 hu
  rfl
end Go.Proofs.YtoladolgmeanhaaGreat
