/- Several texts in one, each with its own head. -/
import Derived.Test.YtebfdoipogjpnaaGreatQd5
import Derived.Test.YtebfdoipogjpnaaGreatQd11
/- The document's own bits: Bits, May, Number, Bytes, Of, Put, Align, Get. -/
namespace Go.Proofs.YtebfdoipogjpnaaGreat
open Go.RowKit

/-- Bits as cells. -/
def encB (b : Bool) : List Value := [.bool b]
theorem encB_len (b : Bool) : (encB b).length = 1 := rfl
theorem flatB : ∀ l : List Bool, l.flatMap encB = l.map Value.bool
  | [] => rfl
  | b :: r => by rw [List.flatMap_cons, flatB r]; rfl
theorem oneB (l : List Bool) : ∀ u ∈ l.map Value.bool, u.oneCell' = true := by
  intro u hu
  obtain ⟨b, _, rfl⟩ := List.mem_map.1 hu
  rfl

theorem bool_info : (Tryz.prog.info? 4).map (fun i => (i.zero, i.size, i.bytes)) = some (some (.bool false), 1, 1) := by kernel_rfl

/-- A row of bits that reads so. -/
abbrev RwB (w : World) (v : Value) (l : List Bool) : Prop := RwG encB 1 w v l

/-- A row of bits of its own. -/
def OwnB (w : World) (base : Nat) (v : Value) (l : List Bool) : Prop := w.ownsRow base 4 1 v l.length (l.map Value.bool)

theorem OwnB.rw {w : World} {base : Nat} {v : Value} {l : List Bool} (h : OwnB w base v l) : RwB w v l := by
  unfold OwnB at h
  rw [← flatB] at h
  exact RwG.owned encB_len h

set_option maxHeartbeats 1000000 in
theorem refBits_any (v n : Nat) (w : World) (hv : v < 4294967296) (hn : n ≤ 24) :
    Calls Tryz.prog 61 #[.int .u32 (v : Int), .int .i64 (n : Int)] w fun e w' => ∃ u, e = .returned u ∧ OwnB w' w.heap.size u (bitsL v n) ∧ Below w.heap.size w w' := by
  go_enter Tryz.func61, Tryz.ntmps61
  go_wp2
  go_loopw [0, 5, 6] (fun a o i wr => ∃ (k x : Nat), i = .int .i64 (k : Int) ∧ k ≤ n ∧ a = .int .u32 (x : Int) ∧ x < 4294967296 ∧ Hid (x = v / 2 ^ k) ∧ Hid (OwnB wr w.heap.size o (bitsL v k)) ∧ Hid (Below w.heap.size w wr)) (fun _ _ i _ => n - (intOf i).toNat)
  case atStart => exact ⟨0, v, rfl, Nat.zero_le _, rfl, hv, Lib.hid (by simp), Lib.hid (World.ownsRow_nil _ _ _ _), Lib.hid (Below.refl _ _)⟩
  case round =>
    obtain ⟨k, x, rfl, hk, rfl, hx, Hx, Ho, Hb⟩ := hrel
    have hos := owns_slice Ho.out
    rw [bitsL_len] at hos
    obtain ⟨p, c, rfl⟩ := hos
    by_cases hlt : k < n
    · obtain ⟨bb, hbb⟩ : ∃ bb : Bool, decide (x % 2 = 1) = bb := ⟨_, rfl⟩
      have hB : (((x : Int) % 2 : Int) == 1) = bb := by
        rw [← hbb, Bool.eq_iff_iff]; simp; omega
      have Hbb := Lib.hid hbb
      clear hbb
      have hs := Hb.out.size
      go_wp2_with (at_builtin; refine wpList_append_one wr rfl (.tmp 12) (.tmp 16) 63 rfl w.heap.size 4 _ 1 bool_info Tryz.underlying63 rfl (.slice p k c) k ((bitsL v k).map Value.bool) rfl (by have := Ho.out; unfold OwnB at this; rw [bitsL_len] at this; exact this) (.bool bb) _ rfl rfl ?n3 ?n4 hs ?_)
      case n3 => simp only [maxLen]; omega
      case n4 => omega
      intro g cap w1 ho1 ht1 hg1
      have Ho1 : Hid (OwnB w1 w.heap.size (.slice (some ⟨g, 0, none⟩) (k + 1) cap) (bitsL v (k + 1))) := Lib.hid (by
        unfold OwnB
        rw [bitsL_len, bitsL_snoc, ← Hx.out, Hbb.out, List.map_append]
        exact ho1)
      have Hb1 : Hid (Below w.heap.size w w1) := Lib.hid (Hb.out.trans (ht1.below hs (fun i hi => (Ho.out.lt i hi).1)))
      have Hx2 : Hid (x / 2 = v / 2 ^ (k + 1)) := Lib.hid (by rw [Hx.out, Nat.pow_succ, Nat.div_div_eq_div_mul])
      clear ho1 ht1 hg1 hs
      go_wp2
      go_roundw
      case rel => exact ⟨k + 1, x / 2, by go_num, by omega, by go_num, by omega, Hx2, Ho1, Hb1⟩
      case measure => simp [intOf]; omega
    · obtain rfl : k = n := by omega
      go_wp2
      go_ret
      exact ⟨_, rfl, Ho.out, Hb.out⟩

theorem numL_cons_drop (l : List Bool) (m : Nat) (h : m < l.length) : numL (l.drop m) = l[m].toNat + 2 * numL (l.drop (m + 1)) := by
  rw [List.drop_eq_getElem_cons h]; rfl

theorem RwB.cells {W : World} {v : Value} {l : List Bool} (h : RwB W v l) : ∃ p c, v = .slice p l.length c ∧ l.length ≤ c ∧ c ≤ maxLen ∧ ∀ i (hi : i < l.length), ∃ g off, p = some ⟨g, off, none⟩ ∧ W.cell? ⟨g, off + i, none⟩ = some (.bool l[i]) := by
  obtain ⟨⟨p, c, e, h1, h2, h3⟩, -⟩ := h
  refine ⟨p, c, e, h1, h2, fun i hi => ?_⟩
  rcases h3 with ⟨-, rfl⟩ | ⟨g, off, rfl, -, h4⟩
  · simp at hi
  · have := h4 i l[i] (List.getElem?_eq_getElem hi) 0 _ rfl
    rw [Nat.mul_one, Nat.add_zero] at this
    exact ⟨g, off, rfl, this⟩

/-- Where each bit lies. -/
def BitsAt (W : World) (p : Option Addr) (l : List Bool) : Prop := ∀ i (hi : i < l.length), ∃ g off, p = some ⟨g, off, none⟩ ∧ W.cell? ⟨g, off + i, none⟩ = some (.bool l[i])

set_option maxHeartbeats 2000000 in
theorem number_any (p : Option Addr) (c : Nat) (l : List Bool) (w : World) (hl : l.length ≤ 24) (hc : BitsAt w p l) :
    Calls Tryz.prog 99 #[.slice p l.length c] w fun e w' => e = .returned (.int .u32 ((numL l : Nat) : Int)) ∧ w' = w := by
  have Hc := Lib.hid hc
  clear hc
  go_enter Tryz.func99, Tryz.ntmps99
  go_wp2
  go_loop [3, 4] (fun a i => ∃ (j x : Nat) (y : Int), i = .int .i64 y ∧ y + 1 = (j : Int) ∧ j ≤ l.length ∧ a = .int .u32 (x : Int) ∧ Hid (x = numL (l.drop j))) (fun _ i => (intOf i + 1).toNat)
  case atStart => exact ⟨l.length, 0, _, rfl, by omega, Nat.le_refl _, rfl, Lib.hid (by rw [List.drop_length]; rfl)⟩
  case round =>
    obtain ⟨j, x, y, rfl, hy, hj, rfl, Hx⟩ := hrel
    by_cases h0 : 0 ≤ y
    · obtain ⟨m, rfl⟩ := Int.eq_ofNat_of_zero_le h0
      obtain rfl : j = m + 1 := by omega
      have hml : m < l.length := by omega
      obtain ⟨g, off, rfl, hcx⟩ := Hc.out m hml
      have hxb : x < 16777216 := by
        have h1 := numL_lt (l.drop (m + 1))
        have h2 : 2 ^ (l.drop (m + 1)).length ≤ 2 ^ 24 := Nat.pow_le_pow_right (by decide) (by rw [List.length_drop]; omega)
        have h3 : (2 : Nat) ^ 24 = 16777216 := rfl
        rw [Hx.out]
        omega
      have hcd := numL_cons_drop l m hml
      rw [← Hx.out] at hcd
      cases hb : l[m] with
      | false =>
        rw [hb] at hcx hcd
        have Hcd := Lib.hid hcd
        clear hcd hb hy
        go_wp2
        go_round
        case rel => exact ⟨m, 2 * x, (m : Int) - 1, rfl, by omega, by omega, by go_num, Lib.hid (by rw [Hcd.out]; simp)⟩
        case measure => simp [intOf]
      | true =>
        rw [hb] at hcx hcd
        have Hcd := Lib.hid hcd
        clear hcd hb hy
        go_wp2
        go_round
        case rel => exact ⟨m, 2 * x + 1, (m : Int) - 1, rfl, by omega, by omega, by go_num, Lib.hid (by rw [Hcd.out]; simp; omega)⟩
        case measure => simp [intOf]
    · obtain rfl : j = 0 := by omega
      have Hx' : Hid (x = numL l) := Lib.hid (by rw [Hx.out, List.drop_zero])
      go_wp2
      go_ret
      exact ⟨by rw [Hx'.out]; rfl, rfl⟩

theorem number_len (p : Option Addr) (c n : Nat) (l : List Bool) (w : World) (hn : n = l.length) (hl : l.length ≤ 24) (hc : BitsAt w p l) :
    Calls Tryz.prog 99 #[.slice p n c] w fun e w' => e = .returned (.int .u32 ((numL l : Nat) : Int)) ∧ w' = w := by
  subst hn; exact number_any p c l w hl hc

theorem BitsAt.below {W W' : World} {p : Option Addr} {l : List Bool} (h : BitsAt W p l) (hb : Below W.heap.size W W') : BitsAt W' p l := fun i hi => by
  obtain ⟨g, off, e, hc⟩ := h i hi
  exact ⟨g, off, e, cell_later hb hc⟩

/-- A part of a row of bits. -/
theorem BitsAt.part {W : World} {g off : Nat} {l : List Bool} (h : BitsAt W (some ⟨g, off, none⟩) l) (a n : Nat) : BitsAt W (some ⟨g, off + a, none⟩) ((l.drop a).take n) := fun i hi => by
  rw [List.length_take, List.length_drop] at hi
  obtain ⟨g', off', e, hc⟩ := h (a + i) (by omega)
  cases e
  refine ⟨_, _, rfl, ?_⟩
  rw [Nat.add_assoc, hc]
  simp

theorem Rw8.cells {W : World} {v : Value} {l : List Nat} (h : Rw8 W v l) : ∃ p c, v = .slice p l.length c ∧ l.length ≤ c ∧ c ≤ maxLen ∧ ∀ i (hi : i < l.length), ∃ g off, p = some ⟨g, off, none⟩ ∧ W.cell? ⟨g, off + i, none⟩ = some (.int .u8 (l[i] : Int)) := by
  obtain ⟨⟨p, c, e, h1, h2, h3⟩, -⟩ := h
  refine ⟨p, c, e, h1, h2, fun i hi => ?_⟩
  rcases h3 with ⟨-, rfl⟩ | ⟨g, off, rfl, -, h4⟩
  · simp at hi
  · have := h4 i l[i] (List.getElem?_eq_getElem hi) 0 _ rfl
    rw [Nat.mul_one, Nat.add_zero] at this
    exact ⟨g, off, rfl, this⟩

/-- What is appended to a row of bits: a row of bits. -/
theorem rwb_src {w : World} {v : Value} {l : List Bool} (h : RwB w v l) : ∃ p c, v = .slice p l.length c ∧ ((p = none ∧ l.length = 0 ∧ c = 0) ∨ ∃ ad, p = some ad ∧ ∀ j u, (l.map Value.bool)[j]? = some u → w.cell? (ad.add j) = some u) := by
  obtain ⟨p, c, h1, -, -, h2⟩ := h.src encB_len (by decide)
  rw [flatB] at h2
  exact ⟨p, c, h1, h2⟩

set_option maxHeartbeats 4000000 in
set_option maxRecDepth 100000 in
theorem refOf_any (v : Value) (l : List Nat) (w : World) (hv : Rw8 w v l) (hb : ∀ b ∈ l, b < 256) (hlen : l.length ≤ 1048576) :
    Calls Tryz.prog 30 #[v] w fun e w' => ∃ u, e = .returned u ∧ OwnB w' w.heap.size u (ofB l) ∧ Below w.heap.size w w' := by
  obtain ⟨p, c, rfl, hc1, hc2, hcell⟩ := hv.cells
  obtain ⟨i0, hi0, hz0, hz1, hz2⟩ := info_parts bool_info
  have Hc := Lib.hid hcell
  have Hv := Lib.hid hb
  clear hv hcell hc2 hb
  go_enter Tryz.func30, Tryz.ntmps30
  go_wp2
  go_loopw [3, 4] (fun o i wr => ∃ k : Nat, i = .int .i64 (k : Int) ∧ k ≤ l.length ∧ Hid (OwnB wr w.heap.size o (ofB (l.take k))) ∧ Hid (Below w.heap.size w wr)) (fun _ i _ => l.length - (intOf i).toNat)
  case atStart => exact ⟨0, rfl, Nat.zero_le _, Lib.hid (World.ownsRow_nil _ _ _ _), Lib.hid (Below.refl _ _)⟩
  case round =>
    obtain ⟨k, rfl, hk, Ho, Hb⟩ := hrel
    by_cases hlt : k < l.length
    · obtain ⟨g, off, rfl, hcx⟩ := Hc.out k hlt
      have hcx' := cell_later Hb.out hcx
      have hb256 := Hv.out l[k] (List.getElem_mem hlt)
      have Htk := Lib.hid (show ofB (l.take (k + 1)) = ofB (l.take k) ++ bitsL l[k] 8 by rw [List.take_succ_eq_append_getElem hlt, ofB_snoc])
      have hs := Hb.out.size
      generalize l[k] = b at *
      clear hcx
      have hol := ofB_len (l.take k)
      rw [List.length_take, Nat.min_eq_left hk] at hol
      have hos := owns_slice Ho.out
      rw [hol] at hos
      obtain ⟨po, co, rfl⟩ := hos
      have Hol := Lib.hid hol
      clear hol
      go_wp2_with fail
      refine Calls.mono (refBits_any b 8 _ (by omega) (by omega)) ?_
      rintro e w1 ⟨u, rfl, hob, hb1⟩
      obtain ⟨pu, cu, rfl, hsrc⟩ := rwb_src hob.rw
      rw [bitsL_len] at hsrc ⊢
      have Hsrc := Lib.hid hsrc
      have Ho1 := Lib.hid ((Turns.of_below' (T := fun _ => False) hb1).owns Ho.out (fun _ _ h => h))
      have Hb1 := Lib.hid (Hb.out.trans (hb1.mono hs))
      have hs1 := Hb1.out.size
      clear hob hb1 hsrc hcx'
      go_wp2_with (at_builtin; refine wpList_append_mine _ rfl (.tmp 11) (.tmp 17) 63 rfl w.heap.size 4 i0 _ 1 1 Tryz.underlying63 hi0 hz0 hz1 hz2 rfl (by decide) (.slice po (8 * k) co) (8 * k) ((ofB (l.take k)).map Value.bool) rfl (by have := Ho1.out; rw [Hol.out] at this; exact this) pu 8 cu ((bitsL b 8).map Value.bool) rfl (by rw [List.length_map, bitsL_len]) Hsrc.out (oneB _) ?n3 ?n4 hs1 ?_)
      case n3 => simp only [maxLen]; omega
      case n4 => omega
      intro v' w2 ho2 hg2 _
      have Ho2 : Hid (OwnB w2 w.heap.size v' (ofB (l.take (k + 1)))) := Lib.hid (by
        unfold OwnB
        rw [Htk.out, List.map_append, List.length_append, Hol.out, bitsL_len]
        exact ho2)
      have Hb2 : Hid (Below w.heap.size w w2) := Lib.hid (Hb1.out.trans ((Turns.of_grown (T := fun b => (Value.slice po (8 * k) co).ownBlock = some b) hg2 (fun _ h => h)).below hs1 (fun i hi => (Ho1.out.lt i hi).1)))
      clear ho2 hg2 hs hs1
      go_wp2
      go_roundw
      case rel => exact ⟨k + 1, by go_num, by omega, Ho2, Hb2⟩
      case measure => simp [intOf]; omega
    · obtain rfl : k = l.length := by omega
      have Ho' : Hid (OwnB wr w.heap.size _ (ofB l)) := Lib.hid (by have := Ho.out; rw [List.take_length] at this; exact this)
      obtain ⟨po, co, rfl⟩ := owns_slice Ho'.out
      clear Ho
      go_wp2
      go_ret
      exact ⟨_, rfl, Ho'.out, Hb.out⟩

theorem alignN_rem (n : Nat) : n % 8 ≠ 0 → alignN (n + 1) = alignN n := by unfold alignN; omega
theorem alignN_le (n : Nat) : n ≤ alignN n := by unfold alignN; omega
theorem alignN_of (n : Nat) (h : n % 8 = 0) : alignN n = n := by unfold alignN; omega

theorem refGet_arg (lv : Value) (a k : Int) (w : World) (hk : k < 0 ∨ 24 < k) :
    Calls Tryz.prog 62 #[lv, .int .i64 a, .int .i64 k] w fun e w' => e = .returned (.tuple #[.int .u32 0, .int .i64 a, .int .i64 1]) ∧ w' = w := by
  by_cases h0 : k < 0
  · have d0 : decide (k < 0) = true := by simpa using h0
    go_enter Tryz.func62, Tryz.ntmps62
    go_wp2
    go_ret3
    exact ⟨rfl, rfl⟩
  · have d0 : decide (k < 0) = false := by simpa using h0
    have d1 : decide (24 < k) = true := by simp; omega
    clear hk
    go_enter Tryz.func62, Tryz.ntmps62
    go_wp2
    go_ret3
    exact ⟨rfl, rfl⟩

theorem refGet_few (p : Option Addr) (n c a k : Nat) (w : World) (hk : k ≤ 24) (ha : a ≤ n) (hfit : n < a + k) :
    Calls Tryz.prog 62 #[.slice p n c, .int .i64 (a : Int), .int .i64 (k : Int)] w fun e w' => e = .returned (.tuple #[.int .u32 0, .int .i64 (a : Int), .int .i64 50]) ∧ w' = w := by
  have d0 : decide ((k : Int) < 0) = false := by simp
  have d1 : decide ((24 : Int) < (k : Int)) = false := by simp; omega
  have d2 : (n : Int) - (a : Int) < (k : Int) := by omega
  go_enter Tryz.func62, Tryz.ntmps62
  go_wp2
  go_ret3
  exact ⟨rfl, rfl⟩

set_option maxHeartbeats 2000000 in
theorem refGet_ok (lv : Value) (l : List Bool) (a k : Nat) (w : World) (hl : RwB w lv l) (hk : k ≤ 24) (hn : l.length ≤ 8388608) (hfit : a + k ≤ l.length) :
    Calls Tryz.prog 62 #[lv, .int .i64 (a : Int), .int .i64 (k : Int)] w fun e w' => e = .returned (.tuple #[.int .u32 ((numL l / 2 ^ a % 2 ^ k : Nat) : Int), .int .i64 ((a + k : Nat) : Int), .int .i64 0]) ∧ w' = w := by
  have d0 : decide ((k : Int) < 0) = false := by simp
  have d1 : decide ((24 : Int) < (k : Int)) = false := by simp; omega
  have d2 : ¬ ((l.length : Int) - (a : Int) < (k : Int)) := by omega
  obtain ⟨p, c, rfl, hc1, hc2, hcell⟩ := hl.cells
  have hc63 : c ≤ 9223372036854775807 := by simp only [maxLen] at hc2; omega
  have Hseg := Lib.hid (numL_seg l a k hfit)
  have Hlen : Hid (k = ((l.drop a).take k).length) := Lib.hid (by rw [List.length_take, List.length_drop]; omega)
  have Hk24 : Hid (((l.drop a).take k).length ≤ 24) := Lib.hid (by rw [List.length_take, List.length_drop]; omega)
  by_cases hca : c = a
  · subst hca
    obtain rfl : k = 0 := by omega
    have Hat : Hid (BitsAt w p ((l.drop c).take 0)) := Lib.hid (fun i hi => by simp at hi)
    clear hl hcell hc2
    go_enter Tryz.func62, Tryz.ntmps62
    go_wp2_with fail
    refine Calls.mono (number_len _ _ _ _ _ Hlen.out Hk24.out Hat.out) ?_
    rintro e w1 ⟨rfl, rfl⟩
    rw [Hseg.out]
    go_wp2
    go_ret3
    exact ⟨by simp [Nat.mod_one], rfl⟩
  · have Hat : Hid (BitsAt w (p.map fun x => x.add a) ((l.drop a).take k)) := Lib.hid (by
      rcases p with _ | ⟨g, off, s⟩
      · intro i hi
        rw [List.length_take, List.length_drop] at hi
        obtain ⟨_, _, e, _⟩ := hcell (a + i) (by omega)
        cases e
      · by_cases h0 : 0 < l.length
        · obtain ⟨_, _, e, _⟩ := hcell 0 h0
          cases e
          show BitsAt w (some ((⟨g, off, none⟩ : Addr).add a)) _
          rw [Addr.add_lit]
          exact BitsAt.part hcell a k
        · intro i hi
          rw [List.length_take, List.length_drop] at hi
          omega)
    clear hl hcell hc2
    go_enter Tryz.func62, Tryz.ntmps62
    go_wp2_with fail
    refine Calls.mono (number_len _ _ _ _ _ Hlen.out Hk24.out Hat.out) ?_
    rintro e w1 ⟨rfl, rfl⟩
    rw [Hseg.out]
    go_wp2
    go_ret3
    exact ⟨rfl, rfl⟩

end Go.Proofs.YtebfdoipogjpnaaGreat

/- huff's check, and the document's own. -/
namespace Go.Proofs.YtebfdoipogjpnaaGreat
open Go.RowKit

/-- The length of a symbol. -/
def lq (ls : List Nat) (i : Nat) : Nat := ls.getD i 0
theorem lq_at {ls : List Nat} {k : Nat} (h : k < ls.length) : ls[k] = lq ls k := by
  unfold lq
  rw [List.getD_eq_getElem?_getD, List.getElem?_eq_getElem h]; rfl

theorem RowAt.byte {W : World} {p : Option Addr} {xs : List Nat} (h : RowAt enc8 1 W p xs) {k : Nat} (hk : k < xs.length) : ∃ b off, p = some ⟨b, off, none⟩ ∧ W.cell? ⟨b, off + k, none⟩ = some (u8v (lq xs k)) := by
  rcases h with ⟨-, rfl⟩ | ⟨b, off, rfl, -, h⟩
  · simp at hk
  · refine ⟨b, off, rfl, ?_⟩
    have := h k xs[k] (List.getElem?_eq_getElem hk) 0 _ rfl
    rw [lq_at hk] at this
    simpa using this

/-- What is wrong with lengths. -/
def chk (ls : List Nat) : Int :=
  if 320 < ls.length ∨ ∃ i, i < ls.length ∧ 15 < lq ls i then 1
  else if many ls.length (lq ls) = 0 ∨ room ls.length 15 (lq ls) = 32768 ∨ (many ls.length (lq ls) = 1 ∧ room ls.length 15 (lq ls) = 16384) then 0 else 60

theorem chk_long {ls : List Nat} (h : 320 < ls.length) : chk ls = 1 := by unfold chk; rw [if_pos (.inl h)]
theorem chk_wide {ls : List Nat} {i : Nat} (h : i < ls.length) (h2 : 15 < lq ls i) : chk ls = 1 := by unfold chk; rw [if_pos (.inr ⟨i, h, h2⟩)]
theorem chk_rest {ls : List Nat} (h : ls.length ≤ 320) (h2 : ∀ i, i < ls.length → lq ls i ≤ 15) : chk ls = if many ls.length (lq ls) = 0 ∨ room ls.length 15 (lq ls) = 32768 ∨ (many ls.length (lq ls) = 1 ∧ room ls.length 15 (lq ls) = 16384) then 0 else 60 := by
  unfold chk
  rw [if_neg]
  rintro (h3 | ⟨i, h3, h4⟩)
  · omega
  · have := h2 i h3; omega

theorem many_succ (f : Nat → Nat) (k : Nat) : many (k + 1) f = many k f + (if 0 < f k then 1 else 0) := rfl
theorem room_succ (f : Nat → Nat) (L k : Nat) : room (k + 1) L f = room k L f + (if 0 < f k then 2 ^ (L - f k) else 0) := rfl
theorem many_le (f : Nat → Nat) : ∀ k, many k f ≤ k
  | 0 => Nat.le_refl _
  | k + 1 => by
    have := many_le f k
    rw [many_succ]; split <;> omega
theorem room_le (f : Nat → Nat) (L : Nat) : ∀ k, room k L f ≤ k * 2 ^ L
  | 0 => by simp [room, sm]
  | k + 1 => by
    have h1 := room_le f L k
    have h2 : 2 ^ (L - f k) ≤ 2 ^ L := Nat.pow_le_pow_right (by decide) (by omega)
    rw [room_succ, Nat.add_mul]; split <;> omega

theorem shr_15 {n : Nat} (h : n ≤ 15) : (32768 : Int) / 2 ^ n = ((2 ^ (15 - n) : Nat) : Int) := by
  have e : (32768 : Nat) = 2 ^ (15 - n) * 2 ^ n := by rw [← Nat.pow_add, show 15 - n + n = 15 by omega]
  have : (32768 : Nat) / 2 ^ n = 2 ^ (15 - n) := by
    rw [e]; exact Nat.mul_div_cancel _ (pow_pos2 n)
  rw [← this]
  simp

set_option maxRecDepth 20000 in
set_option maxHeartbeats 1000000 in
theorem check_any (ls : List Nat) (v : Value) (w : World) (hv : Row enc8 1 w v ls) :
    Calls Tryz.prog 199 #[v] w fun e w' => e = .returned (.int .i64 (chk ls)) ∧ w' = w := by
  have hlen := hv.len
  obtain ⟨p, c, rfl, -, -, hrow⟩ := hv
  have Hrow := Lib.hid hrow
  obtain ⟨r, hr⟩ : ∃ r, chk ls = r := ⟨_, rfl⟩
  rw [hr]
  have Hr := Lib.hid hr
  clear hrow hr
  by_cases h320 : 320 < ls.length
  · have e0 : (320 : Int) < ls.length := by omega
    obtain rfl : r = 1 := by rw [← Hr.out]; exact chk_long h320
    go_enter Tryz.func199, Tryz.ntmps199
    go_wp2
    go_ret
    exact ⟨rfl, rfl⟩
  · have e0 : ¬ (320 : Int) < ls.length := by omega
    go_enter Tryz.func199, Tryz.ntmps199
    go_wp2
    go_loop [3, 4, 12] (fun cv sv kv => ∃ (k m s : Nat), cv = .int .i64 (m : Int) ∧ sv = .int .i64 (s : Int) ∧ kv = .int .i64 (k : Int) ∧ k ≤ ls.length ∧ m ≤ 320 ∧ s ≤ 320 * 32768 ∧ Hid (m = many k (lq ls) ∧ s = room k 15 (lq ls) ∧ ∀ i, i < k → lq ls i ≤ 15)) (fun _ _ kv => ls.length - (intOf kv).toNat)
    case atStart => exact ⟨0, 0, 0, rfl, rfl, rfl, Nat.zero_le _, by omega, by omega, Lib.hid ⟨rfl, rfl, fun i hi => by omega⟩⟩
    case round =>
      obtain ⟨k, m, s, rfl, rfl, rfl, hk, hm, hs, HI⟩ := hrel
      by_cases hlt : k < ls.length
      · obtain ⟨g, off, rfl, hcell⟩ := Hrow.out.byte hlt
        obtain ⟨x, hx⟩ : ∃ x, lq ls k = x := ⟨_, rfl⟩
        rw [hx] at hcell
        unfold u8v at hcell
        have k0 : (0 : Int) ≤ (k : Int) := by omega
        have k1 : (k : Int) < (ls.length : Int) := by omega
        have Hx := Lib.hid hx
        clear hx
        by_cases hx15 : 15 < x
        · obtain rfl : r = 1 := by rw [← Hr.out]; exact chk_wide hlt (by rw [Hx.out]; exact hx15)
          have e1 : decide (15 < x) = true := by simpa using hx15
          go_wp2
          go_ret
          exact ⟨rfl, rfl⟩
        · have e1 : decide (15 < x) = false := by simpa using hx15
          by_cases hx0 : 0 < x
          · have e2 : decide (0 < x) = true := by simpa using hx0
            have hsh := shr_15 (n := x) (by omega)
            obtain ⟨y, hy⟩ : ∃ y, 2 ^ (15 - x) = y := ⟨_, rfl⟩
            rw [hy] at hsh
            have HI1 : Hid (m + 1 = many (k + 1) (lq ls) ∧ s + y = room (k + 1) 15 (lq ls) ∧ ∀ i, i < k + 1 → lq ls i ≤ 15) := Lib.hid (by
              obtain ⟨a1, a2, a3⟩ := HI.out
              rw [many_succ, room_succ, Hx.out, if_pos hx0, if_pos hx0, ← a1, ← a2, hy]
              refine ⟨rfl, rfl, fun i hi => ?_⟩
              rcases Nat.lt_or_ge i k with h | h
              · exact a3 i h
              · obtain rfl : i = k := by omega
                rw [Hx.out]; omega)
            have hb1 : m + 1 ≤ 320 := by rw [HI1.out.1]; have := many_le (lq ls) (k + 1); omega
            have hb2 : s + y ≤ 320 * 32768 := by
              rw [HI1.out.2.1]
              have h5 := room_le (lq ls) 15 (k + 1)
              have h6 : (2 : Nat) ^ 15 = 32768 := rfl
              rw [h6] at h5
              exact Nat.le_trans h5 (Nat.mul_le_mul_right _ (by omega))
            clear hy
            go_wp2
            go_round
            case rel => exact ⟨k + 1, m + 1, s + y, by go_num, by go_num, by go_num, by omega, hb1, hb2, HI1⟩
            case measure => simp [intOf]; omega
          · have e2 : decide (0 < x) = false := by simpa using hx0
            have HI1 : Hid (m = many (k + 1) (lq ls) ∧ s = room (k + 1) 15 (lq ls) ∧ ∀ i, i < k + 1 → lq ls i ≤ 15) := Lib.hid (by
              obtain ⟨a1, a2, a3⟩ := HI.out
              rw [many_succ, room_succ, Hx.out, if_neg hx0, if_neg hx0, ← a1, ← a2]
              refine ⟨rfl, rfl, fun i hi => ?_⟩
              rcases Nat.lt_or_ge i k with h | h
              · exact a3 i h
              · obtain rfl : i = k := by omega
                rw [Hx.out]; omega)
            go_wp2
            go_round
            case rel => exact ⟨k + 1, m, s, rfl, rfl, by go_num, by omega, hm, hs, HI1⟩
            case measure => simp [intOf]; omega
      · obtain rfl : k = ls.length := by omega
        obtain ⟨a1, a2, a3⟩ := HI.out
        have hr := Hr.out
        rw [chk_rest (by omega) a3, ← a1, ← a2] at hr
        clear a1 a2 a3
        by_cases m0 : m = 0
        · obtain rfl : r = 0 := by rw [← hr, if_pos (.inl m0)]
          subst m0
          go_wp2
          go_ret
          exact ⟨rfl, rfl⟩
        · have q0 : ((m : Int) == 0) = false := by simp; omega
          by_cases s0 : s = 32768
          · obtain rfl : r = 0 := by rw [← hr, if_pos (.inr (.inl s0))]
            subst s0
            go_wp2
            go_ret
            exact ⟨rfl, rfl⟩
          · have q1 : ((s : Int) == 32768) = false := by simp; omega
            by_cases m1 : m = 1
            · subst m1
              by_cases s1 : s = 16384
              · obtain rfl : r = 0 := by rw [← hr, if_pos (.inr (.inr ⟨rfl, s1⟩))]
                subst s1
                go_wp2
                go_ret
                exact ⟨rfl, rfl⟩
              · have q2 : ((s : Int) == 16384) = false := by simp; omega
                obtain rfl : r = 60 := by
                  rw [← hr, if_neg]
                  omega
                go_wp2
                go_ret
                exact ⟨rfl, rfl⟩
            · have q2 : ((m : Int) == 1) = false := by simp; omega
              obtain rfl : r = 60 := by
                rw [← hr, if_neg]
                omega
              go_wp2
              go_ret
              exact ⟨rfl, rfl⟩

end Go.Proofs.YtebfdoipogjpnaaGreat

/- huff's turned. -/
namespace Go.Proofs.YtebfdoipogjpnaaGreat
open Go.RowKit

/-- So many bits of a number, the first one becomes the highest. -/
def trn : Nat → Nat → Nat → Nat
  | 0, acc, _ => acc
  | s + 1, acc, x => trn s (acc * 2 + x % 2) (x / 2)

theorem and_one_u32 (x : Nat) (h : x < 4294967296) : bits .and .u32 (x : Int) 1 = ((x % 2 : Nat) : Int) := by
  have := bits_mask .u32 32 (by decide) (fun m h0 h1 => by rw [IntKind.wrap_u32]; omega) 1 (by omega) x (by omega) (by omega)
  simpa using this

theorem or_low_u16 (a b : Nat) (ha : a < 32768) (hb : b < 2) : bits .or .u16 ((a : Int) * 2) (b : Int) = ((a * 2 + b : Nat) : Int) := by
  have e : ((a : Int) * 2) = ((a * 2 : Nat) : Int) := by simp
  rw [e, (bits_nat .u16 16 (by decide) (fun m h0 h1 => by rw [IntKind.wrap_u16]; omega) (a * 2) b (by omega) (by omega)).2]
  have h := Nat.two_pow_add_eq_or_of_lt (i := 1) (b := b) (by omega) a
  rw [Nat.mul_comm a 2]
  simp only [Nat.pow_one] at h
  rw [h]

set_option maxHeartbeats 1000000 in
theorem turned_any (x s : Nat) (w : World) (hx : x < 4294967296) (hs : s ≤ 15) :
    Calls Tryz.prog 217 #[.int .u32 (x : Int), .int .u8 (s : Int)] w fun e w' => e = .returned (.int .u16 ((trn s 0 x : Nat) : Int)) ∧ w' = w := by
  obtain ⟨r, hr⟩ : ∃ r, trn s 0 x = r := ⟨_, rfl⟩
  rw [hr]
  have Hr := Lib.hid hr
  clear hr
  go_enter Tryz.func217, Tryz.ntmps217
  go_wp2
  go_loop [0, 5, 7] (fun xv av kv => ∃ (k y a : Nat), xv = .int .u32 (y : Int) ∧ av = .int .u16 (a : Int) ∧ kv = .int .u8 (k : Int) ∧ k ≤ s ∧ y < 4294967296 ∧ Hid (a < 2 ^ k ∧ trn (s - k) a y = r)) (fun _ _ kv => s - (intOf kv).toNat)
  case atStart => exact ⟨0, x, 0, rfl, rfl, rfl, Nat.zero_le _, hx, Lib.hid ⟨by simp, Hr.out⟩⟩
  case round =>
    obtain ⟨k, y, a, rfl, rfl, rfl, hk, hy, HI⟩ := hrel
    by_cases hlt : k < s
    · have d0 : decide (k < s) = true := by simpa using hlt
      have ha : a < 32768 := by
        have h1 := HI.out.1
        have h2 : 2 ^ k ≤ 2 ^ 14 := Nat.pow_le_pow_right (by decide) (by omega)
        have h3 : (2 : Nat) ^ 14 = 16384 := rfl
        omega
      have hand := and_one_u32 y hy
      obtain ⟨b, hb⟩ : ∃ b, y % 2 = b := ⟨_, rfl⟩
      rw [hb] at hand
      have hb2 : b < 2 := by omega
      have hor := or_low_u16 a b ha hb2
      obtain ⟨c, hc⟩ : ∃ c, a * 2 + b = c := ⟨_, rfl⟩
      rw [hc] at hor
      have HI1 : Hid (c < 2 ^ (k + 1) ∧ trn (s - (k + 1)) c (y / 2) = r) := Lib.hid (by
        obtain ⟨h1, h2⟩ := HI.out
        rw [show s - k = (s - (k + 1)) + 1 by omega, trn, hb, hc] at h2
        refine ⟨?_, h2⟩
        rw [Nat.pow_succ]; omega)
      have hc16 : c < 65536 := by omega
      clear hb hc
      go_wp2
      go_round
      case rel => exact ⟨k + 1, y / 2, c, by go_num, by go_num, by go_num, by omega, by omega, HI1⟩
      case measure => simp [intOf]; omega
    · obtain rfl : k = s := by omega
      have d0 : decide (k < k) = false := by simp
      have h2 := HI.out.2
      rw [Nat.sub_self, trn] at h2
      subst h2
      go_wp2
      go_ret
      exact ⟨rfl, rfl⟩

end Go.Proofs.YtebfdoipogjpnaaGreat
