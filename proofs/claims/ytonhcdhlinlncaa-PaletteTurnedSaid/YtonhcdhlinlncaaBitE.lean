/- The document's own bits: Bits, May, Number, Bytes, Of, Put, Align, Get. -/
import Derived.Test.YtonhcdhlinlncaaBitC
namespace Go.Proofs.Ytonhcdhlinlncaa
open Go.RowKit

/-- Bits as cells. -/
def encB (b : Bool) : List Value := [.bool b]
theorem encB_len (b : Bool) : (encB b).length = 1 := rfl
theorem flatB : ∀ l : List Bool, l.flatMap encB = l.map Value.bool
  | [] => rfl
  | b :: r => by rw [List.flatMap_cons, flatB r]; rfl
theorem oneB (l : List Bool) : ∀ u ∈ l.map Value.bool, u.oneCell' = true := by
  intro u hu
  obtain ⟨b, _, rfl⟩ := List.mem_map.1 hu
  rfl

theorem bool_info : (Try.prog.info? 4).map (fun i => (i.zero, i.size, i.bytes)) = some (some (.bool false), 1, 1) := by kernel_rfl

/-- A row of bits that reads so. -/
abbrev RwB (w : World) (v : Value) (l : List Bool) : Prop := RwG encB 1 w v l

/-- A row of bits of its own. -/
def OwnB (w : World) (base : Nat) (v : Value) (l : List Bool) : Prop := w.ownsRow base 4 1 v l.length (l.map Value.bool)

theorem OwnB.rw {w : World} {base : Nat} {v : Value} {l : List Bool} (h : OwnB w base v l) : RwB w v l := by
  unfold OwnB at h
  rw [← flatB] at h
  exact RwG.owned encB_len h

set_option maxHeartbeats 1000000 in
theorem refBits_any (v n : Nat) (w : World) (hv : v < 4294967296) (hn : n ≤ 24) :
    Calls Try.prog 20 #[.int .u32 (v : Int), .int .i64 (n : Int)] w fun e w' => ∃ u, e = .returned u ∧ OwnB w' w.heap.size u (bitsL v n) ∧ Below w.heap.size w w' := by
  go_enter Try.func20, Try.ntmps20
  go_wp2
  go_loopw [0, 5, 6] (fun a o i wr => ∃ (k x : Nat), i = .int .i64 (k : Int) ∧ k ≤ n ∧ a = .int .u32 (x : Int) ∧ x < 4294967296 ∧ Hid (x = v / 2 ^ k) ∧ Hid (OwnB wr w.heap.size o (bitsL v k)) ∧ Hid (Below w.heap.size w wr)) (fun _ _ i _ => n - (intOf i).toNat)
  case atStart => exact ⟨0, v, rfl, Nat.zero_le _, rfl, hv, Lib.hid (by simp), Lib.hid (World.ownsRow_nil _ _ _ _), Lib.hid (Below.refl _ _)⟩
  case round =>
    obtain ⟨k, x, rfl, hk, rfl, hx, Hx, Ho, Hb⟩ := hrel
    have hos := owns_slice Ho.out
    rw [bitsL_len] at hos
    obtain ⟨p, c, rfl⟩ := hos
    by_cases hlt : k < n
    · obtain ⟨bb, hbb⟩ : ∃ bb : Bool, decide (x % 2 = 1) = bb := ⟨_, rfl⟩
      have hB : (((x : Int) % 2 : Int) == 1) = bb := by
        rw [← hbb, Bool.eq_iff_iff]; simp; omega
      have Hbb := Lib.hid hbb
      clear hbb
      have hs := Hb.out.size
      go_wp2_with (at_builtin; refine wpList_append_one wr rfl (.tmp 12) (.tmp 16) 46 rfl w.heap.size 4 _ 1 bool_info Try.underlying46 rfl (.slice p k c) k ((bitsL v k).map Value.bool) rfl (by have := Ho.out; unfold OwnB at this; rw [bitsL_len] at this; exact this) (.bool bb) _ rfl rfl ?n3 ?n4 hs ?_)
      case n3 => simp only [maxLen]; omega
      case n4 => omega
      intro g cap w1 ho1 ht1 hg1
      have Ho1 : Hid (OwnB w1 w.heap.size (.slice (some ⟨g, 0, none⟩) (k + 1) cap) (bitsL v (k + 1))) := Lib.hid (by
        unfold OwnB
        rw [bitsL_len, bitsL_snoc, ← Hx.out, Hbb.out, List.map_append]
        exact ho1)
      have Hb1 : Hid (Below w.heap.size w w1) := Lib.hid (Hb.out.trans (ht1.below hs (fun i hi => (Ho.out.lt i hi).1)))
      have Hx2 : Hid (x / 2 = v / 2 ^ (k + 1)) := Lib.hid (by rw [Hx.out, Nat.pow_succ, Nat.div_div_eq_div_mul])
      clear ho1 ht1 hg1 hs
      go_wp2
      go_roundw
      case rel => exact ⟨k + 1, x / 2, by go_num, by omega, by go_num, by omega, Hx2, Ho1, Hb1⟩
      case measure => simp [intOf]; omega
    · obtain rfl : k = n := by omega
      go_wp2
      go_ret
      exact ⟨_, rfl, Ho.out, Hb.out⟩

theorem numL_cons_drop (l : List Bool) (m : Nat) (h : m < l.length) : numL (l.drop m) = l[m].toNat + 2 * numL (l.drop (m + 1)) := by
  rw [List.drop_eq_getElem_cons h]; rfl

theorem RwB.cells {W : World} {v : Value} {l : List Bool} (h : RwB W v l) : ∃ p c, v = .slice p l.length c ∧ l.length ≤ c ∧ c ≤ maxLen ∧ ∀ i (hi : i < l.length), ∃ g off, p = some ⟨g, off, none⟩ ∧ W.cell? ⟨g, off + i, none⟩ = some (.bool l[i]) := by
  obtain ⟨⟨p, c, e, h1, h2, h3⟩, -⟩ := h
  refine ⟨p, c, e, h1, h2, fun i hi => ?_⟩
  rcases h3 with ⟨-, rfl⟩ | ⟨g, off, rfl, -, h4⟩
  · simp at hi
  · have := h4 i l[i] (List.getElem?_eq_getElem hi) 0 _ rfl
    rw [Nat.mul_one, Nat.add_zero] at this
    exact ⟨g, off, rfl, this⟩

/-- Where each bit lies. -/
def BitsAt (W : World) (p : Option Addr) (l : List Bool) : Prop := ∀ i (hi : i < l.length), ∃ g off, p = some ⟨g, off, none⟩ ∧ W.cell? ⟨g, off + i, none⟩ = some (.bool l[i])

set_option maxHeartbeats 2000000 in
theorem number_any (p : Option Addr) (c : Nat) (l : List Bool) (w : World) (hl : l.length ≤ 24) (hc : BitsAt w p l) :
    Calls Try.prog 26 #[.slice p l.length c] w fun e w' => e = .returned (.int .u32 ((numL l : Nat) : Int)) ∧ w' = w := by
  have Hc := Lib.hid hc
  clear hc
  go_enter Try.func26, Try.ntmps26
  go_wp2
  go_loop [3, 4] (fun a i => ∃ (j x : Nat) (y : Int), i = .int .i64 y ∧ y + 1 = (j : Int) ∧ j ≤ l.length ∧ a = .int .u32 (x : Int) ∧ Hid (x = numL (l.drop j))) (fun _ i => (intOf i + 1).toNat)
  case atStart => exact ⟨l.length, 0, _, rfl, by omega, Nat.le_refl _, rfl, Lib.hid (by rw [List.drop_length]; rfl)⟩
  case round =>
    obtain ⟨j, x, y, rfl, hy, hj, rfl, Hx⟩ := hrel
    by_cases h0 : 0 ≤ y
    · obtain ⟨m, rfl⟩ := Int.eq_ofNat_of_zero_le h0
      obtain rfl : j = m + 1 := by omega
      have hml : m < l.length := by omega
      obtain ⟨g, off, rfl, hcx⟩ := Hc.out m hml
      have hxb : x < 16777216 := by
        have h1 := numL_lt (l.drop (m + 1))
        have h2 : 2 ^ (l.drop (m + 1)).length ≤ 2 ^ 24 := Nat.pow_le_pow_right (by decide) (by rw [List.length_drop]; omega)
        have h3 : (2 : Nat) ^ 24 = 16777216 := rfl
        rw [Hx.out]
        omega
      have hcd := numL_cons_drop l m hml
      rw [← Hx.out] at hcd
      cases hb : l[m] with
      | false =>
        rw [hb] at hcx hcd
        have Hcd := Lib.hid hcd
        clear hcd hb hy
        go_wp2
        go_round
        case rel => exact ⟨m, 2 * x, (m : Int) - 1, rfl, by omega, by omega, by go_num, Lib.hid (by rw [Hcd.out]; simp)⟩
        case measure => simp [intOf]
      | true =>
        rw [hb] at hcx hcd
        have Hcd := Lib.hid hcd
        clear hcd hb hy
        go_wp2
        go_round
        case rel => exact ⟨m, 2 * x + 1, (m : Int) - 1, rfl, by omega, by omega, by go_num, Lib.hid (by rw [Hcd.out]; simp; omega)⟩
        case measure => simp [intOf]
    · obtain rfl : j = 0 := by omega
      have Hx' : Hid (x = numL l) := Lib.hid (by rw [Hx.out, List.drop_zero])
      go_wp2
      go_ret
      exact ⟨by rw [Hx'.out]; rfl, rfl⟩

theorem number_len (p : Option Addr) (c n : Nat) (l : List Bool) (w : World) (hn : n = l.length) (hl : l.length ≤ 24) (hc : BitsAt w p l) :
    Calls Try.prog 26 #[.slice p n c] w fun e w' => e = .returned (.int .u32 ((numL l : Nat) : Int)) ∧ w' = w := by
  subst hn; exact number_any p c l w hl hc

theorem BitsAt.below {W W' : World} {p : Option Addr} {l : List Bool} (h : BitsAt W p l) (hb : Below W.heap.size W W') : BitsAt W' p l := fun i hi => by
  obtain ⟨g, off, e, hc⟩ := h i hi
  exact ⟨g, off, e, cell_later hb hc⟩

/-- A part of a row of bits. -/
theorem BitsAt.part {W : World} {g off : Nat} {l : List Bool} (h : BitsAt W (some ⟨g, off, none⟩) l) (a n : Nat) : BitsAt W (some ⟨g, off + a, none⟩) ((l.drop a).take n) := fun i hi => by
  rw [List.length_take, List.length_drop] at hi
  obtain ⟨g', off', e, hc⟩ := h (a + i) (by omega)
  cases e
  refine ⟨_, _, rfl, ?_⟩
  rw [Nat.add_assoc, hc]
  simp

set_option maxHeartbeats 4000000 in
set_option maxRecDepth 100000 in
theorem refBytes_any (v : Value) (l : List Bool) (w : World) (hv : RwB w v l) (hlen : l.length ≤ 8388608) :
    Calls Try.prog 22 #[v] w fun e w' => ∃ u, e = .returned u ∧ Own8 w.heap.size (byts (numL l) ((l.length + 7) / 8)) w w' u := by
  obtain ⟨p, c, rfl, hc1, hc2, hcell⟩ := hv.cells
  have hc63 : c ≤ 9223372036854775807 := by simp only [maxLen] at hc2; omega
  have Hc : Hid (BitsAt w p l) := Lib.hid hcell
  clear hv hcell hc2
  go_enter Try.func22, Try.ntmps22
  go_wp2
  go_loopw [3, 4] (fun o i wr => ∃ q : Nat, i = .int .i64 ((8 * q : Nat) : Int) ∧ q ≤ (l.length + 7) / 8 ∧ Hid (wr.ownsRow w.heap.size 5 1 o q ((byts (numL l) q).map u8v)) ∧ Hid (Below w.heap.size w wr)) (fun _ i _ => l.length + 8 - (intOf i).toNat)
  case atStart => exact ⟨0, rfl, Nat.zero_le _, Lib.hid (World.ownsRow_nil _ _ _ _), Lib.hid (Below.refl _ _)⟩
  case round =>
    obtain ⟨q, rfl, hq, Ho, Hb⟩ := hrel
    obtain ⟨po, co, rfl⟩ := owns_slice Ho.out
    by_cases hlt : 8 * q < l.length
    · obtain ⟨g, off, rfl, -⟩ := Hc.out 0 (by omega)
      have Hcb := Lib.hid ((Hc.out.below Hb.out).part (8 * q) 8)
      have Hnum := Lib.hid (numL_byte l q (by omega))
      have hs := Hb.out.size
      obtain ⟨s, hsz⟩ : ∃ s, ((l.drop (8 * q)).take 8).length = s := ⟨_, rfl⟩
      have hs8 : s = min 8 (l.length - 8 * q) := by rw [← hsz, List.length_take, List.length_drop]
      obtain ⟨x, hx⟩ : ∃ x, 8 * q = x := ⟨_, rfl⟩
      rw [hx] at hlt hs8 Hcb
      rw [hx] at hsz Hnum
      have Hx := Lib.hid hx
      have Hsz := Lib.hid hsz
      clear hx hsz
      rw [Hx.out]
      by_cases hm : x + 8 ≤ l.length
      · obtain rfl : s = 8 := by omega
        clear hs8
        go_wp2_with fail
        refine Calls.mono (number_len _ _ _ _ _ Hsz.out.symm (by rw [Hsz.out]; omega) Hcb.out) ?_
        rintro e w1 ⟨rfl, rfl⟩
        rw [Hnum.out]
        have hb256 : numL l / 256 ^ q % 256 < 256 := Nat.mod_lt _ (by decide)
        obtain ⟨b, hb⟩ : ∃ b, numL l / 256 ^ q % 256 = b := ⟨_, rfl⟩
        rw [hb] at hb256 ⊢
        have Hbb := Lib.hid hb
        clear hb
        go_wp2_with (at_builtin; refine wpList_append_one w1 rfl (.tmp 11) (.tmp 22) 23 rfl w.heap.size 5 _ 1 u8_info Try.underlying23 rfl (.slice po q co) q ((byts (numL l) q).map u8v) rfl Ho.out (.int .u8 (b : Int)) _ rfl rfl ?n1 ?n2 hs ?_)
        case n1 => simp only [maxLen]; omega
        case n2 => omega
        intro g1 cap w2 ho1 ht1 hg1
        have Ho1 : Hid (w2.ownsRow w.heap.size 5 1 (.slice (some ⟨g1, 0, none⟩) (q + 1) cap) (q + 1) ((byts (numL l) (q + 1)).map u8v)) := Lib.hid (by
          rw [byts_snoc, Hbb.out, List.map_append]
          exact ho1)
        have Hb1 : Hid (Below w.heap.size w w2) := Lib.hid (Hb.out.trans (ht1.below hs (fun i hi => (Ho.out.lt i hi).1)))
        clear ho1 ht1 hg1 hs
        have hxx := Hx.out
        have hx8 : x + 8 = 8 * (q + 1) := by omega
        have Hx8 := Lib.hid hx8
        clear hxx hx8
        go_wp2
        go_roundw
        case rel => exact ⟨q + 1, by rw [← Hx8.out]; go_num, by have := Hx.out; omega, Ho1, Hb1⟩
        case measure => simp [intOf]; omega
      · obtain rfl : s = l.length - x := by omega
        clear hs8
        go_wp2_with fail
        refine Calls.mono (number_len _ _ _ _ _ Hsz.out.symm (by rw [Hsz.out]; omega) Hcb.out) ?_
        rintro e w1 ⟨rfl, rfl⟩
        rw [Hnum.out]
        have hb256 : numL l / 256 ^ q % 256 < 256 := Nat.mod_lt _ (by decide)
        obtain ⟨b, hb⟩ : ∃ b, numL l / 256 ^ q % 256 = b := ⟨_, rfl⟩
        rw [hb] at hb256 ⊢
        have Hbb := Lib.hid hb
        clear hb
        go_wp2_with (at_builtin; refine wpList_append_one w1 rfl (.tmp 11) (.tmp 22) 23 rfl w.heap.size 5 _ 1 u8_info Try.underlying23 rfl (.slice po q co) q ((byts (numL l) q).map u8v) rfl Ho.out (.int .u8 (b : Int)) _ rfl rfl ?m1 ?m2 hs ?_)
        case m1 => simp only [maxLen]; omega
        case m2 => omega
        intro g1 cap w2 ho1 ht1 hg1
        have Ho1 : Hid (w2.ownsRow w.heap.size 5 1 (.slice (some ⟨g1, 0, none⟩) (q + 1) cap) (q + 1) ((byts (numL l) (q + 1)).map u8v)) := Lib.hid (by
          rw [byts_snoc, Hbb.out, List.map_append]
          exact ho1)
        have Hb1 : Hid (Below w.heap.size w w2) := Lib.hid (Hb.out.trans (ht1.below hs (fun i hi => (Ho.out.lt i hi).1)))
        clear ho1 ht1 hg1 hs
        have hxx := Hx.out
        have hx8 : x + 8 = 8 * (q + 1) := by omega
        have Hx8 := Lib.hid hx8
        clear hxx hx8
        go_wp2
        go_roundw
        case rel => exact ⟨q + 1, by rw [← Hx8.out]; go_num, by have := Hx.out; omega, Ho1, Hb1⟩
        case measure => simp [intOf]; omega
    · have hq' : q = (l.length + 7) / 8 := by omega
      have Hq := Lib.hid hq'
      clear hq hq'
      go_wp2
      go_ret
      refine ⟨_, rfl, ?_, Hb.out⟩
      rw [byts_len, ← Hq.out]
      exact Ho.out

theorem Rw8.cells {W : World} {v : Value} {l : List Nat} (h : Rw8 W v l) : ∃ p c, v = .slice p l.length c ∧ l.length ≤ c ∧ c ≤ maxLen ∧ ∀ i (hi : i < l.length), ∃ g off, p = some ⟨g, off, none⟩ ∧ W.cell? ⟨g, off + i, none⟩ = some (.int .u8 (l[i] : Int)) := by
  obtain ⟨⟨p, c, e, h1, h2, h3⟩, -⟩ := h
  refine ⟨p, c, e, h1, h2, fun i hi => ?_⟩
  rcases h3 with ⟨-, rfl⟩ | ⟨g, off, rfl, -, h4⟩
  · simp at hi
  · have := h4 i l[i] (List.getElem?_eq_getElem hi) 0 _ rfl
    rw [Nat.mul_one, Nat.add_zero] at this
    exact ⟨g, off, rfl, this⟩

/-- What is appended to a row of bits: a row of bits. -/
theorem rwb_src {w : World} {v : Value} {l : List Bool} (h : RwB w v l) : ∃ p c, v = .slice p l.length c ∧ ((p = none ∧ l.length = 0 ∧ c = 0) ∨ ∃ ad, p = some ad ∧ ∀ j u, (l.map Value.bool)[j]? = some u → w.cell? (ad.add j) = some u) := by
  obtain ⟨p, c, h1, -, -, h2⟩ := h.src encB_len (by decide)
  rw [flatB] at h2
  exact ⟨p, c, h1, h2⟩

set_option maxHeartbeats 4000000 in
set_option maxRecDepth 100000 in
theorem refOf_any (v : Value) (l : List Nat) (w : World) (hv : Rw8 w v l) (hb : ∀ b ∈ l, b < 256) (hlen : l.length ≤ 1048576) :
    Calls Try.prog 25 #[v] w fun e w' => ∃ u, e = .returned u ∧ OwnB w' w.heap.size u (ofB l) ∧ Below w.heap.size w w' := by
  obtain ⟨p, c, rfl, hc1, hc2, hcell⟩ := hv.cells
  obtain ⟨i0, hi0, hz0, hz1, hz2⟩ := info_parts bool_info
  have Hc := Lib.hid hcell
  have Hv := Lib.hid hb
  clear hv hcell hc2 hb
  go_enter Try.func25, Try.ntmps25
  go_wp2
  go_loopw [3, 4] (fun o i wr => ∃ k : Nat, i = .int .i64 (k : Int) ∧ k ≤ l.length ∧ Hid (OwnB wr w.heap.size o (ofB (l.take k))) ∧ Hid (Below w.heap.size w wr)) (fun _ i _ => l.length - (intOf i).toNat)
  case atStart => exact ⟨0, rfl, Nat.zero_le _, Lib.hid (World.ownsRow_nil _ _ _ _), Lib.hid (Below.refl _ _)⟩
  case round =>
    obtain ⟨k, rfl, hk, Ho, Hb⟩ := hrel
    by_cases hlt : k < l.length
    · obtain ⟨g, off, rfl, hcx⟩ := Hc.out k hlt
      have hcx' := cell_later Hb.out hcx
      have hb256 := Hv.out l[k] (List.getElem_mem hlt)
      have Htk := Lib.hid (show ofB (l.take (k + 1)) = ofB (l.take k) ++ bitsL l[k] 8 by rw [List.take_succ_eq_append_getElem hlt, ofB_snoc])
      have hs := Hb.out.size
      generalize l[k] = b at *
      clear hcx
      have hol := ofB_len (l.take k)
      rw [List.length_take, Nat.min_eq_left hk] at hol
      have hos := owns_slice Ho.out
      rw [hol] at hos
      obtain ⟨po, co, rfl⟩ := hos
      have Hol := Lib.hid hol
      clear hol
      go_wp2_with fail
      refine Calls.mono (refBits_any b 8 _ (by omega) (by omega)) ?_
      rintro e w1 ⟨u, rfl, hob, hb1⟩
      obtain ⟨pu, cu, rfl, hsrc⟩ := rwb_src hob.rw
      rw [bitsL_len] at hsrc ⊢
      have Hsrc := Lib.hid hsrc
      have Ho1 := Lib.hid ((Turns.of_below' (T := fun _ => False) hb1).owns Ho.out (fun _ _ h => h))
      have Hb1 := Lib.hid (Hb.out.trans (hb1.mono hs))
      have hs1 := Hb1.out.size
      clear hob hb1 hsrc hcx'
      go_wp2_with (at_builtin; refine wpList_append_mine _ rfl (.tmp 11) (.tmp 17) 46 rfl w.heap.size 4 i0 _ 1 1 Try.underlying46 hi0 hz0 hz1 hz2 rfl (by decide) (.slice po (8 * k) co) (8 * k) ((ofB (l.take k)).map Value.bool) rfl (by have := Ho1.out; rw [Hol.out] at this; exact this) pu 8 cu ((bitsL b 8).map Value.bool) rfl (by rw [List.length_map, bitsL_len]) Hsrc.out (oneB _) ?n3 ?n4 hs1 ?_)
      case n3 => simp only [maxLen]; omega
      case n4 => omega
      intro v' w2 ho2 hg2 _
      have Ho2 : Hid (OwnB w2 w.heap.size v' (ofB (l.take (k + 1)))) := Lib.hid (by
        unfold OwnB
        rw [Htk.out, List.map_append, List.length_append, Hol.out, bitsL_len]
        exact ho2)
      have Hb2 : Hid (Below w.heap.size w w2) := Lib.hid (Hb1.out.trans ((Turns.of_grown (T := fun b => (Value.slice po (8 * k) co).ownBlock = some b) hg2 (fun _ h => h)).below hs1 (fun i hi => (Ho1.out.lt i hi).1)))
      clear ho2 hg2 hs hs1
      go_wp2
      go_roundw
      case rel => exact ⟨k + 1, by go_num, by omega, Ho2, Hb2⟩
      case measure => simp [intOf]; omega
    · obtain rfl : k = l.length := by omega
      have Ho' : Hid (OwnB wr w.heap.size _ (ofB l)) := Lib.hid (by have := Ho.out; rw [List.take_length] at this; exact this)
      obtain ⟨po, co, rfl⟩ := owns_slice Ho'.out
      clear Ho
      go_wp2
      go_ret
      exact ⟨_, rfl, Ho'.out, Hb.out⟩

theorem alignN_rem (n : Nat) : n % 8 ≠ 0 → alignN (n + 1) = alignN n := by unfold alignN; omega
theorem alignN_le (n : Nat) : n ≤ alignN n := by unfold alignN; omega
theorem alignN_of (n : Nat) (h : n % 8 = 0) : alignN n = n := by unfold alignN; omega

end Go.Proofs.Ytonhcdhlinlncaa
