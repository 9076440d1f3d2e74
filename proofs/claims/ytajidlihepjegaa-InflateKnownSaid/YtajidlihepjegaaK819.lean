/- Several texts in one, each with its own head. -/
import Derived.Test.YtajidlihepjegaaK816
/- bits' writer and reader: Put, Align, Bytes, Len; New, take, Get, Align, At, Left. -/
namespace Go.Proofs.Ytajidlihepjegaa
open Go.RowKit

/-- Bytes as cells. -/
def enc8 (b : Nat) : List Value := [u8v b]
theorem enc8_len (b : Nat) : (enc8 b).length = 1 := rfl
theorem flat8 : ∀ l : List Nat, l.flatMap enc8 = l.map u8v
  | [] => rfl
  | b :: r => by rw [List.flatMap_cons, flat8 r]; rfl
theorem one8 (l : List Nat) : ∀ u ∈ l.map u8v, u.oneCell' = true := by
  intro u hu
  obtain ⟨b, _, rfl⟩ := List.mem_map.1 hu
  rfl

/-- A slice of bytes that reads so. -/
abbrev Rw8 (w : World) (v : Value) (l : List Nat) : Prop := RwG enc8 1 w v l

theorem Rw8.own {w : World} {base : Nat} {v : Value} {l : List Nat} {n : Nat} (h : w.ownsRow base 5 1 v n (l.map u8v)) (hn : n = l.length) : Rw8 w v l := by
  subst hn
  rw [← flat8] at h
  exact RwG.owned enc8_len h

/-- A slice of bytes of its own. -/
def Own8 (base : Nat) (l : List Nat) (w w' : World) (v : Value) : Prop := w'.ownsRow base 5 1 v l.length (l.map u8v) ∧ Below w.heap.size w w'

set_option maxHeartbeats 1000000 in
theorem clone_any (v : Value) (l : List Nat) (w : World) (hv : Rw8 w v l) (hlen : l.length ≤ 1073741824) :
    Calls Try.prog 24 #[v] w fun e w' => ∃ v', e = .returned v' ∧ Own8 w.heap.size l w w' v' := by
  obtain ⟨p, c, rfl, h1, h2, hsrc⟩ := hv.src enc8_len (by decide)
  rw [flat8] at hsrc
  obtain ⟨i0, hi0, hz0, hz1, hz2⟩ := info_parts u8_info
  have hb : ∀ (a : Option Addr) (n c n' c' : Nat) (w : World), (binOp .eql 23 (.slice a n c) (.slice none n' c')).run Try.prog w = .ok (.bool a.isNone) w := fun a n c n' c' w => Lib.run_eql_slice_nil (P := Try.prog) w 23 5 a n c n' c' Try.underlying23
  rcases hsrc with ⟨rfl, h0, rfl⟩ | ⟨ad, rfl, hc⟩
  · have hl : l = [] := List.eq_nil_of_length_eq_zero h0
    subst hl
    go_enter Try.func24, Try.ntmps24
    go_wp2
    go_ret
    exact ⟨_, rfl, World.ownsRow_nil _ _ _ _, Below.refl _ _⟩
  · have hc' : ∀ j u, (l.map u8v)[j]? = some u → (w.alloc (.cells #[] 5)).cell? (ad.add j) = some u := fun j u hu => cell_later (Below.al1 w _) (hc j u hu)
    have Hc := Lib.hid hc'
    clear hc hc' hv h1 h2
    go_enter Try.func24, Try.ntmps24
    go_wp2_with (at_builtin; refine wpList_append_mine _ rfl (.tmp 5) (.tmp 6) 23 rfl w.heap.size 5 i0 _ 1 1 Try.underlying23 hi0 hz0 hz1 hz2 rfl (by decide) (.slice (some ⟨w.heap.size, 0, none⟩) 0 0) 0 [] rfl (World.ownsRow_lit w #[] 0 (Nat.le_refl _) (Nat.zero_le _) rfl) (some ad) l.length c (l.map u8v) rfl (by simp) (.inr ⟨ad, rfl, Hc.out⟩) (one8 l) ?c3 ?c4 ?c5 ?_)
    case c3 => simp only [maxLen]; omega
    case c4 => omega
    case c5 => simp
    intro v' w1 ho hg _
    have Ho : Hid (w1.ownsRow w.heap.size 5 1 v' l.length (l.map u8v)) := Lib.hid (by simpa using ho)
    have hb1 : Below w.heap.size w w1 := (Below.al1 w _).trans ((Turns.of_grown (T := fun b => b = w.heap.size) hg (fun i h => by cases h; rfl)).below (by simp) (fun i h => by omega))
    clear ho hg
    go_wp2
    go_ret
    exact ⟨_, rfl, Ho.out, hb1⟩

set_option maxHeartbeats 1000000 in
theorem put_ok (base B N n v k : Nat) (sv : Value) (w : World) (h : Wr w base B sv N n) (hv : v < 2 ^ k) (hk : k ≤ 24) (hmax : n + k ≤ 8388608) (hbase : base ≤ w.heap.size) :
    Calls Try.prog 16 #[.pointer (some ⟨B, 0, none⟩), .int .u32 (v : Int), .int .i64 (k : Int)] w fun e w' => e = .returned (.int .i64 0) ∧ WrTo base B sv (N + v * 2 ^ n) (n + k) w w' := by
  have hc1 := h.c1
  have H := Lib.hid h
  have hv32 : v < 4294967296 := by have := pow_le24 hk; omega
  have Hm := Lib.hid (Nat.mod_eq_of_lt hv)
  clear h
  go_enter Try.func16, Try.ntmps16
  go_wp2_with fail
  refine Calls.mono (counts_yes _ _ (by omega) (by omega)) ?_
  rintro e w1 ⟨rfl, rfl⟩
  go_wp2_with fail
  refine Calls.mono (low_any v k _ hv32 hk) ?_
  rintro e w1 ⟨rfl, rfl⟩
  rw [Hm.out]
  have hlt : ¬ (8388608 - (n : Int) < (k : Int)) := by omega
  go_wp2_with fail
  refine Calls.mono (add_any base B N n v k sv _ H.out hv hk hmax hbase) ?_
  rintro e w1 ⟨rfl, hto⟩
  have Hto := Lib.hid hto
  clear hto
  go_wp2
  go_ret
  exact ⟨rfl, Hto.out⟩

theorem put_arg (B v : Nat) (k : Int) (w : World) (h : k < 0 ∨ 24 < k) :
    Calls Try.prog 16 #[.pointer (some ⟨B, 0, none⟩), .int .u32 (v : Int), .int .i64 k] w fun e w' => e = .returned (.int .i64 1) ∧ w' = w := by
  go_enter Try.func16, Try.ntmps16
  go_wp2_with fail
  refine Calls.mono (counts_no _ _ h) ?_
  rintro e w1 ⟨rfl, rfl⟩
  go_wp2
  go_ret
  exact ⟨rfl, rfl⟩

theorem put_wide (B v k : Nat) (w : World) (hv : v < 4294967296) (hk : k ≤ 24) (h : 2 ^ k ≤ v) :
    Calls Try.prog 16 #[.pointer (some ⟨B, 0, none⟩), .int .u32 (v : Int), .int .i64 (k : Int)] w fun e w' => e = .returned (.int .i64 1) ∧ w' = w := by
  have hne : (((v % 2 ^ k : Nat) : Int) != (v : Int)) = true := by
    have := Nat.mod_lt v (pow_pos' k)
    rw [bne_iff_ne]; omega
  obtain ⟨m, hm⟩ : ∃ m, v % 2 ^ k = m := ⟨_, rfl⟩
  rw [hm] at hne
  have Hm := Lib.hid hm
  clear hm
  go_enter Try.func16, Try.ntmps16
  go_wp2_with fail
  refine Calls.mono (counts_yes _ _ (by omega) (by omega)) ?_
  rintro e w1 ⟨rfl, rfl⟩
  go_wp2_with fail
  refine Calls.mono (low_any v k _ hv hk) ?_
  rintro e w1 ⟨rfl, rfl⟩
  rw [Hm.out]
  go_wp2
  go_ret
  exact ⟨rfl, rfl⟩

theorem put_long (base B N n v k : Nat) (sv : Value) (w : World) (h : Wr w base B sv N n) (hn : n ≤ 8388608) (hv : v < 2 ^ k) (hk : k ≤ 24) (hmax : 8388608 < n + k) :
    Calls Try.prog 16 #[.pointer (some ⟨B, 0, none⟩), .int .u32 (v : Int), .int .i64 (k : Int)] w fun e w' => e = .returned (.int .i64 2) ∧ w' = w := by
  have hc1 := h.c1
  have hv32 : v < 4294967296 := by have := pow_le24 hk; omega
  have Hm := Lib.hid (Nat.mod_eq_of_lt hv)
  clear h
  go_enter Try.func16, Try.ntmps16
  go_wp2_with fail
  refine Calls.mono (counts_yes _ _ (by omega) (by omega)) ?_
  rintro e w1 ⟨rfl, rfl⟩
  go_wp2_with fail
  refine Calls.mono (low_any v k _ hv32 hk) ?_
  rintro e w1 ⟨rfl, rfl⟩
  rw [Hm.out]
  have hlt : 8388608 - (n : Int) < (k : Int) := by omega
  go_wp2
  go_ret
  exact ⟨rfl, rfl⟩

/-- Where the row would end with a byte. -/
def alignN (n : Nat) : Nat := n + (8 - n % 8) % 8

set_option maxHeartbeats 1000000 in
theorem walign_any (base B N n : Nat) (sv : Value) (w : World) (h : Wr w base B sv N n) (hn : n ≤ 8388608) (hbase : base ≤ w.heap.size) :
    Calls Try.prog 17 #[.pointer (some ⟨B, 0, none⟩)] w fun e w' => e = .returned (.int .i64 0) ∧ WrTo base B sv N (alignN n) w w' := by
  have hc1 := h.c1
  have H := Lib.hid h
  clear h
  go_enter Try.func17, Try.ntmps17
  go_wp2_with fail
  refine Calls.mono (missing_any n _ (by omega)) ?_
  rintro e w1 ⟨rfl, rfl⟩
  go_wp2_with fail
  refine Calls.mono (add_any base B N n 0 ((8 - n % 8) % 8) sv _ H.out (pow_pos' _) (by omega) (by omega) hbase) ?_
  rintro e w1 ⟨rfl, hto⟩
  rw [Nat.zero_mul, Nat.add_zero] at hto
  have Hto := Lib.hid hto
  clear hto
  go_wp2
  go_ret
  exact ⟨rfl, Hto.out⟩

theorem wlen_any (base B N n : Nat) (sv : Value) (w : World) (h : Wr w base B sv N n) :
    Calls Try.prog 109 #[.pointer (some ⟨B, 0, none⟩)] w fun e w' => e = .returned (.int .i64 (n : Int)) ∧ w' = w := by
  have hc1 := h.c1
  clear h
  go_enter Try.func109, Try.ntmps109
  go_wp2
  go_ret
  exact ⟨rfl, rfl⟩

theorem wbytes_any (base B N n : Nat) (sv : Value) (w : World) (h : Wr w base B sv N n) (hn : n ≤ 8388608) :
    Calls Try.prog 10 #[.pointer (some ⟨B, 0, none⟩)] w fun e w' => ∃ v', e = .returned v' ∧ Own8 w.heap.size (byts N ((n + 7) / 8)) w w' v' := by
  have hc0 := h.c0
  have Hr := Lib.hid (Rw8.own h.own (byts_len _ _).symm)
  obtain ⟨sp, sc, rfl⟩ := owns_slice h.own
  clear h
  go_enter Try.func10, Try.ntmps10
  go_wp2_with fail
  refine Calls.mono (clone_any _ _ _ Hr.out (by rw [byts_len]; omega)) ?_
  rintro e w1 ⟨v', rfl, ho⟩
  have Ho := Lib.hid ho
  obtain ⟨p', c', rfl⟩ := owns_slice ho.1
  clear ho
  go_wp2
  go_ret
  exact ⟨_, rfl, Ho.out⟩

end Go.Proofs.Ytajidlihepjegaa

/- The document's own bits: Bits, May, Number, Bytes, Of, Put, Align, Get. -/
namespace Go.Proofs.Ytajidlihepjegaa
open Go.RowKit

/-- Bits as cells. -/
def encB (b : Bool) : List Value := [.bool b]
theorem encB_len (b : Bool) : (encB b).length = 1 := rfl
theorem flatB : ∀ l : List Bool, l.flatMap encB = l.map Value.bool
  | [] => rfl
  | b :: r => by rw [List.flatMap_cons, flatB r]; rfl
theorem oneB (l : List Bool) : ∀ u ∈ l.map Value.bool, u.oneCell' = true := by
  intro u hu
  obtain ⟨b, _, rfl⟩ := List.mem_map.1 hu
  rfl

theorem bool_info : (Try.prog.info? 4).map (fun i => (i.zero, i.size, i.bytes)) = some (some (.bool false), 1, 1) := by kernel_rfl

/-- A row of bits that reads so. -/
abbrev RwB (w : World) (v : Value) (l : List Bool) : Prop := RwG encB 1 w v l

/-- A row of bits of its own. -/
def OwnB (w : World) (base : Nat) (v : Value) (l : List Bool) : Prop := w.ownsRow base 4 1 v l.length (l.map Value.bool)

theorem OwnB.rw {w : World} {base : Nat} {v : Value} {l : List Bool} (h : OwnB w base v l) : RwB w v l := by
  unfold OwnB at h
  rw [← flatB] at h
  exact RwG.owned encB_len h

theorem numL_cons_drop (l : List Bool) (m : Nat) (h : m < l.length) : numL (l.drop m) = l[m].toNat + 2 * numL (l.drop (m + 1)) := by
  rw [List.drop_eq_getElem_cons h]; rfl

theorem RwB.cells {W : World} {v : Value} {l : List Bool} (h : RwB W v l) : ∃ p c, v = .slice p l.length c ∧ l.length ≤ c ∧ c ≤ maxLen ∧ ∀ i (hi : i < l.length), ∃ g off, p = some ⟨g, off, none⟩ ∧ W.cell? ⟨g, off + i, none⟩ = some (.bool l[i]) := by
  obtain ⟨⟨p, c, e, h1, h2, h3⟩, -⟩ := h
  refine ⟨p, c, e, h1, h2, fun i hi => ?_⟩
  rcases h3 with ⟨-, rfl⟩ | ⟨g, off, rfl, -, h4⟩
  · simp at hi
  · have := h4 i l[i] (List.getElem?_eq_getElem hi) 0 _ rfl
    rw [Nat.mul_one, Nat.add_zero] at this
    exact ⟨g, off, rfl, this⟩

/-- Where each bit lies. -/
def BitsAt (W : World) (p : Option Addr) (l : List Bool) : Prop := ∀ i (hi : i < l.length), ∃ g off, p = some ⟨g, off, none⟩ ∧ W.cell? ⟨g, off + i, none⟩ = some (.bool l[i])

theorem BitsAt.below {W W' : World} {p : Option Addr} {l : List Bool} (h : BitsAt W p l) (hb : Below W.heap.size W W') : BitsAt W' p l := fun i hi => by
  obtain ⟨g, off, e, hc⟩ := h i hi
  exact ⟨g, off, e, cell_later hb hc⟩

/-- A part of a row of bits. -/
theorem BitsAt.part {W : World} {g off : Nat} {l : List Bool} (h : BitsAt W (some ⟨g, off, none⟩) l) (a n : Nat) : BitsAt W (some ⟨g, off + a, none⟩) ((l.drop a).take n) := fun i hi => by
  rw [List.length_take, List.length_drop] at hi
  obtain ⟨g', off', e, hc⟩ := h (a + i) (by omega)
  cases e
  refine ⟨_, _, rfl, ?_⟩
  rw [Nat.add_assoc, hc]
  simp

theorem Rw8.cells {W : World} {v : Value} {l : List Nat} (h : Rw8 W v l) : ∃ p c, v = .slice p l.length c ∧ l.length ≤ c ∧ c ≤ maxLen ∧ ∀ i (hi : i < l.length), ∃ g off, p = some ⟨g, off, none⟩ ∧ W.cell? ⟨g, off + i, none⟩ = some (.int .u8 (l[i] : Int)) := by
  obtain ⟨⟨p, c, e, h1, h2, h3⟩, -⟩ := h
  refine ⟨p, c, e, h1, h2, fun i hi => ?_⟩
  rcases h3 with ⟨-, rfl⟩ | ⟨g, off, rfl, -, h4⟩
  · simp at hi
  · have := h4 i l[i] (List.getElem?_eq_getElem hi) 0 _ rfl
    rw [Nat.mul_one, Nat.add_zero] at this
    exact ⟨g, off, rfl, this⟩

/-- What is appended to a row of bits: a row of bits. -/
theorem rwb_src {w : World} {v : Value} {l : List Bool} (h : RwB w v l) : ∃ p c, v = .slice p l.length c ∧ ((p = none ∧ l.length = 0 ∧ c = 0) ∨ ∃ ad, p = some ad ∧ ∀ j u, (l.map Value.bool)[j]? = some u → w.cell? (ad.add j) = some u) := by
  obtain ⟨p, c, h1, -, -, h2⟩ := h.src encB_len (by decide)
  rw [flatB] at h2
  exact ⟨p, c, h1, h2⟩

theorem alignN_rem (n : Nat) : n % 8 ≠ 0 → alignN (n + 1) = alignN n := by unfold alignN; omega
theorem alignN_le (n : Nat) : n ≤ alignN n := by unfold alignN; omega
theorem alignN_of (n : Nat) (h : n % 8 = 0) : alignN n = n := by unfold alignN; omega

end Go.Proofs.Ytajidlihepjegaa
