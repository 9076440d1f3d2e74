/- Several texts in one, each with its own head. -/
import Derived.Test.YtdcmalbbijchiaaZq12
import Derived.Test.YtdcmalbbijchiaaZq14
/- bits' writer and reader: Put, Align, Bytes, Len; New, take, Get, Align, At, Left. -/
namespace Go.Proofs.Ytdcmalbbijchiaa
open Go.RowKit

/-- Bytes as cells. -/
def enc8 (b : Nat) : List Value := [u8v b]
theorem enc8_len (b : Nat) : (enc8 b).length = 1 := rfl
theorem flat8 : ∀ l : List Nat, l.flatMap enc8 = l.map u8v
  | [] => rfl
  | b :: r => by rw [List.flatMap_cons, flat8 r]; rfl
theorem one8 (l : List Nat) : ∀ u ∈ l.map u8v, u.oneCell' = true := by
  intro u hu
  obtain ⟨b, _, rfl⟩ := List.mem_map.1 hu
  rfl

/-- A slice of bytes that reads so. -/
abbrev Rw8 (w : World) (v : Value) (l : List Nat) : Prop := RwG enc8 1 w v l

theorem Rw8.own {w : World} {base : Nat} {v : Value} {l : List Nat} {n : Nat} (h : w.ownsRow base 5 1 v n (l.map u8v)) (hn : n = l.length) : Rw8 w v l := by
  subst hn
  rw [← flat8] at h
  exact RwG.owned enc8_len h

/-- A slice of bytes of its own. -/
def Own8 (base : Nat) (l : List Nat) (w w' : World) (v : Value) : Prop := w'.ownsRow base 5 1 v l.length (l.map u8v) ∧ Below w.heap.size w w'

set_option maxHeartbeats 1000000 in
theorem clone_any (v : Value) (l : List Nat) (w : World) (hv : Rw8 w v l) (hlen : l.length ≤ 1073741824) :
    Calls Try.prog 20 #[v] w fun e w' => ∃ v', e = .returned v' ∧ Own8 w.heap.size l w w' v' := by
  obtain ⟨p, c, rfl, h1, h2, hsrc⟩ := hv.src enc8_len (by decide)
  rw [flat8] at hsrc
  obtain ⟨i0, hi0, hz0, hz1, hz2⟩ := info_parts u8_info
  have hb : ∀ (a : Option Addr) (n c n' c' : Nat) (w : World), (binOp .eql 23 (.slice a n c) (.slice none n' c')).run Try.prog w = .ok (.bool a.isNone) w := fun a n c n' c' w => Lib.run_eql_slice_nil (P := Try.prog) w 23 5 a n c n' c' Try.underlying23
  rcases hsrc with ⟨rfl, h0, rfl⟩ | ⟨ad, rfl, hc⟩
  · have hl : l = [] := List.eq_nil_of_length_eq_zero h0
    subst hl
    go_enter Try.func20, Try.ntmps20
    go_wp2
    go_ret
    exact ⟨_, rfl, World.ownsRow_nil _ _ _ _, Below.refl _ _⟩
  · have hc' : ∀ j u, (l.map u8v)[j]? = some u → (w.alloc (.cells #[] 5)).cell? (ad.add j) = some u := fun j u hu => cell_later (Below.al1 w _) (hc j u hu)
    have Hc := Lib.hid hc'
    clear hc hc' hv h1 h2
    go_enter Try.func20, Try.ntmps20
    go_wp2_with (at_builtin; refine wpList_append_mine _ rfl (.tmp 5) (.tmp 6) 23 rfl w.heap.size 5 i0 _ 1 1 Try.underlying23 hi0 hz0 hz1 hz2 rfl (by decide) (.slice (some ⟨w.heap.size, 0, none⟩) 0 0) 0 [] rfl (World.ownsRow_lit w #[] 0 (Nat.le_refl _) (Nat.zero_le _) rfl) (some ad) l.length c (l.map u8v) rfl (by simp) (.inr ⟨ad, rfl, Hc.out⟩) (one8 l) ?c3 ?c4 ?c5 ?_)
    case c3 => simp only [maxLen]; omega
    case c4 => omega
    case c5 => simp
    intro v' w1 ho hg _
    have Ho : Hid (w1.ownsRow w.heap.size 5 1 v' l.length (l.map u8v)) := Lib.hid (by simpa using ho)
    have hb1 : Below w.heap.size w w1 := (Below.al1 w _).trans ((Turns.of_grown (T := fun b => b = w.heap.size) hg (fun i h => by cases h; rfl)).below (by simp) (fun i h => by omega))
    clear ho hg
    go_wp2
    go_ret
    exact ⟨_, rfl, Ho.out, hb1⟩

set_option maxHeartbeats 1000000 in
theorem put_ok (base B N n v k : Nat) (sv : Value) (w : World) (h : Wr w base B sv N n) (hv : v < 2 ^ k) (hk : k ≤ 24) (hmax : n + k ≤ 8388608) (hbase : base ≤ w.heap.size) :
    Calls Try.prog 12 #[.pointer (some ⟨B, 0, none⟩), .int .u32 (v : Int), .int .i64 (k : Int)] w fun e w' => e = .returned (.int .i64 0) ∧ WrTo base B sv (N + v * 2 ^ n) (n + k) w w' := by
  have hc1 := h.c1
  have H := Lib.hid h
  have hv32 : v < 4294967296 := by have := pow_le24 hk; omega
  have Hm := Lib.hid (Nat.mod_eq_of_lt hv)
  clear h
  go_enter Try.func12, Try.ntmps12
  go_wp2_with fail
  refine Calls.mono (counts_yes _ _ (by omega) (by omega)) ?_
  rintro e w1 ⟨rfl, rfl⟩
  go_wp2_with fail
  refine Calls.mono (low_any v k _ hv32 hk) ?_
  rintro e w1 ⟨rfl, rfl⟩
  rw [Hm.out]
  have hlt : ¬ (8388608 - (n : Int) < (k : Int)) := by omega
  go_wp2_with fail
  refine Calls.mono (add_any base B N n v k sv _ H.out hv hk hmax hbase) ?_
  rintro e w1 ⟨rfl, hto⟩
  have Hto := Lib.hid hto
  clear hto
  go_wp2
  go_ret
  exact ⟨rfl, Hto.out⟩

theorem put_arg (B v : Nat) (k : Int) (w : World) (h : k < 0 ∨ 24 < k) :
    Calls Try.prog 12 #[.pointer (some ⟨B, 0, none⟩), .int .u32 (v : Int), .int .i64 k] w fun e w' => e = .returned (.int .i64 1) ∧ w' = w := by
  go_enter Try.func12, Try.ntmps12
  go_wp2_with fail
  refine Calls.mono (counts_no _ _ h) ?_
  rintro e w1 ⟨rfl, rfl⟩
  go_wp2
  go_ret
  exact ⟨rfl, rfl⟩

theorem put_wide (B v k : Nat) (w : World) (hv : v < 4294967296) (hk : k ≤ 24) (h : 2 ^ k ≤ v) :
    Calls Try.prog 12 #[.pointer (some ⟨B, 0, none⟩), .int .u32 (v : Int), .int .i64 (k : Int)] w fun e w' => e = .returned (.int .i64 1) ∧ w' = w := by
  have hne : (((v % 2 ^ k : Nat) : Int) != (v : Int)) = true := by
    have := Nat.mod_lt v (pow_pos' k)
    rw [bne_iff_ne]; omega
  obtain ⟨m, hm⟩ : ∃ m, v % 2 ^ k = m := ⟨_, rfl⟩
  rw [hm] at hne
  have Hm := Lib.hid hm
  clear hm
  go_enter Try.func12, Try.ntmps12
  go_wp2_with fail
  refine Calls.mono (counts_yes _ _ (by omega) (by omega)) ?_
  rintro e w1 ⟨rfl, rfl⟩
  go_wp2_with fail
  refine Calls.mono (low_any v k _ hv hk) ?_
  rintro e w1 ⟨rfl, rfl⟩
  rw [Hm.out]
  go_wp2
  go_ret
  exact ⟨rfl, rfl⟩

theorem put_long (base B N n v k : Nat) (sv : Value) (w : World) (h : Wr w base B sv N n) (hn : n ≤ 8388608) (hv : v < 2 ^ k) (hk : k ≤ 24) (hmax : 8388608 < n + k) :
    Calls Try.prog 12 #[.pointer (some ⟨B, 0, none⟩), .int .u32 (v : Int), .int .i64 (k : Int)] w fun e w' => e = .returned (.int .i64 2) ∧ w' = w := by
  have hc1 := h.c1
  have hv32 : v < 4294967296 := by have := pow_le24 hk; omega
  have Hm := Lib.hid (Nat.mod_eq_of_lt hv)
  clear h
  go_enter Try.func12, Try.ntmps12
  go_wp2_with fail
  refine Calls.mono (counts_yes _ _ (by omega) (by omega)) ?_
  rintro e w1 ⟨rfl, rfl⟩
  go_wp2_with fail
  refine Calls.mono (low_any v k _ hv32 hk) ?_
  rintro e w1 ⟨rfl, rfl⟩
  rw [Hm.out]
  have hlt : 8388608 - (n : Int) < (k : Int) := by omega
  go_wp2
  go_ret
  exact ⟨rfl, rfl⟩

/-- Where the row would end with a byte. -/
def alignN (n : Nat) : Nat := n + (8 - n % 8) % 8

set_option maxHeartbeats 1000000 in
theorem walign_any (base B N n : Nat) (sv : Value) (w : World) (h : Wr w base B sv N n) (hn : n ≤ 8388608) (hbase : base ≤ w.heap.size) :
    Calls Try.prog 13 #[.pointer (some ⟨B, 0, none⟩)] w fun e w' => e = .returned (.int .i64 0) ∧ WrTo base B sv N (alignN n) w w' := by
  have hc1 := h.c1
  have H := Lib.hid h
  clear h
  go_enter Try.func13, Try.ntmps13
  go_wp2_with fail
  refine Calls.mono (missing_any n _ (by omega)) ?_
  rintro e w1 ⟨rfl, rfl⟩
  go_wp2_with fail
  refine Calls.mono (add_any base B N n 0 ((8 - n % 8) % 8) sv _ H.out (pow_pos' _) (by omega) (by omega) hbase) ?_
  rintro e w1 ⟨rfl, hto⟩
  rw [Nat.zero_mul, Nat.add_zero] at hto
  have Hto := Lib.hid hto
  clear hto
  go_wp2
  go_ret
  exact ⟨rfl, Hto.out⟩

theorem wlen_any (base B N n : Nat) (sv : Value) (w : World) (h : Wr w base B sv N n) :
    Calls Try.prog 105 #[.pointer (some ⟨B, 0, none⟩)] w fun e w' => e = .returned (.int .i64 (n : Int)) ∧ w' = w := by
  have hc1 := h.c1
  clear h
  go_enter Try.func105, Try.ntmps105
  go_wp2
  go_ret
  exact ⟨rfl, rfl⟩

theorem wbytes_any (base B N n : Nat) (sv : Value) (w : World) (h : Wr w base B sv N n) (hn : n ≤ 8388608) :
    Calls Try.prog 7 #[.pointer (some ⟨B, 0, none⟩)] w fun e w' => ∃ v', e = .returned v' ∧ Own8 w.heap.size (byts N ((n + 7) / 8)) w w' v' := by
  have hc0 := h.c0
  have Hr := Lib.hid (Rw8.own h.own (byts_len _ _).symm)
  obtain ⟨sp, sc, rfl⟩ := owns_slice h.own
  clear h
  go_enter Try.func7, Try.ntmps7
  go_wp2_with fail
  refine Calls.mono (clone_any _ _ _ Hr.out (by rw [byts_len]; omega)) ?_
  rintro e w1 ⟨v', rfl, ho⟩
  have Ho := Lib.hid ho
  obtain ⟨p', c', rfl⟩ := owns_slice ho.1
  clear ho
  go_wp2
  go_ret
  exact ⟨_, rfl, Ho.out⟩

end Go.Proofs.Ytdcmalbbijchiaa

/- The document's own bits: Bits, May, Number, Bytes, Of, Put, Align, Get. -/
namespace Go.Proofs.Ytdcmalbbijchiaa
open Go.RowKit

/-- Bits as cells. -/
def encB (b : Bool) : List Value := [.bool b]
theorem encB_len (b : Bool) : (encB b).length = 1 := rfl
theorem flatB : ∀ l : List Bool, l.flatMap encB = l.map Value.bool
  | [] => rfl
  | b :: r => by rw [List.flatMap_cons, flatB r]; rfl
theorem oneB (l : List Bool) : ∀ u ∈ l.map Value.bool, u.oneCell' = true := by
  intro u hu
  obtain ⟨b, _, rfl⟩ := List.mem_map.1 hu
  rfl

theorem bool_info : (Try.prog.info? 4).map (fun i => (i.zero, i.size, i.bytes)) = some (some (.bool false), 1, 1) := by kernel_rfl

/-- A row of bits that reads so. -/
abbrev RwB (w : World) (v : Value) (l : List Bool) : Prop := RwG encB 1 w v l

/-- A row of bits of its own. -/
def OwnB (w : World) (base : Nat) (v : Value) (l : List Bool) : Prop := w.ownsRow base 4 1 v l.length (l.map Value.bool)

theorem OwnB.rw {w : World} {base : Nat} {v : Value} {l : List Bool} (h : OwnB w base v l) : RwB w v l := by
  unfold OwnB at h
  rw [← flatB] at h
  exact RwG.owned encB_len h

theorem numL_cons_drop (l : List Bool) (m : Nat) (h : m < l.length) : numL (l.drop m) = l[m].toNat + 2 * numL (l.drop (m + 1)) := by
  rw [List.drop_eq_getElem_cons h]; rfl

theorem RwB.cells {W : World} {v : Value} {l : List Bool} (h : RwB W v l) : ∃ p c, v = .slice p l.length c ∧ l.length ≤ c ∧ c ≤ maxLen ∧ ∀ i (hi : i < l.length), ∃ g off, p = some ⟨g, off, none⟩ ∧ W.cell? ⟨g, off + i, none⟩ = some (.bool l[i]) := by
  obtain ⟨⟨p, c, e, h1, h2, h3⟩, -⟩ := h
  refine ⟨p, c, e, h1, h2, fun i hi => ?_⟩
  rcases h3 with ⟨-, rfl⟩ | ⟨g, off, rfl, -, h4⟩
  · simp at hi
  · have := h4 i l[i] (List.getElem?_eq_getElem hi) 0 _ rfl
    rw [Nat.mul_one, Nat.add_zero] at this
    exact ⟨g, off, rfl, this⟩

/-- Where each bit lies. -/
def BitsAt (W : World) (p : Option Addr) (l : List Bool) : Prop := ∀ i (hi : i < l.length), ∃ g off, p = some ⟨g, off, none⟩ ∧ W.cell? ⟨g, off + i, none⟩ = some (.bool l[i])

theorem BitsAt.below {W W' : World} {p : Option Addr} {l : List Bool} (h : BitsAt W p l) (hb : Below W.heap.size W W') : BitsAt W' p l := fun i hi => by
  obtain ⟨g, off, e, hc⟩ := h i hi
  exact ⟨g, off, e, cell_later hb hc⟩

/-- A part of a row of bits. -/
theorem BitsAt.part {W : World} {g off : Nat} {l : List Bool} (h : BitsAt W (some ⟨g, off, none⟩) l) (a n : Nat) : BitsAt W (some ⟨g, off + a, none⟩) ((l.drop a).take n) := fun i hi => by
  rw [List.length_take, List.length_drop] at hi
  obtain ⟨g', off', e, hc⟩ := h (a + i) (by omega)
  cases e
  refine ⟨_, _, rfl, ?_⟩
  rw [Nat.add_assoc, hc]
  simp

theorem Rw8.cells {W : World} {v : Value} {l : List Nat} (h : Rw8 W v l) : ∃ p c, v = .slice p l.length c ∧ l.length ≤ c ∧ c ≤ maxLen ∧ ∀ i (hi : i < l.length), ∃ g off, p = some ⟨g, off, none⟩ ∧ W.cell? ⟨g, off + i, none⟩ = some (.int .u8 (l[i] : Int)) := by
  obtain ⟨⟨p, c, e, h1, h2, h3⟩, -⟩ := h
  refine ⟨p, c, e, h1, h2, fun i hi => ?_⟩
  rcases h3 with ⟨-, rfl⟩ | ⟨g, off, rfl, -, h4⟩
  · simp at hi
  · have := h4 i l[i] (List.getElem?_eq_getElem hi) 0 _ rfl
    rw [Nat.mul_one, Nat.add_zero] at this
    exact ⟨g, off, rfl, this⟩

/-- What is appended to a row of bits: a row of bits. -/
theorem rwb_src {w : World} {v : Value} {l : List Bool} (h : RwB w v l) : ∃ p c, v = .slice p l.length c ∧ ((p = none ∧ l.length = 0 ∧ c = 0) ∨ ∃ ad, p = some ad ∧ ∀ j u, (l.map Value.bool)[j]? = some u → w.cell? (ad.add j) = some u) := by
  obtain ⟨p, c, h1, -, -, h2⟩ := h.src encB_len (by decide)
  rw [flatB] at h2
  exact ⟨p, c, h1, h2⟩

theorem alignN_rem (n : Nat) : n % 8 ≠ 0 → alignN (n + 1) = alignN n := by unfold alignN; omega
theorem alignN_le (n : Nat) : n ≤ alignN n := by unfold alignN; omega
theorem alignN_of (n : Nat) (h : n % 8 = 0) : alignN n = n := by unfold alignN; omega

end Go.Proofs.Ytdcmalbbijchiaa

/- huff's check, and the document's own. -/
namespace Go.Proofs.Ytdcmalbbijchiaa
open Go.RowKit

/-- The length of a symbol. -/
def lq (ls : List Nat) (i : Nat) : Nat := ls.getD i 0
theorem lq_at {ls : List Nat} {k : Nat} (h : k < ls.length) : ls[k] = lq ls k := by
  unfold lq
  rw [List.getD_eq_getElem?_getD, List.getElem?_eq_getElem h]; rfl

theorem RowAt.byte {W : World} {p : Option Addr} {xs : List Nat} (h : RowAt enc8 1 W p xs) {k : Nat} (hk : k < xs.length) : ∃ b off, p = some ⟨b, off, none⟩ ∧ W.cell? ⟨b, off + k, none⟩ = some (u8v (lq xs k)) := by
  rcases h with ⟨-, rfl⟩ | ⟨b, off, rfl, -, h⟩
  · simp at hk
  · refine ⟨b, off, rfl, ?_⟩
    have := h k xs[k] (List.getElem?_eq_getElem hk) 0 _ rfl
    rw [lq_at hk] at this
    simpa using this

/-- What is wrong with lengths. -/
def chk (ls : List Nat) : Int :=
  if 320 < ls.length ∨ ∃ i, i < ls.length ∧ 15 < lq ls i then 1
  else if many ls.length (lq ls) = 0 ∨ room ls.length 15 (lq ls) = 32768 ∨ (many ls.length (lq ls) = 1 ∧ room ls.length 15 (lq ls) = 16384) then 0 else 60

theorem chk_long {ls : List Nat} (h : 320 < ls.length) : chk ls = 1 := by unfold chk; rw [if_pos (.inl h)]
theorem chk_wide {ls : List Nat} {i : Nat} (h : i < ls.length) (h2 : 15 < lq ls i) : chk ls = 1 := by unfold chk; rw [if_pos (.inr ⟨i, h, h2⟩)]
theorem chk_rest {ls : List Nat} (h : ls.length ≤ 320) (h2 : ∀ i, i < ls.length → lq ls i ≤ 15) : chk ls = if many ls.length (lq ls) = 0 ∨ room ls.length 15 (lq ls) = 32768 ∨ (many ls.length (lq ls) = 1 ∧ room ls.length 15 (lq ls) = 16384) then 0 else 60 := by
  unfold chk
  rw [if_neg]
  rintro (h3 | ⟨i, h3, h4⟩)
  · omega
  · have := h2 i h3; omega

theorem many_succ (f : Nat → Nat) (k : Nat) : many (k + 1) f = many k f + (if 0 < f k then 1 else 0) := rfl
theorem room_succ (f : Nat → Nat) (L k : Nat) : room (k + 1) L f = room k L f + (if 0 < f k then 2 ^ (L - f k) else 0) := rfl
theorem many_le (f : Nat → Nat) : ∀ k, many k f ≤ k
  | 0 => Nat.le_refl _
  | k + 1 => by
    have := many_le f k
    rw [many_succ]; split <;> omega
theorem room_le (f : Nat → Nat) (L : Nat) : ∀ k, room k L f ≤ k * 2 ^ L
  | 0 => by simp [room, sm]
  | k + 1 => by
    have h1 := room_le f L k
    have h2 : 2 ^ (L - f k) ≤ 2 ^ L := Nat.pow_le_pow_right (by decide) (by omega)
    rw [room_succ, Nat.add_mul]; split <;> omega

theorem shr_15 {n : Nat} (h : n ≤ 15) : (32768 : Int) / 2 ^ n = ((2 ^ (15 - n) : Nat) : Int) := by
  have e : (32768 : Nat) = 2 ^ (15 - n) * 2 ^ n := by rw [← Nat.pow_add, show 15 - n + n = 15 by omega]
  have : (32768 : Nat) / 2 ^ n = 2 ^ (15 - n) := by
    rw [e]; exact Nat.mul_div_cancel _ (pow_pos2 n)
  rw [← this]
  simp

set_option maxRecDepth 20000 in
set_option maxHeartbeats 1000000 in
theorem check_any (ls : List Nat) (v : Value) (w : World) (hv : Row enc8 1 w v ls) :
    Calls Try.prog 31 #[v] w fun e w' => e = .returned (.int .i64 (chk ls)) ∧ w' = w := by
  have hlen := hv.len
  obtain ⟨p, c, rfl, -, -, hrow⟩ := hv
  have Hrow := Lib.hid hrow
  obtain ⟨r, hr⟩ : ∃ r, chk ls = r := ⟨_, rfl⟩
  rw [hr]
  have Hr := Lib.hid hr
  clear hrow hr
  by_cases h320 : 320 < ls.length
  · have e0 : (320 : Int) < ls.length := by omega
    obtain rfl : r = 1 := by rw [← Hr.out]; exact chk_long h320
    go_enter Try.func31, Try.ntmps31
    go_wp2
    go_ret
    exact ⟨rfl, rfl⟩
  · have e0 : ¬ (320 : Int) < ls.length := by omega
    go_enter Try.func31, Try.ntmps31
    go_wp2
    go_loop [3, 4, 12] (fun cv sv kv => ∃ (k m s : Nat), cv = .int .i64 (m : Int) ∧ sv = .int .i64 (s : Int) ∧ kv = .int .i64 (k : Int) ∧ k ≤ ls.length ∧ m ≤ 320 ∧ s ≤ 320 * 32768 ∧ Hid (m = many k (lq ls) ∧ s = room k 15 (lq ls) ∧ ∀ i, i < k → lq ls i ≤ 15)) (fun _ _ kv => ls.length - (intOf kv).toNat)
    case atStart => exact ⟨0, 0, 0, rfl, rfl, rfl, Nat.zero_le _, by omega, by omega, Lib.hid ⟨rfl, rfl, fun i hi => by omega⟩⟩
    case round =>
      obtain ⟨k, m, s, rfl, rfl, rfl, hk, hm, hs, HI⟩ := hrel
      by_cases hlt : k < ls.length
      · obtain ⟨g, off, rfl, hcell⟩ := Hrow.out.byte hlt
        obtain ⟨x, hx⟩ : ∃ x, lq ls k = x := ⟨_, rfl⟩
        rw [hx] at hcell
        unfold u8v at hcell
        have k0 : (0 : Int) ≤ (k : Int) := by omega
        have k1 : (k : Int) < (ls.length : Int) := by omega
        have Hx := Lib.hid hx
        clear hx
        by_cases hx15 : 15 < x
        · obtain rfl : r = 1 := by rw [← Hr.out]; exact chk_wide hlt (by rw [Hx.out]; exact hx15)
          have e1 : decide (15 < x) = true := by simpa using hx15
          go_wp2
          go_ret
          exact ⟨rfl, rfl⟩
        · have e1 : decide (15 < x) = false := by simpa using hx15
          by_cases hx0 : 0 < x
          · have e2 : decide (0 < x) = true := by simpa using hx0
            have hsh := shr_15 (n := x) (by omega)
            obtain ⟨y, hy⟩ : ∃ y, 2 ^ (15 - x) = y := ⟨_, rfl⟩
            rw [hy] at hsh
            have HI1 : Hid (m + 1 = many (k + 1) (lq ls) ∧ s + y = room (k + 1) 15 (lq ls) ∧ ∀ i, i < k + 1 → lq ls i ≤ 15) := Lib.hid (by
              obtain ⟨a1, a2, a3⟩ := HI.out
              rw [many_succ, room_succ, Hx.out, if_pos hx0, if_pos hx0, ← a1, ← a2, hy]
              refine ⟨rfl, rfl, fun i hi => ?_⟩
              rcases Nat.lt_or_ge i k with h | h
              · exact a3 i h
              · obtain rfl : i = k := by omega
                rw [Hx.out]; omega)
            have hb1 : m + 1 ≤ 320 := by rw [HI1.out.1]; have := many_le (lq ls) (k + 1); omega
            have hb2 : s + y ≤ 320 * 32768 := by
              rw [HI1.out.2.1]
              have h5 := room_le (lq ls) 15 (k + 1)
              have h6 : (2 : Nat) ^ 15 = 32768 := rfl
              rw [h6] at h5
              exact Nat.le_trans h5 (Nat.mul_le_mul_right _ (by omega))
            clear hy
            go_wp2
            go_round
            case rel => exact ⟨k + 1, m + 1, s + y, by go_num, by go_num, by go_num, by omega, hb1, hb2, HI1⟩
            case measure => simp [intOf]; omega
          · have e2 : decide (0 < x) = false := by simpa using hx0
            have HI1 : Hid (m = many (k + 1) (lq ls) ∧ s = room (k + 1) 15 (lq ls) ∧ ∀ i, i < k + 1 → lq ls i ≤ 15) := Lib.hid (by
              obtain ⟨a1, a2, a3⟩ := HI.out
              rw [many_succ, room_succ, Hx.out, if_neg hx0, if_neg hx0, ← a1, ← a2]
              refine ⟨rfl, rfl, fun i hi => ?_⟩
              rcases Nat.lt_or_ge i k with h | h
              · exact a3 i h
              · obtain rfl : i = k := by omega
                rw [Hx.out]; omega)
            go_wp2
            go_round
            case rel => exact ⟨k + 1, m, s, rfl, rfl, by go_num, by omega, hm, hs, HI1⟩
            case measure => simp [intOf]; omega
      · obtain rfl : k = ls.length := by omega
        obtain ⟨a1, a2, a3⟩ := HI.out
        have hr := Hr.out
        rw [chk_rest (by omega) a3, ← a1, ← a2] at hr
        clear a1 a2 a3
        by_cases m0 : m = 0
        · obtain rfl : r = 0 := by rw [← hr, if_pos (.inl m0)]
          subst m0
          go_wp2
          go_ret
          exact ⟨rfl, rfl⟩
        · have q0 : ((m : Int) == 0) = false := by simp; omega
          by_cases s0 : s = 32768
          · obtain rfl : r = 0 := by rw [← hr, if_pos (.inr (.inl s0))]
            subst s0
            go_wp2
            go_ret
            exact ⟨rfl, rfl⟩
          · have q1 : ((s : Int) == 32768) = false := by simp; omega
            by_cases m1 : m = 1
            · subst m1
              by_cases s1 : s = 16384
              · obtain rfl : r = 0 := by rw [← hr, if_pos (.inr (.inr ⟨rfl, s1⟩))]
                subst s1
                go_wp2
                go_ret
                exact ⟨rfl, rfl⟩
              · have q2 : ((s : Int) == 16384) = false := by simp; omega
                obtain rfl : r = 60 := by
                  rw [← hr, if_neg]
                  omega
                go_wp2
                go_ret
                exact ⟨rfl, rfl⟩
            · have q2 : ((m : Int) == 1) = false := by simp; omega
              obtain rfl : r = 60 := by
                rw [← hr, if_neg]
                omega
              go_wp2
              go_ret
              exact ⟨rfl, rfl⟩

end Go.Proofs.Ytdcmalbbijchiaa

/- huff's turned. -/
namespace Go.Proofs.Ytdcmalbbijchiaa
open Go.RowKit

/-- So many bits of a number, the first one becomes the highest. -/
def trn : Nat → Nat → Nat → Nat
  | 0, acc, _ => acc
  | s + 1, acc, x => trn s (acc * 2 + x % 2) (x / 2)

theorem and_one_u32 (x : Nat) (h : x < 4294967296) : bits .and .u32 (x : Int) 1 = ((x % 2 : Nat) : Int) := by
  have := bits_mask .u32 32 (by decide) (fun m h0 h1 => by rw [IntKind.wrap_u32]; omega) 1 (by omega) x (by omega) (by omega)
  simpa using this

theorem or_low_u16 (a b : Nat) (ha : a < 32768) (hb : b < 2) : bits .or .u16 ((a : Int) * 2) (b : Int) = ((a * 2 + b : Nat) : Int) := by
  have e : ((a : Int) * 2) = ((a * 2 : Nat) : Int) := by simp
  rw [e, (bits_nat .u16 16 (by decide) (fun m h0 h1 => by rw [IntKind.wrap_u16]; omega) (a * 2) b (by omega) (by omega)).2]
  have h := Nat.two_pow_add_eq_or_of_lt (i := 1) (b := b) (by omega) a
  rw [Nat.mul_comm a 2]
  simp only [Nat.pow_one] at h
  rw [h]

set_option maxHeartbeats 1000000 in
theorem turned_any (x s : Nat) (w : World) (hx : x < 4294967296) (hs : s ≤ 15) :
    Calls Try.prog 46 #[.int .u32 (x : Int), .int .u8 (s : Int)] w fun e w' => e = .returned (.int .u16 ((trn s 0 x : Nat) : Int)) ∧ w' = w := by
  obtain ⟨r, hr⟩ : ∃ r, trn s 0 x = r := ⟨_, rfl⟩
  rw [hr]
  have Hr := Lib.hid hr
  clear hr
  go_enter Try.func46, Try.ntmps46
  go_wp2
  go_loop [0, 5, 7] (fun xv av kv => ∃ (k y a : Nat), xv = .int .u32 (y : Int) ∧ av = .int .u16 (a : Int) ∧ kv = .int .u8 (k : Int) ∧ k ≤ s ∧ y < 4294967296 ∧ Hid (a < 2 ^ k ∧ trn (s - k) a y = r)) (fun _ _ kv => s - (intOf kv).toNat)
  case atStart => exact ⟨0, x, 0, rfl, rfl, rfl, Nat.zero_le _, hx, Lib.hid ⟨by simp, Hr.out⟩⟩
  case round =>
    obtain ⟨k, y, a, rfl, rfl, rfl, hk, hy, HI⟩ := hrel
    by_cases hlt : k < s
    · have d0 : decide (k < s) = true := by simpa using hlt
      have ha : a < 32768 := by
        have h1 := HI.out.1
        have h2 : 2 ^ k ≤ 2 ^ 14 := Nat.pow_le_pow_right (by decide) (by omega)
        have h3 : (2 : Nat) ^ 14 = 16384 := rfl
        omega
      have hand := and_one_u32 y hy
      obtain ⟨b, hb⟩ : ∃ b, y % 2 = b := ⟨_, rfl⟩
      rw [hb] at hand
      have hb2 : b < 2 := by omega
      have hor := or_low_u16 a b ha hb2
      obtain ⟨c, hc⟩ : ∃ c, a * 2 + b = c := ⟨_, rfl⟩
      rw [hc] at hor
      have HI1 : Hid (c < 2 ^ (k + 1) ∧ trn (s - (k + 1)) c (y / 2) = r) := Lib.hid (by
        obtain ⟨h1, h2⟩ := HI.out
        rw [show s - k = (s - (k + 1)) + 1 by omega, trn, hb, hc] at h2
        refine ⟨?_, h2⟩
        rw [Nat.pow_succ]; omega)
      have hc16 : c < 65536 := by omega
      clear hb hc
      go_wp2
      go_round
      case rel => exact ⟨k + 1, y / 2, c, by go_num, by go_num, by go_num, by omega, by omega, HI1⟩
      case measure => simp [intOf]; omega
    · obtain rfl : k = s := by omega
      have d0 : decide (k < k) = false := by simp
      have h2 := HI.out.2
      rw [Nat.sub_self, trn] at h2
      subst h2
      go_wp2
      go_ret
      exact ⟨rfl, rfl⟩

end Go.Proofs.Ytdcmalbbijchiaa
