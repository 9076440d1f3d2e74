/- bits' writer and reader: Put, Align, Bytes, Len; New, take, Get, Align, At, Left. -/
import Derived.Test.YtoladolgmeanhaaGreatQc4
namespace Go.Proofs.YtoladolgmeanhaaGreat
open Go.RowKit

def enc8 (b : Nat) : List Value := [u8v b]
theorem enc8_len (b : Nat) : (enc8 b).length = 1 := rfl
theorem flat8 : ∀ l : List Nat, l.flatMap enc8 = l.map u8v
  | [] => rfl
  | b :: r => by rw [List.flatMap_cons, flat8 r]; rfl
theorem one8 (l : List Nat) : ∀ u ∈ l.map u8v, u.oneCell' = true := by
  intro u hu
  obtain ⟨b, _, rfl⟩ := List.mem_map.1 hu
  rfl
abbrev Rw8 (w : World) (v : Value) (l : List Nat) : Prop := RwG enc8 1 w v l
theorem Rw8.own {w : World} {base : Nat} {v : Value} {l : List Nat} {n : Nat} (h : w.ownsRow base 5 1 v n (l.map u8v)) (hn : n = l.length) : Rw8 w v l := by
  subst hn
  rw [← flat8] at h
  exact RwG.owned enc8_len h
def Own8 (base : Nat) (l : List Nat) (w w' : World) (v : Value) : Prop := w'.ownsRow base 5 1 v l.length (l.map u8v) ∧ Below w.heap.size w w'
set_option maxHeartbeats 1000000 in
theorem clone_any (v : Value) (l : List Nat) (w : World) (hv : Rw8 w v l) (hlen : l.length ≤ 1073741824) :
    Calls Tryz.prog 47 #[v] w fun e w' => ∃ v', e = .returned v' ∧ Own8 w.heap.size l w w' v' := by
  obtain ⟨p, c, rfl, h1, h2, hsrc⟩ := hv.src enc8_len (by decide)
  rw [flat8] at hsrc
  obtain ⟨i0, hi0, hz0, hz1, hz2⟩ := info_parts u8_info
  have hb : ∀ (a : Option Addr) (n c n' c' : Nat) (w : World), (binOp .eql 25 (.slice a n c) (.slice none n' c')).run Tryz.prog w = .ok (.bool a.isNone) w := fun a n c n' c' w => Lib.run_eql_slice_nil (P := Tryz.prog) w 25 5 a n c n' c' Tryz.underlying25
  rcases hsrc with ⟨rfl, h0, rfl⟩ | ⟨ad, rfl, hc⟩
  · have hl : l = [] := List.eq_nil_of_length_eq_zero h0
    subst hl
    go_enter Tryz.func47, Tryz.ntmps47
    go_wp2
    go_ret
    exact ⟨_, rfl, World.ownsRow_nil _ _ _ _, Below.refl _ _⟩
  · have hc' : ∀ j u, (l.map u8v)[j]? = some u → (w.alloc (.cells #[] 5)).cell? (ad.add j) = some u := fun j u hu => cell_later (Below.al1 w _) (hc j u hu)
    have Hc := Lib.hid hc'
    clear hc hc' hv h1 h2
    go_enter Tryz.func47, Tryz.ntmps47
    go_wp2_with (at_builtin; refine wpList_append_mine _ rfl (.tmp 5) (.tmp 6) 25 rfl w.heap.size 5 i0 _ 1 1 Tryz.underlying25 hi0 hz0 hz1 hz2 rfl (by decide) (.slice (some ⟨w.heap.size, 0, none⟩) 0 0) 0 [] rfl (World.ownsRow_lit w #[] 0 (Nat.le_refl _) (Nat.zero_le _) rfl) (some ad) l.length c (l.map u8v) rfl (by simp) (.inr ⟨ad, rfl, Hc.out⟩) (one8 l) ?c3 ?c4 ?c5 ?_)
    case c3 => simp only [maxLen]; omega
    case c4 => omega
    case c5 => simp
    intro v' w1 ho hg _
    have Ho : Hid (w1.ownsRow w.heap.size 5 1 v' l.length (l.map u8v)) := Lib.hid (by simpa using ho)
    have hb1 : Below w.heap.size w w1 := (Below.al1 w _).trans ((Turns.of_grown (T := fun b => b = w.heap.size) hg (fun i h => by cases h; rfl)).below (by simp) (fun i h => by omega))
    clear ho hg
    go_wp2
    go_ret
    exact ⟨_, rfl, Ho.out, hb1⟩
set_option maxHeartbeats 1000000 in
theorem put_ok (base B N n v k : Nat) (sv : Value) (w : World) (h : Wr w base B sv N n) (hv : v < 2 ^ k) (hk : k ≤ 24) (hmax : n + k ≤ 8388608) (hbase : base ≤ w.heap.size) :
    Calls Tryz.prog 101 #[.pointer (some ⟨B, 0, none⟩), .int .u32 (v : Int), .int .i64 (k : Int)] w fun e w' => e = .returned (.int .i64 0) ∧ WrTo base B sv (N + v * 2 ^ n) (n + k) w w' := by
  have hc1 := h.c1
  have H := Lib.hid h
  have hv32 : v < 4294967296 := by have := pow_le24 hk; omega
  have Hm := Lib.hid (Nat.mod_eq_of_lt hv)
  clear h
  go_enter Tryz.func101, Tryz.ntmps101
  go_wp2_with fail
  refine Calls.mono (counts_yes _ _ (by omega) (by omega)) ?_
  rintro e w1 ⟨rfl, rfl⟩
  go_wp2_with fail
  refine Calls.mono (low_any v k _ hv32 hk) ?_
  rintro e w1 ⟨rfl, rfl⟩
  rw [Hm.out]
  have hlt : ¬ (8388608 - (n : Int) < (k : Int)) := by omega
  go_wp2_with fail
  refine Calls.mono (add_any base B N n v k sv _ H.out hv hk hmax hbase) ?_
  rintro e w1 ⟨rfl, hto⟩
  have Hto := Lib.hid hto
  clear hto
  go_wp2
  go_ret
  exact ⟨rfl, Hto.out⟩
def alignN (n : Nat) : Nat := n + (8 - n % 8) % 8
set_option maxHeartbeats 1000000 in
theorem walign_any (base B N n : Nat) (sv : Value) (w : World) (h : Wr w base B sv N n) (hn : n ≤ 8388608) (hbase : base ≤ w.heap.size) :
    Calls Tryz.prog 107 #[.pointer (some ⟨B, 0, none⟩)] w fun e w' => e = .returned (.int .i64 0) ∧ WrTo base B sv N (alignN n) w w' := by
  have hc1 := h.c1
  have H := Lib.hid h
  clear h
  go_enter Tryz.func107, Tryz.ntmps107
  go_wp2_with fail
  refine Calls.mono (missing_any n _ (by omega)) ?_
  rintro e w1 ⟨rfl, rfl⟩
  go_wp2_with fail
  refine Calls.mono (add_any base B N n 0 ((8 - n % 8) % 8) sv _ H.out (pow_pos' _) (by omega) (by omega) hbase) ?_
  rintro e w1 ⟨rfl, hto⟩
  rw [Nat.zero_mul, Nat.add_zero] at hto
  have Hto := Lib.hid hto
  clear hto
  go_wp2
  go_ret
  exact ⟨rfl, Hto.out⟩
theorem wlen_any (base B N n : Nat) (sv : Value) (w : World) (h : Wr w base B sv N n) :
    Calls Tryz.prog 46 #[.pointer (some ⟨B, 0, none⟩)] w fun e w' => e = .returned (.int .i64 (n : Int)) ∧ w' = w := by
  have hc1 := h.c1
  clear h
  go_enter Tryz.func46, Tryz.ntmps46
  go_wp2
  go_ret
  exact ⟨rfl, rfl⟩
theorem wbytes_any (base B N n : Nat) (sv : Value) (w : World) (h : Wr w base B sv N n) (hn : n ≤ 8388608) :
    Calls Tryz.prog 24 #[.pointer (some ⟨B, 0, none⟩)] w fun e w' => ∃ v', e = .returned v' ∧ Own8 w.heap.size (byts N ((n + 7) / 8)) w w' v' := by
  have hc0 := h.c0
  have Hr := Lib.hid (Rw8.own h.own (byts_len _ _).symm)
  obtain ⟨sp, sc, rfl⟩ := owns_slice h.own
  clear h
  go_enter Tryz.func24, Tryz.ntmps24
  go_wp2_with fail
  refine Calls.mono (clone_any _ _ _ Hr.out (by rw [byts_len]; omega)) ?_
  rintro e w1 ⟨v', rfl, ho⟩
  have Ho := Lib.hid ho
  obtain ⟨p', c', rfl⟩ := owns_slice ho.1
  clear ho
  go_wp2
  go_ret
  exact ⟨_, rfl, Ho.out⟩
end Go.Proofs.YtoladolgmeanhaaGreat
