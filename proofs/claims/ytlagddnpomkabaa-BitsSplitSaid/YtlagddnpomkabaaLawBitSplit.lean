/- The walk of the statement BitsSplit. -/
import Derived.Test.YtlagddnpomkabaaBitG
namespace Go.Proofs.Ytlagddnpomkabaa
open Go.RowKit

/-- Two writers that were made behind W0, apart. -/
def Pair (S base A B N n M m : Nat) (W0 w : World) : Prop :=
  ∃ sa sb, Wr w base A sa N n ∧ Wr w base B sb M m ∧ (∀ q, sa.ownBlock = some q → sb.ownBlock ≠ some q) ∧ Below S W0 w ∧ base ≤ w.heap.size ∧ S ≤ A ∧ S ≤ B ∧ A ≠ B ∧ n ≤ 8388608 ∧ m ≤ 8388608

theorem Pair.symm {S base A B N n M m : Nat} {W0 w : World} (h : Pair S base A B N n M m W0 w) : Pair S base B A M m N n W0 w := by
  obtain ⟨sa, sb, h1, h2, h3, h4, h5, h6, h7, h8, h9, h10⟩ := h
  exact ⟨sb, sa, h2, h1, fun q h k => h3 q k h, h4, h5, h7, h6, Ne.symm h8, h10, h9⟩
theorem Pair.fst {S base A B N n M m : Nat} {W0 w : World} (h : Pair S base A B N n M m W0 w) : WrS S base A N n W0 w := by
  obtain ⟨sa, sb, h1, h2, h3, h4, h5, h6, h7, h8, h9, h10⟩ := h
  exact ⟨sa, h1, h4, h5, h6, h9⟩
theorem Pair.snd {S base A B N n M m : Nat} {W0 w : World} (h : Pair S base A B N n M m W0 w) : WrS S base B M m W0 w := h.symm.fst
theorem Pair.below {S base A B N n M m : Nat} {W0 w w' : World} (h : Pair S base A B N n M m W0 w) (hb : Below w.heap.size w w') : Pair S base A B N n M m W0 w' := by
  obtain ⟨sa, sb, h1, h2, h3, h4, h5, h6, h7, h8, h9, h10⟩ := h
  exact ⟨sa, sb, h1.below hb, h2.below hb, h3, h4.trans (hb.mono (by have := h1.size; omega)), Nat.le_trans h5 hb.size, h6, h7, h8, h9, h10⟩

theorem Pair.put {S base A B N n M m v k : Nat} {W0 w : World} (h : Pair S base A B N n M m W0 w) (hv : v < 2 ^ k) (hk : k ≤ 24) (hmax : n + k ≤ 8388608) :
    Calls Try.prog 13 #[.pointer (some ⟨A, 0, none⟩), .int .u32 (v : Int), .int .i64 (k : Int)] w fun e w' => e = .returned (.int .i64 0) ∧ Pair S base A B (N + v * 2 ^ n) (n + k) M m W0 w' := by
  obtain ⟨sa, sb, h1, h2, h3, h4, h5, h6, h7, h8, h9, h10⟩ := h
  refine (put_ok base A N n v k sa w h1 hv hk hmax h5).mono fun e w' ⟨he, hto⟩ => ⟨he, ?_⟩
  have hk := WrTo.keeps h4 h1 h6 (by have := h1.size; omega) hto
  obtain ⟨sa', k1, k2, k3⟩ := hto
  have b1 := h1.lt
  have b2 := h2.lt
  refine ⟨sa', sb, k1, h2.turns k2 (fun h => ?_) (fun q hq h => ?_), fun q hq hs => ?_, hk, Nat.le_trans h5 k2.size, h6, h7, h8, hmax, h10⟩
  · rcases h with h | h
    · exact h8 h.symm
    · have := (h1.own.lt B h).1; omega
  · rcases h with h | h
    · subst h; have := (h2.own.lt _ hq).1; omega
    · exact h3 q h hq
  · rcases k3 q hq with h | h
    · exact h3 q h hs
    · have := (h2.own.lt q hs).2; omega

theorem Pair.new (w : World) : Pair w.heap.size (w.heap.size + 2) w.heap.size (w.heap.size + 1) 0 0 0 0 w ((w.alloc (.cells #[.slice none 0 0, .int .i64 0] 25)).alloc (.cells #[.slice none 0 0, .int .i64 0] 25)) := by
  have h1 : Wr (w.alloc (.cells #[.slice none 0 0, .int .i64 0] 25)) (w.heap.size + 2) w.heap.size (.slice none 0 0) 0 0 := ⟨by omega, World.alloc_heap_new w _, World.ownsRow_nil _ _ _ _, by decide⟩
  have h2 : Wr ((w.alloc (.cells #[.slice none 0 0, .int .i64 0] 25)).alloc (.cells #[.slice none 0 0, .int .i64 0] 25)) (w.heap.size + 2) (w.heap.size + 1) (.slice none 0 0) 0 0 := ⟨by omega, (by
    have := World.alloc_heap_new (w.alloc (.cells #[.slice none 0 0, .int .i64 0] 25)) (.cells #[.slice none 0 0, .int .i64 0] 25)
    rwa [World.size_alloc] at this), World.ownsRow_nil _ _ _ _, by decide⟩
  exact ⟨_, _, h1.below (Below.al1 _ _), h2, fun q h => (by cases h), Below.al2 _ _ _, by simp, Nat.le_refl _, by omega, by omega, by decide, by decide⟩

/-- The part that a number is put in two parts at. -/
def partN (k s : Nat) : Nat := if s = 0 then 0 else k % (s + 1)
theorem partN_le (k s : Nat) : partN k s ≤ s := by
  unfold partN
  split
  · omega
  · have := Nat.mod_lt k (show 0 < s + 1 by omega); omega

set_option maxHeartbeats 8000000 in
set_option maxRecDepth 100000 in
theorem bsplit_any (a v n k : Int) (w : World) (ha : 0 ≤ a ∧ a ≤ 255) (hv : 0 ≤ v ∧ v < 4294967296) (hn : 0 ≤ n ∧ n ≤ 255) (hk : 0 ≤ k ∧ k ≤ 255) :
    Makes Try.prog 6 #[.int .u8 a, .int .u32 v, .int .u8 n, .int .u8 k] w (.bool true) := by
  unfold Makes
  obtain ⟨ha0, ha1⟩ := ha
  obtain ⟨hv0, hv1⟩ := hv
  obtain ⟨hn0, hn1⟩ := hn
  obtain ⟨hk0, hk1⟩ := hk
  obtain ⟨a, rfl⟩ := Int.eq_ofNat_of_zero_le ha0
  obtain ⟨v, rfl⟩ := Int.eq_ofNat_of_zero_le hv0
  obtain ⟨n, rfl⟩ := Int.eq_ofNat_of_zero_le hn0
  obtain ⟨k, rfl⟩ := Int.eq_ofNat_of_zero_le hk0
  obtain ⟨t, ht⟩ : ∃ t, a % 20 = t := ⟨_, rfl⟩
  obtain ⟨s, hs⟩ : ∃ s, n % 25 = s := ⟨_, rfl⟩
  obtain ⟨p, hp⟩ : ∃ p, partN k s = p := ⟨_, rfl⟩
  obtain ⟨x, hx⟩ : ∃ x, v % 2 ^ s = x := ⟨_, rfl⟩
  have hps : p ≤ s := by rw [← hp]; exact partN_le k s
  have hs24 : s ≤ 24 := by omega
  have ht19 : t ≤ 19 := by omega
  have hxs : x < 2 ^ s := by rw [← hx]; exact Nat.mod_lt _ (pow_pos' s)
  have hta : (a : Int) % 20 = (t : Int) := by omega
  have hsa : (n : Int) % 25 = (s : Int) := by omega
  have Hv1 := Lib.hid (show v < 4294967296 by omega)
  have Hp := Lib.hid hp
  have Hx := Lib.hid hx
  have Hxs := Lib.hid hxs
  clear ht hs hp hx hxs hv1 ha0 hv0 hn0 hk0
  go_enter Try.func6, Try.ntmps6
  go_upto_if 23 with (fail)
  go_cut [10] (fun sx wx => sx = .int .i64 (p : Int) ∧ wx = w)
  case first =>
    by_cases h0 : s = 0
    · have hz : decide (0 < s) = false := by simp [h0]
      have Hp0 : Hid (p = 0) := Lib.hid (by rw [← Hp.out, h0]; rfl)
      clear h0
      simp only [hz]
      go_wp2_with fail
      go_meet
      exact ⟨by rw [Hp0.out]; rfl, rfl⟩
    · have hz : decide (0 < s) = true := by simp; omega
      have Hp0 : Hid (((k : Int) % ((s : Int) + 1)) = (p : Int)) := Lib.hid (by rw [← Hp.out]; unfold partN; rw [if_neg h0]; simp)
      have hnz : (((s : Int) + 1) == 0) = false := by simp; omega
      clear h0
      simp only [hz]
      go_wp2_with fail
      go_meet
      exact ⟨by rw [← Hp0.out], rfl⟩
  case rest =>
    obtain ⟨rfl, rfl⟩ := hcut
    obtain ⟨P, hP⟩ : ∃ P : Nat, 2 ^ s = P := ⟨_, rfl⟩
    have hPb : P ≤ 16777216 := by rw [← hP]; exact pow_le24 hs24
    have hP0 : 0 < P := by rw [← hP]; exact pow_pos' s
    have hPi : (2 : Int) ^ s % 4294967296 = (P : Int) := by rw [cast_pow, hP]; omega
    have hnz : ((P : Int) == 0) = false := by simp; omega
    have hxi : (v : Int) % (P : Int) = (x : Int) := by rw [← Hx.out, hP]; simp
    have Hq := Lib.hid (And.intro hP hPb)
    clear hP hPb
    go_wp2
    simp only [hxi, hPi]
    go_loopw [13] (fun i wr => ∃ (j N : Nat), i = .int .i64 (j : Int) ∧ j ≤ t ∧ Hid (N < 2 ^ j) ∧ Hid (Pair wc.heap.size (wc.heap.size + 2) wc.heap.size (wc.heap.size + 1) N j N j wc wr)) (fun i _ => t - (intOf i).toNat)
    case atStart => exact ⟨0, 0, rfl, Nat.zero_le _, Lib.hid (by decide), Lib.hid (Pair.new wc)⟩
    case round =>
      obtain ⟨j, N, rfl, hj, HN, Hw⟩ := hrel
      by_cases hlt : j < t
      · go_wp2_with fail
        refine Calls.mono (Pair.put (v := 1) (k := 1) Hw.out (by decide) (by decide) (by omega)) ?_
        rintro e w3 ⟨rfl, h3⟩
        have H3 := Lib.hid h3.symm
        clear h3
        go_wp2_with fail
        refine Calls.mono (Pair.put (v := 1) (k := 1) H3.out (by decide) (by decide) (by omega)) ?_
        rintro e w4 ⟨rfl, h4⟩
        have H4 := Lib.hid h4.symm
        clear h4
        go_wp2
        go_roundw
        case rel => exact ⟨j + 1, _, by go_num, by omega, Lib.hid (by rw [Nat.pow_succ]; have := HN.out; omega), H4⟩
        case measure => simp [intOf]; omega
      · obtain rfl : j = t := by omega
        obtain ⟨Pp, hPp⟩ : ∃ Pp : Nat, 2 ^ p = Pp := ⟨_, rfl⟩
        have hPpb : Pp ≤ 16777216 := by rw [← hPp]; exact pow_le24 (by omega)
        have hPp0 : 0 < Pp := by rw [← hPp]; exact pow_pos' p
        have hPpi : (2 : Int) ^ p % 4294967296 = (Pp : Int) := by rw [cast_pow, hPp]; omega
        have hnzp : ((Pp : Int) == 0) = false := by simp; omega
        obtain ⟨lo, hlo⟩ : ∃ lo, x % 2 ^ p = lo := ⟨_, rfl⟩
        obtain ⟨hi, hhi⟩ : ∃ hi, x / 2 ^ p = hi := ⟨_, rfl⟩
        have hloi : (x : Int) % (Pp : Int) = (lo : Int) := by rw [← hlo, hPp]; simp
        have hhii : (x : Int) / 2 ^ p = (hi : Int) := by rw [← hhi]; simp
        have hlop : lo < 2 ^ p := by rw [← hlo]; exact Nat.mod_lt _ (pow_pos' p)
        have hhip : hi < 2 ^ (s - p) := by
          rw [← hhi]
          refine Nat.div_lt_of_lt_mul ?_
          rw [← Nat.pow_add, show p + (s - p) = s by omega]
          exact Hxs.out
        have hsum : lo + hi * 2 ^ p = x := by rw [← hlo, ← hhi, Nat.mul_comm]; exact Nat.mod_add_div _ _
        have Hlo := Lib.hid hlo
        have Hhi := Lib.hid hhi
        have Hlop := Lib.hid hlop
        have Hhip := Lib.hid hhip
        have Hsum := Lib.hid hsum
        have HPp := Lib.hid (And.intro hPp hPpb)
        have hx24 : x ≤ 16777216 := by have h1 := Hxs.out; have h2 := pow_le24 hs24; omega
        clear hlo hhi hlop hhip hsum hPp hPpb
        go_wp2_with fail
        refine Calls.mono (Pair.put (v := x) (k := s) Hw.out Hxs.out hs24 (by omega)) ?_
        rintro e w3 ⟨rfl, h3⟩
        have H3 := Lib.hid h3.symm
        clear h3
        go_wp2_with fail
        refine Calls.mono (Pair.put (v := lo) (k := p) H3.out Hlop.out (by omega) (by omega)) ?_
        rintro e w4 ⟨rfl, h4⟩
        have H4 := Lib.hid h4
        clear h4 H3
        have hsp : (s : Int) - (p : Int) = ((s - p : Nat) : Int) := by omega
        go_wp2_with fail
        refine Calls.mono (Pair.put (v := hi) (k := s - p) H4.out Hhip.out (by omega) (by omega)) ?_
        rintro e w5 ⟨rfl, h5⟩
        have hM : N + lo * 2 ^ j + hi * 2 ^ (j + p) = N + x * 2 ^ j := by
          rw [← Hsum.out, Nat.add_mul, Nat.pow_add, Nat.mul_assoc, Nat.mul_comm (2 ^ p) (2 ^ j), Nat.add_assoc]
        rw [hM, show j + p + (s - p) = j + s by omega] at h5
        obtain ⟨M, hMM⟩ : ∃ M, N + x * 2 ^ j = M := ⟨_, rfl⟩
        have hMj : M / 2 ^ j = x := by rw [← hMM, Nat.add_mul_div_right _ _ (pow_pos' j), Nat.div_eq_of_lt HN.out, Nat.zero_add]
        have hMb : M < 2 ^ (j + s) := by
          have : (x + 1) * 2 ^ j ≤ 2 ^ s * 2 ^ j := Nat.mul_le_mul_right _ Hxs.out
          have h1 := HN.out
          rw [← hMM, Nat.pow_add, Nat.mul_comm (2 ^ j)]
          rw [Nat.add_mul] at this
          omega
        rw [hMM] at h5
        have H5 := Lib.hid h5.symm
        obtain ⟨l, hl⟩ : ∃ l, byts M ((j + s + 7) / 8) = l := ⟨_, rfl⟩
        have hnl : numB l = M := by
          rw [← hl]
          refine numB_byts _ _ (Nat.lt_of_lt_of_le hMb ?_)
          rw [pow256]; exact Nat.pow_le_pow_right (by decide) (by omega)
        have hll : l.length = (j + s + 7) / 8 := by rw [← hl]; exact byts_len _ _
        have hlb : ∀ b ∈ l, b < 256 := by rw [← hl]; exact byts_lt _ _
        have Hlen := Lib.hid hll
        have Hlb := Lib.hid hlb
        have Hl := Lib.hid hl
        have Hg1 : Hid (numB l / 2 ^ (0 + j) % 2 ^ p = lo) := Lib.hid (by rw [hnl, Nat.zero_add, hMj]; exact Hlo.out)
        have Hg2 : Hid (numB l / 2 ^ (0 + j + p) % 2 ^ (s - p) = hi) := Lib.hid (by
          rw [hnl, Nat.zero_add, Nat.pow_add, ← Nat.div_div_eq_div_mul, hMj, Hhi.out]
          exact Nat.mod_eq_of_lt Hhip.out)
        obtain ⟨hor, hor2⟩ := or_lay32 lo hi p (s - p) Hlop.out Hhip.out (by omega)
        rw [Hsum.out] at hor
        have hom : ((hi : Int) * 2 ^ p) % 4294967296 = (hi : Int) * 2 ^ p := by
          have e : ((hi : Int) * 2 ^ p) = ((hi * 2 ^ p : Nat) : Int) := by simp
          rw [e]; omega
        have Hor := Lib.hid (And.intro hor hom)
        clear h5 H4 hM hMM hMj hMb hl hnl hll hlb hor hor2 hom
        go_wp2_with fail
        refine Calls.mono (bytesS H5.out.fst) ?_
        rintro e w6 ⟨v6, rfl, ho6⟩
        rw [Hl.out] at ho6
        obtain ⟨p6, c6, rfl⟩ := owns_slice ho6.1
        have H6 := Lib.hid (H5.out.below ho6.2)
        have R6 := Lib.hid (Rw8.own ho6.1 rfl)
        clear ho6 H5
        go_wp2_with fail
        refine Calls.mono (bytesS H6.out.snd) ?_
        rintro e w7 ⟨v7, rfl, ho7⟩
        rw [Hl.out] at ho7
        obtain ⟨p7, c7, rfl⟩ := owns_slice ho7.1
        have H7 := Lib.hid (H6.out.below ho7.2)
        have R7 := Lib.hid (Rw8.own ho7.1 rfl)
        have R67 := Lib.hid (R6.out.below ho7.2)
        clear ho7 H6 R6
        go_wp2_with fail
        refine Calls.mono (bytes_eq _ _ _ _ R67.out R7.out) ?_
        rintro e w8 ⟨rfl, hb8⟩
        have H8 := Lib.hid (H7.out.below hb8)
        clear hb8 H7 R67 R7
        go_wp2_with fail
        refine Calls.mono (lenS H8.out.fst) ?_
        rintro e w9 ⟨rfl, rfl⟩
        go_wp2_with fail
        refine Calls.mono (lenS H8.out.snd) ?_
        rintro e w9 ⟨rfl, rfl⟩
        go_wp2_with fail
        refine Calls.mono (bytesS H8.out.fst) ?_
        rintro e w10 ⟨v10, rfl, ho10⟩
        rw [Hl.out] at ho10
        obtain ⟨p10, c10, rfl⟩ := owns_slice ho10.1
        have H10 := Lib.hid (H8.out.below ho10.2)
        have R10 := Lib.hid (Rw8.own ho10.1 rfl)
        clear ho10 H8
        go_wp2_with fail
        refine Calls.mono (newS (W0 := w10) (S := w10.heap.size) (Below.refl _ _) (Nat.le_refl _) R10.out Hlb.out (by have := Hlen.out; omega)) ?_
        rintro e w11 ⟨Br, rfl, hr11, -, -⟩
        have R11 := Lib.hid hr11
        clear hr11 R10
        go_wp2_with fail
        refine Calls.mono (getS_ok (k := j) R11.out (by omega) (by have := Hlen.out; omega)) ?_
        rintro e w12 ⟨rfl, hr12, -⟩
        have R12 := Lib.hid hr12
        clear hr12 R11
        go_wp2_with fail
        refine Calls.mono (getS_ok (k := p) R12.out (by omega) (by have := Hlen.out; omega)) ?_
        rintro e w13 ⟨rfl, hr13, -⟩
        rw [Hg1.out]
        have R13 := Lib.hid hr13
        have hsp : (s : Int) - (p : Int) = ((s - p : Nat) : Int) := by omega
        clear hr13 R12
        go_wp2_with fail
        refine Calls.mono (getS_ok (k := s - p) R13.out (by omega) (by have := Hlen.out; omega)) ?_
        rintro e w14 ⟨rfl, hr14, -⟩
        rw [Hg2.out]
        have R14 := Lib.hid hr14
        have hor := Hor.out.1
        have hom := Hor.out.2
        clear hr14 R13 hsp
        go_wp2_with fail
        refine Calls.mono (lays_any _) ?_
        rintro e w15 ⟨rfl, hb15⟩
        go_wp2
        go_ret
        exact ⟨rfl, (H10.out.below (R14.out.below hb15).keeps).fst.keeps⟩

end Go.Proofs.Ytlagddnpomkabaa
