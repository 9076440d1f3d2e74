/- The walk of the statement BitsKnown. -/
import Derived.Test.YtlagddnpomkabaaBitF
namespace Go.Proofs.Ytlagddnpomkabaa
open Go.RowKit

theorem putS_zero {S base B N n k : Nat} {W0 w : World} (h : WrS S base B N n W0 w) (hk : k ≤ 24) (hmax : n + k ≤ 8388608) :
    Calls Try.prog 13 #[.pointer (some ⟨B, 0, none⟩), .int .u32 0, .int .i64 (k : Int)] w fun e w' => e = .returned (.int .i64 0) ∧ WrS S base B N (n + k) W0 w' := by
  have h1 := putS_ok (v := 0) h (pow_pos' k) hk hmax
  rw [Nat.zero_mul, Nat.add_zero] at h1
  exact h1

set_option maxHeartbeats 2000000 in
set_option maxRecDepth 100000 in
theorem full_any (w : World) : Makes Try.prog 27 #[] w (.bool true) := by
  unfold Makes
  go_enter Try.func27, Try.ntmps27
  go_wp2
  go_loopw [2] (fun i wr => ∃ k : Nat, i = .int .i64 (k : Int) ∧ k ≤ 349525 ∧ Hid (WrS w.heap.size (w.heap.size + 1) w.heap.size 0 (24 * k) w wr)) (fun i _ => 349525 - (intOf i).toNat)
  case atStart => exact ⟨0, rfl, Nat.zero_le _, Lib.hid (WrS.new w)⟩
  case round =>
    obtain ⟨k, rfl, hk, Hw⟩ := hrel
    by_cases hlt : k < 349525
    · have hd : decide ((k : Int) < 349525) = true := by simp; omega
      have Hlt := Lib.hid hlt
      have hkb : (k : Int) ≤ 1000000 := by omega
      clear hlt hk
      go_wp2_with fail
      refine Calls.mono (putS_zero (k := 24) Hw.out (by decide) (by have := Hlt.out; omega)) ?_
      rintro e w1 ⟨rfl, h1⟩
      have H1 : Hid (WrS w.heap.size (w.heap.size + 1) w.heap.size 0 (24 * (k + 1)) w w1) := Lib.hid h1
      clear h1
      go_wp2
      go_roundw
      case rel => exact ⟨k + 1, by go_num, by have := Hlt.out; omega, H1⟩
      case measure => simp [intOf]; have := Hlt.out; omega
    · obtain ⟨n, hn⟩ : ∃ n, 24 * k = n := ⟨_, rfl⟩
      have hn' : n = 8388600 := by omega
      rw [hn] at Hw
      have Hn := Lib.hid hn'
      have hnlo : 8388600 ≤ n := by omega
      have hnhi : n ≤ 8388600 := by omega
      have hd : decide ((k : Int) < 349525) = false := by simp; omega
      have e8 : IntKind.i64.wrap (8388608 - (n : Int)) = 8 := by rw [IntWalk.i64_in _ (by omega)]; omega
      have e8' : 8388608 - (n : Int) = 8 := by omega
      have hkb : (k : Int) ≤ 1000000 := by omega
      have hb8 : (((n + 8 : Nat) : Int) == 8388608) = true := by rw [beq_iff_eq]; omega
      have hb8' : (((n : Int) + 8 : Int) == 8388608) = true := by rw [beq_iff_eq]; omega
      have hbl : (((byts 0 ((alignN (n + 8) + 7) / 8)).length : Int) == 1048576) = true := by
        rw [byts_len, beq_iff_eq]; unfold alignN; omega
      have Hhi := Lib.hid hnhi
      have Hbl := Lib.hid hbl
      clear hn hn' hnlo hnhi hlt hk hbl
      go_wp2_with fail
      refine Calls.mono (lenS Hw.out) ?_
      rintro e w1 ⟨rfl, rfl⟩
      go_wp2_with fail
      refine Calls.mono (putS_long (v := 0) (k := 9) Hw.out (by decide) (by decide) (by have := Hn.out; omega)) ?_
      rintro e w1 ⟨rfl, rfl⟩
      go_wp2_with fail
      refine Calls.mono (putS_zero (k := 8) Hw.out (by decide) (by have := Hn.out; omega)) ?_
      rintro e w2 ⟨rfl, h2⟩
      have H2 := Lib.hid h2
      clear h2
      go_wp2_with fail
      refine Calls.mono (putS_long (v := 0) (k := 1) H2.out (by decide) (by decide) (by have := Hn.out; omega)) ?_
      rintro e w3 ⟨rfl, rfl⟩
      go_wp2_with fail
      refine Calls.mono (lenS H2.out) ?_
      rintro e w3 ⟨rfl, rfl⟩
      go_wp2_with fail
      refine Calls.mono (alignS H2.out) ?_
      rintro e w4 ⟨rfl, h4⟩
      have H4 := Lib.hid h4
      clear h4
      go_wp2_with fail
      refine Calls.mono (bytesS H4.out) ?_
      rintro e w5 ⟨v', rfl, ho⟩
      obtain ⟨p', c', rfl⟩ := owns_slice ho.1
      have Hb5 := Lib.hid ho.2
      have hbl := Hbl.out
      clear ho
      generalize (byts 0 ((alignN (n + 8) + 7) / 8)).length = m at *
      go_wp2
      go_ret
      exact ⟨rfl, H4.out.keeps.trans (Hb5.out.mono H4.out.keeps.size)⟩

set_option maxHeartbeats 4000000 in
set_option maxRecDepth 100000 in
theorem known_any (w : World) : Makes Try.prog 8 #[] w (.bool true) := by
  unfold Makes
  go_enter Try.func8, Try.ntmps8
  go_wp2_with fail
  refine Calls.mono (put_wide w.heap.size 2 1 _ (by decide) (by decide) (by decide)) ?_
  rintro e w1 ⟨rfl, rfl⟩
  go_wp2_with fail
  refine Calls.mono (put_arg w.heap.size 0 25 _ (by decide)) ?_
  rintro e w1 ⟨rfl, rfl⟩
  go_wp2_with fail
  refine Calls.mono (put_arg w.heap.size 0 (-1) _ (by decide)) ?_
  rintro e w1 ⟨rfl, rfl⟩
  go_wp2_with fail
  refine Calls.mono (put_wide w.heap.size 1 0 _ (by decide) (by decide) (by decide)) ?_
  rintro e w1 ⟨rfl, rfl⟩
  go_wp2_with fail
  refine Calls.mono (lenS (WrS.new w)) ?_
  rintro e w1 ⟨rfl, rfl⟩
  go_wp2_with fail
  refine Calls.mono (putS_zero (k := 0) (WrS.new w) (by decide) (by decide)) ?_
  rintro e w1 ⟨rfl, h1⟩
  have H1 : Hid (WrS w.heap.size (w.heap.size + 1) w.heap.size 0 0 w w1) := Lib.hid h1
  clear h1
  go_wp2_with fail
  refine Calls.mono (put_wide w.heap.size 16777216 24 _ (by decide) (by decide) (by decide)) ?_
  rintro e w2 ⟨rfl, rfl⟩
  go_wp2_with fail
  refine Calls.mono (putS_ok (v := 1) (k := 1) H1.out (by decide) (by decide) (by decide)) ?_
  rintro e w2 ⟨rfl, h2⟩
  have H2 : Hid (WrS w.heap.size (w.heap.size + 1) w.heap.size 1 1 w w2) := Lib.hid h2
  clear h2 H1
  go_wp2_with fail
  refine Calls.mono (putS_ok (v := 2) (k := 2) H2.out (by decide) (by decide) (by decide)) ?_
  rintro e w3 ⟨rfl, h3⟩
  have H3 : Hid (WrS w.heap.size (w.heap.size + 1) w.heap.size 5 3 w w3) := Lib.hid h3
  clear h3 H2
  go_wp2_with fail
  refine Calls.mono (putS_ok (v := 255) (k := 8) H3.out (by decide) (by decide) (by decide)) ?_
  rintro e w4 ⟨rfl, h4⟩
  have H4 : Hid (WrS w.heap.size (w.heap.size + 1) w.heap.size 2045 11 w w4) := Lib.hid h4
  clear h4 H3
  go_wp2_with fail
  refine Calls.mono (alignS H4.out) ?_
  rintro e w5 ⟨rfl, h5⟩
  have H5 : Hid (WrS w.heap.size (w.heap.size + 1) w.heap.size 2045 16 w w5) := Lib.hid h5
  clear h5 H4
  go_wp2_with fail
  refine Calls.mono (alignS H5.out) ?_
  rintro e w6 ⟨rfl, h6⟩
  have H6 : Hid (WrS w.heap.size (w.heap.size + 1) w.heap.size 2045 16 w w6) := Lib.hid h6
  clear h6 H5
  go_wp2_with fail
  refine Calls.mono (lenS H6.out) ?_
  rintro e w7 ⟨rfl, rfl⟩
  go_wp2_with fail
  refine Calls.mono (putS_ok (v := 3) (k := 24) H6.out (by decide) (by decide) (by decide)) ?_
  rintro e w8 ⟨rfl, h8⟩
  have H8 : Hid (WrS w.heap.size (w.heap.size + 1) w.heap.size 198653 40 w w8) := Lib.hid h8
  clear h8 H6
  go_wp2_with fail
  refine Calls.mono (lenS H8.out) ?_
  rintro e w9 ⟨rfl, rfl⟩
  go_wp2_with fail
  refine Calls.mono (bytesS H8.out) ?_
  rintro e w10 ⟨v', rfl, ho⟩
  have Ho : Hid (Own8 w9.heap.size [253, 7, 3, 0, 0] w9 w10 v') := Lib.hid ho
  have H10 := Lib.hid (H8.out.below ho.2)
  obtain ⟨p1, c1, rfl⟩ := owns_slice Ho.out.1
  have Hr1 : Hid (Rw8 w10 (.slice p1 5 c1) [253, 7, 3, 0, 0]) := Lib.hid (Rw8.own Ho.out.1 rfl)
  have Hlit : Hid (Rw8 (w10.alloc (.cells #[.int .u8 253, .int .u8 7, .int .u8 3, .int .u8 0, .int .u8 0] 5)) (.slice (some ⟨w10.heap.size, 0, none⟩) 5 5) [253, 7, 3, 0, 0]) := Lib.hid (Rw8.own (base := w10.heap.size) (World.ownsRow_lit w10 #[.int .u8 253, .int .u8 7, .int .u8 3, .int .u8 0, .int .u8 0] 5 (Nat.le_refl _) (by simp [maxLen]) rfl) rfl)
  clear ho Ho H8
  go_wp2_with fail
  refine Calls.mono (bytes_eq _ _ _ _ (Hr1.out.below (Below.al1 w10 _)) Hlit.out) ?_
  rintro e w11 ⟨rfl, hb11⟩
  have H11 := Lib.hid (H10.out.below (Below.thn (Below.al1 w10 _) hb11))
  clear hb11 Hlit Hr1 H10
  go_wp2_with fail
  refine Calls.mono (bytesS H11.out) ?_
  rintro e w12 ⟨v2, rfl, ho2⟩
  have Ho2 : Hid (Own8 w11.heap.size [253, 7, 3, 0, 0] w11 w12 v2) := Lib.hid ho2
  clear ho2
  obtain ⟨g, c2, rfl, hg1, hg2⟩ : ∃ g c, v2 = .slice (some ⟨g, 0, none⟩) 5 c ∧ w11.heap.size ≤ g ∧ g < w12.heap.size := by
    rcases Ho2.out.1.2 with ⟨-, h0⟩ | ⟨g, cap, cur, hsv, hbg, hg, -⟩
    · cases h0
    · exact ⟨g, cap, hsv, hbg, (Array.getElem?_eq_some_iff.1 hg).1⟩
  have f0 : w12.frozen? ⟨g, 0, none⟩ = false := Ho2.out.1.frozenAt 0
  have c0 : w12.cell? ⟨g, 0, none⟩ = some (.int .u8 253) := Ho2.out.1.cellAt 0 (by decide)
  have H12 := Lib.hid (H11.out.below (Ho2.out.2.setCell (p := ⟨g, 0, none⟩) hg1 (.int .u8 9)))
  clear H11 hg1 hg2 Ho2
  go_wp2_with fail
  refine Calls.mono (bytesS H12.out) ?_
  rintro e w13 ⟨v3, rfl, ho3⟩
  obtain ⟨g3, c3, rfl, hg3⟩ : ∃ g c, v3 = .slice (some ⟨g, 0, none⟩) 5 c ∧ g < w13.heap.size := by
    rcases ho3.1.2 with ⟨-, h0⟩ | ⟨g, cap, cur, hsv, hbg, hg, -⟩
    · cases h0
    · exact ⟨g, cap, hsv, (Array.getElem?_eq_some_iff.1 hg).1⟩
  have d0 : w13.cell? ⟨g3, 0, none⟩ = some (.int .u8 253) := ho3.1.cellAt 0 (by decide)
  have H13 := Lib.hid (H12.out.below ho3.2)
  have Hlit2 : Hid (Rw8 (w13.alloc (.cells #[.int .u8 253, .int .u8 7] 5)) (.slice (some ⟨w13.heap.size, 0, none⟩) 2 2) [253, 7]) := Lib.hid (Rw8.own (base := w13.heap.size) (World.ownsRow_lit w13 #[.int .u8 253, .int .u8 7] 2 (Nat.le_refl _) (by simp [maxLen]) rfl) rfl)
  clear ho3 f0 c0 H12 hg3
  go_wp2_with fail
  refine Calls.mono (newS (l := [253, 7]) (W0 := w13) (S := w13.heap.size) (Below.al1 w13 _) (by simp) Hlit2.out (by decide) (by decide)) ?_
  rintro e w14 ⟨Br, rfl, hr14, -, -⟩
  have R14 := Lib.hid hr14
  clear hr14 Hlit2 d0
  go_wp2_with fail
  refine Calls.mono (getS_ok (k := 11) R14.out (by decide) (by decide)) ?_
  rintro e w15 ⟨rfl, hr, -⟩
  have R15 : Hid (RdS w13.heap.size Br [253, 7] 11 w13 w15) := Lib.hid hr
  clear hr R14
  go_wp2_with fail
  refine Calls.mono (getS_few (k := 6) R15.out (by decide) (by decide)) ?_
  rintro e w16 ⟨rfl, hb⟩
  have R16 := Lib.hid (R15.out.below hb)
  clear hb R15
  go_wp2_with fail
  refine Calls.mono (get_arg Br (-1) _ (by decide)) ?_
  rintro e w17 ⟨rfl, rfl⟩
  go_wp2_with fail
  refine Calls.mono (get_arg Br 25 _ (by decide)) ?_
  rintro e w17 ⟨rfl, rfl⟩
  go_wp2_with fail
  refine Calls.mono (getS_ok (k := 5) R16.out (by decide) (by decide)) ?_
  rintro e w18 ⟨rfl, hr, -⟩
  have R18 : Hid (RdS w13.heap.size Br [253, 7] 16 w13 w18) := Lib.hid hr
  have Hv18 : Hid (numB [253, 7] / 2 ^ 11 % 2 ^ 5 = 0) := Lib.hid (by decide)
  rw [Hv18.out]
  clear hr R16
  go_wp2_with fail
  refine Calls.mono (ralignS R18.out) ?_
  rintro e w19 ⟨rfl, hr, -⟩
  have R19 : Hid (RdS w13.heap.size Br [253, 7] 16 w13 w19) := Lib.hid hr
  clear hr R18
  go_wp2_with fail
  refine Calls.mono (getS_few (k := 1) R19.out (by decide) (by decide)) ?_
  rintro e w20 ⟨rfl, hb⟩
  have R20 := Lib.hid (R19.out.below hb)
  clear hb R19
  go_wp2_with fail
  refine Calls.mono (getS_ok (k := 0) R20.out (by decide) (by decide)) ?_
  rintro e w21 ⟨rfl, hr, -⟩
  have R21 : Hid (RdS w13.heap.size Br [253, 7] 16 w13 w21) := Lib.hid hr
  have Hv21 : Hid (numB [253, 7] / 2 ^ 16 % 2 ^ 0 = 0) := Lib.hid (by decide)
  rw [Hv21.out]
  clear hr R20
  go_wp2_with fail
  refine Calls.mono (atS R21.out) ?_
  rintro e w22 ⟨rfl, rfl⟩
  go_wp2_with fail
  refine Calls.mono (full_any _) ?_
  rintro e w23 ⟨rfl, hb23⟩
  have Hb23 := Lib.hid hb23
  clear hb23
  go_wp2_with fail
  refine Calls.mono (lays_any _) ?_
  rintro e w24 ⟨rfl, hb24⟩
  have Hb := Lib.hid (H13.out.keeps.trans (((R21.out.keeps.trans (Hb23.out.mono R21.out.keeps.size)).trans (hb24.mono (Nat.le_trans R21.out.keeps.size Hb23.out.size))).mono H13.out.keeps.size))
  clear hb24
  go_wp2
  go_ret
  exact ⟨rfl, Hb.out⟩

end Go.Proofs.Ytlagddnpomkabaa
