/- palette, the document's: Size, place, Colors. -/
import Derived.Test.YtonhcdhlinlncaaPalB
import Derived.Test.YtonhcdhlinlncaaRleS
namespace Go.Proofs.Ytonhcdhlinlncaa
open Go.RowKit

attribute [local go_sem] Oper.semAt_some

set_option maxRecDepth 20000 in
set_option maxHeartbeats 4000000 in
theorem refSize_any (k : Nat) (w : World) (hk : k ≤ 16) : StillR 16 #[.int .i64 (k : Int)] w (.int .i64 ((plZ k : Nat) : Int)) := by
  unfold StillR
  obtain ⟨r, hr⟩ : ∃ r, plZ k = r := ⟨_, rfl⟩
  have Hz : Hid (r = if k ≤ 1 then 0 else if k ≤ 2 then 1 else if k ≤ 4 then 2 else 4) := Lib.hid hr.symm
  rw [hr]
  clear hr
  go_enter Try.func16, Try.ntmps16
  go_wp2_with fail
  go_loop [3] (fun nv => ∃ n : Nat, nv = .int .i64 (n : Int) ∧ n ≤ 4 ∧ (n = 0 ∨ 2 ^ (n - 1) < k)) (fun nv => 5 - (intOf nv).toNat)
  case atStart => exact ⟨0, rfl, by omega, .inl rfl⟩
  case round =>
    obtain ⟨n, rfl, hn, hlo⟩ := hrel
    obtain rfl | rfl | rfl | rfl | rfl : n = 0 ∨ n = 1 ∨ n = 2 ∨ n = 3 ∨ n = 4 := by omega
    · by_cases h : 1 < k
      · have d1 : decide ((1 : Int) < (k : Int)) = true := by simp; omega
        have d1' : decide (1 < k) = true := by simp; omega
        go_wp2
        go_round
        case rel => exact ⟨1, rfl, by omega, .inr (by simpa using h)⟩
        case measure => simp [intOf]
      · have d1 : decide ((1 : Int) < (k : Int)) = false := by simp; omega
        have d1' : decide (1 < k) = false := by simp; omega
        obtain rfl : r = 0 := by rw [Hz.out, if_pos (by omega)]
        go_wp2
        go_ret
        exact ⟨rfl, rfl⟩
    · by_cases h : 2 < k
      · have d1 : decide ((2 : Int) < (k : Int)) = true := by simp; omega
        have d1' : decide (2 < k) = true := by simp; omega
        go_wp2
        go_round
        case rel => exact ⟨2, rfl, by omega, .inr (by simpa using h)⟩
        case measure => simp [intOf]
      · have d1 : decide ((2 : Int) < (k : Int)) = false := by simp; omega
        have d1' : decide (2 < k) = false := by simp; omega
        obtain rfl : r = 1 := by rw [Hz.out, if_neg (by simp at hlo; omega), if_pos (by omega)]
        go_wp2
        go_ret
        exact ⟨rfl, rfl⟩
    · by_cases h : 4 < k
      · have d1 : decide ((4 : Int) < (k : Int)) = true := by simp; omega
        have d1' : decide (4 < k) = true := by simp; omega
        go_wp2
        go_round
        case rel => exact ⟨3, rfl, by omega, .inr (by simpa using h)⟩
        case measure => simp [intOf]
      · have d1 : decide ((4 : Int) < (k : Int)) = false := by simp; omega
        have d1' : decide (4 < k) = false := by simp; omega
        obtain rfl : r = 2 := by rw [Hz.out, if_neg (by simp at hlo; omega), if_neg (by simp at hlo; omega), if_pos (by omega)]
        go_wp2
        go_ret
        exact ⟨rfl, rfl⟩
    · obtain rfl : r = 4 := by rw [Hz.out, if_neg (by simp at hlo; omega), if_neg (by simp at hlo; omega), if_neg (by simp at hlo; omega)]
      by_cases h : 8 < k
      · have d1 : decide ((8 : Int) < (k : Int)) = true := by simp; omega
        have d1' : decide (8 < k) = true := by simp; omega
        go_wp2
        go_round
        case rel => exact ⟨4, rfl, by omega, .inr (by simpa using h)⟩
        case measure => simp [intOf]
      · have d1 : decide ((8 : Int) < (k : Int)) = false := by simp; omega
        have d1' : decide (8 < k) = false := by simp; omega
        go_wp2
        go_ret
        exact ⟨rfl, rfl⟩
    · obtain rfl : r = 4 := by rw [Hz.out, if_neg (by simp at hlo; omega), if_neg (by simp at hlo; omega), if_neg (by simp at hlo; omega)]
      have d1 : decide ((16 : Int) < (k : Int)) = false := by simp; omega
      have d1' : decide (16 < k) = false := by simp; omega
      go_wp2
      go_ret
      exact ⟨rfl, rfl⟩

set_option maxRecDepth 20000 in
set_option maxHeartbeats 4000000 in
theorem refPlace_any (p : Option Addr) (c : Nat) (l : List Nat) (x : Nat) (w : World) (hp : RowAt encP 1 w p l) (hl : l.length ≤ 1048576) : StillR 21 #[.slice p l.length c, .int .u32 (x : Int)] w (.int .i64 ((plI x l : Nat) : Int)) := by
  unfold StillR
  have Hp := Lib.hid hp
  have HI := Lib.hid (fun i h1 h2 h3 => plI_first (c := x) (l := l) (i := i) h1 h2 h3)
  obtain ⟨n, hn⟩ : ∃ n, l.length = n := ⟨_, rfl⟩
  have Hn := Lib.hid hn
  rw [hn] at hl HI ⊢
  obtain ⟨r, hr⟩ : ∃ r, plI x l = r := ⟨_, rfl⟩
  rw [hr] at HI ⊢
  clear hp hn hr
  go_enter Try.func21, Try.ntmps21
  go_wp2_with fail
  go_loop [5] (fun iv => ∃ i : Nat, iv = .int .i64 (i : Int) ∧ i ≤ n ∧ Hid (∀ j, j < i → l.getD j 0 ≠ x)) (fun iv => n - (intOf iv).toNat)
  case atStart => exact ⟨0, rfl, Nat.zero_le _, Lib.hid (fun j hj => by omega)⟩
  case round =>
    obtain ⟨i, rfl, hi, HV⟩ := hrel
    by_cases hin : i < n
    · have d1 : decide ((i : Int) < (n : Int)) = true := by simp; omega
      obtain ⟨g, off, rfl, hc⟩ := Hp.out.pxs (by rw [Hn.out]; omega)
      have x0 := hc i (by rw [Hn.out]; omega)
      obtain ⟨y, hy⟩ : ∃ y, l.getD i 0 = y := ⟨_, rfl⟩
      rw [hy] at x0
      have Hy := Lib.hid hy
      have i0 : (0 : Int) ≤ (i : Int) := by omega
      have i1 : (i : Int) < (n : Int) := by omega
      clear hc hy
      by_cases hyx : y = x
      · have d2 : ((y : Int) != (x : Int)) = false := by simp [hyx]
        obtain rfl : r = i := HI.out i hi HV.out (.inr (by rw [Hy.out]; exact hyx))
        go_wp2
        go_ret
        exact ⟨rfl, rfl⟩
      · have d2 : ((y : Int) != (x : Int)) = true := by simp; omega
        have HV2 : Hid (∀ j, j < i + 1 → l.getD j 0 ≠ x) := Lib.hid (fun j hj => by
          by_cases e : j = i
          · subst e; rw [Hy.out]; exact hyx
          · exact HV.out j (by omega))
        go_wp2
        go_round
        case rel => exact ⟨i + 1, by go_num, by omega, HV2⟩
        case measure => simp [intOf]; omega
    · obtain rfl : i = n := by omega
      have d1 : decide ((i : Int) < (i : Int)) = false := by simp
      obtain rfl : r = i := HI.out i hi HV.out (.inl rfl)
      go_wp2
      go_ret
      exact ⟨rfl, rfl⟩

set_option maxRecDepth 20000 in
set_option maxHeartbeats 4000000 in
theorem refColors_any (p : Option Addr) (c : Nat) (l : List Nat) (w : World) (hp : RowAt encP 1 w p l) (hl : l.length ≤ 1048576) :
    Calls Try.prog 14 #[.slice p l.length c] w fun e w' => ∃ v', e = .returned v' ∧ w'.ownsRow w.heap.size 35 1 v' (plCol l).length ((plCol l).map pxv) ∧ Below w.heap.size w w' := by
  have Hcut := rcut_any p c l w hp hl
  have hlm : (l.map rlw).length = l.length := List.length_map _
  have HC : Hid (plCol (l.map rlw) = plCol l) := Lib.hid (plC_map l [])
  have hfix : ∀ i, rlw ((l.map rlw).getD i 0) = (l.map rlw).getD i 0 := fun i => by
    rw [List.getD_eq_getElem?_getD, List.getElem?_map]
    cases l[i]? with
    | none => rfl
    | some x => exact rlw_rlw x
  obtain ⟨n, hn⟩ : ∃ n, l.length = n := ⟨_, rfl⟩
  rw [hn] at hl hlm Hcut ⊢
  obtain ⟨L, hL⟩ : ∃ L, l.map rlw = L := ⟨_, rfl⟩
  rw [hL] at hlm Hcut hfix HC
  have Hn := Lib.hid hlm
  have Hfix := Lib.hid hfix
  rw [hlm] at Hcut
  have Hcut := Lib.hid Hcut
  rw [← HC.out]
  clear hp hlm hfix hn hL HC
  go_enter Try.func14, Try.ntmps14
  go_wp2_with fail
  refine Calls.mono Hcut.out ?_
  rintro _ w1 ⟨v1, rfl, ho1, hb1⟩
  obtain ⟨v1p, v1c, rfl⟩ := owns_slice ho1
  have HR := Lib.hid (own_rowP ho1).at'.1
  have Hb1 := Lib.hid hb1
  clear ho1 hb1 Hcut
  go_wp2_with fail
  go_loopw [4, 5] (fun ov iv wr => ∃ (i k : Nat) (cs : List Nat), iv = .int .i64 (i : Int) ∧ i ≤ n ∧ k ≤ i ∧ Hid (cs.length = k) ∧ Hid (cs = plC [] (L.take i)) ∧ Hid (wr.ownsRow w1.heap.size 35 1 ov k (cs.map pxv)) ∧ Hid (Below w1.heap.size w1 wr)) (fun _ iv _ => n - (intOf iv).toNat)
  case atStart => exact ⟨0, 0, [], rfl, Nat.zero_le _, Nat.zero_le _, Lib.hid rfl, Lib.hid rfl, Lib.hid (World.ownsRow_nil _ _ _ _), Lib.hid (Below.refl _ _)⟩
  case round =>
    obtain ⟨i, k, cs, rfl, hi, hk, HK, HCs, HO, HB⟩ := hrel
    obtain ⟨vp, vc, rfl⟩ := owns_slice HO.out
    by_cases hin : i < n
    · have d1 : decide ((i : Int) < (n : Int)) = true := by simp; omega
      obtain ⟨g, off, rfl, hc⟩ := HR.out.pxs (by rw [Hn.out]; omega)
      have x0 := cell_later HB.out (hc i (by rw [Hn.out]; omega))
      have HS : Hid (plC [] (L.take (i + 1)) = plS cs (L.getD i 0)) := Lib.hid (by rw [plC_take (by rw [Hn.out]; exact hin), ← HCs.out, Hfix.out])
      obtain ⟨x, hx⟩ : ∃ x, L.getD i 0 = x := ⟨_, rfl⟩
      rw [hx] at x0 HS
      have i0 : (0 : Int) ≤ (i : Int) := by omega
      have i1 : (i : Int) < (n : Int) := by omega
      have hs1 := HB.out.size
      have HL := refPlace_any vp vc cs x wr (own_rowP HO.out).at'.1 (by rw [HK.out]; omega)
      rw [HK.out] at HL
      have HL := Lib.hid HL
      have Hle : Hid (plI x cs < k ↔ x ∈ cs) := Lib.hid (by rw [← HK.out]; exact plI_lt)
      have hle : plI x cs ≤ k := by rw [← HK.out]; exact plI_le x cs
      obtain ⟨q, hq⟩ : ∃ q, plI x cs = q := ⟨_, rfl⟩
      rw [hq] at HL Hle hle
      clear hc hx hq
      go_wp2_with fail
      refine Calls.mono HL.out ?_
      rintro _ u1 ⟨rfl, rfl⟩
      by_cases hqk : q = k
      · subst hqk
        have d2 : ((q : Int) == (q : Int)) = true := by simp
        have hmem : x ∉ cs := fun h => by have := Hle.out.2 h; omega
        have HC2 : Hid (cs ++ [x] = plC [] (L.take (i + 1))) := Lib.hid (by rw [HS.out, plS_new hmem])
        have HK2 : Hid ((cs ++ [x]).length = q + 1) := Lib.hid (by rw [List.length_append, HK.out]; rfl)
        clear hmem
        go_wp2_with (at_builtin; refine wpList_append_one u1 rfl (.tmp 23) (.tmp 28) 22 rfl w1.heap.size 35 _ 4 pxv_info Try.underlying22 rfl (.slice vp q vc) q (cs.map pxv) rfl HO.out (.int .u32 (x : Int)) _ rfl rfl ?m3 ?m4 hs1 ?_)
        case m3 => simp only [maxLen]; omega
        case m4 => omega
        intro g1 cap1 w5 ho1 ht1 hg1
        have Ho1 : Hid (w5.ownsRow w1.heap.size 35 1 (.slice (some ⟨g1, 0, none⟩) (q + 1) cap1) (q + 1) ((cs ++ [x]).map pxv)) := Lib.hid (by
          rw [List.map_append]
          simpa [pxv] using ho1)
        have HB5 := Lib.hid (HB.out.trans (ht1.below hs1 (fun b hb => (HO.out.lt b hb).1)))
        clear ho1 ht1 hg1 x0
        go_wp2
        go_roundw
        case rel => exact ⟨i + 1, q + 1, cs ++ [x], by go_num, by omega, by omega, HK2, HC2, Ho1, HB5⟩
        case measure => simp [intOf]; omega
      · have d2 : ((q : Int) == (k : Int)) = false := by simp; omega
        have hmem : x ∈ cs := Hle.out.1 (by omega)
        have HC2 : Hid (cs = plC [] (L.take (i + 1))) := Lib.hid (by rw [HS.out, plS_old hmem])
        clear hmem x0
        go_wp2
        go_roundw
        case rel => exact ⟨i + 1, k, cs, by go_num, by omega, by omega, HK, HC2, HO, HB⟩
        case measure => simp [intOf]; omega
    · obtain rfl : i = n := by omega
      have d1 : decide ((i : Int) < (i : Int)) = false := by simp
      have e : cs = plCol L := by rw [HCs.out, List.take_of_length_le (by rw [Hn.out]; exact Nat.le_refl _)]; rfl
      subst e
      go_wp2
      go_ret
      refine ⟨_, rfl, ?_, Below.thn Hb1.out HB.out⟩
      rw [HK.out]
      exact owns_base HO.out Hb1.out.size

end Go.Proofs.Ytonhcdhlinlncaa
