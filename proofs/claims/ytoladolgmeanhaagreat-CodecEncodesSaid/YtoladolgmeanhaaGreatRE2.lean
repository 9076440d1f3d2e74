/- Several texts in one, each with its own head. -/
import Derived.Test.YtoladolgmeanhaaGreatRE1
import Derived.Deep.AppendLies
namespace Go.Proofs.YtoladolgmeanhaaGreat
open Go.RowKit
attribute [local go_sem] Oper.semAt_some
set_option maxRecDepth 20000 in
set_option maxHeartbeats 4000000 in
theorem refSize_any (k : Nat) (w : World) (hk : k ≤ 16) : StillR 51 #[.int .i64 (k : Int)] w (.int .i64 ((plZ k : Nat) : Int)) := by
  unfold StillR
  obtain ⟨r, hr⟩ : ∃ r, plZ k = r := ⟨_, rfl⟩
  have Hz : Hid (r = if k ≤ 1 then 0 else if k ≤ 2 then 1 else if k ≤ 4 then 2 else 4) := Lib.hid hr.symm
  rw [hr]
  clear hr
  go_enter Tryz.func51, Tryz.ntmps51
  go_wp2_with fail
  go_loop [3] (fun nv => ∃ n : Nat, nv = .int .i64 (n : Int) ∧ n ≤ 4 ∧ (n = 0 ∨ 2 ^ (n - 1) < k)) (fun nv => 5 - (intOf nv).toNat)
  case atStart => exact ⟨0, rfl, by omega, .inl rfl⟩
  case round =>
    obtain ⟨n, rfl, hn, hlo⟩ := hrel
    obtain rfl | rfl | rfl | rfl | rfl : n = 0 ∨ n = 1 ∨ n = 2 ∨ n = 3 ∨ n = 4 := by omega
    · by_cases h : 1 < k
      · have d1 : decide ((1 : Int) < (k : Int)) = true := by simp; omega
        have d1' : decide (1 < k) = true := by simp; omega
        go_wp2
        go_round
        case rel => exact ⟨1, rfl, by omega, .inr (by simpa using h)⟩
        case measure => simp [intOf]
      · have d1 : decide ((1 : Int) < (k : Int)) = false := by simp; omega
        have d1' : decide (1 < k) = false := by simp; omega
        obtain rfl : r = 0 := by rw [Hz.out, if_pos (by omega)]
        go_wp2
        go_ret
        exact ⟨rfl, rfl⟩
    · by_cases h : 2 < k
      · have d1 : decide ((2 : Int) < (k : Int)) = true := by simp; omega
        have d1' : decide (2 < k) = true := by simp; omega
        go_wp2
        go_round
        case rel => exact ⟨2, rfl, by omega, .inr (by simpa using h)⟩
        case measure => simp [intOf]
      · have d1 : decide ((2 : Int) < (k : Int)) = false := by simp; omega
        have d1' : decide (2 < k) = false := by simp; omega
        obtain rfl : r = 1 := by rw [Hz.out, if_neg (by simp at hlo; omega), if_pos (by omega)]
        go_wp2
        go_ret
        exact ⟨rfl, rfl⟩
    · by_cases h : 4 < k
      · have d1 : decide ((4 : Int) < (k : Int)) = true := by simp; omega
        have d1' : decide (4 < k) = true := by simp; omega
        go_wp2
        go_round
        case rel => exact ⟨3, rfl, by omega, .inr (by simpa using h)⟩
        case measure => simp [intOf]
      · have d1 : decide ((4 : Int) < (k : Int)) = false := by simp; omega
        have d1' : decide (4 < k) = false := by simp; omega
        obtain rfl : r = 2 := by rw [Hz.out, if_neg (by simp at hlo; omega), if_neg (by simp at hlo; omega), if_pos (by omega)]
        go_wp2
        go_ret
        exact ⟨rfl, rfl⟩
    · obtain rfl : r = 4 := by rw [Hz.out, if_neg (by simp at hlo; omega), if_neg (by simp at hlo; omega), if_neg (by simp at hlo; omega)]
      by_cases h : 8 < k
      · have d1 : decide ((8 : Int) < (k : Int)) = true := by simp; omega
        have d1' : decide (8 < k) = true := by simp; omega
        go_wp2
        go_round
        case rel => exact ⟨4, rfl, by omega, .inr (by simpa using h)⟩
        case measure => simp [intOf]
      · have d1 : decide ((8 : Int) < (k : Int)) = false := by simp; omega
        have d1' : decide (8 < k) = false := by simp; omega
        go_wp2
        go_ret
        exact ⟨rfl, rfl⟩
    · obtain rfl : r = 4 := by rw [Hz.out, if_neg (by simp at hlo; omega), if_neg (by simp at hlo; omega), if_neg (by simp at hlo; omega)]
      have d1 : decide ((16 : Int) < (k : Int)) = false := by simp; omega
      have d1' : decide (16 < k) = false := by simp; omega
      go_wp2
      go_ret
      exact ⟨rfl, rfl⟩
set_option maxRecDepth 20000 in
set_option maxHeartbeats 4000000 in
theorem refPlace_any (p : Option Addr) (c : Nat) (l : List Nat) (x : Nat) (w : World) (hp : RowAt encP 1 w p l) (hl : l.length ≤ 1048576) : StillR 50 #[.slice p l.length c, .int .u32 (x : Int)] w (.int .i64 ((plI x l : Nat) : Int)) := by
  unfold StillR
  have Hp := Lib.hid hp
  have HI := Lib.hid (fun i h1 h2 h3 => plI_first (c := x) (l := l) (i := i) h1 h2 h3)
  obtain ⟨n, hn⟩ : ∃ n, l.length = n := ⟨_, rfl⟩
  have Hn := Lib.hid hn
  rw [hn] at hl HI ⊢
  obtain ⟨r, hr⟩ : ∃ r, plI x l = r := ⟨_, rfl⟩
  rw [hr] at HI ⊢
  clear hp hn hr
  go_enter Tryz.func50, Tryz.ntmps50
  go_wp2_with fail
  go_loop [5] (fun iv => ∃ i : Nat, iv = .int .i64 (i : Int) ∧ i ≤ n ∧ Hid (∀ j, j < i → l.getD j 0 ≠ x)) (fun iv => n - (intOf iv).toNat)
  case atStart => exact ⟨0, rfl, Nat.zero_le _, Lib.hid (fun j hj => by omega)⟩
  case round =>
    obtain ⟨i, rfl, hi, HV⟩ := hrel
    by_cases hin : i < n
    · have d1 : decide ((i : Int) < (n : Int)) = true := by simp; omega
      obtain ⟨g, off, rfl, hc⟩ := Hp.out.pxs (by rw [Hn.out]; omega)
      have x0 := hc i (by rw [Hn.out]; omega)
      obtain ⟨y, hy⟩ : ∃ y, l.getD i 0 = y := ⟨_, rfl⟩
      rw [hy] at x0
      have Hy := Lib.hid hy
      have i0 : (0 : Int) ≤ (i : Int) := by omega
      have i1 : (i : Int) < (n : Int) := by omega
      clear hc hy
      by_cases hyx : y = x
      · have d2 : ((y : Int) != (x : Int)) = false := by simp [hyx]
        obtain rfl : r = i := HI.out i hi HV.out (.inr (by rw [Hy.out]; exact hyx))
        go_wp2
        go_ret
        exact ⟨rfl, rfl⟩
      · have d2 : ((y : Int) != (x : Int)) = true := by simp; omega
        have HV2 : Hid (∀ j, j < i + 1 → l.getD j 0 ≠ x) := Lib.hid (fun j hj => by
          by_cases e : j = i
          · subst e; rw [Hy.out]; exact hyx
          · exact HV.out j (by omega))
        go_wp2
        go_round
        case rel => exact ⟨i + 1, by go_num, by omega, HV2⟩
        case measure => simp [intOf]; omega
    · obtain rfl : i = n := by omega
      have d1 : decide ((i : Int) < (i : Int)) = false := by simp
      obtain rfl : r = i := HI.out i hi HV.out (.inl rfl)
      go_wp2
      go_ret
      exact ⟨rfl, rfl⟩
set_option maxRecDepth 20000 in
set_option maxHeartbeats 4000000 in
theorem refColors_any (p : Option Addr) (c : Nat) (l : List Nat) (w : World) (hp : RowAt encP 1 w p l) (hl : l.length ≤ 1048576) :
    Calls Tryz.prog 48 #[.slice p l.length c] w fun e w' => ∃ v', e = .returned v' ∧ w'.ownsRow w.heap.size 41 1 v' (plCol l).length ((plCol l).map pxv) ∧ Below w.heap.size w w' := by
  have Hcut := rcut_any p c l w hp hl
  have hlm : (l.map rlw).length = l.length := List.length_map _
  have HC : Hid (plCol (l.map rlw) = plCol l) := Lib.hid (plC_map l [])
  have hfix : ∀ i, rlw ((l.map rlw).getD i 0) = (l.map rlw).getD i 0 := fun i => by
    rw [List.getD_eq_getElem?_getD, List.getElem?_map]
    cases l[i]? with
    | none => rfl
    | some x => exact rlw_rlw x
  obtain ⟨n, hn⟩ : ∃ n, l.length = n := ⟨_, rfl⟩
  rw [hn] at hl hlm Hcut ⊢
  obtain ⟨L, hL⟩ : ∃ L, l.map rlw = L := ⟨_, rfl⟩
  rw [hL] at hlm Hcut hfix HC
  have Hn := Lib.hid hlm
  have Hfix := Lib.hid hfix
  rw [hlm] at Hcut
  have Hcut := Lib.hid Hcut
  rw [← HC.out]
  clear hp hlm hfix hn hL HC
  go_enter Tryz.func48, Tryz.ntmps48
  go_wp2_with fail
  refine Calls.mono Hcut.out ?_
  rintro _ w1 ⟨v1, rfl, ho1, hb1⟩
  obtain ⟨v1p, v1c, rfl⟩ := owns_slice ho1
  have HR := Lib.hid (own_rowP ho1).at'.1
  have Hb1 := Lib.hid hb1
  clear ho1 hb1 Hcut
  go_wp2_with fail
  go_loopw [4, 5] (fun ov iv wr => ∃ (i k : Nat) (cs : List Nat), iv = .int .i64 (i : Int) ∧ i ≤ n ∧ k ≤ i ∧ Hid (cs.length = k) ∧ Hid (cs = plC [] (L.take i)) ∧ Hid (wr.ownsRow w1.heap.size 41 1 ov k (cs.map pxv)) ∧ Hid (Below w1.heap.size w1 wr)) (fun _ iv _ => n - (intOf iv).toNat)
  case atStart => exact ⟨0, 0, [], rfl, Nat.zero_le _, Nat.zero_le _, Lib.hid rfl, Lib.hid rfl, Lib.hid (World.ownsRow_nil _ _ _ _), Lib.hid (Below.refl _ _)⟩
  case round =>
    obtain ⟨i, k, cs, rfl, hi, hk, HK, HCs, HO, HB⟩ := hrel
    obtain ⟨vp, vc, rfl⟩ := owns_slice HO.out
    by_cases hin : i < n
    · have d1 : decide ((i : Int) < (n : Int)) = true := by simp; omega
      obtain ⟨g, off, rfl, hc⟩ := HR.out.pxs (by rw [Hn.out]; omega)
      have x0 := cell_later HB.out (hc i (by rw [Hn.out]; omega))
      have HS : Hid (plC [] (L.take (i + 1)) = plS cs (L.getD i 0)) := Lib.hid (by rw [plC_take (by rw [Hn.out]; exact hin), ← HCs.out, Hfix.out])
      obtain ⟨x, hx⟩ : ∃ x, L.getD i 0 = x := ⟨_, rfl⟩
      rw [hx] at x0 HS
      have i0 : (0 : Int) ≤ (i : Int) := by omega
      have i1 : (i : Int) < (n : Int) := by omega
      have hs1 := HB.out.size
      have HL := refPlace_any vp vc cs x wr (own_rowP HO.out).at'.1 (by rw [HK.out]; omega)
      rw [HK.out] at HL
      have HL := Lib.hid HL
      have Hle : Hid (plI x cs < k ↔ x ∈ cs) := Lib.hid (by rw [← HK.out]; exact plI_lt)
      have hle : plI x cs ≤ k := by rw [← HK.out]; exact plI_le x cs
      obtain ⟨q, hq⟩ : ∃ q, plI x cs = q := ⟨_, rfl⟩
      rw [hq] at HL Hle hle
      clear hc hx hq
      go_wp2_with fail
      refine Calls.mono HL.out ?_
      rintro _ u1 ⟨rfl, rfl⟩
      by_cases hqk : q = k
      · subst hqk
        have d2 : ((q : Int) == (q : Int)) = true := by simp
        have hmem : x ∉ cs := fun h => by have := Hle.out.2 h; omega
        have HC2 : Hid (cs ++ [x] = plC [] (L.take (i + 1))) := Lib.hid (by rw [HS.out, plS_new hmem])
        have HK2 : Hid ((cs ++ [x]).length = q + 1) := Lib.hid (by rw [List.length_append, HK.out]; rfl)
        clear hmem
        go_wp2_with (at_builtin; refine wpList_append_one u1 rfl (.tmp 23) (.tmp 28) 22 rfl w1.heap.size 41 _ 4 pxv_info Tryz.underlying22 rfl (.slice vp q vc) q (cs.map pxv) rfl HO.out (.int .u32 (x : Int)) _ rfl rfl ?m3 ?m4 hs1 ?_)
        case m3 => simp only [maxLen]; omega
        case m4 => omega
        intro g1 cap1 w5 ho1 ht1 hg1
        have Ho1 : Hid (w5.ownsRow w1.heap.size 41 1 (.slice (some ⟨g1, 0, none⟩) (q + 1) cap1) (q + 1) ((cs ++ [x]).map pxv)) := Lib.hid (by
          rw [List.map_append]
          simpa [pxv] using ho1)
        have HB5 := Lib.hid (HB.out.trans (ht1.below hs1 (fun b hb => (HO.out.lt b hb).1)))
        clear ho1 ht1 hg1 x0
        go_wp2
        go_roundw
        case rel => exact ⟨i + 1, q + 1, cs ++ [x], by go_num, by omega, by omega, HK2, HC2, Ho1, HB5⟩
        case measure => simp [intOf]; omega
      · have d2 : ((q : Int) == (k : Int)) = false := by simp; omega
        have hmem : x ∈ cs := Hle.out.1 (by omega)
        have HC2 : Hid (cs = plC [] (L.take (i + 1))) := Lib.hid (by rw [HS.out, plS_old hmem])
        clear hmem x0
        go_wp2
        go_roundw
        case rel => exact ⟨i + 1, k, cs, by go_num, by omega, by omega, HK, HC2, HO, HB⟩
        case measure => simp [intOf]; omega
    · obtain rfl : i = n := by omega
      have d1 : decide ((i : Int) < (i : Int)) = false := by simp
      have e : cs = plCol L := by rw [HCs.out, List.take_of_length_le (by rw [Hn.out]; exact Nat.le_refl _)]; rfl
      subst e
      go_wp2
      go_ret
      refine ⟨_, rfl, ?_, Below.thn Hb1.out HB.out⟩
      rw [HK.out]
      exact owns_base HO.out Hb1.out.size
end Go.Proofs.YtoladolgmeanhaaGreat

namespace Go.Proofs.YtoladolgmeanhaaGreat
open Go.RowKit
attribute [local go_sem] Oper.semAt_some
def plBt (s : Nat) (vs : List Nat) : List Bool := vs.flatMap fun v => bitsL v s
theorem plBt_len (s : Nat) : ∀ vs : List Nat, (plBt s vs).length = s * vs.length
  | [] => rfl
  | v :: r => by
    show (bitsL v s ++ plBt s r).length = _
    rw [List.length_append, bitsL_len, plBt_len s r, List.length_cons, Nat.mul_add, Nat.mul_one, Nat.add_comm]
theorem plBt_num (s : Nat) : ∀ vs : List Nat, (∀ v ∈ vs, v < 2 ^ s) → numL (plBt s vs) = plN s vs
  | [], _ => rfl
  | v :: r, h => by
    show numL (bitsL v s ++ plBt s r) = v + 2 ^ s * plN s r
    rw [numL_append, numL_bitsL v s (h v (by simp)), bitsL_len, plBt_num s r (fun x hx => h x (by simp [hx]))]
theorem plBt_snoc (s v : Nat) (vs : List Nat) : plBt s (vs ++ [v]) = plBt s vs ++ bitsL v s := by unfold plBt; simp
set_option maxRecDepth 100000 in
set_option maxHeartbeats 8000000 in
theorem prefEncode_any (p : Option Addr) (c : Nat) (l : List Nat) (w : World) (hp : RowAt encP 1 w p l) (hl : l.length ≤ 1048576) :
    Calls Tryz.prog 27 #[.slice p l.length c] w fun e w' => ∃ v', e = .returned (.tuple #[v', .bool (plE l).2]) ∧ w'.ownsRow w.heap.size 5 1 v' (plE l).1.length ((plE l).1.map u8v) ∧ Below w.heap.size w w' := by
  have Hp := Lib.hid hp
  have Hcolors := refColors_any p c l w hp hl
  have Hno := Lib.hid (fun h => plE_no (l := l) h)
  have Hyes := Lib.hid (fun h => plE_yes (l := l) h)
  have Hlen := Lib.hid (plE_len hl)
  have Hin : Hid (∀ x ∈ l, rlw x ∈ plCol l) := Lib.hid (fun x hx => (plC_mem l [] _).2 (.inr ⟨x, hx, rfl⟩))
  have Hlt := Lib.hid (plCol_lt l)
  have Hvl := Lib.hid (plV_lt (l := l))
  obtain ⟨E, hE⟩ : ∃ E, plE l = E := ⟨_, rfl⟩
  rw [hE] at Hno Hyes Hlen ⊢
  obtain ⟨cs, hcs⟩ : ∃ cs, plCol l = cs := ⟨_, rfl⟩
  rw [hcs] at Hno Hyes Hin Hlt Hvl Hcolors
  obtain ⟨k, hk⟩ : ∃ k, cs.length = k := ⟨_, rfl⟩
  have Hk := Lib.hid hk
  rw [hk] at Hcolors Hno Hyes Hvl
  have Hcut := Lib.hid (fun W hW => rcut_any p c l W (hp.below hW) hl)
  obtain ⟨n, hn⟩ : ∃ n, l.length = n := ⟨_, rfl⟩
  have Hn := Lib.hid hn
  have hlm : (l.map rlw).length = n := by rw [List.length_map]; exact hn
  rw [hn] at Hcolors Hcut hl ⊢
  have Hkn : Hid (k ≤ n) := Lib.hid (by
    have := (plC_len l []).2
    rw [show plC [] l = cs from hcs, hk] at this
    simpa [hn] using this)
  have Hcolors := Lib.hid Hcolors
  have Hlm := Lib.hid hlm
  obtain ⟨i0, hi0, hz0, hz1, hz2⟩ := info_parts u8_info
  clear hp hE hn hcs hk hlm
  go_enter Tryz.func27, Tryz.ntmps27
  go_wp2_with fail
  refine Calls.mono Hcolors.out ?_
  rintro _ w1 ⟨v1, rfl, ho1, hb1⟩
  obtain ⟨v1p, v1c, rfl⟩ := owns_slice ho1
  have HR := Lib.hid (own_rowP ho1).at'.1
  have Hb1 := Lib.hid hb1
  clear ho1 hb1 Hcolors
  by_cases h0 : k = 0
  · have d1 : ((k : Int) == 0) = true := by simp [h0]
    obtain rfl : E = ([], false) := Hno.out (.inl (by omega))
    go_wp2
    go_ret2
    exact ⟨_, rfl, World.ownsRow_nil _ _ _ _, Hb1.out⟩
  have d1 : ((k : Int) == 0) = false := by simp; omega
  by_cases h2 : 16 < k
  · have d2 : decide ((k : Int) > 16) = true := by simp; omega
    have hkn := Hkn.out
    obtain rfl : E = ([], false) := Hno.out (.inr h2)
    go_wp2
    go_ret2
    exact ⟨_, rfl, World.ownsRow_nil _ _ _ _, Hb1.out⟩
  have d2 : decide ((k : Int) > 16) = false := by simp; omega
  obtain rfl : E = (plH cs ++ plT cs l, true) := Hyes.out (by omega)
  obtain ⟨m, hm⟩ : ∃ m, k - 1 = m := ⟨_, rfl⟩
  have HH : Hid (plH cs = m :: cs.flatMap plB) := Lib.hid (by unfold plH; rw [Hk.out, hm])
  have hmi : (k : Int) - 1 = (m : Int) := by omega
  have wm : IntKind.u8.wrap (m : Int) = (m : Int) := by rw [IntKind.wrap_u8]; omega
  clear hm
  go_wp2_with fail
  have Ho0 : Hid ((w1.alloc (.cells #[.int .u8 (m : Int)] 5)).ownsRow w1.heap.size 5 1 (.slice (some ⟨w1.heap.size, 0, none⟩) 1 1) 1 ([m].map u8v)) := Lib.hid (World.ownsRow_lit w1 #[.int .u8 (m : Int)] 1 (Nat.le_refl _) (by decide) rfl)
  have Hb0 := Lib.hid (Below.al1 w1 (.cells #[.int .u8 (m : Int)] 5))
  generalize w1.alloc (.cells #[.int .u8 (m : Int)] 5) = W1 at *
  clear wm hmi
  go_loopw [5, 6] (fun ov iv wr => ∃ (i : Nat) (o : List Nat), iv = .int .i64 (i : Int) ∧ i ≤ k ∧ o.length ≤ 1 + 3 * i ∧ Hid (o = m :: (cs.take i).flatMap plB) ∧ Hid (wr.ownsRow w1.heap.size 5 1 ov o.length (o.map u8v)) ∧ Hid (Below w1.heap.size w1 wr)) (fun _ iv _ => k - (intOf iv).toNat)
  case atStart => exact ⟨0, [m], rfl, Nat.zero_le _, by simp, Lib.hid (by simp), Ho0, Hb0⟩
  case round =>
    obtain ⟨i, o, rfl, hi, hol, HE, HO, HB⟩ := hrel
    obtain ⟨vp, vc, rfl⟩ := owns_slice HO.out
    by_cases hin : i < k
    · have d1 : decide ((i : Int) < (k : Int)) = true := by simp; omega
      obtain ⟨g, off, rfl, hc⟩ := HR.out.pxs (by rw [Hk.out]; omega)
      have x0 := cell_later HB.out (hc i (by rw [Hk.out]; omega))
      have hs := flat_snoc cs (i := i) (by rw [Hk.out]; exact hin)
      have hxb : cs.getD i 0 < 16777216 := Hlt.out _ (by
        rw [List.getD_eq_getElem?_getD, List.getElem?_eq_getElem (by rw [Hk.out]; exact hin)]
        exact List.getElem_mem _)
      have hgw : g < w1.heap.size := World.block_lt_of_cell? _ _ (hc i (by rw [Hk.out]; omega))
      obtain ⟨x, hx⟩ : ∃ x, cs.getD i 0 = x := ⟨_, rfl⟩
      rw [hx] at x0 hs hxb
      obtain ⟨a1, ha1⟩ : ∃ a, x / 65536 = a := ⟨_, rfl⟩
      obtain ⟨z2, hz2'⟩ : ∃ a, x / 256 = a := ⟨_, rfl⟩
      obtain ⟨a2, ha2⟩ : ∃ a, z2 % 256 = a := ⟨_, rfl⟩
      obtain ⟨a3, ha3⟩ : ∃ a, x % 256 = a := ⟨_, rfl⟩
      have e1 : (x : Int) / 65536 = (a1 : Int) := by omega
      have e2 : (x : Int) / 256 = (z2 : Int) := by omega
      have e2' : (z2 : Int) % 256 = (a2 : Int) := by omega
      have e3 : (x : Int) % 256 = (a3 : Int) := by omega
      have t2 : Int.tmod (z2 : Int) 256 = (a2 : Int) := by rw [Int.tmod_eq_emod_of_nonneg (by omega)]; exact e2'
      have t3 : Int.tmod (x : Int) 256 = (a3 : Int) := by rw [Int.tmod_eq_emod_of_nonneg (by omega)]; exact e3
      have u1 : IntKind.u8.wrap (a1 : Int) = (a1 : Int) := by rw [IntKind.wrap_u8]; omega
      have u2 : IntKind.u8.wrap (a2 : Int) = (a2 : Int) := by rw [IntKind.wrap_u8]; omega
      have u3 : IntKind.u8.wrap (a3 : Int) = (a3 : Int) := by rw [IntKind.wrap_u8]; omega
      have v1' : IntKind.u32.wrap (a1 : Int) = (a1 : Int) := by rw [IntKind.wrap_u32]; omega
      have v2' : IntKind.u32.wrap (z2 : Int) = (z2 : Int) := by rw [IntKind.wrap_u32]; omega
      have v3' : IntKind.u32.wrap (a2 : Int) = (a2 : Int) := by rw [IntKind.wrap_u32]; omega
      have v4' : IntKind.u32.wrap (a3 : Int) = (a3 : Int) := by rw [IntKind.wrap_u32]; omega
      have HE2 : Hid (o ++ [a1, a2, a3] = m :: (cs.take (i + 1)).flatMap plB) := Lib.hid (by
        rw [hs, HE.out]
        show _ = m :: (_ ++ [x / 65536, x / 256 % 256, x % 256])
        rw [ha1, hz2', ha2, ha3]; rfl)
      have k0 : (0 : Int) ≤ (i : Int) := by omega
      have k1 : (i : Int) < (k : Int) := by omega
      have hs1 := HB.out.size
      have hol2 : o.length ≤ 100 := by omega
      have Hol := Lib.hid (show o.length ≤ 1 + 3 * i from hol)
      clear ha1 hz2' ha2 ha3 hs hx hc hol
      go_wp2_with fail
      obtain ⟨C, hC⟩ : ∃ C : World → Prop, C = fun w' => Turns (fun b => (Value.slice vp o.length vc).ownBlock = some b) wr w' := ⟨_, rfl⟩
      have hCst : StaysC C := by
        rw [hC]
        exact fun w w' h hb => h.trans (Turns.of_below' hb)
      have hCi : ∀ w, C w → Turns (fun b => (Value.slice vp o.length vc).ownBlock = some b) wr w := by
        rw [hC]
        exact fun _ h => h
      have q1 : ∀ n : InC C, n.world.cell? ⟨g, off + i, none⟩ = some (.int .u32 (x : Int)) := fun n => (hCi _ n.ok).cell x0 (fun h => by have h1 := (HO.out.lt _ h).1; simp only at h1; omega)
      have hC2 : C wr := by rw [hC]; exact Turns.refl _ _
      have hK0 : StaysC (fun w => Below wr.heap.size wr w) := fun w w' h hb => h.trans (hb.mono h.size)
      have hqq : Nonempty (InC C) := ⟨⟨wr, hC2⟩⟩
      have HC := Lib.hid hC
      have HCi := Lib.hid hCi
      clear hC hCi x0
      refine wp_region_chainT 20 22 C (fun w => Below wr.heap.size wr w) (by kernel_rfl) (by decide) (by kernel_rfl) (by kernel_rfl) (by kernel_rfl) hCst hC2 hK0 (Below.refl _ _) ?_
      repeat (refine LqC_on (fun K hK => ?_); go_simp; (refine hK _ ?_; clear hK K))
      refine LqC_nil ?_
      simp only [List.take_succ_cons, List.take_zero, List.drop_succ_cons, List.drop_zero]
      refine ChC_build rfl 3 #[.int .u8 (a1 : Int), .int .u8 (a2 : Int), .int .u8 (a3 : Int)] 5 ?hrun hCst hK0 (fun sv => ?_)
      case hrun =>
        intro w'
        first
          | rfl
          | (go_simp; done)
          | kernel_rfl
      refine ChC_append rfl (.tmp 31) (.tmp 51) 25 rfl w1.heap.size 5 i0 _ 1 1 Tryz.underlying25 hi0 hz0 hz1 hz2 rfl (by decide) (.slice vp o.length vc) o.length (o.map u8v) rfl sv 3 [.int .u8 (a1 : Int), .int .u8 (a2 : Int), .int .u8 (a3 : Int)] rfl rfl ?c2 ?c3 ?c4 ?hin wr.heap.size ?hZ ?hCa (fun v' => ?_)
      case c2 =>
        intro u hu
        simp only [List.mem_cons, List.not_mem_nil, or_false] at hu
        rcases hu with rfl | rfl | rfl <;> rfl
      case c3 => simp only [maxLen]; omega
      case c4 => omega
      case hin =>
        rintro w' - ⟨hk, B, e1, e2⟩
        refine ⟨(Turns.of_below' (T := fun _ => False) hk).owns HO.out (fun _ _ h => h), Nat.le_trans hs1 hk.size, _, _, e1, .inr ⟨_, rfl, World.news_of_block e2⟩⟩
      case hZ => exact fun w' hw => (HCi.out w' hw).size
      case hCa =>
        intro w' w'' hw _ hg
        rw [HC.out] at hw ⊢
        exact hw.trans (Turns.of_grown hg (fun _ h => h))
      intro w4 hw4 hk4
      obtain ⟨ho4, hp4⟩ := hk4
      have ht4 := HCi.out w4 hw4
      have Ho4 : Hid (w4.ownsRow w1.heap.size 5 1 v' (o ++ [a1, a2, a3]).length ((o ++ [a1, a2, a3]).map u8v)) := Lib.hid (by
        rw [List.length_append, List.map_append]
        exact ho4)
      have Hb4 := Lib.hid (HB.out.trans (ht4.below hs1 (fun b hb => (HO.out.lt b hb).1)))
      have hlen : (o ++ [a1, a2, a3]).length ≤ 1 + 3 * (i + 1) := by have := Hol.out; rw [List.length_append]; simp only [List.length_cons, List.length_nil]; omega
      clear ho4 ht4 hp4 hw4 hCst hC2 hK0 hqq q1 e1 e2 e2' e3 t2 t3 u1 u2 u3 v1' v2' v3' v4'
      go_simp
      go_wp2
      go_roundw
      case rel => exact ⟨i + 1, _, by go_num, by omega, hlen, HE2, Ho4, Hb4⟩
      case measure => simp [intOf]; omega
    · obtain rfl : i = k := by omega
      have d1 : decide ((i : Int) < (i : Int)) = false := by simp
      have HX : Hid (plH cs = o) := Lib.hid (by rw [HH.out, HE.out, List.take_of_length_le (by rw [Hk.out]; exact Nat.le_refl _)])
      have Hbw := Lib.hid (Below.thn Hb1.out HB.out)
      have Hcut2 := Lib.hid (Hcut.out wr Hbw.out)
      go_wp2_with fail
      refine Calls.mono Hcut2.out ?_
      rintro _ w2 ⟨v2, rfl, ho2, hb2⟩
      rw [Hlm.out] at ho2
      obtain ⟨v2p, v2c, rfl⟩ := owns_slice ho2
      have hR2 := (own_rowP ho2).at'.1
      have HRL := Lib.hid hR2
      have Hb2 := Lib.hid hb2
      have Ho2' := Lib.hid ((Turns.of_below' (T := fun _ => False) hb2).owns HO.out (fun _ _ h => h))
      have HRc := Lib.hid (HR.out.below (Below.thn HB.out hb2))
      have Hbw2 := Lib.hid (Below.thn Hbw.out hb2)
      have Hs1 := Lib.hid (Nat.le_trans HB.out.size hb2.size)
      clear ho2 hb2 hR2 Hcut Hcut2
      have hz4 := plZ_le i
      have hSz := fun W => refSize_any i W (by omega)
      obtain ⟨s, hs⟩ : ∃ s, plZ i = s := ⟨_, rfl⟩
      have hzp := plZ_pow (k := i) (by omega)
      rw [hs] at hz4 hSz hzp
      have HSz := Lib.hid hSz
      have Hs := Lib.hid hs
      have Hzp := Lib.hid hzp
      have hsn : s * n ≤ 4194304 := by
        have : s * n ≤ 4 * 1048576 := Nat.mul_le_mul hz4 hl
        omega
      have Hsn := Lib.hid hsn
      obtain ⟨j0, hj0, hj1, hj2, hj3⟩ := info_parts bool_info
      clear hSz hs hzp hsn
      go_wp2_with fail
      go_loopw [8, 9] (fun rv jv wz => ∃ (j q : Nat), jv = .int .i64 (j : Int) ∧ j ≤ n ∧ q ≤ 4194304 ∧ Hid (q = s * j) ∧ Hid (wz.ownsRow w2.heap.size 4 1 rv q ((plBt s ((plV cs l).take j)).map Value.bool)) ∧ Hid (Below w2.heap.size w2 wz)) (fun _ jv _ => n - (intOf jv).toNat)
      case atStart => exact ⟨0, 0, rfl, Nat.zero_le _, by omega, Lib.hid rfl, Lib.hid (World.ownsRow_nil _ _ _ _), Lib.hid (Below.refl _ _)⟩
      case round =>
        obtain ⟨j, q, rfl, hj, hq, HQ, HOr, HBr⟩ := hrel
        obtain ⟨rp, rc, rfl⟩ := owns_slice HOr.out
        by_cases hjn : j < n
        · have d2 : decide ((j : Int) < (n : Int)) = true := by simp; omega
          obtain ⟨g, off, e, hc⟩ := HRL.out.pxs (by rw [Hlm.out]; omega)
          subst e
          have x0 := cell_later HBr.out (hc j (by rw [Hlm.out]; omega))
          have hLj : (l.map rlw).getD j 0 = rlw (l.getD j 0) := by
            rw [List.getD_eq_getElem?_getD, List.getElem?_map, List.getD_eq_getElem?_getD, List.getElem?_eq_getElem (by rw [Hn.out]; exact hjn)]; rfl
          rw [hLj] at x0
          have hmem : rlw (l.getD j 0) ∈ cs := Hin.out _ (by
            rw [List.getD_eq_getElem?_getD, List.getElem?_eq_getElem (by rw [Hn.out]; exact hjn)]
            exact List.getElem_mem _)
          have hVj : (plV cs l).take (j + 1) = (plV cs l).take j ++ [plI (rlw (l.getD j 0)) cs] := by
            rw [List.take_succ_eq_append_getElem (by rw [plV_len, Hn.out]; exact hjn)]
            congr 2
            unfold plV
            rw [List.getElem_map, List.getD_eq_getElem?_getD, List.getElem?_eq_getElem (by rw [Hn.out]; exact hjn)]
            rfl
          obtain ⟨y, hy⟩ : ∃ y, rlw (l.getD j 0) = y := ⟨_, rfl⟩
          rw [hy] at x0 hmem hVj
          have HPl := refPlace_any v1p v1c cs y wr (HRc.out.below HBr.out) (by rw [Hk.out]; omega)
          rw [Hk.out] at HPl
          have HPl := Lib.hid HPl
          have hvk : plI y cs < i := by have := plI_lt.2 hmem; rwa [Hk.out] at this
          obtain ⟨v, hv⟩ : ∃ v, plI y cs = v := ⟨_, rfl⟩
          rw [hv] at HPl hvk hVj
          have wv : IntKind.u32.wrap (v : Int) = (v : Int) := by rw [IntKind.wrap_u32]; omega
          have HBi := Lib.hid (refBits_any v s wr (by omega) (by omega))
          have HVj := Lib.hid (show plBt s ((plV cs l).take (j + 1)) = plBt s ((plV cs l).take j) ++ bitsL v s by rw [hVj, plBt_snoc])
          have k0 : (0 : Int) ≤ (j : Int) := by omega
          have k1 : (j : Int) < (n : Int) := by omega
          have HQ2 : Hid (q + s = s * (j + 1)) := Lib.hid (by rw [HQ.out, Nat.mul_add, Nat.mul_one])
          have hqs : q + s ≤ 4194304 := by
            rw [HQ2.out]
            exact Nat.le_trans (Nat.mul_le_mul_left _ (by omega)) Hsn.out
          have hsz := HBr.out.size
          clear hc hLj hmem hVj hy hv
          go_wp2_with fail
          refine Calls.mono HPl.out ?_
          rintro _ u1 ⟨rfl, rfl⟩
          go_wp2_with fail
          refine Calls.mono (HSz.out _) ?_
          rintro _ u1 ⟨rfl, rfl⟩
          go_wp2_with fail
          refine Calls.mono HBi.out ?_
          rintro _ w3 ⟨u, rfl, hou, hb3⟩
          obtain ⟨sp, sc, hsu, hsrc⟩ := rwb_src hou.rw
          rw [bitsL_len] at hsu hsrc
          subst hsu
          have Hsrc := Lib.hid hsrc
          have Ho3 := Lib.hid ((Turns.of_below' (T := fun _ => False) hb3).owns HOr.out (fun _ _ h => h))
          have Hb3 := Lib.hid (Below.thn HBr.out hb3)
          have hsz3 := Hb3.out.size
          clear hou hb3 hsrc x0
          go_wp2_with (at_builtin; refine wpList_append_mine w3 rfl (.tmp 61) (.tmp 72) 80 rfl w2.heap.size 4 j0 _ 1 1 Tryz.underlying80 hj0 hj1 hj2 hj3 rfl (by decide) (.slice rp q rc) q ((plBt s ((plV cs l).take j)).map Value.bool) rfl Ho3.out sp s sc ((bitsL v s).map Value.bool) rfl (by rw [List.length_map, bitsL_len, Nat.mul_one]) Hsrc.out (oneB _) ?n3 ?n4 hsz3 ?_)
          case n3 => simp only [maxLen]; omega
          case n4 => omega
          intro v' w4 ho4 hg4 _
          have Ho4 : Hid (w4.ownsRow w2.heap.size 4 1 v' (q + s) ((plBt s ((plV cs l).take (j + 1))).map Value.bool)) := Lib.hid (by
            rw [HVj.out, List.map_append]; exact ho4)
          have Hb4 := Lib.hid (Hb3.out.trans ((Turns.of_grown (T := fun k => (Value.slice rp q rc).ownBlock = some k) hg4 (fun i e => e)).below hsz3 (fun i h => (Ho3.out.lt i h).1)))
          clear ho4 hg4 hsz3
          go_wp2
          go_roundw
          case rel => exact ⟨j + 1, q + s, by go_num, by omega, hqs, HQ2, Ho4, Hb4⟩
          case measure => simp [intOf]; omega
        · obtain rfl : j = n := by omega
          have d2 : decide ((j : Int) < (j : Int)) = false := by simp
          have HBt : Hid ((plV cs l).take j = plV cs l) := Lib.hid (List.take_of_length_le (by rw [plV_len, Hn.out]; exact Nat.le_refl _))
          have hln : (plBt s (plV cs l)).length = q := by rw [plBt_len, plV_len, Hn.out, HQ.out]
          have hrw : RwB wr (.slice rp q rc) (plBt s (plV cs l)) := by
            have h := HOr.out
            rw [HBt.out] at h
            have h2 : OwnB wr w2.heap.size (.slice rp q rc) (plBt s (plV cs l)) := by
              unfold OwnB
              rw [hln]; exact h
            exact h2.rw
          have hby := refBytes_any (.slice rp q rc) (plBt s (plV cs l)) wr hrw (by rw [hln]; omega)
          rw [plBt_num s (plV cs l) (fun v hv => Nat.lt_of_lt_of_le (Hvl.out v hv) Hzp.out), hln] at hby
          have hT : byts (plN s (plV cs l)) ((q + 7) / 8) = plT cs l := by
            unfold plT; rw [Hk.out, Hs.out, Hn.out, HQ.out]
          rw [hT] at hby
          have Hby := Lib.hid hby
          clear hln hrw hby hT
          go_wp2_with fail
          refine Calls.mono Hby.out ?_
          rintro _ w3 ⟨u, rfl, hou⟩
          obtain ⟨sp, sc, hsu⟩ := owns_slice hou.1
          obtain ⟨_, _, e3, -, -, hsrc⟩ := RwG.src (enc := enc8) (k := 1) enc8_len (by decide) (Rw8.own hou.1 rfl)
          rw [hsu] at e3
          injection e3 with e3a e3b e3c
          subst e3a
          subst e3c
          subst hsu
          rw [flat8] at hsrc
          have Hsrc := Lib.hid hsrc
          have hb3 := Below.thn HBr.out hou.2
          have Ho3 := Lib.hid ((Turns.of_below' (T := fun _ => False) hb3).owns Ho2'.out (fun _ _ h => h))
          have Hb3 := Lib.hid hb3
          have hsz3 : w1.heap.size ≤ w3.heap.size := Nat.le_trans Hs1.out hb3.size
          have HoL : Hid (o.length + (plT cs l).length ≤ 1048576) := Lib.hid (by
            have := Hlen.out
            rw [List.length_append, HX.out] at this
            exact this)
          obtain ⟨L2, hL2⟩ : ∃ L, (plT cs l).length = L := ⟨_, rfl⟩
          have HL2 := Lib.hid hL2
          rw [hL2] at Hsrc HoL
          rw [hL2]
          clear e3b hou hb3 hsrc hL2 Hlen Hyes Hno
          go_wp2_with (at_builtin; refine wpList_append_mine w3 rfl (.tmp 74) (.tmp 76) 25 rfl w1.heap.size 5 i0 _ 1 1 Tryz.underlying25 hi0 hz0 hz1 hz2 rfl (by decide) (.slice vp o.length vc) o.length (o.map u8v) rfl Ho3.out sp L2 sc ((plT cs l).map u8v) rfl (by rw [List.length_map, HL2.out, Nat.mul_one]) Hsrc.out (one8 _) ?n3 ?n4 hsz3 ?_)
          case n3 => have := HoL.out; simp only [maxLen]; omega
          case n4 => have := HoL.out; omega
          intro v4 w4 ho4 hg4 _
          have Ho4 : Hid (w4.ownsRow w.heap.size 5 1 v4 ((plH cs).length + (plT cs l).length) ((plH cs).map u8v ++ (plT cs l).map u8v)) := Lib.hid (by
            rw [HX.out, HL2.out]
            exact owns_base ho4 Hb1.out.size)
          have hb4 : Below w1.heap.size w3 w4 := (Turns.of_grown (T := fun k => (Value.slice vp o.length vc).ownBlock = some k) hg4 (fun i e => e)).below hsz3 (fun i h => (Ho3.out.lt i h).1)
          have Hb4 : Hid (Below w.heap.size w w4) := Lib.hid ((Below.thn Hbw2.out Hb3.out).trans (hb4.mono Hb1.out.size))
          clear ho4 hg4 hb4
          go_wp2
          go_ret2
          exact ⟨_, rfl, Ho4.out, Hb4.out⟩
end Go.Proofs.YtoladolgmeanhaaGreat
