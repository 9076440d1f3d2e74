/- The walk of the statement PaletteTurned. -/
import Derived.Test.YtonhcdhlinlncaaPalV
namespace Go.Proofs.Ytonhcdhlinlncaa
open Go.RowKit

attribute [local go_sem] Oper.semAt_some

/-- The colours of the second half. -/
def plX (k : Nat) : List Nat := (List.range k).map fun i => i * 65793
theorem plX_len (k : Nat) : (plX k).length = k := by simp [plX]
theorem plX_snoc (k : Nat) : plX (k + 1) = plX k ++ [k * 65793] := by simp [plX, List.range_succ]
theorem plX_colF : ∀ k : Fin 21, plCol (plX k.1) = plX k.1 := by decide +kernel
theorem plX_col {k : Nat} (h : k ≤ 20) : plCol (plX k) = plX k := plX_colF ⟨k, by omega⟩
theorem plX_lowF : ∀ k : Fin 21, (plX k.1).map rlw = plX k.1 := by decide +kernel
theorem plX_low {k : Nat} (h : k ≤ 20) : (plX k).map rlw = plX k := plX_lowF ⟨k, by omega⟩
theorem plX_32 {k : Nat} (h : k ≤ 20) : ∀ x ∈ plX k, x < 4294967296 := by
  intro x hx
  obtain ⟨i, hi, rfl⟩ := List.mem_map.1 hx
  have := List.mem_range.1 hi
  omega
theorem plE_first {l : List Nat} (h : ¬ ((plCol l).length < 1 ∨ 16 < (plCol l).length)) : lq (plE l).1 0 = (plCol l).length - 1 := by
  rw [plE_yes h]; rfl
theorem plE_pos {l : List Nat} (h : ¬ ((plCol l).length < 1 ∨ 16 < (plCol l).length)) : 0 < (plE l).1.length := by
  rw [plE_length h]; omega

set_option maxRecDepth 20000 in
set_option maxHeartbeats 8000000 in
theorem paturned_any (v : Value) (l : List Nat) (z : Int) (w : World) (hv : RwP w v l) (h32 : ∀ x ∈ l, x < 4294967296) (hz : 0 ≤ z ∧ z ≤ 255) :
    Makes Try.prog 6 #[v, .int .u8 z] w (.bool true) := by
  unfold Makes
  have Hv := Lib.hid hv.row
  obtain ⟨p, c, rfl, hc1, hc2, -⟩ := hv.src encP_len (by decide)
  obtain ⟨n, hn⟩ : ∃ n, l.length = n := ⟨_, rfl⟩
  have Hn := Lib.hid hn
  rw [hn] at Hv hc1 ⊢
  have H32 := Lib.hid h32
  obtain ⟨m, hm⟩ : ∃ m : Nat, z % 20 = (m : Int) := ⟨(z % 20).toNat, by omega⟩
  have hm20 : m < 20 := by omega
  have hmt : Int.tmod z 20 = (m : Int) := by rw [Int.tmod_eq_emod_of_nonneg hz.1]; exact hm
  have Hmz := Lib.hid (And.intro hm hmt)
  clear hv hn h32 hm hmt
  go_enter Try.func6, Try.ntmps6
  by_cases hl : 1000 < n
  · have d0 : decide ((n : Int) > 1000) = true := by simp; omega
    go_wp2
    go_ret
    exact ⟨rfl, Below.refl _ _⟩
  have d0 : decide ((n : Int) > 1000) = false := by simp; omega
  have Hrl : Hid (l.reverse.length = n) := Lib.hid (by rw [List.length_reverse]; exact Hn.out)
  go_wp2_with fail
  go_loopw [5, 6] (fun ov iv wr => ∃ (j : Nat) (y : Int), iv = .int .i64 y ∧ y = (n : Int) - 1 - (j : Int) ∧ j ≤ n ∧ Hid (wr.ownsRow w.heap.size 35 1 ov j ((l.reverse.take j).map pxv)) ∧ Hid (Below w.heap.size w wr)) (fun _ iv _ => (intOf iv + 1).toNat)
  case atStart => exact ⟨0, _, rfl, by omega, Nat.zero_le _, Lib.hid (World.ownsRow_nil _ _ _ _), Lib.hid (Below.refl _ _)⟩
  case round =>
    obtain ⟨j, y, rfl, hy, hj, HO, HB⟩ := hrel
    obtain ⟨vp, vc, rfl⟩ := owns_slice HO.out
    by_cases hjn : j < n
    · obtain ⟨i, rfl⟩ := Int.eq_ofNat_of_zero_le (show 0 ≤ y by omega)
      have hin : i < n := by omega
      have hij : i + 1 + j = n := by omega
      obtain ⟨g, off, e, hc⟩ := Hv.out.at'.1.pxs (by rw [Hn.out]; omega)
      subst e
      have x0 := cell_later HB.out (hc i (by rw [Hn.out]; omega))
      have Hs : Hid (l.reverse.take (j + 1) = l.reverse.take j ++ [l.getD i 0]) := Lib.hid (by
        rw [List.take_add_one]
        congr 1
        rw [List.getElem?_reverse (by rw [Hn.out]; exact hjn), show l.length - 1 - j = i by rw [Hn.out]; omega, List.getD_eq_getElem?_getD, List.getElem?_eq_getElem (by rw [Hn.out]; exact hin)]
        rfl)
      obtain ⟨x, hx⟩ : ∃ x, l.getD i 0 = x := ⟨_, rfl⟩
      rw [hx] at x0 Hs
      have d1 : decide ((i : Int) ≥ 0) = true := by simp
      have k0 : (0 : Int) ≤ (i : Int) := by omega
      have k1 : (i : Int) < (n : Int) := by omega
      have hs1 := HB.out.size
      clear hc hx hy
      go_wp2_with (at_builtin; refine wpList_append_one wr rfl (.tmp 28) (.tmp 33) 22 rfl w.heap.size 35 _ 4 pxv_info Try.underlying22 rfl (.slice vp j vc) j ((l.reverse.take j).map pxv) rfl HO.out (.int .u32 (x : Int)) _ rfl rfl ?m3 ?m4 hs1 ?_)
      case m3 => simp only [maxLen]; omega
      case m4 => omega
      intro g1 cap1 w5 ho1 ht1 hg1
      have Ho1 : Hid (w5.ownsRow w.heap.size 35 1 (.slice (some ⟨g1, 0, none⟩) (j + 1) cap1) (j + 1) ((l.reverse.take (j + 1)).map pxv)) := Lib.hid (by
        rw [Hs.out, List.map_append]
        simpa [pxv] using ho1)
      have Hb5 := Lib.hid (HB.out.trans (ht1.below hs1 (fun b hb => (HO.out.lt b hb).1)))
      clear ho1 ht1 hg1 x0
      go_wp2
      go_roundw
      case rel => exact ⟨j + 1, (i : Int) - 1, rfl, by omega, by omega, Ho1, Hb5⟩
      case measure => simp [intOf]
    · obtain rfl : j = n := by omega
      obtain rfl : y = -1 := by omega
      have d1 : decide ((-1 : Int) ≥ 0) = false := by decide
      have hrev := HO.out
      rw [List.take_of_length_le (by rw [Hrl.out]; exact Nat.le_refl _)] at hrev
      have Hrev := Lib.hid (own_rowP hrev)
      have hperm : (plCol l).length = (plCol l.reverse).length := plCol_perm (fun x => by simp)
      obtain ⟨A, hA⟩ : ∃ A, plE l = A := ⟨_, rfl⟩
      obtain ⟨B, hB⟩ : ∃ B, plE l.reverse = B := ⟨_, rfl⟩
      have HA := Lib.hid hA
      have HBb := Lib.hid hB
      have hlen : A.1.length = B.1.length ∧ A.2 = B.2 ∧ (A.2 = true → 0 < A.1.length ∧ lq A.1 0 = lq B.1 0) := by
        rw [← hA, ← hB]
        by_cases hb : (plCol l).length < 1 ∨ 16 < (plCol l).length
        · rw [plE_no hb, plE_no (hperm ▸ hb)]
          exact ⟨rfl, rfl, fun h => by cases h⟩
        · have hb2 : ¬ ((plCol l.reverse).length < 1 ∨ 16 < (plCol l.reverse).length) := hperm ▸ hb
          refine ⟨?_, ?_, fun _ => ⟨plE_pos hb, ?_⟩⟩
          · rw [plE_length hb, plE_length hb2, hperm, Hrl.out, Hn.out]
          · rw [plE_yes hb, plE_yes hb2]
          · rw [plE_first hb, plE_first hb2, hperm]
      obtain ⟨hl1, hl2, hl3⟩ := hlen
      obtain ⟨La, hLa⟩ : ∃ L, A.1.length = L := ⟨_, rfl⟩
      have hLb : B.1.length = La := by rw [← hl1]; exact hLa
      have HLa := Lib.hid hLa
      have HLb := Lib.hid hLb
      obtain ⟨ba, hba⟩ : ∃ b, A.2 = b := ⟨_, rfl⟩
      have hbb : B.2 = ba := by rw [← hl2]; exact hba
      rw [hba] at hl3
      have HL3 := Lib.hid hl3
      have H32r : Hid (∀ x ∈ l.reverse, x < 4294967296) := Lib.hid (fun x hx => H32.out x (List.mem_reverse.1 hx))
      have HE1 := penc_row (Hv.out.below HB.out) H32.out (by omega) A HA.out
      have Hrr := Hrev.out
      rw [hLa, hba] at HE1
      have HE1 := Lib.hid HE1
      have HE2 := Lib.hid (fun W (hW : Below wr.heap.size wr W) => penc_row (Hrev.out.below hW) H32r.out (by omega) B HBb.out)
      rw [hLb, hbb] at HE2
      have Hbb := Lib.hid (Below.refl wr.heap.size wr)
      clear hrev hperm hA hB hl1 hl2 hl3 hLa hLb hba hbb Hrr HO
      go_wp2_with fail
      refine Calls.mono HE1.out ?_
      rintro _ w1 ⟨p1, c1, rfl, ho1, hb1⟩
      have Ho1 := Lib.hid (own_rowB ho1)
      have Hb1 := Lib.hid hb1
      clear ho1 hb1
      go_wp2_with fail
      refine Calls.mono (HE2.out w1 Hb1.out) ?_
      rintro _ w2 ⟨p2, c2, rfl, ho2, hb2⟩
      have Ho12 := Lib.hid (Ho1.out.below hb2)
      have Ho2 := Lib.hid (own_rowB ho2)
      have Hbw := Lib.hid (Below.thn (Below.thn HB.out Hb1.out) hb2)
      clear ho2 hb2 HE1 HE2
      cases ba with
      | false =>
        go_upto_region 10 with (fail)
        go_quiet (fail)
        rename_i nq
        have HB2 := Lib.hid (Below.drewN' Hbw.out nq)
        generalize w2.drewN nq = W2 at *
        have hm1 := Hmz.out.1
        have hm2 := Hmz.out.2
        obtain ⟨K, hK⟩ : ∃ K, m + 1 = K := ⟨_, rfl⟩
        have e1 : 1 + (m : Int) = (K : Int) := by omega
        have hK20 : K ≤ 20 := by omega
        have hK1 : 1 ≤ K := by omega
        have wm1 : IntKind.i64.wrap (m : Int) = (m : Int) := IntWalk.i64_in _ (by omega)
        have wm2 : IntKind.u8.wrap (m : Int) = (m : Int) := by rw [IntKind.wrap_u8]; omega
        clear hK
        go_upto_region 13 with (fail)
        clear hm1 hm2 e1 wm1 wm2
        go_wp2_with fail
        go_loopw [12, 13] (fun ov iv wr => ∃ i : Nat, iv = .int .i64 (i : Int) ∧ i ≤ K ∧ Hid (wr.ownsRow W2.heap.size 35 1 ov i ((plX i).map pxv)) ∧ Hid (Below W2.heap.size W2 wr)) (fun _ iv _ => K - (intOf iv).toNat)
        case atStart => exact ⟨0, rfl, Nat.zero_le _, Lib.hid (World.ownsRow_nil _ _ _ _), Lib.hid (Below.refl _ _)⟩
        case round =>
          obtain ⟨i, rfl, hi, HO, HB3⟩ := hrel
          obtain ⟨xp, xc, rfl⟩ := owns_slice HO.out
          by_cases hiK : i < K
          · have d1 : decide ((i : Int) < (K : Int)) = true := by simp; omega
            obtain ⟨q, hq⟩ : ∃ q, i * 65793 = q := ⟨_, rfl⟩
            have eq1 : (i : Int) * 65793 = (q : Int) := by omega
            have w1' : IntKind.u32.wrap (i : Int) = (i : Int) := by rw [IntKind.wrap_u32]; omega
            have w2' : IntKind.u32.wrap (q : Int) = (q : Int) := by rw [IntKind.wrap_u32]; omega
            have Hs : Hid (plX (i + 1) = plX i ++ [q]) := Lib.hid (by rw [plX_snoc, hq])
            have hs1 := HB3.out.size
            clear hq
            go_wp2_with (at_builtin; refine wpList_append_one wr rfl (.tmp 76) (.tmp 80) 22 rfl W2.heap.size 35 _ 4 pxv_info Try.underlying22 rfl (.slice xp i xc) i ((plX i).map pxv) rfl HO.out (.int .u32 (q : Int)) _ rfl rfl ?u3 ?u4 hs1 ?_)
            case u3 => simp only [maxLen]; omega
            case u4 => omega
            intro g1 cap1 w5 ho1 ht1 hg1
            have Ho1' : Hid (w5.ownsRow W2.heap.size 35 1 (.slice (some ⟨g1, 0, none⟩) (i + 1) cap1) (i + 1) ((plX (i + 1)).map pxv)) := Lib.hid (by
              rw [Hs.out, List.map_append]
              simpa [pxv] using ho1)
            have Hb5 := Lib.hid (HB3.out.trans (ht1.below hs1 (fun b hb => (HO.out.lt b hb).1)))
            clear ho1 ht1 hg1 eq1 w1' w2'
            go_wp2
            go_roundw
            case rel => exact ⟨i + 1, by go_num, by omega, Ho1', Hb5⟩
            case measure => simp [intOf]; omega
          · obtain rfl : i = K := by omega
            have d1 : decide ((i : Int) < (i : Int)) = false := by simp
            have HX := Lib.hid (own_rowP HO.out)
            have hcl : (plCol (plX i)).length = i := by rw [plX_col hK20, plX_len]
            have Hbx := Lib.hid (Below.thn HB2.out HB3.out)
            by_cases hi16 : i ≤ 16
            · have d2 : decide ((i : Int) ≤ 16) = true := by simp; omega
              have d2' : decide (i ≤ 16) = true := by simp; omega
              have hgood : ¬ ((plCol (plX i)).length < 1 ∨ 16 < (plCol (plX i)).length) := by rw [hcl]; omega
              obtain ⟨A3, hA3⟩ : ∃ A, plE (plX i) = A := ⟨_, rfl⟩
              have h32 : A3.2 = true := by rw [← hA3, plE_yes hgood]
              have hfst : lq A3.1 0 = i - 1 := by rw [← hA3, plE_first hgood, hcl]
              have hpos : 0 < A3.1.length := by rw [← hA3]; exact plE_pos hgood
              have hD : plD A3.1 (i : Int) = (plX i, 0) := by
                have h := plD_plE hgood (by rw [plX_len]; omega)
                rw [plX_len, plX_low hK20, hA3] at h
                exact h
              have h8 : ∀ x ∈ A3.1, x < 256 := by rw [← hA3]; exact plE_256 _
              have hlb : A3.1.length ≤ 1048576 := by rw [← hA3]; exact plE_len (by rw [plX_len]; omega)
              have HE3 := penc_row HX.out (plX_32 hK20) (by omega) A3 hA3
              obtain ⟨L3, hL3⟩ : ∃ L, A3.1.length = L := ⟨_, rfl⟩
              rw [h32, hL3] at HE3
              rw [hL3] at hpos hlb
              have HE3 := Lib.hid HE3
              have HD := Lib.hid hD
              have H8 := Lib.hid h8
              have Hfst := Lib.hid hfst
              have HL3 := Lib.hid hL3
              clear h32 hfst hD h8 hL3 hgood hcl hA3 HO
              go_wp2_with fail
              refine Calls.mono HE3.out ?_
              rintro _ w6 ⟨p6, c6, rfl, ho6, hb6⟩
              have Ho6 := Lib.hid (own_rowB ho6)
              have Hb6 := Lib.hid (Below.thn Hbx.out hb6)
              have HX6 := Lib.hid (HX.out.below hb6)
              clear ho6 hb6 HE3
              go_wp2_with fail
              refine Calls.mono (pdec_row (i : Int) Ho6.out H8.out (by omega) _ HD.out) ?_
              rintro _ w7 ⟨p7, c7, rfl, ho7, hb7⟩
              have Ho7 := Lib.hid (own_rowP ho7)
              have Hb7 := Lib.hid (Below.thn Hb6.out hb7)
              have HX7 := Lib.hid (HX6.out.below hb7)
              have Ho67 := Lib.hid (Ho6.out.below hb7)
              clear ho7 hb7
              simp only [plX_len] at Ho7 ⊢
              go_wp2_with fail
              refine Calls.mono (psame_row Ho7.out HX7.out (by omega) (by omega) true (by simp)) ?_
              rintro _ w8 ⟨rfl, hb8⟩
              have Hb8 := Lib.hid (Below.thn Hb7.out hb8)
              obtain ⟨g6, off6, e6, hc6⟩ := (Ho67.out.below hb8).at'.1.bytes (by rw [HL3.out]; exact hpos)
              subst e6
              have x6 := hc6 0 (by rw [HL3.out]; exact hpos)
              rw [Hfst.out, Nat.add_zero] at x6
              obtain ⟨f, hf⟩ : ∃ f, i - 1 = f := ⟨_, rfl⟩
              rw [hf] at x6
              have ef : (i : Int) - 1 = (f : Int) := by omega
              have wf : IntKind.i64.wrap (f : Int) = (f : Int) := IntWalk.i64_in _ (by omega)
              have kp : (0 : Int) < (L3 : Int) := by omega
              have HT8 := Lib.hid (ptells_law w8)
              clear hb8 hc6 hf
              go_wp2_with fail
              refine Calls.mono HT8.out ?_
              rintro _ w9 ⟨rfl, hb9⟩
              have Hb9 := Lib.hid (Below.thn Hb8.out hb9)
              clear hb9 x6
              go_wp2
              go_ret
              exact ⟨rfl, Hb9.out⟩
            · have d2 : decide ((i : Int) ≤ 16) = false := by simp; omega
              have d2' : decide (i ≤ 16) = false := by simp; omega
              have HE3 := Lib.hid (penc_row HX.out (plX_32 hK20) (by omega) ([], false) (plE_no (by rw [hcl]; omega)))
              clear hcl HO
              go_wp2_with fail
              refine Calls.mono HE3.out ?_
              rintro _ w6 ⟨p6, c6, rfl, ho6, hb6⟩
              have Hb6 := Lib.hid (Below.thn Hbx.out hb6)
              have HT6 := Lib.hid (ptells_law w6)
              clear ho6 hb6 HE3
              go_wp2_with fail
              refine Calls.mono HT6.out ?_
              rintro _ w9 ⟨rfl, hb9⟩
              have Hb9 := Lib.hid (Below.thn Hb6.out hb9)
              clear hb9
              go_wp2
              go_ret
              exact ⟨rfl, Hb9.out⟩
      | true =>
        obtain ⟨hpos, hfst⟩ := HL3.out rfl
        rw [HLa.out] at hpos
        obtain ⟨ga, offa, ea, hca⟩ := Ho12.out.at'.1.bytes (by rw [HLa.out]; exact hpos)
        obtain ⟨gb, offb, eb, hcb⟩ := Ho2.out.at'.1.bytes (by rw [HLb.out]; exact hpos)
        subst ea
        subst eb
        have xa := hca 0 (by rw [HLa.out]; exact hpos)
        have xb := hcb 0 (by rw [HLb.out]; exact hpos)
        rw [← hfst] at xb
        rw [Nat.add_zero] at xa xb
        obtain ⟨b0, hb0⟩ : ∃ b, lq A.1 0 = b := ⟨_, rfl⟩
        rw [hb0] at xa xb
        have kpos : (0 : Int) < (La : Int) := by omega
        clear hca hcb hfst hb0 HL3
        go_upto_region 10 with (fail)
        go_quiet (fail)
        rename_i nq
        have HB2 := Lib.hid (Below.drewN' Hbw.out nq)
        generalize w2.drewN nq = W2 at *
        clear xa xb
        have hm1 := Hmz.out.1
        have hm2 := Hmz.out.2
        obtain ⟨K, hK⟩ : ∃ K, m + 1 = K := ⟨_, rfl⟩
        have e1 : 1 + (m : Int) = (K : Int) := by omega
        have hK20 : K ≤ 20 := by omega
        have hK1 : 1 ≤ K := by omega
        have wm1 : IntKind.i64.wrap (m : Int) = (m : Int) := IntWalk.i64_in _ (by omega)
        have wm2 : IntKind.u8.wrap (m : Int) = (m : Int) := by rw [IntKind.wrap_u8]; omega
        clear hK
        go_upto_region 13 with (fail)
        clear hm1 hm2 e1 wm1 wm2
        go_wp2_with fail
        go_loopw [12, 13] (fun ov iv wr => ∃ i : Nat, iv = .int .i64 (i : Int) ∧ i ≤ K ∧ Hid (wr.ownsRow W2.heap.size 35 1 ov i ((plX i).map pxv)) ∧ Hid (Below W2.heap.size W2 wr)) (fun _ iv _ => K - (intOf iv).toNat)
        case atStart => exact ⟨0, rfl, Nat.zero_le _, Lib.hid (World.ownsRow_nil _ _ _ _), Lib.hid (Below.refl _ _)⟩
        case round =>
          obtain ⟨i, rfl, hi, HO, HB3⟩ := hrel
          obtain ⟨xp, xc, rfl⟩ := owns_slice HO.out
          by_cases hiK : i < K
          · have d1 : decide ((i : Int) < (K : Int)) = true := by simp; omega
            obtain ⟨q, hq⟩ : ∃ q, i * 65793 = q := ⟨_, rfl⟩
            have eq1 : (i : Int) * 65793 = (q : Int) := by omega
            have w1' : IntKind.u32.wrap (i : Int) = (i : Int) := by rw [IntKind.wrap_u32]; omega
            have w2' : IntKind.u32.wrap (q : Int) = (q : Int) := by rw [IntKind.wrap_u32]; omega
            have Hs : Hid (plX (i + 1) = plX i ++ [q]) := Lib.hid (by rw [plX_snoc, hq])
            have hs1 := HB3.out.size
            clear hq
            go_wp2_with (at_builtin; refine wpList_append_one wr rfl (.tmp 76) (.tmp 80) 22 rfl W2.heap.size 35 _ 4 pxv_info Try.underlying22 rfl (.slice xp i xc) i ((plX i).map pxv) rfl HO.out (.int .u32 (q : Int)) _ rfl rfl ?u5 ?u6 hs1 ?_)
            case u5 => simp only [maxLen]; omega
            case u6 => omega
            intro g1 cap1 w5 ho1 ht1 hg1
            have Ho1' : Hid (w5.ownsRow W2.heap.size 35 1 (.slice (some ⟨g1, 0, none⟩) (i + 1) cap1) (i + 1) ((plX (i + 1)).map pxv)) := Lib.hid (by
              rw [Hs.out, List.map_append]
              simpa [pxv] using ho1)
            have Hb5 := Lib.hid (HB3.out.trans (ht1.below hs1 (fun b hb => (HO.out.lt b hb).1)))
            clear ho1 ht1 hg1 eq1 w1' w2'
            go_wp2
            go_roundw
            case rel => exact ⟨i + 1, by go_num, by omega, Ho1', Hb5⟩
            case measure => simp [intOf]; omega
          · obtain rfl : i = K := by omega
            have d1 : decide ((i : Int) < (i : Int)) = false := by simp
            have HX := Lib.hid (own_rowP HO.out)
            have hcl : (plCol (plX i)).length = i := by rw [plX_col hK20, plX_len]
            have Hbx := Lib.hid (Below.thn HB2.out HB3.out)
            by_cases hi16 : i ≤ 16
            · have d2 : decide ((i : Int) ≤ 16) = true := by simp; omega
              have d2' : decide (i ≤ 16) = true := by simp; omega
              have hgood : ¬ ((plCol (plX i)).length < 1 ∨ 16 < (plCol (plX i)).length) := by rw [hcl]; omega
              obtain ⟨A3, hA3⟩ : ∃ A, plE (plX i) = A := ⟨_, rfl⟩
              have h32 : A3.2 = true := by rw [← hA3, plE_yes hgood]
              have hfst : lq A3.1 0 = i - 1 := by rw [← hA3, plE_first hgood, hcl]
              have hpos : 0 < A3.1.length := by rw [← hA3]; exact plE_pos hgood
              have hD : plD A3.1 (i : Int) = (plX i, 0) := by
                have h := plD_plE hgood (by rw [plX_len]; omega)
                rw [plX_len, plX_low hK20, hA3] at h
                exact h
              have h8 : ∀ x ∈ A3.1, x < 256 := by rw [← hA3]; exact plE_256 _
              have hlb : A3.1.length ≤ 1048576 := by rw [← hA3]; exact plE_len (by rw [plX_len]; omega)
              have HE3 := penc_row HX.out (plX_32 hK20) (by omega) A3 hA3
              obtain ⟨L3, hL3⟩ : ∃ L, A3.1.length = L := ⟨_, rfl⟩
              rw [h32, hL3] at HE3
              rw [hL3] at hpos hlb
              have HE3 := Lib.hid HE3
              have HD := Lib.hid hD
              have H8 := Lib.hid h8
              have Hfst := Lib.hid hfst
              have HL3 := Lib.hid hL3
              clear h32 hfst hD h8 hL3 hgood hcl hA3 HO
              go_wp2_with fail
              refine Calls.mono HE3.out ?_
              rintro _ w6 ⟨p6, c6, rfl, ho6, hb6⟩
              have Ho6 := Lib.hid (own_rowB ho6)
              have Hb6 := Lib.hid (Below.thn Hbx.out hb6)
              have HX6 := Lib.hid (HX.out.below hb6)
              clear ho6 hb6 HE3
              go_wp2_with fail
              refine Calls.mono (pdec_row (i : Int) Ho6.out H8.out (by omega) _ HD.out) ?_
              rintro _ w7 ⟨p7, c7, rfl, ho7, hb7⟩
              have Ho7 := Lib.hid (own_rowP ho7)
              have Hb7 := Lib.hid (Below.thn Hb6.out hb7)
              have HX7 := Lib.hid (HX6.out.below hb7)
              have Ho67 := Lib.hid (Ho6.out.below hb7)
              clear ho7 hb7
              simp only [plX_len] at Ho7 ⊢
              go_wp2_with fail
              refine Calls.mono (psame_row Ho7.out HX7.out (by omega) (by omega) true (by simp)) ?_
              rintro _ w8 ⟨rfl, hb8⟩
              have Hb8 := Lib.hid (Below.thn Hb7.out hb8)
              obtain ⟨g6, off6, e6, hc6⟩ := (Ho67.out.below hb8).at'.1.bytes (by rw [HL3.out]; exact hpos)
              subst e6
              have x6 := hc6 0 (by rw [HL3.out]; exact hpos)
              rw [Hfst.out, Nat.add_zero] at x6
              obtain ⟨f, hf⟩ : ∃ f, i - 1 = f := ⟨_, rfl⟩
              rw [hf] at x6
              have ef : (i : Int) - 1 = (f : Int) := by omega
              have wf : IntKind.i64.wrap (f : Int) = (f : Int) := IntWalk.i64_in _ (by omega)
              have kp : (0 : Int) < (L3 : Int) := by omega
              have HT8 := Lib.hid (ptells_law w8)
              clear hb8 hc6 hf
              go_wp2_with fail
              refine Calls.mono HT8.out ?_
              rintro _ w9 ⟨rfl, hb9⟩
              have Hb9 := Lib.hid (Below.thn Hb8.out hb9)
              clear hb9 x6
              go_wp2
              go_ret
              exact ⟨rfl, Hb9.out⟩
            · have d2 : decide ((i : Int) ≤ 16) = false := by simp; omega
              have d2' : decide (i ≤ 16) = false := by simp; omega
              have HE3 := Lib.hid (penc_row HX.out (plX_32 hK20) (by omega) ([], false) (plE_no (by rw [hcl]; omega)))
              clear hcl HO
              go_wp2_with fail
              refine Calls.mono HE3.out ?_
              rintro _ w6 ⟨p6, c6, rfl, ho6, hb6⟩
              have Hb6 := Lib.hid (Below.thn Hbx.out hb6)
              have HT6 := Lib.hid (ptells_law w6)
              clear ho6 hb6 HE3
              go_wp2_with fail
              refine Calls.mono HT6.out ?_
              rintro _ w9 ⟨rfl, hb9⟩
              have Hb9 := Lib.hid (Below.thn Hb6.out hb9)
              clear hb9
              go_wp2
              go_ret
              exact ⟨rfl, Hb9.out⟩

end Go.Proofs.Ytonhcdhlinlncaa
