/- The walk of the statement PaletteBack. -/
import Derived.Test.YtonhcdhlinlncaaPalV
namespace Go.Proofs.Ytonhcdhlinlncaa
open Go.RowKit

set_option maxRecDepth 20000 in
set_option maxHeartbeats 8000000 in
theorem paback_any (v : Value) (l : List Nat) (w : World) (hv : RwP w v l) (h32 : ∀ x ∈ l, x < 4294967296) :
    Makes Try.prog 5 #[v] w (.bool true) := by
  unfold Makes
  have Hv := Lib.hid hv.row
  obtain ⟨p, c, rfl, hc1, hc2, -⟩ := hv.src encP_len (by decide)
  obtain ⟨n, hn⟩ : ∃ n, l.length = n := ⟨_, rfl⟩
  have Hn := Lib.hid hn
  rw [hn] at Hv hc1 ⊢
  have Hcol := fun W (hW : RowAt encP 1 W p l) hl => refColors_any p c l W hW hl
  rw [hn] at Hcol
  have Hcol := Lib.hid Hcol
  clear hv hn
  go_enter Try.func5, Try.ntmps5
  by_cases hl : 5000 < n
  · have d0 : decide ((n : Int) > 5000) = true := by simp; omega
    go_wp2
    go_ret
    exact ⟨rfl, Below.refl _ _⟩
  have d0 : decide ((n : Int) > 5000) = false := by simp; omega
  obtain ⟨A, hA⟩ : ∃ A, plE l = A := ⟨_, rfl⟩
  have HA := Lib.hid hA
  have hA8 := plE_256 l
  rw [hA] at hA8
  have hAl := plE_len (l := l) (by rw [Hn.out]; omega)
  rw [hA] at hAl
  obtain ⟨k, hk⟩ : ∃ k, (plCol l).length = k := ⟨_, rfl⟩
  have Hk := Lib.hid hk
  obtain ⟨L, hL⟩ : ∃ L, A.1.length = L := ⟨_, rfl⟩
  have HL := Lib.hid hL
  rw [hL] at hAl
  have HA8 := Lib.hid hA8
  have hkn : k ≤ n := by
    have := (plC_len l []).2
    rw [show (plC [] l).length = k from hk, Hn.out] at this
    simpa using this
  clear hA hk hL hA8
  go_wp2_with fail
  refine Calls.mono (penc_row Hv.out h32 (by omega) A HA.out) ?_
  rintro _ w1 ⟨p1, c1, rfl, ho1, hb1⟩
  rw [HL.out] at ho1 ⊢
  have Hb1 := Lib.hid hb1
  have Ho1 := Lib.hid (own_rowB ho1)
  have Hcol1 := Lib.hid (Hcol.out w1 (Hv.out.at'.1.below hb1) (by omega))
  clear ho1 hb1
  go_wp2_with fail
  refine Calls.mono Hcol1.out ?_
  rintro _ w2 ⟨v2, rfl, ho2, hb2⟩
  obtain ⟨p2, c2, rfl⟩ := owns_slice ho2
  rw [Hk.out]
  have Hb2 := Lib.hid (Below.thn Hb1.out hb2)
  have Ho12 := Lib.hid (Ho1.out.below hb2)
  clear ho2 hb2
  by_cases hbad : k = 0 ∨ 16 < k
  · have hno : A = ([], false) := by rw [← HA.out]; exact plE_no (by rw [Hk.out]; omega)
    subst hno
    have hL0 : L = 0 := HL.out.symm
    subst hL0
    have HTl := Lib.hid (ptells_law w2)
    by_cases hk0 : k = 0
    · subst hk0
      go_wp2_with fail
      refine Calls.mono HTl.out ?_
      rintro _ w3 ⟨rfl, hb3⟩
      have Hb3 := Lib.hid (Below.thn Hb2.out hb3)
      clear hb3
      go_wp2
      go_ret
      exact ⟨rfl, Hb3.out⟩
    · have d1 : ((k : Int) == 0) = false := by simp; omega
      have d2 : decide ((k : Int) > 16) = true := by simp; omega
      go_wp2_with fail
      refine Calls.mono HTl.out ?_
      rintro _ w3 ⟨rfl, hb3⟩
      have Hb3 := Lib.hid (Below.thn Hb2.out hb3)
      clear hb3
      go_wp2
      go_ret
      exact ⟨rfl, Hb3.out⟩
  · have d1 : ((k : Int) == 0) = false := by simp; omega
    have d2 : decide ((k : Int) > 16) = false := by simp; omega
    have hgood : ¬ ((plCol l).length < 1 ∨ 16 < (plCol l).length) := by rw [Hk.out]; omega
    have hD : plD A.1 (n : Int) = (l.map rlw, 0) := by
      rw [← HA.out, ← Hn.out]
      exact plD_plE hgood (by rw [Hn.out]; omega)
    have hLe : L = 1 + 3 * k + (n * plZ k + 7) / 8 := by
      rw [← HL.out, ← HA.out, plE_length hgood, Hk.out, Hn.out]
    have hA2 : A.2 = true := by rw [← HA.out, plE_yes hgood]
    rw [hA2]
    have HD := Lib.hid hD
    have HSz := Lib.hid (fun W => refSize_any k W (by omega))
    have hz4 := plZ_le k
    obtain ⟨s, hs⟩ : ∃ s, plZ k = s := ⟨_, rfl⟩
    rw [hs] at hLe HSz hz4
    have hns : n * s ≤ 20000 := by
      have : n * s ≤ 5000 * 4 := Nat.mul_le_mul (by omega) hz4
      omega
    obtain ⟨t, ht⟩ : ∃ t, n * s = t := ⟨_, rfl⟩
    have hti : (n : Int) * (s : Int) = (t : Int) := by rw [← ht]; simp
    rw [ht] at hLe hns
    have HLe : Hid ((L : Int) = 1 + 3 * (k : Int) + ((t : Int) + 7) / 8) := Lib.hid (by omega)
    have Hlm : Hid ((l.map rlw).length = n) := Lib.hid (by rw [List.length_map]; exact Hn.out)
    clear hbad hgood hD hLe hA2 hs ht
    go_wp2_with fail
    refine Calls.mono (pdec_row (n : Int) Ho12.out HA8.out (by omega) _ HD.out) ?_
    rintro _ w3 ⟨p3, c3, rfl, ho3, hb3⟩
    simp only [Hlm.out] at ho3 ⊢
    have Hb3 := Lib.hid (Below.thn Hb2.out hb3)
    have Ho3 := Lib.hid (own_rowP ho3)
    clear ho3 hb3
    go_wp2_with fail
    have Hcut := Lib.hid (rcut_any p c l w3 (Hv.out.at'.1.below Hb3.out) (by rw [Hn.out]; omega))
    rw [Hn.out] at Hcut
    refine Calls.mono Hcut.out ?_
    rintro _ w4 ⟨v4, rfl, ho4, hb4⟩
    rw [Hlm.out] at ho4
    obtain ⟨p4, c4, rfl⟩ := owns_slice ho4
    have Hb4 := Lib.hid (Below.thn Hb3.out hb4)
    have Ho34 := Lib.hid (Ho3.out.below hb4)
    have Ho4 := Lib.hid (own_rowP ho4)
    clear ho4 hb4
    go_wp2_with fail
    refine Calls.mono (psame_row Ho34.out Ho4.out (by omega) (by omega) true (by simp)) ?_
    rintro _ w5 ⟨rfl, hb5⟩
    have Hb5 := Lib.hid (Below.thn Hb4.out hb5)
    clear hb5
    go_wp2_with fail
    refine Calls.mono (HSz.out _) ?_
    rintro _ w6 ⟨rfl, rfl⟩
    have d9 : ((L : Int) == 1 + 3 * (k : Int) + ((t : Int) + 7) / 8) = true := by rw [← HLe.out]; simp
    have d9' : (((L : Int) : Int) = 1 + 3 * (k : Int) + ((t : Int) + 7) / 8) = True := by simp [← HLe.out]
    have HTl := Lib.hid (ptells_law w6)
    go_wp2_with fail
    refine Calls.mono HTl.out ?_
    rintro _ w7 ⟨rfl, hb7⟩
    have Hb7 := Lib.hid (Below.thn Hb5.out hb7)
    clear hb7
    go_wp2
    go_ret
    exact ⟨rfl, Hb7.out⟩

end Go.Proofs.Ytonhcdhlinlncaa
