/- The walk of the statement RleBack. -/
import Derived.Test.YtgfdlimgndpngaaRleK
namespace Go.Proofs.Ytgfdlimgndpngaa
open Go.RowKit

theorem rlBs_at : ∀ (rs : List (Nat × Nat)) (k : Nat) (h : k < rs.length) (j : Nat), j < 4 → lq (rlBs rs) (4 * k + j) = lq (rlB rs[k]) j
  | [], k, h, _, _ => by simp at h
  | r :: rs, 0, h, j, hj => by
    show lq (rlB r ++ rlBs rs) (4 * 0 + j) = lq (rlB r) j
    unfold lq
    rw [List.getD_eq_getElem?_getD, List.getD_eq_getElem?_getD, Nat.mul_zero, Nat.zero_add, List.getElem?_append_left (by simpa [rlB] using hj)]
  | r :: rs, k + 1, h, j, hj => by
    have hk : k < rs.length := by simpa using h
    have ih := rlBs_at rs k hk j hj
    show lq (rlB r ++ rlBs rs) (4 * (k + 1) + j) = lq (rlB rs[k]) j
    rw [← ih]
    unfold lq
    rw [List.getD_eq_getElem?_getD, List.getD_eq_getElem?_getD, List.getElem?_append_right (by simp [rlB]; omega)]
    congr 2
    simp [rlB]; omega
theorem rlB_col {r s : Nat × Nat} (hr : RlOk r) (hs : RlOk s) (h1 : lq (rlB r) 1 = lq (rlB s) 1) (h2 : lq (rlB r) 2 = lq (rlB s) 2) (h3 : lq (rlB r) 3 = lq (rlB s) 3) : r.2 = s.2 := by
  change r.2 / 65536 = s.2 / 65536 at h1
  change r.2 / 256 % 256 = s.2 / 256 % 256 at h2
  change r.2 % 256 = s.2 % 256 at h3
  have := hr.2.2
  have := hs.2.2
  omega
/-- Three bytes within a row. -/
theorem row_three {W : World} {g off : Nat} {L : List Nat} {N c : Nat} (hN : N = L.length) (hc : ∀ i, i < N → W.cell? ⟨g, off + i, none⟩ = some (.int .u8 ((lq L i : Nat) : Int))) {j e : Nat} (he : e = j + 3) (heN : e ≤ N) (hcap : N ≤ c) (hcm : c ≤ maxLen) (hg : g < W.heap.size) :
    Row enc8 1 W (.slice (some ⟨g, off + j, none⟩) (e - j) (c - j)) [lq L j, lq L (j + 1), lq L (j + 2)] := by
  refine ⟨_, _, by rw [he, show j + 3 - j = [lq L j, lq L (j + 1), lq L (j + 2)].length by simp], by simp; omega, by omega, .inr ⟨g, off + j, rfl, hg, fun i x hi k u hu => ?_⟩⟩
  have hk : k < 1 := (List.getElem?_eq_some_iff.1 hu).1
  obtain rfl : k = 0 := by omega
  have hi3 : i < 3 := (List.getElem?_eq_some_iff.1 hi).1
  have key := hc (j + i) (by omega)
  have ex : x = lq L (j + i) := by
    match i, hi3 with
    | 0, _ => simpa using hi.symm
    | 1, _ => simpa using hi.symm
    | 2, _ => simpa using hi.symm
  rw [← ex] at key
  have hu2 : u = u8v x := by simpa [enc8] using hu.symm
  rw [hu2, Nat.mul_one, Nat.add_zero, Nat.add_assoc]
  exact key

set_option maxRecDepth 20000 in
set_option maxHeartbeats 8000000 in
theorem rback_any (v : Value) (l : List Nat) (N : Int) (w : World) (hv : RwP w v l) (h32 : ∀ x ∈ l, x < 4294967296) (hN : -9223372036854775808 ≤ N ∧ N ≤ 9223372036854775807) :
    Makes Try.prog 5 #[v, .int .i64 N] w (.bool true) := by
  unfold Makes
  have Hv := Lib.hid hv.row
  obtain ⟨p, c, rfl, -, -, -⟩ := hv.src encP_len (by decide)
  have HN := Lib.hid hN
  clear hv hN
  obtain ⟨n, hn⟩ : ∃ n, l.length = n := ⟨_, rfl⟩
  have Hn := Lib.hid hn
  rw [hn] at Hv ⊢
  clear hn
  go_enter Try.func5, Try.ntmps5
  by_cases hl : 20000 < n
  · have d0 : decide ((n : Int) > 20000) = true := by simp; omega
    go_wp2
    go_ret
    exact ⟨rfl, Below.refl _ _⟩
  have d0 : decide ((n : Int) > 20000) = false := by simp; omega
  have hR : (rlO l).length ≤ 20000 := by have := rl_len l; rw [Hn.out] at this; omega
  have hdl := rlD_rl (l := l) (by rw [Hn.out]; omega)
  have Hdl := Lib.hid hdl
  obtain ⟨B, hB⟩ : ∃ B, rlD (rlBs (rlO l)) N = B := ⟨_, rfl⟩
  have hBe : (B.2 = 0) ↔ N = (n : Int) := by
    constructor
    · intro h
      rw [← hB] at h
      have hlay : (rlay (rlT (rlBs (rlO l)))).length = n := by
        have e := rlT_rlBs (rlO l) (rl_ok l) []
        rw [List.append_nil] at e
        rw [e, show rlT [] = [] from rfl, List.append_nil, rlay_rl, List.length_map, Hn.out]
      by_cases hN2 : N < 0 ∨ 65536 < N
      · rw [rlD_arg hN2] at h; cases h
      · by_cases hN3 : ((rlay (rlT (rlBs (rlO l)))).length : Int) = N
        · rw [← hN3, hlay]
        · rw [rlD_no hN2 hN3] at h; cases h
    · rintro rfl
      have h := hdl
      rw [Hn.out, hB] at h
      rw [h]
  have HB := Lib.hid hB
  have h256 := Lib.hid (rlBs_256 (rl_ok l))
  have Hok := Lib.hid (rl_ok l)
  have Hapt := Lib.hid (rl_apt l)
  obtain ⟨q, hq⟩ : ∃ q, 4 * (rlO l).length = q := ⟨_, rfl⟩
  have Hq := Lib.hid hq
  have hq8 : q ≤ 80000 := by omega
  clear hdl hB
  go_wp2_with fail
  refine Calls.mono (renc_row Hv.out h32 (by omega)) ?_
  rintro _ w2 ⟨p2, c2, rfl, ho2, hb2⟩
  rw [hq] at ho2 ⊢
  have Hb2 := Lib.hid hb2
  have Hv2 := Lib.hid (Hv.out.below hb2)
  have Ho2 := Lib.hid (own_rowB ho2)
  clear ho2 hb2 hq
  have hd1 := Hdl.out
  rw [Hn.out] at hd1
  have Hd1 := Lib.hid hd1
  clear hd1 Hdl
  go_wp2_with fail
  refine Calls.mono (rdec_row (n : Int) Ho2.out h256.out (by omega) (by omega) _ Hd1.out) ?_
  rintro _ w3 ⟨p3, c3, rfl, ho3, hb3⟩
  simp only [List.length_map] at ho3 ⊢
  rw [Hn.out] at ho3 ⊢
  have Hb3 := Lib.hid (Below.thn Hb2.out hb3)
  have Hv3 := Lib.hid (Hv2.out.below hb3)
  have Ho23 := Lib.hid (Ho2.out.below hb3)
  have Ho3 := Lib.hid (own_rowP ho3)
  clear ho3 hb3
  go_wp2_with fail
  refine Calls.mono (rcut_row Hv3.out (by omega)) ?_
  rintro _ w4 ⟨p4, c4, rfl, ho4, hb4⟩
  have Hb4 := Lib.hid (Below.thn Hb3.out hb4)
  have Ho24 := Lib.hid (Ho23.out.below hb4)
  have Ho34 := Lib.hid (Ho3.out.below hb4)
  have Ho4 := Lib.hid (own_rowP ho4)
  clear ho4 hb4
  go_wp2_with fail
  refine Calls.mono (rsame_row Ho34.out Ho4.out (by omega) (by omega) true (by simp)) ?_
  rintro _ w5 ⟨rfl, hb5⟩
  have Hb5 := Lib.hid (Below.thn Hb4.out hb5)
  have Ho25 := Lib.hid (Ho24.out.below hb5)
  clear hb5
  go_wp2_with fail
  refine Calls.mono (rdec_row N Ho25.out h256.out (by omega) HN.out _ HB.out) ?_
  rintro _ w6 ⟨p6, c6, rfl, -, hb6⟩
  have Hb6 := Lib.hid (Below.thn Hb5.out hb6)
  have Ho26 := Lib.hid (Ho25.out.below hb6)
  clear hb6
  obtain ⟨be, hbe⟩ : ∃ be, (B.2 == 0) = be := ⟨_, rfl⟩
  have hbe2 : (N == (n : Int)) = be := by
    rw [← hbe, Bool.eq_iff_iff]; simp [hBe]
  have hbe3 : (be != be) = false := by simp
  clear hBe
  go_wp2_with fail
  obtain ⟨rs, hrs⟩ : ∃ rs, rlO l = rs := ⟨_, rfl⟩
  rw [hrs] at Ho26 Hok Hapt Hq hR
  obtain ⟨p2', c2', e2, hcap, hcm, hrow⟩ := Ho26.out
  injection e2 with e1 e3 e4
  rw [← e4] at hcap hcm
  have hrowH := Lib.hid Ho26.out.at'.1
  have hcap2 : q ≤ c2 := by rw [e3]; exact hcap
  clear hrs hrow e1 e3 e4 hcap d0 hl Hv2 Hv3 Ho2 Ho23 Ho3 Ho34 Ho4 Ho24 Ho25 hbe hbe2 hbe3
  generalize w6 = W6 at *
  go_loopw [10] (fun iv wr => ∃ k : Nat, iv = .int .i64 ((4 * k : Nat) : Int) ∧ 1 ≤ k ∧ (k ≤ rs.length ∨ k = 1) ∧ Hid (Below W6.heap.size W6 wr)) (fun iv _ => q + 4 - (intOf iv).toNat)
  case atStart => exact ⟨1, rfl, Nat.le_refl _, .inr rfl, Lib.hid (Below.refl _ _)⟩
  case round =>
    obtain ⟨k, rfl, hk1, hk, HB'⟩ := hrel
    obtain ⟨i, hi⟩ : ∃ i, 4 * k = i := ⟨_, rfl⟩
    rw [hi]
    have Hi := Lib.hid hi
    by_cases hiq : i < q
    · have d1 : decide ((i : Int) < (q : Int)) = true := by simp; omega
      have hq4 := Hq.out
      have hkR : k < rs.length := by omega
      obtain ⟨g, off, hp2, hcell⟩ : ∃ g off, p2 = some ⟨g, off, none⟩ ∧ ∀ i, i < q → W6.cell? ⟨g, off + i, none⟩ = some (.int .u8 ((lq (rlBs rs) i : Nat) : Int)) := by
        have hlen : (rlBs rs).length = q := by rw [rlBs_len]; exact Hq.out
        obtain ⟨g, off, e, -⟩ := hrowH.out.byte (k := 0) (by rw [hlen]; omega)
        refine ⟨g, off, e, fun i hi => ?_⟩
        obtain ⟨g', off', e', h⟩ := hrowH.out.byte (k := i) (by rw [hlen]; exact hi)
        rw [e] at e'; cases e'
        exact h
      subst hp2
      have hgW : g < W6.heap.size := World.block_lt_of_cell? _ _ (hcell 0 (by omega))
      obtain ⟨j, hj⟩ : ∃ j, k - 1 = j := ⟨_, rfl⟩
      have hjR : j < rs.length := by omega
      obtain ⟨i4, hi4⟩ : ∃ x, i - 4 = x := ⟨_, rfl⟩
      obtain ⟨i3, hi3⟩ : ∃ x, i - 3 = x := ⟨_, rfl⟩
      obtain ⟨i1, hi1⟩ : ∃ x, i + 1 = x := ⟨_, rfl⟩
      obtain ⟨i8, hi8⟩ : ∃ x, i + 4 = x := ⟨_, rfl⟩
      have Hi8 : Hid (((4 * (k + 1) : Nat) : Int) = (i8 : Int)) := Lib.hid (by omega)
      have ha4 := rlBs_at rs j hjR 0 (by decide)
      have hx := hcell i4 (by omega)
      rw [show 4 * j + 0 = i4 by omega] at ha4
      have hcnt : lq (rlBs rs) i4 = rs[j].1 - 1 := ha4
      rw [hcnt] at hx
      have hlen : q = (rlBs rs).length := by rw [rlBs_len]; exact Hq.out.symm
      have s1 := fun (n : Nat) => strR_row (row_three (W := wr.drewN n) (c := c2) hlen (fun a ha => cell_later (Below.drewN' HB'.out n) (hcell a ha)) (j := i3) (e := i) (by omega) (by omega) hcap2 hcm (Nat.lt_of_lt_of_le hgW (Below.drewN' HB'.out n).size))
      have s2 := fun (n : Nat) => strR_row (row_three (W := wr.drewN n) (c := c2) hlen (fun a ha => cell_later (Below.drewN' HB'.out n) (hcell a ha)) (j := i1) (e := i8) (by omega) (by omega) hcap2 hcm (Nat.lt_of_lt_of_le hgW (Below.drewN' HB'.out n).size))
      have hcnt2 : rs[j].1 ≤ 256 := (Hok.out _ (List.getElem_mem hjR)).2.1
      have hcnt1 : 1 ≤ rs[j].1 := (Hok.out _ (List.getElem_mem hjR)).1
      have hapt : rs[j].1 = 256 ∨ strR [lq (rlBs rs) i3, lq (rlBs rs) (i3 + 1), lq (rlBs rs) (i3 + 2)] ≠ strR [lq (rlBs rs) i1, lq (rlBs rs) (i1 + 1), lq (rlBs rs) (i1 + 2)] := by
        rcases Hapt.out.at j (by omega) with h | h
        · exact .inl h
        · right
          intro e
          have h8 : ∀ a, lq (rlBs rs) a < 256 := fun a => by
            unfold lq
            rw [List.getD_eq_getElem?_getD]
            cases h : (rlBs rs)[a]? with
            | none => decide
            | some x => exact rlBs_256 Hok.out x (List.mem_of_getElem? h)
          have e2 := strR_inj (fun b hb => by
            simp only [List.mem_cons, List.not_mem_nil, or_false] at hb
            rcases hb with rfl | rfl | rfl <;> exact h8 _) (fun b hb => by
            simp only [List.mem_cons, List.not_mem_nil, or_false] at hb
            rcases hb with rfl | rfl | rfl <;> exact h8 _) e
          simp only [List.cons.injEq, and_true] at e2
          obtain ⟨t1, t2, t3⟩ := e2
          have hjk : j + 1 = k := by omega
          have f1 := rlBs_at rs j hjR 1 (by decide)
          have f2 := rlBs_at rs j hjR 2 (by decide)
          have f3 := rlBs_at rs j hjR 3 (by decide)
          have f4 := rlBs_at rs (j + 1) (by omega) 1 (by decide)
          have f5 := rlBs_at rs (j + 1) (by omega) 2 (by decide)
          have f6 := rlBs_at rs (j + 1) (by omega) 3 (by decide)
          rw [show 4 * j + 1 = i3 by omega] at f1
          rw [show 4 * j + 2 = i3 + 1 by omega] at f2
          rw [show 4 * j + 3 = i3 + 2 by omega] at f3
          rw [show 4 * (j + 1) + 1 = i1 by omega] at f4
          rw [show 4 * (j + 1) + 2 = i1 + 1 by omega] at f5
          rw [show 4 * (j + 1) + 3 = i1 + 2 by omega] at f6
          exact h (rlB_col (Hok.out _ (List.getElem_mem hjR)) (Hok.out _ (List.getElem_mem (by omega))) (by rw [← f1, ← f4, t1]) (by rw [← f2, ← f5, t2]) (by rw [← f3, ← f6, t3]))
      generalize strR [lq (rlBs rs) i3, lq (rlBs rs) (i3 + 1), lq (rlBs rs) (i3 + 2)] = S1 at s1 hapt
      generalize strR [lq (rlBs rs) i1, lq (rlBs rs) (i1 + 1), lq (rlBs rs) (i1 + 2)] = S2 at s2 hapt
      have x0 := cell_later HB'.out hx
      obtain ⟨cn, hcn⟩ : ∃ cn, rs[j].1 - 1 = cn := ⟨_, rfl⟩
      rw [hcn] at x0
      have hcn2 : cn ≤ 255 := by omega
      have hcn3 : cn = 255 ∨ S1 ≠ S2 := hapt.imp (fun h => by omega) id
      have k0 : (i : Int) - 4 = (i4 : Int) := by omega
      have k1 : (i : Int) - 3 = (i3 : Int) := by omega
      have k2 : (i : Int) + 1 = (i1 : Int) := by omega
      have k3 : (i : Int) + 4 = (i8 : Int) := by omega
      have m0 : (0 : Int) ≤ (i4 : Int) := by omega
      have m1 : (i4 : Int) < (q : Int) := by omega
      have m2 : (0 : Int) ≤ (i3 : Int) := by omega
      have m3 : (i3 : Int) ≤ (i : Int) := by omega
      have m4 : (i : Int) ≤ (c2 : Int) := by omega
      have m5 : (0 : Int) ≤ (i1 : Int) := by omega
      have m6 : (i1 : Int) ≤ (i8 : Int) := by omega
      have m7 : (i8 : Int) ≤ (c2 : Int) := by omega
      clear hq4 hx ha4 hcnt hcnt1 hcnt2 hapt hcell hcn hi4 hi3 hi1 hi hj hlen hcap2
      clear Hv Ho26 hrowH
      by_cases hfull : cn = 255
      · have d2 : decide ((cn : Int) < 255) = false := by simp; omega
        go_upto_region 13 with (fail)
        go_quiet (fail)
        rename_i nq
        have HB2 := Lib.hid (Below.drewN' HB'.out nq)
        generalize wr.drewN nq = W2 at *
        clear s1 s2 x0
        go_wp2
        go_roundw
        case rel => exact ⟨k + 1, by rw [Hi8.out], by omega, by omega, HB2⟩
        case measure => simp [intOf]; omega
      · have d2 : decide ((cn : Int) < 255) = true := by simp; omega
        have hS : S1 ≠ S2 := hcn3.resolve_left hfull
        have d3 : (S1.toList == S2.toList) = false := by
          rw [beq_eq_false_iff_ne]
          intro h
          rw [ByteArray.toList_eq, ByteArray.toList_eq] at h
          refine hS ?_
          cases S1; cases S2
          simp only at h
          rw [Array.toList_inj.1 h]
        go_upto_region 13 with (fail)
        go_quiet (fail)
        rename_i nq
        have HB2 := Lib.hid (Below.drewN' HB'.out nq)
        generalize wr.drewN nq = W2 at *
        clear s1 s2 x0
        go_wp2
        go_roundw
        case rel => exact ⟨k + 1, by rw [Hi8.out], by omega, by omega, HB2⟩
        case measure => simp [intOf]; omega
    · have d1 : decide ((i : Int) < (q : Int)) = false := by simp; omega
      go_wp2_with fail
      refine Calls.mono (tells_law wr) ?_
      rintro _ w9 ⟨rfl, hb9⟩
      have Hb9 := Lib.hid (Below.thn (Below.thn Hb6.out HB'.out) hb9)
      clear hb9
      go_wp2
      go_ret
      exact ⟨rfl, Hb9.out⟩

end Go.Proofs.Ytgfdlimgndpngaa
