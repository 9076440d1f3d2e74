/- palette: readPixels. -/
import Derived.Test.YtonhcdhlinlncaaPalE
import Derived.Test.YtonhcdhlinlncaaBitD
namespace Go.Proofs.Ytonhcdhlinlncaa
open Go.RowKit

attribute [local go_sem] Oper.semAt_some

/-- A row of n pixels, of which the first i are laid. -/
def plW (L : List Nat) (i n : Nat) : List Value := (List.range n).map fun j => if j < i then pxv (L.getD j 0) else .int .u32 0
theorem plW_len (L : List Nat) (i n : Nat) : (plW L i n).length = n := by simp [plW]
theorem plW_zero (L : List Nat) (n : Nat) : (madeCells #[Value.int .u32 0] n).toList = plW L 0 n := by
  refine List.ext_getElem (by simp [plW, size_madeCells]) (fun i h1 h2 => ?_)
  simp [madeCells, plW, Nat.mod_one]
theorem plW_set (L : List Nat) (i n : Nat) : (plW L i n).set i (pxv (L.getD i 0)) = plW L (i + 1) n := by
  refine List.ext_getElem (by simp [plW]) (fun j h1 h2 => ?_)
  rw [List.getElem_set]
  have hj : j < n := by simpa [plW] using h2
  by_cases e : i = j
  · subst e; simp [plW]
  · simp only [e, if_false, plW, List.getElem_map, List.getElem_range]
    by_cases h : j < i
    · rw [if_pos h, if_pos (by omega)]
    · rw [if_neg h, if_neg (by omega)]
theorem plW_full {L : List Nat} {n : Nat} (h : L.length = n) : plW L n n = L.map pxv := by
  refine List.ext_getElem (by simp [plW, h]) (fun j h1 h2 => ?_)
  have hj : j < n := by simpa [plW] using h1
  simp [plW, hj, List.getD_eq_getElem?_getD, h]
theorem plW_at (L : List Nat) {i n : Nat} (h : i < n) : (plW L i n)[i]? = some (.int .u32 0) := by
  simp [plW, h]

theorem plP_some {cs r : List Nat} {N : Nat} (h1 : r.length = (N * plZ cs.length + 7) / 8) (h2 : ∀ i, i < N → numB r / 2 ^ (plZ cs.length * i) % 2 ^ plZ cs.length < cs.length) (h3 : numB r / 2 ^ (plZ cs.length * N) = 0) : plP cs r N = some ((plG r (plZ cs.length) N).map fun v => cs.getD v 0) := by
  unfold plP
  rw [if_neg (by simpa using h1), if_neg, if_neg (by rw [Nat.mul_comm]; simpa using h3)]
  rintro ⟨v, hv, hk⟩
  obtain ⟨i, hi, rfl⟩ := List.mem_map.1 hv
  have := h2 i (List.mem_range.1 hi)
  omega
theorem plP_few {cs r : List Nat} {N : Nat} (h : r.length ≠ (N * plZ cs.length + 7) / 8) : plP cs r N = none := if_pos h
theorem plP_wide {cs r : List Nat} {N i : Nat} (hi : i < N) (h : cs.length ≤ numB r / 2 ^ (plZ cs.length * i) % 2 ^ plZ cs.length) : plP cs r N = none := by
  unfold plP
  split
  · rfl
  · rw [if_pos ⟨_, List.mem_map.2 ⟨i, List.mem_range.2 hi, rfl⟩, h⟩]
theorem plP_bit {cs r : List Nat} {N : Nat} (h : numB r / 2 ^ (plZ cs.length * N) ≠ 0) : plP cs r N = none := by
  unfold plP
  split
  · rfl
  · split
    · rfl
    · rw [if_pos (by rw [Nat.mul_comm]; exact h)]

set_option maxRecDepth 100000 in
set_option maxHeartbeats 8000000 in
theorem preadPixels_any (p q : Option Addr) (c d N : Nat) (r cs : List Nat) (w : World) (hp : RowAt enc8 1 w p r) (h8 : ∀ x ∈ r, x < 256) (hl : r.length ≤ 1048576) (hlc : r.length ≤ c) (hc63 : c ≤ maxLen) (hcn : c = 0 ∨ p ≠ none) (hq : RowAt encP 1 w q cs) (h0 : 0 < cs.length) (hN : N ≤ 65536) :
    Calls Try.prog 24 #[.slice p r.length c, .slice q cs.length d, .int .i64 (N : Int)] w fun e w' => Below w.heap.size w w' ∧ ((plP cs r N = none ∧ ∃ v1, e = .returned (.tuple #[v1, .bool false])) ∨ ∃ L v1, plP cs r N = some L ∧ e = .returned (.tuple #[v1, .bool true]) ∧ w'.ownsRow w.heap.size 35 1 v1 L.length (L.map pxv)) := by
  have hRw : Rw8 w (.slice p r.length c) r := ⟨⟨p, c, rfl, hlc, hc63, hp⟩, fun c' e => by
    injection e with e1 e2 e3
    subst e1; subst e3
    rcases hcn with h | h
    · exact h
    · exact absurd rfl h⟩
  have Hnew := Lib.hid (fun W hW => new_any (.slice p r.length c) r W (hRw.below hW) h8 (by omega))
  have Hcs := Lib.hid hq
  have h256 := numB_lt r h8
  rw [pow256] at h256
  have hz4 := plZ_le cs.length
  have Hw := Lib.hid (fun w => pwidth_any cs.length w)
  have PS := Lib.hid (fun h1 h2 h3 => plP_some (cs := cs) (r := r) (N := N) h1 h2 h3)
  have PF := Lib.hid (fun h => plP_few (cs := cs) (r := r) (N := N) h)
  have PW := Lib.hid (fun i hi h => plP_wide (cs := cs) (r := r) (N := N) (i := i) hi h)
  have PB := Lib.hid (fun h => plP_bit (cs := cs) (r := r) (N := N) h)
  have HGl := Lib.hid (plG_len r (plZ cs.length) N)
  have HGa := Lib.hid (fun i (hi : i < N) => plG_at r (plZ cs.length) N i (by rw [plG_len]; exact hi))
  obtain ⟨s, hs⟩ : ∃ s, plZ cs.length = s := ⟨_, rfl⟩
  rw [hs] at hz4 Hw PS PF PW PB HGl HGa
  obtain ⟨K, hK⟩ : ∃ k, cs.length = k := ⟨_, rfl⟩
  have HK := Lib.hid hK
  rw [hK] at h0 Hw PS PW ⊢
  obtain ⟨n, hn⟩ : ∃ k, r.length = k := ⟨_, rfl⟩
  have Hn := Lib.hid hn
  have H256 := Lib.hid h256
  rw [hn] at hl hlc H256 PS PF Hnew ⊢
  have hsN : N * s ≤ 262144 := by
    have : N * s ≤ 65536 * 4 := Nat.mul_le_mul hN hz4
    omega
  obtain ⟨T, hT⟩ : ∃ t, N * s = t := ⟨_, rfl⟩
  have hTi : (N : Int) * (s : Int) = (T : Int) := by rw [← hT]; simp
  have hT2 : s * N = T := by rw [Nat.mul_comm]; exact hT
  rw [hT] at hsN PS PF
  rw [hT2] at PS PB
  have HT := Lib.hid hT2
  clear hp h8 hRw hq hs hK hn hcn hc63 h256 hT hT2
  go_enter Try.func24, Try.ntmps24
  go_wp2_with fail
  refine Calls.mono (Hw.out _) ?_
  rintro _ u ⟨rfl, rfl⟩
  by_cases hfew : n = (T + 7) / 8
  · have hfi : (n : Int) = ((T : Int) + 8 - 1) / 8 := by omega
    have d1 : ((n : Int) != ((T : Int) + 8 - 1) / 8) = false := by simp [hfi]
    have Hfew := Lib.hid hfew
    clear hfew hfi
    go_wp2_with fail
    refine Calls.mono (Hnew.out u (Below.refl _ _)) ?_
    rintro _ w1 ⟨B, sv, rfl, hrd, hb1, hB1, hsv1⟩
    have Hrd := Lib.hid hrd
    have Hb1 := Lib.hid hb1
    have HB1 := Lib.hid hB1
    have Hsv1 := Lib.hid hsv1
    clear hrd hb1 hB1 hsv1 d1
    obtain ⟨nf, hj0, hj1, hj2, hj3⟩ := info_parts pxv_info
    go_wp2_with (refine wpList_make_full w1 rfl (.tmp 30) (.tmp 30) 22 rfl w1.heap.size 35 nf _ 1 Try.underlying22 hj0 hj1 hj2 .i64 .i64 (N : Int) (N : Int) N rfl rfl rfl rfl (by rw [hj3]; omega) (by simp only [maxLen]; omega) (Nat.le_refl _) ?_)
    intro w2 ho2 hg2
    obtain ⟨LL, hLL⟩ : ∃ LL, (plG r s N).map (fun v => cs.getD v 0) = LL := ⟨_, rfl⟩
    have hLlen : LL.length = N := by rw [← hLL, List.length_map, HGl.out]
    have hLat : ∀ i, i < N → LL.getD i 0 = cs.getD (numB r / 2 ^ (s * i) % 2 ^ s) 0 := fun i hi => by
      rw [← hLL, List.getD_eq_getElem?_getD, List.getElem?_map, List.getElem?_eq_getElem (by rw [HGl.out]; exact hi), HGa.out i hi]
      rfl
    have HLL := Lib.hid hLL
    have HLlen := Lib.hid hLlen
    have HLat := Lib.hid hLat
    rw [plW_zero LL] at ho2
    have hb2 : Below w1.heap.size w1 w2 := (Turns.of_grown (T := fun _ => False) hg2 (fun i e => by cases e)).below (Nat.le_refl _) (fun i h => h.elim)
    have Ho2 := Lib.hid ho2
    have Hrd2 := Lib.hid (Hrd.out.below hb2)
    have Hb2 := Lib.hid (Below.thn Hb1.out hb2)
    have HBg : Hid (B < w1.heap.size ∧ ∀ b, sv.ownBlock = some b → b < w1.heap.size) := Lib.hid ⟨Hrd.out.size, Hrd.out.row.lt⟩
    obtain ⟨gp, hgp⟩ : ∃ g, w1.heap.size = g := ⟨_, rfl⟩
    have Hgp := Lib.hid hgp
    rw [hgp] at Ho2 HBg ⊢
    have HBw : Hid (u.heap.size ≤ B ∧ u.heap.size ≤ gp) := Lib.hid ⟨HB1.out, by rw [← hgp]; exact Hb1.out.size⟩
    clear ho2 hg2 hb2 hLL hLlen hLat hgp Hrd
    go_wp2_with fail
    go_loopw [34] (fun iv wr => ∃ i : Nat, iv = .int .i64 (i : Int) ∧ i ≤ N ∧ Hid (∀ j, j < i → numB r / 2 ^ (s * j) % 2 ^ s < K) ∧ Hid (Rd wr B sv r (s * i)) ∧ Hid (wr.ownsRow gp 35 1 (.slice (some ⟨gp, 0, none⟩) N N) N (plW LL i N)) ∧ Hid (Below u.heap.size u wr)) (fun iv _ => N - (intOf iv).toNat)
    case atStart => exact ⟨0, rfl, Nat.zero_le _, Lib.hid (fun j hj => by omega), Hrd2, Ho2, Hb2⟩
    case round =>
      obtain ⟨i, rfl, hi, HV, HR, HO, HB⟩ := hrel
      by_cases hin : i < N
      · have d1 : decide ((i : Int) < (N : Int)) = true := by simp; omega
        have hsi : s * i + s ≤ 8 * r.length := by
          have h1 : s * (i + 1) ≤ s * N := Nat.mul_le_mul_left _ (by omega)
          rw [Nat.mul_add, Nat.mul_one, HT.out] at h1
          have h2 := Hfew.out
          have h3 := Hn.out
          omega
        have Hget := Lib.hid (get_ok B (s * i) s sv r wr HR.out (by omega) hsi)
        have HVat := HLat.out i hin
        have HPW := PW.out i hin
        obtain ⟨v, hv⟩ : ∃ v, numB r / 2 ^ (s * i) % 2 ^ s = v := ⟨_, rfl⟩
        rw [hv] at Hget HVat HPW
        have Hv := Lib.hid hv
        have hv16 : v < 16 := by
          rw [← hv]
          have h1 := Nat.mod_lt (numB r / 2 ^ (s * i)) (pow_pos' s)
          have h2 : 2 ^ s ≤ 2 ^ 4 := Nat.pow_le_pow_right (by decide) hz4
          omega
        have HPW := Lib.hid HPW
        have HVat := Lib.hid HVat
        clear hsi hv
        go_wp2_with fail
        refine Calls.mono Hget.out ?_
        rintro _ w3 ⟨rfl, hrd3, ht3⟩
        have hb3 : Below u.heap.size u w3 := HB.out.trans (ht3.below HB.out.size (fun b (hb : b = B) => by rw [hb]; exact HBw.out.1))
        have ho3 := ht3.owns HO.out (fun b hb (e : b = B) => by have := (HO.out.lt b hb).1; have := HBg.out.1; omega)
        have ww : IntKind.i64.wrap (v : Int) = (v : Int) := IntWalk.i64_in _ (by omega)
        by_cases hvK : K ≤ v
        · have d2 : decide ((v : Int) ≥ (K : Int)) = true := by simp; omega
          have hno := HPW.out hvK
          have Hb3 := Lib.hid hb3
          clear hrd3 ht3 hb3 ho3
          go_wp2
          go_ret2
          exact ⟨Hb3.out, .inl ⟨hno, _, rfl⟩⟩
        · have d2 : decide ((v : Int) ≥ (K : Int)) = false := by simp; omega
          obtain ⟨gc, offc, rfl, hcc⟩ := Hcs.out.pxs (by rw [HK.out]; exact h0)
          have x0 := cell_later hb3 (hcc v (by rw [HK.out]; omega))
          obtain ⟨z, hz⟩ : ∃ z, cs.getD v 0 = z := ⟨_, rfl⟩
          rw [hz] at x0
          have hc0 := ho3.cellAt i (by omega)
          rw [plW_at LL hin] at hc0
          have hf0 := ho3.frozenAt i
          have hst := ho3.stored i (.int .u32 (z : Int))
          have hset : (plW LL i N).set i (.int .u32 (z : Int)) = plW LL (i + 1) N := by
            rw [← plW_set, HVat.out, hz]; rfl
          rw [hset] at hst
          have Ho3 := Lib.hid hst.1
          have Ht4 := Turns.set (T := fun b => b = gp) (Turns.refl _ w3) (p := ⟨gp, i, none⟩) rfl (.int .u32 (z : Int))
          have Hrd4 : Hid (Rd (w3.setCell ⟨gp, i, none⟩ (.int .u32 (z : Int))) B sv r (s * (i + 1))) := Lib.hid (by
            rw [Nat.mul_add, Nat.mul_one]
            exact hrd3.turns Ht4 (by have := HBg.out.1; omega) (fun b hb e => by have := HBg.out.2 b hb; omega))
          have Hb4 := Lib.hid (hb3.trans (Ht4.below hb3.size (fun b (hb : b = gp) => by rw [hb]; exact HBw.out.2)))
          have HV4 : Hid (∀ j, j < i + 1 → numB r / 2 ^ (s * j) % 2 ^ s < K) := Lib.hid (fun j hj => by
            by_cases e : j = i
            · subst e; rw [Hv.out]; omega
            · exact HV.out j (by omega))
          have k0 : (0 : Int) ≤ (i : Int) := by omega
          have k1 : (i : Int) < (N : Int) := by omega
          have k2 : (0 : Int) ≤ (v : Int) := by omega
          have k3 : (v : Int) < (K : Int) := by omega
          clear hrd3 ht3 hb3 ho3 hst hset Ht4 hz hcc HV HR HO HB Hget HVat HPW
          go_wp2
          go_roundw
          case rel => exact ⟨i + 1, by go_num, by omega, HV4, Hrd4, Ho3, Hb4⟩
          case measure => simp [intOf]; omega
      · obtain rfl : i = N := by omega
        have d1 : decide ((i : Int) < (i : Int)) = false := by simp
        have hpos := HR.out.pos
        obtain ⟨z, hz⟩ : ∃ z, 8 * r.length - s * i = z := ⟨_, rfl⟩
        have hz7 : z ≤ 7 := by
          have h2 := Hfew.out
          have h3 := Hn.out
          have h4 := HT.out
          omega
        have Hleft := left_any B (s * i) sv r wr HR.out
        rw [hz] at Hleft
        have Hleft := Lib.hid Hleft
        have hfit : s * i + z ≤ 8 * r.length := by omega
        have HgetL := Lib.hid (fun W (hW : Rd W B sv r (s * i)) => get_ok B (s * i) z sv r W hW (by omega) hfit)
        have hq0 : numB r / 2 ^ (s * i) % 2 ^ z = numB r / 2 ^ (s * i) := Nat.mod_eq_of_lt (by
          refine Nat.div_lt_of_lt_mul ?_
          rw [← Nat.pow_add]
          have h := H256.out
          have h3 := Hn.out
          rwa [show s * i + z = 8 * n by omega])
        rw [hq0] at HgetL
        obtain ⟨Q, hQ⟩ : ∃ Q, numB r / 2 ^ (s * i) = Q := ⟨_, rfl⟩
        rw [hQ] at HgetL
        have hQ2 : numB r / 2 ^ T = Q := by rw [← HT.out]; exact hQ
        have HQ2 := Lib.hid hQ2
        clear hpos hz hfit hq0 hQ hQ2
        go_wp2_with fail
        refine Calls.mono Hleft.out ?_
        rintro _ w3 ⟨rfl, hb3⟩
        have Hrd3 := Lib.hid (HR.out.below hb3)
        have Ho3 := Lib.hid ((Turns.of_below' (T := fun _ => False) hb3).owns HO.out (fun _ _ h => h))
        have Hb3 := Lib.hid (Below.thn HB.out hb3)
        clear hb3
        go_wp2_with fail
        refine Calls.mono (HgetL.out _ Hrd3.out) ?_
        rintro _ w4 ⟨rfl, hrd4, ht4⟩
        have Hb4 := Lib.hid (Hb3.out.trans (ht4.below Hb3.out.size (fun b (hb : b = B) => by rw [hb]; exact HBw.out.1)))
        have Ho4 := Lib.hid (ht4.owns Ho3.out (fun b hb (e : b = B) => by have := (Ho3.out.lt b hb).1; have := HBg.out.1; omega))
        clear hrd4 ht4
        by_cases hQ0 : Q = 0
        · have d2 : ((Q : Int) == 0) = true := by simp [hQ0]
          have hyes := PS.out Hfew.out HV.out (by rw [HQ2.out]; exact hQ0)
          rw [HLL.out] at hyes
          go_wp2
          go_ret2
          refine ⟨Hb4.out, .inr ⟨LL, _, hyes, rfl, ?_⟩⟩
          have := owns_base Ho4.out HBw.out.2
          rw [plW_full HLlen.out] at this
          rw [HLlen.out]
          exact this
        · have d2 : ((Q : Int) == 0) = false := by simp; omega
          have hno := PB.out (by rw [HQ2.out]; exact hQ0)
          go_wp2
          go_ret2
          exact ⟨Hb4.out, .inl ⟨hno, _, rfl⟩⟩
  · have d1 : ((n : Int) != ((T : Int) + 8 - 1) / 8) = true := by
      have : (n : Int) ≠ ((T : Int) + 8 - 1) / 8 := by omega
      simpa using this
    have hno := PF.out hfew
    go_wp2
    go_ret2
    exact ⟨Below.refl _ _, .inl ⟨hno, _, rfl⟩⟩

end Go.Proofs.Ytonhcdhlinlncaa
