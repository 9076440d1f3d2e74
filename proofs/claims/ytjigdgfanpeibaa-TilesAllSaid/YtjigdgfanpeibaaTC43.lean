/- TilesTwice. -/
import Derived.Test.YtjigdgfanpeibaaTC41
import Derived.Test.YtjigdgfanpeibaaTC42
namespace Go.Proofs.Ytjigdgfanpeibaa
open Go.RowKit

/-- One side of a step: is the number the next one? -/
inductive Side (iA nX t iA' : Nat) (cell : Nat → Nat → Prop) : Prop where
  | yes (h1 : decide ((iA : Int) < (nX : Int)) = true) (h2 : cell iA t) (h3 : iA' = iA + 1) (h4 : iA < nX)
  | out (h1 : decide ((iA : Int) < (nX : Int)) = false) (h3 : iA' = iA)
  | no (u : Nat) (h1 : decide ((iA : Int) < (nX : Int)) = true) (h2 : cell iA u) (h5 : ((u : Int) == (t : Int)) = false) (h3 : iA' = iA) (h4 : iA < nX)
theorem side_of {A : Nat → Bool} {t : List Nat} {j : Nat} (hj : j < t.length) {X : List Nat} (hX : X = t.filter A) :
    (A t[j] = true ∧ Side (cntA A t j) X.length t[j] (cntA A t (j + 1)) (fun i u => X[i]? = some u) ∧ cntA A t (j + 1) = cntA A t j + 1 ∧ X[cntA A t j]? = some t[j] ∧ cntA A t j < X.length) ∨
    (A t[j] = false ∧ (X.length ≤ cntA A t j ∨ ∃ u, X[cntA A t j]? = some u ∧ u ≠ t[j] ∧ cntA A t j < X.length) ∧ cntA A t (j + 1) = cntA A t j) := by
  subst hX
  obtain ⟨h1, h2⟩ := cntA_step (A := A) hj
  cases hA : A t[j] with
  | true =>
    obtain ⟨e1, e2⟩ := h1 hA
    have hlt := (List.getElem?_eq_some_iff.1 e1).1
    exact .inl ⟨rfl, .yes (by simp; omega) e1 e2 hlt, e2, e1, hlt⟩
  | false =>
    obtain ⟨e1, e2⟩ := h2 hA
    refine .inr ⟨rfl, ?_, e2⟩
    by_cases hl : (t.filter A).length ≤ cntA A t j
    · exact .inl hl
    · have hlt : cntA A t j < (t.filter A).length := by omega
      refine .inr ⟨_, List.getElem?_eq_getElem hlt, fun e => e1 ?_, hlt⟩
      rw [List.getElem?_eq_getElem hlt, e]
theorem RowAt.natI' {W : World} {p : Option Addr} {xs : List Nat} (h : RowAt encI 1 W p xs) {k u : Nat} (hk : xs[k]? = some u) : ∃ b off, p = some ⟨b, off, none⟩ ∧ W.cell? ⟨b, off + k, none⟩ = some (.int .i64 (u : Int)) := by
  obtain ⟨hlt, hv⟩ := List.getElem?_eq_some_iff.1 hk
  obtain ⟨b, off, e, hc⟩ := h.natI hlt
  exact ⟨b, off, e, by rw [hc, hv]⟩

set_option maxRecDepth 20000 in
set_option maxHeartbeats 4000000 in
theorem ttwice_any (va : Value) (a : List Rc) (vb : Value) (b : List Rc) (w h : Int) (W : World) (ha : RwG encR 4 W va a) (hfa : ∀ r ∈ a, Fit r) (hb : RwG encR 4 W vb b) (hfb : ∀ r ∈ b, Fit r) :
    Makes Try.prog 7 #[va, vb, .int .i64 w, .int .i64 h] W (.bool true) := by
  unfold Makes
  have hpw := szW_le w h
  have hph := szH_le w h
  have hsp := fun v l u hv hf hl => split_any v l w h u hv hf hl
  have hto := fun v l u hv hf hl => touched_any v l w h u hv hf hl
  obtain ⟨pw, hpwe⟩ : ∃ p, szW w h = p := ⟨_, rfl⟩
  obtain ⟨ph, hphe⟩ : ∃ p, szH w h = p := ⟨_, rfl⟩
  rw [hpwe] at hpw hsp hto
  rw [hphe] at hph hsp hto
  have Hsp := Lib.hid hsp
  have Hto := Lib.hid hto
  have Hpw := Lib.hid hpw
  have Hph := Lib.hid hph
  have Ha := Lib.hid ha
  have Hb := Lib.hid hb
  have Hfa := Lib.hid hfa
  have Hfb := Lib.hid hfb
  obtain ⟨pa, ca, rfl, hca, hca', hsa⟩ := RwG.src (enc := encR) (k := 4) (fun _ => rfl) (by decide) ha
  obtain ⟨pb, cb, rfl, hcb, hcb', hsb⟩ := RwG.src (enc := encR) (k := 4) (fun _ => rfl) (by decide) hb
  clear hsp hto hpwe hphe ha hb hfa hfb hsa hsb
  obtain ⟨na, hna⟩ : ∃ n, a.length = n := ⟨_, rfl⟩
  obtain ⟨nb, hnb⟩ : ∃ n, b.length = n := ⟨_, rfl⟩
  have Hna := Lib.hid hna
  have Hnb := Lib.hid hnb
  rw [hna] at hca Ha ⊢
  rw [hnb] at hcb Hb ⊢
  clear hna hnb
  by_cases hg : na > 16 ∨ nb > 16
  · have early : ∀ u : World, Below W.heap.size W u → Makes Try.prog 28 #[] u (.bool true) := fun u _ => tlWakes_any u
    obtain ⟨s1, hs1⟩ : ∃ s, decide ((na : Int) > 16) = s := ⟨_, rfl⟩
    obtain ⟨s2, hs2⟩ : ∃ s, decide ((nb : Int) > 16) = s := ⟨_, rfl⟩
    have ht : (s1 || s2) = true := by rw [← hs1, ← hs2]; simp; omega
    go_enter Try.func7, Try.ntmps7
    cases s1 <;> cases s2 <;> first
      | (exact absurd ht (by decide))
      | (clear ht
         go_wp2_with fail
         refine Calls.mono (tlWakes_any _) ?_
         rintro _ w5 ⟨rfl, hb5⟩
         have Hb5 := Lib.hid hb5
         clear hb5
         go_wp2
         go_ret
         exact ⟨rfl, Hb5.out⟩)
  · have hs1 : decide ((na : Int) > 16) = false := by simp; omega
    have hs2 : decide ((nb : Int) > 16) = false := by simp; omega
    go_enter Try.func7, Try.ntmps7
    go_wp2_with fail
    refine Calls.mono (Hsp.out _ a W Ha.out.row Hfa.out (by have := Hna.out; omega)) ?_
    rintro _ w1 ⟨v1, rfl, ho1, hb1⟩
    have hr1 := owns_row' (enc := encR) (k := 4) (fun _ => rfl) ho1
    have Hr1 := Lib.hid hr1
    have Hb1 := Lib.hid hb1
    clear ho1 hb1 hr1
    go_wp2_with fail
    refine Calls.mono (Hsp.out _ (spL pw ph a) w1 Hr1.out (spL_fit pw ph a) (Nat.le_trans (spL_len Hpw.out Hph.out a) (by omega))) ?_
    rw [spL_again Hpw.out Hph.out]
    rintro _ w2 ⟨v2, rfl, ho2, hb2⟩
    have hr2 := owns_row' (enc := encR) (k := 4) (fun _ => rfl) ho2
    obtain ⟨p1, c1, rfl, -, -, hp1⟩ := Hr1.out.below hb2
    obtain ⟨p2, c2, rfl, -, -, hp2⟩ := hr2
    obtain ⟨S, hS⟩ : ∃ S, spL pw ph a = S := ⟨_, rfl⟩
    have hSl : S.length ≤ 65536 := by rw [← hS]; exact spL_len Hpw.out Hph.out a
    rw [hS] at hp1 hp2 ⊢
    have Hp1 := Lib.hid hp1
    have Hp2 := Lib.hid hp2
    have Hb2 := Lib.hid (Below.thn Hb1.out hb2)
    have hne := neq_rc
    clear ho2 hb2 hp1 hp2 Hr1 Hb1 hS
    obtain ⟨n, hn⟩ : ∃ n, S.length = n := ⟨_, rfl⟩
    have Hn := Lib.hid hn
    rw [hn] at hSl ⊢
    clear hn
    go_wp2_with fail
    go_loopw [11] (fun iv wr => ∃ i : Nat, i ≤ n ∧ iv = .int .i64 (i : Int) ∧ Hid (Below w2.heap.size w2 wr)) (fun iv _ => n - (intOf iv).toNat)
    case atStart => exact ⟨0, Nat.zero_le _, rfl, Lib.hid (Below.refl _ _)⟩
    case round =>
      obtain ⟨i, hi, rfl, HB⟩ := hrel
      by_cases hin : i < n
      · have d1 : decide ((i : Int) < (n : Int)) = true := by simp; omega
        have hil : i < S.length := by rw [Hn.out]; exact hin
        obtain ⟨q1, o1, rfl, -, hat1⟩ := (Hp1.out.below HB.out).rc hil
        obtain ⟨q2, o2, rfl, -, hat2⟩ := (Hp2.out.below HB.out).rc hil
        obtain ⟨a0, a1, a2, a3⟩ := hat1 i hil
        obtain ⟨e0, e1, e2, e3⟩ := hat2 i hil
        generalize S[i] = r at *
        have hrr : eqR r r = true := by simp [eqR]
        have i0' : (0 : Int) ≤ (i : Int) := by omega
        have i1' : (i : Int) < (n : Int) := by omega
        clear hat1 hat2 hil
        go_wp2
        go_quiet (fail)
        go_wp2
        go_roundw
        case rel => exact ⟨i + 1, by omega, by go_num, Lib.hid (Below.drewN' HB.out _)⟩
        case measure => simp [intOf]; omega
      · obtain rfl : i = n := by omega
        have d1 : decide ((i : Int) < (i : Int)) = false := by simp
        have HbT := Lib.hid (Below.thn Hb2.out HB.out)
        obtain ⟨pa', ca', ea, -, -, hsa⟩ := RwG.src (enc := encR) (k := 4) (fun _ => rfl) (by decide) (Ha.out.below HbT.out)
        cases ea
        have Hsa := Lib.hid hsa
        clear hsa
        obtain ⟨nf, hj0, hj1, hj2, hj3⟩ := info_parts rc_info
        go_wp2_with (at_builtin; refine wpList_append_mine _ rfl _ _ 57 rfl wr.heap.size 38 nf _ 4 32 Try.underlying57 hj0 hj1 hj2 hj3 rfl (by decide) (.slice none 0 0) 0 [] rfl (World.ownsRow_nil _ _ _ _) pa a.length ca (flatR a) rfl (flatR_len a) Hsa.out (encR_one a) ?c3 ?c4 (Nat.le_refl _) ?_)
        case c3 => have := Hna.out; simp only [maxLen]; omega
        case c4 => have := Hna.out; omega
        intro v4 w4 ho4 hg4 hp4
        have hb4 : Below wr.heap.size wr w4 := (Turns.of_grown (T := fun _ => False) hg4 (fun i e => by cases e)).below (Nat.le_refl _) (fun i h => h.elim)
        have HbR := Lib.hid (Below.thn HbT.out hb4)
        have Ho4 := Lib.hid ho4
        obtain ⟨pb', cb', eb, -, -, hsb⟩ := RwG.src (enc := encR) (k := 4) (fun _ => rfl) (by decide) (Hb.out.below HbR.out)
        cases eb
        have Hsb := Lib.hid hsb
        obtain ⟨p4, c4, rfl⟩ := owns_slice ho4
        have hs4 := hb4.size
        clear hg4 hp4 ho4 hsb hb4
        go_wp2_with (at_builtin; refine wpList_append_mine _ rfl _ _ 57 rfl wr.heap.size 38 nf _ 4 32 Try.underlying57 hj0 hj1 hj2 hj3 rfl (by decide) (.slice p4 a.length c4) a.length (flatR a) rfl Ho4.out pb b.length cb (flatR b) rfl (flatR_len b) Hsb.out (encR_one b) ?c5 ?c6 hs4 ?_)
        case c5 => have := Hna.out; have := Hnb.out; simp only [maxLen]; omega
        case c6 => have := Hna.out; have := Hnb.out; omega
        intro v5 w5 ho5 hg5 hp5
        have ht5 := Turns.of_grown (T := fun i => (Value.slice p4 a.length c4).ownBlock = some i) hg5 (fun _ h => h)
        have HbV := Lib.hid (HbR.out.trans (ht5.below HbR.out.size (fun i h => by have := (Ho4.out.lt _ h).1; have := HbT.out.size; omega)))
        have hr5 : Row encR 4 w5 v5 (a ++ b) := owns_row' (enc := encR) (k := 4) (fun _ => rfl) (e := 38) (base := wr.heap.size) (by
          rw [List.length_append, List.flatMap_append]
          exact ho5)
        have Hr5 := Lib.hid hr5
        obtain ⟨p5, c5, rfl⟩ := owns_slice ho5
        clear ho5 hg5 hp5 ht5 hr5 Ho4 Hsb Hsa hs4
        go_wp2_with fail
        refine Calls.mono (Hto.out _ (a ++ b) w5 Hr5.out (fun r hr => by
          rcases List.mem_append.1 hr with hr | hr
          · exact Hfa.out r hr
          · exact Hfb.out r hr) (by have := Hna.out; have := Hnb.out; rw [List.length_append]; omega)) ?_
        obtain ⟨TB, hTB⟩ : ∃ t, tcL pw ph (a ++ b) = t := ⟨_, rfl⟩
        rw [hTB]
        rintro _ w6 ⟨v6, rfl, ho6, hb6⟩
        have Hr6 := Lib.hid (Row.ownI ho6)
        obtain ⟨p6, c6, rfl⟩ := owns_slice ho6
        have Hb6 := Lib.hid (Below.thn HbV.out hb6)
        clear ho6 hb6
        go_wp2_with fail
        refine Calls.mono (Hto.out _ a w6 (by have := (Ha.out.below Hb6.out).row; exact this) Hfa.out (by have := Hna.out; omega)) ?_
        obtain ⟨X, hX⟩ : ∃ t, tcL pw ph a = t := ⟨_, rfl⟩
        rw [hX]
        rintro _ w7 ⟨v7, rfl, ho7, hb7⟩
        have Hr7 := Lib.hid (Row.ownI ho7)
        obtain ⟨p7, c7, rfl⟩ := owns_slice ho7
        have Hr6' := Lib.hid (Hr6.out.below hb7)
        have Hb7 := Lib.hid (Below.thn Hb6.out hb7)
        clear ho7 hb7 Hr6
        go_wp2_with fail
        refine Calls.mono (Hto.out _ b w7 (by have := (Hb.out.below Hb7.out).row; exact this) Hfb.out (by have := Hnb.out; omega)) ?_
        obtain ⟨Y, hY⟩ : ∃ t, tcL pw ph b = t := ⟨_, rfl⟩
        rw [hY]
        rintro _ w8 ⟨v8, rfl, ho8, hb8⟩
        have hr8 := Row.ownI ho8
        have hr7 := Hr7.out.below hb8
        have hr6 := Hr6'.out.below hb8
        obtain ⟨p8, c8, rfl⟩ := owns_slice ho8
        have Hb8 := Lib.hid (Below.thn Hb7.out hb8)
        have HX : Hid (X = TB.filter (tchB pw ph a)) := Lib.hid (by rw [← hX, ← hTB]; exact tc_left Hpw.out Hph.out a b)
        have HY : Hid (Y = TB.filter (tchB pw ph b)) := Lib.hid (by rw [← hY, ← hTB]; exact tc_right Hpw.out Hph.out a b)
        have H1 : Hid (∀ i ∈ TB, (tchB pw ph a i || tchB pw ph b i) = true) := Lib.hid (by rw [← hTB]; exact fun i hi => tc_one Hpw.out Hph.out a b hi)
        have hl1 : TB.length ≤ 256 := by rw [← hTB]; exact tc_len Hpw.out Hph.out _
        have hl2 : X.length ≤ 256 := by rw [← hX]; exact tc_len Hpw.out Hph.out _
        have hl3 : Y.length ≤ 256 := by rw [← hY]; exact tc_len Hpw.out Hph.out _
        obtain ⟨p6', c6', e6, -, -, hq6⟩ := hr6
        cases e6
        obtain ⟨p7', c7', e7, -, -, hq7⟩ := hr7
        cases e7
        obtain ⟨p8', c8', e8, -, -, hq8⟩ := hr8
        cases e8
        have Hq6 := Lib.hid hq6
        have Hq7 := Lib.hid hq7
        have Hq8 := Lib.hid hq8
        clear ho8 hb8 hTB hX hY hq6 hq7 hq8 Hr6' Hr7
        obtain ⟨nT, hnT⟩ : ∃ n, TB.length = n := ⟨_, rfl⟩
        obtain ⟨nX, hnX⟩ : ∃ n, X.length = n := ⟨_, rfl⟩
        obtain ⟨nY, hnY⟩ : ∃ n, Y.length = n := ⟨_, rfl⟩
        have HnT := Lib.hid hnT
        have HnX := Lib.hid hnX
        have HnY := Lib.hid hnY
        rw [hnT] at hl1 ⊢
        rw [hnX] at hl2 ⊢
        rw [hnY] at hl3 ⊢
        clear hnT hnX hnY
        go_wp2_with fail
        go_loopw [15, 16, 17] (fun xv yv jv w9 => ∃ j : Nat, j ≤ nT ∧ jv = .int .i64 (j : Int) ∧ xv = .int .i64 ((cntA (tchB pw ph a) TB j : Nat) : Int) ∧ yv = .int .i64 ((cntA (tchB pw ph b) TB j : Nat) : Int) ∧ Hid (Below w8.heap.size w8 w9)) (fun _ _ jv _ => nT - (intOf jv).toNat)
        case atStart => exact ⟨0, Nat.zero_le _, rfl, rfl, rfl, Lib.hid (Below.refl _ _)⟩
        case round =>
          obtain ⟨j, hj, rfl, rfl, rfl, HW⟩ := hrel
          have hcx : cntA (tchB pw ph a) TB j ≤ nX := by rw [← HnX.out, HX.out]; exact cntA_le _ _ _
          have hcy : cntA (tchB pw ph b) TB j ≤ nY := by rw [← HnY.out, HY.out]; exact cntA_le _ _ _
          by_cases hjn : j < nT
          · have d1 : decide ((j : Int) < (nT : Int)) = true := by simp; omega
            have hjl : j < TB.length := by rw [HnT.out]; exact hjn
            have hsa := side_of (A := tchB pw ph a) hjl HX.out
            have hsb := side_of (A := tchB pw ph b) hjl HY.out
            have hone := H1.out _ (List.getElem_mem hjl)
            rw [HnX.out] at hsa
            rw [HnY.out] at hsb
            obtain ⟨bT, oT, rfl, hcT⟩ := (Hq6.out.below HW.out).natI hjl
            obtain ⟨t, ht⟩ : ∃ t, TB[j] = t := ⟨_, rfl⟩
            rw [ht] at hsa hsb hone hcT
            obtain ⟨iA, hiA⟩ : ∃ i, cntA (tchB pw ph a) TB j = i := ⟨_, rfl⟩
            obtain ⟨iB, hiB⟩ : ∃ i, cntA (tchB pw ph b) TB j = i := ⟨_, rfl⟩
            obtain ⟨jA, hjA⟩ : ∃ i, cntA (tchB pw ph a) TB (j + 1) = i := ⟨_, rfl⟩
            obtain ⟨jB, hjB⟩ : ∃ i, cntA (tchB pw ph b) TB (j + 1) = i := ⟨_, rfl⟩
            rw [hiA] at hsa hcx ⊢
            rw [hiB] at hsb hcy ⊢
            rw [hjA] at hsa
            rw [hjB] at hsb
            have HjA := Lib.hid hjA
            have HjB := Lib.hid hjB
            clear hiA hiB hjA hjB ht hjl
            have j0 : (0 : Int) ≤ (j : Int) := by omega
            have j1 : (j : Int) < (nT : Int) := by omega
            rcases hsa with ⟨hA, -, eA, cA, lA⟩ | ⟨hA, (lA | ⟨uA, cA, fA, lA⟩), eA⟩ <;> rcases hsb with ⟨hB, -, eB, cB, lB⟩ | ⟨hB, (lB | ⟨uB, cB, fB, lB⟩), eB⟩
            · obtain ⟨bX, oX, rfl, xX⟩ := (Hq7.out.below HW.out).natI' cA
              have dA : decide ((iA : Int) < (nX : Int)) = true := by simp; omega
              obtain ⟨bY, oY, rfl, xY⟩ := (Hq8.out.below HW.out).natI' cB
              have dB : decide ((iB : Int) < (nY : Int)) = true := by simp; omega
              have EA := Lib.hid eA
              have EB := Lib.hid eB
              clear eA eB hA hB hone cA cB
              go_wp2
              go_quiet (fail)
              go_wp2
              go_quiet (fail)
              go_wp2
              go_roundw
              case rel => exact ⟨j + 1, by omega, by go_num, by rw [HjA.out, EA.out]; go_num, by rw [HjB.out, EB.out]; go_num, Lib.hid (Below.drewN' HW.out _)⟩
              case measure => simp [intOf]; omega
            · obtain ⟨bX, oX, rfl, xX⟩ := (Hq7.out.below HW.out).natI' cA
              have dA : decide ((iA : Int) < (nX : Int)) = true := by simp; omega
              obtain rfl : iB = nY := by omega
              have dB : decide ((iB : Int) < (iB : Int)) = false := by simp
              have EA := Lib.hid eA
              have EB := Lib.hid eB
              clear eA eB hA hB hone cA
              go_wp2
              go_quiet (fail)
              go_wp2
              go_quiet (fail)
              go_wp2
              go_roundw
              case rel => exact ⟨j + 1, by omega, by go_num, by rw [HjA.out, EA.out]; go_num, by rw [HjB.out, EB.out], Lib.hid (Below.drewN' HW.out _)⟩
              case measure => simp [intOf]; omega
            · obtain ⟨bX, oX, rfl, xX⟩ := (Hq7.out.below HW.out).natI' cA
              have dA : decide ((iA : Int) < (nX : Int)) = true := by simp; omega
              obtain ⟨bY, oY, rfl, xY⟩ := (Hq8.out.below HW.out).natI' cB
              have dB : decide ((iB : Int) < (nY : Int)) = true := by simp; omega
              have gB : ((uB : Int) == (t : Int)) = false := by simp; omega
              have EA := Lib.hid eA
              have EB := Lib.hid eB
              clear eA eB hA hB hone cA cB fB
              go_wp2
              go_quiet (fail)
              go_wp2
              go_quiet (fail)
              go_wp2
              go_roundw
              case rel => exact ⟨j + 1, by omega, by go_num, by rw [HjA.out, EA.out]; go_num, by rw [HjB.out, EB.out], Lib.hid (Below.drewN' HW.out _)⟩
              case measure => simp [intOf]; omega
            · obtain rfl : iA = nX := by omega
              have dA : decide ((iA : Int) < (iA : Int)) = false := by simp
              obtain ⟨bY, oY, rfl, xY⟩ := (Hq8.out.below HW.out).natI' cB
              have dB : decide ((iB : Int) < (nY : Int)) = true := by simp; omega
              have EA := Lib.hid eA
              have EB := Lib.hid eB
              clear eA eB hA hB hone cB
              go_wp2
              go_quiet (fail)
              go_wp2
              go_quiet (fail)
              go_wp2
              go_roundw
              case rel => exact ⟨j + 1, by omega, by go_num, by rw [HjA.out, EA.out], by rw [HjB.out, EB.out]; go_num, Lib.hid (Below.drewN' HW.out _)⟩
              case measure => simp [intOf]; omega
            · rw [hA, hB] at hone; exact absurd hone (by decide)
            · rw [hA, hB] at hone; exact absurd hone (by decide)
            · obtain ⟨bX, oX, rfl, xX⟩ := (Hq7.out.below HW.out).natI' cA
              have dA : decide ((iA : Int) < (nX : Int)) = true := by simp; omega
              have gA : ((uA : Int) == (t : Int)) = false := by simp; omega
              obtain ⟨bY, oY, rfl, xY⟩ := (Hq8.out.below HW.out).natI' cB
              have dB : decide ((iB : Int) < (nY : Int)) = true := by simp; omega
              have EA := Lib.hid eA
              have EB := Lib.hid eB
              clear eA eB hA hB hone cA cB fA
              go_wp2
              go_quiet (fail)
              go_wp2
              go_quiet (fail)
              go_wp2
              go_roundw
              case rel => exact ⟨j + 1, by omega, by go_num, by rw [HjA.out, EA.out], by rw [HjB.out, EB.out]; go_num, Lib.hid (Below.drewN' HW.out _)⟩
              case measure => simp [intOf]; omega
            · rw [hA, hB] at hone; exact absurd hone (by decide)
            · rw [hA, hB] at hone; exact absurd hone (by decide)
          · obtain rfl : j = nT := by omega
            have d1 : decide ((j : Int) < (j : Int)) = false := by simp
            have hex : cntA (tchB pw ph a) TB j = nX := by rw [← HnX.out, HX.out, ← HnT.out]; exact cntA_all _ _
            have hey : cntA (tchB pw ph b) TB j = nY := by rw [← HnY.out, HY.out, ← HnT.out]; exact cntA_all _ _
            rw [hex, hey]
            clear hcx hcy hex hey
            go_wp2_with fail
            refine Calls.mono (tlWakes_any _) ?_
            rintro _ w10 ⟨rfl, hb10⟩
            have Hb10 := Lib.hid (Below.thn Hb8.out (Below.thn HW.out hb10))
            clear hb10
            go_wp2
            go_ret
            exact ⟨rfl, Hb10.out⟩

end Go.Proofs.Ytjigdgfanpeibaa
