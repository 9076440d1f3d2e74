/- The walk of the statement HuffOrder. -/
import Derived.Test.YtmhggbojnkmlpaaHufT
namespace Go.Proofs.Ytmhggbojnkmlpaa
open Go.RowKit

theorem int_info : (Try.prog.info? 3).map (fun i => (i.zero, i.size, i.bytes)) = some (some (.int .i64 0), 1, 8) := by kernel_rfl

theorem own_ints {W : World} {base : Nat} {v : Value} {n : Nat} {fs : List Int} (h : W.ownsRow base 3 1 v n (fs.map (Value.int .i64))) (hn : n = fs.length) : Row encZ 1 W v fs := by
  subst hn
  rw [← flatZ] at h
  exact owns_row' encZ_len h

/-- Twice each. -/
def dbl (fs : List Int) : List Int := fs.map (2 * ·)

theorem fq_dbl {fs : List Int} {i : Nat} (hi : i < fs.length) : fq (dbl fs) i = 2 * fq fs i := by
  unfold fq dbl
  simp only [List.getD_eq_getElem?_getD, List.getElem?_map, List.getElem?_eq_getElem hi, Option.map_some, Option.getD_some]
  omega

def okH (f : Int) : Bool := decide (0 ≤ f ∧ f ≤ 549755813888)

theorem may_dbl {fs : List Int} (h : fs.all okH = true) (limit : Int) : mayB (dbl fs) limit = mayB fs limit := by
  have e1 : (dbl fs).all okF = true := by
    rw [List.all_eq_true]
    intro x hx
    obtain ⟨y, hy, rfl⟩ := List.mem_map.1 hx
    have := of_decide_eq_true (List.all_eq_true.1 h y hy)
    unfold okF
    exact decide_eq_true (by omega)
  have e2 : fs.all okF = true := by
    rw [List.all_eq_true]
    intro y hy
    have := of_decide_eq_true (List.all_eq_true.1 h y hy)
    unfold okF
    exact decide_eq_true (by omega)
  unfold mayB
  rw [e1, e2]
  simp [dbl]

theorem err_dbl {fs : List Int} (h : fs.all okH = true) (limit : Int) : lErr (dbl fs) limit = lErr fs limit := by
  have hm : many (dbl fs).length (fq (dbl fs)) = many fs.length (fq fs) := by
    rw [show (dbl fs).length = fs.length by simp [dbl]]
    exact many_dbl (fun i hi => fq_dbl hi)
  unfold lErr
  rw [may_dbl h, hm]
theorem len_dbl {fs : List Int} (h : fs.all okH = true) (limit : Int) : lLen (dbl fs) limit = lLen fs limit := by
  unfold lLen
  rw [err_dbl h]; simp [dbl]

/-- The rows that the statement's last loops read. -/
structure OrdAt (fs : List Int) (g g2 : Nat → Nat) (n : Nat) (pf pl pm pt : Option Addr) (w : World) : Prop where
  f : ∀ i, i < n → ∃ b off, pf = some ⟨b, off, none⟩ ∧ w.cell? ⟨b, off + i, none⟩ = some (.int .i64 ((fq fs i : Nat) : Int))
  l : ∀ i, i < n → ∃ b, pl = some ⟨b, 0, none⟩ ∧ w.cell? ⟨b, i, none⟩ = some (.int .u8 ((g i : Nat) : Int))
  m : ∀ i, i < n → ∃ b, pm = some ⟨b, 0, none⟩ ∧ w.cell? ⟨b, i, none⟩ = some (.int .u8 ((g2 i : Nat) : Int))
  t : ∀ i, i < n → ∃ b off, pt = some ⟨b, off, none⟩ ∧ w.cell? ⟨b, off + i, none⟩ = some (.int .i64 ((2 * fq fs i : Nat) : Int))

theorem OrdAt.below {fs : List Int} {g g2 : Nat → Nat} {n : Nat} {pf pl pm pt : Option Addr} {w w' : World} (h : OrdAt fs g g2 n pf pl pm pt w) (hb : Below w.heap.size w w') : OrdAt fs g g2 n pf pl pm pt w' := by
  refine ⟨fun i hi => ?_, fun i hi => ?_, fun i hi => ?_, fun i hi => ?_⟩
  · obtain ⟨b, off, e, hc⟩ := h.f i hi
    exact ⟨b, off, e, cell_later hb hc⟩
  · obtain ⟨b, e, hc⟩ := h.l i hi
    exact ⟨b, e, cell_later hb hc⟩
  · obtain ⟨b, e, hc⟩ := h.m i hi
    exact ⟨b, e, cell_later hb hc⟩
  · obtain ⟨b, off, e, hc⟩ := h.t i hi
    exact ⟨b, off, e, cell_later hb hc⟩

theorem lens_cells {w : World} {base n : Nat} {p : Option Addr} {c : Nat} {g : Nat → Nat} (h : w.ownsRow base 5 1 (.slice p n c) n (lensRow g n)) : ∀ i, i < n → ∃ b, p = some ⟨b, 0, none⟩ ∧ w.cell? ⟨b, i, none⟩ = some (.int .u8 ((g i : Nat) : Int)) := fun i hi => by
  obtain ⟨b, c', e, -, -, hc⟩ := owns_ptr h (by omega)
  injection e with e1 _ _
  exact ⟨b, e1, hc i _ (by rw [lensRow_at _ hi]; rfl)⟩

theorem okH_all {fs : List Int} (h : fs.all okH = true) {i : Nat} (hi : i < fs.length) : fs[i] = ((fq fs i : Nat) : Int) ∧ fq fs i ≤ 549755813888 := by
  have h1 := of_decide_eq_true (List.all_eq_true.1 h fs[i] (List.getElem_mem hi))
  have h2 := fq_at hi h1.1
  exact ⟨h2, by omega⟩

theorem pre_cost (f g : Nat → Nat) (F G : Nat) : ∀ k, (∀ i, i < k → f i ≤ F ∧ g i ≤ G) → sm k (fun i => f i * g i) ≤ k * (F * G)
  | 0, _ => Nat.zero_le _
  | k + 1, h => by
    have h1 := pre_cost f g F G k (fun i hi => h i (by omega))
    obtain ⟨h2, h3⟩ := h k (by omega)
    have h4 := Nat.mul_le_mul h2 h3
    simp only [sm]
    rw [Nat.add_mul]; omega

set_option maxRecDepth 20000 in
set_option maxHeartbeats 4000000 in
theorem horder_any (fs : List Int) (v : Value) (limit : Int) (w : World) (hv : Row encZ 1 w v fs) :
    Makes Try.prog 10 #[v, .int .i64 limit] w (.bool true) := by
  have hlen := hv.len
  have Hv := Lib.hid hv
  obtain ⟨p, c, rfl, -, -, hrow⟩ := hv
  have Hrow := Lib.hid hrow
  clear hrow
  unfold Makes
  by_cases h60 : 60 < fs.length
  · have e0 : (60 : Int) < fs.length := by omega
    go_enter Try.func10, Try.ntmps10
    go_wp2
    go_ret
    exact ⟨rfl, Below.refl _ _⟩
  · have e0 : ¬ (60 : Int) < fs.length := by omega
    go_enter Try.func10, Try.ntmps10
    go_wp2
    go_loopw [5, 6] (fun tv kv wr => ∃ (k : Nat), kv = .int .i64 (k : Int) ∧ k ≤ fs.length ∧ Hid ((fs.take k).all okH = true ∧ wr.ownsRow w.heap.size 3 1 tv k ((dbl (fs.take k)).map (Value.int .i64)) ∧ Below w.heap.size w wr)) (fun _ kv _ => fs.length - (intOf kv).toNat)
    case atStart => exact ⟨0, rfl, Nat.zero_le _, Lib.hid ⟨by simp, World.ownsRow_nil _ _ _ _, Below.refl _ _⟩⟩
    case round =>
      obtain ⟨k, rfl, hk, HI⟩ := hrel
      obtain ⟨p2, c2, rfl⟩ := owns_slice HI.out.2.1
      by_cases hlt : k < fs.length
      · obtain ⟨g, off, rfl, hcell⟩ := Hrow.out.int hlt
        have hx := cell_later HI.out.2.2 hcell
        obtain ⟨x, hxx⟩ : ∃ x, fs[k] = x := ⟨_, rfl⟩
        rw [hxx] at hx
        have Hxx := Lib.hid hxx
        have k0 : (0 : Int) ≤ (k : Int) := by omega
        have k1 : (k : Int) < (fs.length : Int) := by omega
        clear hcell hxx
        by_cases hx0 : x < 0
        · go_wp2_with fail
          refine Calls.mono (codes_law wr) ?_
          rintro e w1 ⟨rfl, hb1⟩
          have Hb1 := Lib.hid (Below.thn HI.out.2.2 hb1)
          clear hb1
          go_wp2
          go_ret
          exact ⟨rfl, Hb1.out⟩
        · by_cases hx1 : 549755813888 < x
          · go_wp2_with fail
            refine Calls.mono (codes_law wr) ?_
            rintro e w1 ⟨rfl, hb1⟩
            have Hb1 := Lib.hid (Below.thn HI.out.2.2 hb1)
            clear hb1
            go_wp2
            go_ret
            exact ⟨rfl, Hb1.out⟩
          · have hs := HI.out.2.2.size
            have htk : fs.take (k + 1) = fs.take k ++ [x] := by
              rw [List.take_succ_eq_append_getElem hlt, Hxx.out]
            have Htk := Lib.hid htk
            clear htk
            go_wp2_with (at_builtin; refine wpList_append_one wr rfl (.tmp 37) (.tmp 43) 22 rfl w.heap.size 3 _ 8 int_info Try.underlying22 rfl (.slice p2 k c2) k ((dbl (fs.take k)).map (Value.int .i64)) rfl HI.out.2.1 (.int .i64 (2 * x)) _ rfl rfl ?n3 ?n4 hs ?_)
            case n3 => simp only [maxLen]; omega
            case n4 => omega
            intro g5 cap5 w5 hown5 ht5 hpl5
            have HI5 : Hid ((fs.take (k + 1)).all okH = true ∧ w5.ownsRow w.heap.size 3 1 (.slice (some ⟨g5, 0, none⟩) (k + 1) cap5) (k + 1) ((dbl (fs.take (k + 1))).map (Value.int .i64)) ∧ Below w.heap.size w w5) := Lib.hid (by
              refine ⟨?_, ?_, HI.out.2.2.trans (ht5.below hs (fun i e => (HI.out.2.1.lt i e).1))⟩
              · rw [Htk.out, List.all_append, HI.out.1]
                have : okH x = true := decide_eq_true (by omega)
                simp [this]
              · rw [Htk.out]
                unfold dbl at hown5 ⊢
                rw [List.map_append, List.map_append]
                exact hown5)
            clear hown5 ht5 hpl5 hs
            go_wp2
            go_roundw
            case rel => exact ⟨k + 1, by go_num, by omega, HI5⟩
            case measure => simp [intOf]; omega
      · obtain rfl : k = fs.length := by omega
        have hall := HI.out.1
        have hown := HI.out.2.1
        rw [List.take_length] at hall hown
        have Hall := Lib.hid hall
        have hrow2 := own_ints hown (by simp [dbl])
        have Hrow2 := Lib.hid hrow2
        have Hb := Lib.hid HI.out.2.2
        have Hv1 := Lib.hid (Hv.out.below HI.out.2.2)
        clear hall hown hrow2 HI
        go_wp2_with fail
        refine Calls.mono (lengths_all fs _ limit wr Hv1.out) ?_
        rintro e w1 ⟨v1, g, rfl, ho1, hok1, hb1⟩
        have Ho1 := Lib.hid (And.intro ho1 (And.intro hok1 hb1))
        have Hb1 := Lib.hid (Below.thn Hb.out hb1)
        have Hrow21 := Lib.hid (Hrow2.out.below hb1)
        obtain ⟨q1, d1, rfl⟩ := owns_slice ho1
        clear ho1 hok1 hb1 Hrow2
        go_wp2_with fail
        refine Calls.mono (lengths_all (dbl fs) _ limit w1 Hrow21.out) ?_
        rintro e w2 ⟨v2, g2, rfl, ho2, hok2, hb2⟩
        rw [len_dbl Hall.out] at ho2
        rw [err_dbl Hall.out] at hok2
        rw [err_dbl Hall.out]
        obtain ⟨q2, d2, rfl⟩ := owns_slice ho2
        have hnl : lLen fs limit ≤ fs.length := by unfold lLen; split <;> omega
        have Hat : Hid (OrdAt fs g g2 (lLen fs limit) p q1 q2 p2 w2) := Lib.hid (by
          have hb12 : Below wr.heap.size wr w2 := Below.thn Ho1.out.2.2 hb2
          obtain ⟨pf', cf', e', _, _, hf⟩ := Hv1.out.below hb12
          cases e'
          obtain ⟨pt', ct', e', _, _, ht⟩ := Hrow21.out.below hb2
          rw [show (dbl fs).length = fs.length by simp [dbl]] at e'
          cases e'
          have hl := (Turns.of_below' (T := fun _ => False) hb2).owns Ho1.out.1 (fun _ _ h => h)
          refine ⟨fun i hi => ?_, lens_cells hl, lens_cells ho2, fun i hi => ?_⟩
          · obtain ⟨b, off, e, hc⟩ := hf.int (k := i) (by omega)
            rw [(okH_all Hall.out (i := i) (by omega)).1] at hc
            exact ⟨b, off, e, hc⟩
          · obtain ⟨b, off, e, hc⟩ := ht.int (k := i) (by simp [dbl]; omega)
            refine ⟨b, off, e, hc.trans ?_⟩
            have e5 : (dbl fs)[i]'(by simp [dbl]; omega) = ((2 * fq fs i : Nat) : Int) := by
              simp only [dbl, List.getElem_map]
              rw [(okH_all Hall.out (i := i) (by omega)).1]; omega
            rw [e5])
        have Hmath : Hid (∀ i, i < lLen fs limit → fq fs i ≤ 549755813888 ∧ g i ≤ 15 ∧ g2 i ≤ 15 ∧ ∀ k, k < lLen fs limit → 0 < fq fs k → fq fs k < fq fs i → g i ≤ g k) := Lib.hid (fun i hi => by
          have h0 : lErr fs limit = 0 := by
            rcases Decidable.em (lErr fs limit = 0) with h | h
            · exact h
            · exfalso; unfold lLen at hi; rw [if_neg h] at hi; omega
          have hL : limit.toNat ≤ 15 := by
            have hmb : mayB fs limit = true := by
              unfold lErr at h0
              split at h0
              · cases h0
              · rename_i h; simpa using h
            unfold mayB at hmb
            rw [Bool.and_eq_true, decide_eq_true_iff] at hmb
            omega
          have k1 := (Ho1.out.2.1 h0).le i (by omega)
          have k2 := (hok2 h0).le i (by simp [dbl]; omega)
          refine ⟨(okH_all Hall.out (by omega)).2, by omega, by omega, fun k hk h1 h2 => (Ho1.out.2.1 h0).order (by omega) (by omega) h1 h2⟩)
        have Hcost : Hid (sm (lLen fs limit) (fun i => (2 * fq fs i) * g2 i) = 2 * sm (lLen fs limit) (fun i => fq fs i * g i)) := Lib.hid (by
          by_cases h0 : lErr fs limit = 0
          · have e : lLen fs limit = fs.length := by unfold lLen; rw [if_pos h0]
            rw [e]
            have h5 := (Ho1.out.2.1 h0).twice (hok2 h0) (by simp [dbl]) (fun i hi => fq_dbl hi)
            unfold cost at h5
            rw [show (dbl fs).length = fs.length by simp [dbl]] at h5
            rw [← h5]
            exact sm_congr fun i hi => by rw [fq_dbl hi]
          · have e : lLen fs limit = 0 := by unfold lLen; rw [if_neg h0]
            rw [e]; rfl)
        have Hb2 := Lib.hid (Below.thn Hb1.out hb2)
        obtain ⟨r, hr⟩ : ∃ r, lErr fs limit = r := ⟨_, rfl⟩
        obtain ⟨n, hn⟩ : ∃ n, lLen fs limit = n := ⟨_, rfl⟩
        rw [hn] at hnl Hat Hmath Hcost ⊢
        rw [hr]
        have hrr : (r != r) = false := by simp
        clear ho2 hok2 hb2 Ho1 Hrow21 Hv1 Hb Hb1 hr hn Hrow Hv
        have hn60 : n ≤ 60 := by omega
        go_wp2
        go_loopw [11, 12, 13] (fun av bv iv wi => ∃ (i a b : Nat), av = .int .i64 (a : Int) ∧ bv = .int .i64 (b : Int) ∧ iv = .int .i64 (i : Int) ∧ i ≤ n ∧ a ≤ 1152921504606846976 ∧ b ≤ 1152921504606846976 ∧ Hid (a = sm i (fun i => fq fs i * g i)) ∧ Hid (b = sm i (fun i => (2 * fq fs i) * g2 i)) ∧ Hid (OrdAt fs g g2 n p q1 q2 p2 wi) ∧ Hid (Below w.heap.size w wi)) (fun _ _ iv _ => n - (intOf iv).toNat)
        case atStart => exact ⟨0, 0, 0, rfl, rfl, rfl, Nat.zero_le _, by omega, by omega, Lib.hid rfl, Lib.hid rfl, Hat, Hb2⟩
        case round =>
          obtain ⟨i, a, b, rfl, rfl, rfl, hi, ha, hb, Ha, Hbb, HO, HB⟩ := hrel
          by_cases hin : i < n
          · obtain ⟨bf, of, ef, cf⟩ := HO.out.f i hin
            obtain ⟨bl, el, cl⟩ := HO.out.l i hin
            obtain ⟨bm, em, cm⟩ := HO.out.m i hin
            obtain ⟨bt, ot, et, ct⟩ := HO.out.t i hin
            subst ef el em et
            obtain ⟨m1, m2, m3, -⟩ := Hmath.out i hin
            have Hxi := Lib.hid (rfl : fq fs i = fq fs i)
            obtain ⟨x, hx⟩ : ∃ x, fq fs i = x := ⟨_, rfl⟩
            obtain ⟨y, hy⟩ : ∃ y, g i = y := ⟨_, rfl⟩
            obtain ⟨z, hz⟩ : ∃ z, g2 i = z := ⟨_, rfl⟩
            obtain ⟨t, ht⟩ : ∃ t, 2 * x = t := ⟨_, rfl⟩
            rw [hx] at cf ct m1
            rw [ht] at ct
            rw [hy] at cl m2
            rw [hz] at cm m3
            obtain ⟨u, hu⟩ : ∃ u, x * y = u := ⟨_, rfl⟩
            obtain ⟨v, hv⟩ : ∃ v, t * z = v := ⟨_, rfl⟩
            have hui : (x : Int) * (y : Int) = (u : Int) := by rw [← hu]; simp
            have hvi : (t : Int) * (z : Int) = (v : Int) := by rw [← hv]; simp
            have hub : u ≤ 549755813888 * 15 := by rw [← hu]; exact Nat.mul_le_mul m1 m2
            have hvb : v ≤ 1099511627776 * 15 := by rw [← hv]; exact Nat.mul_le_mul (by omega) m3
            have Hxy := Lib.hid (And.intro hx (And.intro hy (And.intro hz (And.intro ht (And.intro hu hv)))))
            have Ha1 : Hid (a + u = sm (i + 1) (fun i => fq fs i * g i)) := Lib.hid (by rw [sm, ← Ha.out, hx, hy, hu])
            have Hb1 : Hid (b + v = sm (i + 1) (fun i => (2 * fq fs i) * g2 i)) := Lib.hid (by rw [sm, ← Hbb.out, hx, hz, ht, hv])
            have hab : a + u ≤ 1152921504606846976 := by
              rw [Ha1.out]
              have h5 := pre_cost (fq fs) g 549755813888 15 (i + 1) (fun j hj => ⟨(Hmath.out j (by omega)).1, (Hmath.out j (by omega)).2.1⟩)
              have h6 : (i + 1) * (549755813888 * 15) ≤ 60 * (549755813888 * 15) := Nat.mul_le_mul_right _ (by omega)
              omega
            have hbb : b + v ≤ 1152921504606846976 := by
              rw [Hb1.out]
              have h5 := pre_cost (fun i => 2 * fq fs i) g2 1099511627776 15 (i + 1) (fun j hj => ⟨by have := (Hmath.out j (by omega)).1; show 2 * fq fs j ≤ _; omega, (Hmath.out j (by omega)).2.2.1⟩)
              have h6 : (i + 1) * (1099511627776 * 15) ≤ 60 * (1099511627776 * 15) := Nat.mul_le_mul_right _ (by omega)
              have h7 : sm (i + 1) (fun i => (2 * fq fs i) * g2 i) ≤ (i + 1) * (1099511627776 * 15) := h5
              omega
            have k0 : (0 : Int) ≤ (i : Int) := by omega
            have k1 : (i : Int) < (n : Int) := by omega
            have k2 : (i : Int) < (fs.length : Int) := by omega
            have d0 : decide (i < n) = true := by simpa using hin
            clear hx hy hz ht hu hv Ha Hbb
            go_wp2
            go_quiet (fail)
            have hb3 : Below wr.heap.size wr (wr.drewN nq) := Below.drewN' (Below.refl _ _) nq
            have cm3 : (wr.drewN nq).cell? _ = _ := cm
            have ct3 : (wr.drewN nq).cell? _ = _ := ct
            clear cf cl cm ct
            generalize wr.drewN nq = w3 at *
            have HO3 := Lib.hid (HO.out.below hb3)
            have HB3 := Lib.hid (Below.thn HB.out hb3)
            clear hb3 HO HB
            go_wp2
            go_quiet (fail)
            have hb4 : Below w3.heap.size w3 (w3.drewN nq) := Below.drewN' (Below.refl _ _) nq
            clear cm3 ct3
            generalize w3.drewN nq = w4 at *
            have HO4 := Lib.hid (HO3.out.below hb4)
            have HB4 := Lib.hid (Below.thn HB3.out hb4)
            clear hb4 HO3 HB3
            go_wp2
            go_loopw [14] (fun kv wk => ∃ (k : Nat), kv = .int .i64 (k : Int) ∧ k ≤ n ∧ Hid (OrdAt fs g g2 n (some ⟨bf, of, none⟩) (some ⟨bl, 0, none⟩) (some ⟨bm, 0, none⟩) (some ⟨bt, ot, none⟩) wk) ∧ Hid (Below w.heap.size w wk)) (fun kv _ => n - (intOf kv).toNat)
            case atStart => exact ⟨0, rfl, Nat.zero_le _, HO4, HB4⟩
            case round =>
              obtain ⟨k, rfl, hk, HOk, HBk⟩ := hrel
              by_cases hkn : k < n
              · obtain ⟨b1, o1, e1, c1⟩ := HOk.out.f i hin
                obtain ⟨b2, e2, c2⟩ := HOk.out.l i hin
                obtain ⟨b3, o3, e3, c3⟩ := HOk.out.f k hkn
                obtain ⟨b4, e4, c4⟩ := HOk.out.l k hkn
                cases e1
                cases e2
                cases e3
                cases e4
                obtain ⟨x1, hx1⟩ : ∃ x, fq fs i = x := ⟨_, rfl⟩
                obtain ⟨y1, hy1⟩ : ∃ y, g i = y := ⟨_, rfl⟩
                obtain ⟨x2, hx2⟩ : ∃ x, fq fs k = x := ⟨_, rfl⟩
                obtain ⟨y2, hy2⟩ : ∃ y, g k = y := ⟨_, rfl⟩
                have hord := (Hmath.out i hin).2.2.2 k hkn
                rw [hx1, hx2, hy1, hy2] at hord
                rw [hx1] at c1
                rw [hy1] at c2
                rw [hx2] at c3
                rw [hy2] at c4
                have j0 : (0 : Int) ≤ (k : Int) := by omega
                have j1 : (k : Int) < (n : Int) := by omega
                have j2 : (k : Int) < (fs.length : Int) := by omega
                have d1 : decide (k < n) = true := by simpa using hkn
                clear hx1 hy1 hx2 hy2
                have hne : ¬ (x2 < x1 ∧ 0 < x2 ∧ y2 < y1) := fun h => by have := hord h.2.1 h.1; omega
                clear hord
                by_cases hA : x2 < x1
                · have a1 : decide (x2 < x1) = true := by simpa using hA
                  by_cases hB : 0 < x2
                  · have a2 : decide (0 < x2) = true := by simpa using hB
                    have a3 : decide (y2 < y1) = false := by simp; omega
                    clear hne hA hB
                    go_wp2
                    go_quiet (fail)
                    have hb5 : Below wr.heap.size wr (wr.drewN nq) := Below.drewN' (Below.refl _ _) nq
                    have HO5 := Lib.hid (HOk.out.below hb5)
                    have HB5 := Lib.hid (Below.thn HBk.out hb5)
                    clear c1 c2 c3 c4 hb5
                    go_wp2
                    go_roundw
                    case rel => exact ⟨k + 1, by go_num, by omega, HO5, HB5⟩
                    case measure => simp [intOf]; omega
                  · have a2 : decide (0 < x2) = false := by simpa using hB
                    clear hne hA hB
                    go_wp2
                    go_quiet (fail)
                    have hb5 : Below wr.heap.size wr (wr.drewN nq) := Below.drewN' (Below.refl _ _) nq
                    have HO5 := Lib.hid (HOk.out.below hb5)
                    have HB5 := Lib.hid (Below.thn HBk.out hb5)
                    clear c1 c2 c3 c4 hb5
                    go_wp2
                    go_roundw
                    case rel => exact ⟨k + 1, by go_num, by omega, HO5, HB5⟩
                    case measure => simp [intOf]; omega
                · have a1 : decide (x2 < x1) = false := by simpa using hA
                  clear hne hA
                  go_wp2
                  go_quiet (fail)
                  have hb5 : Below wr.heap.size wr (wr.drewN nq) := Below.drewN' (Below.refl _ _) nq
                  have HO5 := Lib.hid (HOk.out.below hb5)
                  have HB5 := Lib.hid (Below.thn HBk.out hb5)
                  clear c1 c2 c3 c4 hb5
                  go_wp2
                  go_roundw
                  case rel => exact ⟨k + 1, by go_num, by omega, HO5, HB5⟩
                  case measure => simp [intOf]; omega
              · obtain rfl : k = n := by omega
                have d1 : decide (k < k) = false := by simp
                go_wp2
                go_roundw
                case rel => exact ⟨i + 1, a + u, b + v, by go_num, by go_num, by go_num, by omega, hab, hbb, Ha1, Hb1, HOk, HBk⟩
                case measure => simp [intOf]; omega
          · obtain rfl : i = n := by omega
            have d0 : decide (i < i) = false := by simp
            have hab : ((b : Int) == 2 * (a : Int)) = true := by
              have h1 := Ha.out
              have h2 := Hbb.out
              have h3 := Hcost.out
              rw [← h1, ← h2] at h3
              rw [h3]; simp
            clear Ha Hbb Hcost
            go_wp2_with fail
            refine Calls.mono (codes_law wr) ?_
            rintro e w9 ⟨rfl, hb9⟩
            have Hb9 := Lib.hid (Below.thn HB.out hb9)
            clear hb9
            go_wp2
            go_ret
            exact ⟨rfl, Hb9.out⟩

end Go.Proofs.Ytmhggbojnkmlpaa
