/- The walk of the document's Of. -/
import Derived.Test.YtajoipmchgabfaaGreatT42
import Derived.Test.YtajoipmchgabfaaGreatT28
import Derived.Test.YtajoipmchgabfaaGreatT31
import Derived.Test.YtajoipmchgabfaaGreatT43
import Derived.Deep.RegionLaw
import Derived.Deep.AppendLies
import Derived.Deep.DeepCutAuto
import Derived.BigQuiet
namespace Go.Proofs.YtajoipmchgabfaaGreat
open Go.RowKit

theorem ints_at {W : World} {base n c : Nat} {p : Option Addr} {C : List Int} (h : W.ownsRow base 3 1 (.slice p n c) n (intsV C)) {i : Nat} (hi : i < C.length) : ∃ g, p = some ⟨g, 0, none⟩ ∧ ∀ W', Below W.heap.size W W' → ∀ k (hk : k < C.length), W'.cell? ⟨g, k, none⟩ = some (.int .i64 C[k]) := by
  have hl := h.1
  rcases h.2 with ⟨h1, h2⟩ | ⟨g, cap, cur, he, hb, hg, hn, hm, hs, ht⟩
  · cases h1
    simp [intsV] at hl
    subst hl
    simp at hi
  · cases he
    refine ⟨g, rfl, fun W' hW k hk => ?_⟩
    have h2 := h.cells (g := g) rfl k (.int .i64 C[k]) (by simp [intsV, hk])
    rw [Addr.add_lit, Nat.zero_add] at h2
    exact cell_later hW h2

theorem colsR_start (F : Int → Bool) (y h : Int) (X : List Int) (hX : 0 < X.length) : colsO F y h [] (X[0]'hX) (X.drop (0 + 1)) = colsR F y h X := by
  cases X with
  | nil => simp at hX
  | cons x ks => rfl

set_option maxRecDepth 100000 in
set_option maxHeartbeats 40000000 in
theorem ofSpec : OfSpec := by
  intro va vb a b how w ha hb hfa hfb hla hlb
  have HA := Lib.hid ha
  have HB := Lib.hid hb
  go_enter Tryz.func23, Tryz.ntmps23
  go_wp2_with fail
  refine Calls.mono (redges_two false va vb a b w w HA.out HB.out hla hlb (Below.refl _ _)) ?_
  rintro e w1 ⟨u, rfl, -, hb1, -, hnext⟩
  go_wp2_with fail
  refine Calls.mono hnext ?_
  rintro e w2 ⟨ux, rfl, hox, hb2, hpx⟩
  have Hox := Lib.hid hox
  have Hb2 := Lib.hid hb2
  have Hpx := Lib.hid hpx
  clear hnext hb1 hox hb2 hpx
  go_wp2_with fail
  refine Calls.mono (redges_two true va vb a b w w2 HA.out HB.out hla hlb Hb2.out) ?_
  rintro e w3 ⟨u3, rfl, -, hb3, hp3, hnext⟩
  go_wp2_with fail
  refine Calls.mono hnext ?_
  rintro e w4 ⟨uy, rfl, hoy, hb4, hpy⟩
  have hox4 := (Turns.of_below' (T := fun _ => False) hb4).owns Hox.out (fun _ _ h => h)
  have Hb04 := Lib.hid (Hb2.out.trans (hb4.mono Hb2.out.size))
  have Hox4 := Lib.hid hox4
  have Hoy4 := Lib.hid hoy
  have Hap := Lib.hid (show ∀ q, ux.ownBlock = some q → uy.ownBlock ≠ some q from fun q h1 h2 => by
    have e1 := hpy q h2
    have e2 := (Hox.out.lt q h1).2
    omega)
  clear hnext hb3 hb4 hp3 hox4 hoy hpy Hox
  obtain ⟨X, hX⟩ : ∃ X, edgesI false b (edgesI false a []) = X := ⟨_, rfl⟩
  obtain ⟨Y, hY⟩ : ∃ Y, edgesI true b (edgesI true a []) = Y := ⟨_, rfl⟩
  have hXs : X.Pairwise (· < ·) := by rw [← hX]; exact edgesI_rises (edgesI_rises (by simp))
  have hYs : Y.Pairwise (· < ·) := by rw [← hY]; exact edgesI_rises (edgesI_rises (by simp))
  have hXm : ∀ r, r ∈ a ∨ r ∈ b → emptyR r = false → r.x ∈ X ∧ r.x + r.a ∈ X := fun r hr e => by
    rw [← hX]
    constructor
    · rw [edgesI_mem, edgesI_mem]
      rcases hr with hr | hr
      · exact .inl (.inr ⟨r, hr, e, .inl rfl⟩)
      · exact .inr ⟨r, hr, e, .inl rfl⟩
    · rw [edgesI_mem, edgesI_mem]
      rcases hr with hr | hr
      · exact .inl (.inr ⟨r, hr, e, .inr rfl⟩)
      · exact .inr ⟨r, hr, e, .inr rfl⟩
  have hYm : ∀ r, r ∈ a ∨ r ∈ b → emptyR r = false → r.y ∈ Y ∧ r.y + r.b ∈ Y := fun r hr e => by
    rw [← hY]
    constructor
    · rw [edgesI_mem, edgesI_mem]
      rcases hr with hr | hr
      · exact .inl (.inr ⟨r, hr, e, .inl rfl⟩)
      · exact .inr ⟨r, hr, e, .inl rfl⟩
    · rw [edgesI_mem, edgesI_mem]
      rcases hr with hr | hr
      · exact .inl (.inr ⟨r, hr, e, .inr rfl⟩)
      · exact .inr ⟨r, hr, e, .inr rfl⟩
  have hXl : X.length ≤ 96 := by
    have h1 := edgesI_len false b (edgesI false a [])
    have h2 := edgesI_len false a []
    rw [hX] at h1
    simp at h2
    omega
  have hYl : Y.length ≤ 96 := by
    have h1 := edgesI_len true b (edgesI true a [])
    have h2 := edgesI_len true a []
    rw [hY] at h1
    simp at h2
    omega
  have HXb := Lib.hid (show ∀ x ∈ X, -1048576 ≤ x ∧ x ≤ 1048576 from fun x hx => by rw [← hX] at hx; exact edgesI_bound hx)
  have HYb := Lib.hid (show ∀ x ∈ Y, -1048576 ≤ x ∧ x ≤ 1048576 from fun x hx => by rw [← hY] at hx; exact edgesI_bound hx)
  rw [hX] at Hox4
  rw [hY] at Hoy4
  have HX := Lib.hid (And.intro hXs hXm)
  have HY := Lib.hid (And.intro hYs hYm)
  clear hX hY hXs hYs hXm hYm hfa hfb ha hb
  obtain ⟨px, cx, rfl⟩ := owns_slice Hox4.out
  obtain ⟨py, cy, rfl⟩ := owns_slice Hoy4.out
  go_wp2_with fail
  have Hxl := Lib.hid hXl
  have Hyl := Lib.hid hYl
  go_loopw [9, 10, 11] (fun ov lv jv wr => ∃ (j : Nat) (s : List Rc × List Rc), jv = .int .i64 j ∧ j ≤ Y.length - 1 ∧ wr.ownsRow w.heap.size 37 4 ov s.1.length (flatR s.1) ∧ wr.ownsRow w.heap.size 37 4 lv s.2.length (flatR s.2) ∧
      Hid ((∀ q, ov.ownBlock = some q → w4.heap.size ≤ q) ∧ (∀ q, lv.ownBlock = some q → w4.heap.size ≤ q) ∧ (∀ q, ov.ownBlock = some q → lv.ownBlock ≠ some q)) ∧ Hid (s.1.length + s.2.length ≤ j * 96) ∧
      Hid (∀ (h : j < Y.length), docR (howF how) a b X s Y[j] (Y.drop (j + 1)) = docR (howF how) a b X ([], []) (Y[0]'(by omega)) (Y.drop 1)) ∧ Hid (Below w4.heap.size w4 wr) ∧ Hid (∀ r ∈ s.2, YB r)) (fun _ _ jv _ => Y.length - (intOf jv).toNat)
  case atStart =>
    exact ⟨0, ([], []), rfl, Nat.zero_le _, World.ownsRow_nil _ _ _ _, World.ownsRow_nil _ _ _ _, (show Hid _ from ⟨fun q h => (by cases h), fun q h => (by cases h), fun q h => (by cases h)⟩), (show Hid _ from Nat.zero_le _), (show Hid _ from fun h => rfl), Lib.hid (Below.refl _ _), (show Hid _ from fun r hr => (by cases hr))⟩
  case round =>
    obtain ⟨j, s, rfl, hj, ho, hl, Hbl, Hln, Hdoc, Hb, Hys⟩ := hrel
    by_cases hlt : j + 1 < Y.length
    · have hltB : decide ((j : Int) + 1 < (Y.length : Int)) = true := by simp; omega
      have Ho := Lib.hid ho
      have Hl := Lib.hid hl
      clear ho hl
      go_wp2
      obtain ⟨gy, rfl, hcy⟩ := ints_at Hoy4.out (show j < Y.length by omega)
      have Hcy := Lib.hid hcy
      clear hcy
      obtain ⟨wo, rfl⟩ : ∃ wo : World, wo = wr := ⟨_, rfl⟩
      obtain ⟨F, hF⟩ : ∃ F : Int → Bool, (fun u => howF how (pix a u Y[j]) (pix b u Y[j])) = F := ⟨_, rfl⟩
      have HF := Lib.hid hF
      clear hF
      go_loopw [12, 13] (fun bv iv w5 => ∃ (i : Nat) (band : List Rc), iv = .int .i64 i ∧ i ≤ X.length - 1 ∧ w5.ownsRow w.heap.size 37 4 bv band.length (flatR band) ∧ Hid (∀ q, bv.ownBlock = some q → wo.heap.size ≤ q) ∧ Hid (Below wo.heap.size wo w5) ∧ Hid (band.length ≤ i) ∧
          Hid (∀ h : i < X.length, colsO F Y[j] (Y[j + 1] - Y[j]) band X[i] (X.drop (i + 1)) = colsR F Y[j] (Y[j + 1] - Y[j]) X) ∧ Hid (∀ r ∈ band, XB r) ∧ Hid (∀ r ∈ band, r.y = Y[j] ∧ r.b = Y[j + 1] - Y[j])) (fun _ iv _ => X.length - (intOf iv).toNat)
      case atStart =>
        exact ⟨0, [], rfl, Nat.zero_le _, World.ownsRow_nil _ _ _ _, (show Hid _ from fun q h => (by cases h)), Lib.hid (Below.refl _ _), (show Hid _ from Nat.zero_le _), (show Hid _ from fun h => colsR_start F _ _ X h), (show Hid _ from fun r hr => (by cases hr)), (show Hid _ from fun r hr => (by cases hr))⟩
      case round =>
        obtain ⟨i, band, rfl, hi, hband, Hbq, Hb5, Hbl5, Hco, Hrb5, Hry5⟩ := hrel
        by_cases hli : i + 1 < X.length
        · have hliB : decide ((i : Int) + 1 < (X.length : Int)) = true := by simp; omega
          have Hband := Lib.hid hband
          clear hband
          obtain ⟨gx, rfl, hcx⟩ := ints_at Hox4.out (show i < X.length by omega)
          have hb45 := Hb.out.trans (Hb5.out.mono Hb.out.size)
          have x0 := hcx _ hb45 i (by omega)
          have x1 := hcx _ hb45 (i + 1) hli
          have y0 := Hcy.out _ hb45 j (by omega)
          have y1 := Hcy.out _ hb45 (j + 1) hlt
          have Hc45 := Lib.hid hb45
          have Hcx := Lib.hid hcx
          clear hb45 hcx
          go_upto_region 11 with (fail)
          have hq := After.ne wr
          have X0 := After.rule x0
          have Y0 := After.rule y0
          have hra := HA.out.below (Hb04.out.trans (Hc45.out.mono Hb04.out.size))
          have hrb := HB.out.below (Hb04.out.trans (Hc45.out.mono Hb04.out.size))
          have Hra := Lib.hid hra
          have Hrb := Lib.hid hrb
          clear hra hrb
          refine wp_region_in ⟨wr, Below.refl _ _⟩ (by kernel_rfl) (by kernel_rfl) ?_
          repeat (go_big_quiet_step ((go_at_call 37; exact Makes.after (rrin_any va vb a b _ _ how _ (Hra.out.below (After.below _)) (Hrb.out.below (After.below _))))))
          refine wpQuiet_nil ?_
          rintro _ ⟨n1, rfl⟩
          obtain ⟨w6, hw6⟩ : ∃ w6, w6 = n1.world := ⟨_, rfl⟩
          have hb6 : Below wr.heap.size wr w6 := by rw [hw6]; exact n1.below
          rw [← hw6]
          have z0 := cell_later hb6 x0
          have z1 := cell_later hb6 x1
          have u0 := cell_later hb6 y0
          have u1 := cell_later hb6 y1
          have Hb6 := Lib.hid hb6
          clear hw6 n1 hq X0 Y0 x0 x1 y0 y1 hb6
          have Hstep := Lib.hid (colsO_at F Y[j] (Y[j + 1] - Y[j]) band X i hli)
          have HbT := Lib.hid (Hb5.out.trans (Hb6.out.mono Hb5.out.size))
          have Hband6 := Lib.hid ((Turns.of_below' (T := fun _ => False) Hb6.out).owns Hband.out (fun _ _ h => h))
          have hXb := Hxl.out
          cases hm : howF how (pix a X[i] Y[j]) (pix b X[i] Y[j])
          · have HFm := Lib.hid (show F X[i] = false by rw [← HF.out]; exact hm)
            go_wp2
            refine ⟨⟨i + 1, band, by go_num, by omega, Hband6.out, Hbq, HbT, Lib.hid (by have := Hbl5.out; omega), (show Hid _ from fun h => ?_), Hrb5, Hry5⟩, ?_⟩
            · have h2 := Hstep.out
              rw [HFm.out, if_neg (by simp)] at h2
              rw [← h2]
              exact Hco.out (by omega)
            · simp [intOf]; omega
          · have HFm := Lib.hid (show F X[i] = true by rw [← HF.out]; exact hm)
            have Hm := Lib.hid hm
            clear hm
            -- the places as variables
            obtain ⟨i1, hi1⟩ : ∃ i1 : Nat, i + 1 = i1 := ⟨_, rfl⟩
            obtain ⟨j1, hj1⟩ : ∃ j1 : Nat, j + 1 = j1 := ⟨_, rfl⟩
            have hi1X : i1 < X.length := by omega
            have hj1Y : j1 < Y.length := by omega
            have hiX : i < X.length := by omega
            have hjY : j < Y.length := by omega
            simp only [hi1] at z1 Hstep
            simp only [hj1] at u1 Hstep
            have hx0r := HXb.out X[i] (List.getElem_mem hiX)
            have hx1r := HXb.out X[i1] (List.getElem_mem hi1X)
            have hy0r := HYb.out Y[j] (List.getElem_mem hjY)
            have hy1r := HYb.out Y[j1] (List.getElem_mem hj1Y)
            have hxlt : X[i] < X[i1] := (List.pairwise_iff_getElem.1 HX.out.1) i i1 hiX hi1X (by omega)
            have Hi1 := Lib.hid hi1
            have Hj1 := Lib.hid hj1
            obtain ⟨x, hx⟩ : ∃ x, X[i] = x := ⟨_, rfl⟩
            obtain ⟨x', hx'⟩ : ∃ x', X[i1] = x' := ⟨_, rfl⟩
            obtain ⟨y, hy⟩ : ∃ y, Y[j] = y := ⟨_, rfl⟩
            obtain ⟨y', hy'⟩ : ∃ y', Y[j1] = y' := ⟨_, rfl⟩
            rw [hx] at z0 hx0r hxlt
            rw [hx'] at z1 hx1r hxlt
            rw [hy] at u0 hy0r
            rw [hy'] at u1 hy1r
            obtain ⟨nb, hnb⟩ : ∃ nb, colPut y (y' - y) x x' band = nb := ⟨_, rfl⟩
            have Hnb := Lib.hid hnb
            have Hstep2 : Hid (∀ h : i1 < X.length, colsO F Y[j] (Y[j + 1] - Y[j]) nb X[i1] (X.drop (i1 + 1)) = colsR F Y[j] (Y[j + 1] - Y[j]) X) := Lib.hid (fun h => by
              have h2 := Hstep.out
              rw [HFm.out, if_pos rfl] at h2
              have h3 := Hco.out hiX
              subst hi1 hj1 hx hx' hy hy' hnb
              rw [← h3, h2])
            have Hxb2 : Hid (∀ r ∈ nb, XB r) := Lib.hid (by rw [← hnb]; exact colPut_XB Hrb5.out hx0r.1 (by omega) hx1r.2 _ _)
            have Hyb2 : Hid (∀ r ∈ nb, r.y = Y[j] ∧ r.b = Y[j + 1] - Y[j]) := Lib.hid (by
              rw [← hnb]
              have h3 := Hry5.out
              subst hj1
              rw [hy, hy'] at h3 ⊢
              exact colPut_Y h3)
            have Hln2 : Hid (nb.length ≤ i1) := Lib.hid (by rw [← hnb]; have h1 := colPut_len y (y' - y) x x' band; have h2 := Hbl5.out; omega)
            have Hxb := Hrb5
            clear hi1 hj1 hx hx' hy hy' hnb Hstep Hco Hrb5 Hry5 HFm
            obtain ⟨J, hJ⟩ : ∃ J, joinB band x = J := ⟨_, rfl⟩
            have HJ := Lib.hid hJ
            clear hJ
            go_upto_region 12 with (fail)
            go_cut [74] (fun sv wx => sv = .bool J ∧ ∃ nq, wx = w6.drewN nq)
            case first =>
              rcases nil_or_snoc band with hbn | ⟨bi, rl, hbn⟩
              · subst hbn
                obtain ⟨pb, cb, hbv⟩ : ∃ pb cb, u12 = .slice pb 0 cb := owns_slice Hband6.out
                subst hbv
                have hJf : J = false := by rw [← HJ.out]; rfl
                subst hJf
                go_quiet (fail)
                go_wp2_with fail
                go_meet
                exact ⟨rfl, _, rfl⟩
              · subst hbn
                obtain ⟨m, hm⟩ : ∃ m, bi.length = m := ⟨_, rfl⟩
                have hown := Hband6.out
                rw [show (bi ++ [rl]).length = m + 1 by simp [hm]] at hown
                have hxl := Hxb.out rl (by simp)
                have hJe : ((rl.x + rl.a : Int) == x) = J := by
                  rw [← HJ.out, joinB_snoc, Bool.eq_iff_iff]; simp
                obtain ⟨gb, cap, hbv⟩ : ∃ gb cap, u12 = .slice (some ⟨gb, 0, none⟩) (m + 1) cap := by
                  rcases hown.2 with ⟨-, h0⟩ | ⟨g, cap, cur, hbv, -⟩
                  · omega
                  · exact ⟨g, cap, hbv⟩
                subst hbv
                have c0 := hown.cellAt (m * 4) (by omega)
                have c2 := hown.cellAt (m * 4 + 2) (by omega)
                have h0 := flatR_at_last bi rl 0
                have h2 := flatR_at_last bi rl 2
                rw [hm] at h0 h2
                rw [Nat.add_zero] at h0
                rw [h0] at c0
                rw [h2] at c2
                replace c0 : w6.cell? ⟨gb, m * 4, none⟩ = some (.int .i64 rl.x) := c0
                replace c2 : w6.cell? ⟨gb, m * 4 + 2, none⟩ = some (.int .i64 rl.a) := c2
                unfold XB at hxl
                have hws : IntKind.i64.wrap (rl.x + rl.a) = rl.x + rl.a := IntWalk.i64_in _ (by omega)
                have hmb : m + 1 ≤ 96 := by have h3 := Hbl5.out; simp [hm] at h3; omega
                have hwm : IntKind.i64.wrap (m : Int) = (m : Int) := IntWalk.i64_in _ (by omega)
                have hm0 : (0 : Int) ≤ (m : Int) := by omega
                have hm1 : (m : Int) < (m : Int) + 1 := by omega
                have hmp : decide ((0 : Int) < (m : Int) + 1) = true := by simp
                have i0 : (0 : Int) ≤ (i : Int) := by omega
                have i1' : (i : Int) < (X.length : Int) := by omega
                clear h0 h2 hown hm
                generalize rl.x = rx at *
                generalize rl.a = ra at *
                go_quiet (fail)
                go_wp2_with fail
                go_meet
                exact ⟨rfl, _, rfl⟩
            case rest =>
              obtain ⟨rfl, nq, rfl⟩ := hcut
              have hb68 : Below w6.heap.size w6 (w6.drewN nq) := Below.drewN' (Below.refl _ _) nq
              have Hband8 := Lib.hid ((Turns.of_below' (T := fun _ => False) hb68).owns Hband6.out (fun _ _ h => h))
              have HbT8 := Lib.hid (HbT.out.trans (hb68.mono HbT.out.size))
              have z0' := cell_later hb68 z0
              have z1' := cell_later hb68 z1
              have u0' := cell_later hb68 u0
              have u1' := cell_later hb68 u1
              clear z0 z1 u0 u1 hb68 HbT Hband6
              generalize w6.drewN nq = w8 at *
              have hwx : IntKind.i64.wrap (x' - x) = x' - x := IntWalk.i64_in _ (by omega)
              have hwy : IntKind.i64.wrap (y' - y) = y' - y := IntWalk.i64_in _ (by omega)
              have hwi : IntKind.i64.wrap ((i : Int) + 1) = (i1 : Int) := by have := Hi1.out; rw [IntWalk.i64_in _ (by omega)]; omega
              have hwj : IntKind.i64.wrap ((j : Int) + 1) = (j1 : Int) := by have := Hj1.out; have := Hyl.out; rw [IntWalk.i64_in _ (by omega)]; omega
              have i0 : (0 : Int) ≤ (i : Int) := by omega
              have i1' : (i : Int) < (X.length : Int) := by omega
              have i2 : (0 : Int) ≤ (i1 : Int) := by omega
              have i3 : (i1 : Int) < (X.length : Int) := by omega
              have j0 : (0 : Int) ≤ (j : Int) := by omega
              have j1' : (j : Int) < (Y.length : Int) := by omega
              have j2 : (0 : Int) ≤ (j1 : Int) := by omega
              have j3 : (j1 : Int) < (Y.length : Int) := by omega
              cases J with
              | false =>
                obtain ⟨pb, cb, hbv⟩ : ∃ pb cb, u12 = .slice pb band.length cb := owns_slice Hband8.out
                subst hbv
                have hbn : band.length ≤ 96 := by have := Hbl5.out; omega
                go_upto_region 14 with (fail)
                have hqq := After.ne w8
                have Z0 := After.rule z0'
                have Z1 := After.rule z1'
                have U0 := After.rule u0'
                have U1 := After.rule u1'
                refine First.wp_region_first 30 _ (.slice pb band.length cb) (by kernel_rfl) (by decide +kernel) (by decide +kernel) rfl (by decide +kernel) (by decide +kernel) (by decide +kernel) (by decide) (fun _ _ _ h => h) (Or.inl ⟨by rfl, ?_⟩) ?_
                · intro w
                  go_simp
                simp only [List.take_succ_cons, List.take_zero, List.drop_succ_cons, List.drop_zero, Act.put, List.setIfInBounds_toArray, List.set_cons_succ, List.set_cons_zero]
                repeat (refine Lq_step (fun K hK => ?_); go_simp; (refine hK _ ?_; clear hK K))
                refine Lq_nil ?_
                intro w7 hb7
                have HbU := Lib.hid (HbT8.out.trans (hb7.mono HbT8.out.size))
                have Hband7 := Lib.hid ((Turns.of_below' (T := fun _ => False) hb7).owns Hband8.out (fun _ _ h => h))
                have hs7 := HbU.out.size
                obtain ⟨i0', hi0, hz0, hz1', hz2⟩ := info_parts rc_info
                clear Z0 Z1 U0 U1 hqq z0' z1' u0' u1' hb7
                go_wp2_with (at_builtin; refine wpList_append_mine _ rfl (.tmp 94) (.tmp 124) 22 rfl w.heap.size 37 i0' _ 4 32 Tryz.underlying22 hi0 hz0 hz1' hz2 rfl (by decide) (.slice pb band.length cb) band.length (flatR band) rfl (Hband7.out.alloc _) (some ⟨w7.heap.size, 0, none⟩) 1 1 (encR ⟨x, y, x' - x, y' - y⟩) rfl rfl ?n1 ?n2 ?n3 ?n4 ?n5 ?_)
                case n1 => exact fun _ _ h => h
                case n2 => exact encR_one [⟨x, y, x' - x, y' - y⟩]
                case n3 => simp only [maxLen]; omega
                case n4 => omega
                case n5 => have e1 := Hb04.out.size; have e2 := Hb.out.size; simp; omega
                intro v8 w9 r8 gr8 pl8
                have ht8 : Turns (fun q => (Value.slice pb band.length cb).ownBlock = some q) (w7.alloc (.cells #[.int .i64 x, .int .i64 y, .int .i64 (x' - x), .int .i64 (y' - y)] 37)) w9 := Turns.of_grown gr8 (fun i h => h)
                have Hb8 := Lib.hid (show Below wo.heap.size wo w9 from (HbU.out.trans ((Below.al1 w7 _).mono hs7)).trans (ht8.below (by simp; omega) (fun q hq => Hbq.out q hq)))
                have Hq8 := Lib.hid (show ∀ q, v8.ownBlock = some q → wo.heap.size ≤ q from fun q hq => by
                  rcases pl8 q hq with h | h
                  · exact Hbq.out q h
                  · (try simp at h); omega)
                have Hr8 : Hid (w9.ownsRow w.heap.size 37 4 v8 nb.length (flatR nb)) := Lib.hid (by
                  have e := colPut_not HJ.out y (y' - y) x'
                  rw [Hnb.out] at e
                  rw [e, List.length_append, flatR_snoc]
                  exact r8)
                clear r8 gr8 pl8 ht8
                go_wp2
                refine ⟨?_, by have := Hi1.out; simp [intOf]; omega⟩
                exact ⟨i1, nb, rfl, by omega, Hr8.out, Hq8, Hb8, Hln2, Hstep2, Hxb2, Hyb2⟩
              | true =>
                obtain ⟨bi, rl, hbn, her⟩ := joinB_some HJ.out
                subst hbn
                obtain ⟨m, hm⟩ : ∃ m, bi.length = m := ⟨_, rfl⟩
                have hown := Hband8.out
                have hll : (bi ++ [rl]).length = m + 1 := by simp [hm]
                rw [hll] at hown
                have hxl := Hxb.out rl (by simp)
                obtain ⟨gb, cap, hbv⟩ : ∃ gb cap, u12 = .slice (some ⟨gb, 0, none⟩) (m + 1) cap := by
                  rcases hown.2 with ⟨-, h0⟩ | ⟨g, cap, cur, hbv, -⟩
                  · omega
                  · exact ⟨g, cap, hbv⟩
                subst hbv
                have hfl := flatR_last bi rl (x' - rl.x)
                rw [hm] at hfl
                have hnb := colPut_join HJ.out y (y' - y) x'
                rw [Hnb.out] at hnb
                have Hset := Lib.hid (fun (W : World) (h : W.ownsRow w.heap.size 37 4 (.slice (some ⟨gb, 0, none⟩) (m + 1) cap) (m + 1) (flatR (bi ++ [rl]))) => (show (W.setCell ⟨gb, m * 4 + 2, none⟩ (.int .i64 (x' - rl.x))).ownsRow w.heap.size 37 4 (.slice (some ⟨gb, 0, none⟩) (m + 1) cap) nb.length (flatR nb) by
                  have h1 := owns_setCell h (m * 4 + 2) (.int .i64 (x' - rl.x))
                  rw [hfl, ← hnb] at h1
                  have h2 : nb.length = m + 1 := by rw [hnb]; simp [hm]
                  rw [h2]
                  exact h1))
                have c0 := hown.cellAt (m * 4) (by omega)
                have c2 := hown.cellAt (m * 4 + 2) (by omega)
                have h0 := flatR_at_last bi rl 0
                have h2 := flatR_at_last bi rl 2
                rw [hm] at h0 h2
                rw [Nat.add_zero] at h0
                rw [h0] at c0
                rw [h2] at c2
                replace c0 : w8.cell? ⟨gb, m * 4, none⟩ = some (.int .i64 rl.x) := c0
                replace c2 : w8.cell? ⟨gb, m * 4 + 2, none⟩ = some (.int .i64 rl.a) := c2
                have f2 : w8.frozen? ⟨gb, m * 4 + 2, none⟩ = false := by
                  rcases hown.2 with ⟨h, _⟩ | ⟨_, _, cur, h, _, hgg, _⟩
                  · cases h
                  · cases h; simp [World.frozen?, hgg]
                have hwr : IntKind.i64.wrap (x' - rl.x) = x' - rl.x := IntWalk.i64_in _ (by unfold XB at hxl; omega)
                have hgq : wo.heap.size ≤ gb := Hbq.out gb rfl
                have hmb : m + 1 ≤ 96 := by have h3 := Hbl5.out; simp [hm] at h3; omega
                have hwm : IntKind.i64.wrap (m : Int) = (m : Int) := IntWalk.i64_in _ (by omega)
                have hm0 : (0 : Int) ≤ (m : Int) := by omega
                have hm1 : (m : Int) < (m : Int) + 1 := by omega
                have Hown := Lib.hid hown
                clear h0 h2 hown hm hll hfl hnb her hxl Hnb HJ Hxb Hband8 Hband
                generalize rl.x = rx at *
                generalize rl.a = ra at *
                go_upto_region 13 with (fail)
                have hqq := After.ne w8
                have C0 := After.rule c0
                have Z1 := After.rule z1'
                refine wp_region_head 19 (by kernel_rfl) (by kernel_rfl) (by kernel_rfl) ?_
                repeat (refine Lq_step (fun K hK => ?_); go_simp; (refine hK _ ?_; clear hK K))
                refine Lq_nil ?_
                intro w9 hb9
                have d2 := cell_later hb9 c2
                have g2 := free_later hb9 c2 f2
                have Hset9 := Lib.hid (Hset.out w9 ((Turns.of_below' (T := fun _ => False) hb9).owns Hown.out (fun _ _ h => h)))
                have Hb9 := Lib.hid (show Below wo.heap.size wo (w9.setCell ⟨gb, m * 4 + 2, none⟩ (.int .i64 (x' - rx))) from (HbT8.out.trans (hb9.mono HbT8.out.size)).setCell hgq _)
                have Hq9 := Lib.hid (show ∀ q, (Value.slice (some ⟨gb, 0, none⟩) (m + 1) cap).ownBlock = some q → wo.heap.size ≤ q from fun q hq => by cases hq; exact hgq)
                clear C0 Z1 hqq c0 c2 f2 hb9 z0' z1' u0' u1' Hset
                go_wp2
                refine ⟨?_, by have := Hi1.out; simp [intOf]; omega⟩
                exact ⟨i1, nb, rfl, by omega, Hset9.out, Hq9, Hb9, Hln2, Hstep2, Hxb2, Hyb2⟩
        · have hliB : decide ((i : Int) + 1 < (X.length : Int)) = false := by simp; omega
          have hxl := Hxl.out
          have hyl := Hyl.out
          have hcb : colsR F Y[j] (Y[j + 1] - Y[j]) X = band := by
            rcases Nat.lt_or_ge i X.length with h | h
            · have h1 := Hco.out h
              rw [List.drop_eq_nil_of_le (by omega)] at h1
              exact h1.symm
            · have hX0 : X = [] := List.length_eq_zero_iff.1 (by omega)
              have hb0 : band = [] := List.length_eq_zero_iff.1 (by have := Hbl5.out; omega)
              rw [hX0, hb0]; rfl
          have hbl := Hbl5.out
          have hdr := docR_at (howF how) a b X s Y j hlt
          rw [HF.out, hcb] at hdr
          have hd := Hdoc.out (show j < Y.length by omega)
          rw [hdr] at hd
          have hb45 := Hb.out.trans (Hb5.out.mono Hb.out.size)
          have y0 := Hcy.out _ hb45 j (by omega)
          have y1 := Hcy.out _ hb45 (j + 1) hlt
          have Hc45 := Lib.hid hb45
          have Hlo := Lib.hid ((Turns.of_below' (T := fun _ => False) Hb5.out).owns Hl.out (fun _ _ h => h))
          have Hoo := Lib.hid ((Turns.of_below' (T := fun _ => False) Hb5.out).owns Ho.out (fun _ _ h => h))
          have Hband := Lib.hid hband
          have Hyb : Hid (∀ r ∈ band, YB r) := Lib.hid (fun r hr => by
            obtain ⟨e1, e2⟩ := Hry5.out r hr
            have g1 := HYb.out Y[j] (List.getElem_mem _)
            have g2 := HYb.out Y[j + 1] (List.getElem_mem _)
            unfold YB
            omega)
          obtain ⟨j1, hj1⟩ : ∃ j1 : Nat, j + 1 = j1 := ⟨_, rfl⟩
          have hj1Y : j1 < Y.length := by omega
          have hjY : j < Y.length := by omega
          simp only [hj1] at y1
          have hy0r := HYb.out Y[j] (List.getElem_mem hjY)
          have hy1r := HYb.out Y[j1] (List.getElem_mem hj1Y)
          have Hj1 := Lib.hid hj1
          obtain ⟨y, hy⟩ : ∃ y, Y[j] = y := ⟨_, rfl⟩
          obtain ⟨y', hy'⟩ : ∃ y', Y[j1] = y' := ⟨_, rfl⟩
          rw [hy] at y0 hy0r
          rw [hy'] at y1 hy1r
          have hd2 : ∀ (h : j1 < Y.length), docR (howF how) a b X (docStep s band y y') Y[j1] (Y.drop (j1 + 1)) = docR (howF how) a b X ([], []) (Y[0]'(Nat.lt_of_le_of_lt (Nat.zero_le _) h)) (Y.drop 1) := by
            subst hj1 hy hy'
            intro h
            exact hd
          have Hdoc2 := Lib.hid hd2
          clear hd2 hd
          obtain ⟨G, hG⟩ : ∃ G, goesD s.2 band y = G := ⟨_, rfl⟩
          have HG := Lib.hid hG
          obtain ⟨last, hlast⟩ : ∃ last, s.2 = last := ⟨_, rfl⟩
          obtain ⟨out, hout⟩ : ∃ out, s.1 = out := ⟨_, rfl⟩
          have hse : s = (out, last) := by rw [← hlast, ← hout]
          subst hse
          have Hyy := Lib.hid hy'
          have Hoq0 := Lib.hid (show ∀ q, u9.ownBlock = some q → q < wo.heap.size from fun q hq => (Ho.out.lt q hq).2)
          have Hlq0 := Lib.hid (show ∀ q, u10.ownBlock = some q → q < wo.heap.size from fun q hq => (Hl.out.lt q hq).2)
          clear hj1 hy hy' hdr hlast hout hG Hco Hdoc hcb hb45 hband Hrb5 Hry5 HF Hl Ho
          try simp only at Hlo
          try simp only at Hoo
          try simp only at HG
          try simp only at Hdoc2
          try simp only at Hbl
          try simp only at Hln
          try simp only at Hys
          obtain ⟨pl, cl, hbl2⟩ : ∃ p c, u10 = .slice p last.length c := owns_slice Hlo.out
          obtain ⟨pb, cb, hbb⟩ : ∃ p c, u12 = .slice p band.length c := owns_slice Hband.out
          subst hbl2
          subst hbb
          have hln := Hln.out
          try simp only at hln
          have Hrl := Lib.hid (owns_row' (enc := encR) (k := 4) (fun _ => rfl) Hlo.out)
          have Hrb := Lib.hid (owns_row' (enc := encR) (k := 4) (fun _ => rfl) Hband.out)
          obtain ⟨nl, hnl⟩ : ∃ nl, last.length = nl := ⟨_, rfl⟩
          obtain ⟨nb, hnb⟩ : ∃ nb, band.length = nb := ⟨_, rfl⟩
          have Hnl := Lib.hid hnl
          have Hnb := Lib.hid hnb
          simp only [hnl] at Hlo Hbl Hrl ⊢
          simp only [hnb] at Hband Hbq Hrb ⊢
          rw [hnl] at hln
          rw [hnb] at hbl
          clear hnl hnb
          go_upto_region 15 with (fail)
          go_cut [154] (fun sv wx => sv = .bool G ∧ Below wr.heap.size wr wx)
          case first =>
            have i0 : (0 : Int) ≤ (j : Int) := by omega
            have i1 : (j : Int) < (Y.length : Int) := by omega
            have hq := After.ne wr
            have Y0 := After.rule y0
            cases band with
            | nil =>
              have hn0 : nb = 0 := by rw [← Hnb.out]; rfl
              subst hn0
              have hGf : G = false := by rw [← HG.out]; rfl
              subst hGf
              refine wp_region_in ⟨wr, Below.refl _ _⟩ (by kernel_rfl) (by kernel_rfl) ?_
              repeat (go_big_quiet_step (fail))
              refine wpQuiet_nil ?_
              rintro _ ⟨n1, rfl⟩
              go_wp2_with fail
              go_meet
              exact ⟨rfl, n1.below⟩
            | cons b0 bl =>
              obtain ⟨m, hm⟩ : ∃ m, nb = m + 1 := ⟨bl.length, by rw [← Hnb.out]; rfl⟩
              subst hm
              have hm1 : decide ((0 : Int) < (m : Int) + 1) = true := by simp
              cases last with
              | nil =>
                have hn0 : nl = 0 := by rw [← Hnl.out]; rfl
                subst hn0
                have hGf : G = false := by rw [← HG.out]; rfl
                subst hGf
                refine wp_region_in ⟨wr, Below.refl _ _⟩ (by kernel_rfl) (by kernel_rfl) ?_
                repeat (go_big_quiet_step (fail))
                refine wpQuiet_nil ?_
                rintro _ ⟨n1, rfl⟩
                go_wp2_with fail
                go_meet
                exact ⟨rfl, n1.below⟩
              | cons r0 l0 =>
                obtain ⟨ml, hml⟩ : ∃ m, nl = m + 1 := ⟨l0.length, by rw [← Hnl.out]; rfl⟩
                subst hml
                have hml1 : decide ((0 : Int) < (ml : Int) + 1) = true := by simp
                have hml2 : (0 : Int) < (ml : Int) + 1 := by omega
                have hr0 := Hys.out r0 (by simp)
                obtain ⟨gl, hgl⟩ : ∃ g, pl = some ⟨g, 0, none⟩ := by
                  rcases Hlo.out.2 with ⟨-, h0⟩ | ⟨g, cap, cur, hbv, -⟩
                  · omega
                  · cases hbv; exact ⟨g, rfl⟩
                subst hgl
                have c1 := Hlo.out.cellAt 1 (by omega)
                have c3 := Hlo.out.cellAt 3 (by omega)
                replace c1 : wr.cell? ⟨gl, 1, none⟩ = some (.int .i64 r0.y) := c1
                replace c3 : wr.cell? ⟨gl, 3, none⟩ = some (.int .i64 r0.b) := c3
                have C1 := After.rule c1
                have C3 := After.rule c3
                unfold YB at hr0
                have hwr : IntKind.i64.wrap (r0.y + r0.b) = r0.y + r0.b := IntWalk.i64_in _ (by omega)
                have hGe : G = (touchB (r0 :: l0) y && alikeB (r0 :: l0) (b0 :: bl)) := by rw [← HG.out]; rfl
                have hte : ((r0.y + r0.b : Int) == y) = touchB (r0 :: l0) y := by rw [Bool.eq_iff_iff]; simp [touchB]
                have HGe := Lib.hid hGe
                clear hGe c1 c3 Y0
                have Y0 := After.rule y0
                cases htt : touchB (r0 :: l0) y
                · rw [htt] at hte
                  have hGf : G = false := by rw [HGe.out, htt]; rfl
                  subst hGf
                  clear htt HGe
                  generalize r0.y = ry at *
                  generalize r0.b = rb at *
                  refine wp_region_in ⟨wr, Below.refl _ _⟩ (by kernel_rfl) (by kernel_rfl) ?_
                  repeat (go_big_quiet_step (fail))
                  refine wpQuiet_nil ?_
                  rintro _ ⟨n1, rfl⟩
                  go_wp2_with fail
                  go_meet
                  exact ⟨rfl, n1.below⟩
                · rw [htt] at hte
                  have hGf : G = alikeB (r0 :: l0) (b0 :: bl) := by rw [HGe.out, htt]; rfl
                  clear htt HGe
                  have Hal := Lib.hid (fun n : After wr => ralike_any (.slice (some ⟨gl, 0, none⟩) (ml + 1) cl) (.slice pb (m + 1) cb) (r0 :: l0) (b0 :: bl) n.world (Hrl.out.below (After.below n)) (Hrb.out.below (After.below n)))
                  rw [← hGf] at Hal
                  clear hGf
                  generalize r0.y = ry at *
                  generalize r0.b = rb at *
                  refine wp_region_in ⟨wr, Below.refl _ _⟩ (by kernel_rfl) (by kernel_rfl) ?_
                  repeat (go_big_quiet_step ((go_at_call 38; exact Makes.after (Hal.out _))))
                  refine wpQuiet_nil ?_
                  rintro _ ⟨n1, rfl⟩
                  go_wp2_with fail
                  go_meet
                  exact ⟨rfl, n1.below⟩
          case rest =>
            obtain ⟨rfl, hbx⟩ := hcut
            obtain ⟨wx, hwx⟩ : ∃ wx : World, wx = wc := ⟨_, rfl⟩
            subst hwx
            have y1' := cell_later hbx y1
            have Hlx := Lib.hid ((Turns.of_below' (T := fun _ => False) hbx).owns Hlo.out (fun _ _ h => h))
            have Hox := Lib.hid ((Turns.of_below' (T := fun _ => False) hbx).owns Hoo.out (fun _ _ h => h))
            have Hbx := Lib.hid ((Turns.of_below' (T := fun _ => False) hbx).owns Hband.out (fun _ _ h => h))
            have Hwx := Lib.hid (Hc45.out.trans (hbx.mono Hc45.out.size))
            have hsx := Hwx.out.size
            have hs04 := Hb04.out.size
            have hsb := Hb.out.size
            have hsw : wo.heap.size ≤ wx.heap.size := Nat.le_trans Hb5.out.size hbx.size
            obtain ⟨po, co, hoo⟩ : ∃ p c, u9 = .slice p out.length c := owns_slice Hox.out
            subst hoo
            have hwj : IntKind.i64.wrap ((j : Int) + 1) = (j1 : Int) := by have := Hj1.out; rw [IntWalk.i64_in _ (by omega)]; omega
            clear y1 y0 hbx
            cases G with
            | false =>
              have hst := docStep_not (s := (out, last)) HG.out y'
              rw [hst] at Hdoc2
              have hlx2 : wx.ownsRow w.heap.size 37 4 (.slice pl last.length cl) last.length (flatR last) := by rw [Hnl.out]; exact Hlx.out
              obtain ⟨p2, c2, he, -, -, hsrc⟩ := RwG.src (enc := encR) (k := 4) (fun _ => rfl) (by decide) (RwG.owned (enc := encR) (k := 4) (fun _ => rfl) hlx2)
              simp only [Value.slice.injEq, true_and] at he
              obtain ⟨rfl, rfl⟩ := he
              rw [Hnl.out] at hsrc
              have Hsrc := Lib.hid hsrc
              have hlen9 : (flatR last).length = nl * 4 := by rw [flatR_len, Hnl.out]
              have Hlen9 := Lib.hid hlen9
              obtain ⟨i0', hi0, hz0, hz1', hz2⟩ := info_parts rc_info
              clear hst hlx2 hsrc y1' hlen9
              go_wp2_with (at_builtin; refine wpList_append_mine _ rfl (.tmp 176) (.tmp 177) 22 rfl w.heap.size 37 i0' _ 4 32 Tryz.underlying22 hi0 hz0 hz1' hz2 rfl (by decide) (.slice po out.length co) out.length (flatR out) rfl Hox.out pl nl cl (flatR last) rfl Hlen9.out Hsrc.out (encR_one _) ?k3 ?k4 ?k5 ?_)
              case k3 => simp only [maxLen]; omega
              case k4 => omega
              case k5 => omega
              intro v9 w9 r9 gr9 pl9
              have ht9 : Turns (fun q => (Value.slice po out.length co).ownBlock = some q) wx w9 := Turns.of_grown gr9 (fun i h => h)
              have Hb9 := Lib.hid (show Below w4.heap.size w4 w9 from Hwx.out.trans (ht9.below (B := w4.heap.size) hsx (fun q hq => Hbl.out.1 q hq)))
              have Hr9 : Hid (w9.ownsRow w.heap.size 37 4 v9 (out ++ last).length (flatR (out ++ last))) := Lib.hid (by
                have e : flatR (out ++ last) = flatR out ++ flatR last := by simp [flatR]
                rw [List.length_append, e, Hnl.out]
                exact r9)
              have Hband9 : Hid (w9.ownsRow w.heap.size 37 4 (.slice pb nb cb) band.length (flatR band)) := Lib.hid (by
                rw [Hnb.out]
                refine ht9.owns Hbx.out (fun q hq e => ?_)
                have g1 := Hoq0.out q e
                have g2 := Hbq.out q hq
                omega)
              have Htri : Hid ((∀ q, v9.ownBlock = some q → w4.heap.size ≤ q) ∧ (∀ q, (Value.slice pb nb cb).ownBlock = some q → w4.heap.size ≤ q) ∧ (∀ q, v9.ownBlock = some q → (Value.slice pb nb cb).ownBlock ≠ some q)) := Lib.hid ⟨fun q hq => by
                rcases pl9 q hq with h | h
                · exact Hbl.out.1 q h
                · omega, fun q hq => by have := Hbq.out q hq; omega, fun q hq e => by
                rcases pl9 q hq with h | h
                · have g1 := Hoq0.out q h
                  have g2 := Hbq.out q e
                  omega
                · have g2 := (Hbx.out.lt q e).2
                  omega⟩
              have hj9 : (out ++ last).length + band.length ≤ j1 * 96 := by
                have := Hj1.out
                rw [List.length_append, Hnl.out, Hnb.out]
                omega
              have Hj9 := Lib.hid hj9
              clear r9 gr9 pl9 ht9 hj9
              go_wp2
              refine ⟨?_, by have := Hj1.out; simp [intOf]; omega⟩
              exact ⟨j1, (out ++ last, band), rfl, by omega, Hr9.out, Hband9.out, Htri, Hj9, Hdoc2, Hb9, Hyb⟩
            | true =>
              have hst := docStep_go (s := (out, last)) HG.out y'
              rw [hst] at Hdoc2
              clear hst
              go_wp2
              go_loopw [14] (fun kv w2 => ∃ k : Nat, k ≤ nl ∧ kv = .int .i64 k ∧ w2.ownsRow w.heap.size 37 4 (.slice pl nl cl) nl (flatR ((last.take k).map (tall y') ++ last.drop k)) ∧ Turns (fun b => (Value.slice pl nl cl).ownBlock = some b) wx w2) (fun kv _ => nl - (intOf kv).toNat)
              case atStart => exact ⟨0, Nat.zero_le _, rfl, by simpa using Hlx.out, Turns.refl _ _⟩
              case round =>
                obtain ⟨k, hk, rfl, hown, htr⟩ := hrel
                have hb2 : Below w4.heap.size w4 wr := Hwx.out.trans (htr.below (B := w4.heap.size) hsx (fun q hq => Hbl.out.2.1 q hq))
                have hll : last.length = nl := Hnl.out
                by_cases hkl : k < nl
                · have dk : decide (k < nl) = true := by simp; omega
                  have hkL : k < last.length := by omega
                  obtain ⟨gl, hgl⟩ : ∃ g, pl = some ⟨g, 0, none⟩ := by
                    rcases hown.2 with ⟨-, h0⟩ | ⟨g, cap, cur, hbv, -⟩
                    · omega
                    · cases hbv; exact ⟨g, rfl⟩
                  subst hgl
                  have hml : ((last.take k).map (tall y') ++ last.drop k).length = last.length := by simp; omega
                  have hget : ((last.take k).map (tall y') ++ last.drop k)[k]'(by omega) = last[k]'hkL := by
                    rw [List.getElem_append_right (by simp; omega)]
                    simp [List.length_take, Nat.min_eq_left (show k ≤ last.length by omega)]
                  have hset := owns_setCell hown (k * 4 + 3) (.int .i64 (y' - (last[k]'hkL).y))
                  have hSt : (flatR ((last.take k).map (tall y') ++ last.drop k)).set (k * 4 + 3) (.int .i64 (y' - (last[k]'hkL).y)) = flatR ((last.take (k + 1)).map (tall y') ++ last.drop (k + 1)) := by
                    rw [flatR_set _ k _ (by omega), hget]
                    congr 1
                    rw [List.take_succ_eq_append_getElem (by omega), List.map_append, List.append_assoc, List.set_append_right _ _ (by simp; omega)]
                    congr 1
                    have h9 : k - (List.map (tall y') (List.take k last)).length = 0 := by simp; omega
                    rw [h9, List.drop_eq_getElem_cons (by omega)]
                    rfl
                  have HSt := Lib.hid hSt
                  have hrl := Hys.out (last[k]'hkL) (List.getElem_mem _)
                  have c1 := hown.cellAt (k * 4 + 1) (by omega)
                  have c3 := hown.cellAt (k * 4 + 3) (by omega)
                  have e1 : (flatR ((last.take k).map (tall y') ++ last.drop k))[k * 4 + 1]? = some (.int .i64 (last[k]'hkL).y) := by
                    rw [flatR, flat_at' (enc := encR) (k := 4) (fun _ => rfl) _ k 1 (by decide), List.getElem?_eq_getElem (by omega), hget]
                    rfl
                  have e3 : (flatR ((last.take k).map (tall y') ++ last.drop k))[k * 4 + 3]? = some (.int .i64 (last[k]'hkL).b) := by
                    rw [flatR, flat_at' (enc := encR) (k := 4) (fun _ => rfl) _ k 3 (by decide), List.getElem?_eq_getElem (by omega), hget]
                    rfl
                  rw [e1] at c1
                  rw [e3] at c3
                  have f3 : wr.frozen? ⟨gl, k * 4 + 3, none⟩ = false := by
                    rcases hown.2 with ⟨h, _⟩ | ⟨_, _, cur, h, _, hgg, _⟩
                    · cases h
                    · cases h; simp [World.frozen?, hgg]
                  have u1 := Hcy.out _ hb2 j1 hj1Y
                  rw [Hyy.out] at u1
                  have Hown := Lib.hid hown
                  have Htr := Lib.hid htr
                  clear hml hget hSt e1 e3 hset hb2 htr hown
                  generalize last[k]'hkL = r at *
                  unfold YB at hrl
                  have hwr : IntKind.i64.wrap (y' - r.y) = y' - r.y := IntWalk.i64_in _ (by omega)
                  have k0 : (0 : Int) ≤ (k : Int) := by omega
                  have k1 : (k : Int) < (nl : Int) := by omega
                  have j2 : (0 : Int) ≤ (j1 : Int) := by omega
                  have j3 : (j1 : Int) < (Y.length : Int) := by omega
                  generalize r.y = ry at *
                  generalize r.b = rb at *
                  go_upto_region 19 with (fail)
                  have hqq := After.ne wr
                  have C1 := After.rule c1
                  have U1 := After.rule u1
                  refine wp_region_head 15 (by kernel_rfl) (by kernel_rfl) (by kernel_rfl) ?_
                  repeat (refine Lq_step (fun K hK => ?_); go_simp; (refine hK _ ?_; clear hK K))
                  refine Lq_nil ?_
                  intro w9 hb9
                  have d3 := cell_later hb9 c3
                  have g3 := free_later hb9 c3 f3
                  have Hset9 := Lib.hid (owns_setCell ((Turns.of_below' (T := fun _ => False) hb9).owns Hown.out (fun _ _ h => h)) (k * 4 + 3) (.int .i64 (y' - ry)))
                  have Htr9 := Lib.hid (show Turns (fun b => (Value.slice (some ⟨gl, 0, none⟩) nl cl).ownBlock = some b) wx (w9.setCell ⟨gl, k * 4 + 3, none⟩ (.int .i64 (y' - ry))) from (Htr.out.trans (Turns.of_below' hb9)).set (p := ⟨gl, k * 4 + 3, none⟩) rfl _)
                  clear C1 U1 hqq c1 c3 f3 u1 hb9 Hown Htr
                  go_wp2
                  go_roundw
                  case rel => exact ⟨k + 1, by omega, by go_num, by rw [← HSt.out]; exact Hset9.out, Htr9.out⟩
                  case measure => simp [intOf]; omega
                · obtain rfl : k = nl := by omega
                  have dk : decide (k < k) = false := by simp
                  rw [List.take_of_length_le (by omega), List.drop_eq_nil_of_le (by omega), List.append_nil] at hown
                  have Hown9 : Hid (wr.ownsRow w.heap.size 37 4 (.slice pl k cl) (last.map (tall y')).length (flatR (last.map (tall y')))) := Lib.hid (by rw [List.length_map, Hnl.out]; exact hown)
                  have Hout9 := Lib.hid (htr.owns Hox.out (fun q hq e => Hbl.out.2.2 q hq e))
                  have Hb9 := Lib.hid hb2
                  have hj9 : out.length + (last.map (tall y')).length ≤ j1 * 96 := by
                    have := Hj1.out
                    rw [List.length_map, Hnl.out]
                    omega
                  have Hj9 := Lib.hid hj9
                  have Hys9 : Hid (∀ r ∈ last.map (tall y'), YB r) := Lib.hid (fun r hr => by
                    obtain ⟨r0, h0, rfl⟩ := List.mem_map.1 hr
                    exact tall_YB (Hys.out r0 h0) hy1r)
                  clear hown htr hb2 hj9 y1'
                  go_wp2
                  refine ⟨?_, by have := Hj1.out; simp [intOf]; omega⟩
                  exact ⟨j1, (out, last.map (tall y')), rfl, by omega, Hout9.out, Hown9.out, Hbl, Hj9, Hdoc2, Hb9, Hys9⟩
    · have hltB : decide ((j : Int) + 1 < (Y.length : Int)) = false := by simp; omega
      have hfin : formL (howF how) a b = s.1 ++ s.2 := by
        rcases Nat.lt_or_ge j Y.length with h | h
        · have h1 := Hdoc.out h
          rw [List.drop_eq_nil_of_le (by omega)] at h1
          have hY0 : Y = Y[0]'(by omega) :: Y.drop 1 := by
            conv => lhs; rw [← List.drop_zero (l := Y), List.drop_eq_getElem_cons (by omega)]
          have h2 := doc_form (mf := howF how) (how_none how) HX.out.1 HX.out.2 (k := Y[0]'(by omega)) (ks := Y.drop 1) (by rw [← hY0]; exact HY.out.1) (by rw [← hY0]; exact HY.out.2)
          rw [← h2, ← h1]
          rfl
        · have hY0 : Y = [] := List.length_eq_zero_iff.1 (by omega)
          have hj0 : j = 0 := by omega
          have hl0 := Hln.out
          have e1 : s.1 = [] := List.length_eq_zero_iff.1 (by omega)
          have e2 : s.2 = [] := List.length_eq_zero_iff.1 (by omega)
          have hno : ∀ l : List Rc, (∀ r ∈ l, r ∈ a ∨ r ∈ b) → ∀ x y, pix l x y = false := by
            intro l hl x y
            cases hp : pix l x y
            · rfl
            · obtain ⟨r, hr, hh⟩ := pix_iff.1 hp
              obtain ⟨e, -, -⟩ := has_iff.1 hh
              have := (HY.out.2 r (hl r hr) e).1
              rw [hY0] at this
              cases this
          rw [e1, e2, form_none (how_none how) (fun x y => by rw [hno a (fun r h => .inl h), hno b (fun r h => .inr h), how_none])]
          rfl
      have Hfin := Lib.hid hfin
      have hl2 := Hln.out
      obtain ⟨pl, cl, hbl2⟩ : ∃ p c, u10 = .slice p s.2.length c := owns_slice hl
      obtain ⟨po, co, hoo⟩ : ∃ p c, u9 = .slice p s.1.length c := owns_slice ho
      subst hbl2
      subst hoo
      obtain ⟨p2, c2, he, -, -, hsrc⟩ := RwG.src (enc := encR) (k := 4) (fun _ => rfl) (by decide) (RwG.owned (enc := encR) (k := 4) (fun _ => rfl) hl)
      simp only [Value.slice.injEq, true_and] at he
      obtain ⟨rfl, rfl⟩ := he
      have Hsrc := Lib.hid hsrc
      have Ho := Lib.hid ho
      have hs04 := Hb04.out.size
      have hsb := Hb.out.size
      have hyl := Hyl.out
      obtain ⟨i0', hi0, hz0, hz1', hz2⟩ := info_parts rc_info
      clear ho hl hsrc hfin
      generalize s.1 = out at *
      generalize s.2 = last at *
      go_wp2_with (at_builtin; refine wpList_append_mine _ rfl (.tmp 180) (.tmp 181) 22 rfl w.heap.size 37 i0' _ 4 32 Tryz.underlying22 hi0 hz0 hz1' hz2 rfl (by decide) (.slice po out.length co) out.length (flatR out) rfl Ho.out pl last.length cl (flatR last) rfl (flatR_len _) Hsrc.out (encR_one _) ?q3 ?q4 ?q5 ?_)
      case q3 => simp only [maxLen]; omega
      case q4 => omega
      case q5 => omega
      intro v9 w9 r9 gr9 pl9
      have ht9 : Turns (fun q => (Value.slice po out.length co).ownBlock = some q) wr w9 := Turns.of_grown gr9 (fun i h => h)
      have Hb9 := Lib.hid (show Below w.heap.size w w9 from Hb04.out.trans ((Hb.out.trans (ht9.below (B := w4.heap.size) hsb (fun q hq => Hbl.out.1 q hq))).mono hs04))
      have Hr9 : Hid (w9.ownsRow w.heap.size 37 4 v9 (out ++ last).length (flatR (out ++ last))) := Lib.hid (by
        have e : flatR (out ++ last) = flatR out ++ flatR last := by simp [flatR]
        rw [List.length_append, e]
        exact r9)
      clear r9 gr9 pl9 ht9
      go_wp2
      go_ret
      exact ⟨_, rfl, by rw [Hfin.out]; exact Hr9.out, Hb9.out⟩

end Go.Proofs.YtajoipmchgabfaaGreat
