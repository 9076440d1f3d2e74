/- Several texts in one, each with its own head. -/
import Derived.Handy
import Derived.BigRegion
import Derived.Deep.RegionLaw
import Derived.Deep.AppendLies
import Derived.Test.YtoladolgmeanhaaGreatRE2
namespace Go.Proofs.YtoladolgmeanhaaGreat
open Go.RowKit
attribute [local go_sem] Oper.semAt_some
theorem rlO_map (l : List Nat) : rlO (l.map rlw) = rlO l := by
  have key : ∀ (r : List Nat) (n c : Nat), rgo n c (r.map rlw) = rgo n c r := by
    intro r
    induction r with
    | nil => intro n c; rfl
    | cons x r ih =>
      intro n c
      show (if rlw (rlw x) = c ∧ n < 256 then rgo (n + 1) c (r.map rlw) else (n, c) :: rgo 1 (rlw (rlw x)) (r.map rlw)) = _
      rw [rlw_rlw, ih, ih]; rfl
  cases l with
  | nil => rfl
  | cons x r => show rgo 1 (rlw (rlw x)) (r.map rlw) = rgo 1 (rlw x) r; rw [rlw_rlw, key]
set_option maxRecDepth 20000 in
set_option maxHeartbeats 4000000 in
theorem refEncode_any (p : Option Addr) (c : Nat) (l : List Nat) (w : World) (hp : RowAt encP 1 w p l) (hl : l.length ≤ 1048576) :
    Calls Tryz.prog 26 #[.slice p l.length c] w fun e w' => ∃ v', e = .returned v' ∧ w'.ownsRow w.heap.size 5 1 v' (rlBs (rlO l)).length ((rlBs (rlO l)).map u8v) ∧ Below w.heap.size w w' := by
  have Hp := Lib.hid hp
  have hcut := rcut_any p c l w hp hl
  obtain ⟨i0, hi0, hz0, hz1, hz2⟩ := info_parts u8_info
  rw [← rlO_map l]
  have hlow : ∀ i, (l.map rlw).getD i 0 < 16777216 := fun i => by
    rw [List.getD_eq_getElem?_getD, List.getElem?_map]
    cases l[i]? with
    | none => decide
    | some x => exact rlw_lt x
  have hfix : (l.map rlw).map rlw = l.map rlw := by rw [List.map_map]; exact List.map_congr_left fun x _ => rlw_rlw x
  have hlm : (l.map rlw).length = l.length := List.length_map _
  rw [← hlm] at hl
  obtain ⟨L, hL⟩ : ∃ L, l.map rlw = L := ⟨_, rfl⟩
  rw [hL] at hcut hlow hfix hl ⊢
  have hrl : ∀ i, rlw (L.getD i 0) = L.getD i 0 := fun i => Nat.mod_eq_of_lt (hlow i)
  have Hcut := Lib.hid hcut
  have Hlow := Lib.hid hlow
  have Hrl := Lib.hid hrl
  obtain ⟨n, hn⟩ : ∃ n, L.length = n := ⟨_, rfl⟩
  have Hn := Lib.hid hn
  rw [hn] at hl Hcut
  clear hp hcut hlow hfix hlm hL hrl hn
  go_enter Tryz.func26, Tryz.ntmps26
  go_wp2_with fail
  refine Calls.mono Hcut.out ?_
  rintro _ w1 ⟨v1, rfl, ho1, hb1⟩
  have HR := Lib.hid (Row.ownP (by rw [Hn.out]; exact ho1))
  obtain ⟨v1p, v1c, rfl⟩ := owns_slice ho1
  have Hb1 := Lib.hid hb1
  clear ho1 hb1 Hcut
  go_wp2_with fail
  go_loopw [4, 5, 6] (fun ov nv iv wr => ∃ (i m : Nat) (o : List Nat), nv = .int .i64 (m : Int) ∧ iv = .int .i64 (i : Int) ∧ i ≤ n ∧ m ≤ 255 ∧ o.length ≤ 4 * i ∧ Hid (m = 0 ∧ rlBs (rlO L) = o ++ rlBs (rlO (L.drop i)) ∨ 0 < m ∧ i < n ∧ rlBs (rlO L) = o ++ rlBs (rgo m (L.getD i 0) (L.drop i))) ∧ Hid (wr.ownsRow w1.heap.size 5 1 ov o.length (o.map u8v)) ∧ Hid (Below w1.heap.size w1 wr)) (fun _ _ iv _ => n - (intOf iv).toNat)
  case atStart => exact ⟨0, 0, [], rfl, rfl, Nat.zero_le _, by omega, by simp, Lib.hid (.inl ⟨rfl, rfl⟩), Lib.hid (World.ownsRow_nil _ _ _ _), Lib.hid (Below.refl _ _)⟩
  case round =>
    obtain ⟨i, m, o, rfl, rfl, hi, hm, hol, HE, HO, HB⟩ := hrel
    obtain ⟨vp, vc, rfl⟩ := owns_slice HO.out
    by_cases hin : i < n
    · have d1 : decide ((i : Int) < (n : Int)) = true := by simp; omega
      obtain ⟨pp, cc, e, -, -, hrow⟩ := HR.out.below HB.out
      injection e with e e2 e3
      subst e
      clear e2 e3
      obtain ⟨g, off, rfl, hc⟩ := hrow.pxs (by rw [Hn.out]; omega)
      have x0 := hc i (by rw [Hn.out]; omega)
      have hx24 := Hlow.out i
      obtain ⟨x, hx⟩ : ∃ x, L.getD i 0 = x := ⟨_, rfl⟩
      rw [hx] at x0 hx24
      have Hx := Lib.hid hx
      have k0 : (0 : Int) ≤ (i : Int) := by omega
      have k1 : (i : Int) < (n : Int) := by omega
      have HE2 : Hid (rlBs (rlO L) = o ++ rlBs (rgo (m + 1) x (L.drop (i + 1)))) := Lib.hid (by
        have hdrop : L.drop i = x :: L.drop (i + 1) := by
          rw [List.drop_eq_getElem_cons (by rw [Hn.out]; exact hin), ← hx, List.getD_eq_getElem?_getD, List.getElem?_eq_getElem (by rw [Hn.out]; exact hin)]; rfl
        have hxx : rlw x = x := Nat.mod_eq_of_lt hx24
        rcases HE.out with ⟨h0, h1⟩ | ⟨h0, -, h1⟩
        · rw [h1, hdrop, h0]
          show _ = o ++ rlBs (rgo 1 x _)
          rw [← hxx]; conv => lhs; rw [hxx]
          show o ++ rlBs (rgo 1 (rlw x) _) = _
          rw [hxx]
        · rw [h1, hx, hdrop, rgo_more hxx (by omega)])
      clear hx HE
      have hm2 : (m : Int) + 1 = ((m + 1 : Nat) : Int) := by omega
      obtain ⟨u, hu⟩ : ∃ u, m + 1 = u := ⟨_, rfl⟩
      have hu1 : (m : Int) + 1 = (u : Int) := by omega
      have hu2 : 1 ≤ u := by omega
      have hu3 : u ≤ 256 := by omega
      rw [hu] at HE2
      obtain ⟨j, hj⟩ : ∃ j, i + 1 = j := ⟨_, rfl⟩
      have hj1 : (i : Int) + 1 = (j : Int) := by omega
      rw [hj] at HE2
      have hji : j ≤ n := by omega
      have hwj : IntKind.i64.wrap (j : Int) = (j : Int) := IntWalk.i64_in _ (by omega)
      clear hm2 hu
      by_cases hgo : j < n ∧ L.getD j 0 = x ∧ u < 256
      · obtain ⟨g1, g2, g3⟩ := hgo
        have x1 := hc j (by rw [Hn.out]; omega)
        rw [g2] at x1
        have d2 : decide ((j : Int) < (n : Int)) = true := by simp; omega
        have d3 : ((x : Int) == (x : Int)) = true := by simp
        have d4 : decide ((u : Int) < 256) = true := by simp; omega
        have k2 : (0 : Int) ≤ (j : Int) := by omega
        have k3 : (j : Int) < (n : Int) := by omega
        have HE3 := Lib.hid (Or.inr (a := u = 0 ∧ rlBs (rlO L) = o ++ rlBs (rlO (L.drop j))) (show 0 < u ∧ j < n ∧ rlBs (rlO L) = o ++ rlBs (rgo u (L.getD j 0) (L.drop j)) from ⟨by omega, g1, by rw [g2]; exact HE2.out⟩))
        clear hc g2 HE2
        go_upto_region 8 with (fail)
        go_quiet (fail)
        rename_i nq
        have HB2 := Lib.hid (Below.drewN' HB.out nq)
        have HO2 := Lib.hid ((Turns.of_below' (T := fun _ => False) (Below.drewN' (Below.refl wr.heap.size wr) nq)).owns HO.out (fun _ _ h => h))
        generalize wr.drewN nq = W2 at *
        clear x0 x1
        go_wp2
        go_roundw
        case rel => exact ⟨j, u, o, by go_num, by go_num, by omega, by omega, by omega, HE3, HO2, HB2⟩
        case measure => simp [intOf]; omega
      · have HE3 : Hid (rlBs (rlO L) = (o ++ rlB (u, x)) ++ rlBs (rlO (L.drop j))) := Lib.hid (by
          rw [HE2.out, rgo_stop, List.append_assoc]
          · rfl
          · by_cases h1 : u = 256
            · exact .inl h1
            · right
              by_cases h2 : j < n
              · right
                refine ⟨L.getD j 0, L.drop (j + 1), ?_, ?_⟩
                · rw [List.drop_eq_getElem_cons (by rw [Hn.out]; exact h2), List.getD_eq_getElem?_getD, List.getElem?_eq_getElem (by rw [Hn.out]; exact h2)]; rfl
                · rw [Hrl.out]; intro h; exact hgo ⟨h2, h, by omega⟩
              · left
                rw [List.drop_of_length_le (by rw [Hn.out]; omega)])
        have Hu := Lib.hid (And.intro hu2 hu3)
        go_upto_region 8 with (fail)
        go_cut [37] (fun s wx => s = .bool false ∧ ∃ nq : Nat, wx = wr.drewN nq)
        case first =>
          by_cases g1 : j < n
          · have d2 : decide ((j : Int) < (n : Int)) = true := by simp; omega
            have x1 := hc j (by rw [Hn.out]; omega)
            obtain ⟨y, hy⟩ : ∃ y, L.getD j 0 = y := ⟨_, rfl⟩
            rw [hy] at x1 hgo
            have k2 : (0 : Int) ≤ (j : Int) := by omega
            have k3 : (j : Int) < (n : Int) := by omega
            by_cases g2 : y = x
            · have d3 : ((y : Int) == (x : Int)) = true := by simp; omega
              have d4 : decide ((u : Int) < 256) = false := by simp; exact Classical.byContradiction fun h => hgo ⟨g1, g2, by omega⟩
              clear hc hy hgo HE2
              go_quiet (fail)
              go_wp2_with fail
              go_meet
              exact ⟨rfl, _, rfl⟩
            · have d3 : ((y : Int) == (x : Int)) = false := by simp; omega
              clear hc hy hgo HE2
              go_quiet (fail)
              go_wp2_with fail
              go_meet
              exact ⟨rfl, _, rfl⟩
          · have d2 : decide ((j : Int) < (n : Int)) = false := by simp; omega
            clear hc hgo HE2
            go_quiet (fail)
            go_wp2_with fail
            go_meet
            exact ⟨rfl, _, rfl⟩
        case rest =>
          obtain ⟨rfl, nq, hwx⟩ := hcut
          have hwx2 := hwx.symm
          subst hwx2
          clear hgo hc HE2
          have hd := Below.drewN' (Below.refl wr.heap.size wr) nq
          have x0 := cell_later hd x0
          have HB2 := Lib.hid (Below.thn HB.out hd)
          have HO2 := Lib.hid ((Turns.of_below' (T := fun _ => False) hd).owns HO.out (fun _ _ h => h))
          generalize wr.drewN nq = W2 at *
          clear hd HB HO
          obtain ⟨a1, ha1⟩ : ∃ a, u - 1 = a := ⟨_, rfl⟩
          obtain ⟨a2, ha2⟩ : ∃ a, x / 65536 = a := ⟨_, rfl⟩
          obtain ⟨b3, hb3⟩ : ∃ a, x / 256 = a := ⟨_, rfl⟩
          obtain ⟨a3, ha3⟩ : ∃ a, b3 % 256 = a := ⟨_, rfl⟩
          obtain ⟨a4, ha4⟩ : ∃ a, x % 256 = a := ⟨_, rfl⟩
          have e1 : (u : Int) - 1 = (a1 : Int) := by omega
          have e2 : (x : Int) / 65536 = (a2 : Int) := by omega
          have e3 : (x : Int) / 256 = (b3 : Int) := by omega
          have e3' : (b3 : Int) % 256 = (a3 : Int) := by omega
          have e4 : (x : Int) % 256 = (a4 : Int) := by omega
          have l1 : a1 ≤ 255 := by omega
          have l2 : a2 ≤ 255 := by omega
          have l3 : a3 ≤ 255 := by omega
          have l4 : a4 ≤ 255 := by omega
          have Hb : Hid (rlB (u, x) = [a1, a2, a3, a4]) := Lib.hid (by show [u - 1, x / 65536, x / 256 % 256, x % 256] = _; rw [ha1, ha2, hb3, ha3, ha4])
          have wu : ∀ a : Nat, a ≤ 255 → IntKind.u8.wrap (a : Int) = (a : Int) := fun a h => by rw [IntKind.wrap_u8]; omega
          have ww1 : IntKind.i64.wrap (a1 : Int) = (a1 : Int) := IntWalk.i64_in _ (by omega)
          have ww2 : IntKind.u32.wrap (a2 : Int) = (a2 : Int) := by rw [IntKind.wrap_u32]; omega
          have ww3 : IntKind.u32.wrap (b3 : Int) = (b3 : Int) := by rw [IntKind.wrap_u32]; omega
          have ww4 := wu a1 l1
          have ww5 := wu a2 l2
          have ww6 := wu a3 l3
          have ww7 := wu a4 l4
          have t3 : Int.tmod (b3 : Int) 256 = (a3 : Int) := by rw [Int.tmod_eq_emod_of_nonneg (by omega)]; exact e3'
          have t4 : Int.tmod (x : Int) 256 = (a4 : Int) := by rw [Int.tmod_eq_emod_of_nonneg (by omega)]; exact e4
          have hs0 : w1.heap.size ≤ W2.heap.size := HB2.out.size
          clear ha1 ha2 ha3 ha4 hb3 hu2 hu3 wu
          go_upto_region 9 with (fail)
          have q1 := cell_later (Below.al1 W2 (.cells #[.int .u8 (a1 : Int), .int .u8 (a2 : Int), .int .u8 (a3 : Int), .int .u8 (a4 : Int)] 5)) x0
          go_region_law (refine step_append_lies _ (by rfl) (.tmp 38) (.tmp 61) 25 (by rfl) w1.heap.size 5 i0 _ 1 1 Tryz.underlying25 hi0 hz0 hz1 hz2 rfl (by decide) (.slice vp o.length vc) o.length (o.map u8v) (by rfl) (owns_drewR (HO2.out.alloc _)) _ 4 4 [.int .u8 (a1 : Int), .int .u8 (a2 : Int), .int .u8 (a3 : Int), .int .u8 (a4 : Int)] (by rfl) rfl (fun j u hu => news_drewR _ _ [.int .u8 (a1 : Int), .int .u8 (a2 : Int), .int .u8 (a3 : Int), .int .u8 (a4 : Int)] j u hu) (one8 [a1, a2, a3, a4]) (by decide) (by simp only [maxLen]; omega) (by omega) (by simp; omega) (W2.heap.size + 1) (by simp) ?_; intro g5 cap5 w9 hown5 hgr5 hpl5 hlt5)
          all_goals
            have Ho5 : Hid (w9.ownsRow w1.heap.size 5 1 (.slice (some ⟨g5, 0, none⟩) (o.length + 4) cap5) (o ++ rlB (u, x)).length ((o ++ rlB (u, x)).map u8v)) := Lib.hid (by
              rw [Hb.out, List.length_append, List.map_append]; exact hown5)
            have hT : Turns (fun i => (Value.slice vp o.length vc).ownBlock = some i) W2 w9 := (Turns.of_below' (Below.drew (Below.al1 W2 _))).trans (Turns.of_grown hgr5 (fun _ h => h))
            have HB5 : Hid (Below w1.heap.size w1 w9) := Lib.hid (HB2.out.trans (hT.below HB2.out.size (fun i hi => (HO2.out.lt i hi).1)))
            have hlen5 : (o ++ rlB (u, x)).length ≤ 4 * j := by rw [Hb.out, List.length_append]; simp only [List.length_cons, List.length_nil]; omega
            clear hown5 hgr5 hpl5 hlt5 hT q1 x0 e1 e2 e3 e3' e4 ww1 ww2 ww3 ww4 ww5 ww6 ww7 t3 t4
            go_wp2
            go_roundw
            case rel => exact ⟨j, 0, _, rfl, by go_num, by omega, by omega, hlen5, Lib.hid (.inl ⟨rfl, HE3.out⟩), Ho5, HB5⟩
            case measure => simp [intOf]; omega
    · obtain rfl : i = n := by omega
      have d1 : decide ((i : Int) < (i : Int)) = false := by simp
      have HX : Hid (rlBs (rlO L) = o) := Lib.hid (by
        rcases HE.out with ⟨h0, h1⟩ | ⟨h0, h1, -⟩
        · rw [h1, ← Hn.out, List.drop_length]; simp [rlO, rlBs]
        · omega)
      go_wp2
      go_ret
      refine ⟨_, rfl, ?_, Below.thn Hb1.out HB.out⟩
      rw [HX.out]
      exact owns_base HO.out Hb1.out.size
end Go.Proofs.YtoladolgmeanhaaGreat

namespace Go.Proofs.YtoladolgmeanhaaGreat
open Go.RowKit
attribute [local go_sem] Oper.semAt_some
attribute [local go_sem] run_store_funcC
instance (wd ht : Int) (n : Nat) : Decidable (cdM wd ht n) := by unfold cdM; infer_instance
end Go.Proofs.YtoladolgmeanhaaGreat

namespace Go.Proofs.YtoladolgmeanhaaGreat
open Go.RowKit
attribute [local go_sem] Oper.semAt_some
set_option maxRecDepth 20000 in
set_option maxHeartbeats 8000000 in
theorem crefEncode_any (wd ht : Int) (p ps : Option Addr) (n c ms cs : Nat) (l S : List Nat) (w : World) (hv : Row encP 1 w (.slice p n c) l) (hs : Row enc8 1 w (.slice ps ms cs) S) :
    Calls Tryz.prog 13 #[.agg #[.int .i64 wd, .int .i64 ht, .slice p n c], .slice ps ms cs] w fun e w' => Below w.heap.size w w' ∧ ((¬ cdM wd ht n ∧ e = .returned (.tuple #[.int .u8 0, .slice none 0 0, .int .i64 1])) ∨
      (cdM wd ht n ∧ ∃ v, e = .returned (.tuple #[.int .u8 ((cdE l S).1 : Int), v, .int .i64 0]) ∧ Row enc8 1 w' v (cdE l S).2)) := by
  have hlen := hv.lenR
  have hms := hs.lenR
  have Hv := Lib.hid hv
  have Hst := Lib.hid hs
  have Hlen := Lib.hid hlen
  have Hms := Lib.hid hms
  clear hv hs hlen hms
  go_enter Tryz.func13, Tryz.ntmps13
  go_upto_region 1 with (fail)
  have hI := ImB.new w wd ht (.slice p n c)
  have hb0 := Below.al1 w (.cells #[.int .i64 wd, .int .i64 ht, .slice p n c] 24)
  generalize w.alloc (.cells #[.int .i64 wd, .int .i64 ht, .slice p n c] 24) = W0 at *
  obtain ⟨B, hB⟩ : ∃ B, w.heap.size = B := ⟨_, rfl⟩
  rw [hB] at hI ⊢
  have Hb0 := Lib.hid hb0
  have HB := Lib.hid hB
  clear hb0 hB
  obtain ⟨c0, c1, c2⟩ := hI.c
  have HI := Lib.hid hI
  obtain ⟨f, hf⟩ : ∃ f, decide (cdM wd ht n) = f := ⟨_, rfl⟩
  have Hf := Lib.hid hf
  go_wp2_with fail
  refine Calls.mono (refMay_any wd ht p n c W0 f hf) ?_
  rintro _ w1 ⟨rfl, hb1⟩
  have Hb1 := Lib.hid (Below.thn Hb0.out hb1)
  obtain ⟨x0, x1, x2⟩ := (HI.out.later hb1).c
  have HI1 := Lib.hid (HI.out.later hb1)
  clear hf hb1 c0 c1 c2 hI
  cases f
  case false =>
    go_wp2
    go_ret3
    rw [← HB.out]
    exact ⟨Hb1.out, .inl ⟨of_decide_eq_false Hf.out, rfl⟩⟩
  have HM : Hid (cdM wd ht n) := Lib.hid (of_decide_eq_true Hf.out)
  have hn1 := cd_nat HM.out
  go_wp2_with fail
  refine Calls.mono (plain_w (Hv.out.below Hb1.out) (by omega)) ?_
  rintro _ w2 ⟨p2, c2, rfl, hb2, hr2⟩
  have HR2 := Lib.hid (hr2 _ (Below.refl _ _)).row
  have Hb2 := Lib.hid (Below.thn Hb1.out hb2)
  obtain ⟨y0, y1, y2⟩ := (HI1.out.later hb2).c
  have HI2 := Lib.hid (HI1.out.later hb2)
  have hv2 := (Hv.out.below Hb2.out).at'.1
  have hrun := refEncode_any p c l w2 hv2 (by rw [Hlen.out]; omega)
  rw [Hlen.out] at hrun
  obtain ⟨m, hm⟩ : ∃ m, 3 * n = m := ⟨_, rfl⟩
  have Hm := Lib.hid hm
  rw [hm] at HR2 ⊢
  clear hb2 hr2 x0 x1 x2 hv2
  go_wp2_with fail
  refine Calls.mono hrun ?_
  rintro _ w3 ⟨v3, rfl, ho3, hb3⟩
  have HR3 := Lib.hid (own_rowB ho3)
  have HR23 := Lib.hid (HR2.out.below hb3)
  obtain ⟨R, hR⟩ : ∃ R, rlBs (rlO l) = R := ⟨_, rfl⟩
  have HRe := Lib.hid hR
  rw [hR] at ho3 HR3
  obtain ⟨p3, c3, rfl⟩ := owns_slice ho3
  have Hb3 := Lib.hid (Below.thn Hb2.out hb3)
  have HI3 := Lib.hid (HI2.out.later hb3)
  obtain ⟨z0, z1, z2⟩ := HI3.out.c
  have Hlp : Hid ((cdP l).length = m) := Lib.hid (by rw [cdP_len, Hlen.out, hm])
  clear hrun y0 y1 y2 ho3 hb3 hR hm
  go_upto_if 24 with (fail)
  go_cut [7, 8] (fun s7 s8 wy => wy = w3 ∧ ∃ (k : Nat) (b : List Nat) (q : Option Addr) (d : Nat), s7 = .slice q b.length d ∧ s8 = .int .u8 (k : Int) ∧ Hid (cdG l S 2 = (k, b) ∧ k ≠ 0 ∧ Row enc8 1 w3 (.slice q b.length d) b))
  case first =>
    by_cases h1 : R.length < m
    · have dl : decide (R.length < m) = true := by simpa using h1
      simp only [dl]
      have hg : cdG l S 2 = (2, R) := by
        rw [← HRe.out]
        exact cdS_yes ⟨rfl, .inr (by rw [cdG_one]; show (rlBs (rlO l)).length < (cdP l).length; rw [HRe.out, Hlp.out]; exact h1)⟩
      have Hg := Lib.hid (And.intro hg (And.intro (show (2 : Nat) ≠ 0 by decide) HR3.out))
      clear hg h1
      go_wp2_with fail
      go_meet
      exact ⟨rfl, 2, R, p3, c3, rfl, rfl, Hg⟩
    · have dl : decide (R.length < m) = false := by simpa using h1
      simp only [dl]
      have hg : cdG l S 2 = (1, cdP l) := cdS_no (fun h => h.2.elim (fun h => by rw [cdG_one] at h; cases h) (fun h => h1 (by
        rw [cdG_one] at h
        have h2 : (rlBs (rlO l)).length < (cdP l).length := h
        rwa [HRe.out, Hlp.out] at h2)))
      have Hg := Lib.hid (And.intro hg (And.intro (show (1 : Nat) ≠ 0 by decide) (show Row enc8 1 w3 (.slice p2 (cdP l).length c2) (cdP l) from by rw [Hlp.out]; exact HR23.out)))
      clear hg h1
      go_wp2_with fail
      go_meet
      exact ⟨rfl, 1, cdP l, p2, c2, by rw [Hlp.out], rfl, Hg⟩
  case rest =>
    obtain ⟨hwc, k, b, q, d, rfl, rfl, HG2⟩ := hcut
    obtain rfl := hwc.symm
    have HI4 := HI3
    have Hps4 := Lib.hid (Hst.out.below Hb3.out)
    obtain ⟨z0, z1, z2⟩ := HI3.out.c
    have hpal := prefEncode_any p c l w3 (Hv.out.below Hb3.out).at'.1 (by rw [Hlen.out]; omega)
    rw [Hlen.out] at hpal
    obtain ⟨E, hE⟩ : ∃ E, plE l = E := ⟨_, rfl⟩
    have HE := Lib.hid hE
    rw [hE] at hpal
    obtain ⟨eb, eis⟩ := E
    dsimp only at hpal
    clear hE
    go_wp2_with fail
    refine Calls.mono hpal ?_
    rintro _ w5 ⟨v5, rfl, ho5, hb5⟩
    have HR5 := Lib.hid (own_rowB ho5)
    obtain ⟨p5, c5, rfl⟩ := owns_slice ho5
    have Hb5 := Lib.hid (Below.thn Hb3.out hb5)
    have HG5 : Hid (cdG l S 2 = (k, b) ∧ k ≠ 0 ∧ Row enc8 1 w5 (.slice q b.length d) b) := Lib.hid ⟨HG2.out.1, HG2.out.2.1, HG2.out.2.2.below hb5⟩
    have Hps5 := Lib.hid (Hps4.out.below hb5)
    clear hpal z0 z1 z2 ho5 hb5
    obtain ⟨t, ht⟩ : ∃ t, (eis && decide (eb.length < b.length)) = t := ⟨_, rfl⟩
    have Ht := Lib.hid ht
    clear ht
    go_upto_region 10 with (fail)
    go_cut [39] (fun s39 wy => s39 = .bool t ∧ wy = w5)
    case first =>
      have ht := Ht.out
      cases eis
      · go_wp2_with fail
        go_meet
        exact ⟨by (rw [← ht]; try simp), rfl⟩
      · go_wp2_with fail
        go_meet
        exact ⟨by (rw [← ht]; try simp), rfl⟩
    case rest =>
    obtain ⟨rfl, hwe⟩ := hcut
    obtain rfl := hwe.symm
    go_upto_if 39 with (fail)
    go_cut [7, 8] (fun s7 s8 wy => wy = w5 ∧ ∃ (k : Nat) (b : List Nat) (q : Option Addr) (d : Nat), s7 = .slice q b.length d ∧ s8 = .int .u8 (k : Int) ∧ Hid (cdG l S 3 = (k, b) ∧ k ≠ 0 ∧ Row enc8 1 w5 (.slice q b.length d) b))
    case first =>
      cases t
      · have hg : cdG l S 3 = (k, b) := by
          show cdS (cdG l S 2) 3 (plE l).1 (plE l).2 = _
          rw [HG5.out.1, HE.out]
          refine cdS_no (fun h => h.2.elim (fun h => HG5.out.2.1 h) (fun h2 => ?_))
          have h3 := Ht.out
          rw [show eis = true from h.1, decide_eq_true h2] at h3
          cases h3
        have Hg := Lib.hid (And.intro hg (And.intro HG5.out.2.1 HG5.out.2.2))
        clear hg
        go_wp2_with fail
        go_meet
        exact ⟨rfl, k, b, q, d, rfl, rfl, Hg⟩
      · have hg : cdG l S 3 = (3, eb) := by
          show cdS (cdG l S 2) 3 (plE l).1 (plE l).2 = _
          rw [HG5.out.1, HE.out]
          have h3 := Ht.out
          rw [Bool.and_eq_true, decide_eq_true_eq] at h3
          exact cdS_yes ⟨h3.1, .inr h3.2⟩
        have Hg := Lib.hid (And.intro hg (And.intro (show (3 : Nat) ≠ 0 by decide) HR5.out))
        clear hg
        go_wp2_with fail
        go_meet
        exact ⟨rfl, 3, eb, p5, c5, rfl, rfl, Hg⟩
    case rest =>
      obtain ⟨hwd, k3, b3, q3, d3, rfl, rfl, HG6⟩ := hcut
      obtain rfl := hwd.symm
      have HmsS : Hid (ms = S.length) := Lib.hid Hms.out.symm
      by_cases h1 : ms < b3.length
      · have dl : decide (ms < b3.length) = true := by simpa using h1
        have hg : cdE l S = (4, S) := by
          show cdS (cdG l S 3) 4 S true = _
          rw [HG6.out.1]
          exact cdS_yes ⟨rfl, .inr (by rw [← HmsS.out]; exact h1)⟩
        have Hg := Lib.hid hg
        clear hg h1
        go_wp2
        go_ret3
        rw [← HB.out, Hg.out]
        exact ⟨Hb5.out, .inr ⟨HM.out, _, rfl, Hps5.out⟩⟩
      · have dl : decide (ms < b3.length) = false := by simpa using h1
        have hg : cdE l S = (k3, b3) := by
          show cdS (cdG l S 3) 4 S true = _
          rw [HG6.out.1]
          exact cdS_no (fun h => h.2.elim (fun h => HG6.out.2.1 h) (fun h2 => h1 (by rw [HmsS.out]; exact h2)))
        have Hg := Lib.hid hg
        clear hg h1
        go_wp2
        go_ret3
        rw [← HB.out, Hg.out]
        exact ⟨Hb5.out, .inr ⟨HM.out, _, rfl, HG6.out.2.2⟩⟩
end Go.Proofs.YtoladolgmeanhaaGreat
