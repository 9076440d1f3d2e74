/- The walk of the statement BitsReads. -/
import Derived.Test.YtlagddnpomkabaaBitH
import Derived.Deep.RegionHeld3
namespace Go.Proofs.Ytlagddnpomkabaa
open Go.RowKit

theorem in_at (bl : List Nat) (k : Nat) (h : k < bl.length) : ((List.replicate k 7 ++ bl.drop k).map u8v)[k]? = some (.int .u8 (bl[k] : Int)) := by
  rw [List.getElem?_map, List.getElem?_append_right (by simp)]
  simp [h, u8v]
theorem in_set (bl : List Nat) (k : Nat) (h : k < bl.length) : ((List.replicate k 7 ++ bl.drop k).map u8v).set k (.int .u8 7) = (List.replicate (k + 1) 7 ++ bl.drop (k + 1)).map u8v := by
  have e : (bl.drop k).map u8v = u8v bl[k] :: (bl.drop (k + 1)).map u8v := by rw [List.drop_eq_getElem_cons h]; rfl
  rw [List.map_append, List.set_append_right _ _ (by simp), e, show k - ((List.replicate k 7).map u8v).length = 0 by simp, List.set_cons_zero, List.replicate_succ', List.map_append, List.map_append, List.append_assoc]
  rfl

set_option maxHeartbeats 16000000 in
set_option maxRecDepth 100000 in
theorem breads_any (vb : Value) (bl : List Nat) (va : Value) (l : List BAct) (w : World) (hb : Rw8 w vb bl) (bb : ∀ x ∈ bl, x < 256) (ha : RwA w va l) (_ba : ∀ a ∈ l, a.v < 4294967296) :
    Makes Try.prog 4 #[vb, va] w (.bool true) := by
  unfold Makes
  obtain ⟨p, c, rfl, -, -, -⟩ := RwA.cells ha
  have hla63 := ha.row.len
  have hlb63 := hb.row.len
  obtain ⟨pb, cb, rfl, -, -, hsb⟩ := hb.src enc8_len (by decide)
  rw [flat8] at hsb
  by_cases h100 : l.length ≤ 100
  · by_cases h500 : bl.length ≤ 500
    · have d1 : decide ((100 : Int) < (l.length : Int)) = false := by simp; omega
      have d2 : decide ((500 : Int) < (bl.length : Int)) = false := by simp; omega
      obtain ⟨i0, hi0, hz0, hz1, hz2⟩ := info_parts u8_info
      have Hsb := Lib.hid hsb
      have HB := Lib.hid hb
      have HA := Lib.hid ha
      have Hbb := Lib.hid bb
      clear hb ha hsb bb hla63 hlb63
      go_enter Try.func4, Try.ntmps4
      go_wp2_with (at_builtin; refine wpList_append_mine _ rfl (.tmp 24) (.tmp 25) 23 rfl w.heap.size 5 i0 _ 1 1 Try.underlying23 hi0 hz0 hz1 hz2 rfl (by decide) (.slice none 0 0) 0 [] rfl (World.ownsRow_nil _ _ _ _) pb bl.length cb (bl.map u8v) rfl (by simp) Hsb.out (one8 bl) ?n3 ?n4 (Nat.le_refl _) ?_)
      case n3 => simp only [maxLen]; omega
      case n4 => omega
      intro v1 w1 ho1 hg1 _
      have hb1 : Below w.heap.size w w1 := (Turns.of_grown (T := fun _ => False) hg1 (fun i e => by cases e)).below (Nat.le_refl _) (fun i h => h.elim)
      obtain ⟨pi, ci, rfl⟩ := owns_slice ho1
      have Ho1 := Lib.hid ho1
      have Hb1 := Lib.hid hb1
      clear ho1 hg1 hb1
      go_wp2_with fail
      refine Calls.mono (new_any _ bl _ (Rw8.own Ho1.out rfl) Hbb.out (by omega)) ?_
      rintro e w2 ⟨Br, sv, rfl, hr2, hb2, hB2, hs2⟩
      have Ho2 := Lib.hid ((Turns.of_below' (T := fun _ => False) hb2).owns Ho1.out (fun _ _ h => h))
      have Hr2 := Lib.hid hr2
      have Hb2 := Lib.hid (Hb1.out.trans (hb2.mono Hb1.out.size))
      have HBr := Lib.hid (show w.heap.size ≤ Br from Nat.le_trans Hb1.out.size hB2)
      have Hap := Lib.hid (show ∀ q, (Value.slice pi bl.length ci).ownBlock = some q → q ≠ Br ∧ (∀ k, sv.ownBlock = some k → q ≠ k) ∧ w.heap.size ≤ q from fun q hq => by
        have h1 := Ho1.out.lt q hq
        refine ⟨by omega, fun k hk => ?_, h1.1⟩
        have := hs2 k hk
        omega)
      clear hr2 hb2 hB2 hs2 Ho1 Hb1
      go_wp2
      go_loopw [7] (fun i wr => ∃ k : Nat, i = .int .i64 (k : Int) ∧ k ≤ bl.length ∧ Hid (wr.ownsRow w.heap.size 5 1 (.slice pi bl.length ci) bl.length ((List.replicate k 7 ++ bl.drop k).map u8v)) ∧ Hid (Rd wr Br sv bl 0) ∧ Hid (Below w.heap.size w wr)) (fun i _ => bl.length - (intOf i).toNat)
      case atStart => exact ⟨0, rfl, Nat.zero_le _, Lib.hid (by simpa using Ho2.out), Hr2, Hb2⟩
      case round =>
        obtain ⟨k, rfl, hk, Ho, Hr, Hb⟩ := hrel
        by_cases hlt : k < bl.length
        · obtain ⟨gi, hpi⟩ : ∃ gi, pi = some ⟨gi, 0, none⟩ := by
            rcases Ho.out.2 with ⟨-, h0⟩ | ⟨g, cap, cur, hsv, -⟩
            · omega
            · cases hsv; exact ⟨g, rfl⟩
          subst hpi
          have hin := Ho.out.cellAt k (by omega)
          rw [in_at bl k hlt] at hin
          obtain ⟨_, _, e, -, -, hcell⟩ := Rw8.cells (HB.out.below Hb.out)
          cases e
          obtain ⟨gb, ob, rfl, hbc⟩ := hcell k hlt
          have hne : (((bl[k] : Nat) : Int) != ((bl[k] : Nat) : Int)) = false := by simp
          have hgi : gi < wr.heap.size := (Ho.out.lt gi rfl).2
          have hbd : ∀ nq, Below wr.heap.size wr (wr.drewN nq) := fun nq => Go.Proofs.Ytlagddnpomkabaa.Below.drewN' (Below.refl _ wr) nq
          have HX : Hid (∀ nq, ((wr.drewN nq).setCell ⟨gi, k, none⟩ (.int .u8 7)).ownsRow w.heap.size 5 1 (.slice (some ⟨gi, 0, none⟩) bl.length ci) bl.length ((List.replicate (k + 1) 7 ++ bl.drop (k + 1)).map u8v) ∧ Rd ((wr.drewN nq).setCell ⟨gi, k, none⟩ (.int .u8 7)) Br sv bl 0 ∧ Below w.heap.size w ((wr.drewN nq).setCell ⟨gi, k, none⟩ (.int .u8 7)) ∧ (wr.drewN nq).cell? ⟨gi, k, none⟩ = some (.int .u8 (bl[k] : Int)) ∧ (wr.drewN nq).frozen? ⟨gi, k, none⟩ = false) := Lib.hid (fun nq => by
            have h0 := (Turns.of_below' (T := fun _ => False) (hbd nq)).owns Ho.out (fun _ _ h => h)
            have h1 := h0.stored k (.int .u8 7)
            rw [in_set bl k hlt] at h1
            have h2 := h0.cellAt k (by omega)
            rw [in_at bl k hlt] at h2
            obtain ⟨a1, a2, a3⟩ := Hap.out gi rfl
            refine ⟨h1.1, ((Hr.out.below (hbd nq)).turns (Turns.of_grown (T := fun q => q = gi) h1.2 (fun i h => by cases h; rfl)) (fun h => a1 h.symm) (fun q hq h => a2 q hq h.symm)), ?_, h2, h0.frozenAt k⟩
            exact (Hb.out.trans ((hbd nq).mono Hb.out.size)).setCell (p := ⟨gi, k, none⟩) a3 _)
          clear hcell hbd
          have i0' : (0 : Int) ≤ (k : Int) := by omega
          have i1' : (k : Int) < (bl.length : Int) := by omega
          generalize bl[k] = x at *
          go_upto_region 11 with (fail)
          go_quiet (fail)
          obtain ⟨x1, x2, x3, x4, x5⟩ := HX.out nq
          have Ho2 := Lib.hid x1
          have Hr2 := Lib.hid x2
          have Hb2 := Lib.hid x3
          clear x1 x2 x3 HX hin hbc
          generalize wr.drewN nq = w9 at *
          go_wp2
          go_roundw
          case rel => exact ⟨k + 1, by go_num, by omega, Ho2, Hr2, Hb2⟩
          case measure => simp [intOf]; omega
        · obtain rfl : k = bl.length := by omega
          obtain ⟨wo, rfl⟩ : ∃ wo : World, wo = wr := ⟨_, rfl⟩
          go_wp2_with fail
          refine Calls.mono (refOf_any _ _ _ (HB.out.below Hb.out) Hbb.out (by omega)) ?_
          rintro e w3 ⟨u, rfl, ho3, hb3⟩
          have hlr := ofB_len bl
          have hnr := numL_ofB bl Hbb.out
          obtain ⟨r, hr⟩ : ∃ r, ofB bl = r := ⟨_, rfl⟩
          rw [hr] at ho3 hlr hnr
          obtain ⟨pu, cu, rfl⟩ := owns_slice ho3
          have hsz := Hr.out.size
          have Hub := Lib.hid (show ∀ q, (Value.slice pu r.length cu).ownBlock = some q → q ≠ Br from fun q hq => by
            have := (ho3.lt q hq).1; omega)
          have Hr3 := Lib.hid ho3.rw
          have Hd3 : Hid (RdS w.heap.size Br bl 0 w w3) := Lib.hid ⟨sv, Hr.out.below hb3, Hb.out.trans (hb3.mono Hb.out.size), HBr.out, Nat.le_trans Hb.out.size hb3.size⟩
          have Hnr := Lib.hid hnr
          rw [hlr] at Hr3 Hub ⊢
          have Hlr := Lib.hid hlr
          clear hr hnr ho3 hb3 hsz Hr Hb Ho hlr
          go_wp2
          go_loopw [9, 10] (fun av i wr => ∃ (k a : Nat), i = .int .i64 (k : Int) ∧ av = .int .i64 (a : Int) ∧ k ≤ l.length ∧ a ≤ 8 * bl.length ∧ Hid (RdS w.heap.size Br bl a w wr) ∧ Hid (RwB wr (.slice pu (8 * bl.length) cu) r)) (fun _ i _ => l.length - (intOf i).toNat)
          case atStart => exact ⟨0, 0, rfl, rfl, Nat.zero_le _, Nat.zero_le _, Hd3, Hr3⟩
          case round =>
            obtain ⟨k, a, rfl, rfl, hk, hle, Hd, Hr⟩ := hrel
            by_cases hlt : k < l.length
            · obtain ⟨_, _, e, -, -, hcell⟩ := RwA.cells (HA.out.below Hd.out.keeps)
              cases e
              obtain ⟨gl, ol, rfl, hact⟩ := hcell k hlt
              have Hc := Lib.hid (show ∀ W' : World, Below w.heap.size w W' → W'.cell? ⟨gl, ol + k * 3 + 1, none⟩ = some (.int .i64 l[k].n) from fun W' hb' => by
                obtain ⟨_, _, e, -, -, hcell⟩ := RwA.cells (HA.out.below hb')
                cases e
                obtain ⟨_, _, e, hact⟩ := hcell k hlt
                cases e
                exact hact.c1)
              obtain ⟨c0, c1, c2⟩ := hact
              clear hcell c0
              cases hal : l[k].al with
              | true =>
                rw [hal] at c2
                clear hal c1 Hc
                go_wp2
                obtain ⟨wi, rfl⟩ : ∃ wi : World, wi = wr := ⟨_, rfl⟩
                go_loop [9] (fun av => ∃ a1 : Nat, av = .int .i64 (a1 : Int) ∧ a1 ≤ alignN a ∧ Hid (alignN a1 = alignN a)) (fun av => alignN a - (intOf av).toNat)
                case atStart => exact ⟨a, rfl, alignN_le a, Lib.hid rfl⟩
                case round =>
                  obtain ⟨a1, rfl, ha1, Ha1⟩ := hrel
                  have haa : alignN a ≤ 4008 := by unfold alignN; omega
                  by_cases h8 : a1 % 8 = 0
                  · have hz : (((a1 : Int) % 8 : Int) != 0) = false := by simp; omega
                    have e1 : a1 = alignN a := by rw [← Ha1.out, alignN_of a1 h8]
                    have hle5 : alignN a ≤ 8 * bl.length := by unfold alignN; omega
                    subst e1
                    clear h8
                    go_wp2_with fail
                    refine Calls.mono (ralignS Hd.out) ?_
                    rintro e w5 ⟨rfl, hd5, ht5⟩
                    have Hd5 := Lib.hid hd5
                    have Hr5 := Lib.hid (Hr.out.turns ht5 Hub.out)
                    clear hd5 ht5 Hd Hr c2
                    have hne : (((8 * bl.length - alignN a : Nat) : Int) != ((8 * bl.length : Nat) : Int) - ((alignN a : Nat) : Int)) = false := by rw [bne_eq_false_iff_eq]; omega
                    have hne2 : (((alignN a : Nat) : Int) != ((alignN a : Nat) : Int)) = false := by simp
                    go_wp2_with fail
                    refine Calls.mono (atS Hd5.out) ?_
                    rintro e w6 ⟨rfl, rfl⟩
                    go_wp2_with fail
                    refine Calls.mono (leftS Hd5.out) ?_
                    rintro e w7 ⟨rfl, hb7⟩
                    have Hd7 := Lib.hid (Hd5.out.below hb7)
                    have Hr7 := Lib.hid (Hr5.out.below hb7)
                    clear hb7 Hd5 Hr5
                    go_wp2
                    go_roundw
                    case rel => exact ⟨k + 1, alignN a, by go_num, rfl, by omega, hle5, Hd7, Hr7⟩
                    case measure => simp [intOf]; omega
                  · have hz : (((a1 : Int) % 8 : Int) != 0) = true := by rw [bne_iff_ne]; omega
                    have Ha2 := Lib.hid (show alignN (a1 + 1) = alignN a by rw [alignN_rem a1 h8, Ha1.out])
                    have hlt2 : a1 + 1 ≤ alignN a := by rw [← Ha2.out]; exact alignN_le _
                    clear h8
                    go_wp2
                    go_round
                    case rel => exact ⟨a1 + 1, by go_num, hlt2, Ha2⟩
                    case measure => simp [intOf]; omega
              | false =>
                rw [hal] at c2
                clear hal
                generalize l[k].n = y at *
                by_cases hy : y < 0 ∨ 24 < y
                · have hle5 := hle
                  go_wp2_with fail
                  refine Calls.mono (refGet_arg _ _ y _ hy) ?_
                  rintro e w4 ⟨rfl, rfl⟩
                  go_wp2_with fail
                  refine Calls.mono (get_arg Br y _ hy) ?_
                  rintro e w5 ⟨rfl, rfl⟩
                  have Hd5 := Hd
                  have Hr5 := Hr
                  clear Hd Hr c1 c2 Hc hy
                  have hne : (((8 * bl.length - a : Nat) : Int) != ((8 * bl.length : Nat) : Int) - ((a : Nat) : Int)) = false := by rw [bne_eq_false_iff_eq]; omega
                  have hne2 : (((a : Nat) : Int) != ((a : Nat) : Int)) = false := by simp
                  go_wp2_with fail
                  refine Calls.mono (atS Hd5.out) ?_
                  rintro e w6 ⟨rfl, rfl⟩
                  go_wp2_with fail
                  refine Calls.mono (leftS Hd5.out) ?_
                  rintro e w7 ⟨rfl, hb7⟩
                  have Hd7 := Lib.hid (Hd5.out.below hb7)
                  have Hr7 := Lib.hid (Hr5.out.below hb7)
                  clear hb7 Hd5 Hr5
                  go_wp2
                  go_roundw
                  case rel => exact ⟨k + 1, a, by go_num, rfl, by omega, hle5, Hd7, Hr7⟩
                  case measure => simp [intOf]; omega
                · obtain ⟨m, rfl⟩ := Int.eq_ofNat_of_zero_le (show 0 ≤ y by omega)
                  have hm24 : m ≤ 24 := by omega
                  clear hy
                  by_cases hfit : a + m ≤ 8 * bl.length
                  · have hle5 := hfit
                    have hrg := refGet_ok _ r a m wr Hr.out hm24 (by rw [Hlr.out]; omega) (by rw [Hlr.out]; exact hfit)
                    rw [Hnr.out] at hrg
                    have Hrg := Lib.hid hrg
                    obtain ⟨y, hy⟩ : ∃ y, numB bl / 2 ^ a % 2 ^ m = y := ⟨_, rfl⟩
                    have Hy := Lib.hid hy
                    clear hrg hy
                    go_wp2_with fail
                    refine Calls.mono Hrg.out ?_
                    rintro e w4 ⟨rfl, rfl⟩
                    rw [Hy.out]
                    go_wp2_with fail
                    refine Calls.mono (getS_ok (k := m) Hd.out hm24 hfit) ?_
                    rintro e w5 ⟨rfl, hd5, ht5⟩
                    rw [Hy.out]
                    have hyy : (((y : Nat) : Int) != ((y : Nat) : Int)) = false := by simp
                    have Hd5 := Lib.hid hd5
                    have Hr5 := Lib.hid (Hr.out.turns ht5 Hub.out)
                    clear hd5 ht5 Hd Hr c1 c2 Hc Hrg
                    have hne : (((8 * bl.length - (a + m) : Nat) : Int) != ((8 * bl.length : Nat) : Int) - (((a + m) : Nat) : Int)) = false := by rw [bne_eq_false_iff_eq]; omega
                    have hne2 : ((((a + m) : Nat) : Int) != (((a + m) : Nat) : Int)) = false := by simp
                    go_wp2_with fail
                    refine Calls.mono (atS Hd5.out) ?_
                    rintro e w6 ⟨rfl, rfl⟩
                    go_wp2_with fail
                    refine Calls.mono (leftS Hd5.out) ?_
                    rintro e w7 ⟨rfl, hb7⟩
                    have Hd7 := Lib.hid (Hd5.out.below hb7)
                    have Hr7 := Lib.hid (Hr5.out.below hb7)
                    clear hb7 Hd5 Hr5
                    go_wp2
                    go_roundw
                    case rel => exact ⟨k + 1, (a + m), by go_num, rfl, by omega, hle5, Hd7, Hr7⟩
                    case measure => simp [intOf]; omega
                  · have hle5 := hle
                    go_wp2_with fail
                    refine Calls.mono (refGet_few _ (8 * bl.length) _ a m _ hm24 hle (by omega)) ?_
                    rintro e w4 ⟨rfl, rfl⟩
                    go_wp2_with fail
                    refine Calls.mono (getS_few (k := m) Hd.out hm24 (by omega)) ?_
                    rintro e w5 ⟨rfl, hb5⟩
                    have Hd5 := Lib.hid (Hd.out.below hb5)
                    have Hr5 := Lib.hid (Hr.out.below hb5)
                    clear hb5 Hd Hr c1 c2 Hc
                    have hne : (((8 * bl.length - a : Nat) : Int) != ((8 * bl.length : Nat) : Int) - ((a : Nat) : Int)) = false := by rw [bne_eq_false_iff_eq]; omega
                    have hne2 : (((a : Nat) : Int) != ((a : Nat) : Int)) = false := by simp
                    go_wp2_with fail
                    refine Calls.mono (atS Hd5.out) ?_
                    rintro e w6 ⟨rfl, rfl⟩
                    go_wp2_with fail
                    refine Calls.mono (leftS Hd5.out) ?_
                    rintro e w7 ⟨rfl, hb7⟩
                    have Hd7 := Lib.hid (Hd5.out.below hb7)
                    have Hr7 := Lib.hid (Hr5.out.below hb7)
                    clear hb7 Hd5 Hr5
                    go_wp2
                    go_roundw
                    case rel => exact ⟨k + 1, a, by go_num, rfl, by omega, hle5, Hd7, Hr7⟩
                    case measure => simp [intOf]; omega
            · obtain rfl : k = l.length := by omega
              go_wp2_with fail
              refine Calls.mono (lays_any _) ?_
              rintro e w9 ⟨rfl, hb9⟩
              go_wp2
              go_ret
              exact ⟨rfl, (Hd.out.below hb9).keeps⟩
    · have d1 : decide ((100 : Int) < (l.length : Int)) = false := by simp; omega
      have d2 : decide ((500 : Int) < (bl.length : Int)) = true := by simp; omega
      clear ha hb hsb
      go_enter Try.func4, Try.ntmps4
      go_wp2
      go_ret
      exact ⟨rfl, Below.refl _ _⟩
  · have d1 : decide ((100 : Int) < (l.length : Int)) = true := by simp; omega
    clear ha hb hsb
    go_enter Try.func4, Try.ntmps4
    go_wp2
    go_ret
    exact ⟨rfl, Below.refl _ _⟩

end Go.Proofs.Ytlagddnpomkabaa
