/- The walk of the statement HuffReads. -/
import Derived.Test.YtpdfkgdgpofhbaaM842
namespace Go.Proofs.Ytpdfkgdgpofhbaa
open Go.RowKit Go.Maps

theorem OC.turns {w w' : World} {B : Nat} {o : Value} {f : Nat → Nat} {N : Nat} {l : List Nat} (h : OC w B o f N l) {T : Nat → Prop} (ht : Turns T w w') (hT : ∀ i, T i → i < B) : OC w' B o f N l := by
  obtain ⟨xs, h1, h2, h3⟩ := h.ex
  refine ⟨xs, h1, ht.owns h2 (fun k hk hT' => ?_), fun p hp => ⟨ht.owns (h3 p hp).1 (fun k hk hT' => ?_), (h3 p hp).2⟩⟩
  · have := (h2.lt k hk).1
    have := hT k hT'
    omega
  · have := ((h3 p hp).1.lt k hk).1
    have := hT k hT'
    omega

/-- A row of bytes of its own, whatever they are. -/
theorem own_some {w : World} {base : Nat} {p : Option Addr} {n c : Nat} {xs : List Value} (h : w.ownsRow base 5 1 (.slice p n c) n xs) {i : Nat} (hi : i < n) : ∃ g u, p = some ⟨g, 0, none⟩ ∧ w.cell? ⟨g, i, none⟩ = some u ∧ w.frozen? ⟨g, i, none⟩ = false := by
  obtain ⟨g, c', e, -, -, -⟩ := owns_ptr h (by omega)
  injection e with e1 _ _
  subst e1
  have hl := h.1
  have hx : i < xs.length := by omega
  exact ⟨g, xs[i], rfl, by rw [h.cellAt i (by omega)]; exact List.getElem?_eq_getElem hx, h.frozenAt i⟩

set_option maxRecDepth 20000 in
set_option maxHeartbeats 4000000 in
theorem hreads_any (v0 : Value) (ls : List Nat) (v1 : Value) (l : List Nat) (num : Int) (w : World) (hv0 : Rw8 w v0 ls) (_hb0 : ∀ b ∈ ls, b < 256) (hv1 : Rw8 w v1 l) (hb1 : ∀ b ∈ l, b < 256) (hnum : 0 ≤ num ∧ num ≤ 255) :
    Makes Try.prog 4 #[v0, v1, .int .u8 num] w (.bool true) := by
  unfold Makes
  have Hv0 := Lib.hid hv0
  have Hv1 := Lib.hid hv1
  have Hby := Lib.hid hb1
  obtain ⟨p, c, rfl, hc1, hc2, hsrc⟩ := hv0.src enc8_len (by decide)
  rw [flat8] at hsrc
  have Hsrc := Lib.hid hsrc
  obtain ⟨p2, c2, rfl, -, -, -⟩ := hv1.cells
  obtain ⟨i0, hi0, hz0, hz1, hz2⟩ := info_parts u8_info
  clear hv0 hv1 hb1 hsrc
  go_enter Try.func4, Try.ntmps4
  by_cases hl : 40 < ls.length
  · have d0 : decide ((ls.length : Int) > 40) = true := by simp; omega
    go_wp2
    go_ret
    exact ⟨rfl, Below.refl _ _⟩
  have d0 : decide ((ls.length : Int) > 40) = false := by simp; omega
  by_cases hl2 : 60 < l.length
  · have d1 : decide ((l.length : Int) > 60) = true := by simp; omega
    go_wp2
    go_ret
    exact ⟨rfl, Below.refl _ _⟩
  have d1 : decide ((l.length : Int) > 60) = false := by simp; omega
  go_wp2_with (at_builtin; refine wpList_append_mine w rfl (.tmp 30) (.tmp 31) 22 rfl w.heap.size 5 i0 _ 1 1 Try.underlying22 hi0 hz0 hz1 hz2 rfl (by decide) (.slice none 0 0) 0 [] rfl (World.ownsRow_nil _ _ _ _) p ls.length c (ls.map u8v) rfl (by simp) Hsrc.out (one8 _) ?n3 ?n4 (Nat.le_refl _) ?_)
  case n3 => simp only [maxLen]; omega
  case n4 => omega
  intro vi w1 ho1 hg1 _
  have hb1 : Below w.heap.size w w1 := (Turns.of_grown (T := fun _ => False) hg1 (fun i e => by cases e)).below (Nat.le_refl _) (fun i h => h.elim)
  have hown1 : w1.ownsRow w.heap.size 5 1 vi ls.length (ls.map u8v) := by simpa using ho1
  have hr1 : Rw8 w1 vi ls := Rw8.own hown1 rfl
  obtain ⟨p1, c1, rfl⟩ := owns_slice hown1
  have Hown1 := Lib.hid hown1
  have Hr1 := Lib.hid hr1
  have Hb1 := Lib.hid hb1
  clear ho1 hg1 hb1 hr1 hown1
  by_cases hc : chk ls = 0
  · have Hc := Lib.hid hc
    go_wp2_with fail
    refine Calls.mono (new_ok ls _ w1 Hr1.out.row Hc.out (apt_chk Hc.out)) ?_
    rintro e w2 ⟨T, rfl, htab, hb2⟩
    have Htab := Lib.hid htab
    have Hb2 := Lib.hid hb2
    have Hb02 := Lib.hid (Below.thn Hb1.out hb2)
    clear htab hb2
    go_wp2_with fail
    refine Calls.mono (refAll_ok ls _ w2 (Hv0.out.below Hb02.out).row Hc.out) ?_
    rintro e w3 ⟨o, rfl, hoc, hb3⟩
    obtain ⟨po, co, rfl, -⟩ := hoc.cells
    have Hoc := Lib.hid hoc
    have Hb03 := Lib.hid (Below.thn Hb02.out hb3)
    have Hb13 := Lib.hid (Below.thn Hb2.out hb3)
    have Hb3 := Lib.hid hb3
    have Hown3 := Lib.hid ((Turns.of_below' (T := fun _ => False) Hb13.out).owns Hown1.out (fun _ _ h => h))
    clear hoc hb3
    go_wp2
    go_loopw [12] (fun iv wr => ∃ i : Nat, iv = .int .i64 (i : Int) ∧ i ≤ ls.length ∧ Hid (∃ xs, wr.ownsRow w.heap.size 5 1 (.slice p1 ls.length c1) ls.length xs) ∧ Hid (Turns (fun b => (Value.slice p1 ls.length c1).ownBlock = some b) w3 wr)) (fun iv _ => ls.length - (intOf iv).toNat)
    case atStart => exact ⟨0, rfl, Nat.zero_le _, Lib.hid ⟨_, Hown3.out⟩, Lib.hid (Turns.refl _ _)⟩
    case round =>
      obtain ⟨i, rfl, hi, HO, HT⟩ := hrel
      by_cases hin : i < ls.length
      · obtain ⟨xs, hxs⟩ := HO.out
        obtain ⟨g, u, rfl, hcu, hfu⟩ := own_some hxs hin
        have HO2 := Lib.hid (show ∃ xs, (wr.setCell ⟨g, i, none⟩ (.int .u8 1)).ownsRow w.heap.size 5 1 (.slice (some ⟨g, 0, none⟩) ls.length c1) ls.length xs from ⟨_, (hxs.stored i (.int .u8 1)).1⟩)
        have HT2 := Lib.hid (HT.out.set (p := ⟨g, i, none⟩) rfl (.int .u8 1))
        have j0 : (0 : Int) ≤ (i : Int) := by omega
        have j1 : (i : Int) < (ls.length : Int) := by omega
        clear hxs
        go_wp2
        go_roundw
        case rel => exact ⟨i + 1, by go_num, by omega, HO2, HT2⟩
        case measure => simp [intOf]; omega
      · obtain rfl : i = ls.length := by omega
        obtain ⟨xs, hxs⟩ := HO.out
        have hgl : ∀ g, (Value.slice p1 ls.length c1).ownBlock = some g → w.heap.size ≤ g ∧ g < w1.heap.size := fun g hg => ⟨(hxs.lt g hg).1, (Hown1.out.lt g hg).2⟩
        have Hgl := Lib.hid hgl
        have Hlow := Lib.hid (show Below w.heap.size w wr from Hb03.out.trans (HT.out.below Hb03.out.size (fun i hi => (hgl i hi).1)))
        have Hv1' := Lib.hid (Hv1.out.turns (T := fun i => w.heap.size ≤ i) (Turns.of_below Hlow.out) (fun k hk => by have := Hv1.out.lt k hk; omega))
        have Hoc' := Lib.hid (Hoc.out.turns HT.out (fun i hi => by have := (hgl i hi).2; have := Hb2.out.size; omega))
        obtain ⟨M, n, L, F, t1, t2, t3, t4, t5⟩ := Htab.out.ex
        have t6 := Htab.out.ge
        have htb2 : Tb w2 T M n L F := ⟨t1, t2⟩
        have Htb := Lib.hid (show Tb wr T M n L F from (htb2.turns (N := fun _ => False) (Turns.of_below' Hb3.out) (fun h => h) (fun h => h)).turns HT.out (fun h => by have := (hgl T h).2; omega) (fun h => by have := (hgl M h).2; omega))
        have hL15 : L ≤ 15 := by
          rcases t4.le with h | ⟨i, i1, i2, i3⟩
          · omega
          · rw [← i3]; exact (chk_zero Hc.out).2.1 i i1
        have hTw : T < wr.heap.size := lt_heap Htb.out.tab
        have hMw : M < wr.heap.size := Htb.out.map.lt
        have HD : Hid (RdDoc ls (tl (lq ls) ls.length 15 0) l 0 L F) := Lib.hid ⟨Hc.out, fun i => tl_iff (chk_zero Hc.out).2.1, Hby.out, t3, t4⟩
        have hTl : (tl (lq ls) ls.length 15 0).length ≤ 4800 := by
          have h1 := al_len (lq ls) ls.length 15
          unfold tl
          rw [show sy (lq ls) (15 + 1) 0 = [] from rfl, List.append_nil]
          omega
        clear hxs hgl t1 t2 t3 t4 t5 t6 htb2 HO HT
        generalize tl (lq ls) ls.length 15 0 = TT at *
        generalize wr = W4 at *
        go_wp2_with fail
        refine Calls.mono (new_any _ l W4 Hv1'.out Hby.out (by omega)) ?_
        rintro e w5 ⟨B, sv, rfl, hrd, hb5, hBs, -⟩
        have Hrd := Lib.hid hrd
        have Hb5 := Lib.hid hb5
        clear hrd hb5
        go_wp2_with fail
        refine Calls.mono (refOf_any _ l w5 (Hv1'.out.below Hb5.out) Hby.out (by omega)) ?_
        rintro e w6 ⟨rv, rfl, hrow, hb6⟩
        have hrlen := ofB_len l
        obtain ⟨rp, rc, rfl⟩ := owns_slice hrow
        have Hb46 := Lib.hid (Below.thn Hb5.out hb6)
        have Hrow := Lib.hid hrow
        have Hrd6 := Lib.hid (Hrd.out.below hb6)
        have Htb6 := Lib.hid (Htb.out.turns (N := fun _ => False) (Turns.of_below' Hb46.out) (fun h => h) (fun h => h))
        have Hoc6 := Lib.hid (Hoc'.out.later Hb46.out)
        have Hlow6 := Lib.hid (Below.thn Hlow.out Hb46.out)
        have hBw5 : B < w5.heap.size := Hrd.out.size
        clear hrow hb6 hrlen Hrd Hb5 Htb Hv1'
        obtain ⟨m, rfl⟩ := Int.eq_ofNat_of_zero_le hnum.1
        obtain ⟨q, hq⟩ : ∃ q, m % 60 = q := ⟨_, rfl⟩
        have hqi : (m : Int) % 60 = (q : Int) := by omega
        have hq60 : q < 60 := by omega
        have hm255 : m ≤ 255 := by omega
        have HTB := Lib.hid (show T ≠ B ∧ M ≠ B by omega)
        clear hq hnum
        go_wp2
        go_loopw [15, 16] (fun av iv wr => ∃ (i a : Nat), av = .int .i64 (a : Int) ∧ iv = .int .i64 (i : Int) ∧ i ≤ q ∧ a ≤ 8 * l.length ∧ Hid (Tb wr T M n L F) ∧ Hid (Rd wr B sv l a) ∧ Hid (OwnB wr w5.heap.size (.slice rp (ofB l).length rc) (ofB l)) ∧ Hid (Below W4.heap.size W4 wr)) (fun _ iv _ => q - (intOf iv).toNat)
        case atStart => exact ⟨0, 0, rfl, rfl, Nat.zero_le _, Nat.zero_le _, Htb6, Hrd6, Hrow, Hb46⟩
        case round =>
          obtain ⟨i, a, rfl, rfl, hi, ha, HTb, HRd, HRw, HB⟩ := hrel
          by_cases hiq : i < q
          · go_wp2_with fail
            refine Calls.mono (read_any T M n L B a F sv l _ HTb.out HRd.out hL15 HTB.out.1 HTB.out.2) ?_
            rintro e wa ⟨x, er, s, rfl, hans, hrd, htb, htu⟩
            have HBa := Lib.hid (HB.out.trans (htu.below HB.out.size (fun i hi => by omega)))
            have HRwa := Lib.hid (htu.owns HRw.out (fun k hk e => by have := (HRw.out.lt k hk).1; omega))
            have HRda := Lib.hid hrd
            have HTba := Lib.hid htb
            have Hans := Lib.hid hans
            have hp := hrd.pos
            clear hans hrd htb htu HTb HRd HRw HB
            go_wp2_with fail
            refine Calls.mono (refRead_any ls TT l a L w2.heap.size F _ _ _ ⟨HD.out.chk, HD.out.mem, HD.out.byte, HD.out.tf, HD.out.tm⟩ (Hoc'.out.later HBa.out) (OwnB.rw HRwa.out) (by omega) (by omega) ha) ?_
            rintro e wb ⟨x', er', s', rfl, hans', hbb⟩
            obtain ⟨rfl, rfl, rfl⟩ := Hans.out.one hans'
            have HBb := Lib.hid (Below.thn HBa.out hbb)
            have HRwb := Lib.hid ((Turns.of_below' (T := fun _ => False) hbb).owns HRwa.out (fun _ _ h => h))
            have HRdb := Lib.hid (HRda.out.below hbb)
            have HTbb := Lib.hid (HTba.out.turns (N := fun _ => False) (Turns.of_below' hbb) (fun h => h) (fun h => h))
            clear hans' hbb HBa HRwa HRda HTba
            obtain ⟨z, hz⟩ : ∃ z, a + s = z := ⟨_, rfl⟩
            rw [hz] at HRdb hp ⊢
            clear hz
            go_wp2_with fail
            refine Calls.mono (at_any B z sv l _ HRdb.out) ?_
            rintro e wc ⟨rfl, rfl⟩
            go_wp2
            go_roundw
            case rel => exact ⟨i + 1, z, rfl, by go_num, by omega, hp, HTbb, HRdb, HRwb, HBb⟩
            case measure => simp [intOf]; omega
          · obtain rfl : i = q := by omega
            go_wp2_with fail
            refine Calls.mono (codes_law wr) ?_
            rintro e w9 ⟨rfl, hb9⟩
            have Hb9 := Lib.hid (Hlow.out.trans ((Below.thn HB.out hb9).mono Hlow.out.size))
            clear hb9
            go_wp2
            go_ret
            exact ⟨rfl, Hb9.out⟩
  · have Hc := Lib.hid hc
    go_wp2_with fail
    refine Calls.mono (new_bad ls _ w1 Hr1.out.row Hc.out) ?_
    rintro e w2 ⟨rfl, rfl⟩
    go_wp2_with fail
    refine Calls.mono (refAll_bad ls _ w2 (Hv0.out.below Hb1.out).row Hc.out) ?_
    rintro e w3 ⟨rfl, rfl⟩
    generalize chk ls = r at *
    have e0 : (r != 0) = true := by simpa using hc
    generalize w3 = w1 at *
    clear hc
    go_wp2
    go_loopw [12] (fun iv wr => ∃ i : Nat, iv = .int .i64 (i : Int) ∧ i ≤ ls.length ∧ Hid (∃ xs, wr.ownsRow w.heap.size 5 1 (.slice p1 ls.length c1) ls.length xs) ∧ Hid (Turns (fun b => (Value.slice p1 ls.length c1).ownBlock = some b) w1 wr)) (fun iv _ => ls.length - (intOf iv).toNat)
    case atStart => exact ⟨0, rfl, Nat.zero_le _, Lib.hid ⟨_, Hown1.out⟩, Lib.hid (Turns.refl _ _)⟩
    case round =>
      obtain ⟨i, rfl, hi, HO, HT⟩ := hrel
      by_cases hin : i < ls.length
      · obtain ⟨xs, hxs⟩ := HO.out
        obtain ⟨g, u, rfl, hcu, hfu⟩ := own_some hxs hin
        have HO2 := Lib.hid (show ∃ xs, (wr.setCell ⟨g, i, none⟩ (.int .u8 1)).ownsRow w.heap.size 5 1 (.slice (some ⟨g, 0, none⟩) ls.length c1) ls.length xs from ⟨_, (hxs.stored i (.int .u8 1)).1⟩)
        have HT2 := Lib.hid (HT.out.set (p := ⟨g, i, none⟩) rfl (.int .u8 1))
        have j0 : (0 : Int) ≤ (i : Int) := by omega
        have j1 : (i : Int) < (ls.length : Int) := by omega
        clear hxs
        go_wp2
        go_roundw
        case rel => exact ⟨i + 1, by go_num, by omega, HO2, HT2⟩
        case measure => simp [intOf]; omega
      · obtain rfl : i = ls.length := by omega
        obtain ⟨xs, hxs⟩ := HO.out
        have Hlow := Lib.hid (show Below w.heap.size w wr from Hb1.out.trans (HT.out.below Hb1.out.size (fun i hi => (hxs.lt i hi).1)))
        clear hxs
        go_wp2_with fail
        refine Calls.mono (codes_law wr) ?_
        rintro e w9 ⟨rfl, hb9⟩
        have Hb9 := Lib.hid (Below.thn Hlow.out hb9)
        clear hb9
        go_wp2
        go_ret
        exact ⟨rfl, Hb9.out⟩

end Go.Proofs.Ytpdfkgdgpofhbaa
