/- The document's rise. -/
import Derived.Test.YtmhggbojnkmlpaaHufU
namespace Go.Proofs.Ytmhggbojnkmlpaa
open Go.RowKit

theorem own_ptrsN {w : World} {base c n : Nat} {p : Option Addr} {l : List Nat} (h : w.ownsRow base 3 1 (.slice p n c) n (l.map nV)) (hn : l.length = n) : ∀ k (hk : k < n), ∃ g, p = some ⟨g, 0, none⟩ ∧ w.cell? ⟨g, k, none⟩ = some (.int .i64 ((l[k]'(by omega) : Nat) : Int)) := fun k hk => by
  obtain ⟨g, c', e, -, -, hc⟩ := owns_ptr h (by omega)
  injection e with e1 _ _
  exact ⟨g, e1, hc k _ (by rw [List.getElem?_map, List.getElem?_eq_getElem (by omega)]; rfl)⟩

theorem cut_at {w : World} {base c n m q : Nat} {l : List Nat} (h : w.ownsRow base 3 1 (.slice (some ⟨q, 0, none⟩) n c) n (l.map nV)) (hn : l.length = n) (hm : m ≤ n) : ∀ j u, ((l.drop m).map nV)[j]? = some u → w.cell? ((⟨q, m, none⟩ : Addr).add j) = some u := fun j u hj => by
  have hjm := (List.getElem?_eq_some_iff.1 hj).1
  rw [List.length_map, List.length_drop] at hjm
  rw [Addr.add_lit, h.cellAt (m + j) (by omega)]
  rw [List.map_drop, List.getElem?_drop] at hj
  exact hj

/-- What rise's loop holds. -/
structure RiseInv (w wr : World) (xs : List Nat) (i : Nat) (v : Value) (out : List Nat) : Prop where
  own : OwnN wr w.heap.size v out
  perm : out.Perm (xs.take i)
  up : Up out
  below : Below w.heap.size w wr

set_option maxRecDepth 20000 in
set_option maxHeartbeats 4000000 in
theorem rise_any (xs : List Nat) (v : Value) (w : World) (hv : Row encN 1 w v xs) (hlen : xs.length ≤ 4096) :
    Calls Try.prog 32 #[v] w fun e w' => ∃ v' ys, e = .returned v' ∧ ys.Perm xs ∧ Up ys ∧ OwnN w' w.heap.size v' ys ∧ Below w.heap.size w w' := by
  obtain ⟨p, c, rfl, -, -, hrow⟩ := hv
  have Hrow := Lib.hid hrow
  obtain ⟨i0, hi0, hz0, hz1, hz2⟩ := info_parts int_infoN
  clear hrow
  go_enter Try.func32, Try.ntmps32
  go_wp2
  go_loopw [3, 4] (fun ov iv wr => ∃ (i : Nat) (out : List Nat), iv = .int .i64 (i : Int) ∧ i ≤ xs.length ∧ Hid (RiseInv w wr xs i ov out)) (fun _ iv _ => xs.length - (intOf iv).toNat)
  case atStart => exact ⟨0, [], rfl, Nat.zero_le _, Lib.hid ⟨World.ownsRow_nil _ _ _ _, by simp, List.Pairwise.nil, Below.refl _ _⟩⟩
  case round =>
    obtain ⟨i, out, rfl, hi, HI⟩ := hrel
    obtain ⟨po, co, rfl⟩ := owns_slice HI.out.own
    have hol : out.length = i := by rw [HI.out.perm.length_eq, List.length_take]; omega
    by_cases hin : i < xs.length
    · obtain ⟨g, off, rfl, hcell⟩ := Hrow.out.num hin
      have hcx := cell_later HI.out.below hcell
      have Htk := Lib.hid (List.take_succ_eq_append_getElem hin)
      obtain ⟨x, hx⟩ : ∃ x, xs[i] = x := ⟨_, rfl⟩
      rw [hx] at hcx Htk
      have i0' : (0 : Int) ≤ (i : Int) := by omega
      have i1 : (i : Int) < (xs.length : Int) := by omega
      have di : decide (i < xs.length) = true := by simpa using hin
      rw [hol]
      have Hol := Lib.hid hol
      have Hown := Lib.hid (show wr.ownsRow w.heap.size 3 1 (.slice po i co) i (out.map nV) by have := HI.out.own; unfold OwnN at this; rw [hol] at this; exact this)
      have HCap := Lib.hid (own_cap Hown.out)
      clear hcell hx hol
      go_wp2
      go_loopw [5] (fun kv ws => ∃ (k : Nat), kv = .int .i64 (k : Int) ∧ k ≤ i ∧ Hid ((∀ j (hj : j < out.length), j < k → out[j] ≤ x) ∧ Below wr.heap.size wr ws)) (fun kv _ => i - (intOf kv).toNat)
      case atStart => exact ⟨0, rfl, Nat.zero_le _, Lib.hid ⟨fun j _ h => by omega, Below.refl _ _⟩⟩
      case round =>
        obtain ⟨k, rfl, hk, HK⟩ := hrel
        have Hown2 := Lib.hid ((Turns.of_below' (T := fun _ => False) HK.out.2).owns Hown.out (fun _ _ h => h))
        have hcx2 := cell_later HK.out.2 hcx
        by_cases hki : k < i
        · have hc2 := (own_ptrsN Hown2.out Hol.out k hki)
          obtain ⟨q, hq, hcq⟩ := hc2
          subst hq
          obtain ⟨y, hy⟩ : ∃ y, out[k]'(by have := Hol.out; omega) = y := ⟨_, rfl⟩
          rw [hy] at hcq
          have Hy := Lib.hid hy
          have k0 : (0 : Int) ≤ (k : Int) := by omega
          have k1 : (k : Int) < (i : Int) := by omega
          have d1 : decide (k < i) = true := by simpa using hki
          clear hy
          by_cases hyx : y ≤ x
          · have d2 : decide (y ≤ x) = true := by simpa using hyx
            go_wp2
            go_quiet (fail)
            have hb3 : Below wr.heap.size wr (wr.drewN nq) := Below.drewN' (Below.refl _ _) nq
            have HK1 : Hid ((∀ j (hj : j < out.length), j < k + 1 → out[j] ≤ x) ∧ Below _ _ (wr.drewN nq)) := Lib.hid ⟨fun j hj hjk => by
              rcases Nat.lt_or_ge j k with h | h
              · exact HK.out.1 j hj h
              · obtain rfl : j = k := by omega
                rw [Hy.out]; exact hyx, Below.thn HK.out.2 hb3⟩
            clear hb3 HK hcx2 hcq Hown2
            go_wp2
            go_roundw
            case rel => exact ⟨k + 1, by go_num, by omega, HK1⟩
            case measure => simp [intOf]; omega
          · have d2 : decide (y ≤ x) = false := by simpa using hyx
            go_wp2
            go_quiet (fail)
            have hb3 : Below wr.heap.size wr (wr.drewN nq) := Below.drewN' (Below.refl _ _) nq
            have HW0 := Lib.hid (And.intro HK.out.1 (Below.thn HK.out.2 hb3))
            have HoW0 := Lib.hid ((Turns.of_below' (T := fun _ => False) hb3).owns Hown2.out (fun _ _ h => h))
            have hcxW := cell_later hb3 hcx2
            have Hbig : Hid (∀ hj : k < out.length, x < out[k]) := Lib.hid (fun hj => by have e := Hy.out; rw [e]; omega)
            clear hb3 HK hcx2 hcq Hown2 hcx
            generalize wr.drewN nq = wr at *
            have HW := HW0
            have HoW := HoW0
            clear HW0 HoW0
            have hkco' : (k : Int) < (co : Int) := by have h := HCap.out; omega
            have hsW := Nat.le_trans HI.out.below.size (Nat.le_trans HW.out.2.size (Nat.le_refl _))
            have hki0 : (k : Int) ≤ (i : Int) := by omega
            have hkz : (0 : Int) ≤ (k : Int) := by omega
            have hcb := HCap.out
            simp only [maxLen] at hcb
            obtain ⟨hcb1, hcb2⟩ := hcb
            have hkc : (k : Int) ≤ (co : Int) := by omega
            go_wp2_with (at_builtin; refine wpList_append_mine _ rfl (.tmp 30) (.tmp 33) 22 rfl w.heap.size 3 i0 _ 1 8 Try.underlying22 hi0 hz0 hz1 hz2 rfl (by decide) (.slice none 0 0) 0 [] rfl (World.ownsRow_nil _ _ _ _) (some ⟨q, 0, none⟩) k co ((out.take k).map nV) rfl (by rw [List.length_map, List.length_take]; have := Hol.out; omega) (cut_lo HoW.out Hol.out.symm (by omega)) (oneN _) ?a3x ?a4x hsW ?_)
            case a3x => simp only [maxLen]; omega
            case a4x => omega
            intro v1 w1 ho1 hg1 hl1
            have ho1 : w1.ownsRow w.heap.size 3 1 v1 k ((out.take k).map nV) := by simpa [List.map_take] using ho1
            obtain ⟨p1, c1, rfl⟩ := owns_slice ho1
            have hb1 : Below wr.heap.size wr w1 := (Turns.of_grown (T := fun _ => False) hg1 (fun i e => by cases e)).below (Nat.le_refl _) (fun i h => h.elim)
            have Hn1 : Hid (∀ q, (Value.slice p1 k c1).ownBlock = some q → wr.heap.size ≤ q) := Lib.hid (fun q hq => by
              rcases hl1 q hq with h | h
              · cases h
              · exact h)
            have HoW1 := Lib.hid ((Turns.of_below' (T := fun _ => False) hb1).owns HoW.out (fun _ _ h => h))
            have hcx1 := cell_later hb1 hcxW
            have Ho1 := Lib.hid ho1
            have Hb1 := Lib.hid hb1
            have hs1 := Nat.le_trans hsW hb1.size
            clear ho1 hg1 hl1 hb1 hcxW
            go_wp2_with (at_builtin; refine wpList_append_one w1 rfl (.tmp 35) (.tmp 40) 22 rfl w.heap.size 3 _ 8 int_infoN Try.underlying22 rfl (.slice p1 k c1) k ((out.take k).map nV) rfl Ho1.out (.int .i64 (x : Int)) _ rfl rfl ?b3x ?b4x hs1 ?_)
            case b3x => simp only [maxLen]; omega
            case b4x => omega
            intro g2 c2 w2 ho2 ht2 hg2
            have HoW2 := Lib.hid (ht2.owns HoW1.out (fun q hq e => by
              have h1 := Hn1.out q e
              have h2 := (HoW.out.lt q hq).2
              omega))
            have Ho2 := Lib.hid (show w2.ownsRow w.heap.size 3 1 (.slice (some ⟨g2, 0, none⟩) (k + 1) c2) (k + 1) ((out.take k ++ [x]).map nV) by rw [List.map_append, List.map_take]; exact ho2)
            have Hb2 : Hid (Below wr.heap.size wr w2) := Lib.hid (Hb1.out.trans (ht2.below Hb1.out.size (fun q e => Hn1.out q e)))
            have hs2 := Nat.le_trans hs1 ht2.size
            have Hsrc : Hid (((some ⟨q, k, none⟩ : Option Addr) = none ∧ i - k = 0 ∧ co - k = 0) ∨ ∃ ad, (some ⟨q, k, none⟩ : Option Addr) = some ad ∧ ∀ j u, ((out.drop k).map nV)[j]? = some u → w2.cell? (ad.add j) = some u) := Lib.hid (.inr ⟨_, rfl, cut_at HoW2.out Hol.out (by omega)⟩)
            have Hlen3 : Hid (((out.drop k).map nV).length = (i - k) * 1) := Lib.hid (by rw [List.length_map, List.length_drop]; have := Hol.out; omega)
            clear ho2 ht2 hg2 hcx1
            go_wp2_with (at_builtin; refine wpList_append_mine _ rfl (.tmp 42) (.tmp 45) 22 rfl w.heap.size 3 i0 _ 1 8 Try.underlying22 hi0 hz0 hz1 hz2 rfl (by decide) (.slice (some ⟨g2, 0, none⟩) (k + 1) c2) (k + 1) ((out.take k ++ [x]).map nV) rfl Ho2.out ((some ⟨q, k, none⟩ : Option Addr)) (i - k) (co - k) ((out.drop k).map nV) rfl Hlen3.out Hsrc.out (oneN _) ?c3x ?c4x hs2 ?_)
            case c3x => simp only [maxLen]; omega
            case c4x => omega
            intro v3 w3 ho3 hg3 hl3
            have HI3 : Hid (RiseInv w w3 xs (i + 1) v3 (insAt out k x)) := Lib.hid (by
              have hl := insAt_len (out := out) (m := k) (x := x) (by have := Hol.out; omega)
              refine ⟨?_, ?_, insAt_up HI.out.up (by have := Hol.out; omega) HW.out.1 Hbig.out, ?_⟩
              · unfold OwnN
                rw [hl, Hol.out]
                have e : k + 1 + (i - k) = i + 1 := by omega
                simpa [insAt, nV, e, List.map_take, List.map_drop] using ho3
              · rw [Htk.out]
                exact (insAt_perm out k x).trans (HI.out.perm.append_right [x])
              · exact HI.out.below.trans ((HW.out.2.mono HI.out.below.size).trans ((Hb2.out.mono (Nat.le_trans HI.out.below.size HW.out.2.size)).trans ((Turns.of_grown (T := fun b => (Value.slice (some ⟨g2, 0, none⟩) (k + 1) c2).ownBlock = some b) hg3 (fun _ h => h)).below hs2 (fun q e => (World.ownsRow.lt Ho2.out q e).1)))))
            clear ho3 hg3 hl3
            go_wp2
            go_roundw
            case rel => exact ⟨i + 1, insAt out k x, by go_num, by omega, HI3⟩
            case measure => simp [intOf]; omega
        · obtain rfl : k = i := by omega
          have d1 : decide (k < k) = false := by simp
          go_wp2
          go_quiet (fail)
          have hb3 : Below wr.heap.size wr (wr.drewN nq) := Below.drewN' (Below.refl _ _) nq
          have HW0 := Lib.hid (And.intro HK.out.1 (Below.thn HK.out.2 hb3))
          have HoW0 := Lib.hid ((Turns.of_below' (T := fun _ => False) hb3).owns Hown2.out (fun _ _ h => h))
          have hcxW := cell_later hb3 hcx2
          have Hbig : Hid (∀ hj : k < out.length, x < out[k]) := Lib.hid (fun hj => by have := Hol.out; omega)
          clear hb3 HK hcx2 Hown2 hcx
          generalize wr.drewN nq = wr at *
          have HW := HW0
          have HoW := HoW0
          clear HW0 HoW0
          have hcases : (po = none ∧ k = 0 ∧ co = 0) ∨ ∃ q, po = some ⟨q, 0, none⟩ := by
            rcases HoW.out.2 with ⟨h0, h1⟩ | ⟨g, cap, cur, e, _⟩
            · injection h0 with a1 a2 a3
              exact .inl ⟨a1, h1, a3⟩
            · injection e with a1 a2 a3
              exact .inr ⟨_, a1⟩
          rcases hcases with ⟨hpo, hk0, hco0⟩ | ⟨q, hpo⟩
          · subst hpo hco0 hk0
            replace hcxW : wr.cell? ⟨g, off, none⟩ = _ := hcxW
            have hsW := Nat.le_trans HI.out.below.size (Nat.le_trans HW.out.2.size (Nat.le_refl _))
            have hki0 : ((0 : Nat) : Int) ≤ ((0 : Nat) : Int) := by omega
            have hkz : (0 : Int) ≤ ((0 : Nat) : Int) := by omega
            have hcb := HCap.out
            simp only [maxLen] at hcb
            obtain ⟨hcb1, hcb2⟩ := hcb
            have hkc : ((0 : Nat) : Int) ≤ ((0 : Nat) : Int) := by omega
            go_wp2_with (at_builtin; refine wpList_append_mine _ rfl (.tmp 30) (.tmp 33) 22 rfl w.heap.size 3 i0 _ 1 8 Try.underlying22 hi0 hz0 hz1 hz2 rfl (by decide) (.slice none 0 0) 0 [] rfl (World.ownsRow_nil _ _ _ _) (none) 0 0 ((out.take 0).map nV) rfl (by rw [List.length_map, List.length_take]; have := Hol.out; omega) (cut_lo HoW.out Hol.out.symm (by omega)) (oneN _) ?a3y ?a4y hsW ?_)
            case a3y => simp only [maxLen]; omega
            case a4y => omega
            intro v1 w1 ho1 hg1 hl1
            have ho1 : w1.ownsRow w.heap.size 3 1 v1 0 ((out.take 0).map nV) := by simpa [List.map_take] using ho1
            obtain ⟨p1, c1, rfl⟩ := owns_slice ho1
            have hb1 : Below wr.heap.size wr w1 := (Turns.of_grown (T := fun _ => False) hg1 (fun i e => by cases e)).below (Nat.le_refl _) (fun i h => h.elim)
            have Hn1 : Hid (∀ q, (Value.slice p1 0 c1).ownBlock = some q → wr.heap.size ≤ q) := Lib.hid (fun q hq => by
              rcases hl1 q hq with h | h
              · cases h
              · exact h)
            have HoW1 := Lib.hid ((Turns.of_below' (T := fun _ => False) hb1).owns HoW.out (fun _ _ h => h))
            have hcx1 := cell_later hb1 hcxW
            have Ho1 := Lib.hid ho1
            have Hb1 := Lib.hid hb1
            have hs1 := Nat.le_trans hsW hb1.size
            clear ho1 hg1 hl1 hb1 hcxW
            go_wp2_with (at_builtin; refine wpList_append_one w1 rfl (.tmp 35) (.tmp 40) 22 rfl w.heap.size 3 _ 8 int_infoN Try.underlying22 rfl (.slice p1 0 c1) 0 ((out.take 0).map nV) rfl Ho1.out (.int .i64 (x : Int)) _ rfl rfl ?b3y ?b4y hs1 ?_)
            case b3y => simp only [maxLen]; omega
            case b4y => omega
            intro g2 c2 w2 ho2 ht2 hg2
            have HoW2 := Lib.hid (ht2.owns HoW1.out (fun q hq e => by
              have h1 := Hn1.out q e
              have h2 := (HoW.out.lt q hq).2
              omega))
            have Ho2 := Lib.hid (show w2.ownsRow w.heap.size 3 1 (.slice (some ⟨g2, 0, none⟩) (0 + 1) c2) (0 + 1) ((out.take 0 ++ [x]).map nV) by rw [List.map_append, List.map_take]; exact ho2)
            have Hb2 : Hid (Below wr.heap.size wr w2) := Lib.hid (Hb1.out.trans (ht2.below Hb1.out.size (fun q e => Hn1.out q e)))
            have hs2 := Nat.le_trans hs1 ht2.size
            have Hsrc : Hid (((none : Option Addr) = none ∧ 0 = 0 ∧ 0 = 0) ∨ ∃ ad, (none : Option Addr) = some ad ∧ ∀ j u, ((out.drop 0).map nV)[j]? = some u → w2.cell? (ad.add j) = some u) := Lib.hid (.inl ⟨rfl, by omega, rfl⟩)
            have Hlen3 : Hid (((out.drop 0).map nV).length = (0) * 1) := Lib.hid (by rw [List.length_map, List.length_drop]; have := Hol.out; omega)
            clear ho2 ht2 hg2 hcx1
            go_wp2_with (at_builtin; refine wpList_append_mine _ rfl (.tmp 42) (.tmp 45) 22 rfl w.heap.size 3 i0 _ 1 8 Try.underlying22 hi0 hz0 hz1 hz2 rfl (by decide) (.slice (some ⟨g2, 0, none⟩) (0 + 1) c2) (0 + 1) ((out.take 0 ++ [x]).map nV) rfl Ho2.out ((none : Option Addr)) (0) (0) ((out.drop 0).map nV) rfl Hlen3.out Hsrc.out (oneN _) ?c3y ?c4y hs2 ?_)
            case c3y => simp only [maxLen]; omega
            intro v3 w3 ho3 hg3 hl3
            have HI3 : Hid (RiseInv w w3 xs (0 + 1) v3 (insAt out 0 x)) := Lib.hid (by
              have hl := insAt_len (out := out) (m := 0) (x := x) (by have := Hol.out; omega)
              refine ⟨?_, ?_, insAt_up HI.out.up (by have := Hol.out; omega) HW.out.1 Hbig.out, ?_⟩
              · unfold OwnN
                rw [hl, Hol.out]
                have e : 0 + 1 + (0) = 0 + 1 := by omega
                simpa [insAt, nV, e, List.map_take, List.map_drop] using ho3
              · rw [Htk.out]
                exact (insAt_perm out 0 x).trans (HI.out.perm.append_right [x])
              · exact HI.out.below.trans ((HW.out.2.mono HI.out.below.size).trans ((Hb2.out.mono (Nat.le_trans HI.out.below.size HW.out.2.size)).trans ((Turns.of_grown (T := fun b => (Value.slice (some ⟨g2, 0, none⟩) (0 + 1) c2).ownBlock = some b) hg3 (fun _ h => h)).below hs2 (fun q e => (World.ownsRow.lt Ho2.out q e).1)))))
            clear ho3 hg3 hl3
            go_wp2
            go_roundw
            case rel => exact ⟨0 + 1, insAt out 0 x, by go_num, by omega, HI3⟩
            case measure => simp [intOf]; omega
          · subst hpo
            by_cases hkco : k < co
            · have hkco' : (k : Int) < (co : Int) := by omega
              have hsW := Nat.le_trans HI.out.below.size (Nat.le_trans HW.out.2.size (Nat.le_refl _))
              have hki0 : (k : Int) ≤ (k : Int) := by omega
              have hkz : (0 : Int) ≤ (k : Int) := by omega
              have hcb := HCap.out
              simp only [maxLen] at hcb
              obtain ⟨hcb1, hcb2⟩ := hcb
              have hkc : (k : Int) ≤ (co : Int) := by omega
              go_wp2_with (at_builtin; refine wpList_append_mine _ rfl (.tmp 30) (.tmp 33) 22 rfl w.heap.size 3 i0 _ 1 8 Try.underlying22 hi0 hz0 hz1 hz2 rfl (by decide) (.slice none 0 0) 0 [] rfl (World.ownsRow_nil _ _ _ _) (some ⟨q, 0, none⟩) k co ((out.take k).map nV) rfl (by rw [List.length_map, List.length_take]; have := Hol.out; omega) (cut_lo HoW.out Hol.out.symm (by omega)) (oneN _) ?a3z ?a4z hsW ?_)
              case a3z => simp only [maxLen]; omega
              case a4z => omega
              intro v1 w1 ho1 hg1 hl1
              have ho1 : w1.ownsRow w.heap.size 3 1 v1 k ((out.take k).map nV) := by simpa [List.map_take] using ho1
              obtain ⟨p1, c1, rfl⟩ := owns_slice ho1
              have hb1 : Below wr.heap.size wr w1 := (Turns.of_grown (T := fun _ => False) hg1 (fun i e => by cases e)).below (Nat.le_refl _) (fun i h => h.elim)
              have Hn1 : Hid (∀ q, (Value.slice p1 k c1).ownBlock = some q → wr.heap.size ≤ q) := Lib.hid (fun q hq => by
                rcases hl1 q hq with h | h
                · cases h
                · exact h)
              have HoW1 := Lib.hid ((Turns.of_below' (T := fun _ => False) hb1).owns HoW.out (fun _ _ h => h))
              have hcx1 := cell_later hb1 hcxW
              have Ho1 := Lib.hid ho1
              have Hb1 := Lib.hid hb1
              have hs1 := Nat.le_trans hsW hb1.size
              clear ho1 hg1 hl1 hb1 hcxW
              go_wp2_with (at_builtin; refine wpList_append_one w1 rfl (.tmp 35) (.tmp 40) 22 rfl w.heap.size 3 _ 8 int_infoN Try.underlying22 rfl (.slice p1 k c1) k ((out.take k).map nV) rfl Ho1.out (.int .i64 (x : Int)) _ rfl rfl ?b3z ?b4z hs1 ?_)
              case b3z => simp only [maxLen]; omega
              case b4z => omega
              intro g2 c2 w2 ho2 ht2 hg2
              have HoW2 := Lib.hid (ht2.owns HoW1.out (fun q hq e => by
                have h1 := Hn1.out q e
                have h2 := (HoW.out.lt q hq).2
                omega))
              have Ho2 := Lib.hid (show w2.ownsRow w.heap.size 3 1 (.slice (some ⟨g2, 0, none⟩) (k + 1) c2) (k + 1) ((out.take k ++ [x]).map nV) by rw [List.map_append, List.map_take]; exact ho2)
              have Hb2 : Hid (Below wr.heap.size wr w2) := Lib.hid (Hb1.out.trans (ht2.below Hb1.out.size (fun q e => Hn1.out q e)))
              have hs2 := Nat.le_trans hs1 ht2.size
              have Hsrc : Hid (((some ⟨q, k, none⟩ : Option Addr) = none ∧ 0 = 0 ∧ co - k = 0) ∨ ∃ ad, (some ⟨q, k, none⟩ : Option Addr) = some ad ∧ ∀ j u, ((out.drop k).map nV)[j]? = some u → w2.cell? (ad.add j) = some u) := Lib.hid (.inr ⟨_, rfl, cut_at HoW2.out Hol.out (by omega)⟩)
              have Hlen3 : Hid (((out.drop k).map nV).length = (0) * 1) := Lib.hid (by rw [List.length_map, List.length_drop]; have := Hol.out; omega)
              clear ho2 ht2 hg2 hcx1
              go_wp2_with (at_builtin; refine wpList_append_mine _ rfl (.tmp 42) (.tmp 45) 22 rfl w.heap.size 3 i0 _ 1 8 Try.underlying22 hi0 hz0 hz1 hz2 rfl (by decide) (.slice (some ⟨g2, 0, none⟩) (k + 1) c2) (k + 1) ((out.take k ++ [x]).map nV) rfl Ho2.out ((some ⟨q, k, none⟩ : Option Addr)) (0) (co - k) ((out.drop k).map nV) rfl Hlen3.out Hsrc.out (oneN _) ?c3z ?c4z hs2 ?_)
              case c3z => simp only [maxLen]; omega
              case c4z => omega
              intro v3 w3 ho3 hg3 hl3
              have HI3 : Hid (RiseInv w w3 xs (k + 1) v3 (insAt out k x)) := Lib.hid (by
                have hl := insAt_len (out := out) (m := k) (x := x) (by have := Hol.out; omega)
                refine ⟨?_, ?_, insAt_up HI.out.up (by have := Hol.out; omega) HW.out.1 Hbig.out, ?_⟩
                · unfold OwnN
                  rw [hl, Hol.out]
                  have e : k + 1 + (0) = k + 1 := by omega
                  simpa [insAt, nV, e, List.map_take, List.map_drop] using ho3
                · rw [Htk.out]
                  exact (insAt_perm out k x).trans (HI.out.perm.append_right [x])
                · exact HI.out.below.trans ((HW.out.2.mono HI.out.below.size).trans ((Hb2.out.mono (Nat.le_trans HI.out.below.size HW.out.2.size)).trans ((Turns.of_grown (T := fun b => (Value.slice (some ⟨g2, 0, none⟩) (k + 1) c2).ownBlock = some b) hg3 (fun _ h => h)).below hs2 (fun q e => (World.ownsRow.lt Ho2.out q e).1)))))
              clear ho3 hg3 hl3
              go_wp2
              go_roundw
              case rel => exact ⟨k + 1, insAt out k x, by go_num, by omega, HI3⟩
              case measure => simp [intOf]; omega
            · obtain rfl : k = co := by have h := HCap.out; omega
              have hsW := Nat.le_trans HI.out.below.size (Nat.le_trans HW.out.2.size (Nat.le_refl _))
              have hki0 : (k : Int) ≤ (k : Int) := by omega
              have hkz : (0 : Int) ≤ (k : Int) := by omega
              have hcb := HCap.out
              simp only [maxLen] at hcb
              obtain ⟨hcb1, hcb2⟩ := hcb
              have hkc : (k : Int) ≤ (k : Int) := by omega
              go_wp2_with (at_builtin; refine wpList_append_mine _ rfl (.tmp 30) (.tmp 33) 22 rfl w.heap.size 3 i0 _ 1 8 Try.underlying22 hi0 hz0 hz1 hz2 rfl (by decide) (.slice none 0 0) 0 [] rfl (World.ownsRow_nil _ _ _ _) (some ⟨q, 0, none⟩) k k ((out.take k).map nV) rfl (by rw [List.length_map, List.length_take]; have := Hol.out; omega) (cut_lo HoW.out Hol.out.symm (by omega)) (oneN _) ?a3u ?a4u hsW ?_)
              case a3u => simp only [maxLen]; omega
              case a4u => omega
              intro v1 w1 ho1 hg1 hl1
              have ho1 : w1.ownsRow w.heap.size 3 1 v1 k ((out.take k).map nV) := by simpa [List.map_take] using ho1
              obtain ⟨p1, c1, rfl⟩ := owns_slice ho1
              have hb1 : Below wr.heap.size wr w1 := (Turns.of_grown (T := fun _ => False) hg1 (fun i e => by cases e)).below (Nat.le_refl _) (fun i h => h.elim)
              have Hn1 : Hid (∀ q, (Value.slice p1 k c1).ownBlock = some q → wr.heap.size ≤ q) := Lib.hid (fun q hq => by
                rcases hl1 q hq with h | h
                · cases h
                · exact h)
              have HoW1 := Lib.hid ((Turns.of_below' (T := fun _ => False) hb1).owns HoW.out (fun _ _ h => h))
              have hcx1 := cell_later hb1 hcxW
              have Ho1 := Lib.hid ho1
              have Hb1 := Lib.hid hb1
              have hs1 := Nat.le_trans hsW hb1.size
              clear ho1 hg1 hl1 hb1 hcxW
              go_wp2_with (at_builtin; refine wpList_append_one w1 rfl (.tmp 35) (.tmp 40) 22 rfl w.heap.size 3 _ 8 int_infoN Try.underlying22 rfl (.slice p1 k c1) k ((out.take k).map nV) rfl Ho1.out (.int .i64 (x : Int)) _ rfl rfl ?b3u ?b4u hs1 ?_)
              case b3u => simp only [maxLen]; omega
              case b4u => omega
              intro g2 c2 w2 ho2 ht2 hg2
              have HoW2 := Lib.hid (ht2.owns HoW1.out (fun q hq e => by
                have h1 := Hn1.out q e
                have h2 := (HoW.out.lt q hq).2
                omega))
              have Ho2 := Lib.hid (show w2.ownsRow w.heap.size 3 1 (.slice (some ⟨g2, 0, none⟩) (k + 1) c2) (k + 1) ((out.take k ++ [x]).map nV) by rw [List.map_append, List.map_take]; exact ho2)
              have Hb2 : Hid (Below wr.heap.size wr w2) := Lib.hid (Hb1.out.trans (ht2.below Hb1.out.size (fun q e => Hn1.out q e)))
              have hs2 := Nat.le_trans hs1 ht2.size
              have Hsrc : Hid (((some ⟨q, 0, none⟩ : Option Addr) = none ∧ 0 = 0 ∧ 0 = 0) ∨ ∃ ad, (some ⟨q, 0, none⟩ : Option Addr) = some ad ∧ ∀ j u, ((out.drop k).map nV)[j]? = some u → w2.cell? (ad.add j) = some u) := Lib.hid (.inr ⟨_, rfl, fun j u hj => by have hjm := (List.getElem?_eq_some_iff.1 hj).1; rw [List.length_map, List.length_drop] at hjm; have := Hol.out; omega⟩)
              have Hlen3 : Hid (((out.drop k).map nV).length = (0) * 1) := Lib.hid (by rw [List.length_map, List.length_drop]; have := Hol.out; omega)
              clear ho2 ht2 hg2 hcx1
              go_wp2_with (at_builtin; refine wpList_append_mine _ rfl (.tmp 42) (.tmp 45) 22 rfl w.heap.size 3 i0 _ 1 8 Try.underlying22 hi0 hz0 hz1 hz2 rfl (by decide) (.slice (some ⟨g2, 0, none⟩) (k + 1) c2) (k + 1) ((out.take k ++ [x]).map nV) rfl Ho2.out ((some ⟨q, 0, none⟩ : Option Addr)) (0) (0) ((out.drop k).map nV) rfl Hlen3.out Hsrc.out (oneN _) ?c3u ?c4u hs2 ?_)
              case c3u => simp only [maxLen]; omega
              case c4u => omega
              intro v3 w3 ho3 hg3 hl3
              have HI3 : Hid (RiseInv w w3 xs (k + 1) v3 (insAt out k x)) := Lib.hid (by
                have hl := insAt_len (out := out) (m := k) (x := x) (by have := Hol.out; omega)
                refine ⟨?_, ?_, insAt_up HI.out.up (by have := Hol.out; omega) HW.out.1 Hbig.out, ?_⟩
                · unfold OwnN
                  rw [hl, Hol.out]
                  have e : k + 1 + (0) = k + 1 := by omega
                  simpa [insAt, nV, e, List.map_take, List.map_drop] using ho3
                · rw [Htk.out]
                  exact (insAt_perm out k x).trans (HI.out.perm.append_right [x])
                · exact HI.out.below.trans ((HW.out.2.mono HI.out.below.size).trans ((Hb2.out.mono (Nat.le_trans HI.out.below.size HW.out.2.size)).trans ((Turns.of_grown (T := fun b => (Value.slice (some ⟨g2, 0, none⟩) (k + 1) c2).ownBlock = some b) hg3 (fun _ h => h)).below hs2 (fun q e => (World.ownsRow.lt Ho2.out q e).1)))))
              clear ho3 hg3 hl3
              go_wp2
              go_roundw
              case rel => exact ⟨k + 1, insAt out k x, by go_num, by omega, HI3⟩
              case measure => simp [intOf]; omega
    · obtain rfl : i = xs.length := by omega
      have di : decide (xs.length < xs.length) = false := by simp
      have h1 := HI.out.perm
      rw [List.take_length] at h1
      have Hp := Lib.hid h1
      clear h1
      go_wp2
      go_ret
      exact ⟨_, out, rfl, Hp.out, HI.out.up, HI.out.own, HI.out.below⟩

end Go.Proofs.Ytmhggbojnkmlpaa
