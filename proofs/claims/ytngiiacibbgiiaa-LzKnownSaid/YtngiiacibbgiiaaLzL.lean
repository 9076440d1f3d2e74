/- The document's Match. -/
import Derived.Test.YtngiiacibbgiiaaLzK
namespace Go.Proofs.Ytngiiacibbgiiaa
open Go.RowKit

set_option maxRecDepth 20000 in
set_option maxHeartbeats 8000000 in
theorem refMatch_any (l : List Nat) (vb : Value) (w : World) (hvr : Row enc8 1 w vb l) (hl : l.length ≤ 1048576) :
    Calls Try.prog 11 #[vb] w fun e w' => ∃ (v' : Value) (ts : List Tk), e = .returned v' ∧ OwnT w' w.heap.size v' ts ∧ Toks (fb l) l.length 0 ts ∧ Below w.heap.size w w' := by
  have Hv := Lib.hid hvr
  obtain ⟨p, c, rfl, -, -, -⟩ := hvr
  go_enter Try.func11, Try.ntmps11
  go_wp2_with fail
  go_loopw [3, 4] (fun lv av wr => ∃ (a : Nat) (ts : List Tk), av = .int .i64 (a : Int) ∧ a ≤ l.length ∧ ts.length ≤ a ∧ Hid (OwnT wr w.heap.size lv ts) ∧ Hid (ToksTo (fb l) l.length a ts) ∧ Hid (Below w.heap.size w wr)) (fun _ av _ => l.length - (intOf av).toNat)
  case atStart => exact ⟨0, [], rfl, Nat.zero_le _, Nat.le_refl _, Lib.hid (World.ownsRow_nil _ _ _ _), Lib.hid .nil, Lib.hid (Below.refl _ _)⟩
  case round =>
    obtain ⟨a, ts, rfl, ha, hts, HO, HT, HB⟩ := hrel
    by_cases hlt : a < l.length
    · have d0 : decide (a < l.length) = true := by simp; omega
      obtain ⟨po, co, rfl⟩ := owns_slice HO.out
      obtain ⟨q, hq⟩ : ∃ q, ts.length = q := ⟨_, rfl⟩
      have HO2 : Hid (wr.ownsRow w.heap.size 26 3 (.slice po q co) q (ts.flatMap encT)) := Lib.hid (by rw [← hq]; exact HO.out)
      have Hq := Lib.hid hq
      rw [hq] at hts ⊢
      obtain ⟨m, hm⟩ : ∃ m, mo l.length a = m := ⟨_, rfl⟩
      have Hm := Lib.hid hm
      have hm258 : m ≤ 258 := by rw [← hm]; exact Nat.min_le_left _ _
      clear HO hq hm
      go_wp2_with fail
      generalize wr = W1 at *
      go_loopw [5, 6, 7] (fun bv dv kv wr => ∃ L D d : Nat, bv = .int .i64 (L : Int) ∧ dv = .int .i64 (D : Int) ∧ kv = .int .i64 (d : Int) ∧ 1 ≤ d ∧ d ≤ 32769 ∧ d ≤ a + 1 ∧ L ≤ 258 ∧ D ≤ 32768 ∧ Hid (Scan (fb l) a m d L D) ∧ Hid (Below W1.heap.size W1 wr)) (fun _ _ kv _ => 40000 - (intOf kv).toNat)
      case atStart => exact ⟨0, 0, 1, rfl, rfl, rfl, by omega, by omega, by omega, by omega, by omega, Lib.hid (Scan.start _ _ _), Lib.hid (Below.refl _ _)⟩
      case round =>
        obtain ⟨L, D, d, rfl, rfl, rfl, hd1, hd2, hd3, hL, hD, HS, HB1⟩ := hrel
        by_cases hgo : d ≤ 32768 ∧ d ≤ a
        · obtain ⟨hg1, hg2⟩ := hgo
          have d1 : decide ((d : Int) ≤ 32768) = true := by simp; omega
          have d2 : decide (d ≤ a) = true := by simp; omega
          go_wp2_with fail
          refine Calls.mono (refRun_any l _ a d wr (Hv.out.below (HB.out.trans (HB1.out.mono HB.out.size))) hd1 hg2 (by omega) hl) ?_
          rintro e w2 ⟨n, rfl, hrun, hb2⟩
          have Hrun := Lib.hid (show IsRun (fb l) a d m n by rw [← Hm.out]; exact hrun)
          have hn : n ≤ 258 := Nat.le_trans Hrun.out.le hm258
          have HB2 := Lib.hid (Below.thn HB1.out hb2)
          clear hrun hb2
          by_cases hng : L < n
          · have d3 : decide (n > L) = true := by simp; omega
            go_wp2
            go_roundw
            case rel => exact ⟨n, d, d + 1, rfl, rfl, by go_num, by omega, by omega, by omega, hn, hg1, Lib.hid (HS.out.more hd1 Hrun.out hng), HB2⟩
            case measure => simp [intOf]; omega
          · have d3 : decide (n > L) = false := by simp; omega
            go_wp2
            go_roundw
            case rel => exact ⟨L, D, d + 1, rfl, rfl, by go_num, by omega, by omega, by omega, hL, hD, Lib.hid (HS.out.less Hrun.out (by omega)), HB2⟩
            case measure => simp [intOf]; omega
        · have hend : ∀ d', d' ≤ 32768 → d' ≤ a → d' < d := fun d' h1 h2 => by omega
          have hS : Scan (fb l) a (mo l.length a) d L D := by rw [Hm.out]; exact HS.out
          have HO3 := Lib.hid ((Turns.of_below' (T := fun _ => False) HB1.out).owns HO2.out (fun _ _ h => h))
          have HB3 := Lib.hid (HB.out.trans (HB1.out.mono HB.out.size))
          have hs3 := HB3.out.size
          by_cases h3 : 3 ≤ L
          · have d4 : decide ((L : Int) ≥ 3) = true := by simp; omega
            have htok := hS.rep hend ⟨by omega, by omega⟩ h3
            have hfit := htok.fits hlt
            have hsz : Tk.size ⟨0, (L : Int), (D : Int)⟩ = L := by unfold Tk.size; simp; omega
            rw [hsz] at hfit
            have HT5 : Hid (ToksTo (fb l) l.length (a + L) (ts ++ [⟨0, L, D⟩])) := Lib.hid (by have := HT.out.snoc hlt htok; rwa [hsz] at this)
            obtain ⟨az, haz⟩ : ∃ az, a + L = az := ⟨_, rfl⟩
            have eaz : (a : Int) + (L : Int) = (az : Int) := by omega
            have haz2 : a < az := by omega
            rw [haz] at HT5 hfit
            clear haz htok hsz hS hend HO2
            by_cases hdd : d ≤ 32768
            · have d1 : decide ((d : Int) ≤ 32768) = true := by simp; omega
              have d2 : decide (d ≤ a) = false := by simp; omega
              go_wp2_with (at_builtin; refine wpList_append_three wr rfl (.tmp 33) (.tmp 37) 23 rfl w.heap.size 26 _ 24 tok_info Try.underlying23 rfl (.slice po q co) q (ts.flatMap encT) rfl HO3.out (.int .u8 0) (.int .i64 (L : Int)) (.int .i64 (D : Int)) _ rfl rfl rfl rfl ?a3 ?a4 hs3 ?_)
              case a3 => simp only [maxLen]; omega
              case a4 => omega
              intro g1 cap1 w5 ho1 ht1 hg1
              have HB5 := Lib.hid (HB3.out.trans (ht1.below hs3 (fun k hk => (HO3.out.lt k hk).1)))
              have HO5 : Hid (OwnT w5 w.heap.size (.slice (some ⟨g1, 0, none⟩) (q + 1) cap1) (ts ++ [⟨0, L, D⟩])) := Lib.hid (by
                unfold OwnT
                rw [List.length_append, Hq.out, List.flatMap_append]
                exact ho1)
              have hlen : (ts ++ [(⟨0, L, D⟩ : Tk)]).length = q + 1 := by rw [List.length_append, Hq.out]; rfl
              have Hlen := Lib.hid hlen
              clear ho1 ht1 hg1 HO3 hlen
              go_wp2
              go_roundw
              case rel => exact ⟨az, ts ++ [⟨0, L, D⟩], rfl, hfit, by rw [Hlen.out]; omega, HO5, HT5, HB5⟩
              case measure => simp [intOf]; omega
            · have d1 : decide ((d : Int) ≤ 32768) = false := by simp; omega
              go_wp2_with (at_builtin; refine wpList_append_three wr rfl (.tmp 33) (.tmp 37) 23 rfl w.heap.size 26 _ 24 tok_info Try.underlying23 rfl (.slice po q co) q (ts.flatMap encT) rfl HO3.out (.int .u8 0) (.int .i64 (L : Int)) (.int .i64 (D : Int)) _ rfl rfl rfl rfl ?b3 ?b4 hs3 ?_)
              case b3 => simp only [maxLen]; omega
              case b4 => omega
              intro g1 cap1 w5 ho1 ht1 hg1
              have HB5 := Lib.hid (HB3.out.trans (ht1.below hs3 (fun k hk => (HO3.out.lt k hk).1)))
              have HO5 : Hid (OwnT w5 w.heap.size (.slice (some ⟨g1, 0, none⟩) (q + 1) cap1) (ts ++ [⟨0, L, D⟩])) := Lib.hid (by
                unfold OwnT
                rw [List.length_append, Hq.out, List.flatMap_append]
                exact ho1)
              have hlen : (ts ++ [(⟨0, L, D⟩ : Tk)]).length = q + 1 := by rw [List.length_append, Hq.out]; rfl
              have Hlen := Lib.hid hlen
              clear ho1 ht1 hg1 HO3 hlen
              go_wp2
              go_roundw
              case rel => exact ⟨az, ts ++ [⟨0, L, D⟩], rfl, hfit, by rw [Hlen.out]; omega, HO5, HT5, HB5⟩
              case measure => simp [intOf]; omega
          · have d4 : decide ((L : Int) ≥ 3) = false := by simp; omega
            have htok := hS.byte hend (by omega)
            obtain ⟨pp, cc, e, -, -, hrow⟩ := Hv.out.below HB3.out
            cases e
            obtain ⟨g, off, rfl, hx⟩ := hrow.byteF (k := a) hlt
            obtain ⟨x, hxx⟩ : ∃ x, fb l a = x := ⟨_, rfl⟩
            rw [hxx] at hx htok
            have HT5 : Hid (ToksTo (fb l) l.length (a + 1) (ts ++ [⟨x, 0, 0⟩])) := Lib.hid (HT.out.snoc hlt htok)
            have a0 : (0 : Int) ≤ (a : Int) := by omega
            have a1 : (a : Int) < (l.length : Int) := by omega
            clear htok hS hend HO2 hrow hxx
            by_cases hdd : d ≤ 32768
            · have d1 : decide ((d : Int) ≤ 32768) = true := by simp; omega
              have d2 : decide (d ≤ a) = false := by simp; omega
              go_wp2_with (at_builtin; refine wpList_append_three wr rfl (.tmp 42) (.tmp 48) 23 rfl w.heap.size 26 _ 24 tok_info Try.underlying23 rfl (.slice po q co) q (ts.flatMap encT) rfl HO3.out (.int .u8 (x : Int)) (.int .i64 0) (.int .i64 0) _ rfl rfl rfl rfl ?c3 ?c4 hs3 ?_)
              case c3 => simp only [maxLen]; omega
              case c4 => omega
              intro g1 cap1 w5 ho1 ht1 hg1
              have HB5 := Lib.hid (HB3.out.trans (ht1.below hs3 (fun k hk => (HO3.out.lt k hk).1)))
              have HO5 : Hid (OwnT w5 w.heap.size (.slice (some ⟨g1, 0, none⟩) (q + 1) cap1) (ts ++ [⟨x, 0, 0⟩])) := Lib.hid (by
                unfold OwnT
                rw [List.length_append, Hq.out, List.flatMap_append]
                exact ho1)
              have hlen : (ts ++ [(⟨x, 0, 0⟩ : Tk)]).length = q + 1 := by rw [List.length_append, Hq.out]; rfl
              have Hlen := Lib.hid hlen
              clear ho1 ht1 hg1 HO3 hlen hx
              go_wp2
              go_roundw
              case rel => exact ⟨a + 1, ts ++ [⟨x, 0, 0⟩], by go_num, by omega, by rw [Hlen.out]; omega, HO5, HT5, HB5⟩
              case measure => simp [intOf]; omega
            · have d1 : decide ((d : Int) ≤ 32768) = false := by simp; omega
              go_wp2_with (at_builtin; refine wpList_append_three wr rfl (.tmp 42) (.tmp 48) 23 rfl w.heap.size 26 _ 24 tok_info Try.underlying23 rfl (.slice po q co) q (ts.flatMap encT) rfl HO3.out (.int .u8 (x : Int)) (.int .i64 0) (.int .i64 0) _ rfl rfl rfl rfl ?e3 ?e4 hs3 ?_)
              case e3 => simp only [maxLen]; omega
              case e4 => omega
              intro g1 cap1 w5 ho1 ht1 hg1
              have HB5 := Lib.hid (HB3.out.trans (ht1.below hs3 (fun k hk => (HO3.out.lt k hk).1)))
              have HO5 : Hid (OwnT w5 w.heap.size (.slice (some ⟨g1, 0, none⟩) (q + 1) cap1) (ts ++ [⟨x, 0, 0⟩])) := Lib.hid (by
                unfold OwnT
                rw [List.length_append, Hq.out, List.flatMap_append]
                exact ho1)
              have hlen : (ts ++ [(⟨x, 0, 0⟩ : Tk)]).length = q + 1 := by rw [List.length_append, Hq.out]; rfl
              have Hlen := Lib.hid hlen
              clear ho1 ht1 hg1 HO3 hlen hx
              go_wp2
              go_roundw
              case rel => exact ⟨a + 1, ts ++ [⟨x, 0, 0⟩], by go_num, by omega, by rw [Hlen.out]; omega, HO5, HT5, HB5⟩
              case measure => simp [intOf]; omega
    · obtain rfl : a = l.length := by omega
      have d0 : decide (l.length < l.length) = false := by simp
      go_wp2_with fail
      go_ret
      exact ⟨_, ts, rfl, HO.out, HT.out.all, HB.out⟩

end Go.Proofs.Ytngiiacibbgiiaa
