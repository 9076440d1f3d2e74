/- The walk of the statement LzKnown. -/
import Derived.Test.YtngiiacibbgiiaaLzP
namespace Go.Proofs.Ytngiiacibbgiiaa
open Go.RowKit

set_option maxRecDepth 20000 in
set_option maxHeartbeats 40000000 in
theorem zknown_any (w : World) : Makes Try.prog 8 #[] w (.bool true) := by
  unfold Makes
  have hneq := neq_tk
  have hself := eqT_self
  have hcs := fun (w : World) (C : Array Value) (n c : Nat) => Lib.run_convert_bytes_const (P := Try.prog) w 22 5 C n c Try.underlying22 Try.underlying5
  go_enter Try.func8, Try.ntmps8
  go_wp2_with fail
  have hr1 := row_mark8 w [97, 97, 97, 97, 97] (5, 6) (by decide)
  refine Calls.mono (match_any [97, 97, 97, 97, 97] _ _ hr1 (by decide) (by decide)) ?_
  rintro e w1 ⟨v1, ts1, rfl, ho1, ht1, hb1⟩
  have hts : ts1 = [⟨97, 0, 0⟩, ⟨0, 4, 1⟩] := (toks_eq ht1).trans kn_a
  subst hts
  have Hb1 := Lib.hid (Below.thn (Below.al1 w _) hb1)
  obtain ⟨p1, c1, rfl, hc⟩ := ho1.row.tok
  have Hc1 := Lib.hid hc
  clear hr1 ho1 ht1 hb1 hc
  simp only [List.length_cons, List.length_nil, Nat.zero_add, Nat.reduceAdd]
  go_wp2_with fail
  have hr1 := row_mark8 w1 [97, 98, 97, 98] (4, 5) (by decide)
  refine Calls.mono (match_any [97, 98, 97, 98] _ _ hr1 (by decide) (by decide)) ?_
  rintro e w2 ⟨v2, ts2, rfl, ho1, ht1, hb1⟩
  have hts : ts2 = [⟨97, 0, 0⟩, ⟨98, 0, 0⟩, ⟨97, 0, 0⟩, ⟨98, 0, 0⟩] := (toks_eq ht1).trans kn_b
  subst hts
  have Hb12 := Lib.hid (Below.thn (Below.al1 w1 _) hb1)
  have Hb2 := Lib.hid (Below.thn Hb1.out Hb12.out)
  obtain ⟨p2, c2, rfl, -⟩ := ho1.row.tok
  clear hr1 ho1 ht1 hb1
  simp only [List.length_cons, List.length_nil, Nat.zero_add, Nat.reduceAdd]
  go_wp2_with fail
  have hr1 := row_mark8 w2 [120, 97, 98, 99, 121, 97, 98, 99, 100, 122, 97, 98, 99, 100] (14, 15) (by decide)
  refine Calls.mono (match_any [120, 97, 98, 99, 121, 97, 98, 99, 100, 122, 97, 98, 99, 100] _ _ hr1 (by decide) (by decide)) ?_
  rintro e w3 ⟨v3, ts3, rfl, ho1, ht1, hb1⟩
  have hts : ts3 = [⟨120, 0, 0⟩, ⟨97, 0, 0⟩, ⟨98, 0, 0⟩, ⟨99, 0, 0⟩, ⟨121, 0, 0⟩, ⟨0, 3, 4⟩, ⟨100, 0, 0⟩, ⟨122, 0, 0⟩, ⟨0, 4, 5⟩] := (toks_eq ht1).trans kn_c
  subst hts
  have Hb23 := Lib.hid (Below.thn (Below.al1 w2 _) hb1)
  have Hb3 := Lib.hid (Below.thn Hb2.out Hb23.out)
  obtain ⟨p3, c3, rfl, hc⟩ := ho1.row.tok
  obtain ⟨g1, o1, rfl, x0, x1, x2⟩ := Hc1.out 1 (by decide)
  obtain ⟨g3, o3, rfl, y0, y1, y2⟩ := hc 5 (by decide)
  obtain ⟨g3', o3', e, z0, z1, z2⟩ := hc 8 (by decide)
  cases e
  have hb13 := Below.thn Hb12.out Hb23.out
  have x0 := cell_later hb13 x0
  have x1 := cell_later hb13 x1
  have x2 := cell_later hb13 x2
  clear hr1 ho1 ht1 hb1 hc hb13
  simp only [List.length_cons, List.length_nil, Nat.zero_add, Nat.reduceAdd, Nat.reduceMul, List.getElem_cons_succ, List.getElem_cons_zero] at *
  go_wp2_with fail
  refine Calls.mono (match_any [] _ w3 (row_nil8 w3) (by decide) (by decide)) ?_
  rintro e w4 ⟨v4, ts4, rfl, ho1, ht1, hb1⟩
  have hts : ts4 = [] := by
    have := ht1.le.2
    exact List.eq_nil_of_length_eq_zero (by simpa using this)
  subst hts
  have y0 := cell_later hb1 y0
  have y1 := cell_later hb1 y1
  have y2 := cell_later hb1 y2
  have z0 := cell_later hb1 z0
  have z1 := cell_later hb1 z1
  have z2 := cell_later hb1 z2
  have Hb4 := Lib.hid (Below.thn Hb3.out hb1)
  obtain ⟨p4, c4, rfl⟩ := owns_slice ho1
  clear ho1 ht1 hb1 x0 x1 x2
  simp only [List.length_nil]
  go_upto_region 6 with (fail)
  clear y0 y1 y2 z0 z1 z2
  go_upto_region 7 with (fail)
  generalize hW5 : World.alloc _ _ = W5
  obtain ⟨hb5, hbad⟩ := bad_world (w := w4) (W := W5) hW5
  have Hb5 := Lib.hid (Below.thn Hb4.out hb5)
  obtain ⟨BB, hBB⟩ : ∃ BB, w4.heap.size + 1 + 1 + 1 + 1 + 1 + 1 + 1 + 1 + 1 = BB := ⟨_, rfl⟩
  have Hbad := Lib.hid (show ∀ i, i < 9 → ∃ (p : Option Addr) (n : Nat) (ts : List Tk), W5.cell? ⟨BB, i, none⟩ = some (.slice p n n) ∧ Row encT 3 W5 (.slice p n n) ts ∧ xp ts [] = ([], 70) ∧ ts.length ≤ 10 by rw [← hBB]; exact hbad)
  rw [hBB]
  clear hW5 hb5 hbad hBB
  go_wp2
  go_loopw [5] (fun iv wr => ∃ i : Nat, iv = .int .i64 (i : Int) ∧ i ≤ 9 ∧ Hid (Below W5.heap.size W5 wr)) (fun iv _ => 9 - (intOf iv).toNat)
  case atStart => exact ⟨0, rfl, Nat.zero_le _, Lib.hid (Below.refl _ _)⟩
  case round =>
    obtain ⟨i, rfl, hi, HB⟩ := hrel
    by_cases hin : i < 9
    · have d1 : decide ((i : Int) < 9) = true := by simp; omega
      obtain ⟨p, n, ts, h1, h2, h3, h4⟩ := Hbad.out i hin
      have h1 := cell_later HB.out h1
      have hc := expand_any ts (.slice p n n) wr (h2.below HB.out) (by omega)
      rw [h3] at hc
      have Hc := Lib.hid hc
      have i0 : (0 : Int) ≤ (i : Int) := by omega
      have i1 : (i : Int) < 9 := by omega
      clear h2 h3 hc
      go_wp2_with fail
      refine Calls.mono Hc.out ?_
      rintro e w6 ⟨v6, rfl, ho6, hb6⟩
      have HB6 := Lib.hid (Below.thn HB.out hb6)
      obtain ⟨p6, c6, rfl⟩ := owns_slice ho6
      clear ho6 hb6 h1
      simp only [List.length_nil]
      go_wp2_with fail
      go_roundw
      case rel => exact ⟨i + 1, by go_num, by omega, HB6⟩
      case measure => simp [intOf]; omega
    · obtain rfl : i = 9 := by omega
      have HB6 := Lib.hid (Below.thn Hb5.out HB.out)
      clear HB
      generalize wr = W6 at *
      have hmk : ∀ w : World, (Instr.makeSlice 22 (.int .i64 32774) (.int .i64 32774)).run Try.prog w = .ok (.slice (some ⟨w.heap.size, 0, none⟩) 32774 32774) (w.alloc (.cells (nZ 32774) 5)) := fun w => make_8 32774 (by decide) w
      have HS0 := Lib.hid (SomeB.new W6 32774 (by decide))
      have HB7 := Lib.hid (Below.al1 W6 (.cells (nZ 32774) 5))
      go_wp2
      generalize W6.alloc (.cells (nZ 32774) 5) = W7 at *
      obtain ⟨G, hG⟩ : ∃ G, W6.heap.size = G := ⟨_, rfl⟩
      rw [hG] at HS0 ⊢
      have HG := Lib.hid hG
      clear hG hmk
      have hxor := fun a b => (xorN_eq a b).1
      go_loopw [9] (fun iv wr => ∃ i : Nat, iv = .int .i64 (i : Int) ∧ i ≤ 32774 ∧ Hid (SomeB wr G G 32774) ∧ Hid (Turns (fun k => k = G) W7 wr)) (fun iv _ => 32774 - (intOf iv).toNat)
      case atStart => exact ⟨0, rfl, Nat.zero_le _, HS0, Lib.hid (Turns.refl _ _)⟩
      case round =>
        obtain ⟨i, rfl, hi, HS, HT⟩ := hrel
        by_cases hin : i < 32774
        · have d1 : decide ((i : Int) < 32774) = true := by simp; omega
          obtain ⟨u, hu, hf⟩ := HS.out.at hin
          have i0 : (0 : Int) ≤ (i : Int) := by omega
          have i1 : (i : Int) < 32774 := by omega
          have HS2 := Lib.hid (HS.out.put i (xorN ((i : Int) / 256) ((i : Int) * 7 % 256)) (xorN_eq _ _).2)
          have HT2 := Lib.hid (HT.out.set (p := ⟨G, i, none⟩) rfl (.int .u8 ((xorN ((i : Int) / 256) ((i : Int) * 7 % 256) : Nat) : Int)))
          go_wp2_with fail
          go_roundw
          case rel => exact ⟨i + 1, by go_num, by omega, HS2, HT2⟩
          case measure => simp [intOf]; omega
        · obtain rfl : i = 32774 := by omega
          clear hi hin
          go_wp2
          go_loopw [10] (fun iv wr => ∃ i : Nat, iv = .int .i64 (i : Int) ∧ i ≤ 3 ∧ Hid (SomeB wr G G 32774) ∧ Hid (Turns (fun k => k = G) W7 wr)) (fun iv _ => 3 - (intOf iv).toNat)
          case atStart => exact ⟨0, rfl, Nat.zero_le _, HS, HT⟩
          case round =>
            clear HS HT
            obtain ⟨i, rfl, hi, HS, HT⟩ := hrel
            by_cases hin : i < 3
            · have d1 : decide ((i : Int) < 3) = true := by simp; omega
              obtain ⟨j, hj⟩ : ∃ j, 32768 + i = j := ⟨_, rfl⟩
              obtain ⟨k, hk⟩ : ∃ k, 32771 + i = k := ⟨_, rfl⟩
              have ej : (32768 : Int) + (i : Int) = (j : Int) := by omega
              have ek : (32771 : Int) + (i : Int) = (k : Int) := by omega
              have hjl : j < 32774 := by omega
              have hkl : k < 32774 := by omega
              have hil : i < 32774 := by omega
              have hij : ¬ j = i := by omega
              clear hj hk
              obtain ⟨u, hu, hf⟩ := HS.out.at hil
              have HS1 := Lib.hid (HS.out.put i 251 (by decide))
              have HT1 := Lib.hid (HT.out.set (p := ⟨G, i, none⟩) rfl (.int .u8 251))
              obtain ⟨W8, hW8⟩ : ∃ W8, wr.setCell ⟨G, i, none⟩ (.int .u8 251) = W8 := ⟨_, rfl⟩
              have HS1' : Hid (SomeB W8 G G 32774) := Lib.hid (by rw [← hW8]; exact HS1.out)
              have HT1' : Hid (Turns (fun k => k = G) W7 W8) := Lib.hid (by rw [← hW8]; exact HT1.out)
              obtain ⟨u2, hu2, hf2⟩ := HS1'.out.at hjl
              obtain ⟨W9, hW9⟩ : ∃ W9, W8.setCell ⟨G, j, none⟩ (.int .u8 251) = W9 := ⟨_, rfl⟩
              have HS2 : Hid (SomeB W9 G G 32774) := Lib.hid (by rw [← hW9]; exact HS1'.out.put j 251 (by decide))
              have HT2 : Hid (Turns (fun k => k = G) W7 W9) := Lib.hid (by rw [← hW9]; exact HT1'.out.set (p := ⟨G, j, none⟩) rfl (.int .u8 251))
              obtain ⟨u3, hu3, hf3⟩ := HS2.out.at hkl
              have HS3 := Lib.hid (HS2.out.put k 251 (by decide))
              have HT3 := Lib.hid (HT2.out.set (p := ⟨G, k, none⟩) rfl (.int .u8 251))
              have i0 : (0 : Int) ≤ (i : Int) := by omega
              have i1 : (i : Int) < 32774 := by omega
              have j0 : (0 : Int) ≤ (j : Int) := by omega
              have j1 : (j : Int) < 32774 := by omega
              have k0 : (0 : Int) ≤ (k : Int) := by omega
              have k1 : (k : Int) < 32774 := by omega
              clear HS1 HT1
              go_wp2_with fail
              go_roundw
              case rel => exact ⟨i + 1, by go_num, by omega, HS3, HT3⟩
              case measure => simp [intOf]; omega
            · obtain rfl : i = 3 := by omega
              clear hi hin
              obtain ⟨xs, hxl, hxb, hxo⟩ := HS.out
              have Hfar := Lib.hid (show Row enc8 1 wr (.slice (some ⟨G, 0, none⟩) 32774 32774) xs by
                have := Row.own8 (l := xs) (v := .slice (some ⟨G, 0, none⟩) 32774 32774) (by rw [hxl]; exact hxo)
                exact this)
              have HB8 := Lib.hid (HB6.out.trans ((HB7.out.mono HB6.out.size).trans (HT.out.below (Nat.le_trans HB6.out.size HB7.out.size) (fun k hk => by subst hk; rw [← HG.out]; exact HB6.out.size))))
              have Hxl := Lib.hid hxl
              clear hxo HS HT HB7 HS0
              go_wp2_with fail
              refine Calls.mono (match_any xs _ wr Hfar.out hxb (by rw [hxl]; decide)) ?_
              rintro e w8 ⟨v8, tf, rfl, ho8, ht8, hb8⟩
              have Ho8 := Lib.hid ho8.row
              have htell := ht8.tell (by rw [hxl]; decide)
              have hle := ht8.le.2
              rw [hxl] at hle
              have HB9 := Lib.hid (Below.thn HB8.out hb8)
              have Hfar8 := Lib.hid (Hfar.out.below hb8)
              obtain ⟨p8, c8, rfl⟩ := owns_slice ho8
              clear ho8 ht8 hb8 hxl
              go_wp2_with fail
              have hca := expand_any tf _ w8 Ho8.out (by omega)
              rw [htell] at hca
              refine Calls.mono hca ?_
              rintro e w9 ⟨v9, rfl, ho9, hb9⟩
              have hs1 := str_row (Row.own8 ho9)
              have hs2 := str_row (Hfar8.out.below hb9)
              have HB10 := Lib.hid (Below.thn HB9.out hb9)
              obtain ⟨p9, c9, rfl⟩ := owns_slice ho9
              simp only
              simp only [Hxl.out] at hs1 ⊢
              generalize strN xs = S at hs1 hs2
              clear ho9 hb9 hca htell hle hxb Hfar8 HB9 Ho8
              go_upto_region 28 with (fail)
              clear hs1 hs2
              go_upto_region 29 with (fail)
              generalize hW10 : World.alloc _ _ = W10
              have HM := Lib.hid (show W10.ownsRow w9.heap.size 26 3 (.slice (some ⟨w9.heap.size, 0, none⟩) 1 1) 1 ((manyT 0).flatMap encT) by
                rw [← hW10]
                exact World.ownsRow_lit (base := w9.heap.size) (size := 3) (e := 26) w9 ((manyT 0).flatMap encT).toArray 1 (Nat.le_refl _) (by decide) rfl)
              have HB11 := Lib.hid (Below.thn HB10.out (show Below w9.heap.size w9 W10 by rw [← hW10]; exact Below.al1 w9 _))
              have hsz : w9.heap.size ≤ W10.heap.size := by rw [← hW10]; exact (Below.al1 w9 _).size
              clear hW10
              have hMw : w.heap.size ≤ w9.heap.size := HB10.out.size
              generalize w9.heap.size = M at *
              go_wp2
              go_loopw [14, 15] (fun mv kv wr => ∃ k : Nat, kv = .int .i64 (k : Int) ∧ k ≤ 2032 ∧ Hid (wr.ownsRow M 26 3 mv (k + 1) ((manyT k).flatMap encT)) ∧ Hid (Turns (fun b => M ≤ b) W10 wr)) (fun _ kv _ => 2032 - (intOf kv).toNat)
              case atStart => exact ⟨0, rfl, Nat.zero_le _, HM, Lib.hid (Turns.refl _ _)⟩
              case round =>
                obtain ⟨k, rfl, hk, HO, HT⟩ := hrel
                obtain ⟨pm, cm, rfl⟩ := owns_slice HO.out
                by_cases hkk : k < 2032
                · have d1 : decide ((k : Int) < 2032) = true := by simp; omega
                  have hs1 : M ≤ wr.heap.size := Nat.le_trans hsz HT.out.size
                  go_wp2_with (at_builtin; refine wpList_append_three wr rfl (.tmp 172) (.tmp 174) 23 rfl M 26 _ 24 tok_info Try.underlying23 rfl (.slice pm (k + 1) cm) (k + 1) ((manyT k).flatMap encT) rfl HO.out (.int .u8 0) (.int .i64 258) (.int .i64 1) _ rfl rfl rfl rfl ?n3 ?n4 hs1 ?_)
                  case n3 => simp only [maxLen]; omega
                  case n4 => omega
                  intro ga cap1 wa hoa hta hga
                  have HO2 : Hid (wa.ownsRow M 26 3 (.slice (some ⟨ga, 0, none⟩) (k + 1 + 1) cap1) (k + 1 + 1) ((manyT (k + 1)).flatMap encT)) := Lib.hid (by
                    rw [manyT_snoc, List.flatMap_append]; exact hoa)
                  have HT2 := Lib.hid (HT.out.trans (hta.mono (T' := fun b => M ≤ b) (fun b _ hb => (HO.out.lt b hb).1)))
                  clear hoa hta hga hs1
                  go_wp2
                  go_roundw
                  case rel => exact ⟨k + 1, by go_num, by omega, HO2, HT2⟩
                  case measure => simp [intOf]; omega
                · have Hk := Lib.hid (show k = 2032 by omega)
                  have d1 : decide ((k : Int) < 2032) = false := by simp; omega
                  have hk2 : k ≤ 3000 := by omega
                  have HB12 := Lib.hid (HB11.out.trans ((HT.out.below hsz (fun b hb => hb)).mono hMw))
                  have HB13 := Lib.hid (HB12.out)
                  obtain ⟨ys, h1, h2⟩ : ∃ ys, xp (manyT k) [] = (ys, 0) ∧ ys.length = 524257 := by rw [Hk.out]; exact many_ok
                  have hlong : xp (manyT (k + 1)) [] = ([], 2) := by rw [Hk.out]; exact many_long
                  have Hlong := Lib.hid hlong
                  have hca := expand_any (manyT k) (.slice pm (k + 1) cm) wr (OwnT.row (base := M) (by unfold OwnT; rw [manyT_len]; exact HO.out)) (by rw [manyT_len]; omega)
                  rw [h1] at hca
                  have Hca := Lib.hid hca
                  have H2 := Lib.hid h2
                  have hs1 : M ≤ wr.heap.size := Nat.le_trans hsz HT.out.size
                  clear h1 h2 hca hlong HT hk hkk
                  go_wp2_with fail
                  refine Calls.mono Hca.out ?_
                  rintro e w13 ⟨v13, rfl, ho13, hb13⟩
                  have HO13 := Lib.hid ((Turns.of_below' (T := fun _ => False) hb13).owns HO.out (fun _ _ h => h))
                  have HB14 := Lib.hid (Below.thn HB13.out hb13)
                  obtain ⟨py, cy, rfl⟩ := owns_slice ho13
                  have hs13 : M ≤ w13.heap.size := Nat.le_trans hs1 hb13.size
                  simp only [H2.out]
                  clear ho13 hb13 hs1 HO
                  go_wp2_with (at_builtin; refine wpList_append_three w13 rfl (.tmp 182) (.tmp 184) 23 rfl M 26 _ 24 tok_info Try.underlying23 rfl (.slice pm (k + 1) cm) (k + 1) ((manyT k).flatMap encT) rfl HO13.out (.int .u8 0) (.int .i64 258) (.int .i64 1) _ rfl rfl rfl rfl ?q3 ?q4 hs13 ?_)
                  case q3 => simp only [maxLen]; omega
                  case q4 => omega
                  intro ga cap1 wa hoa hta hga
                  have HBa := Lib.hid (HB14.out.trans ((hta.below hs13 (fun b hb => (HO13.out.lt b hb).1)).mono hMw))
                  have hca := expand_any (manyT (k + 1)) (.slice (some ⟨ga, 0, none⟩) (k + 1 + 1) cap1) wa (OwnT.row (base := M) (by unfold OwnT; rw [manyT_len, manyT_snoc, List.flatMap_append]; exact hoa)) (by rw [manyT_len]; omega)
                  rw [Hlong.out] at hca
                  have Hca := Lib.hid hca
                  clear hoa hta hga hca HO13
                  go_wp2_with fail
                  refine Calls.mono Hca.out ?_
                  rintro e w15 ⟨v15, rfl, ho15, hb15⟩
                  have HBb := Lib.hid (Below.thn HBa.out hb15)
                  clear ho15 hb15
                  go_wp2_with fail
                  have hca := expand_any [] _ w15 (row_nilT w15) (by decide)
                  rw [show xp [] [] = ([], 0) from rfl] at hca
                  refine Calls.mono hca ?_
                  rintro e w16 ⟨v16, rfl, ho16, hb16⟩
                  have HBc := Lib.hid (Below.thn HBb.out hb16)
                  obtain ⟨pz, cz, rfl⟩ := owns_slice ho16
                  simp only [List.length_nil]
                  clear ho16 hb16 hca
                  go_wp2_with fail
                  refine Calls.mono (matches_law w16) ?_
                  rintro e w17 ⟨rfl, hb17⟩
                  have HBd := Lib.hid (Below.thn HBc.out hb17)
                  clear hb17
                  go_wp2
                  go_ret
                  exact ⟨rfl, HBd.out⟩

end Go.Proofs.Ytngiiacibbgiiaa
