/- Several texts in one, each with its own head. -/
import Derived.Test.YtebfdoipogjpnaaGreatQr3
/- inflate: the document's order and fixed lengths. -/
namespace Go.Proofs.YtebfdoipogjpnaaGreat
open Go.RowKit Go.Maps

theorem fix_at : ∀ i, i < 288 → fixA[i]? = some (if 143 < i ∧ i < 256 then 9 else if 255 < i ∧ i < 280 then 7 else 8) := by decide +kernel
theorem fix_len : fixA.length = 288 := by decide +kernel
theorem fixA_snoc {i : Nat} (h : i < 288) {x : Nat} (hx : fixA[i]? = some x) : (fixA.take (i + 1)).map u8v = (fixA.take i).map u8v ++ [.int .u8 (x : Int)] := by
  have hl : i < fixA.length := by rw [fix_len]; exact h
  rw [List.take_succ_eq_append_getElem hl, List.map_append]
  have : fixA[i] = x := by rw [List.getElem?_eq_getElem hl] at hx; injection hx
  rw [this]; rfl

theorem owns_baseI {w : World} {B B' : Nat} {e : TypeId} {size : Nat} {v : Value} {n : Nat} {xs : List Value} (h : w.ownsRow B e size v n xs) (hb : B' ≤ B) : w.ownsRow B' e size v n xs :=
  ⟨h.1, h.2.imp id fun ⟨g, cap, cur, a, b, c⟩ => ⟨g, cap, cur, a, Nat.le_trans hb b, c⟩⟩

set_option maxRecDepth 20000 in
set_option maxHeartbeats 4000000 in
theorem fixed_any (w : World) : Calls Tryz.prog 33 #[] w fun e w' => ∃ va vb, e = .returned (.tuple #[va, vb]) ∧ w'.ownsRow w.heap.size 5 1 va 288 (fixA.map u8v) ∧ w'.ownsRow w.heap.size 5 1 vb 32 (fixD.map u8v) ∧ Below w.heap.size w w' := by
  go_enter Tryz.func33, Tryz.ntmps33
  go_wp2
  go_loopw [2, 4] (fun v iv wr => ∃ i : Nat, iv = .int .i64 (i : Int) ∧ i ≤ 288 ∧ Hid (wr.ownsRow w.heap.size 5 1 v i ((fixA.take i).map u8v)) ∧ Hid (Below w.heap.size w wr)) (fun _ iv _ => 288 - (intOf iv).toNat)
  case atStart => exact ⟨0, rfl, Nat.zero_le _, Lib.hid (World.ownsRow_nil _ _ _ _), Lib.hid (Below.refl _ _)⟩
  case round =>
    obtain ⟨i, rfl, hi, HO, HB⟩ := hrel
    obtain ⟨p, c, rfl⟩ := owns_slice HO.out
    by_cases hin : i < 288
    · have d0 : decide ((i : Int) < 288) = true := by simp; omega
      have hat := fix_at i hin
      obtain ⟨x, hx⟩ : ∃ x, (if 143 < i ∧ i < 256 then 9 else if 255 < i ∧ i < 280 then 7 else 8) = x := ⟨_, rfl⟩
      rw [hx] at hat
      have Hat := Lib.hid hat
      have Hx := Lib.hid hx
      have hs := HB.out.size
      have hx9 : x ≤ 9 := by rw [← hx]; split <;> (try split) <;> omega
      clear hat hx
      have h4 : (i ≤ 143 ∧ x = 8) ∨ ((143 < i ∧ i < 256) ∧ x = 9) ∨ ((255 < i ∧ i < 280) ∧ x = 7) ∨ (280 ≤ i ∧ x = 8) := by
        have := Hx.out
        split at this
        · omega
        · split at this <;> omega
      rcases h4 with ⟨h4, rfl⟩ | ⟨h4, rfl⟩ | ⟨h4, rfl⟩ | ⟨h4, rfl⟩
      · have d1 : decide ((i : Int) > 143) = false := by simp; omega
        have d2 : decide ((i : Int) < 256) = true := by simp; omega
        have d3 : decide ((i : Int) > 255) = false := by simp; omega
        have d4 : decide ((i : Int) < 280) = true := by simp; omega
        go_wp2_with (at_builtin; refine wpList_append_one wr rfl (.tmp 23) (.tmp 26) 22 rfl w.heap.size 5 _ 1 u8_info Tryz.underlying22 rfl (.slice p i c) i _ rfl HO.out (.int .u8 8) _ rfl rfl ?n30 ?n40 hs ?_)
        case n30 => simp only [maxLen]; omega
        case n40 => omega
        intro g1 cap1 w5 ho1 ht1 hg1
        have HO1 : Hid (w5.ownsRow w.heap.size 5 1 (.slice (some ⟨g1, 0, none⟩) (i + 1) cap1) (i + 1) ((fixA.take (i + 1)).map u8v)) := Lib.hid (by rw [fixA_snoc hin Hat.out, List.map_take]; exact ho1)
        have HB1 := Lib.hid (HB.out.trans (ht1.below hs (fun k hk => (HO.out.lt k hk).1)))
        clear ho1 ht1 hg1
        go_wp2
        go_roundw
        case rel => exact ⟨i + 1, by go_num, by omega, HO1, HB1⟩
        case measure => simp [intOf]; omega
      · have d1 : decide ((i : Int) > 143) = true := by simp; omega
        have d2 : decide ((i : Int) < 256) = true := by simp; omega
        have d3 : decide ((i : Int) > 255) = false := by simp; omega
        have d4 : decide ((i : Int) < 280) = true := by simp; omega
        go_wp2_with (at_builtin; refine wpList_append_one wr rfl (.tmp 23) (.tmp 26) 22 rfl w.heap.size 5 _ 1 u8_info Tryz.underlying22 rfl (.slice p i c) i _ rfl HO.out (.int .u8 9) _ rfl rfl ?n31 ?n41 hs ?_)
        case n31 => simp only [maxLen]; omega
        case n41 => omega
        intro g1 cap1 w5 ho1 ht1 hg1
        have HO1 : Hid (w5.ownsRow w.heap.size 5 1 (.slice (some ⟨g1, 0, none⟩) (i + 1) cap1) (i + 1) ((fixA.take (i + 1)).map u8v)) := Lib.hid (by rw [fixA_snoc hin Hat.out, List.map_take]; exact ho1)
        have HB1 := Lib.hid (HB.out.trans (ht1.below hs (fun k hk => (HO.out.lt k hk).1)))
        clear ho1 ht1 hg1
        go_wp2
        go_roundw
        case rel => exact ⟨i + 1, by go_num, by omega, HO1, HB1⟩
        case measure => simp [intOf]; omega
      · have d1 : decide ((i : Int) > 143) = true := by simp; omega
        have d2 : decide ((i : Int) < 256) = false := by simp; omega
        have d3 : decide ((i : Int) > 255) = true := by simp; omega
        have d4 : decide ((i : Int) < 280) = true := by simp; omega
        go_wp2_with (at_builtin; refine wpList_append_one wr rfl (.tmp 23) (.tmp 26) 22 rfl w.heap.size 5 _ 1 u8_info Tryz.underlying22 rfl (.slice p i c) i _ rfl HO.out (.int .u8 7) _ rfl rfl ?n32 ?n42 hs ?_)
        case n32 => simp only [maxLen]; omega
        case n42 => omega
        intro g1 cap1 w5 ho1 ht1 hg1
        have HO1 : Hid (w5.ownsRow w.heap.size 5 1 (.slice (some ⟨g1, 0, none⟩) (i + 1) cap1) (i + 1) ((fixA.take (i + 1)).map u8v)) := Lib.hid (by rw [fixA_snoc hin Hat.out, List.map_take]; exact ho1)
        have HB1 := Lib.hid (HB.out.trans (ht1.below hs (fun k hk => (HO.out.lt k hk).1)))
        clear ho1 ht1 hg1
        go_wp2
        go_roundw
        case rel => exact ⟨i + 1, by go_num, by omega, HO1, HB1⟩
        case measure => simp [intOf]; omega
      · have d1 : decide ((i : Int) > 143) = true := by simp; omega
        have d2 : decide ((i : Int) < 256) = false := by simp; omega
        have d3 : decide ((i : Int) > 255) = true := by simp; omega
        have d4 : decide ((i : Int) < 280) = false := by simp; omega
        go_wp2_with (at_builtin; refine wpList_append_one wr rfl (.tmp 23) (.tmp 26) 22 rfl w.heap.size 5 _ 1 u8_info Tryz.underlying22 rfl (.slice p i c) i _ rfl HO.out (.int .u8 8) _ rfl rfl ?n33 ?n43 hs ?_)
        case n33 => simp only [maxLen]; omega
        case n43 => omega
        intro g1 cap1 w5 ho1 ht1 hg1
        have HO1 : Hid (w5.ownsRow w.heap.size 5 1 (.slice (some ⟨g1, 0, none⟩) (i + 1) cap1) (i + 1) ((fixA.take (i + 1)).map u8v)) := Lib.hid (by rw [fixA_snoc hin Hat.out, List.map_take]; exact ho1)
        have HB1 := Lib.hid (HB.out.trans (ht1.below hs (fun k hk => (HO.out.lt k hk).1)))
        clear ho1 ht1 hg1
        go_wp2
        go_roundw
        case rel => exact ⟨i + 1, by go_num, by omega, HO1, HB1⟩
        case measure => simp [intOf]; omega
    · obtain rfl : i = 288 := by omega
      have e : fixA.take 288 = fixA := List.take_of_length_le (by rw [fix_len]; exact Nat.le_refl _)
      rw [e] at HO
      generalize wr = W1 at *
      clear e
      rw [show ((288 : Nat) : Int) = 288 from rfl]
      go_wp2
      go_loopw [3, 6] (fun v iv wr => ∃ i : Nat, iv = .int .i64 (i : Int) ∧ i ≤ 32 ∧ Hid (W1.heap.size ≤ wr.heap.size) ∧ Hid (wr.ownsRow W1.heap.size 5 1 v i ((List.replicate i 5).map u8v)) ∧ Hid (Below W1.heap.size W1 wr)) (fun _ iv _ => 32 - (intOf iv).toNat)
      case atStart => exact ⟨0, rfl, Nat.zero_le _, Lib.hid (Nat.le_refl _), Lib.hid (World.ownsRow_nil _ _ _ _), Lib.hid (Below.refl _ _)⟩
      case round =>
        obtain ⟨j, rfl, hj, HS, HP, HC⟩ := hrel
        obtain ⟨p2, c2, rfl⟩ := owns_slice HP.out
        by_cases hjn : j < 32
        · have d0 : decide ((j : Int) < 32) = true := by simp; omega
          have hs := HS.out
          go_wp2_with (at_builtin; refine wpList_append_one wr rfl (.tmp 32) (.tmp 33) 22 rfl W1.heap.size 5 _ 1 u8_info Tryz.underlying22 rfl (.slice p2 j c2) j _ rfl HP.out (.int .u8 5) _ rfl rfl ?m3 ?m4 hs ?_)
          case m3 => simp only [maxLen]; omega
          case m4 => omega
          intro g1 cap1 w5 ho1 ht1 hg1
          have HP1 : Hid (w5.ownsRow W1.heap.size 5 1 (.slice (some ⟨g1, 0, none⟩) (j + 1) cap1) (j + 1) ((List.replicate (j + 1) 5).map u8v)) := Lib.hid (by rw [List.map_replicate, List.replicate_succ']; exact ho1)
          have HC1 := Lib.hid (HC.out.trans (ht1.below hs (fun k hk => (HP.out.lt k hk).1)))
          have HS1 := Lib.hid HC1.out.size
          clear ho1 ht1 hg1
          go_wp2
          go_roundw
          case rel => exact ⟨j + 1, by go_num, by omega, HS1, HP1, HC1⟩
          case measure => simp [intOf]; omega
        · obtain rfl : j = 32 := by omega
          go_wp2
          go_ret2
          exact ⟨_, _, rfl, (Turns.of_below' (T := fun _ => False) HC.out).owns HO.out (fun _ _ h => h), owns_baseI HP.out HB.out.size, HB.out.trans (HC.out.mono HB.out.size)⟩

end Go.Proofs.YtebfdoipogjpnaaGreat

/- inflate: the document's order, the statement's word of a code, and what is proper. -/
namespace Go.Proofs.YtebfdoipogjpnaaGreat
open Go.RowKit Go.Maps

set_option maxRecDepth 20000 in
set_option maxHeartbeats 2000000 in
theorem order_any (w : World) : Calls Tryz.prog 68 #[] w fun e w' => ∃ g c, e = .returned (.slice (some ⟨g, 0, none⟩) 19 c) ∧ (∀ k, k < 19 → w'.cell? ⟨g, k, none⟩ = some (.int .i64 ((ordL.getD k 0 : Nat) : Int))) ∧ Below w.heap.size w w' := by
  go_enter Tryz.func68, Tryz.ntmps68
  go_wp2
  go_ret
  refine ⟨_, _, rfl, fun k hk => ?_, Below.al1 w _⟩
  have hk' : k < ordL.length := hk
  refine cell_heap (World.alloc_heap_new w _) ?_
  have key : ∀ k, k < 19 → (ordL.map fun (x : Nat) => Value.int .i64 (x : Int)).toArray[k]? = some (Value.int .i64 ((ordL.getD k 0 : Nat) : Int)) := by
    intro k hk
    rw [List.getElem?_toArray, List.getElem?_map, List.getD_eq_getElem?_getD, List.getElem?_eq_getElem (show k < ordL.length from hk)]
    rfl
  exact key k hk

end Go.Proofs.YtebfdoipogjpnaaGreat
