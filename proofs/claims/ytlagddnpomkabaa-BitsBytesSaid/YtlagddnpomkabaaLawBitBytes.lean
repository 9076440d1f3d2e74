/- The walk of the statement BitsBytes. -/
import Derived.Test.YtlagddnpomkabaaBitG
namespace Go.Proofs.Ytlagddnpomkabaa
open Go.RowKit

theorem alignN_8 (k : Nat) : alignN (8 * k) = 8 * k := alignN_of _ (by omega)

theorem byts_of_numB {l : List Nat} (h : ∀ b ∈ l, b < 256) : byts (numB l) ((8 * l.length + 7) / 8) = l := by
  rw [show (8 * l.length + 7) / 8 = l.length by omega, byts_numB l h]

set_option maxHeartbeats 8000000 in
set_option maxRecDepth 100000 in
theorem bbytes_any (va : Value) (la : List Nat) (vb : Value) (lb : List Nat) (w : World) (ha : Rw8 w va la) (ba : ∀ x ∈ la, x < 256) (hb : Rw8 w vb lb) (bb : ∀ x ∈ lb, x < 256) :
    Makes Try.prog 9 #[va, vb] w (.bool true) := by
  unfold Makes
  have hla63 := ha.row.len
  have hlb63 := hb.row.len
  obtain ⟨pa, ca, rfl, -, -, hsa⟩ := ha.src enc8_len (by decide)
  obtain ⟨pb, cb, rfl, -, -, hsb⟩ := hb.src enc8_len (by decide)
  rw [flat8] at hsa hsb
  by_cases h1 : la.length ≤ 2000
  · by_cases h2 : lb.length ≤ 2000
    · obtain ⟨i0, hi0, hz0, hz1, hz2⟩ := info_parts u8_info
      have hb0 : Below w.heap.size w ((w.alloc (.cells #[.slice none 0 0, .int .i64 0] 25)).alloc (.cells #[] 5)) := Below.al2 _ _ _
      have Hsa := Lib.hid (show (pa = none ∧ la.length = 0 ∧ ca = 0) ∨ ∃ ad, pa = some ad ∧ ∀ j u, (la.map u8v)[j]? = some u → ((w.alloc (.cells #[.slice none 0 0, .int .i64 0] 25)).alloc (.cells #[] 5)).cell? (ad.add j) = some u from by
        rcases hsa with h | ⟨ad, e, hc⟩
        · exact .inl h
        · exact .inr ⟨ad, e, fun j u hu => cell_later hb0 (hc j u hu)⟩)
      have Hrb := Lib.hid (hb.below hb0)
      have hbl := hb.lt
      have Hown := Lib.hid (show ((w.alloc (.cells #[.slice none 0 0, .int .i64 0] 25)).alloc (.cells #[] 5)).ownsRow (w.heap.size + 1) 5 1 (.slice (some ⟨w.heap.size + 1, 0, none⟩) 0 0) 0 [] from by
        simpa using World.ownsRow_lit (base := w.heap.size + 1) (size := 1) (e := 5) (w.alloc (.cells #[.slice none 0 0, .int .i64 0] 25)) #[] 0 (by simp) (Nat.zero_le _) rfl)
      have Hw0 := Lib.hid ((WrA.new w).below (X' := fun q => q = w.heap.size + 1) (Below.al1 _ (.cells #[] 5)) (fun q h => by subst h; simp))
      have d1 : decide ((2000 : Int) < (la.length : Int)) = false := by simp; omega
      have d2 : decide ((2000 : Int) < (lb.length : Int)) = false := by simp; omega
      have hbl : ∀ q, (Value.slice pb lb.length cb).ownBlock = some q → q < w.heap.size := hbl
      clear ha hb hsa hsb hb0
      go_enter Try.func9, Try.ntmps9
      go_wp2_with (at_builtin; refine wpList_append_mine _ rfl (.tmp 20) (.tmp 21) 23 rfl (w.heap.size + 1) 5 i0 _ 1 1 Try.underlying23 hi0 hz0 hz1 hz2 rfl (by decide) (.slice (some ⟨w.heap.size + 1, 0, none⟩) 0 0) 0 [] rfl Hown.out pa la.length ca (la.map u8v) rfl (by simp) Hsa.out (one8 la) ?n3 ?n4 ?n5 ?_)
      case n3 => simp only [maxLen]; omega
      case n4 => omega
      case n5 => simp
      intro v1 w1 ho1 hg1 hp1
      have hw1 : WrA (fun q => v1.ownBlock = some q) w.heap.size (w.heap.size + 1) w.heap.size 0 0 w w1 := Hw0.out.other (T := fun q => q = w.heap.size + 1) (Turns.of_grown hg1 (fun i h => by cases h; rfl)) (fun q _ h => ⟨h, by omega⟩) (fun q hq => ⟨by
        rcases hp1 q hq with h | h
        · cases h; exact .inl rfl
        · exact .inr (by simpa using h), (ho1.lt q hq).2⟩)
      have hrb1 : Rw8 w1 (.slice pb lb.length cb) lb := Hrb.out.turns (T := fun q => q = w.heap.size + 1) (Turns.of_grown hg1 (fun i h => by cases h; rfl)) (fun q hq h => by
        have := hbl q hq; omega)
      obtain ⟨_, _, e, -, -, hsb⟩ := hrb1.src enc8_len (by decide)
      cases e
      rw [flat8] at hsb
      have Hsb := Lib.hid hsb
      have Hw1 := Lib.hid hw1
      obtain ⟨p1, c1, rfl⟩ := owns_slice ho1
      have Ho1 := Lib.hid ho1
      have hs1 : w.heap.size + 1 ≤ w1.heap.size := by have := hg1.size; simp at this; omega
      clear ho1 hg1 hp1 hw1 hrb1 hsb Hsa Hrb Hown Hw0
      go_wp2_with (at_builtin; refine wpList_append_mine _ rfl (.tmp 22) (.tmp 23) 23 rfl (w.heap.size + 1) 5 i0 _ 1 1 Try.underlying23 hi0 hz0 hz1 hz2 rfl (by decide) (.slice p1 la.length c1) la.length (la.map u8v) rfl Ho1.out pb lb.length cb (lb.map u8v) rfl (by simp) Hsb.out (one8 lb) ?m3 ?m4 hs1 ?_)
      case m3 => simp only [maxLen]; omega
      case m4 => omega
      intro v2 w2 ho2 hg2 hp2
      have hw2 : WrA (fun q => v2.ownBlock = some q) w.heap.size (w.heap.size + 1) w.heap.size 0 0 w w2 := Hw1.out.other (T := fun q => (Value.slice p1 la.length c1).ownBlock = some q) (Turns.of_grown hg2 (fun i h => h)) (fun q _ h => ⟨h, by have := (Ho1.out.lt q h).1; omega⟩) (fun q hq => ⟨hp2 q hq, (ho2.lt q hq).2⟩)
      have hall : Rw8 w2 v2 (la ++ lb) := Rw8.own (base := w.heap.size + 1) (by rw [List.map_append]; exact ho2) (by rw [List.length_append])
      have hlen : (la ++ lb).length ≤ 4000 := by rw [List.length_append]; omega
      have hbal : ∀ x ∈ la ++ lb, x < 256 := fun x hx => by
        rcases List.mem_append.1 hx with h | h
        · exact ba x h
        · exact bb x h
      rw [← List.length_append] at ho2
      obtain ⟨l, hl⟩ : ∃ l, la ++ lb = l := ⟨_, rfl⟩
      rw [hl] at ho2 hall hlen hbal
      obtain ⟨p2, c2, hv2⟩ := owns_slice ho2
      subst hv2
      have Hall := Lib.hid hall
      have Hw2 := Lib.hid hw2
      have Hbal := Lib.hid hbal
      clear hl ho2 hg2 hp2 hw2 hall hbal Hw1 Ho1 Hsb hs1 ba bb h1 h2 hla63 hlb63 d1 d2
      go_wp2
      go_loopw [7] (fun i wr => ∃ k : Nat, i = .int .i64 (k : Int) ∧ k ≤ l.length ∧ Hid (WrA (fun q => (Value.slice p2 l.length c2).ownBlock = some q) w.heap.size (w.heap.size + 1) w.heap.size (numB (l.take k)) (8 * k) w wr) ∧ Hid (Rw8 wr (.slice p2 l.length c2) l)) (fun i _ => l.length - (intOf i).toNat)
      case atStart => exact ⟨0, rfl, Nat.zero_le _, Hw2, Hall⟩
      case round =>
        obtain ⟨k, rfl, hk, Hw, Hr⟩ := hrel
        by_cases hlt : k < l.length
        · obtain ⟨_, _, e, -, -, hcell⟩ := Rw8.cells Hr.out
          cases e
          obtain ⟨g, off, rfl, hcx⟩ := hcell k hlt
          have hb256 := Hbal.out l[k] (List.getElem_mem hlt)
          have Htk := Lib.hid (numB_take_succ l k hlt)
          generalize l[k] = x at *
          clear hcell
          go_wp2_with fail
          refine Calls.mono (putA_ok (v := x) (k := 8) Hw.out (by omega) (by decide) (by omega)) ?_
          rintro e w3 ⟨rfl, hw3, ht3⟩
          have Hw3 : Hid (WrA (fun q => (Value.slice (some ⟨g, off, none⟩) l.length c2).ownBlock = some q) w.heap.size (w.heap.size + 1) w.heap.size (numB (l.take (k + 1))) (8 * (k + 1)) w w3) := Lib.hid (by rw [Htk.out]; exact hw3)
          have Hr3 := Lib.hid (Hr.out.turns ht3 (fun q hq hn => hn hq))
          clear hw3 ht3 hcx
          go_wp2_with fail
          refine Calls.mono (alignA Hw3.out) ?_
          rintro e w4 ⟨rfl, hw4, ht4⟩
          rw [alignN_8] at hw4
          have Hw4 := Lib.hid hw4
          have Hr4 := Lib.hid (Hr3.out.turns ht4 (fun q hq hn => hn hq))
          clear hw4 ht4
          go_wp2
          go_roundw
          case rel => exact ⟨k + 1, by go_num, by omega, Hw4, Hr4⟩
          case measure => simp [intOf]; omega
        · obtain rfl : k = l.length := by omega
          obtain ⟨wo, rfl⟩ : ∃ wo : World, wo = wr := ⟨_, rfl⟩
          have Hw' : Hid (WrS w.heap.size (w.heap.size + 1) w.heap.size (numB l) (8 * l.length) w wo) := Lib.hid (by have := Hw.out.s; rw [List.take_length] at this; exact this)
          clear Hw
          go_wp2_with fail
          refine Calls.mono (newS (W0 := wo) (S := wo.heap.size) (Below.refl _ _) (Nat.le_refl _) Hr.out Hbal.out (by omega)) ?_
          rintro e w3 ⟨Br, rfl, hr3, -, -⟩
          have Hr3 := Lib.hid hr3
          clear hr3
          go_wp2_with fail
          refine Calls.mono (bytesS (Hw'.out.below Hr3.out.keeps)) ?_
          rintro e w4 ⟨v4, rfl, ho4⟩
          rw [byts_of_numB Hbal.out] at ho4
          have Hr4 := Lib.hid (Hr3.out.below ho4.2)
          have Ho4 := Lib.hid (Rw8.own ho4.1 rfl)
          obtain ⟨p4, c4, rfl⟩ := owns_slice ho4.1
          clear ho4 Hr3
          go_wp2_with fail
          refine Calls.mono (bytes_eq _ _ _ _ Ho4.out (Hr.out.below Hr4.out.keeps)) ?_
          rintro e w5 ⟨rfl, hb5⟩
          have Hr5 := Lib.hid (Hr4.out.below hb5)
          clear hb5 Ho4 Hr4
          go_wp2
          go_loopw [9] (fun i w6 => ∃ k : Nat, i = .int .i64 (k : Int) ∧ k ≤ l.length ∧ Hid (RdS wo.heap.size Br l (8 * k) wo w6)) (fun i _ => l.length - (intOf i).toNat)
          case atStart => exact ⟨0, rfl, Nat.zero_le _, Hr5⟩
          case round =>
            obtain ⟨k, rfl, hk, Hd⟩ := hrel
            by_cases hlt : k < l.length
            · go_wp2_with fail
              refine Calls.mono (getS_ok (k := 8) Hd.out (by decide) (by omega)) ?_
              rintro e w7 ⟨rfl, hd7, -⟩
              have Hd7 : Hid (RdS wo.heap.size Br l (8 * (k + 1)) wo w7) := Lib.hid hd7
              have hnum : numB l / 2 ^ (8 * k) % 2 ^ 8 = l[k] := by rw [← pow256]; exact numB_get l Hbal.out k hlt
              rw [hnum]
              obtain ⟨_, _, e, -, -, hcell⟩ := Rw8.cells (Hr.out.below Hd7.out.keeps)
              cases e
              obtain ⟨g, off, rfl, hcx⟩ := hcell k hlt
              have hb256 := Hbal.out l[k] (List.getElem_mem hlt)
              generalize l[k] = x at *
              clear hd7 hnum hcell
              go_wp2
              go_roundw
              case rel => exact ⟨k + 1, by go_num, by omega, Hd7⟩
              case measure => simp [intOf]; omega
            · obtain rfl : k = l.length := by omega
              go_wp2_with fail
              refine Calls.mono (leftS Hd.out) ?_
              rintro e w7 ⟨rfl, hb7⟩
              rw [Nat.sub_self]
              have Hd7 := Lib.hid (Hd.out.below hb7)
              clear hb7
              go_wp2_with fail
              refine Calls.mono (lays_any _) ?_
              rintro e w8 ⟨rfl, hb8⟩
              go_wp2
              go_ret
              exact ⟨rfl, (Hw'.out.below (Hd7.out.below hb8).keeps).keeps⟩
    · have d1 : decide ((2000 : Int) < (la.length : Int)) = false := by simp; omega
      have d2 : decide ((2000 : Int) < (lb.length : Int)) = true := by simp; omega
      clear ha hb hsa hsb
      go_enter Try.func9, Try.ntmps9
      go_wp2
      go_ret
      exact ⟨rfl, Below.refl _ _⟩
  · have d1 : decide ((2000 : Int) < (la.length : Int)) = true := by simp; omega
    clear ha hb hsa hsb
    go_enter Try.func9, Try.ntmps9
    go_wp2
    go_ret
    exact ⟨rfl, Below.refl _ _⟩

end Go.Proofs.Ytlagddnpomkabaa
