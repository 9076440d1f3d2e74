/- The walk of the statement HuffCodes. -/
import Derived.Test.YtlbhgackpjfhaaaHufPb
import Derived.Test.YtlbhgackpjfhaaaHufZ
namespace Go.Proofs.Ytlbhgackpjfhaaa
open Go.RowKit Go.Maps

theorem c_cells {w : World} {base n : Nat} {p : Option Addr} {c : Nat} {f : Nat → Nat} (h : w.ownsRow base 30 1 (.slice p n c) n (cRow f n)) : ∀ i, i < n → ∃ b, p = some ⟨b, 0, none⟩ ∧ w.cell? ⟨b, i, none⟩ = some (.int .u16 ((f i : Nat) : Int)) := fun i hi => by
  obtain ⟨b, c', e, -, -, hc⟩ := owns_ptr h (by omega)
  injection e with e1 _ _
  exact ⟨b, e1, hc i _ (by rw [cRow_at _ hi]; rfl)⟩

set_option maxRecDepth 20000 in
set_option maxHeartbeats 2000000 in
theorem hcodes_any (v : Value) (l : List Nat) (w : World) (hv : Rw8 w v l) (_hb : ∀ b ∈ l, b < 256) : Makes Try.prog 3 #[v] w (.bool true) := by
  unfold Makes
  have Hv := Lib.hid hv
  obtain ⟨p, c, rfl, hc1, hc2, hsrc⟩ := hv.src enc8_len (by decide)
  rw [flat8] at hsrc
  have Hsrc := Lib.hid hsrc
  obtain ⟨i0, hi0, hz0, hz1, hz2⟩ := info_parts u8_info
  clear hv hsrc
  go_enter Try.func3, Try.ntmps3
  by_cases hl : 330 < l.length
  · have d0 : decide ((l.length : Int) > 330) = true := by simp; omega
    go_wp2
    go_ret
    exact ⟨rfl, Below.refl _ _⟩
  have d0 : decide ((l.length : Int) > 330) = false := by simp; omega
  go_wp2_with (at_builtin; refine wpList_append_mine w rfl (.tmp 14) (.tmp 15) 22 rfl w.heap.size 5 i0 _ 1 1 Try.underlying22 hi0 hz0 hz1 hz2 rfl (by decide) (.slice none 0 0) 0 [] rfl (World.ownsRow_nil _ _ _ _) p l.length c (l.map u8v) rfl (by simp) Hsrc.out (one8 _) ?n3 ?n4 (Nat.le_refl _) ?_)
  case n3 => simp only [maxLen]; omega
  case n4 => omega
  intro v1 w1 ho1 hg1 _
  have hb1 : Below w.heap.size w w1 := (Turns.of_grown (T := fun _ => False) hg1 (fun i e => by cases e)).below (Nat.le_refl _) (fun i h => h.elim)
  have hr1 : Rw8 w1 v1 l := Rw8.own (base := w.heap.size) (n := l.length) (by simpa using ho1) rfl
  obtain ⟨p1, c1, rfl, -, -, -⟩ := hr1.cells
  have Hr1 := Lib.hid hr1
  have Hb1 := Lib.hid hb1
  clear ho1 hg1 hb1 hr1
  by_cases hc : chk l = 0
  · go_wp2_with fail
    refine Calls.mono (codes_ok l _ w1 Hr1.out.row hc) ?_
    rintro e w2 ⟨va, rfl, hoa, hb2⟩
    obtain ⟨pa, ca, rfl⟩ := owns_slice hoa
    have Hoa := Lib.hid hoa
    have Hb2 := Lib.hid (Below.thn Hb1.out hb2)
    have Hr2 := Lib.hid (Hr1.out.below hb2)
    clear hoa hb2 Hr1
    go_wp2_with fail
    refine Calls.mono (refCodes_ok l _ w2 (Hv.out.below Hb2.out).row hc) ?_
    rintro e w3 ⟨vb, rfl, hob, hb3⟩
    obtain ⟨pb, cb, rfl⟩ := owns_slice hob
    have Hoa3 := Lib.hid ((Turns.of_below' (T := fun _ => False) hb3).owns Hoa.out (fun _ _ h => h))
    have Hob := Lib.hid hob
    have Hb3 := Lib.hid (Below.thn Hb2.out hb3)
    have Hr3 := Lib.hid (Hr2.out.below hb3)
    clear hob hb3 Hr2 Hoa
    go_wp2_with fail
    refine Calls.mono (new_ok l _ w3 Hr3.out.row hc (apt_chk hc)) ?_
    rintro e w4 ⟨T, rfl, -, hb4⟩
    have Hoa4 := Lib.hid ((Turns.of_below' (T := fun _ => False) hb4).owns Hoa3.out (fun _ _ h => h))
    have Hob4 := Lib.hid ((Turns.of_below' (T := fun _ => False) hb4).owns Hob.out (fun _ _ h => h))
    have Hb4 := Lib.hid (Below.thn Hb3.out hb4)
    have Hr4 := Lib.hid (Hr3.out.below hb4).row
    clear hb4 Hr3 Hoa3 Hob
    go_wp2_with fail
    go_loopw [10] (fun iv wr => ∃ i : Nat, iv = .int .i64 (i : Int) ∧ i ≤ l.length ∧ Hid (Below w4.heap.size w4 wr)) (fun iv _ => l.length - (intOf iv).toNat)
    case atStart => exact ⟨0, rfl, Nat.zero_le _, Lib.hid (Below.refl _ _)⟩
    case round =>
      obtain ⟨i, rfl, hi, HB⟩ := hrel
      by_cases hin : i < l.length
      · obtain ⟨ga, rfl, hca⟩ := c_cells Hoa4.out i hin
        obtain ⟨gb, rfl, hcb⟩ := c_cells Hob4.out i hin
        obtain ⟨p', c', e', _, _, hrow1⟩ := Hr4.out
        cases e'
        obtain ⟨g1, off1, rfl, hcc⟩ := hrow1.byte hin
        obtain ⟨p', c', e', _, _, hrow2⟩ := (Hv.out.below Hb4.out).row
        cases e'
        obtain ⟨g2, off2, rfl, hcd⟩ := hrow2.byte hin
        have k0 := cell_later HB.out hca
        have k1 := cell_later HB.out hcb
        have k2 := cell_later HB.out hcc
        have k3 := cell_later HB.out hcd
        unfold u8v at k2 k3
        generalize ((if 0 < lq l i then cd (lq l) l.length i else 0 : Nat) : Int) = y at k0 k1
        generalize lq l i = z at k2 k3
        have j0 : (0 : Int) ≤ (i : Int) := by omega
        have j1 : (i : Int) < (l.length : Int) := by omega
        clear hca hcb hcc hcd hrow1 hrow2
        go_upto_region 13 with (fail)
        go_quiet (fail)
        rename_i nq
        have hd : Below wr.heap.size wr (wr.drewN nq) := Below.drewN' (Below.refl _ _) nq
        have HB2 := Lib.hid (Below.thn HB.out hd)
        generalize wr.drewN nq = W2 at *
        clear hd k0 k1 k2 k3
        go_wp2
        go_roundw
        case rel => exact ⟨i + 1, by go_num, by omega, HB2⟩
        case measure => simp [intOf]; omega
      · obtain rfl : i = l.length := by omega
        go_wp2_with fail
        refine Calls.mono (codes_law wr) ?_
        rintro e w5 ⟨rfl, hb5⟩
        have Hb5 := Lib.hid (Below.thn (Below.thn Hb4.out HB.out) hb5)
        clear hb5
        go_wp2
        go_ret
        exact ⟨rfl, Hb5.out⟩
  · go_wp2_with fail
    refine Calls.mono (codes_bad l _ w1 Hr1.out.row hc) ?_
    have Hc := Lib.hid hc
    rintro e w2 ⟨rfl, rfl⟩
    go_wp2_with fail
    refine Calls.mono (refCodes_bad l _ w2 (Hv.out.below Hb1.out).row Hc.out) ?_
    rintro e w3 ⟨rfl, rfl⟩
    go_wp2_with fail
    refine Calls.mono (new_bad l _ w3 Hr1.out.row Hc.out) ?_
    rintro e w4 ⟨rfl, rfl⟩
    generalize chk l = r at *
    have e0 : (r == 0) = false := by simpa using hc
    clear hc
    go_wp2_with fail
    go_loopw [10] (fun iv wr => iv = .int .i64 0 ∧ wr = w4) (fun iv _ => 1)
    case atStart => exact ⟨rfl, rfl⟩
    case round =>
      obtain ⟨rfl, rfl⟩ := hrel
      go_wp2_with fail
      refine Calls.mono (codes_law wr) ?_
      rintro e w5 ⟨rfl, hb5⟩
      have Hb5 := Lib.hid (Below.thn Hb1.out hb5)
      clear hb5
      go_wp2
      go_ret
      exact ⟨rfl, Hb5.out⟩

end Go.Proofs.Ytlbhgackpjfhaaa
