/- The walk of the statement BitsBack. -/
import Derived.Test.YtlagddnpomkabaaBitH
import Derived.Deep.RegionHeld3
namespace Go.Proofs.Ytlagddnpomkabaa
open Go.RowKit

theorem int_info : (Try.prog.info? 3).map (fun i => (i.zero, i.size, i.bytes)) = some (some (.int .i64 0), 1, 8) := by kernel_rfl

/-- The places ahead of the first k acts. -/
def posL (l : List BAct) (k : Nat) : List Value := (List.range k).map fun i => .int .i64 ((stAt (l.take i)).2 : Int)
theorem posL_succ (l : List BAct) (k : Nat) : posL l (k + 1) = posL l k ++ [.int .i64 ((stAt (l.take k)).2 : Int)] := by simp [posL, List.range_succ]

set_option maxHeartbeats 8000000 in
set_option maxRecDepth 100000 in
theorem bback_any (va : Value) (l : List BAct) (w : World) (h : RwA w va l) (hb : ∀ a ∈ l, a.v < 4294967296) :
    Makes Try.prog 5 #[va] w (.bool true) := by
  unfold Makes
  obtain ⟨p, c, rfl, -, -, -⟩ := RwA.cells h
  have hl63 := h.row.len
  by_cases h200 : l.length ≤ 200
  · have d1 : decide ((200 : Int) < (l.length : Int)) = false := by simp; omega
    have H := Lib.hid h
    have Hb := Lib.hid hb
    clear h hb hl63
    go_enter Try.func5, Try.ntmps5
    go_wp2
    go_loopw [4, 5] (fun av i wr => ∃ k : Nat, i = .int .i64 (k : Int) ∧ k ≤ l.length ∧ Hid (WrA (fun q => av.ownBlock = some q) w.heap.size (w.heap.size + 1) w.heap.size (stAt (l.take k)).1 (stAt (l.take k)).2 w wr) ∧ Hid (wr.ownsRow (w.heap.size + 1) 3 1 av k (posL l k))) (fun _ i _ => l.length - (intOf i).toNat)
    case atStart => exact ⟨0, rfl, Nat.zero_le _, Lib.hid ((WrA.new w).below (X' := fun _ => False) (Below.refl _ _) (fun _ h => h.elim) |>.below (Below.refl _ _) (fun q h => by cases h)), Lib.hid (World.ownsRow_nil _ _ _ _)⟩
    case round =>
      obtain ⟨k, rfl, hk, Hw, Ha⟩ := hrel
      obtain ⟨pa, ca, rfl⟩ := owns_slice Ha.out
      by_cases hlt : k < l.length
      · have hst := stAt_le l k hk
        have hsz : w.heap.size + 1 ≤ wr.heap.size := by obtain ⟨_, _, _, h3, _⟩ := Hw.out; exact h3
        have hsucc := stAt_succ l k hlt
        have Hpl := Lib.hid (posL_succ l k)
        obtain ⟨s, hs⟩ : ∃ s, stAt (l.take k) = s := ⟨_, rfl⟩
        rw [hs] at Hw hst hsucc Hpl
        obtain ⟨N, n⟩ := s
        simp only at hst Hw Hpl
        have Hsucc := Lib.hid hsucc
        have hbv := Hb.out l[k] (List.getElem_mem hlt)
        clear hs hsucc
        go_wp2_with fail
        refine Calls.mono (lenS Hw.out.s) ?_
        rintro e w1 ⟨rfl, rfl⟩
        go_wp2_with (at_builtin; refine wpList_append_one w1 rfl (.tmp 20) (.tmp 22) 51 rfl (w.heap.size + 1) 3 _ 8 int_info Try.underlying51 rfl (.slice pa k ca) k (posL l k) rfl Ha.out (.int .i64 (n : Int)) _ rfl rfl ?n3 ?n4 hsz ?_)
        case n3 => simp only [maxLen]; omega
        case n4 => omega
        intro g cap w2 ho2 ht2 hg2
        have Ho2 : Hid (w2.ownsRow (w.heap.size + 1) 3 1 (.slice (some ⟨g, 0, none⟩) (k + 1) cap) (k + 1) (posL l (k + 1))) := Lib.hid (by rw [Hpl.out]; exact ho2)
        have Hw2 : Hid (WrA (fun q => (Value.slice (some ⟨g, 0, none⟩) (k + 1) cap).ownBlock = some q) w.heap.size (w.heap.size + 1) w.heap.size N n w w2) := Lib.hid (Hw.out.other ht2 (fun q _ hq => ⟨hq, by have := (Ha.out.lt q hq).1; omega⟩) (fun q hq => ⟨by cases hq; exact hg2, (ho2.lt q hq).2⟩))
        have hr2 := H.out.below Hw2.out.s.keeps
        obtain ⟨_, _, e, -, -, hcell⟩ := RwA.cells hr2
        cases e
        obtain ⟨ga, oa, rfl, hact⟩ := hcell k hlt
        have Hact := Lib.hid hact
        obtain ⟨c0, c1, c2⟩ := hact
        clear ho2 ht2 hg2 hr2 hcell Hw Ha
        cases hal : l[k].al with
        | true =>
          rw [hal] at c2
          have Hst := Lib.hid (Hsucc.out.trans (posS_al hal))
          clear hal
          go_wp2_with fail
          refine Calls.mono (alignA Hw2.out) ?_
          rintro e w3 ⟨rfl, hw3, ht3⟩
          have Ho3 := Lib.hid (ht3.owns Ho2.out (fun q hq hn => hn hq))
          have Hw3 : Hid (WrA (fun q => (Value.slice (some ⟨g, 0, none⟩) (k + 1) cap).ownBlock = some q) w.heap.size (w.heap.size + 1) w.heap.size (stAt (l.take (k + 1))).1 (stAt (l.take (k + 1))).2 w w3) := Lib.hid (by rw [Hst.out]; exact hw3)
          clear hw3 ht3 c0 c1 c2
          go_wp2
          go_roundw
          case rel => exact ⟨k + 1, by go_num, by omega, Hw3, Ho3⟩
          case measure => simp [intOf]; omega
        | false =>
          rw [hal] at c2
          cases hm : mayB l[k].v l[k].n with
          | true =>
            obtain ⟨m, hn, hm24, hv⟩ := mayB_true hm
            have Hst := Lib.hid (Hsucc.out.trans (posS_may hal hn hm))
            rw [hn] at c1
            have hm' := hm
            rw [hn] at hm'
            have Hm := Lib.hid hm'
            have Hv := Lib.hid hv
            generalize l[k].v = x at *
            clear hal hm hm' hn hv
            have hg12 : w.heap.size + 1 ≤ g ∧ g < w2.heap.size := Ho2.out.lt g rfl
            have HP : Hid (∀ w', Below w2.heap.size w2 w' → Calls Try.prog 13 #[.pointer (some ⟨w.heap.size, 0, none⟩), .int .u32 (x : Int), .int .i64 (m : Int)] w' fun e w'' => e = .returned (.int .i64 0) ∧ w''.cell? ⟨ga, oa + k * 3, none⟩ = some (.int .u32 (x : Int)) ∧ w''.cell? ⟨ga, oa + k * 3 + 1, none⟩ = some (.int .i64 (m : Int)) ∧
                Hid (WrA (fun q => (Value.slice (some ⟨g, 0, none⟩) (k + 1) cap).ownBlock = some q) w.heap.size (w.heap.size + 1) w.heap.size (stAt (l.take (k + 1))).1 (stAt (l.take (k + 1))).2 w w'' ∧ w''.ownsRow (w.heap.size + 1) 3 1 (.slice (some ⟨g, 0, none⟩) (k + 1) cap) (k + 1) (posL l (k + 1)))) := Lib.hid (fun w' hb' => by
              refine Calls.mono (putA_ok (v := x) (k := m) (Hw2.out.below hb' (fun q hq => ⟨.inl hq, by cases hq; exact Nat.lt_of_lt_of_le hg12.2 hb'.size⟩)) Hv.out hm24 (by omega)) ?_
              rintro e w'' ⟨he, hw, ht⟩
              have hlt : ga < w.heap.size := H.out.lt ga rfl
              have hwk := hw.s.keeps
              refine ⟨he, ?_, ?_, by rw [Hst.out]; exact hw, ht.owns ((Turns.of_below' (T := fun _ => False) hb').owns Ho2.out (fun _ _ h => h)) (fun q hq hn => hn hq)⟩
              · exact (hwk.cell (p := ⟨ga, oa + k * 3, none⟩) hlt).trans ((Hw2.out.s.keeps.cell (p := ⟨ga, oa + k * 3, none⟩) hlt).symm.trans c0)
              · exact (hwk.cell (p := ⟨ga, oa + k * 3 + 1, none⟩) hlt).trans ((Hw2.out.s.keeps.cell (p := ⟨ga, oa + k * 3 + 1, none⟩) hlt).symm.trans c1))
            clear hg12
            go_upto_region 11 with (fail)
            have i0 : (0 : Int) ≤ (k : Int) := by omega
            have i1 : (k : Int) < (l.length : Int) := by omega
            go_region_held3 (fun w' => w'.cell? ⟨ga, oa + k * 3, none⟩ = some (.int .u32 (x : Int)) ∧ w'.cell? ⟨ga, oa + k * 3 + 1, none⟩ = some (.int .i64 (m : Int))) (go_keep)
              (first
                | (go_at_call 13; refine (HP.out _ (by exact Below.drew (Below.refl _ _))).mono ?_; rintro e w3 ⟨rfl, k0, k1, HK⟩)
                | (go_at_call 26; refine (may_true x m _ hbv Hm.out).mono ?_; rintro e w4 ⟨rfl, rfl⟩))
            have Hw4 := Lib.hid HK.out.1
            have Ho4 := Lib.hid HK.out.2
            clear HP HK k0 k1 c0 c1 c2
            go_wp2
            go_roundw
            case rel => exact ⟨k + 1, by go_num, by omega, Hw4, Ho4⟩
            case measure => simp [intOf]; omega
          | false =>
            have Hst := Lib.hid (Hsucc.out.trans (posS_not hal hm))
            have Hm := Lib.hid hm
            obtain ⟨x, hx⟩ : ∃ x, l[k].v = x := ⟨_, rfl⟩
            obtain ⟨y, hy⟩ : ∃ y, l[k].n = y := ⟨_, rfl⟩
            rw [hx] at hbv c0 Hm
            rw [hy] at c1 Hm
            clear hal hm hx hy
            go_upto_region 11 with (fail)
            have i0 : (0 : Int) ≤ (k : Int) := by omega
            have i1 : (k : Int) < (l.length : Int) := by omega
            go_region_held3 (fun w' => w'.cell? ⟨ga, oa + k * 3, none⟩ = some (.int .u32 (x : Int)) ∧ w'.cell? ⟨ga, oa + k * 3 + 1, none⟩ = some (.int .i64 y)) (go_keep)
              (first
                | (go_at_call 13; refine (put_not _ x y _ hbv Hm.out).mono ?_; rintro e w3 ⟨rfl, rfl⟩)
                | (go_at_call 26; refine (may_false x y _ hbv Hm.out).mono ?_; rintro e w4 ⟨rfl, rfl⟩))
            have hbd : Below w2.heap.size w2 w2.drew := Below.drew (Below.refl _ _)
            have Hw4 : Hid (WrA (fun q => (Value.slice (some ⟨g, 0, none⟩) (k + 1) cap).ownBlock = some q) w.heap.size (w.heap.size + 1) w.heap.size (stAt (l.take (k + 1))).1 (stAt (l.take (k + 1))).2 w w2.drew) := Lib.hid (by
              rw [Hst.out]
              exact Hw2.out.below hbd (fun q hq => ⟨.inl hq, by have := (Ho2.out.lt q hq).2; have := hbd.size; omega⟩))
            have Ho4 := Lib.hid ((Turns.of_below' (T := fun _ => False) hbd).owns Ho2.out (fun _ _ h => h))
            clear hbd c0 c1 c2
            generalize w2.drew = w4 at *
            go_wp2
            go_roundw
            case rel => exact ⟨k + 1, by go_num, by omega, Hw4, Ho4⟩
            case measure => simp [intOf]; omega
      · obtain rfl : k = l.length := by omega
        obtain ⟨wo, rfl⟩ : ∃ wo : World, wo = wr := ⟨_, rfl⟩
        have hst := stAt_le l l.length (Nat.le_refl _)
        have hlN := stAt_lt l l.length (Nat.le_refl _)
        rw [List.take_length] at hst hlN
        obtain ⟨s, hs⟩ : ∃ s, stAt l = s := ⟨_, rfl⟩
        have Hw' : Hid (WrS w.heap.size (w.heap.size + 1) w.heap.size s.1 s.2 w wo) := Lib.hid (by have := Hw.out.s; rw [List.take_length, hs] at this; exact this)
        rw [hs] at hst hlN
        obtain ⟨N, n⟩ := s
        simp only at hst hlN Hw'
        have Hs := Lib.hid hs
        obtain ⟨bl, hbl⟩ : ∃ bl, byts N ((n + 7) / 8) = bl := ⟨_, rfl⟩
        have hnl : numB bl = N := by
          rw [← hbl]
          refine numB_byts _ _ (Nat.lt_of_lt_of_le hlN ?_)
          rw [pow256]; exact Nat.pow_le_pow_right (by decide) (by omega)
        have hll : bl.length = (n + 7) / 8 := by rw [← hbl]; exact byts_len _ _
        have hlb : ∀ b ∈ bl, b < 256 := by rw [← hbl]; exact byts_lt _ _
        have Hll := Lib.hid hll
        have Hlb := Lib.hid hlb
        have Hbl := Lib.hid hbl
        have Hnl := Lib.hid hnl
        have ht7 : (((bl.length : Nat) : Int) != ((n : Int) + 7) / 8) = false := by
          rw [hll]; simp
        clear hs hbl hnl hll hlb hlN Hw
        go_wp2_with fail
        refine Calls.mono (bytesS Hw'.out) ?_
        rintro e w6 ⟨v6, rfl, ho6⟩
        rw [Hbl.out] at ho6
        obtain ⟨p6, c6, rfl⟩ := owns_slice ho6.1
        have Hw6 := Lib.hid (Hw'.out.below ho6.2)
        have R6 := Lib.hid (Rw8.own ho6.1 rfl)
        have Ha6 := Lib.hid ((Turns.of_below' (T := fun _ => False) ho6.2).owns Ha.out (fun _ _ h => h))
        clear ho6 Hw' Ha
        go_wp2_with fail
        refine Calls.mono (lenS Hw6.out) ?_
        rintro e w7 ⟨rfl, rfl⟩
        go_wp2_with fail
        refine Calls.mono (newS (W0 := w7) (S := w7.heap.size) (Below.refl _ _) (Nat.le_refl _) R6.out Hlb.out (by have := Hll.out; omega)) ?_
        rintro e w8 ⟨Br, rfl, hr8, -, -⟩
        have R8 := Lib.hid hr8
        clear hr8
        go_wp2
        go_loopw [8] (fun i wr => ∃ k : Nat, i = .int .i64 (k : Int) ∧ k ≤ l.length ∧ Hid (RdS w7.heap.size Br bl (stAt (l.take k)).2 w7 wr)) (fun i _ => l.length - (intOf i).toNat)
        case atStart => exact ⟨0, rfl, Nat.zero_le _, R8⟩
        case round =>
          obtain ⟨k, rfl, hk, Hd⟩ := hrel
          by_cases hlt : k < l.length
          · have hsucc := stAt_succ l k hlt
            have hlt1 := stAt_lt l k hk
            have hst1 := stAt_le l k hk
            have hread := stAt_read l k hlt hlt1
            rw [Hs.out] at hread
            simp only at hread
            have hfin : (stAt (l.take (k + 1))).2 ≤ n := by
              obtain ⟨M, hM⟩ := foldl_mono (l.drop (k + 1)) (stAt (l.take (k + 1)))
              have hall : (l.drop (k + 1)).foldl posS (stAt (l.take (k + 1))) = stAt l := by
                unfold stAt
                rw [← List.foldl_append, List.take_append_drop]
              rw [hall, Hs.out] at hM
              simp only at hM
              omega
            have hown := (Turns.of_below' (T := fun _ => False) Hd.out.keeps).owns Ha6.out (fun _ _ h => h)
            obtain ⟨ga, hpa⟩ : ∃ ga, pa = some ⟨ga, 0, none⟩ := by
              rcases hown.2 with ⟨-, h0⟩ | ⟨g, cap, cur, hsv, -⟩
              · omega
              · cases hsv; exact ⟨g, rfl⟩
            subst hpa
            have hcp := hown.cellAt k (by omega)
            rw [show (posL l l.length)[k]? = some (.int .i64 ((stAt (l.take k)).2 : Int)) by simp [posL, hlt]] at hcp
            obtain ⟨s1, hs1⟩ : ∃ s, stAt (l.take k) = s := ⟨_, rfl⟩
            rw [hs1] at hsucc hread hcp hst1 Hd
            obtain ⟨N1, n1⟩ := s1
            simp only at hread hcp hst1 Hd
            have hne : (((n1 : Nat) : Int) != ((n1 : Nat) : Int)) = false := by simp
            have Hsucc := Lib.hid hsucc
            have Hread := Lib.hid hread
            have Hfin := Lib.hid hfin
            have hbv := Hb.out l[k] (List.getElem_mem hlt)
            clear hsucc hread hlt1 hs1 hown hfin
            have i0 : (0 : Int) ≤ (k : Int) := by omega
            have i1 : (k : Int) < (l.length : Int) := by omega
            go_upto_region 22 with (fail)
            go_quiet ((go_at_call 24; exact Calls.quiet_of_same (atS (Hd.out.below (Go.Proofs.Ytlagddnpomkabaa.Below.drewN' (Below.refl _ _) _)))))
            rename_i nq
            have Hd9 := Lib.hid (Hd.out.below (Go.Proofs.Ytlagddnpomkabaa.Below.drewN' (Below.refl _ wr) nq))
            generalize wr.drewN nq = w9 at *
            have hra := H.out.below (Hw6.out.keeps.trans (Hd9.out.keeps.mono Hw6.out.keeps.size))
            obtain ⟨_, _, e, -, -, hcell⟩ := RwA.cells hra
            cases e
            obtain ⟨gl, ol, rfl, hact⟩ := hcell k hlt
            have Hc := Lib.hid (show ∀ W' : World, Below w7.heap.size w7 W' → W'.cell? ⟨gl, ol + k * 3, none⟩ = some (.int .u32 (l[k].v : Int)) from fun W' hb' => by
              obtain ⟨_, _, e, -, -, hcell⟩ := RwA.cells (H.out.below (Hw6.out.keeps.trans (hb'.mono Hw6.out.keeps.size)))
              cases e
              obtain ⟨_, _, e, hact⟩ := hcell k hlt
              cases e
              exact hact.c0)
            obtain ⟨c0, c1, c2⟩ := hact
            clear hcp hne hra hcell Hd
            cases hal : l[k].al with
            | true =>
              rw [hal] at c2
              have Hst := Lib.hid (Hsucc.out.trans (posS_al hal))
              clear hal c0 c1
              go_wp2_with fail
              refine Calls.mono (ralignS Hd9.out) ?_
              rintro e w10 ⟨rfl, hd10, -⟩
              have Hd10 : Hid (RdS w7.heap.size Br bl (stAt (l.take (k + 1))).2 w7 w10) := Lib.hid (by rw [Hst.out]; exact hd10)
              clear hd10 c2
              go_wp2
              go_roundw
              case rel => exact ⟨k + 1, by go_num, by omega, Hd10⟩
              case measure => simp [intOf]; omega
            | false =>
              rw [hal] at c2
              cases hm : mayB l[k].v l[k].n with
              | true =>
                obtain ⟨m, hn, hm24, hv⟩ := mayB_true hm
                have Hst := Lib.hid (Hsucc.out.trans (posS_may hal hn hm))
                have Hrd := Lib.hid (Hread.out m hal hn hm24 hv)
                have hfit : n1 + m ≤ n := by have h1 := Hfin.out; rw [Hst.out] at h1; exact h1
                rw [hn] at c1
                have hm' := hm
                rw [hn] at hm'
                have Hm := Lib.hid hm'
                clear Hread
                generalize l[k].v = x at *
                have hxx : ((x : Int) != (x : Int)) = false := by simp
                clear hal hm hm' hn hv
                go_upto_region 26 with (fail)
                go_quiet ((go_at_call 26; exact Calls.quiet_of_same (may_true x m _ hbv Hm.out)))
                have hb9 : Below w9.heap.size w9 (w9.drewN nq) := Go.Proofs.Ytlagddnpomkabaa.Below.drewN' (Below.refl _ w9) nq
                have Hd11 := Lib.hid (Hd9.out.below hb9)
                have c0' := cell_later hb9 c0
                have c1' := cell_later hb9 c1
                clear c0 c1 c2 Hd9 hb9
                generalize w9.drewN nq = w11 at *
                go_wp2_with fail
                refine Calls.mono (getS_ok (k := m) Hd11.out hm24 (by have := Hll.out; omega)) ?_
                rintro e w12 ⟨rfl, hd12, -⟩
                rw [Hnl.out, Hrd.out]
                have Hd12 : Hid (RdS w7.heap.size Br bl (stAt (l.take (k + 1))).2 w7 w12) := Lib.hid (by rw [Hst.out]; exact hd12)
                have c0 := Hc.out w12 Hd12.out.keeps
                clear hd12 c0' c1' Hd11
                go_wp2
                go_roundw
                case rel => exact ⟨k + 1, by go_num, by omega, Hd12⟩
                case measure => simp [intOf]; omega
              | false =>
                have Hst := Lib.hid (Hsucc.out.trans (posS_not hal hm))
                have Hm := Lib.hid hm
                obtain ⟨x, hx⟩ : ∃ x, l[k].v = x := ⟨_, rfl⟩
                obtain ⟨y, hy⟩ : ∃ y, l[k].n = y := ⟨_, rfl⟩
                rw [hx] at hbv c0 Hm
                rw [hy] at c1 Hm
                clear hal hm hx hy Hc Hread
                go_upto_region 26 with (fail)
                go_quiet ((go_at_call 26; exact Calls.quiet_of_same (may_false x y _ hbv Hm.out)))
                have hb9 : Below w9.heap.size w9 (w9.drewN nq) := Go.Proofs.Ytlagddnpomkabaa.Below.drewN' (Below.refl _ w9) nq
                have Hd11 : Hid (RdS w7.heap.size Br bl (stAt (l.take (k + 1))).2 w7 (w9.drewN nq)) := Lib.hid (by rw [Hst.out]; exact Hd9.out.below hb9)
                clear c0 c1 c2 Hd9 hb9
                generalize w9.drewN nq = w11 at *
                go_wp2
                go_roundw
                case rel => exact ⟨k + 1, by go_num, by omega, Hd11⟩
                case measure => simp [intOf]; omega
          · obtain rfl : k = l.length := by omega
            have Hd' : Hid (RdS w7.heap.size Br bl n w7 wr) := Lib.hid (by have := Hd.out; rw [List.take_length, Hs.out] at this; exact this)
            have hleft : 8 * bl.length - n < 8 := by rw [Hll.out]; omega
            clear Hd
            go_wp2_with fail
            refine Calls.mono (leftS Hd'.out) ?_
            rintro e w9 ⟨rfl, hb9⟩
            have Hd9 := Lib.hid (Hd'.out.below hb9)
            obtain ⟨r, hr⟩ : ∃ r, 8 * bl.length - n = r := ⟨_, rfl⟩
            rw [hr] at hleft ⊢
            have hl8 : decide (r < 8) = true := by simpa using hleft
            clear hb9 Hd' hr
            go_wp2_with fail
            refine Calls.mono (lays_any _) ?_
            rintro e w10 ⟨rfl, hb10⟩
            go_wp2
            go_ret
            exact ⟨rfl, (Hw6.out.below (Hd9.out.below hb10).keeps).keeps⟩
  · have d1 : decide ((200 : Int) < (l.length : Int)) = true := by simp; omega
    clear h
    go_enter Try.func5, Try.ntmps5
    go_wp2
    go_ret
    exact ⟨rfl, Below.refl _ _⟩

end Go.Proofs.Ytlagddnpomkabaa
