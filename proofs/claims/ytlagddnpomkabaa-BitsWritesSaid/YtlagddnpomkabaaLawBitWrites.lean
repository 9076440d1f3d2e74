/- The walk of the statement BitsWrites. -/
import Derived.Test.YtlagddnpomkabaaBitH
import Derived.Deep.RegionHeld3
namespace Go.Proofs.Ytlagddnpomkabaa
open Go.RowKit

/-- The document's row behind an act. -/
def rowS (r : List Bool) (a : BAct) : List Bool :=
  if a.al then r ++ List.replicate (alignN r.length - r.length) false else if mayB a.v a.n then r ++ bitsL a.v a.n.toNat else r
def rowAt (l : List BAct) : List Bool := l.foldl rowS []
theorem rowAt_succ (l : List BAct) (k : Nat) (h : k < l.length) : rowAt (l.take (k + 1)) = rowS (rowAt (l.take k)) l[k] := by
  unfold rowAt; rw [List.take_succ_eq_append_getElem h, List.foldl_append]; rfl
theorem rowS_al {r : List Bool} {a : BAct} (h : a.al = true) : rowS r a = r ++ List.replicate (alignN r.length - r.length) false := by unfold rowS; rw [if_pos h]
theorem rowS_may {r : List Bool} {a : BAct} {k : Nat} (h : a.al = false) (hn : a.n = (k : Int)) (hm : mayB a.v a.n = true) : rowS r a = r ++ bitsL a.v k := by
  unfold rowS; rw [if_neg (by rw [h]; simp), if_pos hm, hn]; simp
theorem rowS_not {r : List Bool} {a : BAct} (h : a.al = false) (hm : mayB a.v a.n = false) : rowS r a = r := by
  unfold rowS; rw [if_neg (by rw [h]; simp), if_neg (by rw [hm]; simp)]
theorem rowS_le (r : List Bool) (a : BAct) : (rowS r a).length ≤ r.length + 24 := by
  unfold rowS
  split
  · rw [List.length_append, List.length_replicate]; unfold alignN; omega
  · split
    · rename_i h
      obtain ⟨k, e, hk, -⟩ := mayB_true h
      rw [List.length_append, bitsL_len, e]; simp; exact hk
    · omega
theorem rowAt_le (l : List BAct) : ∀ k, k ≤ l.length → (rowAt (l.take k)).length ≤ 24 * k
  | 0, _ => by simp [rowAt]
  | k + 1, h => by
    have h1 := rowAt_le l k (by omega)
    have h2 := rowS_le (rowAt (l.take k)) l[k]
    rw [rowAt_succ l k (by omega)]
    omega

theorem numL_align (r : List Bool) : numL (r ++ List.replicate (alignN r.length - r.length) false) = numL r ∧ (r ++ List.replicate (alignN r.length - r.length) false).length = alignN r.length := by
  refine ⟨by rw [numL_append, numL_zeros]; simp, ?_⟩
  rw [List.length_append, List.length_replicate]
  have := alignN_le r.length
  omega
theorem numL_put (r : List Bool) {v k : Nat} (h : v < 2 ^ k) : numL (r ++ bitsL v k) = numL r + v * 2 ^ r.length ∧ (r ++ bitsL v k).length = r.length + k := by
  refine ⟨by rw [numL_append, numL_bitsL v k h, Nat.mul_comm], ?_⟩
  rw [List.length_append, bitsL_len]

theorem refPut_not (v : Nat) (n : Int) (lv : Value) (w : World) (hv : v < 4294967296) (h : mayB v n = false) :
    Calls Try.prog 12 #[lv, .int .u32 (v : Int), .int .i64 n] w fun e w' => e = .returned (.tuple #[lv, .int .i64 1]) ∧ w' = w := by
  rcases mayB_false h with h | ⟨k, rfl, hk, hw⟩
  · exact refPut_no v n lv w h
  · exact refPut_wide v k lv w hv hk hw

set_option maxHeartbeats 16000000 in
set_option maxRecDepth 100000 in
theorem bwrites_any (va : Value) (l : List BAct) (w : World) (h : RwA w va l) (hb : ∀ a ∈ l, a.v < 4294967296) :
    Makes Try.prog 3 #[va] w (.bool true) := by
  unfold Makes
  obtain ⟨p, c, rfl, -, -, -⟩ := RwA.cells h
  have hl63 := h.row.len
  by_cases h100 : l.length ≤ 100
  · have d1 : decide ((100 : Int) < (l.length : Int)) = false := by simp; omega
    have H := Lib.hid h
    have Hb := Lib.hid hb
    clear h hb hl63
    go_enter Try.func3, Try.ntmps3
    go_wp2
    go_loopw [4, 5] (fun u i wr => ∃ (k : Nat) (r : List Bool) (pr : Option Addr) (cr : Nat), i = .int .i64 (k : Int) ∧ k ≤ l.length ∧ u = .slice pr r.length cr ∧ Hid (rowAt (l.take k) = r) ∧ Hid (WrA (fun q => (Value.slice pr r.length cr).ownBlock = some q) w.heap.size (w.heap.size + 1) w.heap.size (numL r) r.length w wr) ∧ Hid (RwB wr (.slice pr r.length cr) r)) (fun _ i _ => l.length - (intOf i).toNat)
    case atStart => exact ⟨0, [], none, 0, rfl, Nat.zero_le _, rfl, Lib.hid rfl, Lib.hid ((WrA.new w).below (Below.refl _ _) (fun q h => by cases h)), Lib.hid ⟨⟨none, 0, rfl, Nat.le_refl _, by simp [maxLen], .inl ⟨rfl, rfl⟩⟩, fun c h => by cases h; rfl⟩⟩
    case round =>
      obtain ⟨k, r, pr, cr, rfl, hk, rfl, Hreq0, Hw, Hr⟩ := hrel
      by_cases hlt : k < l.length
      · have hrl := rowAt_le l k hk
        have hrl1 := rowAt_le l (k + 1) hlt
        have hsucc := rowAt_succ l k hlt
        rw [Hreq0.out] at hrl hsucc
        have Hrl1 := Lib.hid hrl1
        have Hsucc := Lib.hid hsucc
        have hbv := Hb.out l[k] (List.getElem_mem hlt)
        have hra := H.out.below Hw.out.s.keeps
        obtain ⟨_, _, e, -, -, hcell⟩ := RwA.cells hra
        cases e
        obtain ⟨ga, oa, rfl, hact⟩ := hcell k hlt
        have hgw : ga < w.heap.size := H.out.lt ga rfl
        have Hgw := Lib.hid hgw
        obtain ⟨c0, c1, c2⟩ := hact
        clear hra hcell hsucc hgw hrl1 Hreq0
        cases hal : l[k].al with
        | true =>
          rw [hal] at c2
          have hrs := Hsucc.out.trans (rowS_al hal)
          obtain ⟨hnum, hlen⟩ := numL_align r
          obtain ⟨r', hr'⟩ : ∃ r', r ++ List.replicate (alignN r.length - r.length) false = r' := ⟨_, rfl⟩
          rw [hr'] at hrs hnum hlen
          have hrl' : r'.length ≤ 2400 := by have := Hrl1.out; rw [hrs] at this; omega
          have Hreq : Hid (rowAt (l.take (k + 1)) = r') := Lib.hid hrs
          have Hnum := Lib.hid (And.intro hnum hlen)
          have Hr'e := Lib.hid hr'
          clear hal c0 c1 hrs hnum hlen hr'
          go_wp2_with fail
          refine Calls.mono (refAlign_any _ _ _ Hr.out (by omega)) ?_
          rintro e w3 ⟨u3, rfl, ho3, hb3⟩
          rw [Hr'e.out] at ho3
          have Ho3 := Lib.hid ho3
          obtain ⟨p', c', rfl⟩ := owns_slice ho3
          have Hw3 : Hid (WrA (fun q => (Value.slice p' r'.length c').ownBlock = some q) w.heap.size (w.heap.size + 1) w.heap.size (numL r) r.length w w3) := Lib.hid (Hw.out.below hb3 (fun q hq => ⟨.inr (Ho3.out.lt q hq).1, (Ho3.out.lt q hq).2⟩))
          clear ho3 hb3 Hw Hr c2
          go_wp2_with fail
          refine Calls.mono (alignA Hw3.out) ?_
          rintro e w5 ⟨rfl, hw5, ht5⟩
          rw [← Hnum.out.1, ← Hnum.out.2] at hw5
          have Hw5 := Lib.hid hw5
          have Hr5 := Lib.hid (Ho3.out.rw.turns ht5 (fun q hq hn => hn hq))
          clear hw5 ht5 Ho3 Hw3
          go_wp2_with fail
          refine Calls.mono (lenS Hw5.out.s) ?_
          rintro e w6 ⟨rfl, rfl⟩
          go_wp2_with fail
          refine Calls.mono (bytesS Hw5.out.s) ?_
          rintro e w7 ⟨v7, rfl, ho7⟩
          obtain ⟨p7, c7, rfl⟩ := owns_slice ho7.1
          have Hw7 := Lib.hid (Hw5.out.keep ho7.2)
          have Hr7 := Lib.hid (Hr5.out.below ho7.2)
          have R7 := Lib.hid (Rw8.own ho7.1 rfl)
          clear ho7 Hw5 Hr5
          go_wp2_with fail
          refine Calls.mono (refBytes_any _ _ _ Hr7.out (by omega)) ?_
          rintro e w8 ⟨v8, rfl, ho8⟩
          obtain ⟨p8, c8, rfl⟩ := owns_slice ho8.1
          have Hw8 := Lib.hid (Hw7.out.keep ho8.2)
          have Hr8 := Lib.hid (Hr7.out.below ho8.2)
          have R8 := Lib.hid (Rw8.own ho8.1 rfl)
          have R78 := Lib.hid (R7.out.below ho8.2)
          clear ho8 Hw7 Hr7 R7
          go_wp2_with fail
          refine Calls.mono (bytes_eq _ _ _ _ R78.out R8.out) ?_
          rintro e w9 ⟨rfl, hb9⟩
          have Hw9 := Lib.hid (Hw8.out.keep hb9)
          have Hr9 := Lib.hid (Hr8.out.below hb9)
          clear hb9 Hw8 Hr8 R78 R8
          go_wp2
          go_roundw
          case rel => exact ⟨k + 1, r', p', c', by go_num, by omega, rfl, Hreq, Hw9, Hr9⟩
          case measure => simp [intOf]; omega
        | false =>
          rw [hal] at c2
          cases hm : mayB l[k].v l[k].n with
          | true =>
            obtain ⟨m, hn, hm24, hv⟩ := mayB_true hm
            have hrs := Hsucc.out.trans (rowS_may hal hn hm)
            obtain ⟨hnum, hlen⟩ := numL_put r hv
            rw [hn] at c1
            have Hv := Lib.hid hv
            clear Hsucc
            generalize l[k].v = x at *
            obtain ⟨r', hr'⟩ : ∃ r', r ++ bitsL x m = r' := ⟨_, rfl⟩
            rw [hr'] at hrs hnum hlen
            have hrl' : r'.length ≤ 2400 := by have := Hrl1.out; rw [hrs] at this; omega
            have Hreq : Hid (rowAt (l.take (k + 1)) = r') := Lib.hid hrs
            have Hnum := Lib.hid (And.intro hnum hlen)
            have Hr'e := Lib.hid hr'
            have HC := Lib.hid (And.intro c0 c1)
            have HP : Hid (∀ w', Below wr.heap.size wr w' → Calls Try.prog 12 #[.slice pr r.length cr, .int .u32 (x : Int), .int .i64 (m : Int)] w' fun e w'' => ∃ p' c', e = .returned (.tuple #[.slice p' r'.length c', .int .i64 0]) ∧ w''.cell? ⟨ga, oa + k * 3, none⟩ = some (.int .u32 (x : Int)) ∧ w''.cell? ⟨ga, oa + k * 3 + 1, none⟩ = some (.int .i64 (m : Int)) ∧
                Hid (WrA (fun q => (Value.slice p' r'.length c').ownBlock = some q) w.heap.size (w.heap.size + 1) w.heap.size (numL r) r.length w w'' ∧ RwB w'' (.slice p' r'.length c') r')) := Lib.hid (fun w' hb' => by
              refine Calls.mono (refPut_ok x m _ r w' (Hr.out.below hb') hm24 Hv.out (by omega)) ?_
              rintro e w'' ⟨u, rfl, ho, hb''⟩
              rw [Hr'e.out] at ho
              have hbt := hb'.trans (hb''.mono hb'.size)
              have hor := ho.rw
              obtain ⟨p', c', rfl⟩ := owns_slice ho
              exact ⟨p', c', rfl, cell_later hbt HC.out.1, cell_later hbt HC.out.2, Lib.hid ⟨(Hw.out.keep hb').below hb'' (fun q hq => ⟨.inr (ho.lt q hq).1, (ho.lt q hq).2⟩), hor⟩⟩)
            clear hal hm hn hv hrs hnum hlen hr'
            go_upto_region 12 with (fail)
            have i0 : (0 : Int) ≤ (k : Int) := by omega
            have i1 : (k : Int) < (l.length : Int) := by omega
            go_region_held3 (fun w' => w'.cell? ⟨ga, oa + k * 3, none⟩ = some (.int .u32 (x : Int)) ∧ w'.cell? ⟨ga, oa + k * 3 + 1, none⟩ = some (.int .i64 (m : Int))) (go_keep)
              (first
                | (go_at_call 12; refine (HP.out _ (by exact Below.drew (Below.refl _ _))).mono ?_; rintro e w3 ⟨p', c', rfl, k0, k1, HK⟩))
            have Hw4 := Lib.hid HK.out.1
            have Hr4 := Lib.hid HK.out.2
            have HP2 : Hid (∀ w', Below w3.heap.size w3 w' → Calls Try.prog 13 #[.pointer (some ⟨w.heap.size, 0, none⟩), .int .u32 (x : Int), .int .i64 (m : Int)] w' fun e w'' => e = .returned (.int .i64 0) ∧ w''.cell? ⟨ga, oa + k * 3, none⟩ = some (.int .u32 (x : Int)) ∧ w''.cell? ⟨ga, oa + k * 3 + 1, none⟩ = some (.int .i64 (m : Int)) ∧
                Hid (WrA (fun q => (Value.slice p' r'.length c').ownBlock = some q) w.heap.size (w.heap.size + 1) w.heap.size (numL r') r'.length w w'' ∧ RwB w'' (.slice p' r'.length c') r')) := Lib.hid (fun w' hb' => by
              refine Calls.mono (putA_ok (v := x) (k := m) (Hw4.out.keep hb') Hv.out hm24 (by omega)) ?_
              rintro e w'' ⟨he, hw, ht⟩
              rw [← Hnum.out.1, ← Hnum.out.2] at hw
              have hwk := hw.s.keeps
              have hwb := Hw4.out.s.keeps
              refine ⟨he, ?_, ?_, hw, (Hr4.out.below hb').turns ht (fun q hq hn => hn hq)⟩
              · exact (hwk.cell (p := ⟨ga, oa + k * 3, none⟩) Hgw.out).trans ((hwb.cell (p := ⟨ga, oa + k * 3, none⟩) Hgw.out).symm.trans k0)
              · exact (hwk.cell (p := ⟨ga, oa + k * 3 + 1, none⟩) Hgw.out).trans ((hwb.cell (p := ⟨ga, oa + k * 3 + 1, none⟩) Hgw.out).symm.trans k1))
            have d0 := k0
            have d1' := k1
            clear HP HK HC c0 c1 c2
            go_upto_region 13 with (fail)
            go_region_held3 (fun w' => w'.cell? ⟨ga, oa + k * 3, none⟩ = some (.int .u32 (x : Int)) ∧ w'.cell? ⟨ga, oa + k * 3 + 1, none⟩ = some (.int .i64 (m : Int))) (go_keep)
              (first
                | (go_at_call 13; refine (HP2.out _ (by exact Below.drew (Below.refl _ _))).mono ?_; rintro e w5 ⟨rfl, j0, j1, HK2⟩))
            have Hw5 := Lib.hid HK2.out.1
            have Hr5 := Lib.hid HK2.out.2
            clear HP2 HK2 j0 j1 k0 k1 d0 d1' Hw4 Hr4
            go_wp2_with fail
            refine Calls.mono (lenS Hw5.out.s) ?_
            rintro e w6 ⟨rfl, rfl⟩
            go_wp2_with fail
            refine Calls.mono (bytesS Hw5.out.s) ?_
            rintro e w7 ⟨v7, rfl, ho7⟩
            obtain ⟨p7, c7, rfl⟩ := owns_slice ho7.1
            have Hw7 := Lib.hid (Hw5.out.keep ho7.2)
            have Hr7 := Lib.hid (Hr5.out.below ho7.2)
            have R7 := Lib.hid (Rw8.own ho7.1 rfl)
            clear ho7 Hw5 Hr5
            go_wp2_with fail
            refine Calls.mono (refBytes_any _ _ _ Hr7.out (by omega)) ?_
            rintro e w8 ⟨v8, rfl, ho8⟩
            obtain ⟨p8, c8, rfl⟩ := owns_slice ho8.1
            have Hw8 := Lib.hid (Hw7.out.keep ho8.2)
            have Hr8 := Lib.hid (Hr7.out.below ho8.2)
            have R8 := Lib.hid (Rw8.own ho8.1 rfl)
            have R78 := Lib.hid (R7.out.below ho8.2)
            clear ho8 Hw7 Hr7 R7
            go_wp2_with fail
            refine Calls.mono (bytes_eq _ _ _ _ R78.out R8.out) ?_
            rintro e w9 ⟨rfl, hb9⟩
            have Hw9 := Lib.hid (Hw8.out.keep hb9)
            have Hr9 := Lib.hid (Hr8.out.below hb9)
            clear hb9 Hw8 Hr8 R78 R8
            go_wp2
            go_roundw
            case rel => exact ⟨k + 1, r', p', c', by go_num, by omega, rfl, Hreq, Hw9, Hr9⟩
            case measure => simp [intOf]; omega
          | false =>
            have hrs := Hsucc.out.trans (rowS_not hal hm)
            have Hm := Lib.hid hm
            obtain ⟨x, hx⟩ : ∃ x, l[k].v = x := ⟨_, rfl⟩
            obtain ⟨y, hy⟩ : ∃ y, l[k].n = y := ⟨_, rfl⟩
            rw [hx] at hbv c0 Hm
            rw [hy] at c1 Hm
            have Hreq : Hid (rowAt (l.take (k + 1)) = r) := Lib.hid hrs
            clear hal hm hx hy hrs Hsucc
            go_upto_region 12 with (fail)
            have i0 : (0 : Int) ≤ (k : Int) := by omega
            have i1 : (k : Int) < (l.length : Int) := by omega
            go_region_held3 (fun w' => w'.cell? ⟨ga, oa + k * 3, none⟩ = some (.int .u32 (x : Int)) ∧ w'.cell? ⟨ga, oa + k * 3 + 1, none⟩ = some (.int .i64 y)) (go_keep)
              (first
                | (go_at_call 12; refine (refPut_not x y _ _ hbv Hm.out).mono ?_; rintro e w3 ⟨rfl, rfl⟩))
            have hb3 : Below wr.heap.size wr wr.drew := Below.drew (Below.refl _ _)
            have Hw3 := Lib.hid (Hw.out.keep hb3)
            have Hr3 := Lib.hid (Hr.out.below hb3)
            have d0 := cell_later hb3 c0
            have d1' := cell_later hb3 c1
            clear hb3 c0 c1 c2 Hw Hr
            generalize wr.drew = w3 at *
            go_upto_region 13 with (fail)
            go_region_held3 (fun w' => w'.cell? ⟨ga, oa + k * 3, none⟩ = some (.int .u32 (x : Int)) ∧ w'.cell? ⟨ga, oa + k * 3 + 1, none⟩ = some (.int .i64 y)) (go_keep)
              (first
                | (go_at_call 13; refine (put_not _ x y _ hbv Hm.out).mono ?_; rintro e w4 ⟨rfl, rfl⟩))
            have hb5 : Below w3.heap.size w3 w3.drew := Below.drew (Below.refl _ _)
            have Hw5 := Lib.hid (Hw3.out.keep hb5)
            have Hr5 := Lib.hid (Hr3.out.below hb5)
            clear hb5 d0 d1' Hw3 Hr3
            generalize w3.drew = w5 at *
            go_wp2_with fail
            refine Calls.mono (lenS Hw5.out.s) ?_
            rintro e w6 ⟨rfl, rfl⟩
            go_wp2_with fail
            refine Calls.mono (bytesS Hw5.out.s) ?_
            rintro e w7 ⟨v7, rfl, ho7⟩
            obtain ⟨p7, c7, rfl⟩ := owns_slice ho7.1
            have Hw7 := Lib.hid (Hw5.out.keep ho7.2)
            have Hr7 := Lib.hid (Hr5.out.below ho7.2)
            have R7 := Lib.hid (Rw8.own ho7.1 rfl)
            clear ho7 Hw5 Hr5
            go_wp2_with fail
            refine Calls.mono (refBytes_any _ _ _ Hr7.out (by omega)) ?_
            rintro e w8 ⟨v8, rfl, ho8⟩
            obtain ⟨p8, c8, rfl⟩ := owns_slice ho8.1
            have Hw8 := Lib.hid (Hw7.out.keep ho8.2)
            have Hr8 := Lib.hid (Hr7.out.below ho8.2)
            have R8 := Lib.hid (Rw8.own ho8.1 rfl)
            have R78 := Lib.hid (R7.out.below ho8.2)
            clear ho8 Hw7 Hr7 R7
            go_wp2_with fail
            refine Calls.mono (bytes_eq _ _ _ _ R78.out R8.out) ?_
            rintro e w9 ⟨rfl, hb9⟩
            have Hw9 := Lib.hid (Hw8.out.keep hb9)
            have Hr9 := Lib.hid (Hr8.out.below hb9)
            clear hb9 Hw8 Hr8 R78 R8
            go_wp2
            go_roundw
            case rel => exact ⟨k + 1, r, pr, cr, by go_num, by omega, rfl, Hreq, Hw9, Hr9⟩
            case measure => simp [intOf]; omega
      · obtain rfl : k = l.length := by omega
        go_wp2_with fail
        refine Calls.mono (lays_any _) ?_
        rintro e w9 ⟨rfl, hb9⟩
        go_wp2
        go_ret
        exact ⟨rfl, (Hw.out.keep hb9).s.keeps⟩
  · have d1 : decide ((100 : Int) < (l.length : Int)) = true := by simp; omega
    clear h
    go_enter Try.func3, Try.ntmps3
    go_wp2
    go_ret
    exact ⟨rfl, Below.refl _ _⟩

end Go.Proofs.Ytlagddnpomkabaa
