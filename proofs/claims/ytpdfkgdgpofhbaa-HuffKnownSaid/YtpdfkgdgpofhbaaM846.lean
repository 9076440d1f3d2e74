/- Several texts in one, each with its own head. -/
import Derived.Test.YtpdfkgdgpofhbaaM841
import Derived.Test.YtpdfkgdgpofhbaaM836
import Derived.Test.YtpdfkgdgpofhbaaM839
import Derived.Test.YtpdfkgdgpofhbaaM833
import Derived.Test.YtpdfkgdgpofhbaaM830
import Derived.Test.YtpdfkgdgpofhbaaM837
/- The walk of the statement HuffCodes. -/
namespace Go.Proofs.Ytpdfkgdgpofhbaa
open Go.RowKit Go.Maps

theorem c_cells {w : World} {base n : Nat} {p : Option Addr} {c : Nat} {f : Nat → Nat} (h : w.ownsRow base 30 1 (.slice p n c) n (cRow f n)) : ∀ i, i < n → ∃ b, p = some ⟨b, 0, none⟩ ∧ w.cell? ⟨b, i, none⟩ = some (.int .u16 ((f i : Nat) : Int)) := fun i hi => by
  obtain ⟨b, c', e, -, -, hc⟩ := owns_ptr h (by omega)
  injection e with e1 _ _
  exact ⟨b, e1, hc i _ (by rw [cRow_at _ hi]; rfl)⟩

set_option maxRecDepth 20000 in
set_option maxHeartbeats 2000000 in
theorem hcodes_any (v : Value) (l : List Nat) (w : World) (hv : Rw8 w v l) (_hb : ∀ b ∈ l, b < 256) : Makes Try.prog 3 #[v] w (.bool true) := by
  unfold Makes
  have Hv := Lib.hid hv
  obtain ⟨p, c, rfl, hc1, hc2, hsrc⟩ := hv.src enc8_len (by decide)
  rw [flat8] at hsrc
  have Hsrc := Lib.hid hsrc
  obtain ⟨i0, hi0, hz0, hz1, hz2⟩ := info_parts u8_info
  clear hv hsrc
  go_enter Try.func3, Try.ntmps3
  by_cases hl : 330 < l.length
  · have d0 : decide ((l.length : Int) > 330) = true := by simp; omega
    go_wp2
    go_ret
    exact ⟨rfl, Below.refl _ _⟩
  have d0 : decide ((l.length : Int) > 330) = false := by simp; omega
  go_wp2_with (at_builtin; refine wpList_append_mine w rfl (.tmp 14) (.tmp 15) 22 rfl w.heap.size 5 i0 _ 1 1 Try.underlying22 hi0 hz0 hz1 hz2 rfl (by decide) (.slice none 0 0) 0 [] rfl (World.ownsRow_nil _ _ _ _) p l.length c (l.map u8v) rfl (by simp) Hsrc.out (one8 _) ?n3 ?n4 (Nat.le_refl _) ?_)
  case n3 => simp only [maxLen]; omega
  case n4 => omega
  intro v1 w1 ho1 hg1 _
  have hb1 : Below w.heap.size w w1 := (Turns.of_grown (T := fun _ => False) hg1 (fun i e => by cases e)).below (Nat.le_refl _) (fun i h => h.elim)
  have hr1 : Rw8 w1 v1 l := Rw8.own (base := w.heap.size) (n := l.length) (by simpa using ho1) rfl
  obtain ⟨p1, c1, rfl, -, -, -⟩ := hr1.cells
  have Hr1 := Lib.hid hr1
  have Hb1 := Lib.hid hb1
  clear ho1 hg1 hb1 hr1
  by_cases hc : chk l = 0
  · go_wp2_with fail
    refine Calls.mono (codes_ok l _ w1 Hr1.out.row hc) ?_
    rintro e w2 ⟨va, rfl, hoa, hb2⟩
    obtain ⟨pa, ca, rfl⟩ := owns_slice hoa
    have Hoa := Lib.hid hoa
    have Hb2 := Lib.hid (Below.thn Hb1.out hb2)
    have Hr2 := Lib.hid (Hr1.out.below hb2)
    clear hoa hb2 Hr1
    go_wp2_with fail
    refine Calls.mono (refCodes_ok l _ w2 (Hv.out.below Hb2.out).row hc) ?_
    rintro e w3 ⟨vb, rfl, hob, hb3⟩
    obtain ⟨pb, cb, rfl⟩ := owns_slice hob
    have Hoa3 := Lib.hid ((Turns.of_below' (T := fun _ => False) hb3).owns Hoa.out (fun _ _ h => h))
    have Hob := Lib.hid hob
    have Hb3 := Lib.hid (Below.thn Hb2.out hb3)
    have Hr3 := Lib.hid (Hr2.out.below hb3)
    clear hob hb3 Hr2 Hoa
    go_wp2_with fail
    refine Calls.mono (new_ok l _ w3 Hr3.out.row hc (apt_chk hc)) ?_
    rintro e w4 ⟨T, rfl, -, hb4⟩
    have Hoa4 := Lib.hid ((Turns.of_below' (T := fun _ => False) hb4).owns Hoa3.out (fun _ _ h => h))
    have Hob4 := Lib.hid ((Turns.of_below' (T := fun _ => False) hb4).owns Hob.out (fun _ _ h => h))
    have Hb4 := Lib.hid (Below.thn Hb3.out hb4)
    have Hr4 := Lib.hid (Hr3.out.below hb4).row
    clear hb4 Hr3 Hoa3 Hob
    go_wp2_with fail
    go_loopw [10] (fun iv wr => ∃ i : Nat, iv = .int .i64 (i : Int) ∧ i ≤ l.length ∧ Hid (Below w4.heap.size w4 wr)) (fun iv _ => l.length - (intOf iv).toNat)
    case atStart => exact ⟨0, rfl, Nat.zero_le _, Lib.hid (Below.refl _ _)⟩
    case round =>
      obtain ⟨i, rfl, hi, HB⟩ := hrel
      by_cases hin : i < l.length
      · obtain ⟨ga, rfl, hca⟩ := c_cells Hoa4.out i hin
        obtain ⟨gb, rfl, hcb⟩ := c_cells Hob4.out i hin
        obtain ⟨p', c', e', _, _, hrow1⟩ := Hr4.out
        cases e'
        obtain ⟨g1, off1, rfl, hcc⟩ := hrow1.byte hin
        obtain ⟨p', c', e', _, _, hrow2⟩ := (Hv.out.below Hb4.out).row
        cases e'
        obtain ⟨g2, off2, rfl, hcd⟩ := hrow2.byte hin
        have k0 := cell_later HB.out hca
        have k1 := cell_later HB.out hcb
        have k2 := cell_later HB.out hcc
        have k3 := cell_later HB.out hcd
        unfold u8v at k2 k3
        generalize ((if 0 < lq l i then cd (lq l) l.length i else 0 : Nat) : Int) = y at k0 k1
        generalize lq l i = z at k2 k3
        have j0 : (0 : Int) ≤ (i : Int) := by omega
        have j1 : (i : Int) < (l.length : Int) := by omega
        clear hca hcb hcc hcd hrow1 hrow2
        go_upto_region 13 with (fail)
        go_quiet (fail)
        rename_i nq
        have hd : Below wr.heap.size wr (wr.drewN nq) := Below.drewN' (Below.refl _ _) nq
        have HB2 := Lib.hid (Below.thn HB.out hd)
        generalize wr.drewN nq = W2 at *
        clear hd k0 k1 k2 k3
        go_wp2
        go_roundw
        case rel => exact ⟨i + 1, by go_num, by omega, HB2⟩
        case measure => simp [intOf]; omega
      · obtain rfl : i = l.length := by omega
        go_wp2_with fail
        refine Calls.mono (codes_law wr) ?_
        rintro e w5 ⟨rfl, hb5⟩
        have Hb5 := Lib.hid (Below.thn (Below.thn Hb4.out HB.out) hb5)
        clear hb5
        go_wp2
        go_ret
        exact ⟨rfl, Hb5.out⟩
  · go_wp2_with fail
    refine Calls.mono (codes_bad l _ w1 Hr1.out.row hc) ?_
    have Hc := Lib.hid hc
    rintro e w2 ⟨rfl, rfl⟩
    go_wp2_with fail
    refine Calls.mono (refCodes_bad l _ w2 (Hv.out.below Hb1.out).row Hc.out) ?_
    rintro e w3 ⟨rfl, rfl⟩
    go_wp2_with fail
    refine Calls.mono (new_bad l _ w3 Hr1.out.row Hc.out) ?_
    rintro e w4 ⟨rfl, rfl⟩
    generalize chk l = r at *
    have e0 : (r == 0) = false := by simpa using hc
    clear hc
    go_wp2_with fail
    go_loopw [10] (fun iv wr => iv = .int .i64 0 ∧ wr = w4) (fun iv _ => 1)
    case atStart => exact ⟨rfl, rfl⟩
    case round =>
      obtain ⟨rfl, rfl⟩ := hrel
      go_wp2_with fail
      refine Calls.mono (codes_law wr) ?_
      rintro e w5 ⟨rfl, hb5⟩
      have Hb5 := Lib.hid (Below.thn Hb1.out hb5)
      clear hb5
      go_wp2
      go_ret
      exact ⟨rfl, Hb5.out⟩

end Go.Proofs.Ytpdfkgdgpofhbaa

/- For the closed statement: what its six reads answer. -/
namespace Go.Proofs.Ytpdfkgdgpofhbaa
open Go.RowKit Go.Maps

theorem told_none {ls : List Nat} {F : Nat × Nat → Option Nat} (h : ToldF (lq ls) ls.length 15 0 F) {q : Nat × Nat} (hq : ∀ x, x < ls.length → ¬ (0 < lq ls x ∧ q = (cd (lq ls) ls.length x, lq ls x))) : F q = none := by
  cases hF : F q with
  | none => rfl
  | some x =>
    obtain ⟨h1, h2, h3⟩ := h.out q x hF
    exact absurd ⟨h2.1, h3⟩ (hq x h1)
theorem told_some {ls : List Nat} {F : Nat × Nat → Option Nat} (h : ToldF (lq ls) ls.length 15 0 F) (i : Nat) (hi : i < ls.length) (h0 : 0 < lq ls i ∧ lq ls i ≤ 15) {q : Nat × Nat} (hq : q = (cd (lq ls) ls.length i, lq ls i)) : F q = some i := by
  rw [hq]
  exact h.has i hi ⟨h0.1, .inl h0.2⟩

theorem kr_one {F : Nat × Nat → Option Nat} {L : Nat} (h : ToldF (lq [2, 1, 3, 3]) 4 15 0 F) (hm : ToldM (lq [2, 1, 3, 3]) 4 15 0 L) : RdAns F L [58] 0 1 0 1 ∧ RdAns F L [58] 1 0 0 2 ∧ RdAns F L [58] 3 3 0 3 := by
  have h : ToldF (lq [2, 1, 3, 3]) ([2, 1, 3, 3] : List Nat).length 15 0 F := h
  have hL : 3 ≤ L := hm.ge 2 (by decide) ⟨by decide, .inl (by decide)⟩
  refine ⟨⟨fun t h1 h2 => by omega, ⟨by omega, by decide⟩, .inl ⟨rfl, by omega, told_some h 1 (by decide) (by decide) (by decide)⟩⟩, ⟨fun t h1 h2 => ?_, ⟨by omega, by decide⟩, .inl ⟨rfl, by omega, told_some h 0 (by decide) (by decide) (by decide)⟩⟩, ⟨fun t h1 h2 => ?_, ⟨by omega, by decide⟩, .inl ⟨rfl, by omega, told_some h 3 (by decide) (by decide) (by decide)⟩⟩⟩
  · obtain rfl : t = 1 := by omega
    exact told_none h (by decide)
  · have : t = 1 ∨ t = 2 := by omega
    rcases this with rfl | rfl
    · exact told_none h (by decide)
    · exact told_none h (by decide)
theorem kr_two {F : Nat × Nat → Option Nat} {L : Nat} (h : ToldF (lq [1]) 1 15 0 F) (hm : ToldM (lq [1]) 1 15 0 L) : RdAns F L [1] 0 0 60 1 := by
  have h : ToldF (lq [1]) ([1] : List Nat).length 15 0 F := h
  have hL : 1 ≤ L := hm.ge 0 (by decide) ⟨by decide, .inl (by decide)⟩
  have hL2 : L = 1 := by
    rcases hm.le with h | ⟨i, i1, i2, i3⟩
    · omega
    · obtain rfl : i = 0 := by omega
      exact i3.symm
  subst hL2
  exact ⟨fun t h1 h2 => by omega, ⟨by omega, by decide⟩, .inr (.inl ⟨rfl, rfl, rfl, fun _ => told_none h (by decide)⟩)⟩
theorem kr_no {F : Nat × Nat → Option Nat} {L : Nat} (hm : ToldM (lq [0]) 1 15 0 L) : RdAns F L [1] 0 0 60 0 := by
  have hL : L = 0 := by
    rcases hm.le with h | ⟨i, i1, i2, i3⟩
    · exact h
    · obtain rfl : i = 0 := by omega
      have := i2.1
      exact absurd this (by decide)
  subst hL
  exact ⟨fun t h1 h2 => by omega, ⟨by omega, by decide⟩, .inr (.inl ⟨rfl, rfl, rfl, fun h => by omega⟩)⟩

end Go.Proofs.Ytpdfkgdgpofhbaa

/- For the closed statement: a new table of a literal's lengths, a new reader of a literal's bytes, and three reads one behind the other. -/
namespace Go.Proofs.Ytpdfkgdgpofhbaa
open Go.RowKit Go.Maps

/-- New of a literal: the table, told by its lengths. -/
theorem newT (ls : List Nat) (w : World) (hc : chk ls = 0) (hl : ls.length ≤ 1048576) :
    Calls Try.prog 10 #[.slice (some ⟨w.heap.size, 0, none⟩) ls.length ls.length] (w.alloc (.cells (ls.map u8v).toArray 5)) fun e w' => ∃ (T M n L : Nat) (F : Nat × Nat → Option Nat), e = .returned (.tuple #[.pointer (some ⟨T, 0, none⟩), .int .i64 0]) ∧ ToldF (lq ls) ls.length 15 0 F ∧ ToldM (lq ls) ls.length 15 0 L ∧ L ≤ 15 ∧ Tb w' T M n L F ∧ (T < w'.heap.size ∧ M < w'.heap.size) ∧ Below w.heap.size w w' := by
  refine Calls.mono (new_ok ls _ _ (row_lit8 w ls hl) hc (apt_chk hc)) ?_
  rintro e w' ⟨T, rfl, htab, hb⟩
  obtain ⟨M, n, L, F, t1, t2, t3, t4, -⟩ := htab.ex
  refine ⟨T, M, n, L, F, rfl, t3, t4, ?_, ⟨t1, t2⟩, ⟨lt_heap t1, t2.lt⟩, Below.thn (Below.al1 w _) hb⟩
  rcases t4.le with h | ⟨i, i1, i2, i3⟩
  · omega
  · rw [← i3]; exact (chk_zero hc).2.1 i i1

/-- A new reader of one byte. -/
theorem newR (b : Nat) (hb : b < 256) (w : World) :
    Calls Try.prog 13 #[.slice (some ⟨w.heap.size, 0, none⟩) 1 1] (w.alloc (.cells #[.int .u8 (b : Int)] 5)) fun e w' => ∃ (B : Nat) (sv : Value), e = .returned (.pointer (some ⟨B, 0, none⟩)) ∧ Rd w' B sv [b] 0 ∧ Below w.heap.size w w' ∧ w.heap.size ≤ B := by
  have hr8 : Rw8 (w.alloc (.cells #[.int .u8 (b : Int)] 5)) (.slice (some ⟨w.heap.size, 0, none⟩) 1 1) [b] := Rw8.own (base := w.heap.size) (World.ownsRow_lit w #[.int .u8 (b : Int)] 1 (Nat.le_refl _) (by simp [maxLen]) rfl) rfl
  refine Calls.mono (new_any _ [b] _ hr8 (by simpa using hb) (by simp)) ?_
  rintro e w' ⟨B, sv, rfl, hrd, hb, hB, -⟩
  exact ⟨B, sv, rfl, hrd, Below.thn (Below.al1 w _) hb, Nat.le_trans (Below.al1 w _).size hB⟩

/-- A read whose answer is known. -/
theorem readK {T M n L B a x s : Nat} {er : Int} {F : Nat × Nat → Option Nat} {sv : Value} {l : List Nat} {w : World} (w0 : World) (hb0 : Below w0.heap.size w0 w) (hB : w0.heap.size ≤ B) (ht : Tb w T M n L F) (hr : Rd w B sv l a) (hL : L ≤ 15) (hTB : T ≠ B ∧ M ≠ B) (hk : RdAns F L l a x er s) :
    Calls Try.prog 15 #[.pointer (some ⟨T, 0, none⟩), .pointer (some ⟨B, 0, none⟩)] w fun e w' => e = .returned (.tuple #[.int .i64 (x : Int), .int .i64 er]) ∧ Rd w' B sv l (a + s) ∧ Tb w' T M n L F ∧ Turns (fun i => i = B) w w' ∧ Below w0.heap.size w0 w' := by
  refine Calls.mono (read_any T M n L B a F sv l w ht hr hL hTB.1 hTB.2) ?_
  rintro e w' ⟨x', er', s', rfl, hans, hrd, htb, htu⟩
  obtain ⟨rfl, rfl, rfl⟩ := hans.one hk
  exact ⟨rfl, hrd, htb, htu, hb0.trans (htu.below hb0.size (fun i hi => by cases hi; exact hB))⟩

end Go.Proofs.Ytpdfkgdgpofhbaa
