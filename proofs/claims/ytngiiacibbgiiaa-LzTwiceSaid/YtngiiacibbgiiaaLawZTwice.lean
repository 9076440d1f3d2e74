/- The walk of the statement LzTwice. -/
import Derived.Test.YtngiiacibbgiiaaLzM
namespace Go.Proofs.Ytngiiacibbgiiaa
open Go.RowKit

theorem fb_twice (l : List Nat) : ∀ i, i < l.length → fb (l ++ l) (i + l.length) = fb (l ++ l) i := fun i hi => by
  rw [fb_at (by rw [List.length_append]; omega), fb_at (by rw [List.length_append]; omega), List.getElem_append_right (by omega), List.getElem_append_left hi]
  simp
theorem fb_rep (c n : Nat) : ∀ i, i < n → fb (List.replicate n c) i = c := fun i hi => by
  rw [fb_at (by simpa using hi)]; simp

set_option maxRecDepth 20000 in
set_option maxHeartbeats 20000000 in
theorem ztwice_any (v : Value) (l : List Nat) (cI : Int) (num : Int) (w : World) (hv : Rw8 w v l) (hby : ∀ b ∈ l, b < 256) (hcI : 0 ≤ cI ∧ cI ≤ 255) (hnum : 0 ≤ num ∧ num ≤ 65535) :
    Makes Try.prog 6 #[v, .int .u8 cI, .int .u16 num] w (.bool true) := by
  unfold Makes
  obtain ⟨p, c, rfl, hc1, hc2, hsrc⟩ := hv.src enc8_len (by decide)
  rw [flat8] at hsrc
  have Hv := Lib.hid hv
  have Hby := Lib.hid hby
  obtain ⟨i0, hi0, hz0, hz1, hz2⟩ := info_parts u8_info
  obtain ⟨cc, rfl⟩ := Int.eq_ofNat_of_zero_le hcI.1
  obtain ⟨num, rfl⟩ := Int.eq_ofNat_of_zero_le hnum.1
  have hcc : cc < 256 := by omega
  have hnum2 : num ≤ 65535 := by omega
  go_enter Try.func6, Try.ntmps6
  by_cases hl : 600 < l.length
  · have d0 : decide ((l.length : Int) > 600) = true := by simp; omega
    go_wp2
    go_ret
    exact ⟨rfl, Below.refl _ _⟩
  have d0 : decide ((l.length : Int) > 600) = false := by simp; omega
  have hb0 : Below w.heap.size w (w.alloc (.cells #[] 5)) := Below.al1 _ _
  have Hsrc := Lib.hid (show (p = none ∧ l.length = 0 ∧ c = 0) ∨ ∃ ad, p = some ad ∧ ∀ j u, (l.map u8v)[j]? = some u → (w.alloc (.cells #[] 5)).cell? (ad.add j) = some u from by
    rcases hsrc with h | ⟨ad, e, hc⟩
    · exact .inl h
    · exact .inr ⟨ad, e, fun j u hu => cell_later hb0 (hc j u hu)⟩)
  have hbl : ∀ q, (Value.slice p l.length c).ownBlock = some q → q < w.heap.size := hv.lt
  have Hown := Lib.hid (show (w.alloc (.cells #[] 5)).ownsRow w.heap.size 5 1 (.slice (some ⟨w.heap.size, 0, none⟩) 0 0) 0 [] from by
    simpa using World.ownsRow_lit (base := w.heap.size) (size := 1) (e := 5) w #[] 0 (Nat.le_refl _) (Nat.zero_le _) rfl)
  have Hb0 := Lib.hid hb0
  clear hv hsrc hby hnum hcI hb0
  go_wp2_with (at_builtin; refine wpList_append_mine _ rfl (.tmp 22) (.tmp 23) 22 rfl w.heap.size 5 i0 _ 1 1 Try.underlying22 hi0 hz0 hz1 hz2 rfl (by decide) (.slice (some ⟨w.heap.size, 0, none⟩) 0 0) 0 [] rfl Hown.out p l.length c (l.map u8v) rfl (by simp) Hsrc.out (one8 l) ?n3 ?n4 ?n5 ?_)
  case n3 => simp only [maxLen]; omega
  case n4 => omega
  case n5 => simp
  intro v1 w1 ho1 hg1 hp1
  have hb1 : Below w.heap.size w w1 := Hb0.out.trans ((Turns.of_grown (T := fun q => q = w.heap.size) hg1 (fun i h => by cases h; rfl)).below Hb0.out.size (fun i h => by omega))
  have hrb1 := Hv.out.below hb1
  obtain ⟨_, _, e, -, -, hsb⟩ := hrb1.src enc8_len (by decide)
  cases e
  rw [flat8] at hsb
  have Hsb := Lib.hid hsb
  have Hb1 := Lib.hid hb1
  replace ho1 : w1.ownsRow w.heap.size 5 1 v1 l.length (l.map u8v) := by simpa using ho1
  obtain ⟨p1, c1, rfl⟩ := owns_slice ho1
  have Ho1 := Lib.hid ho1
  have hs1 : w.heap.size ≤ w1.heap.size := hb1.size
  clear ho1 hg1 hp1 hb1 hrb1 hsb Hsrc Hown Hb0
  go_wp2_with (at_builtin; refine wpList_append_mine _ rfl (.tmp 24) (.tmp 25) 22 rfl w.heap.size 5 i0 _ 1 1 Try.underlying22 hi0 hz0 hz1 hz2 rfl (by decide) (.slice p1 l.length c1) l.length (l.map u8v) rfl Ho1.out p l.length c (l.map u8v) rfl (by simp) Hsb.out (one8 l) ?m3 ?m4 hs1 ?_)
  case m3 => simp only [maxLen]; omega
  case m4 => omega
  intro v2 w2 ho2 hg2 hp2
  have hb2 : Below w.heap.size w w2 := Hb1.out.trans ((Turns.of_grown (T := fun q => (Value.slice p1 l.length c1).ownBlock = some q) hg2 (fun i h => h)).below hs1 (fun i h => (Ho1.out.lt i h).1))
  obtain ⟨L, hL⟩ : ∃ L, l ++ l = L := ⟨_, rfl⟩
  have hLl : L.length = l.length + l.length := by rw [← hL, List.length_append]
  have hrow : Row enc8 1 w2 v2 L := Row.own8 (by rw [← hL, List.length_append, List.map_append]; exact ho2)
  have hLb : ∀ b ∈ L, b < 256 := fun b hb => by
    rw [← hL] at hb
    rcases List.mem_append.1 hb with h | h
    · exact Hby.out b h
    · exact Hby.out b h
  obtain ⟨n, hn⟩ : ∃ n, l.length = n := ⟨_, rfl⟩
  have HL := Lib.hid (show ∀ i, i < n → fb L (i + n) = fb L i by rw [← hL, ← hn]; exact fb_twice l)
  obtain ⟨pv, cv, e⟩ : ∃ pv cv, v2 = .slice pv L.length cv := by
    obtain ⟨pv, cv, e, -⟩ := hrow
    exact ⟨pv, cv, e⟩
  subst e
  have Hrow := Lib.hid hrow
  have Hb2 := Lib.hid hb2
  rw [hn] at hLl hl
  have hn6 : n ≤ 600 := by omega
  have hL6 : L.length ≤ 1200 := by omega
  have HLl := Lib.hid hLl
  clear hLl
  rw [hn]
  clear ho2 hg2 hp2 hb2 hrow Hsb Ho1 hs1 hL d0 hn hl
  go_wp2_with fail
  refine Calls.mono (match_any L _ w2 Hrow.out hLb (by omega)) ?_
  rintro e w3 ⟨v3, ts, rfl, ho3, ht3, hb3⟩
  have Hx := Lib.hid ho3.row
  have hle := ht3.le.2
  have Ht3 := Lib.hid (show Toks (fb L) (2 * n) 0 ts by rw [show 2 * n = L.length by have := HLl.out; omega]; exact ht3)
  have Hb3 := Lib.hid (Below.thn Hb2.out hb3)
  obtain ⟨pp, cp, rfl⟩ := owns_slice ho3
  obtain ⟨q, hq⟩ : ∃ q, ts.length = q := ⟨_, rfl⟩
  have hqN : q ≤ 2 * n := by have := HLl.out; omega
  have Hq := Lib.hid hq
  rw [hq]
  clear ho3 hb3 ht3 hq hle Hrow Hb2 hLb
  have hmx := max_lz
  go_wp2
  generalize w3 = W3 at *
  go_loopw [9, 10, 11] (fun av bv iv wr => ∃ i a b : Nat, av = .int .i64 (a : Int) ∧ bv = .int .i64 (b : Int) ∧ iv = .int .i64 (i : Int) ∧ i ≤ q ∧ a ≤ 2 * n ∧ b ≤ i ∧ Hid (b = 0 ∨ 2 * n + b ≤ a + 2) ∧ Hid (ToksTo (fb L) (2 * n) a (ts.take i)) ∧ Hid (Below W3.heap.size W3 wr)) (fun _ _ iv _ => q - (intOf iv).toNat)
  case atStart => exact ⟨0, 0, 0, rfl, rfl, rfl, Nat.zero_le _, Nat.zero_le _, Nat.zero_le _, Lib.hid (.inl rfl), Lib.hid .nil, Lib.hid (Below.refl _ _)⟩
  case round =>
    obtain ⟨i, a, b, rfl, rfl, rfl, hi, ha, hbi, Hbb, HT, HB⟩ := hrel
    by_cases hin : i < q
    · have d1 : decide (i < q) = true := by simpa using hin
      obtain ⟨_, _, e1, hcx⟩ := Hx.out.tok
      obtain ⟨g, off, e, x0, x1, x2⟩ := hcx i (by rw [Hq.out]; exact hin)
      cases e1
      subst e
      obtain ⟨a', k1, k2, k3, k4⟩ := Ht3.out.at (i := i) (by rw [Hq.out]; exact hin)
      obtain rfl := HT.out.uniq k1
      generalize ts[i]'(by rw [Hq.out]; exact hin) = t at *
      obtain ⟨tb, tn, td⟩ := t
      have hlen := k3.len
      have hfit := k3.fits k2
      have hsz : max tn 1 = ((Tk.size ⟨tb, tn, td⟩ : Nat) : Int) := by unfold Tk.size; simp only at hlen ⊢; omega
      have hz0' : tn = 0 → Tk.size ⟨tb, tn, td⟩ = 1 := fun h => by subst h; rfl
      have htw : tn = 0 → n ≤ a → 2 * n ≤ a + 2 := fun h1 h2 => tok_twice k3 h1 h2 k2 (by omega) HL.out
      generalize Tk.size ⟨tb, tn, td⟩ = z at *
      have HT2 := Lib.hid k4
      simp only at x1 hlen
      have x1 := cell_later HB.out x1
      have i0 : (0 : Int) ≤ (i : Int) := by omega
      have i1 : (i : Int) < (q : Int) := by omega
      have hbb2 : b ≤ 1200 := by omega
      obtain ⟨az, haz⟩ : ∃ az, a + z = az := ⟨_, rfl⟩
      have eaz : (a : Int) + (z : Int) = (az : Int) := by omega
      have hz1' : 1 ≤ z := by omega
      have Hbb2 := Hbb.out
      rw [haz] at HT2 hfit
      by_cases hna : n ≤ a
      · have d2 : decide (a ≥ n) = true := by simpa using hna
        by_cases h0 : tn = 0
        · have Hb9 : Hid (b + 1 = 0 ∨ 2 * n + (b + 1) ≤ az + 2) := Lib.hid (.inr (by have := htw h0 hna; have := hz0' h0; omega))
          subst h0
          clear hcx x0 x2 k1 k2 k3 k4 haz htw hz0' Hbb2 hlen
          go_wp2_with fail
          go_roundw
          case rel => exact ⟨i + 1, az, b + 1, rfl, by go_num, by go_num, by omega, hfit, by omega, Hb9, HT2, HB⟩
          case measure => simp [intOf]; omega
        · have d3 : (tn == 0) = false := by simp; omega
          have Hb9 : Hid (b = 0 ∨ 2 * n + b ≤ az + 2) := Lib.hid (by omega)
          clear hcx x0 x2 k1 k2 k3 k4 haz htw hz0' Hbb2
          go_wp2_with fail
          go_roundw
          case rel => exact ⟨i + 1, az, b, rfl, rfl, by go_num, by omega, hfit, by omega, Hb9, HT2, HB⟩
          case measure => simp [intOf]; omega
      · have d2 : decide (a ≥ n) = false := by simpa using hna
        have Hb9 : Hid (b = 0 ∨ 2 * n + b ≤ az + 2) := Lib.hid (by omega)
        clear hcx x0 x2 k1 k2 k3 k4 haz htw hz0' Hbb2
        go_wp2_with fail
        go_roundw
        case rel => exact ⟨i + 1, az, b, rfl, rfl, by go_num, by omega, hfit, by omega, Hb9, HT2, HB⟩
        case measure => simp [intOf]; omega
    · obtain rfl : i = q := by omega
      have d1 : decide (i < i) = false := by simp
      have hend : a = 2 * n := by
        have h1 := HT.out
        rw [List.take_of_length_le (by rw [Hq.out]; omega)] at h1
        exact Ht3.out.end h1
      have d2 : decide ((b : Int) > 2) = false := by have := Hbb.out; simp; omega
      have HB4 := Lib.hid (Below.thn Hb3.out HB.out)
      obtain ⟨sz, hsz⟩ : ∃ sz, num % 2000 = sz := ⟨_, rfl⟩
      have hsi : (num : Int) % 2000 = (sz : Int) := by omega
      have hs2 : sz < 2000 := by omega
      clear hend hsz Hbb HT hbi ha
      go_wp2
      rw [hsi]
      clear hsi
      generalize wr = W4 at *
      go_loopw [13, 14] (fun rv kv wr => ∃ k : Nat, kv = .int .i64 (k : Int) ∧ k ≤ sz ∧ Hid (wr.ownsRow W4.heap.size 5 1 rv k (List.replicate k (u8v cc))) ∧ Hid (Below W4.heap.size W4 wr)) (fun _ kv _ => sz - (intOf kv).toNat)
      case atStart => exact ⟨0, rfl, Nat.zero_le _, Lib.hid (World.ownsRow_nil _ _ _ _), Lib.hid (Below.refl _ _)⟩
      case round =>
        obtain ⟨k, rfl, hk, HO, HB5⟩ := hrel
        obtain ⟨pr, cr, rfl⟩ := owns_slice HO.out
        by_cases hks : k < sz
        · have d3 : decide (k < sz) = true := by simpa using hks
          have hs5 := HB5.out.size
          go_wp2_with (at_builtin; refine wpList_append_one wr rfl (.tmp 67) (.tmp 69) 22 rfl W4.heap.size 5 _ 1 u8_info Try.underlying22 rfl (.slice pr k cr) k (List.replicate k (u8v cc)) rfl HO.out (.int .u8 (cc : Int)) _ rfl rfl ?r3 ?r4 hs5 ?_)
          case r3 => simp only [maxLen]; omega
          case r4 => omega
          intro g1 cap1 w6 ho6 ht6 hg6
          have HO6 : Hid (w6.ownsRow W4.heap.size 5 1 (.slice (some ⟨g1, 0, none⟩) (k + 1) cap1) (k + 1) (List.replicate (k + 1) (u8v cc))) := Lib.hid (by
            rw [List.replicate_succ']; exact ho6)
          have HB6 := Lib.hid (HB5.out.trans (ht6.below hs5 (fun k hk => (HO.out.lt k hk).1)))
          clear ho6 ht6 hg6
          go_wp2
          go_roundw
          case rel => exact ⟨k + 1, by go_num, by omega, HO6, HB6⟩
          case measure => simp [intOf]; omega
        · obtain rfl : k = sz := by omega
          have d3 : decide (k < k) = false := by simp
          have hrow5 : Row enc8 1 wr (.slice pr k cr) (List.replicate k cc) := Row.own8 (by rw [List.length_replicate, List.map_replicate]; exact HO.out)
          have Hrow5 := Lib.hid hrow5
          have HB7 := Lib.hid (Below.thn HB4.out HB5.out)
          clear hrow5 hk HO
          go_wp2_with fail
          have hcall := match_any (List.replicate k cc) _ wr Hrow5.out (fun b hb => by rw [(List.mem_replicate.1 hb).2]; exact hcc) (by rw [List.length_replicate]; omega)
          rw [List.length_replicate] at hcall
          refine Calls.mono hcall ?_
          rintro e w6 ⟨v6, tm, rfl, ho6, ht6, hb6⟩
          have Hy := Lib.hid ho6.row
          have hle6 := ht6.le.2
          have Ht6 := Lib.hid ht6
          have Hb6 := Lib.hid (Below.thn HB7.out hb6)
          obtain ⟨pm, cm, rfl⟩ := owns_slice ho6
          obtain ⟨r, hr⟩ : ∃ r, tm.length = r := ⟨_, rfl⟩
          have hrk : r ≤ k := by omega
          have Hr := Lib.hid hr
          rw [hr]
          clear ho6 ht6 hb6 hle6 hr hcall
          have hneq := neq_tk
          have hself := eqT_self
          have hmn := min_lz
          go_wp2
          generalize w6 = W6 at *
          go_loopw [16, 17] (fun lv iv wr => ∃ i a lf : Nat, lv = .int .i64 (lf : Int) ∧ iv = .int .i64 (i : Int) ∧ lf + a = k ∧ i ≤ r ∧ Hid (ToksTo (fb (List.replicate k cc)) k a (tm.take i)) ∧ Hid (Below W6.heap.size W6 wr)) (fun _ iv _ => r - (intOf iv).toNat)
          case atStart => exact ⟨0, 0, k, rfl, rfl, by omega, Nat.zero_le _, Lib.hid .nil, Lib.hid (Below.refl _ _)⟩
          case round =>
            obtain ⟨i, a, lf, rfl, rfl, hlf, hi, HT, HB8⟩ := hrel
            by_cases hir : i < r
            · have d4 : decide (i < r) = true := by simpa using hir
              obtain ⟨_, _, e1, hcx⟩ := Hy.out.tok
              obtain ⟨g, off, e, x0, x1, x2⟩ := hcx i (by rw [Hr.out]; exact hir)
              cases e1
              subst e
              obtain ⟨a', k1, k2, k3, k4⟩ := Ht6.out.at (i := i) (by rw [Hr.out]; exact hir)
              obtain rfl := HT.out.uniq k1
              have htr := tok_row k3 k2 (fb_rep cc k)
              have hia : 0 < i ↔ 0 < a := by
                constructor
                · intro h
                  have := k1.le.2
                  rw [List.length_take, Hr.out] at this
                  omega
                · intro h
                  rcases Nat.eq_zero_or_pos i with h0 | h0
                  · subst h0
                    have := k1.uniq .nil
                    omega
                  · exact h0
              have hfit := k3.fits k2
              have HT2 := Lib.hid k4
              generalize tm[i]'(by rw [Hr.out]; exact hir) = t at *
              have x0 := cell_later HB8.out x0
              have x1 := cell_later HB8.out x1
              have x2 := cell_later HB8.out x2
              have j0 : (0 : Int) ≤ (i : Int) := by omega
              have j1 : (i : Int) < (r : Int) := by omega
              have hs8 := HB8.out.size
              have hlk : k - a = lf := by omega
              rw [hlk] at htr
              clear hcx k1 k2 k3 k4 hlk
              by_cases hA : 0 < i ∧ 3 ≤ lf
              · obtain ⟨hA1, hA2⟩ := hA
                rw [if_pos ⟨hia.1 hA1, hA2⟩] at htr
                obtain ⟨mm, hmm⟩ : ∃ mm, min lf 258 = mm := ⟨_, rfl⟩
                rw [hmm] at htr
                subst htr
                have hz : Tk.size ⟨0, (mm : Int), 1⟩ = mm := by unfold Tk.size; simp; omega
                rw [hz] at hfit HT2
                have c0 : decide ((i : Int) > 0) = true := by simp; omega
                have c1 : decide ((lf : Int) ≥ 3) = true := by simp; omega
                have em : min (lf : Int) 258 = (mm : Int) := by omega
                have ex : max (mm : Int) 1 = (mm : Int) := by omega
                obtain ⟨W9, hW9⟩ : ∃ W9, wr.alloc (.cells #[.int .u8 0, .int .i64 (mm : Int), .int .i64 1] 26) = W9 := ⟨_, rfl⟩
                obtain ⟨lf2, hlf2⟩ : ∃ lf2, lf - mm = lf2 := ⟨_, rfl⟩
                have el : (lf : Int) - (mm : Int) = (lf2 : Int) := by omega
                have hfin : lf2 + (a + mm) = k := by omega
                simp only at x0 x1 x2
                go_upto_region 28 with (fail)
                have hb9 : Below wr.heap.size wr W9 := by rw [← hW9]; exact Below.al1 wr _
                have hT9 : W9.heap[wr.heap.size]? = some (.cells #[.int .u8 0, .int .i64 (mm : Int), .int .i64 1] 26) := by
                  rw [← hW9]
                  exact (heap_pushed [.cells #[.int .u8 0, .int .i64 (mm : Int), .int .i64 1] 26] wr 0 _).2 rfl
                have y0 : W9.cell? ⟨wr.heap.size, 0, none⟩ = some (.int .u8 0) := cell_heap hT9 rfl
                have y1 : W9.cell? ⟨wr.heap.size, 1, none⟩ = some (.int .i64 (mm : Int)) := cell_heap hT9 rfl
                have y2 : W9.cell? ⟨wr.heap.size, 2, none⟩ = some (.int .i64 1) := cell_heap hT9 rfl
                have x0 := cell_later hb9 x0
                have x1 := cell_later hb9 x1
                have x2 := cell_later hb9 x2
                have HB9 := Lib.hid (Below.thn HB8.out hb9)
                generalize wr.heap.size = bx at *
                clear hW9 hT9 hb9 c0 c1 em
                go_quiet (fail)
                have hdr : Below W9.heap.size W9 (W9.drewN nq) := Below.drewN' (Below.refl _ _) nq
                have HBx := Lib.hid (Below.thn HB9.out hdr)
                have y1 := cell_later hdr y1
                generalize W9.drewN nq = Wx at *
                clear hdr x0 x1 x2 y0 y2
                go_wp2_with fail
                go_roundw
                case rel => exact ⟨i + 1, a + mm, lf2, rfl, by go_num, hfin, by omega, HT2, HBx⟩
                case measure => simp [intOf]; omega
              · rw [if_neg (fun h => hA ⟨hia.2 h.1, h.2⟩)] at htr
                subst htr
                have hz : Tk.size ⟨cc, 0, 0⟩ = 1 := rfl
                rw [hz] at hfit HT2
                obtain ⟨lf2, hlf2⟩ : ∃ lf2, lf - 1 = lf2 := ⟨_, rfl⟩
                have el : (lf : Int) - 1 = (lf2 : Int) := by omega
                have em0 : max (0 : Int) 1 = 1 := by decide
                have hfin : lf2 + (a + 1) = k := by omega
                simp only at x0 x1 x2
                by_cases h0 : 0 < i
                · have c0 : decide ((i : Int) > 0) = true := by simp; omega
                  have c1 : decide ((lf : Int) ≥ 3) = false := by simp; omega
                  go_upto_region 28 with (fail)
                  obtain ⟨W9, hW9⟩ : ∃ W9, wr.alloc (.cells #[.int .u8 (cc : Int), .int .i64 0, .int .i64 0] 26) = W9 := ⟨_, rfl⟩
                  rw [hW9]
                  have hb9 : Below wr.heap.size wr W9 := by rw [← hW9]; exact Below.al1 wr _
                  have hT9 : W9.heap[wr.heap.size]? = some (.cells #[.int .u8 (cc : Int), .int .i64 0, .int .i64 0] 26) := by
                    rw [← hW9]
                    exact (heap_pushed [.cells #[.int .u8 (cc : Int), .int .i64 0, .int .i64 0] 26] wr 0 _).2 rfl
                  have y0 : W9.cell? ⟨wr.heap.size, 0, none⟩ = some (.int .u8 (cc : Int)) := cell_heap hT9 rfl
                  have y1 : W9.cell? ⟨wr.heap.size, 1, none⟩ = some (.int .i64 0) := cell_heap hT9 rfl
                  have y2 : W9.cell? ⟨wr.heap.size, 2, none⟩ = some (.int .i64 0) := cell_heap hT9 rfl
                  have x0 := cell_later hb9 x0
                  have x1 := cell_later hb9 x1
                  have x2 := cell_later hb9 x2
                  have HB9 := Lib.hid (Below.thn HB8.out hb9)
                  generalize wr.heap.size = bx at *
                  clear hW9 hT9 hb9 c0 c1
                  go_quiet (fail)
                  have hdr : Below W9.heap.size W9 (W9.drewN nq) := Below.drewN' (Below.refl _ _) nq
                  have HBx := Lib.hid (Below.thn HB9.out hdr)
                  have y1 := cell_later hdr y1
                  generalize W9.drewN nq = Wx at *
                  clear hdr x0 x1 x2 y0 y2
                  go_wp2_with fail
                  go_roundw
                  case rel => exact ⟨i + 1, a + 1, lf2, rfl, by go_num, hfin, by omega, HT2, HBx⟩
                  case measure => simp [intOf]; omega
                · have c0 : decide ((i : Int) > 0) = false := by simp; omega
                  go_upto_region 28 with (fail)
                  obtain ⟨W9, hW9⟩ : ∃ W9, wr.alloc (.cells #[.int .u8 (cc : Int), .int .i64 0, .int .i64 0] 26) = W9 := ⟨_, rfl⟩
                  rw [hW9]
                  have hb9 : Below wr.heap.size wr W9 := by rw [← hW9]; exact Below.al1 wr _
                  have hT9 : W9.heap[wr.heap.size]? = some (.cells #[.int .u8 (cc : Int), .int .i64 0, .int .i64 0] 26) := by
                    rw [← hW9]
                    exact (heap_pushed [.cells #[.int .u8 (cc : Int), .int .i64 0, .int .i64 0] 26] wr 0 _).2 rfl
                  have y0 : W9.cell? ⟨wr.heap.size, 0, none⟩ = some (.int .u8 (cc : Int)) := cell_heap hT9 rfl
                  have y1 : W9.cell? ⟨wr.heap.size, 1, none⟩ = some (.int .i64 0) := cell_heap hT9 rfl
                  have y2 : W9.cell? ⟨wr.heap.size, 2, none⟩ = some (.int .i64 0) := cell_heap hT9 rfl
                  have x0 := cell_later hb9 x0
                  have x1 := cell_later hb9 x1
                  have x2 := cell_later hb9 x2
                  have HB9 := Lib.hid (Below.thn HB8.out hb9)
                  generalize wr.heap.size = bx at *
                  clear hW9 hT9 hb9 c0
                  go_quiet (fail)
                  have hdr : Below W9.heap.size W9 (W9.drewN nq) := Below.drewN' (Below.refl _ _) nq
                  have HBx := Lib.hid (Below.thn HB9.out hdr)
                  have y1 := cell_later hdr y1
                  generalize W9.drewN nq = Wx at *
                  clear hdr x0 x1 x2 y0 y2
                  go_wp2_with fail
                  go_roundw
                  case rel => exact ⟨i + 1, a + 1, lf2, rfl, by go_num, hfin, by omega, HT2, HBx⟩
                  case measure => simp [intOf]; omega
            · obtain rfl : i = r := by omega
              have d4 : decide (i < i) = false := by simp
              have hend : a = k := by
                have h1 := HT.out
                rw [List.take_of_length_le (by rw [Hr.out]; omega)] at h1
                exact Ht6.out.end h1
              obtain rfl : lf = 0 := by omega
              go_wp2_with fail
              refine Calls.mono (matches_law wr) ?_
              rintro e w9 ⟨rfl, hb9⟩
              have Hb9 := Lib.hid (Below.thn (Below.thn Hb6.out HB8.out) hb9)
              clear hb9
              go_wp2
              go_ret
              exact ⟨rfl, Hb9.out⟩

end Go.Proofs.Ytngiiacibbgiiaa
