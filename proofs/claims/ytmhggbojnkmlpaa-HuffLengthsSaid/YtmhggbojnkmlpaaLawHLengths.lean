/- The walk of the statement HuffLengths. -/
import Derived.Test.YtmhggbojnkmlpaaHufW
namespace Go.Proofs.Ytmhggbojnkmlpaa
open Go.RowKit

theorem own_intsL {W : World} {base : Nat} {v : Value} {n : Nat} {fs : List Int} (h : W.ownsRow base 3 1 v n (fs.map (Value.int .i64))) (hn : n = fs.length) : Row encZ 1 W v fs := by
  subst hn
  rw [← flatZ] at h
  exact owns_row' encZ_len h
theorem oneZ (l : List Int) : ∀ u ∈ l.map (Value.int .i64), u.oneCell' = true := by
  intro u hu
  obtain ⟨b, _, rfl⟩ := List.mem_map.1 hu
  rfl

def usedB (fs : List Int) (k : Nat) : Bool := decide (fs.length ≤ 320) && (fs.take k).all okF

theorem fq_pos {fs : List Int} {k : Nat} (hk : k < fs.length) : 0 < fq fs k ↔ 0 < fs[k] := by
  unfold fq
  rw [List.getD_eq_getElem?_getD, List.getElem?_eq_getElem hk]
  simp

set_option maxHeartbeats 2000000 in
theorem used_any (fs : List Int) (v : Value) (w : World) (hv : Row encZ 1 w v fs) (hlen : fs.length ≤ 2000) :
    Calls Try.prog 12 #[v] w fun e w' => e = .returned (.tuple #[.int .i64 ((many fs.length (fq fs) : Nat) : Int), .bool (usedB fs fs.length)]) ∧ w' = w := by
  obtain ⟨p, c, rfl, -, -, hrow⟩ := hv
  have Hrow := Lib.hid hrow
  clear hrow
  obtain ⟨b0, hb0⟩ : ∃ b, decide (fs.length ≤ 320) = b := ⟨_, rfl⟩
  have hb0' : decide ((fs.length : Int) ≤ 320) = b0 := by rw [← hb0, decide_eq_decide]; omega
  have Hb0 := Lib.hid hb0
  go_enter Try.func12, Try.ntmps12
  go_wp2
  go_loop [4, 5, 6] (fun nv ov iv => ∃ (i n : Nat) (ok : Bool), nv = .int .i64 (n : Int) ∧ ov = .bool ok ∧ iv = .int .i64 (i : Int) ∧ i ≤ fs.length ∧ n ≤ 2000 ∧ Hid (n = many i (fq fs) ∧ ok = usedB fs i)) (fun _ _ iv => fs.length - (intOf iv).toNat)
  case atStart => exact ⟨0, 0, b0, rfl, (by first | rfl | simp [hb0]), rfl, Nat.zero_le _, by omega, Lib.hid ⟨rfl, by unfold usedB; rw [Hb0.out]; simp⟩⟩
  case round =>
    obtain ⟨i, n, ok, rfl, rfl, rfl, hi, hn, HI⟩ := hrel
    by_cases hin : i < fs.length
    · obtain ⟨g, off, rfl, hcell⟩ := Hrow.out.int hin
      have Hpos := Lib.hid (fq_pos hin)
      have Hall : Hid (usedB fs (i + 1) = (usedB fs i && okF fs[i])) := Lib.hid (by
        unfold usedB
        rw [List.take_succ_eq_append_getElem hin, List.all_append]
        simp [Bool.and_assoc])
      obtain ⟨x, hx⟩ : ∃ x, fs[i] = x := ⟨_, rfl⟩
      rw [hx] at hcell Hpos Hall
      have k0 : (0 : Int) ≤ (i : Int) := by omega
      have k1 : (i : Int) < (fs.length : Int) := by omega
      have d1 : decide (i < fs.length) = true := by simpa using hin
      have hml : n ≤ i := by rw [HI.out.1]; exact many_le _ _
      clear hx
      obtain ⟨b1, hb1⟩ : ∃ b1, okF x = b1 := ⟨_, rfl⟩
      have hb1' : (decide (0 ≤ x) && decide (x ≤ 1099511627776)) = b1 := by rw [← hb1]; unfold okF; rw [Bool.decide_and]
      by_cases hx0 : 0 < x
      · have HI1 : Hid (n + 1 = many (i + 1) (fq fs) ∧ (ok && b1) = usedB fs (i + 1)) := Lib.hid ⟨by rw [many_succ, if_pos (Hpos.out.2 hx0), ← HI.out.1], by rw [Hall.out, HI.out.2, hb1]⟩
        clear hb1
        by_cases hx1 : x ≤ 1099511627776
        · have e1 : b1 = true := by rw [← hb1']; simp; omega
          subst e1
          clear hb1'
          cases ok with
          | true =>
            go_wp2
            go_round
            case rel => exact ⟨i + 1, n + 1, true, by go_num, rfl, by go_num, by omega, by omega, by simpa using HI1⟩
            case measure => simp [intOf]; omega
          | false =>
            go_wp2
            go_round
            case rel => exact ⟨i + 1, n + 1, false, by go_num, rfl, by go_num, by omega, by omega, by simpa using HI1⟩
            case measure => simp [intOf]; omega
        · have e1 : b1 = false := by rw [← hb1']; simp; omega
          subst e1
          clear hb1'
          cases ok with
          | true =>
            go_wp2
            go_round
            case rel => exact ⟨i + 1, n + 1, false, by go_num, rfl, by go_num, by omega, by omega, by simpa using HI1⟩
            case measure => simp [intOf]; omega
          | false =>
            go_wp2
            go_round
            case rel => exact ⟨i + 1, n + 1, false, by go_num, rfl, by go_num, by omega, by omega, by simpa using HI1⟩
            case measure => simp [intOf]; omega
      · have HI1 : Hid (n = many (i + 1) (fq fs) ∧ (ok && b1) = usedB fs (i + 1)) := Lib.hid ⟨by rw [many_succ, if_neg (fun h => hx0 (Hpos.out.1 h)), ← HI.out.1]; rfl, by rw [Hall.out, HI.out.2, hb1]⟩
        clear hb1
        by_cases hx1 : 0 ≤ x
        · have e1 : b1 = true := by rw [← hb1']; simp; omega
          subst e1
          clear hb1'
          have hx2 : x ≤ 1099511627776 := by omega
          cases ok with
          | true =>
            go_wp2
            go_round
            case rel => exact ⟨i + 1, n, true, rfl, rfl, by go_num, by omega, by omega, by simpa using HI1⟩
            case measure => simp [intOf]; omega
          | false =>
            go_wp2
            go_round
            case rel => exact ⟨i + 1, n, false, rfl, rfl, by go_num, by omega, by omega, by simpa using HI1⟩
            case measure => simp [intOf]; omega
        · have e1 : b1 = false := by rw [← hb1']; simp; omega
          subst e1
          clear hb1'
          cases ok with
          | true =>
            go_wp2
            go_round
            case rel => exact ⟨i + 1, n, false, rfl, rfl, by go_num, by omega, by omega, by simpa using HI1⟩
            case measure => simp [intOf]; omega
          | false =>
            go_wp2
            go_round
            case rel => exact ⟨i + 1, n, false, rfl, rfl, by go_num, by omega, by omega, by simpa using HI1⟩
            case measure => simp [intOf]; omega
    · obtain rfl : i = fs.length := by omega
      have d1 : decide (fs.length < fs.length) = false := by simp
      go_wp2
      go_ret2
      exact ⟨by rw [← HI.out.1, ← HI.out.2]; rfl, rfl⟩

theorem room_scale {L : Nat} (hL : L ≤ 15) {l : Nat → Nat} : ∀ {n : Nat}, (∀ i, i < n → l i ≤ L) → room n 15 l = room n L l * 2 ^ (15 - L)
  | 0, _ => by simp [sm, room]
  | n + 1, h => by
    have h1 := room_scale hL (n := n) (fun i hi => h i (by omega))
    have h2 := h n (by omega)
    rw [room_succ, room_succ, h1, Nat.add_mul]
    by_cases h0 : 0 < l n
    · rw [if_pos h0, if_pos h0, ← Nat.pow_add, show L - l n + (15 - L) = 15 - l n by omega]
    · rw [if_neg h0, if_neg h0, Nat.zero_mul]

theorem lens_cellsL {w : World} {base n : Nat} {p : Option Addr} {c : Nat} {g : Nat → Nat} (h : w.ownsRow base 5 1 (.slice p n c) n (lensRow g n)) : ∀ i, i < n → ∃ b, p = some ⟨b, 0, none⟩ ∧ w.cell? ⟨b, i, none⟩ = some (.int .u8 ((g i : Nat) : Int)) := fun i hi => by
  obtain ⟨b, c', e, -, -, hc⟩ := owns_ptr h (by omega)
  injection e with e1 _ _
  exact ⟨b, e1, hc i _ (by rw [lensRow_at _ hi]; rfl)⟩
theorem pre_costL (f g : Nat → Nat) (F G : Nat) : ∀ k, (∀ i, i < k → f i ≤ F ∧ g i ≤ G) → sm k (fun i => f i * g i) ≤ k * (F * G)
  | 0, _ => Nat.zero_le _
  | k + 1, h => by
    have h1 := pre_costL f g F G k (fun i hi => h i (by omega))
    obtain ⟨h2, h3⟩ := h k (by omega)
    have h4 := Nat.mul_le_mul h2 h3
    simp only [sm]
    rw [Nat.add_mul]; omega

/-- The rows that the statement's last loop reads. -/
structure LenAt (fs : List Int) (g : Nat → Nat) (n : Nat) (pf pl : Option Addr) (w : World) : Prop where
  f : ∀ i, i < n → ∃ b off, pf = some ⟨b, off, none⟩ ∧ w.cell? ⟨b, off + i, none⟩ = some (.int .i64 ((fq fs i : Nat) : Int))
  l : ∀ i, i < n → ∃ b, pl = some ⟨b, 0, none⟩ ∧ w.cell? ⟨b, i, none⟩ = some (.int .u8 ((g i : Nat) : Int))

theorem LenAt.below {fs : List Int} {g : Nat → Nat} {n : Nat} {pf pl : Option Addr} {w w' : World} (h : LenAt fs g n pf pl w) (hb : Below w.heap.size w w') : LenAt fs g n pf pl w' := by
  refine ⟨fun i hi => ?_, fun i hi => ?_⟩
  · obtain ⟨b, off, e, hc⟩ := h.f i hi
    exact ⟨b, off, e, cell_later hb hc⟩
  · obtain ⟨b, e, hc⟩ := h.l i hi
    exact ⟨b, e, cell_later hb hc⟩

theorem may_used (fs : List Int) (limit : Int) : mayB fs limit = (decide (1 ≤ limit ∧ limit ≤ 15) && usedB fs fs.length) := by
  unfold mayB usedB
  rw [List.take_length, ← Bool.and_assoc]
  congr 1
  by_cases h1 : 1 ≤ limit <;> by_cases h2 : limit ≤ 15 <;> by_cases h3 : fs.length ≤ 320 <;> simp [h1, h2, h3]

set_option maxRecDepth 20000 in
set_option maxHeartbeats 4000000 in
theorem hlengths_any (v : Value) (fs : List Int) (limit : Int) (w : World) (hv : RwG encZ 1 w v fs) :
    Makes Try.prog 3 #[v, .int .i64 limit] w (.bool true) := by
  unfold Makes
  have hlen := hv.row.len
  obtain ⟨i0, hi0, hz0, hz1, hz2⟩ := info_parts int_infoN
  have Hv0 := Lib.hid hv.row
  obtain ⟨p, c, rfl, hc1, hc2, hsrc⟩ := hv.src encZ_len (by decide)
  rw [flatZ] at hsrc
  have Hsrc := Lib.hid hsrc
  clear hv hsrc hc1 hc2
  by_cases hskip : (60 < fs.length ∧ fs.length ≤ 320) ∨ 2000 < fs.length
  · by_cases h60 : 60 < fs.length ∧ fs.length ≤ 320
    · obtain ⟨a1, a2⟩ := h60
      have e1 : decide (60 < fs.length) = true := by simpa using a1
      have e2 : decide (fs.length ≤ 320) = true := by simpa using a2
      go_enter Try.func3, Try.ntmps3
      go_wp2
      go_ret
      exact ⟨rfl, Below.refl _ _⟩
    · have a1 : (60 : Int) < fs.length := by omega
      have a2 : ¬ ((fs.length : Int) ≤ 320) := by omega
      have a3 : (2000 : Int) < fs.length := by omega
      go_enter Try.func3, Try.ntmps3
      go_wp2
      go_ret
      exact ⟨rfl, Below.refl _ _⟩
  · have a3 : ¬ ((2000 : Int) < fs.length) := by omega
    have hl2 : fs.length ≤ 2000 := by omega
    have hcase : (¬ ((60 : Int) < fs.length)) ∨ ((60 : Int) < fs.length ∧ ¬ ((fs.length : Int) ≤ 320)) := by omega
    go_enter Try.func3, Try.ntmps3
    go_upto_region 1 with (fail)
    go_cut [26] (fun s wx => s = .bool false ∧ wx = w)
    case first =>
      rcases hcase with ch | ⟨ch, ch2⟩
      · go_wp2_with fail
        go_meet
        exact ⟨rfl, rfl⟩
      · go_wp2_with fail
        go_meet
        exact ⟨rfl, rfl⟩
    case rest =>
      obtain ⟨rfl, hwc⟩ := hcut
      have hcw := hwc.symm
      subst hcw
      go_wp2_with (at_builtin; refine wpList_append_mine _ rfl (.tmp 27) (.tmp 28) 22 rfl w.heap.size 3 i0 _ 1 8 Try.underlying22 hi0 hz0 hz1 hz2 rfl (by decide) (.slice none 0 0) 0 [] rfl (World.ownsRow_nil _ _ _ _) p fs.length c (fs.map (Value.int .i64)) rfl (by simp) Hsrc.out (oneZ _) ?a3x ?a4x (Nat.le_refl _) ?_)
      case a3x => simp only [maxLen]; omega
      case a4x => omega
      intro v1 w1 ho1 hg1 hl1
      have ho1 : w1.ownsRow w.heap.size 3 1 v1 fs.length (fs.map (Value.int .i64)) := by simpa using ho1
      have hb1 : Below w.heap.size w w1 := (Turns.of_grown (T := fun _ => False) hg1 (fun i e => by cases e)).below (Nat.le_refl _) (fun i h => h.elim)
      obtain ⟨p1, c1, rfl⟩ := owns_slice ho1
      have Hin := Lib.hid (own_intsL ho1 rfl)
      have Hv1 := Lib.hid (Hv0.out.below hb1)
      have Hb1 := Lib.hid hb1
      clear ho1 hg1 hl1 hb1 Hsrc Hv0
      go_wp2_with fail
      refine Calls.mono (lengths_all fs _ limit w1 Hin.out) ?_
      rintro e w2 ⟨v2, g, rfl, ho2, hok2, hb2⟩
      obtain ⟨p2, c2, rfl⟩ := owns_slice ho2
      have Hok := Lib.hid hok2
      have Ho := Lib.hid ho2
      have Hb2 := Lib.hid (Below.thn Hb1.out hb2)
      have Hin2 := Lib.hid (Hin.out.below hb2)
      have Hv2 := Lib.hid (Hv1.out.below hb2)
      obtain ⟨r, hr⟩ : ∃ r, lErr fs limit = r := ⟨_, rfl⟩
      obtain ⟨N, hN⟩ : ∃ N, lLen fs limit = N := ⟨_, rfl⟩
      rw [hr] at Hok ⊢
      rw [hN] at Ho ⊢
      have Hr := Lib.hid (And.intro hr hN)
      clear ho2 hok2 hb2 Hin Hv1 Hb1 hr hN
      go_wp2
      go_loopw [8] (fun iv wr => ∃ (i : Nat), iv = .int .i64 (i : Int) ∧ i ≤ fs.length ∧ Hid (Below w2.heap.size w2 wr)) (fun iv _ => fs.length - (intOf iv).toNat)
      case atStart => exact ⟨0, rfl, Nat.zero_le _, Lib.hid (Below.refl _ _)⟩
      case round =>
        obtain ⟨i, rfl, hi, HB⟩ := hrel
        by_cases hin : i < fs.length
        · obtain ⟨q1, d1, e1, _, _, hr1⟩ := Hin2.out.below HB.out
          cases e1
          obtain ⟨q2, d2, e2, _, _, hr2⟩ := Hv2.out.below HB.out
          cases e2
          obtain ⟨b1, o1, rfl, x1⟩ := hr1.int hin
          obtain ⟨b2, o2, rfl, x2⟩ := hr2.int hin
          obtain ⟨x, hx⟩ : ∃ x, fs[i] = x := ⟨_, rfl⟩
          rw [hx] at x1 x2
          have k0 : (0 : Int) ≤ (i : Int) := by omega
          have k1 : (i : Int) < (fs.length : Int) := by omega
          have dd : decide (i < fs.length) = true := by simpa using hin
          have xx : (x != x) = false := by simp
          clear hx hr1 hr2
          go_wp2
          go_quiet (fail)
          have HB3 : Hid (Below w2.heap.size w2 (wr.drewN nq)) := Lib.hid (Below.thn HB.out (Below.drewN' (Below.refl _ _) nq))
          clear x1 x2
          go_wp2
          go_roundw
          case rel => exact ⟨i + 1, by go_num, by omega, HB3⟩
          case measure => simp [intOf]; omega
        · obtain rfl : i = fs.length := by omega
          have dd : decide (fs.length < fs.length) = false := by simp
          generalize wr = w3 at *
          have Hv3 := Lib.hid (Hv2.out.below HB.out)
          have Hb3 := Lib.hid (Below.thn Hb2.out HB.out)
          have Ho3 := Lib.hid ((Turns.of_below' (T := fun _ => False) HB.out).owns Ho.out (fun _ _ h => h))
          clear HB Hin2 Hv2 Hb2 Ho
          go_wp2_with fail
          refine Calls.mono (used_any fs _ w3 Hv3.out hl2) ?_
          rintro e w4 ⟨rfl, rfl⟩
          obtain ⟨n, hn⟩ : ∃ n, many fs.length (fq fs) = n := ⟨_, rfl⟩
          obtain ⟨ok, hok⟩ : ∃ ok, usedB fs fs.length = ok := ⟨_, rfl⟩
          rw [hn, hok]
          have Hn := Lib.hid (And.intro hn hok)
          by_cases hm : mayB fs limit = false
          · have hr1 : r = 1 ∧ N = 0 := by
              have e1 : lErr fs limit = 1 := by unfold lErr; rw [if_pos hm]
              exact ⟨Hr.out.1 ▸ e1, by rw [← Hr.out.2]; unfold lLen; rw [e1, if_neg (by decide)]⟩
            obtain ⟨rfl, rfl⟩ := hr1
            have hways : limit < 1 ∨ (¬ limit < 1 ∧ 15 < limit) ∨ (¬ limit < 1 ∧ ¬ 15 < limit ∧ ok = false) := by
              rw [may_used, hok] at hm
              by_cases h1 : limit < 1
              · exact .inl h1
              · by_cases h2 : 15 < limit
                · exact .inr (.inl ⟨h1, h2⟩)
                · refine .inr (.inr ⟨h1, h2, ?_⟩)
                  rw [decide_eq_true (show 1 ≤ limit ∧ limit ≤ 15 by omega), Bool.true_and] at hm
                  exact hm
            clear hm hn hok
            rcases hways with h1 | ⟨h1, h2⟩ | ⟨h1, h2, h3⟩
            · go_wp2_with fail
              refine Calls.mono (codes_law w4) ?_
              rintro e w9 ⟨rfl, hb9⟩
              have Hb9 := Lib.hid (Below.thn Hb3.out hb9)
              clear hb9
              go_wp2
              go_ret
              exact ⟨rfl, Hb9.out⟩
            · go_wp2_with fail
              refine Calls.mono (codes_law w4) ?_
              rintro e w9 ⟨rfl, hb9⟩
              have Hb9 := Lib.hid (Below.thn Hb3.out hb9)
              clear hb9
              go_wp2
              go_ret
              exact ⟨rfl, Hb9.out⟩
            · subst h3
              go_wp2_with fail
              refine Calls.mono (codes_law w4) ?_
              rintro e w9 ⟨rfl, hb9⟩
              have Hb9 := Lib.hid (Below.thn Hb3.out hb9)
              clear hb9
              go_wp2
              go_ret
              exact ⟨rfl, Hb9.out⟩
          · have hm' : mayB fs limit = true := by simpa using hm
            have hokt : ok = true ∧ 1 ≤ limit ∧ limit ≤ 15 := by
              rw [may_used, hok, Bool.and_eq_true, decide_eq_true_iff] at hm'
              exact ⟨hm'.2, hm'.1⟩
            obtain ⟨hok1, hlo, hhi⟩ := hokt
            obtain ⟨L, rfl⟩ : ∃ L : Nat, limit = (L : Int) := ⟨limit.toNat, by omega⟩
            obtain ⟨q, hq, hwz⟩ := pow_wrap (L := L) (by omega)
            have hLn : ¬ ((L : Int) < 1) := by omega
            have hLm : ¬ ((15 : Int) < (L : Int)) := by omega
            have hf := (mayB_out hm').2.2.2
            have hf320 := (mayB_out hm').2.2.1
            subst hok1
            by_cases hgt : q < n
            · have hr1 : r = 60 ∧ N = 0 := by
                have e1 : lErr fs (L : Int) = 60 := by unfold lErr; rw [if_neg hm, Int.toNat_natCast, hq, hn, if_pos hgt]
                exact ⟨Hr.out.1 ▸ e1, by rw [← Hr.out.2]; unfold lLen; rw [e1, if_neg (by decide)]⟩
              obtain ⟨rfl, rfl⟩ := hr1
              have hgt' : (q : Int) < (n : Int) := Int.ofNat_lt.2 hgt
              have hgd : decide (q < n) = true := by simpa using hgt
              clear hm hm' hn hok hq hf
              go_wp2_with fail
              refine Calls.mono (codes_law w4) ?_
              rintro e w9 ⟨rfl, hb9⟩
              have Hb9 := Lib.hid (Below.thn Hb3.out hb9)
              clear hb9
              go_wp2
              go_ret
              exact ⟨rfl, Hb9.out⟩
            · have e1 : lErr fs (L : Int) = 0 := by unfold lErr; rw [if_neg hm, Int.toNat_natCast, hq, hn, if_neg hgt]
              have hr1 : r = 0 ∧ N = fs.length := ⟨Hr.out.1 ▸ e1, by rw [← Hr.out.2]; unfold lLen; rw [e1, if_pos rfl]⟩
              obtain ⟨rfl, rfl⟩ := hr1
              have hgt' : ¬ ((q : Int) < (n : Int)) := fun h => hgt (Int.ofNat_lt.1 h)
              have hgd : decide (q < n) = false := by simpa using hgt
              have hOK := Hok.out rfl
              rw [Int.toNat_natCast] at hOK
              have HOK := Lib.hid hOK
              have hl60 : fs.length ≤ 60 := by omega
              have HL15 := Lib.hid (show L ≤ 15 by omega)
              have Hfin : Hid (2 ≤ n → room fs.length 15 g = 32768) := Lib.hid (fun h2 => by
                rw [room_scale HL15.out (fun i hi => (hOK.le i hi).1), hOK.code (by rw [hn]; exact h2), ← Nat.pow_add, show L + (15 - L) = 15 by have := HL15.out; omega])
              have Hmn : Hid (1 ≤ n → many fs.length (fq fs) ≤ 2 ^ L ∧ 1 ≤ many fs.length (fq fs)) := Lib.hid (fun h1 => by rw [hn, hq]; exact ⟨Nat.le_of_not_lt hgt, h1⟩)
              have Hat : Hid (LenAt fs g fs.length p p2 w4) := Lib.hid (by
                obtain ⟨q2, d2, e2, _, _, hr2⟩ := Hv3.out
                cases e2
                refine ⟨fun i hi => ?_, lens_cellsL Ho3.out⟩
                obtain ⟨b, off, e, hc⟩ := hr2.int hi
                rw [fq_at hi (hf _ (List.getElem_mem hi)).1] at hc
                exact ⟨b, off, e, hc⟩)
              have Hg : Hid (∀ i, i < fs.length → fq fs i ≤ 1099511627776 ∧ g i ≤ L ∧ (0 < g i ↔ 0 < fq fs i) ∧ (n = 1 → g i ≤ 1)) := Lib.hid (fun i hi => by
                have h1 := hf _ (List.getElem_mem hi)
                have h2 := fq_at hi h1.1
                exact ⟨by omega, (hOK.le i hi).1, (hOK.le i hi).2, fun h => hOK.one (by rw [hn]; exact h) i hi⟩)
              have Hfp := Lib.hid hf
              clear hm hm' hn hok hq hf hOK Hok Ho3
              go_wp2
              go_loopw [11, 12, 13] (fun sv cv iv wr => ∃ (i t a : Nat), sv = .int .i64 (t : Int) ∧ cv = .int .i64 (a : Int) ∧ iv = .int .i64 (i : Int) ∧ i ≤ fs.length ∧ t ≤ 4000000 ∧ a ≤ 1152921504606846976 ∧ Hid (t = room i 15 g) ∧ Hid (a = sm i (fun i => fq fs i * g i)) ∧ Hid (Below w4.heap.size w4 wr)) (fun _ _ iv _ => fs.length - (intOf iv).toNat)
              case atStart => exact ⟨0, 0, 0, rfl, rfl, rfl, Nat.zero_le _, by omega, by omega, Lib.hid rfl, Lib.hid rfl, Lib.hid (Below.refl _ _)⟩
              case round =>
                obtain ⟨i, t, a, rfl, rfl, rfl, hi, ht, ha, Ht, Ha, HB⟩ := hrel
                try clear hlen
                try clear hskip
                try clear hcase
                try clear a3
                try clear hl2
                try clear hwz
                try clear hLn
                try clear hLm
                try clear hgt
                try clear hgt'
                try clear hgd
                try clear hf320
                try clear hhi
                try clear e1
                by_cases hin : i < fs.length
                · obtain ⟨bf, of, ef, cf⟩ := (Hat.out.below HB.out).f i hin
                  obtain ⟨bl, el, cl⟩ := (Hat.out.below HB.out).l i hin
                  subst ef el
                  obtain ⟨m1, m2, m3, m4⟩ := Hg.out i hin
                  obtain ⟨x, hx⟩ : ∃ x, fq fs i = x := ⟨_, rfl⟩
                  obtain ⟨y, hy⟩ : ∃ y, g i = y := ⟨_, rfl⟩
                  rw [hx] at cf m1 m3
                  rw [hy] at cl m2 m3 m4
                  have k0 : (0 : Int) ≤ (i : Int) := by omega
                  have k1 : (i : Int) < (fs.length : Int) := by omega
                  have dd : decide (i < fs.length) = true := by simpa using hin
                  have y15 : y ≤ 15 := by have := HL15.out; omega
                  by_cases hy0 : 0 < y
                  · have hx0 := m3.1 hy0
                    have c1 : decide (0 < y) = true := by simpa using hy0
                    have c2 : decide (0 < x) = true := by simpa using hx0
                    have c3 : decide (L < y) = false := by simp; omega
                    have hsh := shr_15 y15
                    obtain ⟨v, hv⟩ : ∃ v, 2 ^ (15 - y) = v := ⟨_, rfl⟩
                    rw [hv] at hsh
                    obtain ⟨u, hu⟩ : ∃ u, x * y = u := ⟨_, rfl⟩
                    have hui : (x : Int) * (y : Int) = (u : Int) := by rw [← hu]; simp
                    have Ht1 : Hid (t + v = room (i + 1) 15 g) := Lib.hid (by rw [room_succ, hy, if_pos hy0, ← Ht.out, hv])
                    have Ha1 : Hid (a + u = sm (i + 1) (fun i => fq fs i * g i)) := Lib.hid (by rw [sm, ← Ha.out, hx, hy, hu])
                    have hub : u ≤ 1099511627776 * 15 := by rw [← hu]; exact Nat.mul_le_mul m1 y15
                    have htb : t + v ≤ 4000000 := by
                      have h5 := room_le g 15 (i + 1)
                      rw [← Ht1.out] at h5
                      have h6 : (2 : Nat) ^ 15 = 32768 := rfl
                      rw [h6] at h5
                      exact Nat.le_trans h5 (Nat.le_trans (Nat.mul_le_mul_right 32768 (show i + 1 ≤ 60 by omega)) (by decide))
                    have hvb : v ≤ 4000000 := Nat.le_trans (Nat.le_add_left _ _) htb
                    have hab : a + u ≤ 1152921504606846976 := by
                      have h5 := pre_costL (fq fs) g 1099511627776 15 (i + 1) (fun j hj => ⟨(Hg.out j (by omega)).1, by have h7 := (Hg.out j (by omega)).2.1; have h8 := HL15.out; omega⟩)
                      have h7 : a + u ≤ (i + 1) * (1099511627776 * 15) := by rw [Ha1.out]; exact h5
                      exact Nat.le_trans h7 (Nat.le_trans (Nat.mul_le_mul_right _ (show i + 1 ≤ 60 by omega)) (by decide))
                    by_cases hn1 : n = 1
                    · have c4 : ((n : Int) == 1) = true := by simp; omega
                      have c5 : decide (1 < y) = false := by have h9 := m4 hn1; simp; omega
                      have c6 : ¬ (1 < y) := by have h9 := m4 hn1; omega
                      have c7 : ¬ ((1 : Int) < (y : Int)) := by have h9 := m4 hn1; omega
                      clear hx hy hv hu m3 m4 Ht Ha hub hn1
                      go_wp2
                      go_quiet (fail)
                      have hb5 : Below wr.heap.size wr (wr.drewN nq) := Below.drewN' (Below.refl _ _) nq
                      have cf5 : (wr.drewN nq).cell? _ = _ := cf
                      have cl5 : (wr.drewN nq).cell? _ = _ := cl
                      clear cf cl
                      generalize wr.drewN nq = w5 at *
                      have HB5 := Lib.hid (Below.thn HB.out hb5)
                      clear hb5 HB
                      go_wp2
                      go_quiet (fail)
                      have HB6 : Hid (Below w4.heap.size w4 (w5.drewN nq)) := Lib.hid (Below.thn HB5.out (Below.drewN' (Below.refl _ _) nq))
                      clear cf5 cl5 HB5
                      go_wp2
                      go_roundw
                      case rel => exact ⟨i + 1, t + v, a + u, by go_num, by go_num, by go_num, by omega, htb, hab, Ht1, Ha1, HB6⟩
                      case measure => simp [intOf]; omega
                    · have c4 : ((n : Int) == 1) = false := by simp; omega
                      clear hx hy hv hu m3 m4 Ht Ha hub hn1
                      go_wp2
                      go_quiet (fail)
                      have hb5 : Below wr.heap.size wr (wr.drewN nq) := Below.drewN' (Below.refl _ _) nq
                      have cf5 : (wr.drewN nq).cell? _ = _ := cf
                      have cl5 : (wr.drewN nq).cell? _ = _ := cl
                      clear cf cl
                      generalize wr.drewN nq = w5 at *
                      have HB5 := Lib.hid (Below.thn HB.out hb5)
                      clear hb5 HB
                      go_wp2
                      go_quiet (fail)
                      have HB6 : Hid (Below w4.heap.size w4 (w5.drewN nq)) := Lib.hid (Below.thn HB5.out (Below.drewN' (Below.refl _ _) nq))
                      clear cf5 cl5 HB5
                      go_wp2
                      go_roundw
                      case rel => exact ⟨i + 1, t + v, a + u, by go_num, by go_num, by go_num, by omega, htb, hab, Ht1, Ha1, HB6⟩
                      case measure => simp [intOf]; omega
                  · obtain rfl : y = 0 := by omega
                    obtain rfl : x = 0 := by
                      rcases Nat.eq_zero_or_pos x with h | h
                      · exact h
                      · exact absurd (m3.2 h) (by omega)
                    have c3 : decide (L < 0) = false := by simp
                    have Ht1 : Hid (t = room (i + 1) 15 g) := Lib.hid (by rw [room_succ, hy, if_neg (by omega), ← Ht.out]; rfl)
                    have Ha1 : Hid (a = sm (i + 1) (fun i => fq fs i * g i)) := Lib.hid (by rw [sm, ← Ha.out, hx, hy]; rfl)
                    by_cases hn1 : n = 1
                    · have c4 : ((n : Int) == 1) = true := by simp; omega
                      clear hx hy m3 m4 Ht Ha hn1
                      go_wp2
                      go_quiet (fail)
                      have hb5 : Below wr.heap.size wr (wr.drewN nq) := Below.drewN' (Below.refl _ _) nq
                      have cf5 : (wr.drewN nq).cell? _ = _ := cf
                      have cl5 : (wr.drewN nq).cell? _ = _ := cl
                      clear cf cl
                      generalize wr.drewN nq = w5 at *
                      have HB5 := Lib.hid (Below.thn HB.out hb5)
                      clear hb5 HB
                      go_wp2
                      go_roundw
                      case rel => exact ⟨i + 1, t, a, rfl, rfl, by go_num, by omega, ht, ha, Ht1, Ha1, HB5⟩
                      case measure => simp [intOf]; omega
                    · have c4 : ((n : Int) == 1) = false := by simp; omega
                      clear hx hy m3 m4 Ht Ha hn1
                      go_wp2
                      go_quiet (fail)
                      have hb5 : Below wr.heap.size wr (wr.drewN nq) := Below.drewN' (Below.refl _ _) nq
                      have cf5 : (wr.drewN nq).cell? _ = _ := cf
                      have cl5 : (wr.drewN nq).cell? _ = _ := cl
                      clear cf cl
                      generalize wr.drewN nq = w5 at *
                      have HB5 := Lib.hid (Below.thn HB.out hb5)
                      clear hb5 HB
                      go_wp2
                      go_roundw
                      case rel => exact ⟨i + 1, t, a, rfl, rfl, by go_num, by omega, ht, ha, Ht1, Ha1, HB5⟩
                      case measure => simp [intOf]; omega
                · obtain rfl : i = fs.length := by omega
                  have dd : decide (fs.length < fs.length) = false := by simp
                  generalize wr = w6 at *
                  have Hb6 := Lib.hid (Below.thn Hb3.out HB.out)
                  have Hv6 := Lib.hid (Hv3.out.below HB.out)
                  clear HB
                  by_cases hn2 : n < 2
                  · have c1 : decide (n < 2) = true := by simpa using hn2
                    go_wp2_with fail
                    refine Calls.mono (codes_law w6) ?_
                    rintro e w9 ⟨rfl, hb9⟩
                    have Hb9 := Lib.hid (Below.thn Hb6.out hb9)
                    clear hb9
                    go_wp2
                    go_ret
                    exact ⟨rfl, Hb9.out⟩
                  · have c1 : decide (n < 2) = false := by simpa using hn2
                    have ht32 : t = 32768 := by rw [Ht.out]; exact Hfin.out (by omega)
                    subst ht32
                    have hLb : 1 ≤ L := by omega
                    go_wp2_with fail
                    refine Calls.mono (least_any fs _ L w6 Hv6.out hl60 HL15.out hLb Hfp.out (Hmn.out (by omega)).2 (Hmn.out (by omega)).1) ?_
                    rintro e w7 ⟨P, rfl, hP, hb7⟩
                    have haP : a = (P.take (2 * many fs.length (fq fs) - 2)).sum := by
                      obtain ⟨P', hP', -, hc⟩ := HOK.out.least (by have := Hn.out.1; omega)
                      have e1 := RowN.eq hP hP'
                      rw [Ha.out, e1]
                      exact hc
                    rw [← haP]
                    have Hb7 := Lib.hid (Below.thn Hb6.out hb7)
                    have haa : ((a : Int) == (a : Int)) = true := by simp
                    clear haP hP hb7 Ht Ha
                    go_wp2_with fail
                    refine Calls.mono (codes_law w7) ?_
                    rintro e w9 ⟨rfl, hb9⟩
                    have Hb9 := Lib.hid (Below.thn Hb7.out hb9)
                    clear hb9
                    go_wp2
                    go_ret
                    exact ⟨rfl, Hb9.out⟩

end Go.Proofs.Ytmhggbojnkmlpaa
