/- Several texts in one, each with its own head. -/
import Derived.Test.YtebfdoipogjpnaaGreatQd25
import Derived.Test.YtebfdoipogjpnaaGreatQr1
import Derived.Test.YtebfdoipogjpnaaGreatQd15
import Derived.Test.YtebfdoipogjpnaaGreatQd2
/- Codes as numbers one behind the other (plain): no code begins with another one, and lengths that make a code of all rows leave no gap. -/
namespace Go.Proofs.YtebfdoipogjpnaaGreat

theorem brow_take {n x t : Nat} (h : t ≤ n) : (brow n x n).take t = brow t (x / 2 ^ (n - t)) t := by
  unfold brow
  rw [← List.map_take, List.take_range, Nat.min_eq_left h]
  refine List.map_congr_left fun i hi => ?_
  have hi := List.mem_range.1 hi
  rw [Nat.div_div_eq_div_mul, ← Nat.pow_add, show n - t + (t - 1 - i) = n - 1 - i by omega]
theorem brow_inj {n x y : Nat} (hx : x < 2 ^ n) (hy : y < 2 ^ n) (h : brow n x n = brow n y n) : x = y := by
  have h1 := congrArg numL h
  rw [numL_brow, numL_brow] at h1
  exact (trn_inj n 0 x 0 y hx hy h1).2

def hiN (s : List Bool) : Nat := numL s.reverse
theorem hiN_lt (s : List Bool) : hiN s < 2 ^ s.length := by
  have := numL_lt s.reverse
  rwa [List.length_reverse] at this
theorem brow_rev : ∀ r : List Bool, brow r.length (numL r) r.length = r.reverse
  | [] => rfl
  | b :: r => by
    have hb : b.toNat ≤ 1 := Bool.toNat_le b
    rw [List.length_cons, brow_step, numL, show (b.toNat + 2 * numL r) / 2 = numL r by omega, brow_rev r, List.reverse_cons, show (b.toNat + 2 * numL r) % 2 = b.toNat by omega]
    cases b <;> rfl
theorem brow_hiN (s : List Bool) : brow s.length (hiN s) s.length = s := by
  have := brow_rev s.reverse
  rwa [List.length_reverse, List.reverse_reverse] at this

theorem rowOf_len (f : Nat → Nat) (N i : Nat) : (rowOf f N i).length = f i := brow_len _ _ _
theorem rowOf_take {f : Nat → Nat} {N i t : Nat} (h : t ≤ f i) : (rowOf f N i).take t = brow t (nu f N i / 2 ^ (f i - t)) t := brow_take h
theorem row_apart {f : Nat → Nat} {N i j : Nat} (hr : room N 15 f ≤ 32768) (hi : i < N) (hj : j < N) (h0 : 0 < f j) (hle : f j ≤ f i) (h15 : f i ≤ 15) (hne : i ≠ j) : (rowOf f N i).take (f j) ≠ rowOf f N j := by
  rw [rowOf_take hle]
  intro h
  have h1 := nu_fits hr hi (by omega) h15
  refine nu_apart hi hj h0 hle h15 hne (brow_inj (n := f j) ?_ (nu_fits hr hj h0 (by omega)) h)
  refine Nat.div_lt_of_lt_mul ?_
  rw [← Nat.pow_add, show f i - f j + f j = f i by omega]
  exact h1

theorem row_full {f : Nat → Nat} {N : Nat} (hr : room N 15 f = 32768) (h15 : ∀ i, i < N → f i ≤ 15) (s : List Bool) (hs : s.length ≤ 15) : ∃ i, i < N ∧ 0 < f i ∧ ((f i ≤ s.length ∧ s.take (f i) = rowOf f N i) ∨ (s.length ≤ f i ∧ (rowOf f N i).take s.length = s)) := by
  obtain ⟨t, ht⟩ : ∃ t, s.length = t := ⟨_, rfl⟩
  have hX := hiN_lt s
  have hB := brow_hiN s
  rw [ht] at hX hB hs ⊢
  generalize hiN s = X at *
  have hp : X * 2 ^ (15 - t) < 32768 := by
    have h1 : 2 ^ t * 2 ^ (15 - t) = 32768 := by rw [← Nat.pow_add, show t + (15 - t) = 15 by omega]
    rw [← h1]
    exact Nat.mul_lt_mul_of_pos_right hX (Nat.two_pow_pos _)
  obtain ⟨i, a, b, c1, c2⟩ := nu_full hr h15 hp
  have hi15 := h15 i a
  refine ⟨i, a, b, ?_⟩
  rcases Nat.le_total (f i) t with h | h
  · refine .inl ⟨h, ?_⟩
    rw [pow_split h hs, ← Nat.mul_assoc] at c1 c2
    have c1 := Nat.le_of_mul_le_mul_right c1 (Nat.two_pow_pos _)
    have c2 := Nat.lt_of_mul_lt_mul_right c2
    have e : X / 2 ^ (t - f i) = nu f N i := by
      have h1 := (Nat.le_div_iff_mul_le (Nat.two_pow_pos (t - f i))).2 c1
      have h2 := (Nat.div_lt_iff_lt_mul (Nat.two_pow_pos (t - f i))).2 c2
      omega
    rw [← hB, brow_take h, e]
    rfl
  · refine .inr ⟨h, ?_⟩
    rw [pow_split h hi15, ← Nat.mul_assoc] at c1 c2
    have c1 := Nat.le_of_mul_le_mul_right c1 (Nat.two_pow_pos _)
    have c2 := Nat.lt_of_mul_lt_mul_right c2
    have e : nu f N i = X * 2 ^ (f i - t) := by omega
    rw [rowOf_take h, e, Nat.mul_div_cancel _ (Nat.two_pow_pos _)]
    exact hB

theorem numL_inj {a b : List Bool} (hl : a.length = b.length) (h : numL a = numL b) : a = b := by
  rw [← bitsL_numL a, ← bitsL_numL b, hl, h]

def sg (bs : List Bool) (a t : Nat) : List Bool := (bs.drop a).take t
theorem seg_len {bs : List Bool} {a t : Nat} (h : a + t ≤ bs.length) : (sg bs a t).length = t := by unfold sg; rw [List.length_take, List.length_drop]; omega
theorem sg_take {bs : List Bool} {a t u : Nat} (h : u ≤ t) : (sg bs a t).take u = sg bs a u := by unfold sg; rw [List.take_take, Nat.min_eq_left h]

theorem bt_sg {l : List Nat} {a t : Nat} (hb : ∀ b ∈ l, b < 256) (h : a + t ≤ 8 * l.length) : numL (sg (ofB l) a t) = bt l a t := by
  unfold sg bt
  rw [numL_seg _ _ _ (by rw [ofB_len]; exact h), numL_ofB l hb]

theorem told_iff {f : Nat → Nat} {N : Nat} {F : Nat × Nat → Option Nat} (hF : ToldF f N 15 0 F) {l : List Nat} {a t i : Nat} (hb : ∀ b ∈ l, b < 256) (h : a + t ≤ 8 * l.length) (h15 : ∀ i, i < N → f i ≤ 15) :
    F (bt l a t, t) = some i ↔ i < N ∧ 0 < f i ∧ f i = t ∧ rowOf f N i = sg (ofB l) a t := by
  constructor
  · intro hs
    obtain ⟨h1, h2, h3⟩ := hF.out _ _ hs
    injection h3 with h3 h4
    refine ⟨h1, h2.1, h4.symm, numL_inj ?_ ?_⟩
    · rw [rowOf_len, seg_len (by rw [ofB_len]; exact h)]; exact h4.symm
    · rw [numL_rowOf, bt_sg hb h, h3]
  · rintro ⟨h1, h2, h3, h4⟩
    have h5 := congrArg numL h4
    rw [numL_rowOf, bt_sg hb h] at h5
    rw [← h5, ← h3]
    exact hF.has i h1 ⟨h2, .inl (h15 i h1)⟩

theorem RdAns.one {F : Nat × Nat → Option Nat} {L : Nat} {l : List Nat} {a x x' : Nat} {e e' : Int} {s s' : Nat} (h : RdAns F L l a x e s) (h' : RdAns F L l a x' e' s') : x = x' ∧ e = e' ∧ s = s' := by
  have key : ∀ {x x' : Nat} {e e' : Int} {s s' : Nat}, RdAns F L l a x e s → RdAns F L l a x' e' s' → ¬ s < s' := fun {x x' e e' s s'} h h' hlt => by
    have h1 := h'.no s
    have h2 := h'.le
    rcases h.ans with ⟨-, p, q⟩ | ⟨-, -, p, -⟩ | ⟨-, -, -, p, -⟩
    · rw [h1 p hlt] at q; cases q
    · omega
    · omega
  have e1 := key h h'
  have e2 := key h' h
  obtain rfl : s = s' := by omega
  rcases h.ans with ⟨p1, p2, p3⟩ | ⟨p1, p2, p3, p4⟩ | ⟨p1, p2, p3, p4, p5⟩ <;> rcases h'.ans with ⟨q1, q2, q3⟩ | ⟨q1, q2, q3, q4⟩ | ⟨q1, q2, q3, q4, q5⟩
  · rw [p3] at q3; injection q3 with q3; exact ⟨q3, by rw [p1, q1], rfl⟩
  · rw [q4 p2] at p3; cases p3
  · rw [q5 p2] at p3; cases p3
  · rw [p4 q2] at q3; cases q3
  · exact ⟨by rw [p2, q2], by rw [p1, q1], rfl⟩
  · omega
  · rw [p5 q2] at q3; cases q3
  · omega
  · exact ⟨by rw [p2, q2], by rw [p1, q1], rfl⟩

theorem goes {ls : List Nat} (hc : chk ls = 0) {L : Nat} (hL : ToldM (lq ls) ls.length 15 0 L) {bs : List Bool} {a t : Nat} (h : a + t ≤ bs.length) (hn : ∀ u i, 1 ≤ u → u ≤ t → i < ls.length → lq ls i = u → rowOf (lq ls) ls.length i ≠ sg bs a u) (ht : t < L) :
    ∃ i, i < ls.length ∧ t ≤ lq ls i ∧ 0 < lq ls i ∧ (rowOf (lq ls) ls.length i).take t = sg bs a t := by
  obtain ⟨h1, h15, h3⟩ := chk_zero hc
  rcases hL.le with h0 | ⟨j, j1, j2, j3⟩
  · omega
  have hj15 := h15 j j1
  rcases Nat.eq_zero_or_pos t with rfl | ht0
  · exact ⟨j, j1, by omega, j2.1, by simp [sg]⟩
  · have hroom : room ls.length 15 (lq ls) = 32768 := by
      rcases h3 with h3 | h3 | ⟨h3, h4⟩
      · exfalso
        have : ∀ k, j < k → 0 < many k (lq ls) := fun k => by
          induction k with
          | zero => intro h; omega
          | succ k ih =>
            intro hk
            rw [many_succ]
            rcases Nat.lt_or_ge j k with h5 | h5
            · have := ih h5; omega
            · obtain rfl : j = k := by omega
              rw [if_pos j2.1]; omega
        have := this _ j1
        omega
      · exact h3
      · exfalso
        have hone : ∀ k, j < k → 2 ^ (15 - lq ls j) ≤ room k 15 (lq ls) ∧ (many k (lq ls) = 1 → room k 15 (lq ls) = 2 ^ (15 - lq ls j)) ∧ 0 < many k (lq ls) := fun k => by
          induction k with
          | zero => intro h; omega
          | succ k ih =>
            intro hk
            rw [many_succ, room_succ]
            rcases Nat.lt_or_ge j k with h5 | h5
            · obtain ⟨a1, a2, a3⟩ := ih h5
              split
              · exact ⟨Nat.le_trans a1 (Nat.le_add_right _ _), fun h => by omega, by omega⟩
              · exact ⟨by omega, fun h => a2 (by omega), by omega⟩
            · obtain rfl : j = k := by omega
              rw [if_pos j2.1, if_pos j2.1]
              refine ⟨by omega, fun h => ?_, by omega⟩
              have h6 : many j (lq ls) = 0 := by omega
              have h7 : ∀ k, many k (lq ls) = 0 → room k 15 (lq ls) = 0 := fun k => by
                induction k with
                | zero => intro _; rfl
                | succ k ih =>
                  intro hk
                  rw [many_succ] at hk
                  rw [room_succ, ih (by omega)]
                  split at hk
                  · omega
                  · rename_i hh; rw [if_neg hh]
              rw [h7 _ h6]; omega
        have h5 := (hone _ j1).2.1 h3
        rw [h4, j3] at h5
        have h6 : 2 ^ (15 - L) ≤ 2 ^ 13 := Nat.pow_le_pow_right (by decide) (by omega)
        have h7 : (2 : Nat) ^ 13 = 8192 := rfl
        omega
    have hsl := seg_len h
    obtain ⟨i, i1, i2, i3⟩ := row_full hroom h15 (sg bs a t) (by omega)
    rw [hsl] at i3
    rcases i3 with ⟨i3, i4⟩ | ⟨i3, i4⟩
    · rw [sg_take i3] at i4
      exact absurd i4.symm (hn _ i i2 i3 i1 rfl)
    · exact ⟨i, i1, i3, i2, i4⟩

end Go.Proofs.YtebfdoipogjpnaaGreat

/- The document's All of lengths that make no code. -/
namespace Go.Proofs.YtebfdoipogjpnaaGreat
open Go.RowKit

theorem refAll_bad (ls : List Nat) (v : Value) (w : World) (hv : Row enc8 1 w v ls) (hc : chk ls ≠ 0) :
    Calls Tryz.prog 67 #[v] w fun e w' => e = .returned (.tuple #[.slice none 0 0, .int .i64 (chk ls)]) ∧ w' = w := by
  have Hv := Lib.hid hv
  obtain ⟨r, hr⟩ : ∃ r, chk ls = r := ⟨_, rfl⟩
  have Hr := Lib.hid hr
  rw [hr] at hc ⊢
  have e0 : (r != 0) = true := by simpa using hc
  clear hr hv
  go_enter Tryz.func67, Tryz.ntmps67
  go_wp2_with fail
  refine Calls.mono (refWrong_any ls v w Hv.out) ?_
  rintro e w1 ⟨rfl, rfl⟩
  rw [Hr.out]
  go_wp2
  go_ret2
  exact ⟨rfl, rfl⟩

end Go.Proofs.YtebfdoipogjpnaaGreat

/- The document's begins. -/
namespace Go.Proofs.YtebfdoipogjpnaaGreat
open Go.RowKit

def pre (a b : List Bool) : Bool := decide (b.length ≤ a.length ∧ a.take b.length = b)

theorem take_step {a b : List Bool} {i : Nat} (ha : i < a.length) (hb : i < b.length) : a.take (i + 1) = b.take (i + 1) ↔ a.take i = b.take i ∧ a[i] = b[i] := by
  rw [List.take_succ_eq_append_getElem ha, List.take_succ_eq_append_getElem hb]
  constructor
  · intro h
    have h1 := List.append_inj' h rfl
    exact ⟨h1.1, by simpa using h1.2⟩
  · rintro ⟨h1, h2⟩
    rw [h1, h2]

set_option maxHeartbeats 2000000 in
theorem begins_any (pa pb : Option Addr) (na nb ca cb : Nat) (la lb : List Bool) (w : World) (hla : na = la.length) (hlb : nb = lb.length) (hs : nb ≤ 1000000) (ha : BitsAt w pa la) (hb : BitsAt w pb lb) :
    Makes Tryz.prog 131 #[.slice pa na ca, .slice pb nb cb] w (.bool (pre la lb)) := by
  unfold Makes
  have Ha := Lib.hid ha
  have Hb := Lib.hid hb
  have Hla := Lib.hid hla
  have Hlb := Lib.hid hlb
  obtain ⟨r, hr⟩ : ∃ r, pre la lb = r := ⟨_, rfl⟩
  rw [hr]
  have Hr := Lib.hid hr
  clear ha hb hr hla hlb
  by_cases hlt : na < nb
  · have d0 : decide (na < nb) = true := by simpa using hlt
    obtain rfl : r = false := by
      rw [← Hr.out]; unfold pre
      simp only [decide_eq_false_iff_not]
      rintro ⟨h, -⟩
      rw [← Hla.out, ← Hlb.out] at h
      omega
    go_enter Tryz.func131, Tryz.ntmps131
    go_wp2
    go_ret
    exact ⟨rfl, Below.refl _ _⟩
  · have d0 : decide (na < nb) = false := by simpa using hlt
    go_enter Tryz.func131, Tryz.ntmps131
    go_wp2
    go_loopw [5] (fun iv wr => ∃ i : Nat, iv = .int .i64 (i : Int) ∧ i ≤ nb ∧ Hid (la.take i = lb.take i) ∧ Hid (Below w.heap.size w wr)) (fun iv _ => nb - (intOf iv).toNat)
    case atStart => exact ⟨0, rfl, Nat.zero_le _, Lib.hid rfl, Lib.hid (Below.refl _ _)⟩
    case round =>
      obtain ⟨i, rfl, hi, HI, HB⟩ := hrel
      by_cases hin : i < nb
      · have d1 : decide (i < nb) = true := by simpa using hin
        have hia : i < la.length := by rw [← Hla.out]; omega
        have hib : i < lb.length := by rw [← Hlb.out]; omega
        obtain ⟨ga, oa, rfl, hca⟩ := Ha.out i hia
        obtain ⟨gb, ob, rfl, hcb⟩ := Hb.out i hib
        have c0 := cell_later HB.out hca
        have c1 := cell_later HB.out hcb
        have Hts := Lib.hid (take_step hia hib)
        generalize la[i] = x at *
        generalize lb[i] = y at *
        have i0 : (0 : Int) ≤ (i : Int) := by omega
        have i1 : (i : Int) < (na : Int) := by omega
        have i2 : (i : Int) < (nb : Int) := by omega
        clear hca hcb hia hib
        go_upto_region 6 with (fail)
        go_quiet (fail)
        rename_i nq
        have hd : Below wr.heap.size wr (wr.drewN nq) := Below.drewN' (Below.refl _ _) nq
        have HB2 := Lib.hid (Below.thn HB.out hd)
        generalize wr.drewN nq = W2 at *
        clear hd c0 c1
        cases x <;> cases y
        · go_wp2
          go_roundw
          case rel => exact ⟨i + 1, by go_num, by omega, Lib.hid (Hts.out.2 ⟨HI.out, rfl⟩), HB2⟩
          case measure => simp [intOf]; omega
        · obtain rfl : r = false := by
            rw [← Hr.out]; unfold pre
            simp only [decide_eq_false_iff_not]
            rintro ⟨h, h2⟩
            have h3 := congrArg (List.take (i + 1)) h2
            rw [List.take_take, Nat.min_eq_left (by rw [← Hlb.out]; omega)] at h3
            have := (Hts.out.1 h3).2
            cases this
          go_wp2
          go_ret
          exact ⟨rfl, HB2.out⟩
        · obtain rfl : r = false := by
            rw [← Hr.out]; unfold pre
            simp only [decide_eq_false_iff_not]
            rintro ⟨h, h2⟩
            have h3 := congrArg (List.take (i + 1)) h2
            rw [List.take_take, Nat.min_eq_left (by rw [← Hlb.out]; omega)] at h3
            have := (Hts.out.1 h3).2
            cases this
          go_wp2
          go_ret
          exact ⟨rfl, HB2.out⟩
        · go_wp2
          go_roundw
          case rel => exact ⟨i + 1, by go_num, by omega, Lib.hid (Hts.out.2 ⟨HI.out, rfl⟩), HB2⟩
          case measure => simp [intOf]; omega
      · obtain rfl : i = nb := by omega
        have d1 : decide (i < i) = false := by simp
        obtain rfl : r = true := by
          rw [← Hr.out]; unfold pre
          simp only [decide_eq_true_iff]
          have h1 := HI.out
          have h2 := Hlb.out
          have h3 := Hla.out
          refine ⟨by omega, ?_⟩
          rw [← h2, h1, h2, List.take_length]
        go_wp2
        go_ret
        exact ⟨rfl, HB.out⟩

theorem slice_row (p : Option Addr) (n c a t : Nat) (z : Int) (hz : (a : Int) + (t : Int) = z) (h : a + t ≤ c) (w : World) : (Instr.slice 63 (.slice p n c) (some (.int .i64 (a : Int))) (some (.int .i64 z)) none).run Tryz.prog w = .ok (.slice (if c = a then p else p.map fun x => x.add a) t (c - a)) w := by
  subst hz
  obtain ⟨i, hi, hz, hs, hb⟩ := info_parts bool_info
  rw [run_slice_lh w 63 p n c (by kernel_rfl) .i64 .i64 (a : Int) ((a : Int) + (t : Int)) (by omega) (by omega) (by omega)]
  rw [show ((a : Int) + (t : Int)).toNat = a + t by omega, Int.toNat_natCast]
  simp [go_sem]

theorem sliced_bits {w : World} {p : Option Addr} {l : List Bool} {a t : Nat} (c : Nat) (hc : BitsAt w p l) (hl : l.length ≤ c) (h : a + t ≤ l.length) : BitsAt w (if c = a then p else p.map fun x => x.add a) (sg l a t) := by
  unfold sg
  by_cases hca : c = a
  · intro i hi
    rw [List.length_take, List.length_drop] at hi
    omega
  · rw [if_neg hca]
    rcases p with _ | ⟨g, off, s⟩
    · intro i hi
      rw [List.length_take, List.length_drop] at hi
      obtain ⟨_, _, e, _⟩ := hc (a + i) (by omega)
      cases e
    · by_cases h0 : 0 < l.length
      · obtain ⟨_, _, e, _⟩ := hc 0 h0
        cases e
        show BitsAt w (some ((⟨g, off, none⟩ : Addr).add a)) _
        rw [Addr.add_lit]
        exact BitsAt.part hc a t
      · intro i hi
        rw [List.length_take, List.length_drop] at hi
        omega

end Go.Proofs.YtebfdoipogjpnaaGreat

/- The document's Codes of lengths that make a code. -/
namespace Go.Proofs.YtebfdoipogjpnaaGreat
open Go.RowKit

theorem sy_has {f : Nat → Nat} {n i : Nat} : ∀ {k : Nat}, i < k → f i = n → i ∈ sy f n k
  | 0, h, _ => by omega
  | k + 1, h, e => by
    unfold sy
    rcases Nat.lt_or_ge i k with h1 | h1
    · exact List.mem_append_left _ (sy_has h1 e)
    · obtain rfl : i = k := by omega
      refine List.mem_append_right _ ?_
      rw [if_pos e]
      exact List.mem_singleton.2 rfl
theorem al_has {f : Nat → Nat} {N i : Nat} (h0 : 0 < f i) (hi : i < N) : ∀ {n : Nat}, f i ≤ n → i ∈ al f N n
  | 0, h => by omega
  | n + 1, h => by
    rcases Nat.lt_or_ge (f i) (n + 1) with h1 | h1
    · exact List.mem_append_left _ (al_has h0 hi (by omega))
    · exact List.mem_append_right _ (sy_has hi (by omega))
theorem tl_iff {f : Nat → Nat} {N i : Nat} (h15 : ∀ i, i < N → f i ≤ 15) : i ∈ tl f N 15 0 ↔ i < N ∧ 0 < f i := by
  unfold tl
  rw [show sy f (15 + 1) 0 = [] from rfl, List.append_nil]
  exact ⟨fun h => ⟨(al_mem h).2.2, (al_mem h).1⟩, fun h => al_has h.2 h.1 (h15 i h.1)⟩

theorem OC.cells {w : World} {B : Nat} {o : Value} {f : Nat → Nat} {N : Nat} {l : List Nat} (h : OC w B o f N l) : ∃ p c, o = .slice p l.length c ∧ ∀ k (hk : k < l.length), ∃ b off, p = some ⟨b, off, none⟩ ∧ w.cell? ⟨b, off + k * 2, none⟩ = some (.int .i64 (l[k] : Int)) ∧ ∃ q cq, w.cell? ⟨b, off + k * 2 + 1, none⟩ = some (.slice q (f l[k]) cq) ∧ f l[k] ≤ cq ∧ cq ≤ maxLen ∧ BitsAt w q (rowOf f N l[k]) := by
  obtain ⟨xs, h1, h2, h3⟩ := h.ex
  have hl : l.length = xs.length := by rw [← h1, List.length_map]
  rw [hl] at h2
  obtain ⟨p, c, e, _, _, hr⟩ := owns_row' encC6_len h2
  refine ⟨p, c, by rw [hl]; exact e, fun k hk => ?_⟩
  have hk' : k < xs.length := by omega
  rcases hr with ⟨-, rfl⟩ | ⟨b, off, rfl, -, hc⟩
  · simp at hk'
  · have hx := List.getElem?_eq_getElem hk'
    have e1 : l[k] = xs[k].1 := by simp [← h1]
    obtain ⟨q, cq, e2, q1, q2, q3⟩ := (h3 xs[k] (List.getElem_mem hk')).1.rw.cells
    rw [rowOf_len, ← e1] at e2
    rw [rowOf_len, ← e1] at q1
    refine ⟨b, off, rfl, ?_, q, cq, ?_, q1, q2, ?_⟩
    · have := hc k _ hx 0 _ rfl
      rw [e1]; exact this
    · have := hc k _ hx 1 _ rfl
      rw [← e2]; exact this
    · rw [e1]; exact q3

end Go.Proofs.YtebfdoipogjpnaaGreat

/- The document's Read. -/
namespace Go.Proofs.YtebfdoipogjpnaaGreat
open Go.RowKit

theorem pre_iff {f : Nat → Nat} {N i a t : Nat} {bs : List Bool} (h : a + t ≤ bs.length) : pre (rowOf f N i) (sg bs a t) = true ↔ t ≤ f i ∧ (rowOf f N i).take t = sg bs a t := by
  unfold pre
  rw [decide_eq_true_iff, seg_len h, rowOf_len]

structure Seen (f : Nat → Nat) (N : Nat) (T : List Nat) (bs : List Bool) (a t k : Nat) (sb : Bool) : Prop where
  some : sb = true ↔ ∃ j, ∃ h : j < T.length, j < k ∧ pre (rowOf f N T[j]) (sg bs a t) = true
  none : ∀ j, ∀ h : j < T.length, j < k → pre (rowOf f N T[j]) (sg bs a t) = true → f T[j] ≠ t

theorem Seen.start (f : Nat → Nat) (N : Nat) (T : List Nat) (bs : List Bool) (a t : Nat) : Seen f N T bs a t 0 false :=
  ⟨⟨fun h => (by cases h), fun ⟨j, _, h, _⟩ => by omega⟩, fun j _ h => by omega⟩
theorem Seen.no {f : Nat → Nat} {N : Nat} {T : List Nat} {bs : List Bool} {a t k : Nat} {sb : Bool} (h : Seen f N T bs a t k sb) (hk : k < T.length) (hp : pre (rowOf f N T[k]) (sg bs a t) = false) : Seen f N T bs a t (k + 1) sb := by
  refine ⟨h.some.trans ⟨fun ⟨j, h1, h2, h3⟩ => ⟨j, h1, by omega, h3⟩, fun ⟨j, h1, h2, h3⟩ => ⟨j, h1, ?_, h3⟩⟩, fun j h1 h2 h3 => ?_⟩
  · rcases Nat.lt_or_ge j k with h4 | h4
    · exact h4
    · obtain rfl : j = k := by omega
      rw [hp] at h3; cases h3
  · rcases Nat.lt_or_ge j k with h4 | h4
    · exact h.none j h1 h4 h3
    · obtain rfl : j = k := by omega
      rw [hp] at h3; cases h3
theorem Seen.yes {f : Nat → Nat} {N : Nat} {T : List Nat} {bs : List Bool} {a t k : Nat} {sb : Bool} (h : Seen f N T bs a t k sb) (hk : k < T.length) (hp : pre (rowOf f N T[k]) (sg bs a t) = true) (hn : f T[k] ≠ t) : Seen f N T bs a t (k + 1) true := by
  refine ⟨⟨fun _ => ⟨k, hk, by omega, hp⟩, fun _ => rfl⟩, fun j h1 h2 h3 => ?_⟩
  rcases Nat.lt_or_ge j k with h4 | h4
  · exact h.none j h1 h4 h3
  · obtain rfl : j = k := by omega
    exact hn

structure RdDoc (ls : List Nat) (T : List Nat) (l : List Nat) (a L : Nat) (F : Nat × Nat → Option Nat) : Prop where
  chk : chk ls = 0
  mem : ∀ i, i ∈ T ↔ i < ls.length ∧ 0 < lq ls i
  byte : ∀ b ∈ l, b < 256
  tf : ToldF (lq ls) ls.length 15 0 F
  tm : ToldM (lq ls) ls.length 15 0 L

def Yet (F : Nat × Nat → Option Nat) (l : List Nat) (a t : Nat) : Prop := ∀ u, 1 ≤ u → u < t → F (bt l a u, u) = none

theorem RdDoc.iff {ls T l : List Nat} {a L : Nat} {F : Nat × Nat → Option Nat} (h : RdDoc ls T l a L F) {t i : Nat} (ht : a + t ≤ 8 * l.length) : F (bt l a t, t) = some i ↔ i < ls.length ∧ 0 < lq ls i ∧ lq ls i = t ∧ rowOf (lq ls) ls.length i = sg (ofB l) a t :=
  told_iff h.tf h.byte ht (chk_zero h.chk).2.1

theorem RdDoc.found {ls T l : List Nat} {a L : Nat} {F : Nat × Nat → Option Nat} (h : RdDoc ls T l a L F) {t i : Nat} (ht : a + t ≤ 8 * l.length) (hy : Yet F l a t) (hi : i ∈ T) (hp : pre (rowOf (lq ls) ls.length i) (sg (ofB l) a t) = true) (hf : lq ls i = t) (htL : t ≤ L) : RdAns F L l a i 0 t := by
  have h1 := (h.mem i).1 hi
  rw [pre_iff (by rw [ofB_len]; exact ht)] at hp
  have h2 := hp.2
  rw [← hf, List.take_of_length_le (by rw [rowOf_len]; exact Nat.le_refl _), hf] at h2
  exact ⟨hy, ⟨htL, ht⟩, .inl ⟨rfl, by omega, (h.iff ht).2 ⟨h1.1, h1.2, hf, h2⟩⟩⟩

theorem RdDoc.step {ls T l : List Nat} {a L : Nat} {F : Nat × Nat → Option Nat} (h : RdDoc ls T l a L F) {t : Nat} {sb : Bool} (ht : a + t ≤ 8 * l.length) (hs : Seen (lq ls) ls.length T (ofB l) a t T.length sb) (_h1 : 1 ≤ t) : F (bt l a t, t) = none := by
  cases hF : F (bt l a t, t) with
  | none => rfl
  | some i =>
    obtain ⟨i1, i2, i3, i4⟩ := (h.iff ht).1 hF
    obtain ⟨j, hj, hji⟩ := List.getElem_of_mem ((h.mem i).2 ⟨i1, i2⟩)
    exfalso
    refine hs.none j hj hj ?_ (by rw [hji]; exact i3)
    rw [hji, pre_iff (by rw [ofB_len]; exact ht)]
    refine ⟨by omega, ?_⟩
    rw [← i4, List.take_of_length_le (by rw [rowOf_len]; omega)]

theorem RdDoc.lost {ls T l : List Nat} {a L : Nat} {F : Nat × Nat → Option Nat} (h : RdDoc ls T l a L F) {t : Nat} (ht : a + t ≤ 8 * l.length) (hy : Yet F l a t) (htL : t ≤ L) (hs : Seen (lq ls) ls.length T (ofB l) a t T.length false) : RdAns F L l a 0 60 t := by
  have hst := h.step ht hs
  have e : t = L := by
    rcases Nat.lt_or_ge t L with h1 | h1
    · exfalso
      obtain ⟨i, i1, i2, i3, i4⟩ := goes (bs := ofB l) (a := a) (t := t) h.chk h.tm (by rw [ofB_len]; exact ht) (fun u i u1 u2 ui uf hr => by
        have h2 := (h.iff (t := u) (i := i) (by omega)).2 ⟨ui, by omega, uf, hr⟩
        rcases Nat.lt_or_ge u t with h3 | h3
        · rw [hy u u1 h3] at h2; cases h2
        · obtain rfl : u = t := by omega
          rw [hst u1] at h2; cases h2) h1
      obtain ⟨j, hj, hji⟩ := List.getElem_of_mem ((h.mem i).2 ⟨i1, i3⟩)
      have := hs.some.2 ⟨j, hj, hj, by rw [hji, pre_iff (by rw [ofB_len]; exact ht)]; exact ⟨i2, i4⟩⟩
      cases this
    · omega
  exact ⟨hy, ⟨htL, ht⟩, .inr (.inl ⟨rfl, rfl, e, hst⟩)⟩

theorem RdDoc.more {ls T l : List Nat} {a L : Nat} {F : Nat × Nat → Option Nat} (h : RdDoc ls T l a L F) {t : Nat} (ht : a + t ≤ 8 * l.length) (hs : Seen (lq ls) ls.length T (ofB l) a t T.length true) : t < L := by
  obtain ⟨j, hj, -, hp⟩ := hs.some.1 rfl
  have hn := hs.none j hj hj hp
  rw [pre_iff (by rw [ofB_len]; exact ht)] at hp
  have h1 := (h.mem T[j]).1 (List.getElem_mem hj)
  have h2 := h.tm.ge T[j] h1.1 ⟨h1.2, .inl ((chk_zero h.chk).2.1 _ h1.1)⟩
  omega

theorem RdDoc.few {ls T l : List Nat} {a L : Nat} {F : Nat × Nat → Option Nat} (h : RdDoc ls T l a L F) {t : Nat} (ht : a + t = 8 * l.length) (hy : Yet F l a t) (hs : Seen (lq ls) ls.length T (ofB l) a t T.length true) : RdAns F L l a 0 50 t :=
  ⟨hy, ⟨Nat.le_of_lt (h.more (by omega) hs), by omega⟩, .inr (.inr ⟨rfl, rfl, h.more (by omega) hs, ht, h.step (by omega) hs⟩)⟩

theorem RdDoc.next {ls T l : List Nat} {a L : Nat} {F : Nat × Nat → Option Nat} (h : RdDoc ls T l a L F) {t : Nat} (ht : a + t ≤ 8 * l.length) (hy : Yet F l a t) (hs : Seen (lq ls) ls.length T (ofB l) a t T.length true) : Yet F l a (t + 1) := fun u h1 h2 => by
  rcases Nat.lt_or_ge u t with h3 | h3
  · exact hy u h1 h3
  · obtain rfl : u = t := by omega
    exact h.step ht hs h1

set_option maxRecDepth 100000 in
set_option maxHeartbeats 4000000 in
theorem refRead_any (ls T l : List Nat) (a L B : Nat) (F : Nat × Nat → Option Nat) (lv rv : Value) (w : World) (hd : RdDoc ls T l a L F) (ho : OC w B lv (lq ls) ls.length T) (hr : RwB w rv (ofB l)) (hlen : l.length ≤ 1000) (hT : T.length ≤ 100000) (ha : a ≤ 8 * l.length) :
    Calls Tryz.prog 100 #[lv, rv, .int .i64 (a : Int)] w fun e w' => ∃ (x : Nat) (er : Int) (s : Nat), e = .returned (.tuple #[.int .i64 (x : Int), .int .i64 ((a + s : Nat) : Int), .int .i64 er]) ∧ RdAns F L l a x er s ∧ Below w.heap.size w w' := by
  obtain ⟨p, c, rfl, hcells⟩ := ho.cells
  obtain ⟨rp, rc, rfl, hrc1, hrc2, hbits⟩ := hr.cells
  have hLen := ofB_len l
  rw [hLen] at hrc1
  have Hlen := Lib.hid hLen
  have Hcells := Lib.hid hcells
  have Hbits := Lib.hid (show BitsAt w rp (ofB l) from hbits)
  have Hd := Lib.hid hd
  have Hrc := Lib.hid hrc1
  have Ho := Lib.hid ho
  rw [hLen]
  obtain ⟨M, hM⟩ : ∃ M, 8 * l.length = M := ⟨_, rfl⟩
  have HM := Lib.hid hM
  rw [hM] at ha hrc1 ⊢
  have hM8 : M ≤ 8000 := by omega
  clear hd ho hr hcells hbits hrc2 hLen hM hlen
  go_enter Tryz.func100, Tryz.ntmps100
  go_wp2
  go_loopw [2] (fun tv wr => ∃ t : Nat, tv = .int .i64 ((a : Int) + (t : Int)) ∧ t ≤ L ∧ a + t ≤ M ∧ Hid (Yet F l a t) ∧ Hid (Below w.heap.size w wr)) (fun tv _ => M - (intOf tv).toNat)
  case atStart => exact ⟨0, by simp, Nat.zero_le _, by omega, Lib.hid (fun u h1 h2 => by omega), Lib.hid (Below.refl _ _)⟩
  case round =>
    obtain ⟨t, rfl, htL, hat, HY, HB⟩ := hrel
    go_wp2
    generalize wr = W1 at *
    go_loopw [10, 11] (fun sv kv ws => ∃ (k : Nat) (sb : Bool), sv = .bool sb ∧ kv = .int .i64 (k : Int) ∧ k ≤ T.length ∧ Hid (Seen (lq ls) ls.length T (ofB l) a t k sb) ∧ Hid (Below w.heap.size w ws)) (fun _ kv _ => T.length - (intOf kv).toNat)
    case atStart => exact ⟨0, false, rfl, rfl, Nat.zero_le _, Lib.hid (Seen.start _ _ _ _ _ _), HB⟩
    case round =>
      obtain ⟨k, sb, rfl, rfl, hk, HS, HB1⟩ := hrel
      by_cases hkT : k < T.length
      · obtain ⟨b, off, rfl, c0, q, cq, c1, hq1, hq2, hrow⟩ := Hcells.out k hkT
        obtain ⟨s, hs⟩ : ∃ s, T[k] = s := ⟨_, rfl⟩
        have Hyes := Lib.hid (fun hp hn => HS.out.yes hkT hp hn)
        have Hno := Lib.hid (fun hp => HS.out.no hkT hp)
        have Hfound := Lib.hid (fun hp hf => Hd.out.found (by rw [HM.out]; exact hat) HY.out (List.getElem_mem hkT) hp hf htL)
        simp only [hs] at c0 c1 hq1 hrow Hyes Hno Hfound
        have hrl := rowOf_len (lq ls) ls.length s
        have c0 := cell_later HB1.out c0
        have c1 := cell_later HB1.out c1
        obtain ⟨n, hn⟩ : ∃ n, lq ls s = n := ⟨_, rfl⟩
        rw [hn] at c1 hq1 hrl Hyes Hfound
        obtain ⟨q2, hq2'⟩ : ∃ q2, (if rc = a then rp else rp.map fun x => x.add a) = q2 := ⟨_, rfl⟩
        have hsl := slice_row rp M rc a t _ rfl (by omega)
        rw [hq2'] at hsl
        obtain ⟨pb, hpb⟩ : ∃ pb, pre (rowOf (lq ls) ls.length s) (sg (ofB l) a t) = pb := ⟨_, rfl⟩
        rw [hpb] at Hyes Hno Hfound
        have Hbeg : Hid (∀ m : After wr, Makes Tryz.prog 131 #[.slice q n cq, .slice q2 t (rc - a)] m.world (.bool pb)) := Lib.hid (fun m => by
          have hb2 := Below.thn HB1.out m.below
          rw [← hpb]
          refine begins_any q q2 n t cq (rc - a) _ _ m.world hrl.symm ?_ (by omega) (hrow.below hb2) ?_
          · rw [seg_len (by rw [Hlen.out, HM.out]; exact hat)]
          · rw [← hq2']
            exact sliced_bits rc (Hbits.out.below hb2) (by rw [Hlen.out, HM.out]; exact hrc1) (by rw [Hlen.out, HM.out]; exact hat))
        have k0 : (0 : Int) ≤ (k : Int) := by omega
        have k1 : (k : Int) < (T.length : Int) := by omega
        have ht1 : (t : Int) ≤ 8000 := by omega
        clear hrow hrl hpb hq2' hq2 hs hn
        go_upto_region 6 with (fail)
        have hqq := After.ne wr
        have C1 := After.rule c1
        refine wp_region_head 9 (by kernel_rfl) (by kernel_rfl) (by kernel_rfl) ?_
        repeat (refine Lq_step (fun K hK => ?_); go_simp; (refine hK _ ?_; clear hK K))
        refine Lq_nil ?_
        intro w2' hb2'
        simp only [List.drop_succ_cons, List.drop_zero]
        have hbg := Hbeg.out ⟨w2', hb2'⟩
        go_wp2_with fail
        refine Calls.mono hbg ?_
        clear hbg
        rintro e w2 ⟨rfl, hb2''⟩
        have hb2 := Below.thn hb2' hb2''
        have HB2 := Lib.hid (HB1.out.trans (hb2.mono HB1.out.size))
        have c0 := cell_later hb2 c0
        have c1 := cell_later hb2 c1
        clear C1 hqq hb2 hsl hb2' hb2'' Hbeg
        cases pb with
        | false =>
          go_wp2
          go_roundw
          case rel => exact ⟨k + 1, sb, rfl, by go_num, by omega, Lib.hid (Hno.out trivial), HB2⟩
          case measure => simp [intOf]; omega
        | true =>
          have hsub : (a : Int) + (t : Int) - (a : Int) = (t : Int) := by omega
          by_cases hnt : n = t
          · subst hnt
            go_wp2
            go_ret3
            exact ⟨s, 0, n, by simp, Hfound.out trivial trivial, HB2.out⟩
          · have e0 : ((n : Int) == (t : Int)) = false := by simp; omega
            go_wp2
            go_roundw
            case rel => exact ⟨k + 1, true, rfl, by go_num, by omega, Lib.hid (Hyes.out trivial hnt), HB2⟩
            case measure => simp [intOf]; omega
      · obtain rfl : k = T.length := by omega
        cases sb with
        | false =>
          go_wp2
          go_ret3
          exact ⟨0, 60, t, by simp, Hd.out.lost (by rw [HM.out]; exact hat) HY.out htL HS.out, HB1.out⟩
        | true =>
          by_cases hM2 : a + t = M
          · have e0 : (((a : Int) + (t : Int)) == (M : Int)) = true := by simp; omega
            go_wp2
            go_ret3
            exact ⟨0, 50, t, by simp, Hd.out.few (by rw [HM.out]; exact hM2) HY.out HS.out, HB1.out⟩
          · have e0 : (((a : Int) + (t : Int)) == (M : Int)) = false := by simp; omega
            go_wp2
            go_roundw
            case rel => exact ⟨t + 1, by go_num, by have := Hd.out.more (by rw [HM.out]; exact hat) HS.out; omega, by omega, Lib.hid (Hd.out.next (by rw [HM.out]; exact hat) HY.out HS.out), HB1⟩
            case measure => simp [intOf]; omega

end Go.Proofs.YtebfdoipogjpnaaGreat
