/- Several texts in one, each with its own head. -/
import Derived.Test.YtjigdgfanpeibaaTA35
import Derived.Test.YtjigdgfanpeibaaTA46
import Derived.Test.YtjigdgfanpeibaaTA2
/- tiles, plainly: one tile for each pixel; what is touched. Nothing here speaks of a program. -/
namespace Go.Proofs.Ytjigdgfanpeibaa

theorem tl_has {w h i : Nat} (hw : w ≤ 256) (hh : h ≤ 256) (hi : i < tlN w h) (x y : Int) : hasR (tlR w h i) x y = true ↔ (16 * ((i % clN w : Nat) : Int) ≤ x ∧ x < 16 * ((i % clN w : Nat) : Int) + 16 ∧ x < w) ∧ (16 * ((i / clN w : Nat) : Int) ≤ y ∧ y < 16 * ((i / clN w : Nat) : Int) + 16 ∧ y < h) := by
  obtain ⟨a1, a2, a3, a4⟩ := tl_parts hw hh hi
  have hr16 : 16 * (i / clN w) < h := by
    have h1 : 16 * (i / clN w) < 16 * clN h := by omega
    have h2 : clN h = (h + 15) / 16 := rfl
    omega
  exact til_has hw hh (by unfold clN at a1 ⊢; omega) hr16 x y

theorem tile_one {w h : Nat} (hw : w ≤ 256) (hh : h ≤ 256) (x y : Int) : ∃ i0, (∀ i, i < tlN w h → hasR (tlR w h i) x y = decide (i = i0)) ∧
    ((0 ≤ x ∧ x < w ∧ 0 ≤ y ∧ y < h ∧ i0 < tlN w h ∧ (i0 : Int) = y / 16 * (clN w : Int) + x / 16) ∨ (¬ (0 ≤ x ∧ x < w ∧ 0 ≤ y ∧ y < h) ∧ i0 = tlN w h)) := by
  by_cases hin : 0 ≤ x ∧ x < w ∧ 0 ≤ y ∧ y < h
  · obtain ⟨X, rfl⟩ := Int.eq_ofNat_of_zero_le hin.1
    obtain ⟨Y, rfl⟩ := Int.eq_ofNat_of_zero_le hin.2.2.1
    have hX : X / 16 < clN w := by unfold clN; omega
    have hY : Y / 16 < clN h := by unfold clN; omega
    refine ⟨Y / 16 * clN w + X / 16, fun i hi => ?_, .inl ⟨hin.1, hin.2.1, hin.2.2.1, hin.2.2.2, ?_, by simp⟩⟩
    · rw [Bool.eq_iff_iff, tl_has hw hh hi, decide_eq_true_iff]
      obtain ⟨a1, a2, -, -⟩ := tl_parts hw hh hi
      constructor
      · intro hc
        have e1 : i % clN w = X / 16 := by omega
        have e2 : i / clN w = Y / 16 := by omega
        rw [← e1, ← e2, Nat.mul_comm, Nat.div_add_mod]
      · rintro rfl
        obtain ⟨e1, e2⟩ := num_parts (r := Y / 16) hX
        rw [e1, e2]
        omega
    · have : (Y / 16 + 1) * clN w ≤ clN h * clN w := Nat.mul_le_mul_right _ hY
      rw [Nat.add_mul] at this
      unfold tlN; omega
  · refine ⟨tlN w h, fun i hi => ?_, .inr ⟨hin, rfl⟩⟩
    have : ¬ hasR (tlR w h i) x y = true := fun hc => hin (by
      rw [tl_has hw hh hi] at hc
      have n1 := Int.natCast_nonneg (i % clN w)
      have n2 := Int.natCast_nonneg (i / clN w)
      omega)
    rw [show decide (i = tlN w h) = false by simp; omega]
    simpa using this

/-- A tile is touched where a list and it have a pixel. -/
theorem touch_iff {w h : Nat} (hw : w ≤ 256) (hh : h ≤ 256) (l : List Rc) {i : Nat} (hi : i < tlN w h) : ofN (pcsL w h (ptL w h l)) i ≠ [] ↔ ∃ x y, pix l x y = true ∧ hasR (tlR w h i) x y = true := by
  have hpx := pcs_pix hw hh (ptL_in w h l) hi
  constructor
  · intro hne
    obtain ⟨r, hr⟩ := List.exists_mem_of_ne_nil _ hne
    obtain ⟨-, he, -⟩ := pcs_mem hw hh (ptL_in w h l) hr
    obtain ⟨c1, -, -, -⟩ := corner_has he
    have h1 := pix_iff.2 ⟨r, hr, c1⟩
    rw [hpx, ptL_pix, Bool.and_eq_true, Bool.and_eq_true] at h1
    exact ⟨_, _, h1.1.1, h1.2⟩
  · rintro ⟨x, y, h1, h2⟩ e
    have h3 := hpx x y
    have h4 : hasR (pcR w h) x y = true := by
      unfold tlR til at h2
      rw [has_and, Bool.and_eq_true] at h2
      exact h2.2
    rw [e, ptL_pix, h1, h2, h4, pix_nil] at h3
    cases h3

theorem filter_one (i0 : Nat) : ∀ N, (List.range N).filter (fun i => decide (i = i0)) = if i0 < N then [i0] else []
  | 0 => rfl
  | N + 1 => by
    rw [List.range_succ, List.filter_append, filter_one i0 N]
    by_cases h : N = i0
    · subst h
      simp
    · by_cases h2 : i0 < N
      · simp [h, h2, show i0 < N + 1 by omega]
      · simp [h, h2, show ¬ i0 < N + 1 by omega]
theorem touch_one {w h : Nat} (hw : w ≤ 256) (hh : h ≤ 256) (x y : Int) {i0 : Nat} (h0 : ∀ i, i < tlN w h → hasR (tlR w h i) x y = decide (i = i0)) :
    ((List.range (tlN w h)).filter fun i => !(ofN (pcsL w h (ptL w h [⟨x, y, 1, 1⟩])) i).isEmpty) = if i0 < tlN w h then [i0] else [] := by
  rw [← filter_one]
  refine List.filter_congr fun i hi => ?_
  have hi' := List.mem_range.1 hi
  rw [← h0 i hi', Bool.eq_iff_iff]
  have h1 := touch_iff hw hh [⟨x, y, 1, 1⟩] hi'
  have h2 : (!(ofN (pcsL w h (ptL w h [⟨x, y, 1, 1⟩])) i).isEmpty) = true ↔ ofN (pcsL w h (ptL w h [⟨x, y, 1, 1⟩])) i ≠ [] := by
    cases ofN (pcsL w h (ptL w h [⟨x, y, 1, 1⟩])) i <;> simp
  rw [h2, h1]
  constructor
  · rintro ⟨p, q, e1, e2⟩
    obtain ⟨r, hr, hx⟩ := pix_iff.1 e1
    rcases List.mem_cons.1 hr with rfl | hr
    · obtain ⟨-, b1, b2⟩ := has_iff.1 hx
      simp only at b1 b2
      rwa [show p = x by omega, show q = y by omega] at e2
    · cases hr
  · intro hx
    refine ⟨x, y, pix_iff.2 ⟨_, List.mem_cons_self, has_iff.2 ⟨?_, by simp only; omega, by simp only; omega⟩⟩, hx⟩
    have h3 := (tl_has hw hh hi' x y).1 hx
    have n1 := Int.natCast_nonneg (i % clN w)
    have n2 := Int.natCast_nonneg (i / clN w)
    rw [emptyR_false]
    simp only
    omega

end Go.Proofs.Ytjigdgfanpeibaa

/- TilesOne. -/
namespace Go.Proofs.Ytjigdgfanpeibaa
open Go.RowKit

def inV (i0 i : Nat) : Int := if i0 < i then 1 else 0
def atV (i0 i : Nat) : Int := if i0 < i then (i0 : Int) else -1
theorem inV_same {i0 i : Nat} (h : i ≠ i0) : inV i0 (i + 1) = inV i0 i ∧ atV i0 (i + 1) = atV i0 i := by
  unfold inV atV
  by_cases h1 : i0 < i
  · rw [if_pos h1, if_pos (by omega), if_pos h1, if_pos (by omega)]; exact ⟨rfl, rfl⟩
  · rw [if_neg h1, if_neg (by omega), if_neg h1, if_neg (by omega)]; exact ⟨rfl, rfl⟩
theorem inV_now (i : Nat) : inV i i = 0 ∧ inV i (i + 1) = 1 ∧ atV i (i + 1) = (i : Int) := by
  unfold inV atV
  rw [if_neg (by omega), if_pos (by omega), if_pos (by omega)]
  exact ⟨rfl, rfl, rfl⟩

set_option maxRecDepth 20000 in
set_option maxHeartbeats 2000000 in
theorem tone_any (w h x y : Int) (hx : x ≤ 9223372036854775807) (hy : y ≤ 9223372036854775807) (W : World) :
    Makes Try.prog 6 #[.int .i64 w, .int .i64 h, .int .i64 x, .int .i64 y] W (.bool true) := by
  unfold Makes
  have hpw := szW_le w h
  have hph := szH_le w h
  have hsz := sz_both w h
  have hgr := fun W => grid_any w h W
  have hto := fun v W hv => touched_any v [⟨x, y, 1, 1⟩] w h W hv (fun r hr => by
    rcases List.mem_cons.1 hr with rfl | hr
    · exact ⟨hx, hy⟩
    · cases hr) (by simp)
  obtain ⟨pw, hpwe⟩ : ∃ p, szW w h = p := ⟨_, rfl⟩
  obtain ⟨ph, hphe⟩ : ∃ p, szH w h = p := ⟨_, rfl⟩
  rw [hpwe] at hpw hgr hto hsz
  rw [hphe] at hph hgr hto hsz
  obtain ⟨i0, h0, hcase⟩ := tile_one hpw hph x y
  have ht : tcL pw ph [⟨x, y, 1, 1⟩] = if i0 < tlN pw ph then [i0] else [] := touch_one hpw hph x y h0
  rw [ht] at hto
  have hgl : (grL pw ph).length = tlN pw ph := by unfold grL; simp
  have hgf : ∀ i (hi : i < (grL pw ph).length), (grL pw ph)[i] = tlR pw ph i := fun i hi => by simp [grL]
  have hN256 := tlN_le hpw hph
  obtain ⟨N, hN⟩ : ∃ N, tlN pw ph = N := ⟨_, rfl⟩
  rw [hN] at h0 hcase hto hgl hN256
  have Hgf : Hid (∀ i (hi : i < (grL pw ph).length), (grL pw ph)[i] = tlR pw ph i) := Lib.hid hgf
  have Hgr := Lib.hid hgr
  have Hto := Lib.hid hto
  have H0 := Lib.hid h0
  have Hcase := Lib.hid hcase
  have Hsz := Lib.hid hsz
  have HNe := Lib.hid hN
  clear hgf hgr hto h0 hcase hsz hpwe hphe ht hN
  go_enter Try.func6, Try.ntmps6
  go_wp2_with fail
  refine Calls.mono (Hgr.out W) ?_
  rintro _ w1 ⟨v1, rfl, ho1, hb1⟩
  have hr1 := owns_row' (enc := encR) (k := 4) (fun _ => rfl) ho1
  obtain ⟨p1, c1, rfl, hc1, hc1', hp1⟩ := hr1
  have Hgl := Lib.hid hgl
  rw [hgl] at hc1 ⊢
  have Hp1 := Lib.hid hp1
  have Hb1 := Lib.hid hb1
  clear ho1 hb1 hp1 hgl
  go_wp2_with fail
  go_loopw [10, 11, 12] (fun nv av iv wr => ∃ i : Nat, i ≤ N ∧ iv = .int .i64 (i : Int) ∧ nv = .int .i64 (inV i0 i) ∧ av = .int .i64 (atV i0 i) ∧ Hid (Below w1.heap.size w1 wr)) (fun _ _ iv _ => N - (intOf iv).toNat)
  case atStart => exact ⟨0, Nat.zero_le _, rfl, rfl, rfl, Lib.hid (Below.refl _ _)⟩
  case round =>
    obtain ⟨i, hi, rfl, rfl, rfl, HB⟩ := hrel
    by_cases hin : i < N
    · have d1 : decide ((i : Int) < (N : Int)) = true := by simp; omega
      have hil : i < (grL pw ph).length := by rw [Hgl.out]; exact hin
      obtain ⟨b, off, rfl, -, hat⟩ := Hp1.out.rc hil
      obtain ⟨x0, x1, x2, x3⟩ := (hat i hil).later HB.out
      rw [Hgf.out i hil] at x0 x1 x2 x3
      have hfit : Fit (tlR pw ph i) := and_fit _ _
      have hhas := H0.out i hin
      obtain ⟨nv, hnv⟩ : ∃ z, inV i0 i = z := ⟨_, rfl⟩
      obtain ⟨av, hav⟩ : ∃ z, atV i0 i = z := ⟨_, rfl⟩
      have hsame := inV_same (i0 := i0) (i := i)
      have hnow := inV_now i
      rw [hnv] at hsame ⊢
      rw [hav] at hsame ⊢
      obtain ⟨r, hr⟩ : ∃ r, tlR pw ph i = r := ⟨_, rfl⟩
      rw [hr] at hfit hhas x0 x1 x2 x3
      have i0' : (0 : Int) ≤ (i : Int) := by omega
      have i1' : (i : Int) < (N : Int) := by omega
      have Hhas := Lib.hid (fun u => has_any r x y u hfit)
      rw [hhas] at Hhas
      have Hsame := Lib.hid hsame
      have Hnow := Lib.hid hnow
      have Hnv := Lib.hid hnv
      clear hat hil hsame hnow hfit hhas hr hnv hav
      go_wp2_with fail
      refine Calls.mono (Hhas.out _) ?_
      rintro _ w2 ⟨rfl, hb2⟩
      have HB2 := Lib.hid (Below.thn HB.out hb2)
      clear hb2 HB x0 x1 x2 x3
      by_cases e : i = i0
      · have d2 : decide (i = i0) = true := decide_eq_true e
        subst e
        have hz : nv = 0 := by rw [← Hnv.out]; exact Hnow.out.1
        subst hz
        go_wp2
        go_roundw
        case rel => exact ⟨i + 1, by omega, by go_num, by rw [Hnow.out.2.1], by rw [Hnow.out.2.2], HB2⟩
        case measure => simp [intOf]; omega
      · have d2 : decide (i = i0) = false := decide_eq_false e
        have He := Lib.hid e
        clear e
        go_wp2
        go_roundw
        case rel => exact ⟨i + 1, by omega, by go_num, by rw [(Hsame.out He.out).1], by rw [(Hsame.out He.out).2], HB2⟩
        case measure => simp [intOf]; omega
    · obtain rfl : i = N := by omega
      have d1 : decide ((i : Int) < (i : Int)) = false := by simp
      go_wp2_with fail
      have hly : Row encR 4 (wr.alloc (.cells #[.int .i64 x, .int .i64 y, .int .i64 1, .int .i64 1] 38)) (.slice (some ⟨wr.heap.size, 0, none⟩) 1 1) [⟨x, y, 1, 1⟩] := litR rfl rfl (by simp [maxLen])
      have HB3 := Lib.hid (Below.thn Hb1.out (Below.thn HB.out (Below.al1 wr (.cells #[.int .i64 x, .int .i64 y, .int .i64 1, .int .i64 1] 38))))
      generalize wr.alloc (.cells #[.int .i64 x, .int .i64 y, .int .i64 1, .int .i64 1] 38) = w3 at *
      refine Calls.mono (Hto.out _ w3 hly) ?_
      clear hly
      rcases Hcase.out with ⟨q1, q2, q3, q4, q5, q6⟩ | ⟨q1, q2⟩
      · have hin0 : inV i0 i = 1 ∧ atV i0 i = (i0 : Int) := by unfold inV atV; rw [if_pos q5, if_pos q5]; exact ⟨rfl, rfl⟩
        rw [if_pos q5, hin0.1, hin0.2]
        rcases Hsz.out with ⟨e1, -, -⟩ | ⟨e1, e2, -, e4, e5⟩
        · have hff : False := by omega
          exact hff.elim
        have hwb : 0 ≤ w ∧ w ≤ 256 := by omega
        have hhb : 0 ≤ h ∧ h ≤ 256 := by omega
        have t4 : decide (x ≥ w) = false := by simp; omega
        have t5 : decide (y ≥ h) = false := by simp; omega
        have hcl : (clN pw : Int) ≤ 16 := by unfold clN; omega
        have hz : (w + 16 - 1) / 16 = (clN pw : Int) := by rw [e4]; unfold clN; omega
        obtain ⟨c, hc⟩ : ∃ c, (clN pw : Int) = c := ⟨_, rfl⟩
        have hc0 : 0 ≤ c := by omega
        rw [hc] at hz q6 hcl
        obtain ⟨m, hm⟩ : ∃ m, y / 16 * c = m := ⟨_, rfl⟩
        have hmb : 0 ≤ m ∧ m ≤ 256 := by
          rw [← hm]
          have h1 : 0 ≤ y / 16 := by omega
          have h2 : y / 16 ≤ 16 := by omega
          exact ⟨Int.mul_nonneg h1 hc0, Int.le_trans (Int.mul_le_mul h2 hcl hc0 (by omega)) (by omega)⟩
        have hwm : IntKind.i64.wrap (y / 16 * c) = m := by rw [hm]; exact IntWalk.i64_in _ (by omega)
        rw [hm] at q6
        have t6 : ((i0 : Int) == m + x / 16) = true := by simp [q6]
        have Hq6 := Lib.hid q6
        clear q6 hm hc e1 e2 e4 e5
        rintro _ w4 ⟨v4, rfl, ho4, hb4⟩
        have hr4 := Row.ownI (l := [i0]) ho4
        obtain ⟨p4, c4, rfl, -, -, hp4⟩ := hr4
        obtain ⟨b4, off4, rfl, a4⟩ := hp4.natI (k := 0) (by simp)
        simp only [List.getElem_cons_zero, Nat.add_zero] at a4
        have Hb4 := Lib.hid (Below.thn HB3.out hb4)
        have t1 : ((i : Int) == 0) = false := by simp; omega
        have t2 : decide (x < 0) = false := by simp; omega
        have t3 : decide (y < 0) = false := by simp; omega
        clear ho4 hb4 hp4 hin0 HB3
        go_wp2_with fail
        refine Calls.mono (tlWakes_any _) ?_
        rintro _ w5 ⟨rfl, hb5⟩
        have Hb5 := Lib.hid (Below.thn Hb4.out hb5)
        clear hb5
        go_wp2
        go_ret
        exact ⟨rfl, Hb5.out⟩
      · have hin0 : inV i0 i = 0 := by unfold inV; rw [if_neg (by omega)]
        rw [if_neg (by omega), hin0]
        rintro _ w4 ⟨v4, rfl, ho4, hb4⟩
        obtain ⟨p4, c4, rfl⟩ := owns_slice ho4
        have Hb4 := Lib.hid (Below.thn HB3.out hb4)
        clear ho4 hb4 hin0 HB3
        have htest : (((i : Int) == 0) || decide (x < 0) || decide (y < 0) || decide (x ≥ w) || decide (y ≥ h)) = true := by
          rcases Hsz.out with ⟨e1, e2, -⟩ | ⟨e1, e2, -, e4, e5⟩
          · have : tlN pw ph = 0 := by rw [e1]; unfold tlN clN; simp
            have := HNe.out
            simp; omega
          · simp; omega
        obtain ⟨s1, hs1⟩ : ∃ b, ((i : Int) == 0) = b := ⟨_, rfl⟩
        obtain ⟨s2, hs2⟩ : ∃ b, decide (x < 0) = b := ⟨_, rfl⟩
        obtain ⟨s3, hs3⟩ : ∃ b, decide (y < 0) = b := ⟨_, rfl⟩
        obtain ⟨s4, hs4⟩ : ∃ b, decide (x ≥ w) = b := ⟨_, rfl⟩
        obtain ⟨s5, hs5⟩ : ∃ b, decide (y ≥ h) = b := ⟨_, rfl⟩
        rw [hs1, hs2, hs3, hs4, hs5] at htest
        cases s1 <;> cases s2 <;> cases s3 <;> cases s4 <;> cases s5 <;> first
          | (exact absurd htest (by decide))
          | (clear htest
             go_wp2_with fail
             refine Calls.mono (tlWakes_any _) ?_
             rintro _ w5 ⟨rfl, hb5⟩
             have Hb5 := Lib.hid (Below.thn Hb4.out hb5)
             clear hb5
             go_wp2
             go_ret
             exact ⟨rfl, Hb5.out⟩)

end Go.Proofs.Ytjigdgfanpeibaa
