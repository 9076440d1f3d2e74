/- The walk of the statement InflateAhead. -/
import Derived.Test.YtajidlihepjegaaA845
import Derived.Test.YtajidlihepjegaaA846
namespace Go.Proofs.Ytajidlihepjegaa
open Go.RowKit Go.Maps

theorem add_in {n k N : Nat} (h : n + k = N) (hN : N ≤ 1000000) : IntKind.i64.wrap ((n : Int) + (k : Int)) = (N : Int) ∧ wrap64 ((n : Int) + (k : Int)) = (N : Int) := by
  rw [IntWalk.i64_in _ (by omega), wrap64_in _ (by omega)]
  omega
theorem add_in5 {n N : Nat} (h : n + 5 = N) (hN : N ≤ 1000000) : IntKind.i64.wrap ((n : Int) + 5) = (N : Int) ∧ wrap64 ((n : Int) + 5) = (N : Int) := by
  rw [IntWalk.i64_in _ (by omega), wrap64_in _ (by omega)]
  omega
theorem strI_size (l : List Nat) : (strI l).size = l.length := by
  have : (strI l).data.size = l.length := by simp [strI, ← Array.length_toList, strOfNums_data]
  exact this

set_option maxRecDepth 20000 in
set_option maxHeartbeats 4000000 in
theorem iahead_any (v0 : Value) (l : List Nat) (v1 : Value) (m : List Nat) (w : World) (hv0 : Rw8 w v0 l) (hb0 : ∀ b ∈ l, b < 256) (hv1 : Rw8 w v1 m) (hb1 : ∀ b ∈ m, b < 256) :
    Makes Try.prog 6 #[v0, v1] w (.bool true) := by
  unfold Makes
  have Hv0 := Lib.hid hv0
  have Hv1 := Lib.hid hv1
  have Hb0 := Lib.hid hb0
  have Hb1 := Lib.hid hb1
  obtain ⟨p0, c0, rfl, -⟩ := hv0.cells
  obtain ⟨p1, c1, rfl, -⟩ := hv1.cells
  obtain ⟨i0, hi0, hz0, hz1, hz2⟩ := info_parts u8_info
  clear hv0 hv1 hb0 hb1
  go_enter Try.func6, Try.ntmps6
  by_cases hl : 500 < l.length
  · have d0 : decide (500 < l.length) = true := by simpa using hl
    have d0' : decide (((l.length : Nat) : Int) > 500) = true := by simp only [decide_eq_true_eq]; omega
    go_wp2
    go_ret
    exact ⟨rfl, Below.refl _ _⟩
  have d0 : decide (500 < l.length) = false := by simpa using hl
  have d0' : decide (((l.length : Nat) : Int) > 500) = false := by simp only [decide_eq_false_iff_not]; omega
  by_cases hm : 2000 < m.length
  · have d1 : decide (2000 < m.length) = true := by simpa using hm
    have d1' : decide (((m.length : Nat) : Int) > 2000) = true := by simp only [decide_eq_true_eq]; omega
    go_wp2
    go_ret
    exact ⟨rfl, Below.refl _ _⟩
  have d1 : decide (2000 < m.length) = false := by simpa using hm
  have d1' : decide (((m.length : Nat) : Int) > 2000) = false := by simp only [decide_eq_false_iff_not]; omega
  go_wp2_with fail
  refine Calls.mono (infl_any _ l 5000 w Hv0.out Hb0.out (by omega)) ?_
  rintro e w1 ⟨x, n, er, ov, hi, rfl, ho, hb⟩
  have Hx := Lib.hid (Rw8.own ho rfl)
  obtain ⟨px, cx, rfl⟩ := owns_slice ho
  have Hi := Lib.hid hi
  have Hw1 := Lib.hid hb
  clear hi ho hb
  by_cases he : er = 0
  case neg =>
    have e0 : (er != 0) = true := by simpa using he
    go_wp2_with fail
    refine Calls.mono (ireads_law w1) ?_
    rintro e w2 ⟨rfl, hb⟩
    have Hb := Lib.hid (Below.thn Hw1.out hb)
    clear hb
    go_wp2
    go_ret
    exact ⟨rfl, Hb.out⟩
  subst he
  have Hah := Lib.hid (ahead Hb0.out Hb1.out (by omega) Hi.out)
  have hn : n ≤ l.length := by
    obtain ⟨lim, a, -, -, -, rfl, h5, -⟩ := Hi.out.ok
    unfold alN; omega
  have hxl : x.length ≤ 5000 := by
    obtain ⟨lim, a, hle, -, -, -, -, -, hf⟩ := Hi.out.ok
    omega
  obtain ⟨k, hk⟩ : ∃ k, m.length = k := ⟨_, rfl⟩
  rw [hk] at d1 d1' hm ⊢
  obtain ⟨x1, h1⟩ : ∃ x1, k % 256 = x1 := ⟨_, rfl⟩
  obtain ⟨x2, h2⟩ : ∃ x2, k / 256 = x2 := ⟨_, rfl⟩
  obtain ⟨x3, h3⟩ : ∃ x3, 255 - x1 = x3 := ⟨_, rfl⟩
  obtain ⟨x4, h4⟩ : ∃ x4, 255 - x2 = x4 := ⟨_, rfl⟩
  have hh : hdr k = [0, x1, x2, x3, x4] := by unfold hdr; rw [h1, h2, h3, h4]
  have Hh := Lib.hid hh
  have q1 : IntKind.u8.wrap (k : Int) = (x1 : Int) := by rw [IntKind.wrap_u8]; omega
  have q2 : (k : Int) / 256 = (x2 : Int) := by omega
  have q3 : IntKind.u8.wrap (x2 : Int) = (x2 : Int) := IntWalk.u8_in _ (by omega)
  have q4 : (k : Int).tmod 256 = (x1 : Int) := by rw [← h1]; rfl
  have q4' : (k : Int) % 256 = (x1 : Int) := by omega
  have q5 : IntKind.i64.wrap (255 - (x1 : Int)) = (x3 : Int) := by rw [IntWalk.i64_in _ (by omega)]; omega
  have q5' : wrap64 (255 - (x1 : Int)) = (x3 : Int) := by rw [wrap64_in _ (by omega)]; omega
  have q6 : IntKind.u8.wrap (x3 : Int) = (x3 : Int) := IntWalk.u8_in _ (by omega)
  have q7 : IntKind.i64.wrap (255 - (x2 : Int)) = (x4 : Int) := by rw [IntWalk.i64_in _ (by omega)]; omega
  have q7' : wrap64 (255 - (x2 : Int)) = (x4 : Int) := by rw [wrap64_in _ (by omega)]; omega
  have q8 : IntKind.u8.wrap (x4 : Int) = (x4 : Int) := IntWalk.u8_in _ (by omega)
  have Hk := Lib.hid hk
  have hk2 : k ≤ 2000 := by omega
  clear hh h1 h2 h3 h4 hk hm
  have hlit : (w1.alloc (.cells #[.int .u8 0, .int .u8 (x1 : Int), .int .u8 (x2 : Int), .int .u8 (x3 : Int), .int .u8 (x4 : Int)] 5)).ownsRow w1.heap.size 5 1 (.slice (some ⟨w1.heap.size, 0, none⟩) 5 5) 5 ([0, x1, x2, x3, x4].map u8v) :=
    World.ownsRow_lit w1 #[.int .u8 0, .int .u8 (x1 : Int), .int .u8 (x2 : Int), .int .u8 (x3 : Int), .int .u8 (x4 : Int)] 5 (Nat.le_refl _) (by simp [maxLen]) rfl
  have hb2 := Below.al1 w1 (.cells #[.int .u8 0, .int .u8 (x1 : Int), .int .u8 (x2 : Int), .int .u8 (x3 : Int), .int .u8 (x4 : Int)] 5)
  have Hlit := Lib.hid hlit
  have Hb2 := Lib.hid (Below.thn Hw1.out hb2)
  have Hs2 := Lib.hid hb2
  obtain ⟨p1', c1', e', -, -, hsrc⟩ := (Hv1.out.below Hb2.out).src enc8_len (by decide)
  cases e'
  rw [flat8, Hk.out] at hsrc
  have Hsrc := Lib.hid hsrc
  have hs2 := hb2.size
  clear hlit hb2 hsrc
  go_wp2_with (at_builtin; refine wpList_append_mine _ rfl (.tmp 45) (.tmp 46) 23 rfl w1.heap.size 5 i0 _ 1 1 Try.underlying23 hi0 hz0 hz1 hz2 rfl (by decide) _ 5 _ rfl Hlit.out p1 k c1 (m.map u8v) rfl (by simpa using Hk.out) Hsrc.out (one8 _) ?n3 ?n4 hs2 ?_)
  case n3 => simp only [maxLen]; omega
  case n4 => omega
  intro v3 w3 ho3 hg3 _
  have ht3 := Turns.of_grown (T := fun b => b = w1.heap.size) hg3 (fun _ e => by injection e with e; exact e.symm)
  have Ho3 := Lib.hid ho3
  have Hb3 := Lib.hid (Hb2.out.trans (ht3.below Hb2.out.size (fun i hi => by rw [hi]; exact Hw1.out.size)))
  have Hb13 := Lib.hid (Hs2.out.trans (ht3.below hs2 (fun i hi => by rw [hi]; exact Nat.le_refl _)))
  obtain ⟨p3, c3, rfl⟩ := owns_slice ho3
  have hs3 : w1.heap.size ≤ w3.heap.size := Hb13.out.size
  obtain ⟨p0', c0', e', -, -, hsrc⟩ := (Hv0.out.below Hb3.out).src enc8_len (by decide)
  cases e'
  rw [flat8] at hsrc
  have Hsrc0 := Lib.hid hsrc
  clear ho3 hg3 ht3 hsrc Hlit Hsrc hs2
  go_wp2_with (at_builtin; refine wpList_append_mine w3 rfl (.tmp 49) (.tmp 50) 23 rfl w1.heap.size 5 i0 _ 1 1 Try.underlying23 hi0 hz0 hz1 hz2 rfl (by decide) _ (5 + k) _ rfl Ho3.out p0 l.length c0 (l.map u8v) rfl (by simp) Hsrc0.out (one8 _) ?n3 ?n4 hs3 ?_)
  case n3 => simp only [maxLen]; omega
  case n4 => omega
  intro v4 w4 ho4 hg4 _
  have ht4 := Turns.of_grown (T := fun b => (Value.slice p3 (5 + k) c3).ownBlock = some b) hg4 (fun _ e => e)
  have hL : [0, x1, x2, x3, x4] ++ m ++ l = (hdr m.length ++ m) ++ l := by rw [Hk.out, Hh.out]
  have hR4 : Rw8 w4 v4 ((hdr m.length ++ m) ++ l) := by
    have hlen : ((hdr m.length ++ m) ++ l).length = 5 + k + l.length := by rw [← hL]; simp; have := Hk.out; omega
    refine Rw8.own (base := w1.heap.size) (n := 5 + k + l.length) ?_ hlen.symm
    rw [← hL, List.map_append, List.map_append]
    exact ho4
  have HR4 := Lib.hid hR4
  have Hb4 := Lib.hid (Hb3.out.trans (ht4.below Hb3.out.size (fun i hi => Nat.le_trans Hw1.out.size (Ho3.out.lt i hi).1)))
  have Hb14 := Lib.hid (Hb13.out.trans (ht4.below hs3 (fun i hi => (Ho3.out.lt i hi).1)))
  obtain ⟨p4, c4, rfl⟩ := owns_slice ho4
  have hby : ∀ b ∈ (hdr m.length ++ m) ++ l, b < 256 := by
    intro b hb
    rcases List.mem_append.1 hb with hb | hb
    · rcases List.mem_append.1 hb with hb | hb
      · rw [Hk.out, Hh.out] at hb
        simp only [List.mem_cons, List.not_mem_nil, or_false] at hb
        have r1 : x1 < 256 := by have := q1; rw [IntKind.wrap_u8] at this; omega
        have r2 : x2 < 256 := by omega
        have r3 : x3 < 256 := by have := q6; rw [IntKind.wrap_u8] at this; omega
        have r4 : x4 < 256 := by have := q8; rw [IntKind.wrap_u8] at this; omega
        omega
      · exact Hb1.out b hb
    · exact Hb0.out b hb
  have Hby := Lib.hid hby
  have hll : ((hdr m.length ++ m) ++ l).length ≤ 1073741824 := by rw [← hL]; simp; have := Hk.out; omega
  have Hll := Lib.hid hll
  clear hll
  clear ho4 hg4 ht4 hL hR4 hby Ho3 Hsrc0 Hb13 Hb3 q1 q2 q3 q4 q4' q5 q5' q6 q7 q7' q8
  go_wp2_with fail
  refine Calls.mono (infl_any _ ((hdr m.length ++ m) ++ l) 7000 w4 HR4.out Hby.out Hll.out) ?_
  rintro e w5 ⟨y, n', er', ov', hi', rfl, ho5, hb5⟩
  obtain ⟨rfl, rfl, rfl⟩ := hi'.det Hah.out
  have Hb5 := Lib.hid (Below.thn Hb4.out hb5)
  have hy := strI_row (Rw8.own ho5 rfl).row
  have hm := strI_row (Hv1.out.below Hb5.out).row
  have hx := strI_row (Hx.out.below (Below.thn Hb14.out hb5)).row
  rw [strI_app] at hy
  rw [Hk.out] at hm ⊢
  obtain ⟨p5, c5, rfl⟩ := owns_slice ho5
  obtain ⟨A, hA⟩ : ∃ A, strI m = A := ⟨_, rfl⟩
  obtain ⟨X, hX⟩ : ∃ X, strI x = X := ⟨_, rfl⟩
  obtain ⟨Z, hZ⟩ : ∃ Z, A ++ X = Z := ⟨_, rfl⟩
  rw [hA, hX, hZ] at hy
  rw [hA] at hm
  rw [hX] at hx
  obtain ⟨N1, hN1⟩ : ∃ N1, n + k = N1 := ⟨_, rfl⟩
  obtain ⟨N2, hN2⟩ : ∃ N2, N1 + 5 = N2 := ⟨_, rfl⟩
  have hN1b : N1 ≤ 1000000 := by omega
  have hN2b : N2 ≤ 1000000 := by omega
  obtain ⟨r1, r1'⟩ := add_in hN1 hN1b
  obtain ⟨r2, r2'⟩ := add_in5 hN2 hN2b
  have hsz : ¬ 9223372036854775807 < A.size + X.size := by rw [← hA, ← hX, strI_size, strI_size, Hk.out]; omega
  obtain ⟨M, hM⟩ : ∃ M, (m ++ x).length = M := ⟨_, rfl⟩
  rw [hM] at hy ⊢
  rw [hN1, hN2]
  have HZ := Lib.hid hZ
  clear hA hX hN1 hN2 hM hi' ho5 hb5 Hi Hah Hby HR4 Hll
  go_wp2_with fail
  refine Calls.mono (ireads_law w5) ?_
  rintro e w6 ⟨rfl, hb6⟩
  have Hb6 := Lib.hid (Below.thn Hb5.out hb6)
  clear hb6
  go_wp2
  go_ret
  exact ⟨rfl, Hb6.out⟩

end Go.Proofs.Ytajidlihepjegaa
