/- The walk of the statement InflateEnds. -/
import Derived.Test.YtajidlihepjegaaE844
import Derived.Test.YtajidlihepjegaaE846
namespace Go.Proofs.Ytajidlihepjegaa
open Go.RowKit Go.Maps

theorem rw_take {w : World} {g : Addr} {c n : Nat} {l : List Nat} (h : Rw8 w (.slice (some g) l.length c) l) (hn : n ≤ l.length) : Rw8 w (.slice (some g) n c) (l.take n) := by
  obtain ⟨⟨p, c', e, h1, h2, h3⟩, -⟩ := h
  cases e
  have hl : (l.take n).length = n := by rw [List.length_take]; omega
  refine ⟨⟨some g, c, by rw [hl], by rw [hl]; omega, h2, .inr ?_⟩, fun c h => by cases h⟩
  rcases h3 with ⟨h3, -⟩ | ⟨b, off, e, h4, h5⟩
  · cases h3
  · refine ⟨b, off, e, h4, fun i x hx j u hu => h5 i x ?_ j u hu⟩
    rw [List.getElem?_take] at hx
    split at hx
    · exact hx
    · cases hx
theorem slice_headP (g : Addr) (n c m : Nat) (h : m ≤ c) (w : World) : (Instr.slice 23 (.slice (some g) n c) none (some (.int .i64 (m : Int))) none).run Try.prog w = .ok (.slice (some g) m c) w := by
  obtain ⟨i, hi, hz, hs, hb⟩ := info_parts u8_info
  rw [run_slice_h w 23 (some g) n c (by kernel_rfl) .i64 (m : Int) (by omega) (by omega), Int.toNat_natCast]
  simp [go_sem]

set_option maxRecDepth 20000 in
set_option maxHeartbeats 4000000 in
theorem iends_any (v0 : Value) (l : List Nat) (limit : Int) (v2 : Value) (m : List Nat) (w : World) (hv0 : Rw8 w v0 l) (hb0 : ∀ b ∈ l, b < 256) (hlim : -9223372036854775808 ≤ limit ∧ limit ≤ 9223372036854775807) (hv2 : Rw8 w v2 m) (hb2 : ∀ b ∈ m, b < 256) :
    Makes Try.prog 4 #[v0, .int .i64 limit, v2] w (.bool true) := by
  unfold Makes
  have Hv0 := Lib.hid hv0
  have Hv2 := Lib.hid hv2
  have Hb0 := Lib.hid hb0
  have Hb2 := Lib.hid hb2
  obtain ⟨p0, c0, rfl, hc0, hm0, -⟩ := hv0.cells
  obtain ⟨p2, c2, rfl, -⟩ := hv2.cells
  obtain ⟨i0, hi0, hz0, hz1, hz2⟩ := info_parts u8_info
  clear hv0 hv2 hb0 hb2
  go_enter Try.func4, Try.ntmps4
  by_cases hl : 2000 < l.length
  · have d0 : decide (2000 < l.length) = true := by simpa using hl
    have d0' : decide (((l.length : Nat) : Int) > 2000) = true := by simp only [decide_eq_true_eq]; omega
    go_wp2
    go_ret
    exact ⟨rfl, Below.refl _ _⟩
  have d0 : decide (2000 < l.length) = false := by simpa using hl
  have d0' : decide (((l.length : Nat) : Int) > 2000) = false := by simp only [decide_eq_false_iff_not]; omega
  by_cases hm : 200 < m.length
  · have d1 : decide (200 < m.length) = true := by simpa using hm
    have d1' : decide (((m.length : Nat) : Int) > 200) = true := by simp only [decide_eq_true_eq]; omega
    go_wp2
    go_ret
    exact ⟨rfl, Below.refl _ _⟩
  have d1 : decide (200 < m.length) = false := by simpa using hm
  have d1' : decide (((m.length : Nat) : Int) > 200) = false := by simp only [decide_eq_false_iff_not]; omega
  by_cases hneg : limit < 0
  · have d2 : decide (limit < 0) = true := by simpa using hneg
    go_wp2
    go_ret
    exact ⟨rfl, Below.refl _ _⟩
  have d2 : decide (limit < 0) = false := by simpa using hneg
  by_cases hbig : 5000 < limit
  · have d3 : decide (limit > 5000) = true := by simpa using hbig
    go_wp2
    go_ret
    exact ⟨rfl, Below.refl _ _⟩
  have d3 : decide (limit > 5000) = false := by simpa using hbig
  have h05 : 0 ≤ limit ∧ limit ≤ 5000 := by omega
  clear hneg hbig hlim
  go_wp2_with fail
  refine Calls.mono (infl_any _ l limit w Hv0.out Hb0.out (by omega)) ?_
  rintro e w1 ⟨x, n, er, ov, hi, rfl, ho, hb⟩
  have Hx := Lib.hid (Rw8.own ho rfl)
  obtain ⟨px, cx, rfl⟩ := owns_slice ho
  have Hi := Lib.hid hi
  have Hw1 := Lib.hid hb
  have q1 : IntKind.i64.wrap (limit + 1000) = limit + 1000 := IntWalk.i64_in _ (by omega)
  have q1' : wrap64 (limit + 1000) = limit + 1000 := wrap64_in _ (by omega)
  clear hi ho hb
  go_wp2_with fail
  refine Calls.mono (infl_any _ l (limit + 1000) w1 (Hv0.out.below Hw1.out) Hb0.out (by omega)) ?_
  rintro e w2 ⟨y, n2, er2, ov2, hi, rfl, ho, hb⟩
  have Hy := Lib.hid (Rw8.own ho rfl)
  obtain ⟨py, cy, rfl⟩ := owns_slice ho
  have Hi2 := Lib.hid hi
  have Hw12 := Lib.hid hb
  have Hw2 := Lib.hid (Below.thn Hw1.out hb)
  clear hi ho hb
  by_cases he : er = 0
  case neg =>
    obtain ⟨⟨rfl, rfl⟩, hor⟩ := ends_no Hi.out he h05.1 h05.2 Hi2.out
    have e0 : (er != 0) = true := by simpa using he
    simp only [List.length_nil] at *
    by_cases hee : er = er2
    · subst hee
      have e1 : (er == er) = true := by simp
      go_wp2_with fail
      refine Calls.mono (ireads_law w2) ?_
      rintro e w3 ⟨rfl, hb⟩
      have Hb := Lib.hid (Below.thn Hw2.out hb)
      clear hb
      go_wp2
      go_ret
      exact ⟨rfl, Hb.out⟩
    · have e1 : (er == er2) = false := by simpa using hee
      obtain rfl : er = 81 := by
        rcases hor with h | h
        · exact absurd h hee
        · exact h
      go_wp2_with fail
      refine Calls.mono (ireads_law w2) ?_
      rintro e w3 ⟨rfl, hb⟩
      have Hb := Lib.hid (Below.thn Hw2.out hb)
      clear hb
      go_wp2
      go_ret
      exact ⟨rfl, Hb.out⟩
  subst he
  obtain ⟨⟨hn1, hn2, hxl⟩, hI2, hI3, hI4⟩ := ends_ok Hi.out h05.2
  obtain ⟨rfl, rfl, rfl⟩ := Hi2.out.det hI2
  have HI3 := Lib.hid (hI3 m)
  have HI4 := Lib.hid hI4
  have hp0 : ∃ g, p0 = some g := by
    obtain ⟨p', c', e', -, -, hcell⟩ := Hv0.out.cells
    cases e'
    obtain ⟨g, off, e, -⟩ := hcell 0 (by omega)
    exact ⟨_, e⟩
  obtain ⟨g0, rfl⟩ := hp0
  clear hI2 hI3 hI4 Hi2
  have e2 : decide ((n2 : Int) < 1) = false := by simp only [decide_eq_false_iff_not]; omega
  have e2' : decide (n2 < 1) = false := by simp only [decide_eq_false_iff_not]; omega
  have e3 : decide ((n2 : Int) > ((l.length : Nat) : Int)) = false := by simp only [decide_eq_false_iff_not]; omega
  have e3' : decide (l.length < n2) = false := by simp only [decide_eq_false_iff_not]; omega
  have hs1 := slice_headP g0 l.length c0 n2 (by omega)
  have htl : (l.take n2).length = n2 := by rw [List.length_take]; omega
  have hlit : (w2.alloc (.cells #[] 5)).ownsRow w2.heap.size 5 1 (.slice (some ⟨w2.heap.size, 0, none⟩) 0 0) 0 [] := by
    simpa using World.ownsRow_lit (base := w2.heap.size) (size := 1) (e := 5) w2 #[] 0 (Nat.le_refl _) (Nat.zero_le _) rfl
  have hb3 := Below.al1 w2 (.cells #[] 5)
  have Hlit := Lib.hid hlit
  have Hb3 := Lib.hid (Below.thn Hw2.out hb3)
  have hs3 := hb3.size
  obtain ⟨p', c', e', -, -, hsrc⟩ := (rw_take (Hv0.out.below Hb3.out) hn2).src enc8_len (by decide)
  injection e' with e1 e2 e3
  subst e1
  subst e3
  clear e2
  rw [flat8, htl] at hsrc
  have Hsrc := Lib.hid hsrc
  have Htl := Lib.hid htl
  clear hlit hsrc hb3 htl
  go_wp2_with (at_builtin; refine wpList_append_mine _ rfl (.tmp 78) (.tmp 81) 23 rfl w2.heap.size 5 i0 _ 1 1 Try.underlying23 hi0 hz0 hz1 hz2 rfl (by decide) _ 0 _ rfl Hlit.out (some g0) n2 c0 ((l.take n2).map u8v) rfl ?n2 Hsrc.out (one8 _) ?n3 ?n4 hs3 ?_)
  case n2 => rw [List.length_map, Htl.out, Nat.mul_one]
  case n3 => simp only [maxLen]; omega
  case n4 => omega
  intro v3 w3 ho3 hg3 _
  rw [← List.map_take] at ho3
  have ht3 := Turns.of_grown (T := fun b => b = w2.heap.size) hg3 (fun _ e => by injection e with e; exact e.symm)
  have Ho3 := Lib.hid ho3
  have Hb3' := Lib.hid (Hb3.out.trans (ht3.below Hb3.out.size (fun i hi => by rw [hi]; exact Hw2.out.size)))
  have Hb23 := Lib.hid ((Below.al1 w2 (.cells #[] 5)).trans (ht3.below hs3 (fun i hi => by rw [hi]; exact Nat.le_refl _)))
  obtain ⟨p3, c3, rfl⟩ := owns_slice ho3
  have hs33 : w2.heap.size ≤ w3.heap.size := Hb23.out.size
  obtain ⟨p2', c2', e', -, -, hsrc⟩ := (Hv2.out.below Hb3'.out).src enc8_len (by decide)
  cases e'
  rw [flat8] at hsrc
  have Hsrc2 := Lib.hid hsrc
  clear ho3 hg3 ht3 hsrc Hlit Hsrc hs3
  go_wp2_with (at_builtin; refine wpList_append_mine w3 rfl (.tmp 82) (.tmp 83) 23 rfl w2.heap.size 5 i0 _ 1 1 Try.underlying23 hi0 hz0 hz1 hz2 rfl (by decide) _ n2 _ rfl Ho3.out p2 m.length c2 (m.map u8v) rfl (by simp) Hsrc2.out (one8 _) ?n3 ?n4 hs33 ?_)
  case n3 => simp only [maxLen]; omega
  case n4 => omega
  intro v4 w4 ho4 hg4 _
  have ht4 := Turns.of_grown (T := fun b => (Value.slice p3 n2 c3).ownBlock = some b) hg4 (fun _ e => e)
  have hl4 : (l.take n2 ++ m).length = n2 + m.length := by rw [List.length_append, Htl.out]
  have HR4 : Hid (Rw8 w4 v4 (l.take n2 ++ m)) := Lib.hid (Rw8.own (base := w2.heap.size) (n := n2 + m.length) (by rw [List.map_append]; first | exact ho4 | (rw [List.map_take]; exact ho4)) hl4.symm)
  have Hb4 := Lib.hid (Hb3'.out.trans (ht4.below Hb3'.out.size (fun i hi => Nat.le_trans Hw2.out.size (Ho3.out.lt i hi).1)))
  have Hb24 := Lib.hid (Hb23.out.trans (ht4.below hs33 (fun i hi => (Ho3.out.lt i hi).1)))
  obtain ⟨p4, c4, rfl⟩ := owns_slice ho4
  have Hby : Hid (∀ b ∈ l.take n2 ++ m, b < 256) := Lib.hid (fun b hb => by
    rcases List.mem_append.1 hb with hb | hb
    · exact Hb0.out b (List.mem_of_mem_take hb)
    · exact Hb2.out b hb)
  have Hl4 := Lib.hid (show (l.take n2 ++ m).length ≤ 1073741824 by rw [hl4]; omega)
  clear ho4 hg4 ht4 hl4 Ho3 Hsrc2 Hb23 Hb3' Hb3
  go_wp2_with fail
  refine Calls.mono (infl_any _ (l.take n2 ++ m) limit w4 HR4.out Hby.out Hl4.out) ?_
  rintro e w5 ⟨z, n3, er3, ov3, hi, rfl, ho, hb⟩
  obtain ⟨ez, en, ee⟩ := hi.det HI3.out
  rw [en, ee]
  rw [ez] at ho
  have Hz := Lib.hid (Rw8.own ho rfl)
  obtain ⟨pz, cz, rfl⟩ := owns_slice ho
  have Hb5 := Lib.hid (Below.thn Hb4.out hb)
  have Hb25 := Lib.hid (Below.thn Hb24.out hb)
  obtain ⟨K, hK⟩ : ∃ K, n2 = K + 1 := ⟨n2 - 1, by omega⟩
  have hK1 : IntKind.i64.wrap ((n2 : Int) - 1) = (K : Int) := by rw [IntWalk.i64_in _ (by omega)]; omega
  have hK1' : wrap64 ((n2 : Int) - 1) = (K : Int) := by rw [wrap64_in _ (by omega)]; omega
  have hKl : K ≤ l.length := by omega
  have HK4 : Hid (Infl (l.take K) limit [] 0 50) := Lib.hid (by have := HI4.out; rw [hK, Nat.add_sub_cancel] at this; exact this)
  have hs2 := slice_headP g0 l.length c0 K (by omega)
  have HRK := Lib.hid (rw_take (Hv0.out.below Hb5.out) hKl)
  have HbK : Hid (∀ b ∈ l.take K, b < 256) := Lib.hid (fun b hb => Hb0.out b (List.mem_of_mem_take hb))
  have HlK := Lib.hid (show (l.take K).length ≤ 1073741824 by rw [List.length_take]; omega)
  clear hi ho hb ez en ee HI4 HR4 Hby Hl4 Hb24 hK
  go_wp2_with fail
  refine Calls.mono (infl_any _ (l.take K) limit w5 HRK.out HbK.out HlK.out) ?_
  rintro e w6 ⟨u, n4, er4, ov4, hi, rfl, ho, hb⟩
  obtain ⟨eu, en, ee⟩ := hi.det HK4.out
  rw [en, ee]
  obtain ⟨pu, cu, rfl⟩ := owns_slice ho
  have Hb6 := Lib.hid (Below.thn Hb5.out hb)
  have hx := strI_row (Hx.out.below (Below.thn Hw12.out (Below.thn Hb25.out hb))).row
  have hy := strI_row (Hy.out.below (Below.thn Hb25.out hb)).row
  have hz := strI_row (Hz.out.below hb).row
  obtain ⟨X, hX⟩ : ∃ X, strI y = X := ⟨_, rfl⟩
  rw [hX] at hx hy hz
  obtain ⟨M, hM⟩ : ∃ M, y.length = M := ⟨_, rfl⟩
  rw [hM] at hx hy hz hxl ⊢
  obtain ⟨U, hU⟩ : ∃ U, u.length = U := ⟨_, rfl⟩
  rw [hU]
  have f1 : decide ((M : Int) ≤ limit) = true := by simpa using hxl
  have f2 : decide ((n2 : Int) > 0) = true := by simp only [decide_eq_true_eq]; omega
  have f2' : decide (0 < n2) = true := by simp only [decide_eq_true_eq]; omega
  have f3 : decide ((n2 : Int) ≤ ((l.length : Nat) : Int)) = true := by simp only [decide_eq_true_eq]; omega
  have f3' : decide (n2 ≤ l.length) = true := by simp only [decide_eq_true_eq]; omega
  clear hi ho hb eu en ee hX hM hU
  go_wp2_with fail
  refine Calls.mono (ireads_law w6) ?_
  rintro e w7 ⟨rfl, hb⟩
  have Hb7 := Lib.hid (Below.thn Hb6.out hb)
  clear hb
  go_wp2
  go_ret
  exact ⟨rfl, Hb7.out⟩

end Go.Proofs.Ytajidlihepjegaa
