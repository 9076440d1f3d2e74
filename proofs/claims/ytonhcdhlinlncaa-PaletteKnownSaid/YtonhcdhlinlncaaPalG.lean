/- palette: Encode and Decode. -/
import Derived.Test.YtonhcdhlinlncaaPalF
import Derived.Test.YtonhcdhlinlncaaRleS
namespace Go.Proofs.Ytonhcdhlinlncaa
open Go.RowKit

attribute [local go_sem] Oper.semAt_some

set_option maxRecDepth 20000 in
set_option maxHeartbeats 4000000 in
theorem pencode_any (p : Option Addr) (c : Nat) (l : List Nat) (w : World) (hp : RowAt encP 1 w p l) (h32 : ∀ x ∈ l, x < 4294967296) (hl : l.length ≤ 1048576) (hlc : l.length ≤ c) :
    Calls Try.prog 8 #[.slice p l.length c] w fun e w' => ∃ v', e = .returned (.tuple #[v', .bool (plE l).2]) ∧ w'.ownsRow w.heap.size 5 1 v' (plE l).1.length ((plE l).1.map u8v) ∧ Below w.heap.size w w' := by
  have Hp := Lib.hid hp
  have H32 := Lib.hid h32
  have Hcount := Lib.hid (pcount_any p c l w hp h32 hl)
  have Hno := Lib.hid (fun h => plE_no (l := l) h)
  have Hyes := Lib.hid (fun h => plE_yes (l := l) h)
  have Hlen := Lib.hid (plE_len hl)
  have Hnil := Lib.hid (plCol_nil (l := l))
  have Hin : Hid (∀ x ∈ l, rlw x ∈ plCol l) := Lib.hid (fun x hx => (plC_mem l [] _).2 (.inr ⟨x, hx, rfl⟩))
  have Hlt := Lib.hid (plCol_lt l)
  have Hl := Lib.hid (And.intro hl hlc)
  obtain ⟨E, hE⟩ : ∃ E, plE l = E := ⟨_, rfl⟩
  rw [hE] at Hno Hyes Hlen ⊢
  obtain ⟨n, hn⟩ : ∃ n, l.length = n := ⟨_, rfl⟩
  have Hn := Lib.hid hn
  rw [hn] at Hcount ⊢
  obtain ⟨i0, hi0, hz0, hz1, hz2⟩ := info_parts u8_info
  clear hp h32 hl hlc hE hn
  go_enter Try.func8, Try.ntmps8
  go_wp2_with fail
  refine Calls.mono Hcount.out ?_
  rintro _ w1 ⟨cs, v1, M, rfl, ho1, hm1, hM1, hb1, hcase⟩
  obtain ⟨v1p, v1c, rfl⟩ := owns_slice ho1
  have Ho1 := Lib.hid (Row.ownP ho1)
  have Hm1 := Lib.hid hm1
  have Hb1 := Lib.hid hb1
  obtain ⟨k, hk⟩ : ∃ k, cs.length = k := ⟨_, rfl⟩
  have Hk := Lib.hid hk
  rw [hk] at hcase ⊢
  have Hcase := Lib.hid hcase
  clear ho1 hm1 hM1 hb1 hcase hk Hcount
  by_cases h1 : k < 1
  · have d1 : decide ((k : Int) < 1) = true := by simp; omega
    have d1' : decide (k < 1) = true := by simp; omega
    obtain rfl : E = ([], false) := Hno.out (.inl (by
      rcases Hcase.out with ⟨h, -⟩ | ⟨h, -⟩
      · rw [← h, Hk.out]; exact h1
      · omega))
    go_wp2
    go_ret2
    exact ⟨_, rfl, World.ownsRow_nil _ _ _ _, Hb1.out⟩
  have d1 : decide ((k : Int) < 1) = false := by simp; omega
  by_cases h2 : 16 < k
  · have d2 : decide ((k : Int) > 16) = true := by simp; omega
    obtain rfl : E = ([], false) := Hno.out (.inr (by
      rcases Hcase.out with ⟨h, h'⟩ | ⟨-, -, h⟩
      · omega
      · exact h))
    go_wp2
    go_ret2
    exact ⟨_, rfl, World.ownsRow_nil _ _ _ _, Hb1.out⟩
  have d2 : decide ((k : Int) > 16) = false := by simp; omega
  have hcs : cs = plCol l := by
    rcases Hcase.out with ⟨h, -⟩ | ⟨h, -⟩
    · exact h
    · omega
  subst hcs
  obtain rfl : E = (plH (plCol l) ++ plT (plCol l) l, true) := Hyes.out (by rw [Hk.out]; omega)
  have Hn0 : Hid (0 < l.length) := Lib.hid (by
    rcases Nat.eq_zero_or_pos l.length with h | h
    · have := Hnil.out.2 (List.length_eq_zero_iff.1 h)
      rw [Hk.out] at this; omega
    · exact h)
  obtain ⟨L1, hL1⟩ : ∃ L, (plH (plCol l)).length = L := ⟨_, rfl⟩
  obtain ⟨L2, hL2⟩ : ∃ L, (plT (plCol l) l).length = L := ⟨_, rfl⟩
  have HL1 := Lib.hid hL1
  have HL2 := Lib.hid hL2
  have Htc := ptellColors_any v1p v1c (plCol l) w1 Ho1.out.at'.1 Hlt.out (by rw [Hk.out]; omega) (by rw [Hk.out]; omega)
  rw [Hk.out, hL1] at Htc
  have Htc := Lib.hid Htc
  clear hL1
  go_wp2_with fail
  refine Calls.mono Htc.out ?_
  rintro _ w2 ⟨v2, rfl, ho2, hb2⟩
  obtain ⟨v2p, v2c, rfl⟩ := owns_slice ho2
  have Ho2 := Lib.hid ho2
  have Hb2 := Lib.hid hb2
  have Hbw2 := Lib.hid (Below.thn Hb1.out hb2)
  have Htn := ptellNumbers_any p c M l (plCol l) w2 (Hp.out.below Hbw2.out) H32.out Hl.out.1 Hl.out.2 (Hm1.out.below hb2) Hin.out (by rw [Hk.out]; omega) Hn0.out
  rw [Hn.out, hL2] at Htn
  have Htn := Lib.hid Htn
  clear ho2 hb2 Htc hL2
  go_wp2_with fail
  refine Calls.mono Htn.out ?_
  rintro _ w3 ⟨v3, rfl, ho3, hb3⟩
  obtain ⟨v3p, v3c, hv3⟩ := owns_slice ho3
  obtain ⟨_, _, e3, -, -, hsrc⟩ := RwG.src (enc := enc8) (k := 1) enc8_len (by decide) (Rw8.own ho3 HL2.out.symm)
  rw [hv3] at e3
  injection e3 with e3a e3b e3c
  subst e3a
  subst e3c
  subst hv3
  clear e3b
  rw [flat8] at hsrc
  have Hsrc := Lib.hid hsrc
  have Ho23 := Lib.hid ((Turns.of_below' (T := fun _ => False) hb3).owns Ho2.out (fun _ _ h => h))
  have Hb3 := Lib.hid hb3
  have Hlen' : Hid ((plH (plCol l)).length + (plT (plCol l) l).length ≤ 1048576) := Lib.hid (by
    have := Hlen.out
    rw [List.length_append] at this
    exact this)
  rw [HL1.out, HL2.out] at Hlen'
  rw [HL2.out] at Hsrc
  have hsz : w1.heap.size ≤ w3.heap.size := Nat.le_trans Hb2.out.size hb3.size
  clear ho3 hb3 hsrc Htn Ho2 Hlen Hyes Hno
  go_wp2_with (at_builtin; refine wpList_append_mine w3 rfl (.tmp 20) (.tmp 23) 23 rfl w1.heap.size 5 i0 _ 1 1 Try.underlying23 hi0 hz0 hz1 hz2 rfl (by decide) (.slice v2p L1 v2c) L1 ((plH (plCol l)).map u8v) rfl Ho23.out v3p L2 v3c ((plT (plCol l) l).map u8v) rfl (by rw [List.length_map, HL2.out, Nat.mul_one]) Hsrc.out (one8 _) ?n3 ?n4 hsz ?_)
  case n3 => have := Hlen'.out; simp only [maxLen]; omega
  case n4 => have := Hlen'.out; omega
  intro v4 w4 ho4 hg4 _
  have Ho4 : Hid (w4.ownsRow w.heap.size 5 1 v4 (plH (plCol l) ++ plT (plCol l) l).length ((plH (plCol l) ++ plT (plCol l) l).map u8v)) := Lib.hid (by
    rw [List.length_append, List.map_append, HL1.out, HL2.out]
    exact owns_base ho4 Hb1.out.size)
  have hb4 : Below w1.heap.size w3 w4 := (Turns.of_grown (T := fun k => (Value.slice v2p L1 v2c).ownBlock = some k) hg4 (fun i e => e)).below hsz (fun i h => (Ho23.out.lt i h).1)
  have Hb4 : Hid (Below w.heap.size w w4) := Lib.hid (Below.thn Hb1.out ((Below.thn Hb2.out Hb3.out).trans hb4))
  clear ho4 hg4 hb4
  go_wp2
  go_ret2
  refine ⟨_, rfl, ?_, Hb4.out⟩
  have := Ho4.out
  rw [List.length_append, List.map_append] at this
  exact this

theorem plD_no {l : List Nat} {N : Int} (hN : ¬ (N < 1 ∨ 65536 < N)) (h : ¬ plQ l) : plD l N = ([], 131) := plD_head hN (Classical.not_not.1 h)
theorem plD_none {l : List Nat} {N : Nat} (hN : ¬ ((N : Int) < 1 ∨ 65536 < (N : Int))) (h : plQ l) (hP : plP (plK l) (l.drop (1 + 3 * (lq l 0 + 1))) N = none) : plD l N = ([], 131) := by
  rw [plD_of hN h, Int.toNat_natCast]
  have hP' : plP (plTri ((l.drop 1).take (3 * (l.getD 0 0 + 1)))) (l.drop (1 + 3 * (l.getD 0 0 + 1))) N = none := hP
  rw [hP']
theorem plD_some {l L : List Nat} {N : Nat} (hN : ¬ ((N : Int) < 1 ∨ 65536 < (N : Int))) (h : plQ l) (hP : plP (plK l) (l.drop (1 + 3 * (lq l 0 + 1))) N = some L) : plD l N = (L, 0) := by
  rw [plD_of hN h, Int.toNat_natCast]
  have hP' : plP (plTri ((l.drop 1).take (3 * (l.getD 0 0 + 1)))) (l.drop (1 + 3 * (l.getD 0 0 + 1))) N = some L := hP
  rw [hP']

set_option maxRecDepth 20000 in
set_option maxHeartbeats 4000000 in
theorem pdecode_any (p : Option Addr) (c : Nat) (l : List Nat) (N : Int) (w : World) (hp : RowAt enc8 1 w p l) (h8 : ∀ x ∈ l, x < 256) (hl : l.length ≤ 1048576) (hlc : l.length ≤ c) (hc63 : c ≤ maxLen) :
    Calls Try.prog 12 #[.slice p l.length c, .int .i64 N] w fun e w' => ∃ v', e = .returned (.tuple #[v', .int .i64 (plD l N).2]) ∧ w'.ownsRow w.heap.size 35 1 v' (plD l N).1.length ((plD l N).1.map pxv) ∧ Below w.heap.size w w' := by
  have Hread := Lib.hid (preadColors_any p c l w hp h8 hl hlc (by simp only [maxLen] at hc63; omega))
  have Harg := Lib.hid (fun h => plD_arg (b := l) (n := N) h)
  have H8 := Lib.hid h8
  have Hl := Lib.hid hl
  obtain ⟨E, hE⟩ : ∃ E, plD l N = E := ⟨_, rfl⟩
  have HE := Lib.hid hE
  rw [hE] at Harg ⊢
  obtain ⟨n, hn⟩ : ∃ n, l.length = n := ⟨_, rfl⟩
  have Hn := Lib.hid hn
  rw [hn] at Hread hlc ⊢
  clear hp h8 hl hE hn
  go_enter Try.func12, Try.ntmps12
  by_cases h1 : N < 1
  · have d1 : decide (N < 1) = true := by simpa using h1
    obtain rfl : E = ([], 1) := Harg.out (.inl h1)
    go_wp2
    go_ret2
    exact ⟨_, rfl, World.ownsRow_nil _ _ _ _, Below.refl _ _⟩
  have d1 : decide (N < 1) = false := by simp; omega
  by_cases h2 : 65536 < N
  · have d2 : decide (N > 65536) = true := by simp; omega
    obtain rfl : E = ([], 1) := Harg.out (.inr h2)
    go_wp2
    go_ret2
    exact ⟨_, rfl, World.ownsRow_nil _ _ _ _, Below.refl _ _⟩
  have d2 : decide (N > 65536) = false := by simp; omega
  obtain ⟨m, rfl⟩ : ∃ m : Nat, N = (m : Int) := ⟨N.toNat, by omega⟩
  have hm : m ≤ 65536 := by omega
  have HN : Hid (¬ ((m : Int) < 1 ∨ 65536 < (m : Int))) := Lib.hid (by omega)
  go_wp2_with fail
  refine Calls.mono Hread.out ?_
  rintro _ w1 ⟨hb1, hr⟩
  have Hb1 := Lib.hid hb1
  clear h1 h2 d1 d2 hb1 Hread
  rcases hr with ⟨hq, v1, v2, rfl⟩ | ⟨hq, v1, p', c', rfl, ho1, hr1, hc1, hc2, hcn⟩
  · obtain rfl : E = ([], 131) := by rw [← HE.out]; exact plD_no HN.out hq
    go_wp2
    go_ret2
    exact ⟨_, rfl, World.ownsRow_nil _ _ _ _, Hb1.out⟩
  obtain ⟨R, hR⟩ : ∃ R, l.drop (1 + 3 * (lq l 0 + 1)) = R := ⟨_, rfl⟩
  have hRl : R.length = n - (1 + 3 * (lq l 0 + 1)) := by rw [← hR, List.length_drop, Hn.out]
  have hR8 : ∀ x ∈ R, x < 256 := fun x hx => H8.out x (by rw [← hR] at hx; exact List.mem_of_mem_drop hx)
  have hq2 : ¬ (l.length = 0 ∨ 16 ≤ lq l 0 ∨ l.length < 1 + 3 * (lq l 0 + 1)) := hq
  have hKl : 0 < (plK l).length := by rw [plK_len (by omega)]; omega
  obtain ⟨q1, cq, hv1⟩ := owns_slice ho1
  subst hv1
  have hro := (Row.ownP ho1).at'.1
  have Hpix := preadPixels_any p' q1 c' cq m R (plK l) w1 (by rw [← hR]; exact hr1) hR8 (by rw [← hR, List.length_drop]; have := Hl.out; omega) (by rw [hRl]; exact hc1) (Nat.le_trans hc2 hc63) (.inr hcn) hro hKl hm
  rw [hRl] at Hpix
  have Hpix := Lib.hid Hpix
  have Hq := Lib.hid hq
  have HR := Lib.hid hR
  obtain ⟨t, ht⟩ : ∃ t, n - (1 + 3 * (lq l 0 + 1)) = t := ⟨_, rfl⟩
  obtain ⟨kk, hkk⟩ : ∃ t, (plK l).length = t := ⟨_, rfl⟩
  rw [ht, hkk] at Hpix
  rw [ht, hkk]
  clear hR hRl hR8 hq2 hKl hq hr1 hc1 hc2 hcn hro ho1 ht hkk
  go_wp2_with fail
  refine Calls.mono Hpix.out ?_
  rintro _ w2 ⟨hb2, hr⟩
  have Hb2 := Lib.hid (Below.thn Hb1.out hb2)
  rcases hr with ⟨hP, v1, rfl⟩ | ⟨L, v1, hP, rfl, ho⟩
  · obtain rfl : E = ([], 131) := by rw [← HE.out]; exact plD_none HN.out Hq.out (by rw [HR.out]; exact hP)
    clear hb2 Hpix
    go_wp2
    go_ret2
    exact ⟨_, rfl, World.ownsRow_nil _ _ _ _, Hb2.out⟩
  · obtain rfl : E = (L, 0) := by rw [← HE.out]; exact plD_some HN.out Hq.out (by rw [HR.out]; exact hP)
    have Ho := Lib.hid (owns_base ho Hb1.out.size)
    clear hb2 Hpix ho
    go_wp2
    go_ret2
    exact ⟨_, rfl, Ho.out, Hb2.out⟩

end Go.Proofs.Ytonhcdhlinlncaa
