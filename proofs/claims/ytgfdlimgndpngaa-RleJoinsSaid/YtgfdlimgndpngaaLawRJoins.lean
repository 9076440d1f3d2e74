/- The walk of the statement RleJoins. -/
import Derived.Test.YtgfdlimgndpngaaRleK
namespace Go.Proofs.Ytgfdlimgndpngaa
open Go.RowKit

theorem own_src8 {w : World} {base : Nat} {p : Option Addr} {n c : Nat} {l : List Nat} (h : w.ownsRow base 5 1 (.slice p n c) n (l.map u8v)) : (p = none ∧ n = 0 ∧ c = 0) ∨ ∃ ad, p = some ad ∧ ∀ j u, (l.map u8v)[j]? = some u → w.cell? (ad.add j) = some u := by
  have e : n = l.length := by have := h.1; simp at this; exact this.symm
  obtain ⟨p', c', e2, -, -, h3⟩ := (Rw8.own h e).src enc8_len (by decide)
  cases e2
  rwa [flat8] at h3
theorem own_srcP {w : World} {v : Value} {l : List Nat} (h : RwP w v l) {p : Option Addr} {n c : Nat} (hv : v = .slice p n c) : (p = none ∧ n = 0 ∧ c = 0) ∨ ∃ ad, p = some ad ∧ ∀ j u, (l.map pxv)[j]? = some u → w.cell? (ad.add j) = some u := by
  subst hv
  obtain ⟨p', c', e2, -, -, h3⟩ := h.src encP_len (by decide)
  cases e2
  rwa [flatP] at h3
theorem rlD_two (a b : List Nat) (h : (a ++ b).length ≤ 65536) : rlD (rlBs (rlO a) ++ rlBs (rlO b)) ((a ++ b).length : Nat) = ((a ++ b).map rlw, 0) := by
  have e : rlay (rlT (rlBs (rlO a) ++ rlBs (rlO b))) = (a ++ b).map rlw := by
    rw [rlT_rlBs _ (rl_ok a)]
    have := rlT_rlBs (rlO b) (rl_ok b) []
    rw [List.append_nil] at this
    rw [this, show rlT [] = [] from rfl, List.append_nil, rlay_app, rlay_rl, rlay_rl, List.map_append]
  rw [rlD_yes (by omega) (by rw [List.length_append, rlBs_len, rlBs_len]; omega) (by rw [e, List.length_map]), e]

set_option maxRecDepth 20000 in
set_option maxHeartbeats 8000000 in
theorem rjoins_any (v1 : Value) (a : List Nat) (v2 : Value) (b : List Nat) (w : World) (hv1 : RwP w v1 a) (ha32 : ∀ x ∈ a, x < 4294967296) (hv2 : RwP w v2 b) (hb32 : ∀ x ∈ b, x < 4294967296) :
    Makes Try.prog 8 #[v1, v2] w (.bool true) := by
  unfold Makes
  have Hv1 := Lib.hid hv1
  have Hv2 := Lib.hid hv2
  obtain ⟨p1, c1, rfl, -, -, -⟩ := hv1.src encP_len (by decide)
  obtain ⟨p2, c2, rfl, -, -, -⟩ := hv2.src encP_len (by decide)
  obtain ⟨i0, hi0, hz0, hz1, hz2⟩ := info_parts pxv_info
  obtain ⟨j0, hj0, hy0, hy1, hy2⟩ := info_parts u8_info
  clear hv1 hv2
  obtain ⟨n, hn⟩ : ∃ n, a.length = n := ⟨_, rfl⟩
  obtain ⟨m, hm⟩ : ∃ n, b.length = n := ⟨_, rfl⟩
  have Hn := Lib.hid hn
  have Hm := Lib.hid hm
  rw [hn] at Hv1 ⊢
  rw [hm] at Hv2 ⊢
  clear hn hm
  go_enter Try.func8, Try.ntmps8
  by_cases hl : 10000 < n
  · have d0 : decide ((n : Int) > 10000) = true := by simp; omega
    go_wp2
    go_ret
    exact ⟨rfl, Below.refl _ _⟩
  have d0 : decide ((n : Int) > 10000) = false := by simp; omega
  by_cases hl2 : 10000 < m
  · have d1 : decide ((m : Int) > 10000) = true := by simp; omega
    go_wp2
    go_ret
    exact ⟨rfl, Below.refl _ _⟩
  have d1 : decide ((m : Int) > 10000) = false := by simp; omega
  have Hd := Lib.hid (rlD_two a b (by rw [List.length_append, Hn.out, Hm.out]; omega))
  have Happ := Lib.hid (rl_app a b)
  have hla : (rlO a).length ≤ 10000 := by have := rl_len a; rw [Hn.out] at this; omega
  have hlb : (rlO b).length ≤ 10000 := by have := rl_len b; rw [Hm.out] at this; omega
  obtain ⟨q1, hq1⟩ : ∃ q, 4 * (rlO a).length = q := ⟨_, rfl⟩
  obtain ⟨q2, hq2⟩ : ∃ q, 4 * (rlO b).length = q := ⟨_, rfl⟩
  have Hq1 := Lib.hid hq1
  have Hq2 := Lib.hid hq2
  have g1 : q1 ≤ 40000 := by omega
  have g2 : q2 ≤ 40000 := by omega
  have hb0 := Below.al1 w (.cells #[] 5)
  have Hb0 := Lib.hid hb0
  go_wp2_with fail
  refine Calls.mono (renc_row (Hv1.out.row.below hb0) ha32 (by omega)) ?_
  rintro _ w1 ⟨p3, c3, rfl, ho3, hb1⟩
  rw [hq1] at ho3 ⊢
  have Ho3 := Lib.hid ho3
  have Hb1 := Lib.hid (Below.thn hb0 hb1)
  have Hown0 := Lib.hid ((Turns.of_below' (T := fun _ => False) hb1).owns (World.ownsRow_lit (e := 5) (size := 1) w #[] 0 (Nat.le_refl _) (Nat.zero_le _) rfl) (fun _ _ h => h))
  have hs1 := Hb1.out.size
  clear ho3 hb1 hb0
  go_wp2_with (at_builtin; refine wpList_append_mine w1 rfl (.tmp 17) (.tmp 19) 23 rfl w.heap.size 5 j0 _ 1 1 Try.underlying23 hj0 hy0 hy1 hy2 rfl (by decide) (.slice (some ⟨w.heap.size, 0, none⟩) 0 0) 0 [] rfl Hown0.out p3 q1 c3 ((rlBs (rlO a)).map u8v) rfl (by rw [List.length_map, rlBs_len, Hq1.out, Nat.mul_one]) (own_src8 Ho3.out) (one8 _) ?k3 ?k4 hs1 ?_)
  case k3 => simp only [maxLen]; omega
  case k4 => omega
  intro v5 w2 ho5 hg5 _
  have Ho5 : Hid (w2.ownsRow w.heap.size 5 1 v5 q1 ((rlBs (rlO a)).map u8v)) := Lib.hid (by simpa using ho5)
  obtain ⟨p5, c5, rfl⟩ := owns_slice Ho5.out
  have hb2 : Below w.heap.size w w2 := Hb1.out.trans ((Turns.of_grown (T := fun i => i = w.heap.size) hg5 (fun i e => by cases e; rfl)).below hs1 (fun i h => by omega))
  have Hb2 := Lib.hid hb2
  clear ho5 hg5 hb2 hq1 hq2
  go_wp2_with fail
  refine Calls.mono (renc_row (Hv2.out.row.below Hb2.out) hb32 (by omega)) ?_
  rintro _ w3 ⟨p6, c6, rfl, ho6, hb3⟩
  rw [Hq2.out] at ho6 ⊢
  have Ho6 := Lib.hid ho6
  have Hb3 := Lib.hid (Below.thn Hb2.out hb3)
  have Ho53 := Lib.hid ((Turns.of_below' (T := fun _ => False) hb3).owns Ho5.out (fun _ _ h => h))
  have hs3 := Hb3.out.size
  clear ho6 hb3
  go_wp2_with (at_builtin; refine wpList_append_mine w3 rfl (.tmp 20) (.tmp 22) 23 rfl w.heap.size 5 j0 _ 1 1 Try.underlying23 hj0 hy0 hy1 hy2 rfl (by decide) (.slice p5 q1 c5) q1 ((rlBs (rlO a)).map u8v) rfl Ho53.out p6 q2 c6 ((rlBs (rlO b)).map u8v) rfl (by rw [List.length_map, rlBs_len, Hq2.out, Nat.mul_one]) (own_src8 Ho6.out) (one8 _) ?l3 ?l4 hs3 ?_)
  case l3 => simp only [maxLen]; omega
  case l4 => omega
  intro v7 w4 ho7 hg7 _
  rw [← List.map_append] at ho7
  have Ho7 := Lib.hid ho7
  obtain ⟨p7, c7, rfl⟩ := owns_slice ho7
  have hb4 : Below w.heap.size w w4 := Hb3.out.trans ((Turns.of_grown (T := fun i => (Value.slice p5 q1 c5).ownBlock = some i) hg7 (fun i e => e)).below hs3 (fun i h => (Ho53.out.lt i h).1))
  have Hb4 := Lib.hid hb4
  clear ho7 hg7 hb4 hs1 hs3 Ho3 Ho5 Ho53 Ho6 Hown0
  have hb5 := Below.al1 w4 (.cells #[] 34)
  have Hown5 := Lib.hid (World.ownsRow_lit (e := 34) (size := 1) w4 #[] 0 (Nat.le_refl _) (Nat.zero_le _) rfl)
  have hr1 := own_srcP (Hv1.out.below (Below.thn Hb4.out hb5)) rfl
  have hs5 : w4.heap.size ≤ (w4.alloc (.cells #[] 34)).heap.size := hb5.size
  have Hb5 := Lib.hid (Below.thn Hb4.out hb5)
  have Ho75 := Lib.hid ((Turns.of_below' (T := fun _ => False) hb5).owns Ho7.out (fun _ _ h => h))
  clear hb5
  go_wp2_with (at_builtin; refine wpList_append_mine _ rfl (.tmp 24) (.tmp 25) 22 rfl w4.heap.size 34 i0 _ 1 4 Try.underlying22 hi0 hz0 hz1 hz2 rfl (by decide) (.slice (some ⟨w4.heap.size, 0, none⟩) 0 0) 0 [] rfl Hown5.out p1 n c1 (a.map pxv) rfl (by rw [List.length_map, Hn.out, Nat.mul_one]) hr1 (oneP _) ?m3 ?m4 hs5 ?_)
  case m3 => simp only [maxLen]; omega
  case m4 => omega
  intro v8 w5 ho8 hg8 _
  have Ho8 : Hid (w5.ownsRow w4.heap.size 34 1 v8 n (a.map pxv)) := Lib.hid (by simpa using ho8)
  obtain ⟨p8, c8, rfl⟩ := owns_slice Ho8.out
  have hb6 : Below w4.heap.size w4 w5 := (Below.al1 w4 _).trans ((Turns.of_grown (T := fun i => i = w4.heap.size) hg8 (fun i e => by cases e; rfl)).below hs5 (fun i h => by omega))
  have Hb6 := Lib.hid (Below.thn Hb4.out hb6)
  have Ho76 := Lib.hid ((Turns.of_below' (T := fun _ => False) hb6).owns Ho7.out (fun _ _ h => h))
  have Hb46 := Lib.hid hb6
  have hs6 := hb6.size
  have hr2 := own_srcP (Hv2.out.below Hb6.out) rfl
  clear ho8 hg8 hb6 hr1 Hown5 Ho75 hs5
  go_wp2_with (at_builtin; refine wpList_append_mine w5 rfl (.tmp 26) (.tmp 27) 22 rfl w4.heap.size 34 i0 _ 1 4 Try.underlying22 hi0 hz0 hz1 hz2 rfl (by decide) (.slice p8 n c8) n (a.map pxv) rfl Ho8.out p2 m c2 (b.map pxv) rfl (by rw [List.length_map, Hm.out, Nat.mul_one]) hr2 (oneP _) ?o3 ?o4 hs6 ?_)
  case o3 => simp only [maxLen]; omega
  case o4 => omega
  intro v9 w6 ho9 hg9 _
  rw [← List.map_append] at ho9
  have Ho9 := Lib.hid (own_rowP ho9)
  obtain ⟨p9, c9, rfl⟩ := owns_slice ho9
  have hb7 : Below w4.heap.size w4 w6 := Hb46.out.trans ((Turns.of_grown (T := fun i => (Value.slice p8 n c8).ownBlock = some i) hg9 (fun i e => e)).below hs6 (fun i h => (Ho8.out.lt i h).1))
  have Hb7 := Lib.hid (Below.thn Hb4.out hb7)
  have Ho77 := Lib.hid (own_rowB ((Turns.of_below' (T := fun _ => False) hb7).owns Ho7.out (fun _ _ h => h)))
  clear ho9 hg9 hb7 hr2 hs6 Ho8 Ho76 Hb46
  obtain ⟨s, hs⟩ : ∃ s, n + m = s := ⟨_, rfl⟩
  obtain ⟨t, ht⟩ : ∃ t, q1 + q2 = t := ⟨_, rfl⟩
  have hsl : (a ++ b).length = s := by rw [List.length_append, Hn.out, Hm.out, hs]
  have hct : 4 * (rlO (a ++ b)).length ≤ t := by have := Happ.out; have := Hq1.out; have := Hq2.out; omega
  have hs2 : s ≤ 20000 := by omega
  have ht2 : t ≤ 80000 := by omega
  have Hd2 := Hd.out
  rw [hsl] at Hd2
  have HD := Lib.hid Hd2
  have Hsl := Lib.hid hsl
  rw [hs] at Ho9 ⊢
  rw [ht] at Ho77 ⊢
  have H256 := Lib.hid (show ∀ x ∈ rlBs (rlO a) ++ rlBs (rlO b), x < 256 from fun x hx => by
    rcases List.mem_append.1 hx with h | h
    · exact rlBs_256 (rl_ok a) x h
    · exact rlBs_256 (rl_ok b) x h)
  clear Hd Hd2 hs ht hsl d0 d1 hl hl2
  go_wp2_with fail
  refine Calls.mono (rdec_row (s : Int) Ho77.out H256.out (by omega) (by omega) _ HD.out) ?_
  rintro _ w7 ⟨p10, c10, rfl, ho10, hb8⟩
  simp only [List.length_map] at ho10 ⊢
  rw [Hsl.out] at ho10 ⊢
  have Hb8 := Lib.hid (Below.thn Hb7.out hb8)
  have Ho98 := Lib.hid (Ho9.out.below hb8)
  have Ho10 := Lib.hid (own_rowP ho10)
  clear ho10 hb8
  go_wp2_with fail
  refine Calls.mono (rcut_row Ho98.out (by omega)) ?_
  rintro _ w8 ⟨p11, c11, rfl, ho11, hb9⟩
  have Hb9 := Lib.hid (Below.thn Hb8.out hb9)
  have Ho99 := Lib.hid (Ho98.out.below hb9)
  have Ho109 := Lib.hid (Ho10.out.below hb9)
  have Ho11 := Lib.hid (own_rowP ho11)
  clear ho11 hb9
  go_wp2_with fail
  refine Calls.mono (rsame_row Ho109.out Ho11.out (by omega) (by omega) true (by simp)) ?_
  rintro _ w9 ⟨rfl, hb10⟩
  have Hb10 := Lib.hid (Below.thn Hb9.out hb10)
  have Ho910 := Lib.hid (Ho99.out.below hb10)
  clear hb10
  have H32 := Lib.hid (show ∀ x ∈ a ++ b, x < 4294967296 from fun x hx => (List.mem_append.1 hx).elim (ha32 x) (hb32 x))
  obtain ⟨u, hu⟩ : ∃ u, 4 * (rlO (a ++ b)).length = u := ⟨_, rfl⟩
  rw [hu] at hct
  have d2 : decide ((u : Int) ≤ (t : Int)) = true := by simp; omega
  have d3 : decide (u ≤ t) = true := by simp; omega
  have Hu := Lib.hid hu
  clear hu
  go_wp2_with fail
  refine Calls.mono (renc_row Ho910.out H32.out (by omega)) ?_
  rintro _ w10 ⟨p12, c12, rfl, -, hb11⟩
  rw [Hu.out]
  have Hb11 := Lib.hid (Below.thn Hb10.out hb11)
  clear hb11
  go_wp2_with fail
  refine Calls.mono (tells_law w10) ?_
  rintro _ w11 ⟨rfl, hb12⟩
  have Hb12 := Lib.hid (Below.thn Hb11.out hb12)
  clear hb12
  go_wp2
  go_ret
  exact ⟨rfl, Hb12.out⟩

end Go.Proofs.Ytgfdlimgndpngaa
