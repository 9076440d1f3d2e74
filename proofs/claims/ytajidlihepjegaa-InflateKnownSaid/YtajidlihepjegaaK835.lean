/- inflate: usualCodes, fixed. -/
import Derived.Test.YtajidlihepjegaaK834
namespace Go.Proofs.Ytajidlihepjegaa
open Go.RowKit Go.Maps

theorem fixA_chk : chk fixA = 0 := by decide +kernel
theorem fixD_chk : chk fixD = 0 := by decide +kernel
theorem fixA_len : fixA.length = 288 := by decide +kernel
theorem rep_row (x n : Nat) : List.replicate n (u8v x) = (List.replicate n x).map u8v := by rw [List.map_replicate]

theorem four_cells {w : World} {a b c d : Value} {t : TypeId} : ∀ i v, [a, b, c, d][i]? = some v → (w.alloc (.cells #[a, b, c, d] t)).cell? ⟨w.heap.size, i, none⟩ = some v := fun i v h => by
  have hb := World.alloc_heap_new w (.cells #[a, b, c, d] t)
  simp only [World.cell?, hb]
  have : (#[a, b, c, d] : Array Value)[i]? = some v := by rw [← h]; simp
  rw [this]; rfl

theorem concat_four {w4 : World} {v1 v2 v3 v4 : Value} (H1 : Rw8 w4 v1 (List.replicate 144 8)) (H2 : Rw8 w4 v2 (List.replicate 112 9)) (H3 : Rw8 w4 v3 (List.replicate 24 7)) (H4 : Rw8 w4 v4 (List.replicate 8 8)) :
    Calls Try.prog 66 #[.slice (some ⟨w4.heap.size, 0, none⟩) 4 4] (w4.alloc (.cells #[v1, v2, v3, v4] 23)) fun e w' => ∃ v, e = .returned v ∧ Rw8 w' v fixA ∧ Below w4.heap.size w4 w' := by
  obtain ⟨r1, h1⟩ : ∃ r, List.replicate 144 8 = r := ⟨_, rfl⟩
  obtain ⟨r2, h2⟩ : ∃ r, List.replicate 112 9 = r := ⟨_, rfl⟩
  obtain ⟨r3, h3⟩ : ∃ r, List.replicate 24 7 = r := ⟨_, rfl⟩
  obtain ⟨r4, h4⟩ : ∃ r, List.replicate 8 8 = r := ⟨_, rfl⟩
  have hfix : fixA = r1 ++ (r2 ++ (r3 ++ r4)) := by unfold fixA; rw [h1, h2, h3, h4, List.append_assoc, List.append_assoc]
  have l1 : r1.length = 144 := by rw [← h1, List.length_replicate]
  have l2 : r2.length = 112 := by rw [← h2, List.length_replicate]
  have l3 : r3.length = 24 := by rw [← h3, List.length_replicate]
  have l4 : r4.length = 8 := by rw [← h4, List.length_replicate]
  rw [h1] at H1; rw [h2] at H2; rw [h3] at H3; rw [h4] at H4
  clear h1 h2 h3 h4
  obtain ⟨R, hR⟩ : ∃ R, R = [(v1, r1), (v2, r2), (v3, r3), (v4, r4)] := ⟨_, rfl⟩
  have hlen : R.length = 4 := by rw [hR]; rfl
  have htot : tot R 4 = 288 := by rw [hR]; simp [tot, l1, l2, l3, l4]
  have hcat : cat R 4 = fixA := by rw [hR, hfix]; simp [cat]
  have hcells := four_cells (w := w4) (a := v1) (b := v2) (c := v3) (d := v4) (t := 23)
  have hb := Below.al1 w4 (.cells #[v1, v2, v3, v4] 23)
  have hcc := sconcat_any w4.heap.size 4 R (w4.alloc (.cells #[v1, v2, v3, v4] 23)) (fun i hi => by
    subst hR
    have hi : i < 4 := hi
    have : i = 0 ∨ i = 1 ∨ i = 2 ∨ i = 3 := by omega
    rcases this with rfl | rfl | rfl | rfl
    · exact ⟨hcells 0 _ rfl, H1.below hb⟩
    · exact ⟨hcells 1 _ rfl, H2.below hb⟩
    · exact ⟨hcells 2 _ rfl, H3.below hb⟩
    · exact ⟨hcells 3 _ rfl, H4.below hb⟩) (by rw [hlen, htot]; decide) (by rw [hlen, htot]; decide) (by omega)
  rw [hlen, htot, hcat] at hcc
  refine Calls.mono hcc ?_
  rintro e w' ⟨v, rfl, ho, hb2⟩
  exact ⟨v, rfl, Rw8.own (owns_lower ho hb.size) fixA_len.symm, Below.thn hb hb2⟩

set_option maxRecDepth 20000 in
set_option maxHeartbeats 2000000 in
theorem iusual_any (w : World) :
    Calls Try.prog 59 #[] w fun e w' => ∃ cv, e = .returned cv ∧ Codn w' (fun i => i < w.heap.size) cv fixA fixD ∧ Below w.heap.size w w' := by
  go_enter Try.func59, Try.ntmps59
  go_wp2_with fail
  refine Calls.mono (irun_any 8 144 (by decide) (by decide) (by decide) _) ?_
  rintro e w1 ⟨v1, rfl, ho, hb⟩
  rw [rep_row] at ho
  obtain ⟨q1, k1, rfl⟩ := owns_slice ho
  have H1 := Lib.hid (Rw8.own ho (by simp))
  have Hb1 := Lib.hid hb
  clear ho hb
  go_wp2_with fail
  refine Calls.mono (irun_any 9 112 (by decide) (by decide) (by decide) _) ?_
  rintro e w2 ⟨v2, rfl, ho, hb⟩
  rw [rep_row] at ho
  obtain ⟨q2, k2, rfl⟩ := owns_slice ho
  have H2 := Lib.hid (Rw8.own ho (by simp))
  have H1 := Lib.hid (H1.out.below hb)
  have Hb2 := Lib.hid (Below.thn Hb1.out hb)
  clear ho hb Hb1
  go_wp2_with fail
  refine Calls.mono (irun_any 7 24 (by decide) (by decide) (by decide) _) ?_
  rintro e w3 ⟨v3, rfl, ho, hb⟩
  rw [rep_row] at ho
  obtain ⟨q3, k3, rfl⟩ := owns_slice ho
  have H3 := Lib.hid (Rw8.own ho (by simp))
  have H1 := Lib.hid (H1.out.below hb)
  have H2 := Lib.hid (H2.out.below hb)
  have Hb3 := Lib.hid (Below.thn Hb2.out hb)
  clear ho hb Hb2
  go_wp2_with fail
  refine Calls.mono (irun_any 8 8 (by decide) (by decide) (by decide) _) ?_
  rintro e w4 ⟨v4, rfl, ho, hb⟩
  rw [rep_row] at ho
  obtain ⟨q4, k4, rfl⟩ := owns_slice ho
  have H4 := Lib.hid (Rw8.own ho (by simp))
  have H1 := Lib.hid (H1.out.below hb)
  have H2 := Lib.hid (H2.out.below hb)
  have H3 := Lib.hid (H3.out.below hb)
  have Hb4 := Lib.hid (Below.thn Hb3.out hb)
  clear ho hb Hb3
  go_wp2_with fail
  refine Calls.mono (concat_four H1.out H2.out H3.out H4.out) ?_
  rintro e w5 ⟨v5, rfl, hR, hb⟩
  have H5 := Lib.hid hR.row
  have Hb5 := Lib.hid (Below.thn Hb4.out hb)
  clear hb hR H1 H2 H3 H4 Hb4
  go_wp2_with fail
  refine Calls.mono (itable_ok fixA v5 w5 H5.out fixA_chk) ?_
  rintro e w6 ⟨ta, rfl, ht, hb⟩
  have Hta := Lib.hid ht
  have Hb6 := Lib.hid (Below.thn Hb5.out hb)
  have Hs5 := Lib.hid Hb5.out.size
  obtain ⟨T1, M1, n1, L1, F1, rfl, -⟩ := ht
  clear hb H5 Hb5
  go_wp2_with fail
  refine Calls.mono (irun_any 5 32 (by decide) (by decide) (by decide) _) ?_
  rintro e w7 ⟨v7, rfl, ho, hb⟩
  rw [rep_row] at ho
  have H7 := Lib.hid (Rw8.own ho (by simp)).row
  have Hta := Lib.hid (Hta.out.go (K' := fun i => i < w5.heap.size) (Turns.of_below' hb) (fun _ _ h => h))
  have Hb7 := Lib.hid (Below.thn Hb6.out hb)
  clear ho hb Hb6
  go_wp2_with fail
  refine Calls.mono (itable_ok fixD v7 w7 H7.out fixD_chk) ?_
  rintro e w8 ⟨td, rfl, ht, hb⟩
  have Htd := Lib.hid ht
  have Hta := Lib.hid (Hta.out.go (K' := fun i => i < w5.heap.size) (Turns.of_below' hb) (fun _ _ h => h))
  have Hb8 := Lib.hid (Below.thn Hb7.out hb)
  have Hs7 := Lib.hid Hb7.out.size
  obtain ⟨T2, M2, n2, L2, F2, rfl, -⟩ := ht
  clear hb H7 Hb7
  go_wp2
  go_ret
  have hb9 := Below.al1 w8 (.cells #[.pointer (some ⟨T1, 0, none⟩), .pointer (some ⟨T2, 0, none⟩)] 120)
  exact ⟨_, rfl, ⟨w8.heap.size, _, _, rfl, World.alloc_heap_new _ _, fun h => by have := Hb8.out.size; omega, Hta.out.go (Turns.of_below' hb9) (fun i _ h => Nat.lt_of_lt_of_le h Hs5.out), Htd.out.go (Turns.of_below' hb9) (fun i _ h => Nat.lt_of_lt_of_le h Hs7.out)⟩, Below.thn Hb8.out hb9⟩

section
variable {base S B : Nat} {sv ov uv : Value} {l : List Nat} {lim a : Nat} {o : List Nat}

/-- How a method ends that may also make the usual codes. -/
def EndsU (base S B : Nat) (sv ov : Value) (l : List Nat) (lim : Nat) (w : World) (R : InfSt → Prop) (e : Ending) (w' : World) : Prop :=
  (∃ (a' : Nat) (o' : List Nat) (ov' uv' : Value), R (.go a' o') ∧ e = .returned (.tuple #[]) ∧ Sm w' base S B sv ov' uv' l lim a' o' ∧ Fr S B ov w ov' w') ∨ (∃ er, R (.no er) ∧ e = thrown er ∧ Turns (KS S B ov) w w')
theorem Ends.u {w : World} {R : InfSt → Prop} {e : Ending} {w' : World} (h : Ends base S B sv ov uv l lim w R e w') : EndsU base S B sv ov l lim w R e w' := by
  rcases h with ⟨a', o', ov', h⟩ | h
  · exact .inl ⟨a', o', ov', uv, h⟩
  · exact .inr h

theorem EndsU.from {ov1 : Value} {w w1 : World} {R : InfSt → Prop} {e : Ending} {w' : World} (h : EndsU base S B sv ov1 l lim w1 R e w') (hf : Fr S B ov w ov1 w1) : EndsU base S B sv ov l lim w R e w' := by
  rcases h with ⟨a', o', ov', uv', h1, h2, h3, h4⟩ | ⟨er, h1, h2, h3⟩
  · exact .inl ⟨a', o', ov', uv', h1, h2, h3, hf.trans h4⟩
  · exact .inr ⟨er, h1, h2, hf.throws h3⟩
theorem EndsU.of {w : World} {R R' : InfSt → Prop} {e : Ending} {w' : World} (h : EndsU base S B sv ov l lim w R e w') (hR : ∀ r, R r → R' r) : EndsU base S B sv ov l lim w R' e w' := by
  rcases h with ⟨a', o', ov', uv', h1, h2, h3, h4⟩ | ⟨er, h1, h2, h3⟩
  · exact .inl ⟨a', o', ov', uv', hR _ h1, h2, h3, h4⟩
  · exact .inr ⟨er, hR _ h1, h2, h3⟩

/-- The usual codes are kept. -/
theorem Sm.keeps {w : World} {cv : Value} (h : Sm w base S B sv ov uv l lim a o) (hc : Codn w (KS S B ov) cv fixA fixD) : Sm (w.setCell ⟨S, 3, none⟩ cv) base S B sv ov cv l lim a o ∧ Fr S B ov w ov (w.setCell ⟨S, 3, none⟩ cv) := by
  obtain ⟨n1, n2, n3, n4, n5⟩ := h.ne
  have ht : Turns (fun i => i = S) w (w.setCell ⟨S, 3, none⟩ cv) := Turns.set (T := fun i => i = S) (p := ⟨S, 3, none⟩) (Turns.refl _ w) rfl _
  have hf : Fr S B ov w ov (w.setCell ⟨S, 3, none⟩ cv) := ⟨ht.mono (fun i _ e => .inl e), fun _ h => .inl h⟩
  exact ⟨⟨four_set3 _ h.box, h.rd.turns ht (fun e => n1 e.symm) (fun k hk e => n2 (by rw [hk, e])), ht.owns h.out (fun k hk e => n3 (by rw [hk, e])), .inr (hf.codn hc), h.ne, h.lo, h.le, h.by'⟩, hf⟩

set_option maxRecDepth 20000 in
set_option maxHeartbeats 2000000 in
theorem ifixed_any (w : World) (h : Sm w base S B sv ov uv l lim a o) :
    Calls Try.prog 52 #[.pointer (some ⟨S, 0, none⟩)] w (EndsU base S B sv ov l lim w (InfToks fixA fixD l lim a o)) := by
  have c3 := h.c3
  have H := Lib.hid h
  have hA : fixA.length ≤ 320 ∧ fixD.length ≤ 320 := by rw [fixA_len]; decide
  rcases h.us with rfl | hc
  · clear h
    go_enter Try.func52, Try.ntmps52
    go_wp2_with fail
    refine Calls.mono (iusual_any w) ?_
    rintro e w1 ⟨cv, rfl, hc, hb⟩
    have H1 := Lib.hid (H.out.below hb)
    have hk : ∀ i, i < w1.heap.size → KS S B ov i → i < w.heap.size := fun i _ hi => by
      rcases hi with rfl | rfl | hi
      · exact H.out.size
      · exact H.out.rd.size
      · exact (H.out.out.lt _ hi).2
    have Hc := Lib.hid (hc.go (K' := KS S B ov) (Turns.refl _ _) hk)
    have Hk := Lib.hid (H1.out.1.keeps Hc.out)
    have f3 := H1.out.1.free 3
    have d3 := H1.out.1.c3
    obtain ⟨C, ta, td, rfl, -⟩ := hc
    obtain ⟨w2, hw2⟩ : ∃ w2, w1.setCell ⟨S, 3, none⟩ (.pointer (some ⟨C, 0, none⟩)) = w2 := ⟨_, rfl⟩
    rw [hw2] at Hk
    have e3 := Hk.out.1.c3
    have Hw2 := Lib.hid hw2
    clear hb hk c3 hw2
    go_upto_region 2 with (fail)
    rw [Hw2.out]
    clear f3 d3
    go_wp2_with fail
    refine Calls.mono (itok_any _ fixA fixD w2 Hk.out.1 (Hk.out.2.codn Hc.out) hA) ?_
    intro e w3 he
    have he := he.u.from (H1.out.2.trans Hk.out.2)
    have He := Lib.hid he
    rcases he with ⟨a', o', ov', uv', -, rfl, -⟩ | ⟨er, -, rfl, -⟩
    · go_wp2
      go_end0
      exact He.out
    · go_wp2
      exact ⟨rfl, He.out⟩
  · have Hc := Lib.hid hc
    obtain ⟨C, ta, td, rfl, -⟩ := hc
    clear h
    go_enter Try.func52, Try.ntmps52
    go_wp2_with fail
    refine Calls.mono (itok_any _ fixA fixD w H.out Hc.out hA) ?_
    intro e w1 he
    have he := he.u
    have He := Lib.hid he
    rcases he with ⟨a', o', ov', uv', -, rfl, -⟩ | ⟨er, -, rfl, -⟩
    · go_wp2
      go_end0
      exact He.out
    · go_wp2
      exact ⟨rfl, He.out⟩
end

end Go.Proofs.Ytajidlihepjegaa
