/- Several texts in one, each with its own head. -/
import Derived.Test.YtdcmalbbijchiaaZq32
import Derived.Test.YtdcmalbbijchiaaZq20
/- inflate, plainly: the chapter's examples, and each error. -/
namespace Go.Proofs.Ytdcmalbbijchiaa

/-- A symbol of a code, read where its bits stand. -/
theorem sy_of {ls l : List Nat} {a x s : Nat} (hc : chk ls = 0) (hx : x < ls.length) (h1 : 1 ≤ s) (hs : lq ls x = s) (hb : nb l a s = cd (lq ls) ls.length x)
    (hn : ∀ t, t < s → 1 ≤ t → ∀ i, i < ls.length → ¬ (lq ls i = t ∧ nb l a t = cd (lq ls) ls.length i)) (hl : a + s ≤ 8 * l.length) : Sy ls l a x 0 s := by
  obtain ⟨F, L, hF, hM⟩ := told_of_chk hc
  have h15 := (chk_zero hc).2.1 x hx
  have hL : lq ls x ≤ L := hM.ge x hx ⟨by omega, .inl h15⟩
  refine ⟨F, L, hF, hM, ⟨fun t t1 t2 => ?_, ⟨by omega, hl⟩, .inl ⟨rfl, h1, ?_⟩⟩⟩
  · cases e : F (bt l a t, t) with
    | none => rfl
    | some i =>
      obtain ⟨i1, i2, i3⟩ := hF.out _ _ e
      simp only [Prod.mk.injEq] at i3
      exact absurd ⟨i3.2.symm, i3.1⟩ (hn t t2 t1 i i1)
  · have := hF.has x hx ⟨by omega, .inl h15⟩
    rw [hs] at this
    rw [show bt l a s = cd (lq ls) ls.length x from hb]
    exact this
/-- There are no more bits. -/
theorem sy_end {ls l : List Nat} {a s : Nat} (hc : chk ls = 0) (x : Nat) (hx : x < ls.length) (hs : s < lq ls x) (hn : ∀ t, t ≤ s → 1 ≤ t → ∀ i, i < ls.length → ¬ (lq ls i = t ∧ nb l a t = cd (lq ls) ls.length i)) (hl : a + s = 8 * l.length) : Sy ls l a 0 50 s := by
  obtain ⟨F, L, hF, hM⟩ := told_of_chk hc
  have h15 := (chk_zero hc).2.1 x hx
  have hL : lq ls x ≤ L := hM.ge x hx ⟨by omega, .inl h15⟩
  have hno : ∀ t, 1 ≤ t → t ≤ s → F (bt l a t, t) = none := fun t t1 t2 => by
    cases e : F (bt l a t, t) with
    | none => rfl
    | some i =>
      obtain ⟨i1, i2, i3⟩ := hF.out _ _ e
      simp only [Prod.mk.injEq] at i3
      exact absurd ⟨i3.2.symm, i3.1⟩ (hn t t2 t1 i i1)
  exact ⟨F, L, hF, hM, ⟨fun t t1 t2 => hno t t1 (by omega), ⟨by omega, by omega⟩, .inr (.inr ⟨rfl, rfl, by omega, hl, fun h => hno s h (Nat.le_refl _)⟩)⟩⟩
/-- No code begins so. -/
theorem sy_none {ls l : List Nat} {a s : Nat} (hc : chk ls = 0) (hs : ∀ i, i < ls.length → lq ls i ≤ s) (x : Nat) (hx : x < ls.length) (hsx : lq ls x = s) (h1 : 1 ≤ s) (hn : ∀ t, t ≤ s → 1 ≤ t → ∀ i, i < ls.length → ¬ (lq ls i = t ∧ nb l a t = cd (lq ls) ls.length i)) (hl : a + s ≤ 8 * l.length) : Sy ls l a 0 60 s := by
  obtain ⟨F, L, hF, hM⟩ := told_of_chk hc
  have h15 := (chk_zero hc).2.1 x hx
  have hL : lq ls x ≤ L := hM.ge x hx ⟨by omega, .inl h15⟩
  have hL2 : L ≤ s := by
    rcases hM.le with h | ⟨i, i1, i2, i3⟩
    · omega
    · have := hs i i1; omega
  have hno : ∀ t, 1 ≤ t → t ≤ s → F (bt l a t, t) = none := fun t t1 t2 => by
    cases e : F (bt l a t, t) with
    | none => rfl
    | some i =>
      obtain ⟨i1, i2, i3⟩ := hF.out _ _ e
      simp only [Prod.mk.injEq] at i3
      exact absurd ⟨i3.2.symm, i3.1⟩ (hn t t2 t1 i i1)
  exact ⟨F, L, hF, hM, ⟨fun t t1 t2 => hno t t1 (by omega), ⟨by omega, hl⟩, .inr (.inl ⟨rfl, rfl, by omega, fun h => hno s h (Nat.le_refl _)⟩)⟩⟩
theorem fixG_ge : ∀ x, x < 288 → 7 ≤ fixG x := by decide +kernel
theorem fix_end {l : List Nat} {a s : Nat} (hs : s < 7) (hl : a + s = 8 * l.length) : Sy fixA l a 0 50 s :=
  sy_end fixA_chk 0 (by rw [fixA_len]; decide) (by rw [fixA_lq]; show s < 8; omega) (fun t t1 t2 i hi h => by
    rw [fixA_len] at hi
    rw [fixA_lq] at h
    have := fixG_ge i hi
    omega) hl

def kn1 : List Nat := [1, 3, 0, 252, 255, 97, 98, 99]
def kn2 : List Nat := [75, 76, 74, 6, 0]
def kn3 : List Nat := [75, 4]
def kn4 : List Nat := [1, 3, 0, 253, 255, 97, 98, 99]
def kn7 : List Nat := [1, 3, 0, 252, 255, 97, 98]
def kn8 : List Nat := [0, 1, 0, 254, 255, 120, 1, 1, 0, 254, 255, 121, 9]
def kn9 : List Nat := [3, 0]

theorem kn1_i : Infl kn1 100 [97, 98, 99] 8 0 :=
  .go 100 64 _ rfl (by decide) (.last 0 [] (by decide) (by decide +kernel) 64 _ (.stored (by decide) (by decide +kernel) _ (by
    have hd := InfSd.done (l := kn1) (lim := 100) (a := 3) (o := []) (by decide +kernel) (by decide +kernel) (by decide +kernel) (by decide +kernel)
    have e : InfSt.go (alN 3 + 32 + 8 * nb kn1 (alN 3) 16) ([] ++ bys kn1 (alN 3 + 32) (nb kn1 (alN 3) 16)) = .go 64 [97, 98, 99] := by
      congr 1 <;> decide +kernel
    rw [e] at hd
    exact hd)))
theorem kn2_i : Infl kn2 100 [97, 98, 99] 5 0 := by
  have h := (Trn.prefix' abcL 5 (by decide)).bl (lim := 10) (lim' := 100) (q := []) (by decide) abc_runs 34 _ rfl (by decide)
  exact .go 100 34 _ rfl (by decide) h
theorem kn2_o : Infl kn2 2 [] 0 81 := by
  have T := Trn.prefix' abcL 5 (by decide)
  exact .no 2 81 rfl (by decide) (.no 0 [] (by decide) 81 (.fixed (by decide) (by decide +kernel) _
    (.more 3 11 [] [97] _ (.byte 97 8 (T.sy abc_a (by decide)) (by decide) (by decide)) (.more 11 19 [97] [97, 98] _ (.byte 98 8 (T.sy abc_b (by decide)) (by decide) (by decide)) (.no 19 _ 81 (.full 99 8 (T.sy abc_c (by decide)) (by decide) (by decide)))))))
theorem kn3_a : Sy fixA kn3 3 97 0 8 := sy_fix (by decide) (by decide) (by decide) (by decide +kernel) (by decide +kernel) (by decide)
theorem kn3_i : Infl kn3 100 [] 0 50 :=
  .no 100 50 rfl (by decide) (.no 0 [] (by decide) 50 (.fixed (by decide) (by decide +kernel) _ (.more 3 11 [] [97] _ (.byte 97 8 kn3_a (by decide) (by decide)) (.no 11 _ 50 (.bad 0 5 50 (fix_end (by decide) (by decide)) (by decide))))))
theorem kn4_i : Infl kn4 100 [] 0 80 :=
  .no 100 80 rfl (by decide) (.no 0 [] (by decide) 80 (.stored (by decide) (by decide +kernel) _ (.bad (by decide +kernel) (by decide +kernel))))
theorem kn5_i : Infl [7] 100 [] 0 80 := .no 100 80 rfl (by decide) (.no 0 [] (by decide) 80 (.unknown (by decide) (by decide +kernel)))
theorem kn6_i : Infl [] 100 [] 0 50 := .no 100 50 rfl (by decide) (.few 0 [] (by decide))
theorem kn7_i : Infl kn7 100 [] 0 50 :=
  .no 100 50 rfl (by decide) (.no 0 [] (by decide) 50 (.stored (by decide) (by decide +kernel) _ (.few2 (by decide +kernel) (by decide +kernel) (by decide +kernel) (by decide +kernel))))
theorem kn8_i : Infl kn8 100 [120, 121] 12 0 := by
  have h1 : InfSd kn8 100 3 [] (.go 48 [120]) := by
    have hd := InfSd.done (l := kn8) (lim := 100) (a := 3) (o := []) (by decide +kernel) (by decide +kernel) (by decide +kernel) (by decide +kernel)
    have e : InfSt.go (alN 3 + 32 + 8 * nb kn8 (alN 3) 16) ([] ++ bys kn8 (alN 3 + 32) (nb kn8 (alN 3) 16)) = .go 48 [120] := by congr 1 <;> decide +kernel
    rw [e] at hd
    exact hd
  have h2 : InfSd kn8 100 51 [120] (.go 96 [120, 121]) := by
    have hd := InfSd.done (l := kn8) (lim := 100) (a := 51) (o := [120]) (by decide +kernel) (by decide +kernel) (by decide +kernel) (by decide +kernel)
    have e : InfSt.go (alN 51 + 32 + 8 * nb kn8 (alN 51) 16) ([120] ++ bys kn8 (alN 51 + 32) (nb kn8 (alN 51) 16)) = .go 96 [120, 121] := by congr 1 <;> decide +kernel
    rw [e] at hd
    exact hd
  exact .go 100 96 _ rfl (by decide) (.more 0 [] (by decide) (by decide +kernel) 48 _ (.stored (by decide) (by decide +kernel) _ h1) _ (.last 48 _ (by decide) (by decide +kernel) 96 _ (.stored (by decide) (by decide +kernel) _ h2)))
theorem kn9_e : Sy fixA kn9 3 256 0 7 := sy_fix (by decide) (by decide) (by decide) (by decide +kernel) (by decide +kernel) (by decide)
theorem kn9_at (lim : Nat) (h : lim ≤ 524288) : Infl kn9 (lim : Int) [] 2 0 :=
  .go lim 10 _ rfl h (.last 0 [] (by decide) (by decide +kernel) 10 _ (.fixed (by decide) (by decide +kernel) _ (.fin 3 10 _ (.fin 7 kn9_e))))
theorem kn10_i : Infl [1] 100 [] 0 50 := .no 100 50 rfl (by decide) (.no 0 [] (by decide) 50 (.stored (by decide) (by decide +kernel) _ (.few (by decide +kernel))))
theorem kn11_i : Infl [1, 3, 0, 252, 255] 2 [] 0 81 := .no 2 81 rfl (by decide) (.no 0 [] (by decide) 81 (.stored (by decide) (by decide +kernel) _ (.over (by decide +kernel) (by decide +kernel) (by decide +kernel))))

/-- Streams that are laid with one thing wrong. -/
theorem wr1 : Infl [3] 100 [] 0 50 := .no 100 50 rfl (by decide) (.no 0 [] (by decide) 50 (.fixed (by decide) (by decide +kernel) _ (.no 3 _ 50 (.bad 0 5 50 (fix_end (by decide) (by decide)) (by decide)))))
theorem wr2_s : Sy fixA [3, 2] 3 257 0 7 := sy_fix (by decide) (by decide) (by decide) (by decide +kernel) (by decide +kernel) (by decide)
theorem wr2_d : Sy fixD [3, 2] 10 0 0 5 := sy_of fixD_chk (by decide) (by decide) (by decide +kernel) (by decide +kernel) (by decide +kernel) (by decide)
theorem wr2 : Infl [3, 2] 100 [] 0 70 := .no 100 70 rfl (by decide) (.no 0 [] (by decide) 70 (.fixed (by decide) (by decide +kernel) _ (.no 3 _ 70 (.rep 257 7 _ wr2_s (by decide) (.dist (by decide) (by decide +kernel) 0 5 wr2_d (by decide) (by decide +kernel) (by decide +kernel))))))
theorem wr3_s : Sy fixA [27, 3] 3 286 0 8 := sy_fix (by decide) (by decide) (by decide) (by decide +kernel) (by decide +kernel) (by decide)
theorem wr3 : Infl [27, 3] 100 [] 0 80 := .no 100 80 rfl (by decide) (.no 0 [] (by decide) 80 (.fixed (by decide) (by decide +kernel) _ (.no 3 _ 80 (.rep 286 8 _ wr3_s (by decide) (.far (by decide))))))
end Go.Proofs.Ytdcmalbbijchiaa

/- inflate, plainly: streams that are laid with one thing wrong in their own codes. -/
namespace Go.Proofs.Ytdcmalbbijchiaa

theorem wr_dy {l : List Nat} {e : Int} (h1 : 3 ≤ 8 * l.length) (h2 : nb l 1 2 = 2) (h : InfDy l 3 0 (.no e)) : Infl l 100 [] 0 e := .no 100 e rfl (by decide) (.no 0 [] (by omega) e (.bad h1 h2 e h))

theorem wr4 : Infl [245, 0, 0] 100 [] 0 80 := wr_dy (by decide) (by decide +kernel) (.many (by decide) (by decide +kernel))
theorem wr5 : Infl [5, 30, 0] 100 [] 0 80 := wr_dy (by decide) (by decide +kernel) (.many (by decide) (by decide +kernel))

def w6 : List Nat := [5, 0, 146, 0]
theorem wr6 : Infl w6 100 [] 0 60 := wr_dy (by decide) (by decide +kernel) (by
  have h := InfDy.code (l := w6) (a := 3) (by decide) (by decide +kernel) (by decide +kernel) (by decide +kernel)
  have e : chk (clL w6 (3 + 14) (nb w6 (3 + 10) 4 + 4)) = 60 := by decide +kernel
  rw [e] at h
  exact h)

def c16 : List Nat := [0, 0, 0, 0, 0, 0, 0, 0, 0, 0, 0, 0, 0, 0, 0, 0, 1, 0, 0]
def c18 : List Nat := [0, 0, 0, 0, 0, 0, 0, 0, 0, 0, 0, 0, 0, 0, 0, 0, 0, 0, 1]
theorem c16_chk : chk c16 = 0 := by decide +kernel
theorem c18_chk : chk c18 = 0 := by decide +kernel

def w7 : List Nat := [5, 0, 2, 0]
theorem w7_s : Sy c16 w7 29 16 0 1 := sy_of c16_chk (by decide) (by decide) (by decide +kernel) (by decide +kernel) (by decide +kernel) (by decide)
theorem wr7 : Infl w7 100 [] 0 80 := wr_dy (by decide) (by decide +kernel) (by
  have e : clL w7 (3 + 14) (nb w7 (3 + 10) 4 + 4) = c16 := by decide +kernel
  have e2 : 3 + 14 + 3 * (nb w7 (3 + 10) 4 + 4) = 29 := by decide +kernel
  exact .lens (by decide) (by decide +kernel) (by decide +kernel) (by rw [e]; exact c16_chk) 80 (by
    rw [e, e2]
    exact .no 29 [] 80 (by decide +kernel) (.first 1 w7_s rfl)))

def w8 : List Nat := [5, 0, 128, 192, 223, 31]
theorem w8_s : Sy c18 w8 29 18 0 1 := sy_of c18_chk (by decide) (by decide) (by decide +kernel) (by decide +kernel) (by decide +kernel) (by decide)
theorem w8_t : Sy c18 w8 37 18 0 1 := sy_of c18_chk (by decide) (by decide) (by decide +kernel) (by decide +kernel) (by decide +kernel) (by decide)
theorem w8_g : InfSv c18 w8 258 29 [] (.go 37 (List.replicate 138 0)) := by
  have h := InfSv.go (C := c18) (l := w8) (n := 258) (a := 29) (ls := []) 18 1 7 11 0 w8_s (.inr (.inr (.inl ⟨rfl, rfl, rfl, rfl⟩))) (by decide) (by decide +kernel)
  have e : InfSt.go (29 + 1 + 7) ([] ++ List.replicate (11 + nb w8 (29 + 1) 7) 0) = .go 37 (List.replicate 138 0) := by
    congr 1
  rw [e] at h
  exact h
theorem w8_b : InfSv c18 w8 258 37 (List.replicate 138 0) (.no 80) :=
  .many 18 1 7 11 0 w8_t (.inr (.inr (.inl ⟨rfl, rfl, rfl, rfl⟩))) (by decide) (by decide +kernel)
theorem wr8 : Infl w8 100 [] 0 80 := wr_dy (by decide) (by decide +kernel) (by
  have e : clL w8 (3 + 14) (nb w8 (3 + 10) 4 + 4) = c18 := by decide +kernel
  have e2 : 3 + 14 + 3 * (nb w8 (3 + 10) 4 + 4) = 29 := by decide +kernel
  have e3 : nb w8 3 5 + 257 + (nb w8 (3 + 5) 5 + 1) = 258 := by decide +kernel
  exact .lens (by decide) (by decide +kernel) (by decide +kernel) (by rw [e]; exact c18_chk) 80 (by
    rw [e, e2, e3]
    exact .more 29 37 [] _ _ (by decide) w8_g (.no 37 _ 80 (by rw [List.length_replicate]; decide) w8_b)))

def w9 : List Nat := [5, 0, 128, 192, 95, 27]
theorem w9_s : Sy c18 w9 29 18 0 1 := sy_of c18_chk (by decide) (by decide) (by decide +kernel) (by decide +kernel) (by decide +kernel) (by decide)
theorem w9_t : Sy c18 w9 37 18 0 1 := sy_of c18_chk (by decide) (by decide) (by decide +kernel) (by decide +kernel) (by decide +kernel) (by decide)
theorem w9_g : InfSv c18 w9 258 29 [] (.go 37 (List.replicate 138 0)) := by
  have h := InfSv.go (C := c18) (l := w9) (n := 258) (a := 29) (ls := []) 18 1 7 11 0 w9_s (.inr (.inr (.inl ⟨rfl, rfl, rfl, rfl⟩))) (by decide) (by decide +kernel)
  have e : InfSt.go (29 + 1 + 7) ([] ++ List.replicate (11 + nb w9 (29 + 1) 7) 0) = .go 37 (List.replicate 138 0) := by
    congr 1
  rw [e] at h
  exact h
theorem w9_h : InfSv c18 w9 258 37 (List.replicate 138 0) (.go 45 (List.replicate 258 0)) := by
  have n1 : nb w9 (37 + 1) 7 = 109 := by decide +kernel
  have h := InfSv.go (C := c18) (l := w9) (n := 258) (a := 37) (ls := List.replicate 138 0) 18 1 7 11 0 w9_t (.inr (.inr (.inl ⟨rfl, rfl, rfl, rfl⟩))) (by decide) (by rw [n1, List.length_replicate]; decide)
  have e : InfSt.go (37 + 1 + 7) (List.replicate 138 0 ++ List.replicate (11 + nb w9 (37 + 1) 7) 0) = .go 45 (List.replicate 258 0) := by
    rw [n1, List.replicate_append_replicate]
  rw [e] at h
  exact h
theorem wr9 : Infl w9 100 [] 0 80 := wr_dy (by decide) (by decide +kernel) (by
  have e : clL w9 (3 + 14) (nb w9 (3 + 10) 4 + 4) = c18 := by decide +kernel
  have e2 : 3 + 14 + 3 * (nb w9 (3 + 10) 4 + 4) = 29 := by decide +kernel
  have e3 : nb w9 3 5 + 257 + (nb w9 (3 + 5) 5 + 1) = 258 := by decide +kernel
  exact .last (by decide) (by decide +kernel) (by decide +kernel) (by rw [e]; exact c18_chk) 45 (List.replicate 258 0) (by
    rw [e, e2, e3]
    exact .more 29 37 [] _ _ (by decide) w9_g (.more 37 45 _ _ _ (by rw [List.length_replicate]; decide) w9_h (.fin 45 _ (by rw [List.length_replicate]; decide)))) 80 (.inl ⟨by decide +kernel, rfl⟩))

def w10 : List Nat := [5, 0, 128, 32]
theorem w10_s : Sy c18 w10 29 0 60 1 := sy_none c18_chk (by decide +kernel) 18 (by decide) (by decide +kernel) (by decide) (by decide +kernel) (by decide)
theorem wr10 : Infl w10 100 [] 0 60 := wr_dy (by decide) (by decide +kernel) (by
  have e : clL w10 (3 + 14) (nb w10 (3 + 10) 4 + 4) = c18 := by decide +kernel
  have e2 : 3 + 14 + 3 * (nb w10 (3 + 10) 4 + 4) = 29 := by decide +kernel
  exact .lens (by decide) (by decide +kernel) (by decide +kernel) (by rw [e]; exact c18_chk) 60 (by
    rw [e, e2]
    exact .no 29 [] 60 (by decide +kernel) (.bad 0 1 60 w10_s (by decide))))

end Go.Proofs.Ytdcmalbbijchiaa

/- Codes as numbers one behind the other (plain; nothing of the document's own answers): no code begins with another one, and lengths that make a code of all rows leave no gap. -/
namespace Go.Proofs.Ytdcmalbbijchiaa

theorem trn_acc : ∀ n r x, trn n r x = r * 2 ^ n + trn n 0 x
  | 0, r, x => by simp [trn]
  | n + 1, r, x => by
    rw [trn, trn, trn_acc n (r * 2 + x % 2), trn_acc n (0 * 2 + x % 2), Nat.pow_succ, Nat.add_mul, Nat.zero_mul, Nat.zero_add, Nat.mul_assoc r, Nat.mul_comm 2, Nat.add_assoc]

/-- The number of a symbol's code, the first bit highest. -/
def nu (f : Nat → Nat) (N i : Nat) : Nat := nx f N (f i - 1) i

theorem nu_of {f : Nat → Nat} {N n i : Nat} (h : f i = n + 1) : nu f N i = nx f N n i := by unfold nu; rw [h, Nat.add_sub_cancel]

theorem nxz_skip {f : Nat → Nat} {N n k : Nat} (h : f k ≠ n + 1) : nx f N n (k + 1) = nx f N n k := by unfold nx; rw [cn_succ, if_neg h]; omega
theorem nxz_hand {f : Nat → Nat} {N n k : Nat} (h : f k = n + 1) : nx f N n (k + 1) = nx f N n k + 1 := by unfold nx; rw [cn_succ, if_pos h]; omega
theorem nxz_next (f : Nat → Nat) (N n : Nat) : nx f N (n + 1) 0 = nx f N n N * 2 := by
  unfold nx
  rw [en]
  simp [cn, sm]

/-- What is told so far lies one behind the other, without a gap. -/
structure Tiled (f : Nat → Nat) (N n k : Nat) : Prop where
  below : ∀ i, i < N → Tld f n k i → (nu f N i + 1) * 2 ^ (15 - f i) ≤ nx f N n k * 2 ^ (14 - n)
  full : ∀ p, p < nx f N n k * 2 ^ (14 - n) → ∃ i, i < N ∧ Tld f n k i ∧ nu f N i * 2 ^ (15 - f i) ≤ p ∧ p < (nu f N i + 1) * 2 ^ (15 - f i)

theorem Tiled.start (f : Nat → Nat) (N : Nat) : Tiled f N 0 0 := by
  have h : nx f N 0 0 = 0 := by simp [nx, en, cn, sm]
  refine ⟨fun i _ ht => ?_, fun p hp => ?_⟩
  · unfold Tld at ht; omega
  · rw [h, Nat.zero_mul] at hp; omega
theorem Tiled.skip {f : Nat → Nat} {N n k : Nat} (h : Tiled f N n k) (hk : f k ≠ n + 1) : Tiled f N n (k + 1) := by
  refine ⟨fun i hi ht => ?_, fun p hp => ?_⟩
  · rw [nxz_skip hk]; exact h.below i hi ((Tld.skip hk).2 ht)
  · rw [nxz_skip hk] at hp
    obtain ⟨i, a, b, c⟩ := h.full p hp
    exact ⟨i, a, (Tld.skip hk).1 b, c⟩
theorem Tiled.hand {f : Nat → Nat} {N n k : Nat} (h : Tiled f N n k) (hkN : k < N) (hk : f k = n + 1) : Tiled f N n (k + 1) := by
  have e1 : 15 - f k = 14 - n := by omega
  have e2 := nu_of (N := N) hk
  refine ⟨fun i hi ht => ?_, fun p hp => ?_⟩
  · rw [nxz_hand hk]
    rcases (Tld.hand hk).1 ht with h1 | rfl
    · refine Nat.le_trans (h.below i hi h1) (Nat.mul_le_mul_right _ (by omega))
    · rw [e1, e2]; exact Nat.le_refl _
  · rw [nxz_hand hk] at hp
    rcases Nat.lt_or_ge p (nx f N n k * 2 ^ (14 - n)) with h1 | h1
    · obtain ⟨i, a, b, c⟩ := h.full p h1
      exact ⟨i, a, (Tld.hand hk).2 (.inl b), c⟩
    · exact ⟨k, hkN, (Tld.hand hk).2 (.inr rfl), by rw [e1, e2]; exact h1, by rw [e1, e2]; exact hp⟩
theorem Tiled.next {f : Nat → Nat} {N n : Nat} (h : Tiled f N n N) (hn : n < 14) : Tiled f N (n + 1) 0 := by
  have e : nx f N (n + 1) 0 * 2 ^ (14 - (n + 1)) = nx f N n N * 2 ^ (14 - n) := by
    rw [nxz_next, Nat.mul_assoc, show 14 - n = (14 - (n + 1)) + 1 by omega, Nat.pow_succ, Nat.mul_comm 2]
  refine ⟨fun i hi ht => ?_, fun p hp => ?_⟩
  · rw [e]; exact h.below i hi ((Tld.next hi).2 ht)
  · rw [e] at hp
    obtain ⟨i, a, b, c⟩ := h.full p hp
    exact ⟨i, a, (Tld.next a).1 b, c⟩
theorem tiled_row {f : Nat → Nat} {N n : Nat} (h : Tiled f N n 0) : ∀ k, k ≤ N → Tiled f N n k
  | 0, _ => h
  | k + 1, hk => by
    by_cases e : f k = n + 1
    · exact (tiled_row h k (by omega)).hand (by omega) e
    · exact (tiled_row h k (by omega)).skip e
theorem tiled_start (f : Nat → Nat) (N : Nat) : ∀ n, n ≤ 14 → Tiled f N n 0
  | 0, _ => Tiled.start f N
  | n + 1, hn => (tiled_row (tiled_start f N n (by omega)) N (Nat.le_refl _)).next (by omega)
theorem tiled_all (f : Nat → Nat) (N : Nat) {n k : Nat} (hn : n ≤ 14) (hk : k ≤ N) : Tiled f N n k := tiled_row (tiled_start f N n hn) k hk

theorem pow_split {a b : Nat} (h : a ≤ b) (hb : b ≤ 15) : 2 ^ (15 - a) = 2 ^ (b - a) * 2 ^ (15 - b) := by
  rw [← Nat.pow_add, show b - a + (15 - b) = 15 - a by omega]

/-- No code begins with another one, as numbers. -/
theorem nu_apart {f : Nat → Nat} {N i j : Nat} (hi : i < N) (hj : j < N) (h0 : 0 < f j) (hle : f j ≤ f i) (h15 : f i ≤ 15) (hne : i ≠ j) : nu f N i / 2 ^ (f i - f j) ≠ nu f N j := by
  have key : ∀ i j, i < N → j < N → 0 < f j → f j ≤ f i → f i ≤ 15 → (f j < f i ∨ j < i) → (nu f N j + 1) * 2 ^ (f i - f j) ≤ nu f N i := fun i j hi hj h0 hle h15 hlt => by
    obtain ⟨n, hn⟩ : ∃ n, f i = n + 1 := ⟨f i - 1, by omega⟩
    have h1 := (tiled_all f N (n := n) (k := i) (by omega) (by omega)).below j hj (by unfold Tld; omega)
    rw [← nu_of hn, pow_split hle h15, ← Nat.mul_assoc, show 14 - n = 15 - f i by omega] at h1
    exact Nat.le_of_mul_le_mul_right h1 (Nat.two_pow_pos _)
  by_cases hlt : f j < f i ∨ j < i
  · have h1 := key i j hi hj h0 hle h15 hlt
    have h2 : nu f N j + 1 ≤ nu f N i / 2 ^ (f i - f j) := (Nat.le_div_iff_mul_le (Nat.two_pow_pos _)).2 h1
    omega
  · have e : f i = f j := by omega
    have h1 := key j i hj hi (by omega) (by omega) (by omega) (.inr (by omega))
    rw [e, Nat.sub_self, Nat.pow_zero] at *
    omega

theorem rt_full {f : Nat → Nat} : ∀ {N : Nat}, (∀ i, i < N → f i ≤ 15) → rt f 15 N = room N 15 f
  | 0, _ => by simp [rt, room, sm]
  | N + 1, h => by
    rw [rt_succ, room_succ, rt_full (fun i hi => h i (by omega))]
    have := h N (by omega)
    by_cases h0 : 0 < f N
    · rw [if_pos ⟨h0, this⟩, if_pos h0]
    · rw [if_neg (fun h => h0 h.1), if_neg h0]
theorem nu_full {f : Nat → Nat} {N p : Nat} (hr : room N 15 f = 32768) (h15 : ∀ i, i < N → f i ≤ 15) (hp : p < 32768) : ∃ i, i < N ∧ 0 < f i ∧ nu f N i * 2 ^ (15 - f i) ≤ p ∧ p < (nu f N i + 1) * 2 ^ (15 - f i) := by
  have h1 := rt_en f N 15 (Nat.le_refl _)
  rw [rt_full h15, hr, Nat.sub_self, Nat.pow_zero, Nat.mul_one] at h1
  have h2 : nx f N 14 N = en f N 15 := rfl
  obtain ⟨i, a, b, c⟩ := (tiled_all f N (n := 14) (k := N) (Nat.le_refl _) (Nat.le_refl _)).full p (by rw [h2, h1]; simpa using hp)
  exact ⟨i, a, b.1, c⟩

theorem nu_fits {f : Nat → Nat} {N i : Nat} (hr : room N 15 f ≤ 32768) (hi : i < N) (h0 : 0 < f i) (h15 : f i ≤ 15) : nu f N i < 2 ^ f i := by
  obtain ⟨n, hn⟩ : ∃ n, f i = n + 1 := ⟨f i - 1, by omega⟩
  rw [nu_of hn, hn]
  exact nx_fits hr (by omega) hi hn


theorem trn_low (n x : Nat) : trn n 0 x < 2 ^ n := by
  have := trn_lt n 0 x
  rwa [Nat.zero_add, Nat.one_mul] at this
/-- The lowest bits of a number that was turned are its highest, turned. -/
theorem trn_mod : ∀ n t x, t ≤ n → trn n 0 x % 2 ^ t = trn t 0 (x / 2 ^ (n - t))
  | 0, t, x, h => by
    obtain rfl : t = 0 := by omega
    simp [trn]
  | n + 1, t, x, h => by
    by_cases e : t = n + 1
    · subst e
      rw [Nat.sub_self, Nat.pow_zero, Nat.div_one, Nat.mod_eq_of_lt (trn_low _ _)]
    · have h1 : t ≤ n := by omega
      rw [trn, trn_acc, Nat.zero_mul, Nat.zero_add, show x % 2 * 2 ^ n = 2 ^ t * (x % 2 * 2 ^ (n - t)) by
        rw [Nat.mul_comm (2 ^ t), Nat.mul_assoc, ← Nat.pow_add, Nat.sub_add_cancel h1], Nat.mul_add_mod, trn_mod n t _ h1, Nat.div_div_eq_div_mul, ← Nat.pow_succ', show (n - t).succ = n + 1 - t by omega]
/-- No code begins with another one, as numbers whose first bit is lowest. -/
theorem cdn_apart {ls : List Nat} (hc : chk ls = 0) {i k : Nat} (hi : i < ls.length) (hk : k < ls.length) (h0 : 0 < lq ls i) (hle : lq ls i ≤ lq ls k) (hne : i ≠ k) : cd (lq ls) ls.length k % 2 ^ lq ls i ≠ cd (lq ls) ls.length i := by
  intro h
  have hr := room_of_chk hc
  have h15 := (chk_zero hc).2.1
  have f1 := nu_fits hr hi h0 (h15 i hi)
  have f2 := nu_fits hr hk (by omega) (h15 k hk)
  unfold cd at h
  rw [trn_mod _ _ _ hle] at h
  refine nu_apart hk hi h0 hle (h15 k hk) (Ne.symm hne) ?_
  refine (trn_inj _ _ _ _ _ ?_ f1 h).2
  rw [Nat.div_lt_iff_lt_mul (Nat.two_pow_pos _), ← Nat.pow_add, show lq ls i + (lq ls k - lq ls i) = lq ls k by omega]
  exact f2

end Go.Proofs.Ytdcmalbbijchiaa
