/- Several texts in one, each with its own head. -/
import Derived.Test.YtdcmalbbijchiaaZq29
/- inflate: Inflate as it is called. -/
namespace Go.Proofs.Ytdcmalbbijchiaa
open Go.RowKit Go.Maps

/-- What Inflate answers: bytes, how many were read, an error. -/
inductive Infl (l : List Nat) (limit : Int) : List Nat → Nat → Int → Prop where
  | arg (h : limit < 0 ∨ 524288 < limit) : Infl l limit [] 0 1
  | go (lim a : Nat) (o : List Nat) (h : limit = (lim : Int)) (h1 : lim ≤ 524288) (h2 : InfBl l lim 0 [] (.go a o)) : Infl l limit o (alN a / 8) 0
  | no (lim : Nat) (er : Int) (h : limit = (lim : Int)) (h1 : lim ≤ 524288) (h2 : InfBl l lim 0 [] (.no er)) : Infl l limit [] 0 er

set_option maxRecDepth 200000 in
set_option maxHeartbeats 4000000 in
theorem infl_any (v : Value) (l : List Nat) (limit : Int) (w : World) (hv : Rw8 w v l) (hb : ∀ b ∈ l, b < 256) (hlen : l.length ≤ 1073741824) :
    Calls Try.prog 8 #[v, .int .i64 limit] w fun e w' => ∃ (o : List Nat) (k : Nat) (er : Int) (ov : Value), Infl l limit o k er ∧ e = .returned (.tuple #[ov, .int .i64 (k : Int), .int .i64 er]) ∧ w'.ownsRow w.heap.size 5 1 ov o.length (o.map u8v) ∧ Below w.heap.size w w' := by
  have Hv := Lib.hid hv
  have Hb := Lib.hid hb
  obtain ⟨p, c, rfl, -⟩ := hv.cells
  clear hv hb
  by_cases hneg : limit < 0
  · have d0 : decide (limit < 0) = true := by simpa using hneg
    go_enter Try.func8, Try.ntmps8
    go_wp2
    go_ret3
    refine ⟨[], 0, 1, .slice none 0 0, .arg (.inl hneg), rfl, World.ownsRow_nil _ _ _ _, Below.refl _ _⟩
  have d0 : decide (limit < 0) = false := by simpa using hneg
  by_cases hbig : 524288 < limit
  · have d1 : decide (limit > 524288) = true := by simpa using hbig
    go_enter Try.func8, Try.ntmps8
    go_wp2
    go_ret3
    exact ⟨[], 0, 1, .arg (.inr hbig), .slice none 0 0, rfl, World.ownsRow_nil _ _ _ _, Below.refl _ _⟩
  have d1 : decide (limit > 524288) = false := by simpa using hbig
  obtain ⟨lim, rfl⟩ := Int.eq_ofNat_of_zero_le (Int.not_lt.1 hneg)
  go_enter Try.func8, Try.ntmps8
  go_wp2_with fail
  refine Calls.mono (new_any _ l w Hv.out Hb.out hlen) ?_
  rintro e w1 ⟨B, sv, rfl, hrd, hbl, hB, hsv⟩
  have Hrd := Lib.hid hrd
  have Hbl := Lib.hid hbl
  have Hsv := Lib.hid (And.intro hB hsv)
  clear hrd hbl hB hsv
  have hb1 := Below.al1 w1 (.cells #[.pointer (some ⟨B, 0, none⟩), .slice none 0 0, .int .i64 (lim : Int), .pointer none] 62)
  have hBl := Hrd.out.size
  have HS : Hid (Sm (w1.alloc (.cells #[.pointer (some ⟨B, 0, none⟩), .slice none 0 0, .int .i64 (lim : Int), .pointer none] 62)) w.heap.size w1.heap.size B sv (.slice none 0 0) (.pointer none) l lim 0 []) := Lib.hid
    ⟨World.alloc_heap_new _ _, Hrd.out.below hb1, World.ownsRow_nil _ _ _ _, .inl rfl, ⟨by omega, fun e => by have := Hrd.out.row.lt _ e; omega, fun e => (by cases e), fun e => (by cases e), fun k hk e => (by cases e)⟩, ⟨Hbl.out.size, Hsv.out.1⟩, ⟨Nat.zero_le _, by omega⟩, fun _ h => (by cases h)⟩
  have Hb2 := Lib.hid (Below.thn Hbl.out hb1)
  have HK : Hid (∀ i, KS w1.heap.size B (.slice none 0 0) i → w.heap.size ≤ i) := Lib.hid (fun i hi => by
    rcases hi with rfl | rfl | hi
    · exact Hbl.out.size
    · exact Hsv.out.1
    · cases hi)
  clear hb1 hBl
  go_wp2_with fail
  refine Calls.mono (iread_any _ HS.out) ?_
  rintro e w2 (⟨a', o, ov', uv', hbk, rfl, hs⟩ | ⟨er, hbk, hne, rfl, hs⟩)
  · have Hs := Lib.hid hs.1
    have Hbk := Lib.hid hbk
    have Hb3 := Lib.hid (Hb2.out.trans (hs.2.below Hb2.out.size HK.out))
    have e0 := hs.1.c0
    have e1 := hs.1.c1
    obtain ⟨q, cq, rfl⟩ := owns_slice hs.1.out
    clear hs hbk
    obtain ⟨A, hA⟩ : ∃ A, alN a' = A := ⟨_, rfl⟩
    have HA := Lib.hid hA
    rw [hA] at Hs
    have hpos := Hs.out.rd.pos
    have hlen2 := Hs.out.rd.len
    obtain ⟨z, hz⟩ : ∃ z, A / 8 = z := ⟨_, rfl⟩
    have hq1 : (A : Int) / 8 = (z : Int) := by omega
    have hq1' : (A : Int).tdiv 8 = (z : Int) := by rw [← hz]; rfl
    have hq2 : wrap64 (z : Int) = (z : Int) := wrap64_in _ (by omega)
    have hq2' : IntKind.i64.wrap (z : Int) = (z : Int) := IntWalk.i64_in _ (by omega)
    have Hz := Lib.hid hz
    clear hz
    clear hA
    go_upto_region 7 with (fail)
    go_quiet ((go_at_call 23; exact Calls.quiet_of_same (at_any B A sv l _ (Hs.out.rd.below (Below.drewN' (Below.refl _ _) _)))))
    rename_i nq
    have hd : Below w2.heap.size w2 (w2.drewN nq) := Below.drewN' (Below.refl _ _) nq
    go_wp2
    go_ret3
    first
      | exact ⟨o, z, 0, .slice q o.length cq, by rw [← Hz.out, ← HA.out]; exact .go lim a' o rfl (by omega) Hbk.out, rfl, (Hs.out.below hd).1.out, Hb3.out.trans (hd.mono Hb3.out.size)⟩
      | exact ⟨o, z, 0, by rw [← Hz.out, ← HA.out]; exact .go lim a' o rfl (by omega) Hbk.out, .slice q o.length cq, rfl, (Hs.out.below hd).1.out, Hb3.out.trans (hd.mono Hb3.out.size)⟩
  · have Hbk := Lib.hid hbk
    have Hb3 := Lib.hid (Hb2.out.trans (hs.below Hb2.out.size HK.out))
    have d2 : (er != 0) = true := by simpa using hne
    clear hs hbk
    go_wp2
    go_ret3
    refine ⟨[], 0, er, .slice none 0 0, .no lim er rfl (by omega) Hbk.out, rfl, World.ownsRow_nil _ _ _ _, Hb3.out⟩

end Go.Proofs.Ytdcmalbbijchiaa

/- inflate, plainly: each step has one answer; what the example tells. -/
namespace Go.Proofs.Ytdcmalbbijchiaa

/-- There is a table of every code whose codes are apart. -/
theorem told_ex {f : Nat → Nat} {N : Nat} (ha : Apt f N) : ∀ n, (∃ F L, ToldF f N n 0 F ∧ ToldM f N n 0 L) ∧ ∀ k, k ≤ N → ∃ F L, ToldF f N n k F ∧ ToldM f N n k L := by
  have step : ∀ n, (∃ F L, ToldF f N n 0 F ∧ ToldM f N n 0 L) → ∀ k, k ≤ N → ∃ F L, ToldF f N n k F ∧ ToldM f N n k L := fun n h0 k => by
    induction k with
    | zero => exact fun _ => h0
    | succ k ih =>
      intro hk
      obtain ⟨F, L, h1, h2⟩ := ih (by omega)
      by_cases e : f k = n + 1
      · exact ⟨_, _, h1.hand ha (by omega) e, h2.hand (by omega) e⟩
      · exact ⟨F, L, h1.congr (fun i _ => Tld.skip e), h2.congr (fun i _ => Tld.skip e)⟩
  intro n
  induction n with
  | zero =>
    have h0 : ∃ F L, ToldF f N 0 0 F ∧ ToldM f N 0 0 L := ⟨fun _ => none, 0, ⟨fun i hi ht => by unfold Tld at ht; omega, fun q x hx => by cases hx⟩, ⟨fun i hi ht => by unfold Tld at ht; omega, .inl rfl⟩⟩
    exact ⟨h0, step 0 h0⟩
  | succ n ih =>
    obtain ⟨F, L, h1, h2⟩ := ih.2 N (Nat.le_refl _)
    have h0 : ∃ F L, ToldF f N (n + 1) 0 F ∧ ToldM f N (n + 1) 0 L := ⟨F, L, h1.congr (fun i hi => Tld.next hi), h2.congr (fun i hi => Tld.next hi)⟩
    exact ⟨h0, step (n + 1) h0⟩
theorem told_of_chk {ls : List Nat} (h : chk ls = 0) : ∃ F L, ToldF (lq ls) ls.length 15 0 F ∧ ToldM (lq ls) ls.length 15 0 L := (told_ex (apt_chk h) 15).1

/-- The fixed code's lengths, told at once. -/
def fixG (i : Nat) : Nat := if i < 144 then 8 else if i < 256 then 9 else if i < 280 then 7 else if i < 288 then 8 else 0
theorem fixA_at : ∀ i, i < 288 → lq fixA i = fixG i := by decide +kernel
theorem fixA_lq : lq fixA = fixG := by
  funext i
  by_cases h : i < 288
  · exact fixA_at i h
  · have h1 : lq fixA i = 0 := by
      unfold lq
      rw [List.getD_eq_getElem?_getD, List.getElem?_eq_none (by rw [fixA_len]; omega)]
      rfl
    rw [h1]; unfold fixG
    rw [if_neg (by omega), if_neg (by omega), if_neg (by omega), if_neg h]

theorem fixG_le : ∀ x, x < 288 → fixG x ≤ 9 ∧ 0 < fixG x := by decide +kernel

/-- A symbol of the fixed code, read where its bits stand. -/
theorem sy_fix {l : List Nat} {a x s : Nat} (hx : x < 288) (h1 : 1 ≤ s) (hs : fixG x = s) (hb : nb l a s = cd fixG 288 x) (hn : ∀ t, t < s → 1 ≤ t → ∀ i, i < 288 → ¬ (fixG i = t ∧ nb l a t = cd fixG 288 i)) (hl : a + s ≤ 8 * l.length) : Sy fixA l a x 0 s := by
  obtain ⟨F, L, hF, hM⟩ := told_of_chk fixA_chk
  refine ⟨F, L, hF, hM, ?_⟩
  rw [fixA_lq, fixA_len] at hF hM
  have h9 := fixG_le x hx
  have hL : fixG x ≤ L := hM.ge x hx ⟨h9.2, .inl (by omega)⟩
  refine ⟨fun t t1 t2 => ?_, ⟨by omega, hl⟩, .inl ⟨rfl, h1, ?_⟩⟩
  · cases e : F (bt l a t, t) with
    | none => rfl
    | some i =>
      obtain ⟨i1, i2, i3⟩ := hF.out _ _ e
      simp only [Prod.mk.injEq] at i3
      exact absurd ⟨i3.2.symm, i3.1⟩ (hn t t2 t1 i i1)
  · have := hF.has x hx ⟨h9.2, .inl (by omega)⟩
    rw [hs] at this
    rw [show bt l a s = cd fixG 288 x from hb]
    exact this

/-- The example: the bytes of abc. -/
def abcL : List Nat := [75, 76, 74, 6, 0, 9]
theorem abc_a : Sy fixA abcL 3 97 0 8 := sy_fix (by decide) (by decide) (by decide) (by decide +kernel) (by decide +kernel) (by decide)
theorem abc_b : Sy fixA abcL 11 98 0 8 := sy_fix (by decide) (by decide) (by decide) (by decide +kernel) (by decide +kernel) (by decide)
theorem abc_c : Sy fixA abcL 19 99 0 8 := sy_fix (by decide) (by decide) (by decide) (by decide +kernel) (by decide +kernel) (by decide)
theorem abc_e : Sy fixA abcL 27 256 0 7 := sy_fix (by decide) (by decide) (by decide) (by decide +kernel) (by decide +kernel) (by decide)
theorem abc_runs : InfBl abcL 10 0 [] (.go 34 [97, 98, 99]) :=
  .last 0 [] (by decide) (by decide +kernel) 34 _ (.fixed (by decide) (by decide +kernel) _
    (.more 3 11 [] [97] _ (.byte 97 8 abc_a (by decide) (by decide)) (.more 11 19 [97] [97, 98] _ (.byte 98 8 abc_b (by decide) (by decide)) (.more 19 27 [97, 98] [97, 98, 99] _ (.byte 99 8 abc_c (by decide) (by decide)) (.fin 27 34 _ (.fin 7 abc_e))))))

/-- What a repetition comes to, told by what is read. -/
theorem InfRp.view {D l : List Nat} {lim a x : Nat} {o : List Nat} {r : InfSt} (h : InfRp D l lim a x o r) :
    (285 < x ∧ r = .no 80) ∨ (x ≤ 285 ∧ 8 * l.length < a + lnBits x ∧ r = .no 50) ∨ (x ≤ 285 ∧ a + lnBits x ≤ 8 * l.length ∧ ∃ y e t, Sy D l (a + lnBits x) y e t ∧
      ((e ≠ 0 ∧ r = .no e) ∨ (e = 0 ∧ 29 < y ∧ r = .no 80) ∨ (e = 0 ∧ y ≤ 29 ∧ 8 * l.length < a + lnBits x + t + dsBits y ∧ r = .no 50) ∨
       (e = 0 ∧ y ≤ 29 ∧ a + lnBits x + t + dsBits y ≤ 8 * l.length ∧
        ((o.length < dsBase y + nb l (a + lnBits x + t) (dsBits y) ∧ r = .no 70) ∨
         (dsBase y + nb l (a + lnBits x + t) (dsBits y) ≤ o.length ∧ lim < o.length + (lnBase x + nb l a (lnBits x)) ∧ r = .no 81) ∨
         (dsBase y + nb l (a + lnBits x + t) (dsBits y) ≤ o.length ∧ o.length + (lnBase x + nb l a (lnBits x)) ≤ lim ∧
          r = .go (a + lnBits x + t + dsBits y) (ext (dsBase y + nb l (a + lnBits x + t) (dsBits y)) (lnBase x + nb l a (lnBits x)) o)))))) := by
  cases h with
  | far h => exact .inl ⟨h, rfl⟩
  | few h h1 => exact .inr (.inl ⟨h, h1, rfl⟩)
  | bad h h1 y t e h2 h3 => exact .inr (.inr ⟨h, h1, y, e, t, h2, .inl ⟨h3, rfl⟩⟩)
  | wide h h1 y t h2 h3 => exact .inr (.inr ⟨h, h1, y, 0, t, h2, .inr (.inl ⟨rfl, h3, rfl⟩)⟩)
  | few2 h h1 y t h2 h3 h4 => exact .inr (.inr ⟨h, h1, y, 0, t, h2, .inr (.inr (.inl ⟨rfl, h3, h4, rfl⟩))⟩)
  | dist h h1 y t h2 h3 h4 h5 => exact .inr (.inr ⟨h, h1, y, 0, t, h2, .inr (.inr (.inr ⟨rfl, h3, h4, .inl ⟨h5, rfl⟩⟩))⟩)
  | over h h1 y t h2 h3 h4 h5 h6 => exact .inr (.inr ⟨h, h1, y, 0, t, h2, .inr (.inr (.inr ⟨rfl, h3, h4, .inr (.inl ⟨h5, h6, rfl⟩)⟩))⟩)
  | done h h1 y t h2 h3 h4 h5 h6 => exact .inr (.inr ⟨h, h1, y, 0, t, h2, .inr (.inr (.inr ⟨rfl, h3, h4, .inr (.inr ⟨h5, h6, rfl⟩)⟩))⟩)
theorem InfRp.det {D l : List Nat} {lim a x : Nat} {o : List Nat} {r r' : InfSt} (h : InfRp D l lim a x o r) (h' : InfRp D l lim a x o r') : r = r' := by
  rcases h.view with ⟨p1, rfl⟩ | ⟨p1, p2, rfl⟩ | ⟨p1, p2, y, e, t, p3, p⟩ <;> rcases h'.view with ⟨q1, rfl⟩ | ⟨q1, q2, rfl⟩ | ⟨q1, q2, y', e', t', q3, q⟩ <;> first | rfl | (exfalso; omega) | skip
  obtain ⟨rfl, rfl, rfl⟩ := p3.only q3
  rcases p with ⟨p4, rfl⟩ | ⟨p4, p5, rfl⟩ | ⟨p4, p5, p6, rfl⟩ | ⟨p4, p5, p6, p7⟩ <;> rcases q with ⟨q4, rfl⟩ | ⟨q4, q5, rfl⟩ | ⟨q4, q5, q6, rfl⟩ | ⟨q4, q5, q6, q7⟩ <;> first | rfl | (exfalso; omega) | skip
  rcases p7 with ⟨p7, rfl⟩ | ⟨p7, p8, rfl⟩ | ⟨p7, p8, rfl⟩ <;> rcases q7 with ⟨q7, rfl⟩ | ⟨q7, q8, rfl⟩ | ⟨q7, q8, rfl⟩ <;> first | rfl | (exfalso; omega)

theorem InfTk.view {A D l : List Nat} {lim a : Nat} {o : List Nat} {r : InfSt} (h : InfTk A D l lim a o r) : ∃ x e s, Sy A l a x e s ∧
    ((e ≠ 0 ∧ r = .no e) ∨ (e = 0 ∧ x = 256 ∧ r = .fin (a + s)) ∨ (e = 0 ∧ x < 256 ∧ o.length < lim ∧ r = .go (a + s) (o ++ [x])) ∨ (e = 0 ∧ x < 256 ∧ lim ≤ o.length ∧ r = .no 81) ∨ (e = 0 ∧ 256 < x ∧ InfRp D l lim (a + s) x o r)) := by
  cases h with
  | bad x s e h h1 => exact ⟨x, e, s, h, .inl ⟨h1, rfl⟩⟩
  | fin s h => exact ⟨256, 0, s, h, .inr (.inl ⟨rfl, rfl, rfl⟩)⟩
  | byte x s h h1 h2 => exact ⟨x, 0, s, h, .inr (.inr (.inl ⟨rfl, h1, h2, rfl⟩))⟩
  | full x s h h1 h2 => exact ⟨x, 0, s, h, .inr (.inr (.inr (.inl ⟨rfl, h1, h2, rfl⟩)))⟩
  | rep x s r h h1 h2 => exact ⟨x, 0, s, h, .inr (.inr (.inr (.inr ⟨rfl, h1, h2⟩)))⟩
theorem InfTk.det {A D l : List Nat} {lim a : Nat} {o : List Nat} {r r' : InfSt} (h : InfTk A D l lim a o r) (h' : InfTk A D l lim a o r') : r = r' := by
  obtain ⟨x, e, s, p, p'⟩ := h.view
  obtain ⟨x', e', s', q, q'⟩ := h'.view
  obtain ⟨rfl, rfl, rfl⟩ := p.only q
  rcases p' with ⟨p1, rfl⟩ | ⟨p1, p2, rfl⟩ | ⟨p1, p2, p3, rfl⟩ | ⟨p1, p2, p3, rfl⟩ | ⟨p1, p2, p3⟩ <;> rcases q' with ⟨q1, rfl⟩ | ⟨q1, q2, rfl⟩ | ⟨q1, q2, q3, rfl⟩ | ⟨q1, q2, q3, rfl⟩ | ⟨q1, q2, q3⟩ <;> first | rfl | (exfalso; omega) | exact p3.det q3
theorem InfToks.det {A D l : List Nat} {lim a : Nat} {o : List Nat} {r : InfSt} (h : InfToks A D l lim a o r) : ∀ r', InfToks A D l lim a o r' → r = r' := by
  induction h with
  | fin a a' o h =>
    intro r' h'
    cases h' with
    | fin _ a2 _ h2 => have := h.det h2; injection this with this; rw [this]
    | no _ _ e h2 => have := h.det h2; cases this
    | more _ a2 _ o2 _ h2 h3 => have := h.det h2; cases this
  | no a o e h =>
    intro r' h'
    cases h' with
    | fin _ a2 _ h2 => have := h.det h2; cases this
    | no _ _ e h2 => have := h.det h2; injection this with this; rw [this]
    | more _ a2 _ o2 _ h2 h3 => have := h.det h2; cases this
  | more a a' o o' r h h1 ih =>
    intro r' h'
    cases h' with
    | fin _ a2 _ h2 => have := h.det h2; cases this
    | no _ _ e h2 => have := h.det h2; cases this
    | more _ a2 _ o2 _ h2 h3 =>
      have := h.det h2
      injection this with e1 e2
      subst e1; subst e2
      exact ih r' h3
theorem InfSd.det {l : List Nat} {lim a : Nat} {o : List Nat} {r r' : InfSt} (h : InfSd l lim a o r) (h' : InfSd l lim a o r') : r = r' := by
  cases h <;> cases h' <;> first | rfl | (exfalso; omega)
theorem SvC.only {x k c v k' c' v' : Nat} {ls : List Nat} (h : SvC x k c v ls) (h' : SvC x k' c' v' ls) : k = k' ∧ c = c' ∧ v = v' := by
  unfold SvC at h h'
  omega
theorem InfSv.det {C l : List Nat} {n a : Nat} {ls : List Nat} {r r' : InfSt} (h : InfSv C l n a ls r) (h' : InfSv C l n a ls r') : r = r' := by
  cases h with
  | bad x s e h h1 =>
    cases h' with
    | bad _ _ _ k k1 => obtain ⟨rfl, rfl, rfl⟩ := h.only k; rfl
    | first _ k k1 => obtain ⟨rfl, rfl, rfl⟩ := h.only k; exact absurd rfl h1
    | few _ _ _ _ _ k => obtain ⟨rfl, rfl, rfl⟩ := h.only k; exact absurd rfl h1
    | many _ _ _ _ _ k => obtain ⟨rfl, rfl, rfl⟩ := h.only k; exact absurd rfl h1
    | go _ _ _ _ _ k => obtain ⟨rfl, rfl, rfl⟩ := h.only k; exact absurd rfl h1
  | first s h h1 =>
    cases h' with
    | bad _ _ _ k k1 => obtain ⟨rfl, rfl, rfl⟩ := h.only k; exact absurd rfl k1
    | first _ k k1 => rfl
    | few _ _ _ _ _ k k1 => obtain ⟨rfl, -, rfl⟩ := h.only k; exfalso; omega
    | many _ _ _ _ _ k k1 => obtain ⟨rfl, -, rfl⟩ := h.only k; exfalso; omega
    | go _ _ _ _ _ k k1 => obtain ⟨rfl, -, rfl⟩ := h.only k; exfalso; omega
  | few x s k c v h h1 h2 =>
    cases h' with
    | bad _ _ _ k k1 => obtain ⟨rfl, rfl, rfl⟩ := h.only k; exact absurd rfl k1
    | first _ k k1 => obtain ⟨rfl, -, rfl⟩ := h.only k; exfalso; omega
    | few _ _ _ _ _ k k1 => rfl
    | many _ _ _ _ _ k k1 k2 => obtain ⟨rfl, -, rfl⟩ := h.only k; obtain ⟨rfl, rfl, rfl⟩ := SvC.only h1 k1; exfalso; omega
    | go _ _ _ _ _ k k1 k2 => obtain ⟨rfl, -, rfl⟩ := h.only k; obtain ⟨rfl, rfl, rfl⟩ := SvC.only h1 k1; exfalso; omega
  | many x s k c v h h1 h2 h3 =>
    cases h' with
    | bad _ _ _ k k1 => obtain ⟨rfl, rfl, rfl⟩ := h.only k; exact absurd rfl k1
    | first _ k k1 => rfl
    | few _ _ _ _ _ k k1 k2 => obtain ⟨rfl, -, rfl⟩ := h.only k; obtain ⟨rfl, rfl, rfl⟩ := SvC.only h1 k1; exfalso; omega
    | many _ _ _ _ _ k k1 k2 => rfl
    | go _ _ _ _ _ k k1 k2 k3 => obtain ⟨rfl, -, rfl⟩ := h.only k; obtain ⟨rfl, rfl, rfl⟩ := SvC.only h1 k1; exfalso; omega
  | go x s k c v h h1 h2 h3 =>
    cases h' with
    | bad _ _ _ k k1 => obtain ⟨rfl, rfl, rfl⟩ := h.only k; exact absurd rfl k1
    | first _ k k1 => obtain ⟨rfl, -, rfl⟩ := h.only k; exfalso; omega
    | few _ _ _ _ _ k k1 k2 => obtain ⟨rfl, -, rfl⟩ := h.only k; obtain ⟨rfl, rfl, rfl⟩ := SvC.only h1 k1; exfalso; omega
    | many _ _ _ _ _ k k1 k2 k3 => obtain ⟨rfl, -, rfl⟩ := h.only k; obtain ⟨rfl, rfl, rfl⟩ := SvC.only h1 k1; exfalso; omega
    | go _ _ _ _ _ k k1 k2 k3 => obtain ⟨rfl, -, rfl⟩ := h.only k; obtain ⟨rfl, rfl, rfl⟩ := SvC.only h1 k1; rfl
theorem InfLs.det {C l : List Nat} {n a : Nat} {ls : List Nat} {r : InfSt} (h : InfLs C l n a ls r) : ∀ r', InfLs C l n a ls r' → r = r' := by
  induction h with
  | fin a ls h =>
    intro r' h'
    cases h' with
    | fin => rfl
    | no => exfalso; omega
    | more => exfalso; omega
  | no a ls e h0 h =>
    intro r' h'
    cases h' with
    | fin => exfalso; omega
    | no _ _ e' _ h2 => have := h.det h2; injection this with this; rw [this]
    | more _ a2 _ o2 _ _ h2 h3 => have := h.det h2; cases this
  | more a a' ls ls' r h0 h h1 ih =>
    intro r' h'
    cases h' with
    | fin => exfalso; omega
    | no _ _ e' _ h2 => have := h.det h2; cases this
    | more _ a2 _ o2 _ _ h2 h3 =>
      have := h.det h2
      injection this with e1 e2
      subst e1; subst e2
      exact ih r' h3
theorem InfDy.det {l : List Nat} {a n n' : Nat} {r r' : InfSt} (h : InfDy l a n r) (h' : InfDy l a n' r') : n = n' ∧ r = r' := by
  cases h with
  | few h => cases h' <;> first | exact ⟨rfl, rfl⟩ | (exfalso; omega)
  | many h h1 => cases h' <;> first | exact ⟨rfl, rfl⟩ | (exfalso; omega)
  | few2 h h1 h2 => cases h' <;> first | exact ⟨rfl, rfl⟩ | (exfalso; omega)
  | code h h1 h2 h3 => cases h' <;> first | exact ⟨rfl, rfl⟩ | (exfalso; omega) | (exact absurd (by assumption) h3)
  | lens h h1 h2 h3 e h4 =>
    cases h' with
    | few => exfalso; omega
    | many => exfalso; omega
    | few2 => exfalso; omega
    | code _ _ _ k => exact absurd h3 k
    | lens _ _ _ _ e' k4 => have := h4.det _ k4; injection this with this; rw [this]; exact ⟨rfl, rfl⟩
    | last _ _ _ _ a' ls k4 => have := h4.det _ k4; cases this
    | done _ _ _ _ a' ls k4 => have := h4.det _ k4; cases this
  | last h h1 h2 h3 a' ls h4 e h5 =>
    cases h' with
    | few => exfalso; omega
    | many => exfalso; omega
    | few2 => exfalso; omega
    | code _ _ _ k => exact absurd h3 k
    | lens _ _ _ _ e' k4 => have := h4.det _ k4; cases this
    | last _ _ _ _ a2 ls2 k4 e2 k5 =>
      have := h4.det _ k4
      injection this with e1 e3
      subst e1; subst e3
      rcases h5 with ⟨p, rfl⟩ | ⟨p, p2, rfl⟩ | ⟨p, p2, p3, rfl⟩ <;> rcases k5 with ⟨q, rfl⟩ | ⟨q, q2, rfl⟩ | ⟨q, q2, q3, rfl⟩ <;> first | exact ⟨rfl, rfl⟩ | (exfalso; omega)
    | done _ _ _ _ a2 ls2 k4 k5 =>
      have := h4.det _ k4
      injection this with e1 e3
      subst e1; subst e3
      exfalso; omega
  | done h h1 h2 h3 a' ls h4 h5 =>
    cases h' with
    | few => exfalso; omega
    | many => exfalso; omega
    | few2 => exfalso; omega
    | code _ _ _ k => exact absurd h3 k
    | lens _ _ _ _ e' k4 => have := h4.det _ k4; cases this
    | last _ _ _ _ a2 ls2 k4 e2 k5 =>
      have := h4.det _ k4
      injection this with e1 e3
      subst e1; subst e3
      exfalso; omega
    | done _ _ _ _ a2 ls2 k4 k5 =>
      have := h4.det _ k4
      injection this with e1 e3
      subst e1; subst e3
      exact ⟨rfl, rfl⟩
theorem InfBk.det {l : List Nat} {lim a : Nat} {o : List Nat} {r r' : InfSt} (h : InfBk l lim a o r) (h' : InfBk l lim a o r') : r = r' := by
  cases h with
  | few h => cases h' <;> first | rfl | (exfalso; omega)
  | stored h h1 r h2 =>
    cases h' with
    | stored _ _ _ k2 => exact h2.det k2
    | _ => exfalso; omega
  | fixed h h1 r h2 =>
    cases h' with
    | fixed _ _ _ k2 => exact h2.det _ k2
    | _ => exfalso; omega
  | bad h h1 e h2 =>
    cases h' with
    | bad _ _ _ k2 => have := (h2.det k2).2; exact this
    | dyn _ _ n a' ls k2 => have := (h2.det k2).2; cases this
    | _ => exfalso; omega
  | dyn h h1 n a' ls h2 r h3 =>
    cases h' with
    | bad _ _ _ k2 => have := (h2.det k2).2; cases this
    | dyn _ _ n2 a2 ls2 k2 _ k3 =>
      obtain ⟨e0, e⟩ := h2.det k2
      injection e with e1 e2
      subst e0; subst e1; subst e2
      exact h3.det _ k3
    | _ => exfalso; omega
  | unknown h h1 => cases h' <;> first | rfl | (exfalso; omega)
theorem InfBl.det {l : List Nat} {lim a : Nat} {o : List Nat} {r : InfSt} (h : InfBl l lim a o r) : ∀ r', InfBl l lim a o r' → r = r' := by
  induction h with
  | few a o h => intro r' h'; cases h' <;> first | rfl | (exfalso; omega)
  | no a o h e h1 =>
    intro r' h'
    cases h' with
    | few => exfalso; omega
    | no _ _ _ e' k => have := h1.det k; exact this
    | last _ _ _ _ a' o' k => have := h1.det k; cases this
    | more _ _ _ _ a' o' k => have := h1.det k; cases this
  | last a o h h1 a' o' h2 =>
    intro r' h'
    cases h' with
    | few => exfalso; omega
    | no _ _ _ e' k => have := h2.det k; cases this
    | last _ _ _ _ a2 o2 k => exact h2.det k
    | more _ _ _ k1 => exact absurd h1 k1
  | more a o h h1 a' o' h2 r h3 ih =>
    intro r' h'
    cases h' with
    | few => exfalso; omega
    | no _ _ _ e' k => have := h2.det k; cases this
    | last _ _ _ k1 => exact absurd k1 h1
    | more _ _ _ _ a2 o2 k _ k3 =>
      have := h2.det k
      injection this with e1 e2
      subst e1; subst e2
      exact ih r' k3
theorem Infl.det {l : List Nat} {limit : Int} {o o' : List Nat} {k k' : Nat} {e e' : Int} (h : Infl l limit o k e) (h' : Infl l limit o' k' e') : o = o' ∧ k = k' ∧ e = e' := by
  cases h with
  | arg h => cases h' <;> first | exact ⟨rfl, rfl, rfl⟩ | (exfalso; omega)
  | go lim a o h h1 h2 =>
    cases h' with
    | arg => exfalso; omega
    | go lim' a' o' k k1 k2 =>
      obtain rfl : lim = lim' := by omega
      have := h2.det _ k2
      injection this with e1 e2
      subst e1; subst e2
      exact ⟨rfl, rfl, rfl⟩
    | no lim' er k k1 k2 =>
      obtain rfl : lim = lim' := by omega
      have := h2.det _ k2
      cases this
  | no lim er h h1 h2 =>
    cases h' with
    | arg => exfalso; omega
    | go lim' a' o' k k1 k2 =>
      obtain rfl : lim = lim' := by omega
      have := h2.det _ k2
      cases this
    | no lim' er k k1 k2 =>
      obtain rfl : lim = lim' := by omega
      have := h2.det _ k2
      injection this with e1
      subst e1
      exact ⟨rfl, rfl, rfl⟩

theorem abc_infl : Infl abcL 10 [97, 98, 99] 5 0 := .go 10 34 _ rfl (by decide) abc_runs

end Go.Proofs.Ytdcmalbbijchiaa
