/- Several texts in one, each with its own head. -/
import Derived.Test.YtajidlihepjegaaK835
/- inflate: several: one more length that is told, and how many times. -/
namespace Go.Proofs.Ytajidlihepjegaa
open Go.RowKit Go.Maps

/-- What a symbol x of the lengths' code tells, behind ls: c times and the number of k bits more, the length v. -/
abbrev SvC (x k c v : Nat) (ls : List Nat) : Prop :=
  x = 16 ∧ 0 < ls.length ∧ k = 2 ∧ c = 3 ∧ v = ls.getD (ls.length - 1) 0 ∨ x = 17 ∧ k = 3 ∧ c = 3 ∧ v = 0 ∨ x = 18 ∧ k = 7 ∧ c = 11 ∧ v = 0 ∨ x < 16 ∧ k = 0 ∧ c = 1 ∧ v = x

theorem getD_last {ls : List Nat} {j : Nat} (h : ls.length = j + 1) : ls[j]'(by omega) = ls.getD (ls.length - 1) 0 := by
  have e : ls.length - 1 = j := by omega
  rw [e, List.getD_eq_getElem?_getD, List.getElem?_eq_getElem (by omega)]
  rfl

section
variable {base S B : Nat} {sv ov uv : Value} {l : List Nat} {lim a : Nat} {o : List Nat}

/-- What several answers. -/
def SevEnds (base S B : Nat) (sv ov uv : Value) (l : List Nat) (lim a : Nat) (o C ls : List Nat) (w : World) (e : Ending) (w' : World) : Prop :=
  (∃ (x s k c v : Nat), Sy C l a x 0 s ∧ SvC x k c v ls ∧ a + s + k ≤ 8 * l.length ∧ e = .returned (.tuple #[.int .u8 (v : Int), .int .i64 ((c + nb l (a + s) k : Nat) : Int)]) ∧ Sm w' base S B sv ov uv l lim (a + s + k) o ∧ Fr S B ov w ov w') ∨
  (∃ er, (∀ n, InfSv C l n a ls (.no er)) ∧ e = thrown er ∧ Turns (KS S B ov) w w')

set_option maxRecDepth 20000 in
set_option maxHeartbeats 4000000 in
theorem isev_any (tv av : Value) (C ls : List Nat) (w : World) (h : Sm w base S B sv ov uv l lim a o) (ht : TblV w (KS S B ov) tv C) (hC : C.length = 19) (ha : Rw8 w av ls) (hap : ∀ k, av.ownBlock = some k → ¬ KS S B ov k) (hls : ls.length ≤ 1000) :
    Calls Try.prog 84 #[.pointer (some ⟨S, 0, none⟩), tv, av] w (SevEnds base S B sv ov uv l lim a o C ls w) := by
  have H := Lib.hid h
  have Ht := Lib.hid ht
  have Ha := Lib.hid ha
  have Hap := Lib.hid hap
  obtain ⟨p, c, rfl, hlc, -, hac⟩ := ha.cells
  have Hac := Lib.hid hac
  obtain ⟨T, M, n, L, F, rfl, -⟩ := ht
  clear h ha hap hac
  go_enter Try.func84, Try.ntmps84
  go_wp2_with fail
  refine Calls.mono (isym_any _ C w H.out Ht.out) ?_
  rintro e w1 ⟨x, er, s, hsy, (⟨rfl, rfl, hs⟩ | ⟨her, rfl, hs⟩)⟩
  case inr =>
    have Hs := Lib.hid hs
    have Hsy := Lib.hid hsy
    clear hs hsy
    go_wp2
    exact ⟨rfl, .inr ⟨er, fun _ => .bad x s er Hsy.out her, rfl, Hs.out⟩⟩
  have hpos := hsy.pos
  have Hsy := Lib.hid hsy
  have H1 := Lib.hid hs
  have Ha1 := Lib.hid (Ha.out.turns hs.2.turns (fun k hk e => Hap.out k hk e))
  clear hs hsy Ht H Ha
  by_cases h16 : x = 16
  · subst h16
    by_cases hn : ls.length = 0
    · have d0 : (((ls.length : Nat) : Int) == 0) = true := by rw [beq_iff_eq]; omega
      go_wp2
      exact ⟨rfl, .inr ⟨80, fun _ => .first s Hsy.out hn, rfl, H1.out.2.turns⟩⟩
    have d0 : (((ls.length : Nat) : Int) == 0) = false := by rw [beq_eq_false_iff_ne]; omega
    have hd := Below.drew (Below.refl w1.heap.size w1)
    obtain ⟨p', c', e', -, -, hac'⟩ := Rw8.cells Ha1.out
    cases e'
    obtain ⟨j, hj⟩ : ∃ j, ls.length = j + 1 := ⟨ls.length - 1, by omega⟩
    obtain ⟨g, off, rfl, hg⟩ := hac' j (by omega)
    have hv : ls[j]'(by omega) = ls.getD (ls.length - 1) 0 := getD_last hj
    rw [hv] at hg
    obtain ⟨v, hv2⟩ : ∃ v, ls.getD (ls.length - 1) 0 = v := ⟨_, rfl⟩
    rw [hv2] at hg
    have Hv := Lib.hid hv2
    have hw1 : IntKind.i64.wrap (((ls.length : Nat) : Int) - 1) = (j : Int) := by rw [IntWalk.i64_in _ (by omega)]; omega
    have j0 : (0 : Int) ≤ (j : Int) := by omega
    have j1 : (j : Int) < ((ls.length : Nat) : Int) := by omega
    have hgk : ¬ KS S B ov g := Hap.out g rfl
    have Hj := Lib.hid hj
    clear hv hv2 hac' hj
    by_cases hfit : a + s + 2 ≤ 8 * l.length
    · obtain ⟨z, hz⟩ : ∃ z, nb l (a + s) 2 = z := ⟨_, rfl⟩
      have hz4 : z < 4 := by rw [← hz]; exact nb_lt _ _ _
      have Hz := Lib.hid hz
      have hw2 : IntKind.i64.wrap (3 + (z : Int)) = ((3 + z : Nat) : Int) := by rw [IntWalk.i64_in _ (by omega)]; omega
      clear hz
      go_upto_region 7 with (fail)
      go_region_with (go_at_call 55; refine (inum_ok 2 (by decide) _ H1.out.1.drew.1 hfit).mono ?_; rintro e w2 ⟨rfl, hs⟩; rw [Hz.out]; have hg2 := (H1.out.1.drew.2.trans hs.2).turns.cell hg hgk; have Hs := Lib.hid hs; clear hs)
      all_goals go_wp2
      all_goals go_ret2
      all_goals exact .inl ⟨16, s, 2, 3, v, Hsy.out, .inl ⟨rfl, by omega, rfl, rfl, Hv.out.symm⟩, hfit, by rw [Hz.out]; rfl, Hs.out.1, H1.out.2.trans (H1.out.1.drew.2.trans Hs.out.2)⟩
    · go_upto_region 7 with (fail)
      refine wp_region_any (by kernel_rfl) ?_
      change wpAny _ _ _ _ _ _ _ (World.drew _)
      refine wpAny_take (i := 0) (v := ?_) rfl (by kernel_rfl) (by kernel_rfl) (by kernel_rfl) (fun _ _ _ h => h) (Or.inl ⟨by rfl, ?hy⟩) ?_
      case hy => (intro w'; go_simp; try with_reducible rfl)
      refine wpAny_take (i := 1) (v := ?_) rfl (by kernel_rfl) (by kernel_rfl) (by kernel_rfl) (fun _ _ _ h => h) (Or.inl ⟨by rfl, ?hy⟩) ?_
      case hy => (intro w'; go_simp; try with_reducible rfl)
      refine wpAny_take (i := 2) (v := ?_) rfl (by kernel_rfl) (by kernel_rfl) (by kernel_rfl) (fun _ _ _ h => h) (Or.inl ⟨by rfl, ?hy⟩) ?_
      case hy => (intro w'; go_simp; try with_reducible rfl)
      refine wpAny_take (i := 3) (v := ?_) rfl (by kernel_rfl) (by kernel_rfl) (by kernel_rfl) (fun _ _ _ h => h) (Or.inl ⟨by rfl, ?hy⟩) ?_
      case hy => (intro w'; go_simp; try with_reducible rfl)
      refine wpAny_take (i := 4) (v := ?_) rfl (by kernel_rfl) (by kernel_rfl) (by kernel_rfl) (fun _ _ _ h => h) (Or.inl ⟨by rfl, ?hy⟩) ?_
      case hy => (intro w'; go_simp; try with_reducible rfl)
      refine wpAny_take (i := 6) (v := ?_) rfl (by kernel_rfl) (by kernel_rfl) (by kernel_rfl) (fun _ _ _ h => h) (Or.inl ⟨by rfl, ?hy⟩) ?_
      case hy => (intro w'; go_simp; try with_reducible rfl)
      refine wpAny_ready (rs := [5, 7]) (by kernel_rfl) (by simp) ?_
      refine AllReady.cons rfl (fun K hK => ?_) (AllReady.cons rfl (fun K hK => ?_) AllReady.nil)
      · go_simp
        refine hK _ _ ?_
        clear hK K
        refine wpAny_ready (rs := [7]) (by kernel_rfl) (by simp) ?_
        refine AllReady.cons rfl (fun K hK => ?_) AllReady.nil
        go_simp
        refine (inum_few 2 (by decide) _ H1.out.1.drew.1 (by omega)).mono ?_
        rintro e w2 ⟨rfl, hs⟩
        exact ⟨rfl, .inr ⟨50, fun _ => .few 16 s 2 3 v Hsy.out (.inl ⟨rfl, by omega, rfl, rfl, Hv.out.symm⟩) (by omega), rfl, H1.out.2.throws (H1.out.1.drew.2.throws hs)⟩⟩
      · go_simp
        refine (inum_few 2 (by decide) _ H1.out.1.drew.1 (by omega)).mono ?_
        rintro e w2 ⟨rfl, hs⟩
        exact ⟨rfl, .inr ⟨50, fun _ => .few 16 s 2 3 v Hsy.out (.inl ⟨rfl, by omega, rfl, rfl, Hv.out.symm⟩) (by omega), rfl, H1.out.2.throws (H1.out.1.drew.2.throws hs)⟩⟩
  have d16 : ((x : Int) == 16) = false := by rw [beq_eq_false_iff_ne]; omega
  by_cases h17 : x = 17
  · subst h17
    go_wp2_with fail
    refine Calls.mono (inum_any 3 (by decide) w1 H1.out.1) ?_
    have hz128 : nb l (a + s) 3 < 128 := Nat.lt_of_lt_of_le (nb_lt _ _ _) (by decide)
    obtain ⟨z, hz⟩ : ∃ z, nb l (a + s) 3 = z := ⟨_, rfl⟩
    rw [hz] at hz128 ⊢
    have Hz := Lib.hid hz
    have hw2 : IntKind.i64.wrap (3 + (z : Int)) = ((3 + z : Nat) : Int) := by rw [IntWalk.i64_in _ (by omega)]; omega
    clear hz
    rintro e w2 (⟨h1, rfl, hs⟩ | ⟨h1, rfl, hs⟩)
    · have Hs := Lib.hid hs
      clear hs
      go_wp2
      go_ret2
      exact .inl ⟨17, s, 3, 3, 0, Hsy.out, .inr (.inl ⟨rfl, rfl, rfl, rfl⟩), h1, by rw [Hz.out]; rfl, Hs.out.1, H1.out.2.trans Hs.out.2⟩
    · have Hs := Lib.hid hs
      clear hs
      go_wp2
      exact ⟨rfl, .inr ⟨50, fun _ => .few 17 s 3 3 0 Hsy.out (.inr (.inl ⟨rfl, rfl, rfl, rfl⟩)) h1, rfl, H1.out.2.throws Hs.out⟩⟩
  have d17 : ((x : Int) == 17) = false := by rw [beq_eq_false_iff_ne]; omega
  by_cases h18 : x = 18
  · subst h18
    go_wp2_with fail
    refine Calls.mono (inum_any 7 (by decide) w1 H1.out.1) ?_
    have hz128 : nb l (a + s) 7 < 128 := Nat.lt_of_lt_of_le (nb_lt _ _ _) (by decide)
    obtain ⟨z, hz⟩ : ∃ z, nb l (a + s) 7 = z := ⟨_, rfl⟩
    rw [hz] at hz128 ⊢
    have Hz := Lib.hid hz
    have hw2 : IntKind.i64.wrap (11 + (z : Int)) = ((11 + z : Nat) : Int) := by rw [IntWalk.i64_in _ (by omega)]; omega
    clear hz
    rintro e w2 (⟨h1, rfl, hs⟩ | ⟨h1, rfl, hs⟩)
    · have Hs := Lib.hid hs
      clear hs
      go_wp2
      go_ret2
      exact .inl ⟨18, s, 7, 11, 0, Hsy.out, .inr (.inr (.inl ⟨rfl, rfl, rfl, rfl⟩)), h1, by rw [Hz.out]; rfl, Hs.out.1, H1.out.2.trans Hs.out.2⟩
    · have Hs := Lib.hid hs
      clear hs
      go_wp2
      exact ⟨rfl, .inr ⟨50, fun _ => .few 18 s 7 11 0 Hsy.out (.inr (.inr (.inl ⟨rfl, rfl, rfl, rfl⟩))) h1, rfl, H1.out.2.throws Hs.out⟩⟩
  have d3 : ((x : Int) == 18) = false := by rw [beq_eq_false_iff_ne]; omega
  have hw : IntKind.u8.wrap (x : Int) = (x : Int) := IntWalk.u8_in _ (by omega)
  go_wp2
  go_ret2
  refine .inl ⟨x, s, 0, 1, x, Hsy.out, .inr (.inr (.inr ⟨by omega, rfl, rfl, rfl⟩)), H1.out.1.rd.pos, by rw [nb_zero]; rfl, H1.out⟩
end

end Go.Proofs.Ytajidlihepjegaa

/- inflate: lengths: all lengths that a code tells. -/
namespace Go.Proofs.Ytajidlihepjegaa
open Go.RowKit Go.Maps

def lenV (v : Value) : Nat := match v with
  | .slice _ k _ => k
  | _ => 0

theorem SvC.v_lt {x k c v : Nat} {ls : List Nat} (h : SvC x k c v ls) (hl : ∀ b ∈ ls, b < 256) : v < 256 ∧ 1 ≤ c ∧ c ≤ 11 ∧ k ≤ 7 := by
  rcases h with ⟨-, -, rfl, rfl, rfl⟩ | ⟨-, rfl, rfl, rfl⟩ | ⟨-, rfl, rfl, rfl⟩ | ⟨h, rfl, rfl, rfl⟩
  · exact ⟨getD_lt hl _, by decide, by decide, by decide⟩
  · exact ⟨by decide, by decide, by decide, by decide⟩
  · exact ⟨by decide, by decide, by decide, by decide⟩
  · exact ⟨by omega, by decide, by decide, by decide⟩

section
variable {base S B : Nat} {sv ov uv : Value} {l : List Nat} {lim a a0 : Nat} {o o0 : List Nat}

theorem Sm.k {w : World} (h : Sm w base S B sv ov uv l lim a o) : ∀ i, KS S B ov i → i < w.heap.size := fun i hi => by
  rcases hi with rfl | rfl | hi
  · exact h.size
  · exact h.rd.size
  · exact (h.out.lt _ hi).2

/-- Blocks turned that are newer than the stream. -/
theorem Sm.apart {w0 w w' : World} {T : Nat → Prop} (h0 : Sm w0 base S B sv ov uv l lim a0 o0) (h : Sm w base S B sv ov uv l lim a o) (hf : Turns (KS S B ov) w0 w) (ht : Turns T w w') (hT : ∀ i, T i → w0.heap.size ≤ i) :
    Sm w' base S B sv ov uv l lim a o ∧ Turns (KS S B ov) w0 w' := by
  have hS := h0.size
  have hB := h0.rd.size
  have ht' : Turns (KS S B ov) w0 w' := hf.trans' ht (fun i hi h => absurd (hT i h) (by omega))
  refine ⟨⟨(ht.block S h.size (fun h => by have := hT _ h; omega)).trans h.box, h.rd.turns ht (fun h => by have := hT _ h; omega) (fun k hk h => by have := hT _ h; have := h0.rd.row.lt k hk; omega),
    ht.owns h.out (fun k hk h => by have := hT _ h; have := (h0.out.lt k hk).2; omega), h0.us.imp id (fun hu => hu.go ht' (fun _ _ h => h)), h.ne, h.lo, h.le, h.by'⟩, ht'⟩

set_option maxRecDepth 20000 in
set_option maxHeartbeats 4000000 in
theorem ilens_any (tv : Value) (C : List Nat) (n : Nat) (hn : n ≤ 1000) (w : World) (h : Sm w base S B sv ov uv l lim a o) (ht : TblV w (KS S B ov) tv C) (hC : C.length = 19) :
    Calls Try.prog 73 #[.pointer (some ⟨S, 0, none⟩), tv, .int .i64 (n : Int)] w fun e w' =>
      (∃ (a' : Nat) (ls : List Nat) (v : Value), InfLs C l n a [] (.go a' ls) ∧ e = .returned v ∧ w'.ownsRow w.heap.size 5 1 v ls.length (ls.map u8v) ∧ ls.length = n ∧ Sm w' base S B sv ov uv l lim a' o ∧ Turns (KS S B ov) w w') ∨
      (∃ er, InfLs C l n a [] (.no er) ∧ e = thrown er ∧ Turns (KS S B ov) w w') := by
  have H := Lib.hid h
  have Ht := Lib.hid ht
  obtain ⟨T, M, nn, L, F, rfl, -⟩ := ht
  obtain ⟨i0, hi0, hz0, hz1, hz2⟩ := info_parts u8_info
  clear h
  go_enter Try.func73, Try.ntmps73
  go_wp2_with fail
  go_loopw [7] (fun lv wr => ∃ (a1 : Nat) (ls : List Nat), Hid (wr.ownsRow w.heap.size 5 1 lv ls.length (ls.map u8v)) ∧ ls.length ≤ n ∧ Hid (Sm wr base S B sv ov uv l lim a1 o) ∧ Hid (Turns (KS S B ov) w wr) ∧ Hid (∀ b ∈ ls, b < 256) ∧ Hid (∀ r, InfLs C l n a1 ls r → InfLs C l n a [] r))
    (fun lv _ => n - lenV lv)
  case atStart => exact ⟨a, [], Lib.hid (World.ownsRow_nil _ _ _ _), Nat.zero_le _, H, Lib.hid (Turns.refl _ _), Lib.hid (fun _ h => by cases h), Lib.hid (fun _ h => h)⟩
  case round =>
    obtain ⟨a1, ls, HO, hle, HS, HT, HB, HR⟩ := hrel
    have hk := H.out.k
    have hw := HT.out.size
    obtain ⟨p, c, rfl⟩ := owns_slice HO.out
    have Hap : Hid (∀ k, (Value.slice p ls.length c).ownBlock = some k → ¬ KS S B ov k) := Lib.hid (fun k hk' h => by have := (HO.out.lt k hk').1; have := hk k h; omega)
    have Htb := Lib.hid (Ht.out.go HT.out (fun _ _ h => h))
    by_cases hlt : ls.length < n
    · have d0 : decide (((ls.length : Nat) : Int) < (n : Int)) = true := by simp only [decide_eq_true_eq]; omega
      go_wp2_with fail
      refine Calls.mono (isev_any _ _ C ls wr HS.out Htb.out hC (Rw8.own HO.out rfl) Hap.out (by omega)) ?_
      rintro e w1 (⟨x, s, k, cc, v, hsy, hsv, hfit, rfl, hs⟩ | ⟨er, her, rfl, hs⟩)
      case inr =>
        have Hs := Lib.hid hs
        have Her := Lib.hid (HR.out _ (.no a1 ls er hlt (her n)))
        clear hs her
        go_wp2
        exact ⟨rfl, .inr ⟨er, Her.out, rfl, HT.out.trans Hs.out⟩⟩
      have hv := hsv.v_lt HB.out
      have hnb : nb l (a1 + s) k < 128 := Nat.lt_of_lt_of_le (nb_lt _ _ _) (Nat.pow_le_pow_right (n := 2) (j := 7) (by decide) hv.2.2.2)
      obtain ⟨t, htm⟩ : ∃ t, cc + nb l (a1 + s) k = t := ⟨_, rfl⟩
      rw [htm]
      have htb : 1 ≤ t ∧ t ≤ 1000 := by omega
      have Htm := Lib.hid htm
      have Hsy := Lib.hid (And.intro hsy hsv)
      have HS1 := Lib.hid hs.1
      have HT1 := Lib.hid (HT.out.trans hs.2.turns)
      have HO1 := Lib.hid (hs.2.turns.owns HO.out (fun k hk e => Hap.out k hk e))
      have hw1 : IntKind.i64.wrap ((n : Int) - ((ls.length : Nat) : Int)) = (n : Int) - ((ls.length : Nat) : Int) := IntWalk.i64_in _ (by omega)
      clear hs hsy hsv htm hnb hk
      by_cases hmany : n < ls.length + t
      · have d1 : decide ((n : Int) - ((ls.length : Nat) : Int) < (t : Int)) = true := by simp only [decide_eq_true_eq]; omega
        go_wp2
        exact ⟨rfl, .inr ⟨80, HR.out _ (.no a1 ls 80 hlt (.many x s k cc v Hsy.out.1 Hsy.out.2 hfit (by rw [Htm.out]; exact hmany))), rfl, HT1.out⟩⟩
      have d1 : decide ((n : Int) - ((ls.length : Nat) : Int) < (t : Int)) = false := by simp only [decide_eq_false_iff_not]; omega
      go_wp2_with fail
      refine Calls.mono (irun_any v t hv.1 htb.1 htb.2 w1) ?_
      rintro e w2 ⟨rv, rfl, ho, hb⟩
      rw [rep_row] at ho
      have hrv : Rw8 w2 rv (List.replicate t v) := Rw8.own ho (by simp)
      obtain ⟨p2, c2, rfl, -, -, hsrc⟩ := hrv.src enc8_len (by decide)
      rw [flat8, List.length_replicate] at *
      have HO2 := Lib.hid ((Turns.of_below' (T := fun _ => False) hb).owns HO1.out (fun _ _ h => h))
      have HS2 := Lib.hid (HS1.out.below hb).1
      have HT2 := Lib.hid (HT1.out.trans (Turns.of_below' hb))
      have Hsrc := Lib.hid hsrc
      have hws : w.heap.size ≤ w2.heap.size := HT2.out.size
      clear ho hrv hsrc hb
      go_wp2_with (at_builtin; refine wpList_append_mine w2 rfl (.tmp 28) (.tmp 31) 23 rfl _ 5 i0 _ 1 1 Try.underlying23 hi0 hz0 hz1 hz2 rfl (by decide) (.slice p ls.length c) ls.length (ls.map u8v) rfl HO2.out p2 t c2 ((List.replicate t v).map u8v) rfl (by simp) Hsrc.out (one8 _) ?n3 ?n4 hws ?_)
      case n3 => simp only [maxLen]; omega
      case n4 => omega
      intro v3 w3 ho3 hg3 _
      have hgt : Turns (fun k => (Value.slice p ls.length c).ownBlock = some k) w2 w3 := Turns.of_grown hg3 (fun _ h => h)
      have hap := Sm.apart H.out HS2.out HT2.out hgt (fun k hk => (HO2.out.lt k hk).1)
      have hll : (ls ++ List.replicate t v).length = ls.length + t := by simp
      have Hll := Lib.hid hll
      have HO3 : Hid (w3.ownsRow w.heap.size 5 1 v3 (ls ++ List.replicate t v).length ((ls ++ List.replicate t v).map u8v)) := Lib.hid (by rw [hll, List.map_append, List.map_replicate]; exact ho3)
      have HS3 := Lib.hid hap.1
      have HT3 := Lib.hid hap.2
      have HB3 : Hid (∀ b ∈ ls ++ List.replicate t v, b < 256) := Lib.hid (fun b hb => by
        rcases List.mem_append.1 hb with hb | hb
        · exact HB.out b hb
        · rcases List.mem_replicate.1 hb with ⟨-, rfl⟩; exact hv.1)
      have HR3 : Hid (∀ r, InfLs C l n (a1 + s + k) (ls ++ List.replicate t v) r → InfLs C l n a [] r) := Lib.hid (fun r hr => HR.out r (.more a1 _ ls _ r hlt (by
        have := InfSv.go (n := n) x s k cc v Hsy.out.1 Hsy.out.2 hfit (by rw [Htm.out]; omega)
        rw [Htm.out] at this
        exact this) hr))
      have hv3 : lenV v3 = ls.length + t := by obtain ⟨q, cq, rfl⟩ := owns_slice ho3; rfl
      have Hv3 := Lib.hid hv3
      clear ho3 hg3 hgt hap hll hv3
      go_wp2
      go_roundw
      case rel => exact ⟨a1 + s + k, _, HO3, by rw [Hll.out]; omega, HS3, HT3, HB3, HR3⟩
      case measure =>
        show n - lenV v3 < n - ls.length
        rw [Hv3.out]; omega
    · have d0 : decide (((ls.length : Nat) : Int) < (n : Int)) = false := by simp only [decide_eq_false_iff_not]; omega
      go_wp2
      go_ret
      exact .inl ⟨a1, ls, _, HR.out _ (.fin a1 ls (by omega)), rfl, HO.out, by omega, HS.out, HT.out⟩
end

end Go.Proofs.Ytajidlihepjegaa
