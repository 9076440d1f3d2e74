/- inflate: number, symbol and come, as they are called. -/
import Derived.Test.YtajidlihepjegaaA830
import Derived.Test.YtajidlihepjegaaA827
namespace Go.Proofs.Ytajidlihepjegaa
open Go.RowKit Go.Maps

section
variable {base S B : Nat} {sv ov uv : Value} {l : List Nat} {lim a : Nat} {o : List Nat}

set_option maxHeartbeats 1000000 in
theorem inum_any (k : Nat) (hk : k ≤ 24) (w : World) (h : Sm w base S B sv ov uv l lim a o) :
    Calls Try.prog 55 #[.pointer (some ⟨S, 0, none⟩), .int .i64 (k : Int)] w fun e w' =>
      (a + k ≤ 8 * l.length ∧ e = .returned (.int .i64 (nb l a k : Int)) ∧ Sm w' base S B sv ov uv l lim (a + k) o ∧ Fr S B ov w ov w') ∨ (8 * l.length < a + k ∧ e = thrown 50 ∧ Turns (KS S B ov) w w') := by
  have c0 := h.c0
  have H := Lib.hid h
  clear h
  by_cases hfit : a + k ≤ 8 * l.length
  · go_enter Try.func55, Try.ntmps55
    go_wp2_with fail
    refine Calls.mono (get_ok B a k sv l w H.out.rd hk hfit) ?_
    rintro e w1 ⟨rfl, hr, ht⟩
    have Hs := Lib.hid (H.out.reads hr ht)
    have hlt := nb_lt l a k
    obtain ⟨x, hx⟩ : ∃ x, nb l a k = x := ⟨_, rfl⟩
    rw [hx] at hlt
    have hx' : numB l / 2 ^ a % 2 ^ k = x := hx
    rw [hx']
    have hx24 : x < 16777216 := Nat.lt_of_lt_of_le hlt (Nat.pow_le_pow_right (n := 2) (j := 24) (by decide) hk)
    have hw : IntKind.i64.wrap (x : Int) = (x : Int) := IntWalk.i64_in _ (by omega)
    have Hx := Lib.hid hx
    clear hr ht hlt hx hx'
    go_wp2_with fail
    refine Calls.mono (icheck_ok _) ?_
    rintro e w2 ⟨rfl, rfl⟩
    go_wp2
    go_ret
    exact .inl ⟨hfit, by rw [Hx.out]; rfl, Hs.out⟩
  · go_enter Try.func55, Try.ntmps55
    go_wp2_with fail
    refine Calls.mono (get_few B a k sv l w H.out.rd hk (by omega)) ?_
    rintro e w1 ⟨rfl, hb⟩
    have Hb := Lib.hid hb
    clear hb
    go_wp2_with fail
    refine Calls.mono (icheck_no 50 (by decide) _) ?_
    rintro e w2 ⟨rfl, rfl⟩
    go_wp2
    exact ⟨rfl, .inr ⟨by omega, rfl, Turns.of_below' Hb.out⟩⟩

set_option maxHeartbeats 1000000 in
theorem isym_any (tv : Value) (ls : List Nat) (w : World) (h : Sm w base S B sv ov uv l lim a o) (htb : TblV w (KS S B ov) tv ls) :
    Calls Try.prog 69 #[.pointer (some ⟨S, 0, none⟩), tv] w fun e w' => ∃ (x : Nat) (er : Int) (s : Nat), Sy ls l a x er s ∧
      ((er = 0 ∧ e = .returned (.int .i64 (x : Int)) ∧ Sm w' base S B sv ov uv l lim (a + s) o ∧ Fr S B ov w ov w') ∨ (er ≠ 0 ∧ e = thrown er ∧ Turns (KS S B ov) w w')) := by
  have c0 := h.c0
  have H := Lib.hid h
  obtain ⟨T, M, n, L, F, rfl, ht⟩ := htb
  have Ht := Lib.hid ht
  clear h ht
  go_enter Try.func69, Try.ntmps69
  go_wp2_with fail
  refine Calls.mono (read_any T M n L B a F sv l w Ht.out.tb H.out.rd Ht.out.le (fun e => Ht.out.kt (.inr (.inl e))) (fun e => Ht.out.km (.inr (.inl e)))) ?_
  rintro e w1 ⟨x, er, s, rfl, hans, hr, -, htu⟩
  have Hs := Lib.hid (H.out.reads hr htu)
  have HS : Hid (Sy ls l a x er s) := Lib.hid ⟨F, L, Ht.out.tf, Ht.out.tm, hans⟩
  clear hans hr htu
  by_cases he : er = 0
  · subst he
    go_wp2_with fail
    refine Calls.mono (icheck_ok _) ?_
    rintro e w2 ⟨rfl, rfl⟩
    go_wp2
    go_ret
    exact ⟨x, 0, s, HS.out, .inl ⟨rfl, rfl, Hs.out⟩⟩
  · go_wp2_with fail
    refine Calls.mono (icheck_no er he _) ?_
    rintro e w2 ⟨rfl, rfl⟩
    go_wp2
    exact ⟨rfl, x, er, s, HS.out, .inr ⟨he, rfl, Hs.out.2.turns⟩⟩

set_option maxHeartbeats 1000000 in
theorem icome_any (x : Nat) (hx : x < 256) (w : World) (h : Sm w base S B sv ov uv l lim a o) :
    Calls Try.prog 58 #[.pointer (some ⟨S, 0, none⟩), .int .u8 (x : Int)] w fun e w' =>
      (o.length < lim ∧ e = .returned (.tuple #[]) ∧ ∃ ov', Sm w' base S B sv ov' uv l lim a (o ++ [x]) ∧ Fr S B ov w ov' w') ∨ (lim ≤ o.length ∧ e = thrown 81 ∧ Turns (KS S B ov) w w') := by
  have c1 := h.c1
  have c2 := h.c2
  have H := Lib.hid h
  have hle := h.le
  have hlb := h.lbase
  obtain ⟨p, c, rfl⟩ := owns_slice h.out
  clear h
  go_enter Try.func58, Try.ntmps58
  go_upto_region 0 with (fail)
  go_quiet (fail)
  rename_i nq
  have hd : Below w.heap.size w (w.drewN nq) := Below.drewN' (Below.refl _ _) nq
  have Hd := Lib.hid (H.out.below hd)
  by_cases hfull : o.length = lim
  · have e0 : ((o.length : Int) == (lim : Int)) = true := by simp; omega
    go_wp2
    exact ⟨rfl, .inr ⟨by omega, rfl, Turns.of_below' hd⟩⟩
  · have e0 : ((o.length : Int) == (lim : Int)) = false := by simp; omega
    have hs : base ≤ (w.drewN nq).heap.size := Nat.le_trans hlb hd.size
    replace c1 := Hd.out.1.c1
    replace c2 := Hd.out.1.c2
    generalize w.drewN nq = W at *
    clear hd
    go_wp2_with (at_builtin; refine wpList_append_one W rfl (.tmp 19) (.tmp 21) 23 rfl base 5 _ 1 u8_info Try.underlying23 rfl (.slice p o.length c) o.length (o.map u8v) rfl Hd.out.1.out (.int .u8 (x : Int)) _ rfl rfl ?n3 ?n4 hs ?_)
    case n3 => simp only [maxLen]; omega
    case n4 => omega
    intro g cap w1 ho ht hg
    obtain ⟨w2, hw2⟩ : ∃ w2, w1.setCell ⟨S, 1, none⟩ (.slice (some ⟨g, 0, none⟩) (o.length + 1) cap) = w2 := ⟨_, rfl⟩
    have Hc := Lib.hid (Hd.out.1.comes hx (by omega) ho ht hg hw2.symm)
    have hne : S ≠ B ∧ sv.ownBlock ≠ some S ∧ (Value.slice p o.length c).ownBlock ≠ some S := ⟨Hd.out.1.ne.1, Hd.out.1.ne.2.1, Hd.out.1.ne.2.2.1⟩
    have d1 := ht.cell c1 hne.2.2
    have f1 := ht.free c1 (Hd.out.1.free 1) hne.2.2
    have Hw2 := Lib.hid hw2
    clear ho ht hg hw2
    go_wp2
    rw [Hw2.out]
    go_end0
    exact .inl ⟨by omega, rfl, _, Hc.out.1, Hd.out.2.trans Hc.out.2⟩
end

end Go.Proofs.Ytajidlihepjegaa
