/- Several texts in one, each with its own head. -/
import Derived.Test.YtpddkhhdleknnaaZ16
import Derived.Test.YtpddkhhdleknnaaZ13
import Derived.Test.YtpddkhhdleknnaaZ14
import Derived.Test.YtpddkhhdleknnaaZ4
import Derived.Test.YtpddkhhdleknnaaZ7
/- pixbuf's Fill, whatever rectangle there is; what Copy refuses; Copy, whatever is asked. -/
namespace Go.Proofs.Ytpddkhhdleknnaa
open Go.RowKit

/-- What a picture's pixels are behind a Fill. -/
def FillOf (wd ht : Nat) (r : Rc) (c : Int) (L L' : List Int) : Prop :=
  ∀ X Y : Nat, X < wd → Y < ht → L'[Y * wd + X]? = if hasR r X Y = true then some (cut24 c) else L[Y * wd + X]?

theorem fill_any (B wd ht g : Nat) (c : Int) (r : Rc) (L : List Int) (w : World) (h : BufAt w B wd ht g L) (hBg : B ≠ g) (hf : Fit r) (hc : 0 ≤ c ∧ c < 4294967296) :
    Calls Try.prog 37 #[.pointer (some ⟨B, 0, none⟩), RV r, .int .u32 c] w fun e w' => e = .returned (.tuple #[]) ∧ (∃ L', BufAt w' B wd ht g L' ∧ FillOf wd ht r c L L') ∧ Turns (fun b => b = g) w w' := by
  have hwd := h.wd1
  have hht := h.ht1
  obtain ⟨R, hR⟩ : ∃ R, andR r ⟨0, 0, (wd : Int), (ht : Int)⟩ = R := ⟨_, rfl⟩
  have hpix : ∀ X Y : Nat, X < wd → Y < ht → hasR R X Y = hasR r X Y := fun X Y hX hY => by
    rw [← hR, has_and, has_whole hX hY (by omega) (by omega), Bool.and_true]
  cases he : emptyR R
  · have hin3 : inR R ⟨0, 0, (wd : Int), (ht : Int)⟩ = true := by rw [← hR]; exact in_and_right _ _
    have hall : allInB R wd ht = true := by rw [allInB, he, hin3]; rfl
    obtain ⟨sx, sy, sw, sh, rfl, s1, s2, s3, s4⟩ := allInB_true hall
    refine Calls.mono (fill_box B wd ht g sx sy sw sh c r L w h hBg hf hc hR (fun _ => s1) s3 s4) ?_
    rintro e w' ⟨rfl, hB, ht'⟩
    refine ⟨rfl, ⟨_, hB, fun X Y hX hY => ?_⟩, ht'⟩
    rw [fillL_get sy (cut24 c) L s3 hX sh, ← hpix X Y hX hY]
    have hlt := place_lt hX hY
    rw [h.size] at hlt
    by_cases hc : hasR ⟨(sx : Int), (sy : Int), (sw : Int), (sh : Int)⟩ X Y = true
    · have hc' := (has_box he).1 hc
      rw [if_pos hc, if_pos (by omega), List.getElem?_eq_getElem hlt]
      rfl
    · rw [if_neg hc, if_neg (fun hh => hc ((has_box he).2 (by omega)))]
  · have hz : R = ⟨((0 : Nat) : Int), ((0 : Nat) : Int), ((0 : Nat) : Int), ((0 : Nat) : Int)⟩ := by
      rcases and_spec r ⟨0, 0, (wd : Int), (ht : Int)⟩ with ⟨h1, -⟩ | ⟨h1, -, -, -, -, h2⟩
      · rw [← hR, h1]; rfl
      · rw [← hR, h1, h2] at he; cases he
    refine Calls.mono (fill_box B wd ht g 0 0 0 0 c r L w h hBg hf hc (hR.trans hz) (fun h => h) (by omega) (by omega)) ?_
    rintro e w' ⟨rfl, hB, ht'⟩
    refine ⟨rfl, ⟨_, hB, fun X Y hX hY => ?_⟩, ht'⟩
    have hno : hasR R X Y = false := by
      cases hh : hasR R X Y
      · rfl
      · rw [has_iff, he] at hh; simp at hh
    rw [← hpix X Y hX hY, hno, if_neg (by simp)]
    rfl

set_option maxHeartbeats 1000000 in
theorem copy_none (B : Nat) (r : Rc) (dx dy : Int) (w : World) (hf : Fit r) (he : emptyR r = true) :
    Makes Try.prog 40 #[.pointer (some ⟨B, 0, none⟩), CV r dx dy] w (.int .i64 0) := by
  unfold Makes
  go_enter Try.func40, Try.ntmps40
  go_wp2_with fail
  have hb0 := Below.al1 w (.cells #[.int .i64 r.x, .int .i64 r.y, .int .i64 r.a, .int .i64 r.b, .int .i64 dx, .int .i64 dy] 52)
  generalize w.alloc (.cells #[.int .i64 r.x, .int .i64 r.y, .int .i64 r.a, .int .i64 r.b, .int .i64 dx, .int .i64 dy] 52) = W0 at *
  refine Calls.mono (empty_eq r _ he hf) ?_
  rintro e w1 ⟨rfl, hb1⟩
  have Hb := Lib.hid (Below.thn hb0 hb1)
  clear hb0 hb1
  go_wp2
  go_ret
  exact ⟨rfl, Hb.out⟩

set_option maxRecDepth 100000 in
set_option maxHeartbeats 4000000 in
theorem copy_no (B wd ht g : Nat) (r r2 : Rc) (dx dy : Int) (L : List Int) (w : World) (h : BufAt w B wd ht g L) (hf : Fit r) (he : emptyR r = false) (hf2 : Fit r2)
    (h4 : shiftR r (IntKind.i64.wrap (-dx)) (IntKind.i64.wrap (-dy)) = r2) (hno : (allInB r wd ht && allInB r2 wd ht) = false) :
    Makes Try.prog 40 #[.pointer (some ⟨B, 0, none⟩), CV r dx dy] w (.int .i64 5) := by
  unfold Makes
  obtain ⟨nx, hnx⟩ : ∃ nx, IntKind.i64.wrap (-dx) = nx := ⟨_, rfl⟩
  obtain ⟨ny, hny⟩ : ∃ ny, IntKind.i64.wrap (-dy) = ny := ⟨_, rfl⟩
  rw [hnx, hny] at h4
  have H4 := Lib.hid h4
  have Hno := Lib.hid hno
  clear h4 hno
  go_enter Try.func40, Try.ntmps40
  go_wp2_with fail
  obtain ⟨W0, hW0⟩ : ∃ W0, w.alloc (.cells #[.int .i64 r.x, .int .i64 r.y, .int .i64 r.a, .int .i64 r.b, .int .i64 dx, .int .i64 dy] 52) = W0 := ⟨_, rfl⟩
  have hz0 : W0.heap[w.heap.size]? = some (.cells #[.int .i64 r.x, .int .i64 r.y, .int .i64 r.a, .int .i64 r.b, .int .i64 dx, .int .i64 dy] 52) := by rw [← hW0]; exact Array.getElem?_push_size
  have hbw0 : Below w.heap.size w W0 := by rw [← hW0]; exact Below.al1 _ _
  have h0 := h.later hbw0
  rw [hW0]
  clear hW0 h
  have Hz0 := Lib.hid hz0
  have H0 := Lib.hid h0
  have Hb0 := Lib.hid hbw0
  clear hz0 h0 hbw0
  refine Calls.mono (empty_eq r _ he hf) ?_
  rintro e w1 ⟨rfl, hb1⟩
  have hz1 := (hb1.block _ (Array.getElem?_eq_some_iff.1 Hz0.out).1).trans Hz0.out
  obtain ⟨z0, z1, z2, z3, z4, z5⟩ := copy_cells hz1
  go_wp2_with fail
  refine Calls.mono (shift_eq r nx ny _ H4.out hf) ?_
  rintro e w2 ⟨rfl, hb2⟩
  have hz2 := (hb2.block _ (Array.getElem?_eq_some_iff.1 hz1).1).trans hz1
  have hb02 := Below.thn (Below.thn Hb0.out hb1) hb2
  have h2 := H0.out.later (Below.thn hb1 hb2)
  clear z0 z1 z2 z3 z4 z5 hz1 hb1 Hz0 H0 Hb0
  have hal := Below.al1 w2 (.cells #[.int .i64 r2.x, .int .i64 r2.y, .int .i64 r2.a, .int .i64 r2.b] 30)
  have l3 : Lies (w2.alloc (.cells #[.int .i64 r2.x, .int .i64 r2.y, .int .i64 r2.a, .int .i64 r2.b] 30)) w2.heap.size r2 := Lies.new rfl
  have h3 := h2.later hal
  have hz3 := (hal.block _ (Array.getElem?_eq_some_iff.1 hz2).1).trans hz2
  have Hb3 := Lib.hid (Below.thn hb02 hal)
  clear h2 hz2 hal hb02 hb2
  go_upto_region 6 with (fail)
  generalize (w2.alloc (.cells #[.int .i64 r2.x, .int .i64 r2.y, .int .i64 r2.a, .int .i64 r2.b] 30)) = W3 at *
  obtain ⟨z0, z1, z2, z3, z4, z5⟩ := copy_cells hz3
  have y0 := After.rule z0
  have y1 := After.rule z1
  have y2 := After.rule z2
  have y3 := After.rule z3
  have hq := After.ne W3
  obtain ⟨r0, r1, r2', r3⟩ := l3.rules
  have k0 := After.rule h3.three.1
  have k1 := After.rule h3.three.2.1
  have k2 := After.rule h3.three.2.2
  clear z0 z1 z2 z3 z4 z5 h3 l3 hz3
  cases a1 : allInB r wd ht
  · have A1 := Lib.hid a1
    clear a1
    refine wp_region_in ⟨W3, Below.refl _ _⟩ (by kernel_rfl) (by kernel_rfl) ?_
    repeat (go_big_quiet_step ((go_at_call 87; exact Makes.after (allIn_eq r wd ht _ _ A1.out hf))))
    refine wpQuiet_nil ?_
    rintro _ ⟨n1, rfl⟩
    have Hb4 := Lib.hid (Below.thn Hb3.out n1.below)
    clear y0 y1 y2 y3 hq r0 r1 r2' r3 k0 k1 k2
    go_wp2
    go_ret
    exact ⟨rfl, Hb4.out⟩
  · have A1 := Lib.hid a1
    have a2 : allInB r2 wd ht = false := by have := Hno.out; rw [a1, Bool.true_and] at this; exact this
    have A2 := Lib.hid a2
    clear a1 a2
    refine wp_region_in ⟨W3, Below.refl _ _⟩ (by kernel_rfl) (by kernel_rfl) ?_
    iterate 7 (go_big_quiet_step ((go_at_call 87; exact Makes.after (allIn_eq r wd ht _ _ A1.out hf))))
    repeat (go_big_quiet_step ((go_at_call 87; exact Makes.after (allIn_eq r2 wd ht _ _ A2.out hf2))))
    refine wpQuiet_nil ?_
    rintro _ ⟨n1, rfl⟩
    have Hb4 := Lib.hid (Below.thn Hb3.out n1.below)
    clear y0 y1 y2 y3 hq r0 r1 r2' r3 k0 k1 k2
    go_wp2
    go_ret
    exact ⟨rfl, Hb4.out⟩

/-- The part that a Copy takes. -/
def fromR (r : Rc) (dx dy : Int) : Rc := shiftR r (IntKind.i64.wrap (-dx)) (IntKind.i64.wrap (-dy))
/-- May a Copy be done? -/
def copyB (wd ht : Nat) (r : Rc) (dx dy : Int) : Bool := allInB r wd ht && allInB (fromR r dx dy) wd ht
/-- What a Copy tells. -/
def copyE (wd ht : Nat) (r : Rc) (dx dy : Int) : Int := if emptyR r = true then 0 else if copyB wd ht r dx dy = true then 0 else 5
/-- What a picture's pixels are behind a Copy. -/
def CopyOf (wd ht : Nat) (r : Rc) (dx dy : Int) (L L' : List Int) : Prop :=
  ∀ X Y : Nat, X < wd → Y < ht → L'[Y * wd + X]? = if (copyB wd ht r dx dy && hasR r X Y) = true then L[((Y : Int) - dy).toNat * wd + ((X : Int) - dx).toNat]? else L[Y * wd + X]?

theorem wrap_neg_small {d n : Int} (hd : -9223372036854775808 ≤ d ∧ d ≤ 9223372036854775807) (h : IntKind.i64.wrap (-d) = n) (hn : -1048576 ≤ n ∧ n ≤ 1048576) : d = -n := by
  rw [IntKind.wrap_i64] at h
  omega

/-- Where a Copy may be done, what it takes lies DX to the left and DY above. -/
theorem copyB_true {wd ht : Nat} {r : Rc} {dx dy : Int} (hwd : wd ≤ 256) (hht : ht ≤ 256) (hdx : -9223372036854775808 ≤ dx ∧ dx ≤ 9223372036854775807) (hdy : -9223372036854775808 ≤ dy ∧ dy ≤ 9223372036854775807) (h : copyB wd ht r dx dy = true) :
    ∃ tx ty aw ah fx fy : Nat, r = ⟨tx, ty, aw, ah⟩ ∧ fromR r dx dy = ⟨fx, fy, aw, ah⟩ ∧ 1 ≤ aw ∧ 1 ≤ ah ∧ tx + aw ≤ wd ∧ ty + ah ≤ ht ∧ fx + aw ≤ wd ∧ fy + ah ≤ ht ∧ dx = tx - fx ∧ dy = ty - fy := by
  unfold copyB at h
  rw [Bool.and_eq_true] at h
  obtain ⟨h1, h2⟩ := h
  obtain ⟨tx, ty, aw, ah, rfl, s1, s2, s3, s4⟩ := allInB_true h1
  obtain ⟨fx, fy, bw, bh, he, t1, t2, t3, t4⟩ := allInB_true h2
  rw [he] at h2
  rcases shiftR_cases ⟨(tx : Int), (ty : Int), (aw : Int), (ah : Int)⟩ (IntKind.i64.wrap (-dx)) (IntKind.i64.wrap (-dy)) with ⟨f1, -, f2, f3⟩ | f1
  · have he' := he
    unfold fromR at he'
    rw [f1] at he'
    rw [Rc.mk.injEq] at he'
    obtain ⟨e1, e2, e3, e4⟩ := he'
    simp only at e1 e2 e3 e4
    obtain rfl : aw = bw := by omega
    obtain rfl : ah = bh := by omega
    have g1 := wrap_neg_small hdx rfl (by omega : -1048576 ≤ IntKind.i64.wrap (-dx) ∧ IntKind.i64.wrap (-dx) ≤ 1048576)
    have g2 := wrap_neg_small hdy rfl (by omega : -1048576 ≤ IntKind.i64.wrap (-dy) ∧ IntKind.i64.wrap (-dy) ≤ 1048576)
    exact ⟨tx, ty, aw, ah, fx, fy, rfl, he, s1, s2, s3, s4, t3, t4, by omega, by omega⟩
  · unfold fromR at he
    rw [f1] at he
    unfold zeroRc at he
    rw [Rc.mk.injEq] at he
    omega

theorem copy_any (B wd ht g : Nat) (r : Rc) (dx dy : Int) (L : List Int) (w : World) (h : BufAt w B wd ht g L) (hBg : B ≠ g) (hf : Fit r) (hdx : -9223372036854775808 ≤ dx ∧ dx ≤ 9223372036854775807) (hdy : -9223372036854775808 ≤ dy ∧ dy ≤ 9223372036854775807) :
    Calls Try.prog 40 #[.pointer (some ⟨B, 0, none⟩), CV r dx dy] w fun e w' =>
      e = .returned (.int .i64 (copyE wd ht r dx dy)) ∧ (∃ L', BufAt w' B wd ht g L' ∧ CopyOf wd ht r dx dy L L') ∧ Turns (fun b => b = g) w w' := by
  have hwd := h.wd1
  have hht := h.ht1
  cases hb : copyB wd ht r dx dy
  · have hsame : ∀ w', Below w.heap.size w w' → ∃ L', BufAt w' B wd ht g L' ∧ CopyOf wd ht r dx dy L L' := fun w' hb' => ⟨L, h.later hb', fun X Y _ _ => by rw [hb]; simp⟩
    cases he : emptyR r
    · refine Calls.mono (copy_no B wd ht g r _ dx dy L w h hf he (shift_fit' _ _ _) rfl hb) ?_
      rintro e w' ⟨rfl, hb'⟩
      refine ⟨by unfold copyE; rw [he, hb]; simp, hsame w' hb', Turns.of_below' hb'⟩
    · refine Calls.mono (copy_none B r dx dy w hf he) ?_
      rintro e w' ⟨rfl, hb'⟩
      refine ⟨by unfold copyE; rw [he]; simp, hsame w' hb', Turns.of_below' hb'⟩
  · obtain ⟨tx, ty, aw, ah, fx, fy, rfl, hfr, s1, s2, s3, s4, t3, t4, e1, e2⟩ := copyB_true (by omega) (by omega) hdx hdy hb
    have he : emptyR ⟨(tx : Int), (ty : Int), (aw : Int), (ah : Int)⟩ = false := emptyR_false.2 (by simp only; omega)
    refine Calls.mono (copy_yes B wd ht g tx ty aw ah fx fy dx dy L w h hBg s1 s2 s3 s4 t3 t4 hfr) ?_
    rintro e w' ⟨rfl, hB, ht'⟩
    refine ⟨by unfold copyE; rw [hb]; simp, ⟨_, hB, fun X Y hX hY => ?_⟩, ht'⟩
    have hfit1 := h.fit s3 s4
    have hfit2 := h.fit t3 t4
    obtain ⟨c1, c2⟩ := cutL_ok h.u.u32 hfit2
    have hfit3 : ∀ k, k < ah → (0 + k) * aw + 0 + aw ≤ (cutL wd fx fy aw ah L).length := fun k hk => by
      rw [c1, Nat.zero_add, Nat.add_zero]
      have : (k + 1) * aw ≤ ah * aw := Nat.mul_le_mul_right aw (by omega)
      rw [Nat.add_mul, Nat.one_mul, Nat.mul_comm ah aw] at this
      omega
    rw [layL_get wd tx ty aw aw 0 0 _ L c2.u32 h.u.u32 s3 hX ah (fun k hk => ⟨hfit1 k hk, hfit3 k hk⟩), hb, Bool.true_and]
    by_cases hc : hasR ⟨(tx : Int), (ty : Int), (aw : Int), (ah : Int)⟩ X Y = true
    · have hc' := (has_box he).1 hc
      rw [if_pos hc, if_pos (by omega)]
      have hX1 : X - tx < aw := by omega
      have hY1 : Y - ty < ah := by omega
      rw [show (0 + (Y - ty)) * aw + 0 + (X - tx) = (Y - ty) * aw + (X - tx) by rw [Nat.zero_add]; omega, cutL_get h.u.u32 hfit2 hX1 hY1]
      have hi : (fy + (Y - ty)) * wd + fx + (X - tx) < L.length := by have := hfit2 (Y - ty) hY1; omega
      rw [h.u.get hi, h.u.get hi, show ((Y : Int) - dy).toNat = fy + (Y - ty) by omega, show ((X : Int) - dx).toNat = fx + (X - tx) by omega, Nat.add_assoc]
    · rw [if_neg hc, if_neg (fun hh => hc ((has_box he).2 (by omega)))]

end Go.Proofs.Ytpddkhhdleknnaa

/- Edges: their cells, rows of them, and how a list falls into runs of one place. -/
namespace Go.Proofs.Ytpddkhhdleknnaa
open Go.RowKit

/-- An edge of a rectangle. -/
structure Ed where
  pl : Int
  li : Int
  tu : Int
  rc : Rc

instance : Inhabited Ed := ⟨⟨0, 0, 0, default⟩⟩

def encE (e : Ed) : List Value := [.int .i64 e.pl, .int .i64 e.li, .int .i64 e.tu, .int .i64 e.rc.x, .int .i64 e.rc.y, .int .i64 e.rc.a, .int .i64 e.rc.b]
abbrev EV (e : Ed) : Value := .agg #[.int .i64 e.pl, .int .i64 e.li, .int .i64 e.tu, .int .i64 e.rc.x, .int .i64 e.rc.y, .int .i64 e.rc.a, .int .i64 e.rc.b]

structure LiesE (w : World) (b o : Nat) (e : Ed) : Prop where
  c0 : w.cell? ⟨b, o, none⟩ = some (.int .i64 e.pl)
  c1 : w.cell? ⟨b, o + 1, none⟩ = some (.int .i64 e.li)
  c2 : w.cell? ⟨b, o + 2, none⟩ = some (.int .i64 e.tu)
  c3 : w.cell? ⟨b, o + 3, none⟩ = some (.int .i64 e.rc.x)
  c4 : w.cell? ⟨b, o + 4, none⟩ = some (.int .i64 e.rc.y)
  c5 : w.cell? ⟨b, o + 5, none⟩ = some (.int .i64 e.rc.a)
  c6 : w.cell? ⟨b, o + 6, none⟩ = some (.int .i64 e.rc.b)

theorem LiesE.later {w w1 : World} {b o : Nat} {r : Ed} (h : LiesE w b o r) (hb : Below w.heap.size w w1) : LiesE w1 b o r :=
  ⟨cell_later hb h.c0, cell_later hb h.c1, cell_later hb h.c2, cell_later hb h.c3, cell_later hb h.c4, cell_later hb h.c5, cell_later hb h.c6⟩

theorem RowAt.ed {W : World} {p : Option Addr} {xs : List Ed} (h : RowAt encE 7 W p xs) {i : Nat} (hi : i < xs.length) : ∃ b off, p = some ⟨b, off, none⟩ ∧ b < W.heap.size ∧ ∀ j (hj : j < xs.length), LiesE W b (off + j * 7) xs[j] := by
  rcases h with ⟨_, rfl⟩ | ⟨b, off, rfl, h3, h4⟩
  · simp at hi
  · exact ⟨b, off, rfl, h3, fun j hj => by
      have h := fun k u hk => h4 j _ (List.getElem?_eq_getElem hj) k u hk
      exact ⟨h 0 _ rfl, h 1 _ rfl, h 2 _ rfl, h 3 _ rfl, h 4 _ rfl, h 5 _ rfl, h 6 _ rfl⟩⟩

/-- A list in runs of one key. -/
def grp {α : Type} (key : α → Int) : List α → List (Int × List α)
  | [] => []
  | x :: l => match grp key l with
    | [] => [(key x, [x])]
    | (y, g) :: rest => if y = key x then (y, x :: g) :: rest else (key x, [x]) :: (y, g) :: rest

theorem grp_head {α : Type} (key : α → Int) (x : α) (l : List α) : ∃ g rest, grp key (x :: l) = (key x, x :: g) :: rest := by
  simp only [grp]
  split
  · exact ⟨_, _, rfl⟩
  · split
    · rename_i h; exact ⟨_, _, by rw [h]⟩
    · exact ⟨_, _, rfl⟩

theorem grp_run {α : Type} (key : α → Int) (c : Int) (s r : List α) (hs : s ≠ []) (hk : ∀ x ∈ s, key x = c) (hr : ∀ x, r.head? = some x → key x ≠ c) : grp key (s ++ r) = (c, s) :: grp key r := by
  induction s with
  | nil => simp at hs
  | cons x s ih =>
    have hx := hk x (by simp)
    cases s with
    | nil =>
      simp only [List.cons_append, List.nil_append, grp]
      cases r with
      | nil => simp [grp, hx]
      | cons z r =>
        obtain ⟨g, rest, hg⟩ := grp_head key z r
        rw [hg]
        have := hr z rfl
        simp only [hx]
        rw [if_neg this]
    | cons y s =>
      rw [List.cons_append, grp, ih (by simp) (fun z hz => hk z (by simp [hz]))]
      simp [hx]

theorem RowAt.sub {α : Type} {enc : α → List Value} {k : Nat} {W : World} {b off : Nat} {xs : List α} (h : RowAt enc k W (some ⟨b, off, none⟩) xs) (i m : Nat) : RowAt enc k W (some ⟨b, off + i * k, none⟩) ((xs.drop i).take m) := by
  rcases h with ⟨h, _⟩ | ⟨b', off', h, h3, h4⟩
  · cases h
  · cases h
    refine .inr ⟨b, _, rfl, h3, fun j x hj c u hu => ?_⟩
    rw [List.getElem?_take] at hj
    split at hj
    · rw [List.getElem?_drop] at hj
      have := h4 _ x hj c u hu
      rw [Nat.add_mul] at this
      rw [← this]
      congr 2
      omega
    · cases hj

end Go.Proofs.Ytpddkhhdleknnaa
