/- Several texts in one, each with its own head. -/
import Derived.Test.YtdcmalbbijchiaaZq21
import Derived.Test.YtdcmalbbijchiaaZq19
import Derived.Test.YtdcmalbbijchiaaZq18
import Derived.Test.YtdcmalbbijchiaaZq20
/- inflate, the stream's state, and its least methods: check, number, symbol, come. -/
namespace Go.Proofs.Ytdcmalbbijchiaa
open Go.RowKit Go.Maps

/-- A thrown error. -/
abbrev thrown (e : Int) : Ending := .panicked [{ v := .iface 29 (.int .i64 e), recovered := false }]

theorem icheck_ok (w : World) : Calls Try.prog 38 #[.int .i64 0] w fun e w' => e = .returned (.tuple #[]) ∧ w' = w := by
  go_enter Try.func38, Try.ntmps38
  go_wp2
  go_end0
  exact ⟨rfl, rfl⟩
theorem icheck_no (x : Int) (h : x ≠ 0) (w : World) : Calls Try.prog 38 #[.int .i64 x] w fun e w' => e = thrown x ∧ w' = w := by
  have d : (x != 0) = true := by simpa using h
  go_enter Try.func38, Try.ntmps38
  go_wp2
  exact ⟨rfl, rfl, rfl⟩

/-- The blocks that a stream writes: itself, its reader, its bytes. -/
def KS (S B : Nat) (ov : Value) (i : Nat) : Prop := i = S ∨ i = B ∨ ov.ownBlock = some i

/-- A table of lengths, whose blocks are none of K's. -/
structure Tbl (w : World) (K : Nat → Prop) (T M n L : Nat) (F : Nat × Nat → Option Nat) (ls : List Nat) : Prop where
  tb : Tb w T M n L F
  tf : ToldF (lq ls) ls.length 15 0 F
  tm : ToldM (lq ls) ls.length 15 0 L
  le : L ≤ 15
  kt : ¬ K T
  km : ¬ K M

def TblV (w : World) (K : Nat → Prop) (tv : Value) (ls : List Nat) : Prop := ∃ T M n L F, tv = .pointer (some ⟨T, 0, none⟩) ∧ Tbl w K T M n L F ls

/-- A block's codes: two tables. -/
def Codn (w : World) (K : Nat → Prop) (cv : Value) (A D : List Nat) : Prop :=
  ∃ (C : Nat) (ta td : Value), cv = .pointer (some ⟨C, 0, none⟩) ∧ w.heap[C]? = some (.cells #[ta, td] 112) ∧ ¬ K C ∧ TblV w K ta A ∧ TblV w K td D

theorem Tbl.go {w w' : World} {K K' : Nat → Prop} {T M n L : Nat} {F : Nat × Nat → Option Nat} {ls : List Nat} (h : Tbl w K T M n L F ls) (ht : Turns K w w') (hk : ∀ i, i < w.heap.size → K' i → K i) : Tbl w' K' T M n L F ls :=
  ⟨h.tb.turns ht h.kt h.km, h.tf, h.tm, h.le, fun e => h.kt (hk _ (lt_heap h.tb.tab) e), fun e => h.km (hk _ h.tb.map.lt e)⟩
theorem TblV.go {w w' : World} {K K' : Nat → Prop} {tv : Value} {ls : List Nat} (h : TblV w K tv ls) (ht : Turns K w w') (hk : ∀ i, i < w.heap.size → K' i → K i) : TblV w' K' tv ls := by
  obtain ⟨T, M, n, L, F, e, h⟩ := h
  exact ⟨T, M, n, L, F, e, h.go ht hk⟩
theorem Codn.go {w w' : World} {K K' : Nat → Prop} {cv : Value} {A D : List Nat} (h : Codn w K cv A D) (ht : Turns K w w') (hk : ∀ i, i < w.heap.size → K' i → K i) : Codn w' K' cv A D := by
  obtain ⟨C, ta, td, e, h1, h2, h3, h4⟩ := h
  exact ⟨C, ta, td, e, (ht.block C (lt_heap h1) h2).trans h1, fun k => h2 (hk _ (lt_heap h1) k), h3.go ht hk, h4.go ht hk⟩

theorem four_set1 {W : World} {B : Nat} {t : TypeId} {a b c d : Value} (x : Value) (h : W.heap[B]? = some (.cells #[a, b, c, d] t)) : (W.setCell ⟨B, 1, none⟩ x).heap[B]? = some (.cells #[a, x, c, d] t) := by
  obtain ⟨hlt, hk⟩ := Array.getElem?_eq_some_iff.1 h
  show (W.heap.modify B _)[B]? = _
  rw [Array.getElem?_eq_getElem (by rw [Array.size_modify]; exact hlt), Array.getElem_modify_self, hk]
  rfl
theorem four_set3 {W : World} {B : Nat} {t : TypeId} {a b c d : Value} (x : Value) (h : W.heap[B]? = some (.cells #[a, b, c, d] t)) : (W.setCell ⟨B, 3, none⟩ x).heap[B]? = some (.cells #[a, b, c, x] t) := by
  obtain ⟨hlt, hk⟩ := Array.getElem?_eq_some_iff.1 h
  show (W.heap.modify B _)[B]? = _
  rw [Array.getElem?_eq_getElem (by rw [Array.size_modify]; exact hlt), Array.getElem_modify_self, hk]
  rfl

/-- What a method leaves: it turns its stream's blocks alone; the bytes lie where they lay, or in a new block. -/
structure Fr (S B : Nat) (ov : Value) (w : World) (ov' : Value) (w' : World) : Prop where
  turns : Turns (KS S B ov) w w'
  own : ∀ k, ov'.ownBlock = some k → ov.ownBlock = some k ∨ w.heap.size ≤ k

theorem Fr.refl (S B : Nat) (ov : Value) (w : World) : Fr S B ov w ov w := ⟨Turns.refl _ _, fun _ h => .inl h⟩
theorem Fr.k {S B : Nat} {ov ov' : Value} {w w' : World} (h : Fr S B ov w ov' w') : ∀ i, i < w.heap.size → KS S B ov' i → KS S B ov i := fun i hi hk => by
  rcases hk with h1 | h1 | h1
  · exact .inl h1
  · exact .inr (.inl h1)
  · rcases h.own i h1 with h2 | h2
    · exact .inr (.inr h2)
    · omega
theorem Fr.trans {S B : Nat} {ov ov' ov'' : Value} {w w' w'' : World} (h : Fr S B ov w ov' w') (h' : Fr S B ov' w' ov'' w'') : Fr S B ov w ov'' w'' :=
  ⟨h.turns.trans' h'.turns h.k, fun k hk => by
    rcases h'.own k hk with h1 | h1
    · exact h.own k h1
    · exact .inr (Nat.le_trans h.turns.size h1)⟩
theorem Fr.throws {S B : Nat} {ov ov' : Value} {w w' w'' : World} (h : Fr S B ov w ov' w') (h' : Turns (KS S B ov') w' w'') : Turns (KS S B ov) w w'' := h.turns.trans' h' h.k
theorem Fr.of_below (S B : Nat) (ov : Value) {w w' : World} (h : Below w.heap.size w w') : Fr S B ov w ov w' := ⟨Turns.of_below' h, fun _ h => .inl h⟩
theorem Fr.codn {S B : Nat} {ov ov' : Value} {w w' : World} {cv : Value} {A D : List Nat} (h : Fr S B ov w ov' w') (hc : Codn w (KS S B ov) cv A D) : Codn w' (KS S B ov') cv A D := hc.go h.turns h.k
theorem Fr.tblv {S B : Nat} {ov ov' : Value} {w w' : World} {tv : Value} {A : List Nat} (h : Fr S B ov w ov' w') (hc : TblV w (KS S B ov) tv A) : TblV w' (KS S B ov') tv A := hc.go h.turns h.k

/-- A stream in memory: its reader at the place a of the bytes l, the bytes o that came. -/
structure Sm (w : World) (base S B : Nat) (sv ov uv : Value) (l : List Nat) (lim a : Nat) (o : List Nat) : Prop where
  box : w.heap[S]? = some (.cells #[.pointer (some ⟨B, 0, none⟩), ov, .int .i64 (lim : Int), uv] 62)
  rd : Rd w B sv l a
  out : w.ownsRow base 5 1 ov o.length (o.map u8v)
  us : uv = .pointer none ∨ Codn w (KS S B ov) uv fixA fixD
  ne : S ≠ B ∧ sv.ownBlock ≠ some S ∧ ov.ownBlock ≠ some S ∧ ov.ownBlock ≠ some B ∧ ∀ k, sv.ownBlock = some k → ov.ownBlock ≠ some k
  lo : base ≤ S ∧ base ≤ B
  le : o.length ≤ lim ∧ lim ≤ 524288
  by' : ∀ b ∈ o, b < 256

section
variable {w : World} {base S B : Nat} {sv ov uv : Value} {l : List Nat} {lim a : Nat} {o : List Nat}
theorem Sm.c0 (h : Sm w base S B sv ov uv l lim a o) : w.cell? ⟨S, 0, none⟩ = some (.pointer (some ⟨B, 0, none⟩)) := by simp [World.cell?, h.box]
theorem Sm.c1 (h : Sm w base S B sv ov uv l lim a o) : w.cell? ⟨S, 1, none⟩ = some ov := by simp [World.cell?, h.box]
theorem Sm.c2 (h : Sm w base S B sv ov uv l lim a o) : w.cell? ⟨S, 2, none⟩ = some (.int .i64 (lim : Int)) := by simp [World.cell?, h.box]
theorem Sm.c3 (h : Sm w base S B sv ov uv l lim a o) : w.cell? ⟨S, 3, none⟩ = some uv := by simp [World.cell?, h.box]
theorem Sm.free (h : Sm w base S B sv ov uv l lim a o) (i : Nat) : w.frozen? ⟨S, i, none⟩ = false := by simp [World.frozen?, h.box]
theorem Sm.size (h : Sm w base S B sv ov uv l lim a o) : S < w.heap.size := lt_heap h.box
theorem Sm.lbase (h : Sm w base S B sv ov uv l lim a o) : base ≤ w.heap.size := by have := h.size; have := h.lo; omega

/-- The reader went on. -/
theorem Sm.reads {w' : World} {a' : Nat} (h : Sm w base S B sv ov uv l lim a o) (hr : Rd w' B sv l a') (ht : Turns (fun i => i = B) w w') : Sm w' base S B sv ov uv l lim a' o ∧ Fr S B ov w ov w' := by
  have hf : Fr S B ov w ov w' := ⟨ht.mono (fun i _ e => .inr (.inl e)), fun _ h => .inl h⟩
  obtain ⟨n1, n2, n3, n4, n5⟩ := h.ne
  refine ⟨⟨(ht.block S h.size n1).trans h.box, hr, ht.owns h.out (fun k hk e => n4 (by rw [hk, e])), h.us.imp id (fun hu => hf.codn hu), h.ne, h.lo, h.le, h.by'⟩, hf⟩
theorem Sm.below {w' : World} (h : Sm w base S B sv ov uv l lim a o) (hb : Below w.heap.size w w') : Sm w' base S B sv ov uv l lim a o ∧ Fr S B ov w ov w' :=
  h.reads (h.rd.below hb) (Turns.of_below' hb)
/-- A byte came. -/
theorem Sm.comes {w1 w' : World} {g cap x : Nat} (h : Sm w base S B sv ov uv l lim a o) (hx : x < 256) (hl : o.length < lim) (ho : w1.ownsRow base 5 1 (.slice (some ⟨g, 0, none⟩) (o.length + 1) cap) (o.length + 1) (o.map u8v ++ [u8v x]))
    (ht : Turns (fun b => ov.ownBlock = some b) w w1) (hg : ov.ownBlock = some g ∨ w.heap.size ≤ g) (hw : w' = w1.setCell ⟨S, 1, none⟩ (.slice (some ⟨g, 0, none⟩) (o.length + 1) cap)) :
    Sm w' base S B sv (.slice (some ⟨g, 0, none⟩) (o.length + 1) cap) uv l lim a (o ++ [x]) ∧ Fr S B ov w (.slice (some ⟨g, 0, none⟩) (o.length + 1) cap) w' := by
  subst hw
  obtain ⟨n1, n2, n3, n4, n5⟩ := h.ne
  have hgS : g ≠ S := fun e => by
    rcases hg with h1 | h1
    · exact n3 (e ▸ h1)
    · have := h.size; omega
  have hgB : g ≠ B := fun e => by
    rcases hg with h1 | h1
    · exact n4 (e ▸ h1)
    · have := h.rd.size; omega
  have hgs : ∀ k, sv.ownBlock = some k → (Value.slice (some ⟨g, 0, none⟩) (o.length + 1) cap).ownBlock ≠ some k := fun k hk e => by
    cases e
    rcases hg with h1 | h1
    · exact n5 _ hk h1
    · have := h.rd.row.lt _ hk; have h2 : w.heap.size ≤ g := h1; simp only at this; omega
  have hbx : w1.heap[S]? = some (.cells #[.pointer (some ⟨B, 0, none⟩), ov, .int .i64 (lim : Int), uv] 62) := (ht.block S h.size n3).trans h.box
  have ht2 : Turns (KS S B ov) w (w1.setCell ⟨S, 1, none⟩ (.slice (some ⟨g, 0, none⟩) (o.length + 1) cap)) := (ht.mono (T' := KS S B ov) (fun i _ e => .inr (.inr e))).set (p := ⟨S, 1, none⟩) (.inl rfl) _
  have hf : Fr S B ov w (.slice (some ⟨g, 0, none⟩) (o.length + 1) cap) (w1.setCell ⟨S, 1, none⟩ (.slice (some ⟨g, 0, none⟩) (o.length + 1) cap)) := ⟨ht2, fun k hk => by cases hk; exact hg⟩
  have ht3 : Turns (fun i => i = S ∨ ov.ownBlock = some i) w (w1.setCell ⟨S, 1, none⟩ (.slice (some ⟨g, 0, none⟩) (o.length + 1) cap)) := (ht.mono (T' := fun i => i = S ∨ ov.ownBlock = some i) (fun i _ e => .inr e)).set (p := ⟨S, 1, none⟩) (.inl rfl) _
  refine ⟨⟨?_, ?_, ?_, h.us.imp id (fun hu => hf.codn hu), ⟨n1, n2, fun e => hgS (by cases e; rfl), fun e => hgB (by cases e; rfl), hgs⟩, h.lo, ⟨by simp; omega, h.le.2⟩, ?_⟩, hf⟩
  · exact four_set1 _ hbx
  · exact h.rd.turns ht3 (fun e => e.elim (fun e => n1 e.symm) (fun e => n4 e)) (fun k hk e => e.elim (fun e => n2 (by rw [hk, e])) (fun e => n5 k hk e))
  · rw [List.length_append, List.map_append]
    refine (Turns.set (T := fun i => i = S) (p := ⟨S, 1, none⟩) (Turns.refl _ w1) rfl _).owns ho (fun i hi e => hgS (by cases hi; exact e))
  · intro b hb
    rcases List.mem_append.1 hb with hb | hb
    · exact h.by' b hb
    · obtain rfl : b = x := by simpa using hb
      exact hx
end

end Go.Proofs.Ytdcmalbbijchiaa

/- inflate: number, symbol and come, as they are called. -/
namespace Go.Proofs.Ytdcmalbbijchiaa
open Go.RowKit Go.Maps

section
variable {base S B : Nat} {sv ov uv : Value} {l : List Nat} {lim a : Nat} {o : List Nat}

set_option maxHeartbeats 1000000 in
theorem inum_any (k : Nat) (hk : k ≤ 24) (w : World) (h : Sm w base S B sv ov uv l lim a o) :
    Calls Try.prog 51 #[.pointer (some ⟨S, 0, none⟩), .int .i64 (k : Int)] w fun e w' =>
      (a + k ≤ 8 * l.length ∧ e = .returned (.int .i64 (nb l a k : Int)) ∧ Sm w' base S B sv ov uv l lim (a + k) o ∧ Fr S B ov w ov w') ∨ (8 * l.length < a + k ∧ e = thrown 50 ∧ Turns (KS S B ov) w w') := by
  have c0 := h.c0
  have H := Lib.hid h
  clear h
  by_cases hfit : a + k ≤ 8 * l.length
  · go_enter Try.func51, Try.ntmps51
    go_wp2_with fail
    refine Calls.mono (get_ok B a k sv l w H.out.rd hk hfit) ?_
    rintro e w1 ⟨rfl, hr, ht⟩
    have Hs := Lib.hid (H.out.reads hr ht)
    have hlt := nb_lt l a k
    obtain ⟨x, hx⟩ : ∃ x, nb l a k = x := ⟨_, rfl⟩
    rw [hx] at hlt
    have hx' : numB l / 2 ^ a % 2 ^ k = x := hx
    rw [hx']
    have hx24 : x < 16777216 := Nat.lt_of_lt_of_le hlt (Nat.pow_le_pow_right (n := 2) (j := 24) (by decide) hk)
    have hw : IntKind.i64.wrap (x : Int) = (x : Int) := IntWalk.i64_in _ (by omega)
    have Hx := Lib.hid hx
    clear hr ht hlt hx hx'
    go_wp2_with fail
    refine Calls.mono (icheck_ok _) ?_
    rintro e w2 ⟨rfl, rfl⟩
    go_wp2
    go_ret
    exact .inl ⟨hfit, by rw [Hx.out]; rfl, Hs.out⟩
  · go_enter Try.func51, Try.ntmps51
    go_wp2_with fail
    refine Calls.mono (get_few B a k sv l w H.out.rd hk (by omega)) ?_
    rintro e w1 ⟨rfl, hb⟩
    have Hb := Lib.hid hb
    clear hb
    go_wp2_with fail
    refine Calls.mono (icheck_no 50 (by decide) _) ?_
    rintro e w2 ⟨rfl, rfl⟩
    go_wp2
    exact ⟨rfl, .inr ⟨by omega, rfl, Turns.of_below' Hb.out⟩⟩

set_option maxHeartbeats 1000000 in
theorem isym_any (tv : Value) (ls : List Nat) (w : World) (h : Sm w base S B sv ov uv l lim a o) (htb : TblV w (KS S B ov) tv ls) :
    Calls Try.prog 65 #[.pointer (some ⟨S, 0, none⟩), tv] w fun e w' => ∃ (x : Nat) (er : Int) (s : Nat), Sy ls l a x er s ∧
      ((er = 0 ∧ e = .returned (.int .i64 (x : Int)) ∧ Sm w' base S B sv ov uv l lim (a + s) o ∧ Fr S B ov w ov w') ∨ (er ≠ 0 ∧ e = thrown er ∧ Turns (KS S B ov) w w')) := by
  have c0 := h.c0
  have H := Lib.hid h
  obtain ⟨T, M, n, L, F, rfl, ht⟩ := htb
  have Ht := Lib.hid ht
  clear h ht
  go_enter Try.func65, Try.ntmps65
  go_wp2_with fail
  refine Calls.mono (read_any T M n L B a F sv l w Ht.out.tb H.out.rd Ht.out.le (fun e => Ht.out.kt (.inr (.inl e))) (fun e => Ht.out.km (.inr (.inl e)))) ?_
  rintro e w1 ⟨x, er, s, rfl, hans, hr, -, htu⟩
  have Hs := Lib.hid (H.out.reads hr htu)
  have HS : Hid (Sy ls l a x er s) := Lib.hid ⟨F, L, Ht.out.tf, Ht.out.tm, hans⟩
  clear hans hr htu
  by_cases he : er = 0
  · subst he
    go_wp2_with fail
    refine Calls.mono (icheck_ok _) ?_
    rintro e w2 ⟨rfl, rfl⟩
    go_wp2
    go_ret
    exact ⟨x, 0, s, HS.out, .inl ⟨rfl, rfl, Hs.out⟩⟩
  · go_wp2_with fail
    refine Calls.mono (icheck_no er he _) ?_
    rintro e w2 ⟨rfl, rfl⟩
    go_wp2
    exact ⟨rfl, x, er, s, HS.out, .inr ⟨he, rfl, Hs.out.2.turns⟩⟩

set_option maxHeartbeats 1000000 in
theorem icome_any (x : Nat) (hx : x < 256) (w : World) (h : Sm w base S B sv ov uv l lim a o) :
    Calls Try.prog 54 #[.pointer (some ⟨S, 0, none⟩), .int .u8 (x : Int)] w fun e w' =>
      (o.length < lim ∧ e = .returned (.tuple #[]) ∧ ∃ ov', Sm w' base S B sv ov' uv l lim a (o ++ [x]) ∧ Fr S B ov w ov' w') ∨ (lim ≤ o.length ∧ e = thrown 81 ∧ Turns (KS S B ov) w w') := by
  have c1 := h.c1
  have c2 := h.c2
  have H := Lib.hid h
  have hle := h.le
  have hlb := h.lbase
  obtain ⟨p, c, rfl⟩ := owns_slice h.out
  clear h
  go_enter Try.func54, Try.ntmps54
  go_upto_region 0 with (fail)
  go_quiet (fail)
  rename_i nq
  have hd : Below w.heap.size w (w.drewN nq) := Below.drewN' (Below.refl _ _) nq
  have Hd := Lib.hid (H.out.below hd)
  by_cases hfull : o.length = lim
  · have e0 : ((o.length : Int) == (lim : Int)) = true := by simp; omega
    go_wp2
    exact ⟨rfl, .inr ⟨by omega, rfl, Turns.of_below' hd⟩⟩
  · have e0 : ((o.length : Int) == (lim : Int)) = false := by simp; omega
    have hs : base ≤ (w.drewN nq).heap.size := Nat.le_trans hlb hd.size
    replace c1 := Hd.out.1.c1
    replace c2 := Hd.out.1.c2
    generalize w.drewN nq = W at *
    clear hd
    go_wp2_with (at_builtin; refine wpList_append_one W rfl (.tmp 19) (.tmp 21) 23 rfl base 5 _ 1 u8_info Try.underlying23 rfl (.slice p o.length c) o.length (o.map u8v) rfl Hd.out.1.out (.int .u8 (x : Int)) _ rfl rfl ?n3 ?n4 hs ?_)
    case n3 => simp only [maxLen]; omega
    case n4 => omega
    intro g cap w1 ho ht hg
    obtain ⟨w2, hw2⟩ : ∃ w2, w1.setCell ⟨S, 1, none⟩ (.slice (some ⟨g, 0, none⟩) (o.length + 1) cap) = w2 := ⟨_, rfl⟩
    have Hc := Lib.hid (Hd.out.1.comes hx (by omega) ho ht hg hw2.symm)
    have hne : S ≠ B ∧ sv.ownBlock ≠ some S ∧ (Value.slice p o.length c).ownBlock ≠ some S := ⟨Hd.out.1.ne.1, Hd.out.1.ne.2.1, Hd.out.1.ne.2.2.1⟩
    have d1 := ht.cell c1 hne.2.2
    have f1 := ht.free c1 (Hd.out.1.free 1) hne.2.2
    have Hw2 := Lib.hid hw2
    clear ho ht hg hw2
    go_wp2
    rw [Hw2.out]
    go_end0
    exact .inl ⟨by omega, rfl, _, Hc.out.1, Hd.out.2.trans Hc.out.2⟩
end

end Go.Proofs.Ytdcmalbbijchiaa
