/- Several texts in one, each with its own head. -/
import Derived.Test.YtebfdoipogjpnaaGreatQs47
import Derived.Test.YtebfdoipogjpnaaGreatQd24
import Derived.Test.YtebfdoipogjpnaaGreatQr2
import Derived.BigQuiet
/- deflate: the document's own reader: number, wrong, come, symbol, codes. -/
namespace Go.Proofs.YtebfdoipogjpnaaGreat
open Go.RowKit Go.Maps

theorem five_set1 {W : World} {B : Nat} {t : TypeId} {a b c d e : Value} (v : Value) (h : W.heap[B]? = some (.cells #[a, b, c, d, e] t)) : (W.setCell ⟨B, 1, none⟩ v).heap[B]? = some (.cells #[a, v, c, d, e] t) := by
  obtain ⟨hlt, hk⟩ := Array.getElem?_eq_some_iff.1 h
  show (W.heap.modify B _)[B]? = _
  rw [Array.getElem?_eq_getElem (by rw [Array.size_modify]; exact hlt), Array.getElem_modify_self, hk]
  rfl
theorem five_set2 {W : World} {B : Nat} {t : TypeId} {a b c d e : Value} (v : Value) (h : W.heap[B]? = some (.cells #[a, b, c, d, e] t)) : (W.setCell ⟨B, 2, none⟩ v).heap[B]? = some (.cells #[a, b, v, d, e] t) := by
  obtain ⟨hlt, hk⟩ := Array.getElem?_eq_some_iff.1 h
  show (W.heap.modify B _)[B]? = _
  rw [Array.getElem?_eq_getElem (by rw [Array.size_modify]; exact hlt), Array.getElem_modify_self, hk]
  rfl
theorem five_set4 {W : World} {B : Nat} {t : TypeId} {a b c d e : Value} (v : Value) (h : W.heap[B]? = some (.cells #[a, b, c, d, e] t)) : (W.setCell ⟨B, 4, none⟩ v).heap[B]? = some (.cells #[a, b, c, d, v] t) := by
  obtain ⟨hlt, hk⟩ := Array.getElem?_eq_some_iff.1 h
  show (W.heap.modify B _)[B]? = _
  rw [Array.getElem?_eq_getElem (by rw [Array.size_modify]; exact hlt), Array.getElem_modify_self, hk]
  rfl

structure Ds (w : World) (base S : Nat) (rv ov : Value) (l : List Nat) (lim a : Nat) (o : List Nat) : Prop where
  box : w.heap[S]? = some (.cells #[rv, .int .i64 (a : Int), ov, .int .i64 (lim : Int), .int .i64 0] 66)
  row : OwnB w base rv (ofB l)
  out : w.ownsRow base 5 1 ov o.length (o.map u8v)
  ap : rv.ownBlock ≠ some S ∧ ov.ownBlock ≠ some S ∧ ∀ k, rv.ownBlock = some k → ov.ownBlock ≠ some k
  lo : base ≤ S
  len : a ≤ 8 * l.length ∧ o.length ≤ lim
section
variable {w w' : World} {base S : Nat} {rv ov : Value} {l : List Nat} {lim a : Nat} {o : List Nat}
theorem Ds.c0 (h : Ds w base S rv ov l lim a o) : w.cell? ⟨S, 0, none⟩ = some rv := cell_heap h.box rfl
theorem Ds.c1 (h : Ds w base S rv ov l lim a o) : w.cell? ⟨S, 1, none⟩ = some (.int .i64 (a : Int)) := cell_heap h.box rfl
theorem Ds.c2 (h : Ds w base S rv ov l lim a o) : w.cell? ⟨S, 2, none⟩ = some ov := cell_heap h.box rfl
theorem Ds.c3 (h : Ds w base S rv ov l lim a o) : w.cell? ⟨S, 3, none⟩ = some (.int .i64 (lim : Int)) := cell_heap h.box rfl
theorem Ds.c4 (h : Ds w base S rv ov l lim a o) : w.cell? ⟨S, 4, none⟩ = some (.int .i64 0) := cell_heap h.box rfl
theorem Ds.free (h : Ds w base S rv ov l lim a o) (i : Nat) : w.frozen? ⟨S, i, none⟩ = false := by simp [World.frozen?, h.box]
theorem Ds.size (h : Ds w base S rv ov l lim a o) : S < w.heap.size := lt_heap h.box
theorem Ds.lbase (h : Ds w base S rv ov l lim a o) : base ≤ w.heap.size := by have := h.size; have := h.lo; omega
theorem Ds.turns {T : Nat → Prop} (h : Ds w base S rv ov l lim a o) (ht : Turns T w w') (h1 : ¬ T S) (h2 : ∀ k, rv.ownBlock = some k → ¬ T k) (h3 : ∀ k, ov.ownBlock = some k → ¬ T k) : Ds w' base S rv ov l lim a o :=
  ⟨(ht.block _ h.size h1).trans h.box, ht.owns h.row h2, ht.owns h.out h3, h.ap, h.lo, h.len⟩
theorem Ds.below (h : Ds w base S rv ov l lim a o) (hb : Below w.heap.size w w') : Ds w' base S rv ov l lim a o := h.turns (T := fun _ => False) (Turns.of_below' hb) id (fun _ _ => id) (fun _ _ => id)
theorem Ds.moved {a' : Nat} (h : Ds w base S rv ov l lim a o) (ha : a' ≤ 8 * l.length) : Ds ((w.setCell ⟨S, 1, none⟩ (.int .i64 (a' : Int))).setCell ⟨S, 4, none⟩ (.int .i64 0)) base S rv ov l lim a' o ∧ Turns (fun b => b = S) w ((w.setCell ⟨S, 1, none⟩ (.int .i64 (a' : Int))).setCell ⟨S, 4, none⟩ (.int .i64 0)) := by
  have ht := ((Turns.refl (fun b => b = S) w).set (p := ⟨S, 1, none⟩) rfl (.int .i64 (a' : Int))).set (p := ⟨S, 4, none⟩) rfl (.int .i64 0)
  exact ⟨⟨five_set4 _ (five_set1 _ h.box), ht.owns h.row (fun k hk e => h.ap.1 (by rw [hk, e])), ht.owns h.out (fun k hk e => h.ap.2.1 (by rw [hk, e])), h.ap, h.lo, ha, h.len.2⟩, ht⟩
theorem Ds.still (h : Ds w base S rv ov l lim a o) : Ds (w.setCell ⟨S, 4, none⟩ (.int .i64 0)) base S rv ov l lim a o ∧ Turns (fun b => b = S) w (w.setCell ⟨S, 4, none⟩ (.int .i64 0)) := by
  have ht := (Turns.refl (fun b => b = S) w).set (p := ⟨S, 4, none⟩) rfl (.int .i64 0)
  exact ⟨⟨five_set4 _ h.box, ht.owns h.row (fun k hk e => h.ap.1 (by rw [hk, e])), ht.owns h.out (fun k hk e => h.ap.2.1 (by rw [hk, e])), h.ap, h.lo, h.len⟩, ht⟩

structure Dgo (w : World) (S : Nat) (ov : Value) (w' : World) (ov' : Value) : Prop where
  ht : Turns (fun b => b = S ∨ ov.ownBlock = some b) w w'
  ho : ∀ k, ov'.ownBlock = some k → ov.ownBlock = some k ∨ w.heap.size ≤ k
theorem Dgo.refl (w : World) (S : Nat) (ov : Value) : Dgo w S ov w ov := ⟨Turns.refl _ _, fun _ h => .inl h⟩
theorem Dgo.of (ht : Turns (fun b => b = S) w w') : Dgo w S ov w' ov := ⟨ht.mono fun _ _ e => .inl e, fun _ h => .inl h⟩
theorem Dgo.trans {w2 : World} {ov' ov2 : Value} (h : Dgo w S ov w' ov') (k : Dgo w' S ov' w2 ov2) : Dgo w S ov w2 ov2 := by
  refine ⟨h.ht.trans' k.ht (fun i hi e => ?_), fun q hq => ?_⟩
  · rcases e with e | e
    · exact .inl e
    · rcases h.ho i e with e | e
      · exact .inr e
      · omega
  · rcases k.ho q hq with e | e
    · exact h.ho q e
    · exact .inr (Nat.le_trans h.ht.size e)
theorem Ds.comes {w1 : World} {g cap x : Nat} (h : Ds w base S rv ov l lim a o) (hl : o.length < lim) (ho : w1.ownsRow base 5 1 (.slice (some ⟨g, 0, none⟩) (o.length + 1) cap) (o.length + 1) (o.map u8v ++ [u8v x]))
    (ht : Turns (fun b => ov.ownBlock = some b) w w1) (hg : ov.ownBlock = some g ∨ w.heap.size ≤ g) :
    Ds (w1.setCell ⟨S, 2, none⟩ (.slice (some ⟨g, 0, none⟩) (o.length + 1) cap)) base S rv (.slice (some ⟨g, 0, none⟩) (o.length + 1) cap) l lim a (o ++ [x]) ∧ Dgo w S ov (w1.setCell ⟨S, 2, none⟩ (.slice (some ⟨g, 0, none⟩) (o.length + 1) cap)) (.slice (some ⟨g, 0, none⟩) (o.length + 1) cap) := by
  obtain ⟨n1, n2, n3⟩ := h.ap
  have hgS : g ≠ S := fun e => by
    rcases hg with h1 | h1
    · exact n2 (e ▸ h1)
    · have := h.size; omega
  have hgr : ∀ k, rv.ownBlock = some k → g ≠ k := fun k hk e => by
    rcases hg with h1 | h1
    · exact n3 k hk (e ▸ h1)
    · have := (h.row.lt k hk).2; omega
  have ht2 := (Turns.refl (fun b => b = S) w1).set (p := ⟨S, 2, none⟩) rfl (.slice (some ⟨g, 0, none⟩) (o.length + 1) cap)
  have hbox := (ht.block _ h.size n2).trans h.box
  refine ⟨⟨five_set2 _ hbox, ht2.owns (ht.owns h.row n3) (fun k hk e => n1 (by rw [hk, e])), ?_, ⟨n1, fun e => hgS (by have := Option.some.inj e; simpa using this), fun k hk e => hgr k hk (by have := Option.some.inj e; simpa using this)⟩, h.lo, h.len.1, ?_⟩, ⟨(ht.mono fun _ _ e => .inr e).trans (ht2.mono fun _ _ e => .inl e), fun k hk => ?_⟩⟩
  · have := ht2.owns ho (fun k hk e => hgS (by have := Option.some.inj hk; simp only at this; omega))
    rw [List.length_append, List.map_append]
    exact this
  · rw [List.length_append, List.length_singleton]; omega
  · have e := Option.some.inj hk
    simp only at e
    rw [← e]
    exact hg
end

theorem OC.kept {w w' : World} {B : Nat} {o : Value} {f : Nat → Nat} {N : Nat} {l : List Nat} (h : OC w B o f N l) {T : Nat → Prop} (ht : Turns T w w') (hT : ∀ i, T i → i < B ∨ w.heap.size ≤ i) : OC w' B o f N l := by
  obtain ⟨xs, h1, h2, h3⟩ := h.ex
  refine ⟨xs, h1, ht.owns h2 (fun k hk hT' => ?_), fun p hp => ⟨ht.owns (h3 p hp).1 (fun k hk hT' => ?_), (h3 p hp).2⟩⟩
  · have := h2.lt k hk
    have := hT k hT'
    omega
  · have := (h3 p hp).1.lt k hk
    have := hT k hT'
    omega

section
variable {base S : Nat} {rv ov : Value} {l : List Nat} {lim a : Nat} {o : List Nat}
set_option maxRecDepth 20000 in
set_option maxHeartbeats 2000000 in
theorem num_at {k : Nat} (w : World) (h : Ds w base S rv ov l lim a o) (hby : ∀ b ∈ l, b < 256) (hl : l.length ≤ 1000) (hk : k ≤ 24) (hfit : a + k ≤ 8 * l.length) :
    Calls Tryz.prog 31 #[.pointer (some ⟨S, 0, none⟩), .int .i64 (k : Int)] w fun e w' => e = .returned (.int .i64 ((nb l a k : Nat) : Int)) ∧ Ds w' base S rv ov l lim (a + k) o ∧ Turns (fun b => b = S) w w' := by
  have H := Lib.hid h
  have c0 := h.c0
  have c1 := h.c1
  have c4 := h.c4
  have hlen := ofB_len l
  have Hg := Lib.hid fun (w' : World) (hb : Below w.heap.size w w') => refGet_ok rv (ofB l) a k w' (OwnB.rw (h.below hb).row) hk (by rw [hlen]; omega) (by rw [hlen]; exact hfit)
  have hn24 : nb l a k < 16777216 := Nat.lt_of_lt_of_le (nb_lt l a k) (Nat.le_trans (Nat.pow_le_pow_right (n := 2) (by omega) hk) (by decide))
  have Hn := Lib.hid (show numL (ofB l) / 2 ^ a % 2 ^ k = nb l a k by rw [numL_ofB l hby]; rfl)
  obtain ⟨y, hy⟩ : ∃ y, nb l a k = y := ⟨_, rfl⟩
  rw [hy] at Hn hn24 ⊢
  have hw1 : IntKind.i64.wrap (y : Int) = (y : Int) := IntWalk.i64_in _ (by omega)
  have Hfit := Lib.hid hfit
  clear h hy hlen hfit
  go_enter Tryz.func31, Tryz.ntmps31
  go_upto_region 3 with (fail)
  have HG : Hid (∀ n, Calls Tryz.prog 62 #[rv, .int .i64 (a : Int), .int .i64 (k : Int)] (w.drewN n) fun e w' => e = .returned (.tuple #[.int .u32 (y : Int), .int .i64 ((a + k : Nat) : Int), .int .i64 0]) ∧ w' = w.drewN n) := Lib.hid fun n => by
    have := Hg.out (w.drewN n) (Below.drewN' (Below.refl _ _) n)
    rwa [Hn.out] at this
  go_quiet ((go_at_call 62; with_reducible exact Calls.quiet_of_same (HG.out _)))
  rename_i nq
  have hb1 : Below w.heap.size w (w.drewN nq) := Below.drewN' (Below.refl _ _) nq
  generalize w.drewN nq = w1 at *
  have hD := H.out.below hb1
  have HM := Lib.hid (hD.moved Hfit.out)
  have HT1 := Lib.hid (Turns.of_below' (T := fun b => b = S) hb1)
  have d1 := hD.c1
  have d4 := hD.c4
  have f1 := hD.free 1
  have f4 := hD.free 4
  clear hb1 hD c0 c1 c4 HG
  go_wp2
  go_ret
  exact ⟨rfl, HM.out.1, HT1.out.trans HM.out.2⟩

set_option maxHeartbeats 1000000 in
theorem wrong_no (x : Int) (p : Option Addr) (w : World) : Calls Tryz.prog 37 #[.pointer p, .bool false, .int .i64 x] w fun e w' => e = .returned (.tuple #[]) ∧ w' = w := by
  go_enter Tryz.func37, Tryz.ntmps37
  go_wp2
  go_end0
  exact ⟨rfl, rfl⟩

set_option maxRecDepth 20000 in
set_option maxHeartbeats 2000000 in
theorem come_at (x : Nat) (w : World) (h : Ds w base S rv ov l lim a o) (hl : o.length < lim) (hlim : lim ≤ 524288) :
    Calls Tryz.prog 63 #[.pointer (some ⟨S, 0, none⟩), .int .u8 (x : Int)] w fun e w' => e = .returned (.tuple #[]) ∧ ∃ ov', Ds w' base S rv ov' l lim a (o ++ [x]) ∧ Dgo w S ov w' ov' := by
  have H := Lib.hid h
  have c2 := h.c2
  have c3 := h.c3
  obtain ⟨p, c, rfl⟩ := owns_slice h.out
  have hlb := h.lbase
  have Hl := Lib.hid hl
  obtain ⟨n, hn⟩ : ∃ n, o.length = n := ⟨_, rfl⟩
  have Hn := Lib.hid hn
  rw [hn] at c2 hl H ⊢
  have d0 : decide ((n : Int) ≥ (lim : Int)) = false := by simp; omega
  have d0' : decide (lim ≤ n) = false := by simp; omega
  clear h hn
  go_enter Tryz.func63, Tryz.ntmps63
  go_upto_region 0 with (fail)
  go_quiet ((go_at_call 37; with_reducible exact Calls.quiet_of_same (wrong_no _ _ _)))
  rename_i nq
  have hd : Below w.heap.size w (w.drewN nq) := Below.drewN' (Below.refl _ _) nq
  have HD := Lib.hid (H.out.below hd)
  have HT := Lib.hid (Turns.of_below' (T := fun b => b = S) hd)
  have hs : base ≤ (w.drewN nq).heap.size := Nat.le_trans hlb hd.size
  generalize w.drewN nq = W at *
  clear hd c2 c3
  have c2 := HD.out.c2
  have c4 := HD.out.c4
  have c21 := HD.out.free 2
  go_wp2_with (at_builtin; refine wpList_append_one W rfl (.tmp 25) (.tmp 27) 22 rfl base 5 _ 1 u8_info Tryz.underlying22 rfl (.slice p n c) n (o.map u8v) rfl (by have := HD.out.out; rwa [Hn.out] at this) (.int .u8 (x : Int)) _ rfl rfl ?n3 ?n4 hs ?_)
  case n3 => simp only [maxLen]; omega
  case n4 => omega
  intro g cap w1 ho ht hg
  have hc := HD.out.comes (g := g) (cap := cap) (x := x) (w1 := w1) Hl.out
  rw [Hn.out] at hc
  have Hc := Lib.hid (hc ho ht hg)
  have hne : (Value.slice p n c).ownBlock ≠ some S := HD.out.ap.2.1
  have d1 := ht.cell c2 hne
  have f1 := ht.free c2 (HD.out.free 2) hne
  clear ho ht hg hc c4 c21
  go_wp2
  go_end0
  exact ⟨rfl, _, Hc.out.1, (Dgo.of HT.out).trans Hc.out.2⟩

set_option maxRecDepth 20000 in
set_option maxHeartbeats 2000000 in
theorem codes_at (ls : List Nat) (v : Value) (w : World) (h : Ds w base S rv ov l lim a o) (hv : Row enc8 1 w v ls) (hc : chk ls = 0) :
    Calls Tryz.prog 35 #[.pointer (some ⟨S, 0, none⟩), v] w fun e w' => ∃ oc, e = .returned oc ∧ OC w' w.heap.size oc (lq ls) ls.length (tl (lq ls) ls.length 15 0) ∧ Ds w' base S rv ov l lim a o ∧ Turns (fun b => b = S) w w' := by
  have H := Lib.hid h
  have c4 := h.c4
  have Hall := Lib.hid (refAll_ok ls v w hv hc)
  have hsz := h.size
  clear h hv
  go_enter Tryz.func35, Tryz.ntmps35
  go_wp2_with fail
  refine Calls.mono Hall.out ?_
  rintro _ w1 ⟨oc, rfl, hoc, hb1⟩
  have hD := H.out.below hb1
  have Hst := Lib.hid hD.still
  have HT := Lib.hid (Turns.of_below' (T := fun b => b = S) hb1)
  have d4 := hD.c4
  have f4 := hD.free 4
  have Hoc := Lib.hid (hoc.kept hD.still.2 (fun i hi => .inl (by omega)))
  obtain ⟨p, c, e⟩ : ∃ p c, oc = .slice p (tl (lq ls) ls.length 15 0).length c := by
    obtain ⟨xs, -, h2, -⟩ := hoc.ex
    exact owns_slice h2
  subst e
  clear hD hb1 hoc c4
  go_wp2
  go_ret
  exact ⟨_, rfl, Hoc.out, Hst.out.1, HT.out.trans Hst.out.2⟩

theorem rd_doc {ls : List Nat} {F : Nat × Nat → Option Nat} {L : Nat} (hc : chk ls = 0) (hby : ∀ b ∈ l, b < 256) (t3 : ToldF (lq ls) ls.length 15 0 F) (t4 : ToldM (lq ls) ls.length 15 0 L) : RdDoc ls (tl (lq ls) ls.length 15 0) l a L F :=
  ⟨hc, fun _ => tl_iff (chk_zero hc).2.1, hby, t3, t4⟩
theorem tl_small (ls : List Nat) (hn : ls.length ≤ 320) : (tl (lq ls) ls.length 15 0).length ≤ 4800 := by
  have h1 := al_len (lq ls) ls.length 15
  unfold tl
  rw [show sy (lq ls) (15 + 1) 0 = [] from rfl, List.append_nil]
  omega
theorem read_at {ls : List Nat} {x s B : Nat} (lv : Value) (w : World) (hrow : OwnB w base rv (ofB l)) (ha : a ≤ 8 * l.length) (hby : ∀ b ∈ l, b < 256) (hl : l.length ≤ 1000) (hc : chk ls = 0) (hn : ls.length ≤ 320) (ho : OC w B lv (lq ls) ls.length (tl (lq ls) ls.length 15 0)) (hy : Sy ls l a x 0 s) :
    Makes Tryz.prog 100 #[lv, rv, .int .i64 (a : Int)] w (.tuple #[.int .i64 (x : Int), .int .i64 ((a + s : Nat) : Int), .int .i64 0]) := by
  obtain ⟨F, L, t3, t4, hans⟩ := hy
  have hTl := tl_small ls hn
  refine Calls.mono (refRead_any ls _ l a L B F lv rv w (rd_doc hc hby t3 t4) ho (OwnB.rw hrow) hl (by omega) ha) ?_
  rintro e w' ⟨x', er', s', rfl, hans', hb⟩
  obtain ⟨rfl, rfl, rfl⟩ := hans.only hans'
  exact ⟨rfl, hb⟩

set_option maxRecDepth 20000 in
set_option maxHeartbeats 2000000 in
theorem sym_at {ls : List Nat} {x s B : Nat} (lv : Value) (w : World) (h : Ds w base S rv ov l lim a o) (hby : ∀ b ∈ l, b < 256) (hl : l.length ≤ 1000) (hc : chk ls = 0) (hn : ls.length ≤ 320) (ho : OC w B lv (lq ls) ls.length (tl (lq ls) ls.length 15 0)) (hy : Sy ls l a x 0 s) (hfit : a + s ≤ 8 * l.length) :
    Calls Tryz.prog 64 #[.pointer (some ⟨S, 0, none⟩), lv] w fun e w' => e = .returned (.int .i64 (x : Int)) ∧ Ds w' base S rv ov l lim (a + s) o ∧ Turns (fun b => b = S) w w' := by
  have H := Lib.hid h
  have c0 := h.c0
  have c1 := h.c1
  have c4 := h.c4
  have HR : Hid (∀ m : After w, Makes Tryz.prog 100 #[lv, rv, .int .i64 (a : Int)] m.world (.tuple #[.int .i64 (x : Int), .int .i64 ((a + s : Nat) : Int), .int .i64 0])) := Lib.hid fun m => read_at lv m.world (h.below m.below).row h.len.1 hby hl hc hn (ho.later m.below) hy
  have Hfit := Lib.hid hfit
  obtain ⟨az, has⟩ : ∃ az, a + s = az := ⟨_, rfl⟩
  rw [has] at HR Hfit ⊢
  clear h hby hl hc hn ho hy hfit has
  go_enter Tryz.func64, Tryz.ntmps64
  go_upto_region 3 with (fail)
  have hne := After.ne w
  have C0 := After.rule c0
  have C1 := After.rule c1
  refine wp_region_after (by kernel_rfl) (by kernel_rfl) ?_
  repeat (go_big_quiet_step ((go_at_call 100; exact Makes.after (HR.out _))))
  refine wpQuiet_nil ?_
  rintro _ ⟨nq, rfl⟩
  have hD := H.out.below nq.below
  have HM := Lib.hid (hD.moved Hfit.out)
  have HT1 := Lib.hid (Turns.of_below' (T := fun b => b = S) nq.below)
  generalize nq.world = w1 at *
  have d1 := hD.c1
  have d4 := hD.c4
  have f1 := hD.free 1
  have f4 := hD.free 4
  clear hD c0 c1 c4 HR hne C0 C1
  go_wp2
  go_ret
  exact ⟨rfl, HM.out.1, HT1.out.trans HM.out.2⟩
end

end Go.Proofs.YtebfdoipogjpnaaGreat

/- deflate: the document's own reader: the symbols of a block. -/
namespace Go.Proofs.YtebfdoipogjpnaaGreat
open Go.RowKit Go.Maps

theorem toks_next {A D l : List Nat} {lim a a' : Nat} {o o' : List Nat} (h : InfToks A D l lim a o (.go a' o')) :
    (∃ s, Sy A l a 256 0 s ∧ a' = a + s ∧ o' = o) ∨ (∃ x s, Sy A l a x 0 s ∧ x < 256 ∧ o.length < lim ∧ InfToks A D l lim (a + s) (o ++ [x]) (.go a' o')) ∨
    ∃ x s y t, Sy A l a x 0 s ∧ 256 < x ∧ x ≤ 285 ∧ a + s + lnBits x ≤ 8 * l.length ∧ Sy D l (a + s + lnBits x) y 0 t ∧ y ≤ 29 ∧ a + s + lnBits x + t + dsBits y ≤ 8 * l.length ∧
      dsBase y + nb l (a + s + lnBits x + t) (dsBits y) ≤ o.length ∧ o.length + (lnBase x + nb l (a + s) (lnBits x)) ≤ lim ∧
      InfToks A D l lim (a + s + lnBits x + t + dsBits y) (ext (dsBase y + nb l (a + s + lnBits x + t) (dsBits y)) (lnBase x + nb l (a + s) (lnBits x)) o) (.go a' o') := by
  cases h with
  | fin _ _ _ h =>
    cases h with
    | fin s h => exact .inl ⟨s, h, rfl, rfl⟩
    | rep x s _ h h1 h2 => cases h2
  | more _ a2 _ o2 _ h h1 =>
    cases h with
    | byte x s h k1 k2 => exact .inr (.inl ⟨x, s, h, k1, k2, h1⟩)
    | rep x s _ h k1 k2 =>
      cases k2 with
      | done g g1 y t g2 g3 g4 g5 g6 => exact .inr (.inr ⟨x, s, y, t, h, k1, g, g1, g2, g3, g4, g5, g6, h1⟩)

theorem ds_pos (y : Nat) : 1 ≤ dsBase y := by unfold dsBase; omega
section
variable {base S : Nat} {rv ov : Value} {l : List Nat} {lim a : Nat} {o : List Nat}

theorem Dgo.keeps {w w' : World} {ov' : Value} {G : Nat → Prop} (h : Dgo w S ov w' ov') (hG : ∀ b, G b → b ≠ S ∧ ov.ownBlock ≠ some b) : Turns (fun b => ¬ G b) w w' :=
  h.ht.mono fun i _ hi hg => by
    rcases hi with e | e
    · exact (hG i hg).1 e
    · exact (hG i hg).2 e

set_option maxRecDepth 20000 in
set_option maxHeartbeats 8000000 in
theorem symbols_at {A D : List Nat} {G : Nat → Prop} {BA BD a' : Nat} {o' : List Nat} (oa od : Value) (w : World) (h : Ds w base S rv ov l lim a o) (hby : ∀ b ∈ l, b < 256) (hl : l.length ≤ 1000) (hlim : lim ≤ 524288) (cA : chk A = 0) (cD : chk D = 0) (nA : A.length ≤ 320) (nD : D.length ≤ 320)
    (hA : ∀ w', Turns (fun b => ¬ G b) w w' → OC w' BA oa (lq A) A.length (tl (lq A) A.length 15 0)) (hD : ∀ w', Turns (fun b => ¬ G b) w w' → OC w' BD od (lq D) D.length (tl (lq D) D.length 15 0)) (hG : ∀ b, G b → b ≠ S ∧ ov.ownBlock ≠ some b) (ht : InfToks A D l lim a o (.go a' o')) :
    Calls Tryz.prog 34 #[.pointer (some ⟨S, 0, none⟩), oa, od] w fun e w' => e = .returned (.tuple #[]) ∧ ∃ ov', Ds w' base S rv ov' l lim a' o' ∧ Dgo w S ov w' ov' := by
  have H := Lib.hid h
  have Hby := Lib.hid hby
  have HcA := Lib.hid (And.intro cA nA)
  have HcD := Lib.hid (And.intro cD nD)
  have HA := Lib.hid hA
  have HD := Lib.hid hD
  have HG := Lib.hid hG
  have HT := Lib.hid ht
  have Hl := Lib.hid hl
  clear h hby cA cD nA nD hA hD hG ht hl
  go_enter Tryz.func34, Tryz.ntmps34
  go_wp2_with fail
  go_loopw [6] (fun _ wr => ∃ (a1 : Nat) (o1 : List Nat) (ov1 : Value), Hid (InfToks A D l lim a1 o1 (.go a' o')) ∧ Hid (Ds wr base S rv ov1 l lim a1 o1) ∧ Hid (Dgo w S ov wr ov1))
    (fun _ wr => 8 * l.length - (intOf ((wr.cell? ⟨S, 1, none⟩).getD undef)).toNat)
  case atStart => exact ⟨a, o, ov, HT, H, Lib.hid (Dgo.refl _ _ _)⟩
  case round =>
    obtain ⟨a1, o1, ov1, HT1, HW, HG1⟩ := hrel
    have c4 := HW.out.c4
    have hmeas := HW.out.c1
    have HOA := Lib.hid (HA.out wr (HG1.out.keeps HG.out))
    rcases toks_next HT1.out with ⟨s, hy, rfl, rfl⟩ | ⟨x, s, hy, hx, hol, hnext⟩ | ⟨x, s, y, t, hy, x1, x2, hb1, hy2, y1, hb2, hdo, hno, hnext⟩
    · obtain ⟨x, hx⟩ : ∃ x, 256 = x := ⟨_, rfl⟩
      rw [hx] at hy
      have d2 : ((x : Int) == 256) = true := by simp; omega
      have Hs := Lib.hid (sym_at oa wr HW.out Hby.out Hl.out HcA.out.1 HcA.out.2 HOA.out hy hy.in')
      clear hy hx
      go_wp2_with fail
      refine Calls.mono Hs.out ?_
      rintro _ w1 ⟨rfl, hD1, ht1⟩
      have HD1 := Lib.hid hD1
      have c4 := hD1.c4
      have Hgo := Lib.hid (HG1.out.trans (Dgo.of (ov := ov1) ht1))
      clear hD1 ht1 Hs
      go_wp2
      refine bodyPost_ret (results_none rfl _ _ _) rfl ?_
      exact ⟨rfl, _, HD1.out, Hgo.out⟩
    · have hpos := hy.pos.1
      have hin := hy.in'
      have Hs := Lib.hid (sym_at oa wr HW.out Hby.out Hl.out HcA.out.1 HcA.out.2 HOA.out hy hy.in')
      have Hnext := Lib.hid hnext
      have d1 : decide ((x : Int) < 256) = true := by simp; omega
      have d1' : decide (x < 256) = true := by simpa using hx
      have d2 : ((x : Int) == 256) = false := by simp; omega
      have hw1 : IntKind.u8.wrap (x : Int) = (x : Int) := by rw [IntKind.wrap_u8]; omega
      clear hy hnext
      go_wp2_with fail
      refine Calls.mono Hs.out ?_
      rintro _ w1 ⟨rfl, hD1, ht1⟩
      have HD1 := Lib.hid hD1
      have c4 := hD1.c4
      have Hgo := Lib.hid (HG1.out.trans (Dgo.of (ov := ov1) ht1))
      clear hD1 ht1 Hs
      go_wp2_with fail
      refine Calls.mono (come_at x w1 HD1.out hol hlim) ?_
      rintro _ w2 ⟨rfl, ov2, hD2, hg2⟩
      have HD2 := Lib.hid hD2
      have hm2 := hD2.c1
      have Hgo2 := Lib.hid (Hgo.out.trans hg2)
      clear hD2 hg2
      go_wp2
      go_roundw
      case rel => exact ⟨_, _, ov2, Hnext, HD2, Hgo2⟩
      case measure => rw [hmeas, hm2]; simp [intOf]; omega
    · have hpos := hy.pos.1
      have hin := hy.in'
      have hin2 := hy2.in'
      have Hs := Lib.hid (sym_at oa wr HW.out Hby.out Hl.out HcA.out.1 HcA.out.2 HOA.out hy hy.in')
      have d1 : decide ((x : Int) < 256) = false := by simp; omega
      have d1' : decide (x < 256) = false := by simp; omega
      have d2 : ((x : Int) == 256) = false := by simp; omega
      have d3 : decide ((x : Int) > 285) = false := by simp; omega
      have d3' : decide (285 < x) = false := by simp; omega
      have d4 : decide ((y : Int) > 29) = false := by simp; omega
      have d4' : decide (29 < y) = false := by simp; omega
      obtain ⟨k1, k2⟩ := ln_small x (by omega)
      obtain ⟨k3, k4⟩ := ds_small y (by omega)
      have hv1 : nb l (a1 + s) (lnBits x) < 32 := Nat.lt_of_lt_of_le (nb_lt _ _ _) (Nat.pow_le_pow_right (n := 2) (j := 5) (by decide) k2)
      have hv2 : nb l (a1 + s + lnBits x + t) (dsBits y) < 8192 := Nat.lt_of_lt_of_le (nb_lt _ _ _) (Nat.pow_le_pow_right (n := 2) (j := 13) (by decide) k4)
      have Hbase := Lib.hid (base_any x)
      have Hfar := Lib.hid (far_any y)
      have Hsy2 := Lib.hid hy2
      obtain ⟨lb, hlb⟩ : ∃ z, lnBase x = z := ⟨_, rfl⟩
      obtain ⟨lk, hlk⟩ : ∃ z, lnBits x = z := ⟨_, rfl⟩
      obtain ⟨db, hdb⟩ : ∃ z, dsBase y = z := ⟨_, rfl⟩
      obtain ⟨dk, hdk⟩ : ∃ z, dsBits y = z := ⟨_, rfl⟩
      rw [hlb] at k1 hno hnext Hbase
      rw [hlk] at k2 hv1 hv2 hb1 hb2 hdo hno hnext Hbase Hsy2 hin2
      rw [hdb] at k3 hdo hnext Hfar
      rw [hdk] at k4 hv2 hb2 hdo hnext Hfar
      have Hv1 := Lib.hid (show nb l (a1 + s) lk = nb l (a1 + s) lk from rfl)
      obtain ⟨n, hn⟩ : ∃ n, lb + nb l (a1 + s) lk = n := ⟨_, rfl⟩
      obtain ⟨d, hd⟩ : ∃ d, db + nb l (a1 + s + lk + t) dk = d := ⟨_, rfl⟩
      rw [hn] at hno hnext
      rw [hd] at hdo hnext
      obtain ⟨v1, hv1e⟩ : ∃ v, nb l (a1 + s) lk = v := ⟨_, rfl⟩
      obtain ⟨v2, hv2e⟩ : ∃ v, nb l (a1 + s + lk + t) dk = v := ⟨_, rfl⟩
      rw [hv1e] at hn hv1
      rw [hv2e] at hd hv2
      have Hve := Lib.hid (And.intro hv1e hv2e)
      have hnI : (lb : Int) + (v1 : Int) = (n : Int) := by omega
      have hdI : (db : Int) + (v2 : Int) = (d : Int) := by omega
      have hnw : IntKind.i64.wrap (n : Int) = (n : Int) := IntWalk.i64_in _ (by omega)
      have hdw : IntKind.i64.wrap (d : Int) = (d : Int) := IntWalk.i64_in _ (by omega)
      have hd1 : 1 ≤ d := by have := ds_pos y; omega
      have Hnext := Lib.hid hnext
      clear hy hy2 hnext Hv1 hv1e hv2e hlb hlk hdb hdk
      go_wp2_with fail
      refine Calls.mono Hs.out ?_
      rintro _ w1 ⟨rfl, hD1, ht1⟩
      have HD1 := Lib.hid hD1
      have c4 := hD1.c4
      have Hgo := Lib.hid (HG1.out.trans (Dgo.of (ov := ov1) ht1))
      clear hD1 ht1 Hs
      go_wp2_with fail
      refine Calls.mono (wrong_no _ _ w1) ?_
      rintro _ z1 ⟨rfl, rfl⟩
      go_wp2_with fail
      refine Calls.mono (Hbase.out _ (by omega) (by omega)) ?_
      rintro _ z1 ⟨rfl, rfl⟩
      go_wp2_with fail
      refine Calls.mono (num_at (k := lk) _ HD1.out Hby.out Hl.out (by omega) (by omega)) ?_
      rintro _ w2 ⟨rfl, hD2, ht2⟩
      have HD2 := Lib.hid hD2
      have c4 := hD2.c4
      have Hgo2 := Lib.hid (Hgo.out.trans (Dgo.of (ov := ov1) ht2))
      have HOD := Lib.hid (HD.out w2 (Hgo2.out.keeps HG.out))
      rw [Hve.out.1]
      clear hD2 ht2 HD1
      go_wp2_with fail
      refine Calls.mono (sym_at od w2 HD2.out Hby.out Hl.out HcD.out.1 HcD.out.2 HOD.out Hsy2.out (by omega)) ?_
      rintro _ w3 ⟨rfl, hD3, ht3⟩
      have HD3 := Lib.hid hD3
      have c4 := hD3.c4
      have Hgo3 := Lib.hid (Hgo2.out.trans (Dgo.of (ov := ov1) ht3))
      clear hD3 ht3 HD2 Hgo2
      go_wp2_with fail
      refine Calls.mono (wrong_no _ _ w3) ?_
      rintro _ z1 ⟨rfl, rfl⟩
      go_wp2_with fail
      refine Calls.mono (Hfar.out _ (by omega)) ?_
      rintro _ z1 ⟨rfl, rfl⟩
      go_wp2_with fail
      refine Calls.mono (num_at (k := dk) _ HD3.out Hby.out Hl.out (by omega) (by omega)) ?_
      rintro _ w4 ⟨rfl, hD4, ht4⟩
      have HD4 := Lib.hid hD4
      have c4 := hD4.c4
      have c2 := hD4.c2
      have Hgo4 := Lib.hid (Hgo3.out.trans (Dgo.of (ov := ov1) ht4))
      rw [Hve.out.2]
      obtain ⟨p4, q4, rfl⟩ := owns_slice hD4.out
      obtain ⟨len, hlen⟩ : ∃ z, o1.length = z := ⟨_, rfl⟩
      have Hlen := Lib.hid hlen
      rw [hlen] at c2 hdo hno HD4 Hgo4
      have d5 : decide ((d : Int) > (len : Int)) = false := by simp; omega
      have d5' : decide (len < d) = false := by simp; omega
      clear hD4 ht4 HD3 Hgo3 hlen
      go_wp2_with fail
      refine Calls.mono (wrong_no _ _ w4) ?_
      rintro _ z1 ⟨rfl, rfl⟩
      go_wp2_with fail
      go_loopw [12] (fun iv wq => ∃ (i : Nat) (oi : List Nat) (ovi : Value), iv = .int .i64 (i : Int) ∧ i ≤ n ∧ Hid (Ds wq base S rv ovi l lim (a1 + s + lk + t + dk) oi) ∧ Hid (Dgo w S ov wq ovi) ∧ Hid (oi.length = len + i) ∧ Hid (ext d (n - i) oi = ext d n o1)) (fun iv _ => n - (intOf iv).toNat)
      case atStart => exact ⟨0, o1, _, rfl, Nat.zero_le _, HD4, Hgo4, Lib.hid (by rw [Hlen.out]; rfl), Lib.hid rfl⟩
      case round =>
        clear HD4 Hgo4 c4 c2
        obtain ⟨i, oi, ovi, rfl, hi, HDi, HGi, HLi, HEi⟩ := hrel
        have c4 := HDi.out.c4
        by_cases hin' : i < n
        · have d6 : decide ((i : Int) < (n : Int)) = true := by simp; omega
          have d6' : decide (i < n) = true := by simpa using hin'
          have c2 := HDi.out.c2
          obtain ⟨Li, hLi⟩ : ∃ z, len + i = z := ⟨_, rfl⟩
          rw [hLi] at HLi
          have hoi0 : 0 < oi.length := by rw [HLi.out]; omega
          obtain ⟨gi, qi, cur, rfl, -, -, hz, hq⟩ := owns_block HDi.out.out hoi0
          have hlt : oi.length - d < oi.length := by omega
          have xc : wr.cell? ⟨gi, Li - d, none⟩ = some (.int .u8 ((oi.getD (oi.length - d) 0 : Nat) : Int)) := by
            rw [← HLi.out]
            exact cell_heap hz (hq _ _ (by rw [List.getElem?_map, List.getElem?_eq_getElem hlt, List.getD_eq_getElem?_getD, List.getElem?_eq_getElem hlt]; rfl))
          obtain ⟨xb, hxb⟩ : ∃ z, oi.getD (oi.length - d) 0 = z := ⟨_, rfl⟩
          have HE2 : Hid (ext d (n - (i + 1)) (oi ++ [xb]) = ext d n o1) := Lib.hid (by
            rw [← HEi.out, ← hxb, show n - i = n - (i + 1) + 1 by omega]
            rfl)
          rw [hxb] at xc
          rw [HLi.out] at c2
          have hs1 : (Li : Int) - (d : Int) = ((Li - d : Nat) : Int) := by omega
          have hol : oi.length < lim := by rw [HLi.out]; omega
          have HL2 : Hid ((oi ++ [xb]).length = len + (i + 1)) := Lib.hid (by rw [List.length_append, HLi.out, List.length_singleton]; omega)
          obtain ⟨j, hj⟩ : ∃ j, Li - d = j := ⟨_, rfl⟩
          rw [hj] at xc hs1
          have j0 : (0 : Int) ≤ (j : Int) := by omega
          have j1 : (j : Int) < (Li : Int) := by omega
          have hwj : IntKind.i64.wrap (j : Int) = (j : Int) := IntWalk.i64_in _ (by omega)
          have hb0 := HDi.out.size
          clear hz hq hxb hlt hoi0 hj hLi
          go_upto_region 18 with (fail)
          have hqq := After.ne wr
          have C2 := After.rule c2
          have CX := After.rule xc
          refine wp_region_head 14 (by kernel_rfl) (by kernel_rfl) (by kernel_rfl) ?_
          repeat (refine Lq_step (fun K hK => ?_); go_simp; (refine hK _ ?_; clear hK K))
          refine Lq_nil ?_
          intro w5 hb5
          simp only [List.drop_succ_cons, List.drop_zero]
          have HD5 := Lib.hid (HDi.out.below hb5)
          have HG5 := Lib.hid (HGi.out.trans (Dgo.of (Turns.of_below' (T := fun b => b = S) hb5)))
          clear hqq C2 CX hb5 c2 xc c4
          go_wp2_with fail
          refine Calls.mono (come_at xb w5 HD5.out hol hlim) ?_
          rintro _ w6 ⟨rfl, ov6, hD6, hg6⟩
          have HD6 := Lib.hid hD6
          have HG6 := Lib.hid (HG5.out.trans hg6)
          clear hD6 hg6
          go_wp2
          go_roundw
          case rel => exact ⟨i + 1, _, ov6, by go_num, by omega, HD6, HG6, HL2, HE2⟩
          case measure => simp [intOf]; omega
        · obtain rfl : i = n := by omega
          have d6 : decide ((i : Int) < (i : Int)) = false := by simp
          have d6' : decide (i < i) = false := by simp
          have hfin := HEi.out
          rw [Nat.sub_self] at hfin
          change oi = ext d i o1 at hfin
          have hm2 := HDi.out.c1
          have HT2 : Hid (InfToks A D l lim (a1 + s + lk + t + dk) oi (.go a' o')) := Lib.hid (by rw [hfin]; exact Hnext.out)
          clear hfin
          go_wp2
          go_roundw
          case rel => exact ⟨_, _, ovi, HT2, HDi, HGi⟩
          case measure => rw [hmeas, hm2]; simp [intOf]; omega
end

end Go.Proofs.YtebfdoipogjpnaaGreat

/- deflate: the document's own reader: a stored block. -/
namespace Go.Proofs.YtebfdoipogjpnaaGreat
open Go.RowKit Go.Maps

theorem bys_succD (l : List Nat) (a n : Nat) : bys l a (n + 1) = bys l a n ++ [nb l (a + 8 * n) 8] := by
  unfold bys
  rw [List.range_succ, List.map_append]; rfl
theorem alN_next {a : Nat} (h : a % 8 ≠ 0) : alN (a + 1) = alN a := by unfold alN; omega
theorem alN_lt {a : Nat} (h : a % 8 ≠ 0) : a < alN a := by unfold alN; omega
theorem alN_zero {a : Nat} (h : a % 8 = 0) : alN a = a := by unfold alN; omega

section
variable {base S : Nat} {rv ov : Value} {l : List Nat} {lim a : Nat} {o : List Nat}
theorem Ds.stepped {w : World} {a' : Nat} (h : Ds w base S rv ov l lim a o) (ha : a' ≤ 8 * l.length) : Ds (w.setCell ⟨S, 1, none⟩ (.int .i64 (a' : Int))) base S rv ov l lim a' o ∧ Turns (fun b => b = S) w (w.setCell ⟨S, 1, none⟩ (.int .i64 (a' : Int))) := by
  have ht := (Turns.refl (fun b => b = S) w).set (p := ⟨S, 1, none⟩) rfl (.int .i64 (a' : Int))
  exact ⟨⟨five_set1 _ h.box, ht.owns h.row (fun k hk e => h.ap.1 (by rw [hk, e])), ht.owns h.out (fun k hk e => h.ap.2.1 (by rw [hk, e])), h.ap, h.lo, ha, h.len.2⟩, ht⟩

set_option maxRecDepth 20000 in
set_option maxHeartbeats 4000000 in
theorem stored_at {a' : Nat} {o' : List Nat} (w : World) (h : Ds w base S rv ov l lim a o) (hby : ∀ b ∈ l, b < 256) (hl : l.length ≤ 1000) (hlim : lim ≤ 524288) (ht : InfSd l lim a o (.go a' o')) :
    Calls Tryz.prog 32 #[.pointer (some ⟨S, 0, none⟩)] w fun e w' => e = .returned (.tuple #[]) ∧ ∃ ov', Ds w' base S rv ov' l lim a' o' ∧ Dgo w S ov w' ov' := by
  cases ht with
  | done h1 h2 h3 h4 =>
  have H := Lib.hid h
  have Hby := Lib.hid hby
  have Hl := Lib.hid hl
  obtain ⟨z, hz⟩ : ∃ z, alN a = z := ⟨_, rfl⟩
  rw [hz] at h1 h2 h3 h4 ⊢
  have hn16 : nb l z 16 < 65536 := nb_lt _ _ _
  obtain ⟨n, hn⟩ : ∃ n, nb l z 16 = n := ⟨_, rfl⟩
  obtain ⟨m, hm⟩ : ∃ n, nb l (z + 16) 16 = n := ⟨_, rfl⟩
  rw [hn] at h2 h3 h4 hn16 ⊢
  rw [hm] at h2
  have Hn := Lib.hid (And.intro hn hm)
  have Hz := Lib.hid hz
  have haz : a ≤ z := by rw [← hz]; unfold alN; omega
  clear h hby hl hz hn hm
  go_enter Tryz.func32, Tryz.ntmps32
  go_wp2_with fail
  go_loopw [6] (fun _ wr => ∃ a1 : Nat, a1 ≤ z ∧ Hid (alN a1 = z) ∧ Hid (Ds wr base S rv ov l lim a1 o) ∧ Hid (Turns (fun b => b = S) w wr)) (fun _ wr => z - (intOf ((wr.cell? ⟨S, 1, none⟩).getD undef)).toNat)
  case atStart => exact ⟨a, haz, Hz, H, Lib.hid (Turns.refl _ _)⟩
  case round =>
    clear Hz H
    obtain ⟨a1, ha1, Hz, HW, HT⟩ := hrel
    have c1 := HW.out.c1
    have f1 := HW.out.free 1
    obtain ⟨r, hr⟩ : ∃ r, a1 % 8 = r := ⟨_, rfl⟩
    have hr1 : (a1 : Int) % 8 = (r : Int) := by omega
    have hr2 : IntKind.i64.wrap (r : Int) = (r : Int) := IntWalk.i64_in _ (by omega)
    by_cases h0 : r = 0
    · have hza : a1 = z := by rw [← Hz.out, alN_zero (by rw [hr]; exact h0)]
      subst hza
      have d0 : ((r : Int) != 0) = false := by simp; omega
      clear hr
      go_wp2_with fail
      refine Calls.mono (num_at (k := 16) wr HW.out Hby.out Hl.out (by decide) (by omega)) ?_
      rintro _ w2 ⟨rfl, hD2, ht2⟩
      have HD2 := Lib.hid hD2
      have HT2 := Lib.hid (HT.out.trans ht2)
      rw [Hn.out.1]
      clear hD2 ht2
      go_wp2_with fail
      refine Calls.mono (num_at (k := 16) w2 HD2.out Hby.out Hl.out (by decide) (by omega)) ?_
      rintro _ w3 ⟨rfl, hD3, ht3⟩
      have HD3 := Lib.hid hD3
      have HT3 := Lib.hid (HT2.out.trans ht3)
      rw [Hn.out.2]
      have hw1 : (65535 : Int) - (n : Int) = (m : Int) := by omega
      have d1 : ((m : Int) != (m : Int)) = false := by simp
      clear hD3 ht3 HD2 HT2
      go_wp2_with fail
      refine Calls.mono (wrong_no _ _ w3) ?_
      rintro _ z1 ⟨rfl, hz1⟩
      obtain rfl := hz1.symm
      obtain ⟨len, hlen⟩ : ∃ z, o.length = z := ⟨_, rfl⟩
      have c2 := HD3.out.c2
      have c3 := HD3.out.c3
      obtain ⟨p4, q4, e4⟩ := owns_slice HD3.out.out
      have Hlen := Lib.hid hlen
      rw [hlen] at h3 e4
      subst e4
      have hs1 : (lim : Int) - (len : Int) = ((lim - len : Nat) : Int) := by omega
      obtain ⟨left, hleft⟩ : ∃ z, lim - len = z := ⟨_, rfl⟩
      rw [hleft] at hs1
      have hwl : IntKind.i64.wrap (left : Int) = (left : Int) := IntWalk.i64_in _ (by omega)
      have d5 : decide ((n : Int) > (left : Int)) = false := by simp; omega
      have d5' : decide (left < n) = false := by simp; omega
      clear hleft
      go_upto_region 5 with (fail)
      go_quiet ((go_at_call 37; with_reducible exact Calls.quiet_of_same (wrong_no _ _ _)))
      rename_i nq
      have hd : Below w3.heap.size w3 (w3.drewN nq) := Below.drewN' (Below.refl _ _) nq
      have HD4 := Lib.hid (HD3.out.below hd)
      have HG4 := Lib.hid (Dgo.of (ov := .slice p4 len q4) (HT3.out.trans (Turns.of_below' hd)))
      generalize w3.drewN nq = w4 at *
      clear hd c2 c3 HD3 HT3 HW HT
      go_wp2_with fail
      go_loopw [4] (fun iv wr => ∃ (i : Nat) (ovi : Value), iv = .int .i64 (i : Int) ∧ i ≤ n ∧ Hid (Ds wr base S rv ovi l lim (a1 + 32 + 8 * i) (o ++ bys l (a1 + 32) i)) ∧ Hid (Dgo w S (.slice p4 len q4) wr ovi)) (fun iv _ => n - (intOf iv).toNat)
      case atStart => exact ⟨0, _, rfl, Nat.zero_le _, Lib.hid (by have := HD4.out; simpa [bys] using this), HG4⟩
      case round =>
        clear HD4 HG4
        obtain ⟨i, ovi, rfl, hi, HDi, HGi⟩ := hrel
        have c4 := HDi.out.c4
        by_cases hin : i < n
        · have d6 : decide ((i : Int) < (n : Int)) = true := by simp; omega
          have d6' : decide (i < n) = true := by simpa using hin
          have hx8 : nb l (a1 + 32 + 8 * i) 8 < 256 := nb_lt _ _ _
          have Hb := Lib.hid (bys_succD l (a1 + 32) i)
          have hol : (o ++ bys l (a1 + 32) i).length < lim := by
            have e : (bys l (a1 + 32) i).length = i := by unfold bys; simp
            rw [List.length_append, e, Hlen.out]; omega
          go_wp2_with fail
          refine Calls.mono (num_at (k := 8) _ HDi.out Hby.out Hl.out (by decide) (by omega)) ?_
          rintro _ w5 ⟨rfl, hD5, ht5⟩
          have HD5 := Lib.hid hD5
          have HG5 := Lib.hid (HGi.out.trans (Dgo.of (ov := ovi) ht5))
          obtain ⟨x, hx⟩ : ∃ x, nb l (a1 + 32 + 8 * i) 8 = x := ⟨_, rfl⟩
          rw [hx] at hx8 Hb ⊢
          have hwx : IntKind.u8.wrap (x : Int) = (x : Int) := by rw [IntKind.wrap_u8]; omega
          clear hD5 ht5 hx c4
          go_wp2_with fail
          refine Calls.mono (come_at x w5 HD5.out hol hlim) ?_
          rintro _ w6 ⟨rfl, ov6, hD6, hg6⟩
          have HG6 := Lib.hid (HG5.out.trans hg6)
          have HD6 : Hid (Ds w6 base S rv ov6 l lim (a1 + 32 + 8 * (i + 1)) (o ++ bys l (a1 + 32) (i + 1))) := Lib.hid (by
            rw [Hb.out, ← List.append_assoc, show a1 + 32 + 8 * (i + 1) = a1 + 32 + 8 * i + 8 by omega]
            exact hD6)
          clear hD6 hg6
          go_wp2
          go_roundw
          case rel => exact ⟨i + 1, ov6, by go_num, by omega, HD6, HG6⟩
          case measure => simp [intOf]; omega
        · obtain rfl : i = n := by omega
          have d6 : decide ((i : Int) < (i : Int)) = false := by simp
          have d6' : decide (i < i) = false := by simp
          go_wp2
          go_end0
          exact ⟨rfl, ovi, HDi.out, HGi.out⟩
    · have d0 : ((r : Int) != 0) = true := by simp; omega
      have hlt : a1 < z := by
        rw [← Hz.out]
        exact alN_lt (by rw [hr]; exact h0)
      have hst := HW.out.stepped (a' := a1 + 1) (by omega)
      have Hst := Lib.hid hst
      have hm2 := hst.1.c1
      have Hz2 : Hid (alN (a1 + 1) = z) := Lib.hid (by rw [alN_next (by rw [hr]; exact h0)]; exact Hz.out)
      have HT2 := Lib.hid (HT.out.trans hst.2)
      have e1 : ((a1 + 1 : Nat) : Int) = (a1 : Int) + 1 := by omega
      rw [e1] at Hst HT2 hm2
      have HW2 := Lib.hid Hst.out.1
      have HW64 : Hid (wrap64 ((a1 : Int) + 1) = (a1 : Int) + 1) := Lib.hid (wrap64_in _ (by have := Hl.out; omega))
      clear hst hr
      go_wp2
      rw [HW64.out]
      go_roundw
      case rel => exact ⟨a1 + 1, by omega, Hz2, HW2, HT2⟩
      case measure => rw [c1, hm2]; simp [intOf]; omega
end

end Go.Proofs.YtebfdoipogjpnaaGreat

/- inflate: the statement's symbol of a length, and word of a code. -/
namespace Go.Proofs.YtebfdoipogjpnaaGreat
open Go.RowKit Go.Maps

end Go.Proofs.YtebfdoipogjpnaaGreat
