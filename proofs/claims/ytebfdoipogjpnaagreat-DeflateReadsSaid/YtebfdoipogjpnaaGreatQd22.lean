/- Several texts in one, each with its own head. -/
import Derived.Test.YtebfdoipogjpnaaGreatQd21
import Derived.Defers
import Derived.Recover
import Derived.Laws.Pointers
/- inflate: read: what is thrown is caught, and told. -/
namespace Go.Proofs.YtebfdoipogjpnaaGreat
open Go.RowKit Go.Maps

theorem assert_errno (x : Int) (w : World) : (Instr.typeAssert (.iface 23 (.int .i64 x)) 20 23 false).run Tryz.prog w = .ok (.int .i64 x) w := by
  kernel_rfl

set_option maxRecDepth 100000 in
theorem catch_panicking (p : Addr) (x er : Int) (older : List PanicEntry) (w : World) (hc : w.cell? p = some (.int .i64 x)) (hz : w.frozen? p = false) :
    CallsD Tryz.prog 70 #[.pointer (some p)] (.panicking ({ v := .iface 23 (.int .i64 er), recovered := false } :: older)) w fun e u' w' =>
      e = .returned (.tuple #[]) ∧ u' = .panicking ({ v := .iface 23 (.int .i64 er), recovered := true } :: older) ∧ w' = w.setCell p (.int .i64 er) := by
  refine callsD_of_wpS Tryz.func70 rfl fun c₀ cs hu => ?_
  apply wpS_seq
  apply wpS_region
  simp [wpOpsS, go_sem, recoverD, hu, Tryz.ntmps70, Exit.thenS]
  refine wpS_of_wp ?_
  rw [show (#[Value.pointer (some p)] ++ ((Array.replicate 6 undef).setIfInBounds 1 (Value.iface 23 (.int .i64 er))).setIfInBounds 0 (Value.iface 23 (.int .i64 er))) = #[.pointer (some p), .iface 23 (.int .i64 er), .iface 23 (.int .i64 er), undef, undef, undef, undef] from rfl]
  generalize hc1 : ({ fn := c₀.fn, tmps := c₀.tmps, todo := c₀.todo, defers := c₀.defers, mode := FrameMode.panicking ({ v := Value.iface 23 (Value.int IntKind.i64 er), recovered := true } :: older), kind := c₀.kind, roundOf := c₀.roundOf } : Frame) = c1
  have hta := assert_errno er
  go_wp2
  subst hc1
  simp [bodyPostS, results, Tryz.results70]

set_option maxRecDepth 100000 in
theorem catch_idle (p : Addr) (w : World) :
    CallsD Tryz.prog 70 #[.pointer (some p)] .returning w fun e u' w' => e = .returned (.tuple #[]) ∧ u' = .returning ∧ w' = w := by
  refine callsD_of_wpS Tryz.func70 rfl fun c₀ cs hu => ?_
  apply wpS_seq
  apply wpS_region
  simp [wpOpsS, go_sem, recoverD, hu, Tryz.ntmps70, Exit.thenS]
  refine wpS_of_wp ?_
  rw [show (#[Value.pointer (some p)] ++ ((Array.replicate 6 undef).setIfInBounds 1 Value.nilIface).setIfInBounds 0 Value.nilIface) = #[.pointer (some p), .nilIface, .nilIface, undef, undef, undef, undef] from rfl]
  go_wp2
  cases c₀
  simp_all [bodyPostS, results, Tryz.results70]

theorem InfRp.ne {D l : List Nat} {lim a x : Nat} {o : List Nat} {r : InfSt} (h : InfRp D l lim a x o r) : ∀ e, r = .no e → e ≠ 0 := by
  intro e he
  cases h <;> cases he <;> first | decide | assumption
theorem InfTk.ne {A D l : List Nat} {lim a : Nat} {o : List Nat} {r : InfSt} (h : InfTk A D l lim a o r) : ∀ e, r = .no e → e ≠ 0 := by
  intro e he
  cases h with
  | bad x s e h h1 => cases he; exact h1
  | fin => cases he
  | byte => cases he
  | full => cases he; decide
  | rep x s r h h1 h2 => exact h2.ne e he
theorem InfToks.ne {A D l : List Nat} {lim a : Nat} {o : List Nat} {r : InfSt} (h : InfToks A D l lim a o r) : ∀ e, r = .no e → e ≠ 0 := by
  induction h with
  | fin => intro e he; cases he
  | no a o e h => intro e he; cases he; exact h.ne _ rfl
  | more a a' o o' r h h1 ih => exact ih
theorem InfSv.ne {C l : List Nat} {n a : Nat} {ls : List Nat} {r : InfSt} (h : InfSv C l n a ls r) : ∀ e, r = .no e → e ≠ 0 := by
  intro e he
  cases h <;> cases he <;> first | decide | assumption
theorem InfLs.ne {C l : List Nat} {n a : Nat} {ls : List Nat} {r : InfSt} (h : InfLs C l n a ls r) : ∀ e, r = .no e → e ≠ 0 := by
  induction h with
  | fin => intro e he; cases he
  | no a o e h0 h => intro e he; cases he; exact h.ne _ rfl
  | more a a' o o' r h0 h h1 ih => exact ih
theorem InfDy.ne {l : List Nat} {a n : Nat} {e : Int} (h : InfDy l a n (.no e)) : e ≠ 0 := by
  cases h with
  | few => decide
  | many => decide
  | few2 => decide
  | code h h1 h2 h3 => exact h3
  | lens h h1 h2 h3 e h4 => exact h4.ne _ rfl
  | last h h1 h2 h3 a' ls h4 e h5 =>
    rcases h5 with ⟨-, rfl⟩ | ⟨-, h, rfl⟩ | ⟨-, -, h, rfl⟩
    · decide
    · exact h
    · exact h
theorem InfBk.ne {l : List Nat} {lim a : Nat} {o : List Nat} {r : InfSt} (h : InfBk l lim a o r) : ∀ e, r = .no e → e ≠ 0 := by
  intro e he
  cases h with
  | few => cases he; decide
  | stored h h1 r h2 => subst he; cases h2 <;> decide
  | fixed h h1 r h2 => exact h2.ne e he
  | bad h h1 e h2 => cases he; exact h2.ne
  | dyn h h1 n a1 ls h2 r h3 => exact h3.ne e he
  | unknown => cases he; decide
theorem InfBl.ne {l : List Nat} {lim a : Nat} {o : List Nat} {r : InfSt} (h : InfBl l lim a o r) : ∀ e, r = .no e → e ≠ 0 := by
  induction h with
  | few => intro e he; cases he; decide
  | no a o h e h1 => intro e he; cases he; exact h1.ne _ rfl
  | last => intro e he; cases he
  | more a o h h1 a' o' h2 r h3 ih => exact ih

theorem setCell_self {w : World} {g i : Nat} {cur : Array Value} {t : TypeId} {v : Value} (hg : w.heap[g]? = some (.cells cur t (0, 0))) (hv : cur[i]? = some v) : w.setCell ⟨g, i, none⟩ v = w := by
  rw [setCell_eq_setRow w g i cur t (0, 0) v hg]
  have hlt : g < w.heap.size := (Array.getElem?_eq_some_iff.1 hg).1
  have hw : w.heap[g] = .cells cur t (0, 0) := (Array.getElem?_eq_some_iff.1 hg).2
  obtain ⟨hi, hv2⟩ := Array.getElem?_eq_some_iff.1 hv
  have hc : cur.setIfInBounds i v = cur := by
    apply Array.ext
    · simp
    · intro k h1 h2
      rw [Array.getElem_setIfInBounds h2]
      split
      · rename_i e; subst e; exact hv2.symm
      · rfl
  rw [hc]
  unfold World.setRow
  cases w with
  | mk heap tape drawn os output =>
    congr 1
    apply Array.ext
    · simp
    · intro k h1 h2
      simp only [Array.getElem_modify]
      split
      · rename_i e; subst e; simp only at hw; rw [hw]
      · rfl

section
variable {base S B : Nat} {sv ov uv : Value} {l : List Nat} {lim a a0 : Nat} {o o0 : List Nat}

set_option maxRecDepth 100000 in
set_option maxHeartbeats 4000000 in
theorem iread_any (w : World) (h : Sm w base S B sv ov uv l lim a o) :
    Calls Tryz.prog 41 #[.pointer (some ⟨S, 0, none⟩)] w fun e w' =>
      (∃ (a' : Nat) (o' : List Nat) (ov' uv' : Value), InfBl l lim a o (.go a' o') ∧ e = .returned (.int .i64 0) ∧ Sm w' base S B sv ov' uv' l lim (alN a') o' ∧ Turns (KS S B ov) w w') ∨
      (∃ er, InfBl l lim a o (.no er) ∧ er ≠ 0 ∧ e = .returned (.int .i64 er) ∧ Turns (KS S B ov) w w') := by
  have hmf : ∀ (fn : Fn) (first cap : Array Value) (w : World), (Instr.makeFunc fn first cap).run Tryz.prog w = .ok (.func fn first cap) w := fun _ _ _ _ => rfl
  have hb := Below.al1 w (.cells #[.int .i64 0] 23)
  have H1 := Lib.hid (h.below hb)
  have hP : (w.alloc (.cells #[.int .i64 0] 23)).heap[w.heap.size]? = some (.cells #[.int .i64 0] 23) := World.alloc_heap_new _ _
  have hPn : ¬ KS S B ov w.heap.size := fun k => by have := h.k _ k; omega
  have HP := Lib.hid (And.intro hP hPn)
  clear h hb hP hPn
  go_enter_defers Tryz.func41, Tryz.ntmps41
  go_wp2_with fail
  refine Calls.mono (iblocks_any _ H1.out.1) ?_
  rintro e w2 (⟨a', o', ov', uv', hbl, rfl, hs⟩ | ⟨er, hbl, rfl, hs⟩)
  · have Hs := Lib.hid hs
    have Hbl := Lib.hid hbl
    have c0 := hs.1.c0
    clear hs hbl
    go_wp2_with fail
    refine Calls.mono (ialign_any w2 Hs.out.1.rd) ?_
    rintro e w3 ⟨rfl, hr, ht⟩
    have H3 := Lib.hid (Hs.out.1.reads hr ht)
    clear hr ht c0
    go_wp2_with fail
    refine Calls.mono (icheck_ok _) ?_
    rintro e w4 ⟨rfl, rfl⟩
    have hp2 := (Hs.out.2.turns.block w.heap.size (lt_heap HP.out.1) HP.out.2).trans HP.out.1
    have hp4 : w4.heap[w.heap.size]? = some (.cells #[.int .i64 0] 23) := (H3.out.2.turns.block w.heap.size (lt_heap hp2) (fun k => HP.out.2 (Hs.out.2.k _ (lt_heap HP.out.1) k))).trans hp2
    have cp : w4.cell? ⟨w.heap.size, 0, none⟩ = some (.int .i64 0) := cell_heap hp4 rfl
    have fp : w4.frozen? ⟨w.heap.size, 0, none⟩ = false := by simp [World.frozen?, hp4]
    have hself : w4.setCell ⟨w.heap.size, 0, none⟩ (.int .i64 0) = w4 := setCell_self hp4 rfl
    have hT : Turns (KS S B ov) w w4 := (Turns.of_below' (Below.al1 w _)).trans (Hs.out.2.trans H3.out.2).turns
    have HT := Lib.hid hT
    clear hp2 hp4 hT
    go_wp2
    refine leaves_cons (f := 70) (args := #[.pointer (some ⟨w.heap.size, 0, none⟩)]) (by simp) (by simp [go_sem]) ?_
    refine (catch_idle ⟨w.heap.size, 0, none⟩ _).mono ?_
    rintro e u' w'' ⟨rfl, rfl, rfl⟩
    refine ⟨.int .i64 0, by simp [results, Tryz.results41, go_sem, cp], ?_⟩
    exact .inl ⟨a', o', ov', uv', Hbl.out, rfl, H3.out.1, HT.out⟩
  · have Hs := Lib.hid hs
    have Hbl := Lib.hid hbl
    have Hne := Lib.hid (hbl.ne _ rfl)
    have hp2 := (hs.block w.heap.size (lt_heap HP.out.1) HP.out.2).trans HP.out.1
    have cp : w2.cell? ⟨w.heap.size, 0, none⟩ = some (.int .i64 0) := cell_heap hp2 rfl
    have fp : w2.frozen? ⟨w.heap.size, 0, none⟩ = false := by simp [World.frozen?, hp2]
    have cq : (w2.setCell ⟨w.heap.size, 0, none⟩ (.int .i64 er)).cell? ⟨w.heap.size, 0, none⟩ = some (.int .i64 er) := World.cell?_setCell_same _ _ _ cp
    have hT : Turns (KS S B ov) w (w2.setCell ⟨w.heap.size, 0, none⟩ (.int .i64 er)) := ((Turns.of_below' (Below.al1 w _)).trans hs).trans' (Turns.set (T := fun i => i = w.heap.size) (p := ⟨w.heap.size, 0, none⟩) (Turns.refl _ w2) rfl _) (fun i hi h => by omega)
    have HT := Lib.hid hT
    clear hs hbl hT hp2
    go_wp2
    refine leaves_cons (f := 70) (args := #[.pointer (some ⟨w.heap.size, 0, none⟩)]) (by simp) (by simp [go_sem]) ?_
    refine (catch_panicking ⟨w.heap.size, 0, none⟩ 0 er [] _ cp fp).mono ?_
    rintro e u' w'' ⟨rfl, rfl, rfl⟩
    refine ⟨.int .i64 er, by simp [results, Tryz.results41, go_sem, cq], ?_⟩
    exact .inr ⟨er, Hbl.out, Hne.out, rfl, HT.out⟩
end

end Go.Proofs.YtebfdoipogjpnaaGreat

/- inflate: Inflate as it is called. -/
namespace Go.Proofs.YtebfdoipogjpnaaGreat
open Go.RowKit Go.Maps

/-- What Inflate answers: bytes, how many were read, an error. -/
inductive Infl (l : List Nat) (limit : Int) : List Nat → Nat → Int → Prop where
  | arg (h : limit < 0 ∨ 524288 < limit) : Infl l limit [] 0 1
  | go (lim a : Nat) (o : List Nat) (h : limit = (lim : Int)) (h1 : lim ≤ 524288) (h2 : InfBl l lim 0 [] (.go a o)) : Infl l limit o (alN a / 8) 0
  | no (lim : Nat) (er : Int) (h : limit = (lim : Int)) (h1 : lim ≤ 524288) (h2 : InfBl l lim 0 [] (.no er)) : Infl l limit [] 0 er

set_option maxRecDepth 200000 in
set_option maxHeartbeats 4000000 in
theorem infl_any (v : Value) (l : List Nat) (limit : Int) (w : World) (hv : Rw8 w v l) (hb : ∀ b ∈ l, b < 256) (hlen : l.length ≤ 1073741824) :
    Calls Tryz.prog 14 #[v, .int .i64 limit] w fun e w' => ∃ (o : List Nat) (k : Nat) (er : Int) (ov : Value), Infl l limit o k er ∧ e = .returned (.tuple #[ov, .int .i64 (k : Int), .int .i64 er]) ∧ w'.ownsRow w.heap.size 5 1 ov o.length (o.map u8v) ∧ Below w.heap.size w w' := by
  have Hv := Lib.hid hv
  have Hb := Lib.hid hb
  obtain ⟨p, c, rfl, -⟩ := hv.cells
  clear hv hb
  by_cases hneg : limit < 0
  · have d0 : decide (limit < 0) = true := by simpa using hneg
    go_enter Tryz.func14, Tryz.ntmps14
    go_wp2
    go_ret3
    refine ⟨[], 0, 1, .slice none 0 0, .arg (.inl hneg), rfl, World.ownsRow_nil _ _ _ _, Below.refl _ _⟩
  have d0 : decide (limit < 0) = false := by simpa using hneg
  by_cases hbig : 524288 < limit
  · have d1 : decide (limit > 524288) = true := by simpa using hbig
    go_enter Tryz.func14, Tryz.ntmps14
    go_wp2
    go_ret3
    exact ⟨[], 0, 1, .arg (.inr hbig), .slice none 0 0, rfl, World.ownsRow_nil _ _ _ _, Below.refl _ _⟩
  have d1 : decide (limit > 524288) = false := by simpa using hbig
  obtain ⟨lim, rfl⟩ := Int.eq_ofNat_of_zero_le (Int.not_lt.1 hneg)
  go_enter Tryz.func14, Tryz.ntmps14
  go_wp2_with fail
  refine Calls.mono (new_any _ l w Hv.out Hb.out hlen) ?_
  rintro e w1 ⟨B, sv, rfl, hrd, hbl, hB, hsv⟩
  have Hrd := Lib.hid hrd
  have Hbl := Lib.hid hbl
  have Hsv := Lib.hid (And.intro hB hsv)
  clear hrd hbl hB hsv
  have hb1 := Below.al1 w1 (.cells #[.pointer (some ⟨B, 0, none⟩), .slice none 0 0, .int .i64 (lim : Int), .pointer none] 80)
  have hBl := Hrd.out.size
  have HS : Hid (Sm (w1.alloc (.cells #[.pointer (some ⟨B, 0, none⟩), .slice none 0 0, .int .i64 (lim : Int), .pointer none] 80)) w.heap.size w1.heap.size B sv (.slice none 0 0) (.pointer none) l lim 0 []) := Lib.hid
    ⟨World.alloc_heap_new _ _, Hrd.out.below hb1, World.ownsRow_nil _ _ _ _, .inl rfl, ⟨by omega, fun e => by have := Hrd.out.row.lt _ e; omega, fun e => (by cases e), fun e => (by cases e), fun k hk e => (by cases e)⟩, ⟨Hbl.out.size, Hsv.out.1⟩, ⟨Nat.zero_le _, by omega⟩, fun _ h => (by cases h)⟩
  have Hb2 := Lib.hid (Below.thn Hbl.out hb1)
  have HK : Hid (∀ i, KS w1.heap.size B (.slice none 0 0) i → w.heap.size ≤ i) := Lib.hid (fun i hi => by
    rcases hi with rfl | rfl | hi
    · exact Hbl.out.size
    · exact Hsv.out.1
    · cases hi)
  clear hb1 hBl
  go_wp2_with fail
  refine Calls.mono (iread_any _ HS.out) ?_
  rintro e w2 (⟨a', o, ov', uv', hbk, rfl, hs⟩ | ⟨er, hbk, hne, rfl, hs⟩)
  · have Hs := Lib.hid hs.1
    have Hbk := Lib.hid hbk
    have Hb3 := Lib.hid (Hb2.out.trans (hs.2.below Hb2.out.size HK.out))
    have e0 := hs.1.c0
    have e1 := hs.1.c1
    obtain ⟨q, cq, rfl⟩ := owns_slice hs.1.out
    clear hs hbk
    obtain ⟨A, hA⟩ : ∃ A, alN a' = A := ⟨_, rfl⟩
    have HA := Lib.hid hA
    rw [hA] at Hs
    have hpos := Hs.out.rd.pos
    have hlen2 := Hs.out.rd.len
    obtain ⟨z, hz⟩ : ∃ z, A / 8 = z := ⟨_, rfl⟩
    have hq1 : (A : Int) / 8 = (z : Int) := by omega
    have hq1' : (A : Int).tdiv 8 = (z : Int) := by rw [← hz]; rfl
    have hq2 : wrap64 (z : Int) = (z : Int) := wrap64_in _ (by omega)
    have hq2' : IntKind.i64.wrap (z : Int) = (z : Int) := IntWalk.i64_in _ (by omega)
    have Hz := Lib.hid hz
    clear hz
    clear hA
    go_upto_region 7 with (fail)
    go_quiet ((go_at_call 42; exact Calls.quiet_of_same (at_any B A sv l _ (Hs.out.rd.below (Below.drewN' (Below.refl _ _) _)))))
    rename_i nq
    have hd : Below w2.heap.size w2 (w2.drewN nq) := Below.drewN' (Below.refl _ _) nq
    go_wp2
    go_ret3
    first
      | exact ⟨o, z, 0, .slice q o.length cq, by rw [← Hz.out, ← HA.out]; exact .go lim a' o rfl (by omega) Hbk.out, rfl, (Hs.out.below hd).1.out, Hb3.out.trans (hd.mono Hb3.out.size)⟩
      | exact ⟨o, z, 0, by rw [← Hz.out, ← HA.out]; exact .go lim a' o rfl (by omega) Hbk.out, .slice q o.length cq, rfl, (Hs.out.below hd).1.out, Hb3.out.trans (hd.mono Hb3.out.size)⟩
  · have Hbk := Lib.hid hbk
    have Hb3 := Lib.hid (Hb2.out.trans (hs.below Hb2.out.size HK.out))
    have d2 : (er != 0) = true := by simpa using hne
    clear hs hbk
    go_wp2
    go_ret3
    refine ⟨[], 0, er, .slice none 0 0, .no lim er rfl (by omega) Hbk.out, rfl, World.ownsRow_nil _ _ _ _, Hb3.out⟩

end Go.Proofs.YtebfdoipogjpnaaGreat
