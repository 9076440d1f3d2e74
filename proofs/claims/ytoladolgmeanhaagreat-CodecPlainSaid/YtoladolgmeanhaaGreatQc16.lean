/- Several texts in one, each with its own head. -/
import Derived.Test.YtoladolgmeanhaaGreatQc15
import Derived.Defers
import Derived.Recover
import Derived.Laws.Pointers
/- inflate: blocks: all blocks, one behind the other. -/
namespace Go.Proofs.YtoladolgmeanhaaGreat
open Go.RowKit Go.Maps

theorem InfRp.up {D l : List Nat} {lim a x : Nat} {o : List Nat} {r : InfSt} (h : InfRp D l lim a x o r) : ∀ a' o', r = .go a' o' → a ≤ a' := by
  intro a' o' e
  cases h <;> cases e
  omega
theorem InfTk.up {A D l : List Nat} {lim a : Nat} {o : List Nat} {r : InfSt} (h : InfTk A D l lim a o r) : (∀ a' o', r = .go a' o' → a ≤ a') ∧ ∀ a', r = .fin a' → a ≤ a' := by
  refine ⟨fun a' o' e => ?_, fun a' e => ?_⟩
  · cases h with
    | bad => cases e
    | fin => cases e
    | byte => cases e; omega
    | full => cases e
    | rep x s r h h1 h2 => have := h2.up a' o' e; omega
  · cases h with
    | bad => cases e
    | fin => cases e; omega
    | byte => cases e
    | full => cases e
    | rep x s r h h1 h2 => subst e; cases h2
theorem InfToks.up {A D l : List Nat} {lim a : Nat} {o : List Nat} {r : InfSt} (h : InfToks A D l lim a o r) : ∀ a' o', r = .go a' o' → a ≤ a' := by
  induction h with
  | fin a a' o h => intro x y e; cases e; exact h.up.2 _ rfl
  | no => intro x y e; cases e
  | more a a' o o' r h h1 ih => intro x y e; have := ih x y e; have := h.up.1 _ _ rfl; omega
theorem InfSv.up {C l : List Nat} {n a : Nat} {ls : List Nat} {r : InfSt} (h : InfSv C l n a ls r) : ∀ a' o', r = .go a' o' → a ≤ a' := by
  intro a' o' e
  cases h <;> cases e
  omega
theorem InfLs.up {C l : List Nat} {n a : Nat} {ls : List Nat} {r : InfSt} (h : InfLs C l n a ls r) : ∀ a' o', r = .go a' o' → a ≤ a' := by
  induction h with
  | fin => intro x y e; cases e; omega
  | no => intro x y e; cases e
  | more a a' o o' r h0 h h1 ih => intro x y e; have := ih x y e; have := h.up _ _ rfl; omega
theorem InfDy.up {l : List Nat} {a n a' : Nat} {ls : List Nat} (h : InfDy l a n (.go a' ls)) : a ≤ a' := by
  cases h with
  | done h h1 h2 h3 a' ls h4 h5 => have := h4.up _ _ rfl; omega
theorem InfBk.up {l : List Nat} {lim a : Nat} {o : List Nat} {r : InfSt} (h : InfBk l lim a o r) : ∀ a' o', r = .go a' o' → a ≤ a' := by
  intro a' o' e
  cases h with
  | few => cases e
  | stored h h1 r h2 =>
    subst e
    cases h2
    unfold alN; omega
  | fixed h h1 r h2 => have := h2.up _ _ e; omega
  | bad => cases e
  | dyn h h1 n a1 ls h2 r h3 => have := h3.up _ _ e; have := h2.up; omega
  | unknown => cases e
section
variable {base S B : Nat} {sv ov uv : Value} {l : List Nat} {lim a a0 : Nat} {o o0 : List Nat}

theorem iunknown_any (v : Value) (w : World) : Calls Tryz.prog 151 #[v] w fun e w' => e = thrown 80 ∧ w' = w := by
  go_enter Tryz.func151, Tryz.ntmps151
  go_wp2
  exact ⟨rfl, rfl, rfl⟩
def BlSo (l : List Nat) (lim a : Nat) (o : List Nat) (b : Bool) (a1 : Nat) (o1 : List Nat) : Prop := if b then InfBl l lim a o (.go a1 o1) else ∀ r, InfBl l lim a1 o1 r → InfBl l lim a o r
set_option maxRecDepth 20000 in
set_option maxHeartbeats 4000000 in
theorem iblocks_any (w : World) (h : Sm w base S B sv ov uv l lim a o) :
    Calls Tryz.prog 129 #[.pointer (some ⟨S, 0, none⟩)] w (EndsU base S B sv ov l lim w (InfBl l lim a o)) := by
  have H := Lib.hid h
  clear h
  go_enter Tryz.func129, Tryz.ntmps129
  go_upto_region 0 with (fail)
  refine wp_region_lit ?_
  refine wpList_buildTo rfl 212 _ rfl (some 4) rfl #[.func (.func 148) #[] #[], .func (.func 149) #[] #[], .func (.func 150) #[] #[], .func (.func 151) #[] #[]] (by kernel_rfl) ?_
  refine wpList_plain rfl fun K hK => ?_
  go_simp
  refine hK _ _ ?_
  clear hK K
  have hz := World.alloc_heap_new w (.cells #[.nilFunc, .nilFunc, .nilFunc, .nilFunc] 212)
  refine wpList_store_rowTo rfl 212 _ _ rfl rfl w.heap.size #[.func (.func 148) #[] #[], .func (.func 149) #[] #[], .func (.func 150) #[] #[], .func (.func 151) #[] #[]] rfl rfl 212 _ hz (by kernel_rfl) (by kernel_rfl) (by kernel_rfl) ?_
  generalize hw1 : World.setRow _ w.heap.size _ = w1
  have ho1 : w1.heap[w.heap.size]? = some (.cells #[.func (.func 148) #[] #[], .func (.func 149) #[] #[], .func (.func 150) #[] #[], .func (.func 151) #[] #[]] 212) := by rw [← hw1]; exact setRow_heap _ _ _ _ _ _ hz
  have hb1 : Below w.heap.size w w1 := by rw [← hw1]; exact below_setRow (Below.al1 _ _) (Nat.le_refl _) _
  have H1 := Lib.hid (H.out.below hb1)
  have hKn : ¬ KS S B ov w.heap.size := fun h => by have := H.out.k _ h; omega
  obtain ⟨Q, hQ⟩ : ∃ Q, w.heap.size = Q := ⟨_, rfl⟩
  rw [hQ] at ho1 hKn ⊢
  have Ho1 := Lib.hid ho1
  have HKn := Lib.hid hKn
  clear hw1 hz ho1 hb1 hKn hQ
  go_wp2_with fail
  go_loopw [3] (fun bv wr => ∃ (b : Bool) (a1 : Nat) (o1 : List Nat) (ov1 uv1 : Value), bv = .bool b ∧ Hid (Sm wr base S B sv ov1 uv1 l lim a1 o1 ∧ Fr S B ov w ov1 wr) ∧ Hid (¬ KS S B ov1 Q ∧ wr.heap[Q]? = some (.cells #[.func (.func 148) #[] #[], .func (.func 149) #[] #[], .func (.func 150) #[] #[], .func (.func 151) #[] #[]] 212)) ∧ Hid (BlSo l lim a o b a1 o1))
    (fun bv wr => 8 * l.length + 1 - (intOf ((wr.cell? ⟨B, 1, none⟩).getD undef)).toNat)
  case atStart => exact ⟨false, a, o, ov, uv, rfl, H1, Lib.hid ⟨HKn.out, Ho1.out⟩, Lib.hid (fun r h => h)⟩
  case round =>
    obtain ⟨b, a1, o1, ov1, uv1, rfl, HS, HQ, HB⟩ := hrel
    cases b with
    | true =>
      go_wp2
      go_end0
      exact .inl ⟨a1, o1, ov1, uv1, HB.out, rfl, HS.out.1, HS.out.2⟩
    | false =>
      go_wp2_with fail
      refine Calls.mono (inum_any 1 (by decide) wr HS.out.1) ?_
      have h2 : nb l a1 1 < 2 := nb_lt _ _ _
      obtain ⟨x, hx⟩ : ∃ x, nb l a1 1 = x := ⟨_, rfl⟩
      rw [hx] at h2 ⊢
      have Hx := Lib.hid hx
      clear hx
      rintro e w2 (⟨f1, rfl, hs⟩ | ⟨f1, rfl, hs⟩)
      case inr =>
        have Hs := Lib.hid hs
        clear hs
        go_wp2
        exact ⟨rfl, .inr ⟨50, HB.out _ (.few a1 o1 f1), rfl, HS.out.2.throws Hs.out⟩⟩
      have hm0 : (intOf ((wr.cell? ⟨B, 1, none⟩).getD undef)).toNat = a1 := by rw [HS.out.1.rd.c1]; simp [intOf]
      have Hm0 := Lib.hid hm0
      have H2 := Lib.hid (And.intro hs.1 (HS.out.2.trans hs.2))
      have HQ2 : Hid (¬ KS S B ov1 Q ∧ w2.heap[Q]? = some (.cells #[.func (.func 148) #[] #[], .func (.func 149) #[] #[], .func (.func 150) #[] #[], .func (.func 151) #[] #[]] 212)) := Lib.hid ⟨HQ.out.1, (hs.2.turns.block Q (lt_heap HQ.out.2) HQ.out.1).trans HQ.out.2⟩
      clear hs hm0 HQ HS
      obtain ⟨b, hb⟩ : ∃ b, ((x : Int) == 1) = b := ⟨_, rfl⟩
      have Hb := Lib.hid hb
      go_wp2_with fail
      refine Calls.mono (inum_any 2 (by decide) w2 H2.out.1) ?_
      have h4 : nb l (a1 + 1) 2 < 4 := nb_lt _ _ _
      obtain ⟨y, hy⟩ : ∃ y, nb l (a1 + 1) 2 = y := ⟨_, rfl⟩
      rw [hy] at h4 ⊢
      have Hy := Lib.hid hy
      clear hy
      rintro e w3 (⟨f2, rfl, hs⟩ | ⟨f2, rfl, hs⟩)
      case inr =>
        have Hs := Lib.hid hs
        clear hs
        go_wp2
        exact ⟨rfl, .inr ⟨50, HB.out _ (.no a1 o1 f1 50 (.few f2)), rfl, H2.out.2.throws Hs.out⟩⟩
      have H3 := Lib.hid (And.intro hs.1 (H2.out.2.trans hs.2))
      have HQ3 : Hid (¬ KS S B ov1 Q ∧ w3.heap[Q]? = some (.cells #[.func (.func 148) #[] #[], .func (.func 149) #[] #[], .func (.func 150) #[] #[], .func (.func 151) #[] #[]] 212)) := Lib.hid ⟨HQ2.out.1, (hs.2.turns.block Q (lt_heap HQ2.out.2) HQ2.out.1).trans HQ2.out.2⟩
      clear hs H2 HQ2
      have hend : ∀ (e : Ending) (w4 : World), EndsU base S B sv ov1 l lim w3 (InfBk l lim (a1 + 1) o1) e w4 → (∃ (a2 : Nat) (o2 : List Nat) (ov2 uv2 : Value), e = .returned (.tuple #[]) ∧ a1 < a2 ∧ Sm w4 base S B sv ov2 uv2 l lim a2 o2 ∧ Fr S B ov w ov2 w4 ∧ (¬ KS S B ov2 Q ∧ w4.heap[Q]? = some (.cells #[.func (.func 148) #[] #[], .func (.func 149) #[] #[], .func (.func 150) #[] #[], .func (.func 151) #[] #[]] 212)) ∧ BlSo l lim a o b a2 o2) ∨
          (∃ er, e = thrown er ∧ EndsU base S B sv ov l lim w (InfBl l lim a o) (thrown er) w4) := fun e w4 h => by
        rcases h with ⟨a2, o2, ov2, uv2, h1, rfl, h3, h4⟩ | ⟨er, h1, rfl, h3⟩
        · refine .inl ⟨a2, o2, ov2, uv2, rfl, by have := h1.up _ _ rfl; omega, h3, H3.out.2.trans h4, ⟨fun h => HQ3.out.1 (h4.k Q (lt_heap HQ3.out.2) h), (h4.turns.block Q (lt_heap HQ3.out.2) HQ3.out.1).trans HQ3.out.2⟩, ?_⟩
          cases b with
          | true =>
            have hx1 : x = 1 := by have := Hb.out; rw [beq_iff_eq] at this; omega
            exact HB.out _ (.last a1 o1 f1 (by rw [Hx.out]; exact hx1) a2 o2 h1)
          | false =>
            have hx1 : x ≠ 1 := by have := Hb.out; rw [beq_eq_false_iff_ne] at this; omega
            exact fun r hr => HB.out r (.more a1 o1 f1 (by rw [Hx.out]; exact hx1) a2 o2 h1 r hr)
        · exact .inr ⟨er, rfl, .inr ⟨er, HB.out _ (.no a1 o1 f1 er h1), rfl, H3.out.2.throws h3⟩⟩
      have Hend := Lib.hid hend
      clear hend hb
      have hy4 : y = 0 ∨ y = 1 ∨ y = 2 ∨ y = 3 := by omega
      rcases hy4 with rfl | rfl | rfl | rfl
      · have c0 : w3.cell? ⟨Q, 0, none⟩ = some (.func (.func 148) #[] #[]) := cell_heap HQ3.out.2 rfl
        go_wp2_with fail
        refine Calls.mono (istored_any w3 H3.out.1) ?_
        intro e w4 he
        rcases Hend.out e w4 (he.u.of (fun r hr => InfBk.stored f2 Hy.out r hr)) with ⟨a2, o2, ov2, uv2, rfl, hlt, hs⟩ | ⟨er, rfl, hE⟩
        · have Hs := Lib.hid hs
          clear hs he c0
          go_wp2
          go_roundw
          case rel => exact ⟨b, a2, o2, ov2, uv2, rfl, Lib.hid ⟨Hs.out.1, Hs.out.2.1⟩, Lib.hid Hs.out.2.2.1, Lib.hid Hs.out.2.2.2⟩
          case measure =>
            rw [Hs.out.1.rd.c1, Hm0.out]
            have := Hs.out.1.rd.pos
            simp [intOf]; omega
        · have HE := Lib.hid hE
          clear hE he c0
          go_wp2
          exact ⟨rfl, HE.out⟩
      · have c0 : w3.cell? ⟨Q, 1, none⟩ = some (.func (.func 149) #[] #[]) := cell_heap HQ3.out.2 rfl
        go_wp2_with fail
        refine Calls.mono (ifixed_any w3 H3.out.1) ?_
        intro e w4 he
        rcases Hend.out e w4 (he.of (fun r hr => InfBk.fixed f2 Hy.out r hr)) with ⟨a2, o2, ov2, uv2, rfl, hlt, hs⟩ | ⟨er, rfl, hE⟩
        · have Hs := Lib.hid hs
          clear hs he c0
          go_wp2
          go_roundw
          case rel => exact ⟨b, a2, o2, ov2, uv2, rfl, Lib.hid ⟨Hs.out.1, Hs.out.2.1⟩, Lib.hid Hs.out.2.2.1, Lib.hid Hs.out.2.2.2⟩
          case measure =>
            rw [Hs.out.1.rd.c1, Hm0.out]
            have := Hs.out.1.rd.pos
            simp [intOf]; omega
        · have HE := Lib.hid hE
          clear hE he c0
          go_wp2
          exact ⟨rfl, HE.out⟩
      · have c0 : w3.cell? ⟨Q, 2, none⟩ = some (.func (.func 150) #[] #[]) := cell_heap HQ3.out.2 rfl
        go_wp2_with fail
        refine Calls.mono (idyn_any w3 H3.out.1) ?_
        intro e w4 he
        rcases Hend.out e w4 (he.u.of (fun r hr => by cases hr with | bad e h => exact InfBk.bad f2 Hy.out e h | dyn n a' ls h r h3 => exact InfBk.dyn f2 Hy.out n a' ls h r h3)) with ⟨a2, o2, ov2, uv2, rfl, hlt, hs⟩ | ⟨er, rfl, hE⟩
        · have Hs := Lib.hid hs
          clear hs he c0
          go_wp2
          go_roundw
          case rel => exact ⟨b, a2, o2, ov2, uv2, rfl, Lib.hid ⟨Hs.out.1, Hs.out.2.1⟩, Lib.hid Hs.out.2.2.1, Lib.hid Hs.out.2.2.2⟩
          case measure =>
            rw [Hs.out.1.rd.c1, Hm0.out]
            have := Hs.out.1.rd.pos
            simp [intOf]; omega
        · have HE := Lib.hid hE
          clear hE he c0
          go_wp2
          exact ⟨rfl, HE.out⟩
      · have c0 : w3.cell? ⟨Q, 3, none⟩ = some (.func (.func 151) #[] #[]) := cell_heap HQ3.out.2 rfl
        go_wp2_with fail
        refine Calls.mono (iunknown_any _ w3) ?_
        intro e w4 he
        rcases Hend.out e w4 (.inr ⟨80, InfBk.unknown f2 Hy.out, he.1, by rw [he.2]; exact Turns.refl _ _⟩) with ⟨a2, o2, ov2, uv2, rfl, hlt, hs⟩ | ⟨er, rfl, hE⟩
        · have Hs := Lib.hid hs
          clear hs he c0
          go_wp2
          go_roundw
          case rel => exact ⟨b, a2, o2, ov2, uv2, rfl, Lib.hid ⟨Hs.out.1, Hs.out.2.1⟩, Lib.hid Hs.out.2.2.1, Lib.hid Hs.out.2.2.2⟩
          case measure =>
            rw [Hs.out.1.rd.c1, Hm0.out]
            have := Hs.out.1.rd.pos
            simp [intOf]; omega
        · have HE := Lib.hid hE
          clear hE he c0
          go_wp2
          exact ⟨rfl, HE.out⟩
end

end Go.Proofs.YtoladolgmeanhaaGreat

/- inflate: read: what is thrown is caught, and told. -/
namespace Go.Proofs.YtoladolgmeanhaaGreat
open Go.RowKit Go.Maps

theorem assert_errno (x : Int) (w : World) : (Instr.typeAssert (.iface 26 (.int .i64 x)) 20 26 false).run Tryz.prog w = .ok (.int .i64 x) w := by
  kernel_rfl
set_option maxRecDepth 100000 in
theorem catch_panicking (p : Addr) (x er : Int) (older : List PanicEntry) (w : World) (hc : w.cell? p = some (.int .i64 x)) (hz : w.frozen? p = false) :
    CallsD Tryz.prog 128 #[.pointer (some p)] (.panicking ({ v := .iface 26 (.int .i64 er), recovered := false } :: older)) w fun e u' w' =>
      e = .returned (.tuple #[]) ∧ u' = .panicking ({ v := .iface 26 (.int .i64 er), recovered := true } :: older) ∧ w' = w.setCell p (.int .i64 er) := by
  refine callsD_of_wpS Tryz.func128 rfl fun c₀ cs hu => ?_
  apply wpS_seq
  apply wpS_region
  simp [wpOpsS, go_sem, recoverD, hu, Tryz.ntmps128, Exit.thenS]
  refine wpS_of_wp ?_
  rw [show (#[Value.pointer (some p)] ++ ((Array.replicate 6 undef).setIfInBounds 1 (Value.iface 26 (.int .i64 er))).setIfInBounds 0 (Value.iface 26 (.int .i64 er))) = #[.pointer (some p), .iface 26 (.int .i64 er), .iface 26 (.int .i64 er), undef, undef, undef, undef] from rfl]
  generalize hc1 : ({ fn := c₀.fn, tmps := c₀.tmps, todo := c₀.todo, defers := c₀.defers, mode := FrameMode.panicking ({ v := Value.iface 26 (Value.int IntKind.i64 er), recovered := true } :: older), kind := c₀.kind, roundOf := c₀.roundOf } : Frame) = c1
  have hta := assert_errno er
  go_wp2
  subst hc1
  simp [bodyPostS, results, Tryz.results128]
set_option maxRecDepth 100000 in
theorem catch_idle (p : Addr) (w : World) :
    CallsD Tryz.prog 128 #[.pointer (some p)] .returning w fun e u' w' => e = .returned (.tuple #[]) ∧ u' = .returning ∧ w' = w := by
  refine callsD_of_wpS Tryz.func128 rfl fun c₀ cs hu => ?_
  apply wpS_seq
  apply wpS_region
  simp [wpOpsS, go_sem, recoverD, hu, Tryz.ntmps128, Exit.thenS]
  refine wpS_of_wp ?_
  rw [show (#[Value.pointer (some p)] ++ ((Array.replicate 6 undef).setIfInBounds 1 Value.nilIface).setIfInBounds 0 Value.nilIface) = #[.pointer (some p), .nilIface, .nilIface, undef, undef, undef, undef] from rfl]
  go_wp2
  cases c₀
  simp_all [bodyPostS, results, Tryz.results128]
theorem InfRp.ne {D l : List Nat} {lim a x : Nat} {o : List Nat} {r : InfSt} (h : InfRp D l lim a x o r) : ∀ e, r = .no e → e ≠ 0 := by
  intro e he
  cases h <;> cases he <;> first | decide | assumption
theorem InfTk.ne {A D l : List Nat} {lim a : Nat} {o : List Nat} {r : InfSt} (h : InfTk A D l lim a o r) : ∀ e, r = .no e → e ≠ 0 := by
  intro e he
  cases h with
  | bad x s e h h1 => cases he; exact h1
  | fin => cases he
  | byte => cases he
  | full => cases he; decide
  | rep x s r h h1 h2 => exact h2.ne e he
theorem InfToks.ne {A D l : List Nat} {lim a : Nat} {o : List Nat} {r : InfSt} (h : InfToks A D l lim a o r) : ∀ e, r = .no e → e ≠ 0 := by
  induction h with
  | fin => intro e he; cases he
  | no a o e h => intro e he; cases he; exact h.ne _ rfl
  | more a a' o o' r h h1 ih => exact ih
theorem InfSv.ne {C l : List Nat} {n a : Nat} {ls : List Nat} {r : InfSt} (h : InfSv C l n a ls r) : ∀ e, r = .no e → e ≠ 0 := by
  intro e he
  cases h <;> cases he <;> first | decide | assumption
theorem InfLs.ne {C l : List Nat} {n a : Nat} {ls : List Nat} {r : InfSt} (h : InfLs C l n a ls r) : ∀ e, r = .no e → e ≠ 0 := by
  induction h with
  | fin => intro e he; cases he
  | no a o e h0 h => intro e he; cases he; exact h.ne _ rfl
  | more a a' o o' r h0 h h1 ih => exact ih
theorem InfDy.ne {l : List Nat} {a n : Nat} {e : Int} (h : InfDy l a n (.no e)) : e ≠ 0 := by
  cases h with
  | few => decide
  | many => decide
  | few2 => decide
  | code h h1 h2 h3 => exact h3
  | lens h h1 h2 h3 e h4 => exact h4.ne _ rfl
  | last h h1 h2 h3 a' ls h4 e h5 =>
    rcases h5 with ⟨-, rfl⟩ | ⟨-, h, rfl⟩ | ⟨-, -, h, rfl⟩
    · decide
    · exact h
    · exact h
theorem InfBk.ne {l : List Nat} {lim a : Nat} {o : List Nat} {r : InfSt} (h : InfBk l lim a o r) : ∀ e, r = .no e → e ≠ 0 := by
  intro e he
  cases h with
  | few => cases he; decide
  | stored h h1 r h2 => subst he; cases h2 <;> decide
  | fixed h h1 r h2 => exact h2.ne e he
  | bad h h1 e h2 => cases he; exact h2.ne
  | dyn h h1 n a1 ls h2 r h3 => exact h3.ne e he
  | unknown => cases he; decide
theorem InfBl.ne {l : List Nat} {lim a : Nat} {o : List Nat} {r : InfSt} (h : InfBl l lim a o r) : ∀ e, r = .no e → e ≠ 0 := by
  induction h with
  | few => intro e he; cases he; decide
  | no a o h e h1 => intro e he; cases he; exact h1.ne _ rfl
  | last => intro e he; cases he
  | more a o h h1 a' o' h2 r h3 ih => exact ih
theorem setCell_self {w : World} {g i : Nat} {cur : Array Value} {t : TypeId} {v : Value} (hg : w.heap[g]? = some (.cells cur t (0, 0))) (hv : cur[i]? = some v) : w.setCell ⟨g, i, none⟩ v = w := by
  rw [setCell_eq_setRow w g i cur t (0, 0) v hg]
  have hlt : g < w.heap.size := (Array.getElem?_eq_some_iff.1 hg).1
  have hw : w.heap[g] = .cells cur t (0, 0) := (Array.getElem?_eq_some_iff.1 hg).2
  obtain ⟨hi, hv2⟩ := Array.getElem?_eq_some_iff.1 hv
  have hc : cur.setIfInBounds i v = cur := by
    apply Array.ext
    · simp
    · intro k h1 h2
      rw [Array.getElem_setIfInBounds h2]
      split
      · rename_i e; subst e; exact hv2.symm
      · rfl
  rw [hc]
  unfold World.setRow
  cases w with
  | mk heap tape drawn os output =>
    congr 1
    apply Array.ext
    · simp
    · intro k h1 h2
      simp only [Array.getElem_modify]
      split
      · rename_i e; subst e; simp only at hw; rw [hw]
      · rfl
section
variable {base S B : Nat} {sv ov uv : Value} {l : List Nat} {lim a a0 : Nat} {o o0 : List Nat}

set_option maxRecDepth 100000 in
set_option maxHeartbeats 4000000 in
theorem iread_any (w : World) (h : Sm w base S B sv ov uv l lim a o) :
    Calls Tryz.prog 105 #[.pointer (some ⟨S, 0, none⟩)] w fun e w' =>
      (∃ (a' : Nat) (o' : List Nat) (ov' uv' : Value), InfBl l lim a o (.go a' o') ∧ e = .returned (.int .i64 0) ∧ Sm w' base S B sv ov' uv' l lim (alN a') o' ∧ Turns (KS S B ov) w w') ∨
      (∃ er, InfBl l lim a o (.no er) ∧ er ≠ 0 ∧ e = .returned (.int .i64 er) ∧ Turns (KS S B ov) w w') := by
  have hmf : ∀ (fn : Fn) (first cap : Array Value) (w : World), (Instr.makeFunc fn first cap).run Tryz.prog w = .ok (.func fn first cap) w := fun _ _ _ _ => rfl
  have hb := Below.al1 w (.cells #[.int .i64 0] 26)
  have H1 := Lib.hid (h.below hb)
  have hP : (w.alloc (.cells #[.int .i64 0] 26)).heap[w.heap.size]? = some (.cells #[.int .i64 0] 26) := World.alloc_heap_new _ _
  have hPn : ¬ KS S B ov w.heap.size := fun k => by have := h.k _ k; omega
  have HP := Lib.hid (And.intro hP hPn)
  clear h hb hP hPn
  go_enter_defers Tryz.func105, Tryz.ntmps105
  go_wp2_with fail
  refine Calls.mono (iblocks_any _ H1.out.1) ?_
  rintro e w2 (⟨a', o', ov', uv', hbl, rfl, hs⟩ | ⟨er, hbl, rfl, hs⟩)
  · have Hs := Lib.hid hs
    have Hbl := Lib.hid hbl
    have c0 := hs.1.c0
    clear hs hbl
    go_wp2_with fail
    refine Calls.mono (ialign_any w2 Hs.out.1.rd) ?_
    rintro e w3 ⟨rfl, hr, ht⟩
    have H3 := Lib.hid (Hs.out.1.reads hr ht)
    clear hr ht c0
    go_wp2_with fail
    refine Calls.mono (icheck_ok _) ?_
    rintro e w4 ⟨rfl, rfl⟩
    have hp2 := (Hs.out.2.turns.block w.heap.size (lt_heap HP.out.1) HP.out.2).trans HP.out.1
    have hp4 : w4.heap[w.heap.size]? = some (.cells #[.int .i64 0] 26) := (H3.out.2.turns.block w.heap.size (lt_heap hp2) (fun k => HP.out.2 (Hs.out.2.k _ (lt_heap HP.out.1) k))).trans hp2
    have cp : w4.cell? ⟨w.heap.size, 0, none⟩ = some (.int .i64 0) := cell_heap hp4 rfl
    have fp : w4.frozen? ⟨w.heap.size, 0, none⟩ = false := by simp [World.frozen?, hp4]
    have hself : w4.setCell ⟨w.heap.size, 0, none⟩ (.int .i64 0) = w4 := setCell_self hp4 rfl
    have hT : Turns (KS S B ov) w w4 := (Turns.of_below' (Below.al1 w _)).trans (Hs.out.2.trans H3.out.2).turns
    have HT := Lib.hid hT
    clear hp2 hp4 hT
    go_wp2
    refine leaves_cons (f := 128) (args := #[.pointer (some ⟨w.heap.size, 0, none⟩)]) (by simp) (by simp [go_sem]) ?_
    refine (catch_idle ⟨w.heap.size, 0, none⟩ _).mono ?_
    rintro e u' w'' ⟨rfl, rfl, rfl⟩
    refine ⟨.int .i64 0, by simp [results, Tryz.results105, go_sem, cp], ?_⟩
    exact .inl ⟨a', o', ov', uv', Hbl.out, rfl, H3.out.1, HT.out⟩
  · have Hs := Lib.hid hs
    have Hbl := Lib.hid hbl
    have Hne := Lib.hid (hbl.ne _ rfl)
    have hp2 := (hs.block w.heap.size (lt_heap HP.out.1) HP.out.2).trans HP.out.1
    have cp : w2.cell? ⟨w.heap.size, 0, none⟩ = some (.int .i64 0) := cell_heap hp2 rfl
    have fp : w2.frozen? ⟨w.heap.size, 0, none⟩ = false := by simp [World.frozen?, hp2]
    have cq : (w2.setCell ⟨w.heap.size, 0, none⟩ (.int .i64 er)).cell? ⟨w.heap.size, 0, none⟩ = some (.int .i64 er) := World.cell?_setCell_same _ _ _ cp
    have hT : Turns (KS S B ov) w (w2.setCell ⟨w.heap.size, 0, none⟩ (.int .i64 er)) := ((Turns.of_below' (Below.al1 w _)).trans hs).trans' (Turns.set (T := fun i => i = w.heap.size) (p := ⟨w.heap.size, 0, none⟩) (Turns.refl _ w2) rfl _) (fun i hi h => by omega)
    have HT := Lib.hid hT
    clear hs hbl hT hp2
    go_wp2
    refine leaves_cons (f := 128) (args := #[.pointer (some ⟨w.heap.size, 0, none⟩)]) (by simp) (by simp [go_sem]) ?_
    refine (catch_panicking ⟨w.heap.size, 0, none⟩ 0 er [] _ cp fp).mono ?_
    rintro e u' w'' ⟨rfl, rfl, rfl⟩
    refine ⟨.int .i64 er, by simp [results, Tryz.results105, go_sem, cq], ?_⟩
    exact .inr ⟨er, Hbl.out, Hne.out, rfl, HT.out⟩
end

end Go.Proofs.YtoladolgmeanhaaGreat

/- inflate: Inflate as it is called. -/
namespace Go.Proofs.YtoladolgmeanhaaGreat
open Go.RowKit Go.Maps

inductive Infl (l : List Nat) (limit : Int) : List Nat → Nat → Int → Prop where
  | arg (h : limit < 0 ∨ 524288 < limit) : Infl l limit [] 0 1
  | go (lim a : Nat) (o : List Nat) (h : limit = (lim : Int)) (h1 : lim ≤ 524288) (h2 : InfBl l lim 0 [] (.go a o)) : Infl l limit o (alN a / 8) 0
  | no (lim : Nat) (er : Int) (h : limit = (lim : Int)) (h1 : lim ≤ 524288) (h2 : InfBl l lim 0 [] (.no er)) : Infl l limit [] 0 er
set_option maxRecDepth 200000 in
set_option maxHeartbeats 4000000 in
theorem infl_any (v : Value) (l : List Nat) (limit : Int) (w : World) (hv : Rw8 w v l) (hb : ∀ b ∈ l, b < 256) (hlen : l.length ≤ 1073741824) :
    Calls Tryz.prog 73 #[v, .int .i64 limit] w fun e w' => ∃ (o : List Nat) (k : Nat) (er : Int) (ov : Value), Infl l limit o k er ∧ e = .returned (.tuple #[ov, .int .i64 (k : Int), .int .i64 er]) ∧ w'.ownsRow w.heap.size 5 1 ov o.length (o.map u8v) ∧ Below w.heap.size w w' := by
  have Hv := Lib.hid hv
  have Hb := Lib.hid hb
  obtain ⟨p, c, rfl, -⟩ := hv.cells
  clear hv hb
  by_cases hneg : limit < 0
  · have d0 : decide (limit < 0) = true := by simpa using hneg
    go_enter Tryz.func73, Tryz.ntmps73
    go_wp2
    go_ret3
    refine ⟨[], 0, 1, .slice none 0 0, .arg (.inl hneg), rfl, World.ownsRow_nil _ _ _ _, Below.refl _ _⟩
  have d0 : decide (limit < 0) = false := by simpa using hneg
  by_cases hbig : 524288 < limit
  · have d1 : decide (limit > 524288) = true := by simpa using hbig
    go_enter Tryz.func73, Tryz.ntmps73
    go_wp2
    go_ret3
    exact ⟨[], 0, 1, .arg (.inr hbig), .slice none 0 0, rfl, World.ownsRow_nil _ _ _ _, Below.refl _ _⟩
  have d1 : decide (limit > 524288) = false := by simpa using hbig
  obtain ⟨lim, rfl⟩ := Int.eq_ofNat_of_zero_le (Int.not_lt.1 hneg)
  go_enter Tryz.func73, Tryz.ntmps73
  go_wp2_with fail
  refine Calls.mono (new_any _ l w Hv.out Hb.out hlen) ?_
  rintro e w1 ⟨B, sv, rfl, hrd, hbl, hB, hsv⟩
  have Hrd := Lib.hid hrd
  have Hbl := Lib.hid hbl
  have Hsv := Lib.hid (And.intro hB hsv)
  clear hrd hbl hB hsv
  have hb1 := Below.al1 w1 (.cells #[.pointer (some ⟨B, 0, none⟩), .slice none 0 0, .int .i64 (lim : Int), .pointer none] 164)
  have hBl := Hrd.out.size
  have HS : Hid (Sm (w1.alloc (.cells #[.pointer (some ⟨B, 0, none⟩), .slice none 0 0, .int .i64 (lim : Int), .pointer none] 164)) w.heap.size w1.heap.size B sv (.slice none 0 0) (.pointer none) l lim 0 []) := Lib.hid
    ⟨World.alloc_heap_new _ _, Hrd.out.below hb1, World.ownsRow_nil _ _ _ _, .inl rfl, ⟨by omega, fun e => by have := Hrd.out.row.lt _ e; omega, fun e => (by cases e), fun e => (by cases e), fun k hk e => (by cases e)⟩, ⟨Hbl.out.size, Hsv.out.1⟩, ⟨Nat.zero_le _, by omega⟩, fun _ h => (by cases h)⟩
  have Hb2 := Lib.hid (Below.thn Hbl.out hb1)
  have HK : Hid (∀ i, KS w1.heap.size B (.slice none 0 0) i → w.heap.size ≤ i) := Lib.hid (fun i hi => by
    rcases hi with rfl | rfl | hi
    · exact Hbl.out.size
    · exact Hsv.out.1
    · cases hi)
  clear hb1 hBl
  go_wp2_with fail
  refine Calls.mono (iread_any _ HS.out) ?_
  rintro e w2 (⟨a', o, ov', uv', hbk, rfl, hs⟩ | ⟨er, hbk, hne, rfl, hs⟩)
  · have Hs := Lib.hid hs.1
    have Hbk := Lib.hid hbk
    have Hb3 := Lib.hid (Hb2.out.trans (hs.2.below Hb2.out.size HK.out))
    have e0 := hs.1.c0
    have e1 := hs.1.c1
    obtain ⟨q, cq, rfl⟩ := owns_slice hs.1.out
    clear hs hbk
    obtain ⟨A, hA⟩ : ∃ A, alN a' = A := ⟨_, rfl⟩
    have HA := Lib.hid hA
    rw [hA] at Hs
    have hpos := Hs.out.rd.pos
    have hlen2 := Hs.out.rd.len
    obtain ⟨z, hz⟩ : ∃ z, A / 8 = z := ⟨_, rfl⟩
    have hq1 : (A : Int) / 8 = (z : Int) := by omega
    have hq1' : (A : Int).tdiv 8 = (z : Int) := by rw [← hz]; rfl
    have hq2 : wrap64 (z : Int) = (z : Int) := wrap64_in _ (by omega)
    have hq2' : IntKind.i64.wrap (z : Int) = (z : Int) := IntWalk.i64_in _ (by omega)
    have Hz := Lib.hid hz
    clear hz
    clear hA
    go_upto_region 7 with (fail)
    go_quiet ((go_at_call 106; exact Calls.quiet_of_same (at_any B A sv l _ (Hs.out.rd.below (Below.drewN' (Below.refl _ _) _)))))
    rename_i nq
    have hd : Below w2.heap.size w2 (w2.drewN nq) := Below.drewN' (Below.refl _ _) nq
    go_wp2
    go_ret3
    first
      | exact ⟨o, z, 0, .slice q o.length cq, by rw [← Hz.out, ← HA.out]; exact .go lim a' o rfl (by omega) Hbk.out, rfl, (Hs.out.below hd).1.out, Hb3.out.trans (hd.mono Hb3.out.size)⟩
      | exact ⟨o, z, 0, by rw [← Hz.out, ← HA.out]; exact .go lim a' o rfl (by omega) Hbk.out, .slice q o.length cq, rfl, (Hs.out.below hd).1.out, Hb3.out.trans (hd.mono Hb3.out.size)⟩
  · have Hbk := Lib.hid hbk
    have Hb3 := Lib.hid (Hb2.out.trans (hs.below Hb2.out.size HK.out))
    have d2 : (er != 0) = true := by simpa using hne
    clear hs hbk
    go_wp2
    go_ret3
    refine ⟨[], 0, er, .slice none 0 0, .no lim er rfl (by omega) Hbk.out, rfl, World.ownsRow_nil _ _ _ _, Hb3.out⟩
end Go.Proofs.YtoladolgmeanhaaGreat
