/- inflate: blocks: all blocks, one behind the other. -/
import Derived.Test.YtajidlihepjegaaK838
namespace Go.Proofs.Ytajidlihepjegaa
open Go.RowKit Go.Maps

theorem InfRp.up {D l : List Nat} {lim a x : Nat} {o : List Nat} {r : InfSt} (h : InfRp D l lim a x o r) : ∀ a' o', r = .go a' o' → a ≤ a' := by
  intro a' o' e
  cases h <;> cases e
  omega
theorem InfTk.up {A D l : List Nat} {lim a : Nat} {o : List Nat} {r : InfSt} (h : InfTk A D l lim a o r) : (∀ a' o', r = .go a' o' → a ≤ a') ∧ ∀ a', r = .fin a' → a ≤ a' := by
  refine ⟨fun a' o' e => ?_, fun a' e => ?_⟩
  · cases h with
    | bad => cases e
    | fin => cases e
    | byte => cases e; omega
    | full => cases e
    | rep x s r h h1 h2 => have := h2.up a' o' e; omega
  · cases h with
    | bad => cases e
    | fin => cases e; omega
    | byte => cases e
    | full => cases e
    | rep x s r h h1 h2 => subst e; cases h2
theorem InfToks.up {A D l : List Nat} {lim a : Nat} {o : List Nat} {r : InfSt} (h : InfToks A D l lim a o r) : ∀ a' o', r = .go a' o' → a ≤ a' := by
  induction h with
  | fin a a' o h => intro x y e; cases e; exact h.up.2 _ rfl
  | no => intro x y e; cases e
  | more a a' o o' r h h1 ih => intro x y e; have := ih x y e; have := h.up.1 _ _ rfl; omega
theorem InfSv.up {C l : List Nat} {n a : Nat} {ls : List Nat} {r : InfSt} (h : InfSv C l n a ls r) : ∀ a' o', r = .go a' o' → a ≤ a' := by
  intro a' o' e
  cases h <;> cases e
  omega
theorem InfLs.up {C l : List Nat} {n a : Nat} {ls : List Nat} {r : InfSt} (h : InfLs C l n a ls r) : ∀ a' o', r = .go a' o' → a ≤ a' := by
  induction h with
  | fin => intro x y e; cases e; omega
  | no => intro x y e; cases e
  | more a a' o o' r h0 h h1 ih => intro x y e; have := ih x y e; have := h.up _ _ rfl; omega
theorem InfDy.up {l : List Nat} {a n a' : Nat} {ls : List Nat} (h : InfDy l a n (.go a' ls)) : a ≤ a' := by
  cases h with
  | done h h1 h2 h3 a' ls h4 h5 => have := h4.up _ _ rfl; omega
theorem InfBk.up {l : List Nat} {lim a : Nat} {o : List Nat} {r : InfSt} (h : InfBk l lim a o r) : ∀ a' o', r = .go a' o' → a ≤ a' := by
  intro a' o' e
  cases h with
  | few => cases e
  | stored h h1 r h2 =>
    subst e
    cases h2
    unfold alN; omega
  | fixed h h1 r h2 => have := h2.up _ _ e; omega
  | bad => cases e
  | dyn h h1 n a1 ls h2 r h3 => have := h3.up _ _ e; have := h2.up; omega
  | unknown => cases e

section
variable {base S B : Nat} {sv ov uv : Value} {l : List Nat} {lim a a0 : Nat} {o o0 : List Nat}

theorem iunknown_any (v : Value) (w : World) : Calls Try.prog 54 #[v] w fun e w' => e = thrown 80 ∧ w' = w := by
  go_enter Try.func54, Try.ntmps54
  go_wp2
  exact ⟨rfl, rfl, rfl⟩

/-- What is known of the blocks so far. -/
def BlSo (l : List Nat) (lim a : Nat) (o : List Nat) (b : Bool) (a1 : Nat) (o1 : List Nat) : Prop := if b then InfBl l lim a o (.go a1 o1) else ∀ r, InfBl l lim a1 o1 r → InfBl l lim a o r

set_option maxRecDepth 20000 in
set_option maxHeartbeats 4000000 in
theorem iblocks_any (w : World) (h : Sm w base S B sv ov uv l lim a o) :
    Calls Try.prog 41 #[.pointer (some ⟨S, 0, none⟩)] w (EndsU base S B sv ov l lim w (InfBl l lim a o)) := by
  have H := Lib.hid h
  clear h
  go_enter Try.func41, Try.ntmps41
  go_upto_region 0 with (fail)
  refine wp_region_lit ?_
  refine wpList_buildTo rfl 104 _ rfl (some 4) rfl #[.func (.func 51) #[] #[], .func (.func 52) #[] #[], .func (.func 53) #[] #[], .func (.func 54) #[] #[]] (by kernel_rfl) ?_
  refine wpList_plain rfl fun K hK => ?_
  go_simp
  refine hK _ _ ?_
  clear hK K
  have hz := World.alloc_heap_new w (.cells #[.nilFunc, .nilFunc, .nilFunc, .nilFunc] 104)
  refine wpList_store_rowTo rfl 104 _ _ rfl rfl w.heap.size #[.func (.func 51) #[] #[], .func (.func 52) #[] #[], .func (.func 53) #[] #[], .func (.func 54) #[] #[]] rfl rfl 104 _ hz (by kernel_rfl) (by kernel_rfl) (by kernel_rfl) ?_
  generalize hw1 : World.setRow _ w.heap.size _ = w1
  have ho1 : w1.heap[w.heap.size]? = some (.cells #[.func (.func 51) #[] #[], .func (.func 52) #[] #[], .func (.func 53) #[] #[], .func (.func 54) #[] #[]] 104) := by rw [← hw1]; exact setRow_heap _ _ _ _ _ _ hz
  have hb1 : Below w.heap.size w w1 := by rw [← hw1]; exact below_setRow (Below.al1 _ _) (Nat.le_refl _) _
  have H1 := Lib.hid (H.out.below hb1)
  have hKn : ¬ KS S B ov w.heap.size := fun h => by have := H.out.k _ h; omega
  obtain ⟨Q, hQ⟩ : ∃ Q, w.heap.size = Q := ⟨_, rfl⟩
  rw [hQ] at ho1 hKn ⊢
  have Ho1 := Lib.hid ho1
  have HKn := Lib.hid hKn
  clear hw1 hz ho1 hb1 hKn hQ
  go_wp2_with fail
  go_loopw [3] (fun bv wr => ∃ (b : Bool) (a1 : Nat) (o1 : List Nat) (ov1 uv1 : Value), bv = .bool b ∧ Hid (Sm wr base S B sv ov1 uv1 l lim a1 o1 ∧ Fr S B ov w ov1 wr) ∧ Hid (¬ KS S B ov1 Q ∧ wr.heap[Q]? = some (.cells #[.func (.func 51) #[] #[], .func (.func 52) #[] #[], .func (.func 53) #[] #[], .func (.func 54) #[] #[]] 104)) ∧ Hid (BlSo l lim a o b a1 o1))
    (fun bv wr => 8 * l.length + 1 - (intOf ((wr.cell? ⟨B, 1, none⟩).getD undef)).toNat)
  case atStart => exact ⟨false, a, o, ov, uv, rfl, H1, Lib.hid ⟨HKn.out, Ho1.out⟩, Lib.hid (fun r h => h)⟩
  case round =>
    obtain ⟨b, a1, o1, ov1, uv1, rfl, HS, HQ, HB⟩ := hrel
    cases b with
    | true =>
      go_wp2
      go_end0
      exact .inl ⟨a1, o1, ov1, uv1, HB.out, rfl, HS.out.1, HS.out.2⟩
    | false =>
      go_wp2_with fail
      refine Calls.mono (inum_any 1 (by decide) wr HS.out.1) ?_
      have h2 : nb l a1 1 < 2 := nb_lt _ _ _
      obtain ⟨x, hx⟩ : ∃ x, nb l a1 1 = x := ⟨_, rfl⟩
      rw [hx] at h2 ⊢
      have Hx := Lib.hid hx
      clear hx
      rintro e w2 (⟨f1, rfl, hs⟩ | ⟨f1, rfl, hs⟩)
      case inr =>
        have Hs := Lib.hid hs
        clear hs
        go_wp2
        exact ⟨rfl, .inr ⟨50, HB.out _ (.few a1 o1 f1), rfl, HS.out.2.throws Hs.out⟩⟩
      have hm0 : (intOf ((wr.cell? ⟨B, 1, none⟩).getD undef)).toNat = a1 := by rw [HS.out.1.rd.c1]; simp [intOf]
      have Hm0 := Lib.hid hm0
      have H2 := Lib.hid (And.intro hs.1 (HS.out.2.trans hs.2))
      have HQ2 : Hid (¬ KS S B ov1 Q ∧ w2.heap[Q]? = some (.cells #[.func (.func 51) #[] #[], .func (.func 52) #[] #[], .func (.func 53) #[] #[], .func (.func 54) #[] #[]] 104)) := Lib.hid ⟨HQ.out.1, (hs.2.turns.block Q (lt_heap HQ.out.2) HQ.out.1).trans HQ.out.2⟩
      clear hs hm0 HQ HS
      obtain ⟨b, hb⟩ : ∃ b, ((x : Int) == 1) = b := ⟨_, rfl⟩
      have Hb := Lib.hid hb
      go_wp2_with fail
      refine Calls.mono (inum_any 2 (by decide) w2 H2.out.1) ?_
      have h4 : nb l (a1 + 1) 2 < 4 := nb_lt _ _ _
      obtain ⟨y, hy⟩ : ∃ y, nb l (a1 + 1) 2 = y := ⟨_, rfl⟩
      rw [hy] at h4 ⊢
      have Hy := Lib.hid hy
      clear hy
      rintro e w3 (⟨f2, rfl, hs⟩ | ⟨f2, rfl, hs⟩)
      case inr =>
        have Hs := Lib.hid hs
        clear hs
        go_wp2
        exact ⟨rfl, .inr ⟨50, HB.out _ (.no a1 o1 f1 50 (.few f2)), rfl, H2.out.2.throws Hs.out⟩⟩
      have H3 := Lib.hid (And.intro hs.1 (H2.out.2.trans hs.2))
      have HQ3 : Hid (¬ KS S B ov1 Q ∧ w3.heap[Q]? = some (.cells #[.func (.func 51) #[] #[], .func (.func 52) #[] #[], .func (.func 53) #[] #[], .func (.func 54) #[] #[]] 104)) := Lib.hid ⟨HQ2.out.1, (hs.2.turns.block Q (lt_heap HQ2.out.2) HQ2.out.1).trans HQ2.out.2⟩
      clear hs H2 HQ2
      have hend : ∀ (e : Ending) (w4 : World), EndsU base S B sv ov1 l lim w3 (InfBk l lim (a1 + 1) o1) e w4 → (∃ (a2 : Nat) (o2 : List Nat) (ov2 uv2 : Value), e = .returned (.tuple #[]) ∧ a1 < a2 ∧ Sm w4 base S B sv ov2 uv2 l lim a2 o2 ∧ Fr S B ov w ov2 w4 ∧ (¬ KS S B ov2 Q ∧ w4.heap[Q]? = some (.cells #[.func (.func 51) #[] #[], .func (.func 52) #[] #[], .func (.func 53) #[] #[], .func (.func 54) #[] #[]] 104)) ∧ BlSo l lim a o b a2 o2) ∨
          (∃ er, e = thrown er ∧ EndsU base S B sv ov l lim w (InfBl l lim a o) (thrown er) w4) := fun e w4 h => by
        rcases h with ⟨a2, o2, ov2, uv2, h1, rfl, h3, h4⟩ | ⟨er, h1, rfl, h3⟩
        · refine .inl ⟨a2, o2, ov2, uv2, rfl, by have := h1.up _ _ rfl; omega, h3, H3.out.2.trans h4, ⟨fun h => HQ3.out.1 (h4.k Q (lt_heap HQ3.out.2) h), (h4.turns.block Q (lt_heap HQ3.out.2) HQ3.out.1).trans HQ3.out.2⟩, ?_⟩
          cases b with
          | true =>
            have hx1 : x = 1 := by have := Hb.out; rw [beq_iff_eq] at this; omega
            exact HB.out _ (.last a1 o1 f1 (by rw [Hx.out]; exact hx1) a2 o2 h1)
          | false =>
            have hx1 : x ≠ 1 := by have := Hb.out; rw [beq_eq_false_iff_ne] at this; omega
            exact fun r hr => HB.out r (.more a1 o1 f1 (by rw [Hx.out]; exact hx1) a2 o2 h1 r hr)
        · exact .inr ⟨er, rfl, .inr ⟨er, HB.out _ (.no a1 o1 f1 er h1), rfl, H3.out.2.throws h3⟩⟩
      have Hend := Lib.hid hend
      clear hend hb
      have hy4 : y = 0 ∨ y = 1 ∨ y = 2 ∨ y = 3 := by omega
      rcases hy4 with rfl | rfl | rfl | rfl
      · have c0 : w3.cell? ⟨Q, 0, none⟩ = some (.func (.func 51) #[] #[]) := cell_heap HQ3.out.2 rfl
        go_wp2_with fail
        refine Calls.mono (istored_any w3 H3.out.1) ?_
        intro e w4 he
        rcases Hend.out e w4 (he.u.of (fun r hr => InfBk.stored f2 Hy.out r hr)) with ⟨a2, o2, ov2, uv2, rfl, hlt, hs⟩ | ⟨er, rfl, hE⟩
        · have Hs := Lib.hid hs
          clear hs he c0
          go_wp2
          go_roundw
          case rel => exact ⟨b, a2, o2, ov2, uv2, rfl, Lib.hid ⟨Hs.out.1, Hs.out.2.1⟩, Lib.hid Hs.out.2.2.1, Lib.hid Hs.out.2.2.2⟩
          case measure =>
            rw [Hs.out.1.rd.c1, Hm0.out]
            have := Hs.out.1.rd.pos
            simp [intOf]; omega
        · have HE := Lib.hid hE
          clear hE he c0
          go_wp2
          exact ⟨rfl, HE.out⟩
      · have c0 : w3.cell? ⟨Q, 1, none⟩ = some (.func (.func 52) #[] #[]) := cell_heap HQ3.out.2 rfl
        go_wp2_with fail
        refine Calls.mono (ifixed_any w3 H3.out.1) ?_
        intro e w4 he
        rcases Hend.out e w4 (he.of (fun r hr => InfBk.fixed f2 Hy.out r hr)) with ⟨a2, o2, ov2, uv2, rfl, hlt, hs⟩ | ⟨er, rfl, hE⟩
        · have Hs := Lib.hid hs
          clear hs he c0
          go_wp2
          go_roundw
          case rel => exact ⟨b, a2, o2, ov2, uv2, rfl, Lib.hid ⟨Hs.out.1, Hs.out.2.1⟩, Lib.hid Hs.out.2.2.1, Lib.hid Hs.out.2.2.2⟩
          case measure =>
            rw [Hs.out.1.rd.c1, Hm0.out]
            have := Hs.out.1.rd.pos
            simp [intOf]; omega
        · have HE := Lib.hid hE
          clear hE he c0
          go_wp2
          exact ⟨rfl, HE.out⟩
      · have c0 : w3.cell? ⟨Q, 2, none⟩ = some (.func (.func 53) #[] #[]) := cell_heap HQ3.out.2 rfl
        go_wp2_with fail
        refine Calls.mono (idyn_any w3 H3.out.1) ?_
        intro e w4 he
        rcases Hend.out e w4 (he.u.of (fun r hr => by cases hr with | bad e h => exact InfBk.bad f2 Hy.out e h | dyn n a' ls h r h3 => exact InfBk.dyn f2 Hy.out n a' ls h r h3)) with ⟨a2, o2, ov2, uv2, rfl, hlt, hs⟩ | ⟨er, rfl, hE⟩
        · have Hs := Lib.hid hs
          clear hs he c0
          go_wp2
          go_roundw
          case rel => exact ⟨b, a2, o2, ov2, uv2, rfl, Lib.hid ⟨Hs.out.1, Hs.out.2.1⟩, Lib.hid Hs.out.2.2.1, Lib.hid Hs.out.2.2.2⟩
          case measure =>
            rw [Hs.out.1.rd.c1, Hm0.out]
            have := Hs.out.1.rd.pos
            simp [intOf]; omega
        · have HE := Lib.hid hE
          clear hE he c0
          go_wp2
          exact ⟨rfl, HE.out⟩
      · have c0 : w3.cell? ⟨Q, 3, none⟩ = some (.func (.func 54) #[] #[]) := cell_heap HQ3.out.2 rfl
        go_wp2_with fail
        refine Calls.mono (iunknown_any _ w3) ?_
        intro e w4 he
        rcases Hend.out e w4 (.inr ⟨80, InfBk.unknown f2 Hy.out, he.1, by rw [he.2]; exact Turns.refl _ _⟩) with ⟨a2, o2, ov2, uv2, rfl, hlt, hs⟩ | ⟨er, rfl, hE⟩
        · have Hs := Lib.hid hs
          clear hs he c0
          go_wp2
          go_roundw
          case rel => exact ⟨b, a2, o2, ov2, uv2, rfl, Lib.hid ⟨Hs.out.1, Hs.out.2.1⟩, Lib.hid Hs.out.2.2.1, Lib.hid Hs.out.2.2.2⟩
          case measure =>
            rw [Hs.out.1.rd.c1, Hm0.out]
            have := Hs.out.1.rd.pos
            simp [intOf]; omega
        · have HE := Lib.hid hE
          clear hE he c0
          go_wp2
          exact ⟨rfl, HE.out⟩
end

end Go.Proofs.Ytajidlihepjegaa
