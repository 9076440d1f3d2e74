/- pixbuf's streaks: the rectangles, 1 high, of the places in a row at which something holds. -/
import Derived.Test.YtpddkhhdleknnaaY20
import Derived.Test.YtpddkhhdleknnaaY23
import Derived.Test.YtpddkhhdleknnaaY24
namespace Go.Proofs.Ytpddkhhdleknnaa
open Go.RowKit

/-- One place more of a row. -/
def stkStep (y : Nat) (p : Nat → Bool) (n : Nat) (s : List Rc × Nat) (x : Nat) : List Rc × Nat :=
  if (decide (x < n) && p x) = true then s else (if s.2 < x then s.1 ++ [⟨s.2, y, (x : Int) - s.2, 1⟩] else s.1, x + 1)
def stkR (y : Nat) (p : Nat → Bool) (n k : Nat) : List Rc × Nat := (List.range k).foldl (stkStep y p n) ([], 0)
theorem stkR_succ (y : Nat) (p : Nat → Bool) (n k : Nat) : stkR y p n (k + 1) = stkStep y p n (stkR y p n k) k := by simp [stkR, List.range_succ]
/-- The rectangles of a row. -/
def stkL (y : Nat) (p : Nat → Bool) (n : Nat) : List Rc := (stkR y p n (n + 1)).1

/-- A rectangle of a row, ahead of k. -/
def Stk (y k : Nat) (r : Rc) : Prop := 0 ≤ r.x ∧ 1 ≤ r.a ∧ r.x + r.a ≤ k ∧ r.y = y ∧ r.b = 1

theorem stkR_ok (y : Nat) (p : Nat → Bool) (n : Nat) (hn : n ≤ 65536) (hy : y ≤ 65536) : ∀ k, k ≤ n + 1 → (stkR y p n k).2 ≤ k ∧ (stkR y p n k).1.length ≤ (stkR y p n k).2 ∧ (∀ r ∈ (stkR y p n k).1, Stk y n r) ∧
    (∀ x, (stkR y p n k).2 ≤ x → x < k → (decide (x < n) && p x) = true) ∧ (∀ X Y : Nat, ((stkR y p n k).1.any fun r => hasR r X Y) = true ↔ (Y = y ∧ X < (stkR y p n k).2 ∧ (decide (X < n) && p X) = true))
  | 0, _ => by
    refine ⟨Nat.le_refl _, Nat.le_refl _, fun r hr => (by cases hr), fun x _ h => (by omega), fun X Y => ?_⟩
    simp [stkR]
  | k + 1, hk => by
    obtain ⟨h1, h2, h3, h4, h5⟩ := stkR_ok y p n hn hy k (by omega)
    rw [stkR_succ]
    generalize stkR y p n k = s at *
    unfold stkStep
    split
    · rename_i hc
      refine ⟨by omega, h2, h3, fun x g1 g2 => ?_, h5⟩
      rcases Nat.lt_or_ge x k with g | g
      · exact h4 x g1 g
      · obtain rfl : x = k := by omega
        exact hc
    · rename_i hc
      by_cases hlt : s.2 < k
      · rw [if_pos hlt]
        have hkn : ∀ x, s.2 ≤ x → x < k → x < n := fun x g1 g2 => by have := h4 x g1 g2; simp at this; exact this.1
        have hkn' := hkn (k - 1) (by omega) (by omega)
        refine ⟨Nat.le_refl _, by simp; omega, fun r hr => ?_, fun x g1 g2 => (by simp only at g1; omega), fun X Y => ?_⟩
        · rcases List.mem_append.1 hr with hr | hr
          · exact h3 r hr
          · rcases List.mem_singleton.1 hr with rfl
            unfold Stk
            simp only
            refine ⟨by omega, by omega, by omega, trivial, trivial⟩
        · rw [List.any_append, Bool.or_eq_true, h5]
          simp only [List.any_cons, List.any_nil, Bool.or_false]
          rw [has_iff]
          have he : emptyR ⟨(s.2 : Int), (y : Int), (k : Int) - s.2, 1⟩ = false := emptyR_false.2 (by simp only; omega)
          rw [he]
          simp only [true_and]
          constructor
          · rintro (⟨g1, g2, g3⟩ | ⟨⟨g1, g2⟩, g3, g4⟩)
            · exact ⟨g1, by omega, g3⟩
            · exact ⟨by omega, by omega, h4 X (by omega) (by omega)⟩
          · rintro ⟨g1, g2, g3⟩
            rcases Nat.lt_or_ge X s.2 with g | g
            · exact .inl ⟨g1, g, g3⟩
            · rcases Nat.lt_or_ge X k with g' | g'
              · exact .inr ⟨⟨by omega, by omega⟩, by omega, by omega⟩
              · obtain rfl : X = k := by omega
                exact absurd g3 hc
      · rw [if_neg hlt]
        refine ⟨Nat.le_refl _, by simp only; omega, h3, fun x g1 g2 => (by simp only at g1; omega), fun X Y => ?_⟩
        rw [h5]
        constructor
        · rintro ⟨g1, g2, g3⟩
          exact ⟨g1, by simp only; omega, g3⟩
        · rintro ⟨g1, g2, g3⟩
          simp only at g2
          rcases Nat.lt_or_ge X s.2 with g | g
          · exact ⟨g1, g, g3⟩
          · obtain rfl : X = k := by omega
            exact absurd g3 hc

theorem stkL_ok (y : Nat) (p : Nat → Bool) (n : Nat) (hn : n ≤ 65536) (hy : y ≤ 65536) : (stkL y p n).length ≤ n + 1 ∧ (∀ r ∈ stkL y p n, Stk y n r) ∧ (∀ X Y : Nat, ((stkL y p n).any fun r => hasR r X Y) = true ↔ (Y = y ∧ X < n ∧ p X = true)) := by
  obtain ⟨h1, h2, h3, h4, h5⟩ := stkR_ok y p n hn hy (n + 1) (Nat.le_refl _)
  refine ⟨by unfold stkL; omega, h3, fun X Y => ?_⟩
  unfold stkL
  rw [h5]
  constructor
  · rintro ⟨g1, g2, g3⟩
    simp at g3
    exact ⟨g1, g3.1, g3.2⟩
  · rintro ⟨g1, g2, g3⟩
    refine ⟨g1, ?_, by simp [g2, g3]⟩
    rcases Nat.lt_or_ge X (stkR y p n (n + 1)).2 with g | g
    · exact g
    · have := h4 n (by omega) (by omega)
      simp at this

theorem flatR_ones (l : List Rc) : ∀ u ∈ flatR l, u.oneCell' = true := by
  intro u hu
  simp only [flatR, List.mem_flatMap] at hu
  obtain ⟨r, _, hu⟩ := hu
  simp [encR] at hu
  rcases hu with rfl | rfl | rfl | rfl <;> rfl

theorem cells_news (w : World) (t : TypeId) (cs : List Value) : ∀ j u, cs[j]? = some u → (w.alloc (.cells cs.toArray t)).cell? ((⟨w.heap.size, 0, none⟩ : Addr).add j) = some u := fun j u h => by
  rw [Addr.add_lit, Nat.zero_add]
  exact cell_at rfl (by simpa using h)

set_option maxRecDepth 100000 in
set_option maxHeartbeats 2000000 in
theorem streaks_any (gm : Nat) (q1 q2 : Value) (p : Nat → Bool) (y n : Nat) (w : World) (hn : n ≤ 65536) (hy : y ≤ 65536) (hF : Enters Try.prog gm)
    (H : ∀ x, x < n → ∀ w1, Below w.heap.size w w1 → Makes Try.prog gm #[.int .i64 (x : Nat), q1, q2] w1 (.bool (p x))) :
    Calls Try.prog 94 #[.int .i64 (y : Nat), .int .i64 (n : Nat), .func (.func gm) #[] #[q1, q2]] w fun e w' => ∃ v, e = .returned v ∧ w'.ownsRow w.heap.size 30 4 v (stkL y p n).length (flatR (stkL y p n)) ∧ Below w.heap.size w w' := by
  unfold Enters at hF
  have HH := Lib.hid H
  have Hok := Lib.hid (stkR_ok y p n hn hy)
  obtain ⟨i0, hi, hz0, hz1, hz2⟩ := info_parts rc_info
  clear H
  have hwn : IntKind.i64.wrap ((n : Int) + 1) = ((n + 1 : Nat) : Int) := by rw [IntWalk.i64_in _ (by omega)]; omega
  go_enter Try.func94, Try.ntmps94
  go_wp2
  clear hwn
  go_loopw [7, 8, 12] (fun ov fv iv wr => ∃ k f : Nat, ∃ l : List Rc, k ≤ n + 1 ∧ iv = .int .i64 k ∧ fv = .int .i64 f ∧ Hid (stkR y p n k = (l, f)) ∧ wr.ownsRow w.heap.size 30 4 ov l.length (flatR l) ∧ Below w.heap.size w wr) (fun _ _ iv _ => n + 1 - (intOf iv).toNat)
  case atStart => exact ⟨0, 0, [], by omega, rfl, rfl, Lib.hid rfl, World.ownsRow_nil _ _ _ _, Below.refl _ _⟩
  case round =>
    obtain ⟨k, f, l, hk, rfl, rfl, Hs, hown, hb⟩ := hrel
    have hok := Hok.out k hk
    rw [Hs.out] at hok
    obtain ⟨ok1, ok2, -, -, -⟩ := hok
    simp only at ok1 ok2
    have hsu := stkR_succ y p n k
    rw [Hs.out] at hsu
    unfold stkStep at hsu
    have Hsu := Lib.hid hsu
    have Hb := Lib.hid hb
    have Hown := Lib.hid hown
    clear hsu hb hown
    by_cases hkn : k < n
    · have d1 : decide ((k : Int) < (n : Int)) = true := by simp; omega
      have d2 : decide ((k : Int) < (n : Int) + 1) = true := by simp; omega
      go_wp2_with fail
      refine Calls.mono (HH.out k hkn wr Hb.out) ?_
      rintro e w1 ⟨rfl, hb1⟩
      have Hb1 := Lib.hid (Hb.out.trans (hb1.mono Hb.out.size))
      have Hown1 := Lib.hid ((Turns.of_below' (T := fun _ => False) hb1).owns Hown.out (fun _ _ h => h))
      clear hb1 Hb Hown
      cases hp : p k
      · have Hno := Lib.hid (show (decide (k < n) && p k) = false by rw [hp]; simp)
        clear hp
        by_cases hfk : f < k
        · have d3 : decide (f < k) = true := by simp; omega
          have HS2 : Hid (stkR y p n (k + 1) = (l ++ [(⟨(f : Int), (y : Int), (k : Int) - f, 1⟩ : Rc)], k + 1)) := Lib.hid (by rw [Hsu.out, Hno.out, if_neg (by simp), if_pos hfk])
          have hll : l.length ≤ 65536 := by omega
          clear Hsu Hs Hno HH
          go_wp2_with (at_builtin; refine wpList_append_mine _ rfl (.tmp 26) (.tmp 33) 22 rfl w.heap.size 30 i0 _ 4 32 Try.underlying22 hi hz0 hz1 hz2 rfl (by decide) _ _ _ rfl (Hown1.out.alloc _) (some ⟨w1.heap.size, 0, none⟩) 1 1 (flatR [(⟨(f : Int), (y : Int), (k : Int) - f, 1⟩ : Rc)]) rfl rfl ?Ac1 ?Ac2 ?Ac3 ?Ac4 ?Ac5 ?_)
          case Ac1 => exact .inr ⟨_, rfl, fun j u hu => cells_news w1 _ _ j u hu⟩
          case Ac2 => exact flatR_ones _
          case Ac3 => simp only [maxLen]; omega
          case Ac4 => omega
          case Ac5 => have := Hb1.out.size; simp; omega
          intro v' w3 hown' hgrow hpl
          have Hb3 := Lib.hid ((Below.al Hb1.out _).grown hgrow (by have := Hb1.out.size; simp; omega) (fun k' e => (Hown1.out.lt k' e).1))
          have Hres := Lib.hid (show w3.ownsRow w.heap.size 30 4 v' (l ++ [(⟨(f : Int), (y : Int), (k : Int) - f, 1⟩ : Rc)]).length (flatR (l ++ [(⟨(f : Int), (y : Int), (k : Int) - f, 1⟩ : Rc)])) by
            simpa [flatR] using hown')
          clear hown' hgrow hpl
          go_wp2
          go_roundw
          case rel => exact ⟨k + 1, k + 1, _, by omega, by go_num, by go_num, HS2, Hres.out, Hb3.out⟩
          case measure => simp [intOf]; omega
        · have d3 : decide (f < k) = false := by simp; omega
          have HS2 : Hid (stkR y p n (k + 1) = (l, k + 1)) := Lib.hid (by rw [Hsu.out, Hno.out, if_neg (by simp), if_neg hfk])
          clear Hsu Hs Hno HH
          go_wp2
          go_roundw
          case rel => exact ⟨k + 1, k + 1, _, by omega, by go_num, by go_num, HS2, Hown1.out, Hb1.out⟩
          case measure => simp [intOf]; omega
      · have HS2 : Hid (stkR y p n (k + 1) = (l, f)) := Lib.hid (by rw [Hsu.out, hp, if_pos (by simp; omega)])
        clear Hsu Hs HH hp
        go_wp2
        go_roundw
        case rel => exact ⟨k + 1, f, l, by omega, by go_num, rfl, HS2, Hown1.out, Hb1.out⟩
        case measure => simp [intOf]; omega
    · by_cases hk1 : k < n + 1
      · have d1 : decide ((k : Int) < (n : Int)) = false := by simp; omega
        have d2 : decide ((k : Int) < (n : Int) + 1) = true := by simp; omega
        have Hno := Lib.hid (show (decide (k < n) && p k) = false by simp; omega)
        obtain ⟨w1, hw1⟩ : ∃ w1 : World, w1 = wr := ⟨_, rfl⟩
        subst hw1
        have Hb1 := Hb
        have Hown1 := Hown
        clear Hb Hown
        by_cases hfk : f < k
        · have d3 : decide (f < k) = true := by simp; omega
          have HS2 : Hid (stkR y p n (k + 1) = (l ++ [(⟨(f : Int), (y : Int), (k : Int) - f, 1⟩ : Rc)], k + 1)) := Lib.hid (by rw [Hsu.out, Hno.out, if_neg (by simp), if_pos hfk])
          have hll : l.length ≤ 65536 := by omega
          clear Hsu Hs Hno HH
          go_wp2_with (at_builtin; refine wpList_append_mine _ rfl (.tmp 26) (.tmp 33) 22 rfl w.heap.size 30 i0 _ 4 32 Try.underlying22 hi hz0 hz1 hz2 rfl (by decide) _ _ _ rfl (Hown1.out.alloc _) (some ⟨w1.heap.size, 0, none⟩) 1 1 (flatR [(⟨(f : Int), (y : Int), (k : Int) - f, 1⟩ : Rc)]) rfl rfl ?Bc1 ?Bc2 ?Bc3 ?Bc4 ?Bc5 ?_)
          case Bc1 => exact .inr ⟨_, rfl, fun j u hu => cells_news w1 _ _ j u hu⟩
          case Bc2 => exact flatR_ones _
          case Bc3 => simp only [maxLen]; omega
          case Bc4 => omega
          case Bc5 => have := Hb1.out.size; simp; omega
          intro v' w3 hown' hgrow hpl
          have Hb3 := Lib.hid ((Below.al Hb1.out _).grown hgrow (by have := Hb1.out.size; simp; omega) (fun k' e => (Hown1.out.lt k' e).1))
          have Hres := Lib.hid (show w3.ownsRow w.heap.size 30 4 v' (l ++ [(⟨(f : Int), (y : Int), (k : Int) - f, 1⟩ : Rc)]).length (flatR (l ++ [(⟨(f : Int), (y : Int), (k : Int) - f, 1⟩ : Rc)])) by
            simpa [flatR] using hown')
          clear hown' hgrow hpl
          go_wp2
          go_roundw
          case rel => exact ⟨k + 1, k + 1, _, by omega, by go_num, by go_num, HS2, Hres.out, Hb3.out⟩
          case measure => simp [intOf]; omega
        · have d3 : decide (f < k) = false := by simp; omega
          have HS2 : Hid (stkR y p n (k + 1) = (l, k + 1)) := Lib.hid (by rw [Hsu.out, Hno.out, if_neg (by simp), if_neg hfk])
          clear Hsu Hs Hno HH
          go_wp2
          go_roundw
          case rel => exact ⟨k + 1, k + 1, _, by omega, by go_num, by go_num, HS2, Hown1.out, Hb1.out⟩
          case measure => simp [intOf]; omega
      · obtain rfl : k = n + 1 := by omega
        have HE : Hid (stkL y p n = l) := Lib.hid (by unfold stkL; rw [Hs.out])
        have d2 : decide (((n + 1 : Nat) : Int) < (n : Int) + 1) = false := by simp
        clear Hs Hsu HH
        go_wp2
        go_ret
        rw [HE.out]
        exact ⟨_, rfl, Hown.out, Hb.out⟩

end Go.Proofs.Ytpddkhhdleknnaa
