/- The walk of the statement RleEncodes. -/
import Derived.Test.YtgfdlimgndpngaaRleI
import Derived.Test.YtgfdlimgndpngaaRleJ
namespace Go.Proofs.Ytgfdlimgndpngaa
open Go.RowKit

set_option maxRecDepth 20000 in
set_option maxHeartbeats 8000000 in
theorem rencodes_any (v : Value) (l : List Nat) (w : World) (hv : RwP w v l) (h32 : ∀ x ∈ l, x < 4294967296) :
    Makes Try.prog 3 #[v] w (.bool true) := by
  unfold Makes
  have Hv := Lib.hid hv.row
  obtain ⟨p, c, rfl, hc1, hc2, hsrc⟩ := hv.src encP_len (by decide)
  rw [flatP] at hsrc
  have Hsrc := Lib.hid hsrc
  obtain ⟨i0, hi0, hz0, hz1, hz2⟩ := info_parts pxv_info
  clear hv hsrc
  go_enter Try.func3, Try.ntmps3
  by_cases hl : 5000 < l.length
  · have d0 : decide ((l.length : Int) > 5000) = true := by simp; omega
    go_wp2
    go_ret
    exact ⟨rfl, Below.refl _ _⟩
  have d0 : decide ((l.length : Int) > 5000) = false := by simp; omega
  go_wp2_with (at_builtin; refine wpList_append_mine w rfl (.tmp 7) (.tmp 8) 22 rfl w.heap.size 34 i0 _ 1 4 Try.underlying22 hi0 hz0 hz1 hz2 rfl (by decide) (.slice none 0 0) 0 [] rfl (World.ownsRow_nil _ _ _ _) p l.length c (l.map pxv) rfl (by simp) Hsrc.out (oneP _) ?n3 ?n4 (Nat.le_refl _) ?_)
  case n3 => simp only [maxLen]; omega
  case n4 => omega
  intro vi w1 ho1 hg1 _
  have hb1 : Below w.heap.size w w1 := (Turns.of_grown (T := fun _ => False) hg1 (fun i e => by cases e)).below (Nat.le_refl _) (fun i h => h.elim)
  have hown1 : w1.ownsRow w.heap.size 34 1 vi l.length (l.map pxv) := by simpa using ho1
  have hr1 := Row.ownP hown1
  obtain ⟨p1, c1, rfl⟩ := owns_slice hown1
  have Hb1 := Lib.hid hb1
  obtain ⟨S, hS⟩ : ∃ S, strR (rlBs (rlO l)) = S := ⟨_, rfl⟩
  have HE : Hid (∀ W, Below w1.heap.size w1 W → Calls Try.prog 9 #[.slice p1 l.length c1] W fun e w' => ∃ v', e = .returned v' ∧ Below w1.heap.size w1 w' ∧ Below W.heap.size W w' ∧ ∀ W', Below w'.heap.size w' W' → (convert 23 9 v').run Try.prog W' = .ok (.string S) W') := Lib.hid (fun W hW =>
    Calls.mono (rencode_any p1 c1 l W (hr1.below hW).at'.1 h32 (by omega) (hr1.below hW).at'.2) (by
      rintro _ w' ⟨v', rfl, ho, hb⟩
      exact ⟨v', rfl, Below.thn hW hb, hb, fun W' hW' => by rw [← hS]; exact strR_row ((Row.own8' ho).below hW')⟩))
  have HR : Hid (∀ W, Below w1.heap.size w1 W → Calls Try.prog 10 #[.slice p l.length c] W fun e w' => ∃ v', e = .returned v' ∧ Below w1.heap.size w1 w' ∧ Below W.heap.size W w' ∧ ∀ W', Below w'.heap.size w' W' → (convert 23 9 v').run Try.prog W' = .ok (.string S) W') := Lib.hid (fun W hW =>
    Calls.mono (refEncode_any p c l W (Hv.out.below (Below.thn hb1 hW)).at'.1 (by omega)) (by
      rintro _ w' ⟨v', rfl, ho, hb⟩
      exact ⟨v', rfl, Below.thn hW hb, hb, fun W' hW' => by rw [← hS]; exact strR_row ((Row.own8' ho).below hW')⟩))
  have HS : Hid (∀ W, Below w1.heap.size w1 W → Calls Try.prog 11 #[.slice p1 l.length c1, .slice p l.length c] W fun e w' => e = .returned (.bool true) ∧ Below w1.heap.size w1 w') := Lib.hid (fun W hW =>
    Calls.mono (rsame_any p1 p c1 c l l W (hr1.below hW).at'.1 (Hv.out.below (Below.thn hb1 hW)).at'.1 (by omega) (by omega)) (by
      rintro _ w' ⟨rfl, hb⟩
      exact ⟨by simp, Below.thn hW hb⟩))
  have HT : Hid (∀ W, Below w1.heap.size w1 W → Calls Try.prog 12 #[] W fun e w' => e = .returned (.bool true) ∧ Below w1.heap.size w1 w') := Lib.hid (fun W hW =>
    Calls.mono (tells_law W) (by
      rintro _ w' ⟨rfl, hb⟩
      exact ⟨rfl, Below.thn hW hb⟩))
  clear ho1 hg1 hb1 hown1 hr1 hS
  go_upto_region 5 with (fail)
  go_region_with (first
    | (go_at_call 9; refine Calls.mono (HE.out _ (by first | exact hbr | exact Below.drew (Below.refl _ _))) ?_; rintro _ we ⟨ve, rfl, hbe, hse, hce⟩; have ce := hce _ (Below.refl _ _); (try have cr2 := hcr _ hse))
    | (go_at_call 10; refine Calls.mono (HR.out _ (by first | exact hbe | exact Below.drew (Below.refl _ _))) ?_; rintro _ wq ⟨vr, rfl, hbr, hsr, hcr⟩; have cr := hcr _ (Below.refl _ _); (try have ce2 := hce _ hsr))
    | (go_at_call 11; refine Calls.mono (HS.out _ (by first | exact hbe | exact hbr)) ?_; rintro _ ws ⟨rfl, hbs⟩)
    | (go_at_call 12; refine Calls.mono (HT.out _ hbs) ?_; rintro _ wt ⟨rfl, hbt⟩))
  all_goals
    go_wp2
    go_ret
    exact ⟨rfl, Below.thn Hb1.out hbt⟩

end Go.Proofs.Ytgfdlimgndpngaa
