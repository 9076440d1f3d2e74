/- The statements' own copy of a list of rectangles. -/
import Derived.Test.YtjgbelljijhfcaaMathG
namespace Go.Proofs.Ytjgbelljijhfcaa
open Go.RowKit

/-- A slice that reads so; nil has no room. -/
structure Rw (w : World) (v : Value) (xs : List Rc) : Prop where
  row : Row encR 4 w v xs
  nil : ∀ c, v = .slice none 0 c → c = 0

theorem Rw.below {w w1 : World} {v : Value} {xs : List Rc} (h : Rw w v xs) (hb : Below w.heap.size w w1) : Rw w1 v xs := ⟨h.row.below hb, h.nil⟩

theorem Rw.owned {w : World} {base : Nat} {v : Value} {xs : List Rc} (h : w.ownsRow base 30 4 v xs.length (flatR xs)) : Rw w v xs := ⟨owns_row' (enc := encR) (k := 4) (fun _ => rfl) h, owns_nil_cap h⟩

theorem Rw.src {w : World} {p : Option Addr} {n c : Nat} {xs : List Rc} (h : Rw w (.slice p n c) xs) : n = xs.length ∧ ((p = none ∧ n = 0 ∧ c = 0) ∨ ∃ ad, p = some ad ∧ ∀ j u, (flatR xs)[j]? = some u → w.cell? (ad.add j) = some u) := by
  obtain ⟨⟨p', c', e, h1, h2, h3⟩, hn⟩ := h
  cases e
  refine ⟨rfl, ?_⟩
  rcases h3 with ⟨rfl, rfl⟩ | ⟨b, off, rfl, h4, h5⟩
  · exact .inl ⟨rfl, rfl, hn _ rfl⟩
  · by_cases hx : xs = []
    · subst hx
      exact .inr ⟨_, rfl, fun j u hu => by simp [flatR] at hu⟩
    · obtain ⟨ad, e, hc⟩ := RowAt.srcR (xs := xs) (.inr ⟨b, off, rfl, h4, h5⟩) hx
      cases e
      exact .inr ⟨_, rfl, hc⟩

set_option maxHeartbeats 400000 in
theorem own_any (v : Value) (xs : List Rc) (w : World) (hv : Rw w v xs) (hlen : xs.length ≤ 67108864) :
    Calls Try.prog 9 #[v] w fun e w' => ∃ u, e = .returned u ∧ Rw w' u xs ∧ Below w.heap.size w w' := by
  have hv' := hv
  obtain ⟨⟨p, cap, rfl, -, -, -⟩, -⟩ := hv'
  obtain ⟨-, hsrc⟩ := hv.src
  have Hsrc := Lib.hid hsrc
  clear hv hsrc
  obtain ⟨i0, hi, hz0, hz1, hz2⟩ := info_parts rc_info
  go_enter Try.func9, Try.ntmps9
  go_wp2_with (at_builtin; refine wpList_append_mine _ rfl _ _ 22 rfl w.heap.size 30 i0 _ 4 32 Try.underlying22 hi hz0 hz1 hz2 rfl (by decide) (.slice none 0 0) 0 [] rfl (World.ownsRow_nil w _ _ _) p xs.length cap (flatR xs) rfl (flatR_len xs) Hsrc.out (encR_one xs) ?c3 ?c4 (Nat.le_refl _) ?_)
  case c3 => simp only [maxLen]; omega
  case c4 => omega
  intro v' w4 hown' hgrow hpl
  have hb4 : Below w.heap.size w w4 := (Turns.of_grown (T := fun _ => False) hgrow (fun i e => by cases e)).below (Nat.le_refl _) (fun i h => h.elim)
  have Hr : Rw w4 v' xs := Rw.owned (base := w.heap.size) (by simpa using hown')
  clear hgrow hpl hown'
  go_wp2
  go_ret
  exact ⟨_, rfl, Hr, hb4⟩

end Go.Proofs.Ytjgbelljijhfcaa
