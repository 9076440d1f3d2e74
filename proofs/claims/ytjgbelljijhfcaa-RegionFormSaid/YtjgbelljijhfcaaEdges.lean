/- Edges: their cells, rows of them, and how a list falls into runs of one place. -/
import Derived.Test.YtjgbelljijhfcaaRows2
import Derived.Test.YtjgbelljijhfcaaAfter
namespace Go.Proofs.Ytjgbelljijhfcaa
open Go.RowKit

/-- An edge of a rectangle. -/
structure Ed where
  pl : Int
  li : Int
  tu : Int
  rc : Rc

instance : Inhabited Ed := ⟨⟨0, 0, 0, default⟩⟩

def encE (e : Ed) : List Value := [.int .i64 e.pl, .int .i64 e.li, .int .i64 e.tu, .int .i64 e.rc.x, .int .i64 e.rc.y, .int .i64 e.rc.a, .int .i64 e.rc.b]
abbrev EV (e : Ed) : Value := .agg #[.int .i64 e.pl, .int .i64 e.li, .int .i64 e.tu, .int .i64 e.rc.x, .int .i64 e.rc.y, .int .i64 e.rc.a, .int .i64 e.rc.b]

structure LiesE (w : World) (b o : Nat) (e : Ed) : Prop where
  c0 : w.cell? ⟨b, o, none⟩ = some (.int .i64 e.pl)
  c1 : w.cell? ⟨b, o + 1, none⟩ = some (.int .i64 e.li)
  c2 : w.cell? ⟨b, o + 2, none⟩ = some (.int .i64 e.tu)
  c3 : w.cell? ⟨b, o + 3, none⟩ = some (.int .i64 e.rc.x)
  c4 : w.cell? ⟨b, o + 4, none⟩ = some (.int .i64 e.rc.y)
  c5 : w.cell? ⟨b, o + 5, none⟩ = some (.int .i64 e.rc.a)
  c6 : w.cell? ⟨b, o + 6, none⟩ = some (.int .i64 e.rc.b)

theorem LiesE.later {w w1 : World} {b o : Nat} {r : Ed} (h : LiesE w b o r) (hb : Below w.heap.size w w1) : LiesE w1 b o r :=
  ⟨cell_later hb h.c0, cell_later hb h.c1, cell_later hb h.c2, cell_later hb h.c3, cell_later hb h.c4, cell_later hb h.c5, cell_later hb h.c6⟩

theorem RowAt.ed {W : World} {p : Option Addr} {xs : List Ed} (h : RowAt encE 7 W p xs) {i : Nat} (hi : i < xs.length) : ∃ b off, p = some ⟨b, off, none⟩ ∧ b < W.heap.size ∧ ∀ j (hj : j < xs.length), LiesE W b (off + j * 7) xs[j] := by
  rcases h with ⟨_, rfl⟩ | ⟨b, off, rfl, h3, h4⟩
  · simp at hi
  · exact ⟨b, off, rfl, h3, fun j hj => by
      have h := fun k u hk => h4 j _ (List.getElem?_eq_getElem hj) k u hk
      exact ⟨h 0 _ rfl, h 1 _ rfl, h 2 _ rfl, h 3 _ rfl, h 4 _ rfl, h 5 _ rfl, h 6 _ rfl⟩⟩

/-- A list in runs of one key. -/
def grp {α : Type} (key : α → Int) : List α → List (Int × List α)
  | [] => []
  | x :: l => match grp key l with
    | [] => [(key x, [x])]
    | (y, g) :: rest => if y = key x then (y, x :: g) :: rest else (key x, [x]) :: (y, g) :: rest

theorem grp_head {α : Type} (key : α → Int) (x : α) (l : List α) : ∃ g rest, grp key (x :: l) = (key x, x :: g) :: rest := by
  simp only [grp]
  split
  · exact ⟨_, _, rfl⟩
  · split
    · rename_i h; exact ⟨_, _, by rw [h]⟩
    · exact ⟨_, _, rfl⟩

theorem grp_run {α : Type} (key : α → Int) (c : Int) (s r : List α) (hs : s ≠ []) (hk : ∀ x ∈ s, key x = c) (hr : ∀ x, r.head? = some x → key x ≠ c) : grp key (s ++ r) = (c, s) :: grp key r := by
  induction s with
  | nil => simp at hs
  | cons x s ih =>
    have hx := hk x (by simp)
    cases s with
    | nil =>
      simp only [List.cons_append, List.nil_append, grp]
      cases r with
      | nil => simp [grp, hx]
      | cons z r =>
        obtain ⟨g, rest, hg⟩ := grp_head key z r
        rw [hg]
        have := hr z rfl
        simp only [hx]
        rw [if_neg this]
    | cons y s =>
      rw [List.cons_append, grp, ih (by simp) (fun z hz => hk z (by simp [hz]))]
      simp [hx]

theorem RowAt.sub {α : Type} {enc : α → List Value} {k : Nat} {W : World} {b off : Nat} {xs : List α} (h : RowAt enc k W (some ⟨b, off, none⟩) xs) (i m : Nat) : RowAt enc k W (some ⟨b, off + i * k, none⟩) ((xs.drop i).take m) := by
  rcases h with ⟨h, _⟩ | ⟨b', off', h, h3, h4⟩
  · cases h
  · cases h
    refine .inr ⟨b, _, rfl, h3, fun j x hj c u hu => ?_⟩
    rw [List.getElem?_take] at hj
    split at hj
    · rw [List.getElem?_drop] at hj
      have := h4 _ x hj c u hu
      rw [Nat.add_mul] at this
      rw [← this]
      congr 2
      omega
    · cases hj

end Go.Proofs.Ytjgbelljijhfcaa
