/- Several texts in one, each with its own head. -/
import Derived.Test.YtjigdgfanpeibaaTC5
import Derived.Shelf.SlGeneric
import Derived.Shelf.SlSortCmp.WholeK
import Derived.Shelf.SlSortCmp.NoneTotal
import Derived.Shelf.SlicesQ.IndexFunc
import Derived.Shelf.SlicesG.Cmp
import Derived.Ground.SlsfProg
import Derived.Ground.SlgcProg
import Derived.Ground.SlgfProg
import Derived.Test.YtjigdgfanpeibaaProg
/- Edges: their cells, rows of them, and how a list falls into runs of one place. -/
namespace Go.Proofs.Ytjigdgfanpeibaa
open Go.RowKit

/-- An edge of a rectangle. -/
structure Ed where
  pl : Int
  li : Int
  tu : Int
  rc : Rc

instance : Inhabited Ed := ⟨⟨0, 0, 0, default⟩⟩

def encE (e : Ed) : List Value := [.int .i64 e.pl, .int .i64 e.li, .int .i64 e.tu, .int .i64 e.rc.x, .int .i64 e.rc.y, .int .i64 e.rc.a, .int .i64 e.rc.b]
abbrev EV (e : Ed) : Value := .agg #[.int .i64 e.pl, .int .i64 e.li, .int .i64 e.tu, .int .i64 e.rc.x, .int .i64 e.rc.y, .int .i64 e.rc.a, .int .i64 e.rc.b]

structure LiesE (w : World) (b o : Nat) (e : Ed) : Prop where
  c0 : w.cell? ⟨b, o, none⟩ = some (.int .i64 e.pl)
  c1 : w.cell? ⟨b, o + 1, none⟩ = some (.int .i64 e.li)
  c2 : w.cell? ⟨b, o + 2, none⟩ = some (.int .i64 e.tu)
  c3 : w.cell? ⟨b, o + 3, none⟩ = some (.int .i64 e.rc.x)
  c4 : w.cell? ⟨b, o + 4, none⟩ = some (.int .i64 e.rc.y)
  c5 : w.cell? ⟨b, o + 5, none⟩ = some (.int .i64 e.rc.a)
  c6 : w.cell? ⟨b, o + 6, none⟩ = some (.int .i64 e.rc.b)

theorem LiesE.later {w w1 : World} {b o : Nat} {r : Ed} (h : LiesE w b o r) (hb : Below w.heap.size w w1) : LiesE w1 b o r :=
  ⟨cell_later hb h.c0, cell_later hb h.c1, cell_later hb h.c2, cell_later hb h.c3, cell_later hb h.c4, cell_later hb h.c5, cell_later hb h.c6⟩

theorem RowAt.ed {W : World} {p : Option Addr} {xs : List Ed} (h : RowAt encE 7 W p xs) {i : Nat} (hi : i < xs.length) : ∃ b off, p = some ⟨b, off, none⟩ ∧ b < W.heap.size ∧ ∀ j (hj : j < xs.length), LiesE W b (off + j * 7) xs[j] := by
  rcases h with ⟨_, rfl⟩ | ⟨b, off, rfl, h3, h4⟩
  · simp at hi
  · exact ⟨b, off, rfl, h3, fun j hj => by
      have h := fun k u hk => h4 j _ (List.getElem?_eq_getElem hj) k u hk
      exact ⟨h 0 _ rfl, h 1 _ rfl, h 2 _ rfl, h 3 _ rfl, h 4 _ rfl, h 5 _ rfl, h 6 _ rfl⟩⟩

/-- A list in runs of one key. -/
def grp {α : Type} (key : α → Int) : List α → List (Int × List α)
  | [] => []
  | x :: l => match grp key l with
    | [] => [(key x, [x])]
    | (y, g) :: rest => if y = key x then (y, x :: g) :: rest else (key x, [x]) :: (y, g) :: rest

theorem grp_head {α : Type} (key : α → Int) (x : α) (l : List α) : ∃ g rest, grp key (x :: l) = (key x, x :: g) :: rest := by
  simp only [grp]
  split
  · exact ⟨_, _, rfl⟩
  · split
    · rename_i h; exact ⟨_, _, by rw [h]⟩
    · exact ⟨_, _, rfl⟩

theorem grp_run {α : Type} (key : α → Int) (c : Int) (s r : List α) (hs : s ≠ []) (hk : ∀ x ∈ s, key x = c) (hr : ∀ x, r.head? = some x → key x ≠ c) : grp key (s ++ r) = (c, s) :: grp key r := by
  induction s with
  | nil => simp at hs
  | cons x s ih =>
    have hx := hk x (by simp)
    cases s with
    | nil =>
      simp only [List.cons_append, List.nil_append, grp]
      cases r with
      | nil => simp [grp, hx]
      | cons z r =>
        obtain ⟨g, rest, hg⟩ := grp_head key z r
        rw [hg]
        have := hr z rfl
        simp only [hx]
        rw [if_neg this]
    | cons y s =>
      rw [List.cons_append, grp, ih (by simp) (fun z hz => hk z (by simp [hz]))]
      simp [hx]

theorem RowAt.sub {α : Type} {enc : α → List Value} {k : Nat} {W : World} {b off : Nat} {xs : List α} (h : RowAt enc k W (some ⟨b, off, none⟩) xs) (i m : Nat) : RowAt enc k W (some ⟨b, off + i * k, none⟩) ((xs.drop i).take m) := by
  rcases h with ⟨h, _⟩ | ⟨b', off', h, h3, h4⟩
  · cases h
  · cases h
    refine .inr ⟨b, _, rfl, h3, fun j x hj c u hu => ?_⟩
    rw [List.getElem?_take] at hj
    split at hj
    · rw [List.getElem?_drop] at hj
      have := h4 _ x hj c u hu
      rw [Nat.add_mul] at this
      rw [← this]
      congr 2
      omega
    · cases hj

end Go.Proofs.Ytjigdgfanpeibaa

/- The library's sort, compare, index and contains, laid at this program: each field a fact of the program, compared by the kernel. -/
namespace Go.Proofs
open Go.Shelf
def Try.sortL_ren : Go.Shelf.Ren := ⟨fun | 6 => 132 | 15 => 100 | 14 => 137 | 28 => 118 | 29 => 119 | 20 => 138 | 21 => 139 | 22 => 140 | 23 => 141 | 24 => 142 | 25 => 143 | 26 => 144 | 27 => 145 | 46 => 146 | 47 => 126 | 48 => 127 | 49 => 147 | 50 => 148 | 57 => 149 | n => n, fun | 22 => 129 | 24 => 151 | 25 => 167 | 3 => 3 | 39 => 128 | 0 => 0 | 53 => 35 | 55 => 148 | 4 => 4 | 46 => 140 | 45 => 139 | 50 => 144 | 5 => 5 | 9 => 9 | 66 => 158 | 70 => 162 | 76 => 169 | 77 => 100 | n => n, fun | n => n⟩
theorem Try.sortL : Go.Proofs.SlLaysF0.n6 Try.prog Try.sortL_ren := {
  mixed := by kernel_rfl
  f6 := ⟨Try.f132.name, by decide, Try.func132.trans (congrArg some (by kernel_rfl))⟩
  f14 := ⟨Try.f137.name, by decide, Try.func137.trans (congrArg some (by kernel_rfl))⟩
  f15 := Try.func100.trans (congrArg some (by kernel_rfl))
  f20 := ⟨Try.f138.name, by decide, Try.func138.trans (congrArg some (by kernel_rfl))⟩
  f21 := ⟨Try.f139.name, by decide, Try.func139.trans (congrArg some (by kernel_rfl))⟩
  f22 := ⟨Try.f140.name, by decide, Try.func140.trans (congrArg some (by kernel_rfl))⟩
  f23 := ⟨Try.f141.name, by decide, Try.func141.trans (congrArg some (by kernel_rfl))⟩
  f24 := ⟨Try.f142.name, by decide, Try.func142.trans (congrArg some (by kernel_rfl))⟩
  f25 := ⟨Try.f143.name, by decide, Try.func143.trans (congrArg some (by kernel_rfl))⟩
  f26 := ⟨Try.f144.name, by decide, Try.func144.trans (congrArg some (by kernel_rfl))⟩
  f27 := ⟨Try.f145.name, by decide, Try.func145.trans (congrArg some (by kernel_rfl))⟩
  f28 := Try.func118.trans (congrArg some (by kernel_rfl))
  f29 := Try.func119.trans (congrArg some (by kernel_rfl))
  f46 := ⟨Try.f146.name, by decide, Try.func146.trans (congrArg some (by kernel_rfl))⟩
  f47 := Try.func126.trans (congrArg some (by kernel_rfl))
  f48 := Try.func127.trans (congrArg some (by kernel_rfl))
  f49 := ⟨Try.f147.name, by decide, Try.func147.trans (congrArg some (by kernel_rfl))⟩
  f50 := ⟨Try.f148.name, by decide, Try.func148.trans (congrArg some (by kernel_rfl))⟩
  f57 := ⟨Try.f149.name, by decide, Try.func149.trans (congrArg some (by kernel_rfl))⟩
  t0 := Try.underlying0
  a0 := Try.isAgg0
  z0 := Try.sizeOf0
  v0 := Try.zeroValue0
  t3 := Try.underlying3
  a3 := Try.isAgg3
  z3 := Try.sizeOf3
  v3 := Try.zeroValue3
  t4 := Try.underlying4
  a4 := Try.isAgg4
  z4 := Try.sizeOf4
  v4 := Try.zeroValue4
  t5 := Try.underlying5
  a5 := Try.isAgg5
  z5 := Try.sizeOf5
  v5 := Try.zeroValue5
  t9 := Try.underlying9
  a9 := Try.isAgg9
  z9 := Try.sizeOf9
  v9 := Try.zeroValue9
  t22 := Try.underlying129
  a22 := Try.isAgg129
  z22 := Try.sizeOf129
  v22 := Try.zeroValue129
  t25 := Try.underlying167
  a25 := Try.isAgg167
  z25 := Try.sizeOf167
  v25 := Try.zeroValue167
  t39 := Try.underlying128
  a39 := Try.isAgg128
  z39 := Try.sizeOf128
  v39 := Try.zeroValue128
  t45 := Try.underlying139
  a45 := Try.isAgg139
  z45 := Try.sizeOf139
  v45 := Try.zeroValue139
  t46 := Try.underlying140
  a46 := Try.isAgg140
  z46 := Try.sizeOf140
  v46 := Try.zeroValue140
  t50 := Try.underlying144
  a50 := Try.isAgg144
  z50 := Try.sizeOf144
  v50 := Try.zeroValue144
  t53 := Try.underlying35
  a53 := Try.isAgg35
  z53 := Try.sizeOf35
  v53 := Try.zeroValue35
  t55 := Try.underlying148
  a55 := Try.isAgg148
  z55 := Try.sizeOf148
  v55 := Try.zeroValue148
  t66 := Try.underlying158
  a66 := Try.isAgg158
  z66 := Try.sizeOf158
  v66 := Try.zeroValue158
  t70 := Try.underlying162
  a70 := Try.isAgg162
  z70 := Try.sizeOf162
  v70 := Try.zeroValue162
  t76 := Try.underlying169
  a76 := Try.isAgg169
  z76 := Try.sizeOf169
  v76 := Try.zeroValue169
  t77 := Try.underlying100
  a77 := Try.isAgg100
  z77 := Try.sizeOf100
  v77 := Try.zeroValue100 }
def Try.cmpL_ren : Go.Shelf.Ren := ⟨fun | 5 => 134 | 7 => 130 | n => n, fun | 22 => 3 | 3 => 3 | 4 => 4 | n => n, fun | n => n⟩
theorem Try.cmpL : Go.Proofs.SlLaysC2.n5 Try.prog Try.cmpL_ren := {
  mixed := by kernel_rfl
  f5 := ⟨Try.f134.name, by decide, Try.func134.trans (congrArg some (by kernel_rfl))⟩
  f7 := ⟨Try.f130.name, by decide, Try.func130.trans (congrArg some (by kernel_rfl))⟩
  t3 := Try.underlying3
  a3 := Try.isAgg3
  z3 := Try.sizeOf3
  v3 := Try.zeroValue3
  t4 := Try.underlying4
  a4 := Try.isAgg4
  z4 := Try.sizeOf4
  v4 := Try.zeroValue4
  t22 := Try.underlying3
  a22 := Try.isAgg3
  z22 := Try.sizeOf3
  v22 := Try.zeroValue3 }
def Try.idxL_ren : Go.Shelf.Ren := ⟨fun | 6 => 135 | n => n, fun | 22 => 129 | 23 => 151 | 25 => 157 | 3 => 3 | 0 => 0 | 4 => 4 | n => n, fun | n => n⟩
theorem Try.idxL : Go.Proofs.SlLaysH0.n6 Try.prog Try.idxL_ren := {
  mixed := by kernel_rfl
  f6 := ⟨Try.f135.name, by decide, Try.func135.trans (congrArg some (by kernel_rfl))⟩
  t0 := Try.underlying0
  a0 := Try.isAgg0
  z0 := Try.sizeOf0
  v0 := Try.zeroValue0
  t3 := Try.underlying3
  a3 := Try.isAgg3
  z3 := Try.sizeOf3
  v3 := Try.zeroValue3
  t4 := Try.underlying4
  a4 := Try.isAgg4
  z4 := Try.sizeOf4
  v4 := Try.zeroValue4
  t22 := Try.underlying129
  a22 := Try.isAgg129
  z22 := Try.sizeOf129
  v22 := Try.zeroValue129
  t25 := Try.underlying157
  a25 := Try.isAgg157
  z25 := Try.sizeOf157
  v25 := Try.zeroValue157 }
end Go.Proofs
