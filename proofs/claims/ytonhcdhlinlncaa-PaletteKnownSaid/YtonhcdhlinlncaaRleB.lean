/- rle: pixels as rows of cells; low, tell, lay. -/
import Derived.Test.YtonhcdhlinlncaaBytes
import Derived.Test.YtonhcdhlinlncaaAppends
import Derived.Test.YtonhcdhlinlncaaRleA
import Derived.Laws.BitsLemmas
namespace Go.Proofs.Ytonhcdhlinlncaa
open Go.RowKit

attribute [local go_sem] Oper.semAt_some

/-- A pixel's number as a value. -/
def pxv (x : Nat) : Value := .int .u32 (x : Int)
def encP (x : Nat) : List Value := [pxv x]
theorem encP_len (x : Nat) : (encP x).length = 1 := rfl
theorem flatP : ∀ l : List Nat, l.flatMap encP = l.map pxv
  | [] => rfl
  | b :: r => by rw [List.flatMap_cons, flatP r]; rfl
theorem pxv_info : (Try.prog.info? 35).map (fun i => (i.zero, i.size, i.bytes)) = some (some (.int .u32 0), 1, 4) := by kernel_rfl
theorem oneP (l : List Nat) : ∀ u ∈ l.map pxv, u.oneCell' = true := by
  intro u hu
  obtain ⟨b, _, rfl⟩ := List.mem_map.1 hu
  rfl
/-- A slice of pixels that reads so. -/
abbrev RwP (w : World) (v : Value) (l : List Nat) : Prop := RwG encP 1 w v l
theorem RwP.own {w : World} {base : Nat} {v : Value} {l : List Nat} {n : Nat} (h : w.ownsRow base 35 1 v n (l.map pxv)) (hn : n = l.length) : RwP w v l := by
  subst hn
  rw [← flatP] at h
  exact RwG.owned encP_len h
theorem Row.ownP {w : World} {base : Nat} {v : Value} {l : List Nat} (h : w.ownsRow base 35 1 v l.length (l.map pxv)) : Row encP 1 w v l := (RwP.own h rfl).row
theorem Row.own8' {w : World} {base : Nat} {v : Value} {l : List Nat} (h : w.ownsRow base 5 1 v l.length (l.map u8v)) : Row enc8 1 w v l := (Rw8.own h rfl).row
theorem RowAt.px {W : World} {p : Option Addr} {xs : List Nat} (h : RowAt encP 1 W p xs) {k : Nat} (hk : k < xs.length) : ∃ b off, p = some ⟨b, off, none⟩ ∧ W.cell? ⟨b, off + k, none⟩ = some (.int .u32 (xs.getD k 0 : Int)) := by
  rcases h with ⟨-, rfl⟩ | ⟨b, off, rfl, -, h⟩
  · simp at hk
  · refine ⟨b, off, rfl, ?_⟩
    have := h k xs[k] (List.getElem?_eq_getElem hk) 0 _ rfl
    rw [Nat.mul_one, Nat.add_zero] at this
    rw [this, List.getD_eq_getElem?_getD, List.getElem?_eq_getElem hk]
    rfl

/-- A run's value. -/
abbrev RnV (n c : Nat) : Value := .agg #[.int .i64 (n : Int), .int .u32 (c : Int)]

theorem mask_lw (x : Nat) (h : x < 4294967296) : bits .and .u32 (x : Int) 16777215 = ((rlw x : Nat) : Int) := by
  have e := bits_mask .u32 32 (by decide) (fun n h0 h1 => by rw [IntKind.wrap_u32]; omega) 24 (by decide) (x : Int) (by omega) (by omega)
  have e2 : bits .and .u32 (x : Int) 16777215 = (x : Int) % 16777216 := by simpa using e
  rw [e2]
  show (x : Int) % 16777216 = ((x % 16777216 : Nat) : Int)
  omega

/-- The call answers v, and nothing at all has changed. -/
def StillR (f : FuncId) (args : Array Value) (w : World) (v : Value) : Prop :=
  Calls Try.prog f args w fun e w' => e = .returned v ∧ w' = w

end Go.Proofs.Ytonhcdhlinlncaa
