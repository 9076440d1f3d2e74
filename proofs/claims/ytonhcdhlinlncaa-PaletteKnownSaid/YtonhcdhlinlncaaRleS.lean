/- Rows of pixels and of bytes: as strings, as literals, as rows. -/
import Derived.Test.YtonhcdhlinlncaaRleG
import Derived.Laws.BytesArg
import Derived.Lib.SlBytesConst
namespace Go.Proofs.Ytonhcdhlinlncaa
open Go.RowKit

/-- Bytes as a string. -/
def strR (l : List Nat) : ByteArray := strOfNums (l.map fun (b : Nat) => (b : Int))
theorem strR_row {w : World} {v : Value} {l : List Nat} (h : Row enc8 1 w v l) : (convert 23 9 v).run Try.prog w = .ok (.string (strR l)) w := by
  obtain ⟨p, c, rfl, -, -, hr⟩ := h
  rcases hr with ⟨rfl, rfl⟩ | ⟨b, off, rfl, -, hr⟩
  · exact run_convert_bytes_nil w 23 5 Try.underlying23 Try.underlying5 _ _ 9 Try.underlying9
  · refine run_convert_bytes_arg w 23 5 Try.underlying23 Try.underlying5 b off l.length c _ (by simp) (fun i hi => ?_) 9 Try.underlying9
    have := hr i l[i] (List.getElem?_eq_getElem hi) 0 _ rfl
    rw [Nat.mul_one, Nat.add_zero] at this
    rw [this]
    simp [List.getD_eq_getElem?_getD, List.getElem?_eq_getElem hi]
    rfl
theorem strR_inj {l l' : List Nat} (h : ∀ b ∈ l, b < 256) (h' : ∀ b ∈ l', b < 256) (e : strR l = strR l') : l = l' := by
  have e1 := congrArg (fun s : ByteArray => s.data.toList) e
  simp only [strR, strOfNums_data, List.map_map] at e1
  have key : ∀ (l : List Nat), (∀ b ∈ l, b < 256) → (l.map ((fun n : Int => UInt8.ofNat n.toNat) ∘ fun b : Nat => (b : Int))).map UInt8.toNat = l := by
    intro l hl
    rw [List.map_map]
    conv => rhs; rw [← List.map_id l]
    refine List.map_congr_left (fun b hb => ?_)
    have := hl b hb
    simp; omega
  rw [← key l h, ← key l' h', e1]
theorem row_litP (w : World) (ls : List Nat) (h : ls.length ≤ 1048576) : Row encP 1 (w.alloc (.cells (ls.map pxv).toArray 35)) (.slice (some ⟨w.heap.size, 0, none⟩) ls.length ls.length) ls := by
  have := World.ownsRow_lit (base := 0) (size := 1) (e := 35) w (ls.map pxv).toArray ls.length (Nat.zero_le _) (by simp only [maxLen]; omega) (by simp)
  rw [show (ls.map pxv).toArray.toList = ls.flatMap encP from (flatP ls).symm] at this
  exact owns_row' encP_len this
theorem Row.at' {α : Type} {enc : α → List Value} {k : Nat} {w : World} {p : Option Addr} {n c : Nat} {l : List α} (h : Row enc k w (.slice p n c) l) : RowAt enc k w p l ∧ l.length ≤ c := by
  obtain ⟨p', c', e, h1, -, h2⟩ := h
  cases e
  exact ⟨h2, h1⟩
theorem Row.lenR {α : Type} {enc : α → List Value} {k : Nat} {w : World} {p : Option Addr} {n c : Nat} {l : List α} (h : Row enc k w (.slice p n c) l) : l.length = n := by
  obtain ⟨_, _, e, -⟩ := h
  cases e; rfl
theorem own_rowP {w : World} {base : Nat} {v : Value} {n : Nat} {l : List Nat} (h : w.ownsRow base 35 1 v n (l.map pxv)) : Row encP 1 w v l := by
  have e : n = l.length := by have := h.1; simp at this; exact this.symm
  subst e
  exact Row.ownP h
theorem own_rowB {w : World} {base : Nat} {v : Value} {n : Nat} {l : List Nat} (h : w.ownsRow base 5 1 v n (l.map u8v)) : Row enc8 1 w v l := by
  have e : n = l.length := by have := h.1; simp at this; exact this.symm
  subst e
  exact Row.own8' h

end Go.Proofs.Ytonhcdhlinlncaa
