/- rle: bytes as strings; the statements' example. -/
import Derived.Test.YtgfdlimgndpngaaRleF
import Derived.Test.YtgfdlimgndpngaaRleG
import Derived.Laws.BytesArg
import Derived.Lib.SlBytesConst
namespace Go.Proofs.Ytgfdlimgndpngaa
open Go.RowKit

/-- Bytes as a string. -/
def strR (l : List Nat) : ByteArray := strOfNums (l.map fun (b : Nat) => (b : Int))
theorem strR_row {w : World} {v : Value} {l : List Nat} (h : Row enc8 1 w v l) : (convert 23 9 v).run Try.prog w = .ok (.string (strR l)) w := by
  obtain ⟨p, c, rfl, -, -, hr⟩ := h
  rcases hr with ⟨rfl, rfl⟩ | ⟨b, off, rfl, -, hr⟩
  · exact run_convert_bytes_nil w 23 5 Try.underlying23 Try.underlying5 _ _ 9 Try.underlying9
  · refine run_convert_bytes_arg w 23 5 Try.underlying23 Try.underlying5 b off l.length c _ (by simp) (fun i hi => ?_) 9 Try.underlying9
    have := hr i l[i] (List.getElem?_eq_getElem hi) 0 _ rfl
    rw [Nat.mul_one, Nat.add_zero] at this
    rw [this]
    simp [List.getD_eq_getElem?_getD, List.getElem?_eq_getElem hi]
    rfl
theorem strR_inj {l l' : List Nat} (h : ∀ b ∈ l, b < 256) (h' : ∀ b ∈ l', b < 256) (e : strR l = strR l') : l = l' := by
  have e1 := congrArg (fun s : ByteArray => s.data.toList) e
  simp only [strR, strOfNums_data, List.map_map] at e1
  have key : ∀ (l : List Nat), (∀ b ∈ l, b < 256) → (l.map ((fun n : Int => UInt8.ofNat n.toNat) ∘ fun b : Nat => (b : Int))).map UInt8.toNat = l := by
    intro l hl
    rw [List.map_map]
    conv => rhs; rw [← List.map_id l]
    refine List.map_congr_left (fun b hb => ?_)
    have := hl b hb
    simp; omega
  rw [← key l h, ← key l' h', e1]
theorem ex_strR : strR [1, 1, 2, 3, 0, 4, 5, 6] = { data := #[1, 1, 2, 3, 0, 4, 5, 6] } := by decide +kernel
theorem ex_runs : rlBs (rlO [66051, 66051, 263430]) = [1, 1, 2, 3, 0, 4, 5, 6] := by decide +kernel
theorem ex_dec : rlD [1, 1, 2, 3] 2 = ([66051, 66051], 0) := by decide +kernel
theorem row_litP (w : World) (ls : List Nat) (h : ls.length ≤ 1048576) : Row encP 1 (w.alloc (.cells (ls.map pxv).toArray 34)) (.slice (some ⟨w.heap.size, 0, none⟩) ls.length ls.length) ls := by
  have := World.ownsRow_lit (base := 0) (size := 1) (e := 34) w (ls.map pxv).toArray ls.length (Nat.zero_le _) (by simp only [maxLen]; omega) (by simp)
  rw [show (ls.map pxv).toArray.toList = ls.flatMap encP from (flatP ls).symm] at this
  exact owns_row' encP_len this
theorem Row.at' {α : Type} {enc : α → List Value} {k : Nat} {w : World} {p : Option Addr} {n c : Nat} {l : List α} (h : Row enc k w (.slice p n c) l) : RowAt enc k w p l ∧ l.length ≤ c := by
  obtain ⟨p', c', e, h1, -, h2⟩ := h
  cases e
  exact ⟨h2, h1⟩

set_option maxRecDepth 20000 in
set_option maxHeartbeats 4000000 in
theorem tells_law (w : World) : Makes Try.prog 12 #[] w (.bool true) := by
  unfold Makes
  have h1 := (row_lit8 w [1, 1, 2, 3] (by decide)).at'
  go_enter Try.func12, Try.ntmps12
  go_wp2_with fail
  refine Calls.mono (rdecode_any (some ⟨w.heap.size, 0, none⟩) 4 [1, 1, 2, 3] 2 _ h1.1 (by decide) (by decide) (by decide) (by decide)) ?_
  rw [ex_dec]
  rintro _ w1 ⟨v1, rfl, ho1, hb1⟩
  have Hb1 := Lib.hid (Below.thn (Below.al1 w _) hb1)
  have Ho1 := Lib.hid ho1
  obtain ⟨v1p, v1c, rfl⟩ := owns_slice ho1
  clear ho1 hb1 h1
  have h2 := (row_litP w1 [66051, 66051, 263430] (by decide)).at'
  go_wp2_with fail
  refine Calls.mono (rencode_any (some ⟨w1.heap.size, 0, none⟩) 3 [66051, 66051, 263430] _ h2.1 (by decide) (by decide) (by decide)) ?_
  rw [ex_runs]
  rintro _ w2 ⟨v2, rfl, ho2, hb2⟩
  have hs := strR_row (Row.own8' ho2)
  rw [ex_strR] at hs
  have hb3 := Below.thn (Below.al1 w1 (.cells #[.int .u32 66051, .int .u32 66051, .int .u32 263430] 34)) hb2
  have Hb2 := Lib.hid (Below.thn Hb1.out hb3)
  have Ho3 := (RwP.own ((Turns.of_below' (T := fun _ => False) hb3).owns Ho1.out (fun _ _ h => h)) rfl)
  have hx : w2.cell? ⟨0, 0, none⟩ = w2.cell? ⟨0, 0, none⟩ := rfl
  obtain ⟨g, off, e, hc⟩ := (Ho3.row.at').1.pxs (by decide)
  subst e
  have x1 := hc 1 (by decide)
  obtain ⟨v2p, v2c, rfl⟩ := owns_slice ho2
  clear ho2 hb2 hb3 h2 hc hx Ho3
  simp only [List.length_cons, List.length_nil, Nat.zero_add, Nat.reduceAdd] at *
  go_wp2
  go_ret
  exact ⟨rfl, Hb2.out⟩

end Go.Proofs.Ytgfdlimgndpngaa
