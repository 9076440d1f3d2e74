/- lz's search: match, next, rarest, size, mayBe. -/
import Derived.Test.YtngiiacibbgiiaaBytes
import Derived.Test.YtngiiacibbgiiaaLzX
namespace Go.Proofs.Ytngiiacibbgiiaa
open Go.RowKit

/-- Numbers of two bytes as cells. -/
def encH (x : Nat) : List Value := [.int .u16 (x : Int)]
theorem encH_len (x : Nat) : (encH x).length = 1 := rfl
theorem RowAt.half {W : World} {p : Option Addr} {xs : List Nat} (h : RowAt encH 1 W p xs) {k : Nat} (hk : k < xs.length) : ∃ b off, p = some ⟨b, off, none⟩ ∧ W.cell? ⟨b, off + k, none⟩ = some (.int .u16 (fb xs k : Int)) := by
  rcases h with ⟨-, rfl⟩ | ⟨b, off, rfl, -, h⟩
  · simp at hk
  · refine ⟨b, off, rfl, ?_⟩
    have := h k xs[k] (List.getElem?_eq_getElem hk) 0 _ rfl
    rw [fb_at hk]
    simpa using this
theorem RowAt.byteF {W : World} {p : Option Addr} {xs : List Nat} (h : RowAt enc8 1 W p xs) {k : Nat} (hk : k < xs.length) : ∃ b off, p = some ⟨b, off, none⟩ ∧ W.cell? ⟨b, off + k, none⟩ = some (.int .u8 (fb xs k : Int)) := h.byte hk

/-- A search as a value. -/
def srV (b a : Value) : Value := .agg #[b, a]

set_option maxRecDepth 20000 in
set_option maxHeartbeats 1000000 in
theorem srMatch_any (l : List Nat) (vb va : Value) (a d m : Nat) (w : World) (hv : Row enc8 1 w vb l) (hva : ∃ p n c, va = .slice p n c) (h1 : 1 ≤ d) (hd : d ≤ a) (hm : a + m ≤ l.length) (hl : l.length ≤ 1048576) :
    Calls Try.prog 22 #[.agg #[vb, va], .int .i64 (a : Int), .int .i64 (d : Int), .int .i64 (m : Int)] w fun e w' => ∃ n : Nat, e = .returned (.int .i64 (n : Int)) ∧ IsRun (fb l) a d m n ∧ Below w.heap.size w w' := by
  obtain ⟨p, c, rfl, -, -, hrow⟩ := hv
  obtain ⟨pa, na, ca, rfl⟩ := hva
  have Hrow := Lib.hid hrow
  clear hrow
  obtain ⟨W, hW⟩ : ∃ W, w.alloc (.cells #[.slice p l.length c, .slice pa na ca] 41) = W := ⟨_, rfl⟩
  have hb0 : Below w.heap.size w W := by rw [← hW]; exact Below.al1 w _
  have hc0 : W.cell? ⟨w.heap.size, 0, none⟩ = some (.slice p l.length c) := by rw [← hW]; exact cell_at rfl rfl
  have Hb0 := Lib.hid hb0
  have Hc0 := Lib.hid hc0
  have HW := Lib.hid hW
  clear hb0 hc0 hW
  go_enter Try.func22, Try.ntmps22
  go_wp2
  rw [HW.out]
  go_loopw [9] (fun nv wr => ∃ n : Nat, nv = .int .i64 (n : Int) ∧ n ≤ m ∧ Hid (∀ j, j < n → fb l (a + j) = fb l (a + j - d)) ∧ Hid (Below W.heap.size W wr)) (fun nv _ => m - (intOf nv).toNat)
  case atStart => exact ⟨0, rfl, Nat.zero_le _, Lib.hid fun j h => by omega, Lib.hid (Below.refl _ _)⟩
  case round =>
    obtain ⟨n, rfl, hn, HN, HB⟩ := hrel
    have c0 := cell_later HB.out Hc0.out
    by_cases hlt : n < m
    · have d0 : decide ((n : Int) < (m : Int)) = true := by simp; omega
      have hBw := Below.thn Hb0.out HB.out
      obtain ⟨s, hs⟩ : ∃ s, a + n = s := ⟨_, rfl⟩
      obtain ⟨t, ht⟩ : ∃ t, s - d = t := ⟨_, rfl⟩
      obtain ⟨g, off, rfl, hx⟩ := Hrow.out.byteF (k := s) (by omega)
      obtain ⟨g', off', e, hy⟩ := Hrow.out.byteF (k := t) (by omega)
      cases e
      have hx := cell_later hBw hx
      have hy := cell_later hBw hy
      have es : (a : Int) + (n : Int) = (s : Int) := by omega
      have et : (s : Int) - (d : Int) = (t : Int) := by omega
      have s0 : (0 : Int) ≤ (s : Int) := by omega
      have s1 : (s : Int) < (l.length : Int) := by omega
      have t0 : (0 : Int) ≤ (t : Int) := by omega
      have t1 : (t : Int) < (l.length : Int) := by omega
      have Hs := Lib.hid (And.intro hs ht)
      obtain ⟨x, hxx⟩ : ∃ x, fb l s = x := ⟨_, rfl⟩
      obtain ⟨y, hyy⟩ : ∃ y, fb l t = y := ⟨_, rfl⟩
      rw [hxx] at hx
      rw [hyy] at hy
      have Hxy := Lib.hid (And.intro hxx hyy)
      clear hBw hs ht hxx hyy
      by_cases hxy : x = y
      · subst hxy
        have e0 : ((x : Int) == (x : Int)) = true := by simp
        go_wp2_with fail
        go_quiet (fail)
        have hdr : Below wr.heap.size wr (wr.drewN nq) := Below.drewN' (Below.refl _ _) nq
        have HB2 := Lib.hid (Below.thn HB.out hdr)
        generalize wr.drewN nq = W2 at *
        clear hdr c0 hx hy
        go_wp2
        go_roundw
        case rel => exact ⟨n + 1, by go_num, by omega, Lib.hid fun j hj => by
          rcases Nat.lt_or_ge j n with h | h
          · exact HN.out j h
          · obtain rfl : j = n := by omega
            rw [Hs.out.1, Hs.out.2, Hxy.out.1, Hxy.out.2], HB2⟩
        case measure => simp [intOf]; omega
      · have e0 : ((x : Int) == (y : Int)) = false := by simp; omega
        go_wp2_with fail
        go_quiet (fail)
        have hdr : Below wr.heap.size wr (wr.drewN nq) := Below.drewN' (Below.refl _ _) nq
        have HB2 := Lib.hid (Below.thn (Below.thn Hb0.out HB.out) hdr)
        generalize wr.drewN nq = W2 at *
        clear hdr c0 hx hy
        go_wp2
        go_ret
        exact ⟨n, rfl, ⟨hn, HN.out, fun _ => by rw [Hs.out.1, Hs.out.2, Hxy.out.1, Hxy.out.2]; exact hxy⟩, HB2.out⟩
    · obtain rfl : n = m := by omega
      have d0 : decide ((n : Int) < (n : Int)) = false := by simp
      go_wp2_with fail
      go_quiet (fail)
      have hdr : Below wr.heap.size wr (wr.drewN nq) := Below.drewN' (Below.refl _ _) nq
      have HB2 := Lib.hid (Below.thn (Below.thn Hb0.out HB.out) hdr)
      generalize wr.drewN nq = W2 at *
      clear hdr c0
      go_wp2
      go_ret
      exact ⟨n, rfl, ⟨Nat.le_refl _, HN.out, fun h => by omega⟩, HB2.out⟩

end Go.Proofs.Ytngiiacibbgiiaa
