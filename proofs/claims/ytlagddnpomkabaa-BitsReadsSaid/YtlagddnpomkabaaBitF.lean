/- bits: what all its statements ask: bytes that are held against each other, and the laid example. -/
import Derived.Test.YtlagddnpomkabaaBitD
import Derived.Test.YtlagddnpomkabaaBitE
namespace Go.Proofs.Ytlagddnpomkabaa
open Go.RowKit

theorem Wr.new (w : World) : Wr (w.alloc (.cells #[.slice none 0 0, .int .i64 0] 25)) (w.heap.size + 1) w.heap.size (.slice none 0 0) 0 0 :=
  ⟨by omega, World.alloc_heap_new w _, World.ownsRow_nil _ _ _ _, by decide⟩

/-- A writer that was made behind W0 keeps all that W0 had. -/
theorem WrTo.keeps {S base B N n M m : Nat} {sv : Value} {W0 w w' : World} (hb : Below S W0 w) (hw : Wr w base B sv N n) (hS : S ≤ B) (hSw : S ≤ w.heap.size) (h : WrTo base B sv M m w w') : Below S W0 w' := by
  obtain ⟨sv', h1, h2, h3⟩ := h
  refine hb.trans (h2.below hSw (fun i hi => ?_))
  rcases hi with rfl | hi
  · exact hS
  · have h4 := (hw.own.lt i hi).1
    have h5 := hw.lt
    omega

/-- A writer of n bits, the number N, that was made behind W0 (at S); all that W0 had stands. -/
def WrS (S base B N n : Nat) (W0 w : World) : Prop := ∃ sv, Wr w base B sv N n ∧ Below S W0 w ∧ base ≤ w.heap.size ∧ S ≤ B ∧ n ≤ 8388608

theorem WrS.of {S base B N n M m : Nat} {sv : Value} {W0 w w' : World} (hw : Wr w base B sv N n) (hb : Below S W0 w) (hs : base ≤ w.heap.size) (hS : S ≤ B) (hm : m ≤ 8388608) (h : WrTo base B sv M m w w') : WrS S base B M m W0 w' := by
  have hk := WrTo.keeps hb hw hS (by have := hw.size; omega) h
  obtain ⟨sv', h1, h2, -⟩ := h
  exact ⟨sv', h1, hk, Nat.le_trans hs h2.size, hS, hm⟩

theorem WrS.new (w : World) : WrS w.heap.size (w.heap.size + 1) w.heap.size 0 0 w (w.alloc (.cells #[.slice none 0 0, .int .i64 0] 25)) :=
  ⟨_, Wr.new w, Below.al1 w _, by simp, Nat.le_refl _, by decide⟩
theorem WrS.keeps {S base B N n : Nat} {W0 w : World} (h : WrS S base B N n W0 w) : Below S W0 w := by obtain ⟨_, _, h, _⟩ := h; exact h
theorem WrS.below {S base B N n : Nat} {W0 w w' : World} (h : WrS S base B N n W0 w) (hb : Below w.heap.size w w') : WrS S base B N n W0 w' := by
  obtain ⟨sv, h1, h2, h3, h4, h5⟩ := h
  exact ⟨sv, h1.below hb, h2.trans (hb.mono (by have := h1.size; omega)), Nat.le_trans h3 hb.size, h4, h5⟩

theorem putS_ok {S base B N n v k : Nat} {W0 w : World} (h : WrS S base B N n W0 w) (hv : v < 2 ^ k) (hk : k ≤ 24) (hmax : n + k ≤ 8388608) :
    Calls Try.prog 13 #[.pointer (some ⟨B, 0, none⟩), .int .u32 (v : Int), .int .i64 (k : Int)] w fun e w' => e = .returned (.int .i64 0) ∧ WrS S base B (N + v * 2 ^ n) (n + k) W0 w' := by
  obtain ⟨sv, h1, h2, h3, h4, -⟩ := h
  exact (put_ok base B N n v k sv w h1 hv hk hmax h3).mono fun e w' ⟨he, hto⟩ => ⟨he, WrS.of h1 h2 h3 h4 hmax hto⟩
theorem putS_long {S base B N n v k : Nat} {W0 w : World} (h : WrS S base B N n W0 w) (hv : v < 2 ^ k) (hk : k ≤ 24) (hmax : 8388608 < n + k) :
    Calls Try.prog 13 #[.pointer (some ⟨B, 0, none⟩), .int .u32 (v : Int), .int .i64 (k : Int)] w fun e w' => e = .returned (.int .i64 2) ∧ w' = w := by
  obtain ⟨sv, h1, h2, h3, h4, h5⟩ := h
  exact put_long base B N n v k sv w h1 h5 hv hk hmax
theorem alignN_max {n : Nat} (h : n ≤ 8388608) : alignN n ≤ 8388608 := by unfold alignN; omega
theorem alignS {S base B N n : Nat} {W0 w : World} (h : WrS S base B N n W0 w) :
    Calls Try.prog 11 #[.pointer (some ⟨B, 0, none⟩)] w fun e w' => e = .returned (.int .i64 0) ∧ WrS S base B N (alignN n) W0 w' := by
  obtain ⟨sv, h1, h2, h3, h4, h5⟩ := h
  exact (walign_any base B N n sv w h1 h5 h3).mono fun e w' ⟨he, hto⟩ => ⟨he, WrS.of h1 h2 h3 h4 (alignN_max h5) hto⟩
theorem lenS {S base B N n : Nat} {W0 w : World} (h : WrS S base B N n W0 w) :
    Calls Try.prog 14 #[.pointer (some ⟨B, 0, none⟩)] w fun e w' => e = .returned (.int .i64 (n : Int)) ∧ w' = w := by
  obtain ⟨sv, h1, h2, h3, h4, h5⟩ := h
  exact wlen_any base B N n sv w h1
theorem bytesS {S base B N n : Nat} {W0 w : World} (h : WrS S base B N n W0 w) :
    Calls Try.prog 16 #[.pointer (some ⟨B, 0, none⟩)] w fun e w' => ∃ v', e = .returned v' ∧ Own8 w.heap.size (byts N ((n + 7) / 8)) w w' v' := by
  obtain ⟨sv, h1, h2, h3, h4, h5⟩ := h
  exact wbytes_any base B N n sv w h1 h5

/-- A reader that was made behind W0 (at S). -/
def RdS (S B : Nat) (l : List Nat) (a : Nat) (W0 w : World) : Prop := ∃ sv, Rd w B sv l a ∧ Below S W0 w ∧ S ≤ B ∧ S ≤ w.heap.size

theorem RdS.keeps {S B a : Nat} {l : List Nat} {W0 w : World} (h : RdS S B l a W0 w) : Below S W0 w := by obtain ⟨_, _, h, _⟩ := h; exact h
theorem RdS.below {S B a : Nat} {l : List Nat} {W0 w w' : World} (h : RdS S B l a W0 w) (hb : Below w.heap.size w w') : RdS S B l a W0 w' := by
  obtain ⟨sv, h1, h2, h3, h4⟩ := h
  exact ⟨sv, h1.below hb, h2.trans (hb.mono h4), h3, Nat.le_trans h4 hb.size⟩

theorem newS {v : Value} {l : List Nat} {S : Nat} {W0 w : World} (hb0 : Below S W0 w) (hS : S ≤ w.heap.size) (hv : Rw8 w v l) (hb : ∀ b ∈ l, b < 256) (hlen : l.length ≤ 1073741824) :
    Calls Try.prog 19 #[v] w fun e w' => ∃ B, e = .returned (.pointer (some ⟨B, 0, none⟩)) ∧ RdS S B l 0 W0 w' ∧ Below w.heap.size w w' ∧ w.heap.size ≤ B :=
  (new_any v l w hv hb hlen).mono fun e w' ⟨B, sv, he, h1, h2, h3, h4⟩ => ⟨B, he, ⟨sv, h1, hb0.trans (h2.mono hS), by omega, Nat.le_trans hS h2.size⟩, h2, h3⟩

theorem getS_ok {S B a k : Nat} {l : List Nat} {W0 w : World} (h : RdS S B l a W0 w) (hk : k ≤ 24) (hfit : a + k ≤ 8 * l.length) :
    Calls Try.prog 23 #[.pointer (some ⟨B, 0, none⟩), .int .i64 (k : Int)] w fun e w' => e = .returned (.tuple #[.int .u32 ((numB l / 2 ^ a % 2 ^ k : Nat) : Int), .int .i64 0]) ∧ RdS S B l (a + k) W0 w' ∧ Turns (fun b => b = B) w w' := by
  obtain ⟨sv, h1, h2, h3, h4⟩ := h
  exact (get_ok B a k sv l w h1 hk hfit).mono fun e w' ⟨he, hr, ht⟩ => ⟨he, ⟨sv, hr, h2.trans (ht.below h4 (fun i e => by subst e; exact h3)), h3, Nat.le_trans h4 ht.size⟩, ht⟩
theorem getS_few {S B a k : Nat} {l : List Nat} {W0 w : World} (h : RdS S B l a W0 w) (hk : k ≤ 24) (hfit : 8 * l.length < a + k) :
    Makes Try.prog 23 #[.pointer (some ⟨B, 0, none⟩), .int .i64 (k : Int)] w (.tuple #[.int .u32 0, .int .i64 50]) := by
  obtain ⟨sv, h1, h2, h3, h4⟩ := h
  exact get_few B a k sv l w h1 hk hfit
theorem ralignS {S B a : Nat} {l : List Nat} {W0 w : World} (h : RdS S B l a W0 w) :
    Calls Try.prog 21 #[.pointer (some ⟨B, 0, none⟩)] w fun e w' => e = .returned (.int .i64 0) ∧ RdS S B l (alignN a) W0 w' ∧ Turns (fun b => b = B) w w' := by
  obtain ⟨sv, h1, h2, h3, h4⟩ := h
  exact (ralign_any B a sv l w h1).mono fun e w' ⟨he, hr, ht⟩ => ⟨he, ⟨sv, hr, h2.trans (ht.below h4 (fun i e => by subst e; exact h3)), h3, Nat.le_trans h4 ht.size⟩, ht⟩
theorem atS {S B a : Nat} {l : List Nat} {W0 w : World} (h : RdS S B l a W0 w) :
    Calls Try.prog 24 #[.pointer (some ⟨B, 0, none⟩)] w fun e w' => e = .returned (.int .i64 (a : Int)) ∧ w' = w := by
  obtain ⟨sv, h1, -⟩ := h
  exact at_any B a sv l w h1
theorem leftS {S B a : Nat} {l : List Nat} {W0 w : World} (h : RdS S B l a W0 w) :
    Makes Try.prog 25 #[.pointer (some ⟨B, 0, none⟩)] w (.int .i64 ((8 * l.length - a : Nat) : Int)) := by
  obtain ⟨sv, h1, -⟩ := h
  exact left_any B a sv l w h1

set_option maxHeartbeats 2000000 in
theorem bytes_eq (va vb : Value) (l : List Nat) (w : World) (ha : Rw8 w va l) (hb : Rw8 w vb l) :
    Makes Try.prog 15 #[va, vb] w (.bool true) := by
  unfold Makes
  have hl63 := ha.row.len
  obtain ⟨p, c, rfl, -, -, ca⟩ := Rw8.cells ha
  obtain ⟨q, d, rfl, -, -, cb⟩ := Rw8.cells hb
  have Ca := Lib.hid ca
  have Cb := Lib.hid cb
  clear ha hb ca cb
  have hne : ((l.length : Int) != (l.length : Int)) = false := by simp
  go_enter Try.func15, Try.ntmps15
  go_wp2
  go_loopw [5] (fun i wr => ∃ k : Nat, i = .int .i64 (k : Int) ∧ k ≤ l.length ∧ Hid (Below w.heap.size w wr)) (fun i _ => l.length - (intOf i).toNat)
  case atStart => exact ⟨0, rfl, Nat.zero_le _, Lib.hid (Below.refl _ _)⟩
  case round =>
    obtain ⟨k, rfl, hk, Hb⟩ := hrel
    by_cases hlt : k < l.length
    · obtain ⟨g, off, rfl, c1⟩ := Ca.out k hlt
      obtain ⟨g', off', rfl, c2⟩ := Cb.out k hlt
      have c1 := cell_later Hb.out c1
      have c2 := cell_later Hb.out c2
      have hbb : (((l[k] : Nat) : Int) != ((l[k] : Nat) : Int)) = false := by simp
      generalize l[k] = b at *
      go_wp2
      go_quiet (fail)
      rename_i nq
      have Hb2 := Lib.hid (Below.drewN' Hb.out nq)
      generalize wr.drewN nq = w2 at *
      go_wp2
      go_roundw
      case rel => exact ⟨k + 1, by go_num, by omega, Hb2⟩
      case measure => simp [intOf]; omega
    · go_wp2
      go_ret
      exact ⟨rfl, Hb.out⟩

set_option maxHeartbeats 2000000 in
set_option maxRecDepth 100000 in
theorem lays_any (w : World) : Makes Try.prog 18 #[] w (.bool true) := by
  unfold Makes
  go_enter Try.func18, Try.ntmps18
  go_wp2_with fail
  refine Calls.mono (putS_ok (v := 1) (k := 1) (WrS.new w) (by decide) (by decide) (by decide)) ?_
  rintro e w1 ⟨rfl, h1⟩
  have H1 := Lib.hid h1
  clear h1
  go_wp2_with fail
  refine Calls.mono (putS_ok (v := 2) (k := 2) H1.out (by decide) (by decide) (by decide)) ?_
  rintro e w2 ⟨rfl, h2⟩
  have H2 := Lib.hid h2
  clear h2
  go_wp2_with fail
  refine Calls.mono (putS_ok (v := 255) (k := 8) H2.out (by decide) (by decide) (by decide)) ?_
  rintro e w3 ⟨rfl, h3⟩
  have H3 : Hid (WrS w.heap.size (w.heap.size + 1) w.heap.size 2045 11 w w3) := Lib.hid h3
  clear h3
  go_wp2_with fail
  refine Calls.mono (bytesS H3.out) ?_
  rintro e w4 ⟨v', rfl, ho4⟩
  have Ho4 : Hid (Own8 w3.heap.size [253, 7] w3 w4 v') := Lib.hid ho4
  have H4 := Lib.hid (H3.out.below ho4.2)
  obtain ⟨p4, c4, rfl⟩ := owns_slice Ho4.out.1
  clear ho4
  have Hlit : Hid (Rw8 (w4.alloc (.cells #[.int .u8 253, .int .u8 7] 5)) (.slice (some ⟨w4.heap.size, 0, none⟩) 2 2) [253, 7]) := Lib.hid (Rw8.own (base := w4.heap.size) (World.ownsRow_lit w4 #[.int .u8 253, .int .u8 7] 2 (Nat.le_refl _) (by simp [maxLen]) rfl) rfl)
  have Ho5 : Hid (Rw8 w4 (.slice p4 2 c4) [253, 7]) := Lib.hid (Rw8.own Ho4.out.1 rfl)
  clear Ho4
  go_wp2_with fail
  refine Calls.mono (newS (l := [253, 7]) (W0 := w4) (S := w4.heap.size) (Below.al1 w4 _) (by simp) Hlit.out (by decide) (by decide)) ?_
  rintro e w6 ⟨Br, rfl, hr6, -, -⟩
  have Hr6 := Lib.hid hr6
  clear hr6 Hlit
  go_wp2_with fail
  refine Calls.mono (getS_ok (k := 1) Hr6.out (by decide) (by decide)) ?_
  rintro e w7 ⟨rfl, hr7, -⟩
  have Hr7 : Hid (RdS w4.heap.size Br [253, 7] 1 w4 w7) := Lib.hid hr7
  clear hr7 Hr6
  go_wp2_with fail
  refine Calls.mono (getS_ok (k := 2) Hr7.out (by decide) (by decide)) ?_
  rintro e w8 ⟨rfl, hr8, -⟩
  have Hr8 : Hid (RdS w4.heap.size Br [253, 7] 3 w4 w8) := Lib.hid hr8
  have Hv8 : Hid (numB [253, 7] / 2 ^ 1 % 2 ^ 2 = 2) := Lib.hid (by decide)
  rw [Hv8.out]
  have H8 := Lib.hid (H4.out.below hr8.keeps)
  obtain ⟨_, _, e, -, -, hcell⟩ := Rw8.cells (Ho5.out.below hr8.keeps)
  cases e
  obtain ⟨g, off, rfl, c0⟩ := hcell 0 (by decide)
  obtain ⟨_, _, e, c1⟩ := hcell 1 (by decide)
  cases e
  have c0 : w8.cell? ⟨g, off, none⟩ = some (.int .u8 253) := c0
  have c1 : w8.cell? ⟨g, off + 1, none⟩ = some (.int .u8 7) := c1
  clear hcell hr8 Hr7
  go_wp2_with fail
  refine Calls.mono (lenS H8.out) ?_
  rintro e w9 ⟨rfl, rfl⟩
  go_wp2_with fail
  refine Calls.mono (leftS Hr8.out) ?_
  rintro e w10 ⟨rfl, hb10⟩
  go_wp2
  go_ret
  exact ⟨rfl, H4.out.keeps.trans ((Hr8.out.keeps.trans (hb10.mono Hr8.out.keeps.size)).mono H4.out.keeps.size)⟩

end Go.Proofs.Ytlagddnpomkabaa
