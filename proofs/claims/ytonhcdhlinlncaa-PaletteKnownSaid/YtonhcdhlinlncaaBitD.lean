/- bits' reader: New, take, Get, Align, At, Left. -/
import Derived.Test.YtonhcdhlinlncaaBitC
namespace Go.Proofs.Ytonhcdhlinlncaa
open Go.RowKit

/-- Block B is a reader of the bytes l, with so many bits ahead of it. -/
structure Rd (W : World) (B : Nat) (sv : Value) (l : List Nat) (a : Nat) : Prop where
  box : W.heap[B]? = some (.cells #[sv, .int .i64 (a : Int)] 81)
  row : Rw8 W sv l
  apart : sv.ownBlock ≠ some B
  byte : ∀ b ∈ l, b < 256
  pos : a ≤ 8 * l.length
  len : l.length ≤ 1073741824

theorem Rd.c0 {W : World} {B a : Nat} {sv : Value} {l : List Nat} (h : Rd W B sv l a) : W.cell? ⟨B, 0, none⟩ = some sv := by simp [World.cell?, h.box]
theorem Rd.c1 {W : World} {B a : Nat} {sv : Value} {l : List Nat} (h : Rd W B sv l a) : W.cell? ⟨B, 1, none⟩ = some (.int .i64 (a : Int)) := by simp [World.cell?, h.box]
theorem Rd.free {W : World} {B a : Nat} {sv : Value} {l : List Nat} (h : Rd W B sv l a) (i : Nat) : W.frozen? ⟨B, i, none⟩ = false := by simp [World.frozen?, h.box]
theorem Rd.size {W : World} {B a : Nat} {sv : Value} {l : List Nat} (h : Rd W B sv l a) : B < W.heap.size := (Array.getElem?_eq_some_iff.1 h.box).1
theorem Rd.turns {T : Nat → Prop} {W W' : World} {B a : Nat} {sv : Value} {l : List Nat} (h : Rd W B sv l a) (ht : Turns T W W') (hB : ¬ T B) (hs : ∀ k, sv.ownBlock = some k → ¬ T k) : Rd W' B sv l a :=
  ⟨(ht.block B h.size hB).trans h.box, h.row.turns ht hs, h.apart, h.byte, h.pos, h.len⟩
theorem Rd.below {W W' : World} {B a : Nat} {sv : Value} {l : List Nat} (h : Rd W B sv l a) (hb : Below W.heap.size W W') : Rd W' B sv l a :=
  h.turns (T := fun _ => False) (Turns.of_below' hb) (fun h => h) (fun _ _ h => h)
theorem Rd.to {W : World} {B a a' : Nat} {sv : Value} {l : List Nat} (h : Rd W B sv l a) (ha : a' ≤ 8 * l.length) : Rd (W.setCell ⟨B, 1, none⟩ (.int .i64 (a' : Int))) B sv l a' :=
  ⟨two_set1 _ h.box, h.row.turns (Turns.set (T := fun b => b = B) (Turns.refl _ W) (p := ⟨B, 1, none⟩) rfl _) (fun k hk e => h.apart (by rw [hk, e])), h.apart, h.byte, ha, h.len⟩

/-- Its cells: the slice, and each byte. -/
theorem Rd.cells {W : World} {B a : Nat} {sv : Value} {l : List Nat} (h : Rd W B sv l a) : ∃ p c, sv = .slice p l.length c ∧ l.length ≤ c ∧ ∀ i (hi : i < l.length), ∃ g off, p = some ⟨g, off, none⟩ ∧ W.cell? ⟨g, off + i, none⟩ = some (.int .u8 (l[i] : Int)) := by
  obtain ⟨⟨p, c, e, h1, -, h3⟩, -⟩ := h.row
  refine ⟨p, c, e, h1, fun i hi => ?_⟩
  rcases h3 with ⟨-, rfl⟩ | ⟨g, off, rfl, -, h4⟩
  · simp at hi
  · have := h4 i l[i] (List.getElem?_eq_getElem hi) 0 _ rfl
    rw [Nat.mul_one, Nat.add_zero] at this
    exact ⟨g, off, rfl, this⟩

theorem or_lay32 (x p f s : Nat) (hx : x < 2 ^ f) (hp : p < 2 ^ s) (hfit : f + s ≤ 32) : bits .or .u32 (x : Int) ((p : Int) * 2 ^ f) = ((x + p * 2 ^ f : Nat) : Int) ∧ p * 2 ^ f < 4294967296 := by
  have h6 : 2 ^ f * 2 ^ s ≤ 2 ^ 32 := by rw [← Nat.pow_add]; exact Nat.pow_le_pow_right (by decide) hfit
  have h7 : p * 2 ^ f + 2 ^ f ≤ 2 ^ f * 2 ^ s := by
    have : (p + 1) * 2 ^ f ≤ 2 ^ s * 2 ^ f := Nat.mul_le_mul_right _ hp
    rw [Nat.mul_comm (2 ^ f) (2 ^ s)]
    rw [Nat.add_mul] at this
    omega
  have h8 : (2 : Nat) ^ 32 = 4294967296 := rfl
  have e : ((p : Int) * 2 ^ f) = ((p * 2 ^ f : Nat) : Int) := by simp
  rw [e, (bits_nat .u32 32 (by decide) (fun m h0 h1 => by rw [IntKind.wrap_u32]; omega) x (p * 2 ^ f) (by omega) (by omega)).2]
  refine ⟨?_, by omega⟩
  rw [Nat.or_comm, Nat.mul_comm p, ← Nat.two_pow_add_eq_or_of_lt hx p]
  congr 1
  omega

set_option maxHeartbeats 1000000 in
theorem new_any (v : Value) (l : List Nat) (w : World) (hv : Rw8 w v l) (hb : ∀ b ∈ l, b < 256) (hlen : l.length ≤ 1073741824) :
    Calls Try.prog 33 #[v] w fun e w' => ∃ B sv, e = .returned (.pointer (some ⟨B, 0, none⟩)) ∧ Rd w' B sv l 0 ∧ Below w.heap.size w w' ∧ w.heap.size ≤ B ∧ ∀ k, sv.ownBlock = some k → w.heap.size ≤ k := by
  have Hv := Lib.hid hv
  have Hb := Lib.hid hb
  clear hv hb
  go_enter Try.func33, Try.ntmps33
  go_wp2_with fail
  refine Calls.mono (clone_any _ _ _ Hv.out hlen) ?_
  rintro e w1 ⟨v', rfl, ho⟩
  have Ho := Lib.hid ho
  obtain ⟨p', c', rfl⟩ := owns_slice ho.1
  clear ho
  go_wp2
  go_ret
  have hb1 := Ho.out.2
  refine ⟨w1.heap.size, _, rfl, ⟨World.alloc_heap_new w1 _, (Rw8.own Ho.out.1 rfl).below (Below.al1 _ _), ?_, Hb.out, Nat.zero_le _, hlen⟩, hb1.trans ((Below.al1 w1 _).mono hb1.size), hb1.size, fun k hk => (Ho.out.1.lt k hk).1⟩
  intro e
  have := (Ho.out.1.lt _ e).2
  omega

set_option maxRecDepth 100000 in
set_option maxHeartbeats 2000000 in
theorem take_any (B a n : Nat) (sv : Value) (l : List Nat) (w : World) (h : Rd w B sv l a) (hn : 0 < n) (hn24 : n ≤ 24) (ha : a < 8 * l.length) :
    Calls Try.prog 42 #[.pointer (some ⟨B, 0, none⟩), .int .i64 (n : Int)] w fun e w' => e = .returned (.tuple #[.int .u8 ((numB l / 2 ^ a % 2 ^ (min n (8 - a % 8)) : Nat) : Int), .int .i64 ((min n (8 - a % 8) : Nat) : Int)]) ∧ Rd w' B sv l (a + min n (8 - a % 8)) ∧ Turns (fun b => b = B) w w' := by
  obtain ⟨z, hz⟩ : ∃ z, min n (8 - a % 8) = z := ⟨_, rfl⟩
  rw [hz]
  have hz0 : 0 < z := by omega
  have hz8 : a % 8 + z ≤ 8 := by omega
  have Hz := Lib.hid hz
  have hlen := h.len
  obtain ⟨q, hq⟩ : ∃ q, a / 8 = q := ⟨_, rfl⟩
  obtain ⟨f, hf⟩ : ∃ f, a % 8 = f := ⟨_, rfl⟩
  have hql : q < l.length := by omega
  have hpn := piece_num l h.byte a z hz8 (by omega)
  have hb256 := h.byte l[q] (List.getElem_mem hql)
  have Hto := Lib.hid (h.to (a' := a + z) (by omega))
  obtain ⟨p, c, rfl, hc1, hcell⟩ := h.cells
  obtain ⟨g, off, rfl, hcx⟩ := hcell q hql
  have c0 := h.c0
  have c1 := h.c1
  have f1 := h.free 1
  have H := Lib.hid h
  simp only [hq, hf] at hpn
  rw [hf] at hz8
  generalize l[q] = b at *
  have hqi : (a : Int) / 8 = (q : Int) := by omega
  have hfi : (a : Int) % 8 = (f : Int) := by omega
  obtain ⟨u, hu⟩ : ∃ u, b / 2 ^ f = u := ⟨_, rfl⟩
  rw [hu] at hpn
  have hui : ((b : Int) / 2 ^ f) = (u : Int) := by rw [← hu]; simp
  have hu256 : u ≤ 255 := by
    rw [← hu]
    have := Nat.div_le_self b (2 ^ f)
    omega
  have Hpn := Lib.hid hpn
  have hq0 : (0 : Int) ≤ (q : Int) := by omega
  have hq1 : (q : Int) < (l.length : Int) := by omega
  have hp256 : numB l / 2 ^ a % 2 ^ z < 256 := by
    have h1 := Nat.mod_lt (numB l / 2 ^ a) (pow_pos' z)
    have h2 : 2 ^ z ≤ 2 ^ 8 := Nat.pow_le_pow_right (by decide) (by omega)
    have h8 : (2 : Nat) ^ 8 = 256 := rfl
    omega
  generalize numB l / 2 ^ a % 2 ^ z = y at *
  have hz24 : z ≤ 24 := by omega
  have hf8 : f < 8 := by omega
  clear hz hpn hcell h hq hf hu ha hn
  go_enter Try.func42, Try.ntmps42
  go_wp2_with fail
  refine Calls.mono (fitting_any n a _ (by omega)) ?_
  rintro e w1 ⟨rfl, rfl⟩
  rw [Hz.out]
  go_upto_region 2 with (fail)
  go_quiet (fail)
  rename_i nq
  have hd : Below w1.heap.size w1 (w1.drewN nq) := Below.drewN' (Below.refl _ _) nq
  generalize w1.drewN nq = w2 at *
  have h2 := H.out.below hd
  have Hto2 := Lib.hid (h2.to (a' := a + z) (by have := Hto.out.pos; exact this))
  have Htr := Lib.hid (show Turns (fun b => b = B) w1 (w2.setCell ⟨B, 1, none⟩ (.int .i64 ((a + z : Nat) : Int))) from (Turns.of_below' (T := fun b => b = B) hd).set (p := ⟨B, 1, none⟩) rfl _)
  have d1 := h2.c1
  have g1 := h2.free 1
  have hpos := H.out.pos
  clear c0 c1 f1 hcx hd h2 Hto
  rw [Int.natCast_add] at Hto2 Htr
  go_wp2_with fail
  refine Calls.mono (low_any u z _ (by omega) hz24) ?_
  rintro e w3 ⟨rfl, rfl⟩
  rw [Hpn.out]
  go_wp2
  go_ret2
  exact ⟨rfl, Hto2.out, Htr.out⟩

set_option maxHeartbeats 1000000 in
theorem left_any (B a : Nat) (sv : Value) (l : List Nat) (w : World) (h : Rd w B sv l a) :
    Makes Try.prog 35 #[.pointer (some ⟨B, 0, none⟩)] w (.int .i64 ((8 * l.length - a : Nat) : Int)) := by
  unfold Makes
  have hp := h.pos
  have hl := h.len
  obtain ⟨p, c, rfl, -, -⟩ := h.cells
  have c0 := h.c0
  have c1 := h.c1
  have hw1 : IntKind.i64.wrap (8 * (l.length : Int)) = 8 * (l.length : Int) := IntWalk.i64_in _ (by omega)
  have hw2 : IntKind.i64.wrap (8 * (l.length : Int) - (a : Int)) = ((8 * l.length - a : Nat) : Int) := by rw [IntWalk.i64_in _ (by omega)]; omega
  clear h hp hl
  generalize 8 * l.length - a = r at *
  go_enter Try.func35, Try.ntmps35
  go_upto_region 3 with (fail)
  go_quiet (fail)
  go_wp2
  go_ret
  exact ⟨rfl, Below.drewN' (Below.refl _ _) _⟩

set_option maxRecDepth 100000 in
set_option maxHeartbeats 4000000 in
theorem get_ok (B a k : Nat) (sv : Value) (l : List Nat) (w : World) (h : Rd w B sv l a) (hk : k ≤ 24) (hfit : a + k ≤ 8 * l.length) :
    Calls Try.prog 34 #[.pointer (some ⟨B, 0, none⟩), .int .i64 (k : Int)] w fun e w' => e = .returned (.tuple #[.int .u32 ((numB l / 2 ^ a % 2 ^ k : Nat) : Int), .int .i64 0]) ∧ Rd w' B sv l (a + k) ∧ Turns (fun b => b = B) w w' := by
  have H := Lib.hid h
  have hlt : decide (8 * l.length - a < k) = false := by simp; omega
  obtain ⟨r, hr⟩ : ∃ r, 8 * l.length - a = r := ⟨_, rfl⟩
  rw [hr] at hlt
  have Hr := Lib.hid hr
  clear h hr
  go_enter Try.func34, Try.ntmps34
  go_wp2_with fail
  refine Calls.mono (counts_yes _ _ (by omega) (by omega)) ?_
  rintro e w1 ⟨rfl, rfl⟩
  go_wp2_with fail
  refine Calls.mono (left_any B a sv l _ H.out) ?_
  rintro e w1 ⟨rfl, hb1⟩
  rw [Hr.out]
  have H1 := Lib.hid (H.out.below hb1)
  have Hb1 := Lib.hid (Turns.of_below' (T := fun b => b = B) hb1)
  clear hb1
  go_wp2
  go_loopw [6, 7] (fun v g wr => ∃ g1 : Nat, g = .int .i64 (g1 : Int) ∧ g1 ≤ k ∧ v = .int .u32 ((numB l / 2 ^ a % 2 ^ g1 : Nat) : Int) ∧ Hid (Rd wr B sv l (a + g1)) ∧ Hid (Turns (fun b => b = B) w1 wr)) (fun _ g _ => k - (intOf g).toNat)
  case atStart => exact ⟨0, rfl, Nat.zero_le _, by rw [Nat.pow_zero, Nat.mod_one]; rfl, H1, Lib.hid (Turns.refl _ _)⟩
  case round =>
    obtain ⟨g1, rfl, hg, rfl, Hrd, Htr⟩ := hrel
    by_cases hlt : g1 < k
    · obtain ⟨z, hz⟩ : ∃ z, min (k - g1) (8 - (a + g1) % 8) = z := ⟨_, rfl⟩
      have hz0 : 0 < z := by omega
      have hzk : z ≤ k - g1 := by omega
      have hz8 : z ≤ 8 := by omega
      obtain ⟨x, hx⟩ : ∃ x, numB l / 2 ^ a % 2 ^ g1 = x := ⟨_, rfl⟩
      obtain ⟨y, hy⟩ : ∃ y, numB l / 2 ^ (a + g1) % 2 ^ z = y := ⟨_, rfl⟩
      have hxl : x < 2 ^ g1 := by rw [← hx]; exact Nat.mod_lt _ (pow_pos' _)
      have hyl : y < 2 ^ z := by rw [← hy]; exact Nat.mod_lt _ (pow_pos' _)
      have hsum : numB l / 2 ^ a % 2 ^ (g1 + z) = x + y * 2 ^ g1 := by
        rw [mod_pow_add, Nat.div_div_eq_div_mul, ← Nat.pow_add, hx, hy]
      obtain ⟨hor, hor2⟩ := or_lay32 x y g1 z hxl hyl (by omega)
      have hmod : ((y : Int) * 2 ^ g1) % 4294967296 = (y : Int) * 2 ^ g1 := by
        have e : ((y : Int) * 2 ^ g1) = ((y * 2 ^ g1 : Nat) : Int) := by simp
        rw [e]; omega
      obtain ⟨s, hs⟩ : ∃ s, x + y * 2 ^ g1 = s := ⟨_, rfl⟩
      rw [hs] at hor hsum
      have hwy : IntKind.u32.wrap (y : Int) = (y : Int) := IntWalk.u32_in _ (by
        have : 2 ^ z ≤ 2 ^ 8 := Nat.pow_le_pow_right (by decide) hz8
        have h8 : (2 : Nat) ^ 8 = 256 := rfl
        omega)
      have hyb : y < 256 := by
        have : 2 ^ z ≤ 2 ^ 8 := Nat.pow_le_pow_right (by decide) hz8
        have h8 : (2 : Nat) ^ 8 = 256 := rfl
        omega
      have Hor := Lib.hid (And.intro hor hmod)
      have Hsum := Lib.hid hsum
      have Hz := Lib.hid hz
      have Hx := Lib.hid hx
      have Hy := Lib.hid hy
      have Hg := Lib.hid (show ((k : Int) - (g1 : Int)) = ((k - g1 : Nat) : Int) by omega)
      clear hor hmod hs hsum hz hx hy hxl hyl hor2
      rw [Hx.out]
      go_wp2_with fail
      rw [Hg.out]
      refine Calls.mono (take_any B (a + g1) (k - g1) sv l _ Hrd.out (by omega) (by omega) (by omega)) ?_
      rintro e w2 ⟨rfl, hrd2, htr2⟩
      rw [Hz.out, Hy.out]
      rw [Hz.out] at hrd2
      have Hrd2 : Hid (Rd w2 B sv l (a + (g1 + z))) := Lib.hid (by rw [← Nat.add_assoc]; exact hrd2)
      have Htr2 := Lib.hid (Htr.out.trans htr2)
      have hor := Hor.out.1
      have hmod := Hor.out.2
      clear hrd2 htr2
      go_wp2
      go_roundw
      case rel => exact ⟨g1 + z, by go_num, by omega, by rw [Hsum.out], Hrd2, Htr2⟩
      case measure => simp [intOf]; omega
    · obtain rfl : g1 = k := by omega
      go_wp2
      go_ret2
      exact ⟨rfl, Hrd.out, Hb1.out.trans Htr.out⟩

theorem get_arg (B : Nat) (k : Int) (w : World) (hk : k < 0 ∨ 24 < k) :
    Calls Try.prog 34 #[.pointer (some ⟨B, 0, none⟩), .int .i64 k] w fun e w' => e = .returned (.tuple #[.int .u32 0, .int .i64 1]) ∧ w' = w := by
  go_enter Try.func34, Try.ntmps34
  go_wp2_with fail
  refine Calls.mono (counts_no _ _ hk) ?_
  rintro e w1 ⟨rfl, rfl⟩
  go_wp2
  go_ret2
  exact ⟨rfl, rfl⟩

theorem get_few (B a k : Nat) (sv : Value) (l : List Nat) (w : World) (h : Rd w B sv l a) (hk : k ≤ 24) (hfit : 8 * l.length < a + k) :
    Makes Try.prog 34 #[.pointer (some ⟨B, 0, none⟩), .int .i64 (k : Int)] w (.tuple #[.int .u32 0, .int .i64 50]) := by
  unfold Makes
  have H := Lib.hid h
  have hlt : ((8 * l.length - a : Nat) : Int) < (k : Int) := by have := h.pos; omega
  obtain ⟨r, hr⟩ : ∃ r, 8 * l.length - a = r := ⟨_, rfl⟩
  rw [hr] at hlt
  have Hr := Lib.hid hr
  clear h hr
  go_enter Try.func34, Try.ntmps34
  go_wp2_with fail
  refine Calls.mono (counts_yes _ _ (by omega) (by omega)) ?_
  rintro e w1 ⟨rfl, rfl⟩
  go_wp2_with fail
  refine Calls.mono (left_any B a sv l _ H.out) ?_
  rintro e w1 ⟨rfl, hb1⟩
  rw [Hr.out]
  go_wp2
  go_ret2
  exact ⟨rfl, hb1⟩

end Go.Proofs.Ytonhcdhlinlncaa
