/- Several texts in one, each with its own head. -/
import Derived.Test.YtebfdoipogjpnaaGreatQd14
import Derived.Test.YtebfdoipogjpnaaGreatQd5
/- huff's New, and Read's refusals. -/
namespace Go.Proofs.YtebfdoipogjpnaaGreat
open Go.RowKit Go.Maps

theorem new_bad (ls : List Nat) (v : Value) (w : World) (hv : Row enc8 1 w v ls) (hc : chk ls ≠ 0) :
    Calls Tryz.prog 204 #[v] w fun e w' => e = .returned (.tuple #[.pointer none, .int .i64 (chk ls)]) ∧ w' = w := by
  have Hv := Lib.hid hv
  obtain ⟨r, hr⟩ : ∃ r, chk ls = r := ⟨_, rfl⟩
  have Hr := Lib.hid hr
  rw [hr] at hc ⊢
  have e0 : (r != 0) = true := by simpa using hc
  clear hr hv
  go_enter Tryz.func204, Tryz.ntmps204
  go_wp2_with fail
  refine Calls.mono (check_any ls v w Hv.out) ?_
  rintro e w1 ⟨rfl, rfl⟩
  rw [Hr.out]
  go_wp2
  go_ret2
  exact ⟨rfl, rfl⟩

/-- A table that reads these lengths' codes, in blocks from B on. -/
structure TabOk (w : World) (T B : Nat) (ls : List Nat) : Prop where
  ex : ∃ (M n L : Nat) (F : Nat × Nat → Option Nat), w.heap[T]? = some (.cells #[.map (some M), .int .u16 (L : Int)] 284) ∧ MapAt w M n F ∧ ToldF (lq ls) ls.length 15 0 F ∧ ToldM (lq ls) ls.length 15 0 L ∧ B ≤ M
  ge : B ≤ T

theorem NJ.start (w : World) (v : Value) (ls : List Nat) (hv : Row enc8 1 w v ls) :
    NJ w v ls w.heap.size (w.heap.size + 1) (w.heap.size + 1 + 1) 0 0 (((w.alloc (.map #[] 0)).alloc (.cells #[.map (some w.heap.size), .int .u16 0] 284)).alloc (.cells #[.pointer (some ⟨w.heap.size + 1, 0, none⟩)] 222)) := by
  have hp := heap_pushed [.map #[] 0, .cells #[.map (some w.heap.size), .int .u16 0] 284, .cells #[.pointer (some ⟨w.heap.size + 1, 0, none⟩)] 222] w
  have hb : Below w.heap.size w (((w.alloc (.map #[] 0)).alloc (.cells #[.map (some w.heap.size), .int .u16 0] 284)).alloc (.cells #[.pointer (some ⟨w.heap.size + 1, 0, none⟩)] 222)) := Below.thn (Below.al2 w _ _) (Below.al1 _ _)
  have hm : MapAt (((w.alloc (.map #[] 0)).alloc (.cells #[.map (some w.heap.size), .int .u16 0] 284)).alloc (.cells #[.pointer (some ⟨w.heap.size + 1, 0, none⟩)] 222)) w.heap.size 0 fun _ => none :=
    (MapAt.made w).turned (T := fun _ => False) (((Turns.refl _ _).alloc _).alloc _) (fun h => h)
  refine ⟨⟨0, fun _ => none, ⟨(hp 2 _).2 rfl, (hp 1 _).2 rfl, ?_⟩, ⟨fun i hi ht => ?_, fun q x hx => by cases hx⟩, ⟨fun i hi ht => ?_, .inl rfl⟩⟩, hv.below hb, hb, Nat.le_refl _, by omega⟩
  · exact hm.mono (by omega)
  · unfold Tld at ht; omega
  · unfold Tld at ht; omega

set_option maxRecDepth 20000 in
set_option maxHeartbeats 1000000 in
theorem new_ok (ls : List Nat) (v : Value) (w : World) (hv : Row enc8 1 w v ls) (hc : chk ls = 0) (ha : Apt (lq ls) ls.length) :
    Calls Tryz.prog 204 #[v] w fun e w' => ∃ T, e = .returned (.tuple #[.pointer (some ⟨T, 0, none⟩), .int .i64 0]) ∧ TabOk w' T w.heap.size ls ∧ Below w.heap.size w w' := by
  obtain ⟨h1, h2, -⟩ := chk_zero hc
  have hvb : ∀ k, v.ownBlock = some k → k < w.heap.size := fun k hk => by
    obtain ⟨p, c, rfl, _, _, h⟩ := hv
    rcases h with ⟨rfl, -⟩ | ⟨bb, off, rfl, hbb, -⟩
    · cases hk
    · cases hk; exact hbb
  have Hv := Lib.hid hv
  have Hc := Lib.hid hc
  have H2 := Lib.hid h2
  have Hvb := Lib.hid hvb
  have Ha := Lib.hid ha
  obtain ⟨p, c, rfl, -, -, -⟩ := hv
  have hmk := run_makeMap (P := Tryz.prog) 282 w
  clear hc h2 hvb ha
  go_enter Tryz.func204, Tryz.ntmps204
  go_wp2_with fail
  refine Calls.mono (check_any ls _ w Hv.out) ?_
  rintro e w1 ⟨rfl, rfl⟩
  rw [Hc.out]
  go_wp2_with fail
  refine Calls.mono (tellN_any ls _ (w1.heap.size + 1 + 1) (fun n k w' => NJ w1 (.slice p ls.length c) ls w1.heap.size (w1.heap.size + 1) (w1.heap.size + 1 + 1) n k w') _ h1 (fun n k w' h => h.lens)
    (fun n k w' hn hk hl h => NJ.hand w1 _ ls _ _ _ n k w' h1 Ha.out Hvb.out (by omega) (by omega) (by omega) hn hk hl h)
    (fun n k w' _ hl h => NJ.skip w1 _ ls _ _ _ n k w' hl h) (fun n w' h => NJ.next w1 _ ls _ _ _ n w' h) (NJ.start w1 _ ls Hv.out)) ?_
  rintro e w2 ⟨rfl, hj⟩
  have HJ := Lib.hid hj
  obtain ⟨L, F, g1, -, -⟩ := hj.tab
  have c0 : w2.cell? ⟨w1.heap.size + 1 + 1, 0, none⟩ = some (.pointer (some ⟨w1.heap.size + 1, 0, none⟩)) := cell_heap g1.box rfl
  clear hj g1
  go_wp2
  go_ret2
  obtain ⟨L', F', g1, g2, g3⟩ := HJ.out.tab
  exact ⟨_, rfl, ⟨⟨_, _, L', F', g1.tab, g1.map, g2, g3, HJ.out.gM⟩, HJ.out.gT⟩, HJ.out.below⟩

/-- Read of no table, or from no reader. -/
theorem read_nil_t (v : Value) (w : World) : Calls Tryz.prog 205 #[.pointer none, v] w fun e w' => e = .returned (.tuple #[.int .i64 0, .int .i64 8]) ∧ w' = w := by
  go_enter Tryz.func205, Tryz.ntmps205
  go_wp2
  go_ret2
  exact ⟨rfl, rfl⟩
theorem read_nil_r (T : Nat) (w : World) : Calls Tryz.prog 205 #[.pointer (some ⟨T, 0, none⟩), .pointer none] w fun e w' => e = .returned (.tuple #[.int .i64 0, .int .i64 8]) ∧ w' = w := by
  go_enter Tryz.func205, Tryz.ntmps205
  go_wp2
  go_ret2
  exact ⟨rfl, rfl⟩

end Go.Proofs.YtebfdoipogjpnaaGreat

/- (Without Align: for seats that do not reach it.) bits' reader: New, take, Get, Align, At, Left. -/
namespace Go.Proofs.YtebfdoipogjpnaaGreat
open Go.RowKit

/-- Block B is a reader of the bytes l, with so many bits ahead of it. -/
structure Rd (W : World) (B : Nat) (sv : Value) (l : List Nat) (a : Nat) : Prop where
  box : W.heap[B]? = some (.cells #[sv, .int .i64 (a : Int)] 122)
  row : Rw8 W sv l
  apart : sv.ownBlock ≠ some B
  byte : ∀ b ∈ l, b < 256
  pos : a ≤ 8 * l.length
  len : l.length ≤ 1073741824

theorem Rd.c0 {W : World} {B a : Nat} {sv : Value} {l : List Nat} (h : Rd W B sv l a) : W.cell? ⟨B, 0, none⟩ = some sv := by simp [World.cell?, h.box]
theorem Rd.c1 {W : World} {B a : Nat} {sv : Value} {l : List Nat} (h : Rd W B sv l a) : W.cell? ⟨B, 1, none⟩ = some (.int .i64 (a : Int)) := by simp [World.cell?, h.box]
theorem Rd.free {W : World} {B a : Nat} {sv : Value} {l : List Nat} (h : Rd W B sv l a) (i : Nat) : W.frozen? ⟨B, i, none⟩ = false := by simp [World.frozen?, h.box]
theorem Rd.size {W : World} {B a : Nat} {sv : Value} {l : List Nat} (h : Rd W B sv l a) : B < W.heap.size := (Array.getElem?_eq_some_iff.1 h.box).1
theorem Rd.turns {T : Nat → Prop} {W W' : World} {B a : Nat} {sv : Value} {l : List Nat} (h : Rd W B sv l a) (ht : Turns T W W') (hB : ¬ T B) (hs : ∀ k, sv.ownBlock = some k → ¬ T k) : Rd W' B sv l a :=
  ⟨(ht.block B h.size hB).trans h.box, h.row.turns ht hs, h.apart, h.byte, h.pos, h.len⟩
theorem Rd.below {W W' : World} {B a : Nat} {sv : Value} {l : List Nat} (h : Rd W B sv l a) (hb : Below W.heap.size W W') : Rd W' B sv l a :=
  h.turns (T := fun _ => False) (Turns.of_below' hb) (fun h => h) (fun _ _ h => h)
theorem Rd.to {W : World} {B a a' : Nat} {sv : Value} {l : List Nat} (h : Rd W B sv l a) (ha : a' ≤ 8 * l.length) : Rd (W.setCell ⟨B, 1, none⟩ (.int .i64 (a' : Int))) B sv l a' :=
  ⟨two_set1 _ h.box, h.row.turns (Turns.set (T := fun b => b = B) (Turns.refl _ W) (p := ⟨B, 1, none⟩) rfl _) (fun k hk e => h.apart (by rw [hk, e])), h.apart, h.byte, ha, h.len⟩

/-- Its cells: the slice, and each byte. -/
theorem Rd.cells {W : World} {B a : Nat} {sv : Value} {l : List Nat} (h : Rd W B sv l a) : ∃ p c, sv = .slice p l.length c ∧ l.length ≤ c ∧ ∀ i (hi : i < l.length), ∃ g off, p = some ⟨g, off, none⟩ ∧ W.cell? ⟨g, off + i, none⟩ = some (.int .u8 (l[i] : Int)) := by
  obtain ⟨⟨p, c, e, h1, -, h3⟩, -⟩ := h.row
  refine ⟨p, c, e, h1, fun i hi => ?_⟩
  rcases h3 with ⟨-, rfl⟩ | ⟨g, off, rfl, -, h4⟩
  · simp at hi
  · have := h4 i l[i] (List.getElem?_eq_getElem hi) 0 _ rfl
    rw [Nat.mul_one, Nat.add_zero] at this
    exact ⟨g, off, rfl, this⟩

theorem or_lay32 (x p f s : Nat) (hx : x < 2 ^ f) (hp : p < 2 ^ s) (hfit : f + s ≤ 32) : bits .or .u32 (x : Int) ((p : Int) * 2 ^ f) = ((x + p * 2 ^ f : Nat) : Int) ∧ p * 2 ^ f < 4294967296 := by
  have h6 : 2 ^ f * 2 ^ s ≤ 2 ^ 32 := by rw [← Nat.pow_add]; exact Nat.pow_le_pow_right (by decide) hfit
  have h7 : p * 2 ^ f + 2 ^ f ≤ 2 ^ f * 2 ^ s := by
    have : (p + 1) * 2 ^ f ≤ 2 ^ s * 2 ^ f := Nat.mul_le_mul_right _ hp
    rw [Nat.mul_comm (2 ^ f) (2 ^ s)]
    rw [Nat.add_mul] at this
    omega
  have h8 : (2 : Nat) ^ 32 = 4294967296 := rfl
  have e : ((p : Int) * 2 ^ f) = ((p * 2 ^ f : Nat) : Int) := by simp
  rw [e, (bits_nat .u32 32 (by decide) (fun m h0 h1 => by rw [IntKind.wrap_u32]; omega) x (p * 2 ^ f) (by omega) (by omega)).2]
  refine ⟨?_, by omega⟩
  rw [Nat.or_comm, Nat.mul_comm p, ← Nat.two_pow_add_eq_or_of_lt hx p]
  congr 1
  omega

set_option maxHeartbeats 1000000 in
theorem new_any (v : Value) (l : List Nat) (w : World) (hv : Rw8 w v l) (hb : ∀ b ∈ l, b < 256) (hlen : l.length ≤ 1073741824) :
    Calls Tryz.prog 40 #[v] w fun e w' => ∃ B sv, e = .returned (.pointer (some ⟨B, 0, none⟩)) ∧ Rd w' B sv l 0 ∧ Below w.heap.size w w' ∧ w.heap.size ≤ B ∧ ∀ k, sv.ownBlock = some k → w.heap.size ≤ k := by
  have Hv := Lib.hid hv
  have Hb := Lib.hid hb
  clear hv hb
  go_enter Tryz.func40, Tryz.ntmps40
  go_wp2_with fail
  refine Calls.mono (clone_any _ _ _ Hv.out hlen) ?_
  rintro e w1 ⟨v', rfl, ho⟩
  have Ho := Lib.hid ho
  obtain ⟨p', c', rfl⟩ := owns_slice ho.1
  clear ho
  go_wp2
  go_ret
  have hb1 := Ho.out.2
  refine ⟨w1.heap.size, _, rfl, ⟨World.alloc_heap_new w1 _, (Rw8.own Ho.out.1 rfl).below (Below.al1 _ _), ?_, Hb.out, Nat.zero_le _, hlen⟩, hb1.trans ((Below.al1 w1 _).mono hb1.size), hb1.size, fun k hk => (Ho.out.1.lt k hk).1⟩
  intro e
  have := (Ho.out.1.lt _ e).2
  omega

set_option maxRecDepth 100000 in
set_option maxHeartbeats 2000000 in
theorem rdTake_any (B a n : Nat) (sv : Value) (l : List Nat) (w : World) (h : Rd w B sv l a) (hn : 0 < n) (hn24 : n ≤ 24) (ha : a < 8 * l.length) :
    Calls Tryz.prog 179 #[.pointer (some ⟨B, 0, none⟩), .int .i64 (n : Int)] w fun e w' => e = .returned (.tuple #[.int .u8 ((numB l / 2 ^ a % 2 ^ (min n (8 - a % 8)) : Nat) : Int), .int .i64 ((min n (8 - a % 8) : Nat) : Int)]) ∧ Rd w' B sv l (a + min n (8 - a % 8)) ∧ Turns (fun b => b = B) w w' := by
  obtain ⟨z, hz⟩ : ∃ z, min n (8 - a % 8) = z := ⟨_, rfl⟩
  rw [hz]
  have hz0 : 0 < z := by omega
  have hz8 : a % 8 + z ≤ 8 := by omega
  have Hz := Lib.hid hz
  have hlen := h.len
  obtain ⟨q, hq⟩ : ∃ q, a / 8 = q := ⟨_, rfl⟩
  obtain ⟨f, hf⟩ : ∃ f, a % 8 = f := ⟨_, rfl⟩
  have hql : q < l.length := by omega
  have hpn := piece_num l h.byte a z hz8 (by omega)
  have hb256 := h.byte l[q] (List.getElem_mem hql)
  have Hto := Lib.hid (h.to (a' := a + z) (by omega))
  obtain ⟨p, c, rfl, hc1, hcell⟩ := h.cells
  obtain ⟨g, off, rfl, hcx⟩ := hcell q hql
  have c0 := h.c0
  have c1 := h.c1
  have f1 := h.free 1
  have H := Lib.hid h
  simp only [hq, hf] at hpn
  rw [hf] at hz8
  generalize l[q] = b at *
  have hqi : (a : Int) / 8 = (q : Int) := by omega
  have hfi : (a : Int) % 8 = (f : Int) := by omega
  obtain ⟨u, hu⟩ : ∃ u, b / 2 ^ f = u := ⟨_, rfl⟩
  rw [hu] at hpn
  have hui : ((b : Int) / 2 ^ f) = (u : Int) := by rw [← hu]; simp
  have hu256 : u ≤ 255 := by
    rw [← hu]
    have := Nat.div_le_self b (2 ^ f)
    omega
  have Hpn := Lib.hid hpn
  have hq0 : (0 : Int) ≤ (q : Int) := by omega
  have hq1 : (q : Int) < (l.length : Int) := by omega
  have hp256 : numB l / 2 ^ a % 2 ^ z < 256 := by
    have h1 := Nat.mod_lt (numB l / 2 ^ a) (pow_pos' z)
    have h2 : 2 ^ z ≤ 2 ^ 8 := Nat.pow_le_pow_right (by decide) (by omega)
    have h8 : (2 : Nat) ^ 8 = 256 := rfl
    omega
  generalize numB l / 2 ^ a % 2 ^ z = y at *
  have hz24 : z ≤ 24 := by omega
  have hf8 : f < 8 := by omega
  clear hz hpn hcell h hq hf hu ha hn
  go_enter Tryz.func179, Tryz.ntmps179
  go_wp2_with fail
  refine Calls.mono (fitting_any n a _ (by omega)) ?_
  rintro e w1 ⟨rfl, rfl⟩
  rw [Hz.out]
  go_upto_region 2 with (fail)
  go_quiet (fail)
  rename_i nq
  have hd : Below w1.heap.size w1 (w1.drewN nq) := Below.drewN' (Below.refl _ _) nq
  generalize w1.drewN nq = w2 at *
  have h2 := H.out.below hd
  have Hto2 := Lib.hid (h2.to (a' := a + z) (by have := Hto.out.pos; exact this))
  have Htr := Lib.hid (show Turns (fun b => b = B) w1 (w2.setCell ⟨B, 1, none⟩ (.int .i64 ((a + z : Nat) : Int))) from (Turns.of_below' (T := fun b => b = B) hd).set (p := ⟨B, 1, none⟩) rfl _)
  have d1 := h2.c1
  have g1 := h2.free 1
  have hpos := H.out.pos
  clear c0 c1 f1 hcx hd h2 Hto
  rw [Int.natCast_add] at Hto2 Htr
  go_wp2_with fail
  refine Calls.mono (low_any u z _ (by omega) hz24) ?_
  rintro e w3 ⟨rfl, rfl⟩
  rw [Hpn.out]
  go_wp2
  go_ret2
  exact ⟨rfl, Hto2.out, Htr.out⟩

theorem at_any (B a : Nat) (sv : Value) (l : List Nat) (w : World) (h : Rd w B sv l a) :
    Calls Tryz.prog 42 #[.pointer (some ⟨B, 0, none⟩)] w fun e w' => e = .returned (.int .i64 (a : Int)) ∧ w' = w := by
  have c1 := h.c1
  clear h
  go_enter Tryz.func42, Tryz.ntmps42
  go_wp2
  go_ret
  exact ⟨rfl, rfl⟩

set_option maxHeartbeats 1000000 in
theorem left_any (B a : Nat) (sv : Value) (l : List Nat) (w : World) (h : Rd w B sv l a) :
    Makes Tryz.prog 178 #[.pointer (some ⟨B, 0, none⟩)] w (.int .i64 ((8 * l.length - a : Nat) : Int)) := by
  unfold Makes
  have hp := h.pos
  have hl := h.len
  obtain ⟨p, c, rfl, -, -⟩ := h.cells
  have c0 := h.c0
  have c1 := h.c1
  have hw1 : IntKind.i64.wrap (8 * (l.length : Int)) = 8 * (l.length : Int) := IntWalk.i64_in _ (by omega)
  have hw2 : IntKind.i64.wrap (8 * (l.length : Int) - (a : Int)) = ((8 * l.length - a : Nat) : Int) := by rw [IntWalk.i64_in _ (by omega)]; omega
  clear h hp hl
  generalize 8 * l.length - a = r at *
  go_enter Tryz.func178, Tryz.ntmps178
  go_upto_region 3 with (fail)
  go_quiet (fail)
  go_wp2
  go_ret
  exact ⟨rfl, Below.drewN' (Below.refl _ _) _⟩

set_option maxRecDepth 100000 in
set_option maxHeartbeats 4000000 in
theorem get_ok (B a k : Nat) (sv : Value) (l : List Nat) (w : World) (h : Rd w B sv l a) (hk : k ≤ 24) (hfit : a + k ≤ 8 * l.length) :
    Calls Tryz.prog 136 #[.pointer (some ⟨B, 0, none⟩), .int .i64 (k : Int)] w fun e w' => e = .returned (.tuple #[.int .u32 ((numB l / 2 ^ a % 2 ^ k : Nat) : Int), .int .i64 0]) ∧ Rd w' B sv l (a + k) ∧ Turns (fun b => b = B) w w' := by
  have H := Lib.hid h
  have hlt : decide (8 * l.length - a < k) = false := by simp; omega
  obtain ⟨r, hr⟩ : ∃ r, 8 * l.length - a = r := ⟨_, rfl⟩
  rw [hr] at hlt
  have Hr := Lib.hid hr
  clear h hr
  go_enter Tryz.func136, Tryz.ntmps136
  go_wp2_with fail
  refine Calls.mono (counts_yes _ _ (by omega) (by omega)) ?_
  rintro e w1 ⟨rfl, rfl⟩
  go_wp2_with fail
  refine Calls.mono (left_any B a sv l _ H.out) ?_
  rintro e w1 ⟨rfl, hb1⟩
  rw [Hr.out]
  have H1 := Lib.hid (H.out.below hb1)
  have Hb1 := Lib.hid (Turns.of_below' (T := fun b => b = B) hb1)
  clear hb1
  go_wp2
  go_loopw [6, 7] (fun v g wr => ∃ g1 : Nat, g = .int .i64 (g1 : Int) ∧ g1 ≤ k ∧ v = .int .u32 ((numB l / 2 ^ a % 2 ^ g1 : Nat) : Int) ∧ Hid (Rd wr B sv l (a + g1)) ∧ Hid (Turns (fun b => b = B) w1 wr)) (fun _ g _ => k - (intOf g).toNat)
  case atStart => exact ⟨0, rfl, Nat.zero_le _, by rw [Nat.pow_zero, Nat.mod_one]; rfl, H1, Lib.hid (Turns.refl _ _)⟩
  case round =>
    obtain ⟨g1, rfl, hg, rfl, Hrd, Htr⟩ := hrel
    by_cases hlt : g1 < k
    · obtain ⟨z, hz⟩ : ∃ z, min (k - g1) (8 - (a + g1) % 8) = z := ⟨_, rfl⟩
      have hz0 : 0 < z := by omega
      have hzk : z ≤ k - g1 := by omega
      have hz8 : z ≤ 8 := by omega
      obtain ⟨x, hx⟩ : ∃ x, numB l / 2 ^ a % 2 ^ g1 = x := ⟨_, rfl⟩
      obtain ⟨y, hy⟩ : ∃ y, numB l / 2 ^ (a + g1) % 2 ^ z = y := ⟨_, rfl⟩
      have hxl : x < 2 ^ g1 := by rw [← hx]; exact Nat.mod_lt _ (pow_pos' _)
      have hyl : y < 2 ^ z := by rw [← hy]; exact Nat.mod_lt _ (pow_pos' _)
      have hsum : numB l / 2 ^ a % 2 ^ (g1 + z) = x + y * 2 ^ g1 := by
        rw [mod_pow_add, Nat.div_div_eq_div_mul, ← Nat.pow_add, hx, hy]
      obtain ⟨hor, hor2⟩ := or_lay32 x y g1 z hxl hyl (by omega)
      have hmod : ((y : Int) * 2 ^ g1) % 4294967296 = (y : Int) * 2 ^ g1 := by
        have e : ((y : Int) * 2 ^ g1) = ((y * 2 ^ g1 : Nat) : Int) := by simp
        rw [e]; omega
      obtain ⟨s, hs⟩ : ∃ s, x + y * 2 ^ g1 = s := ⟨_, rfl⟩
      rw [hs] at hor hsum
      have hwy : IntKind.u32.wrap (y : Int) = (y : Int) := IntWalk.u32_in _ (by
        have : 2 ^ z ≤ 2 ^ 8 := Nat.pow_le_pow_right (by decide) hz8
        have h8 : (2 : Nat) ^ 8 = 256 := rfl
        omega)
      have hyb : y < 256 := by
        have : 2 ^ z ≤ 2 ^ 8 := Nat.pow_le_pow_right (by decide) hz8
        have h8 : (2 : Nat) ^ 8 = 256 := rfl
        omega
      have Hor := Lib.hid (And.intro hor hmod)
      have Hsum := Lib.hid hsum
      have Hz := Lib.hid hz
      have Hx := Lib.hid hx
      have Hy := Lib.hid hy
      have Hg := Lib.hid (show ((k : Int) - (g1 : Int)) = ((k - g1 : Nat) : Int) by omega)
      clear hor hmod hs hsum hz hx hy hxl hyl hor2
      rw [Hx.out]
      go_wp2_with fail
      rw [Hg.out]
      refine Calls.mono (rdTake_any B (a + g1) (k - g1) sv l _ Hrd.out (by omega) (by omega) (by omega)) ?_
      rintro e w2 ⟨rfl, hrd2, htr2⟩
      rw [Hz.out, Hy.out]
      rw [Hz.out] at hrd2
      have Hrd2 : Hid (Rd w2 B sv l (a + (g1 + z))) := Lib.hid (by rw [← Nat.add_assoc]; exact hrd2)
      have Htr2 := Lib.hid (Htr.out.trans htr2)
      have hor := Hor.out.1
      have hmod := Hor.out.2
      clear hrd2 htr2
      go_wp2
      go_roundw
      case rel => exact ⟨g1 + z, by go_num, by omega, by rw [Hsum.out], Hrd2, Htr2⟩
      case measure => simp [intOf]; omega
    · obtain rfl : g1 = k := by omega
      go_wp2
      go_ret2
      exact ⟨rfl, Hrd.out, Hb1.out.trans Htr.out⟩

theorem get_arg (B : Nat) (k : Int) (w : World) (hk : k < 0 ∨ 24 < k) :
    Calls Tryz.prog 136 #[.pointer (some ⟨B, 0, none⟩), .int .i64 k] w fun e w' => e = .returned (.tuple #[.int .u32 0, .int .i64 1]) ∧ w' = w := by
  go_enter Tryz.func136, Tryz.ntmps136
  go_wp2_with fail
  refine Calls.mono (counts_no _ _ hk) ?_
  rintro e w1 ⟨rfl, rfl⟩
  go_wp2
  go_ret2
  exact ⟨rfl, rfl⟩

theorem get_few (B a k : Nat) (sv : Value) (l : List Nat) (w : World) (h : Rd w B sv l a) (hk : k ≤ 24) (hfit : 8 * l.length < a + k) :
    Makes Tryz.prog 136 #[.pointer (some ⟨B, 0, none⟩), .int .i64 (k : Int)] w (.tuple #[.int .u32 0, .int .i64 50]) := by
  unfold Makes
  have H := Lib.hid h
  have hlt : ((8 * l.length - a : Nat) : Int) < (k : Int) := by have := h.pos; omega
  obtain ⟨r, hr⟩ : ∃ r, 8 * l.length - a = r := ⟨_, rfl⟩
  rw [hr] at hlt
  have Hr := Lib.hid hr
  clear h hr
  go_enter Tryz.func136, Tryz.ntmps136
  go_wp2_with fail
  refine Calls.mono (counts_yes _ _ (by omega) (by omega)) ?_
  rintro e w1 ⟨rfl, rfl⟩
  go_wp2_with fail
  refine Calls.mono (left_any B a sv l _ H.out) ?_
  rintro e w1 ⟨rfl, hb1⟩
  rw [Hr.out]
  go_wp2
  go_ret2
  exact ⟨rfl, hb1⟩

end Go.Proofs.YtebfdoipogjpnaaGreat

/- huff's code with one bit more. -/
namespace Go.Proofs.YtebfdoipogjpnaaGreat
open Go.RowKit Go.Maps

theorem or_lay16 (x p f s : Nat) (hx : x < 2 ^ f) (hp : p < 2 ^ s) (hfit : f + s ≤ 16) : bits .or .u16 (x : Int) ((p : Int) * 2 ^ f) = ((x + p * 2 ^ f : Nat) : Int) ∧ p * 2 ^ f < 65536 := by
  have h2 : 2 ^ (f + s) ≤ 2 ^ 16 := Nat.pow_le_pow_right (by decide) hfit
  have h3 : (2 : Nat) ^ 16 = 65536 := rfl
  have hpos : 0 < 2 ^ f := Nat.two_pow_pos f
  have hx2 : x < 65536 := by
    have : 2 ^ f ≤ 2 ^ (f + s) := Nat.pow_le_pow_right (by decide) (by omega)
    omega
  have hm : p * 2 ^ f < 65536 := by
    have : (p + 1) * 2 ^ f ≤ 2 ^ s * 2 ^ f := Nat.mul_le_mul_right _ hp
    rw [← Nat.pow_add, Nat.add_mul, Nat.add_comm s f] at this
    omega
  have e : ((p : Int) * 2 ^ f) = ((p * 2 ^ f : Nat) : Int) := by simp
  rw [e, (bits_nat .u16 16 (by decide) (fun m h0 h1 => by rw [IntKind.wrap_u16]; omega) x (p * 2 ^ f) (by omega) (by omega)).2]
  refine ⟨?_, by omega⟩
  rw [Nat.or_comm, Nat.mul_comm p, ← Nat.two_pow_add_eq_or_of_lt hx p]
  congr 1
  omega

theorem results_code {fn : Func} {p : Tmp} {tmps : Array Value} {w : World} {B : Nat} {u v : Value} (h : fn.results = #[.cell p 254]) (hp : tmps.getD p undef = .pointer (some ⟨B, 0, none⟩)) (c0 : w.cell? ⟨B, 0, none⟩ = some u) (c1 : w.cell? ⟨B, 1, none⟩ = some v) :
    (results fn tmps).run Tryz.prog w = .ok (.agg #[u, v]) w := by
  have hp' : tmps[p]?.getD undef = .pointer (some ⟨B, 0, none⟩) := by simpa using hp
  simp [results, h, hp', go_sem, c0, c1]

set_option maxHeartbeats 1000000 in
theorem and_any (b s x : Nat) (w : World) (hb : b < 2 ^ s) (hs : s ≤ 14) (hx : x < 2) :
    Makes Tryz.prog 222 #[.agg #[.int .u16 (b : Int), .int .u16 (s : Int)], .int .u32 (x : Int)] w (.agg #[.int .u16 ((b + x * 2 ^ s : Nat) : Int), .int .u16 ((s + 1 : Nat) : Int)]) := by
  unfold Makes
  obtain ⟨ho, hm⟩ := or_lay16 b x s 1 hb (by omega) (by omega)
  obtain hc : ((x : Int) * 2 ^ s) = ((x * 2 ^ s : Nat) : Int) := by simp
  have hw : IntKind.u16.wrap ((x : Int) * 2 ^ s) = (x : Int) * 2 ^ s := by rw [hc, IntKind.wrap_u16]; omega
  clear hc
  go_enter Tryz.func222, Tryz.ntmps222
  go_wp2
  have hp := heap_pushed [.cells #[.int .u16 (b : Int), .int .u16 (s : Int)] 254, .cells #[.int .u16 ((b : Int) + (x : Int) * 2 ^ s), .int .u16 ((s : Int) + 1)] 254] w
  exact bodyPost_ret (v := .agg #[.int .u16 ((b : Int) + (x : Int) * 2 ^ s), .int .u16 ((s : Int) + 1)]) (results_code Tryz.results222 rfl (cell_heap ((hp 1 _).2 rfl) rfl) (cell_heap ((hp 1 _).2 rfl) rfl)) rfl ⟨by simp, Below.al2 _ _ _⟩

end Go.Proofs.YtebfdoipogjpnaaGreat

/- huff's Read. -/
namespace Go.Proofs.YtebfdoipogjpnaaGreat
open Go.RowKit Go.Maps

/-- The first s bits from a place on. -/
def bt (l : List Nat) (a s : Nat) : Nat := numB l / 2 ^ a % 2 ^ s
theorem bt_succ (l : List Nat) (a s : Nat) : bt l a (s + 1) = bt l a s + (numB l / 2 ^ (a + s) % 2 ^ 1) * 2 ^ s := by
  unfold bt
  rw [Nat.pow_succ, Nat.mod_mul, Nat.div_div_eq_div_mul, ← Nat.pow_add, Nat.pow_one, Nat.mul_comm (2 ^ s)]
theorem bt_lt (l : List Nat) (a s : Nat) : bt l a s < 2 ^ s := Nat.mod_lt _ (Nat.two_pow_pos s)
theorem bt_zero (l : List Nat) (a : Nat) : bt l a 0 = 0 := by unfold bt; rw [Nat.pow_zero, Nat.mod_one]

/-- What Read answers: of the table F with no code longer than L, from the place a of the bytes l on: a symbol, an error, and how many bits were read. -/
structure RdAns (F : Nat × Nat → Option Nat) (L : Nat) (l : List Nat) (a : Nat) (x : Nat) (e : Int) (s : Nat) : Prop where
  no : ∀ t, 1 ≤ t → t < s → F (bt l a t, t) = none
  le : s ≤ L ∧ a + s ≤ 8 * l.length
  ans : (e = 0 ∧ 1 ≤ s ∧ F (bt l a s, s) = some x) ∨ (e = 60 ∧ x = 0 ∧ s = L ∧ (1 ≤ s → F (bt l a s, s) = none)) ∨ (e = 50 ∧ x = 0 ∧ s < L ∧ a + s = 8 * l.length ∧ (1 ≤ s → F (bt l a s, s) = none))

/-- A table in a world. -/
structure Tb (w : World) (T M n L : Nat) (F : Nat × Nat → Option Nat) : Prop where
  tab : w.heap[T]? = some (.cells #[.map (some M), .int .u16 (L : Int)] 284)
  map : MapAt w M n F
theorem Tb.turns {w w' : World} {T M n L : Nat} {F : Nat × Nat → Option Nat} (h : Tb w T M n L F) {N : Nat → Prop} (ht : Turns N w w') (hT : ¬ N T) (hM : ¬ N M) : Tb w' T M n L F :=
  ⟨(ht.block T (lt_heap h.tab) hT).trans h.tab, h.map.turned ht hM⟩

set_option maxRecDepth 100000 in
set_option maxHeartbeats 2000000 in
theorem read_any (T M n L B a : Nat) (F : Nat × Nat → Option Nat) (sv : Value) (l : List Nat) (w : World) (ht : Tb w T M n L F) (hr : Rd w B sv l a) (hL : L ≤ 15) (hTB : T ≠ B) (hMB : M ≠ B) :
    Calls Tryz.prog 205 #[.pointer (some ⟨T, 0, none⟩), .pointer (some ⟨B, 0, none⟩)] w fun e w' => ∃ (x : Nat) (er : Int) (s : Nat), e = .returned (.tuple #[.int .i64 (x : Int), .int .i64 er]) ∧ RdAns F L l a x er s ∧ Rd w' B sv l (a + s) ∧ Tb w' T M n L F ∧ Turns (fun i => i = B) w w' := by
  obtain ⟨G, hG⟩ : ∃ G, w.heap.size = G := ⟨_, rfl⟩
  have Ht := Lib.hid ht
  have Hr := Lib.hid hr
  have hap := Lib.hid hr.apart
  clear ht hr
  go_enter Tryz.func205, Tryz.ntmps205
  go_wp2_with fail
  go_loopw [7] (fun _ wr => ∃ s : Nat, wr.heap[G]? = some (.cells #[.int .u16 (bt l a s : Int), .int .u16 (s : Int)] 254) ∧ s ≤ L ∧ a + s ≤ 8 * l.length ∧ Hid (∀ t, 1 ≤ t → t ≤ s → F (bt l a t, t) = none) ∧ Hid (Rd wr B sv l (a + s)) ∧ Hid (Tb wr T M n L F) ∧ Hid (Turns (fun i => i = B) w wr) ∧ G < wr.heap.size)
    (fun _ wr => L - (intOf ((wr.cell? ⟨G, 1, none⟩).getD undef)).toNat)
  case atStart =>
    have hbw : Below w.heap.size w (w.alloc (.cells #[.int .u16 0, .int .u16 0] 254)) := Below.al1 w _
    refine ⟨0, ?_, by omega, by have := Hr.out.pos; omega, Lib.hid fun t h1 h2 => by omega, Lib.hid (Hr.out.below hbw), Lib.hid (Ht.out.turns (N := fun _ => False) (Turns.of_below' hbw) (fun h => h) (fun h => h)), Lib.hid (Turns.of_below' hbw), ?_⟩
    · rw [bt_zero, ← hG]
      exact (heap_pushed [.cells #[.int .u16 0, .int .u16 0] 254] w 0 _).2 rfl
    · rw [← hG]; exact lt_heap ((heap_pushed [.cells #[.int .u16 0, .int .u16 0] 254] w 0 _).2 rfl)
  case round =>
    obtain ⟨s, hg, hs, has, HN, HR, HT, HW, hGw⟩ := hrel
    have hms : L - (intOf ((wr.cell? ⟨G, 1, none⟩).getD undef)).toNat = L - s := by rw [cell_heap hg rfl]; simp [intOf]
    rw [hms]
    have hTG : T < G := hG ▸ lt_heap Ht.out.tab
    have hMG : M < G := hG ▸ Ht.out.map.lt
    have hBG : B < G := hG ▸ Hr.out.size
    have hSG : ∀ k, sv.ownBlock = some k → k < G := hG ▸ Hr.out.row.lt
    have HS := Lib.hid hSG
    clear hms hSG
    have hbd : Below wr.heap.size wr wr.drew := ⟨rfl, rfl, rfl, Nat.le_refl _, fun _ _ => rfl⟩
    have HR1 := Lib.hid (HR.out.below hbd)
    have HT1 := Lib.hid (HT.out.turns (N := fun _ => False) (Turns.of_below' hbd) (fun h => h) (fun h => h))
    have HW1 := Lib.hid (HW.out.trans (Turns.of_below' hbd))
    have hg1 : Hid (wr.drew.heap[G]? = some (.cells #[.int .u16 (bt l a s : Int), .int .u16 (s : Int)] 254)) := Lib.hid hg
    have c1 : wr.drew.cell? ⟨G, 1, none⟩ = some (.int .u16 (s : Int)) := cell_heap hg1.out rfl
    have c2 : wr.drew.cell? ⟨T, 1, none⟩ = some (.int .u16 (L : Int)) := cell_heap HT1.out.tab rfl
    go_wp2_with fail
    refine wp_region_still_lit (by kernel_rfl) (by kernel_rfl) ?_
    by_cases hlt : s < L
    · have d0 : decide ((s : Int) < (L : Int)) = true := by simp; omega
      have d0' : decide (s < L) = true := by simp; omega
      change wpStill _ _ wr.drew (fun a' => Exit.then _ _ .normal a' wr.drew) _ _
      clear hbd HR HT HW hg
      generalize wr.drew = W1 at *
      repeat still_step
      refine wpStill_nil ?_
      by_cases hend : a + s < 8 * l.length
      · go_wp2_with fail
        refine Calls.mono (get_ok B (a + s) 1 sv l W1 HR1.out (by omega) (by omega)) ?_
        obtain ⟨x, hx⟩ : ∃ x, numB l / 2 ^ (a + s) % 2 ^ 1 = x := ⟨_, rfl⟩
        rw [hx]
        have hx2 : x < 2 := by rw [← hx]; exact Nat.mod_lt _ (by decide)
        have Hx := Lib.hid hx
        clear hx
        rintro e W2 ⟨rfl, hr2, ht2⟩
        have HR2 := Lib.hid hr2
        have HW2 := Lib.hid (HW1.out.trans ht2)
        have HT2 := Lib.hid (HT1.out.turns ht2 hTB hMB)
        have hg2 : Hid (W2.heap[G]? = some (.cells #[.int .u16 (bt l a s : Int), .int .u16 (s : Int)] 254)) := Lib.hid ((ht2.block G (lt_heap hg1.out) (by omega)).trans hg1.out)
        have e0 : W2.cell? ⟨G, 0, none⟩ = some (.int .u16 (bt l a s : Int)) := cell_heap hg2.out rfl
        have e1 : W2.cell? ⟨G, 1, none⟩ = some (.int .u16 (s : Int)) := cell_heap hg2.out rfl
        clear hr2 ht2 HR1 HW1 HT1 hg1 c1 c2
        go_wp2_with fail
        refine Calls.mono (and_any (bt l a s) s x W2 (bt_lt l a s) (by omega) hx2) ?_
        have hbs : bt l a s + x * 2 ^ s = bt l a (s + 1) := by rw [bt_succ, Hx.out]
        obtain ⟨z, hz⟩ : ∃ z : Int, ((s + 1 : Nat) : Int) = z := ⟨_, rfl⟩
        rw [hbs, hz]
        clear hbs
        rintro e W3 ⟨rfl, hb3⟩
        obtain ⟨b, hb⟩ : ∃ b, bt l a (s + 1) = b := ⟨_, rfl⟩
        rw [hb]
        have Hb := Lib.hid hb
        have hb16 : b < 65536 := by
          have h1 := bt_lt l a (s + 1)
          have h2 : 2 ^ (s + 1) ≤ 2 ^ 15 := Nat.pow_le_pow_right (by decide) (by omega)
          have h3 : (2 : Nat) ^ 15 = 32768 := rfl
          omega
        have hg3 := (hb3.block G (lt_heap hg2.out)).trans hg2.out
        have f0 : W3.frozen? ⟨G, 0, none⟩ = false := by simp [World.frozen?, hg3]
        have f1 : W3.frozen? ⟨G, 1, none⟩ = false := by simp [World.frozen?, hg3]
        have e0 : W3.cell? ⟨G, 0, none⟩ = some (.int .u16 (bt l a s : Int)) := cell_heap hg3 rfl
        have e1 : W3.cell? ⟨G, 1, none⟩ = some (.int .u16 (s : Int)) := cell_heap hg3 rfl
        obtain ⟨W4, hW4⟩ : ∃ W4, ((W3.setCell ⟨G, 0, none⟩ (.int .u16 (b : Int))).setCell ⟨G, 1, none⟩ (.int .u16 z)).drew = W4 := ⟨_, rfl⟩
        have hg4 : Hid (W4.heap[G]? = some (.cells #[.int .u16 (b : Int), .int .u16 z] 254)) := Lib.hid (by rw [← hW4]; exact two_set1 _ (two_set0 _ hg3))
        have ht4 : Turns (fun i => i = G) W2 W4 := by
          rw [← hW4]
          have h1 : Turns (fun i => i = G) W2 ((W3.setCell ⟨G, 0, none⟩ (.int .u16 (b : Int))).setCell ⟨G, 1, none⟩ (.int .u16 z)) := Turns.set (T := fun i => i = G) (p := ⟨G, 1, none⟩) (Turns.set (T := fun i => i = G) (p := ⟨G, 0, none⟩) (Turns.of_below' hb3) rfl _) rfl _
          exact ⟨h1.os, h1.tape, h1.output, h1.size, h1.block⟩
        have HR4 := Lib.hid (HR2.out.turns ht4 (by omega) (fun k hk e => by have := HS.out k hk; omega))
        have HT4 := Lib.hid (HT2.out.turns ht4 (by omega) (by omega))
        have HW4 : Hid (Turns (fun i => i = B) w W4) := Lib.hid (HW2.out.trans' ht4 (fun i hi e => by omega))
        have HGw4 : Hid (G < W4.heap.size) := Lib.hid (lt_heap hg4.out)
        have hlook := HT4.out.map.look (k := (b, s + 1)) hb16 (by show s + 1 < 65536; omega)
        unfold ck at hlook
        simp only [hz] at hlook
        have Hz := Lib.hid hz
        have HHb := Lib.hid hb3
        have HW4e := Lib.hid hW4
        obtain ⟨o, ho⟩ : ∃ o, F (b, s + 1) = o := ⟨_, rfl⟩
        rw [ho] at hlook
        have Ho := Lib.hid ho
        clear hb hb3 hg3 ht4 hW4 ho HR2 HW2 HT2 hg2
        clear hz
        have e2 : W4.cell? ⟨T, 0, none⟩ = some (.map (some M)) := cell_heap HT4.out.tab rfl
        have e3 : W4.cell? ⟨G, 0, none⟩ = some (.int .u16 (b : Int)) := cell_heap hg4.out rfl
        have e4 : W4.cell? ⟨G, 1, none⟩ = some (.int .u16 z) := cell_heap hg4.out rfl
        go_wp2_with fail
        refine wp_region_still_lit (by kernel_rfl) (by kernel_rfl) ?_
        change wpStill _ _ (((W3.setCell ⟨G, 0, none⟩ (.int .u16 (b : Int))).setCell ⟨G, 1, none⟩ (.int .u16 z)).drew) (fun a' => Exit.then _ _ .normal a' (((W3.setCell ⟨G, 0, none⟩ (.int .u16 (b : Int))).setCell ⟨G, 1, none⟩ (.int .u16 z)).drew)) _ _
        rw [HW4e.out]
        clear e0 e1 f0 f1
        cases o with
        | some y =>
          repeat still_step
          refine wpStill_nil ?_
          go_wp2
          go_ret2
          exact ⟨y, 0, s + 1, rfl, ⟨fun t h1 h2 => HN.out t h1 (by omega), ⟨by omega, by omega⟩, .inl ⟨rfl, by omega, by rw [Hb.out]; exact Ho.out⟩⟩, HR4.out, HT4.out, HW4.out⟩
        | none =>
          repeat still_step
          refine wpStill_nil ?_
          go_wp2
          go_roundw
          case rel =>
            refine ⟨s + 1, by rw [Hb.out, Hz.out]; exact hg4.out, by omega, by omega, Lib.hid fun t h1 h2 => ?_, HR4, HT4, HW4, HGw4.out⟩
            rcases Nat.lt_or_ge s t with h3 | h3
            · obtain rfl : t = s + 1 := by omega
              rw [Hb.out]; exact Ho.out
            · exact HN.out t h1 h3
          case measure =>
            rw [cell_heap hg4.out rfl, ← Hz.out]
            simp [intOf]; omega
      · go_wp2_with fail
        refine Calls.mono (get_few B (a + s) 1 sv l W1 HR1.out (by omega) (by omega)) ?_
        rintro e W2 ⟨rfl, hb2⟩
        have HR2 := Lib.hid (HR1.out.below hb2)
        have HT2 := Lib.hid (HT1.out.turns (N := fun _ => False) (Turns.of_below' hb2) (fun h => h) (fun h => h))
        have HW2 := Lib.hid (HW1.out.trans (Turns.of_below' hb2))
        clear hb2 c1 c2
        go_wp2
        go_ret2
        exact ⟨0, 50, s, rfl, ⟨fun t h1 h2 => HN.out t h1 (by omega), ⟨by omega, by omega⟩, .inr (.inr ⟨rfl, rfl, hlt, by omega, fun h => HN.out s h (Nat.le_refl _)⟩)⟩, HR2.out, HT2.out, HW2.out⟩
    · obtain rfl : s = L := by omega
      change wpStill _ _ wr.drew (fun a' => Exit.then _ _ .normal a' wr.drew) _ _
      clear hbd HR HT HW hg
      generalize wr.drew = W1 at *
      repeat still_step
      refine wpStill_nil ?_
      go_wp2
      go_ret2
      exact ⟨0, 60, s, rfl, ⟨fun t h1 h2 => HN.out t h1 (by omega), ⟨by omega, by omega⟩, .inr (.inl ⟨rfl, rfl, rfl, fun h => HN.out s h (Nat.le_refl _)⟩)⟩, HR1.out, HT1.out, HW1.out⟩

end Go.Proofs.YtebfdoipogjpnaaGreat
