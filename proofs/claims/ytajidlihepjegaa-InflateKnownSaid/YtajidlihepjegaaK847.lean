/- Several texts in one, each with its own head. -/
import Derived.Test.YtajidlihepjegaaK846
/- For the closed statement of inflate: its examples, as they lie in memory. -/
namespace Go.Proofs.Ytajidlihepjegaa
open Go.RowKit Go.Maps

/-- A block of bytes. -/
def objB (l : List Nat) : Obj := .cells (l.map u8v).toArray 5
theorem row_blockI {W : World} {b : Nat} {ls : List Nat} (h : W.heap[b]? = some (objB ls)) (hl : ls.length ≤ 1048576) : Row enc8 1 W (.slice (some ⟨b, 0, none⟩) ls.length ls.length) ls := by
  refine ⟨_, _, rfl, Nat.le_refl _, by simp only [maxLen]; omega, .inr ⟨b, 0, rfl, lt_heap h, fun i x hx j u hu => ?_⟩⟩
  have hj : j = 0 := by
    have := (List.getElem?_eq_some_iff.1 hu).1
    rw [enc8_len] at this
    omega
  subst hj
  refine cell_heap h ?_
  have e : u = u8v x := by
    have h5 : (enc8 x)[0]? = some (u8v x) := rfl
    rw [h5] at hu
    injection hu with hu
    exact hu.symm
  rw [List.getElem?_toArray, List.getElem?_map, e]
  rw [show 0 + i * 1 + 0 = i by omega, hx]; rfl

/-- A row of the examples. -/
structure RowX (W : World) (B i : Nat) (p : Option Addr) (l o : List Nat) (k : Nat) (e : Int) : Prop where
  c0 : W.cell? ⟨B, i * 4, none⟩ = some (.slice p l.length l.length)
  c1 : W.cell? ⟨B, i * 4 + 1, none⟩ = some (.string (strI o))
  c2 : W.cell? ⟨B, i * 4 + 2, none⟩ = some (.int .i64 (k : Int))
  c3 : W.cell? ⟨B, i * 4 + 3, none⟩ = some (.int .i64 e)
  row : Rw8 W (.slice p l.length l.length) l
  b : ∀ x ∈ l, x < 256
  len : l.length ≤ 13
  infl : Infl l 100 o k e

theorem rowX_of {W : World} {B i b n k : Nat} {l o : List Nat} {e : Int} {s : ByteArray} (h : W.heap[b]? = some (objB l)) (hl : l.length = n) (hs : strI o = s)
    (c0 : W.cell? ⟨B, i * 4, none⟩ = some (.slice (some ⟨b, 0, none⟩) n n)) (c1 : W.cell? ⟨B, i * 4 + 1, none⟩ = some (.string s)) (c2 : W.cell? ⟨B, i * 4 + 2, none⟩ = some (.int .i64 (k : Int))) (c3 : W.cell? ⟨B, i * 4 + 3, none⟩ = some (.int .i64 e))
    (hb : ∀ x ∈ l, x < 256) (len : n ≤ 13) (hi : Infl l 100 o k e) : RowX W B i (some ⟨b, 0, none⟩) l o k e := by
  subst hl
  subst hs
  exact ⟨c0, c1, c2, c3, ⟨row_blockI h (by omega), fun c h => by cases h⟩, hb, len, hi⟩

theorem rowX_nil {W : World} {B i : Nat} {s : ByteArray} (hs : strI [] = s)
    (c0 : W.cell? ⟨B, i * 4, none⟩ = some (.slice none 0 0)) (c1 : W.cell? ⟨B, i * 4 + 1, none⟩ = some (.string s)) (c2 : W.cell? ⟨B, i * 4 + 2, none⟩ = some (.int .i64 0)) (c3 : W.cell? ⟨B, i * 4 + 3, none⟩ = some (.int .i64 50)) : RowX W B i none [] [] 0 50 := by
  subst hs
  exact ⟨c0, c1, c2, c3, ⟨⟨none, 0, rfl, Nat.le_refl _, by simp [maxLen], .inl ⟨rfl, rfl⟩⟩, fun c h => by cases h; rfl⟩, by decide, by decide, kn6_i⟩

def nObjs (B : Nat) : List Obj := [objB [1, 3, 0, 252, 255, 97, 98, 99], objB [75, 76, 74, 6, 0], objB [75, 4], objB [1, 3, 0, 253, 255, 97, 98, 99], objB [7], objB [1, 3, 0, 252, 255, 97, 98], objB [0, 1, 0, 254, 255, 120, 1, 1, 0, 254, 255, 121, 9], objB [3, 0], objB [1],
  .cells #[.slice (some ⟨B, 0, none⟩) 8 8, .string { data := #[97, 98, 99] }, .int .i64 8, .int .i64 0, .slice (some ⟨(B + 1), 0, none⟩) 5 5, .string { data := #[97, 98, 99] }, .int .i64 5, .int .i64 0, .slice (some ⟨(B + 2), 0, none⟩) 2 2, .string { data := #[] }, .int .i64 0, .int .i64 50, .slice (some ⟨(B + 3), 0, none⟩) 8 8, .string { data := #[] }, .int .i64 0, .int .i64 80, .slice (some ⟨(B + 4), 0, none⟩) 1 1, .string { data := #[] }, .int .i64 0, .int .i64 80, .slice none 0 0, .string { data := #[] }, .int .i64 0, .int .i64 50, .slice (some ⟨(B + 5), 0, none⟩) 7 7, .string { data := #[] }, .int .i64 0, .int .i64 50, .slice (some ⟨(B + 6), 0, none⟩) 13 13, .string { data := #[120, 121] }, .int .i64 12, .int .i64 0, .slice (some ⟨(B + 7), 0, none⟩) 2 2, .string { data := #[] }, .int .i64 2, .int .i64 0, .slice (some ⟨(B + 8), 0, none⟩) 1 1, .string { data := #[] }, .int .i64 0, .int .i64 50] 41]

theorem n_world (w : World) : World.alloc (World.alloc (World.alloc (World.alloc (World.alloc (World.alloc (World.alloc (World.alloc (World.alloc (World.alloc w (.cells #[.int .u8 1, .int .u8 3, .int .u8 0, .int .u8 252, .int .u8 255, .int .u8 97, .int .u8 98, .int .u8 99] 5)) (.cells #[.int .u8 75, .int .u8 76, .int .u8 74, .int .u8 6, .int .u8 0] 5)) (.cells #[.int .u8 75, .int .u8 4] 5)) (.cells #[.int .u8 1, .int .u8 3, .int .u8 0, .int .u8 253, .int .u8 255, .int .u8 97, .int .u8 98, .int .u8 99] 5)) (.cells #[.int .u8 7] 5)) (.cells #[.int .u8 1, .int .u8 3, .int .u8 0, .int .u8 252, .int .u8 255, .int .u8 97, .int .u8 98] 5)) (.cells #[.int .u8 0, .int .u8 1, .int .u8 0, .int .u8 254, .int .u8 255, .int .u8 120, .int .u8 1, .int .u8 1, .int .u8 0, .int .u8 254, .int .u8 255, .int .u8 121, .int .u8 9] 5)) (.cells #[.int .u8 3, .int .u8 0] 5)) (.cells #[.int .u8 1] 5)) (.cells #[.slice (some ⟨w.heap.size, 0, none⟩) 8 8, .string { data := #[97, 98, 99] }, .int .i64 8, .int .i64 0, .slice (some ⟨w.heap.size + 1, 0, none⟩) 5 5, .string { data := #[97, 98, 99] }, .int .i64 5, .int .i64 0, .slice (some ⟨w.heap.size + 1 + 1, 0, none⟩) 2 2, .string { data := #[] }, .int .i64 0, .int .i64 50, .slice (some ⟨w.heap.size + 1 + 1 + 1, 0, none⟩) 8 8, .string { data := #[] }, .int .i64 0, .int .i64 80, .slice (some ⟨w.heap.size + 1 + 1 + 1 + 1, 0, none⟩) 1 1, .string { data := #[] }, .int .i64 0, .int .i64 80, .slice none 0 0, .string { data := #[] }, .int .i64 0, .int .i64 50, .slice (some ⟨w.heap.size + 1 + 1 + 1 + 1 + 1, 0, none⟩) 7 7, .string { data := #[] }, .int .i64 0, .int .i64 50, .slice (some ⟨w.heap.size + 1 + 1 + 1 + 1 + 1 + 1, 0, none⟩) 13 13, .string { data := #[120, 121] }, .int .i64 12, .int .i64 0, .slice (some ⟨w.heap.size + 1 + 1 + 1 + 1 + 1 + 1 + 1, 0, none⟩) 2 2, .string { data := #[] }, .int .i64 2, .int .i64 0, .slice (some ⟨w.heap.size + 1 + 1 + 1 + 1 + 1 + 1 + 1 + 1, 0, none⟩) 1 1, .string { data := #[] }, .int .i64 0, .int .i64 50] 41) = (nObjs w.heap.size).foldl World.alloc w := rfl

theorem n_rows {w W : World} (h : (nObjs w.heap.size).foldl World.alloc w = W) : ∀ i, i < 10 → ∃ p l o k e, RowX W (w.heap.size + 9) i p l o k e := by
  subst h
  intro i hi
  obtain ⟨B, hB⟩ : ∃ B, w.heap.size = B := ⟨_, rfl⟩
  have hp : ∀ (i : Nat) (o : Obj), (nObjs B)[i]? = some o → ((nObjs B).foldl World.alloc w).heap[B + i]? = some o := fun i o ho => by
    have := (heap_pushed (nObjs B) w i o).2 ho
    rwa [hB] at this
  rw [hB]
  have hT := hp 9 _ rfl
  have hi : i = 0 ∨ i = 1 ∨ i = 2 ∨ i = 3 ∨ i = 4 ∨ i = 5 ∨ i = 6 ∨ i = 7 ∨ i = 8 ∨ i = 9 := by omega
  rcases hi with rfl | rfl | rfl | rfl | rfl | rfl | rfl | rfl | rfl | rfl
  · exact ⟨_, _, _, _, _, rowX_of (l := [1, 3, 0, 252, 255, 97, 98, 99]) (o := [97, 98, 99]) (k := 8) (hp 0 _ rfl) rfl (by decide +kernel) (cell_heap hT rfl) (cell_heap hT rfl) (cell_heap hT rfl) (cell_heap hT rfl) (by decide) (by decide) kn1_i⟩
  · exact ⟨_, _, _, _, _, rowX_of (l := [75, 76, 74, 6, 0]) (o := [97, 98, 99]) (k := 5) (hp 1 _ rfl) rfl (by decide +kernel) (cell_heap hT rfl) (cell_heap hT rfl) (cell_heap hT rfl) (cell_heap hT rfl) (by decide) (by decide) kn2_i⟩
  · exact ⟨_, _, _, _, _, rowX_of (l := [75, 4]) (o := []) (k := 0) (hp 2 _ rfl) rfl (by decide +kernel) (cell_heap hT rfl) (cell_heap hT rfl) (cell_heap hT rfl) (cell_heap hT rfl) (by decide) (by decide) kn3_i⟩
  · exact ⟨_, _, _, _, _, rowX_of (l := [1, 3, 0, 253, 255, 97, 98, 99]) (o := []) (k := 0) (hp 3 _ rfl) rfl (by decide +kernel) (cell_heap hT rfl) (cell_heap hT rfl) (cell_heap hT rfl) (cell_heap hT rfl) (by decide) (by decide) kn4_i⟩
  · exact ⟨_, _, _, _, _, rowX_of (l := [7]) (o := []) (k := 0) (hp 4 _ rfl) rfl (by decide +kernel) (cell_heap hT rfl) (cell_heap hT rfl) (cell_heap hT rfl) (cell_heap hT rfl) (by decide) (by decide) kn5_i⟩
  · exact ⟨none, [], [], 0, 50, rowX_nil (s := { data := #[] }) (by decide +kernel) (cell_heap hT rfl) (cell_heap hT rfl) (cell_heap hT rfl) (cell_heap hT rfl)⟩
  · exact ⟨_, _, _, _, _, rowX_of (l := [1, 3, 0, 252, 255, 97, 98]) (o := []) (k := 0) (hp 5 _ rfl) rfl (by decide +kernel) (cell_heap hT rfl) (cell_heap hT rfl) (cell_heap hT rfl) (cell_heap hT rfl) (by decide) (by decide) kn7_i⟩
  · exact ⟨_, _, _, _, _, rowX_of (l := [0, 1, 0, 254, 255, 120, 1, 1, 0, 254, 255, 121, 9]) (o := [120, 121]) (k := 12) (hp 6 _ rfl) rfl (by decide +kernel) (cell_heap hT rfl) (cell_heap hT rfl) (cell_heap hT rfl) (cell_heap hT rfl) (by decide) (by decide) kn8_i⟩
  · exact ⟨_, _, _, _, _, rowX_of (l := [3, 0]) (o := []) (k := 2) (hp 7 _ rfl) rfl (by decide +kernel) (cell_heap hT rfl) (cell_heap hT rfl) (cell_heap hT rfl) (cell_heap hT rfl) (by decide) (by decide) (kn9_at 100 (by decide))⟩
  · exact ⟨_, _, _, _, _, rowX_of (l := [1]) (o := []) (k := 0) (hp 8 _ rfl) rfl (by decide +kernel) (cell_heap hT rfl) (cell_heap hT rfl) (cell_heap hT rfl) (cell_heap hT rfl) (by decide) (by decide) kn10_i⟩

/-- A literal of bytes. -/
theorem row_litI (w : World) (l : List Nat) (h : l.length ≤ 1000) : Rw8 (w.alloc (.cells (l.map u8v).toArray 5)) (.slice (some ⟨w.heap.size, 0, none⟩) l.length l.length) l :=
  Rw8.own (base := w.heap.size) (World.ownsRow_lit w (l.map u8v).toArray l.length (Nat.le_refl _) (by simp only [maxLen]; omega) (by simp)) rfl

end Go.Proofs.Ytajidlihepjegaa

/- The walk of what InflateKnown asks of streams that are laid with one thing wrong. -/
namespace Go.Proofs.Ytajidlihepjegaa
open Go.RowKit Go.Maps

theorem pow24 {v n : Nat} (h : v < 2 ^ n) (hn : n ≤ 24) : v < 16777216 :=
  Nat.lt_of_lt_of_le h (Nat.pow_le_pow_right (by omega) hn)

set_option maxRecDepth 20000 in
set_option maxHeartbeats 4000000 in
theorem iwrong_law (w : World) : Makes Try.prog 12 #[] w (.bool true) := by
  unfold Makes
  go_enter Try.func12, Try.ntmps12
  go_upto_region 2 with (fail)
  rw [w_world w]
  have hrows := w_rows (w := w) rfl
  obtain ⟨hb5, hs5⟩ := w_keeps (wObjs w.heap.size) w
  generalize (wObjs w.heap.size).foldl World.alloc w = W5 at *
  generalize hBB : w.heap.size + 1 + 1 + 1 + 1 + 1 + 1 + 1 + 1 + 1 + 1 + 1 + 1 + 1 + 1 + 1 + 1 + 1 + 1 + 1 + 1 = BB
  have hB : w.heap.size + 20 = BB := hBB
  rw [hB] at hrows
  iterate 10 (generalize Value.agg _ = z)
  iterate 19 (generalize Value.slice (some ⟨_ + 1, 0, none⟩) _ _ = z)
  generalize Value.slice (some ⟨w.heap.size, 0, none⟩) 2 2 = z
  have Hrows := Lib.hid hrows
  have Hb5 := Lib.hid hb5
  clear hrows hb5 hs5 hB hBB
  go_wp2_with fail
  go_loopw [2] (fun iv wr => ∃ i : Nat, iv = .int .i64 (i : Int) ∧ i ≤ 10 ∧ Hid (Below W5.heap.size W5 wr)) (fun iv _ => 10 - (intOf iv).toNat)
  case atStart => exact ⟨0, rfl, Nat.zero_le _, Lib.hid (Below.refl _ _)⟩
  case round =>
    obtain ⟨i, rfl, hi, HB⟩ := hrel
    by_cases hin : i < 10
    · have d1 : decide ((i : Int) < 10) = true := by simp; omega
      obtain ⟨bv, bn, vs, ns, e, HK⟩ := Hrows.out i hin
      have HK := Lib.hid HK
      have i0 : (0 : Int) ≤ (i : Int) := by omega
      have i1 : (i : Int) < 10 := by omega
      go_wp2_with fail
      go_loopw [4] (fun kv wr' => ∃ k : Nat, kv = .int .i64 (k : Int) ∧ k ≤ vs.length ∧ Hid (WrI wr.heap.size (wr.heap.size + 1) wr.heap.size (nmW vs ns k) (szW ns k) wr wr')) (fun kv _ => vs.length - (intOf kv).toNat)
      case atStart => exact ⟨0, rfl, Nat.zero_le _, Lib.hid (WrI.new wr)⟩
      case round =>
        obtain ⟨k, rfl, hkl, HW⟩ := hrel
        have HB2 := Lib.hid (Below.thn HB.out HW.out.keeps)
        have c0 := cell_later HB2.out HK.out.c0
        have hlen := HK.out.len
        have hsz := szW_le (fun k hk => (HK.out.ok k hk).2) k hkl
        by_cases hkn : k < vs.length
        · have d2 : decide ((k : Int) < (vs.length : Int)) = true := by simp; omega
          have c1 := cell_later HB2.out HK.out.c1
          have xv := cell_later HB2.out (HK.out.v k hkn)
          have xn := cell_later HB2.out (HK.out.n k hkn)
          obtain ⟨ok1, ok2⟩ := HK.out.ok k hkn
          have hk13 : k ≤ 13 := by omega
          have k0 : (0 : Int) ≤ (k : Int) := by omega
          have k1 : (k : Int) < (vs.length : Int) := by omega
          obtain ⟨x, hx⟩ : ∃ x, lq vs k = x := ⟨_, rfl⟩
          obtain ⟨n, hn⟩ : ∃ n, lq ns k = n := ⟨_, rfl⟩
          obtain ⟨N, hN⟩ : ∃ N, nmW vs ns k = N := ⟨_, rfl⟩
          obtain ⟨z, hz⟩ : ∃ z, szW ns k = z := ⟨_, rfl⟩
          rw [hx] at xv ok1
          rw [hn] at xn ok1 ok2
          rw [hN, hz] at HW
          rw [hz] at hsz
          have hX := pow24 ok1 ok2
          have hxw : IntKind.u32.wrap (x : Int) = (x : Int) := IntWalk.u32_in _ (by omega)
          have hmax : z + n ≤ 8388608 := by omega
          have Hh := Lib.hid hx
          have Hn := Lib.hid hn
          have HN := Lib.hid hN
          have Hz := Lib.hid hz
          have Hok := Lib.hid ok1
          have Hok2 := Lib.hid ok2
          have Hmax := Lib.hid hmax
          clear hx hn hN hz ok1 ok2 hmax hX hsz hlen
          go_upto_region 9 with (fail)
          have hqq := After.ne wr
          have C0 := After.rule c0
          have C1 := After.rule c1
          have C2 := After.rule xv
          have C3 := After.rule xn
          refine wp_region_head 17 (by kernel_rfl) (by kernel_rfl) (by kernel_rfl) ?_
          repeat (refine Lq_step (fun K hK => ?_); go_simp; (refine hK _ ?_; clear hK K))
          refine Lq_nil ?_
          intro w2 hb2
          simp only [List.drop_succ_cons, List.drop_zero]
          have HW2 := Lib.hid (HW.out.below hb2)
          clear C0 C1 C2 C3 hqq hb2 c0 c1 xv xn
          go_wp2_with fail
          refine Calls.mono (putI_ok HW2.out Hok.out Hok2.out Hmax.out) ?_
          rintro _ w3 ⟨rfl, h3⟩
          have H3 := Lib.hid h3
          clear h3
          go_wp2
          go_roundw
          case rel => exact ⟨k + 1, by go_num, by omega, Lib.hid (by rw [nmW, szW, Hh.out, Hn.out, HN.out, Hz.out]; exact H3.out)⟩
          case measure => simp [intOf]; omega
        · obtain rfl : k = vs.length := by omega
          have hL := HK.out.infl
          obtain ⟨L, hLe⟩ : ∃ L, byts (nmW vs ns vs.length) ((szW ns vs.length + 7) / 8) = L := ⟨_, rfl⟩
          rw [hLe] at hL
          have hLb : ∀ b ∈ L, b < 256 := by rw [← hLe]; exact byts_lt _ _
          have hLl : L.length ≤ 1073741824 := by rw [← hLe, byts_len]; omega
          have Hcall := Lib.hid (bytesI HW.out)
          rw [hLe] at Hcall
          have HL := Lib.hid hL
          have HLb := Lib.hid hLb
          have HLl := Lib.hid hLl
          clear hLe hL hLb hLl hsz hlen
          go_wp2_with fail
          refine Calls.mono Hcall.out ?_
          rintro _ w3 ⟨v3, rfl, ho3, hb3⟩
          have Hr3 := Lib.hid (Rw8.own ho3 rfl)
          obtain ⟨p3, c3, rfl⟩ := owns_slice ho3
          have HB3 := Lib.hid (Below.thn HB2.out hb3)
          clear ho3 hb3 c0
          go_wp2_with fail
          refine Calls.mono (infl_any _ _ 100 _ Hr3.out HLb.out HLl.out) ?_
          rintro _ w4 ⟨o, kk, er, ov, hi4, rfl, ho4, hb4⟩
          obtain ⟨rfl, rfl, rfl⟩ := hi4.det HL.out
          obtain ⟨p4, c4, rfl⟩ := owns_slice ho4
          have HB4 := Lib.hid (Below.thn HB3.out hb4)
          have c2 := cell_later HB4.out HK.out.c2
          have ec' : (er != er) = false := by simp
          have ec : (er == er) = true := by simp
          clear ho4 hb4 hi4
          simp only [List.length_nil]
          go_wp2
          go_roundw
          case rel => exact ⟨i + 1, by go_num, by omega, HB4⟩
          case measure => simp [intOf]; omega
    · obtain rfl : i = 10 := by omega
      go_wp2
      go_ret
      exact ⟨rfl, Hb5.out.trans (HB.out.mono Hb5.out.size)⟩

end Go.Proofs.Ytajidlihepjegaa
