/- tiles: sums. -/
import Derived.Test.YtajoipmchgabfaaGreatT34
import Derived.Test.YtajoipmchgabfaaGreatT31
import Derived.Test.YtajoipmchgabfaaGreatT4
import Derived.Deep.QuietTactic
import Derived.BigQuiet
namespace Go.Proofs.YtajoipmchgabfaaGreat
open Go.RowKit

/-- A pixel in memory. -/
def encW (n : Int) : List Value := [.int .u32 n]
theorem w32_info : (Tryz.prog.info? 38).map (fun i => (i.zero, i.size, i.bytes)) = some (some (.int .u32 0), 1, 4) := by kernel_rfl
theorem RowAt.w32_at {w : World} {p : Option Addr} {l : List Int} (h : RowAt encW 1 w p l) {k : Nat} (hk : k < l.length) : ∃ b off, p = some ⟨b, off, none⟩ ∧ ∀ w', Below w.heap.size w w' → w'.cell? ⟨b, off + k, none⟩ = some (.int .u32 l[k]) := by
  rcases h with ⟨_, rfl⟩ | ⟨b, off, rfl, hb, hc⟩
  · simp at hk
  · refine ⟨b, off, rfl, fun w' hbw => ?_⟩
    have h1 := hc k l[k] (List.getElem?_eq_getElem hk) 0 (.int .u32 l[k]) rfl
    exact cell_later hbw (by simpa using h1)

/-- One byte, one pixel, into a sum. -/
def st1 (s b : Int) : Int := (bits .xor .u32 s b * 16777619) % 4294967296
def px3 (s c : Int) : Int := st1 (st1 (st1 s (c / 65536 % 256)) (c / 256 % 256)) (c % 256)
def pxk (s c : Int) : Nat → Int
  | 0 => s
  | 1 => st1 s (c / 65536 % 256)
  | 2 => st1 (st1 s (c / 65536 % 256)) (c / 256 % 256)
  | _ => px3 s c

theorem st1_eq (s x : Int) : IntKind.u32.wrap (bits .xor .u32 s (IntKind.u32.wrap (IntKind.u8.wrap x)) * 16777619) = st1 s (x % 256) := by
  unfold st1
  rw [IntKind.wrap_u8, IntKind.wrap_u32, IntKind.wrap_u32, Int.emod_eq_of_lt (by omega) (by omega : x % 256 < 4294967296)]

set_option maxHeartbeats 1000000 in
theorem sum1_any (c s : Int) (B : Nat) (w : World) (hcell : w.cell? ⟨B, 0, none⟩ = some (.int .u32 s)) (hfree : w.frozen? ⟨B, 0, none⟩ = false) :
    Calls Tryz.prog 50 #[.int .u32 c, .pointer (some ⟨B, 0, none⟩)] w fun e w' => e = .returned (.int .u32 (px3 s c)) ∧ w'.cell? ⟨B, 0, none⟩ = some (.int .u32 (px3 s c)) ∧ w'.frozen? ⟨B, 0, none⟩ = false ∧ Turns (fun b => b = B) w w' := by
  go_enter Tryz.func50, Tryz.ntmps50
  go_wp2_with fail
  go_loopw [4] (fun sv wr => ∃ k : Nat, k ≤ 3 ∧ sv = .int .i64 (16 - 8 * (k : Int)) ∧ wr.cell? ⟨B, 0, none⟩ = some (.int .u32 (pxk s c k)) ∧ wr.frozen? ⟨B, 0, none⟩ = false ∧ Turns (fun b => b = B) w wr) (fun sv _ => (intOf sv + 8).toNat)
  case atStart => exact ⟨0, by omega, rfl, hcell, hfree, Turns.refl _ _⟩
  case round =>
    obtain ⟨k, hk, rfl, h1, h2, h3⟩ := hrel
    have H3 := Lib.hid h3
    have h2' := h2
    clear h3
    rcases (by omega : k = 0 ∨ k = 1 ∨ k = 2 ∨ k = 3) with rfl | rfl | rfl | rfl
    · rw [show (16 - 8 * ((0 : Nat) : Int)) = 16 from rfl]
      unfold pxk at h1
      go_wp2_with fail
      have hqq := After.ne wr
      have C0 := After.rule h1
      refine wp_region_head 8 (by kernel_rfl) (by kernel_rfl) (by kernel_rfl) ?_
      repeat (refine Lq_step (fun K hK => ?_); go_simp; (refine hK _ ?_; clear hK K))
      refine Lq_nil ?_
      intro w' hb
      simp only [List.drop_succ_cons, List.drop_zero]
      have x1 := cell_later hb h1
      have x2 := (Turns.of_below' (T := fun _ => False) hb).free h1 h2 (fun h => h)
      have H4 := Lib.hid (H3.out.trans (Turns.of_below' (T := fun b => b = B) hb))
      clear hb hqq C0 h1 h2 h2' H3
      rw [st1_eq]
      go_wp2
      have y1 : (w'.setCell ⟨B, 0, none⟩ (.int .u32 (st1 s (c / 65536 % 256)))).cell? ⟨B, 0, none⟩ = some (.int .u32 (st1 s (c / 65536 % 256))) := by simp [go_sem, x1]
      have y2 : (w'.setCell ⟨B, 0, none⟩ (.int .u32 (st1 s (c / 65536 % 256)))).frozen? ⟨B, 0, none⟩ = false := by simp [go_sem, x2]
      go_roundw
      case rel => exact ⟨1, by omega, rfl, y1, y2, H4.out.set (p := ⟨B, 0, none⟩) rfl _⟩
      case measure => simp [intOf]
    · rw [show (16 - 8 * ((1 : Nat) : Int)) = 8 from rfl]
      unfold pxk at h1
      go_wp2_with fail
      have hqq := After.ne wr
      have C0 := After.rule h1
      refine wp_region_head 8 (by kernel_rfl) (by kernel_rfl) (by kernel_rfl) ?_
      repeat (refine Lq_step (fun K hK => ?_); go_simp; (refine hK _ ?_; clear hK K))
      refine Lq_nil ?_
      intro w' hb
      simp only [List.drop_succ_cons, List.drop_zero]
      have x1 := cell_later hb h1
      have x2 := (Turns.of_below' (T := fun _ => False) hb).free h1 h2 (fun h => h)
      have H4 := Lib.hid (H3.out.trans (Turns.of_below' (T := fun b => b = B) hb))
      clear hb hqq C0 h1 h2 h2' H3
      rw [st1_eq]
      go_wp2
      have y1 : (w'.setCell ⟨B, 0, none⟩ (.int .u32 (st1 (st1 s (c / 65536 % 256)) (c / 256 % 256)))).cell? ⟨B, 0, none⟩ = some (.int .u32 (st1 (st1 s (c / 65536 % 256)) (c / 256 % 256))) := by simp [go_sem, x1]
      have y2 : (w'.setCell ⟨B, 0, none⟩ (.int .u32 (st1 (st1 s (c / 65536 % 256)) (c / 256 % 256)))).frozen? ⟨B, 0, none⟩ = false := by simp [go_sem, x2]
      go_roundw
      case rel => exact ⟨2, by omega, rfl, y1, y2, H4.out.set (p := ⟨B, 0, none⟩) rfl _⟩
      case measure => simp [intOf]
    · rw [show (16 - 8 * ((2 : Nat) : Int)) = 0 from rfl]
      unfold pxk at h1
      go_wp2_with fail
      have hqq := After.ne wr
      have C0 := After.rule h1
      refine wp_region_head 8 (by kernel_rfl) (by kernel_rfl) (by kernel_rfl) ?_
      repeat (refine Lq_step (fun K hK => ?_); go_simp; (refine hK _ ?_; clear hK K))
      refine Lq_nil ?_
      intro w' hb
      simp only [List.drop_succ_cons, List.drop_zero]
      have x1 := cell_later hb h1
      have x2 := (Turns.of_below' (T := fun _ => False) hb).free h1 h2 (fun h => h)
      have H4 := Lib.hid (H3.out.trans (Turns.of_below' (T := fun b => b = B) hb))
      clear hb hqq C0 h1 h2 h2' H3
      rw [st1_eq]
      go_wp2
      have y1 : (w'.setCell ⟨B, 0, none⟩ (.int .u32 (st1 (st1 (st1 s (c / 65536 % 256)) (c / 256 % 256)) (c % 256)))).cell? ⟨B, 0, none⟩ = some (.int .u32 (st1 (st1 (st1 s (c / 65536 % 256)) (c / 256 % 256)) (c % 256))) := by simp [go_sem, x1]
      have y2 : (w'.setCell ⟨B, 0, none⟩ (.int .u32 (st1 (st1 (st1 s (c / 65536 % 256)) (c / 256 % 256)) (c % 256)))).frozen? ⟨B, 0, none⟩ = false := by simp [go_sem, x2]
      go_roundw
      case rel => exact ⟨3, by omega, rfl, y1, y2, H4.out.set (p := ⟨B, 0, none⟩) rfl _⟩
      case measure => simp [intOf]
    · rw [show (16 - 8 * ((3 : Nat) : Int)) = -8 from rfl]
      unfold pxk at h1
      go_wp2
      go_ret
      exact ⟨rfl, h1, h2', H3.out⟩

/-- A tile's pixels, row by row, into a sum. -/
def rwP (wd x a q : Nat) (L : List Int) : List Int := (L.drop (q * wd + x)).take a
def smF (wd x y a : Nat) (L : List Int) : Nat → Int
  | 0 => 2166136261
  | j + 1 => (rwP wd x a (y + j) L).foldl px3 (smF wd x y a L j)
def smP (wd x y a : Nat) (L : List Int) (j i : Nat) : Int := ((rwP wd x a (y + j) L).take i).foldl px3 (smF wd x y a L j)

theorem smP_zero (wd x y a : Nat) (L : List Int) (j : Nat) : smP wd x y a L j 0 = smF wd x y a L j := by unfold smP; simp
theorem smP_step {wd x y a : Nat} {L : List Int} {j i : Nat} (hi : i < a) {v : Int} (hv : L[(y + j) * wd + x + i]? = some v) : smP wd x y a L j (i + 1) = px3 (smP wd x y a L j i) v := by
  have h1 : (rwP wd x a (y + j) L)[i]? = some v := by
    unfold rwP
    rw [List.getElem?_take, if_pos hi, List.getElem?_drop]
    exact hv
  obtain ⟨hlt, h2⟩ := List.getElem?_eq_some_iff.1 h1
  unfold smP
  rw [List.take_succ_eq_append_getElem hlt, List.foldl_append, h2]
  rfl
theorem smP_all {wd x y a : Nat} {L : List Int} {j : Nat} : smP wd x y a L j a = smF wd x y a L (j + 1) := by
  have : (rwP wd x a (y + j) L).take a = rwP wd x a (y + j) L := by unfold rwP; rw [List.take_take, Nat.min_self]
  unfold smP
  rw [this]
  rfl
theorem summing_any (w : World) : Calls Tryz.prog 39 #[] w fun e w' => e = .returned (.func (.func 50) #[] #[.pointer (some ⟨w.heap.size, 0, none⟩)]) ∧ w' = w.alloc (.cells #[.int .u32 2166136261] 38) := by
  have hmf : ∀ (fn : Fn) (first cap : Array Value) (w : World), (Instr.makeFunc fn first cap).run Tryz.prog w = .ok (.func fn first cap) w := fun _ _ _ _ => rfl
  go_enter Tryz.func39, Tryz.ntmps39
  go_wp2
  go_ret
  exact ⟨rfl, rfl⟩

set_option maxRecDepth 100000 in
set_option maxHeartbeats 4000000 in
theorem sumOf_any (wd ht x y a b c n : Nat) (p : Option Addr) (L : List Int) (w : World) (hL : RowAt encW 1 w p L) (hn : L.length = n) (hlc : n ≤ c) (hc : c ≤ 9223372036854775807) (hlen : n = wd * ht) (hw : wd ≤ 256) (hh : ht ≤ 256) (hx : x + a ≤ wd) (hy : y + b ≤ ht) (ha : 0 < a) (hb : 0 < b) :
    Makes Tryz.prog 24 #[.agg #[.int .i64 (wd : Int), .int .i64 (ht : Int), .slice p n c], RV ⟨x, y, a, b⟩] w (.int .u32 (smF wd x y a L b)) := by
  unfold Makes
  have hin : ∀ j i, j < b → i < a → (y + j) * wd + x + i < n := fun j i hj hi => by
    have : (y + j + 1) * wd ≤ ht * wd := Nat.mul_le_mul_right _ (by omega)
    rw [Nat.add_mul, Nat.one_mul, Nat.mul_comm ht wd] at this
    omega
  have hn0 : 0 < L.length := by have := hin 0 0 hb ha; omega
  obtain ⟨pb, off, rfl, -⟩ := hL.w32_at hn0
  have hcell : ∀ k (v : Int), L[k]? = some v → ∀ w', Below w.heap.size w w' → w'.cell? ⟨pb, off + k, none⟩ = some (.int .u32 v) := fun k v hk w' hb' => by
    obtain ⟨hlt, hv⟩ := List.getElem?_eq_some_iff.1 hk
    obtain ⟨b2, off2, e, hcl⟩ := hL.w32_at hlt
    cases e
    have := hcl w' hb'
    rwa [hv] at this
  have hn5 : n ≤ 65536 := by rw [hlen]; exact Nat.mul_le_mul hw hh
  have HL := Lib.hid hn
  have Hin := Lib.hid hin
  have Hcell := Lib.hid hcell
  have Hx := Lib.hid hx
  clear hn hlen hin hcell hL hn0 hx
  go_enter Tryz.func24, Tryz.ntmps24
  go_upto_region 2 with (fail)
  have hz : ((w.alloc (.cells #[.int .i64 (wd : Int), .int .i64 (ht : Int), .slice (some ⟨pb, off, none⟩) n c] 25)).alloc (.cells #[.int .i64 (x : Int), .int .i64 (y : Int), .int .i64 (a : Int), .int .i64 (b : Int)] 37)).heap.size = w.heap.size + 1 + 1 := by simp
  have hlr : Lies ((w.alloc (.cells #[.int .i64 (wd : Int), .int .i64 (ht : Int), .slice (some ⟨pb, off, none⟩) n c] 25)).alloc (.cells #[.int .i64 (x : Int), .int .i64 (y : Int), .int .i64 (a : Int), .int .i64 (b : Int)] 37)) (w.heap.size + 1) ⟨x, y, a, b⟩ := Lies.new (r := ⟨x, y, a, b⟩) (by simp)
  have hi0 := World.alloc_heap_new w (.cells #[.int .i64 (wd : Int), .int .i64 (ht : Int), .slice (some ⟨pb, off, none⟩) n c] 25)
  have hi1 := ((Below.al1 (w.alloc (.cells #[.int .i64 (wd : Int), .int .i64 (ht : Int), .slice (some ⟨pb, off, none⟩) n c] 25)) (.cells #[.int .i64 (x : Int), .int .i64 (y : Int), .int .i64 (a : Int), .int .i64 (b : Int)] 37)).block _ (lt_heapT hi0)).trans hi0
  have hbw := Below.al2 w (.cells #[.int .i64 (wd : Int), .int .i64 (ht : Int), .slice (some ⟨pb, off, none⟩) n c] 25) (.cells #[.int .i64 (x : Int), .int .i64 (y : Int), .int .i64 (a : Int), .int .i64 (b : Int)] 37)
  generalize (w.alloc (.cells #[.int .i64 (wd : Int), .int .i64 (ht : Int), .slice (some ⟨pb, off, none⟩) n c] 25)).alloc (.cells #[.int .i64 (x : Int), .int .i64 (y : Int), .int .i64 (a : Int), .int .i64 (b : Int)] 37) = u at *
  go_wp2_with fail
  refine Calls.mono (summing_any u) ?_
  rintro _ u2 ⟨rfl, rfl⟩
  have hbu := Below.al1 u (.cells #[.int .u32 2166136261] 38)
  have hB := World.alloc_heap_new u (.cells #[.int .u32 2166136261] 38)
  have hs2 : (u.alloc (.cells #[.int .u32 2166136261] 38)).heap.size = u.heap.size + 1 := by simp
  generalize u.alloc (.cells #[.int .u32 2166136261] 38) = U at *
  have hr := hlr.later hbu
  have hi2 := (hbu.block _ (lt_heapT hi1)).trans hi1
  have HbU := Lib.hid (Below.thn hbw hbu)
  obtain ⟨B, hBe⟩ : ∃ B, u.heap.size = B := ⟨_, rfl⟩
  rw [hBe] at hB hz hs2 ⊢
  obtain ⟨bi, hbi⟩ : ∃ b, w.heap.size = b := ⟨_, rfl⟩
  rw [hbi] at hr hi2 hz ⊢
  have HW := Lib.hid (And.intro hbi hz)
  have hcB : U.cell? ⟨B, 0, none⟩ = some (.int .u32 2166136261) := cell_heapT hB rfl
  have hfB : U.frozen? ⟨B, 0, none⟩ = false := frozen_heapT hB
  have I0 := Lib.hid (show U.cell? ⟨bi, 0, none⟩ = some (.int .i64 (wd : Int)) from cell_heapT hi2 rfl)
  have I2 := Lib.hid (show U.cell? ⟨bi, 2, none⟩ = some (.slice (some ⟨pb, off, none⟩) n c) from cell_heapT hi2 rfl)
  have HR := Lib.hid hr
  have r1 := hr.c1
  clear hlr hi0 hi1 hi2 hbw hbu hB hs2 hBe hr hbi hz
  go_wp2_with fail
  go_loopw [5, 7] (fun sv yv wr => ∃ (j : Nat) (z : Int), yv = .int .i64 ((y + j : Nat) : Int) ∧ j ≤ b ∧ sv = .int .u32 z ∧ Hid (0 < j → z = smF wd x y a L j) ∧ Hid (wr.cell? ⟨B, 0, none⟩ = some (.int .u32 (smF wd x y a L j)) ∧ wr.frozen? ⟨B, 0, none⟩ = false ∧ Turns (fun b => b = B) U wr)) (fun _ yv _ => y + b - (intOf yv).toNat)
  case atStart => exact ⟨0, 0, rfl, Nat.zero_le _, rfl, Lib.hid (fun h => absurd h (Nat.lt_irrefl 0)), Lib.hid ⟨hcB, hfB, Turns.refl _ _⟩⟩
  case round =>
    obtain ⟨j, sv, rfl, hj, rfl, Hsv, HS⟩ := hrel
    clear hcB hfB r1
    have ht := HS.out.2.2
    have hBi : ∀ k, k ≤ B → bi + 1 + 1 = B := fun _ _ => by have := HW.out.2; omega
    have r1 := ht.cell HR.out.c1 (fun h => by have := HW.out.2; simp only at h; omega)
    have r0 := ht.cell HR.out.c0 (fun h => by have := HW.out.2; simp only at h; omega)
    have r2 := ht.cell HR.out.c2 (fun h => by have := HW.out.2; simp only at h; omega)
    have r3 := ht.cell HR.out.c3 (fun h => by have := HW.out.2; simp only at h; omega)
    have s0 := ht.cell I0.out (fun h => by have := HW.out.2; simp only at h; omega)
    have s2 := ht.cell I2.out (fun h => by have := HW.out.2; simp only at h; omega)
    simp only at r0 r1 r2 r3
    clear ht hBi
    by_cases hjb : j < b
    · have d1 : decide (((y + j : Nat) : Int) < (y : Int) + (b : Int)) = true := by simp; omega
      have hjn := Hin.out j (a - 1) hjb (by omega)
      have Hel := Lib.hid (fun i (hi : i < a) => Hin.out j i hjb hi)
      obtain ⟨s, hs⟩ : ∃ s, y + j = s := ⟨_, rfl⟩
      have Hs := Lib.hid hs
      have hsb : s ≤ 256 := by omega
      rw [hs] at hjn d1 Hel ⊢
      obtain ⟨q, hq⟩ : ∃ q, s * wd = q := ⟨_, rfl⟩
      have hqb : q ≤ 65536 := by rw [← hq]; exact Nat.mul_le_mul hsb hw
      have H2 : Hid (IntKind.i64.wrap ((s : Int) * (wd : Int)) = (q : Int)) := Lib.hid (by rw [← hq, Int.natCast_mul]; exact IntWalk.i64_in _ (by rw [← Int.natCast_mul, hq]; omega))
      have Hq := Lib.hid hq
      rw [hq] at hjn
      obtain ⟨F, hF⟩ : ∃ F, q + x = F := ⟨_, rfl⟩
      have H3 : Hid (IntKind.i64.wrap ((q : Int) + (x : Int)) = (F : Int)) := Lib.hid (by rw [← hF, Int.natCast_add]; exact IntWalk.i64_in _ (by omega))
      have HF := Lib.hid hF
      have hFn : F + a ≤ n := by omega
      have HFn := Lib.hid hFn
      have hFc : F ≤ n := by omega
      have haF : a ≤ n - F := by omega
      have hac : a ≤ c - F := by omega
      clear hs hq hF hjn hqb hsb hFn
      go_wp2_with fail
      have h2 := H2.out
      have h3 := H3.out
      go_quiet (fail)
      have HS0 : Hid ((wr.drewN nq).cell? ⟨B, 0, none⟩ = some (.int .u32 (smP wd x y a L j 0)) ∧ (wr.drewN nq).frozen? ⟨B, 0, none⟩ = false ∧ Turns (fun b => b = B) U (wr.drewN nq)) := Lib.hid (by
        rw [smP_zero]
        exact ⟨HS.out.1, HS.out.2.1, HS.out.2.2.drewN nq⟩)
      generalize wr.drewN nq = u0 at *
      clear h2 h3 r0 r1 r2 r3 s0 s2 HS
      go_wp2_with fail
      go_loopw [5, 36] (fun sv iv w2 => ∃ (i : Nat) (z : Int), iv = .int .i64 (i : Int) ∧ i ≤ a ∧ sv = .int .u32 z ∧ Hid (0 < i → z = smP wd x y a L j i) ∧ Hid (w2.cell? ⟨B, 0, none⟩ = some (.int .u32 (smP wd x y a L j i)) ∧ w2.frozen? ⟨B, 0, none⟩ = false ∧ Turns (fun b => b = B) U w2)) (fun _ iv _ => a - (intOf iv).toNat)
      case atStart => exact ⟨0, _, rfl, Nat.zero_le _, rfl, Lib.hid (fun h => absurd h (Nat.lt_irrefl 0)), HS0⟩
      case round =>
        obtain ⟨i, z, rfl, hi, rfl, Hz, HT⟩ := hrel
        clear HS0
        by_cases hia : i < a
        · have d2 : decide ((i : Int) < (a : Int)) = true := by simp; omega
          have hlt : F + i < L.length := by have := Hel.out i hia; have := Hq.out; have := HF.out; have := HL.out; omega
          obtain ⟨v, hv⟩ : ∃ v, L[F + i]? = some v := ⟨_, List.getElem?_eq_getElem hlt⟩
          have hst := HT.out.2.2
          have hbw2 : Below w.heap.size w wr := HbU.out.trans (hst.below HbU.out.size (fun b hb => by have := HW.out; omega))
          have x0 := Hcell.out _ v hv _ hbw2
          rw [← Nat.add_assoc] at x0
          have Hstep := Lib.hid (smP_step (wd := wd) (x := x) (y := y) (j := j) hia (v := v) (by rw [Hs.out, Hq.out, HF.out]; exact hv))
          have i0 : (0 : Int) ≤ (i : Int) := by omega
          have i1 : (i : Int) < (a : Int) := by omega
          clear hst hbw2 hv hlt
          go_wp2_with fail
          refine Calls.mono (sum1_any v _ B _ HT.out.1 HT.out.2.1) ?_
          rintro _ w3 ⟨rfl, g1, g2, g3⟩
          have HT3 : Hid (w3.cell? ⟨B, 0, none⟩ = some (.int .u32 (smP wd x y a L j (i + 1))) ∧ w3.frozen? ⟨B, 0, none⟩ = false ∧ Turns (fun b => b = B) U w3) := Lib.hid (by
            rw [Hstep.out]
            exact ⟨g1, g2, HT.out.2.2.trans g3⟩)
          have Hz3 : Hid (0 < i + 1 → px3 (smP wd x y a L j i) v = smP wd x y a L j (i + 1)) := Lib.hid (fun _ => Hstep.out.symm)
          clear g1 g2 g3 x0 HT Hstep
          go_wp2
          go_roundw
          case rel => exact ⟨i + 1, _, by go_num, by omega, rfl, Hz3, HT3⟩
          case measure => simp [intOf]; omega
        · obtain rfl : i = a := by omega
          have d2 : decide ((i : Int) < (i : Int)) = false := by simp
          go_wp2
          have hse := Hs.out
          have hs1 : s + 1 ≤ 1024 := by omega
          have hwr : wrap64 ((s : Int) + 1) = ((s + 1 : Nat) : Int) := by rw [IntWalk.wrap64_in _ (by omega)]; simp
          rw [hwr]
          clear hwr
          refine ⟨⟨j + 1, z, by rw [← Nat.add_assoc, hse], by omega, rfl, Lib.hid (fun _ => (Hz.out ha).trans smP_all), Lib.hid ?_⟩, ?_⟩
          · rw [← smP_all]; exact HT.out
          · simp only [intOf]; omega
    · obtain rfl : j = b := by omega
      have d1 : decide (((y + j : Nat) : Int) < (y : Int) + (j : Int)) = false := by simp
      have hz := Hsv.out hb
      have HbE := Lib.hid (HbU.out.trans (HS.out.2.2.below HbU.out.size (fun b hb => by have := HW.out; omega)))
      have Hz := Lib.hid hz
      clear hz
      go_wp2
      go_ret
      exact ⟨by rw [Hz.out]; rfl, HbE.out⟩

end Go.Proofs.YtajoipmchgabfaaGreat
