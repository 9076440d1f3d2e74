/- palette: tellColors; slices.Chunk as an iterator hands it over. -/
import Derived.Test.YtonhcdhlinlncaaPalB
import Derived.Test.YtonhcdhlinlncaaTurns
import Derived.OwnWalkIn
import Derived.TacticsInMore
import Derived.LoopNIn
import Derived.LoopIn
import Derived.Laws.Cover3
namespace Go.Proofs.Ytonhcdhlinlncaa
open Go.RowKit

attribute [local go_sem] Oper.semAt_some

theorem flat_snoc (cs : List Nat) {i : Nat} (h : i < cs.length) : (cs.take (i + 1)).flatMap plB = (cs.take i).flatMap plB ++ plB (cs.getD i 0) := by
  rw [List.take_succ_eq_append_getElem h, List.flatMap_append, List.getD_eq_getElem?_getD, List.getElem?_eq_getElem h]
  simp

set_option maxRecDepth 20000 in
set_option maxHeartbeats 4000000 in
theorem ptellColors_any (p : Option Addr) (c : Nat) (cs : List Nat) (w : World) (hp : RowAt encP 1 w p cs) (h24 : ∀ x ∈ cs, x < 16777216) (h1 : 1 ≤ cs.length) (h16 : cs.length ≤ 16) :
    Calls Try.prog 18 #[.slice p cs.length c] w fun e w' => ∃ v', e = .returned v' ∧ w'.ownsRow w.heap.size 5 1 v' (plH cs).length ((plH cs).map u8v) ∧ Below w.heap.size w w' := by
  have Hp := Lib.hid hp
  obtain ⟨i0, hi0, hz0, hz1, hz2⟩ := info_parts u8_info
  have H24 : Hid (∀ i, cs.getD i 0 < 16777216) := Lib.hid (fun i => by
    rw [List.getD_eq_getElem?_getD]
    cases h : cs[i]? with
    | none => decide
    | some x => exact h24 x (List.mem_of_getElem? h))
  have HS := Lib.hid (fun (i : Nat) (h : i < cs.length) => flat_snoc cs h)
  obtain ⟨n, hn⟩ : ∃ n, cs.length = n := ⟨_, rfl⟩
  have Hn := Lib.hid hn
  rw [hn] at h1 h16 ⊢
  obtain ⟨m, rfl⟩ : ∃ m, n = m + 1 := ⟨n - 1, by omega⟩
  have HH : Hid (plH cs = m :: cs.flatMap plB) := Lib.hid (by unfold plH; rw [hn]; rfl)
  obtain ⟨n, hnm⟩ : ∃ n, m + 1 = n := ⟨_, rfl⟩
  have e0 : (n : Int) - 1 = (m : Int) := by omega
  rw [hnm] at Hn h1 h16 ⊢
  have hm : m ≤ 15 := by omega
  have w0 : IntKind.u8.wrap (m : Int) = (m : Int) := by rw [IntKind.wrap_u8]; omega
  clear hp hn h24 hnm
  go_enter Try.func18, Try.ntmps18
  go_wp2_with fail
  have Ho0 : Hid ((w.alloc (.cells #[.int .u8 (m : Int)] 5)).ownsRow w.heap.size 5 1 (.slice (some ⟨w.heap.size, 0, none⟩) 1 1) 1 ([m].map u8v)) := Lib.hid (World.ownsRow_lit w #[.int .u8 (m : Int)] 1 (Nat.le_refl _) (by decide) rfl)
  have Hb0 := Lib.hid (Below.al1 w (.cells #[.int .u8 (m : Int)] 5))
  generalize w.alloc (.cells #[.int .u8 (m : Int)] 5) = W1 at *
  clear w0 e0
  go_loopw [3, 13] (fun ov iv wr => ∃ (i : Nat) (o : List Nat), iv = .int .i64 (i : Int) ∧ i ≤ n ∧ o.length ≤ 1 + 3 * i ∧ Hid (o = m :: (cs.take i).flatMap plB) ∧ Hid (wr.ownsRow w.heap.size 5 1 ov o.length (o.map u8v)) ∧ Hid (Below w.heap.size w wr)) (fun _ iv _ => n - (intOf iv).toNat)
  case atStart => exact ⟨0, [m], rfl, Nat.zero_le _, by simp, Lib.hid (by simp), Ho0, Hb0⟩
  case round =>
    obtain ⟨i, o, rfl, hi, hol, HE, HO, HB⟩ := hrel
    obtain ⟨vp, vc, rfl⟩ := owns_slice HO.out
    by_cases hin : i < n
    · have d1 : decide ((i : Int) < (n : Int)) = true := by simp; omega
      obtain ⟨g, off, rfl, hc⟩ := Hp.out.pxs (by rw [Hn.out]; omega)
      have x0 := cell_later HB.out (hc i (by rw [Hn.out]; omega))
      have hs := HS.out i (by rw [Hn.out]; exact hin)
      have hxb := H24.out i
      obtain ⟨x, hx⟩ : ∃ x, cs.getD i 0 = x := ⟨_, rfl⟩
      rw [hx] at x0 hs hxb
      obtain ⟨a1, ha1⟩ : ∃ a, x / 65536 = a := ⟨_, rfl⟩
      obtain ⟨a2, ha2⟩ : ∃ a, x / 256 % 256 = a := ⟨_, rfl⟩
      obtain ⟨a3, ha3⟩ : ∃ a, x % 256 = a := ⟨_, rfl⟩
      have e1 : (x : Int) / 65536 = (a1 : Int) := by omega
      have e2 : ((x : Int) / 256) % 256 = (a2 : Int) := by omega
      have e3 : (x : Int) % 256 = (a3 : Int) := by omega
      have b1 : a1 ≤ 255 := by omega
      have HE2 : Hid (o ++ [a1, a2, a3] = m :: (cs.take (i + 1)).flatMap plB) := Lib.hid (by
        rw [hs, HE.out]
        show _ = m :: (_ ++ [x / 65536, x / 256 % 256, x % 256])
        rw [ha1, ha2, ha3]; rfl)
      have k0 : (0 : Int) ≤ (i : Int) := by omega
      have k1 : (i : Int) < (n : Int) := by omega
      have hs1 := HB.out.size
      clear ha1 ha2 ha3 hs hx hc
      go_wp2_with (at_builtin; refine wpList_append_mine _ rfl (.tmp 17) (.tmp 26) 23 rfl w.heap.size 5 i0 _ 1 1 Try.underlying23 hi0 hz0 hz1 hz2 rfl (by decide) (.slice vp o.length vc) o.length (o.map u8v) rfl (HO.out.alloc _) (some ⟨wr.heap.size, 0, none⟩) 3 3 [.int .u8 a1, .int .u8 a2, .int .u8 a3] rfl rfl (.inr ⟨_, rfl, ?c2⟩) ?c3 ?c4 ?c5 ?c6 ?_)
      case c2 => exact news_cells (w := wr) (c := [.int .u8 (a1 : Int), .int .u8 (a2 : Int), .int .u8 (a3 : Int)]) (t := 5)
      case c3 =>
        intro u hu
        simp only [List.mem_cons, List.not_mem_nil, or_false] at hu
        rcases hu with rfl | rfl | rfl <;> rfl
      case c4 => simp only [maxLen]; omega
      case c5 => omega
      case c6 => simp only [World.size_alloc]; omega
      intro v' w5 ho1 ht1 hg1
      have Ho1 : Hid (w5.ownsRow w.heap.size 5 1 v' (o ++ [a1, a2, a3]).length ((o ++ [a1, a2, a3]).map u8v)) := Lib.hid (by
        rw [List.length_append, List.map_append]
        exact ho1)
      have hT : Turns (fun k => (Value.slice vp o.length vc).ownBlock = some k) wr w5 := (Turns.of_below' (Below.al1 wr _)).trans (Turns.of_grown ht1 (fun _ h => h))
      have Hb5 : Hid (Below w.heap.size w w5) := Lib.hid (HB.out.trans (hT.below hs1 (fun b hb => (HO.out.lt b hb).1)))
      have hlen : (o ++ [a1, a2, a3]).length ≤ 1 + 3 * (i + 1) := by rw [List.length_append]; simp only [List.length_cons, List.length_nil]; omega
      clear ho1 ht1 hg1 hT e1 e2 e3 x0
      go_wp2
      go_roundw
      case rel => exact ⟨i + 1, _, by go_num, by omega, hlen, HE2, Ho1, Hb5⟩
      case measure => simp [intOf]; omega
    · obtain rfl : i = n := by omega
      have d1 : decide ((i : Int) < (i : Int)) = false := by simp
      have HX : Hid (plH cs = o) := Lib.hid (by rw [HH.out, HE.out, List.take_of_length_le (by rw [Hn.out]; exact Nat.le_refl _)])
      go_wp2
      go_ret
      rw [HX.out]
      exact ⟨_, rfl, HO.out, HB.out⟩

/-- Where chunks of n begin, from a on, and how long each is. -/
def chL (n a N : Nat) : List (Nat × Nat) := if _h : a < N ∧ 0 < n then (a, min n (N - a)) :: chL n (a + n) N else []
termination_by N - a
theorem chL_yes {n a N : Nat} (h : a < N) (h0 : 0 < n) : chL n a N = (a, min n (N - a)) :: chL n (a + n) N := by rw [chL, dif_pos ⟨h, h0⟩]
theorem chL_no {n a N : Nat} (h : ¬ a < N) : chL n a N = [] := by rw [chL, dif_neg (fun h' => h h'.1)]
/-- A chunk as a value. -/
def ElCh (p : Option Addr) (_ _ : World) (_ : Nat → Prop) (x : Nat × Nat) (vs : Array Value) : Prop := ∃ g off, p = some ⟨g, off, none⟩ ∧ vs = #[.slice (some ⟨g, off + x.1, none⟩) x.2 x.2]
theorem lt_of_sameC {w w' : World} {b : Nat} (h : b < w.heap.size) (e : w'.heap[b]? = w.heap[b]?) : b < w'.heap.size := by
  rw [Array.getElem?_eq_getElem h] at e
  exact lt_heap e

set_option maxRecDepth 20000 in
set_option maxHeartbeats 4000000 in
theorem chunk_iter8 (Bl Bn : Nat) (p : Option Addr) (N k c : Nat) (w : World) (R : Nat → Prop) (hBl : w.cell? ⟨Bl, 0, none⟩ = some (.slice p N c)) (hBn : w.cell? ⟨Bn, 0, none⟩ = some (.int .i64 (k : Int))) (hp : 0 < N → ∃ g off, p = some ⟨g, off, none⟩) (hl : N ≤ 1048576) (hk : k ≤ 1073741824) (hk0 : 0 < k) (hlc : N ≤ c)
    (hRlt : ∀ b, R b → b < w.heap.size) (hR1 : R Bl) (hR2 : R Bn) :
    Iter Try.prog 41 #[.pointer (some ⟨Bl, 0, none⟩), .pointer (some ⟨Bn, 0, none⟩)] (ElCh p) R (chL k 0 N) w := by
  intro ll J Jx W hsz hRW hJ0 hY
  refine callsIn_wide.2 ?_
  have HY := Lib.hid hY
  have HRW := Lib.hid hRW
  have Hp := Lib.hid hp
  have HRlt := Lib.hid hRlt
  have HBl := Lib.hid hBl
  have HBn := Lib.hid hBn
  clear hY hRW hp hRlt hBl hBn
  go_enter Try.func41, Try.ntmps41
  go_wp2
  go_loopw [4] (fun av wr => ∃ (a : Nat) (pre : List (Nat × Nat)) (Tp : Nat → Prop) (Wp : World), av = .int .i64 (a : Int) ∧ a ≤ N + k ∧ Hid (chL k 0 N = pre ++ chL k a N) ∧ Hid (J pre Tp Wp) ∧ Hid (Turns Tp Wp wr) ∧ Hid (∀ b, R b → wr.heap[b]? = w.heap[b]?)) (fun av _ => N + k - (intOf av).toNat)
  case atStart => exact ⟨0, [], fun _ => False, W, rfl, Nat.zero_le _, Lib.hid rfl, Lib.hid hJ0, Lib.hid (Turns.refl _ _), HRW⟩
  case round =>
    obtain ⟨a, pre, Tp, Wp, rfl, ha, HE, HJ, HT, HR⟩ := hrel
    have xb := (World.cell?_of_block (a := ⟨Bl, 0, none⟩) (HR.out Bl hR1)).trans HBl.out
    have xn := (World.cell?_of_block (a := ⟨Bn, 0, none⟩) (HR.out Bn hR2)).trans HBn.out
    by_cases han : a < N
    · have d1 : decide ((a : Int) < (N : Int)) = true := by simp; omega
      obtain ⟨g, off, rfl⟩ := Hp.out (by omega)
      obtain ⟨z, hz⟩ : ∃ z, min k (N - a) = z := ⟨_, rfl⟩
      have hzi : min (k : Int) ((N - a : Nat) : Int) = (z : Int) := by omega
      have hzi2 : min (k : Int) ((N : Int) - (a : Int)) = (z : Int) := by omega
      have hz0 : 0 < z := by omega
      have hzN : a + z ≤ N := by omega
      have HE3 : Hid (chL k 0 N = pre ++ (a, z) :: chL k (a + k) N) := Lib.hid (by rw [HE.out, chL_yes han hk0, hz])
      have i0 : (0 : Int) ≤ (a : Int) := by omega
      have i1 : (a : Int) ≤ (N : Int) := by omega
      have i2 : (a : Int) ≤ (c : Int) := by omega
      have hm : (if N - a < k then ((N - a : Nat) : Int) else (k : Int)) = (z : Int) := by split <;> omega
      have Hm := Lib.hid hm
      clear hz hm hzi hzi2
      go_upto_region 3 with (fail)
      go_quiet (fail)
      rename_i nq
      rw [Hm.out]
      have HR1 : Hid (∀ b, R b → (wr.drewN nq).heap[b]? = w.heap[b]?) := HR
      have HT1 : Hid (Turns Tp Wp (wr.drewN nq)) := Lib.hid (HT.out.drewN nq)
      generalize wr.drewN nq = u1 at *
      have xb1 := (World.cell?_of_block (a := ⟨Bl, 0, none⟩) (HR1.out Bl hR1)).trans HBl.out
      have xn1 := (World.cell?_of_block (a := ⟨Bn, 0, none⟩) (HR1.out Bn hR2)).trans HBn.out
      clear xb xn
      obtain ⟨fn, tmps, assign, body, hy, hRd⟩ := HY.out pre (a, z) (chL k (a + k) N) Tp (fun _ => False) Wp u1 #[.slice (some ⟨g, off + a, none⟩) z z] HE3.out HJ.out HT1.out (fun _ h => h.elim) (fun _ h => h.elim) HR1.out ⟨g, off, rfl, rfl⟩
      obtain ⟨q, hq⟩ : ∃ q, a + z = q := ⟨_, rfl⟩
      have j1 : (a : Int) + (z : Int) = (q : Int) := by omega
      have j2 : (a : Int) ≤ (q : Int) := by omega
      have j3 : (q : Int) ≤ (c : Int) := by omega
      have j4 : q - a = z := by omega
      have j5 : (0 : Int) ≤ (q : Int) := by omega
      clear hq
      go_upto_region 4 with (fail)
      refine (wpIn_wide (n := 0)).1 ?_
      gi_wp2
      refine ⟨rfl, hRd.mono ?_⟩
      rintro e W3 (⟨rfl, hJ3, hsz3, hk3⟩ | ⟨rfl, hJx3, -, -⟩)
      · have HR3 : Hid (∀ b, R b → W3.heap[b]? = w.heap[b]?) := Lib.hid (fun b hb => (hk3 b (Or.inl hb)).trans (HR1.out b hb))
        have HJ3 := Lib.hid hJ3
        have xn3 := (World.cell?_of_block (a := ⟨Bn, 0, none⟩) (HR3.out Bn hR2)).trans HBn.out
        clear hk3 hJ3 hy hRd xb1 xn1
        gi_wp2
        go_wp2
        go_roundw
        case rel => exact ⟨a + k, pre ++ [(a, z)], fun _ => False, W3, by go_num, by omega, Lib.hid (by rw [HE3.out]; simp), HJ3, Lib.hid (Turns.refl _ _), HR3⟩
        case measure => simp [intOf]; omega
      · have HP : pre ++ [(a, z)] <+: chL k 0 N := ⟨chL k (a + k) N, by rw [HE3.out]; simp⟩
        gi_wp2
        go_wp2
        refine bodyPost_ret (results_none rfl _ _ _) rfl ?_
        exact ⟨⟨_, rfl⟩, .inr ⟨_, _, _, HP, hJx3, Turns.refl _ _⟩⟩
    · have d1 : decide ((a : Int) < (N : Int)) = false := by simp; omega
      have HX : Hid (chL k 0 N = pre) := Lib.hid (by rw [HE.out, chL_no han]; simp)
      go_wp2
      go_end0
      exact ⟨⟨_, rfl⟩, .inl ⟨_, _, by rw [HX.out]; exact HJ.out, HT.out⟩⟩

theorem chunk_made8 (p : Option Addr) (n c k : Nat) (w : World) (hk : 0 < k) : Calls Try.prog 32 #[.slice p n c, .int .i64 (k : Int)] w fun e w' => e = .returned (.func (.func 41) #[] #[.pointer (some ⟨w.heap.size, 0, none⟩), .pointer (some ⟨w.heap.size + 1, 0, none⟩)]) ∧ w' = (w.alloc (.cells #[.slice p n c] 23)).alloc (.cells #[.int .i64 (k : Int)] 3) := by
  have hmf : ∀ (fn : Fn) (first cap : Array Value) (w : World), (Instr.makeFunc fn first cap).run Try.prog w = .ok (.func fn first cap) w := fun _ _ _ _ => rfl
  have d1 : decide ((k : Int) < 1) = false := by simp; omega
  go_enter Try.func32, Try.ntmps32
  go_wp2
  go_ret
  exact ⟨rfl, rfl⟩

set_option maxRecDepth 20000 in
set_option maxHeartbeats 4000000 in
theorem chunk_iterP (Bl Bn : Nat) (p : Option Addr) (N k c : Nat) (w : World) (R : Nat → Prop) (hBl : w.cell? ⟨Bl, 0, none⟩ = some (.slice p N c)) (hBn : w.cell? ⟨Bn, 0, none⟩ = some (.int .i64 (k : Int))) (hp : 0 < N → ∃ g off, p = some ⟨g, off, none⟩) (hl : N ≤ 1048576) (hk : k ≤ 1073741824) (hk0 : 0 < k) (hlc : N ≤ c)
    (hRlt : ∀ b, R b → b < w.heap.size) (hR1 : R Bl) (hR2 : R Bn) :
    Iter Try.prog 36 #[.pointer (some ⟨Bl, 0, none⟩), .pointer (some ⟨Bn, 0, none⟩)] (ElCh p) R (chL k 0 N) w := by
  intro ll J Jx W hsz hRW hJ0 hY
  refine callsIn_wide.2 ?_
  have HY := Lib.hid hY
  have HRW := Lib.hid hRW
  have Hp := Lib.hid hp
  have HRlt := Lib.hid hRlt
  have HBl := Lib.hid hBl
  have HBn := Lib.hid hBn
  clear hY hRW hp hRlt hBl hBn
  go_enter Try.func36, Try.ntmps36
  go_wp2
  go_loopw [4] (fun av wr => ∃ (a : Nat) (pre : List (Nat × Nat)) (Tp : Nat → Prop) (Wp : World), av = .int .i64 (a : Int) ∧ a ≤ N + k ∧ Hid (chL k 0 N = pre ++ chL k a N) ∧ Hid (J pre Tp Wp) ∧ Hid (Turns Tp Wp wr) ∧ Hid (∀ b, R b → wr.heap[b]? = w.heap[b]?)) (fun av _ => N + k - (intOf av).toNat)
  case atStart => exact ⟨0, [], fun _ => False, W, rfl, Nat.zero_le _, Lib.hid rfl, Lib.hid hJ0, Lib.hid (Turns.refl _ _), HRW⟩
  case round =>
    obtain ⟨a, pre, Tp, Wp, rfl, ha, HE, HJ, HT, HR⟩ := hrel
    have xb := (World.cell?_of_block (a := ⟨Bl, 0, none⟩) (HR.out Bl hR1)).trans HBl.out
    have xn := (World.cell?_of_block (a := ⟨Bn, 0, none⟩) (HR.out Bn hR2)).trans HBn.out
    by_cases han : a < N
    · have d1 : decide ((a : Int) < (N : Int)) = true := by simp; omega
      obtain ⟨g, off, rfl⟩ := Hp.out (by omega)
      obtain ⟨z, hz⟩ : ∃ z, min k (N - a) = z := ⟨_, rfl⟩
      have hzi : min (k : Int) ((N - a : Nat) : Int) = (z : Int) := by omega
      have hzi2 : min (k : Int) ((N : Int) - (a : Int)) = (z : Int) := by omega
      have hz0 : 0 < z := by omega
      have hzN : a + z ≤ N := by omega
      have HE3 : Hid (chL k 0 N = pre ++ (a, z) :: chL k (a + k) N) := Lib.hid (by rw [HE.out, chL_yes han hk0, hz])
      have i0 : (0 : Int) ≤ (a : Int) := by omega
      have i1 : (a : Int) ≤ (N : Int) := by omega
      have i2 : (a : Int) ≤ (c : Int) := by omega
      have hm : (if N - a < k then ((N - a : Nat) : Int) else (k : Int)) = (z : Int) := by split <;> omega
      have Hm := Lib.hid hm
      clear hz hm hzi hzi2
      go_upto_region 3 with (fail)
      go_quiet (fail)
      rename_i nq
      rw [Hm.out]
      have HR1 : Hid (∀ b, R b → (wr.drewN nq).heap[b]? = w.heap[b]?) := HR
      have HT1 : Hid (Turns Tp Wp (wr.drewN nq)) := Lib.hid (HT.out.drewN nq)
      generalize wr.drewN nq = u1 at *
      have xb1 := (World.cell?_of_block (a := ⟨Bl, 0, none⟩) (HR1.out Bl hR1)).trans HBl.out
      have xn1 := (World.cell?_of_block (a := ⟨Bn, 0, none⟩) (HR1.out Bn hR2)).trans HBn.out
      clear xb xn
      obtain ⟨fn, tmps, assign, body, hy, hRd⟩ := HY.out pre (a, z) (chL k (a + k) N) Tp (fun _ => False) Wp u1 #[.slice (some ⟨g, off + a, none⟩) z z] HE3.out HJ.out HT1.out (fun _ h => h.elim) (fun _ h => h.elim) HR1.out ⟨g, off, rfl, rfl⟩
      obtain ⟨q, hq⟩ : ∃ q, a + z = q := ⟨_, rfl⟩
      have j1 : (a : Int) + (z : Int) = (q : Int) := by omega
      have j2 : (a : Int) ≤ (q : Int) := by omega
      have j3 : (q : Int) ≤ (c : Int) := by omega
      have j4 : q - a = z := by omega
      have j5 : (0 : Int) ≤ (q : Int) := by omega
      clear hq
      go_upto_region 4 with (fail)
      refine (wpIn_wide (n := 0)).1 ?_
      gi_wp2
      refine ⟨rfl, hRd.mono ?_⟩
      rintro e W3 (⟨rfl, hJ3, hsz3, hk3⟩ | ⟨rfl, hJx3, -, -⟩)
      · have HR3 : Hid (∀ b, R b → W3.heap[b]? = w.heap[b]?) := Lib.hid (fun b hb => (hk3 b (Or.inl hb)).trans (HR1.out b hb))
        have HJ3 := Lib.hid hJ3
        have xn3 := (World.cell?_of_block (a := ⟨Bn, 0, none⟩) (HR3.out Bn hR2)).trans HBn.out
        clear hk3 hJ3 hy hRd xb1 xn1
        gi_wp2
        go_wp2
        go_roundw
        case rel => exact ⟨a + k, pre ++ [(a, z)], fun _ => False, W3, by go_num, by omega, Lib.hid (by rw [HE3.out]; simp), HJ3, Lib.hid (Turns.refl _ _), HR3⟩
        case measure => simp [intOf]; omega
      · have HP : pre ++ [(a, z)] <+: chL k 0 N := ⟨chL k (a + k) N, by rw [HE3.out]; simp⟩
        gi_wp2
        go_wp2
        refine bodyPost_ret (results_none rfl _ _ _) rfl ?_
        exact ⟨⟨_, rfl⟩, .inr ⟨_, _, _, HP, hJx3, Turns.refl _ _⟩⟩
    · have d1 : decide ((a : Int) < (N : Int)) = false := by simp; omega
      have HX : Hid (chL k 0 N = pre) := Lib.hid (by rw [HE.out, chL_no han]; simp)
      go_wp2
      go_end0
      exact ⟨⟨_, rfl⟩, .inl ⟨_, _, by rw [HX.out]; exact HJ.out, HT.out⟩⟩

theorem chunk_madeP (p : Option Addr) (n c k : Nat) (w : World) (hk : 0 < k) : Calls Try.prog 29 #[.slice p n c, .int .i64 (k : Int)] w fun e w' => e = .returned (.func (.func 36) #[] #[.pointer (some ⟨w.heap.size, 0, none⟩), .pointer (some ⟨w.heap.size + 1, 0, none⟩)]) ∧ w' = (w.alloc (.cells #[.slice p n c] 22)).alloc (.cells #[.int .i64 (k : Int)] 3) := by
  have hmf : ∀ (fn : Fn) (first cap : Array Value) (w : World), (Instr.makeFunc fn first cap).run Try.prog w = .ok (.func fn first cap) w := fun _ _ _ _ => rfl
  have d1 : decide ((k : Int) < 1) = false := by simp; omega
  go_enter Try.func29, Try.ntmps29
  go_wp2
  go_ret
  exact ⟨rfl, rfl⟩

end Go.Proofs.Ytonhcdhlinlncaa
