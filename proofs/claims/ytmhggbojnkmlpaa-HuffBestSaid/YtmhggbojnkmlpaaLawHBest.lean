/- The walk of the statement HuffBest. -/
import Derived.Test.YtmhggbojnkmlpaaHufT
import Derived.Test.YtmhggbojnkmlpaaHufLift
namespace Go.Proofs.Ytmhggbojnkmlpaa
open Go.RowKit

theorem int_infoB : (Try.prog.info? 3).map (fun i => (i.zero, i.size, i.bytes)) = some (some (.int .i64 0), 1, 8) := by kernel_rfl
theorem own_intsB {W : World} {base : Nat} {v : Value} {n : Nat} {fs : List Int} (h : W.ownsRow base 3 1 v n (fs.map (Value.int .i64))) (hn : n = fs.length) : Row encZ 1 W v fs := by
  subst hn
  rw [← flatZ] at h
  exact owns_row' encZ_len h
theorem lens_cellsB {w : World} {base n : Nat} {p : Option Addr} {c : Nat} {g : Nat → Nat} (h : w.ownsRow base 5 1 (.slice p n c) n (lensRow g n)) : ∀ i, i < n → ∃ b, p = some ⟨b, 0, none⟩ ∧ w.cell? ⟨b, i, none⟩ = some (.int .u8 ((g i : Nat) : Int)) := fun i hi => by
  obtain ⟨b, c', e, -, -, hc⟩ := owns_ptr h (by omega)
  injection e with e1 _ _
  exact ⟨b, e1, hc i _ (by rw [lensRow_at _ hi]; rfl)⟩
theorem pre_costB (f g : Nat → Nat) (F G : Nat) : ∀ k, (∀ i, i < k → f i ≤ F ∧ g i ≤ G) → sm k (fun i => f i * g i) ≤ k * (F * G)
  | 0, _ => Nat.zero_le _
  | k + 1, h => by
    have h1 := pre_costB f g F G k (fun i hi => h i (by omega))
    obtain ⟨h2, h3⟩ := h k (by omega)
    have h4 := Nat.mul_le_mul h2 h3
    simp only [sm]
    rw [Nat.add_mul]; omega

theorem RowAt.word {W : World} {p : Option Addr} {xs : List Nat} (h : RowAt enc16 1 W p xs) {k : Nat} (hk : k < xs.length) : ∃ b off, p = some ⟨b, off, none⟩ ∧ W.cell? ⟨b, off + k, none⟩ = some (.int .u16 (xs[k] : Int)) := by
  rcases h with ⟨-, rfl⟩ | ⟨b, off, rfl, -, h⟩
  · simp at hk
  · refine ⟨b, off, rfl, ?_⟩
    have := h k xs[k] (List.getElem?_eq_getElem hk) 0 _ rfl
    simpa using this

/-- The frequencies that the statement asks of. -/
def bestF (xs : List Nat) : List Int := (xs.take 5).map fun x => ((1 + x % 1000 : Nat) : Int)

theorem bestF_len (xs : List Nat) : (bestF xs).length = min 5 xs.length := by simp [bestF]
theorem bestF_mem {xs : List Nat} {f : Int} (h : f ∈ bestF xs) : 1 ≤ f ∧ f ≤ 1000 := by
  obtain ⟨x, -, rfl⟩ := List.mem_map.1 h
  omega
theorem bestF_fq {xs : List Nat} {i : Nat} (hi : i < (bestF xs).length) : (bestF xs)[i] = ((fq (bestF xs) i : Nat) : Int) ∧ 1 ≤ fq (bestF xs) i ∧ fq (bestF xs) i ≤ 1000 := by
  have h1 := bestF_mem (List.getElem_mem hi)
  have h2 := fq_at hi (by omega)
  omega

theorem best_may {xs : List Nat} {L : Nat} (h1 : 1 ≤ L) (h4 : L ≤ 4) : mayB (bestF xs) (L : Int) = true := by
  unfold mayB
  rw [Bool.and_eq_true, decide_eq_true_iff, List.all_eq_true]
  refine ⟨⟨by omega, by omega, by rw [bestF_len]; omega⟩, fun f hf => ?_⟩
  have := bestF_mem hf
  unfold okF
  exact decide_eq_true (by omega)

theorem many_all {f : Nat → Nat} : ∀ {n : Nat}, (∀ i, i < n → 0 < f i) → many n f = n
  | 0, _ => rfl
  | n + 1, h => by
    rw [many_succ, many_all (fun i hi => h i (by omega)), if_pos (h n (by omega))]

theorem best_many (xs : List Nat) : many (bestF xs).length (fq (bestF xs)) = (bestF xs).length := many_all (fun i hi => by have := (bestF_fq hi).2.1; omega)

/-- The lengths that a number of the row is. -/
def digL (L row i : Nat) : Nat := 1 + row / L ^ i % L

theorem digL_at (L row i : Nat) : 1 ≤ digL L row i ∧ (0 < L → digL L row i ≤ L) := by
  unfold digL
  refine ⟨by omega, fun h => ?_⟩
  have := Nat.mod_lt (row / L ^ i) h
  omega

theorem shr_16 {n : Nat} (h : n ≤ 4) : (16 : Int) / 2 ^ n = ((2 ^ (4 - n) : Nat) : Int) := by
  have : n = 0 ∨ n = 1 ∨ n = 2 ∨ n = 3 ∨ n = 4 := by omega
  rcases this with rfl | rfl | rfl | rfl | rfl <;> decide

/-- What the lengths take up in parts of 16 tells what they take up in parts of 2 to the L. -/
theorem room_16 {L : Nat} (hL : L ≤ 4) {l : Nat → Nat} : ∀ {n : Nat}, (∀ i, i < n → 1 ≤ l i ∧ l i ≤ L) → sm n (fun i => 2 ^ (4 - l i)) = room n L l * 2 ^ (4 - L)
  | 0, _ => by simp [sm, room]
  | n + 1, h => by
    have h1 := room_16 hL (n := n) (fun i hi => h i (by omega))
    have h2 := h n (by omega)
    rw [room_succ, if_pos (by omega), Nat.add_mul, ← h1, ← Nat.pow_add, show L - l n + (4 - L) = 4 - l n by omega]
    rfl

theorem best_row {xs : List Nat} {L : Nat} {g l : Nat → Nat} (h : LensOk (bestF xs) L g) (hm : 2 ≤ (bestF xs).length) (hL1 : 1 ≤ L) (hL : L ≤ 4) (hl : ∀ i, i < (bestF xs).length → 1 ≤ l i ∧ l i ≤ L) (hs : sm (bestF xs).length (fun i => 2 ^ (4 - l i)) = 16) :
    sm (bestF xs).length (fun i => fq (bestF xs) i * g i) ≤ sm (bestF xs).length (fun i => fq (bestF xs) i * l i) := by
  rw [room_16 hL hl] at hs
  have hr : room (bestF xs).length L l = 2 ^ L := by
    have e : (16 : Nat) = 2 ^ L * 2 ^ (4 - L) := by rw [← Nat.pow_add, show L + (4 - L) = 4 by omega]
    rw [e] at hs
    exact Nat.eq_of_mul_eq_mul_right (pow_pos2 _) hs
  exact h.best (by rw [best_many]; exact hm) (fun i hi => (hl i hi).2) (fun i hi => by have := (hl i hi).1; have := (bestF_fq hi).2.1; omega) (by rw [hr]; exact Nat.le_refl _)

/-- The frequencies of the first k. -/
def bestK (xs : List Nat) (k : Nat) : List Int := (xs.take k).map fun (x : Nat) => 1 + (x : Int) % 1000
theorem bestK_succ {xs : List Nat} {k : Nat} (hk : k < xs.length) : bestK xs (k + 1) = bestK xs k ++ [1 + (xs[k] : Int) % 1000] := by
  unfold bestK
  rw [List.take_succ_eq_append_getElem hk, List.map_append]; rfl
theorem bestK_all {xs : List Nat} {k : Nat} (hk : k = min 5 xs.length) : bestK xs k = bestF xs := by
  unfold bestK bestF
  have e : xs.take k = xs.take 5 := by
    subst hk
    rcases Nat.le_total 5 xs.length with h | h
    · rw [Nat.min_eq_left h]
    · rw [Nat.min_eq_right h, List.take_length, List.take_of_length_le h]
  rw [e]
  refine List.map_congr_left fun x _ => ?_
  omega

/-- The rows that the statement's loops read. -/
structure BestAt (fs : List Int) (g : Nat → Nat) (n : Nat) (pf pl : Option Addr) (w : World) : Prop where
  f : ∀ i, i < n → ∃ b off, pf = some ⟨b, off, none⟩ ∧ w.cell? ⟨b, off + i, none⟩ = some (.int .i64 ((fq fs i : Nat) : Int))
  l : ∀ i, i < n → ∃ b, pl = some ⟨b, 0, none⟩ ∧ w.cell? ⟨b, i, none⟩ = some (.int .u8 ((g i : Nat) : Int))

theorem BestAt.below {fs : List Int} {g : Nat → Nat} {n : Nat} {pf pl : Option Addr} {w w' : World} (h : BestAt fs g n pf pl w) (hb : Below w.heap.size w w') : BestAt fs g n pf pl w' := by
  refine ⟨fun i hi => ?_, fun i hi => ?_⟩
  · obtain ⟨b, off, e, hc⟩ := h.f i hi
    exact ⟨b, off, e, cell_later hb hc⟩
  · obtain ⟨b, e, hc⟩ := h.l i hi
    exact ⟨b, e, cell_later hb hc⟩

set_option maxRecDepth 20000 in
set_option maxHeartbeats 4000000 in
theorem hbest_any (v : Value) (xs : List Nat) (lim : Int) (w : World) (hv : RwG enc16 1 w v xs) (hx : ∀ x ∈ xs, x < 65536) (hlim : 0 ≤ lim ∧ lim ≤ 255) :
    Makes Try.prog 7 #[v, .int .u8 lim] w (.bool true) := by
  obtain ⟨lm, rfl⟩ := Int.eq_ofNat_of_zero_le hlim.1
  have hlen := hv.row.len
  obtain ⟨p, c, rfl, -, -, hrow⟩ := hv.row
  have Hrow := Lib.hid hrow
  have Hx := Lib.hid hx
  obtain ⟨L, hL⟩ : ∃ L, 1 + lm % 4 = L := ⟨_, rfl⟩
  have hL1 : 1 ≤ L := by omega
  have hL4 : L ≤ 4 := by omega
  have hLi : 1 + (lm : Int) % 4 = (L : Int) := by omega
  clear hrow hv hx hlim hL
  unfold Makes
  go_enter Try.func7, Try.ntmps7
  go_wp2
  go_loopw [6, 7] (fun fv kv wr => ∃ (k : Nat), kv = .int .i64 (k : Int) ∧ k ≤ xs.length ∧ k ≤ 5 ∧ Hid (wr.ownsRow w.heap.size 3 1 fv k ((bestK xs k).map (Value.int .i64)) ∧ Below w.heap.size w wr)) (fun _ kv _ => 5 - (intOf kv).toNat)
  case atStart => exact ⟨0, rfl, Nat.zero_le _, by omega, Lib.hid ⟨World.ownsRow_nil _ _ _ _, Below.refl _ _⟩⟩
  case round =>
    obtain ⟨k, rfl, hk, hk5, HI⟩ := hrel
    obtain ⟨pf, cf, rfl⟩ := owns_slice HI.out.1
    by_cases hlt : k < xs.length ∧ k < 5
    · obtain ⟨h1, h2⟩ := hlt
      obtain ⟨g, off, rfl, hcell⟩ := Hrow.out.word h1
      have hcx := cell_later HI.out.2 hcell
      have hxb := Hx.out xs[k] (List.getElem_mem h1)
      have Hsucc := Lib.hid (bestK_succ h1)
      obtain ⟨x, hxx⟩ : ∃ x, xs[k] = x := ⟨_, rfl⟩
      rw [hxx] at hcx hxb Hsucc
      have k0 : (0 : Int) ≤ (k : Int) := by omega
      have k1 : (k : Int) < (xs.length : Int) := by omega
      have d1 : decide (k < xs.length) = true := by simpa using h1
      have d2 : decide (k < 5) = true := by simpa using h2
      have hs := HI.out.2.size
      clear hcell hxx
      go_wp2_with (at_builtin; refine wpList_append_one wr rfl (.tmp 34) (.tmp 42) 22 rfl w.heap.size 3 _ 8 int_infoB Try.underlying22 rfl (.slice pf k cf) k ((bestK xs k).map (Value.int .i64)) rfl HI.out.1 (.int .i64 (1 + (x : Int) % 1000)) _ rfl rfl ?n3 ?n4 hs ?_)
      case n3 => simp only [maxLen]; omega
      case n4 => omega
      intro g5 cap5 w5 hown5 ht5 hpl5
      have HI5 : Hid (w5.ownsRow w.heap.size 3 1 (.slice (some ⟨g5, 0, none⟩) (k + 1) cap5) (k + 1) ((bestK xs (k + 1)).map (Value.int .i64)) ∧ Below w.heap.size w w5) := Lib.hid (by
        refine ⟨?_, HI.out.2.trans (ht5.below hs (fun i e => (HI.out.1.lt i e).1))⟩
        rw [Hsucc.out, List.map_append]
        exact hown5)
      clear hown5 ht5 hpl5 hs
      go_wp2
      go_roundw
      case rel => exact ⟨k + 1, by go_num, by omega, by omega, HI5⟩
      case measure => simp [intOf]; omega
    · have hkm : k = min 5 xs.length := by omega
      have hown := HI.out.1
      rw [bestK_all hkm] at hown
      have hkn : k = (bestF xs).length := by rw [bestF_len]; exact hkm
      have Hf := Lib.hid (own_intsB hown hkn)
      have Hb := Lib.hid HI.out.2
      have Hkn := Lib.hid hkn
      have hcond : (decide (k < xs.length) = true ∧ decide ((k : Int) < 5) = false) ∨ decide (k < xs.length) = false := by
        by_cases h : k < xs.length
        · exact .inl ⟨by simpa using h, by simp; omega⟩
        · exact .inr (by simpa using h)
      clear hown hkn hkm HI
      obtain ⟨q, hq, hwz⟩ := pow_wrap (L := L) (by omega)
      by_cases hbad : k < 2 ∨ q < k
      · have hbad' : decide (k < 2) = true ∨ (decide (k < 2) = false ∧ (q : Int) < (k : Int)) := by
          by_cases h2 : k < 2
          · exact .inl (by simpa using h2)
          · exact .inr ⟨by simpa using h2, by omega⟩
        clear hbad
        rcases hbad' with b1 | ⟨b1, b2⟩
        · rcases hcond with ⟨c1, c2⟩ | c1
          · exfalso
            have h1 := of_decide_eq_false c2
            have h2 := of_decide_eq_true b1
            omega
          · have b8 : (k : Int) < 2 := by have := of_decide_eq_true b1; omega
            go_wp2_with fail
            refine Calls.mono (codes_law wr) ?_
            rintro e w9 ⟨rfl, hb9⟩
            have Hb9 := Lib.hid (Below.thn Hb.out hb9)
            clear hb9
            go_wp2
            go_ret
            exact ⟨rfl, Hb9.out⟩
        · have b3 : q < k := by omega
          have b4 : decide (q < k) = true := by simpa using b3
          have b6 : 2 ≤ k := by have := of_decide_eq_false b1; omega
          rcases hcond with ⟨c1, c2⟩ | c1
          · go_wp2_with fail
            refine Calls.mono (codes_law wr) ?_
            rintro e w9 ⟨rfl, hb9⟩
            have Hb9 := Lib.hid (Below.thn Hb.out hb9)
            clear hb9
            go_wp2
            go_ret
            exact ⟨rfl, Hb9.out⟩
          · go_wp2_with fail
            refine Calls.mono (codes_law wr) ?_
            rintro e w9 ⟨rfl, hb9⟩
            have Hb9 := Lib.hid (Below.thn Hb.out hb9)
            clear hb9
            go_wp2
            go_ret
            exact ⟨rfl, Hb9.out⟩
      · have e2 : decide (k < 2) = false := by simp; omega
        have e3 : decide (q < k) = false := by simp; omega
        have Hpre : Hid (2 ≤ (bestF xs).length ∧ many (bestF xs).length (fq (bestF xs)) ≤ 2 ^ L) := Lib.hid (by rw [best_many, ← Hkn.out, hq]; omega)
        have hk2 : 2 ≤ k := by omega
        clear hbad hq
        rcases hcond with ⟨c1, c2⟩ | c1
        · go_wp2_with fail
          have hm1 := best_may (xs := xs) hL1 hL4
          refine Calls.mono (lengths_ok (bestF xs) _ L wr Hf.out hm1 Hpre.out.2) ?_
          rintro e w1 ⟨v1, g, rfl, ho1, hok1, hb1⟩
          rw [← Hkn.out] at ho1
          obtain ⟨pl, cl, rfl⟩ := owns_slice ho1
          have Hok := Lib.hid hok1
          have HB1 := Lib.hid (Below.thn Hb.out hb1)
          have Hat : Hid (BestAt (bestF xs) g k pf pl w1) := Lib.hid (by
            obtain ⟨pf', cf', e', _, _, hf⟩ := Hf.out.below hb1
            rw [← Hkn.out] at e'
            cases e'
            refine ⟨fun i hi => ?_, lens_cellsB ho1⟩
            obtain ⟨b, off, e, hc⟩ := hf.int (k := i) (by rw [← Hkn.out]; exact hi)
            rw [(bestF_fq (by rw [← Hkn.out]; exact hi)).1] at hc
            exact ⟨b, off, e, hc⟩)
          have Hg : Hid (∀ i, i < k → fq (bestF xs) i ≤ 1000 ∧ g i ≤ L) := Lib.hid (fun i hi => ⟨(bestF_fq (by rw [← Hkn.out]; exact hi)).2.2, (hok1.le i (by rw [← Hkn.out]; exact hi)).1⟩)
          clear ho1 hok1 hb1 hm1 Hf
          go_wp2
          go_loopw [10, 11] (fun av iv wr => ∃ (i a : Nat), av = .int .i64 (a : Int) ∧ iv = .int .i64 (i : Int) ∧ i ≤ k ∧ a ≤ 20000 ∧ Hid (a = sm i (fun i => fq (bestF xs) i * g i)) ∧ Hid (BestAt (bestF xs) g k pf pl wr) ∧ Hid (Below w.heap.size w wr)) (fun _ iv _ => k - (intOf iv).toNat)
          case atStart => exact ⟨0, 0, rfl, rfl, Nat.zero_le _, by omega, Lib.hid rfl, Hat, HB1⟩
          case round =>
            obtain ⟨i, a, rfl, rfl, hi, ha, Ha, HO, HB⟩ := hrel
            by_cases hin : i < k
            · obtain ⟨bf, of, ef, cf'⟩ := HO.out.f i hin
              obtain ⟨bl, el, cl'⟩ := HO.out.l i hin
              subst ef el
              obtain ⟨m1, m2⟩ := Hg.out i hin
              obtain ⟨x, hx⟩ : ∃ x, fq (bestF xs) i = x := ⟨_, rfl⟩
              obtain ⟨y, hy⟩ : ∃ y, g i = y := ⟨_, rfl⟩
              rw [hx] at cf' m1
              rw [hy] at cl' m2
              obtain ⟨u, hu⟩ : ∃ u, x * y = u := ⟨_, rfl⟩
              have hui : (x : Int) * (y : Int) = (u : Int) := by rw [← hu]; simp
              have hub : u ≤ 1000 * 4 := by rw [← hu]; exact Nat.mul_le_mul m1 (by omega)
              have Ha1 : Hid (a + u = sm (i + 1) (fun i => fq (bestF xs) i * g i)) := Lib.hid (by rw [sm, ← Ha.out, hx, hy, hu])
              have hab : a + u ≤ 20000 := by
                rw [Ha1.out]
                have h5 := pre_costB (fq (bestF xs)) g 1000 4 (i + 1) (fun j hj => ⟨(Hg.out j (by omega)).1, by have := (Hg.out j (by omega)).2; omega⟩)
                have h6 : (i + 1) * (1000 * 4) ≤ 5 * (1000 * 4) := Nat.mul_le_mul_right _ (by omega)
                omega
              have k0 : (0 : Int) ≤ (i : Int) := by omega
              have k1 : (i : Int) < (k : Int) := by omega
              have d0 : decide (i < k) = true := by simpa using hin
              clear hx hy hu Ha
              go_wp2
              go_quiet (fail)
              have hb3 : Below wr.heap.size wr (wr.drewN nq) := Below.drewN' (Below.refl _ _) nq
              have HO3 := Lib.hid (HO.out.below hb3)
              have HB3 := Lib.hid (Below.thn HB.out hb3)
              clear hb3 HO HB cf' cl'
              go_wp2
              go_roundw
              case rel => exact ⟨i + 1, a + u, by go_num, by go_num, by omega, hab, Ha1, HO3, HB3⟩
              case measure => simp [intOf]; omega
            · obtain rfl : i = k := by omega
              have d0 : decide (i < i) = false := by simp
              have Hcost := Ha
              clear Ha
              go_wp2
              go_loop [12, 13] (fun rv jv => ∃ (j r : Nat), rv = .int .i64 (r : Int) ∧ jv = .int .i64 (j : Int) ∧ j ≤ i ∧ r ≤ 1024 ∧ Hid (r = L ^ j)) (fun _ jv => i - (intOf jv).toNat)
              case atStart => exact ⟨0, 1, rfl, rfl, Nat.zero_le _, by omega, Lib.hid rfl⟩
              case round =>
                obtain ⟨j, r, rfl, rfl, hj, hr, Hr⟩ := hrel
                by_cases hji : j < i
                · obtain ⟨u, hu⟩ : ∃ u, r * L = u := ⟨_, rfl⟩
                  have hui : (r : Int) * (L : Int) = (u : Int) := by rw [← hu]; simp
                  have Hr1 : Hid (u = L ^ (j + 1)) := Lib.hid (by rw [← hu, Nat.pow_succ, ← Hr.out])
                  have hub : u ≤ 1024 := by
                    rw [Hr1.out]
                    have h5 : L ^ (j + 1) ≤ 4 ^ (j + 1) := Nat.pow_le_pow_left hL4 _
                    have h6 : 4 ^ (j + 1) ≤ 4 ^ 5 := Nat.pow_le_pow_right (by decide) (by omega)
                    have h7 : (4 : Nat) ^ 5 = 1024 := rfl
                    omega
                  have d1 : decide (j < i) = true := by simpa using hji
                  clear hu
                  go_wp2
                  go_round
                  case rel => exact ⟨j + 1, u, by go_num, by go_num, by omega, hub, Hr1⟩
                  case measure => simp [intOf]; omega
                · obtain rfl : j = i := by omega
                  have d1 : decide (j < j) = false := by simp
                  go_wp2
                  have HR := Hr
                  clear Hr
                  go_loop [14] (fun mv => ∃ (m : Nat), mv = .int .i64 (m : Int) ∧ m ≤ r) (fun mv => r - (intOf mv).toNat)
                  case atStart => exact ⟨0, rfl, Nat.zero_le _⟩
                  case round =>
                    obtain ⟨m, rfl, hm⟩ := hrel
                    by_cases hmr : m < r
                    · have d2 : decide (m < r) = true := by simpa using hmr
                      go_wp2
                      go_loop [15, 16, 17, 18] (fun sv cv kv tv => ∃ (t s c q2 : Nat), sv = .int .i64 (s : Int) ∧ cv = .int .i64 (c : Int) ∧ kv = .int .i64 (q2 : Int) ∧ tv = .int .i64 (t : Int) ∧ t ≤ j ∧ s ≤ 80 ∧ c ≤ 20000 ∧ q2 ≤ 1024 ∧ Hid (s = sm t (fun i => 2 ^ (4 - digL L m i)) ∧ c = sm t (fun i => fq (bestF xs) i * digL L m i) ∧ q2 = m / L ^ t)) (fun _ _ _ tv => j - (intOf tv).toNat)
                      case atStart => exact ⟨0, 0, 0, m, rfl, rfl, rfl, rfl, Nat.zero_le _, by omega, by omega, by omega, Lib.hid ⟨rfl, rfl, by simp⟩⟩
                      case round =>
                        obtain ⟨t, s, c, q2, rfl, rfl, rfl, rfl, ht, hs, hc, hq2, HI⟩ := hrel
                        by_cases htj : t < j
                        · obtain ⟨bf, of, ef, cfx⟩ := HO.out.f t htj
                          subst ef
                          have m1 := (Hg.out t htj).1
                          obtain ⟨x, hx⟩ : ∃ x, fq (bestF xs) t = x := ⟨_, rfl⟩
                          rw [hx] at cfx m1
                          obtain ⟨e, he⟩ : ∃ e, q2 % L = e := ⟨_, rfl⟩
                          have heL : e < L := by rw [← he]; exact Nat.mod_lt _ hL1
                          have hei : (q2 : Int) % (L : Int) = (e : Int) := by rw [← he]; simp
                          obtain ⟨z, hz⟩ : ∃ z, q2 / L = z := ⟨_, rfl⟩
                          have hzi : (q2 : Int) / (L : Int) = (z : Int) := by rw [← hz]; simp
                          have hzb : z ≤ 1024 := by rw [← hz]; exact Nat.le_trans (Nat.div_le_self _ _) hq2
                          have hnz : ((L : Int) == 0) = false := by simp; omega
                          have hdig : digL L m t = 1 + e := by unfold digL; rw [← HI.out.2.2, he]
                          obtain ⟨d, hd⟩ : ∃ d, 1 + e = d := ⟨_, rfl⟩
                          have hdi : 1 + (e : Int) = (d : Int) := by omega
                          have hd4 : d ≤ 4 := by omega
                          have hsh := shr_16 (n := d) hd4
                          obtain ⟨y, hy⟩ : ∃ y, 2 ^ (4 - d) = y := ⟨_, rfl⟩
                          rw [hy] at hsh
                          have hyb : y ≤ 16 := by
                            rw [← hy]
                            have h5 : 2 ^ (4 - d) ≤ 2 ^ 4 := Nat.pow_le_pow_right (by decide) (by omega)
                            exact h5
                          obtain ⟨u, hu⟩ : ∃ u, x * d = u := ⟨_, rfl⟩
                          have hui : (x : Int) * (d : Int) = (u : Int) := by rw [← hu]; simp
                          have hub : u ≤ 1000 * 4 := by rw [← hu]; exact Nat.mul_le_mul m1 hd4
                          have HI1 : Hid (s + y = sm (t + 1) (fun i => 2 ^ (4 - digL L m i)) ∧ c + u = sm (t + 1) (fun i => fq (bestF xs) i * digL L m i) ∧ z = m / L ^ (t + 1)) := Lib.hid (by
                            obtain ⟨a1, a2, a3⟩ := HI.out
                            rw [sm, sm, ← a1, ← a2, hdig, hd, hy, hx, hu]
                            exact ⟨rfl, rfl, by rw [← hz, a3, Nat.pow_succ, Nat.div_div_eq_div_mul]⟩)
                          have hsb : s + y ≤ 80 := by
                            rw [HI1.out.1]
                            have h5 := pre_costB (fun _ => 1) (fun i => 2 ^ (4 - digL L m i)) 1 16 (t + 1) (fun i _ => ⟨Nat.le_refl _, (show 2 ^ (4 - digL L m i) ≤ 2 ^ 4 from Nat.pow_le_pow_right (by decide) (by omega))⟩)
                            simp only [Nat.one_mul] at h5
                            omega
                          have hcb : c + u ≤ 20000 := by
                            rw [HI1.out.2.1]
                            have h5 := pre_costB (fq (bestF xs)) (fun i => digL L m i) 1000 4 (t + 1) (fun i hi => ⟨(Hg.out i (by omega)).1, Nat.le_trans ((digL_at L m i).2 hL1) hL4⟩)
                            have h6 : (t + 1) * (1000 * 4) ≤ 5 * (1000 * 4) := Nat.mul_le_mul_right _ (by omega)
                            have h7 : sm (t + 1) (fun i => fq (bestF xs) i * digL L m i) ≤ (t + 1) * (1000 * 4) := h5
                            omega
                          have k0 : (0 : Int) ≤ (t : Int) := by omega
                          have k1 : (t : Int) < (j : Int) := by omega
                          have d3 : decide (t < j) = true := by simpa using htj
                          clear he hz hd hy hu hx hdig
                          go_wp2
                          go_round
                          case rel => exact ⟨t + 1, s + y, c + u, z, by go_num, by go_num, by go_num, by go_num, by omega, hsb, hcb, hzb, HI1⟩
                          case measure => simp [intOf]; omega
                        · obtain rfl : t = j := by omega
                          have d3 : decide (t < t) = false := by simp
                          have hno : ¬ (s = 16 ∧ c < a) := fun h => by
                            obtain ⟨a1, a2, a3⟩ := HI.out
                            have h5 := best_row (xs := xs) (l := digL L m) Hok.out Hpre.out.1 hL1 hL4 (fun i _ => ⟨(digL_at L m i).1, (digL_at L m i).2 hL1⟩) (by rw [← Hkn.out, ← a1]; exact h.1)
                            rw [← Hkn.out, ← a2, ← Hcost.out] at h5
                            omega
                          clear HI
                          by_cases hs16 : s = 16
                          · subst hs16
                            have d4 : decide (c < a) = false := by simp; omega
                            clear hno
                            go_wp2
                            go_round
                            case rel => exact ⟨m + 1, by go_num, by omega⟩
                            case measure => simp [intOf]; omega
                          · have d4 : ((s : Int) == 16) = false := by simp; omega
                            clear hno
                            go_wp2
                            go_round
                            case rel => exact ⟨m + 1, by go_num, by omega⟩
                            case measure => simp [intOf]; omega
                    · obtain rfl : m = r := by omega
                      have d2 : decide (m < m) = false := by simp
                      go_wp2_with fail
                      refine Calls.mono (codes_law wr) ?_
                      rintro e w9 ⟨rfl, hb9⟩
                      have Hb9 := Lib.hid (Below.thn HB.out hb9)
                      clear hb9
                      go_wp2
                      go_ret
                      exact ⟨rfl, Hb9.out⟩
        · go_wp2_with fail
          have hm1 := best_may (xs := xs) hL1 hL4
          refine Calls.mono (lengths_ok (bestF xs) _ L wr Hf.out hm1 Hpre.out.2) ?_
          rintro e w1 ⟨v1, g, rfl, ho1, hok1, hb1⟩
          rw [← Hkn.out] at ho1
          obtain ⟨pl, cl, rfl⟩ := owns_slice ho1
          have Hok := Lib.hid hok1
          have HB1 := Lib.hid (Below.thn Hb.out hb1)
          have Hat : Hid (BestAt (bestF xs) g k pf pl w1) := Lib.hid (by
            obtain ⟨pf', cf', e', _, _, hf⟩ := Hf.out.below hb1
            rw [← Hkn.out] at e'
            cases e'
            refine ⟨fun i hi => ?_, lens_cellsB ho1⟩
            obtain ⟨b, off, e, hc⟩ := hf.int (k := i) (by rw [← Hkn.out]; exact hi)
            rw [(bestF_fq (by rw [← Hkn.out]; exact hi)).1] at hc
            exact ⟨b, off, e, hc⟩)
          have Hg : Hid (∀ i, i < k → fq (bestF xs) i ≤ 1000 ∧ g i ≤ L) := Lib.hid (fun i hi => ⟨(bestF_fq (by rw [← Hkn.out]; exact hi)).2.2, (hok1.le i (by rw [← Hkn.out]; exact hi)).1⟩)
          clear ho1 hok1 hb1 hm1 Hf
          go_wp2
          go_loopw [10, 11] (fun av iv wr => ∃ (i a : Nat), av = .int .i64 (a : Int) ∧ iv = .int .i64 (i : Int) ∧ i ≤ k ∧ a ≤ 20000 ∧ Hid (a = sm i (fun i => fq (bestF xs) i * g i)) ∧ Hid (BestAt (bestF xs) g k pf pl wr) ∧ Hid (Below w.heap.size w wr)) (fun _ iv _ => k - (intOf iv).toNat)
          case atStart => exact ⟨0, 0, rfl, rfl, Nat.zero_le _, by omega, Lib.hid rfl, Hat, HB1⟩
          case round =>
            obtain ⟨i, a, rfl, rfl, hi, ha, Ha, HO, HB⟩ := hrel
            by_cases hin : i < k
            · obtain ⟨bf, of, ef, cf'⟩ := HO.out.f i hin
              obtain ⟨bl, el, cl'⟩ := HO.out.l i hin
              subst ef el
              obtain ⟨m1, m2⟩ := Hg.out i hin
              obtain ⟨x, hx⟩ : ∃ x, fq (bestF xs) i = x := ⟨_, rfl⟩
              obtain ⟨y, hy⟩ : ∃ y, g i = y := ⟨_, rfl⟩
              rw [hx] at cf' m1
              rw [hy] at cl' m2
              obtain ⟨u, hu⟩ : ∃ u, x * y = u := ⟨_, rfl⟩
              have hui : (x : Int) * (y : Int) = (u : Int) := by rw [← hu]; simp
              have hub : u ≤ 1000 * 4 := by rw [← hu]; exact Nat.mul_le_mul m1 (by omega)
              have Ha1 : Hid (a + u = sm (i + 1) (fun i => fq (bestF xs) i * g i)) := Lib.hid (by rw [sm, ← Ha.out, hx, hy, hu])
              have hab : a + u ≤ 20000 := by
                rw [Ha1.out]
                have h5 := pre_costB (fq (bestF xs)) g 1000 4 (i + 1) (fun j hj => ⟨(Hg.out j (by omega)).1, by have := (Hg.out j (by omega)).2; omega⟩)
                have h6 : (i + 1) * (1000 * 4) ≤ 5 * (1000 * 4) := Nat.mul_le_mul_right _ (by omega)
                omega
              have k0 : (0 : Int) ≤ (i : Int) := by omega
              have k1 : (i : Int) < (k : Int) := by omega
              have d0 : decide (i < k) = true := by simpa using hin
              clear hx hy hu Ha
              go_wp2
              go_quiet (fail)
              have hb3 : Below wr.heap.size wr (wr.drewN nq) := Below.drewN' (Below.refl _ _) nq
              have HO3 := Lib.hid (HO.out.below hb3)
              have HB3 := Lib.hid (Below.thn HB.out hb3)
              clear hb3 HO HB cf' cl'
              go_wp2
              go_roundw
              case rel => exact ⟨i + 1, a + u, by go_num, by go_num, by omega, hab, Ha1, HO3, HB3⟩
              case measure => simp [intOf]; omega
            · obtain rfl : i = k := by omega
              have d0 : decide (i < i) = false := by simp
              have Hcost := Ha
              clear Ha
              go_wp2
              go_loop [12, 13] (fun rv jv => ∃ (j r : Nat), rv = .int .i64 (r : Int) ∧ jv = .int .i64 (j : Int) ∧ j ≤ i ∧ r ≤ 1024 ∧ Hid (r = L ^ j)) (fun _ jv => i - (intOf jv).toNat)
              case atStart => exact ⟨0, 1, rfl, rfl, Nat.zero_le _, by omega, Lib.hid rfl⟩
              case round =>
                obtain ⟨j, r, rfl, rfl, hj, hr, Hr⟩ := hrel
                by_cases hji : j < i
                · obtain ⟨u, hu⟩ : ∃ u, r * L = u := ⟨_, rfl⟩
                  have hui : (r : Int) * (L : Int) = (u : Int) := by rw [← hu]; simp
                  have Hr1 : Hid (u = L ^ (j + 1)) := Lib.hid (by rw [← hu, Nat.pow_succ, ← Hr.out])
                  have hub : u ≤ 1024 := by
                    rw [Hr1.out]
                    have h5 : L ^ (j + 1) ≤ 4 ^ (j + 1) := Nat.pow_le_pow_left hL4 _
                    have h6 : 4 ^ (j + 1) ≤ 4 ^ 5 := Nat.pow_le_pow_right (by decide) (by omega)
                    have h7 : (4 : Nat) ^ 5 = 1024 := rfl
                    omega
                  have d1 : decide (j < i) = true := by simpa using hji
                  clear hu
                  go_wp2
                  go_round
                  case rel => exact ⟨j + 1, u, by go_num, by go_num, by omega, hub, Hr1⟩
                  case measure => simp [intOf]; omega
                · obtain rfl : j = i := by omega
                  have d1 : decide (j < j) = false := by simp
                  go_wp2
                  have HR := Hr
                  clear Hr
                  go_loop [14] (fun mv => ∃ (m : Nat), mv = .int .i64 (m : Int) ∧ m ≤ r) (fun mv => r - (intOf mv).toNat)
                  case atStart => exact ⟨0, rfl, Nat.zero_le _⟩
                  case round =>
                    obtain ⟨m, rfl, hm⟩ := hrel
                    by_cases hmr : m < r
                    · have d2 : decide (m < r) = true := by simpa using hmr
                      go_wp2
                      go_loop [15, 16, 17, 18] (fun sv cv kv tv => ∃ (t s c q2 : Nat), sv = .int .i64 (s : Int) ∧ cv = .int .i64 (c : Int) ∧ kv = .int .i64 (q2 : Int) ∧ tv = .int .i64 (t : Int) ∧ t ≤ j ∧ s ≤ 80 ∧ c ≤ 20000 ∧ q2 ≤ 1024 ∧ Hid (s = sm t (fun i => 2 ^ (4 - digL L m i)) ∧ c = sm t (fun i => fq (bestF xs) i * digL L m i) ∧ q2 = m / L ^ t)) (fun _ _ _ tv => j - (intOf tv).toNat)
                      case atStart => exact ⟨0, 0, 0, m, rfl, rfl, rfl, rfl, Nat.zero_le _, by omega, by omega, by omega, Lib.hid ⟨rfl, rfl, by simp⟩⟩
                      case round =>
                        obtain ⟨t, s, c, q2, rfl, rfl, rfl, rfl, ht, hs, hc, hq2, HI⟩ := hrel
                        by_cases htj : t < j
                        · obtain ⟨bf, of, ef, cfx⟩ := HO.out.f t htj
                          subst ef
                          have m1 := (Hg.out t htj).1
                          obtain ⟨x, hx⟩ : ∃ x, fq (bestF xs) t = x := ⟨_, rfl⟩
                          rw [hx] at cfx m1
                          obtain ⟨e, he⟩ : ∃ e, q2 % L = e := ⟨_, rfl⟩
                          have heL : e < L := by rw [← he]; exact Nat.mod_lt _ hL1
                          have hei : (q2 : Int) % (L : Int) = (e : Int) := by rw [← he]; simp
                          obtain ⟨z, hz⟩ : ∃ z, q2 / L = z := ⟨_, rfl⟩
                          have hzi : (q2 : Int) / (L : Int) = (z : Int) := by rw [← hz]; simp
                          have hzb : z ≤ 1024 := by rw [← hz]; exact Nat.le_trans (Nat.div_le_self _ _) hq2
                          have hnz : ((L : Int) == 0) = false := by simp; omega
                          have hdig : digL L m t = 1 + e := by unfold digL; rw [← HI.out.2.2, he]
                          obtain ⟨d, hd⟩ : ∃ d, 1 + e = d := ⟨_, rfl⟩
                          have hdi : 1 + (e : Int) = (d : Int) := by omega
                          have hd4 : d ≤ 4 := by omega
                          have hsh := shr_16 (n := d) hd4
                          obtain ⟨y, hy⟩ : ∃ y, 2 ^ (4 - d) = y := ⟨_, rfl⟩
                          rw [hy] at hsh
                          have hyb : y ≤ 16 := by
                            rw [← hy]
                            have h5 : 2 ^ (4 - d) ≤ 2 ^ 4 := Nat.pow_le_pow_right (by decide) (by omega)
                            exact h5
                          obtain ⟨u, hu⟩ : ∃ u, x * d = u := ⟨_, rfl⟩
                          have hui : (x : Int) * (d : Int) = (u : Int) := by rw [← hu]; simp
                          have hub : u ≤ 1000 * 4 := by rw [← hu]; exact Nat.mul_le_mul m1 hd4
                          have HI1 : Hid (s + y = sm (t + 1) (fun i => 2 ^ (4 - digL L m i)) ∧ c + u = sm (t + 1) (fun i => fq (bestF xs) i * digL L m i) ∧ z = m / L ^ (t + 1)) := Lib.hid (by
                            obtain ⟨a1, a2, a3⟩ := HI.out
                            rw [sm, sm, ← a1, ← a2, hdig, hd, hy, hx, hu]
                            exact ⟨rfl, rfl, by rw [← hz, a3, Nat.pow_succ, Nat.div_div_eq_div_mul]⟩)
                          have hsb : s + y ≤ 80 := by
                            rw [HI1.out.1]
                            have h5 := pre_costB (fun _ => 1) (fun i => 2 ^ (4 - digL L m i)) 1 16 (t + 1) (fun i _ => ⟨Nat.le_refl _, (show 2 ^ (4 - digL L m i) ≤ 2 ^ 4 from Nat.pow_le_pow_right (by decide) (by omega))⟩)
                            simp only [Nat.one_mul] at h5
                            omega
                          have hcb : c + u ≤ 20000 := by
                            rw [HI1.out.2.1]
                            have h5 := pre_costB (fq (bestF xs)) (fun i => digL L m i) 1000 4 (t + 1) (fun i hi => ⟨(Hg.out i (by omega)).1, Nat.le_trans ((digL_at L m i).2 hL1) hL4⟩)
                            have h6 : (t + 1) * (1000 * 4) ≤ 5 * (1000 * 4) := Nat.mul_le_mul_right _ (by omega)
                            have h7 : sm (t + 1) (fun i => fq (bestF xs) i * digL L m i) ≤ (t + 1) * (1000 * 4) := h5
                            omega
                          have k0 : (0 : Int) ≤ (t : Int) := by omega
                          have k1 : (t : Int) < (j : Int) := by omega
                          have d3 : decide (t < j) = true := by simpa using htj
                          clear he hz hd hy hu hx hdig
                          go_wp2
                          go_round
                          case rel => exact ⟨t + 1, s + y, c + u, z, by go_num, by go_num, by go_num, by go_num, by omega, hsb, hcb, hzb, HI1⟩
                          case measure => simp [intOf]; omega
                        · obtain rfl : t = j := by omega
                          have d3 : decide (t < t) = false := by simp
                          have hno : ¬ (s = 16 ∧ c < a) := fun h => by
                            obtain ⟨a1, a2, a3⟩ := HI.out
                            have h5 := best_row (xs := xs) (l := digL L m) Hok.out Hpre.out.1 hL1 hL4 (fun i _ => ⟨(digL_at L m i).1, (digL_at L m i).2 hL1⟩) (by rw [← Hkn.out, ← a1]; exact h.1)
                            rw [← Hkn.out, ← a2, ← Hcost.out] at h5
                            omega
                          clear HI
                          by_cases hs16 : s = 16
                          · subst hs16
                            have d4 : decide (c < a) = false := by simp; omega
                            clear hno
                            go_wp2
                            go_round
                            case rel => exact ⟨m + 1, by go_num, by omega⟩
                            case measure => simp [intOf]; omega
                          · have d4 : ((s : Int) == 16) = false := by simp; omega
                            clear hno
                            go_wp2
                            go_round
                            case rel => exact ⟨m + 1, by go_num, by omega⟩
                            case measure => simp [intOf]; omega
                    · obtain rfl : m = r := by omega
                      have d2 : decide (m < m) = false := by simp
                      go_wp2_with fail
                      refine Calls.mono (codes_law wr) ?_
                      rintro e w9 ⟨rfl, hb9⟩
                      have Hb9 := Lib.hid (Below.thn HB.out hb9)
                      clear hb9
                      go_wp2
                      go_ret
                      exact ⟨rfl, Hb9.out⟩

end Go.Proofs.Ytmhggbojnkmlpaa
