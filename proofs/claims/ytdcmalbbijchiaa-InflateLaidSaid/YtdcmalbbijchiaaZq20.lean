/- Several texts in one, each with its own head. -/
import Derived.Test.YtdcmalbbijchiaaZq19
import Derived.Test.YtdcmalbbijchiaaZq18
/- huff's Read. -/
namespace Go.Proofs.Ytdcmalbbijchiaa
open Go.RowKit Go.Maps

/-- The first s bits from a place on. -/
def bt (l : List Nat) (a s : Nat) : Nat := numB l / 2 ^ a % 2 ^ s
theorem bt_succ (l : List Nat) (a s : Nat) : bt l a (s + 1) = bt l a s + (numB l / 2 ^ (a + s) % 2 ^ 1) * 2 ^ s := by
  unfold bt
  rw [Nat.pow_succ, Nat.mod_mul, Nat.div_div_eq_div_mul, ← Nat.pow_add, Nat.pow_one, Nat.mul_comm (2 ^ s)]
theorem bt_lt (l : List Nat) (a s : Nat) : bt l a s < 2 ^ s := Nat.mod_lt _ (Nat.two_pow_pos s)
theorem bt_zero (l : List Nat) (a : Nat) : bt l a 0 = 0 := by unfold bt; rw [Nat.pow_zero, Nat.mod_one]

/-- What Read answers: of the table F with no code longer than L, from the place a of the bytes l on: a symbol, an error, and how many bits were read. -/
structure RdAns (F : Nat × Nat → Option Nat) (L : Nat) (l : List Nat) (a : Nat) (x : Nat) (e : Int) (s : Nat) : Prop where
  no : ∀ t, 1 ≤ t → t < s → F (bt l a t, t) = none
  le : s ≤ L ∧ a + s ≤ 8 * l.length
  ans : (e = 0 ∧ 1 ≤ s ∧ F (bt l a s, s) = some x) ∨ (e = 60 ∧ x = 0 ∧ s = L ∧ (1 ≤ s → F (bt l a s, s) = none)) ∨ (e = 50 ∧ x = 0 ∧ s < L ∧ a + s = 8 * l.length ∧ (1 ≤ s → F (bt l a s, s) = none))

/-- A table in a world. -/
structure Tb (w : World) (T M n L : Nat) (F : Nat × Nat → Option Nat) : Prop where
  tab : w.heap[T]? = some (.cells #[.map (some M), .int .u16 (L : Int)] 139)
  map : MapAt w M n F
theorem Tb.turns {w w' : World} {T M n L : Nat} {F : Nat × Nat → Option Nat} (h : Tb w T M n L F) {N : Nat → Prop} (ht : Turns N w w') (hT : ¬ N T) (hM : ¬ N M) : Tb w' T M n L F :=
  ⟨(ht.block T (lt_heap h.tab) hT).trans h.tab, h.map.turned ht hM⟩

set_option maxRecDepth 100000 in
set_option maxHeartbeats 2000000 in
theorem read_any (T M n L B a : Nat) (F : Nat × Nat → Option Nat) (sv : Value) (l : List Nat) (w : World) (ht : Tb w T M n L F) (hr : Rd w B sv l a) (hL : L ≤ 15) (hTB : T ≠ B) (hMB : M ≠ B) :
    Calls Try.prog 78 #[.pointer (some ⟨T, 0, none⟩), .pointer (some ⟨B, 0, none⟩)] w fun e w' => ∃ (x : Nat) (er : Int) (s : Nat), e = .returned (.tuple #[.int .i64 (x : Int), .int .i64 er]) ∧ RdAns F L l a x er s ∧ Rd w' B sv l (a + s) ∧ Tb w' T M n L F ∧ Turns (fun i => i = B) w w' := by
  obtain ⟨G, hG⟩ : ∃ G, w.heap.size = G := ⟨_, rfl⟩
  have Ht := Lib.hid ht
  have Hr := Lib.hid hr
  have hap := Lib.hid hr.apart
  clear ht hr
  go_enter Try.func78, Try.ntmps78
  go_wp2_with fail
  go_loopw [7] (fun _ wr => ∃ s : Nat, wr.heap[G]? = some (.cells #[.int .u16 (bt l a s : Int), .int .u16 (s : Int)] 75) ∧ s ≤ L ∧ a + s ≤ 8 * l.length ∧ Hid (∀ t, 1 ≤ t → t ≤ s → F (bt l a t, t) = none) ∧ Hid (Rd wr B sv l (a + s)) ∧ Hid (Tb wr T M n L F) ∧ Hid (Turns (fun i => i = B) w wr) ∧ G < wr.heap.size)
    (fun _ wr => L - (intOf ((wr.cell? ⟨G, 1, none⟩).getD undef)).toNat)
  case atStart =>
    have hbw : Below w.heap.size w (w.alloc (.cells #[.int .u16 0, .int .u16 0] 75)) := Below.al1 w _
    refine ⟨0, ?_, by omega, by have := Hr.out.pos; omega, Lib.hid fun t h1 h2 => by omega, Lib.hid (Hr.out.below hbw), Lib.hid (Ht.out.turns (N := fun _ => False) (Turns.of_below' hbw) (fun h => h) (fun h => h)), Lib.hid (Turns.of_below' hbw), ?_⟩
    · rw [bt_zero, ← hG]
      exact (heap_pushed [.cells #[.int .u16 0, .int .u16 0] 75] w 0 _).2 rfl
    · rw [← hG]; exact lt_heap ((heap_pushed [.cells #[.int .u16 0, .int .u16 0] 75] w 0 _).2 rfl)
  case round =>
    obtain ⟨s, hg, hs, has, HN, HR, HT, HW, hGw⟩ := hrel
    have hms : L - (intOf ((wr.cell? ⟨G, 1, none⟩).getD undef)).toNat = L - s := by rw [cell_heap hg rfl]; simp [intOf]
    rw [hms]
    have hTG : T < G := hG ▸ lt_heap Ht.out.tab
    have hMG : M < G := hG ▸ Ht.out.map.lt
    have hBG : B < G := hG ▸ Hr.out.size
    have hSG : ∀ k, sv.ownBlock = some k → k < G := hG ▸ Hr.out.row.lt
    have HS := Lib.hid hSG
    clear hms hSG
    have hbd : Below wr.heap.size wr wr.drew := ⟨rfl, rfl, rfl, Nat.le_refl _, fun _ _ => rfl⟩
    have HR1 := Lib.hid (HR.out.below hbd)
    have HT1 := Lib.hid (HT.out.turns (N := fun _ => False) (Turns.of_below' hbd) (fun h => h) (fun h => h))
    have HW1 := Lib.hid (HW.out.trans (Turns.of_below' hbd))
    have hg1 : Hid (wr.drew.heap[G]? = some (.cells #[.int .u16 (bt l a s : Int), .int .u16 (s : Int)] 75)) := Lib.hid hg
    have c1 : wr.drew.cell? ⟨G, 1, none⟩ = some (.int .u16 (s : Int)) := cell_heap hg1.out rfl
    have c2 : wr.drew.cell? ⟨T, 1, none⟩ = some (.int .u16 (L : Int)) := cell_heap HT1.out.tab rfl
    go_wp2_with fail
    refine wp_region_still_lit (by kernel_rfl) (by kernel_rfl) ?_
    by_cases hlt : s < L
    · have d0 : decide ((s : Int) < (L : Int)) = true := by simp; omega
      have d0' : decide (s < L) = true := by simp; omega
      change wpStill _ _ wr.drew (fun a' => Exit.then _ _ .normal a' wr.drew) _ _
      clear hbd HR HT HW hg
      generalize wr.drew = W1 at *
      repeat still_step
      refine wpStill_nil ?_
      by_cases hend : a + s < 8 * l.length
      · go_wp2_with fail
        refine Calls.mono (get_ok B (a + s) 1 sv l W1 HR1.out (by omega) (by omega)) ?_
        obtain ⟨x, hx⟩ : ∃ x, numB l / 2 ^ (a + s) % 2 ^ 1 = x := ⟨_, rfl⟩
        rw [hx]
        have hx2 : x < 2 := by rw [← hx]; exact Nat.mod_lt _ (by decide)
        have Hx := Lib.hid hx
        clear hx
        rintro e W2 ⟨rfl, hr2, ht2⟩
        have HR2 := Lib.hid hr2
        have HW2 := Lib.hid (HW1.out.trans ht2)
        have HT2 := Lib.hid (HT1.out.turns ht2 hTB hMB)
        have hg2 : Hid (W2.heap[G]? = some (.cells #[.int .u16 (bt l a s : Int), .int .u16 (s : Int)] 75)) := Lib.hid ((ht2.block G (lt_heap hg1.out) (by omega)).trans hg1.out)
        have e0 : W2.cell? ⟨G, 0, none⟩ = some (.int .u16 (bt l a s : Int)) := cell_heap hg2.out rfl
        have e1 : W2.cell? ⟨G, 1, none⟩ = some (.int .u16 (s : Int)) := cell_heap hg2.out rfl
        clear hr2 ht2 HR1 HW1 HT1 hg1 c1 c2
        go_wp2_with fail
        refine Calls.mono (and_any (bt l a s) s x W2 (bt_lt l a s) (by omega) hx2) ?_
        have hbs : bt l a s + x * 2 ^ s = bt l a (s + 1) := by rw [bt_succ, Hx.out]
        obtain ⟨z, hz⟩ : ∃ z : Int, ((s + 1 : Nat) : Int) = z := ⟨_, rfl⟩
        rw [hbs, hz]
        clear hbs
        rintro e W3 ⟨rfl, hb3⟩
        obtain ⟨b, hb⟩ : ∃ b, bt l a (s + 1) = b := ⟨_, rfl⟩
        rw [hb]
        have Hb := Lib.hid hb
        have hb16 : b < 65536 := by
          have h1 := bt_lt l a (s + 1)
          have h2 : 2 ^ (s + 1) ≤ 2 ^ 15 := Nat.pow_le_pow_right (by decide) (by omega)
          have h3 : (2 : Nat) ^ 15 = 32768 := rfl
          omega
        have hg3 := (hb3.block G (lt_heap hg2.out)).trans hg2.out
        have f0 : W3.frozen? ⟨G, 0, none⟩ = false := by simp [World.frozen?, hg3]
        have f1 : W3.frozen? ⟨G, 1, none⟩ = false := by simp [World.frozen?, hg3]
        have e0 : W3.cell? ⟨G, 0, none⟩ = some (.int .u16 (bt l a s : Int)) := cell_heap hg3 rfl
        have e1 : W3.cell? ⟨G, 1, none⟩ = some (.int .u16 (s : Int)) := cell_heap hg3 rfl
        obtain ⟨W4, hW4⟩ : ∃ W4, ((W3.setCell ⟨G, 0, none⟩ (.int .u16 (b : Int))).setCell ⟨G, 1, none⟩ (.int .u16 z)).drew = W4 := ⟨_, rfl⟩
        have hg4 : Hid (W4.heap[G]? = some (.cells #[.int .u16 (b : Int), .int .u16 z] 75)) := Lib.hid (by rw [← hW4]; exact two_set1 _ (two_set0 _ hg3))
        have ht4 : Turns (fun i => i = G) W2 W4 := by
          rw [← hW4]
          have h1 : Turns (fun i => i = G) W2 ((W3.setCell ⟨G, 0, none⟩ (.int .u16 (b : Int))).setCell ⟨G, 1, none⟩ (.int .u16 z)) := Turns.set (T := fun i => i = G) (p := ⟨G, 1, none⟩) (Turns.set (T := fun i => i = G) (p := ⟨G, 0, none⟩) (Turns.of_below' hb3) rfl _) rfl _
          exact ⟨h1.os, h1.tape, h1.output, h1.size, h1.block⟩
        have HR4 := Lib.hid (HR2.out.turns ht4 (by omega) (fun k hk e => by have := HS.out k hk; omega))
        have HT4 := Lib.hid (HT2.out.turns ht4 (by omega) (by omega))
        have HW4 : Hid (Turns (fun i => i = B) w W4) := Lib.hid (HW2.out.trans' ht4 (fun i hi e => by omega))
        have HGw4 : Hid (G < W4.heap.size) := Lib.hid (lt_heap hg4.out)
        have hlook := HT4.out.map.look (k := (b, s + 1)) hb16 (by show s + 1 < 65536; omega)
        unfold ck at hlook
        simp only [hz] at hlook
        have Hz := Lib.hid hz
        have HHb := Lib.hid hb3
        have HW4e := Lib.hid hW4
        obtain ⟨o, ho⟩ : ∃ o, F (b, s + 1) = o := ⟨_, rfl⟩
        rw [ho] at hlook
        have Ho := Lib.hid ho
        clear hb hb3 hg3 ht4 hW4 ho HR2 HW2 HT2 hg2
        clear hz
        have e2 : W4.cell? ⟨T, 0, none⟩ = some (.map (some M)) := cell_heap HT4.out.tab rfl
        have e3 : W4.cell? ⟨G, 0, none⟩ = some (.int .u16 (b : Int)) := cell_heap hg4.out rfl
        have e4 : W4.cell? ⟨G, 1, none⟩ = some (.int .u16 z) := cell_heap hg4.out rfl
        go_wp2_with fail
        refine wp_region_still_lit (by kernel_rfl) (by kernel_rfl) ?_
        change wpStill _ _ (((W3.setCell ⟨G, 0, none⟩ (.int .u16 (b : Int))).setCell ⟨G, 1, none⟩ (.int .u16 z)).drew) (fun a' => Exit.then _ _ .normal a' (((W3.setCell ⟨G, 0, none⟩ (.int .u16 (b : Int))).setCell ⟨G, 1, none⟩ (.int .u16 z)).drew)) _ _
        rw [HW4e.out]
        clear e0 e1 f0 f1
        cases o with
        | some y =>
          repeat still_step
          refine wpStill_nil ?_
          go_wp2
          go_ret2
          exact ⟨y, 0, s + 1, rfl, ⟨fun t h1 h2 => HN.out t h1 (by omega), ⟨by omega, by omega⟩, .inl ⟨rfl, by omega, by rw [Hb.out]; exact Ho.out⟩⟩, HR4.out, HT4.out, HW4.out⟩
        | none =>
          repeat still_step
          refine wpStill_nil ?_
          go_wp2
          go_roundw
          case rel =>
            refine ⟨s + 1, by rw [Hb.out, Hz.out]; exact hg4.out, by omega, by omega, Lib.hid fun t h1 h2 => ?_, HR4, HT4, HW4, HGw4.out⟩
            rcases Nat.lt_or_ge s t with h3 | h3
            · obtain rfl : t = s + 1 := by omega
              rw [Hb.out]; exact Ho.out
            · exact HN.out t h1 h3
          case measure =>
            rw [cell_heap hg4.out rfl, ← Hz.out]
            simp [intOf]; omega
      · go_wp2_with fail
        refine Calls.mono (get_few B (a + s) 1 sv l W1 HR1.out (by omega) (by omega)) ?_
        rintro e W2 ⟨rfl, hb2⟩
        have HR2 := Lib.hid (HR1.out.below hb2)
        have HT2 := Lib.hid (HT1.out.turns (N := fun _ => False) (Turns.of_below' hb2) (fun h => h) (fun h => h))
        have HW2 := Lib.hid (HW1.out.trans (Turns.of_below' hb2))
        clear hb2 c1 c2
        go_wp2
        go_ret2
        exact ⟨0, 50, s, rfl, ⟨fun t h1 h2 => HN.out t h1 (by omega), ⟨by omega, by omega⟩, .inr (.inr ⟨rfl, rfl, hlt, by omega, fun h => HN.out s h (Nat.le_refl _)⟩)⟩, HR2.out, HT2.out, HW2.out⟩
    · obtain rfl : s = L := by omega
      change wpStill _ _ wr.drew (fun a' => Exit.then _ _ .normal a' wr.drew) _ _
      clear hbd HR HT HW hg
      generalize wr.drew = W1 at *
      repeat still_step
      refine wpStill_nil ?_
      go_wp2
      go_ret2
      exact ⟨0, 60, s, rfl, ⟨fun t h1 h2 => HN.out t h1 (by omega), ⟨by omega, by omega⟩, .inr (.inl ⟨rfl, rfl, rfl, fun h => HN.out s h (Nat.le_refl _)⟩)⟩, HR1.out, HT1.out, HW1.out⟩

end Go.Proofs.Ytdcmalbbijchiaa

/- Lengths that make a code give every symbol a code of its own (plain facts). -/
namespace Go.Proofs.Ytdcmalbbijchiaa

theorem trn_inj : ∀ n r x r' x', x < 2 ^ n → x' < 2 ^ n → trn n r x = trn n r' x' → r = r' ∧ x = x'
  | 0, r, x, r', x', h1, h2, h => by
    simp only [Nat.pow_zero] at h1 h2
    exact ⟨h, by omega⟩
  | n + 1, r, x, r', x', h1, h2, h => by
    rw [trn, trn] at h
    rw [Nat.pow_succ] at h1 h2
    obtain ⟨a, b⟩ := trn_inj n _ _ _ _ (by omega) (by omega) h
    omega

/-- The room that the codes of at most n bits take. -/
def rt (f : Nat → Nat) (n N : Nat) : Nat := sm N fun i => if 0 < f i ∧ f i ≤ n then 2 ^ (15 - f i) else 0
theorem rt_succ (f : Nat → Nat) (n N : Nat) : rt f n (N + 1) = rt f n N + (if 0 < f N ∧ f N ≤ n then 2 ^ (15 - f N) else 0) := rfl
theorem rt_next (f : Nat → Nat) (n : Nat) : ∀ N, rt f (n + 1) N = rt f n N + cn f (n + 1) N * 2 ^ (15 - (n + 1))
  | 0 => by simp [rt, cn, sm]
  | N + 1 => by
    rw [rt_succ, rt_succ, rt_next f n N, cn_succ, Nat.add_mul]
    by_cases h : f N = n + 1
    · rw [if_pos (by omega), if_neg (by omega), if_pos h, h]; omega
    · rw [if_neg h]
      by_cases h2 : 0 < f N ∧ f N ≤ n
      · rw [if_pos (by omega), if_pos h2]; omega
      · rw [if_neg (by omega), if_neg h2]; omega
theorem rt_le (f : Nat → Nat) (n : Nat) : ∀ N, rt f n N ≤ room N 15 f
  | 0 => by simp [rt, sm]
  | N + 1 => by
    have := rt_le f n N
    rw [rt_succ, room_succ]
    by_cases h : 0 < f N ∧ f N ≤ n
    · rw [if_pos h, if_pos h.1]; omega
    · rw [if_neg h]; omega
theorem rt_en (f : Nat → Nat) (N : Nat) : ∀ n, n ≤ 15 → en f N n * 2 ^ (15 - n) = rt f n N
  | 0, _ => by
    rw [en, Nat.zero_mul]
    have : ∀ N, rt f 0 N = 0 := fun N => by
      induction N with
      | zero => rfl
      | succ N ih => rw [rt_succ, ih, if_neg (by omega)]
    rw [this]
  | n + 1, h => by
    rw [en, Nat.add_mul, rt_next, ← rt_en f N n (by omega), show 15 - n = (15 - (n + 1)) + 1 by omega, Nat.pow_succ]
    congr 1
    rw [Nat.mul_assoc, Nat.mul_comm 2]
theorem en_fits {f : Nat → Nat} {N n : Nat} (hr : room N 15 f ≤ 32768) (hn : n ≤ 15) : en f N n ≤ 2 ^ n := by
  have h1 := rt_en f N n hn
  have h2 := rt_le f n N
  have h3 : 2 ^ n * 2 ^ (15 - n) = 32768 := by rw [← Nat.pow_add, show n + (15 - n) = 15 by omega]
  have h4 : 0 < 2 ^ (15 - n) := Nat.two_pow_pos _
  exact Nat.le_of_mul_le_mul_right (by omega) h4
theorem cn_lt {f : Nat → Nat} {n N k : Nat} (hk : k < N) (h : f k = n) : cn f n k < cn f n N := by
  have mono : ∀ a b, a ≤ b → cn f n a ≤ cn f n b := fun a b hab => by
    induction b with
    | zero => obtain rfl : a = 0 := by omega
              exact Nat.le_refl _
    | succ b ih =>
      rcases Nat.lt_or_ge a (b + 1) with h1 | h1
      · have := ih (by omega)
        rw [cn_succ]; omega
      · obtain rfl : a = b + 1 := by omega
        exact Nat.le_refl _
  have h1 := mono (k + 1) N hk
  rw [cn_succ, if_pos h] at h1
  omega
theorem nx_fits {f : Nat → Nat} {N n k : Nat} (hr : room N 15 f ≤ 32768) (hn : n < 15) (hk : k < N) (h : f k = n + 1) : nx f N n k < 2 ^ (n + 1) := by
  have h1 := en_fits (n := n + 1) hr hn
  have h2 := cn_lt hk h
  rw [en] at h1
  unfold nx
  omega

theorem apt_of {f : Nat → Nat} {N : Nat} (hr : room N 15 f ≤ 32768) (h15 : ∀ i, i < N → f i ≤ 15) : Apt f N := by
  intro i j hi hj h0 he hc
  unfold cd at hc
  obtain ⟨n, hn⟩ : ∃ n, f i = n + 1 := ⟨f i - 1, by omega⟩
  have hnj : f j = n + 1 := by omega
  have hb := h15 i hi
  rw [hn, hnj, Nat.add_sub_cancel] at hc
  have h1 := (trn_inj (n + 1) _ _ _ _ (nx_fits hr (by omega) hi hn) (nx_fits hr (by omega) hj hnj) hc).2
  unfold nx at h1
  rcases Nat.lt_trichotomy i j with h2 | h2 | h2
  · have := cn_lt (f := f) (n := n + 1) h2 hn; omega
  · exact h2
  · have := cn_lt (f := f) (n := n + 1) h2 hnj; omega

theorem room_of_chk {ls : List Nat} (h : chk ls = 0) : room ls.length 15 (lq ls) ≤ 32768 := by
  obtain ⟨-, -, h3⟩ := chk_zero h
  rcases h3 with h3 | h3 | h3
  · have : ∀ k, many k (lq ls) = 0 → room k 15 (lq ls) = 0 := fun k => by
      induction k with
      | zero => intro _; rfl
      | succ k ih =>
        intro hk
        rw [many_succ] at hk
        rw [room_succ, ih (by omega)]
        split at hk
        · omega
        · rename_i hh; rw [if_neg hh]
    rw [this _ h3]; omega
  · omega
  · omega

theorem apt_chk {ls : List Nat} (h : chk ls = 0) : Apt (lq ls) ls.length := apt_of (room_of_chk h) (chk_zero h).2.1

end Go.Proofs.Ytdcmalbbijchiaa
