/- Several texts in one, each with its own head. -/
import Derived.Test.YtajidlihepjegaaK821
/- huff's Codes. -/
namespace Go.Proofs.Ytajidlihepjegaa
open Go.RowKit

def u16v (b : Nat) : Value := .int .u16 (b : Int)
theorem u16_info : (Try.prog.info? 82).map (fun i => (i.zero, i.size, i.bytes)) = some (some (.int .u16 0), 1, 2) := by kernel_rfl
def cRow (f : Nat → Nat) (n : Nat) : List Value := (List.range n).map fun i => u16v (f i)
theorem cRow_len (f : Nat → Nat) (n : Nat) : (cRow f n).length = n := by simp [cRow]
theorem cRow_at (f : Nat → Nat) {n s : Nat} (h : s < n) : (cRow f n)[s]? = some (u16v (f s)) := by
  unfold cRow
  rw [List.getElem?_map, List.getElem?_eq_getElem (by simpa using h)]
  simp
theorem cRow_congr {f g : Nat → Nat} {n : Nat} (h : ∀ i, i < n → f i = g i) : cRow f n = cRow g n := by
  unfold cRow
  refine List.map_congr_left fun i hi => ?_
  rw [h i (List.mem_range.1 hi)]
theorem cRow_set (f : Nat → Nat) {n s : Nat} (x : Nat) : (cRow f n).set s (u16v x) = cRow (fun i => if i = s then x else f i) n := by
  refine List.ext_getElem? (fun k => ?_)
  rw [List.getElem?_set, cRow_len]
  by_cases hk : k < n
  · rw [cRow_at (fun i => if i = s then x else f i) hk, cRow_at f hk]
    by_cases h : s = k
    · subst h; simp [hk]
    · simp [h, Ne.symm h]
  · rw [List.getElem?_eq_none (by rw [cRow_len]; omega), List.getElem?_eq_none (by rw [cRow_len]; omega)]
    by_cases h : s = k
    · subst h; simp [hk]
    · simp [h]
theorem made_u16 (n : Nat) : madeCells #[Value.int .u16 0] n = (cRow (fun _ => 0) n).toArray := by
  refine Array.ext (by simp [cRow, size_madeCells]) (fun i h1 h2 => ?_)
  simp [madeCells, cRow, Nat.mod_one, u16v]
theorem make_u16 (n : Nat) (hn : n ≤ 1048576) (w : World) : (Instr.makeSlice 57 (.int .i64 (n : Int)) (.int .i64 (n : Int))).run Try.prog w = .ok (.slice (some ⟨w.heap.size, 0, none⟩) n n) (w.alloc (.cells (cRow (fun _ => 0) n).toArray 82)) := by
  obtain ⟨i, hi, hz, hs, hb⟩ := info_parts u16_info
  have h := run_make (P := Try.prog) w 57 82 i _ Try.underlying57 hi hz .i64 .i64 (n : Int) (n : Int) (by omega) (Int.le_refl _) (by rw [hb]; omega) (by omega)
  rw [h]
  simp only [Int.toNat_natCast, hs, Nat.mul_one]
  rw [show (Value.int IntKind.u16 0).cells = #[Value.int .u16 0] from rfl, made_u16]

/-- The code of a symbol, the first bit lowest. -/
def cd (f : Nat → Nat) (N i : Nat) : Nat := trn (f i) 0 (nx f N (f i - 1) i)
/-- The codes that were told before the symbol k of length n + 1. -/
def told (f : Nat → Nat) (N n k i : Nat) : Nat := if 0 < f i ∧ (f i ≤ n ∨ (f i = n + 1 ∧ i < k)) then cd f N i else 0

theorem told_next (f : Nat → Nat) (N n i : Nat) (hi : i < N) : told f N n N i = told f N (n + 1) 0 i := by
  unfold told
  by_cases h : 0 < f i ∧ (f i ≤ n ∨ (f i = n + 1 ∧ i < N))
  · rw [if_pos h, if_pos ⟨h.1, .inl (by omega)⟩]
  · rw [if_neg h, if_neg (fun h' => h ⟨h'.1, by omega⟩)]
theorem told_skip (f : Nat → Nat) (N n k i : Nat) (h : f k ≠ n + 1) : told f N n k i = told f N n (k + 1) i := by
  unfold told
  by_cases h1 : 0 < f i ∧ (f i ≤ n ∨ (f i = n + 1 ∧ i < k))
  · rw [if_pos h1, if_pos ⟨h1.1, by omega⟩]
  · rw [if_neg h1, if_neg (fun h' => h1 ⟨h'.1, by
      rcases h'.2 with h2 | ⟨h2, h3⟩
      · exact .inl h2
      · refine .inr ⟨h2, ?_⟩
        rcases Nat.lt_or_ge i k with h4 | h4
        · exact h4
        · obtain rfl : i = k := by omega
          exact absurd h2 h⟩)]
theorem told_hand (f : Nat → Nat) (N n k i : Nat) (h : f k = n + 1) : (if i = k then trn (n + 1) 0 (nx f N n k) else told f N n k i) = told f N n (k + 1) i := by
  unfold told
  by_cases e : i = k
  · subst e
    rw [if_pos rfl, if_pos ⟨by omega, .inr ⟨h, by omega⟩⟩]
    unfold cd
    rw [h, Nat.add_sub_cancel]
  · rw [if_neg e]
    by_cases h1 : 0 < f i ∧ (f i ≤ n ∨ (f i = n + 1 ∧ i < k))
    · rw [if_pos h1, if_pos ⟨h1.1, by omega⟩]
    · rw [if_neg h1, if_neg (fun h' => h1 ⟨h'.1, by omega⟩)]
theorem told_all (f : Nat → Nat) (N i : Nat) (h : f i ≤ 15) : told f N 15 0 i = if 0 < f i then cd f N i else 0 := by
  unfold told
  by_cases h0 : 0 < f i
  · rw [if_pos ⟨h0, .inl h⟩, if_pos h0]
  · rw [if_neg (fun h' => h0 h'.1), if_neg h0]

/-- What Codes holds while it is told. -/
structure CJ (w0 : World) (v : Value) (ls : List Nat) (B g : Nat) (n k : Nat) (w : World) : Prop where
  box : w.heap[B]? = some (.cells #[.slice (some ⟨g, 0, none⟩) ls.length ls.length] 57)
  row : w.ownsRow w0.heap.size 82 1 (.slice (some ⟨g, 0, none⟩) ls.length ls.length) ls.length (cRow (told (lq ls) ls.length n k) ls.length)
  lens : Row enc8 1 w v ls
  below : Below w0.heap.size w0 w
  ne : g ≠ B
  lt : w0.heap.size ≤ B

set_option maxHeartbeats 1000000 in
theorem codes1_any (w0 : World) (v : Value) (ls : List Nat) (B g n k : Nat) (w : World) (hv0 : ∀ b, v.ownBlock = some b → b < w0.heap.size) (hk : k < ls.length) (hl : lq ls k = n + 1) (h : CJ w0 v ls B g n k w) :
    Calls Try.prog 37 #[.int .i64 (k : Int), .agg #[.int .u16 ((trn (n + 1) 0 (nx (lq ls) ls.length n k) : Nat) : Int), .int .u16 ((n + 1 : Nat) : Int)], .pointer (some ⟨B, 0, none⟩)] w fun e w' => e = .returned (.tuple #[]) ∧ CJ w0 v ls B g n (k + 1) w' := by
  obtain ⟨x, hx⟩ : ∃ x, trn (n + 1) 0 (nx (lq ls) ls.length n k) = x := ⟨_, rfl⟩
  rw [hx]
  obtain ⟨z, hz⟩ : ∃ z : Int, ((n + 1 : Nat) : Int) = z := ⟨_, rfl⟩
  rw [hz]
  obtain ⟨W, hW⟩ : ∃ W, w.alloc (.cells #[.int .u16 (x : Int), .int .u16 z] 84) = W := ⟨_, rfl⟩
  have hbw : Below w.heap.size w W := by rw [← hW]; exact Below.al1 w _
  have hbox : W.heap[B]? = some (.cells #[.slice (some ⟨g, 0, none⟩) ls.length ls.length] 57) := (hbw.block B (lt_heap h.box)).trans h.box
  have hrow := (Turns.of_below' (T := fun _ => False) hbw).owns h.row (fun _ _ h => h)
  have c0 : W.cell? ⟨B, 0, none⟩ = some (.slice (some ⟨g, 0, none⟩) ls.length ls.length) := cell_heap hbox rfl
  have c1 : W.cell? ⟨w.heap.size, 0, none⟩ = some (.int .u16 (x : Int)) := by rw [← hW]; exact cell_at rfl rfl
  have c2 : W.cell? ⟨g, k, none⟩ = some (u16v (told (lq ls) ls.length n k k)) := by rw [hrow.cellAt k (by omega), cRow_at _ hk]
  have f2 : W.frozen? ⟨g, k, none⟩ = false := hrow.frozenAt k
  obtain ⟨y, hy⟩ : ∃ y, told (lq ls) ls.length n k k = y := ⟨_, rfl⟩
  rw [hy] at c2
  unfold u16v at c2
  have HJ : Hid (CJ w0 v ls B g n (k + 1) (W.setCell ⟨g, k, none⟩ (.int .u16 (x : Int)))) := Lib.hid (by
    have ht : Turns (fun i => i = g) W (W.setCell ⟨g, k, none⟩ (.int .u16 (x : Int))) := (Turns.refl _ W).set (T := fun i => i = g) (p := ⟨g, k, none⟩) rfl _
    have hgw := (h.row.lt g rfl).1
    refine ⟨(ht.block B (lt_heap hbox) (fun e => h.ne e.symm)).trans hbox, ?_, ?_, ?_, h.ne, h.lt⟩
    · have h5 := (hrow.stored k (u16v x)).1
      rw [cRow_set] at h5
      rw [cRow_congr (fun i _ => (told_hand (lq ls) ls.length n k i hl).symm)]
      rw [hx]; exact h5
    · exact (h.lens.below hbw).turns ht (fun b hb e => by have := hv0 b hb; omega)
    · exact (Below.thn h.below hbw).trans (ht.below (by have := h.below.size; have := hbw.size; omega) (fun i e => by omega)))
  have k0 : (0 : Int) ≤ (k : Int) := by omega
  have k1 : (k : Int) < (ls.length : Int) := by omega
  clear hx hbox hrow hy hbw h hz
  subst hW
  go_enter Try.func37, Try.ntmps37
  go_wp2
  go_end0
  exact ⟨rfl, HJ.out⟩

theorem codes_bad (ls : List Nat) (v : Value) (w : World) (hv : Row enc8 1 w v ls) (hc : chk ls ≠ 0) :
    Calls Try.prog 20 #[v] w fun e w' => e = .returned (.tuple #[.slice none 0 0, .int .i64 (chk ls)]) ∧ w' = w := by
  have Hv := Lib.hid hv
  obtain ⟨r, hr⟩ : ∃ r, chk ls = r := ⟨_, rfl⟩
  have Hr := Lib.hid hr
  rw [hr] at hc ⊢
  have e0 : (r != 0) = true := by simpa using hc
  clear hr hv
  go_enter Try.func20, Try.ntmps20
  go_wp2_with fail
  refine Calls.mono (check_any ls v w Hv.out) ?_
  rintro e w1 ⟨rfl, rfl⟩
  rw [Hr.out]
  go_wp2
  go_ret2
  exact ⟨rfl, rfl⟩

theorem chk_zero {ls : List Nat} (h : chk ls = 0) : ls.length ≤ 320 ∧ (∀ i, i < ls.length → lq ls i ≤ 15) ∧ (many ls.length (lq ls) = 0 ∨ room ls.length 15 (lq ls) = 32768 ∨ (many ls.length (lq ls) = 1 ∧ room ls.length 15 (lq ls) = 16384)) := by
  have h1 : ls.length ≤ 320 := by
    rcases Nat.lt_or_ge 320 ls.length with h1 | h1
    · rw [chk_long h1] at h; cases h
    · exact h1
  have h2 : ∀ i, i < ls.length → lq ls i ≤ 15 := fun i hi => by
    rcases Nat.lt_or_ge 15 (lq ls i) with h2 | h2
    · rw [chk_wide hi h2] at h; cases h
    · exact h2
  refine ⟨h1, h2, ?_⟩
  rw [chk_rest h1 h2] at h
  split at h
  · assumption
  · cases h

set_option maxHeartbeats 1000000 in
theorem codes_ok (ls : List Nat) (v : Value) (w : World) (hv : Row enc8 1 w v ls) (hc : chk ls = 0) :
    Calls Try.prog 20 #[v] w fun e w' => ∃ v', e = .returned (.tuple #[v', .int .i64 0]) ∧ w'.ownsRow w.heap.size 82 1 v' ls.length (cRow (fun i => if 0 < lq ls i then cd (lq ls) ls.length i else 0) ls.length) ∧ Below w.heap.size w w' := by
  obtain ⟨h1, h2, -⟩ := chk_zero hc
  have hvb : ∀ k, v.ownBlock = some k → k < w.heap.size := fun k hk => by
    obtain ⟨p, c, rfl, _, _, h⟩ := hv
    rcases h with ⟨rfl, -⟩ | ⟨bb, off, rfl, hbb, -⟩
    · cases hk
    · cases hk; exact hbb
  have Hv := Lib.hid hv
  have Hc := Lib.hid hc
  have H2 := Lib.hid h2
  have Hvb := Lib.hid hvb
  obtain ⟨p, c, rfl, -, -, -⟩ := hv
  have hmk := make_u16 ls.length (by omega)
  have hz : ∀ i, told (lq ls) ls.length 0 0 i = 0 := fun i => by unfold told; rw [if_neg]; omega
  have Hst : Hid (CJ w (.slice p ls.length c) ls (w.heap.size + 1) w.heap.size 0 0 ((w.alloc (.cells (cRow (fun _ => 0) ls.length).toArray 82)).alloc (.cells #[.slice (some ⟨w.heap.size, 0, none⟩) ls.length ls.length] 57))) := Lib.hid (by
    have hb2 := Below.al2 w (.cells (cRow (fun _ => 0) ls.length).toArray 82) (.cells #[.slice (some ⟨w.heap.size, 0, none⟩) ls.length ls.length] 57)
    refine ⟨?_, ?_, Hv.out.below hb2, hb2, by omega, by omega⟩
    · exact (heap_pushed [.cells (cRow (fun _ => 0) ls.length).toArray 82, .cells #[.slice (some ⟨w.heap.size, 0, none⟩) ls.length ls.length] 57] w 1 _).2 rfl
    · rw [cRow_congr (fun i _ => hz i)]
      have := World.ownsRow_lit (base := w.heap.size) (size := 1) (e := 82) w (cRow (fun _ => 0) ls.length).toArray ls.length (Nat.le_refl _) (by simp only [maxLen]; omega) (by simp [cRow_len])
      exact this.alloc _)
  clear hc h2 hvb hz
  go_enter Try.func20, Try.ntmps20
  go_wp2_with fail
  refine Calls.mono (check_any ls _ w Hv.out) ?_
  rintro e w1 ⟨rfl, rfl⟩
  rw [Hc.out]
  go_wp2_with fail
  refine Calls.mono (tellC_any ls _ (w1.heap.size + 1) (fun n k w' => CJ w1 (.slice p ls.length c) ls (w1.heap.size + 1) w1.heap.size n k w') _ h1 (fun n k w' h => h.lens) (fun n k w' _ hk hl h => codes1_any w1 _ ls _ _ n k w' Hvb.out hk hl h)
    (fun n k w' hk hl h => ⟨h.box, by rw [cRow_congr (fun i _ => (told_skip (lq ls) ls.length n k i hl).symm)]; exact h.row, h.lens, h.below, h.ne, h.lt⟩)
    (fun n w' h => ⟨h.box, by rw [cRow_congr (fun i hi => (told_next (lq ls) ls.length n i hi).symm)]; exact h.row, h.lens, h.below, h.ne, h.lt⟩) Hst.out) ?_
  rintro e w2 ⟨rfl, hj⟩
  have HJ := Lib.hid hj
  have c0 : w2.cell? ⟨w1.heap.size + 1, 0, none⟩ = some (.slice (some ⟨w1.heap.size, 0, none⟩) ls.length ls.length) := cell_heap hj.box rfl
  clear hj
  go_wp2
  go_ret2
  refine ⟨_, rfl, ?_, HJ.out.below⟩
  rw [cRow_congr (fun i hi => (told_all (lq ls) ls.length i (H2.out i hi)).symm)]
  exact HJ.out.row

end Go.Proofs.Ytajidlihepjegaa

/- The statements' own: is an example what it is; how many frequencies are above nought. -/
namespace Go.Proofs.Ytajidlihepjegaa
open Go.RowKit

theorem flatZ : ∀ l : List Int, l.flatMap encZ = l.map (Value.int .i64)
  | [] => rfl
  | b :: r => by rw [List.flatMap_cons, flatZ r]; rfl

theorem row_lit8 (w : World) (ls : List Nat) (h : ls.length ≤ 1048576) : Row enc8 1 (w.alloc (.cells (ls.map u8v).toArray 5)) (.slice (some ⟨w.heap.size, 0, none⟩) ls.length ls.length) ls := by
  have := World.ownsRow_lit (base := 0) (size := 1) (e := 5) w (ls.map u8v).toArray ls.length (Nat.zero_le _) (by simp only [maxLen]; omega) (by simp)
  rw [show (ls.map u8v).toArray.toList = ls.flatMap enc8 from (flat8 ls).symm] at this
  exact owns_row' enc8_len this
theorem row_litZ (w : World) (fs : List Int) (h : fs.length ≤ 1048576) : Row encZ 1 (w.alloc (.cells (fs.map (Value.int .i64)).toArray 3)) (.slice (some ⟨w.heap.size, 0, none⟩) fs.length fs.length) fs := by
  have := World.ownsRow_lit (base := 0) (size := 1) (e := 3) w (fs.map (Value.int .i64)).toArray fs.length (Nat.zero_le _) (by simp only [maxLen]; omega) (by simp)
  rw [show (fs.map (Value.int .i64)).toArray.toList = fs.flatMap encZ from (flatZ fs).symm] at this
  exact owns_row' encZ_len this

theorem owns_ptr {w : World} {base : Nat} {e : TypeId} {v : Value} {n : Nat} {xs : List Value} (h : w.ownsRow base e 1 v n xs) (hn : 0 < n) : ∃ g c, v = .slice (some ⟨g, 0, none⟩) n c ∧ base ≤ g ∧ g < w.heap.size ∧ ∀ i u, xs[i]? = some u → w.cell? ⟨g, i, none⟩ = some u := by
  have hl := h.1
  rcases h.2 with ⟨-, h0⟩ | ⟨g, cap, cur, rfl, hg, hh, -⟩
  · omega
  · refine ⟨g, cap, rfl, hg, lt_heap hh, fun i u hi => ?_⟩
    have := (List.getElem?_eq_some_iff.1 hi).1
    rw [h.cellAt i (by omega)]; exact hi

theorem ex_codes : chk [2, 1, 3, 3] = 0 := by decide
theorem ex_may : mayB [1, 1, 2, 4] ((2 : Nat) : Int) = true := by decide
theorem ex_many : many 4 (fq [1, 1, 2, 4]) = 4 := by decide

theorem ex_lens {g : Nat → Nat} (h : LensOk [1, 1, 2, 4] 2 g) : g 0 = 2 ∧ g 3 = 2 := by
  have h0 := (h.le 0 (by decide))
  have h1 := (h.le 1 (by decide))
  have h2 := (h.le 2 (by decide))
  have h3 := (h.le 3 (by decide))
  have f0 : 0 < fq [1, 1, 2, 4] 0 := by decide
  have f1 : 0 < fq [1, 1, 2, 4] 1 := by decide
  have f2 : 0 < fq [1, 1, 2, 4] 2 := by decide
  have f3 : 0 < fq [1, 1, 2, 4] 3 := by decide
  have p0 := h0.2.2 f0
  have p1 := h1.2.2 f1
  have p2 := h2.2.2 f2
  have p3 := h3.2.2 f3
  have hr := h.code (by show 2 ≤ many 4 (fq [1, 1, 2, 4]); rw [ex_many]; decide)
  have hr' : room 4 2 g = 4 := hr
  simp only [room, sm, if_pos p0, if_pos p1, if_pos p2, if_pos p3, Nat.zero_add] at hr'
  have key : ∀ x, 0 < x → x ≤ 2 → (x = 1 ∧ 2 ^ (2 - x) = 2) ∨ (x = 2 ∧ 2 ^ (2 - x) = 1) := fun x a b => by
    have : x = 1 ∨ x = 2 := by omega
    rcases this with rfl | rfl
    · exact .inl ⟨rfl, rfl⟩
    · exact .inr ⟨rfl, rfl⟩
  have k0 := key _ p0 h0.1
  have k1 := key _ p1 h1.1
  have k2 := key _ p2 h2.1
  have k3 := key _ p3 h3.1
  omega

end Go.Proofs.Ytajidlihepjegaa
