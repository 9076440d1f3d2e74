/- The statements' own: is an example what it is; how many frequencies are above nought. -/
import Derived.Test.YtlbhgackpjfhaaaHufR
namespace Go.Proofs.Ytlbhgackpjfhaaa
open Go.RowKit

theorem flatZ : ∀ l : List Int, l.flatMap encZ = l.map (Value.int .i64)
  | [] => rfl
  | b :: r => by rw [List.flatMap_cons, flatZ r]; rfl

theorem row_lit8 (w : World) (ls : List Nat) (h : ls.length ≤ 1048576) : Row enc8 1 (w.alloc (.cells (ls.map u8v).toArray 5)) (.slice (some ⟨w.heap.size, 0, none⟩) ls.length ls.length) ls := by
  have := World.ownsRow_lit (base := 0) (size := 1) (e := 5) w (ls.map u8v).toArray ls.length (Nat.zero_le _) (by simp only [maxLen]; omega) (by simp)
  rw [show (ls.map u8v).toArray.toList = ls.flatMap enc8 from (flat8 ls).symm] at this
  exact owns_row' enc8_len this
theorem row_litZ (w : World) (fs : List Int) (h : fs.length ≤ 1048576) : Row encZ 1 (w.alloc (.cells (fs.map (Value.int .i64)).toArray 3)) (.slice (some ⟨w.heap.size, 0, none⟩) fs.length fs.length) fs := by
  have := World.ownsRow_lit (base := 0) (size := 1) (e := 3) w (fs.map (Value.int .i64)).toArray fs.length (Nat.zero_le _) (by simp only [maxLen]; omega) (by simp)
  rw [show (fs.map (Value.int .i64)).toArray.toList = fs.flatMap encZ from (flatZ fs).symm] at this
  exact owns_row' encZ_len this

theorem owns_ptr {w : World} {base : Nat} {e : TypeId} {v : Value} {n : Nat} {xs : List Value} (h : w.ownsRow base e 1 v n xs) (hn : 0 < n) : ∃ g c, v = .slice (some ⟨g, 0, none⟩) n c ∧ base ≤ g ∧ g < w.heap.size ∧ ∀ i u, xs[i]? = some u → w.cell? ⟨g, i, none⟩ = some u := by
  have hl := h.1
  rcases h.2 with ⟨-, h0⟩ | ⟨g, cap, cur, rfl, hg, hh, -⟩
  · omega
  · refine ⟨g, cap, rfl, hg, lt_heap hh, fun i u hi => ?_⟩
    have := (List.getElem?_eq_some_iff.1 hi).1
    rw [h.cellAt i (by omega)]; exact hi

theorem ex_codes : chk [2, 1, 3, 3] = 0 := by decide
theorem ex_may : mayB [1, 1, 2, 4] ((2 : Nat) : Int) = true := by decide
theorem ex_many : many 4 (fq [1, 1, 2, 4]) = 4 := by decide

theorem ex_lens {g : Nat → Nat} (h : LensOk [1, 1, 2, 4] 2 g) : g 0 = 2 ∧ g 3 = 2 := by
  have h0 := (h.le 0 (by decide))
  have h1 := (h.le 1 (by decide))
  have h2 := (h.le 2 (by decide))
  have h3 := (h.le 3 (by decide))
  have f0 : 0 < fq [1, 1, 2, 4] 0 := by decide
  have f1 : 0 < fq [1, 1, 2, 4] 1 := by decide
  have f2 : 0 < fq [1, 1, 2, 4] 2 := by decide
  have f3 : 0 < fq [1, 1, 2, 4] 3 := by decide
  have p0 := h0.2.2 f0
  have p1 := h1.2.2 f1
  have p2 := h2.2.2 f2
  have p3 := h3.2.2 f3
  have hr := h.code (by show 2 ≤ many 4 (fq [1, 1, 2, 4]); rw [ex_many]; decide)
  have hr' : room 4 2 g = 4 := hr
  simp only [room, sm, if_pos p0, if_pos p1, if_pos p2, if_pos p3, Nat.zero_add] at hr'
  have key : ∀ x, 0 < x → x ≤ 2 → (x = 1 ∧ 2 ^ (2 - x) = 2) ∨ (x = 2 ∧ 2 ^ (2 - x) = 1) := fun x a b => by
    have : x = 1 ∨ x = 2 := by omega
    rcases this with rfl | rfl
    · exact .inl ⟨rfl, rfl⟩
    · exact .inr ⟨rfl, rfl⟩
  have k0 := key _ p0 h0.1
  have k1 := key _ p1 h1.1
  have k2 := key _ p2 h2.1
  have k3 := key _ p3 h3.1
  omega

set_option maxRecDepth 20000 in
set_option maxHeartbeats 2000000 in
theorem codes_law (w : World) : Makes Try.prog 11 #[] w (.bool true) := by
  go_enter Try.func11, Try.ntmps11
  go_wp2_with fail
  have hr1 := row_lit8 w [2, 1, 3, 3] (by decide)
  refine Calls.mono (codes_ok [2, 1, 3, 3] _ _ hr1 ex_codes) ?_
  rintro e w1 ⟨v1, rfl, ho1, hb1⟩
  have hbw1 := Below.thn (Below.al1 w _) hb1
  obtain ⟨p1, c1, rfl⟩ := owns_slice ho1
  have Ho1 := Lib.hid ho1
  have Hb1 := Lib.hid hbw1
  clear ho1 hb1 hbw1 hr1
  go_wp2_with fail
  have hr2 := row_litZ w1 [1, 1, 2, 4] (by decide)
  refine Calls.mono (lengths_ok [1, 1, 2, 4] _ 2 _ hr2 ex_may (by show many 4 (fq [1, 1, 2, 4]) ≤ 2 ^ 2; rw [ex_many]; decide)) ?_
  rintro e w2 ⟨v2, g, rfl, ho2, hok, hb2⟩
  have hbw2 := Below.thn (Below.al1 w1 _) hb2
  obtain ⟨g2, c2, rfl, -, -, hc2⟩ := owns_ptr ho2 (by decide)
  have ho12 := (Turns.of_below' (T := fun _ => False) hbw2).owns Ho1.out (fun _ _ h => h)
  have Hb2 := Lib.hid (Below.thn Hb1.out hbw2)
  obtain ⟨g1, c1', e1, -, -, hc1⟩ := owns_ptr ho12 (by decide)
  injection e1 with e1 _ e2
  subst e1 e2
  have a0 : w2.cell? ⟨g1, 0, none⟩ = some (.int .u16 1) := hc1 0 _ (by rw [cRow_at _ (by decide)]; rfl)
  have a1 : w2.cell? ⟨g1, 1, none⟩ = some (.int .u16 0) := hc1 1 _ (by rw [cRow_at _ (by decide)]; rfl)
  have a2 : w2.cell? ⟨g1, 2, none⟩ = some (.int .u16 3) := hc1 2 _ (by rw [cRow_at _ (by decide)]; rfl)
  have a3 : w2.cell? ⟨g1, 3, none⟩ = some (.int .u16 7) := hc1 3 _ (by rw [cRow_at _ (by decide)]; rfl)
  obtain ⟨x0, x3⟩ := ex_lens hok
  have b0 : w2.cell? ⟨g2, 0, none⟩ = some (.int .u8 2) := hc2 0 _ (by rw [lensRow_at _ (by decide), x0]; rfl)
  have b3 : w2.cell? ⟨g2, 3, none⟩ = some (.int .u8 2) := hc2 3 _ (by rw [lensRow_at _ (by decide), x3]; rfl)
  clear hc1 hc2 ho12 ho2 hok x0 x3 hb2 hbw2 hr2
  go_wp2
  go_ret
  exact ⟨rfl, Hb2.out⟩

end Go.Proofs.Ytlbhgackpjfhaaa
