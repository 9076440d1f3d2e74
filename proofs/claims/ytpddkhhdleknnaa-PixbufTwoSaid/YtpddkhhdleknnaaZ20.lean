/- Several texts in one, each with its own head. -/
import Derived.Test.YtpddkhhdleknnaaZ19
import Derived.Test.YtpddkhhdleknnaaZ17
/- region's goesOn and lengthen: does a band go on with the one above it; a band made higher. -/
namespace Go.Proofs.Ytpddkhhdleknnaa
open Go.RowKit

def sameCols : List Rc → List Rc → Bool
  | [], [] => true
  | r :: l, s :: m => (r.x == s.x && r.a == s.a) && sameCols l m
  | _, _ => false

def goesOnB : List Rc → List Rc → Bool
  | r :: l, s :: m => decide (l.length = m.length) && (decide (r.y + r.b = s.y) && sameCols (s :: m) (r :: l))
  | _, _ => false

theorem sameCols_at {l m : List Rc} {k : Nat} (h1 : k < l.length) (h2 : k < m.length) : sameCols (l.drop k) (m.drop k) = ((l[k].x == m[k].x && l[k].a == m[k].a) && sameCols (l.drop (k + 1)) (m.drop (k + 1))) := by
  rw [List.drop_eq_getElem_cons h1, List.drop_eq_getElem_cons h2]; rfl

theorem goesOnB_eq {a b : List Rc} (ha : 0 < a.length) (hb : 0 < b.length) : goesOnB a b = (decide (a.length = b.length) && (decide (a[0].y + a[0].b = b[0].y) && sameCols b a)) := by
  cases a with
  | nil => simp at ha
  | cons r l =>
    cases b with
    | nil => simp at hb
    | cons s m => simp [goesOnB]
theorem goesOnB_len {a b : List Rc} (h : a.length ≠ b.length) : goesOnB a b = false := by
  cases a with
  | nil => rfl
  | cons r l =>
    cases b with
    | nil => rfl
    | cons s m => simp [goesOnB] at h ⊢; intro h2; exact absurd h2 h

set_option maxRecDepth 100000 in
set_option maxHeartbeats 2000000 in
theorem goesOn_any (va vb : Value) (a b : List Rc) (w : World) (ha : Row encR 4 w va a) (hb : Row encR 4 w vb b) (hbd : ∀ r ∈ a, (-4294967296 ≤ r.y ∧ r.y ≤ 4294967296) ∧ (-4294967296 ≤ r.b ∧ r.b ≤ 4294967296)) :
    Makes Try.prog 107 #[va, vb] w (.bool (goesOnB a b)) := by
  unfold Makes
  have hla := ha.len
  have hlb := hb.len
  obtain ⟨pa, ca, rfl, hca, hma, hpa⟩ := ha
  obtain ⟨pb, cb, rfl, hcb, hmb, hpb⟩ := hb
  by_cases h00 : a.length = 0
  · have h0 : ((a.length : Int) == 0) = true := by simp [h00]
    have Hf := Lib.hid (show goesOnB a b = false by rw [List.eq_nil_of_length_eq_zero h00]; rfl)
    clear h00 hbd hpa
    go_enter Try.func107, Try.ntmps107
    go_wp2
    go_quiet (fail)
    go_wp2
    go_ret
    exact ⟨ret_bool Hf.out.symm, Below.drewN' (Below.refl _ _) _⟩
  · have hz : ((a.length : Int) == 0) = false := by simpa using h00
    have hla0 : 0 < a.length := by omega
    clear h00
    by_cases hll : a.length = b.length
    · have hlb0 : 0 < b.length := by omega
      have hne : ((a.length : Int) != (b.length : Int)) = false := by simp [hll]
      obtain ⟨ba, oa, rfl, hBa, hc⟩ := hpa.rc hla0
      obtain ⟨bb, ob, rfl, hBb, hd⟩ := hpb.rc hlb0
      have hc0 := hc 0 hla0
      have hd0 := hd 0 hlb0
      have hb0 := hbd a[0] (List.getElem_mem hla0)
      have Hge := Lib.hid (goesOnB_eq hla0 hlb0)
      simp only [Nat.zero_mul, Nat.add_zero] at hc0 hd0
      generalize a[0] = r at *
      generalize b[0] = s at *
      obtain ⟨c0, c1, c2, c3⟩ := hc0
      obtain ⟨d0, d1, d2, d3⟩ := hd0
      have hw : IntKind.i64.wrap (r.y + r.b) = r.y + r.b := IntWalk.i64_in _ (by omega)
      have Hll := Lib.hid hll
      have Hpa := Lib.hid hpa
      have Hpb := Lib.hid hpb
      clear hll hbd hc hd hpa hpb
      by_cases hy : r.y + r.b = s.y
      · have hy' : ((r.y + r.b : Int) != s.y) = false := by simp [hy]
        have Hy := Lib.hid hy
        clear hy
        go_enter Try.func107, Try.ntmps107
        go_wp2
        go_quiet (fail)
        go_wp2
        go_loopw [35] (fun i wr => ∃ k : Nat, k ≤ b.length ∧ i = .int .i64 k ∧ Below w.heap.size w wr ∧ Hid (sameCols b a = sameCols (b.drop k) (a.drop k))) (fun i _ => b.length - (intOf i).toNat)
        case atStart => exact ⟨0, by omega, rfl, Below.drewN' (Below.refl _ _) _, Lib.hid rfl⟩
        case round =>
          obtain ⟨k, hk, rfl, hbw, He⟩ := hrel
          by_cases hlt : k < b.length
          · have hlt2 : k < a.length := by rw [Hll.out]; exact hlt
            obtain ⟨_, _, e, -, hc⟩ := (Hpa.out.below hbw).rc hlt2
            cases e
            obtain ⟨_, _, e, -, hd⟩ := (Hpb.out.below hbw).rc hlt
            cases e
            obtain ⟨p0, p1, p2, p3⟩ := hc k hlt2
            obtain ⟨q0, q1, q2, q3⟩ := hd k hlt
            have Hat := Lib.hid (sameCols_at hlt hlt2)
            clear hc hd c0 c1 c2 c3 d0 d1 d2 d3
            generalize a[k] = ra at *
            generalize b[k] = rb at *
            go_wp2
            have n0 := cell_at (w := wr) (c := #[.int .i64 rb.x, .int .i64 rb.y, .int .i64 rb.a, .int .i64 rb.b]) (t := 30) (i := 0) rfl rfl
            have n2 := cell_at (w := wr) (c := #[.int .i64 rb.x, .int .i64 rb.y, .int .i64 rb.a, .int .i64 rb.b]) (t := 30) (i := 2) rfl rfl
            have m0 := cell_later (Below.al1 wr (.cells #[.int .i64 rb.x, .int .i64 rb.y, .int .i64 rb.a, .int .i64 rb.b] 30)) p0
            have m2 := cell_later (Below.al1 wr (.cells #[.int .i64 rb.x, .int .i64 rb.y, .int .i64 rb.a, .int .i64 rb.b] 30)) p2
            have Hbx := Lib.hid (Below.al hbw (.cells #[.int .i64 rb.x, .int .i64 rb.y, .int .i64 rb.a, .int .i64 rb.b] 30))
            generalize (wr.alloc (.cells #[.int .i64 rb.x, .int .i64 rb.y, .int .i64 rb.a, .int .i64 rb.b] 30)) = We at *
            clear p0 p1 p2 p3 q0 q1 q2 q3
            by_cases hx : rb.x = ra.x
            · have hx' : ((rb.x : Int) != ra.x) = false := by simp [hx]
              by_cases hww : rb.a = ra.a
              · have hww' : ((rb.a : Int) != ra.a) = false := by simp [hww]
                have Hn := Lib.hid (show sameCols b a = sameCols (b.drop (k + 1)) (a.drop (k + 1)) by rw [He.out, Hat.out]; simp [hx, hww])
                clear hx hww
                go_quiet (fail)
                go_wp2
                go_roundw
                case rel => exact ⟨k + 1, by omega, by go_num, Below.drewN' Hbx.out _, Hn⟩
                case measure => simp [intOf]; omega
              · have hww' : ((rb.a : Int) != ra.a) = true := by simp [hww]
                have Hn := Lib.hid (show goesOnB a b = false by rw [Hge.out, He.out, Hat.out]; simp [hww])
                clear hx hww
                go_quiet (fail)
                go_wp2
                go_ret
                exact ⟨ret_bool Hn.out.symm, Below.drewN' Hbx.out _⟩
            · have hx' : ((rb.x : Int) != ra.x) = true := by simp [hx]
              have Hn := Lib.hid (show goesOnB a b = false by rw [Hge.out, He.out, Hat.out]; simp [hx])
              clear hx
              go_quiet (fail)
              go_wp2
              go_ret
              exact ⟨ret_bool Hn.out.symm, Below.drewN' Hbx.out _⟩
          · have Hn := Lib.hid (show goesOnB a b = true by
              rw [Hge.out, He.out, List.drop_eq_nil_of_le (by omega), List.drop_eq_nil_of_le (by rw [Hll.out]; omega)]; simp [sameCols, Hll.out, Hy.out])
            go_wp2
            go_ret
            exact ⟨ret_bool Hn.out.symm, hbw⟩
      · have hy' : ((r.y + r.b : Int) != s.y) = true := by simp [hy]
        have Hn := Lib.hid (show goesOnB a b = false by rw [Hge.out]; simp [hy])
        clear hy
        go_enter Try.func107, Try.ntmps107
        go_wp2
        go_quiet (fail)
        go_wp2
        go_ret
        exact ⟨ret_bool Hn.out.symm, Below.drewN' (Below.refl _ _) _⟩
    · have hne : ((a.length : Int) != (b.length : Int)) = true := by simp; omega
      have Hn := Lib.hid (goesOnB_len hll)
      clear hll hbd hpa hpb
      go_enter Try.func107, Try.ntmps107
      go_wp2
      go_quiet (fail)
      go_wp2
      go_ret
      exact ⟨ret_bool Hn.out.symm, Below.drewN' (Below.refl _ _) _⟩

def higher (by' : Int) (r : Rc) : Rc := ⟨r.x, r.y, r.a, r.b + by'⟩

theorem flatR_set (l : List Rc) (k : Nat) (b : Int) (h : k < l.length) : (flatR l).set (k * 4 + 3) (.int .i64 b) = flatR (l.set k ⟨l[k].x, l[k].y, l[k].a, b⟩) := by
  induction l generalizing k with
  | nil => simp at h
  | cons r l ih =>
    have h4 : (encR r).length = 4 := rfl
    cases k with
    | zero => simp [flatR, encR]
    | succ k =>
      have := ih k (by simpa using h)
      simp only [flatR, List.flatMap_cons, List.set_cons_succ] at this ⊢
      rw [List.set_append_right _ _ (by rw [h4]; omega), h4, show (k + 1) * 4 + 3 - 4 = k * 4 + 3 by omega, this]
      simp

theorem flatR_len (l : List Rc) : (flatR l).length = l.length * 4 := by
  induction l with
  | nil => rfl
  | cons e l ih => simp only [flatR, List.flatMap_cons, List.length_append, List.length_cons] at ih ⊢; rw [ih]; simp [encR]; omega

set_option maxRecDepth 100000 in
set_option maxHeartbeats 1000000 in
theorem lengthen_any (base : Nat) (v : Value) (a : List Rc) (by' : Int) (w : World) (hown : w.ownsRow base 30 4 v a.length (flatR a)) (hbd : ∀ r ∈ a, -4294967296 ≤ r.b ∧ r.b ≤ 4294967296) (hby : -4294967296 ≤ by' ∧ by' ≤ 4294967296) :
    Calls Try.prog 110 #[v, .int .i64 by'] w fun e w' => e = .returned (.tuple #[]) ∧ w'.ownsRow base 30 4 v a.length (flatR (a.map (higher by'))) ∧ Turns (fun b => v.ownBlock = some b) w w' := by
  have hrow := owns_row' (enc := encR) (k := 4) (fun _ => rfl) hown
  have hn := hrow.len
  obtain ⟨p, cap, rfl, -, -, hp⟩ := hrow
  have Hown := Lib.hid hown
  clear hown
  go_enter Try.func110, Try.ntmps110
  go_wp2
  go_loopw [7] (fun i wr => ∃ k : Nat, k ≤ a.length ∧ i = .int .i64 k ∧ wr.ownsRow base 30 4 (.slice p a.length cap) a.length (flatR ((a.take k).map (higher by') ++ a.drop k)) ∧ Turns (fun b => (Value.slice p a.length cap).ownBlock = some b) w wr) (fun i _ => a.length - (intOf i).toNat)
  case atStart => exact ⟨0, by omega, rfl, by simpa using Hown.out, Turns.refl _ _⟩
  case round =>
    obtain ⟨k, hk, rfl, hown, htr⟩ := hrel
    by_cases hlt : k < a.length
    · obtain ⟨g, off, rfl, -, -⟩ := hp.rc hlt
      have hoff : off = 0 := by
        rcases Hown.out.2 with ⟨h, _⟩ | ⟨_, _, _, h, _⟩
        · cases h
        · cases h; rfl
      subst hoff
      have hll : ((a.take k).map (higher by') ++ a.drop k).length = a.length := by simp; omega
      have hget : ((a.take k).map (higher by') ++ a.drop k)[k]'(by omega) = a[k] := by
        rw [List.getElem_append_right (by simp; omega)]
        simp [List.length_take, Nat.min_eq_left (Nat.le_of_lt hlt)]
      obtain ⟨p', _, h0, -, -, hrw⟩ := owns_row' (enc := encR) (k := 4) (xs := (a.take k).map (higher by') ++ a.drop k) (v := .slice (some ⟨g, 0, none⟩) a.length cap) (fun _ => rfl) (by rw [hll]; exact hown)
      simp only [Value.slice.injEq] at h0
      rw [← h0.1] at hrw
      clear h0
      obtain ⟨_, _, h0, hgs, hc⟩ := hrw.rc (i := k) (by omega)
      cases h0
      have hck := hc k (by omega)
      rw [hget] at hck
      have hbk := hbd a[k] (List.getElem_mem hlt)
      have hfr : wr.frozen? ⟨g, k * 4 + 3, none⟩ = false := by
        rcases hown.2 with ⟨h, _⟩ | ⟨_, _, cur, h, _, hgg, _⟩
        · cases h
        · cases h; simp [World.frozen?, hgg]
      have Hset := Lib.hid (owns_setCell hown (k * 4 + 3) (.int .i64 (a[k].b + by')))
      have Hst : flatR ((a.take (k + 1)).map (higher by') ++ a.drop (k + 1)) = (flatR ((a.take k).map (higher by') ++ a.drop k)).set (k * 4 + 3) (.int .i64 (a[k].b + by')) := by
        rw [flatR_set _ k _ (by omega), hget]
        congr 1
        rw [List.take_succ_eq_append_getElem hlt, List.map_append, List.append_assoc, List.set_append_right _ _ (by simp; omega)]
        congr 1
        have h9 : k - (List.map (higher by') (List.take k a)).length = 0 := by simp; omega
        rw [h9, List.drop_eq_getElem_cons hlt]
        rfl
      have HSt := Lib.hid Hst
      have Htr := Lib.hid htr
      simp only [Nat.zero_add] at hck
      obtain ⟨c0, c1, c2, c3⟩ := hck
      clear hll hget hrw hc hown Hst htr
      generalize a[k] = r at *
      go_wp2
      go_roundw
      case rel => exact ⟨k + 1, by omega, by go_num, by rw [HSt.out]; exact Hset.out, Htr.out.set (p := ⟨g, k * 4 + 3, none⟩) rfl _⟩
      case measure => simp [intOf]; omega
    · obtain rfl : k = a.length := by omega
      have Hown2 : Hid (wr.ownsRow base 30 4 (.slice p a.length cap) a.length (flatR (a.map (higher by')))) := Lib.hid (by simpa using hown)
      have Htr := Lib.hid htr
      clear hown htr
      go_wp2
      go_end0
      exact ⟨rfl, Hown2.out, Htr.out⟩

end Go.Proofs.Ytpddkhhdleknnaa

/- pixbuf's streaks: the rectangles, 1 high, of the places in a row at which something holds. -/
namespace Go.Proofs.Ytpddkhhdleknnaa
open Go.RowKit

/-- One place more of a row. -/
def stkStep (y : Nat) (p : Nat → Bool) (n : Nat) (s : List Rc × Nat) (x : Nat) : List Rc × Nat :=
  if (decide (x < n) && p x) = true then s else (if s.2 < x then s.1 ++ [⟨s.2, y, (x : Int) - s.2, 1⟩] else s.1, x + 1)
def stkR (y : Nat) (p : Nat → Bool) (n k : Nat) : List Rc × Nat := (List.range k).foldl (stkStep y p n) ([], 0)
theorem stkR_succ (y : Nat) (p : Nat → Bool) (n k : Nat) : stkR y p n (k + 1) = stkStep y p n (stkR y p n k) k := by simp [stkR, List.range_succ]
/-- The rectangles of a row. -/
def stkL (y : Nat) (p : Nat → Bool) (n : Nat) : List Rc := (stkR y p n (n + 1)).1

/-- A rectangle of a row, ahead of k. -/
def Stk (y k : Nat) (r : Rc) : Prop := 0 ≤ r.x ∧ 1 ≤ r.a ∧ r.x + r.a ≤ k ∧ r.y = y ∧ r.b = 1

theorem stkR_ok (y : Nat) (p : Nat → Bool) (n : Nat) (hn : n ≤ 65536) (hy : y ≤ 65536) : ∀ k, k ≤ n + 1 → (stkR y p n k).2 ≤ k ∧ (stkR y p n k).1.length ≤ (stkR y p n k).2 ∧ (∀ r ∈ (stkR y p n k).1, Stk y n r) ∧
    (∀ x, (stkR y p n k).2 ≤ x → x < k → (decide (x < n) && p x) = true) ∧ (∀ X Y : Nat, ((stkR y p n k).1.any fun r => hasR r X Y) = true ↔ (Y = y ∧ X < (stkR y p n k).2 ∧ (decide (X < n) && p X) = true))
  | 0, _ => by
    refine ⟨Nat.le_refl _, Nat.le_refl _, fun r hr => (by cases hr), fun x _ h => (by omega), fun X Y => ?_⟩
    simp [stkR]
  | k + 1, hk => by
    obtain ⟨h1, h2, h3, h4, h5⟩ := stkR_ok y p n hn hy k (by omega)
    rw [stkR_succ]
    generalize stkR y p n k = s at *
    unfold stkStep
    split
    · rename_i hc
      refine ⟨by omega, h2, h3, fun x g1 g2 => ?_, h5⟩
      rcases Nat.lt_or_ge x k with g | g
      · exact h4 x g1 g
      · obtain rfl : x = k := by omega
        exact hc
    · rename_i hc
      by_cases hlt : s.2 < k
      · rw [if_pos hlt]
        have hkn : ∀ x, s.2 ≤ x → x < k → x < n := fun x g1 g2 => by have := h4 x g1 g2; simp at this; exact this.1
        have hkn' := hkn (k - 1) (by omega) (by omega)
        refine ⟨Nat.le_refl _, by simp; omega, fun r hr => ?_, fun x g1 g2 => (by simp only at g1; omega), fun X Y => ?_⟩
        · rcases List.mem_append.1 hr with hr | hr
          · exact h3 r hr
          · rcases List.mem_singleton.1 hr with rfl
            unfold Stk
            simp only
            refine ⟨by omega, by omega, by omega, trivial, trivial⟩
        · rw [List.any_append, Bool.or_eq_true, h5]
          simp only [List.any_cons, List.any_nil, Bool.or_false]
          rw [has_iff]
          have he : emptyR ⟨(s.2 : Int), (y : Int), (k : Int) - s.2, 1⟩ = false := emptyR_false.2 (by simp only; omega)
          rw [he]
          simp only [true_and]
          constructor
          · rintro (⟨g1, g2, g3⟩ | ⟨⟨g1, g2⟩, g3, g4⟩)
            · exact ⟨g1, by omega, g3⟩
            · exact ⟨by omega, by omega, h4 X (by omega) (by omega)⟩
          · rintro ⟨g1, g2, g3⟩
            rcases Nat.lt_or_ge X s.2 with g | g
            · exact .inl ⟨g1, g, g3⟩
            · rcases Nat.lt_or_ge X k with g' | g'
              · exact .inr ⟨⟨by omega, by omega⟩, by omega, by omega⟩
              · obtain rfl : X = k := by omega
                exact absurd g3 hc
      · rw [if_neg hlt]
        refine ⟨Nat.le_refl _, by simp only; omega, h3, fun x g1 g2 => (by simp only at g1; omega), fun X Y => ?_⟩
        rw [h5]
        constructor
        · rintro ⟨g1, g2, g3⟩
          exact ⟨g1, by simp only; omega, g3⟩
        · rintro ⟨g1, g2, g3⟩
          simp only at g2
          rcases Nat.lt_or_ge X s.2 with g | g
          · exact ⟨g1, g, g3⟩
          · obtain rfl : X = k := by omega
            exact absurd g3 hc

theorem stkL_ok (y : Nat) (p : Nat → Bool) (n : Nat) (hn : n ≤ 65536) (hy : y ≤ 65536) : (stkL y p n).length ≤ n + 1 ∧ (∀ r ∈ stkL y p n, Stk y n r) ∧ (∀ X Y : Nat, ((stkL y p n).any fun r => hasR r X Y) = true ↔ (Y = y ∧ X < n ∧ p X = true)) := by
  obtain ⟨h1, h2, h3, h4, h5⟩ := stkR_ok y p n hn hy (n + 1) (Nat.le_refl _)
  refine ⟨by unfold stkL; omega, h3, fun X Y => ?_⟩
  unfold stkL
  rw [h5]
  constructor
  · rintro ⟨g1, g2, g3⟩
    simp at g3
    exact ⟨g1, g3.1, g3.2⟩
  · rintro ⟨g1, g2, g3⟩
    refine ⟨g1, ?_, by simp [g2, g3]⟩
    rcases Nat.lt_or_ge X (stkR y p n (n + 1)).2 with g | g
    · exact g
    · have := h4 n (by omega) (by omega)
      simp at this

theorem flatR_ones (l : List Rc) : ∀ u ∈ flatR l, u.oneCell' = true := by
  intro u hu
  simp only [flatR, List.mem_flatMap] at hu
  obtain ⟨r, _, hu⟩ := hu
  simp [encR] at hu
  rcases hu with rfl | rfl | rfl | rfl <;> rfl

theorem cells_news (w : World) (t : TypeId) (cs : List Value) : ∀ j u, cs[j]? = some u → (w.alloc (.cells cs.toArray t)).cell? ((⟨w.heap.size, 0, none⟩ : Addr).add j) = some u := fun j u h => by
  rw [Addr.add_lit, Nat.zero_add]
  exact cell_at rfl (by simpa using h)

set_option maxRecDepth 100000 in
set_option maxHeartbeats 2000000 in
theorem streaks_any (gm : Nat) (q1 q2 : Value) (p : Nat → Bool) (y n : Nat) (w : World) (hn : n ≤ 65536) (hy : y ≤ 65536) (hF : Enters Try.prog gm)
    (H : ∀ x, x < n → ∀ w1, Below w.heap.size w w1 → Makes Try.prog gm #[.int .i64 (x : Nat), q1, q2] w1 (.bool (p x))) :
    Calls Try.prog 94 #[.int .i64 (y : Nat), .int .i64 (n : Nat), .func (.func gm) #[] #[q1, q2]] w fun e w' => ∃ v, e = .returned v ∧ w'.ownsRow w.heap.size 30 4 v (stkL y p n).length (flatR (stkL y p n)) ∧ Below w.heap.size w w' := by
  unfold Enters at hF
  have HH := Lib.hid H
  have Hok := Lib.hid (stkR_ok y p n hn hy)
  obtain ⟨i0, hi, hz0, hz1, hz2⟩ := info_parts rc_info
  clear H
  have hwn : IntKind.i64.wrap ((n : Int) + 1) = ((n + 1 : Nat) : Int) := by rw [IntWalk.i64_in _ (by omega)]; omega
  go_enter Try.func94, Try.ntmps94
  go_wp2
  clear hwn
  go_loopw [7, 8, 12] (fun ov fv iv wr => ∃ k f : Nat, ∃ l : List Rc, k ≤ n + 1 ∧ iv = .int .i64 k ∧ fv = .int .i64 f ∧ Hid (stkR y p n k = (l, f)) ∧ wr.ownsRow w.heap.size 30 4 ov l.length (flatR l) ∧ Below w.heap.size w wr) (fun _ _ iv _ => n + 1 - (intOf iv).toNat)
  case atStart => exact ⟨0, 0, [], by omega, rfl, rfl, Lib.hid rfl, World.ownsRow_nil _ _ _ _, Below.refl _ _⟩
  case round =>
    obtain ⟨k, f, l, hk, rfl, rfl, Hs, hown, hb⟩ := hrel
    have hok := Hok.out k hk
    rw [Hs.out] at hok
    obtain ⟨ok1, ok2, -, -, -⟩ := hok
    simp only at ok1 ok2
    have hsu := stkR_succ y p n k
    rw [Hs.out] at hsu
    unfold stkStep at hsu
    have Hsu := Lib.hid hsu
    have Hb := Lib.hid hb
    have Hown := Lib.hid hown
    clear hsu hb hown
    by_cases hkn : k < n
    · have d1 : decide ((k : Int) < (n : Int)) = true := by simp; omega
      have d2 : decide ((k : Int) < (n : Int) + 1) = true := by simp; omega
      go_wp2_with fail
      refine Calls.mono (HH.out k hkn wr Hb.out) ?_
      rintro e w1 ⟨rfl, hb1⟩
      have Hb1 := Lib.hid (Hb.out.trans (hb1.mono Hb.out.size))
      have Hown1 := Lib.hid ((Turns.of_below' (T := fun _ => False) hb1).owns Hown.out (fun _ _ h => h))
      clear hb1 Hb Hown
      cases hp : p k
      · have Hno := Lib.hid (show (decide (k < n) && p k) = false by rw [hp]; simp)
        clear hp
        by_cases hfk : f < k
        · have d3 : decide (f < k) = true := by simp; omega
          have HS2 : Hid (stkR y p n (k + 1) = (l ++ [(⟨(f : Int), (y : Int), (k : Int) - f, 1⟩ : Rc)], k + 1)) := Lib.hid (by rw [Hsu.out, Hno.out, if_neg (by simp), if_pos hfk])
          have hll : l.length ≤ 65536 := by omega
          clear Hsu Hs Hno HH
          go_wp2_with (at_builtin; refine wpList_append_mine _ rfl (.tmp 26) (.tmp 33) 22 rfl w.heap.size 30 i0 _ 4 32 Try.underlying22 hi hz0 hz1 hz2 rfl (by decide) _ _ _ rfl (Hown1.out.alloc _) (some ⟨w1.heap.size, 0, none⟩) 1 1 (flatR [(⟨(f : Int), (y : Int), (k : Int) - f, 1⟩ : Rc)]) rfl rfl ?Ac1 ?Ac2 ?Ac3 ?Ac4 ?Ac5 ?_)
          case Ac1 => exact .inr ⟨_, rfl, fun j u hu => cells_news w1 _ _ j u hu⟩
          case Ac2 => exact flatR_ones _
          case Ac3 => simp only [maxLen]; omega
          case Ac4 => omega
          case Ac5 => have := Hb1.out.size; simp; omega
          intro v' w3 hown' hgrow hpl
          have Hb3 := Lib.hid ((Below.al Hb1.out _).grown hgrow (by have := Hb1.out.size; simp; omega) (fun k' e => (Hown1.out.lt k' e).1))
          have Hres := Lib.hid (show w3.ownsRow w.heap.size 30 4 v' (l ++ [(⟨(f : Int), (y : Int), (k : Int) - f, 1⟩ : Rc)]).length (flatR (l ++ [(⟨(f : Int), (y : Int), (k : Int) - f, 1⟩ : Rc)])) by
            simpa [flatR] using hown')
          clear hown' hgrow hpl
          go_wp2
          go_roundw
          case rel => exact ⟨k + 1, k + 1, _, by omega, by go_num, by go_num, HS2, Hres.out, Hb3.out⟩
          case measure => simp [intOf]; omega
        · have d3 : decide (f < k) = false := by simp; omega
          have HS2 : Hid (stkR y p n (k + 1) = (l, k + 1)) := Lib.hid (by rw [Hsu.out, Hno.out, if_neg (by simp), if_neg hfk])
          clear Hsu Hs Hno HH
          go_wp2
          go_roundw
          case rel => exact ⟨k + 1, k + 1, _, by omega, by go_num, by go_num, HS2, Hown1.out, Hb1.out⟩
          case measure => simp [intOf]; omega
      · have HS2 : Hid (stkR y p n (k + 1) = (l, f)) := Lib.hid (by rw [Hsu.out, hp, if_pos (by simp; omega)])
        clear Hsu Hs HH hp
        go_wp2
        go_roundw
        case rel => exact ⟨k + 1, f, l, by omega, by go_num, rfl, HS2, Hown1.out, Hb1.out⟩
        case measure => simp [intOf]; omega
    · by_cases hk1 : k < n + 1
      · have d1 : decide ((k : Int) < (n : Int)) = false := by simp; omega
        have d2 : decide ((k : Int) < (n : Int) + 1) = true := by simp; omega
        have Hno := Lib.hid (show (decide (k < n) && p k) = false by simp; omega)
        obtain ⟨w1, hw1⟩ : ∃ w1 : World, w1 = wr := ⟨_, rfl⟩
        subst hw1
        have Hb1 := Hb
        have Hown1 := Hown
        clear Hb Hown
        by_cases hfk : f < k
        · have d3 : decide (f < k) = true := by simp; omega
          have HS2 : Hid (stkR y p n (k + 1) = (l ++ [(⟨(f : Int), (y : Int), (k : Int) - f, 1⟩ : Rc)], k + 1)) := Lib.hid (by rw [Hsu.out, Hno.out, if_neg (by simp), if_pos hfk])
          have hll : l.length ≤ 65536 := by omega
          clear Hsu Hs Hno HH
          go_wp2_with (at_builtin; refine wpList_append_mine _ rfl (.tmp 26) (.tmp 33) 22 rfl w.heap.size 30 i0 _ 4 32 Try.underlying22 hi hz0 hz1 hz2 rfl (by decide) _ _ _ rfl (Hown1.out.alloc _) (some ⟨w1.heap.size, 0, none⟩) 1 1 (flatR [(⟨(f : Int), (y : Int), (k : Int) - f, 1⟩ : Rc)]) rfl rfl ?Bc1 ?Bc2 ?Bc3 ?Bc4 ?Bc5 ?_)
          case Bc1 => exact .inr ⟨_, rfl, fun j u hu => cells_news w1 _ _ j u hu⟩
          case Bc2 => exact flatR_ones _
          case Bc3 => simp only [maxLen]; omega
          case Bc4 => omega
          case Bc5 => have := Hb1.out.size; simp; omega
          intro v' w3 hown' hgrow hpl
          have Hb3 := Lib.hid ((Below.al Hb1.out _).grown hgrow (by have := Hb1.out.size; simp; omega) (fun k' e => (Hown1.out.lt k' e).1))
          have Hres := Lib.hid (show w3.ownsRow w.heap.size 30 4 v' (l ++ [(⟨(f : Int), (y : Int), (k : Int) - f, 1⟩ : Rc)]).length (flatR (l ++ [(⟨(f : Int), (y : Int), (k : Int) - f, 1⟩ : Rc)])) by
            simpa [flatR] using hown')
          clear hown' hgrow hpl
          go_wp2
          go_roundw
          case rel => exact ⟨k + 1, k + 1, _, by omega, by go_num, by go_num, HS2, Hres.out, Hb3.out⟩
          case measure => simp [intOf]; omega
        · have d3 : decide (f < k) = false := by simp; omega
          have HS2 : Hid (stkR y p n (k + 1) = (l, k + 1)) := Lib.hid (by rw [Hsu.out, Hno.out, if_neg (by simp), if_neg hfk])
          clear Hsu Hs Hno HH
          go_wp2
          go_roundw
          case rel => exact ⟨k + 1, k + 1, _, by omega, by go_num, by go_num, HS2, Hown1.out, Hb1.out⟩
          case measure => simp [intOf]; omega
      · obtain rfl : k = n + 1 := by omega
        have HE : Hid (stkL y p n = l) := Lib.hid (by unfold stkL; rw [Hs.out])
        have d2 : decide (((n + 1 : Nat) : Int) < (n : Int) + 1) = false := by simp
        clear Hs Hsu HH
        go_wp2
        go_ret
        rw [HE.out]
        exact ⟨_, rfl, Hown.out, Hb.out⟩

end Go.Proofs.Ytpddkhhdleknnaa
