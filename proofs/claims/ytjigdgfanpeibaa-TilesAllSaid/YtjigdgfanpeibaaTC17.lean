/- region's goesOn and lengthen: does a band go on with the one above it; a band made higher. -/
import Derived.Test.YtjigdgfanpeibaaTC10
namespace Go.Proofs.Ytjigdgfanpeibaa
open Go.RowKit

def sameCols : List Rc → List Rc → Bool
  | [], [] => true
  | r :: l, s :: m => (r.x == s.x && r.a == s.a) && sameCols l m
  | _, _ => false

def goesOnB : List Rc → List Rc → Bool
  | r :: l, s :: m => decide (l.length = m.length) && (decide (r.y + r.b = s.y) && sameCols (s :: m) (r :: l))
  | _, _ => false

theorem sameCols_at {l m : List Rc} {k : Nat} (h1 : k < l.length) (h2 : k < m.length) : sameCols (l.drop k) (m.drop k) = ((l[k].x == m[k].x && l[k].a == m[k].a) && sameCols (l.drop (k + 1)) (m.drop (k + 1))) := by
  rw [List.drop_eq_getElem_cons h1, List.drop_eq_getElem_cons h2]; rfl

theorem goesOnB_eq {a b : List Rc} (ha : 0 < a.length) (hb : 0 < b.length) : goesOnB a b = (decide (a.length = b.length) && (decide (a[0].y + a[0].b = b[0].y) && sameCols b a)) := by
  cases a with
  | nil => simp at ha
  | cons r l =>
    cases b with
    | nil => simp at hb
    | cons s m => simp [goesOnB]
theorem goesOnB_len {a b : List Rc} (h : a.length ≠ b.length) : goesOnB a b = false := by
  cases a with
  | nil => rfl
  | cons r l =>
    cases b with
    | nil => rfl
    | cons s m => simp [goesOnB] at h ⊢; intro h2; exact absurd h2 h

set_option maxRecDepth 100000 in
set_option maxHeartbeats 2000000 in
theorem goesOn_any (va vb : Value) (a b : List Rc) (w : World) (ha : Row encR 4 w va a) (hb : Row encR 4 w vb b) (hbd : ∀ r ∈ a, (-4294967296 ≤ r.y ∧ r.y ≤ 4294967296) ∧ (-4294967296 ≤ r.b ∧ r.b ≤ 4294967296)) :
    Makes Try.prog 94 #[va, vb] w (.bool (goesOnB a b)) := by
  unfold Makes
  have hla := ha.len
  have hlb := hb.len
  obtain ⟨pa, ca, rfl, hca, hma, hpa⟩ := ha
  obtain ⟨pb, cb, rfl, hcb, hmb, hpb⟩ := hb
  by_cases h00 : a.length = 0
  · have h0 : ((a.length : Int) == 0) = true := by simp [h00]
    have Hf := Lib.hid (show goesOnB a b = false by rw [List.eq_nil_of_length_eq_zero h00]; rfl)
    clear h00 hbd hpa
    go_enter Try.func94, Try.ntmps94
    go_wp2
    go_quiet (fail)
    go_wp2
    go_ret
    exact ⟨ret_bool Hf.out.symm, Below.drewN' (Below.refl _ _) _⟩
  · have hz : ((a.length : Int) == 0) = false := by simpa using h00
    have hla0 : 0 < a.length := by omega
    clear h00
    by_cases hll : a.length = b.length
    · have hlb0 : 0 < b.length := by omega
      have hne : ((a.length : Int) != (b.length : Int)) = false := by simp [hll]
      obtain ⟨ba, oa, rfl, hBa, hc⟩ := hpa.rc hla0
      obtain ⟨bb, ob, rfl, hBb, hd⟩ := hpb.rc hlb0
      have hc0 := hc 0 hla0
      have hd0 := hd 0 hlb0
      have hb0 := hbd a[0] (List.getElem_mem hla0)
      have Hge := Lib.hid (goesOnB_eq hla0 hlb0)
      simp only [Nat.zero_mul, Nat.add_zero] at hc0 hd0
      generalize a[0] = r at *
      generalize b[0] = s at *
      obtain ⟨c0, c1, c2, c3⟩ := hc0
      obtain ⟨d0, d1, d2, d3⟩ := hd0
      have hw : IntKind.i64.wrap (r.y + r.b) = r.y + r.b := IntWalk.i64_in _ (by omega)
      have Hll := Lib.hid hll
      have Hpa := Lib.hid hpa
      have Hpb := Lib.hid hpb
      clear hll hbd hc hd hpa hpb
      by_cases hy : r.y + r.b = s.y
      · have hy' : ((r.y + r.b : Int) != s.y) = false := by simp [hy]
        have Hy := Lib.hid hy
        clear hy
        go_enter Try.func94, Try.ntmps94
        go_wp2
        go_quiet (fail)
        go_wp2
        go_loopw [35] (fun i wr => ∃ k : Nat, k ≤ b.length ∧ i = .int .i64 k ∧ Below w.heap.size w wr ∧ Hid (sameCols b a = sameCols (b.drop k) (a.drop k))) (fun i _ => b.length - (intOf i).toNat)
        case atStart => exact ⟨0, by omega, rfl, Below.drewN' (Below.refl _ _) _, Lib.hid rfl⟩
        case round =>
          obtain ⟨k, hk, rfl, hbw, He⟩ := hrel
          by_cases hlt : k < b.length
          · have hlt2 : k < a.length := by rw [Hll.out]; exact hlt
            obtain ⟨_, _, e, -, hc⟩ := (Hpa.out.below hbw).rc hlt2
            cases e
            obtain ⟨_, _, e, -, hd⟩ := (Hpb.out.below hbw).rc hlt
            cases e
            obtain ⟨p0, p1, p2, p3⟩ := hc k hlt2
            obtain ⟨q0, q1, q2, q3⟩ := hd k hlt
            have Hat := Lib.hid (sameCols_at hlt hlt2)
            clear hc hd c0 c1 c2 c3 d0 d1 d2 d3
            generalize a[k] = ra at *
            generalize b[k] = rb at *
            go_wp2
            have n0 := cell_at (w := wr) (c := #[.int .i64 rb.x, .int .i64 rb.y, .int .i64 rb.a, .int .i64 rb.b]) (t := 38) (i := 0) rfl rfl
            have n2 := cell_at (w := wr) (c := #[.int .i64 rb.x, .int .i64 rb.y, .int .i64 rb.a, .int .i64 rb.b]) (t := 38) (i := 2) rfl rfl
            have m0 := cell_later (Below.al1 wr (.cells #[.int .i64 rb.x, .int .i64 rb.y, .int .i64 rb.a, .int .i64 rb.b] 38)) p0
            have m2 := cell_later (Below.al1 wr (.cells #[.int .i64 rb.x, .int .i64 rb.y, .int .i64 rb.a, .int .i64 rb.b] 38)) p2
            have Hbx := Lib.hid (Below.al hbw (.cells #[.int .i64 rb.x, .int .i64 rb.y, .int .i64 rb.a, .int .i64 rb.b] 38))
            generalize (wr.alloc (.cells #[.int .i64 rb.x, .int .i64 rb.y, .int .i64 rb.a, .int .i64 rb.b] 38)) = We at *
            clear p0 p1 p2 p3 q0 q1 q2 q3
            by_cases hx : rb.x = ra.x
            · have hx' : ((rb.x : Int) != ra.x) = false := by simp [hx]
              by_cases hww : rb.a = ra.a
              · have hww' : ((rb.a : Int) != ra.a) = false := by simp [hww]
                have Hn := Lib.hid (show sameCols b a = sameCols (b.drop (k + 1)) (a.drop (k + 1)) by rw [He.out, Hat.out]; simp [hx, hww])
                clear hx hww
                go_quiet (fail)
                go_wp2
                go_roundw
                case rel => exact ⟨k + 1, by omega, by go_num, Below.drewN' Hbx.out _, Hn⟩
                case measure => simp [intOf]; omega
              · have hww' : ((rb.a : Int) != ra.a) = true := by simp [hww]
                have Hn := Lib.hid (show goesOnB a b = false by rw [Hge.out, He.out, Hat.out]; simp [hww])
                clear hx hww
                go_quiet (fail)
                go_wp2
                go_ret
                exact ⟨ret_bool Hn.out.symm, Below.drewN' Hbx.out _⟩
            · have hx' : ((rb.x : Int) != ra.x) = true := by simp [hx]
              have Hn := Lib.hid (show goesOnB a b = false by rw [Hge.out, He.out, Hat.out]; simp [hx])
              clear hx
              go_quiet (fail)
              go_wp2
              go_ret
              exact ⟨ret_bool Hn.out.symm, Below.drewN' Hbx.out _⟩
          · have Hn := Lib.hid (show goesOnB a b = true by
              rw [Hge.out, He.out, List.drop_eq_nil_of_le (by omega), List.drop_eq_nil_of_le (by rw [Hll.out]; omega)]; simp [sameCols, Hll.out, Hy.out])
            go_wp2
            go_ret
            exact ⟨ret_bool Hn.out.symm, hbw⟩
      · have hy' : ((r.y + r.b : Int) != s.y) = true := by simp [hy]
        have Hn := Lib.hid (show goesOnB a b = false by rw [Hge.out]; simp [hy])
        clear hy
        go_enter Try.func94, Try.ntmps94
        go_wp2
        go_quiet (fail)
        go_wp2
        go_ret
        exact ⟨ret_bool Hn.out.symm, Below.drewN' (Below.refl _ _) _⟩
    · have hne : ((a.length : Int) != (b.length : Int)) = true := by simp; omega
      have Hn := Lib.hid (goesOnB_len hll)
      clear hll hbd hpa hpb
      go_enter Try.func94, Try.ntmps94
      go_wp2
      go_quiet (fail)
      go_wp2
      go_ret
      exact ⟨ret_bool Hn.out.symm, Below.drewN' (Below.refl _ _) _⟩

def higher (by' : Int) (r : Rc) : Rc := ⟨r.x, r.y, r.a, r.b + by'⟩

theorem flatR_set (l : List Rc) (k : Nat) (b : Int) (h : k < l.length) : (flatR l).set (k * 4 + 3) (.int .i64 b) = flatR (l.set k ⟨l[k].x, l[k].y, l[k].a, b⟩) := by
  induction l generalizing k with
  | nil => simp at h
  | cons r l ih =>
    have h4 : (encR r).length = 4 := rfl
    cases k with
    | zero => simp [flatR, encR]
    | succ k =>
      have := ih k (by simpa using h)
      simp only [flatR, List.flatMap_cons, List.set_cons_succ] at this ⊢
      rw [List.set_append_right _ _ (by rw [h4]; omega), h4, show (k + 1) * 4 + 3 - 4 = k * 4 + 3 by omega, this]
      simp

theorem flatR_len (l : List Rc) : (flatR l).length = l.length * 4 := by
  induction l with
  | nil => rfl
  | cons e l ih => simp only [flatR, List.flatMap_cons, List.length_append, List.length_cons] at ih ⊢; rw [ih]; simp [encR]; omega

set_option maxRecDepth 100000 in
set_option maxHeartbeats 1000000 in
theorem lengthen_any (base : Nat) (v : Value) (a : List Rc) (by' : Int) (w : World) (hown : w.ownsRow base 38 4 v a.length (flatR a)) (hbd : ∀ r ∈ a, -4294967296 ≤ r.b ∧ r.b ≤ 4294967296) (hby : -4294967296 ≤ by' ∧ by' ≤ 4294967296) :
    Calls Try.prog 95 #[v, .int .i64 by'] w fun e w' => e = .returned (.tuple #[]) ∧ w'.ownsRow base 38 4 v a.length (flatR (a.map (higher by'))) ∧ Turns (fun b => v.ownBlock = some b) w w' := by
  have hrow := owns_row' (enc := encR) (k := 4) (fun _ => rfl) hown
  have hn := hrow.len
  obtain ⟨p, cap, rfl, -, -, hp⟩ := hrow
  have Hown := Lib.hid hown
  clear hown
  go_enter Try.func95, Try.ntmps95
  go_wp2
  go_loopw [7] (fun i wr => ∃ k : Nat, k ≤ a.length ∧ i = .int .i64 k ∧ wr.ownsRow base 38 4 (.slice p a.length cap) a.length (flatR ((a.take k).map (higher by') ++ a.drop k)) ∧ Turns (fun b => (Value.slice p a.length cap).ownBlock = some b) w wr) (fun i _ => a.length - (intOf i).toNat)
  case atStart => exact ⟨0, by omega, rfl, by simpa using Hown.out, Turns.refl _ _⟩
  case round =>
    obtain ⟨k, hk, rfl, hown, htr⟩ := hrel
    by_cases hlt : k < a.length
    · obtain ⟨g, off, rfl, -, -⟩ := hp.rc hlt
      have hoff : off = 0 := by
        rcases Hown.out.2 with ⟨h, _⟩ | ⟨_, _, _, h, _⟩
        · cases h
        · cases h; rfl
      subst hoff
      have hll : ((a.take k).map (higher by') ++ a.drop k).length = a.length := by simp; omega
      have hget : ((a.take k).map (higher by') ++ a.drop k)[k]'(by omega) = a[k] := by
        rw [List.getElem_append_right (by simp; omega)]
        simp [List.length_take, Nat.min_eq_left (Nat.le_of_lt hlt)]
      obtain ⟨p', _, h0, -, -, hrw⟩ := owns_row' (enc := encR) (k := 4) (xs := (a.take k).map (higher by') ++ a.drop k) (v := .slice (some ⟨g, 0, none⟩) a.length cap) (fun _ => rfl) (by rw [hll]; exact hown)
      simp only [Value.slice.injEq] at h0
      rw [← h0.1] at hrw
      clear h0
      obtain ⟨_, _, h0, hgs, hc⟩ := hrw.rc (i := k) (by omega)
      cases h0
      have hck := hc k (by omega)
      rw [hget] at hck
      have hbk := hbd a[k] (List.getElem_mem hlt)
      have hfr : wr.frozen? ⟨g, k * 4 + 3, none⟩ = false := by
        rcases hown.2 with ⟨h, _⟩ | ⟨_, _, cur, h, _, hgg, _⟩
        · cases h
        · cases h; simp [World.frozen?, hgg]
      have Hset := Lib.hid (owns_setCell hown (k * 4 + 3) (.int .i64 (a[k].b + by')))
      have Hst : flatR ((a.take (k + 1)).map (higher by') ++ a.drop (k + 1)) = (flatR ((a.take k).map (higher by') ++ a.drop k)).set (k * 4 + 3) (.int .i64 (a[k].b + by')) := by
        rw [flatR_set _ k _ (by omega), hget]
        congr 1
        rw [List.take_succ_eq_append_getElem hlt, List.map_append, List.append_assoc, List.set_append_right _ _ (by simp; omega)]
        congr 1
        have h9 : k - (List.map (higher by') (List.take k a)).length = 0 := by simp; omega
        rw [h9, List.drop_eq_getElem_cons hlt]
        rfl
      have HSt := Lib.hid Hst
      have Htr := Lib.hid htr
      simp only [Nat.zero_add] at hck
      obtain ⟨c0, c1, c2, c3⟩ := hck
      clear hll hget hrw hc hown Hst htr
      generalize a[k] = r at *
      go_wp2
      go_roundw
      case rel => exact ⟨k + 1, by omega, by go_num, by rw [HSt.out]; exact Hset.out, Htr.out.set (p := ⟨g, k * 4 + 3, none⟩) rfl _⟩
      case measure => simp [intOf]; omega
    · obtain rfl : k = a.length := by omega
      have Hown2 : Hid (wr.ownsRow base 38 4 (.slice p a.length cap) a.length (flatR (a.map (higher by')))) := Lib.hid (by simpa using hown)
      have Htr := Lib.hid htr
      clear hown htr
      go_wp2
      go_end0
      exact ⟨rfl, Hown2.out, Htr.out⟩

end Go.Proofs.Ytjigdgfanpeibaa
