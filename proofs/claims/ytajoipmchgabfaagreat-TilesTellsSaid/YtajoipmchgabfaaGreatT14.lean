/- Several texts in one, each with its own head. -/
import Derived.Test.YtajoipmchgabfaaGreatT8
import Derived.Test.YtajoipmchgabfaaGreatT13
/- region's goesOn and lengthen: does a band go on with the one above it; a band made higher. -/
namespace Go.Proofs.YtajoipmchgabfaaGreat
open Go.RowKit

def sameCols : List Rc → List Rc → Bool
  | [], [] => true
  | r :: l, s :: m => (r.x == s.x && r.a == s.a) && sameCols l m
  | _, _ => false

def goesOnB : List Rc → List Rc → Bool
  | r :: l, s :: m => decide (l.length = m.length) && (decide (r.y + r.b = s.y) && sameCols (s :: m) (r :: l))
  | _, _ => false

theorem sameCols_at {l m : List Rc} {k : Nat} (h1 : k < l.length) (h2 : k < m.length) : sameCols (l.drop k) (m.drop k) = ((l[k].x == m[k].x && l[k].a == m[k].a) && sameCols (l.drop (k + 1)) (m.drop (k + 1))) := by
  rw [List.drop_eq_getElem_cons h1, List.drop_eq_getElem_cons h2]; rfl

theorem goesOnB_eq {a b : List Rc} (ha : 0 < a.length) (hb : 0 < b.length) : goesOnB a b = (decide (a.length = b.length) && (decide (a[0].y + a[0].b = b[0].y) && sameCols b a)) := by
  cases a with
  | nil => simp at ha
  | cons r l =>
    cases b with
    | nil => simp at hb
    | cons s m => simp [goesOnB]
theorem goesOnB_len {a b : List Rc} (h : a.length ≠ b.length) : goesOnB a b = false := by
  cases a with
  | nil => rfl
  | cons r l =>
    cases b with
    | nil => rfl
    | cons s m => simp [goesOnB] at h ⊢; intro h2; exact absurd h2 h

set_option maxRecDepth 100000 in
set_option maxHeartbeats 2000000 in
theorem goesOn_any (va vb : Value) (a b : List Rc) (w : World) (ha : Row encR 4 w va a) (hb : Row encR 4 w vb b) (hbd : ∀ r ∈ a, (-4294967296 ≤ r.y ∧ r.y ≤ 4294967296) ∧ (-4294967296 ≤ r.b ∧ r.b ≤ 4294967296)) :
    Makes Tryz.prog 68 #[va, vb] w (.bool (goesOnB a b)) := by
  unfold Makes
  have hla := ha.len
  have hlb := hb.len
  obtain ⟨pa, ca, rfl, hca, hma, hpa⟩ := ha
  obtain ⟨pb, cb, rfl, hcb, hmb, hpb⟩ := hb
  by_cases h00 : a.length = 0
  · have h0 : ((a.length : Int) == 0) = true := by simp [h00]
    have Hf := Lib.hid (show goesOnB a b = false by rw [List.eq_nil_of_length_eq_zero h00]; rfl)
    clear h00 hbd hpa
    go_enter Tryz.func68, Tryz.ntmps68
    go_wp2
    go_quiet (fail)
    go_wp2
    go_ret
    exact ⟨ret_bool Hf.out.symm, Below.drewN' (Below.refl _ _) _⟩
  · have hz : ((a.length : Int) == 0) = false := by simpa using h00
    have hla0 : 0 < a.length := by omega
    clear h00
    by_cases hll : a.length = b.length
    · have hlb0 : 0 < b.length := by omega
      have hne : ((a.length : Int) != (b.length : Int)) = false := by simp [hll]
      obtain ⟨ba, oa, rfl, hBa, hc⟩ := hpa.rc hla0
      obtain ⟨bb, ob, rfl, hBb, hd⟩ := hpb.rc hlb0
      have hc0 := hc 0 hla0
      have hd0 := hd 0 hlb0
      have hb0 := hbd a[0] (List.getElem_mem hla0)
      have Hge := Lib.hid (goesOnB_eq hla0 hlb0)
      simp only [Nat.zero_mul, Nat.add_zero] at hc0 hd0
      generalize a[0] = r at *
      generalize b[0] = s at *
      obtain ⟨c0, c1, c2, c3⟩ := hc0
      obtain ⟨d0, d1, d2, d3⟩ := hd0
      have hw : IntKind.i64.wrap (r.y + r.b) = r.y + r.b := IntWalk.i64_in _ (by omega)
      have Hll := Lib.hid hll
      have Hpa := Lib.hid hpa
      have Hpb := Lib.hid hpb
      clear hll hbd hc hd hpa hpb
      by_cases hy : r.y + r.b = s.y
      · have hy' : ((r.y + r.b : Int) != s.y) = false := by simp [hy]
        have Hy := Lib.hid hy
        clear hy
        go_enter Tryz.func68, Tryz.ntmps68
        go_wp2
        go_quiet (fail)
        go_wp2
        go_loopw [35] (fun i wr => ∃ k : Nat, k ≤ b.length ∧ i = .int .i64 k ∧ Below w.heap.size w wr ∧ Hid (sameCols b a = sameCols (b.drop k) (a.drop k))) (fun i _ => b.length - (intOf i).toNat)
        case atStart => exact ⟨0, by omega, rfl, Below.drewN' (Below.refl _ _) _, Lib.hid rfl⟩
        case round =>
          obtain ⟨k, hk, rfl, hbw, He⟩ := hrel
          by_cases hlt : k < b.length
          · have hlt2 : k < a.length := by rw [Hll.out]; exact hlt
            obtain ⟨_, _, e, -, hc⟩ := (Hpa.out.below hbw).rc hlt2
            cases e
            obtain ⟨_, _, e, -, hd⟩ := (Hpb.out.below hbw).rc hlt
            cases e
            obtain ⟨p0, p1, p2, p3⟩ := hc k hlt2
            obtain ⟨q0, q1, q2, q3⟩ := hd k hlt
            have Hat := Lib.hid (sameCols_at hlt hlt2)
            clear hc hd c0 c1 c2 c3 d0 d1 d2 d3
            generalize a[k] = ra at *
            generalize b[k] = rb at *
            go_wp2
            have n0 := cell_at (w := wr) (c := #[.int .i64 rb.x, .int .i64 rb.y, .int .i64 rb.a, .int .i64 rb.b]) (t := 37) (i := 0) rfl rfl
            have n2 := cell_at (w := wr) (c := #[.int .i64 rb.x, .int .i64 rb.y, .int .i64 rb.a, .int .i64 rb.b]) (t := 37) (i := 2) rfl rfl
            have m0 := cell_later (Below.al1 wr (.cells #[.int .i64 rb.x, .int .i64 rb.y, .int .i64 rb.a, .int .i64 rb.b] 37)) p0
            have m2 := cell_later (Below.al1 wr (.cells #[.int .i64 rb.x, .int .i64 rb.y, .int .i64 rb.a, .int .i64 rb.b] 37)) p2
            have Hbx := Lib.hid (Below.al hbw (.cells #[.int .i64 rb.x, .int .i64 rb.y, .int .i64 rb.a, .int .i64 rb.b] 37))
            generalize (wr.alloc (.cells #[.int .i64 rb.x, .int .i64 rb.y, .int .i64 rb.a, .int .i64 rb.b] 37)) = We at *
            clear p0 p1 p2 p3 q0 q1 q2 q3
            by_cases hx : rb.x = ra.x
            · have hx' : ((rb.x : Int) != ra.x) = false := by simp [hx]
              by_cases hww : rb.a = ra.a
              · have hww' : ((rb.a : Int) != ra.a) = false := by simp [hww]
                have Hn := Lib.hid (show sameCols b a = sameCols (b.drop (k + 1)) (a.drop (k + 1)) by rw [He.out, Hat.out]; simp [hx, hww])
                clear hx hww
                go_quiet (fail)
                go_wp2
                go_roundw
                case rel => exact ⟨k + 1, by omega, by go_num, Below.drewN' Hbx.out _, Hn⟩
                case measure => simp [intOf]; omega
              · have hww' : ((rb.a : Int) != ra.a) = true := by simp [hww]
                have Hn := Lib.hid (show goesOnB a b = false by rw [Hge.out, He.out, Hat.out]; simp [hww])
                clear hx hww
                go_quiet (fail)
                go_wp2
                go_ret
                exact ⟨ret_bool Hn.out.symm, Below.drewN' Hbx.out _⟩
            · have hx' : ((rb.x : Int) != ra.x) = true := by simp [hx]
              have Hn := Lib.hid (show goesOnB a b = false by rw [Hge.out, He.out, Hat.out]; simp [hx])
              clear hx
              go_quiet (fail)
              go_wp2
              go_ret
              exact ⟨ret_bool Hn.out.symm, Below.drewN' Hbx.out _⟩
          · have Hn := Lib.hid (show goesOnB a b = true by
              rw [Hge.out, He.out, List.drop_eq_nil_of_le (by omega), List.drop_eq_nil_of_le (by rw [Hll.out]; omega)]; simp [sameCols, Hll.out, Hy.out])
            go_wp2
            go_ret
            exact ⟨ret_bool Hn.out.symm, hbw⟩
      · have hy' : ((r.y + r.b : Int) != s.y) = true := by simp [hy]
        have Hn := Lib.hid (show goesOnB a b = false by rw [Hge.out]; simp [hy])
        clear hy
        go_enter Tryz.func68, Tryz.ntmps68
        go_wp2
        go_quiet (fail)
        go_wp2
        go_ret
        exact ⟨ret_bool Hn.out.symm, Below.drewN' (Below.refl _ _) _⟩
    · have hne : ((a.length : Int) != (b.length : Int)) = true := by simp; omega
      have Hn := Lib.hid (goesOnB_len hll)
      clear hll hbd hpa hpb
      go_enter Tryz.func68, Tryz.ntmps68
      go_wp2
      go_quiet (fail)
      go_wp2
      go_ret
      exact ⟨ret_bool Hn.out.symm, Below.drewN' (Below.refl _ _) _⟩

def higher (by' : Int) (r : Rc) : Rc := ⟨r.x, r.y, r.a, r.b + by'⟩

theorem flatR_set (l : List Rc) (k : Nat) (b : Int) (h : k < l.length) : (flatR l).set (k * 4 + 3) (.int .i64 b) = flatR (l.set k ⟨l[k].x, l[k].y, l[k].a, b⟩) := by
  induction l generalizing k with
  | nil => simp at h
  | cons r l ih =>
    have h4 : (encR r).length = 4 := rfl
    cases k with
    | zero => simp [flatR, encR]
    | succ k =>
      have := ih k (by simpa using h)
      simp only [flatR, List.flatMap_cons, List.set_cons_succ] at this ⊢
      rw [List.set_append_right _ _ (by rw [h4]; omega), h4, show (k + 1) * 4 + 3 - 4 = k * 4 + 3 by omega, this]
      simp

theorem flatR_len (l : List Rc) : (flatR l).length = l.length * 4 := by
  induction l with
  | nil => rfl
  | cons e l ih => simp only [flatR, List.flatMap_cons, List.length_append, List.length_cons] at ih ⊢; rw [ih]; simp [encR]; omega

set_option maxRecDepth 100000 in
set_option maxHeartbeats 1000000 in
theorem lengthen_any (base : Nat) (v : Value) (a : List Rc) (by' : Int) (w : World) (hown : w.ownsRow base 37 4 v a.length (flatR a)) (hbd : ∀ r ∈ a, -4294967296 ≤ r.b ∧ r.b ≤ 4294967296) (hby : -4294967296 ≤ by' ∧ by' ≤ 4294967296) :
    Calls Tryz.prog 69 #[v, .int .i64 by'] w fun e w' => e = .returned (.tuple #[]) ∧ w'.ownsRow base 37 4 v a.length (flatR (a.map (higher by'))) ∧ Turns (fun b => v.ownBlock = some b) w w' := by
  have hrow := owns_row' (enc := encR) (k := 4) (fun _ => rfl) hown
  have hn := hrow.len
  obtain ⟨p, cap, rfl, -, -, hp⟩ := hrow
  have Hown := Lib.hid hown
  clear hown
  go_enter Tryz.func69, Tryz.ntmps69
  go_wp2
  go_loopw [7] (fun i wr => ∃ k : Nat, k ≤ a.length ∧ i = .int .i64 k ∧ wr.ownsRow base 37 4 (.slice p a.length cap) a.length (flatR ((a.take k).map (higher by') ++ a.drop k)) ∧ Turns (fun b => (Value.slice p a.length cap).ownBlock = some b) w wr) (fun i _ => a.length - (intOf i).toNat)
  case atStart => exact ⟨0, by omega, rfl, by simpa using Hown.out, Turns.refl _ _⟩
  case round =>
    obtain ⟨k, hk, rfl, hown, htr⟩ := hrel
    by_cases hlt : k < a.length
    · obtain ⟨g, off, rfl, -, -⟩ := hp.rc hlt
      have hoff : off = 0 := by
        rcases Hown.out.2 with ⟨h, _⟩ | ⟨_, _, _, h, _⟩
        · cases h
        · cases h; rfl
      subst hoff
      have hll : ((a.take k).map (higher by') ++ a.drop k).length = a.length := by simp; omega
      have hget : ((a.take k).map (higher by') ++ a.drop k)[k]'(by omega) = a[k] := by
        rw [List.getElem_append_right (by simp; omega)]
        simp [List.length_take, Nat.min_eq_left (Nat.le_of_lt hlt)]
      obtain ⟨p', _, h0, -, -, hrw⟩ := owns_row' (enc := encR) (k := 4) (xs := (a.take k).map (higher by') ++ a.drop k) (v := .slice (some ⟨g, 0, none⟩) a.length cap) (fun _ => rfl) (by rw [hll]; exact hown)
      simp only [Value.slice.injEq] at h0
      rw [← h0.1] at hrw
      clear h0
      obtain ⟨_, _, h0, hgs, hc⟩ := hrw.rc (i := k) (by omega)
      cases h0
      have hck := hc k (by omega)
      rw [hget] at hck
      have hbk := hbd a[k] (List.getElem_mem hlt)
      have hfr : wr.frozen? ⟨g, k * 4 + 3, none⟩ = false := by
        rcases hown.2 with ⟨h, _⟩ | ⟨_, _, cur, h, _, hgg, _⟩
        · cases h
        · cases h; simp [World.frozen?, hgg]
      have Hset := Lib.hid (owns_setCell hown (k * 4 + 3) (.int .i64 (a[k].b + by')))
      have Hst : flatR ((a.take (k + 1)).map (higher by') ++ a.drop (k + 1)) = (flatR ((a.take k).map (higher by') ++ a.drop k)).set (k * 4 + 3) (.int .i64 (a[k].b + by')) := by
        rw [flatR_set _ k _ (by omega), hget]
        congr 1
        rw [List.take_succ_eq_append_getElem hlt, List.map_append, List.append_assoc, List.set_append_right _ _ (by simp; omega)]
        congr 1
        have h9 : k - (List.map (higher by') (List.take k a)).length = 0 := by simp; omega
        rw [h9, List.drop_eq_getElem_cons hlt]
        rfl
      have HSt := Lib.hid Hst
      have Htr := Lib.hid htr
      simp only [Nat.zero_add] at hck
      obtain ⟨c0, c1, c2, c3⟩ := hck
      clear hll hget hrw hc hown Hst htr
      generalize a[k] = r at *
      go_wp2
      go_roundw
      case rel => exact ⟨k + 1, by omega, by go_num, by rw [HSt.out]; exact Hset.out, Htr.out.set (p := ⟨g, k * 4 + 3, none⟩) rfl _⟩
      case measure => simp [intOf]; omega
    · obtain rfl : k = a.length := by omega
      have Hown2 : Hid (wr.ownsRow base 37 4 (.slice p a.length cap) a.length (flatR (a.map (higher by')))) := Lib.hid (by simpa using hown)
      have Htr := Lib.hid htr
      clear hown htr
      go_wp2
      go_end0
      exact ⟨rfl, Hown2.out, Htr.out⟩

end Go.Proofs.YtajoipmchgabfaaGreat

/- Plain facts for the walk of region's strips: bounds, and one place more. -/
namespace Go.Proofs.YtajoipmchgabfaaGreat
open Go.RowKit

theorem owns_mono {W : World} {base base' : Nat} {e : TypeId} {size : Nat} {v : Value} {n : Nat} {xs : List Value} (h : W.ownsRow base e size v n xs) (hb : base' ≤ base) : W.ownsRow base' e size v n xs := by
  refine ⟨h.1, ?_⟩
  rcases h.2 with h0 | ⟨g, cap, cur, h1, h2, h3⟩
  · exact .inl h0
  · exact .inr ⟨g, cap, cur, h1, by omega, h3⟩

theorem good_downs {a b : List Rc} {e : Ed} (h : e ∈ downsL a b) : GoodEd e ∧ -1048576 ≤ e.pl ∧ e.pl ≤ 1048576 := by
  rcases mem_downs.1 h with ⟨r, _, he, h | h⟩ | ⟨r, _, he, h | h⟩ <;> subst h <;> have hb := emptyR_false.1 he
  · exact ⟨⟨.inl rfl, .inl rfl, he⟩, by simp; omega, by simp; omega⟩
  · exact ⟨⟨.inl rfl, .inr rfl, he⟩, by simp; omega, by simp; omega⟩
  · exact ⟨⟨.inr rfl, .inl rfl, he⟩, by simp; omega, by simp; omega⟩
  · exact ⟨⟨.inr rfl, .inr rfl, he⟩, by simp; omega, by simp; omega⟩

theorem good_across {li : Int} (hli : li = 0 ∨ li = 1) {a : List Rc} {y : Int} {e : Ed} (h : e ∈ acrossOf li (act a y)) : GoodEd e ∧ -1048576 ≤ e.pl ∧ e.pl ≤ 1048576 := by
  obtain ⟨r, hr, he⟩ := List.mem_flatMap.1 h
  have hl := (List.mem_filter.1 hr).2
  simp only [liveAt, Bool.and_eq_true, Bool.not_eq_true'] at hl
  have hb := emptyR_false.1 hl.1
  simp at he
  rcases he with rfl | rfl
  · exact ⟨⟨hli, .inl rfl, hl.1⟩, by simp; omega, by simp; omega⟩
  · exact ⟨⟨hli, .inr rfl, hl.1⟩, by simp; omega, by simp; omega⟩

theorem good_sides {a b : List Rc} {y : Int} {e : Ed} (h : e ∈ sidesAt a b y) : GoodEd e ∧ -1048576 ≤ e.pl ∧ e.pl ≤ 1048576 := by
  rcases List.mem_append.1 h with h | h
  · exact good_across (.inl rfl) h
  · exact good_across (.inr rfl) h

theorem acrossOf_len (li : Int) (rs : List Rc) : (acrossOf li rs).length = 2 * rs.length := by
  induction rs with
  | nil => rfl
  | cons r rs ih => simp only [acrossOf, List.flatMap_cons, List.length_append, List.length_cons] at ih ⊢; rw [ih]; simp; omega

theorem sides_len (a b : List Rc) (y : Int) : (sidesAt a b y).length ≤ 2 * (a.length + b.length) := by
  rw [sidesAt, List.length_append, acrossOf_len, acrossOf_len]
  have h1 : (act a y).length ≤ a.length := List.length_filter_le _ _
  have h2 : (act b y).length ≤ b.length := List.length_filter_le _ _
  omega

/-- Which places were gone through, and what the sides are. -/
def SidesAre (a b : List Rc) (pre : List (Int × List Ed)) (sides : List Ed) (top : Int) : Prop :=
  SortedP sides ∧ ((pre = [] ∧ sides = [] ∧ top = 0) ∨ ∃ q ps, pre = ps ++ [q] ∧ sides.Perm (sidesAt a b q.1) ∧ top = q.1)

theorem SidesAre.good {a b : List Rc} {pre : List (Int × List Ed)} {sides : List Ed} {top : Int} (h : SidesAre a b pre sides top) : ∀ e ∈ sides, GoodEd e ∧ -1048576 ≤ e.pl ∧ e.pl ≤ 1048576 := by
  intro e he
  rcases h.2 with ⟨_, rfl, _⟩ | ⟨q, ps, _, hp, _⟩
  · simp at he
  · exact good_sides (hp.mem_iff.1 he)

theorem SidesAre.len {a b : List Rc} {pre : List (Int × List Ed)} {sides : List Ed} {top : Int} (h : SidesAre a b pre sides top) : sides.length ≤ 2 * (a.length + b.length) := by
  rcases h.2 with ⟨_, rfl, _⟩ | ⟨q, ps, _, hp, _⟩
  · simp
  · rw [hp.length_eq]; exact sides_len a b q.1

theorem SidesAre.top {a b : List Rc} {d : List Ed} {pre rest : List (Int × List Ed)} {sides : List Ed} {top : Int} (hp : d.Perm (downsL a b)) (hg : grp Ed.pl d = pre ++ rest) (h : SidesAre a b pre sides top) : -1048576 ≤ top ∧ top ≤ 1048576 := by
  rcases h.2 with ⟨_, _, rfl⟩ | ⟨q, ps, hpre, _, rfl⟩
  · omega
  · have hq : q ∈ grp Ed.pl d := by rw [hg, hpre]; simp
    obtain ⟨e, he, h1⟩ := grp_ne (c := q.1) (g := q.2) hq
    have := (good_downs (hp.mem_iff.1 (grp_mem hq he))).2
    rw [h1] at this
    exact this

/-- The strip down to the next place. -/
def nextStrip (mf : Bool → Bool → Bool) (a b : List Rc) (pre : List (Int × List Ed)) (y : Int) : List Rc :=
  match pre.getLast? with
  | none => []
  | some q => stripC mf a b q.1 y

theorem SidesAre.cut {a b : List Rc} {pre : List (Int × List Ed)} {sides : List Ed} {top y : Int} (mf : Bool → Bool → Bool) (hff : mf false false = false) (h : SidesAre a b pre sides top) : (cutRun mf top y (grp Ed.pl sides)).out = nextStrip mf a b pre y := by
  rcases h.2 with ⟨rfl, rfl, _⟩ | ⟨q, ps, rfl, hp, rfl⟩
  · rfl
  · rw [strip_unique mf hff h.1 hp]
    simp [nextStrip]

theorem strips_next (mf : Bool → Bool → Bool) (a b : List Rc) (pre : List (Int × List Ed)) (y : Int) (g : List Ed) : stripsK mf a b ((pre ++ [(y, g)]).map (·.1)) = stripsK mf a b (pre.map (·.1)) ++ (if nextStrip mf a b pre y = [] then [] else [nextStrip mf a b pre y]) := by
  rcases List.eq_nil_or_concat pre with rfl | ⟨ps, q, rfl⟩
  · simp [nextStrip, stripsK]
  · have := stripsK_snoc mf a b q.1 y (ps.map (·.1))
    simpa [nextStrip] using this

theorem strips_prefix (mf : Bool → Bool → Bool) (a b : List Rc) : ∀ (ks rest : List Int), ∃ more, stripsK mf a b (ks ++ rest) = stripsK mf a b ks ++ more
  | [], rest => ⟨_, by simp [stripsK]; rfl⟩
  | [k], rest => ⟨stripsK mf a b (k :: rest), by simp [stripsK]⟩
  | k :: k' :: ks, rest => by
    obtain ⟨more, hm⟩ := strips_prefix mf a b (k' :: ks) rest
    refine ⟨more, ?_⟩
    simp only [List.cons_append, stripsK] at hm ⊢
    rw [hm, List.append_assoc]

/-- What stands behind the strip that is handed over next. -/
theorem strips_split {mf : Bool → Bool → Bool} {a b : List Rc} {d : List Ed} {pre rest : List (Int × List Ed)} {y : Int} {g : List Ed} (hs : SortedP d) (hp : d.Perm (downsL a b)) (hg : grp Ed.pl d = pre ++ (y, g) :: rest) (hne : nextStrip mf a b pre y ≠ []) :
    ∃ more, stripsL mf a b = stripsK mf a b (pre.map (·.1)) ++ nextStrip mf a b pre y :: more := by
  have hk := keys_unique hs hp
  obtain ⟨more, hm⟩ := strips_prefix mf a b ((pre ++ [(y, g)]).map (·.1)) (rest.map (·.1))
  refine ⟨more, ?_⟩
  have e : keysOf a b = (pre ++ [(y, g)]).map (·.1) ++ rest.map (·.1) := by rw [← hk, hg]; simp
  rw [stripsL, e, hm, strips_next, if_neg hne]
  simp

/-- One place more. -/
theorem SidesAre.next {a b : List Rc} {d acr : List Ed} {pre rest : List (Int × List Ed)} {sides : List Ed} {top y : Int} {g : List Ed} (hs : SortedP d) (hp : d.Perm (downsL a b)) (hg : grp Ed.pl d = pre ++ (y, g) :: rest) (h : SidesAre a b pre sides top) (ha : SortedP acr) (hap : acr.Perm (acrossL g)) :
    SidesAre a b (pre ++ [(y, g)]) (mergeE (sides.filter (fun e => !endsAt y e)) acr) y := by
  have hk := grp_keys hs
  rw [hg, List.map_append, List.map_cons, List.pairwise_append, List.pairwise_cons] at hk
  have hin : (y, g) ∈ grp Ed.pl d := by rw [hg]; simp
  have hall : ∀ e ∈ d, (∃ q ∈ pre, q.1 = e.pl) ∨ y ≤ e.pl := by
    intro e he
    obtain ⟨q, hq, h1⟩ := List.mem_map.1 (mem_keys.2 ⟨e, he, rfl⟩)
    rw [hg] at hq
    rcases List.mem_append.1 hq with hq | hq
    · exact .inl ⟨q, hq, h1⟩
    · rcases List.mem_cons.1 hq with rfl | hq
      · exact .inr (by simp at h1; omega)
      · have := hk.2.1.1 q.1 (List.mem_map.2 ⟨q, hq, rfl⟩)
        exact .inr (by omega)
  rcases h.2 with ⟨rfl, rfl, _⟩ | ⟨q, ps, rfl, hsp, _⟩
  · have hmin : ∀ e ∈ d, y ≤ e.pl := fun e he => by
      rcases hall e he with ⟨q, hq, _⟩ | h
      · simp at hq
      · exact h
    have h0 : sidesAt a b (y - 1) = [] := sides_none (fun e he => by have := hmin e (hp.mem_iff.2 he); omega)
    have := sides_step (prev := y - 1) hs hp hin (by omega) (fun e he => .inr (hmin e he)) h.1 (by rw [h0]) ha hap
    exact ⟨this.1, .inr ⟨(y, g), [], by simp, this.2, rfl⟩⟩
  · have hlast : ∀ q' ∈ ps ++ [q], q'.1 ≤ q.1 := by
      intro q' hq'
      rcases List.mem_append.1 hq' with hq' | hq'
      · have h5 := hk.1
        rw [List.map_append, List.pairwise_append] at h5
        have := h5.2.2 q'.1 (List.mem_map.2 ⟨q', hq', rfl⟩) q.1 (by simp)
        omega
      · simp at hq'; rw [hq']; omega
    have hlt : q.1 < y := hk.2.2 q.1 (by simp) y (by simp)
    have := sides_step (prev := q.1) hs hp hin hlt (fun e he => by
      rcases hall e he with ⟨q', hq', h1⟩ | h
      · have := hlast q' hq'; exact .inl (by omega)
      · exact .inr h) h.1 hsp ha hap
    exact ⟨this.1, .inr ⟨(y, g), ps ++ [q], rfl, this.2, rfl⟩⟩

end Go.Proofs.YtajoipmchgabfaaGreat
