/- Several texts in one, each with its own head. -/
import Derived.Test.YtajoipmchgabfaaGreatT25
import Derived.Test.YtajoipmchgabfaaGreatT24
import Derived.Test.YtajoipmchgabfaaGreatT14
import Derived.Test.YtajoipmchgabfaaGreatT6
/- The document's own answers for lists of rectangles: Has, in, alike. -/
namespace Go.Proofs.YtajoipmchgabfaaGreat
open Go.RowKit

theorem pix_take (xs : List Rc) (k : Nat) (h : k < xs.length) (x y : Int) : pix (xs.take (k + 1)) x y = (pix (xs.take k) x y || hasR xs[k] x y) := by
  rw [List.take_succ_eq_append_getElem h, pix_append]; simp [pix]

set_option maxHeartbeats 1000000 in
theorem rregHas_any (v : Value) (xs : List Rc) (x y : Int) (w : World) (hv : Row encR 4 w v xs) : Makes Tryz.prog 49 #[v, .int .i64 x, .int .i64 y] w (.bool (pix xs x y)) := by
  unfold Makes
  have hn := hv.len
  obtain ⟨p, cap, rfl, -, -, hp⟩ := hv
  go_enter Tryz.func49, Tryz.ntmps49
  go_wp2
  go_loopw [7] (fun i wr => ∃ k : Nat, k ≤ xs.length ∧ i = .int .i64 k ∧ Below w.heap.size w wr ∧ Hid (pix (xs.take k) x y = false)) (fun i _ => xs.length - (intOf i).toNat)
  case atStart => exact ⟨0, by omega, rfl, Below.refl _ _, Lib.hid rfl⟩
  case round =>
    obtain ⟨k, hk, rfl, hb, he⟩ := hrel
    by_cases hlt : k < xs.length
    · obtain ⟨b, off, rfl, hB, hc⟩ := (hp.below hb).rc hlt
      obtain ⟨a0, a1, a2, a3⟩ := hc k hlt
      have Hat := Lib.hid (pix_take xs k hlt x y)
      have Hin := Lib.hid (show hasR xs[k] x y = true → pix xs x y = true from fun h => pix_iff.2 ⟨_, List.getElem_mem hlt, h⟩)
      clear hc
      generalize xs[k] = r at *
      go_wp2_with fail
      refine Calls.mono (rhas_any r x y _) ?_
      rintro e w1 ⟨rfl, hb1⟩
      have hb2 := hb.trans (hb1.mono hb.size)
      cases hr : hasR r x y
      · have Hn := Lib.hid (show pix (xs.take (k + 1)) x y = false by rw [Hat.out, he.out, hr]; rfl)
        clear hr
        go_wp2
        go_roundw
        case rel => exact ⟨k + 1, by omega, by go_num, hb2, Hn⟩
        case measure => simp [intOf]; omega
      · have Hn := Lib.hid (Hin.out hr)
        clear hr
        go_wp2
        go_ret
        exact ⟨ret_bool Hn.out.symm, hb2⟩
    · obtain rfl : k = xs.length := by omega
      have Hn := he
      rw [List.take_length] at Hn
      go_wp2
      go_ret
      exact ⟨ret_bool Hn.out.symm, hb⟩

theorem rregHas_eq {t : Bool} (v : Value) (xs : List Rc) (x y : Int) (w : World) (h : pix xs x y = t) (hv : Row encR 4 w v xs) : Makes Tryz.prog 49 #[v, .int .i64 x, .int .i64 y] w (.bool t) := h ▸ rregHas_any v xs x y w hv

/-- Which pixels are meant: 0: of both; 1: of the first one alone; else: that both have. -/
def howF (how : Int) (p q : Bool) : Bool := if how = 0 then p || q else if how = 1 then p && !q else p && q

set_option maxHeartbeats 1000000 in
theorem rrin_any (va vb : Value) (a b : List Rc) (x y how : Int) (w : World) (ha : Row encR 4 w va a) (hb : Row encR 4 w vb b) :
    Makes Tryz.prog 37 #[va, vb, .int .i64 x, .int .i64 y, .int .i64 how] w (.bool (howF how (pix a x y) (pix b x y))) := by
  unfold Makes
  obtain ⟨P, hP⟩ : ∃ P, pix a x y = P := ⟨_, rfl⟩
  obtain ⟨Q, hQ⟩ : ∃ Q, pix b x y = Q := ⟨_, rfl⟩
  rw [hP, hQ]
  have Hb := Lib.hid hb
  go_enter Tryz.func37, Tryz.ntmps37
  go_wp2_with fail
  refine Calls.mono (rregHas_eq va a x y _ hP ha) ?_
  rintro e w1 ⟨rfl, hb1⟩
  go_wp2_with fail
  refine Calls.mono (rregHas_eq vb b x y _ hQ (Hb.out.below hb1)) ?_
  rintro e w2 ⟨rfl, hb2⟩
  have Hbw := Lib.hid (Below.thn hb1 hb2)
  clear hP hQ hb1 hb2
  by_cases h0 : how = 0
  · subst h0
    cases P <;> cases Q
    all_goals
      go_wp2
      go_ret
      exact ⟨rfl, Hbw.out⟩
  · have z0 : ((how : Int) == 0) = false := by simpa using h0
    by_cases h1 : how = 1
    · subst h1
      cases P <;> cases Q
      all_goals
        go_wp2
        go_ret
        exact ⟨rfl, Hbw.out⟩
    · have z1 : ((how : Int) == 1) = false := by simpa using h1
      have Hh := Lib.hid (show ∀ p q, howF how p q = (p && q) from fun p q => by simp [howF, h0, h1])
      clear h0 h1
      cases P <;> cases Q
      all_goals
        go_wp2
        go_ret
        exact ⟨ret_bool (by rw [Hh.out]; rfl), Hbw.out⟩

end Go.Proofs.YtajoipmchgabfaaGreat

/- The document's own alike: have two bands the same across? -/
namespace Go.Proofs.YtajoipmchgabfaaGreat
open Go.RowKit

def alikeB (a b : List Rc) : Bool := decide (a.length = b.length) && sameCols a b

set_option maxRecDepth 100000 in
set_option maxHeartbeats 2000000 in
theorem ralike_any (va vb : Value) (a b : List Rc) (w : World) (ha : Row encR 4 w va a) (hb : Row encR 4 w vb b) :
    Makes Tryz.prog 38 #[va, vb] w (.bool (alikeB a b)) := by
  unfold Makes
  have hla := ha.len
  have hlb := hb.len
  obtain ⟨pa, ca, rfl, hca, hma, hpa⟩ := ha
  obtain ⟨pb, cb, rfl, hcb, hmb, hpb⟩ := hb
  by_cases hll : a.length = b.length
  · have hne : ((a.length : Int) != (b.length : Int)) = false := by simp [hll]
    have Hge := Lib.hid (show alikeB a b = sameCols a b by simp [alikeB, hll])
    have Hll := Lib.hid hll
    have Hpa := Lib.hid hpa
    have Hpb := Lib.hid hpb
    clear hll hpa hpb
    go_enter Tryz.func38, Tryz.ntmps38
    go_wp2
    go_loopw [5] (fun i wr => ∃ k : Nat, k ≤ a.length ∧ i = .int .i64 k ∧ Below w.heap.size w wr ∧ Hid (sameCols a b = sameCols (a.drop k) (b.drop k))) (fun i _ => a.length - (intOf i).toNat)
    case atStart => exact ⟨0, by omega, rfl, Below.refl _ _, Lib.hid rfl⟩
    case round =>
      obtain ⟨k, hk, rfl, hbw, He⟩ := hrel
      by_cases hlt2 : k < a.length
      · have hlt : k < b.length := by rw [← Hll.out]; exact hlt2
        obtain ⟨b1, o1, rfl, -, hc⟩ := (Hpa.out.below hbw).rc hlt2
        obtain ⟨b2, o2, rfl, -, hd⟩ := (Hpb.out.below hbw).rc hlt
        obtain ⟨p0, p1, p2, p3⟩ := hc k hlt2
        obtain ⟨q0, q1, q2, q3⟩ := hd k hlt
        have Hat := Lib.hid (sameCols_at hlt2 hlt)
        have Hbx := Lib.hid hbw
        clear hc hd
        generalize a[k] = ra at *
        generalize b[k] = rb at *
        go_wp2
        by_cases hx : ra.x = rb.x
        · have hx' : ((ra.x : Int) != rb.x) = false := by simp [hx]
          by_cases hww : ra.a = rb.a
          · have hww' : ((ra.a : Int) != rb.a) = false := by simp [hww]
            have Hn := Lib.hid (show sameCols a b = sameCols (a.drop (k + 1)) (b.drop (k + 1)) by rw [He.out, Hat.out]; simp [hx, hww])
            clear hx hww
            go_quiet (fail)
            go_wp2
            go_roundw
            case rel => exact ⟨k + 1, by omega, by go_num, Below.drewN' Hbx.out _, Hn⟩
            case measure => simp [intOf]; omega
          · have hww' : ((ra.a : Int) != rb.a) = true := by simp; omega
            have Hn := Lib.hid (show alikeB a b = false by rw [Hge.out, He.out, Hat.out]; simp [hww])
            clear hx hww
            go_quiet (fail)
            go_wp2
            go_ret
            exact ⟨ret_bool Hn.out.symm, Below.drewN' Hbx.out _⟩
        · have hx' : ((ra.x : Int) != rb.x) = true := by simp; omega
          have Hn := Lib.hid (show alikeB a b = false by rw [Hge.out, He.out, Hat.out]; simp [hx])
          clear hx
          go_quiet (fail)
          go_wp2
          go_ret
          exact ⟨ret_bool Hn.out.symm, Below.drewN' Hbx.out _⟩
      · have Hn := Lib.hid (show alikeB a b = true by
          rw [Hge.out, He.out, List.drop_eq_nil_of_le (by omega), List.drop_eq_nil_of_le (by have := Hll.out; omega)]; simp [sameCols])
        go_wp2
        go_ret
        exact ⟨ret_bool Hn.out.symm, hbw⟩
  · have hne : ((a.length : Int) != (b.length : Int)) = true := by simp; omega
    have Hn := Lib.hid (show alikeB a b = false by simp [alikeB, hll])
    clear hll hpa hpb
    go_enter Tryz.func38, Tryz.ntmps38
    go_wp2
    go_ret
    exact ⟨ret_bool Hn.out.symm, Below.refl _ _⟩

/-- One place more among places that rise: in its place, once. -/
def insI (x : Int) : List Int → List Int
  | [] => [x]
  | y :: l => if y < x then y :: insI x l else if y = x then y :: l else x :: y :: l

theorem insI_mem {x z : Int} : ∀ {l : List Int}, z ∈ insI x l ↔ z = x ∨ z ∈ l
  | [] => by simp [insI]
  | y :: l => by
    unfold insI
    split
    · simp only [List.mem_cons, insI_mem]
      constructor
      · rintro (h | h | h)
        · exact .inr (.inl h)
        · exact .inl h
        · exact .inr (.inr h)
      · rintro (h | h | h)
        · exact .inr (.inl h)
        · exact .inl h
        · exact .inr (.inr h)
    · split
      · rename_i h
        subst h
        simp
      · simp

theorem insI_rises {x : Int} : ∀ {l : List Int}, l.Pairwise (· < ·) → (insI x l).Pairwise (· < ·)
  | [], _ => by simp [insI]
  | y :: l, h => by
    have h1 := List.pairwise_cons.1 h
    unfold insI
    split
    · rename_i hy
      refine List.pairwise_cons.2 ⟨fun z hz => ?_, insI_rises h1.2⟩
      rcases insI_mem.1 hz with rfl | hz
      · exact hy
      · exact h1.1 z hz
    · split
      · exact h
      · rename_i h2 h3
        refine List.pairwise_cons.2 ⟨fun z hz => ?_, h⟩
        rcases List.mem_cons.1 hz with rfl | hz
        · omega
        · have := h1.1 z hz; omega

/-- Where it is put: behind the first k, all of which are less. -/
theorem insI_at {x : Int} : ∀ {l : List Int} {k : Nat}, k ≤ l.length → (∀ j (h : j < l.length), j < k → l[j] < x) → (∀ h : k < l.length, ¬ l[k] < x) →
    insI x l = if (∃ h : k < l.length, l[k] = x) then l else l.take k ++ x :: l.drop k
  | [], k, hk, _, _ => by
    have : k = 0 := by simpa using hk
    subst this
    simp [insI]
  | y :: l, 0, _, _, h2 => by
    have h3 := h2 (by simp)
    simp only [List.getElem_cons_zero] at h3
    unfold insI
    rw [if_neg h3]
    by_cases e : y = x
    · rw [if_pos e, if_pos ⟨by simp, by simpa using e⟩]
    · rw [if_neg e, if_neg (by rintro ⟨_, h⟩; exact e (by simpa using h))]
      simp
  | y :: l, k + 1, hk, h1, h2 => by
    have h3 := h1 0 (by simp) (by omega)
    simp only [List.getElem_cons_zero] at h3
    have ih := insI_at (x := x) (l := l) (k := k) (by simpa using hk) (fun j h hj => by
      have := h1 (j + 1) (by simpa using h) (by omega)
      simpa using this) (fun h => by
      have := h2 (by simpa using h)
      simpa using this)
    unfold insI
    rw [if_pos h3, ih]
    by_cases e : ∃ h : k < l.length, l[k] = x
    · rw [if_pos e, if_pos (by obtain ⟨h, e⟩ := e; exact ⟨by simpa using h, by simpa using e⟩)]
    · rw [if_neg e, if_neg (by rintro ⟨h, e'⟩; exact e ⟨by simpa using h, by simpa using e'⟩)]
      simp

end Go.Proofs.YtajoipmchgabfaaGreat

/- The document's edges: places that rise, each once; what is owned of a row. -/
namespace Go.Proofs.YtajoipmchgabfaaGreat
open Go.RowKit

def intsV (l : List Int) : List Value := l.map (Value.int .i64)

theorem int_info : (Tryz.prog.info? 3).map (fun i => (i.zero, i.size, i.bytes)) = some (some (.int .i64 0), 1, 8) := by kernel_rfl

theorem owns_take1 {W : World} {base : Nat} {e : TypeId} {g n cap k : Nat} {xs : List Value} (h : W.ownsRow base e 1 (.slice (some ⟨g, 0, none⟩) n cap) n xs) (hk : k ≤ n) : W.ownsRow base e 1 (.slice (some ⟨g, 0, none⟩) k cap) k (xs.take k) := by
  rcases h.2 with ⟨h1, _⟩ | ⟨g', cap', cur, he, hb, hg, hn, hm, hs, ht⟩
  · cases h1
  · cases he
    refine ⟨?_, .inr ⟨g, cap, cur, rfl, hb, hg, by omega, hm, hs, ?_⟩⟩
    · have := h.1
      simp [List.length_take] at this ⊢
      omega
    · rw [Nat.mul_one] at ht ⊢
      rw [← ht, List.take_take, Nat.min_eq_left hk]

/-- Where a rectangle begins, and how far it goes, across or down. -/
def nearR (down : Bool) (r : Rc) : Int := if down = true then r.y else r.x
def sizeR (down : Bool) (r : Rc) : Int := if down = true then r.b else r.a
/-- The places behind one rectangle more. -/
def edgeR (down : Bool) (o : List Int) (r : Rc) : List Int := if emptyR r = true then o else insI (nearR down r + sizeR down r) (insI (nearR down r) o)
def edgesI (down : Bool) (xs : List Rc) (o : List Int) : List Int := xs.foldl (edgeR down) o

theorem edgesI_take (down : Bool) (xs : List Rc) (o : List Int) (k : Nat) (h : k < xs.length) : edgesI down (xs.take (k + 1)) o = edgeR down (edgesI down (xs.take k) o) xs[k] := by
  rw [List.take_succ_eq_append_getElem h, edgesI, List.foldl_append]; rfl

theorem edgeR_rises {down : Bool} {o : List Int} {r : Rc} (h : o.Pairwise (· < ·)) : (edgeR down o r).Pairwise (· < ·) := by
  unfold edgeR
  split
  · exact h
  · exact insI_rises (insI_rises h)

theorem edgesI_rises {down : Bool} : ∀ {xs : List Rc} {o : List Int}, o.Pairwise (· < ·) → (edgesI down xs o).Pairwise (· < ·)
  | [], _, h => h
  | r :: xs, o, h => by
    rw [show edgesI down (r :: xs) o = edgesI down xs (edgeR down o r) from rfl]
    exact edgesI_rises (edgeR_rises h)

theorem insI_len (x : Int) : ∀ l : List Int, (insI x l).length ≤ l.length + 1
  | [] => by simp [insI]
  | y :: l => by
    have := insI_len x l
    unfold insI
    split
    · simp; omega
    · split <;> simp

theorem edgeR_len (down : Bool) (o : List Int) (r : Rc) : (edgeR down o r).length ≤ o.length + 2 := by
  unfold edgeR
  split
  · omega
  · have h1 := insI_len (nearR down r + sizeR down r) (insI (nearR down r) o)
    have h2 := insI_len (nearR down r) o
    omega

theorem edgesI_len (down : Bool) : ∀ (xs : List Rc) (o : List Int), (edgesI down xs o).length ≤ o.length + 2 * xs.length
  | [], _ => by simp [edgesI]
  | r :: xs, o => by
    have h1 := edgesI_len down xs (edgeR down o r)
    have h2 := edgeR_len down o r
    rw [show edgesI down (r :: xs) o = edgesI down xs (edgeR down o r) from rfl, List.length_cons]
    omega

/-- Which places there are. -/
theorem edgesI_mem {down : Bool} {z : Int} : ∀ {xs : List Rc} {o : List Int}, z ∈ edgesI down xs o ↔ z ∈ o ∨ ∃ r ∈ xs, emptyR r = false ∧ (z = nearR down r ∨ z = nearR down r + sizeR down r)
  | [], o => by simp [edgesI]
  | r :: xs, o => by
    rw [show edgesI down (r :: xs) o = edgesI down xs (edgeR down o r) from rfl, edgesI_mem]
    have e : z ∈ edgeR down o r ↔ z ∈ o ∨ (emptyR r = false ∧ (z = nearR down r ∨ z = nearR down r + sizeR down r)) := by
      unfold edgeR
      cases he : emptyR r
      · simp only [Bool.false_eq_true, if_false, insI_mem]
        constructor
        · rintro (h | h | h)
          · exact .inr ⟨trivial, .inr h⟩
          · exact .inr ⟨trivial, .inl h⟩
          · exact .inl h
        · rintro (h | ⟨_, h | h⟩)
          · exact .inr (.inr h)
          · exact .inr (.inl h)
          · exact .inl h
      · simp
    rw [e]
    simp only [List.mem_cons, exists_eq_or_imp]
    constructor
    · rintro ((h | h) | h)
      · exact .inl h
      · exact .inr (.inl h)
      · exact .inr (.inr h)
    · rintro (h | h | h)
      · exact .inl (.inl h)
      · exact .inl (.inr h)
      · exact .inr h

end Go.Proofs.YtajoipmchgabfaaGreat

/- Plain facts: the least rectangle of all hangs on the pixels alone. -/
namespace Go.Proofs.YtajoipmchgabfaaGreat
open Go.RowKit

/-- q is the least rectangle of these pixels. -/
def Least (q : Rc) (P : Int → Int → Prop) : Prop :=
  (q = zeroRc ∧ ∀ x y, ¬ P x y) ∨
  (emptyR q = false ∧ (∀ x y, P x y → hasR q x y = true) ∧ (∃ y, P q.x y) ∧ (∃ y, P (q.x + q.a - 1) y) ∧ (∃ x, P x q.y) ∧ ∃ x, P x (q.y + q.b - 1))

theorem least_unique {q q' : Rc} {P : Int → Int → Prop} (h : Least q P) (h' : Least q' P) : q = q' := by
  rcases h with ⟨rfl, h0⟩ | ⟨he, hin, ⟨y1, w1⟩, ⟨y2, w2⟩, ⟨x3, w3⟩, ⟨x4, w4⟩⟩
  · rcases h' with ⟨rfl, _⟩ | ⟨_, _, ⟨y1, w1⟩, _⟩
    · rfl
    · exact absurd w1 (h0 _ _)
  · rcases h' with ⟨rfl, h0⟩ | ⟨he', hin', ⟨y1', w1'⟩, ⟨y2', w2'⟩, ⟨x3', w3'⟩, ⟨x4', w4'⟩⟩
    · exact absurd w1 (h0 _ _)
    · have a1 := has_iff.1 (hin' _ _ w1)
      have a2 := has_iff.1 (hin' _ _ w2)
      have a3 := has_iff.1 (hin' _ _ w3)
      have a4 := has_iff.1 (hin' _ _ w4)
      have b1 := has_iff.1 (hin _ _ w1')
      have b2 := has_iff.1 (hin _ _ w2')
      have b3 := has_iff.1 (hin _ _ w3')
      have b4 := has_iff.1 (hin _ _ w4')
      obtain ⟨qx, qy, qa, qb⟩ := q
      obtain ⟨rx, ry, ra, rb⟩ := q'
      simp only at a1 a2 a3 a4 b1 b2 b3 b4
      simp only [Rc.mk.injEq]
      omega

theorem least_step {q r : Rc} {P : Int → Int → Prop} (h : Least q P) : Least (orR q r) (fun x y => P x y ∨ hasR r x y = true) := by
  have hz : emptyR zeroRc = true := by decide
  cases hr : emptyR r
  · have hb := emptyR_false.1 hr
    have c1 : ∀ x y, (r.x ≤ x ∧ x < r.x + r.a) → (r.y ≤ y ∧ y < r.y + r.b) → hasR r x y = true := fun x y h1 h2 => has_iff.2 ⟨hr, h1, h2⟩
    rcases h with ⟨rfl, h0⟩ | ⟨he, hin, ⟨y1, w1⟩, ⟨y2, w2⟩, ⟨x3, w3⟩, ⟨x4, w4⟩⟩
    · rcases or_spec zeroRc r with ⟨_, a, _⟩ | ⟨_, _, e⟩ | ⟨a, _⟩ | ⟨a, _⟩
      · rw [hr] at a; cases a
      · rw [e]
        refine .inr ⟨hr, fun x y h => ?_, ⟨r.y, .inr (c1 _ _ (by omega) (by omega))⟩, ⟨r.y, .inr (c1 _ _ (by omega) (by omega))⟩, ⟨r.x, .inr (c1 _ _ (by omega) (by omega))⟩, ⟨r.x, .inr (c1 _ _ (by omega) (by omega))⟩⟩
        rcases h with h | h
        · exact absurd h (h0 _ _)
        · exact h
      · rw [hz] at a; cases a
      · rw [hz] at a; cases a
    · rcases or_spec q r with ⟨a, _⟩ | ⟨a, _⟩ | ⟨_, a, _⟩ | ⟨_, _, e, d⟩
      · rw [he] at a; cases a
      · rw [he] at a; cases a
      · rw [hr] at a; cases a
      · have hq := emptyR_false.1 he
        have g1 : hasR (orR q r) = hasR (allR q r) := by rw [e]
        refine .inr ⟨by rw [e]; exact d, fun x y h => ?_, ?_, ?_, ?_, ?_⟩
        · rcases h with h | h
          · exact has_or_left (hin _ _ h)
          · exact has_or_right h
        · rw [e]
          rcases Int.le_total q.x r.x with hh | hh
          · exact ⟨y1, .inl (by rw [show (allR q r).x = q.x by simp only [allR]; omega]; exact w1)⟩
          · exact ⟨r.y, .inr (c1 _ _ (by rw [show (allR q r).x = r.x by simp only [allR]; omega]; omega) (by omega))⟩
        · rw [e]
          rcases Int.le_total (r.x + r.a) (q.x + q.a) with hh | hh
          · exact ⟨y2, .inl (by rw [show (allR q r).x + (allR q r).a - 1 = q.x + q.a - 1 by simp only [allR]; omega]; exact w2)⟩
          · exact ⟨r.y, .inr (c1 _ _ (by rw [show (allR q r).x + (allR q r).a - 1 = r.x + r.a - 1 by simp only [allR]; omega]; omega) (by omega))⟩
        · rw [e]
          rcases Int.le_total q.y r.y with hh | hh
          · exact ⟨x3, .inl (by rw [show (allR q r).y = q.y by simp only [allR]; omega]; exact w3)⟩
          · exact ⟨r.x, .inr (c1 _ _ (by omega) (by rw [show (allR q r).y = r.y by simp only [allR]; omega]; omega))⟩
        · rw [e]
          rcases Int.le_total (r.y + r.b) (q.y + q.b) with hh | hh
          · exact ⟨x4, .inl (by rw [show (allR q r).y + (allR q r).b - 1 = q.y + q.b - 1 by simp only [allR]; omega]; exact w4)⟩
          · exact ⟨r.x, .inr (c1 _ _ (by omega) (by rw [show (allR q r).y + (allR q r).b - 1 = r.y + r.b - 1 by simp only [allR]; omega]; omega))⟩
  · have hno : ∀ x y, ¬ hasR r x y = true := fun x y h => by
      have := (has_iff.1 h).1
      rw [hr] at this; cases this
    rcases h with ⟨rfl, h0⟩ | ⟨he, hin, w1, w2, w3, w4⟩
    · rcases or_spec zeroRc r with ⟨_, _, e⟩ | ⟨_, a, _⟩ | ⟨a, _⟩ | ⟨a, _⟩
      · rw [e]
        exact .inl ⟨rfl, fun x y h => h.elim (h0 _ _) (hno _ _)⟩
      · rw [hr] at a; cases a
      · rw [hz] at a; cases a
      · rw [hz] at a; cases a
    · rcases or_spec q r with ⟨a, _⟩ | ⟨a, _⟩ | ⟨_, _, e⟩ | ⟨_, a, _⟩
      · rw [he] at a; cases a
      · rw [he] at a; cases a
      · rw [e]
        exact .inr ⟨he, fun x y h => h.elim (hin _ _) (fun h => absurd h (hno _ _)), w1.imp fun _ h => .inl h, w2.imp fun _ h => .inl h, w3.imp fun _ h => .inl h, w4.imp fun _ h => .inl h⟩
      · rw [hr] at a; cases a

theorem least_bounds (l : List Rc) : Least (boundsL l) (fun x y => pix l x y = true) := by
  have key : ∀ (l : List Rc) (q : Rc) (P : Int → Int → Prop), Least q P → Least (l.foldl orR q) (fun x y => P x y ∨ pix l x y = true) := by
    intro l
    induction l with
    | nil =>
      intro q P h
      have e : (fun x y => P x y ∨ pix [] x y = true) = P := by
        funext x y
        simp [pix]
      rw [e]; exact h
    | cons r l ih =>
      intro q P h
      have h2 := ih _ _ (least_step (r := r) h)
      have e : (fun x y => (P x y ∨ hasR r x y = true) ∨ pix l x y = true) = (fun x y => P x y ∨ pix (r :: l) x y = true) := by
        funext x y
        simp [pix, or_assoc]
      rw [e] at h2
      exact h2
  have h := key l zeroRc (fun _ _ => False) (.inl ⟨rfl, fun _ _ h => h⟩)
  have e : (fun x y => False ∨ pix l x y = true) = (fun x y => pix l x y = true) := by
    funext x y
    simp
  rw [e] at h
  exact h

/-- The bounds of the form are the list's. -/
theorem bounds_form (l : List Rc) : boundsL (formL (fun p _ => p) l []) = boundsL l := by
  have h := least_bounds (formL (fun p _ => p) l [])
  have e : (fun x y => pix (formL (fun p _ => p) l []) x y = true) = (fun x y => pix l x y = true) := by
    funext x y
    rw [pix_ofform]
  rw [e] at h
  exact least_unique h (least_bounds l)

end Go.Proofs.YtajoipmchgabfaaGreat
