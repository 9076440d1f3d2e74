/- region's merged: two sorted rows of edges, one sorted row. -/
import Derived.Test.YtajoipmchgabfaaGreatT10
import Derived.Deep.AppendLies
import Derived.Deep.RegionLaw
namespace Go.Proofs.YtajoipmchgabfaaGreat
open Go.RowKit

def mergeE : List Ed → List Ed → List Ed
  | [], b => b
  | a, [] => a
  | x :: a, y :: b => if x.pl ≤ y.pl then x :: mergeE a (y :: b) else y :: mergeE (x :: a) b
termination_by a b => a.length + b.length

theorem mergeE_nil (a : List Ed) : mergeE a [] = a := by cases a <;> simp [mergeE]
theorem mergeE_len (a b : List Ed) : (mergeE a b).length = a.length + b.length := by
  fun_induction mergeE a b <;> simp_all <;> omega

theorem owns_drew {W : World} {base : Nat} {e : TypeId} {size : Nat} {v : Value} {n : Nat} {xs : List Value} (h : W.ownsRow base e size v n xs) : W.drew.ownsRow base e size v n xs := h
theorem cells_drew (w : World) (c : Array Value) (t : TypeId) (n j : Nat) (u : Value) (hn : n = w.heap.size) (h : c.toList[j]? = some u) : (w.alloc (.cells c t)).drew.cell? ((⟨n, 0, none⟩ : Addr).add j) = some u := cells_new_at w c t n j u hn h

def lenV : Value → Nat
  | .slice _ n _ => n
  | _ => 0

/-- Where 's[1:]' begins. -/
def tailAt (b off cap : Nat) : Addr := if cap = 1 then ⟨b, off, none⟩ else ⟨b, off + 7, none⟩

theorem run_tail (b off n cap : Nat) (hn : 1 ≤ n) (hc : n ≤ cap) (w : World) : (Instr.sliceAt 103 (.slice (some ⟨b, off, none⟩) n cap) (some (.int .i64 1)) none none).run Tryz.prog w = .ok (.slice (some (tailAt b off cap)) (n - 1) (cap - 1)) w := by
  by_cases h : cap = 1
  · subst h
    obtain rfl : n = 1 := by omega
    simp [go_sem, tailAt]
  · simp [go_sem, tailAt, h]
    intro h3
    omega

theorem RowAt.tail {W : World} {b off cap : Nat} {x : Ed} {xs : List Ed} (h : RowAt encE 7 W (some ⟨b, off, none⟩) (x :: xs)) (hc : xs.length + 1 ≤ cap) : RowAt encE 7 W (some (tailAt b off cap)) xs := by
  unfold tailAt
  by_cases h1 : cap = 1
  · rw [if_pos h1]
    have : xs = [] := List.eq_nil_of_length_eq_zero (by omega)
    subst this
    rcases h with ⟨h, _⟩ | ⟨b', off', h, h3, _⟩
    · cases h
    · cases h; exact .inr ⟨_, _, rfl, h3, fun i x hi => by simp at hi⟩
  · rw [if_neg h1]
    have := h.sub 1 xs.length
    simpa using this

/-- A row as the source of an append. -/
theorem RowAt.src {W : World} {p : Option Addr} {c : Nat} {xs : List Ed} (h : RowAt encE 7 W p xs) (hc : p = none → c = 0) : (p = none ∧ xs.length = 0 ∧ c = 0) ∨ ∃ ad, p = some ad ∧ ∀ j u, (flatE xs)[j]? = some u → W.cell? (ad.add j) = some u := by
  rcases h with ⟨rfl, rfl⟩ | ⟨b, off, rfl, h3, h4⟩
  · exact .inl ⟨rfl, rfl, hc rfl⟩
  · refine .inr ⟨_, rfl, fun j u hu => ?_⟩
    have h1 := flat_at (enc := encE) (k := 7) (fun _ => rfl) xs (j / 7) (j % 7) (by omega)
    rw [show j / 7 * 7 + j % 7 = j by omega] at h1
    unfold flatE at hu
    rw [hu] at h1
    cases hx : xs[j / 7]? with
    | none => rw [hx] at h1; cases h1
    | some x =>
      rw [hx] at h1
      have := h4 (j / 7) x hx (j % 7) u h1.symm
      rw [show off + j / 7 * 7 + j % 7 = off + j by omega] at this
      rw [Addr.add_lit]
      exact this

set_option maxRecDepth 100000 in
set_option maxHeartbeats 2000000 in
theorem merged_any (va vb : Value) (a b : List Ed) (w : World) (ha : Row encE 7 w va a) (hb : Row encE 7 w vb b) (hna : ∀ c, va = .slice none 0 c → c = 0) (hnb : ∀ c, vb = .slice none 0 c → c = 0) (hne : b ≠ []) (hlen : a.length + b.length ≤ 1073741824) :
    Calls Tryz.prog 83 #[va, vb] w fun e w' => ∃ u, e = .returned u ∧ w'.ownsRow w.heap.size 116 7 u (mergeE a b).length (flatE (mergeE a b)) ∧ Below w.heap.size w w' := by
  have hla := ha.len
  have hlb := hb.len
  obtain ⟨pa, ca, rfl, hca, hma, hpa⟩ := ha
  obtain ⟨pb, cb, rfl, hcb, hmb, hpb⟩ := hb
  have hna0 : pa = none → ca = 0 := by
    rintro rfl
    rcases hpa with ⟨_, rfl⟩ | ⟨_, _, h, _⟩
    · exact hna ca rfl
    · cases h
  have hnb0 : pb = none → cb = 0 := by
    rintro rfl
    rcases hpb with ⟨_, rfl⟩ | ⟨_, _, h, _⟩
    · exact hnb cb rfl
    · cases h
  have Hna0 := Lib.hid hna0
  have Hnb0 := Lib.hid hnb0
  clear hna hnb hna0 hnb0
  have hb0 : 0 < b.length := List.length_pos_iff.2 hne
  have hz : ((b.length : Int) == 0) = false := by simp; omega
  have Hlen := Lib.hid hlen
  have hsum : IntKind.i64.wrap ((a.length : Int) + (b.length : Int)) = (a.length : Int) + (b.length : Int) := IntWalk.i64_in _ (by omega)
  clear hne hlen
  obtain ⟨i0, hi, hz0, hz1, hz2⟩ := info_parts ed_info
  go_enter Tryz.func83, Tryz.ntmps83
  go_wp2_with (at_make; refine wpList_make_own _ rfl _ _ 103 rfl w.heap.size 116 i0 _ 7 Tryz.underlying103 hi hz0 hz1 _ _ _ (a.length + b.length) rfl rfl (by simp) ?m1 ?m2 ?m3 ?_)
  case m1 => rw [hz2]; have := Hlen.out; omega
  case m2 => have := Hlen.out; simp only [maxLen]; omega
  case m3 => exact Nat.le_refl _
  intro w1 hown1 hgr1
  have hb1 : Below w.heap.size w w1 := (Below.refl _ w).grown hgr1 (Nat.le_refl _) (fun k e => by cases e)
  have Hown1 := Lib.hid hown1
  clear hown1 hgr1
  go_wp2
  go_loopw [0, 1, 5] (fun sa sb l wr => ∃ (ra rb done : List Ed) (qa qb : Option Addr) (da db : Nat), sa = .slice qa ra.length da ∧ sb = .slice qb rb.length db ∧ ra.length ≤ da ∧ da ≤ maxLen ∧ rb.length ≤ db ∧ db ≤ maxLen ∧ RowAt encE 7 w qa ra ∧ RowAt encE 7 w qb rb ∧ Hid (qa = none → da = 0) ∧ Hid (qb = none → db = 0) ∧ wr.ownsRow w.heap.size 116 7 l done.length (flatE done) ∧ Hid (mergeE a b = done ++ mergeE ra rb) ∧ Below w.heap.size w wr) (fun sa sb _ _ => lenV sa + lenV sb)
  case atStart => exact ⟨a, b, [], pa, pb, ca, cb, rfl, rfl, hca, hma, hcb, hmb, hpa, hpb, Hna0, Hnb0, Hown1.out, Lib.hid rfl, hb1⟩
  case round =>
    obtain ⟨ra, rb, done, qa, qb, da, db, rfl, rfl, h1, h2, h3, h4, hqa, hqb, hqa0, hqb0, hown, Hm, hbw⟩ := hrel
    have Hml := Lib.hid (mergeE_len a b)
    have Hbd : Hid (done.length + (ra.length + rb.length) ≤ 1073741824) := Lib.hid (by
      have h5 := Hml.out
      rw [Hm.out, List.length_append, mergeE_len] at h5
      have := Hlen.out
      omega)
    have hra63 : ra.length ≤ 9223372036854775807 := by simp only [maxLen] at h2; omega
    have hrb63 : rb.length ≤ 9223372036854775807 := by simp only [maxLen] at h4; omega
    have Hown := Lib.hid hown
    clear hown
    cases ra with
    | nil =>
      have Hsa := Lib.hid ((hqa.below hbw).src hqa0.out)
      have Hrb := Lib.hid (hqb.below hbw)
      have Hsz := Lib.hid hbw.size
      have Hqb0 := Lib.hid hqb
      have hz1' : decide ((0 : Int) < 0) = false := by simp
      clear hqa hqb
      go_wp2_with (at_builtin; refine wpList_append_mine _ rfl (.tmp 49) (.tmp 50) 103 rfl w.heap.size 116 i0 _ 7 56 Tryz.underlying103 hi hz0 hz1 hz2 rfl (by decide) _ _ _ rfl Hown.out _ _ _ (flatE ([] : List Ed)) rfl (flatE_len _) Hsa.out (encE_one _) ?e1 ?e2 Hsz.out ?_)
      case e1 => have := Hbd.out; simp only [maxLen]; simp only [List.length_nil] at this ⊢; omega
      case e2 => have := Hbd.out; simp only [List.length_nil] at this ⊢; omega
      intro v6 w6 hown6 hgr6 hpl6
      have hb6 : Below w.heap.size w w6 := hbw.grown hgr6 hbw.size (fun k e => (Hown.out.lt k e).1)
      have Hown6 : Hid (w6.ownsRow w.heap.size 116 7 v6 (done ++ ([] : List Ed)).length (flatE (done ++ ([] : List Ed)))) := Lib.hid (by simpa [flatE] using hown6)
      have Hsb := Lib.hid ((Hqb0.out.below hb6).src hqb0.out)
      have Hsz6 := Lib.hid hb6.size
      clear hown6 hgr6 hpl6
      go_wp2_with (at_builtin; refine wpList_append_mine _ rfl (.tmp 51) (.tmp 52) 103 rfl w.heap.size 116 i0 _ 7 56 Tryz.underlying103 hi hz0 hz1 hz2 rfl (by decide) _ _ _ rfl Hown6.out _ _ _ (flatE rb) rfl (flatE_len _) Hsb.out (encE_one _) ?e3 ?e4 Hsz6.out ?_)
      case e3 => have := Hbd.out; simp only [maxLen, List.length_append]; simp only [List.length_nil] at this ⊢; omega
      case e4 => have := Hbd.out; simp only [List.length_append]; simp only [List.length_nil] at this ⊢; omega
      intro v7 w7 hown7 hgr7 hpl7
      have hb7 : Below w.heap.size w w7 := hb6.grown hgr7 hb6.size (fun k e => (Hown6.out.lt k e).1)
      have Hown7 : Hid (w7.ownsRow w.heap.size 116 7 v7 (mergeE a b).length (flatE (mergeE a b))) := Lib.hid (by rw [Hm.out]; simpa [flatE, mergeE, mergeE_nil] using hown7)
      clear hown7 hgr7 hpl7
      go_wp2
      go_ret
      exact ⟨_, rfl, Hown7.out, hb7⟩
    | cons x ra =>
      cases rb with
      | nil =>
        have Hsa := Lib.hid ((hqa.below hbw).src hqa0.out)
        have Hrb := Lib.hid (hqb.below hbw)
        have Hsz := Lib.hid hbw.size
        have Hqb0 := Lib.hid hqb
        have hn1 : decide (0 < ra.length + 1) = true := by simp
        clear hqa hqb
        go_wp2_with (at_builtin; refine wpList_append_mine _ rfl (.tmp 49) (.tmp 50) 103 rfl w.heap.size 116 i0 _ 7 56 Tryz.underlying103 hi hz0 hz1 hz2 rfl (by decide) _ _ _ rfl Hown.out _ _ _ (flatE (x :: ra)) rfl (flatE_len _) Hsa.out (encE_one _) ?e1 ?e2 Hsz.out ?_)
        case e1 => have := Hbd.out; simp only [maxLen]; simp only [List.length_nil, List.length_cons] at this ⊢; omega
        case e2 => have := Hbd.out; simp only [List.length_nil, List.length_cons] at this ⊢; omega
        intro v6 w6 hown6 hgr6 hpl6
        have hb6 : Below w.heap.size w w6 := hbw.grown hgr6 hbw.size (fun k e => (Hown.out.lt k e).1)
        have Hown6 : Hid (w6.ownsRow w.heap.size 116 7 v6 (done ++ (x :: ra)).length (flatE (done ++ (x :: ra)))) := Lib.hid (by simpa [flatE] using hown6)
        have Hsb := Lib.hid ((Hqb0.out.below hb6).src hqb0.out)
        have Hsz6 := Lib.hid hb6.size
        clear hown6 hgr6 hpl6
        go_wp2_with (at_builtin; refine wpList_append_mine _ rfl (.tmp 51) (.tmp 52) 103 rfl w.heap.size 116 i0 _ 7 56 Tryz.underlying103 hi hz0 hz1 hz2 rfl (by decide) _ _ _ rfl Hown6.out _ _ _ (flatE ([] : List Ed)) rfl (flatE_len _) Hsb.out (encE_one _) ?e3 ?e4 Hsz6.out ?_)
        case e3 => have := Hbd.out; simp only [maxLen, List.length_append]; simp only [List.length_nil, List.length_cons] at this ⊢; omega
        case e4 => have := Hbd.out; simp only [List.length_append]; simp only [List.length_nil, List.length_cons] at this ⊢; omega
        intro v7 w7 hown7 hgr7 hpl7
        have hb7 : Below w.heap.size w w7 := hb6.grown hgr7 hb6.size (fun k e => (Hown6.out.lt k e).1)
        have Hown7 : Hid (w7.ownsRow w.heap.size 116 7 v7 (mergeE a b).length (flatE (mergeE a b))) := Lib.hid (by rw [Hm.out]; simpa [flatE, mergeE, mergeE_nil] using hown7)
        clear hown7 hgr7 hpl7
        go_wp2
        go_ret
        exact ⟨_, rfl, Hown7.out, hb7⟩
      | cons y rb =>
        obtain ⟨ba, oa, rfl, hBa, hc⟩ := (hqa.below hbw).ed (i := 0) (by simp)
        obtain ⟨bb, ob, rfl, hBb, hd⟩ := (hqb.below hbw).ed (i := 0) (by simp)
        have hc0 := hc 0 (by simp)
        have hd0 := hd 0 (by simp)
        simp only [Nat.zero_mul, Nat.add_zero, List.getElem_cons_zero] at hc0 hd0
        obtain ⟨c0, c1, c2, c3, c4, c5, c6⟩ := hc0
        obtain ⟨d0, d1, d2, d3, d4, d5, d6⟩ := hd0
        clear hc hd
        have hta := run_tail ba oa (x :: ra).length da (by simp) h1
        have htb := run_tail bb ob (y :: rb).length db (by simp) h3
        have Hqa := Lib.hid hqa
        have Hqb := Lib.hid hqb
        clear hqa hqb
        simp only [List.length_cons] at hta htb h1 h3 hra63 hrb63 ⊢
        have hn1 : decide (0 < ra.length + 1) = true := by simp
        have hn2 : decide (0 < rb.length + 1) = true := by simp
        by_cases hle : x.pl ≤ y.pl
        · have hle' : decide (x.pl ≤ y.pl) = true := by simpa using hle
          go_wp2
          go_quiet (fail)
          go_wp2
          have Hown2 : Hid ((wr.drewN nq).ownsRow w.heap.size 116 7 u5 done.length (flatE done)) := Lib.hid Hown.out
          have hbw2 : Below w.heap.size w (wr.drewN nq) := Below.drewN' hbw nq
          have k0 : (wr.drewN nq).cell? _ = _ := c0
          have k1 : (wr.drewN nq).cell? _ = _ := c1
          have k2 : (wr.drewN nq).cell? _ = _ := c2
          have k3 : (wr.drewN nq).cell? _ = _ := c3
          have k4 : (wr.drewN nq).cell? _ = _ := c4
          have k5 : (wr.drewN nq).cell? _ = _ := c5
          have k6 : (wr.drewN nq).cell? _ = _ := c6
          clear c0 c1 c2 c3 c4 c5 c6 d0 d1 d2 d3 d4 d5 d6 hbw Hown
          generalize wr.drewN nq = W2 at *
          have Hsz := Lib.hid hbw2.size
          go_region_law (refine step_append_lies _ rfl (.tmp 33) (.tmp 37) 103 rfl w.heap.size 116 i0 _ 7 56 Tryz.underlying103 hi hz0 hz1 hz2 rfl (by decide) u5 done.length (flatE done) rfl (owns_drew (Hown2.out.alloc _)) ⟨W2.heap.size, 0, none⟩ 1 1 (encE x) rfl rfl (fun j u hu => cells_drew W2 _ _ _ j u rfl hu) (by intro u hu; simp [encE] at hu; rcases hu with rfl | rfl | rfl | rfl | rfl | rfl | rfl <;> rfl) (by decide) (by have := Hbd.out; simp only [List.length_cons] at this; simp only [maxLen]; omega) (by have := Hbd.out; simp only [List.length_cons] at this; omega) (by have := Hsz.out; simp; omega) (W2.heap.size + 1) (by simp) ?_; intro g5 cap5 w5 hown5 hgr5 hpl5 hlt5)
          have Hown5 : Hid (w5.ownsRow w.heap.size 116 7 (.slice (some ⟨g5, 0, none⟩) (done.length + 1) cap5) (done ++ [x]).length (flatE (done ++ [x]))) := Lib.hid (by
            simpa [flatE] using hown5)
          have Hbw5 : Hid (Below w.heap.size w w5) := Lib.hid ((Below.al hbw2 _).drew.grown hgr5 (by have := Hsz.out; simp; omega) (fun k e => (Hown2.out.lt k e).1))
          clear hown5 hgr5 hpl5 hlt5 k0 k1 k2 k3 k4 k5 k6
          go_wp2
          go_roundw
          case rel => (repeat apply Exists.intro); exact ⟨⟨ra, y :: rb, done ++ [x], _, _, da - 1, db, rfl, by simp, by omega, by omega, by simpa using h3, h4, Hqa.out.tail (by simpa using h1), Hqb.out, Lib.hid (fun e => by cases e), Lib.hid (fun e => by cases e), Hown5.out, Lib.hid (by rw [Hm.out, mergeE, if_pos hle]; simp), Hbw5.out⟩, rfl⟩
          case measure => show ra.length + (rb.length + 1) < (ra.length + 1) + (rb.length + 1); omega
        · have hle' : decide (x.pl ≤ y.pl) = false := by simpa using hle
          go_wp2
          go_quiet (fail)
          go_wp2
          have Hown2 : Hid ((wr.drewN nq).ownsRow w.heap.size 116 7 u5 done.length (flatE done)) := Lib.hid Hown.out
          have hbw2 : Below w.heap.size w (wr.drewN nq) := Below.drewN' hbw nq
          have k0 : (wr.drewN nq).cell? _ = _ := d0
          have k1 : (wr.drewN nq).cell? _ = _ := d1
          have k2 : (wr.drewN nq).cell? _ = _ := d2
          have k3 : (wr.drewN nq).cell? _ = _ := d3
          have k4 : (wr.drewN nq).cell? _ = _ := d4
          have k5 : (wr.drewN nq).cell? _ = _ := d5
          have k6 : (wr.drewN nq).cell? _ = _ := d6
          clear c0 c1 c2 c3 c4 c5 c6 d0 d1 d2 d3 d4 d5 d6 hbw Hown
          generalize wr.drewN nq = W2 at *
          have Hsz := Lib.hid hbw2.size
          go_region_law (refine step_append_lies _ rfl (.tmp 41) (.tmp 45) 103 rfl w.heap.size 116 i0 _ 7 56 Tryz.underlying103 hi hz0 hz1 hz2 rfl (by decide) u5 done.length (flatE done) rfl (owns_drew (Hown2.out.alloc _)) ⟨W2.heap.size, 0, none⟩ 1 1 (encE y) rfl rfl (fun j u hu => cells_drew W2 _ _ _ j u rfl hu) (by intro u hu; simp [encE] at hu; rcases hu with rfl | rfl | rfl | rfl | rfl | rfl | rfl <;> rfl) (by decide) (by have := Hbd.out; simp only [List.length_cons] at this; simp only [maxLen]; omega) (by have := Hbd.out; simp only [List.length_cons] at this; omega) (by have := Hsz.out; simp; omega) (W2.heap.size + 1) (by simp) ?_; intro g5 cap5 w5 hown5 hgr5 hpl5 hlt5)
          have Hown5 : Hid (w5.ownsRow w.heap.size 116 7 (.slice (some ⟨g5, 0, none⟩) (done.length + 1) cap5) (done ++ [y]).length (flatE (done ++ [y]))) := Lib.hid (by
            simpa [flatE] using hown5)
          have Hbw5 : Hid (Below w.heap.size w w5) := Lib.hid ((Below.al hbw2 _).drew.grown hgr5 (by have := Hsz.out; simp; omega) (fun k e => (Hown2.out.lt k e).1))
          clear hown5 hgr5 hpl5 hlt5 k0 k1 k2 k3 k4 k5 k6
          go_wp2
          go_roundw
          case rel => (repeat apply Exists.intro); exact ⟨⟨x :: ra, rb, done ++ [y], _, _, da, db - 1, by simp, rfl, by simpa using h1, h2, by omega, by omega, Hqa.out, Hqb.out.tail (by simpa using h3), Lib.hid (fun e => by cases e), Lib.hid (fun e => by cases e), Hown5.out, Lib.hid (by rw [Hm.out, mergeE, if_neg (show ¬ x.pl ≤ y.pl by omega)]; simp), Hbw5.out⟩, rfl⟩
          case measure => show (ra.length + 1) + rb.length < (ra.length + 1) + (rb.length + 1); omega

end Go.Proofs.YtajoipmchgabfaaGreat
