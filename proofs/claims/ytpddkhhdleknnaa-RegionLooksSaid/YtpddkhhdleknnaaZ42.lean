/- Several texts in one, each with its own head. -/
import Derived.Test.YtpddkhhdleknnaaZ27
import Derived.Test.YtpddkhhdleknnaaZ1
import Derived.Test.YtpddkhhdleknnaaZ18
/- slices.ContainsFunc over rectangles; region's Has. -/
namespace Go.Proofs.Ytpddkhhdleknnaa
open Go.RowKit

set_option maxHeartbeats 1000000 in
theorem indexR0_any (g : Nat) (p : Rc → Bool) (v : Value) (xs : List Rc) (w : World) (hv : Row encR 4 w v xs) (hF : Enters Try.prog g) (h : ∀ r ∈ xs, ∀ w1, Below w.heap.size w w1 → Makes Try.prog g #[RV r] w1 (.bool (p r))) :
    Calls Try.prog 103 #[v, .func (.func g) #[] #[]] w fun e w' => (∃ i : Int, e = .returned (.int .i64 i) ∧ decide (0 ≤ i) = xs.any p) ∧ Below w.heap.size w w' := by
  have hn := hv.len
  obtain ⟨pp, cap, rfl, -, -, hp⟩ := hv
  unfold Enters at hF
  have H := Lib.hid h
  clear h
  go_enter Try.func103, Try.ntmps103
  go_wp2
  go_loopw [8] (fun i wr => ∃ k : Nat, k ≤ xs.length ∧ i = .int .i64 k ∧ Below w.heap.size w wr ∧ Hid (xs.any p = (xs.drop k).any p)) (fun i _ => xs.length - (intOf i).toNat)
  case atStart => exact ⟨0, by omega, rfl, Below.refl _ _, Lib.hid rfl⟩
  case round =>
    obtain ⟨k, hk, rfl, hb, he⟩ := hrel
    by_cases hlt : k < xs.length
    · obtain ⟨b, off, rfl, hB, hc⟩ := (hp.below hb).rc hlt
      obtain ⟨a0, a1, a2, a3⟩ := hc k hlt
      have Hat := Lib.hid (show (xs.drop k).any p = (p xs[k] || (xs.drop (k + 1)).any p) by rw [List.drop_eq_getElem_cons hlt]; rfl)
      have Hcall := Lib.hid (H.out xs[k] (List.getElem_mem hlt))
      clear hc
      generalize xs[k] = r at *
      go_wp2_with fail
      refine Calls.mono (Hcall.out _ hb) ?_
      rintro e w1 ⟨rfl, hb1⟩
      have hb2 := hb.trans (hb1.mono hb.size)
      cases hr : p r
      · have Hr := Lib.hid hr
        clear hr
        go_wp2
        go_roundw
        case rel => exact ⟨k + 1, by omega, by go_num, hb2, Lib.hid (by rw [he.out, Hat.out, Hr.out]; rfl)⟩
        case measure => simp [intOf]; omega
      · have Hr := Lib.hid hr
        clear hr
        go_wp2
        go_ret
        exact ⟨⟨_, rfl, by rw [he.out, Hat.out, Hr.out]; simp⟩, hb2⟩
    · go_wp2
      go_ret
      refine ⟨⟨_, rfl, ?_⟩, hb⟩
      rw [he.out, List.drop_eq_nil_of_le (by omega)]; rfl

set_option maxHeartbeats 400000 in
theorem containsR0_any (g : Nat) (p : Rc → Bool) (v : Value) (xs : List Rc) (w : World) (hv : Row encR 4 w v xs) (hF : Enters Try.prog g) (h : ∀ r ∈ xs, ∀ w1, Below w.heap.size w w1 → Makes Try.prog g #[RV r] w1 (.bool (p r))) :
    Makes Try.prog 63 #[v, .func (.func g) #[] #[]] w (.bool (xs.any p)) := by
  unfold Makes
  have hv' := hv
  obtain ⟨pp, cap, rfl, -, -, -⟩ := hv'
  have Hv := Lib.hid hv
  clear hv
  go_enter Try.func63, Try.ntmps63
  go_wp2_with fail
  refine Calls.mono (indexR0_any g p _ xs w Hv.out hF h) ?_
  rintro e w1 ⟨⟨i, rfl, hi⟩, hb⟩
  have Hi := Lib.hid hi
  clear hi
  go_wp2
  go_ret
  exact ⟨ret_bool (by rw [← Hi.out]), hb⟩

set_option maxHeartbeats 1000000 in
theorem indexR2_any (g : Nat) (q1 q2 : Value) (p : Rc → Bool) (v : Value) (xs : List Rc) (w : World) (hv : Row encR 4 w v xs) (hF : Enters Try.prog g) (h : ∀ r ∈ xs, ∀ w1, Below w.heap.size w w1 → Makes Try.prog g #[RV r, q1, q2] w1 (.bool (p r))) :
    Calls Try.prog 103 #[v, .func (.func g) #[] #[q1, q2]] w fun e w' => (∃ i : Int, e = .returned (.int .i64 i) ∧ decide (0 ≤ i) = xs.any p) ∧ Below w.heap.size w w' := by
  have hn := hv.len
  obtain ⟨pp, cap, rfl, -, -, hp⟩ := hv
  unfold Enters at hF
  have H := Lib.hid h
  clear h
  go_enter Try.func103, Try.ntmps103
  go_wp2
  go_loopw [8] (fun i wr => ∃ k : Nat, k ≤ xs.length ∧ i = .int .i64 k ∧ Below w.heap.size w wr ∧ Hid (xs.any p = (xs.drop k).any p)) (fun i _ => xs.length - (intOf i).toNat)
  case atStart => exact ⟨0, by omega, rfl, Below.refl _ _, Lib.hid rfl⟩
  case round =>
    obtain ⟨k, hk, rfl, hb, he⟩ := hrel
    by_cases hlt : k < xs.length
    · obtain ⟨b, off, rfl, hB, hc⟩ := (hp.below hb).rc hlt
      obtain ⟨a0, a1, a2, a3⟩ := hc k hlt
      have Hat := Lib.hid (show (xs.drop k).any p = (p xs[k] || (xs.drop (k + 1)).any p) by rw [List.drop_eq_getElem_cons hlt]; rfl)
      have Hcall := Lib.hid (H.out xs[k] (List.getElem_mem hlt))
      clear hc
      generalize xs[k] = r at *
      go_wp2_with fail
      refine Calls.mono (Hcall.out _ hb) ?_
      rintro e w1 ⟨rfl, hb1⟩
      have hb2 := hb.trans (hb1.mono hb.size)
      cases hr : p r
      · have Hr := Lib.hid hr
        clear hr
        go_wp2
        go_roundw
        case rel => exact ⟨k + 1, by omega, by go_num, hb2, Lib.hid (by rw [he.out, Hat.out, Hr.out]; rfl)⟩
        case measure => simp [intOf]; omega
      · have Hr := Lib.hid hr
        clear hr
        go_wp2
        go_ret
        exact ⟨⟨_, rfl, by rw [he.out, Hat.out, Hr.out]; simp⟩, hb2⟩
    · go_wp2
      go_ret
      refine ⟨⟨_, rfl, ?_⟩, hb⟩
      rw [he.out, List.drop_eq_nil_of_le (by omega)]; rfl

set_option maxHeartbeats 400000 in
theorem containsR2_any (g : Nat) (q1 q2 : Value) (p : Rc → Bool) (v : Value) (xs : List Rc) (w : World) (hv : Row encR 4 w v xs) (hF : Enters Try.prog g) (h : ∀ r ∈ xs, ∀ w1, Below w.heap.size w w1 → Makes Try.prog g #[RV r, q1, q2] w1 (.bool (p r))) :
    Makes Try.prog 63 #[v, .func (.func g) #[] #[q1, q2]] w (.bool (xs.any p)) := by
  unfold Makes
  have hv' := hv
  obtain ⟨pp, cap, rfl, -, -, -⟩ := hv'
  have Hv := Lib.hid hv
  clear hv
  go_enter Try.func63, Try.ntmps63
  go_wp2_with fail
  refine Calls.mono (indexR2_any g q1 q2 p _ xs w Hv.out hF h) ?_
  rintro e w1 ⟨⟨i, rfl, hi⟩, hb⟩
  have Hi := Lib.hid hi
  clear hi
  go_wp2
  go_ret
  exact ⟨ret_bool (by rw [← Hi.out]), hb⟩

set_option maxHeartbeats 400000 in
theorem regHas1_any (r : Rc) (x y : Int) (C D : Nat) (w : World) (hf : Fit r) (hx : w.cell? ⟨C, 0, none⟩ = some (.int .i64 x)) (hy : w.cell? ⟨D, 0, none⟩ = some (.int .i64 y)) :
    Makes Try.prog 69 #[RV r, .pointer (some ⟨C, 0, none⟩), .pointer (some ⟨D, 0, none⟩)] w (.bool (hasR r x y)) := by
  unfold Makes
  have hx' := cell_later (Below.al1 w (.cells #[.int .i64 r.x, .int .i64 r.y, .int .i64 r.a, .int .i64 r.b] 30)) hx
  have hy' := cell_later (Below.al1 w (.cells #[.int .i64 r.x, .int .i64 r.y, .int .i64 r.a, .int .i64 r.b] 30)) hy
  go_enter Try.func69, Try.ntmps69
  go_wp2_with fail
  refine Calls.mono (has_any _ _ _ _ hf) ?_
  rintro e w1 ⟨rfl, hb1⟩
  go_wp2
  go_ret
  exact ⟨rfl, Below.thn (Below.al1 _ _) hb1⟩

set_option maxHeartbeats 400000 in
theorem regHas_any (v : Value) (xs : List Rc) (x y : Int) (w : World) (hv : Row encR 4 w v xs) (hf : ∀ r ∈ xs, Fit r) :
    Makes Try.prog 17 #[v, .int .i64 x, .int .i64 y] w (.bool (pix xs x y)) := by
  unfold Makes
  have hmf : ∀ (fn : Fn) (first cap : Array Value) (w : World), (Instr.makeFunc fn first cap).run Try.prog w = .ok (.func fn first cap) w := fun _ _ _ _ => rfl
  have hv' := hv
  obtain ⟨pp, cap, rfl, -, -, -⟩ := hv'
  have Hv := Lib.hid hv
  clear hv
  go_enter Try.func17, Try.ntmps17
  go_wp2_with fail
  refine Calls.mono (containsR2_any _ _ _ (fun r => hasR r x y) _ xs _ (Hv.out.below (Below.al2 _ _ _)) (enters_of Try.func69 (by kernel_rfl) rfl) ?_) ?_
  · intro r hr w1 hb1
    exact regHas1_any r x y _ _ w1 (hf r hr) (cell_later (Below.thn (Below.al1 _ _) hb1) (cell_at rfl rfl)) (cell_later hb1 (cell_at (by simp) rfl))
  rintro e w1 ⟨rfl, hb1⟩
  go_wp2
  go_ret
  exact ⟨rfl, Below.thn (Below.al2 _ _ _) hb1⟩

end Go.Proofs.Ytpddkhhdleknnaa

/- region's isBand and follows; the statements' own same. -/
namespace Go.Proofs.Ytpddkhhdleknnaa
open Go.RowKit

theorem isBandB_iff {xs : List Rc} : isBandB xs = true ↔ ∀ j (h : j + 1 < xs.length), xs[j + 1].b = xs[0].b ∧ xs[j].x + xs[j].a < xs[j + 1].x := by
  cases xs with
  | nil => simp [isBandB]
  | cons r l =>
    simp only [isBandB, Bool.and_eq_true, List.all_eq_true, decide_eq_true_eq, beq_iff_eq]
    constructor
    · rintro ⟨h1, h2⟩ j hj
      refine ⟨by simpa using h1 _ (List.getElem_mem hj), ?_⟩
      have hj' : j < l.length := by simpa using hj
      have hz : j < ((r :: l).zip l).length := by simp; omega
      have := h2 _ (List.getElem_mem hz)
      rw [List.getElem_zip] at this
      simpa using this
    · intro h
      refine ⟨fun s hs => ?_, fun p hp => ?_⟩
      · obtain ⟨i, hi, rfl⟩ := List.getElem_of_mem hs
        cases i with
        | zero => rfl
        | succ i => simpa using (h i hi).1
      · obtain ⟨i, hi, rfl⟩ := List.getElem_of_mem hp
        rw [List.getElem_zip]
        have hi' : i < l.length := by simp at hi; omega
        exact (h i (by simpa using hi')).2

set_option maxRecDepth 100000 in
set_option maxHeartbeats 2000000 in
theorem isBand_any (v : Value) (xs : List Rc) (w : World) (hv : Row encR 4 w v xs) (hbd : ∀ r ∈ xs, (-4294967296 ≤ r.x ∧ r.x ≤ 4294967296) ∧ (-4294967296 ≤ r.a ∧ r.a ≤ 4294967296)) :
    Makes Try.prog 67 #[v] w (.bool (isBandB xs)) := by
  unfold Makes
  have hn := hv.len
  obtain ⟨p, cap, rfl, -, -, hp⟩ := hv
  have Hbd := Lib.hid hbd
  clear hbd
  go_enter Try.func67, Try.ntmps67
  go_wp2
  go_loopw [3] (fun i wr => ∃ (i' : Int) (j : Nat), i = .int .i64 i' ∧ i' = (j : Int) + 1 ∧ j ≤ xs.length ∧ Below w.heap.size w wr ∧ Hid (∀ q (h : q + 1 < xs.length), q < j → xs[q + 1].b = xs[0].b ∧ xs[q].x + xs[q].a < xs[q + 1].x)) (fun i _ => xs.length + 1 - (intOf i).toNat)
  case atStart => exact ⟨1, 0, rfl, rfl, by omega, Below.refl _ _, Lib.hid (fun q h h' => by omega)⟩
  case round =>
    obtain ⟨i', j, rfl, hij, hjl, hb, He⟩ := hrel
    by_cases hlt : j + 1 < xs.length
    · have hd1 : decide (i' < (xs.length : Int)) = true := by simp; omega
      obtain ⟨b, off, rfl, hB, hc⟩ := (hp.below hb).rc hlt
      obtain ⟨a0, a1, a2, a3⟩ := hc (j + 1) hlt
      obtain ⟨b0, b1, b2, b3⟩ := hc j (by omega)
      have hc0 := hc 0 (by omega)
      simp only [Nat.zero_mul, Nat.add_zero] at hc0
      obtain ⟨c0, c1, c2, c3⟩ := hc0
      have e1 := Hbd.out xs[j] (List.getElem_mem (by omega))
      have Hok := Lib.hid (show ∀ (h : j + 1 < xs.length), (xs[j + 1].b = xs[0].b ∧ xs[j].x + xs[j].a < xs[j + 1].x) ↔ (xs[j + 1].b = xs[0].b ∧ xs[j].x + xs[j].a < xs[j + 1].x) from fun _ => Iff.rfl)
      have Hno := Lib.hid (show ¬ (xs[j + 1].b = xs[0].b ∧ xs[j].x + xs[j].a < xs[j + 1].x) → isBandB xs = false from fun h => by
        cases hh : isBandB xs
        · rfl
        · exact absurd (isBandB_iff.1 hh j hlt) h)
      have Hyes := Lib.hid (show (xs[j + 1].b = xs[0].b ∧ xs[j].x + xs[j].a < xs[j + 1].x) → ∀ q (h : q + 1 < xs.length), q < j + 1 → xs[q + 1].b = xs[0].b ∧ xs[q].x + xs[q].a < xs[q + 1].x from fun h q hq hq2 => by
        by_cases hqj : q = j
        · subst hqj; exact h
        · exact He.out q hq (by omega))
      clear hc Hok
      generalize xs[j + 1] = rk at *
      generalize xs[j] = rj at *
      generalize xs[0] = r0 at *
      have hi0 : (0 : Int) ≤ i' := by omega
      have hi1 : i'.toNat = j + 1 := by omega
      have hw1 : IntKind.i64.wrap (i' - 1) = i' - 1 := IntWalk.i64_in _ (by omega)
      have hj0 : (0 : Int) ≤ i' - 1 := by omega
      have hj1 : (i' - 1).toNat = j := by omega
      have hj2 : j < xs.length := by omega
      have h0l : 0 < xs.length := by omega
      have hw2 : IntKind.i64.wrap (rj.x + rj.a) = rj.x + rj.a := IntWalk.i64_in _ (by omega)
      by_cases hh : rk.b = r0.b
      · have hh' : ((rk.b : Int) != r0.b) = false := by simp [hh]
        by_cases hx : rj.x + rj.a < rk.x
        · have hx' : decide (rk.x ≤ rj.x + rj.a) = false := by simp; omega
          have HY := Lib.hid (Hyes.out ⟨hh, hx⟩)
          clear hh hx Hno Hyes e1
          go_wp2
          go_quiet (fail)
          go_wp2
          go_roundw
          case rel => exact ⟨i' + 1, j + 1, by go_num, by omega, by omega, Below.drewN' hb _, HY⟩
          case measure => simp [intOf]; omega
        · have hx' : decide (rk.x ≤ rj.x + rj.a) = true := by simp; omega
          have HN := Lib.hid (Hno.out (fun h => hx h.2))
          clear hh hx Hno Hyes e1
          go_wp2
          go_quiet (fail)
          go_wp2
          go_ret
          exact ⟨ret_bool HN.out.symm, Below.drewN' hb _⟩
      · have hh' : ((rk.b : Int) != r0.b) = true := by simp [hh]
        have HN := Lib.hid (Hno.out (fun h => hh h.1))
        clear hh Hno Hyes e1
        go_wp2
        go_quiet (fail)
        go_wp2
        go_ret
        exact ⟨ret_bool HN.out.symm, Below.drewN' hb _⟩
    · have hd1 : decide (i' < (xs.length : Int)) = false := by simp; omega
      have HT := Lib.hid (show isBandB xs = true from isBandB_iff.2 (fun q hq => He.out q hq (by omega)))
      go_wp2
      go_ret
      exact ⟨ret_bool HT.out.symm, hb⟩

theorem followsB_cons {a b : List Rc} (ha : 0 < a.length) (hb : 0 < b.length) : followsB a b = (decide (a[0].y + a[0].b ≤ b[0].y) && !goesOnB a b) := by
  cases a with
  | nil => simp at ha
  | cons r l =>
    cases b with
    | nil => simp at hb
    | cons s m => rfl

set_option maxRecDepth 100000 in
set_option maxHeartbeats 2000000 in
theorem follows_any (va vb : Value) (a b : List Rc) (w : World) (ha : Row encR 4 w va a) (hb : Row encR 4 w vb b) (hlb0 : 0 < b.length) (hbd : ∀ r ∈ a, (-4294967296 ≤ r.y ∧ r.y ≤ 4294967296) ∧ (-4294967296 ≤ r.b ∧ r.b ≤ 4294967296)) :
    Makes Try.prog 68 #[va, vb] w (.bool (followsB a b)) := by
  unfold Makes
  have hla := ha.len
  have hlb := hb.len
  have Ha := Lib.hid ha
  have Hb := Lib.hid hb
  have Hbd := Lib.hid hbd
  obtain ⟨pa, ca, rfl, hca, hma, hpa⟩ := ha
  obtain ⟨pb, cb, rfl, hcb, hmb, hpb⟩ := hb
  by_cases h00 : a.length = 0
  · have h0 : ((a.length : Int) == 0) = true := by simp [h00]
    have Hf := Lib.hid (show followsB a b = true by rw [List.eq_nil_of_length_eq_zero h00]; rfl)
    clear h00 hbd hpa
    go_enter Try.func68, Try.ntmps68
    go_wp2
    go_ret
    exact ⟨ret_bool Hf.out.symm, Below.refl _ _⟩
  · have hz : ((a.length : Int) == 0) = false := by simpa using h00
    have hla0 : 0 < a.length := by omega
    clear h00
    obtain ⟨ba, oa, rfl, hBa, hc⟩ := hpa.rc hla0
    obtain ⟨bb, ob, rfl, hBb, hd⟩ := hpb.rc hlb0
    have hc0 := hc 0 hla0
    have hd0 := hd 0 hlb0
    have hb0 := hbd a[0] (List.getElem_mem hla0)
    have Hge := Lib.hid (followsB_cons hla0 hlb0)
    simp only [Nat.zero_mul, Nat.add_zero] at hc0 hd0
    generalize a[0] = r at *
    generalize b[0] = s at *
    obtain ⟨c0, c1, c2, c3⟩ := hc0
    obtain ⟨d0, d1, d2, d3⟩ := hd0
    have hw : IntKind.i64.wrap (r.y + r.b) = r.y + r.b := IntWalk.i64_in _ (by omega)
    clear hbd hc hd hpa hpb
    by_cases hy : r.y + r.b ≤ s.y
    · have hy' : decide (r.y + r.b ≤ s.y) = true := by simpa using hy
      have Hy := Lib.hid hy'
      clear hy hb0
      go_enter Try.func68, Try.ntmps68
      go_wp2
      go_quiet (fail)
      go_wp2_with fail
      refine Calls.mono (goesOn_any _ _ a b _ (Ha.out.below (Below.drewN' (Below.refl _ _) _)) (Hb.out.below (Below.drewN' (Below.refl _ _) _)) Hbd.out) ?_
      rintro e w1 ⟨rfl, hb1⟩
      go_wp2
      go_ret
      exact ⟨ret_bool (by rw [Hge.out, Hy.out]; rfl), Below.thn (Below.drewN' (Below.refl _ _) _) hb1⟩
    · have hy' : decide (r.y + r.b ≤ s.y) = false := by simpa using hy
      have Hy := Lib.hid hy'
      clear hy hb0
      go_enter Try.func68, Try.ntmps68
      go_wp2
      go_quiet (fail)
      go_wp2
      go_ret
      exact ⟨ret_bool (by rw [Hge.out, Hy.out]; rfl), Below.drewN' (Below.refl _ _) _⟩

end Go.Proofs.Ytpddkhhdleknnaa
