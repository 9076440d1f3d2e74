/- slices.ContainsFunc over rectangles; region's Has. -/
import Derived.Test.YtjgbelljijhfcaaMathG
import Derived.Test.YtjgbelljijhfcaaRectB
namespace Go.Proofs.Ytjgbelljijhfcaa
open Go.RowKit

set_option maxHeartbeats 1000000 in
theorem indexR0_any (g : Nat) (p : Rc → Bool) (v : Value) (xs : List Rc) (w : World) (hv : Row encR 4 w v xs) (hF : Enters Try.prog g) (h : ∀ r ∈ xs, ∀ w1, Below w.heap.size w w1 → Makes Try.prog g #[RV r] w1 (.bool (p r))) :
    Calls Try.prog 63 #[v, .func (.func g) #[] #[]] w fun e w' => (∃ i : Int, e = .returned (.int .i64 i) ∧ decide (0 ≤ i) = xs.any p) ∧ Below w.heap.size w w' := by
  have hn := hv.len
  obtain ⟨pp, cap, rfl, -, -, hp⟩ := hv
  unfold Enters at hF
  have H := Lib.hid h
  clear h
  go_enter Try.func63, Try.ntmps63
  go_wp2
  go_loopw [8] (fun i wr => ∃ k : Nat, k ≤ xs.length ∧ i = .int .i64 k ∧ Below w.heap.size w wr ∧ Hid (xs.any p = (xs.drop k).any p)) (fun i _ => xs.length - (intOf i).toNat)
  case atStart => exact ⟨0, by omega, rfl, Below.refl _ _, Lib.hid rfl⟩
  case round =>
    obtain ⟨k, hk, rfl, hb, he⟩ := hrel
    by_cases hlt : k < xs.length
    · obtain ⟨b, off, rfl, hB, hc⟩ := (hp.below hb).rc hlt
      obtain ⟨a0, a1, a2, a3⟩ := hc k hlt
      have Hat := Lib.hid (show (xs.drop k).any p = (p xs[k] || (xs.drop (k + 1)).any p) by rw [List.drop_eq_getElem_cons hlt]; rfl)
      have Hcall := Lib.hid (H.out xs[k] (List.getElem_mem hlt))
      clear hc
      generalize xs[k] = r at *
      go_wp2_with fail
      refine Calls.mono (Hcall.out _ hb) ?_
      rintro e w1 ⟨rfl, hb1⟩
      have hb2 := hb.trans (hb1.mono hb.size)
      cases hr : p r
      · have Hr := Lib.hid hr
        clear hr
        go_wp2
        go_roundw
        case rel => exact ⟨k + 1, by omega, by go_num, hb2, Lib.hid (by rw [he.out, Hat.out, Hr.out]; rfl)⟩
        case measure => simp [intOf]; omega
      · have Hr := Lib.hid hr
        clear hr
        go_wp2
        go_ret
        exact ⟨⟨_, rfl, by rw [he.out, Hat.out, Hr.out]; simp⟩, hb2⟩
    · go_wp2
      go_ret
      refine ⟨⟨_, rfl, ?_⟩, hb⟩
      rw [he.out, List.drop_eq_nil_of_le (by omega)]; rfl

set_option maxHeartbeats 400000 in
theorem containsR0_any (g : Nat) (p : Rc → Bool) (v : Value) (xs : List Rc) (w : World) (hv : Row encR 4 w v xs) (hF : Enters Try.prog g) (h : ∀ r ∈ xs, ∀ w1, Below w.heap.size w w1 → Makes Try.prog g #[RV r] w1 (.bool (p r))) :
    Makes Try.prog 39 #[v, .func (.func g) #[] #[]] w (.bool (xs.any p)) := by
  unfold Makes
  have hv' := hv
  obtain ⟨pp, cap, rfl, -, -, -⟩ := hv'
  have Hv := Lib.hid hv
  clear hv
  go_enter Try.func39, Try.ntmps39
  go_wp2_with fail
  refine Calls.mono (indexR0_any g p _ xs w Hv.out hF h) ?_
  rintro e w1 ⟨⟨i, rfl, hi⟩, hb⟩
  have Hi := Lib.hid hi
  clear hi
  go_wp2
  go_ret
  exact ⟨ret_bool (by rw [← Hi.out]), hb⟩

set_option maxHeartbeats 1000000 in
theorem indexR2_any (g : Nat) (q1 q2 : Value) (p : Rc → Bool) (v : Value) (xs : List Rc) (w : World) (hv : Row encR 4 w v xs) (hF : Enters Try.prog g) (h : ∀ r ∈ xs, ∀ w1, Below w.heap.size w w1 → Makes Try.prog g #[RV r, q1, q2] w1 (.bool (p r))) :
    Calls Try.prog 63 #[v, .func (.func g) #[] #[q1, q2]] w fun e w' => (∃ i : Int, e = .returned (.int .i64 i) ∧ decide (0 ≤ i) = xs.any p) ∧ Below w.heap.size w w' := by
  have hn := hv.len
  obtain ⟨pp, cap, rfl, -, -, hp⟩ := hv
  unfold Enters at hF
  have H := Lib.hid h
  clear h
  go_enter Try.func63, Try.ntmps63
  go_wp2
  go_loopw [8] (fun i wr => ∃ k : Nat, k ≤ xs.length ∧ i = .int .i64 k ∧ Below w.heap.size w wr ∧ Hid (xs.any p = (xs.drop k).any p)) (fun i _ => xs.length - (intOf i).toNat)
  case atStart => exact ⟨0, by omega, rfl, Below.refl _ _, Lib.hid rfl⟩
  case round =>
    obtain ⟨k, hk, rfl, hb, he⟩ := hrel
    by_cases hlt : k < xs.length
    · obtain ⟨b, off, rfl, hB, hc⟩ := (hp.below hb).rc hlt
      obtain ⟨a0, a1, a2, a3⟩ := hc k hlt
      have Hat := Lib.hid (show (xs.drop k).any p = (p xs[k] || (xs.drop (k + 1)).any p) by rw [List.drop_eq_getElem_cons hlt]; rfl)
      have Hcall := Lib.hid (H.out xs[k] (List.getElem_mem hlt))
      clear hc
      generalize xs[k] = r at *
      go_wp2_with fail
      refine Calls.mono (Hcall.out _ hb) ?_
      rintro e w1 ⟨rfl, hb1⟩
      have hb2 := hb.trans (hb1.mono hb.size)
      cases hr : p r
      · have Hr := Lib.hid hr
        clear hr
        go_wp2
        go_roundw
        case rel => exact ⟨k + 1, by omega, by go_num, hb2, Lib.hid (by rw [he.out, Hat.out, Hr.out]; rfl)⟩
        case measure => simp [intOf]; omega
      · have Hr := Lib.hid hr
        clear hr
        go_wp2
        go_ret
        exact ⟨⟨_, rfl, by rw [he.out, Hat.out, Hr.out]; simp⟩, hb2⟩
    · go_wp2
      go_ret
      refine ⟨⟨_, rfl, ?_⟩, hb⟩
      rw [he.out, List.drop_eq_nil_of_le (by omega)]; rfl

set_option maxHeartbeats 400000 in
theorem containsR2_any (g : Nat) (q1 q2 : Value) (p : Rc → Bool) (v : Value) (xs : List Rc) (w : World) (hv : Row encR 4 w v xs) (hF : Enters Try.prog g) (h : ∀ r ∈ xs, ∀ w1, Below w.heap.size w w1 → Makes Try.prog g #[RV r, q1, q2] w1 (.bool (p r))) :
    Makes Try.prog 39 #[v, .func (.func g) #[] #[q1, q2]] w (.bool (xs.any p)) := by
  unfold Makes
  have hv' := hv
  obtain ⟨pp, cap, rfl, -, -, -⟩ := hv'
  have Hv := Lib.hid hv
  clear hv
  go_enter Try.func39, Try.ntmps39
  go_wp2_with fail
  refine Calls.mono (indexR2_any g q1 q2 p _ xs w Hv.out hF h) ?_
  rintro e w1 ⟨⟨i, rfl, hi⟩, hb⟩
  have Hi := Lib.hid hi
  clear hi
  go_wp2
  go_ret
  exact ⟨ret_bool (by rw [← Hi.out]), hb⟩

set_option maxHeartbeats 400000 in
theorem regHas1_any (r : Rc) (x y : Int) (C D : Nat) (w : World) (hf : Fit r) (hx : w.cell? ⟨C, 0, none⟩ = some (.int .i64 x)) (hy : w.cell? ⟨D, 0, none⟩ = some (.int .i64 y)) :
    Makes Try.prog 44 #[RV r, .pointer (some ⟨C, 0, none⟩), .pointer (some ⟨D, 0, none⟩)] w (.bool (hasR r x y)) := by
  unfold Makes
  have hx' := cell_later (Below.al1 w (.cells #[.int .i64 r.x, .int .i64 r.y, .int .i64 r.a, .int .i64 r.b] 30)) hx
  have hy' := cell_later (Below.al1 w (.cells #[.int .i64 r.x, .int .i64 r.y, .int .i64 r.a, .int .i64 r.b] 30)) hy
  go_enter Try.func44, Try.ntmps44
  go_wp2_with fail
  refine Calls.mono (has_any _ _ _ _ hf) ?_
  rintro e w1 ⟨rfl, hb1⟩
  go_wp2
  go_ret
  exact ⟨rfl, Below.thn (Below.al1 _ _) hb1⟩

set_option maxHeartbeats 400000 in
theorem regHas_any (v : Value) (xs : List Rc) (x y : Int) (w : World) (hv : Row encR 4 w v xs) (hf : ∀ r ∈ xs, Fit r) :
    Makes Try.prog 17 #[v, .int .i64 x, .int .i64 y] w (.bool (pix xs x y)) := by
  unfold Makes
  have hmf : ∀ (fn : Fn) (first cap : Array Value) (w : World), (Instr.makeFunc fn first cap).run Try.prog w = .ok (.func fn first cap) w := fun _ _ _ _ => rfl
  have hv' := hv
  obtain ⟨pp, cap, rfl, -, -, -⟩ := hv'
  have Hv := Lib.hid hv
  clear hv
  go_enter Try.func17, Try.ntmps17
  go_wp2_with fail
  refine Calls.mono (containsR2_any _ _ _ (fun r => hasR r x y) _ xs _ (Hv.out.below (Below.al2 _ _ _)) (enters_of Try.func44 (by kernel_rfl) rfl) ?_) ?_
  · intro r hr w1 hb1
    exact regHas1_any r x y _ _ w1 (hf r hr) (cell_later (Below.thn (Below.al1 _ _) hb1) (cell_at rfl rfl)) (cell_later hb1 (cell_at (by simp) rfl))
  rintro e w1 ⟨rfl, hb1⟩
  go_wp2
  go_ret
  exact ⟨rfl, Below.thn (Below.al2 _ _ _) hb1⟩

end Go.Proofs.Ytjgbelljijhfcaa
