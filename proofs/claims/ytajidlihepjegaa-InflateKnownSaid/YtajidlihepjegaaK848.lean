/- Several texts in one, each with its own head. -/
import Derived.Test.YtajidlihepjegaaK847
import Derived.Test.YtajidlihepjegaaK82
import Derived.ProofKit
import Derived.Lib.SmallJoins
/- The walk of the statement InflateKnown. -/
namespace Go.Proofs.Ytajidlihepjegaa
open Go.RowKit Go.Maps

theorem kn_w0 (w : World) : World.alloc w (.cells #[.int .u8 75, .int .u8 76, .int .u8 74, .int .u8 6, .int .u8 0] 5) = w.alloc (.cells (kn2.map u8v).toArray 5) := rfl
theorem kn_w1 (w : World) : World.alloc w (.cells #[.int .u8 1, .int .u8 3, .int .u8 0, .int .u8 252, .int .u8 255] 5) = w.alloc (.cells ([1, 3, 0, 252, 255].map u8v).toArray 5) := rfl
theorem kn_w2 (w : World) : World.alloc w (.cells #[.int .u8 3, .int .u8 0] 5) = w.alloc (.cells (kn9.map u8v).toArray 5) := rfl

set_option maxRecDepth 20000 in
set_option maxHeartbeats 8000000 in
theorem iknown_any (w : World) : Makes Try.prog 5 #[] w (.bool true) := by
  unfold Makes
  go_enter Try.func5, Try.ntmps5
  go_upto_region 2 with (fail)
  rw [n_world w]
  have hrows := n_rows (w := w) rfl
  obtain ⟨hb5, hs5⟩ := w_keeps (nObjs w.heap.size) w
  generalize (nObjs w.heap.size).foldl World.alloc w = W5 at *
  generalize hBB : w.heap.size + 1 + 1 + 1 + 1 + 1 + 1 + 1 + 1 + 1 = BB
  have hB : w.heap.size + 9 = BB := hBB
  rw [hB] at hrows
  iterate 10 (generalize Value.agg _ = z)
  iterate 8 (generalize Value.slice (some ⟨_ + 1, 0, none⟩) _ _ = z)
  generalize Value.slice (some ⟨w.heap.size, 0, none⟩) 8 8 = z
  have Hrows := Lib.hid hrows
  have Hb5 := Lib.hid hb5
  clear hrows hb5 hs5 hB hBB
  go_wp2_with fail
  go_loopw [2] (fun iv wr => ∃ i : Nat, iv = .int .i64 (i : Int) ∧ i ≤ 10 ∧ Hid (Below W5.heap.size W5 wr)) (fun iv _ => 10 - (intOf iv).toNat)
  case atStart => exact ⟨0, rfl, Nat.zero_le _, Lib.hid (Below.refl _ _)⟩
  case round =>
    obtain ⟨i, rfl, hi, HB⟩ := hrel
    by_cases hin : i < 10
    · have d1 : decide ((i : Int) < 10) = true := by simp; omega
      obtain ⟨p, l, o, k, e, HK⟩ := Hrows.out i hin
      have HK := Lib.hid HK
      have c0 := cell_later HB.out HK.out.c0
      have hlen := HK.out.len
      have i0 : (0 : Int) ≤ (i : Int) := by omega
      have i1 : (i : Int) < 10 := by omega
      go_wp2_with fail
      refine Calls.mono (infl_any _ l 100 _ (HK.out.row.below HB.out) HK.out.b (by omega)) ?_
      rintro _ w1 ⟨o1, k1, er, ov, hi1, rfl, ho1, hb1⟩
      obtain ⟨rfl, rfl, rfl⟩ := hi1.det HK.out.infl
      have hstr : ∀ n : Nat, (convert 23 9 ov).run Try.prog (w1.drewN n) = .ok (.string (strI o1)) (w1.drewN n) := fun n => strI_row ((Rw8.own ho1 rfl).below (Below.drewN' (Below.refl _ w1) n)).row
      have c1 := cell_later hb1 (cell_later HB.out HK.out.c1)
      have c2 := cell_later hb1 (cell_later HB.out HK.out.c2)
      have c3 := cell_later hb1 (cell_later HB.out HK.out.c3)
      obtain ⟨p1, q1, rfl⟩ := owns_slice ho1
      have HB1 := Lib.hid (Below.thn HB.out hb1)
      obtain ⟨S, hS⟩ : ∃ S, strI o1 = S := ⟨_, rfl⟩
      obtain ⟨M, hM⟩ : ∃ M, o1.length = M := ⟨_, rfl⟩
      rw [hM, hS] at hstr
      rw [hS] at c1
      rw [hM]
      have e2 : ((k1 : Int) != (k1 : Int)) = false := by simp
      have e3 : (er != er) = false := by simp
      clear ho1 hi1 hS hM hb1 c0 hlen
      go_upto_region 6 with (fail)
      go_quiet (fail)
      rename_i nq
      have HB2 := Lib.hid (Below.drewN' HB1.out nq)
      generalize w1.drewN nq = w2 at *
      clear c1 c2 c3 hstr
      go_wp2
      go_roundw
      case rel => exact ⟨i + 1, by go_num, by omega, HB2⟩
      case measure => simp [intOf]; omega
    · obtain rfl : i = 10 := by omega
      have Hb6 := Lib.hid (Hb5.out.trans (HB.out.mono Hb5.out.size))
      generalize wr = W6 at *
      clear HB Hrows
      go_wp2_with fail
      rw [kn_w0 W6]
      refine Calls.mono (infl_any _ kn2 2 _ (row_litI W6 kn2 (by decide)) (by decide) (by decide)) ?_
      rintro _ w1 ⟨o1, k1, er, ov, hi1, rfl, ho1, hb1⟩
      obtain ⟨rfl, rfl, rfl⟩ := hi1.det kn2_o
      obtain ⟨p1, q1, rfl⟩ := owns_slice ho1
      have Hb1 := Lib.hid (Below.thn Hb6.out (Below.thn (Below.al1 W6 _) hb1))
      clear ho1 hi1 hb1 Hb6
      simp only [List.length_nil]
      go_wp2_with fail
      rw [kn_w1 w1]
      refine Calls.mono (infl_any _ [1, 3, 0, 252, 255] 2 _ (row_litI w1 [1, 3, 0, 252, 255] (by decide)) (by decide) (by decide)) ?_
      rintro _ w2 ⟨o2, k2, er, ov, hi2, rfl, ho2, hb2⟩
      obtain ⟨rfl, rfl, rfl⟩ := hi2.det kn11_i
      obtain ⟨p2, q2, rfl⟩ := owns_slice ho2
      have Hb2 := Lib.hid (Below.thn Hb1.out (Below.thn (Below.al1 w1 _) hb2))
      clear ho2 hi2 hb2 Hb1
      simp only [List.length_nil]
      go_wp2_with fail
      rw [kn_w2 w2]
      refine Calls.mono (infl_any _ kn9 (-1) _ (row_litI w2 kn9 (by decide)) (by decide) (by decide)) ?_
      rintro _ w3 ⟨o3, k3, er, ov, hi3, rfl, ho3, hb3⟩
      obtain ⟨rfl, rfl, rfl⟩ := hi3.det (.arg (.inl (by decide)))
      obtain ⟨p3, q3, rfl⟩ := owns_slice ho3
      have Hb3 := Lib.hid (Below.thn Hb2.out (Below.thn (Below.al1 w2 _) hb3))
      clear ho3 hi3 hb3 Hb2
      simp only [List.length_nil]
      go_wp2_with fail
      rw [kn_w2 w3]
      refine Calls.mono (infl_any _ kn9 524289 _ (row_litI w3 kn9 (by decide)) (by decide) (by decide)) ?_
      rintro _ w4 ⟨o4, k4, er, ov, hi4, rfl, ho4, hb4⟩
      obtain ⟨rfl, rfl, rfl⟩ := hi4.det (.arg (.inr (by decide)))
      obtain ⟨p4, q4, rfl⟩ := owns_slice ho4
      have Hb4 := Lib.hid (Below.thn Hb3.out (Below.thn (Below.al1 w3 _) hb4))
      clear ho4 hi4 hb4 Hb3
      simp only [List.length_nil]
      go_wp2_with fail
      rw [kn_w2 w4]
      refine Calls.mono (infl_any _ kn9 524288 _ (row_litI w4 kn9 (by decide)) (by decide) (by decide)) ?_
      rintro _ w5 ⟨o5, k5, er, ov, hi5, rfl, ho5, hb5⟩
      obtain ⟨rfl, rfl, rfl⟩ := hi5.det (kn9_at 524288 (by decide))
      obtain ⟨p5, q5, rfl⟩ := owns_slice ho5
      have Hb5 := Lib.hid (Below.thn Hb4.out (Below.thn (Below.al1 w4 _) hb5))
      clear ho5 hi5 hb5 Hb4
      simp only [List.length_nil]
      go_wp2_with fail
      refine Calls.mono (iwrong_law w5) ?_
      rintro _ w6 ⟨rfl, hb6⟩
      have Hb6 := Lib.hid (Below.thn Hb5.out hb6)
      clear hb6 Hb5
      go_wp2_with fail
      refine Calls.mono (ireads_law w6) ?_
      rintro _ w7 ⟨rfl, hb7⟩
      have Hb7 := Lib.hid (Below.thn Hb6.out hb7)
      clear hb7 Hb6
      go_wp2
      go_ret
      exact ⟨rfl, Hb7.out⟩

end Go.Proofs.Ytajidlihepjegaa

/- From a walk that ends in true, and that changes nothing that was there, to what a statement says: whatever the arguments, they read behind the call as they read before. Nothing here speaks of one function. -/
namespace Go.Proofs.Ytajidlihepjegaa
open Go.ChangeShapes Go.WideShapes Go.ChangeAt Go.RowKit Go.Joins

theorem Try.own : ownKnob Try.prog.godebug = none := by kernel_rfl
theorem Try.laidOut : laidOutB Try.prog = true := by kernel_rfl

/-- Arguments read behind a call that keeps all that was there as they read before it. -/
theorem trodAll_below {H : Type} {enc : TypeId × Value → H} {P : Program} (hl : laidOutB P = true) {W W' : World} (hb : Below W.heap.size W W') :
    ∀ (ts : List TypeId) (vs : List Value) (ds : List (DataW H)) (ps : List MemPlace), (∀ t ∈ ts, P.readableRec t = true ∧ t < P.types.size) → DataW.TrodAll enc P W 0 (fun _ => true) true ts vs ds ps → (∀ x ∈ ps, x.block < W.heap.size) →
      DataW.TrodAll enc P W' 0 (fun b => decide (b < W.heap.size)) true ts vs ds ps
  | [], _, _, _, _, h, _ => by
    obtain ⟨rfl, rfl, rfl⟩ := trodAll_nil h
    exact trodAll_mk0
  | t :: ts, _, _, _, hr, h, hlt => by
    obtain ⟨v, vs', d, ds', p, q, rfl, rfl, rfl, h1, h2⟩ := trodAll_cons h
    have ht := hr t (by simp)
    exact trodAll_cons_mk (Below.trod hl ht.1 ht.2 h1 hb (fun x hx => hlt x (by simp [hx]))) (trodAll_below hl hb ts vs' ds' q (fun t' h' => hr t' (by simp [h'])) h2 (fun x hx => hlt x (by simp [hx])))

/-- What a statement asks behind the call, where the call answers true and keeps all that was there. -/
theorem law_post {H : Type} {enc : TypeId × Value → H} {f : Func} {s : ChangeSpec} (tb : TypeId) {W W' : World} {args : Array Value} {ds gs : List (DataW H)} {before : List MemPlace}
    (hread : ∀ t ∈ f.params.toList, Try.prog.readableRec t = true ∧ t < Try.prog.types.size) (hrt : f.resultTypes = #[tb]) (hub : Try.prog.underlying tb = some .bool) (hv : s.vars = [])
    (hW : DataW.Whole enc Try.prog f.params.toList s.vars false W args.toList ds gs before) (hr : (s.fn H (ds ++ gs)).results = [.lit (.bool true)]) (ha : (s.fn H (ds ++ gs)).args = ds) (hvs : (s.fn H (ds ++ gs)).vars = [])
    (hb : Below W.heap.size W W') : s.post enc Try.prog f false true false false W args (.bool true) W' := by
  have hlt := hW.lt
  have hW' := hW
  obtain ⟨p, q, hA, hV, rfl, hfz, hnd⟩ := hW
  rw [hv] at hV
  obtain ⟨rfl, rfl⟩ := trodVars_none hV
  refine ⟨_, _, _, [], p, [], hW', ?_, ?_, ?_, hb.frame _, fun h => by cases h⟩
  · rw [hr, hrt]
    exact trodAll_mk1 (shut_bool hub true)
  · rw [ha]
    exact trodAll_below Try.laidOut hb _ _ _ _ hread hA (fun x hx => by simpa using hlt x (by simp [hx]))
  · rw [hvs, hv]
    rfl

theorem trodAll_four_mine {H : Type} {enc : TypeId × Value → H} {P : Program} {w : World} {base : Nat} {spare : Nat → Bool} {held : Bool} {t0 t1 t2 t3 : TypeId} {args : Array Value} {ds : List (DataW H)} {ps : List MemPlace} (h : DataW.TrodAll enc P w base spare held [t0, t1, t2, t3] args.toList ds ps) :
    ∃ v0 v1 v2 v3 d0 d1 d2 d3 p0 p1 p2 p3, args = #[v0, v1, v2, v3] ∧ ds = [d0, d1, d2, d3] ∧ ps = p0 ++ (p1 ++ (p2 ++ p3)) ∧ DataW.Trod enc P w base spare held t0 v0 d0 p0 ∧ DataW.Trod enc P w base spare held t1 v1 d1 p1 ∧ DataW.Trod enc P w base spare held t2 v2 d2 p2 ∧ DataW.Trod enc P w base spare held t3 v3 d3 p3 := by
  obtain ⟨v0, vs0, d0, ds0, p0, q0, hargs, rfl, rfl, h0, r0⟩ := trodAll_cons h
  obtain ⟨v1, vs1, d1, ds1, p1, q1, rfl, rfl, rfl, h1, r1⟩ := trodAll_cons r0
  obtain ⟨v2, vs2, d2, ds2, p2, q2, rfl, rfl, rfl, h2, r2⟩ := trodAll_cons r1
  obtain ⟨v3, vs3, d3, ds3, p3, q3, rfl, rfl, rfl, h3, r3⟩ := trodAll_cons r2
  obtain ⟨rfl, rfl, rfl⟩ := trodAll_nil r3
  exact ⟨v0, v1, v2, v3, d0, d1, d2, d3, p0, p1, p2, p3, by cases args; simp_all, rfl, by simp, h0, h1, h2, h3⟩

theorem trodAll_five_mine {H : Type} {enc : TypeId × Value → H} {P : Program} {w : World} {base : Nat} {spare : Nat → Bool} {held : Bool} {t0 t1 t2 t3 t4 : TypeId} {args : Array Value} {ds : List (DataW H)} {ps : List MemPlace} (h : DataW.TrodAll enc P w base spare held [t0, t1, t2, t3, t4] args.toList ds ps) :
    ∃ v0 v1 v2 v3 v4 d0 d1 d2 d3 d4 p0 p1 p2 p3 p4, args = #[v0, v1, v2, v3, v4] ∧ ds = [d0, d1, d2, d3, d4] ∧ ps = p0 ++ (p1 ++ (p2 ++ (p3 ++ p4))) ∧ DataW.Trod enc P w base spare held t0 v0 d0 p0 ∧ DataW.Trod enc P w base spare held t1 v1 d1 p1 ∧ DataW.Trod enc P w base spare held t2 v2 d2 p2 ∧ DataW.Trod enc P w base spare held t3 v3 d3 p3 ∧ DataW.Trod enc P w base spare held t4 v4 d4 p4 := by
  obtain ⟨v0, vs0, d0, ds0, p0, q0, hargs, rfl, rfl, h0, r0⟩ := trodAll_cons h
  obtain ⟨v1, vs1, d1, ds1, p1, q1, rfl, rfl, rfl, h1, r1⟩ := trodAll_cons r0
  obtain ⟨v2, vs2, d2, ds2, p2, q2, rfl, rfl, rfl, h2, r2⟩ := trodAll_cons r1
  obtain ⟨v3, vs3, d3, ds3, p3, q3, rfl, rfl, rfl, h3, r3⟩ := trodAll_cons r2
  obtain ⟨v4, vs4, d4, ds4, p4, q4, rfl, rfl, rfl, h4, r4⟩ := trodAll_cons r3
  obtain ⟨rfl, rfl, rfl⟩ := trodAll_nil r4
  exact ⟨v0, v1, v2, v3, v4, d0, d1, d2, d3, d4, p0, p1, p2, p3, p4, by cases args; simp_all, rfl, by simp, h0, h1, h2, h3, h4⟩

theorem wf_bounds {n : Int} (h : (Lit.int .i64 n).wf = true) : -9223372036854775808 ≤ n ∧ n ≤ 9223372036854775807 := by
  have hm : IntKind.i64.min = -9223372036854775808 := by decide
  simpa [Lit.wf, hm] using h

theorem wf_u8b {n : Int} (h : (Lit.int .u8 n).wf = true) : 0 ≤ n ∧ n ≤ 255 := by
  have hm : IntKind.u8.min = 0 := by decide
  have hx : IntKind.u8.max = 255 := by decide
  simpa [Lit.wf, hm, hx] using h

theorem wf_u32b {n : Int} (h : (Lit.int .u32 n).wf = true) : 0 ≤ n ∧ n < 4294967296 := by
  have hm : IntKind.u32.min = 0 := by decide
  have hx : IntKind.u32.max = 4294967295 := by decide
  have := h
  simp [Lit.wf, hm, hx] at this
  omega

end Go.Proofs.Ytajidlihepjegaa
