/- region's bands: what the iterator hands over. -/
import Derived.Test.YtajoipmchgabfaaGreatT15
import Derived.Test.YtajoipmchgabfaaGreatT16
namespace Go.Proofs.YtajoipmchgabfaaGreat
open Go.RowKit Go.Shelf

attribute [local go_sem] Oper.semAt_some

set_option maxHeartbeats 400000 in
theorem strips_made (p q : Option Addr) (n c n' c' gm : Nat) (w : World) : Calls Tryz.prog 67 #[.slice p n c, .slice q n' c', .func (.func gm) #[] #[]] w fun e w' =>
    e = .returned (.func (.func 79) #[] #[.pointer (some ⟨w.heap.size, 0, none⟩), .pointer (some ⟨w.heap.size + 1, 0, none⟩), .pointer (some ⟨w.heap.size + 1 + 1, 0, none⟩)]) ∧ w' = ((w.alloc (.cells #[.slice p n c] 22)).alloc (.cells #[.slice q n' c'] 22)).alloc (.cells #[.func (.func gm) #[] #[]] 60) := by
  have hmf : ∀ (fn : Fn) (first cap : Array Value) (w : World), (Instr.makeFunc fn first cap).run Tryz.prog w = .ok (.func fn first cap) w := fun _ _ _ _ => rfl
  go_enter Tryz.func67, Tryz.ntmps67
  go_wp2
  go_ret
  exact ⟨rfl, rfl⟩

set_option maxHeartbeats 400000 in
theorem bands_made (p q : Option Addr) (n c n' c' gm : Nat) (w : World) : Calls Tryz.prog 48 #[.slice p n c, .slice q n' c', .func (.func gm) #[] #[]] w fun e w' =>
    e = .returned (.func (.func 66) #[] #[.pointer (some ⟨w.heap.size, 0, none⟩), .pointer (some ⟨w.heap.size + 1, 0, none⟩), .pointer (some ⟨w.heap.size + 1 + 1, 0, none⟩)]) ∧ w' = ((w.alloc (.cells #[.slice p n c] 22)).alloc (.cells #[.slice q n' c'] 22)).alloc (.cells #[.func (.func gm) #[] #[]] 60) := by
  have hmf : ∀ (fn : Fn) (first cap : Array Value) (w : World), (Instr.makeFunc fn first cap).run Tryz.prog w = .ok (.func fn first cap) w := fun _ _ _ _ => rfl
  go_enter Tryz.func48, Tryz.ntmps48
  go_wp2
  go_ret
  exact ⟨rfl, rfl⟩

/-- A band that is handed over: it reads so. -/
def ElBand (_ W : World) (_ : Nat → Prop) (x : List Rc) (vs : Array Value) : Prop := ∃ v, vs = #[v] ∧ Row encR 4 W v x ∧ x ≠ []

/-- Between two rounds of bands' loop. -/
def BandInv (w : World) (n0 N l : Nat) (R : Nat → Prop) (J : List (List Rc) → (Nat → Prop) → World → Prop) (pre : List (List Rc)) (T : Nat → Prop) (Wc : World) : Prop :=
  ∃ (Wp : World) (Tp : Nat → Prop) (v : Value), J (bandFold pre).1 Tp Wp ∧ Turns Tp Wp Wc ∧ (∀ q, n0 ≤ q → q < N + 2 → Tp q ∨ Wp.heap.size ≤ q) ∧ (∀ q, T q → Tp q ∨ Wp.heap.size ≤ q) ∧ (∀ q, v.ownBlock = some q → (Tp q ∨ Wp.heap.size ≤ q) ∧ ¬ T q ∧ N + 1 < q) ∧
    Boxed Wc n0 93 (.func (.yield l) #[] #[]) ∧ Boxed Wc (n0 + 1) 22 v ∧ Wc.ownsRow n0 37 4 v (bandFold pre).2.length (flatR (bandFold pre).2) ∧ (∀ q, R q → Wc.heap[q]? = w.heap[q]?) ∧ N ≤ Wc.heap.size ∧ (∀ q, Tp q → n0 ≤ q ∧ q < Wp.heap.size) ∧ n0 ≤ Wp.heap.size

/-- What a round of bands' loop owes at its end. -/
theorem band_close {w : World} {n0 N l : Nat} {R R' : Nat → Prop} {J : List (List Rc) → (Nat → Prop) → World → Prop} {pre : List (List Rc)} {x : List Rc} {T : Nat → Prop} {W2 Wx Wf : World} {Wp : World} {Tp : Nat → Prop} {v u : Value}
    (hn : n0 + 2 ≤ N) (hRn : ∀ q, R q → q < n0) (hR' : ∀ q, R' q → (n0 + 2 ≤ q ∧ q < N) ∨ R q) (hT2 : ∀ q, T q → N + 1 < q ∧ q < W2.heap.size) (hLt : N + 1 < W2.heap.size)
    (hJ : J (bandFold (pre ++ [x])).1 Tp Wp) (ht : Turns Tp Wp Wx) (hown : ∀ q, n0 ≤ q → q < N + 2 → Tp q ∨ Wp.heap.size ≤ q) (hTs : ∀ q, T q → Tp q ∨ Wp.heap.size ≤ q) (hvo : ∀ q, v.ownBlock = some q → (Tp q ∨ Wp.heap.size ≤ q) ∧ ¬ T q ∧ N + 1 < q)
    (by0 : Boxed Wx n0 93 (.func (.yield l) #[] #[])) (hRx : ∀ q, R q → Wx.heap[q]? = w.heap[q]?) (hk : ∀ q, R' q ∨ T q ∨ q = N + 1 ∨ q = N → Wx.heap[q]? = W2.heap[q]?) (hsx : W2.heap.size ≤ Wx.heap.size) (hTpn : ∀ q, Tp q → n0 ≤ q ∧ q < Wp.heap.size) (hWp : n0 ≤ Wp.heap.size)
    (htf : Turns (fun q => v.ownBlock = some q ∨ q = n0 + 1) Wx Wf) (bs : Boxed Wf (n0 + 1) 22 u) (own : Wf.ownsRow n0 37 4 u (bandFold (pre ++ [x])).2.length (flatR (bandFold (pre ++ [x])).2)) (hu : ∀ q, u.ownBlock = some q → (Tp q ∨ Wp.heap.size ≤ q) ∧ ¬ T q ∧ N + 1 < q) :
    BandInv w n0 N l R J (pre ++ [x]) T Wf ∧ W2.heap.size ≤ Wf.heap.size ∧ ∀ q, R' q ∨ T q ∨ q = N + 1 ∨ q = N → Wf.heap[q]? = W2.heap[q]? := by
  have hsf := htf.size
  have htp : Turns Tp Wp Wf := ht.trans' htf (fun i hi h => by
    rcases h with h | h
    · exact (hvo i h).1.resolve_right (by omega)
    · exact (hown i (by omega) (by omega)).resolve_right (by omega))
  refine ⟨⟨Wp, Tp, u, hJ, htp, hown, hTs, hu, htf.boxed by0 (fun h => ?_), bs, own, fun q hq => (htf.block q (by have := hRn q hq; omega) (fun h => ?_)).trans (hRx q hq), by omega, hTpn, hWp⟩, by omega, fun q hq => ?_⟩
  · rcases h with h | h
    · have := (hvo _ h).2.2; omega
    · omega
  · have := hRn q hq
    rcases h with h | h
    · have := (hvo _ h).2.2; omega
    · omega
  · refine (htf.block q ?_ (fun h => ?_)).trans (hk q hq)
    · rcases hq with hq | hq | hq
      · rcases hR' q hq with h | h
        · omega
        · have := hRn q h; omega
      · have := hT2 q hq; omega
      · omega
    · rcases hq with hq | hq | hq
      · have h5 : q < N := by
          rcases hR' q hq with h | h
          · omega
          · have := hRn q h; omega
        have h6 : q ≠ n0 + 1 := by
          rcases hR' q hq with h | h
          · omega
          · have := hRn q h; omega
        rcases h with h | h
        · have := (hvo _ h).2.2; omega
        · omega
      · rcases h with h | h
        · exact (hvo _ h).2.1 hq
        · have := hT2 q hq; omega
      · rcases h with h | h
        · have := (hvo _ h).2.2; omega
        · omega

set_option maxRecDepth 100000 in
set_option maxHeartbeats 4000000 in
theorem bands_iter (Ba Bb Bm gm : Nat) (va vb : Value) (a b : List Rc) (mf : Bool → Bool → Bool) (w : World) (R : Nat → Prop) (hff : mf false false = false) (hgm : Meant gm mf)
    (hBa : Boxed w Ba 22 va) (hBb : Boxed w Bb 22 vb) (hBm : Boxed w Bm 60 (.func (.func gm) #[] #[])) (ha : Row encR 4 w va a) (hb : Row encR 4 w vb b) (hfa : ∀ r ∈ a, Fit r) (hfb : ∀ r ∈ b, Fit r) (hlen : a.length + b.length ≤ 67108864)
    (hRlt : ∀ q, R q → q < w.heap.size) (hRa : R Ba) (hRb : R Bb) (hRm : R Bm) (hRva : ∀ q, va.ownBlock = some q → R q) (hRvb : ∀ q, vb.ownBlock = some q → R q) :
    Iter Tryz.prog 66 #[.pointer (some ⟨Ba, 0, none⟩), .pointer (some ⟨Bb, 0, none⟩), .pointer (some ⟨Bm, 0, none⟩)] ElBand R (bandsOf (stripsL mf a b)) w := by
  intro l J Jx W hsz hRW hJ0 hY
  have ca : W.cell? ⟨Ba, 0, none⟩ = some va := (World.cell?_of_block (hRW Ba hRa)).trans hBa.cell
  have cb : W.cell? ⟨Bb, 0, none⟩ = some vb := (World.cell?_of_block (hRW Bb hRb)).trans hBb.cell
  have cm : W.cell? ⟨Bm, 0, none⟩ = some (.func (.func gm) #[] #[]) := (World.cell?_of_block (hRW Bm hRm)).trans hBm.cell
  have hRWlt : ∀ q, R q → q < W.heap.size := fun q hq => by have := hRlt q hq; omega
  have rowA : Row encR 4 W va a := ha.same (fun q hq => hRW q (hRva q hq))
  have rowB : Row encR 4 W vb b := hb.same (fun q hq => hRW q (hRvb q hq))
  have HrA := Lib.hid rowA
  have HrB := Lib.hid rowB
  obtain ⟨pa, cpa, rfl, -, -, -⟩ := rowA
  obtain ⟨pb, cpb, rfl, -, -, -⟩ := rowB
  have HY := Lib.hid hY
  have HRW := Lib.hid hRW
  clear hY hRW ha hb
  refine callsIn_of_wp_marks Tryz.func66 rfl trivial ?_ rfl
  simp only [Tryz.ntmps66, List.size_toArray, List.length_cons, List.length_nil, Nat.reduceAdd, Nat.reduceSub, Array.replicate_succ, Array.replicate_zero, List.push_toArray, List.append_toArray, List.nil_append, List.cons_append]
  refine wpIn_wide.2 ?_
  go_upto_region 2 with (fail)
  have hb2 := Below.al2 W (.cells #[.func (.yield l) #[] #[]] 93) (.cells #[.slice none 0 0] 22)
  have hg := heap_pushed [.cells #[.func (.yield l) #[] #[]] 93, .cells #[.slice none 0 0] 22] W
  simp only [List.foldl_cons, List.foldl_nil] at hg
  have hsz2 : ((W.alloc (.cells #[.func (.yield l) #[] #[]] 93)).alloc (.cells #[.slice none 0 0] 22)).heap.size = W.heap.size + 2 := by simp
  generalize ((W.alloc (.cells #[.func (.yield l) #[] #[]] 93)).alloc (.cells #[.slice none 0 0] 22)) = W2 at *
  have by2 : Boxed W2 W.heap.size 93 (.func (.yield l) #[] #[]) := (hg 0 _).2 rfl
  have bs2 : Boxed W2 (W.heap.size + 1) 22 (.slice none 0 0) := (hg 1 _).2 rfl
  have ca2 := cell_later hb2 ca
  have cb2 := cell_later hb2 cb
  have cm2 := cell_later hb2 cm
  have Hby := Lib.hid by2
  have Hbs := Lib.hid bs2
  have Hb2 := Lib.hid hb2
  have Hsz2 := Lib.hid hsz2
  clear hg ca cb cm by2 bs2 hb2 hsz2
  go_wp2_with fail
  refine Calls.mono (strips_made _ _ _ _ _ _ _ _) ?_
  rintro e w1 ⟨rfl, rfl⟩
  clear ca2 cb2 cm2
  go_wp2_with fail
  have hs2a := Nat.le_of_eq Hsz2.out
  have hs2b := Nat.le_of_eq Hsz2.out.symm
  have hb4 : Below W2.heap.size W2 (((W2.alloc (.cells #[.slice pa a.length cpa] 22)).alloc (.cells #[.slice pb b.length cpb] 22)).alloc (.cells #[.func (.func gm) #[] #[]] 60)) := Below.al3 _ _ _ _
  have hg := heap_pushed [.cells #[.slice pa a.length cpa] 22, .cells #[.slice pb b.length cpb] 22, .cells #[.func (.func gm) #[] #[]] 60] W2
  simp only [List.foldl_cons, List.foldl_nil] at hg
  have hsz4 : (((W2.alloc (.cells #[.slice pa a.length cpa] 22)).alloc (.cells #[.slice pb b.length cpb] 22)).alloc (.cells #[.func (.func gm) #[] #[]] 60)).heap.size = W2.heap.size + 3 := by simp
  generalize (((W2.alloc (.cells #[.slice pa a.length cpa] 22)).alloc (.cells #[.slice pb b.length cpb] 22)).alloc (.cells #[.func (.func gm) #[] #[]] 60)) = W0 at *
  have b1 : Boxed W0 W2.heap.size 22 (.slice pa a.length cpa) := (hg 0 _).2 rfl
  have b2 : Boxed W0 (W2.heap.size + 1) 22 (.slice pb b.length cpb) := (hg 1 _).2 rfl
  have b3 : Boxed W0 (W2.heap.size + 1 + 1) 60 (.func (.func gm) #[] #[]) := (hg 2 _).2 rfl
  have hs4a := Nat.le_of_eq hsz4
  have hs4b := Nat.le_of_eq hsz4.symm
  clear hg hsz4
  have hbW0 : Below W.heap.size W W0 := Below.thn Hb2.out hb4
  have hRlt' : ∀ q, ((q = W2.heap.size ∨ q = W2.heap.size + 1 ∨ q = W2.heap.size + 1 + 1) ∨ ((Value.slice pa a.length cpa).ownBlock = some q ∨ (Value.slice pb b.length cpb).ownBlock = some q)) → q < W0.heap.size := fun q hq => by
    rcases hq with hq | hq | hq
    · omega
    · have := hRWlt q (hRva q hq); omega
    · have := hRWlt q (hRvb q hq); omega
  have hseq := strips_iter W2.heap.size (W2.heap.size + 1) (W2.heap.size + 1 + 1) gm (.slice pa a.length cpa) (.slice pb b.length cpb) a b mf W0 (fun q => (q = W2.heap.size ∨ q = W2.heap.size + 1 ∨ q = W2.heap.size + 1 + 1) ∨ ((Value.slice pa a.length cpa).ownBlock = some q ∨ (Value.slice pb b.length cpb).ownBlock = some q)) hff hgm b1 b2 b3 (HrA.out.below hbW0) (HrB.out.below hbW0) hfa hfb hlen hRlt' (.inl (.inl rfl)) (.inl (.inr (.inl rfl))) (.inl (.inr (.inr rfl))) (fun q hq => .inr (.inl hq)) (fun q hq => .inr (.inr hq))
  refine (wpIn_wide (n := 0)).1 ?_
  refine wpIn_rangeFunc_turns (gf := 79) (El := ElStrip) (xs := stripsL mf a b) (w0 := W0) ?hg ?eg hseq ?hs0 ?hRr ?hps
    (BandInv w W.heap.size W0.heap.size l R J)
    (fun c _ T Wc => c = .ret ∧ ∃ pre' Tp Wp, pre' <+: bandsOf (stripsL mf a b) ∧ Jx pre' Tp Wp ∧ Turns Tp Wp Wc ∧ (∀ q, W.heap.size ≤ q → q < W0.heap.size + 2 → Tp q ∨ Wp.heap.size ≤ q) ∧ (∀ q, T q → Tp q ∨ Wp.heap.size ≤ q))
    ?start (fun vs => { tmps := #[.func (.yield l) #[] #[], .pointer (some ⟨Ba, 0, none⟩), .pointer (some ⟨Bb, 0, none⟩), .pointer (some ⟨Bm, 0, none⟩), .pointer (some ⟨W.heap.size, 0, none⟩), .pointer (some ⟨W.heap.size + 1, 0, none⟩), vs.getD 0 undef, .slice pa a.length cpa, .slice pb b.length cpb, .func (.func gm) #[] #[], .func (.func 79) #[] #[.pointer (some ⟨W2.heap.size, 0, none⟩), .pointer (some ⟨W2.heap.size + 1, 0, none⟩), .pointer (some ⟨W2.heap.size + 1 + 1, 0, none⟩)], vs.getD 0 undef, undef, undef, undef, undef, undef, undef, undef, undef, undef, undef, undef, undef, undef, undef, undef, undef, undef, undef, undef, undef, undef, undef, undef, undef, undef], defers := [] }) ?assign ?body ?done ?stop
  case hg => rfl
  case eg => exact enters_of Tryz.func79 (by kernel_rfl) rfl
  case hs0 => exact Nat.le_refl _
  case hRr => exact fun q hq => ⟨hRlt' q hq, rfl⟩
  case hps =>
    rintro _ _ _ _ _ ⟨v, h, _⟩
    rw [h]; rfl
  case start =>
    exact ⟨W, fun _ => False, .slice none 0 0, hJ0, Turns.of_below' hbW0, fun q h1 _ => .inr h1, fun _ h => h.elim, fun q hq => (by cases hq), Boxed.same Hby.out (hb4.block _ Hby.out.lt), Boxed.same Hbs.out (hb4.block _ Hbs.out.lt), World.ownsRow_nil _ _ _ _, fun q hq => (hbW0.block q (hRWlt q hq)).trans (HRW.out q hq), Nat.le_refl _, fun _ h => h.elim, Nat.le_refl _⟩
  case assign =>
    intro l vs W K hvs hK
    obtain ⟨v0, rfl⟩ := size_one hvs
    gi_wp2
    exact hK
  case stop =>
    rintro c pre T Wq Wf _ ⟨rfl, pre', Tp, Wp, hpre, hJ, ht, hown0, hTs⟩ htt hTp hlt hD
    have htf : Turns Tp Wp Wf := ht.trans' htt (fun i hi h => by
      rcases h with h | h | h
      · exact (hTs i h).resolve_right (by omega)
      · exact (hown0 i (by omega) (by omega)).resolve_right (by omega)
      · exact (hown0 i (by omega) (by omega)).resolve_right (by omega))
    have htf2 : Turns Tp Wp (Wf.putObj W0.heap.size (.deferred none)) := htf.trans' (Turns.put (T := fun q => q = W0.heap.size) _ _ _ rfl) (fun i hi h => by
      subst h
      exact (hown0 _ (by omega) (by omega)).resolve_right (by omega))
    have HD := Lib.hid hD
    have Hfin := Lib.hid htf2
    have HJ := Lib.hid hJ
    clear hJ ht hown0 hTs htf htf2 hD htt hTp
    gi_wp2
    refine ⟨by simp, .inl ⟨_, _, rfl, run_takeDeferred HD.out, ?_⟩⟩
    exact ⟨_, results_none rfl _ _ _, ⟨_, rfl⟩, .inr ⟨pre', Tp, Wp, hpre, HJ.out, Hfin.out⟩⟩
  case done =>
    intro T Wq Wf hI htt hTp hlt hD
    obtain ⟨Wp, Tp, v, hJ, ht, hown0, hTs, hvo, by0, bs0, own0, hRq, hN, hTpn, hWp⟩ := hI
    have nq : ∀ q, q < W0.heap.size → ¬ (T q ∨ q = W0.heap.size + 1 ∨ q = W0.heap.size) := fun q hq h => by
      rcases h with h | h
      · have := hTp q h; omega
      · omega
    have by2 := htt.boxed by0 (nq _ (by omega))
    have bs2 := htt.boxed bs0 (nq _ (by omega))
    have own2 := htt.owns own0 (fun q hq h => by
      rcases h with h | h
      · exact (hvo q hq).2.1 h
      · have := (hvo q hq).2.2; omega)
    have hRq2 : ∀ q, R q → Wf.heap[q]? = w.heap[q]? := fun q hq => (htt.block q (by have := hRWlt q hq; omega) (nq q (by have := hRWlt q hq; omega))).trans (hRq q hq)
    have htf : Turns Tp Wp Wf := ht.trans' htt (fun i hi h => by
      rcases h with h | h | h
      · exact (hTs i h).resolve_right (by omega)
      · exact (hown0 i (by omega) (by omega)).resolve_right (by omega)
      · exact (hown0 i (by omega) (by omega)).resolve_right (by omega))
    have HD := Lib.hid hD
    have HJ := Lib.hid hJ
    have Htf := Lib.hid htf
    have Hown0 := Lib.hid hown0
    have HRq2 := Lib.hid hRq2
    have Hrow := Lib.hid (owns_row' (enc := encR) (k := 4) (fun _ => rfl) own2)
    have HTpn := Lib.hid hTpn
    obtain ⟨pv, cv, rfl, -, -, -⟩ := owns_row' (enc := encR) (k := 4) (fun _ => rfl) own2
    have cy := by2.cell
    have cv' := bs2.cell
    have hsf := htf.size
    clear hJ ht hown0 hTs hvo by0 bs0 own0 hRq hTpn nq by2 bs2 own2 hRq2 htf hD htt hTp
    have hofs : bandsOf (stripsL mf a b) = if (bandFold (stripsL mf a b)).2 = [] then (bandFold (stripsL mf a b)).1 else (bandFold (stripsL mf a b)).1 ++ [(bandFold (stripsL mf a b)).2] := rfl
    generalize (bandFold (stripsL mf a b)).2 = ab at *
    generalize (bandFold (stripsL mf a b)).1 = os at *
    dsimp only
    by_cases hab : ab = []
    · have hz : decide (0 < ab.length) = false := by simp [hab]
      have Hof := Lib.hid (show bandsOf (stripsL mf a b) = os by rw [hofs, if_pos hab])
      have htf2 : Turns Tp Wp (Wf.putObj W0.heap.size (.deferred none)) := Htf.out.trans' (Turns.put (T := fun q => q = W0.heap.size) _ _ _ rfl) (fun i hi h => by
        subst h
        exact (Hown0.out _ (by omega) (by omega)).resolve_right (by omega))
      have Hfin := Lib.hid htf2
      clear hab htf2 hofs
      go_wp2
      refine ⟨by simp, .inl ⟨_, _, rfl, run_takeDeferred HD.out, ?_⟩⟩
      exact ⟨_, results_none rfl _ _ _, ⟨_, rfl⟩, .inl ⟨Tp, Wp, by rw [Hof.out]; exact HJ.out, Hfin.out⟩⟩
    · have hz : decide (0 < ab.length) = true := by
        have := List.length_pos_iff.2 hab
        simp; omega
      have hof : bandsOf (stripsL mf a b) = os ++ [ab] := by rw [hofs, if_neg hab]
      obtain ⟨fn, tmps, assign, body, hyy, hRd⟩ := HY.out os ab [] Tp (fun q => Tp q ∨ (Wp.heap.size ≤ q ∧ q < Wf.heap.size)) Wp Wf #[.slice pv ab.length cv] hof HJ.out Htf.out
        (fun q hq => hq.elim .inl (fun h => .inr h.1)) (fun q hq => by
          rcases hq with hq | hq
          · have := (HTpn.out q hq).2; omega
          · exact hq.2) HRq2.out ⟨_, rfl, Hrow.out, hab⟩
      have Hof := Lib.hid hof
      have hT1D : (Tp W0.heap.size ∨ (Wp.heap.size ≤ W0.heap.size ∧ W0.heap.size < Wf.heap.size)) := by
        rcases Hown0.out W0.heap.size (by omega) (by omega) with h | h
        · exact .inl h
        · exact .inr ⟨h, by omega⟩
      have HT1D := Lib.hid hT1D
      clear hof hab hT1D hofs
      go_upto_region 9 with (fail)
      refine (wpIn_wide (n := 0)).1 ?_
      gi_wp2
      refine ⟨rfl, hRd.mono ?_⟩
      rintro e W4 (⟨rfl, hJ4, hsz4', hk4⟩ | ⟨rfl, hJx4, hsz4', hk4⟩)
      · have HD4 := Lib.hid ((hk4 W0.heap.size (.inr HT1D.out)).trans HD.out)
        have HJ4 := Lib.hid hJ4
        clear hJ4 hk4
        go_wp2
        refine ⟨by simp, .inl ⟨_, _, rfl, run_takeDeferred HD4.out, ?_⟩⟩
        exact ⟨_, results_none rfl _ _ _, ⟨_, rfl⟩, .inl ⟨_, W4, by rw [Hof.out]; exact HJ4.out, Turns.put _ _ _ HT1D.out⟩⟩
      · have HD4 := Lib.hid ((hk4 W0.heap.size (.inr HT1D.out)).trans HD.out)
        have HJ4 := Lib.hid hJx4
        clear hJx4 hk4
        go_wp2
        refine ⟨by simp, .inl ⟨_, _, rfl, run_takeDeferred HD4.out, ?_⟩⟩
        exact ⟨_, results_none rfl _ _ _, ⟨_, rfl⟩, .inr ⟨_, _, W4, ⟨[], by rw [Hof.out, List.append_nil]⟩, HJ4.out, Turns.put _ _ _ HT1D.out⟩⟩
  case body =>
    rintro pre st rest Tq T Wq Wp' W1 W3 vs hxs hI hqp hsq ht2 hTq hT hT2 hR2 ⟨v1, rfl, sown, hstn, hsT⟩ h12 hs12 hLt hL1 hD2 hL2
    obtain ⟨Wp, Tp, v, hJ, ht, hown0, hTs, hvo, by0, bs0, own0, hRq, hN, hTpn, hWp⟩ := hI
    have nq : ∀ q, q < W0.heap.size → ¬ (Tq q ∨ q = W0.heap.size + 1 ∨ q = W0.heap.size) := fun q hq h => by
      rcases h with h | h
      · have := (hTq q h).1; omega
      · omega
    have by2 := ht2.boxed by0 (nq _ (by omega))
    have bs2 := ht2.boxed bs0 (nq _ (by omega))
    have own2 := ht2.owns own0 (fun q hq h => by
      rcases h with h | h
      · exact (hvo q hq).2.1 h
      · have := (hvo q hq).2.2; omega)
    have htW : Turns Tp Wp W3 := ht.trans' ht2 (fun i hi h => by
      rcases h with h | h | h
      · exact (hTs i h).resolve_right (by omega)
      · exact (hown0 i (by omega) (by omega)).resolve_right (by omega)
      · exact (hown0 i (by omega) (by omega)).resolve_right (by omega))
    have hsp := ht.size
    have hTs2 : ∀ q, T q → Tp q ∨ Wp.heap.size ≤ q := fun q hq => by
      rcases hT q hq with h | h
      · exact hTs q h
      · exact .inr (by omega)
    have hvo2 : ∀ q, v.ownBlock = some q → (Tp q ∨ Wp.heap.size ≤ q) ∧ ¬ T q ∧ W0.heap.size + 1 < q := fun q hq => ⟨(hvo q hq).1, fun hh => by
      rcases hT q hh with h | h
      · exact (hvo q hq).2.1 h
      · have := (own0.lt q hq).2; omega, (hvo q hq).2.2⟩
    have hRq2 : ∀ q, R q → W3.heap[q]? = w.heap[q]? := fun q hq => (ht2.block q (by have := hRWlt q hq; omega) (nq q (by have := hRWlt q hq; omega))).trans (hRq q hq)
    have hsb : ∀ q, v1.ownBlock = some q → q ≠ W0.heap.size + 1 ∧ q ≠ W0.heap.size ∧ Wp'.heap.size ≤ q := fun q hq => by
      obtain ⟨r, hr⟩ := hL1
      rcases sown.2 with ⟨rfl, _⟩ | ⟨gg, _, _, rfl, h4, hgg, _⟩
      · cases hq
      · cases hq
        refine ⟨fun e => ?_, fun e => ?_, h4⟩
        · have e' : gg = _ := e
          rw [e', hr] at hgg; cases hgg
        · have e' : gg = _ := e
          rw [e', ← h12.block W0.heap.size (by omega) (by omega), hD2] at hgg; cases hgg
    have sown2 := h12.owns sown (fun q hq e => (hsb q hq).1 e)
    have hvs : ∀ q, v1.ownBlock = some q → (Tp q ∨ Wp.heap.size ≤ q) ∧ ¬ T q ∧ W0.heap.size + 1 < q := fun q hq => ⟨.inr (by have := (hsb q hq).2.2; omega), hsT q hq, by have := hsb q hq; omega⟩
    have hvv : ∀ q, v1.ownBlock = some q → v.ownBlock ≠ some q := fun q hq e => by have h1 := (own0.lt q e).2; have h2 := (hsb q hq).2.2; omega
    have hUs : Uni st := strips_uni mf hff a b st (by rw [hxs]; simp)
    have hUa : Uni (bandFold pre).2 := bandFold_uni (fun q hq => strips_uni mf hff a b q (by rw [hxs]; simp [hq]))
    have Hsn := Lib.hid (show bandFold (pre ++ [st]) = (if goesOnB (bandFold pre).2 st = true then ((bandFold pre).1, (bandFold pre).2.map (higher ((st.map (·.b)).headD 0))) else (if (bandFold pre).2 = [] then (bandFold pre).1 else (bandFold pre).1 ++ [(bandFold pre).2], st)) from bandFold_snoc pre st)
    have Hspl := Lib.hid (fun h1 h2 => bands_split (l := pre) (rest := rest) (st := st) h1 h2)
    have Hxs := Lib.hid hxs
    have hgo := goesOn_any v v1 (bandFold pre).2 st W3 (owns_row' (enc := encR) (k := 4) (fun _ => rfl) own2) (owns_row' (enc := encR) (k := 4) (fun _ => rfl) sown2) hUa.bd
    have cy := by2.cell
    have cv := bs2.cell
    have fv := bs2.frozen
    have HJ := Lib.hid hJ
    have Hown0 := Lib.hid hown0
    have HtW := Lib.hid htW
    have HTs2 := Lib.hid hTs2
    have Hvo2 := Lib.hid hvo2
    have Hvs := Lib.hid hvs
    have Hvv := Lib.hid hvv
    have HRq2 := Lib.hid hRq2
    have Hby2 := Lib.hid by2
    have Hbs2 := Lib.hid bs2
    have Hown2 := Lib.hid own2
    have Hsown2 := Lib.hid sown2
    have HTpn := Lib.hid hTpn
    have HT2 := Lib.hid hT2
    have HRlt := Lib.hid hRWlt
    have HRlt' := Lib.hid hRlt'
    have Hstn := Lib.hid hstn
    have HUs := Lib.hid hUs
    have HUa := Lib.hid hUa
    generalize (bandFold pre).2 = above at *
    generalize (bandFold pre).1 = outs at *
    obtain ⟨pv, cv1, rfl, -, -, -⟩ := owns_row' (enc := encR) (k := 4) (fun _ => rfl) own2
    obtain ⟨ps, cs, rfl, hss1, hss2, hss3⟩ := owns_row' (enc := encR) (k := 4) (fun _ => rfl) sown2
    have e0 : (#[.slice ps st.length cs] : Array Value).getD 0 undef = .slice ps st.length cs := rfl
    dsimp only
    rw [e0]
    clear e0 hJ hown0 htW hTs2 hvo2 hvs hvv hRq2 by2 bs2 own2 sown2 hTpn hT2 hstn hUs hUa hxs sown hsT hR2 ht2 hTq hT hTs hvo by0 bs0 own0 hRq ht nq hD2 hL2 hL1 h12 hqp hsb
    gi_wp2
    refine ⟨trivial, rfl, (CallsIn.inRound _ (callsIn_wide.2 hgo)).mono ?_⟩
    rintro e w4 ⟨rfl, hb4'⟩
    clear hgo
    have k4 : ∀ q, q < W3.heap.size → w4.heap[q]? = W3.heap[q]? := fun q hq => hb4'.block q hq
    have by4 := Boxed.same Hby2.out (k4 _ Hby2.out.lt)
    have bs4 := Boxed.same Hbs2.out (k4 _ Hbs2.out.lt)
    have own4 := (Turns.of_below' (T := fun _ => False) hb4').owns Hown2.out (fun _ _ h => h)
    have sown4 := (Turns.of_below' (T := fun _ => False) hb4').owns Hsown2.out (fun _ _ h => h)
    have htx4 := HtW.out.trans (Turns.of_below' hb4')
    have hs4 := hb4'.size
    have hkq : ∀ q, ((q = W2.heap.size ∨ q = W2.heap.size + 1 ∨ q = W2.heap.size + 1 + 1) ∨ ((Value.slice pa a.length cpa).ownBlock = some q ∨ (Value.slice pb b.length cpb).ownBlock = some q)) ∨ T q ∨ q = W0.heap.size + 1 ∨ q = W0.heap.size → q < W3.heap.size := fun q hq => by
      rcases hq with hq | hq | hq
      · have := HRlt'.out q hq; omega
      · exact (HT2.out q hq).2
      · omega
    have hRx4 : ∀ q, R q → w4.heap[q]? = w.heap[q]? := fun q hq => (k4 q (by have := HRlt.out q hq; omega)).trans (HRq2.out q hq)
    cases hgq : goesOnB above st
    · have Hgq := Lib.hid hgq
      clear hgq
      by_cases hab : above = []
      · have hz : decide (0 < above.length) = false := by simp [hab]
        have Hb := Lib.hid hab
        have hstep : bandFold (pre ++ [st]) = (outs, st) := by rw [Hsn.out, Hgq.out]; simp [Hb.out]
        have hJx : J (bandFold (pre ++ [st])).1 Tp Wp := by rw [hstep]; exact HJ.out
        have hkx : ∀ q, ((q = W2.heap.size ∨ q = W2.heap.size + 1 ∨ q = W2.heap.size + 1 + 1) ∨ ((Value.slice pa a.length cpa).ownBlock = some q ∨ (Value.slice pb b.length cpb).ownBlock = some q)) ∨ T q ∨ q = W0.heap.size + 1 ∨ q = W0.heap.size → w4.heap[q]? = W3.heap[q]? := fun q hq => k4 q (hkq q hq)
        have NX := Lib.hid (fun (Wf : World) (u : Value) => band_close (Wf := Wf) (u := u) (x := st) (pre := pre) (R' := fun q => (q = W2.heap.size ∨ q = W2.heap.size + 1 ∨ q = W2.heap.size + 1 + 1) ∨ ((Value.slice pa a.length cpa).ownBlock = some q ∨ (Value.slice pb b.length cpb).ownBlock = some q)) (by omega) HRlt.out (fun q hq => by
          rcases hq with hq | hq | hq
          · exact .inl (by omega)
          · exact .inr (hRva q hq)
          · exact .inr (hRvb q hq)) HT2.out hLt hJx htx4 Hown0.out HTs2.out Hvo2.out by4 hRx4 hkx hs4 HTpn.out hWp)
        have Hst := Lib.hid hstep
        have Hbs4 := Lib.hid bs4
        have Hsown4 := Lib.hid sown4
        have c5 := bs4.cell
        have c6 := bs4.frozen
        clear hab hstep hJx hkx k4 by4 bs4 own4 sown4 htx4 hkq hRx4 hb4'
        gi_upto_region 7 with (fail)
        refine ⟨fun _ h => (by cases h), ?_⟩
        gi_wp2
        refine NX.out _ _ ?_ (Hbs4.out.set _) ?_ Hvs.out
        · refine Turns.set (p := ⟨W.heap.size + 1, 0, none⟩) ?_ (Or.inr rfl) _
          exact Turns.refl _ _
        · rw [Hst.out]
          exact (Turns.set1 _ _ _).owns (owns_mono Hsown4.out (by omega)) (fun q hq e => by have := (Hvs.out q hq).2.2; omega)
      · have hz : decide (0 < above.length) = true := by
          have := List.length_pos_iff.2 hab
          simp; omega
        obtain ⟨more, hmore⟩ := Hspl.out Hgq.out hab
        rw [← Hxs.out] at hmore
        have hstep : bandFold (pre ++ [st]) = (outs ++ [above], st) := by rw [Hsn.out, Hgq.out]; simp [hab]
        have hT1sub : ∀ q, (Tp q ∨ Wp.heap.size ≤ q) → q < w4.heap.size → (Tp q ∨ (Wp.heap.size ≤ q ∧ q < w4.heap.size)) := fun q h1 h2 => by
          rcases h1 with h1 | h1
          · exact .inl h1
          · exact .inr ⟨h1, h2⟩
        obtain ⟨fn, tmps, assign, body, hyy, hRd⟩ := HY.out outs above more Tp (fun q => Tp q ∨ (Wp.heap.size ≤ q ∧ q < w4.heap.size)) Wp w4 #[.slice pv above.length cv1] hmore HJ.out htx4
          (fun q hq => hq.elim .inl (fun h => .inr h.1)) (fun q hq => by
            rcases hq with hq | hq
            · have h1 := (HTpn.out q hq).2; have h2 := htx4.size; omega
            · exact hq.2) hRx4 ⟨_, rfl, owns_row' (enc := encR) (k := 4) (fun _ => rfl) own4, hab⟩
        have Hmore := Lib.hid hmore
        have HT1sub := Lib.hid hT1sub
        have Hstep := Lib.hid hstep
        have Hk4 := Lib.hid k4
        have Hby4 := Lib.hid by4
        have Hbs4 := Lib.hid bs4
        have Hsown4 := Lib.hid sown4
        have Hown4 := Lib.hid own4
        have Hkq := Lib.hid hkq
        have HRx4 := Lib.hid hRx4
        have Hsp4 := Lib.hid htx4.size
        have c3 := by4.cell
        have c5 := bs4.cell
        clear hab hmore hT1sub hstep k4 by4 bs4 own4 sown4 htx4 hkq hRx4 hb4' cy cv fv
        gi_wp2
        refine ⟨rfl, hRd.mono ?_⟩
        rintro e W5 (⟨rfl, hJ5, hsz5, hk5⟩ | ⟨rfl, hJ5, hsz5, hk5⟩)
        · have kb : ∀ q, W.heap.size ≤ q → q < W0.heap.size + 2 → W5.heap[q]? = w4.heap[q]? := fun q h1 h2 => hk5 q (.inr (HT1sub.out q (Hown0.out q h1 h2) (by omega)))
          have by5 := Boxed.same Hby4.out (kb _ (by omega) (by omega))
          have bs5 := Boxed.same Hbs4.out (kb _ (by omega) (by omega))
          have hJx : J (bandFold (pre ++ [st])).1 (fun q => Tp q ∨ (Wp.heap.size ≤ q ∧ q < w4.heap.size)) W5 := by rw [Hstep.out]; exact hJ5
          have hk45 : ∀ q, ((q = W2.heap.size ∨ q = W2.heap.size + 1 ∨ q = W2.heap.size + 1 + 1) ∨ ((Value.slice pa a.length cpa).ownBlock = some q ∨ (Value.slice pb b.length cpb).ownBlock = some q)) ∨ T q ∨ q = W0.heap.size + 1 ∨ q = W0.heap.size → W5.heap[q]? = W3.heap[q]? := fun q hq => by
            refine (hk5 q ?_).trans (Hk4.out q (Hkq.out q hq))
            have hlt := Hkq.out q hq
            rcases hq with (hq | hq | hq) | hq | hq
            · exact .inr (HT1sub.out q (Hown0.out q (by omega) (by omega)) (by omega))
            · exact .inl (hRva q hq)
            · exact .inl (hRvb q hq)
            · exact .inr (HT1sub.out q (HTs2.out q hq) (by omega))
            · exact .inr (HT1sub.out q (Hown0.out q (by omega) (by omega)) (by omega))
          have hsx : W3.heap.size ≤ W5.heap.size := by omega
          have sown5 := owns_same Hsown4.out (fun q hq => hk5 q (.inr (HT1sub.out q (Hvs.out q hq).1 (Hsown4.out.lt q hq).2)))
          have NX := Lib.hid (fun (Wf : World) (u : Value) => band_close (Wf := Wf) (u := u) (v := .slice pv above.length cv1) (x := st) (pre := pre) (R' := fun q => (q = W2.heap.size ∨ q = W2.heap.size + 1 ∨ q = W2.heap.size + 1 + 1) ∨ ((Value.slice pa a.length cpa).ownBlock = some q ∨ (Value.slice pb b.length cpb).ownBlock = some q)) (by omega) HRlt.out (fun q hq => by
            rcases hq with hq | hq | hq
            · exact .inl (by omega)
            · exact .inr (hRva q hq)
            · exact .inr (hRvb q hq)) HT2.out hLt hJx (Turns.refl _ W5) (fun q h1 h2 => .inl (HT1sub.out q (Hown0.out q h1 h2) (by omega))) (fun q hq => .inl (HT1sub.out q (HTs2.out q hq) (by have := (HT2.out q hq).2; omega))) (fun q hq => ⟨.inl (HT1sub.out q (Hvo2.out q hq).1 (Hown4.out.lt q hq).2), (Hvo2.out q hq).2⟩) by5 (fun q hq => (hk5 q (.inl hq)).trans (HRx4.out q hq)) hk45 hsx (fun q hq => by
              rcases hq with hq | hq
              · have := HTpn.out q hq; have := Hsp4.out; omega
              · omega) (by have := Hsp4.out; omega))
          have Hbs5 := Lib.hid bs5
          have Hsown5 := Lib.hid sown5
          have c7 := bs5.cell
          have c8 := bs5.frozen
          clear hJ5 hk5 kb by5 bs5 hJx hk45 sown5 c3 c5
          gi_wp2
          refine NX.out _ _ ?_ (Hbs5.out.set _) ?_ (fun q hq => ⟨.inl (HT1sub.out q (Hvs.out q hq).1 (Hsown4.out.lt q hq).2), (Hvs.out q hq).2⟩)
          · refine Turns.set (p := ⟨W.heap.size + 1, 0, none⟩) ?_ (Or.inr rfl) _
            exact Turns.refl _ _
          · rw [Hstep.out]
            exact (Turns.set1 _ _ _).owns (owns_mono Hsown5.out (by omega)) (fun q hq e => by have := (Hvs.out q hq).2.2; omega)
        · gi_wp2
          refine ⟨⟨rfl, _, _, W5, ⟨more, ?_⟩, hJ5, Turns.refl _ _, fun q h1 h2 => .inl (HT1sub.out q (Hown0.out q h1 h2) (by omega)), fun q hq => .inl (HT1sub.out q (HTs2.out q hq) (by have := (HT2.out q hq).2; omega))⟩, by omega, fun q hq => ?_⟩
          · rw [Hmore.out]; simp
          · refine (hk5 q ?_).trans (Hk4.out q (Hkq.out q hq))
            have hlt := Hkq.out q hq
            rcases hq with (hq | hq | hq) | hq | hq
            · exact .inr (HT1sub.out q (Hown0.out q (by omega) (by omega)) (by omega))
            · exact .inl (hRva q hq)
            · exact .inl (hRvb q hq)
            · exact .inr (HT1sub.out q (HTs2.out q hq) (by omega))
            · exact .inr (HT1sub.out q (Hown0.out q (by omega) (by omega)) (by omega))
    · have Hgq := Lib.hid hgq
      have hst0 : 0 < st.length := List.length_pos_iff.2 Hstn.out
      obtain ⟨gs, os', hps, hBs, hc⟩ := (show RowAt encR 4 w4 ps st from hss3.below hb4').rc hst0
      subst hps
      have hc0 := hc 0 hst0
      simp only [Nat.zero_mul, Nat.add_zero] at hc0
      have hh : (st.map (·.b)).headD 0 = st[0].b := by
        cases st with
        | nil => simp at hst0
        | cons r m => simp
      have hstep : bandFold (pre ++ [st]) = (outs, above.map (higher st[0].b)) := by rw [Hsn.out, Hgq.out, hh]; simp
      have hbb : -4294967296 ≤ st[0].b ∧ st[0].b ≤ 4294967296 := (HUs.out.bd st[0] (List.getElem_mem hst0)).2
      have hJx : J (bandFold (pre ++ [st])).1 Tp Wp := by rw [hstep]; exact HJ.out
      have hkx : ∀ q, ((q = W2.heap.size ∨ q = W2.heap.size + 1 ∨ q = W2.heap.size + 1 + 1) ∨ ((Value.slice pa a.length cpa).ownBlock = some q ∨ (Value.slice pb b.length cpb).ownBlock = some q)) ∨ T q ∨ q = W0.heap.size + 1 ∨ q = W0.heap.size → w4.heap[q]? = W3.heap[q]? := fun q hq => k4 q (hkq q hq)
      have NX := Lib.hid (fun (Wf : World) (u : Value) => band_close (Wf := Wf) (u := u) (v := .slice pv above.length cv1) (x := st) (pre := pre) (R' := fun q => (q = W2.heap.size ∨ q = W2.heap.size + 1 ∨ q = W2.heap.size + 1 + 1) ∨ ((Value.slice pa a.length cpa).ownBlock = some q ∨ (Value.slice pb b.length cpb).ownBlock = some q)) (by omega) HRlt.out (fun q hq => by
        rcases hq with hq | hq | hq
        · exact .inl (by omega)
        · exact .inr (hRva q hq)
        · exact .inr (hRvb q hq)) HT2.out hLt hJx htx4 Hown0.out HTs2.out Hvo2.out by4 hRx4 hkx hs4 HTpn.out hWp)
      have Hstep := Lib.hid hstep
      have Hbs4 := Lib.hid bs4
      have Hown4 := Lib.hid own4
      have HUb := Lib.hid (fun r hr => (HUa.out.bd r hr).2)
      have c5 := bs4.cell
      generalize st[0] = s0 at *
      obtain ⟨d0, d1, d2, d3⟩ := hc0
      have hmix : Tryz.prog.follows .mixedOrders = true := by kernel_rfl
      clear hgq hc hh hstep hJx hkx k4 by4 bs4 own4 sown4 htx4 hkq hRx4 hb4' cy cv fv hss3
      gi_wp2
      gi_region_with_o (refine ⟨trivial, rfl, (CallsIn.inRound _ (callsIn_wide.2 (lengthen_any W.heap.size (.slice pv above.length cv1) above s0.b _ (owns_drew Hown4.out) HUb.out hbb))).mono ?_⟩; rintro e w6 ⟨rfl, own6, ht6⟩)
      all_goals
        have Hown6 := Lib.hid own6
        have Ht6 := Lib.hid ht6
        clear own6 ht6
      all_goals gi_wp2
      all_goals refine NX.out _ _ ?_ ?_ ?_ Hvo2.out
      all_goals first
        | exact ((Turns.refl _ w4).drew.trans (Ht6.out.mono (fun _ _ h => Or.inl h)))
        | exact Ht6.out.boxed (Boxed.same Hbs4.out rfl) (fun h => by have := (Hvo2.out _ h).2.2; omega)
        | (rw [Hstep.out]; simpa using Hown6.out)

end Go.Proofs.YtajoipmchgabfaaGreat
