/- region's strips: what the iterator hands over. -/
import Derived.Test.YtajoipmchgabfaaGreatT14
namespace Go.Proofs.YtajoipmchgabfaaGreat
open Go.RowKit Go.Shelf

attribute [local go_sem] Oper.semAt_some

theorem merged_nil (p : Option Addr) (n c : Nat) (vb : Value) (w : World) (hb : Row encE 7 w vb []) : Calls Tryz.prog 83 #[.slice p n c, vb] w fun e w' => e = .returned (.slice p n c) ∧ w' = w := by
  obtain ⟨pb, cb, rfl, -, -, -⟩ := hb
  have hz : (((([] : List Ed).length : Nat) : Int) == 0) = true := by simp
  simp only [List.length_nil] at *
  go_enter Tryz.func83, Tryz.ntmps83
  go_wp2
  go_ret
  exact ⟨rfl, rfl⟩

theorem merged_all (base : Nat) (va vb : Value) (a b : List Ed) (w : World) (hown : w.ownsRow base 116 7 va a.length (flatE a)) (hb : Row encE 7 w vb b) (hnb : ∀ c, vb = .slice none 0 c → c = 0) (hbase : base ≤ w.heap.size) (hlen : a.length + b.length ≤ 1073741824) :
    Calls Tryz.prog 83 #[va, vb] w fun e w' => ∃ u, e = .returned u ∧ w'.ownsRow base 116 7 u (mergeE a b).length (flatE (mergeE a b)) ∧ Below w.heap.size w w' ∧ ∀ q, u.ownBlock = some q → va.ownBlock = some q ∨ w.heap.size ≤ q := by
  have hra := owns_row (enc := encE) (k := 7) (fun _ => rfl) hown
  by_cases hb0 : b = []
  · subst hb0
    obtain ⟨p, c, rfl, _, _, _⟩ := hra
    refine Calls.mono (merged_nil p a.length c vb w hb) ?_
    rintro e w' ⟨rfl, rfl⟩
    exact ⟨_, rfl, by rw [mergeE_nil]; exact hown, Below.refl _ _, fun q hq => .inl hq⟩
  · refine Calls.mono (merged_any va vb a b w hra hb (owns_nil_cap hown) hnb hb0 hlen) ?_
    rintro e w' ⟨u, rfl, h1, h2⟩
    exact ⟨u, rfl, owns_mono h1 hbase, h2, fun q hq => .inr (h1.lt q hq).1⟩

theorem owns_same {w W : World} {base : Nat} {e : TypeId} {size : Nat} {v : Value} {n : Nat} {xs : List Value} (h : w.ownsRow base e size v n xs) (hs : ∀ k, v.ownBlock = some k → W.heap[k]? = w.heap[k]?) : W.ownsRow base e size v n xs := by
  refine ⟨h.1, ?_⟩
  rcases h.2 with h0 | ⟨g, cap, cur, rfl, h2, h3, h4⟩
  · exact .inl h0
  · exact .inr ⟨g, cap, cur, rfl, h2, (hs g rfl).trans h3, h4⟩

/-- A strip that is handed over: a new row, which nobody else owns. -/
def ElStrip (Wp W : World) (T : Nat → Prop) (x : List Rc) (vs : Array Value) : Prop :=
  ∃ v, vs = #[v] ∧ W.ownsRow Wp.heap.size 37 4 v x.length (flatR x) ∧ x ≠ [] ∧ ∀ k, v.ownBlock = some k → ¬ T k

/-- Between two rounds of strips' loop. -/
def StripInv (w : World) (n0 N l : Nat) (a b : List Rc) (mf : Bool → Bool → Bool) (R : Nat → Prop) (J : List (List Rc) → (Nat → Prop) → World → Prop) (pre : List (Int × List Ed)) (T : Nat → Prop) (Wc : World) : Prop :=
  ∃ (Wp : World) (Tp : Nat → Prop) (v : Value) (sides : List Ed) (top : Int), J (stripsK mf a b (pre.map (·.1))) Tp Wp ∧ Turns Tp Wp Wc ∧ (∀ q, n0 ≤ q → q < N + 2 → Tp q ∨ Wp.heap.size ≤ q) ∧ (∀ q, T q → Tp q ∨ Wp.heap.size ≤ q) ∧ (∀ q, v.ownBlock = some q → (Tp q ∨ Wp.heap.size ≤ q) ∧ ¬ T q ∧ N + 1 < q) ∧
    Boxed Wc n0 93 (.func (.yield l) #[] #[]) ∧ Boxed Wc (n0 + 1) 103 v ∧ Boxed Wc (n0 + 1 + 1) 3 (.int .i64 top) ∧ Wc.ownsRow n0 116 7 v sides.length (flatE sides) ∧ SidesAre a b pre sides top ∧ (∀ q, R q → Wc.heap[q]? = w.heap[q]?) ∧ N ≤ Wc.heap.size ∧ (∀ q, Tp q → n0 ≤ q ∧ q < Wp.heap.size) ∧ n0 ≤ Wp.heap.size

/-- What a round of strips' loop owes at its end. -/
theorem strip_close {w : World} {n0 N l : Nat} {a b : List Rc} {mf : Bool → Bool → Bool} {R R' : Nat → Prop} {J : List (List Rc) → (Nat → Prop) → World → Prop} {pre : List (Int × List Ed)} {x : Int × List Ed} {T : Nat → Prop} {W2 Wx Wf : World} {Wp : World} {Tp : Nat → Prop} {v u : Value} {sides : List Ed}
    (hn : n0 + 3 ≤ N) (hRn : ∀ q, R q → q < n0) (hR' : ∀ q, R' q → n0 + 3 ≤ q ∧ q < N) (hT2 : ∀ q, T q → N + 1 < q ∧ q < W2.heap.size) (hLt : N + 1 < W2.heap.size)
    (hJ : J (stripsK mf a b ((pre ++ [x]).map (·.1))) Tp Wp) (ht : Turns Tp Wp Wx) (hown : ∀ q, n0 ≤ q → q < N + 2 → Tp q ∨ Wp.heap.size ≤ q) (hTs : ∀ q, T q → Tp q ∨ Wp.heap.size ≤ q) (hvo : ∀ q, v.ownBlock = some q → (Tp q ∨ Wp.heap.size ≤ q) ∧ ¬ T q ∧ N + 1 < q)
    (by0 : Boxed Wx n0 93 (.func (.yield l) #[] #[])) (hRx : ∀ q, R q → Wx.heap[q]? = w.heap[q]?) (hk : ∀ q, R' q ∨ T q ∨ q = N + 1 ∨ q = N → Wx.heap[q]? = W2.heap[q]?) (hsx : W2.heap.size ≤ Wx.heap.size) (hTpn : ∀ q, Tp q → n0 ≤ q ∧ q < Wp.heap.size) (hWp : n0 ≤ Wp.heap.size)
    (htf : Turns (fun q => v.ownBlock = some q ∨ q = n0 + 1 ∨ q = n0 + 1 + 1) Wx Wf) (bs : Boxed Wf (n0 + 1) 103 u) (bt : Boxed Wf (n0 + 1 + 1) 3 (.int .i64 x.1)) (own : Wf.ownsRow n0 116 7 u sides.length (flatE sides)) (hu : ∀ q, u.ownBlock = some q → v.ownBlock = some q ∨ Wx.heap.size ≤ q) (hsd : SidesAre a b (pre ++ [x]) sides x.1) :
    StripInv w n0 N l a b mf R J (pre ++ [x]) T Wf ∧ W2.heap.size ≤ Wf.heap.size ∧ ∀ q, R' q ∨ T q ∨ q = N + 1 ∨ q = N → Wf.heap[q]? = W2.heap[q]? := by
  have hsf := htf.size
  have htp : Turns Tp Wp Wf := ht.trans' htf (fun i hi h => by
    rcases h with h | h | h
    · exact (hvo i h).1.resolve_right (by omega)
    · exact (hown i (by omega) (by omega)).resolve_right (by omega)
    · exact (hown i (by omega) (by omega)).resolve_right (by omega))
  refine ⟨⟨Wp, Tp, u, sides, x.1, hJ, htp, hown, hTs, fun q hq => ?_, htf.boxed by0 (fun h => ?_), bs, bt, own, hsd, fun q hq => (htf.block q (by have := hRn q hq; omega) (fun h => ?_)).trans (hRx q hq), by omega, hTpn, hWp⟩, by omega, fun q hq => ?_⟩
  · rcases hu q hq with h | h
    · exact hvo q h
    · exact ⟨.inr (by have := ht.size; omega), fun hh => by have := (hT2 q hh).2; omega, by omega⟩
  · rcases h with h | h | h
    · have := (hvo _ h).2.2; omega
    · omega
    · omega
  · have := hRn q hq
    rcases h with h | h | h
    · have := (hvo _ h).2.2; omega
    · omega
    · omega
  · refine (htf.block q ?_ (fun h => ?_)).trans (hk q hq)
    · rcases hq with hq | hq | hq
      · have := hR' q hq; omega
      · have := hT2 q hq; omega
      · omega
    · rcases hq with hq | hq | hq
      · have := hR' q hq
        rcases h with h | h | h
        · have := (hvo _ h).2.2; omega
        · omega
        · omega
      · rcases h with h | h | h
        · exact (hvo _ h).2.1 hq
        · have := hT2 q hq; omega
        · have := hT2 q hq; omega
      · rcases h with h | h | h
        · have := (hvo _ h).2.2; omega
        · omega
        · omega

set_option maxRecDepth 100000 in
set_option maxHeartbeats 4000000 in
theorem strips_iter (Ba Bb Bm gm : Nat) (va vb : Value) (a b : List Rc) (mf : Bool → Bool → Bool) (w : World) (R : Nat → Prop) (hff : mf false false = false) (hgm : Meant gm mf)
    (hBa : Boxed w Ba 22 va) (hBb : Boxed w Bb 22 vb) (hBm : Boxed w Bm 60 (.func (.func gm) #[] #[])) (ha : Row encR 4 w va a) (hb : Row encR 4 w vb b) (hfa : ∀ r ∈ a, Fit r) (hfb : ∀ r ∈ b, Fit r) (hlen : a.length + b.length ≤ 67108864)
    (hRlt : ∀ q, R q → q < w.heap.size) (hRa : R Ba) (hRb : R Bb) (hRm : R Bm) (hRva : ∀ q, va.ownBlock = some q → R q) (hRvb : ∀ q, vb.ownBlock = some q → R q) :
    Iter Tryz.prog 79 #[.pointer (some ⟨Ba, 0, none⟩), .pointer (some ⟨Bb, 0, none⟩), .pointer (some ⟨Bm, 0, none⟩)] ElStrip R (stripsL mf a b) w := by
  intro l J Jx W hsz hRW hJ0 hY
  have ca : W.cell? ⟨Ba, 0, none⟩ = some va := (World.cell?_of_block (hRW Ba hRa)).trans hBa.cell
  have cb : W.cell? ⟨Bb, 0, none⟩ = some vb := (World.cell?_of_block (hRW Bb hRb)).trans hBb.cell
  have hRWlt : ∀ q, R q → q < W.heap.size := fun q hq => by have := hRlt q hq; omega
  have rowA : Row encR 4 W va a := ha.same (fun q hq => hRW q (hRva q hq))
  have rowB : Row encR 4 W vb b := hb.same (fun q hq => hRW q (hRvb q hq))
  obtain ⟨pa, cpa, rfl, hra1, hra2, hra3⟩ := rowA
  obtain ⟨pb, cpb, rfl, hrb1, hrb2, hrb3⟩ := rowB
  have hla := hRWlt Ba hRa
  have hlb := hRWlt Bb hRb
  have HY := Lib.hid hY
  have HRW := Lib.hid hRW
  have Hha := Lib.hid ha
  have Hhb := Lib.hid hb
  clear hY hRW ha hb
  refine callsIn_of_wp_marks Tryz.func79 rfl trivial ?_ rfl
  simp only [Tryz.ntmps79, List.size_toArray, List.length_cons, List.length_nil, Nat.reduceAdd, Nat.reduceSub, Array.replicate_succ, Array.replicate_zero, List.push_toArray, List.append_toArray, List.nil_append, List.cons_append]
  refine wpIn_wide.2 ?_
  go_upto_region 3 with (fail)
  have hb3 := Below.al3 W (.cells #[.func (.yield l) #[] #[]] 93) (.cells #[.slice none 0 0] 103) (.cells #[.int .i64 0] 3)
  have hg := heap_pushed [.cells #[.func (.yield l) #[] #[]] 93, .cells #[.slice none 0 0] 103, .cells #[.int .i64 0] 3] W
  simp only [List.foldl_cons, List.foldl_nil] at hg
  have hsz3 : (((W.alloc (.cells #[.func (.yield l) #[] #[]] 93)).alloc (.cells #[.slice none 0 0] 103)).alloc (.cells #[.int .i64 0] 3)).heap.size = W.heap.size + 3 := by simp
  generalize (((W.alloc (.cells #[.func (.yield l) #[] #[]] 93)).alloc (.cells #[.slice none 0 0] 103)).alloc (.cells #[.int .i64 0] 3)) = W3 at *
  have by3 : Boxed W3 W.heap.size 93 (.func (.yield l) #[] #[]) := (hg 0 _).2 rfl
  have bs3 : Boxed W3 (W.heap.size + 1) 103 (.slice none 0 0) := (hg 1 _).2 rfl
  have bt3 : Boxed W3 (W.heap.size + 1 + 1) 3 (.int .i64 0) := (hg 2 _).2 rfl
  have ca3 := cell_later hb3 ca
  have cb3 := cell_later hb3 cb
  have hdn := downs_any (.slice pa a.length cpa) (.slice pb b.length cpb) a b W3 ⟨pa, cpa, rfl, hra1, hra2, hra3.below hb3⟩ ⟨pb, cpb, rfl, hrb1, hrb2, hrb3.below hb3⟩ hfa hfb (by omega)
  have Hby := Lib.hid by3
  have Hbs := Lib.hid bs3
  have Hbt := Lib.hid bt3
  have Hb3 := Lib.hid hb3
  clear hg ca cb by3 bs3 bt3 hb3
  go_wp2_with fail
  refine Calls.mono hdn ?_
  rintro e w1 ⟨u, d, rfl, hdp, hds, hown, hb1⟩
  obtain ⟨pu, cu, rfl, hu1, hu2, hu3⟩ := owns_row (enc := encE) (k := 7) (fun _ => rfl) hown
  clear hdn ca3 cb3
  go_wp2_with fail
  refine Calls.mono (edges_made _ _ _ _) ?_
  rintro e w2 ⟨rfl, rfl⟩
  go_wp2_with fail
  have hb4 : Below w1.heap.size w1 ((w1.alloc (.cells #[.slice pu d.length cu] 103)).alloc (.cells #[.func (.func 88) #[] #[]] 117)) := Below.al2 _ _ _
  have hg := heap_pushed [.cells #[.slice pu d.length cu] 103, .cells #[.func (.func 88) #[] #[]] 117] w1
  simp only [List.foldl_cons, List.foldl_nil] at hg
  have hsz4 : ((w1.alloc (.cells #[.slice pu d.length cu] 103)).alloc (.cells #[.func (.func 88) #[] #[]] 117)).heap.size = w1.heap.size + 2 := by simp
  generalize ((w1.alloc (.cells #[.slice pu d.length cu] 103)).alloc (.cells #[.func (.func 88) #[] #[]] 117)) = W0 at *
  have be : Boxed W0 w1.heap.size 103 (.slice pu d.length cu) := (hg 0 _).2 rfl
  have bp : Boxed W0 (w1.heap.size + 1) 117 (.func (.func 88) #[] #[]) := (hg 1 _).2 rfl
  clear hg
  have hb30 : Below W3.heap.size W3 W0 := Below.thn hb1 hb4
  have hbW0 : Below W.heap.size W W0 := Below.thn Hb3.out hb30
  have hs31 := hb1.size
  have hsd : SortedP d := hds.pw
  have hownb : ∀ q, (Value.slice pu d.length cu).ownBlock = some q → W.heap.size + 3 ≤ q ∧ q < w1.heap.size := fun q hq => by
    have := hown.lt q hq
    rw [hsz3] at this
    exact this
  have hRlt' : ∀ q, (q = w1.heap.size ∨ q = w1.heap.size + 1 ∨ (Value.slice pu d.length cu).ownBlock = some q) → q < W0.heap.size := fun q hq => by
    rcases hq with hq | hq | hq
    · omega
    · omega
    · have := hownb q hq; omega
  have hseq := runsE_iter w1.heap.size (w1.heap.size + 1) pu cu d W0 (fun q => q = w1.heap.size ∨ q = w1.heap.size + 1 ∨ (Value.slice pu d.length cu).ownBlock = some q) be bp hu1 hu2 (hu3.below hb4) hRlt' (Or.inl rfl) (Or.inr (Or.inl rfl)) (fun q e => Or.inr (Or.inr (by rw [e]; rfl)))
  refine (wpIn_wide (n := 0)).1 ?_
  refine wpIn_rangeFunc_turns (gf := 92) rfl (enters_of Tryz.func92 (by kernel_rfl) rfl) hseq (Nat.le_refl _) (fun q hq => ⟨hRlt' q hq, rfl⟩) (fun _ _ _ _ _ ⟨v, h, _⟩ => by rw [h]; rfl)
    (StripInv w W.heap.size W0.heap.size l a b mf R J)
    (fun c _ T Wc => c = .ret ∧ ∃ pre' Tp Wp, pre' <+: stripsL mf a b ∧ Jx pre' Tp Wp ∧ Turns Tp Wp Wc ∧ (∀ q, W.heap.size ≤ q → q < W0.heap.size + 2 → Tp q ∨ Wp.heap.size ≤ q) ∧ (∀ q, T q → Tp q ∨ Wp.heap.size ≤ q))
    ?start (fun vs => { tmps := #[.func (.yield l) #[] #[], .pointer (some ⟨Ba, 0, none⟩), .pointer (some ⟨Bb, 0, none⟩), .pointer (some ⟨Bm, 0, none⟩), .pointer (some ⟨W.heap.size, 0, none⟩), .pointer (some ⟨W.heap.size + 1, 0, none⟩), .pointer (some ⟨W.heap.size + 1 + 1, 0, none⟩), vs.getD 0 undef, vs.getD 1 undef, undef, .slice pa a.length cpa, .slice pb b.length cpb, .slice pu d.length cu, .func (.func 92) #[] #[.pointer (some ⟨w1.heap.size, 0, none⟩), .pointer (some ⟨w1.heap.size + 1, 0, none⟩)], vs.getD 0 undef, vs.getD 1 undef, undef, undef, undef, undef, undef, undef, undef, undef, undef, undef, undef, undef, undef, undef, undef, undef, undef, undef, undef, undef, undef], defers := [] }) ?assign ?body ?done ?stop
  case start =>
    refine ⟨W, fun _ => False, .slice none 0 0, [], 0, hJ0, Turns.of_below' hbW0, fun q h1 _ => .inr h1, fun _ h => h.elim, fun q hq => (by cases hq), Boxed.same Hby.out (hb30.block _ Hby.out.lt), Boxed.same Hbs.out (hb30.block _ Hbs.out.lt), Boxed.same Hbt.out (hb30.block _ Hbt.out.lt), World.ownsRow_nil _ _ _ _, ⟨List.Pairwise.nil, .inl ⟨rfl, rfl, rfl⟩⟩, fun q hq => (hbW0.block q (hRWlt q hq)).trans (HRW.out q hq), Nat.le_refl _, fun _ h => h.elim, Nat.le_refl _⟩
  case assign =>
    intro l vs W K hvs hK
    obtain ⟨v0, v1, rfl⟩ := size_two hvs
    gi_wp2
    exact hK
  case done =>
    intro T Wq Wf hI htt hTp hlt hD
    obtain ⟨Wp, Tp, v, sides, top, hJ, ht, hown0, hTs, -, -, -, -, -, -, -, hN, -, -⟩ := hI
    have htf : Turns Tp Wp Wf := ht.trans' htt (fun i hi h => by
      rcases h with h | h | h
      · exact (hTs i h).resolve_right (by omega)
      · exact (hown0 i (by have := hbW0.size; omega) (by omega)).resolve_right (by omega)
      · exact (hown0 i (by have := hbW0.size; omega) (by omega)).resolve_right (by omega))
    have htf2 : Turns Tp Wp (Wf.putObj W0.heap.size (.deferred none)) := htf.trans' (Turns.put (T := fun q => q = W0.heap.size) _ _ _ rfl) (fun i hi h => by
      subst h
      exact (hown0 _ (by have := hbW0.size; omega) (by omega)).resolve_right (by omega))
    have HD := Lib.hid hD
    have Hfin := Lib.hid htf2
    have HJ := Lib.hid hJ
    have Hk := Lib.hid (keys_unique hsd hdp)
    clear hJ ht hown0 hTs htf htf2 hD htt hTp
    dsimp only
    go_wp2
    refine ⟨by simp, .inl ⟨_, _, rfl, run_takeDeferred HD.out, ?_⟩⟩
    refine ⟨_, results_none rfl _ _ _, ⟨_, rfl⟩, .inl ⟨Tp, Wp, ?_, Hfin.out⟩⟩
    have := HJ.out
    rw [Hk.out] at this
    exact this
  case stop =>
    rintro c pre T Wq Wf _ ⟨rfl, pre', Tp, Wp, hpre, hJ, ht, hown0, hTs⟩ htt hTp hlt hD
    have htf : Turns Tp Wp Wf := ht.trans' htt (fun i hi h => by
      rcases h with h | h | h
      · exact (hTs i h).resolve_right (by omega)
      · exact (hown0 i (by have := hbW0.size; omega) (by omega)).resolve_right (by omega)
      · exact (hown0 i (by have := hbW0.size; omega) (by omega)).resolve_right (by omega))
    have htf2 : Turns Tp Wp (Wf.putObj W0.heap.size (.deferred none)) := htf.trans' (Turns.put (T := fun q => q = W0.heap.size) _ _ _ rfl) (fun i hi h => by
      subst h
      exact (hown0 _ (by have := hbW0.size; omega) (by omega)).resolve_right (by omega))
    have HD := Lib.hid hD
    have Hfin := Lib.hid htf2
    have HJ := Lib.hid hJ
    clear hJ ht hown0 hTs htf htf2 hD htt hTp
    gi_wp2
    refine ⟨by simp, .inl ⟨_, _, rfl, run_takeDeferred HD.out, ?_⟩⟩
    exact ⟨_, results_none rfl _ _ _, ⟨_, rfl⟩, .inr ⟨pre', Tp, Wp, hpre, HJ.out, Hfin.out⟩⟩
  case body =>
    rintro pre ⟨y, g⟩ rest Tq T Wq Wp' W1 W2 vs hxs hI hqp hsq ht2 hTq hT hT2 hR2 ⟨v1, rfl, hrow, hvR⟩ h12 hs12 hLt - hD2 hL2
    obtain ⟨Wp, Tp, v, sides, top, hJ, ht, hown0, hTs, hvo, by0, bs0, bt0, own0, hsd0, hRq, hN, hTpn, hWp⟩ := hI
    have hn0 : W.heap.size + 3 ≤ W0.heap.size := by omega
    have nq : ∀ q, q < W0.heap.size → ¬ (Tq q ∨ q = W0.heap.size + 1 ∨ q = W0.heap.size) := fun q hq h => by
      rcases h with h | h
      · have := (hTq q h).1; omega
      · omega
    have by2 := ht2.boxed by0 (nq _ (by omega))
    have bs2 := ht2.boxed bs0 (nq _ (by omega))
    have bt2 := ht2.boxed bt0 (nq _ (by omega))
    have own2 := ht2.owns own0 (fun q hq h => by
      rcases h with h | h
      · exact (hvo q hq).2.1 h
      · have := (hvo q hq).2.2; omega)
    have htW : Turns Tp Wp W2 := ht.trans' ht2 (fun i hi h => by
      rcases h with h | h | h
      · exact (hTs i h).resolve_right (by omega)
      · exact (hown0 i (by omega) (by omega)).resolve_right (by omega)
      · exact (hown0 i (by omega) (by omega)).resolve_right (by omega))
    have hTs2 : ∀ q, T q → Tp q ∨ Wp.heap.size ≤ q := fun q hq => by
      rcases hT q hq with h | h
      · exact hTs q h
      · have := ht.size; exact .inr (by omega)
    have hvo2 : ∀ q, v.ownBlock = some q → (Tp q ∨ Wp.heap.size ≤ q) ∧ ¬ T q ∧ W0.heap.size + 1 < q := fun q hq => ⟨(hvo q hq).1, fun hh => by
      rcases hT q hh with h | h
      · exact (hvo q hq).2.1 h
      · have := (own0.lt q hq).2; omega, (hvo q hq).2.2⟩
    have hRq2 : ∀ q, R q → W2.heap[q]? = w.heap[q]? := fun q hq => (ht2.block q (by have := hRWlt q hq; omega) (nq q (by have := hRWlt q hq; omega))).trans (hRq q hq)
    have row2 : Row encE 7 W2 v1 g := hrow.turns h12 (fun q hq e => by have := hRlt' q (hvR q hq); omega)
    have hx : grp Ed.pl d = pre ++ (y, g) :: rest := hxs
    have hing : (y, g) ∈ grp Ed.pl d := by rw [hx]; simp
    have hyb : -1048576 ≤ y ∧ y ≤ 1048576 := by
      obtain ⟨e, he, h1⟩ := grp_ne (c := y) (g := g) hing
      have := (good_downs (hdp.mem_iff.1 (grp_mem hing he))).2
      rw [h1] at this
      exact this
    have htb := hsd0.top hdp hx
    have hgg : ∀ e ∈ g, GoodEd e := fun e he => (good_downs (hdp.mem_iff.1 (grp_mem hing he))).1
    have hgl : g.length ≤ 1073741824 := by
      have h1 : g.length ≤ d.length := by
        have := grp_elem hsd hing
        rw [this]; exact List.length_filter_le _ _
      have h2 := hdp.length_eq
      have h3 := edgesOf_len 0 a
      have h4 := edgesOf_len 1 b
      rw [downsL, List.length_append] at h2
      omega
    have hsl := hsd0.len
    have hcm : W2.cell? ⟨Bm, 0, none⟩ = some (.func (.func gm) #[] #[]) := (World.cell?_of_block (hRq2 Bm hRm)).trans hBm.cell
    have hcut := cut_any v sides top y gm mf W2 (owns_row (enc := encE) (k := 7) (fun _ => rfl) own2) hgm hsd0.good (by omega) htb hyb
    rw [hsd0.cut mf hff] at hcut
    have Hnil := Lib.hid (owns_nil_cap own2)
    obtain ⟨ps, cs, rfl, hs1, hs2, hs3⟩ := owns_row (enc := encE) (k := 7) (fun _ => rfl) own2
    obtain ⟨pg, cg, rfl, hg1, hg2, hg3⟩ := row2
    have e0 : (#[.int .i64 y, .slice pg g.length cg] : Array Value).getD 0 undef = .int .i64 y := rfl
    have e1 : (#[.int .i64 y, .slice pg g.length cg] : Array Value).getD 1 undef = .slice pg g.length cg := rfl
    dsimp only
    rw [e0, e1]
    clear e0 e1
    have cy := by2.cell
    have cs' := bs2.cell
    have ct := bt2.cell
    have HJ := Lib.hid hJ
    have Hown0 := Lib.hid hown0
    have HtW := Lib.hid htW
    have HTs2 := Lib.hid hTs2
    have Hvo2 := Lib.hid hvo2
    have HRq2 := Lib.hid hRq2
    have Hsd0 := Lib.hid hsd0
    have Hby2 := Lib.hid by2
    have Hbs2 := Lib.hid bs2
    have Hbt2 := Lib.hid bt2
    have Hown2 := Lib.hid own2
    have Hg3 := Lib.hid (show Row encE 7 W2 (.slice pg g.length cg) g from ⟨pg, cg, rfl, hg1, hg2, hg3⟩)
    have HTpn := Lib.hid hTpn
    have HWp := Lib.hid hWp
    have Hx := Lib.hid hx
    have HvR := Lib.hid hvR
    have HT2 := Lib.hid hT2
    have HRlt := Lib.hid hRWlt
    have HRlt' := Lib.hid hRlt'
    have Hownb := Lib.hid hownb
    have Hgg := Lib.hid hgg
    clear hJ hown0 htW hTs2 hvo2 hRq2 hsd0 by2 bs2 bt2 own2 hs3 hg3 hTpn hx hvR hT2 hrow hR2 ht2 hTq hT hTs hvo by0 bs0 bt0 own0 hRq ht nq hxs hgg hD2 hL2 h12 hqp hing
    gi_wp2
    refine ⟨trivial, rfl, (CallsIn.inRound _ (callsIn_wide.2 hcut)).mono ?_⟩
    rintro e w3 ⟨sv, rfl, sown, hb3⟩
    obtain ⟨pst, cst, rfl, hst1, hst2, hst3⟩ := owns_row' (enc := encR) (k := 4) (fun _ => rfl) sown
    have Hsn := Lib.hid (strips_next mf a b pre y g)
    have Hspl := Lib.hid (fun hne => strips_split (mf := mf) (rest := rest) hsd hdp Hx.out (y := y) (g := g) (pre := pre) hne)
    generalize nextStrip mf a b pre y = st at *
    have Hb3 := Lib.hid hb3
    have Hsown := Lib.hid sown
    have k3 : ∀ q, q < W2.heap.size → w3.heap[q]? = W2.heap[q]? := fun q hq => hb3.block q hq
    have by3 := Boxed.same Hby2.out (k3 _ Hby2.out.lt)
    have bs3 := Boxed.same Hbs2.out (k3 _ Hbs2.out.lt)
    have bt3 := Boxed.same Hbt2.out (k3 _ Hbt2.out.lt)
    have own3 := (Turns.of_below' (T := fun _ => False) hb3).owns Hown2.out (fun _ _ h => h)
    have Hk3 := Lib.hid k3
    have Hby3 := Lib.hid by3
    have Hbs3 := Lib.hid bs3
    have Hbt3 := Lib.hid bt3
    have Hown3 := Lib.hid own3
    have Hst3 := Lib.hid hst3
    have cy3 := by3.cell
    clear hcut sown hb3 cy cs' ct k3 by3 bs3 bt3 own3 hst3
    by_cases hst : st = []
    · have hl0 : st.length = 0 := by rw [hst]; rfl
      have hz : decide ((0 : Int) < (st.length : Int)) = false := by simp [hl0]
      have Hst := Lib.hid hst
      clear hst
      gi_upto_region 8 with (fail)
      refine ⟨fun _ h => (by cases h), ?_⟩
      gi_upto_region 8 with (fail)
      have hJx : J (stripsK mf a b ((pre ++ [(y, g)]).map (·.1))) Tp Wp := by rw [Hsn.out, if_pos Hst.out, List.append_nil]; exact HJ.out
      have htx := HtW.out.trans (Turns.of_below' Hb3.out)
      have hox := Hown0.out
      have hTsx := HTs2.out
      have hvox := Hvo2.out
      have byx := Hby3.out
      have bsx := Hbs3.out
      have btx := Hbt3.out
      have ownx := Hown3.out
      have rowx := Hg3.out.below Hb3.out
      have hRx : ∀ q, R q → w3.heap[q]? = w.heap[q]? := fun q hq => (Hk3.out q (by have := HRlt.out q hq; omega)).trans (HRq2.out q hq)
      have hkx : ∀ q, (q = w1.heap.size ∨ q = w1.heap.size + 1 ∨ (Value.slice pu d.length cu).ownBlock = some q) ∨ T q ∨ q = W0.heap.size + 1 ∨ q = W0.heap.size → w3.heap[q]? = W2.heap[q]? := fun q hq => Hk3.out q (by
        rcases hq with hq | hq | hq
        · have := HRlt'.out q hq; omega
        · exact (HT2.out q hq).2
        · omega)
      have hsx := Hb3.out.size
      have hTpnx := HTpn.out
      have hwo := without_any W.heap.size (.slice ps sides.length cs) sides y w3 ownx (fun e he => (Hsd0.out.good e he).1.2.2)
      have c8 := bsx.cell
      have HX := Lib.hid (And.intro hJx (And.intro htx (And.intro hox (And.intro hTsx (And.intro hvox (And.intro byx (And.intro bsx (And.intro btx (And.intro ownx (And.intro rowx (And.intro hRx (And.intro hkx (And.intro hsx hTpnx)))))))))))))
      clear hJx htx hox hTsx hvox byx bsx btx ownx rowx hRx hkx hsx hTpnx
      gi_wp2
      refine ⟨trivial, rfl, (CallsIn.inRound _ (callsIn_wide.2 hwo)).mono ?_⟩
      rintro e w5 ⟨u1, rfl, own5, hu1, ht5⟩
      obtain ⟨hJx, htx, hox, hTsx, hvox, byx, bsx, btx, ownx, rowx, hRx, hkx, hsx, hTpnx⟩ := HX.out
      have row5 : Row encE 7 w5 (.slice pg g.length cg) g := rowx.turns ht5 (fun q hq e => by
        have h1 := (hvox q e).2.2
        have h2 := HRlt'.out q (HvR.out q hq)
        omega)
      have hac := acrosses_any _ g w5 row5 Hgg.out hgl
      have Hown5 := Lib.hid own5
      have Hu1 := Lib.hid hu1
      have Ht5 := Lib.hid ht5
      have hs5 := ht5.size
      obtain ⟨p1, c1, rfl, -, -, -⟩ := owns_row (enc := encE) (k := 7) (fun _ => rfl) own5
      clear hJx htx hox hTsx hvox byx bsx btx ownx rowx hRx hkx hsx hTpnx hwo own5 hu1 ht5 row5 c8
      gi_wp2
      refine ⟨trivial, rfl, (CallsIn.inRound _ (callsIn_wide.2 hac)).mono ?_⟩
      rintro e w6 ⟨u2, acr, rfl, hap, has, own6, hb6⟩
      have own56 := (Turns.of_below' (T := fun _ => False) hb6).owns Hown5.out (fun _ _ h => h)
      have hal : acr.length ≤ 2 * g.length := by rw [hap.length_eq]; exact acrossL_len g
      have hfl : (sides.filter (fun e => !endsAt y e)).length ≤ sides.length := List.length_filter_le _ _
      have hgl2 : g.length ≤ 2 * (a.length + b.length) := by
        have h1 : g.length ≤ d.length := by
          have := grp_elem hsd (show (y, g) ∈ grp Ed.pl d by rw [Hx.out]; simp)
          rw [this]; exact List.length_filter_le _ _
        have h2 := hdp.length_eq
        have h3 := edgesOf_len 0 a
        have h4 := edgesOf_len 1 b
        rw [downsL, List.length_append] at h2
        omega
      have hb56 : W.heap.size ≤ w6.heap.size := by have h1 := HX.out.2.2.2.2.2.2.2.2.2.2.2.2.1; have h2 := hb6.size; omega
      have hme := merged_all W.heap.size _ _ _ acr w6 own56 (owns_row (enc := encE) (k := 7) (fun _ => rfl) own6) (owns_nil_cap own6) hb56 (by omega)
      have Hap := Lib.hid hap
      have Has := Lib.hid has
      have Hb6 := Lib.hid hb6
      obtain ⟨p2, c2, rfl, -, -, -⟩ := owns_row (enc := encE) (k := 7) (fun _ => rfl) own6
      clear hac hap has own6 hb6 own56 hal hfl hgl2
      gi_wp2
      refine ⟨trivial, rfl, (CallsIn.inRound _ (callsIn_wide.2 hme)).mono ?_⟩
      rintro e w7 ⟨u3, rfl, own7, hb7, hu3⟩
      obtain ⟨hJx, htx, hox, hTsx, hvox, byx, bsx, btx, ownx, rowx, hRx, hkx, hsx, hTpnx⟩ := HX.out
      have ht57 : Turns (fun q => (Value.slice ps sides.length cs).ownBlock = some q) w3 w7 := (Ht5.out.trans (Turns.of_below' Hb6.out)).trans (Turns.of_below' hb7)
      have nb : ∀ q, q < W0.heap.size → ¬ ((Value.slice ps sides.length cs).ownBlock = some q) := fun q hq h => by have := (hvox q h).2.2; omega
      have bs7 := ht57.boxed bsx (nb _ (by omega))
      have bt7 := ht57.boxed btx (nb _ (by omega))
      have hSid := Hsd0.out.next hsd hdp Hx.out (SortedPl.pw Has.out) Hap.out
      have hu3n : ∀ q, u3.ownBlock = some q → W0.heap.size ≤ q := fun q hq => by
        rcases hu3 q hq with h | h
        · rw [Hu1.out] at h
          have := (hvox q h).2.2; omega
        · have h2 := Hb6.out.size; omega
      have NX := Lib.hid (fun (Wf : World) => strip_close (Wf := Wf) (u := u3) (x := (y, g)) (sides := mergeE (sides.filter (fun e => !endsAt y e)) acr) hn0 HRlt.out (R' := fun q => q = w1.heap.size ∨ q = w1.heap.size + 1 ∨ (Value.slice pu d.length cu).ownBlock = some q) (fun q hq => ⟨by
          rcases hq with hq | hq | hq
          · omega
          · omega
          · exact (Hownb.out q hq).1, HRlt'.out q hq⟩) HT2.out hLt hJx htx hox hTsx hvox byx hRx hkx hsx hTpnx (by have := HWp.out; omega))
      have Hbs7 := Lib.hid bs7
      have Hbt7 := Lib.hid bt7
      have Hown7 := Lib.hid own7
      have Ht57 := Lib.hid ht57
      have HSid := Lib.hid hSid
      have Hu3 := Lib.hid hu3
      have Hu3n := Lib.hid hu3n
      have Hs7 := Lib.hid (show w3.heap.size ≤ w6.heap.size by have := Hb6.out.size; omega)
      obtain ⟨p3, c3, rfl, -, -, -⟩ := owns_row (enc := encE) (k := 7) (fun _ => rfl) own7
      have s1 := bs7.cell
      have s2 := bs7.frozen
      have s3 := bt7.cell
      have s4 := bt7.frozen
      clear hJx htx hox hTsx hvox byx bsx btx ownx rowx hRx hkx hsx hTpnx hme own7 hb7 hu3 hu3n ht57 nb bs7 bt7 hSid
      gi_wp2
      refine NX.out _ ?_ ?_ ?_ ?_ ?_ ?_
      · refine Turns.set (p := ⟨W.heap.size + 1 + 1, 0, none⟩) ?_ (Or.inr (Or.inr rfl)) _
        refine Turns.set (p := ⟨W.heap.size + 1, 0, none⟩) ?_ (Or.inr (Or.inl rfl)) _
        exact Ht57.out.mono (fun _ _ h => Or.inl h)
      · exact (Hbs7.out.set _).other (by omega) _
      · exact (Hbt7.out.other (by omega) _).set _
      · exact (Turns.set1 _ _ _).owns ((Turns.set1 _ _ _).owns Hown7.out (fun q hq e => by have := Hu3n.out q hq; omega)) (fun q hq e => by have := Hu3n.out q hq; omega)
      · intro q hq
        rcases Hu3.out q hq with h | h
        · rw [Hu1.out] at h; exact .inl h
        · exact .inr (by have := Hs7.out; omega)
      · exact HSid.out
    · have hl0 : 0 < st.length := List.length_pos_iff.2 hst
      have hz : decide ((0 : Int) < (st.length : Int)) = true := by simp; omega
      obtain ⟨more, hmore⟩ := Hspl.out hst
      have hbk : ∀ q, (Value.slice pst st.length cst).ownBlock = some q → W2.heap.size ≤ q := fun q hq => (Hsown.out.lt q hq).1
      have htx3 : Turns Tp Wp w3 := HtW.out.trans (Turns.of_below' Hb3.out)
      have hs3 := Hb3.out.size
      have hsp := HtW.out.size
      have hT1sub : ∀ q, (Tp q ∨ Wp.heap.size ≤ q) → q < W2.heap.size → (Tp q ∨ (Wp.heap.size ≤ q ∧ q < w3.heap.size ∧ (Value.slice pst st.length cst).ownBlock ≠ some q)) := fun q h1 h2 => by
        rcases h1 with h1 | h1
        · exact .inl h1
        · exact .inr ⟨h1, by omega, fun e => by have := hbk q e; omega⟩
      have hRx3 : ∀ q, R q → w3.heap[q]? = w.heap[q]? := fun q hq => (Hk3.out q (by have := HRlt.out q hq; omega)).trans (HRq2.out q hq)
      obtain ⟨fn, tmps, assign, body, hyy, hRd⟩ := HY.out (stripsK mf a b (pre.map (·.1))) st more Tp (fun q => Tp q ∨ (Wp.heap.size ≤ q ∧ q < w3.heap.size ∧ (Value.slice pst st.length cst).ownBlock ≠ some q)) Wp w3 #[.slice pst st.length cst] hmore HJ.out htx3
        (fun q hq => hq.elim .inl (fun h => .inr h.1)) (fun q hq => by
          rcases hq with hq | hq
          · have := (HTpn.out q hq).2; omega
          · exact hq.2.1) hRx3 ⟨_, rfl, owns_mono Hsown.out (by omega), hst, fun q hq hh => by
          rcases hh with hh | hh
          · have h1 := (HTpn.out q hh).2; have h2 := hbk q hq; omega
          · exact hh.2.2 hq⟩
      have Hmore := Lib.hid hmore
      have HT1sub := Lib.hid hT1sub
      have HRx3 := Lib.hid hRx3
      have Hst := Lib.hid hst
      clear hmore hT1sub hRx3 hst htx3 hbk
      have hkx0 : ∀ q, (q = w1.heap.size ∨ q = w1.heap.size + 1 ∨ (Value.slice pu d.length cu).ownBlock = some q) ∨ T q ∨ q = W0.heap.size + 1 ∨ q = W0.heap.size → (Tp q ∨ (Wp.heap.size ≤ q ∧ q < w3.heap.size ∧ (Value.slice pst st.length cst).ownBlock ≠ some q)) ∧ q < W2.heap.size := fun q hq => by
        rcases hq with hq | hq | hq
        · have h1 := HRlt'.out q hq
          have h2 : W.heap.size ≤ q := by
            rcases hq with hq | hq | hq
            · omega
            · omega
            · have := (Hownb.out q hq).1; omega
          exact ⟨HT1sub.out q (Hown0.out q h2 (by omega)) (by omega), by omega⟩
        · exact ⟨HT1sub.out q (HTs2.out q hq) (HT2.out q hq).2, (HT2.out q hq).2⟩
        · exact ⟨HT1sub.out q (Hown0.out q (by omega) (by omega)) (by omega), by omega⟩
      have Hkx0 := Lib.hid hkx0
      clear hkx0
      gi_wp2
      refine ⟨rfl, hRd.mono ?_⟩
      rintro e W4 (⟨rfl, hJ4, hsz4', hk4⟩ | ⟨rfl, hJx4, hsz4', hk4⟩)
      · gi_upto_region 8 with (fail)
        have hJx : J (stripsK mf a b ((pre ++ [(y, g)]).map (·.1))) (fun q => Tp q ∨ (Wp.heap.size ≤ q ∧ q < w3.heap.size ∧ (Value.slice pst st.length cst).ownBlock ≠ some q)) W4 := by rw [Hsn.out, if_neg Hst.out]; exact hJ4
        have htx : Turns (fun q => Tp q ∨ (Wp.heap.size ≤ q ∧ q < w3.heap.size ∧ (Value.slice pst st.length cst).ownBlock ≠ some q)) W4 W4 := Turns.refl _ _
        have hox : ∀ q, W.heap.size ≤ q → q < W0.heap.size + 2 → (Tp q ∨ (Wp.heap.size ≤ q ∧ q < w3.heap.size ∧ (Value.slice pst st.length cst).ownBlock ≠ some q)) ∨ W4.heap.size ≤ q := fun q h1 h2 => .inl (HT1sub.out q (Hown0.out q h1 h2) (by omega))
        have hTsx : ∀ q, T q → (Tp q ∨ (Wp.heap.size ≤ q ∧ q < w3.heap.size ∧ (Value.slice pst st.length cst).ownBlock ≠ some q)) ∨ W4.heap.size ≤ q := fun q hq => .inl (HT1sub.out q (HTs2.out q hq) (HT2.out q hq).2)
        have hvox : ∀ q, (Value.slice ps sides.length cs).ownBlock = some q → ((Tp q ∨ (Wp.heap.size ≤ q ∧ q < w3.heap.size ∧ (Value.slice pst st.length cst).ownBlock ≠ some q)) ∨ W4.heap.size ≤ q) ∧ ¬ T q ∧ W0.heap.size + 1 < q := fun q hq => ⟨.inl (HT1sub.out q (Hvo2.out q hq).1 (Hown2.out.lt q hq).2), (Hvo2.out q hq).2⟩
        have kb : ∀ q, W.heap.size ≤ q → q < W0.heap.size + 2 → W4.heap[q]? = w3.heap[q]? := fun q h1 h2 => hk4 q (.inr (HT1sub.out q (Hown0.out q h1 h2) (by omega)))
        have byx := Boxed.same Hby3.out (kb _ (by omega) (by omega))
        have bsx := Boxed.same Hbs3.out (kb _ (by omega) (by omega))
        have btx := Boxed.same Hbt3.out (kb _ (by omega) (by omega))
        have ownx := owns_same Hown3.out (fun q hq => hk4 q (.inr (HT1sub.out q (Hvo2.out q hq).1 (Hown2.out.lt q hq).2)))
        have rowx := (Hg3.out.below Hb3.out).same (fun q hq => hk4 q (.inr (Hkx0.out q (.inl (HvR.out q hq))).1))
        have hRx : ∀ q, R q → W4.heap[q]? = w.heap[q]? := fun q hq => (hk4 q (.inl hq)).trans (HRx3.out q hq)
        have hkx : ∀ q, (q = w1.heap.size ∨ q = w1.heap.size + 1 ∨ (Value.slice pu d.length cu).ownBlock = some q) ∨ T q ∨ q = W0.heap.size + 1 ∨ q = W0.heap.size → W4.heap[q]? = W2.heap[q]? := fun q hq => (hk4 q (.inr (Hkx0.out q hq).1)).trans (Hk3.out q (Hkx0.out q hq).2)
        have hsx : W2.heap.size ≤ W4.heap.size := by omega
        have hTpnx : ∀ q, (Tp q ∨ (Wp.heap.size ≤ q ∧ q < w3.heap.size ∧ (Value.slice pst st.length cst).ownBlock ≠ some q)) → W.heap.size ≤ q ∧ q < W4.heap.size := fun q hq => by
          rcases hq with hq | hq
          · have := HTpn.out q hq; omega
          · refine ⟨?_, by omega⟩
            have := HWp.out; omega
        clear hJ4 hk4 kb
        have hwo := without_any W.heap.size (.slice ps sides.length cs) sides y W4 ownx (fun e he => (Hsd0.out.good e he).1.2.2)
        have c8 := bsx.cell
        have HX := Lib.hid (And.intro hJx (And.intro htx (And.intro hox (And.intro hTsx (And.intro hvox (And.intro byx (And.intro bsx (And.intro btx (And.intro ownx (And.intro rowx (And.intro hRx (And.intro hkx (And.intro hsx hTpnx)))))))))))))
        clear hJx htx hox hTsx hvox byx bsx btx ownx rowx hRx hkx hsx hTpnx
        gi_wp2
        refine ⟨trivial, rfl, (CallsIn.inRound _ (callsIn_wide.2 hwo)).mono ?_⟩
        rintro e w5 ⟨u1, rfl, own5, hu1, ht5⟩
        obtain ⟨hJx, htx, hox, hTsx, hvox, byx, bsx, btx, ownx, rowx, hRx, hkx, hsx, hTpnx⟩ := HX.out
        have row5 : Row encE 7 w5 (.slice pg g.length cg) g := rowx.turns ht5 (fun q hq e => by
          have h1 := (hvox q e).2.2
          have h2 := HRlt'.out q (HvR.out q hq)
          omega)
        have hac := acrosses_any _ g w5 row5 Hgg.out hgl
        have Hown5 := Lib.hid own5
        have Hu1 := Lib.hid hu1
        have Ht5 := Lib.hid ht5
        have hs5 := ht5.size
        obtain ⟨p1, c1, rfl, -, -, -⟩ := owns_row (enc := encE) (k := 7) (fun _ => rfl) own5
        clear hJx htx hox hTsx hvox byx bsx btx ownx rowx hRx hkx hsx hTpnx hwo own5 hu1 ht5 row5 c8
        gi_wp2
        refine ⟨trivial, rfl, (CallsIn.inRound _ (callsIn_wide.2 hac)).mono ?_⟩
        rintro e w6 ⟨u2, acr, rfl, hap, has, own6, hb6⟩
        have own56 := (Turns.of_below' (T := fun _ => False) hb6).owns Hown5.out (fun _ _ h => h)
        have hal : acr.length ≤ 2 * g.length := by rw [hap.length_eq]; exact acrossL_len g
        have hfl : (sides.filter (fun e => !endsAt y e)).length ≤ sides.length := List.length_filter_le _ _
        have hgl2 : g.length ≤ 2 * (a.length + b.length) := by
          have h1 : g.length ≤ d.length := by
            have := grp_elem hsd (show (y, g) ∈ grp Ed.pl d by rw [Hx.out]; simp)
            rw [this]; exact List.length_filter_le _ _
          have h2 := hdp.length_eq
          have h3 := edgesOf_len 0 a
          have h4 := edgesOf_len 1 b
          rw [downsL, List.length_append] at h2
          omega
        have hb56 : W.heap.size ≤ w6.heap.size := by have h1 := HX.out.2.2.2.2.2.2.2.2.2.2.2.2.1; have h2 := hb6.size; omega
        have hme := merged_all W.heap.size _ _ _ acr w6 own56 (owns_row (enc := encE) (k := 7) (fun _ => rfl) own6) (owns_nil_cap own6) hb56 (by omega)
        have Hap := Lib.hid hap
        have Has := Lib.hid has
        have Hb6 := Lib.hid hb6
        obtain ⟨p2, c2, rfl, -, -, -⟩ := owns_row (enc := encE) (k := 7) (fun _ => rfl) own6
        clear hac hap has own6 hb6 own56 hal hfl hgl2
        gi_wp2
        refine ⟨trivial, rfl, (CallsIn.inRound _ (callsIn_wide.2 hme)).mono ?_⟩
        rintro e w7 ⟨u3, rfl, own7, hb7, hu3⟩
        obtain ⟨hJx, htx, hox, hTsx, hvox, byx, bsx, btx, ownx, rowx, hRx, hkx, hsx, hTpnx⟩ := HX.out
        have ht57 : Turns (fun q => (Value.slice ps sides.length cs).ownBlock = some q) W4 w7 := (Ht5.out.trans (Turns.of_below' Hb6.out)).trans (Turns.of_below' hb7)
        have nb : ∀ q, q < W0.heap.size → ¬ ((Value.slice ps sides.length cs).ownBlock = some q) := fun q hq h => by have := (hvox q h).2.2; omega
        have bs7 := ht57.boxed bsx (nb _ (by omega))
        have bt7 := ht57.boxed btx (nb _ (by omega))
        have hSid := Hsd0.out.next hsd hdp Hx.out (SortedPl.pw Has.out) Hap.out
        have hu3n : ∀ q, u3.ownBlock = some q → W0.heap.size ≤ q := fun q hq => by
          rcases hu3 q hq with h | h
          · rw [Hu1.out] at h
            have := (hvox q h).2.2; omega
          · have h2 := Hb6.out.size; omega
        have NX := Lib.hid (fun (Wf : World) => strip_close (Wf := Wf) (u := u3) (x := (y, g)) (sides := mergeE (sides.filter (fun e => !endsAt y e)) acr) hn0 HRlt.out (R' := fun q => q = w1.heap.size ∨ q = w1.heap.size + 1 ∨ (Value.slice pu d.length cu).ownBlock = some q) (fun q hq => ⟨by
            rcases hq with hq | hq | hq
            · omega
            · omega
            · exact (Hownb.out q hq).1, HRlt'.out q hq⟩) HT2.out hLt hJx htx hox hTsx hvox byx hRx hkx hsx hTpnx (by omega))
        have Hbs7 := Lib.hid bs7
        have Hbt7 := Lib.hid bt7
        have Hown7 := Lib.hid own7
        have Ht57 := Lib.hid ht57
        have HSid := Lib.hid hSid
        have Hu3 := Lib.hid hu3
        have Hu3n := Lib.hid hu3n
        have Hs7 := Lib.hid (show W4.heap.size ≤ w6.heap.size by have := Hb6.out.size; omega)
        obtain ⟨p3, c3, rfl, -, -, -⟩ := owns_row (enc := encE) (k := 7) (fun _ => rfl) own7
        have s1 := bs7.cell
        have s2 := bs7.frozen
        have s3 := bt7.cell
        have s4 := bt7.frozen
        clear hJx htx hox hTsx hvox byx bsx btx ownx rowx hRx hkx hsx hTpnx hme own7 hb7 hu3 hu3n ht57 nb bs7 bt7 hSid
        gi_wp2
        refine NX.out _ ?_ ?_ ?_ ?_ ?_ ?_
        · refine Turns.set (p := ⟨W.heap.size + 1 + 1, 0, none⟩) ?_ (Or.inr (Or.inr rfl)) _
          refine Turns.set (p := ⟨W.heap.size + 1, 0, none⟩) ?_ (Or.inr (Or.inl rfl)) _
          exact Ht57.out.mono (fun _ _ h => Or.inl h)
        · exact (Hbs7.out.set _).other (by omega) _
        · exact (Hbt7.out.other (by omega) _).set _
        · exact (Turns.set1 _ _ _).owns ((Turns.set1 _ _ _).owns Hown7.out (fun q hq e => by have := Hu3n.out q hq; omega)) (fun q hq e => by have := Hu3n.out q hq; omega)
        · intro q hq
          rcases Hu3.out q hq with h | h
          · rw [Hu1.out] at h; exact .inl h
          · exact .inr (by have := Hs7.out; omega)
        · exact HSid.out
      · gi_wp2
        refine ⟨⟨rfl, _, _, W4, ⟨more, ?_⟩, hJx4, Turns.refl _ _, fun q h1 h2 => .inl (HT1sub.out q (Hown0.out q h1 h2) (by omega)), fun q hq => .inl (HT1sub.out q (HTs2.out q hq) (HT2.out q hq).2)⟩, by omega, fun q hq => (hk4 q (.inr (Hkx0.out q hq).1)).trans (Hk3.out q (Hkx0.out q hq).2)⟩
        rw [Hmore.out]; simp

end Go.Proofs.YtajoipmchgabfaaGreat
