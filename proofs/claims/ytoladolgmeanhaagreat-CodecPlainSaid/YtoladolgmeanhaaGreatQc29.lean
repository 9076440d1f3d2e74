/- Several texts in one, each with its own head. -/
import Derived.Test.YtoladolgmeanhaaGreatQc25
import Derived.Test.YtoladolgmeanhaaGreatQc28
import Derived.Test.YtoladolgmeanhaaGreatQc18
import Derived.Test.YtoladolgmeanhaaGreatQc15
/- deflate: bestCodes. -/
namespace Go.Proofs.YtoladolgmeanhaaGreat
open Go.RowKit Go.Shelf

attribute [local go_sem] Oper.semAt_some

def cntP (xs : List Pa) (a b : Nat) : Nat := xs.countP fun y => decide (y.c = a ∧ y.s = b)
theorem cntP_le (xs : List Pa) (a b : Nat) : cntP xs a b ≤ xs.length := List.countP_le_length
theorem cntP_snoc (xs : List Pa) (x : Pa) (a b : Nat) : cntP (xs ++ [x]) a b = if a = x.c ∧ b = x.s then cntP xs x.c x.s + 1 else cntP xs a b := by
  unfold cntP
  rw [List.countP_append]
  by_cases h : a = x.c ∧ b = x.s
  · rw [if_pos h, h.1, h.2]; simp
  · rw [if_neg h]
    have : ¬ (x.c = a ∧ x.s = b) := fun h' => h ⟨h'.1.symm, h'.2.symm⟩
    simp [this]
def cdrL (ls : Nat → List Nat) (ga ca gc cc : Nat → Nat) (j : Nat) : List Value := (List.range j).flatMap fun a => [.slice (some ⟨ga a, 0, none⟩) (ls a).length (ca a), .slice (some ⟨gc a, 0, none⟩) (ls a).length (cc a)]
structure BsC (W : World) (lim : Nat) (fs : Nat → List Int) (j : Nat) (v : Value) (gg ga ca gc cc : Nat → Nat → Nat) (w : World) : Prop where
  own : w.ownsRow W.heap.size 135 2 v j (cdrL (fun a => gl (gg a) (fs a).length) (ga 0) (ca 0) (gc 0) (cc 0) j)
  cdr : ∀ a, a < j → ∃ cv, Cdr w W.heap.size cv (gl (gg a) (fs a).length) (ga 0 a) (ca 0 a) (gc 0 a) (cc 0 a)
  ne : ∀ a, a < j → v.ownBlock ≠ some (ga 0 a) ∧ v.ownBlock ≠ some (gc 0 a)
  ok : ∀ a, a < j → LensOk (fs a) lim (gg a) ∧ (many (fs a).length (fq (fs a)) ≠ 1 → LensD (fs a) lim (gg a))
def upd (f : Nat → Nat) (j x : Nat) (a : Nat) : Nat := if a = j then x else f a
theorem cdrL_succ (L : Nat → List Nat) (ga ca gc cc : Nat → Nat) (j : Nat) : cdrL L ga ca gc cc (j + 1) = cdrL L ga ca gc cc j ++ [.slice (some ⟨ga j, 0, none⟩) (L j).length (ca j), .slice (some ⟨gc j, 0, none⟩) (L j).length (cc j)] := by
  unfold cdrL
  rw [List.range_succ, List.flatMap_append, List.flatMap_singleton]
theorem cdrL_congr {L L' : Nat → List Nat} {ga ca gc cc ga' ca' gc' cc' : Nat → Nat} {j : Nat} (h : ∀ a, a < j → (L a).length = (L' a).length ∧ ga a = ga' a ∧ ca a = ca' a ∧ gc a = gc' a ∧ cc a = cc' a) : cdrL L ga ca gc cc j = cdrL L' ga' ca' gc' cc' j := by
  induction j with
  | zero => rfl
  | succ j ih =>
    rw [cdrL_succ, cdrL_succ, ih fun a ha => h a (by omega)]
    obtain ⟨e1, e2, e3, e4, e5⟩ := h j (by omega)
    rw [e1, e2, e3, e4, e5]
theorem BsC.push {W w w' : World} {lim j : Nat} {fs : Nat → List Int} {v v' : Value} {gg ga ca gc cc : Nat → Nat → Nat} (h : BsC W lim fs j v gg ga ca gc cc w) (ht : ∀ a g, a < j → (g = ga 0 a ∨ g = gc 0 a) → w'.heap[g]? = w.heap[g]?) {g : Nat → Nat} {xa ya xc yc : Nat} {cv : Value}
    (ho : w'.ownsRow W.heap.size 135 2 v' (j + 1) (cdrL (fun a => gl (gg a) (fs a).length) (ga 0) (ca 0) (gc 0) (cc 0) j ++ [.slice (some ⟨xa, 0, none⟩) (fs j).length ya, .slice (some ⟨xc, 0, none⟩) (fs j).length yc]))
    (hn : ∀ a, a < j → v'.ownBlock ≠ some (ga 0 a) ∧ v'.ownBlock ≠ some (gc 0 a)) (hn2 : v'.ownBlock ≠ some xa ∧ v'.ownBlock ≠ some xc)
    (hc : Cdr w' W.heap.size cv (gl g (fs j).length) xa ya xc yc) (hok : LensOk (fs j) lim g ∧ (many (fs j).length (fq (fs j)) ≠ 1 → LensD (fs j) lim g)) :
    BsC W lim fs (j + 1) v' (fun a => if a = j then g else gg a) (fun _ => upd (ga 0) j xa) (fun _ => upd (ca 0) j ya) (fun _ => upd (gc 0) j xc) (fun _ => upd (cc 0) j yc) w' := by
  have hne : ∀ (f : Nat → Nat) (x a : Nat), a < j → upd f j x a = f a := fun f x a ha => if_neg (by omega)
  have heq : ∀ (f : Nat → Nat) (x : Nat), upd f j x j = x := fun f x => if_pos rfl
  refine ⟨?_, fun a ha => ?_, fun a ha => ?_, fun a ha => ?_⟩
  · rw [cdrL_succ, heq, heq, heq, heq]
    simp only [if_pos, gl_len]
    rw [cdrL_congr (L' := fun a => gl (gg a) (fs a).length) (ga' := ga 0) (ca' := ca 0) (gc' := gc 0) (cc' := cc 0) fun a ha => ⟨by rw [gl_len, gl_len], hne _ _ a ha, hne _ _ a ha, hne _ _ a ha, hne _ _ a ha⟩]
    exact ho
  · by_cases e : a = j
    · subst e
      rw [heq, heq, heq, heq]
      simp only [if_pos]
      exact ⟨cv, hc⟩
    · have ha' : a < j := by omega
      obtain ⟨cv', h1⟩ := h.cdr a ha'
      rw [hne _ _ a ha', hne _ _ a ha', hne _ _ a ha', hne _ _ a ha']
      simp only [if_neg e]
      obtain ⟨cur, t, a1, a2⟩ := h1.oa
      obtain ⟨cur', t', b1, b2⟩ := h1.oc
      exact ⟨cv', h1.e, h1.a, h1.c, h1.ka, h1.km, ⟨cur, t, (ht a _ ha' (.inl rfl)).trans a1, a2⟩, ⟨cur', t', (ht a _ ha' (.inr rfl)).trans b1, b2⟩⟩
  · by_cases e : a = j
    · subst e
      rw [heq, heq]
      exact hn2
    · rw [hne _ _ a (by omega), hne _ _ a (by omega)]
      exact hn a (by omega)
  · by_cases e : a = j
    · subst e
      simp only [if_pos]
      exact hok
    · simp only [if_neg e]
      exact h.ok a (by omega)
theorem BsC.keep {W w w' : World} {lim j N : Nat} {fs : Nat → List Int} {v : Value} {gg ga ca gc cc : Nat → Nat → Nat} (h : BsC W lim fs j v gg ga ca gc cc w) (ht : Turns (fun b => b = N) w w') (hv : v.ownBlock ≠ some N) (hN : w.heap[N]? = some (.deferred (some []))) : BsC W lim fs j v gg ga ca gc cc w' := by
  refine ⟨ht.owns h.own (fun k hk e => hv (e ▸ hk)), fun a ha => ?_, h.ne, h.ok⟩
  obtain ⟨cv, h1⟩ := h.cdr a ha
  refine ⟨cv, h1.turns ht (fun e => ?_) (fun e => ?_)⟩
  · obtain ⟨cur, t, a1, -⟩ := h1.oa
    rw [e, hN] at a1
    cases a1
  · obtain ⟨cur, t, a1, -⟩ := h1.oc
    rw [e, hN] at a1
    cases a1
set_option maxRecDepth 100000 in
set_option maxHeartbeats 4000000 in
theorem dbest_any {R : Nat → Prop} (gf : Nat) (lb : Array Value) (xs : List Pa) (lim gs cs k : Nat) (ns : Nat → Nat) (W : World) (eg : ∀ args w, (callFunc gf args).run Tryz.prog w = .ok (.enter gf args) w)
    (hseq : Iter Tryz.prog gf lb ElPa R xs W) (hR : ∀ b, R b → b < W.heap.size) (hk : k ≤ 16) (hs : ∀ j, j < k → W.cell? ⟨gs, j, none⟩ = some (.int .i64 ((ns j : Nat) : Int))) (hn : ∀ j, j < k → ns j ≤ 320) (hx : ∀ x ∈ xs, x.c < k ∧ x.s < ns x.c) (hl : xs.length ≤ 4194304) (h15 : lim ≤ 15) (h0 : ∀ j, j < k → 0 < ns j)
    (hmb : ∀ j, j < k → mayB (ctZ (cntP xs j) (ns j)) (lim : Int) = true ∧ many (ns j) (fq (ctZ (cntP xs j) (ns j))) ≤ 2 ^ lim) :
    Calls Tryz.prog 83 #[.func (.func gf) #[] lb, .int .i64 (lim : Int), .slice (some ⟨gs, 0, none⟩) k cs] W fun e w' => ∃ v gg ga ca gc cc, e = .returned v ∧ BsC W lim (fun j => ctZ (cntP xs j) (ns j)) k v gg ga ca gc cc w' ∧ Below W.heap.size W w' := by
  have Hmb := Lib.hid hmb
  have Hn0 := Lib.hid h0
  have Hseq := Lib.hid hseq
  have HR := Lib.hid hR
  have Hs := Lib.hid hs
  have Hn := Lib.hid hn
  have Hx := Lib.hid hx
  clear hseq hR hs hn hx h0 hmb
  refine (callsIn_wide (n := 0)).1 ?_
  refine callsIn_of_wp_marks Tryz.func83 rfl trivial ?_ rfl
  simp only [Tryz.ntmps83, List.size_toArray, List.length_cons, List.length_nil, Nat.reduceAdd, Nat.reduceSub, Array.replicate_succ, Array.replicate_zero, List.push_toArray, List.append_toArray, List.nil_append, List.cons_append]
  refine wpIn_wide.2 ?_
  have hmk : ∀ w : World, (Instr.makeSlice 174 (.int .i64 (k : Int)) (.int .i64 (k : Int))).run Tryz.prog w = .ok (.slice (some ⟨w.heap.size, 0, none⟩) k k) (w.alloc (.cells (fqR (fun _ => 0) ns 0 k).toArray 144)) := make_fq _ _ _ (by omega)
  go_upto_region 3 with (fail)
  have hI0 : FqI W (W.heap.size + 1) W.heap.size k 0 (fun _ => 0) ns (fun _ _ => 0) ((W.alloc (.cells (fqR (fun _ => 0) ns 0 k).toArray 144)).alloc (.cells #[.slice (some ⟨W.heap.size, 0, none⟩) k k] 174)) := by
    have hg := heap_pushed [.cells (fqR (fun _ => 0) ns 0 k).toArray 144, .cells #[.slice (some ⟨W.heap.size, 0, none⟩) k k] 174] W
    simp only [List.foldl_cons, List.foldl_nil] at hg
    exact ⟨Below.al (Below.al1 _ _) _, (hg 1 _).2 rfl, (hg 0 _).2 rfl, fun j hj => absurd hj (Nat.not_lt_zero j), ⟨by omega, Nat.le_refl _, by omega⟩, fun j hj => absurd hj (Nat.not_lt_zero j), fun j _ hj => absurd hj (Nat.not_lt_zero j)⟩
  generalize (W.alloc (.cells (fqR (fun _ => 0) ns 0 k).toArray 144)).alloc (.cells #[.slice (some ⟨W.heap.size, 0, none⟩) k k] 174) = W1 at *
  obtain ⟨bx, hbx⟩ : ∃ b, W.heap.size + 1 = b := ⟨_, rfl⟩
  obtain ⟨F, hF⟩ : ∃ b, W.heap.size = b := ⟨_, rfl⟩
  rw [hbx, hF] at hI0
  rw [hbx, hF]
  have HI0 := Lib.hid hI0
  have Hbx := Lib.hid (And.intro hbx hF)
  clear hI0 hmk hbx hF
  go_loopw [21] (fun iv wr => ∃ (i : Nat) (fb : Nat → Nat), iv = .int .i64 (i : Int) ∧ i ≤ k ∧ Hid (FqI W bx F k i fb ns (fun _ _ => 0) wr)) (fun iv _ => k - (intOf iv).toNat)
  case atStart => exact ⟨0, fun _ => 0, rfl, Nat.zero_le _, HI0⟩
  case round =>
    obtain ⟨i, fb, rfl, hi, HI⟩ := hrel
    by_cases hin : i < k
    · have d0 : decide ((i : Int) < (k : Int)) = true := by simp; omega
      have j0 : (0 : Int) ≤ (i : Int) := by omega
      have j1 : (i : Int) < (k : Int) := by omega
      have hc := cell_later HI.out.bw (Hs.out i hin)
      have hni := Hn.out i hin
      obtain ⟨n, hnn⟩ : ∃ n, ns i = n := ⟨_, rfl⟩
      rw [hnn] at hc hni
      have Hnn := Lib.hid hnn
      have cb : wr.cell? ⟨bx, 0, none⟩ = some (.slice (some ⟨F, 0, none⟩) k k) := cell_heap HI.out.box rfl
      have ff : wr.frozen? ⟨F, i, none⟩ = false := by simp [World.frozen?, HI.out.tab]
      obtain ⟨vf, hvf⟩ : ∃ v, wr.cell? ⟨F, i, none⟩ = some v := ⟨.slice none 0 0, cell_heap HI.out.tab (by
        rw [List.getElem?_toArray]
        unfold fqR
        rw [List.getElem?_map, List.getElem?_range hin]
        show some (if i < i then _ else _) = _
        rw [if_neg (Nat.lt_irrefl i)])⟩
      have hmk : ∀ w : World, (Instr.makeSlice 144 (.int .i64 (n : Int)) (.int .i64 (n : Int))).run Tryz.prog w = .ok (.slice (some ⟨w.heap.size, 0, none⟩) n n) (w.alloc (.cells (ctW (fun _ => 0) n).toArray 3)) := make_ct _ (by omega)
      have hbl := lt_heap HI.out.box
      have hFl := lt_heap HI.out.tab
      have hbF := HI.out.lo.2.2
      clear hnn
      go_upto_region 5 with (fail)
      go_region
      have HI2 := Lib.hid (HI.out.pushW (w' := (wr.setCell ⟨F, i, none⟩ (.slice (some ⟨wr.heap.size, 0, none⟩) n n)).alloc (.cells (ctW (fun _ => 0) n).toArray 3)) (fun _ => rfl) (by rw [Hnn.out]))
      generalize ((wr.setCell ⟨F, i, none⟩ (.slice (some ⟨wr.heap.size, 0, none⟩) n n)).alloc (.cells (ctW (fun _ => 0) n).toArray 3)).drew = w5 at *
      clear hc cb ff hvf
      go_wp2
      go_roundw
      case rel => exact ⟨i + 1, _, by go_num, by omega, HI2⟩
      case measure => simp [intOf]; omega
    · obtain rfl : i = k := by omega
      have d0 : decide ((i : Int) < (i : Int)) = false := by simp
      go_wp2_with fail
      have hwr := HI.out.bw.size
      obtain ⟨N, hN⟩ : ∃ N, wr.heap.size = N := ⟨_, rfl⟩
      refine (wpIn_wide (n := 0)).1 ?_
      refine wpIn_rangeFunc_made (gf := gf) (El := ElPa) (xs := xs) (w0 := W) ?hg ?eg Hseq.out ?hs0 ?hRr VsPa asgPa ?hps ?hasg
        (fun pre _ W' => FqI W bx F i i fb ns (cntP pre) W') (fun _ _ _ _ => False) ?start
        (fun vs W' => { tmps := #[.func (.func gf) #[] lb, .int .i64 (lim : Int), .slice (some ⟨gs, 0, none⟩) i cs, undef, undef, undef, .slice none 0 0, .pointer (some ⟨bx, 0, none⟩), u8, u9, .pointer (some ⟨W'.heap.size, 0, none⟩), undef, undef, undef, undef, undef, .slice (some ⟨gs, 0, none⟩) i cs, .int .i64 (i : Int), .slice (some ⟨F, 0, none⟩) i i, .slice (some ⟨gs, 0, none⟩) i cs, .int .i64 (i : Int), .int .i64 (i : Int), .bool false, u23, u24, u25, u26, u27, u28, u29, u30, u31, .func (.func gf) #[] lb, vs.getD 0 undef, undef, undef, undef, undef, undef, undef, undef, undef, undef, undef, undef, undef, undef, undef, undef, undef, undef, undef, undef, undef, undef, undef, undef, undef, undef, undef, undef, undef, undef, undef], defers := [] }) ?assign ?body ?done ?stop
      case hg => rfl
      case eg => exact eg
      case hs0 => exact hwr
      case hRr => exact fun q hq => ⟨Nat.lt_of_lt_of_le (HR.out q hq) hwr, HI.out.bw.block q (HR.out q hq)⟩
      case hps =>
        rintro _ _ _ x _ h
        rw [h]; exact ⟨rfl, x, rfl⟩
      case hasg =>
        rintro _ W' ⟨x, rfl⟩
        exact Below.al1 W' _
      case start => exact HI.out
      case assign =>
        rintro l _ W' K ⟨x, rfl⟩ hK
        gi_wp2
        first
          | exact hK
          | simpa using hK
          | simpa [Array.zip, Array.zipWith, asgPa] using hK
      case stop => exact fun _ _ _ _ _ _ h => h.elim
      case body =>
        rintro pre x rest Tp T Wq Wp W1' W2 vs hxs hI htqp hsq hsq1 ht2 hTp hT hT2 hR2 hEl h12 hs12 h1a hLt hL1 hD2 hL2
        simp only [hN] at ht2 hTp hT2 h12 hLt hL1 hD2 hL2 htqp ⊢
        obtain rfl : vs = #[PaV x] := hEl
        obtain ⟨r0, hr0⟩ := hL1
        have hnlt : N + 1 < W1'.heap.size := lt_heap hr0
        have hpa : PaAt W2 W1'.heap.size x := (h1a.block _ (by show W1'.heap.size < (W1'.alloc _).heap.size; rw [World.size_alloc]; omega) (by omega)).trans (pa_new W1' x)
        obtain ⟨pb, hpb⟩ : ∃ pb, W1'.heap.size = pb := ⟨_, rfl⟩
        rw [hpb] at hpa hnlt ⊢
        obtain ⟨o1, o2⟩ := Hx.out x (by rw [hxs]; simp)
        have hbN : bx < N := by rw [← hN]; exact lt_heap HI.out.box
        have hFN : F < N := by rw [← hN]; exact lt_heap HI.out.tab
        have hfN : ∀ j, j < i → fb j < N := fun j hj => by rw [← hN]; exact lt_heap (HI.out.row j hj)
        have nT : ∀ b, b < N → ¬ (Tp b ∨ b = N + 1 ∨ b = N) := fun b hb h => by
          rcases h with h | h | h
          · have := (hTp b h).1; omega
          · omega
          · omega
        have hI2 : FqI W bx F i i fb ns (cntP pre) W2 := hI.turns ht2 (hI.bw.trans (ht2.below hI.bw.size fun b hb => by
          rcases hb with hb | hb | hb
          · have := (hTp b hb).1; omega
          · omega
          · omega)) (nT _ hbN) (nT _ hFN) (fun j hj => nT _ (hfN j hj))
        have HI2 := Lib.hid hI2
        have cbx : W2.cell? ⟨bx, 0, none⟩ = some (.slice (some ⟨F, 0, none⟩) i i) := cell_heap hI2.box rfl
        have cF : W2.cell? ⟨F, x.c, none⟩ = some (.slice (some ⟨fb x.c, 0, none⟩) (ns x.c) (ns x.c)) := cell_heap hI2.tab (by rw [List.getElem?_toArray, fqR_at fb ns o1 o1])
        have cR : W2.cell? ⟨fb x.c, x.s, none⟩ = some (.int .i64 ((cntP pre x.c x.s : Nat) : Int)) := cell_heap (hI2.row x.c o1) (by rw [List.getElem?_toArray, ctW_at _ o2])
        have hcle := cntP_le pre x.c x.s
        have hpre : pre.length ≤ 4194304 := by
          have := congrArg List.length hxs
          rw [List.length_append] at this; omega
        obtain ⟨p0, p1, p2, p3⟩ := hpa.c
        have Hxs := Lib.hid hxs
        have HfN := Lib.hid (hfN x.c o1)
        have hnx := Hn.out x.c o1
        have hfW : W.heap.size ≤ fb x.c := (hI2.ne x.c o1).1
        have Hk := Lib.hid (And.intro o1 (And.intro hT2 (And.intro hLt (lt_heap hpa))))
        obtain ⟨⟨xc0, xs0, xm0, xz0⟩, hxx⟩ : ∃ q : Pa, q = x := ⟨x, rfl⟩
        subst hxx
        simp only at p0 p1 p2 p3 o1 o2 cF cR hcle hnx hfW HfN Hk
        obtain ⟨m, hm⟩ : ∃ m, cntP pre xc0 xs0 = m := ⟨_, rfl⟩
        rw [hm] at cR hcle
        have Hm := Lib.hid hm
        obtain ⟨fc, hfc⟩ : ∃ fc, fb xc0 = fc := ⟨_, rfl⟩
        rw [hfc] at cF cR hfW HfN
        have Hfc := Lib.hid hfc
        obtain ⟨nc, hnc⟩ : ∃ nc, ns xc0 = nc := ⟨_, rfl⟩
        rw [hnc] at cF o2 hnx
        have i0 : (0 : Int) ≤ (xc0 : Int) := by omega
        have i1 : (xc0 : Int) < (i : Int) := by omega
        have i2 : (0 : Int) ≤ (xs0 : Int) := by omega
        have i3 : (xs0 : Int) < (nc : Int) := by omega
        have hw1 : IntKind.i64.wrap ((m : Int) + 1) = ((m + 1 : Nat) : Int) := by rw [IntWalk.i64_in _ (by omega)]; omega
        clear hI ht2 hTp hT h12 hs12 h1a hD2 hL2 htqp hsq hsq1 hpa hxs hr0 hnlt hI2 nT hfN hm hfc hnc
        have e0 : (#[PaV ⟨xc0, xs0, xm0, xz0⟩] : Array Value).getD 0 undef = PaV ⟨xc0, xs0, xm0, xz0⟩ := rfl
        rw [e0]
        clear e0
        have hqq := After.ne W2
        have C0 := After.rule cbx
        have C1 := After.rule cF
        have C2 := After.rule cR
        have C3 := After.rule p0
        have C4 := After.rule p1
        gi_wp2
        refine wpIn_region_head 11 (by kernel_rfl) (by kernel_rfl) (by kernel_rfl) (by kernel_rfl) (fun h => by obtain ⟨_, _, h⟩ := h; exact h) ?_
        repeat (refine Lq_step (fun K hK => ?_); go_simp; (refine hK _ ?_; clear hK K))
        refine Lq_nil ?_
        intro w3 hb3
        simp only [List.drop_succ_cons, List.drop_zero]
        have HI3 := Lib.hid (HI2.out.below hb3)
        have c3 := cell_later hb3 cR
        have f3 : w3.frozen? ⟨fc, xs0, none⟩ = false := by
          have := HI3.out.row xc0 o1
          rw [Hfc.out] at this
          simp [World.frozen?, this]
        have Hb3 := Lib.hid hb3
        clear C0 C1 C2 C3 C4 hqq hb3 cbx cF cR p0 p1 p2 p3
        go_wp2
        gi_wp2
        have hI5 := HI3.out.count (j := xc0) (s := xs0) (v := m + 1) o1 (cntP (pre ++ [⟨xc0, xs0, xm0, xz0⟩])) (fun a b => by rw [cntP_snoc, Hm.out])
        rw [Hfc.out] at hI5
        have hoth : ∀ b, b ≠ fc → b < W2.heap.size → (w3.setCell ⟨fc, xs0, none⟩ (.int .i64 ((m + 1 : Nat) : Int))).heap[b]? = W2.heap[b]? := fun b hb hl => (Below.heap_setCell _ _ _ b (fun e => hb (by simpa using e))).trans (Hb3.out.block b hl)
        obtain ⟨-, k2, k3, k4⟩ := Hk.out
        have hfl := HfN.out
        refine ⟨hI5, by have := Hb3.out.size; simpa using this, fun b hb => hoth b ?_ ?_⟩
        · rcases hb with hb | hb | hb | hb
          · have := HR.out b hb; omega
          · have := (k2 b hb).1; omega
          · omega
          · omega
        · rcases hb with hb | hb | hb | hb
          · have := HR.out b hb; omega
          · exact (k2 b hb).2
          · omega
          · omega
      case done =>
        intro Tp Wq W' hI htt hTp hlt hD
        rw [hN] at htt hTp hlt hD
        have hbN : bx < N := by rw [← hN]; exact lt_heap HI.out.box
        have hFN : F < N := by rw [← hN]; exact lt_heap HI.out.tab
        have hfN : ∀ j, j < i → fb j < N := fun j hj => by rw [← hN]; exact lt_heap (HI.out.row j hj)
        have nT : ∀ b, b < N → ¬ (Tp b ∨ b = N + 1 ∨ b = N) := fun b hb h => by
          rcases h with h | h | h
          · have := hTp b h; omega
          · omega
          · omega
        have hI2 : FqI W bx F i i fb ns (cntP xs) W' := hI.turns htt (hI.bw.trans (htt.below hI.bw.size fun b hb => by
          rcases hb with hb | hb | hb
          · have := hTp b hb; omega
          · omega
          · omega)) (nT _ hbN) (nT _ hFN) (fun j hj => nT _ (hfN j hj))
        rw [hN]
        have HD := Lib.hid hD
        have HI2 := Lib.hid hI2
        have HfN := Lib.hid hfN
        have cbx : W'.cell? ⟨bx, 0, none⟩ = some (.slice (some ⟨F, 0, none⟩) i i) := cell_heap hI2.box rfl
        clear hI htt hTp hD hI2 nT hfN
        dsimp only
        go_wp2_with fail
        have hB0 : Hid (BsC W lim (fun j => ctZ (cntP xs j) (ns j)) 0 (.slice none 0 0) (fun _ _ => 0) (fun _ _ => 0) (fun _ _ => 0) (fun _ _ => 0) (fun _ _ => 0) W') := Lib.hid ⟨⟨rfl, .inl ⟨rfl, rfl⟩⟩, fun a h => absurd h (Nat.not_lt_zero a), fun a h => absurd h (Nat.not_lt_zero a), fun a h => absurd h (Nat.not_lt_zero a)⟩
        go_loopw [11, 47] (fun lv jv w2 => ∃ (j : Nat) (gg ga ca gc cc : Nat → Nat → Nat), jv = .int .i64 (j : Int) ∧ j ≤ i ∧ Hid (BsC W lim (fun j => ctZ (cntP xs j) (ns j)) j lv gg ga ca gc cc w2) ∧ Hid (Below W'.heap.size W' w2) ∧ Hid (∀ b, lv.ownBlock = some b → W'.heap.size ≤ b)) (fun _ jv _ => i - (intOf jv).toNat)
        case atStart => exact ⟨0, _, _, _, _, _, rfl, Nat.zero_le _, hB0, Lib.hid (Below.refl _ _), Lib.hid (fun b h => by cases h)⟩
        case round =>
          obtain ⟨j, gg, ga, ca, gc, cc, rfl, hj, HBs, HB, HOB⟩ := hrel
          obtain ⟨pl, cl, rfl⟩ := owns_slice HBs.out.own
          by_cases hji : j < i
          · have d1 : decide ((j : Int) < (i : Int)) = true := by simp; omega
            have j0 : (0 : Int) ≤ (j : Int) := by omega
            have j1 : (j : Int) < (i : Int) := by omega
            have hI3 := HI2.out.below HB.out
            have hnj := Hn.out j hji
            have cF : wr.cell? ⟨F, j, none⟩ = some (.slice (some ⟨fb j, 0, none⟩) (ns j) (ns j)) := cell_heap hI3.tab (by rw [List.getElem?_toArray, fqR_at fb ns hji hji])
            have hrow := ctW_row (hI3.row j hji) (by omega)
            obtain ⟨m1, m2⟩ := Hmb.out j hji
            have hcl := Lib.hid (lengths_det (ctZ (cntP xs j) (ns j)) _ lim wr hrow m1 (by rw [ctZ_len]; exact m2))
            have hn0 := Hn0.out j hji
            obtain ⟨n, hnn⟩ : ∃ n, ns j = n := ⟨_, rfl⟩
            obtain ⟨fj, hfj⟩ : ∃ f, fb j = f := ⟨_, rfl⟩
            have Hfs : Hid (∃ fs, fs = ctZ (cntP xs j) (ns j) ∧ fs.length = n) := Lib.hid ⟨_, rfl, by rw [ctZ_len, hnn]⟩
            rw [hnn, hfj] at cF
            rw [hfj, hnn] at hcl
            rw [hnn] at hnj hn0
            have Hnn := Lib.hid hnn
            clear hI3 hrow m1 m2 hnn hfj Hfs
            go_wp2_with fail
            refine Calls.mono hcl.out ?_
            rintro _ w1 ⟨v1, g, rfl, ho1, hk1, hd1, hb1⟩
            have hck := lens_chk hk1 h15 (by rw [ctZ_len]; omega)
            rw [ctZ_len] at ho1 hck hd1
            rw [gl_row] at ho1
            have HC1 := Lib.hid (coderOf_cdr wr.heap.size (gl g n) v1 w1 (by rw [gl_len]; exact ho1) hck (by rw [gl_len]; omega) hb1.size)
            have Hk1 := Lib.hid (And.intro hk1 hd1)
            have Hb1 := Lib.hid hb1
            obtain ⟨p1, c1, rfl⟩ := owns_slice ho1
            clear hcl ho1 hk1 hd1 hb1 hck cF
            go_wp2_with fail
            refine Calls.mono HC1.out ?_
            rintro _ w2 ⟨cv, xa, ya, xc, yc, rfl, hC, hb2⟩
            have hce := hC.e
            rw [gl_len] at hce
            subst hce
            have HC2 := Lib.hid hC
            have Hb2 := Lib.hid (Below.thn Hb1.out hb2)
            have HO2 := Lib.hid ((Turns.of_below' (T := fun _ => False) Hb2.out).owns HBs.out.own (fun _ _ h => h))
            have hs2 : W.heap.size ≤ w2.heap.size := Nat.le_trans (Nat.le_trans HI2.out.bw.size HB.out.size) Hb2.out.size
            clear hC hb2 HC1
            go_wp2_with (at_builtin; refine wpList_append_two w2 rfl (.tmp 57) (.tmp 60) 130 rfl W.heap.size 135 _ 48 cdr_info Tryz.underlying130 rfl (.slice pl j cl) j _ rfl HO2.out (.slice (some ⟨xa, 0, none⟩) n ya) (.slice (some ⟨xc, 0, none⟩) n yc) _ rfl rfl rfl ?n3 ?n4 hs2 ?_)
            case n3 => simp only [maxLen]; omega
            case n4 => omega
            intro g5 cap5 w5 ho5 ht5 hg5
            have e : (ctZ (cntP xs j) (ns j)).length = n := by rw [ctZ_len, Hnn.out]
            have hsb := Hb2.out.size
            have hlA : ∀ a, a < j → ga 0 a < wr.heap.size ∧ gc 0 a < wr.heap.size := fun a ha => by obtain ⟨cv', h1⟩ := HBs.out.cdr a ha; exact h1.lt
            have hownlt : ∀ b, (Value.slice pl j cl).ownBlock = some b → b < wr.heap.size := fun b hb => (HBs.out.own.lt b hb).2
            have hxa := HC2.out.a
            have hxc := HC2.out.c
            have hxl := HC2.out.lt
            have hP := HBs.out.push (w' := w5) (v' := .slice (some ⟨g5, 0, none⟩) (j + 1) cap5) (fun a b ha hb => by
                have hb' : b < wr.heap.size := by rcases hb with rfl | rfl
                                                  · exact (hlA a ha).1
                                                  · exact (hlA a ha).2
                exact (ht5.block b (by omega) (fun h => by
                  rcases hb with rfl | rfl
                  · exact (HBs.out.ne a ha).1 h
                  · exact (HBs.out.ne a ha).2 h)).trans (Hb2.out.block b hb')) (g := g) (xa := xa) (ya := ya) (xc := xc) (yc := yc) (cv := .agg #[.slice (some ⟨xa, 0, none⟩) n ya, .slice (some ⟨xc, 0, none⟩) n yc])
              (by simp only [e]; exact ho5)
              (fun a ha => by
                obtain ⟨l1, l2⟩ := hlA a ha
                refine ⟨fun h => ?_, fun h => ?_⟩ <;> (have h' := Option.some.inj h; simp only at h'; rcases hg5 with h5 | h5)
                · exact (HBs.out.ne a ha).1 (by rw [h5, h'])
                · omega
                · exact (HBs.out.ne a ha).2 (by rw [h5, h'])
                · omega)
              (by
                refine ⟨fun h => ?_, fun h => ?_⟩ <;> (have h' := Option.some.inj h; simp only at h'; rcases hg5 with h5 | h5)
                · have := hownlt _ h5; omega
                · omega
                · have := hownlt _ h5; omega
                · omega)
              (by
                simp only [e]
                exact (HC2.out.turns ht5 (fun h => by have := hownlt _ h; omega) (fun h => by have := hownlt _ h; omega)).lower (Nat.le_trans HI2.out.bw.size HB.out.size))
              (by
                have hk := Hk1.out
                rw [← Hnn.out] at hk
                exact ⟨hk.1, fun h => hk.2 (by simp only [ctZ_len] at h; exact h)⟩)
            have HP := Lib.hid hP
            have HB5 := Lib.hid ((HB.out.trans (Hb2.out.mono HB.out.size)).trans (ht5.below (Nat.le_trans HB.out.size hsb) (fun b hb => HOB.out b hb)))
            have HOB5 : Hid (∀ b, (Value.slice (some ⟨g5, 0, none⟩) (j + 1) cap5).ownBlock = some b → W'.heap.size ≤ b) := Lib.hid (fun b hb => by
              have h' := Option.some.inj hb
              simp only at h'
              rcases hg5 with h5 | h5
              · exact h' ▸ HOB.out _ h5
              · have := HB.out.size; omega)
            clear hP ho5 ht5 hg5 hlA hownlt hxa hxc hxl e
            go_wp2
            go_roundw
            case rel => exact ⟨j + 1, _, _, _, _, _, by go_num, by omega, HP, HB5, HOB5⟩
            case measure => simp [intOf]; omega
          · obtain rfl : j = i := by omega
            have d1 : decide ((j : Int) < (j : Int)) = false := by simp
            have hz : wr.heap[N]? = some (.deferred (some [])) := (HB.out.block N (lt_heap HD.out)).trans HD.out
            have HZ := Lib.hid hz
            have hNW := lt_heap HD.out
            have hWN : W.heap.size ≤ N := by omega
            clear hz
            go_wp2
            refine ⟨by simp, .inl ⟨_, _, rfl, run_takeDeferred HZ.out, ?_⟩⟩
            refine ⟨_, results_tmp rfl _ _ _, _, rfl, ⟨gg, ga, ca, gc, cc, ?_⟩, ?_⟩
            · exact HBs.out.keep (Turns.put wr N (.deferred none) rfl) (fun h => by have := HOB.out N h; omega) HZ.out
            · exact (HI2.out.bw.trans (HB.out.mono HI2.out.bw.size)).trans ((Turns.put wr N (.deferred none) (T := fun b => b = N) rfl).below (Nat.le_trans HI2.out.bw.size HB.out.size) (fun b hb => by omega))
end Go.Proofs.YtoladolgmeanhaaGreat

/- deflate: ordered. -/
namespace Go.Proofs.YtoladolgmeanhaaGreat
open Go.RowKit Go.Maps

def ordO (l : List Nat) : List Nat := ordL.map (lq l)
def ordZ : Value := .agg ((ordL.map fun x => Value.int .i64 ((x : Nat) : Int)).toArray)
set_option maxRecDepth 20000 in
theorem ord_index (i : Nat) (hi : i < 19) (w : World) : (Instr.index 207 ordZ (.int .i64 (i : Int))).run Tryz.prog w = .ok (.int .i64 ((ordL.getD i 0 : Nat) : Int)) w := by
  have h : i = 0 ∨ i = 1 ∨ i = 2 ∨ i = 3 ∨ i = 4 ∨ i = 5 ∨ i = 6 ∨ i = 7 ∨ i = 8 ∨ i = 9 ∨ i = 10 ∨ i = 11 ∨ i = 12 ∨ i = 13 ∨ i = 14 ∨ i = 15 ∨ i = 16 ∨ i = 17 ∨ i = 18 := by omega
  rcases h with rfl | rfl | rfl | rfl | rfl | rfl | rfl | rfl | rfl | rfl | rfl | rfl | rfl | rfl | rfl | rfl | rfl | rfl | rfl <;> rfl
theorem ordO_snoc (l : List Nat) {i : Nat} (hi : i < 19) : (ordO l).take (i + 1) = (ordO l).take i ++ [lq l (ordL.getD i 0)] := by
  have hl : i < ordL.length := hi
  unfold ordO
  rw [← List.map_take, ← List.map_take, List.take_succ_eq_append_getElem hl, List.map_append, List.getD_eq_getElem?_getD, List.getElem?_eq_getElem hl]; rfl
set_option maxRecDepth 20000 in
set_option maxHeartbeats 2000000 in
theorem ordered_any (g off c : Nat) (l : List Nat) (w : World) (hn : l.length = 19) (hl : ∀ i, lq l i < 256) (hc : ∀ i, i < l.length → w.cell? ⟨g, off + i, none⟩ = some (.int .u8 ((lq l i : Nat) : Int))) :
    Calls Tryz.prog 118 #[.slice (some ⟨g, off, none⟩) 19 c] w fun e w' => ∃ v, e = .returned v ∧ w'.ownsRow w.heap.size 5 1 v 19 ((ordO l).map u8v) ∧ Below w.heap.size w w' := by
  have Hc := Lib.hid hc
  have Hl := Lib.hid hl
  have Hn := Lib.hid hn
  clear hc hl hn
  go_enter Tryz.func118, Tryz.ntmps118
  go_upto_region 3 with (fail)
  have hz : Value.agg #[.int .i64 16, .int .i64 17, .int .i64 18, .int .i64 0, .int .i64 8, .int .i64 7, .int .i64 9, .int .i64 6, .int .i64 10, .int .i64 5, .int .i64 11, .int .i64 4, .int .i64 12, .int .i64 3, .int .i64 13, .int .i64 2, .int .i64 14, .int .i64 1, .int .i64 15] = ordZ := rfl
  rw [hz]
  have HI := Lib.hid ord_index
  have hol : (ordO l).length = 19 := by unfold ordO; rw [List.length_map]; rfl
  have Hol := Lib.hid hol
  generalize ordZ = z at *
  clear hz hol
  have HO0 : Hid (w.ownsRow w.heap.size 5 1 (.slice none 0 0) 0 (((ordO l).take 0).map u8v)) := Lib.hid ⟨rfl, .inl ⟨rfl, rfl⟩⟩
  go_loopw [3, 7] (fun lv iv wr => ∃ i : Nat, iv = .int .i64 (i : Int) ∧ i ≤ 19 ∧ Hid (wr.ownsRow w.heap.size 5 1 lv i (((ordO l).take i).map u8v)) ∧ Hid (Below w.heap.size w wr)) (fun _ iv _ => 19 - (intOf iv).toNat)
  case atStart => exact ⟨0, rfl, Nat.zero_le _, HO0, Lib.hid (Below.refl _ _)⟩
  case round =>
    obtain ⟨i, rfl, hi, HO, HB⟩ := hrel
    obtain ⟨p, cc, rfl⟩ := owns_slice HO.out
    by_cases hin : i < 19
    · have d0 : decide ((i : Int) < 19) = true := by simp; omega
      have hx := ordL_at i hin
      have hix := HI.out i hin
      have hc0 := cell_later HB.out (Hc.out (ordL.getD i 0) (by have := Hn.out; omega))
      have hv := Hl.out (ordL.getD i 0)
      have Hs := Lib.hid (ordO_snoc l hin)
      obtain ⟨x, hxe⟩ : ∃ x, ordL.getD i 0 = x := ⟨_, rfl⟩
      rw [hxe] at hx hix hc0 hv Hs
      obtain ⟨y, hye⟩ : ∃ y, lq l x = y := ⟨_, rfl⟩
      rw [hye] at hc0 hv Hs
      clear hxe hye
      have hs := HB.out.size
      have x0 : (0 : Int) ≤ (x : Int) := by omega
      have x1 : (x : Int) < 19 := by omega
      go_wp2_with (at_builtin; refine wpList_append_one wr rfl (.tmp 10) (.tmp 15) 25 rfl w.heap.size 5 _ 1 u8_info Tryz.underlying25 rfl (.slice p i cc) i _ rfl HO.out (.int .u8 (y : Int)) _ rfl rfl ?n3 ?n4 hs ?_)
      case n3 => simp only [maxLen]; omega
      case n4 => omega
      intro g1 cap1 w5 ho1 ht1 hg1
      have HO1 : Hid (w5.ownsRow w.heap.size 5 1 (.slice (some ⟨g1, 0, none⟩) (i + 1) cap1) (i + 1) (((ordO l).take (i + 1)).map u8v)) := Lib.hid (by rw [Hs.out, List.map_append, List.map_take]; exact ho1)
      have HB1 := Lib.hid (HB.out.trans (ht1.below hs (fun k hk => (HO.out.lt k hk).1)))
      clear ho1 ht1 hg1
      go_wp2
      go_roundw
      case rel => exact ⟨i + 1, by go_num, by omega, HO1, HB1⟩
      case measure => simp [intOf]; omega
    · obtain rfl : i = 19 := by omega
      go_wp2
      go_ret
      have ho := HO.out
      rw [← Hol.out, List.take_length, Hol.out] at ho
      exact ⟨_, rfl, ho, HB.out⟩
end Go.Proofs.YtoladolgmeanhaaGreat
