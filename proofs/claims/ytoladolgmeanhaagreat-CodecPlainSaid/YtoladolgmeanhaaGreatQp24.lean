/- Several texts in one, each with its own head. -/
import Derived.Test.YtoladolgmeanhaaGreatQp21
import Derived.Test.YtoladolgmeanhaaGreatQp3
import Derived.Test.YtoladolgmeanhaaGreatQp23
import Derived.OwnWalkIn
import Derived.TacticsInMore
import Derived.LoopNIn
import Derived.LoopIn
import Derived.Test.YtoladolgmeanhaaGreatQp2
import Derived.OrdersIn
import Derived.RangeFuncCalls
/- deflate: what tokens become, as an iterator hands it over. -/
namespace Go.Proofs.YtoladolgmeanhaaGreat
open Go.RowKit Go.Shelf

attribute [local go_sem] Oper.semAt_some

def paT (t : Tk) : List Pa := if t.n = 0 then [⟨0, t.b, 0, 0⟩] else [lnP t.n.toNat, dsP t.d.toNat]
def pasT (ts : List Tk) : List Pa := ts.flatMap paT ++ [⟨0, 256, 0, 0⟩]
def ElPa (_ _ : World) (_ : Nat → Prop) (x : Pa) (vs : Array Value) : Prop := vs = #[PaV x]
theorem tk_okD {t : Tk} (h : t.okB = true) : (t.n = 0) ∨ (∃ n d : Nat, t.n = (n : Int) ∧ t.d = (d : Int) ∧ 3 ≤ n ∧ n ≤ 258 ∧ 1 ≤ d ∧ d ≤ 32768) := by
  by_cases h0 : t.n = 0
  · exact .inl h0
  · have hk : t.okB = decide (3 ≤ t.n ∧ t.n ≤ 258 ∧ 1 ≤ t.d ∧ t.d ≤ 32768 ∧ t.b = 0) := if_neg h0
    rw [h] at hk
    have hk := of_decide_eq_true hk.symm
    exact .inr ⟨t.n.toNat, t.d.toNat, by omega, by omega, by omega, by omega, by omega, by omega⟩
theorem pasT_cut (ts : List Tk) {i : Nat} (hi : i < ts.length) : pasT ts = (ts.take i).flatMap paT ++ (paT ts[i] ++ pasT (ts.drop (i + 1))) := by
  unfold pasT
  have e : ts.flatMap paT = (ts.take i ++ ts[i] :: ts.drop (i + 1)).flatMap paT := by rw [← List.drop_eq_getElem_cons hi, List.take_append_drop]
  rw [e]
  simp only [List.flatMap_append, List.flatMap_cons, List.append_assoc]
theorem take_pas (ts : List Tk) {i : Nat} (hi : i < ts.length) : (ts.take (i + 1)).flatMap paT = (ts.take i).flatMap paT ++ paT ts[i] := by
  rw [List.take_succ_eq_append_getElem hi, List.flatMap_append]; simp
theorem tok_cells {W : World} {p : Option Addr} {ts : List Tk} (h : RowAt encT 3 W p ts) {i : Nat} (hi : i < ts.length) : ∃ b off, p = some ⟨b, off, none⟩ ∧ W.cell? ⟨b, off + i * 3, none⟩ = some (.int .u8 (ts[i].b : Int)) ∧ W.cell? ⟨b, off + i * 3 + 1, none⟩ = some (.int .i64 ts[i].n) ∧ W.cell? ⟨b, off + i * 3 + 2, none⟩ = some (.int .i64 ts[i].d) := by
  rcases h with ⟨-, rfl⟩ | ⟨b, off, rfl, -, h4⟩
  · simp at hi
  · exact ⟨b, off, rfl, h4 i _ (List.getElem?_eq_getElem hi) 0 _ rfl, h4 i _ (List.getElem?_eq_getElem hi) 1 _ rfl, h4 i _ (List.getElem?_eq_getElem hi) 2 _ rfl⟩
set_option maxRecDepth 20000 in
set_option maxHeartbeats 4000000 in
theorem told_iter (Bl : Nat) (p : Option Addr) (c : Nat) (ts : List Tk) (w : World) (R : Nat → Prop) (hBl : w.cell? ⟨Bl, 0, none⟩ = some (.slice p ts.length c)) (hp : RowAt encT 3 w p ts) (hx : ∀ t ∈ ts, t.okB = true ∧ t.b < 256) (hl : ts.length ≤ 1048576)
    (hRlt : ∀ b, R b → b < w.heap.size) (hR1 : R Bl) (hR3 : ∀ a, p = some a → R a.block) :
    Iter Tryz.prog 109 #[.pointer (some ⟨Bl, 0, none⟩)] ElPa R (pasT ts) w := by
  intro l J Jx W hsz hRW hJ0 hY
  refine callsIn_wide.2 ?_
  have hcl : W.cell? ⟨Bl, 0, none⟩ = some (.slice p ts.length c) := (World.cell?_of_block (hRW Bl hR1)).trans hBl
  have HY := Lib.hid hY
  have HRW := Lib.hid hRW
  have Hp := Lib.hid hp
  have Hx := Lib.hid hx
  have HRlt := Lib.hid hRlt
  obtain ⟨n, hn⟩ : ∃ n, ts.length = n := ⟨_, rfl⟩
  have Hn := Lib.hid hn
  rw [hn] at hcl hl
  clear hY hRW hp hx hRlt hBl hn
  go_enter Tryz.func109, Tryz.ntmps109
  go_wp2
  go_loopw [7] (fun iv wr => ∃ (i : Nat) (Tp : Nat → Prop) (Wp : World), iv = .int .i64 (i : Int) ∧ i ≤ n ∧ Hid (J ((ts.take i).flatMap paT) Tp Wp) ∧ Hid (Turns Tp Wp wr) ∧ Hid (∀ b, R b → wr.heap[b]? = w.heap[b]?) ∧ Hid (∀ b, Tp b → Wp.heap.size ≤ b ∨ True)) (fun iv _ => n - (intOf iv).toNat)
  case atStart => exact ⟨0, fun _ => False, W, rfl, Nat.zero_le _, Lib.hid hJ0, Lib.hid (Turns.refl _ _), HRW, Lib.hid (fun _ h => h.elim)⟩
  case round =>
    obtain ⟨i, Tp, Wp, rfl, hi, HJ, HT, HR, -⟩ := hrel
    by_cases hin : i < n
    · have d1 : decide ((i : Int) < (n : Int)) = true := by simp; omega
      have hin' : i < ts.length := by rw [Hn.out]; exact hin
      obtain ⟨b, off, rfl, x0, x1, x2⟩ := tok_cells Hp.out hin'
      have hRb := hR3 _ rfl
      have hsame := HR.out b hRb
      have x0 := (World.cell?_of_block (a := ⟨b, off + i * 3, none⟩) hsame).trans x0
      have x1 := (World.cell?_of_block (a := ⟨b, off + i * 3 + 1, none⟩) hsame).trans x1
      have x2 := (World.cell?_of_block (a := ⟨b, off + i * 3 + 2, none⟩) hsame).trans x2
      obtain ⟨hok, hb256⟩ := Hx.out _ (List.getElem_mem hin')
      have Hcut := Lib.hid (pasT_cut ts hin')
      have Htk := Lib.hid (take_pas ts hin')
      have i0 : (0 : Int) ≤ (i : Int) := by omega
      have i1 : (i : Int) < (n : Int) := by omega
      generalize ts[i] = t at *
      clear hsame hin'
      go_upto_region 3 with (fail)
      have hb1 := Below.al1 wr (.cells #[.int .u8 (t.b : Int), .int .i64 t.n, .int .i64 t.d] 71)
      have y0 : (wr.alloc (.cells #[.int .u8 (t.b : Int), .int .i64 t.n, .int .i64 t.d] 71)).cell? ⟨wr.heap.size, 0, none⟩ = some (.int .u8 (t.b : Int)) := cell_heap (World.alloc_heap_new wr _) rfl
      have y1 : (wr.alloc (.cells #[.int .u8 (t.b : Int), .int .i64 t.n, .int .i64 t.d] 71)).cell? ⟨wr.heap.size, 1, none⟩ = some (.int .i64 t.n) := cell_heap (World.alloc_heap_new wr _) rfl
      have y2 : (wr.alloc (.cells #[.int .u8 (t.b : Int), .int .i64 t.n, .int .i64 t.d] 71)).cell? ⟨wr.heap.size, 2, none⟩ = some (.int .i64 t.d) := cell_heap (World.alloc_heap_new wr _) rfl
      have hgs : wr.heap.size < (wr.alloc (.cells #[.int .u8 (t.b : Int), .int .i64 t.n, .int .i64 t.d] 71)).heap.size := by rw [World.size_alloc]; omega
      generalize wr.alloc (.cells #[.int .u8 (t.b : Int), .int .i64 t.n, .int .i64 t.d] 71) = u1 at *
      have HR1 : Hid (∀ b, R b → u1.heap[b]? = w.heap[b]?) := Lib.hid (fun b hb => (hb1.block b (lt_of_same (HRlt.out b hb) (HR.out b hb))).trans (HR.out b hb))
      have HT1 := Lib.hid (HT.out.trans (Turns.of_below' hb1))
      have hWp : Wp.heap.size ≤ wr.heap.size := HT.out.size
      generalize wr.heap.size = gt at *
      clear x0 x1 x2 hb1
      rcases tk_okD hok with h0 | ⟨nn, dd, e1, e2, n1, n2, n3, n4⟩
      · rw [h0] at y1
        have e0 : paT t = [⟨0, t.b, 0, 0⟩] := if_pos h0
        rw [e0] at Hcut Htk
        have hwb : IntKind.i64.wrap (t.b : Int) = (t.b : Int) := IntWalk.i64_in _ (by omega)
        go_upto_region 4 with (fail)
        obtain ⟨fn, tmps, assign, body, hy, hRd⟩ := HY.out ((ts.take i).flatMap paT) ⟨0, t.b, 0, 0⟩ (pasT (ts.drop (i + 1))) Tp (fun _ => False) Wp u1 #[PaV ⟨0, t.b, 0, 0⟩] Hcut.out HJ.out HT1.out (fun _ h => h.elim) (fun _ h => h.elim) HR1.out rfl
        change Sem.run _ (Instr.yield l #[.agg #[.int .i64 0, .int .i64 (t.b : Int), .int .i64 0, .int .i64 0]]) u1 = _ at hy
        refine (wpIn_wide (n := 0)).1 ?_
        gi_wp2
        refine ⟨rfl, hRd.mono ?_⟩
        rintro e W3 (⟨rfl, hJ3, hsz3, hk3⟩ | ⟨rfl, hJx3, -, -⟩)
        · have HR3 : Hid (∀ b, R b → W3.heap[b]? = w.heap[b]?) := Lib.hid (fun b hb => (hk3 b (Or.inl hb)).trans (HR1.out b hb))
          have HJ3 := Lib.hid hJ3
          clear hk3 hJ3
          gi_wp2
          go_wp2
          go_roundw
          case rel => exact ⟨i + 1, fun _ => False, W3, by go_num, by omega, by rw [Htk.out]; exact HJ3, Lib.hid (Turns.refl _ _), HR3, Lib.hid (fun _ h => h.elim)⟩
          case measure => simp [intOf]; omega
        · have HP : (ts.take i).flatMap paT ++ [⟨0, t.b, 0, 0⟩] <+: pasT ts := ⟨pasT (ts.drop (i + 1)), by rw [Hcut.out]; simp⟩
          gi_wp2
          go_wp2
          refine bodyPost_ret (results_none rfl _ _ _) rfl ?_
          exact ⟨⟨_, rfl⟩, .inr ⟨_, _, _, HP, hJx3, Turns.refl _ _⟩⟩
      · rw [e1] at y1
        rw [e2] at y2
        have h0 : t.n ≠ 0 := by omega
        have e0 : paT t = [lnP nn, dsP dd] := by
          unfold paT
          rw [if_neg h0, e1, e2]; rfl
        rw [e0] at Hcut Htk
        have d2 : ((nn : Int) == 0) = false := by simp; omega
        go_upto_region 5 with (fail)
        refine (wpIn_wide (n := 0)).1 ?_
        gi_wp2
        refine ⟨trivial, rfl, (callsIn_wide.2 (dlength_any nn u1 n1 n2)).mono ?_⟩
        rintro _ u2 ⟨rfl, hb2⟩
        have HR2 : Hid (∀ b, R b → u2.heap[b]? = w.heap[b]?) := Lib.hid (fun b hb => (hb2.block b (lt_of_same (HRlt.out b hb) (HR1.out b hb))).trans (HR1.out b hb))
        have HT2 := Lib.hid (HT1.out.trans (Turns.of_below' hb2))
        have z2 := cell_later hb2 y2
        have hgs2 : gt < u2.heap.size := Nat.lt_of_lt_of_le hgs hb2.size
        obtain ⟨fn, tmps, assign, body, hy, hRd⟩ := HY.out ((ts.take i).flatMap paT) (lnP nn) (dsP dd :: pasT (ts.drop (i + 1))) Tp (fun b => b = gt) Wp u2 #[PaV (lnP nn)] Hcut.out HJ.out HT2.out (fun b h => .inr (by rw [h]; exact hWp)) (fun b h => by rw [h]; exact hgs2) HR2.out rfl
        clear y0 y1 y2 hb2
        gi_wp2
        refine ⟨rfl, hRd.mono ?_⟩
        rintro e W3 (⟨rfl, hJ3, hsz3, hk3⟩ | ⟨rfl, hJx3, -, -⟩)
        · have HR3 : Hid (∀ b, R b → W3.heap[b]? = w.heap[b]?) := Lib.hid (fun b hb => (hk3 b (Or.inl hb)).trans (HR2.out b hb))
          have HJ3 := Lib.hid hJ3
          have z3 := (World.cell?_of_block (a := ⟨gt, 2, none⟩) (hk3 gt (Or.inr rfl))).trans z2
          clear hk3 hJ3 hy hRd z2
          gi_wp2
          refine ⟨trivial, rfl, (callsIn_wide.2 (ddistance_any dd W3 n3 n4)).mono ?_⟩
          rintro _ u4 ⟨rfl, hb4⟩
          have HR4 : Hid (∀ b, R b → u4.heap[b]? = w.heap[b]?) := Lib.hid (fun b hb => (hb4.block b (lt_of_same (HRlt.out b hb) (HR3.out b hb))).trans (HR3.out b hb))
          have HT4 := Lib.hid (Turns.of_below' (T := fun b => b = gt) hb4)
          obtain ⟨fn, tmps, assign, body, hy, hRd⟩ := HY.out ((ts.take i).flatMap paT ++ [lnP nn]) (dsP dd) (pasT (ts.drop (i + 1))) (fun b => b = gt) (fun _ => False) W3 u4 #[PaV (dsP dd)] (by rw [Hcut.out]; simp) HJ3.out HT4.out (fun _ h => h.elim) (fun _ h => h.elim) HR4.out rfl
          clear hb4 z3
          gi_wp2
          refine ⟨rfl, hRd.mono ?_⟩
          rintro e W5 (⟨rfl, hJ5, hsz5, hk5⟩ | ⟨rfl, hJx5, -, -⟩)
          · have HR5 : Hid (∀ b, R b → W5.heap[b]? = w.heap[b]?) := Lib.hid (fun b hb => (hk5 b (Or.inl hb)).trans (HR4.out b hb))
            have HJ5 : Hid (J ((ts.take (i + 1)).flatMap paT) (fun _ => False) W5) := Lib.hid (by rw [Htk.out]; simpa using hJ5)
            clear hk5 hJ5 hy hRd
            gi_wp2
            go_wp2
            go_roundw
            case rel => exact ⟨i + 1, fun _ => False, W5, by go_num, by omega, HJ5, Lib.hid (Turns.refl _ _), HR5, Lib.hid (fun _ h => h.elim)⟩
            case measure => simp [intOf]; omega
          · have HP : (ts.take i).flatMap paT ++ [lnP nn] ++ [dsP dd] <+: pasT ts := ⟨pasT (ts.drop (i + 1)), by rw [Hcut.out]; simp⟩
            gi_wp2
            go_wp2
            refine bodyPost_ret (results_none rfl _ _ _) rfl ?_
            exact ⟨⟨_, rfl⟩, .inr ⟨_, _, _, HP, hJx5, Turns.refl _ _⟩⟩
        · have HP : (ts.take i).flatMap paT ++ [lnP nn] <+: pasT ts := ⟨dsP dd :: pasT (ts.drop (i + 1)), by rw [Hcut.out]; simp⟩
          gi_wp2
          refine ⟨trivial, ?_⟩
          gi_wp2
          refine ⟨fun _ h => (by cases h), ?_⟩
          gi_wp2
          go_wp2
          refine bodyPost_ret (results_none rfl _ _ _) rfl ?_
          exact ⟨⟨_, rfl⟩, .inr ⟨_, _, _, HP, hJx3, Turns.refl _ _⟩⟩
    · obtain rfl : i = n := by omega
      have hE : ts.take i = ts := List.take_of_length_le (by rw [Hn.out]; exact Nat.le_refl _)
      rw [hE] at HJ
      clear hE
      go_upto_region 7 with (fail)
      obtain ⟨fn, tmps, assign, body, hy, hRd⟩ := HY.out (ts.flatMap paT) ⟨0, 256, 0, 0⟩ [] Tp (fun _ => False) Wp wr #[PaV ⟨0, 256, 0, 0⟩] rfl HJ.out HT.out (fun _ h => h.elim) (fun _ h => h.elim) HR.out rfl
      change Sem.run _ (Instr.yield l #[.agg #[.int .i64 0, .int .i64 256, .int .i64 0, .int .i64 0]]) wr = _ at hy
      refine (wpIn_wide (n := 0)).1 ?_
      gi_wp2
      refine ⟨rfl, hRd.mono ?_⟩
      rintro e W3 (⟨rfl, hJ3, hsz3, hk3⟩ | ⟨rfl, hJx3, -, -⟩)
      · gi_wp2
        go_wp2
        go_end0
        exact ⟨⟨_, rfl⟩, .inl ⟨_, _, hJ3, Turns.refl _ _⟩⟩
      · have HP : ts.flatMap paT ++ [⟨0, 256, 0, 0⟩] <+: pasT ts := ⟨[], by unfold pasT; simp⟩
        gi_wp2
        go_wp2
        go_end0
        exact ⟨⟨_, rfl⟩, .inr ⟨_, _, _, HP, hJx3, Turns.refl _ _⟩⟩
end Go.Proofs.YtoladolgmeanhaaGreat

/- Regions that draw their order, within a round of a range over a function: what is walked as everywhere holds in a round, too, where nothing is deferred. Nothing here speaks of one program. -/
namespace Go.Proofs.YtoladolgmeanhaaGreat
open Go.RowKit

def noDefer (l : List Oper) : Bool := l.all fun o => match o.op with | .defer _ => false | _ => true
theorem oper_in {P : Program} {L : Nat} {o : Oper} {a : Act} {w : World} {K : Act → World → Prop} {Q : Exit → Act → World → Prop} (hd : ∀ c, o.op ≠ .defer c) (h : o.wp P a w K Q) : o.wpIn (Fence.wide.inRound L) 0 P a w K Q := by
  refine ⟨fun _ _ => trivial, ?_⟩
  unfold Oper.wp at h
  rw [Oper.semAt_eq _ _ _ hd]
  cases e : (execOp a.eval o).run P w with
  | ok x w' =>
    rw [e] at h
    cases x with
    | value v => exact h
    | skip => exact h
    | defer d => exact h
    | enter f args => exact ⟨fun h => by simp [Fence.wide] at h, CallsIn.inRound _ (callsIn_wide.2 h)⟩
    | row r args => exact ⟨fun h => by simp [Fence.wide] at h, fun c cs _ => let ⟨v, w', r, s⟩ := h c cs; ⟨v, w', r, stepsIn_wide.2 s⟩⟩
    | round _ _ _ _ _ => exact h.elim
    | _ => exact h.elim
  | halt x w' =>
    rw [e] at h
    cases x <;> first | exact h | exact h.elim
theorem op_in {P : Program} {L : Nat} {ops : Array Oper} {Q : Exit → Act → World → Prop} {i : Nat} {K K' : Act → World → Prop} {a : Act} {w : World} (hK : ∀ a w, K a w → K' a w) (hd : ∀ o, ops[i]? = some o → ∀ c, o.op ≠ .defer c) (hQ : ¬ LetsOut Q) (h : wpOp P ops Q i K a w) : wpOpIn (Fence.wide.inRound L) 0 P ops Q i K' a w := by
  unfold wpOp at h
  unfold wpOpIn
  cases e : ops[i]? with
  | none => rw [e] at h; exact hK _ _ h
  | some o =>
    rw [e] at h
    simp only at h ⊢
    split
    · rename_i hw
      rw [if_pos hw] at h
      rcases h with h | h
      · exact Oper.wpIn_mono hK (oper_in (hd o e) h)
      · exact absurd h.2 hQ
    · rename_i hw
      rw [if_neg hw] at h
      exact ⟨fun _ _ => trivial, hK _ _ h⟩
theorem any_in {P : Program} {L : Nat} {md : Region.Mode} {ops : Array Oper} {Q : Exit → Act → World → Prop} (hd : ∀ (i : Nat) o, ops[i]? = some o → ∀ c, o.op ≠ .defer c) (hQ : ¬ LetsOut Q) : ∀ (fuel : Nat) (listed : Array Bool) (a : Act) (w : World), wpAny P md ops Q fuel listed a w → wpAnyIn (Fence.wide.inRound L) 0 P md ops Q fuel listed a w
  | 0, _, _, _, h => h
  | fuel + 1, _, _, _, h => ⟨h.1, fun i hi => op_in (fun a w => any_in hd hQ fuel _ a w) (hd i) hQ (h.2 i hi)⟩
theorem wpIn_region_head {P : Program} {L id : Nat} {Q : Exit → Act → World → Prop} {a : Act} {w : World} {l : List Oper} (n : Nat) (hm : P.follows .mixedOrders = true) (hS : shapeB .any l.toArray n = true)
    (hseq : Region.seqB .any l.toArray (l.drop n).length n (headDone l.toArray.size n) = true) (hd : noDefer l = true) (hQ : ¬ LetsOut Q)
    (h : Lq P l.toArray w (fun a' => ∀ w' : World, Below w.heap.size w w' → wpList P l.toArray Q (l.drop n) a' w') (l.take n) a) : (Code.region id l.toArray true).wpIn (Fence.wide.inRound L) 0 P Q a w := by
  refine wpIn_region_any hm (any_in (fun i o hi c hc => ?_) hQ _ _ _ _ (any_region_head n hS hseq h))
  unfold noDefer at hd
  have := List.all_eq_true.1 hd o (by
    rw [List.getElem?_toArray] at hi
    exact List.mem_of_getElem? hi)
  rw [hc] at this
  cases this
end Go.Proofs.YtoladolgmeanhaaGreat

/- A range over a function whose rounds begin with memory of their own (a variable of the round that lies in memory): the law of Turns, where assigning makes blocks. Nothing here speaks of one program. -/
namespace Go.Proofs.YtoladolgmeanhaaGreat
open Go.RowKit

theorem wpIn_rangeFunc_made {α : Type} {P : Program} {g : Operand} {ps : Array Tmp} {assign body : Code} {Q : Exit → Act → World → Prop} {a : Act} {w : World}
    {gf : Nat} {lb : Array Value} (hg : a.eval g = .func (.func gf) #[] lb) (eg : ∀ args w, (callFunc gf args).run P w = .ok (.enter gf args) w)
    {El : World → World → (Nat → Prop) → α → Array Value → Prop} {R : Nat → Prop} {xs : List α} {w0 : World} (hseq : Iter P gf lb El R xs w0)
    (hs0 : w0.heap.size ≤ w.heap.size) (hR : ∀ b, R b → b < w.heap.size ∧ w.heap[b]? = w0.heap[b]?) (Vs : Array Value → Prop) (asg : Array Value → World → World) (hps : ∀ Wp W T x vs, El Wp W T x vs → vs.size = ps.size ∧ Vs vs) (hasg : ∀ vs W, Vs vs → Below W.heap.size W (asg vs W))
    (I : List α → (Nat → Prop) → World → Prop) (Ix : Code → List α → (Nat → Prop) → World → Prop) (h0 : I [] (fun _ => False) w) (a₁ : Array Value → World → Act)
    (hassign : ∀ (l : Nat) (vs : Array Value) (W : World) (K : Act → World → Prop), Vs vs → K (a₁ vs W) (asg vs W) →
      assign.wpIn (Fence.wide.inRound l) 0 P (Exit.then K (fun _ _ _ => False)) { tmps := (ps.zip vs).foldl (fun t (p, v) => t.setIfInBounds p v) a.tmps, defers := [] } W)
    (hbody : ∀ (pre : List α) (x : α) (rest : List α) (Tp T : Nat → Prop) (Wq Wp W1 W2 : World) (vs : Array Value), xs = pre ++ x :: rest → I pre Tp Wq → Turns (fun b => b = w.heap.size + 1 ∨ b = w.heap.size) Wq Wp → Wq.heap.size ≤ Wp.heap.size → Wp.heap.size ≤ W1.heap.size →
      Turns (fun b => Tp b ∨ b = w.heap.size + 1 ∨ b = w.heap.size) Wq W2 → (∀ b, Tp b → w.heap.size + 1 < b ∧ b < Wp.heap.size) → (∀ b, T b → Tp b ∨ Wp.heap.size ≤ b) → (∀ b, T b → w.heap.size + 1 < b ∧ b < W2.heap.size) → (∀ b, R b → W2.heap[b]? = w0.heap[b]?) → El Wp W1 T x vs →
      Turns (fun b => b = w.heap.size + 1) W1 W2 → W1.heap.size ≤ W2.heap.size → Turns (fun b => b = w.heap.size + 1) (asg vs W1) W2 → w.heap.size + 1 < W2.heap.size → (∃ r, W1.heap[w.heap.size + 1]? = some (.loop r)) → (W2.heap[w.heap.size]? = some (.deferred (some []))) → (∃ r, W2.heap[w.heap.size + 1]? = some (.loop r)) →
      body.wpIn (Fence.wide.inRound (w.heap.size + 1)) 0 P (roundEnds R I Ix T (w.heap.size + 1) w.heap.size (pre ++ [x]) W2) (a₁ vs W1) W2)
    (hdone : ∀ (Tp : Nat → Prop) (Wq W : World), I xs Tp Wq → Turns (fun b => Tp b ∨ b = w.heap.size + 1 ∨ b = w.heap.size) Wq W → (∀ b, Tp b → w.heap.size + 1 < b) → w.heap.size + 1 < W.heap.size → W.heap[w.heap.size]? = some (.deferred (some [])) →
      Q .normal { a with defers := { target := .collected w.heap.size, args := #[] } :: a.defers } W)
    (hstop : ∀ (c : Code) (pre : List α) (Tp : Nat → Prop) (Wq W : World), pre <+: xs → Ix c pre Tp Wq → Turns (fun b => Tp b ∨ b = w.heap.size + 1 ∨ b = w.heap.size) Wq W → (∀ b, Tp b → w.heap.size + 1 < b) → w.heap.size + 1 < W.heap.size → W.heap[w.heap.size]? = some (.deferred (some [])) →
      c.wpIn Fence.wide 0 P Q { a with defers := { target := .collected w.heap.size, args := #[] } :: a.defers } W) :
    (Code.rangeFunc g ps assign body).wpIn Fence.wide 0 P Q a w := by
  refine wpIn_rangeFunc ?_
  intro fn hfn
  rw [show Fence.wide.round = none from rfl]
  obtain ⟨rec, hrec⟩ : ∃ rec : LoopState → Option Code → Loop, rec = fun st pe => { state := st, pending := pe, fn, tmps := a.tmps, params := ps, assign, body, defers := w.heap.size } := ⟨_, rfl⟩
  obtain ⟨W1, hW1⟩ : ∃ W1, (w.alloc (.deferred (some []))).alloc (.loop (rec .ready none)) = W1 := ⟨_, rfl⟩
  have hL1 : W1.heap[w.heap.size + 1]? = some (.loop (rec .ready none)) := by
    rw [← hW1]; have := World.alloc_heap_new (w.alloc (.deferred (some []))) (.loop (rec .ready none)); rwa [World.size_alloc] at this
  have hK1 : W1.heap[w.heap.size]? = some (.deferred (some [])) := by
    rw [← hW1]; exact (Below.heap_alloc _ _ _ (by simp)).trans (World.alloc_heap_new w _)
  have hb1 : Below w.heap.size w W1 := by rw [← hW1]; exact (((Below.refl _ w).alloc (Nat.le_refl _) _).alloc (by simp) _)
  refine ⟨w.heap.size + 1, [{ target := .collected w.heap.size, args := #[] }], W1, { target := .fn (.func gf) lb, args := #[.func (.yield (w.heap.size + 1)) #[] #[]] }, W1, gf,
    #[.func (.yield (w.heap.size + 1)) #[] #[]] ++ lb, W1, ?_, ?_, ?_, ?_, fun h => by simp [Fence.wide] at h, ?_⟩
  · rw [← hW1, hrec]; exact run_enterLoop_outer _ _ _ _ _
  · simp only [resolve, hg]
    simp [go_sem]
  · intro f' _; trivial
  · simp [invoke, go_sem, eg]
  · refine (hseq (w.heap.size + 1)
      (fun pre T W => ∃ Wq, I pre T Wq ∧ Turns (fun b => b = w.heap.size + 1 ∨ b = w.heap.size) Wq W ∧ W.heap[w.heap.size + 1]? = some (.loop (rec .ready none)) ∧ W.heap[w.heap.size]? = some (.deferred (some [])) ∧ (∀ b, T b → w.heap.size + 1 < b ∧ b < W.heap.size) ∧ (∀ b, R b → W.heap[b]? = w0.heap[b]?))
      (fun pre T W => ∃ Wq c, Ix c pre T Wq ∧ Turns (fun b => b = w.heap.size + 1 ∨ b = w.heap.size) Wq W ∧ W.heap[w.heap.size + 1]? = some (.loop (rec .done (some c))) ∧ W.heap[w.heap.size]? = some (.deferred (some [])) ∧ (∀ b, T b → w.heap.size + 1 < b))
      W1 (Nat.le_trans hs0 hb1.size) (fun b hb => (hb1.block b (hR b hb).1).trans (hR b hb).2)
      ⟨w, h0, ⟨hb1.os, hb1.tape, hb1.output, hb1.size, fun i hi _ => hb1.block i hi⟩, hL1, hK1, fun _ h => h.elim, fun b hb => (hb1.block b (hR b hb).1).trans (hR b hb).2⟩
      ?_).mono ?_
    · -- one round
      rintro pre x rest Tp T Wp W vs hx ⟨Wq, hi, hqp, hl, hk, hTp, hRp⟩ hturn hT hTlt hRW hel
      have hlp : w.heap.size + 1 < Wp.heap.size := (Array.getElem?_eq_some_iff.1 hl).1
      have nL : ¬ Tp (w.heap.size + 1) := fun h => by have := (hTp _ h).1; omega
      have nD : ¬ Tp w.heap.size := fun h => by have := (hTp _ h).1; omega
      have hlW : W.heap[w.heap.size + 1]? = some (.loop (rec .ready none)) := (hturn.block _ hlp nL).trans hl
      have hkW : W.heap[w.heap.size]? = some (.deferred (some [])) := (hturn.block _ (by omega) nD).trans hk
      have hlt : w.heap.size + 1 < W.heap.size := (Array.getElem?_eq_some_iff.1 hlW).1
      obtain ⟨hvs, hVs⟩ := hps _ _ _ _ _ hel
      have hy := run_yield (P := P) (args := vs) hlW (by rw [hrec]; exact hvs)
      rw [hrec] at hy
      refine ⟨fn, _, assign, body, hy, roundIn_of_wpIn hfn (hassign _ vs W _ hVs ?_)⟩
      clear hy
      have hba := hasg vs W hVs
      obtain ⟨Wa, hWa⟩ : ∃ Wa, asg vs W = Wa := ⟨_, rfl⟩
      have hbody' := hbody pre x rest Tp T Wq Wp W
      rw [hWa] at hba ⊢
      have hlA : Wa.heap[w.heap.size + 1]? = some (.loop (rec .ready none)) := (hba.block _ hlt).trans hlW
      have hkA : Wa.heap[w.heap.size]? = some (.deferred (some [])) := (hba.block _ (by omega)).trans hkW
      have hltA : w.heap.size + 1 < Wa.heap.size := Nat.lt_of_lt_of_le hlt hba.size
      refine ⟨_, run_beginRound hlA (by rw [hrec]), ?_⟩
      have hT' : ∀ b, T b → w.heap.size + 1 < b ∧ b < W.heap.size := fun b hb => by
        refine ⟨?_, hTlt b hb⟩
        rcases hT b hb with h | h
        · exact (hTp b h).1
        · omega
      have hl2 : (Wa.putObj (w.heap.size + 1) (.loop { rec .ready none with state := .busy })).heap[w.heap.size + 1]? = some (.loop { rec .ready none with state := .busy }) := World.putObj_heap_same hltA
      have hk2 : (Wa.putObj (w.heap.size + 1) (.loop { rec .ready none with state := .busy })).heap[w.heap.size]? = some (.deferred (some [])) := (World.putObj_heap_other (by omega)).trans hkA
      have hR2 : ∀ b, R b → (Wa.putObj (w.heap.size + 1) (.loop { rec .ready none with state := .busy })).heap[b]? = w0.heap[b]? := fun b hb => (World.putObj_heap_other (by have := (hR b hb).1; omega)).trans ((hba.block b (by have := (hR b hb).1; omega)).trans (hRW b hb))
      refine wpIn_mono (hbody' _ vs hx hi hqp hqp.size hturn.size
        ((((hqp.mono (fun i _ h => Or.inr h)).trans (hturn.mono (fun i _ h => Or.inl h))).trans (Turns.of_below' hba)).trans (Turns.put _ _ _ (Or.inr (Or.inl rfl)))) hTp hT (fun b hb => by have h1 := hT' b hb; have h2 := hba.size; exact ⟨h1.1, by simp; omega⟩)
        hR2 hel ((Turns.of_below' hba).trans (Turns.put _ _ _ rfl)) (by simpa using hba.size) (by rw [hWa]; exact Turns.put _ _ _ rfl) (by simpa using hltA) ⟨_, hlW⟩ hk2 ⟨_, hl2⟩) ?_
      have fin : ∀ (jump : Option Code) (W3 : World), (∀ b, b = w.heap.size + 1 ∨ b = w.heap.size → W3.heap[b]? = (Wa.putObj (w.heap.size + 1) (.loop { rec .ready none with state := .busy })).heap[b]?) →
          (Instr.endRound (w.heap.size + 1) jump).run P W3 = .ok (.bool jump.isNone) (W3.putObj (w.heap.size + 1) (.loop (rec (if jump.isNone then .ready else .done) jump))) ∧
          (W3.putObj (w.heap.size + 1) (.loop (rec (if jump.isNone then .ready else .done) jump))).heap[w.heap.size + 1]? = some (.loop (rec (if jump.isNone then .ready else .done) jump)) ∧
          (W3.putObj (w.heap.size + 1) (.loop (rec (if jump.isNone then .ready else .done) jump))).heap[w.heap.size]? = some (.deferred (some [])) ∧
          Turns (fun b => b = w.heap.size + 1 ∨ b = w.heap.size) W3 (W3.putObj (w.heap.size + 1) (.loop (rec (if jump.isNone then .ready else .done) jump))) := fun jump W3 hk3 => by
        have hl3 := (hk3 _ (Or.inl rfl)).trans hl2
        have := run_endRound (P := P) jump hl3
        rw [hrec] at this ⊢
        exact ⟨this, World.putObj_heap_same (Array.getElem?_eq_some_iff.1 hl3).1, (World.putObj_heap_other (by omega)).trans ((hk3 _ (Or.inr rfl)).trans hk2), Turns.put _ _ _ (Or.inl rfl)⟩
      have hkeep : ∀ (jump : Option Code) (W3 : World), (∀ b, R b ∨ T b ∨ b = w.heap.size + 1 ∨ b = w.heap.size → W3.heap[b]? = (Wa.putObj (w.heap.size + 1) (.loop { rec .ready none with state := .busy })).heap[b]?) → ∀ b, R b ∨ T b → (W3.putObj (w.heap.size + 1) (.loop (rec (if jump.isNone then .ready else .done) jump))).heap[b]? = W.heap[b]? := fun jump W3 hk3 b hb => by
        have hne : b ≠ w.heap.size + 1 := by
          rcases hb with hb | hb
          · have := (hR b hb).1; omega
          · have := (hT' b hb).1; omega
        exact (World.putObj_heap_other hne).trans ((hk3 b (hb.elim Or.inl (fun h => Or.inr (Or.inl h)))).trans ((World.putObj_heap_other hne).trans (hba.block b (by
          rcases hb with hb | hb
          · have := (hR b hb).1; omega
          · exact (hT' b hb).2))))
      rintro e a3 W3 hp
      cases e with
      | normal =>
        obtain ⟨hi3, hsz3, hk3⟩ := hp
        obtain ⟨hr, hl4, hk4, ht4⟩ := fin none W3 (fun b hb => hk3 b (Or.inr (Or.inr hb)))
        have hsz' : W.heap.size ≤ W3.heap.size := Nat.le_trans hba.size (by simpa using hsz3)
        have hkeep := hkeep none W3 hk3
        exact ⟨_, _, hr, .inl ⟨rfl, ⟨W3, hi3, ht4, hl4, hk4, fun b hb => ⟨(hT' b hb).1, by simp; have := (hT' b hb).2; omega⟩, fun b hb => (hkeep b (Or.inl hb)).trans (hRW b hb)⟩, by simpa using hsz', hkeep⟩⟩
      | ret =>
        obtain ⟨hi3, hsz3, hk3⟩ := hp
        obtain ⟨hr, hl4, hk4, ht4⟩ := fin (some .ret) W3 (fun b hb => hk3 b (Or.inr (Or.inr hb)))
        exact ⟨_, _, hr, .inr ⟨rfl, ⟨W3, .ret, hi3, ht4, hl4, hk4, fun b hb => (hT' b hb).1⟩, Nat.le_trans hba.size (by simpa using hsz3), hkeep (some .ret) W3 hk3⟩⟩
      | exit id =>
        obtain ⟨hi3, hsz3, hk3⟩ := hp
        obtain ⟨hr, hl4, hk4, ht4⟩ := fin (some (.exit id)) W3 (fun b hb => hk3 b (Or.inr (Or.inr hb)))
        exact ⟨_, _, hr, .inr ⟨rfl, ⟨W3, .exit id, hi3, ht4, hl4, hk4, fun b hb => (hT' b hb).1⟩, Nat.le_trans hba.size (by simpa using hsz3), hkeep (some (.exit id)) W3 hk3⟩⟩
      | goto t =>
        obtain ⟨hi3, hsz3, hk3⟩ := hp
        obtain ⟨hr, hl4, hk4, ht4⟩ := fin (some (.goto t)) W3 (fun b hb => hk3 b (Or.inr (Or.inr hb)))
        exact ⟨_, _, hr, .inr ⟨rfl, ⟨W3, .goto t, hi3, ht4, hl4, hk4, fun b hb => (hT' b hb).1⟩, Nat.le_trans hba.size (by simpa using hsz3), hkeep (some (.goto t)) W3 hk3⟩⟩
      | panic ch => exact hp.elim
      | outgrown => exact hp.elim
    · -- behind the iterator
      rintro e W2 ⟨⟨v, rfl⟩, (⟨Tp, Wp, ⟨Wq, hi, hqp, hl, hk, hTp, hRp⟩, hturn⟩ | ⟨pre, Tp, Wp, hpre, ⟨Wq, c, hi, hqp, hl, hk, hTp⟩, hturn⟩)⟩
      · have hlp : w.heap.size + 1 < Wp.heap.size := (Array.getElem?_eq_some_iff.1 hl).1
        have hl2 := (hturn.block _ hlp (fun h => by have := (hTp _ h).1; omega)).trans hl
        have hk2 := (hturn.block w.heap.size (by omega) (fun h => by have := (hTp _ h).1; omega)).trans hk
        refine ⟨none, _, by have := run_endLoop (P := P) hl2 (by rw [hrec]; simp); rw [hrec] at this; exact this, ?_⟩
        refine hdone Tp Wq _ hi (((hqp.mono (fun i _ h => Or.inr h)).trans (hturn.mono (fun i _ h => Or.inl h))).trans (Turns.put _ _ _ (Or.inr (Or.inl rfl)))) (fun b hb => (hTp b hb).1) ?_ ((World.putObj_heap_other (by omega)).trans hk2)
        simp; exact (Array.getElem?_eq_some_iff.1 hl2).1
      · have hlp : w.heap.size + 1 < Wp.heap.size := (Array.getElem?_eq_some_iff.1 hl).1
        have hl2 := (hturn.block _ hlp (fun h => by have := (hTp _ h); omega)).trans hl
        have hk2 := (hturn.block w.heap.size (by omega) (fun h => by have := (hTp _ h); omega)).trans hk
        refine ⟨some c, _, by have := run_endLoop (P := P) hl2 (by rw [hrec]; simp); rw [hrec] at this; exact this, ?_⟩
        refine hstop c pre Tp Wq _ hpre hi (((hqp.mono (fun i _ h => Or.inr h)).trans (hturn.mono (fun i _ h => Or.inl h))).trans (Turns.put _ _ _ (Or.inr (Or.inl rfl)))) (fun b hb => (hTp b hb)) ?_ ((World.putObj_heap_other (by omega)).trans hk2)
        simp; exact (Array.getElem?_eq_some_iff.1 hl2).1
end Go.Proofs.YtoladolgmeanhaaGreat
