/- Several texts in one, each with its own head. -/
import Derived.Test.YtoladolgmeanhaaGreatQc40
import Derived.BigQuiet
import Derived.Test.YtoladolgmeanhaaGreatQc22
import Derived.Test.YtoladolgmeanhaaGreatQc18
import Derived.Laws.BytesArg
import Derived.Lib.SlBytesConst
/- deflate: text.stream: the shortest of the three forms. -/
namespace Go.Proofs.YtoladolgmeanhaaGreat
open Go.RowKit Go.Maps

def FmQ (b : List Nat) (ts : List Tk) (i : Nat) (Q : Pt) : Prop := (i = 0 ∧ Q = putB 0 (stB b)) ∨ (i = 1 ∧ Q = fixP ts) ∨ (i = 2 ∧ DynF ts Q)
def FmP (b : List Nat) (ts : List Tk) (i : Nat) (P : Pt) : Prop := (i = 1 ∧ P = putB 0 (stB b)) ∨ (i = 2 ∧ P = pickP (putB 0 (stB b)) (fixP ts)) ∨ (i = 3 ∧ ∃ Q, DynF ts Q ∧ P = pickP (pickP (putB 0 (stB b)) (fixP ts)) Q)
theorem FmP.step {b : List Nat} {ts : List Tk} {i : Nat} {P Q : Pt} (h : FmP b ts i P) (k : FmQ b ts i Q) : FmP b ts (i + 1) (pickP P Q) := by
  rcases h with ⟨rfl, rfl⟩ | ⟨rfl, rfl⟩ | ⟨rfl, -⟩
  · rcases k with ⟨h, -⟩ | ⟨-, rfl⟩ | ⟨h, -⟩
    · omega
    · exact .inr (.inl ⟨rfl, rfl⟩)
    · omega
  · rcases k with ⟨h, -⟩ | ⟨h, -⟩ | ⟨-, k⟩
    · omega
    · omega
    · exact .inr (.inr ⟨rfl, Q, k, rfl⟩)
  · rcases k with ⟨h, -⟩ | ⟨h, -⟩ | ⟨h, -⟩ <;> omega
theorem FmQ.first {b : List Nat} {ts : List Tk} {Q : Pt} (k : FmQ b ts 0 Q) : FmP b ts 1 Q := by
  rcases k with ⟨-, rfl⟩ | ⟨h, -⟩ | ⟨h, -⟩
  · exact .inl ⟨rfl, rfl⟩
  · omega
  · omega
theorem FmP.last {b : List Nat} {ts : List Tk} {P : Pt} (h : FmP b ts 3 P) : ∃ Q, DynF ts Q ∧ P = pickP (pickP (putB 0 (stB b)) (fixP ts)) Q := by
  rcases h with ⟨h, -⟩ | ⟨h, -⟩ | ⟨-, h⟩
  · omega
  · omega
  · exact h
theorem wry_new (w : World) : WrY (fun b => b < w.heap.size) (w.heap.size + 1) w.heap.size [] (w.alloc (.cells #[.slice none 0 0, .int .i64 0] 60)) (w.alloc (.cells #[.slice none 0 0, .int .i64 0] 60)) :=
  ⟨.slice none 0 0, ⟨by omega, ⟨_, World.alloc_heap_new w _⟩, World.ownsRow_nil _ _ _ _, by decide⟩, by rw [World.size_alloc]; omega, by decide, Turns.refl _ _, fun b hb => ⟨by omega, by simp [Value.ownBlock], by rw [World.size_alloc]; omega⟩⟩
def BestI (w0 : World) (b : List Nat) (ts : List Tk) (i : Nat) (bv : Value) (w : World) : Prop := (i = 0 ∧ bv = .pointer none) ∨ (0 < i ∧ ∃ B sv P, bv = .pointer (some ⟨B, 0, none⟩) ∧ w0.heap.size ≤ B ∧ Wr w (B + 1) B sv (nmP P) (szP P) ∧ szP P ≤ 8388608 ∧ FmP b ts i P)
structure StmI (w0 : World) (b : List Nat) (ts : List Tk) (gB : Nat) (Fs : Array Value) (i : Nat) (bv : Value) (w : World) : Prop where
  bw : Below w0.heap.size w0 w
  tab : w.heap[gB]? = some (.cells Fs 74)
  best : BestI w0 b ts i bv w
theorem StmI.after {w0 wr w2 : World} {b : List Nat} {ts : List Tk} {gB i : Nat} {Fs : Array Value} {bv : Value} {o : Obj} {Q : Pt} (h : StmI w0 b ts gB Fs i bv wr) (hY : WrY (fun b => b < wr.heap.size) (wr.heap.size + 1) wr.heap.size Q (wr.alloc o) w2) :
    StmI w0 b ts gB Fs i bv w2 ∧ w0.heap.size ≤ wr.heap.size ∧ szP Q ≤ 8388608 ∧ ∃ sv, Wr w2 (wr.heap.size + 1) wr.heap.size sv (nmP Q) (szP Q) := by
  have hb1 := Below.al1 wr o
  have ht := (Turns.of_below' (T := fun b => ¬ b < wr.heap.size) hb1).trans hY.turns
  have hs := h.bw.size
  refine ⟨⟨h.bw.trans (ht.below hs fun b hb => by omega), (ht.block _ (lt_heap h.tab) (fun hn => hn (lt_heap h.tab))).trans h.tab, ?_⟩, hs, hY.max, ?_⟩
  · rcases h.best with h1 | ⟨h1, B, sv, P, h2, h3, h4, h5, h6⟩
    · exact .inl h1
    · exact .inr ⟨h1, B, sv, P, h2, h3, h4.turns ht (fun hn => hn h4.size) (fun k hk hn => hn (h4.own.lt k hk).2), h5, h6⟩
  · obtain ⟨sv, h1, -⟩ := hY
    exact ⟨sv, h1⟩
theorem StmI.take {w0 w w' : World} {b : List Nat} {ts : List Tk} {gB i B : Nat} {Fs : Array Value} {bv sv : Value} {Q P' : Pt} (h : StmI w0 b ts gB Fs i bv w) (hb : Below w.heap.size w w') (hB : w0.heap.size ≤ B) (hw : Wr w (B + 1) B sv (nmP Q) (szP Q)) (hm : szP Q ≤ 8388608) (hf : FmP b ts (i + 1) P') (e : P' = Q) : StmI w0 b ts gB Fs (i + 1) (.pointer (some ⟨B, 0, none⟩)) w' := by
  subst e
  exact ⟨Below.thn h.bw hb, (hb.block _ (lt_heap h.tab)).trans h.tab, .inr ⟨by omega, B, sv, P', rfl, hB, hw.below hb, hm, hf⟩⟩
theorem StmI.leave {w0 w w' : World} {b : List Nat} {ts : List Tk} {gB i B : Nat} {Fs : Array Value} {sv : Value} {P P' : Pt} (h : StmI w0 b ts gB Fs i (.pointer (some ⟨B, 0, none⟩)) w) (hb : Below w.heap.size w w') (hB : w0.heap.size ≤ B) (hw : Wr w (B + 1) B sv (nmP P) (szP P)) (hm : szP P ≤ 8388608) (hf : FmP b ts (i + 1) P') (e : P' = P) : StmI w0 b ts gB Fs (i + 1) (.pointer (some ⟨B, 0, none⟩)) w' := by
  subst e
  exact ⟨Below.thn h.bw hb, (hb.block _ (lt_heap h.tab)).trans h.tab, .inr ⟨by omega, B, sv, P', rfl, hB, hw.below hb, hm, hf⟩⟩
set_option maxRecDepth 20000 in
set_option maxHeartbeats 8000000 in
theorem tstream_any (p : Option Addr) (c : Nat) (b : List Nat) (pt : Option Addr) (ct : Nat) (ts : List Tk) (w : World) (hb : Rw8 w (.slice p b.length c) b) (hby : ∀ x ∈ b, x < 256) (hl : b.length ≤ 524288) (ht : RowAt encT 3 w pt ts) (hT : Toks (fb b) b.length 0 ts) (h256 : ∀ t ∈ ts, t.b < 256) :
    Calls Tryz.prog 23 #[.agg #[.slice p b.length c, .slice pt ts.length ct]] w fun e w' => ∃ B sv P, e = .returned (.pointer (some ⟨B, 0, none⟩)) ∧ Wr w' (B + 1) B sv (nmP P) (szP P) ∧ szP P ≤ 8388608 ∧ FmP b ts 3 P ∧ Below w.heap.size w w' := by
  have hx := hT.tell hl
  have h2 : (xp ts []).2 = 0 := by rw [hx]
  have hok := xp_okD h2
  have hsz := xp_sizes h2
  rw [hx] at hsz
  simp only [List.length_nil, Nat.zero_add] at hsz
  have hlt := hT.le.2
  obtain ⟨_, _, e0, hcc, hcm, hcells⟩ := hb.cells
  obtain ⟨rfl, -, rfl⟩ : p = _ ∧ b.length = b.length ∧ c = _ := by injection e0 with a1 a2 a3; exact ⟨a1, rfl, a3⟩
  have Hcells := Lib.hid hcells
  have Ht := Lib.hid ht
  have Hplt : Hid (∀ a, pt = some a → a.block < w.heap.size) := Lib.hid fun a ha => by
    rcases ht with ⟨h, -⟩ | ⟨g, off, rfl, h3, -⟩
    · rw [h] at ha; cases ha
    · cases ha; exact h3
  have Hby := Lib.hid hby
  have HX := Lib.hid (show ∀ t ∈ ts, t.okB = true ∧ t.b < 256 from fun t h => ⟨hok t h, h256 t h⟩)
  have Hfs := Lib.hid (fix_sz hx)
  clear hb hby ht hT h256 hx h2 hok e0 hcells
  obtain ⟨nb, hnb⟩ : ∃ n, b.length = n := ⟨_, rfl⟩
  obtain ⟨nt, hnt⟩ : ∃ n, ts.length = n := ⟨_, rfl⟩
  have Hnb := Lib.hid (And.intro hnb hnt)
  rw [hnb] at hl hcc hsz hlt Hfs ⊢
  have Hsum := Lib.hid hsz
  clear hsz
  rw [hnt] at hlt ⊢
  clear hnb hnt
  have hmf : ∀ (fn : Fn) (first cap : Array Value) (w : World), (Instr.makeFunc fn first cap).run Tryz.prog w = .ok (.func fn first cap) w := fun _ _ _ _ => rfl
  go_enter Tryz.func23, Tryz.ntmps23
  go_wp2_with fail
  obtain ⟨Fs, hFs⟩ : ∃ Fs : Array Value, Fs = #[.func (.func 43) #[.agg #[.slice p nb c, .slice pt nt ct]] #[], .func (.func 44) #[.agg #[.slice p nb c, .slice pt nt ct]] #[], .func (.func 45) #[.agg #[.slice p nb c, .slice pt nt ct]] #[]] := ⟨_, rfl⟩
  have hI0 : StmI w b ts (w.heap.size + 1) Fs 0 (.pointer none) ((w.alloc (.cells #[.slice p nb c, .slice pt nt ct] 53)).alloc (.cells Fs 74)) := by
    have hg := heap_pushed [.cells #[.slice p nb c, .slice pt nt ct] 53, .cells Fs 74] w
    simp only [List.foldl_cons, List.foldl_nil] at hg
    exact ⟨Below.al (Below.al1 _ _) _, (hg 1 _).2 rfl, .inl ⟨rfl, rfl⟩⟩
  rw [← hFs]
  generalize (w.alloc (.cells #[.slice p nb c, .slice pt nt ct] 53)).alloc (.cells Fs 74) = w1 at *
  obtain ⟨gB, hgB⟩ : ∃ g, w.heap.size + 1 = g := ⟨_, rfl⟩
  simp only [hgB] at hI0 ⊢
  have HI0 := Lib.hid hI0
  clear hI0
  go_loopw [3, 15] (fun bu iv wr => ∃ (i : Nat) (bv : Value), bv = bu ∧ iv = .int .i64 (i : Int) ∧ i ≤ 3 ∧ Hid (StmI w b ts gB Fs i bv wr)) (fun _ iv _ => 3 - (intOf iv).toNat)
  case atStart => exact ⟨0, _, rfl, rfl, Nat.zero_le _, HI0⟩
  case round =>
    clear HI0
    obtain ⟨i, bv, rfl, rfl, hi, HI⟩ := hrel
    have HW := Lib.hid (wry_new wr)
    have HR8 : Hid (BsAt wr p b) := Lib.hid fun k hk => by
      obtain ⟨g, off, e, hc⟩ := Hcells.out k (by exact hk)
      refine ⟨g, off, e, ?_⟩
      rw [List.getD_eq_getElem?_getD, List.getElem?_eq_getElem hk]
      exact cell_later HI.out.bw hc
    have HRt : Hid (RowAt encT 3 (wr.alloc (.cells #[.slice none 0 0, .int .i64 0] 60)) pt ts) := Lib.hid ((Ht.out.turns (T := fun _ => False) (Turns.of_below' HI.out.bw) fun _ _ h => h).turns (T := fun _ => False) (Turns.of_below' (Below.al1 _ _)) fun _ _ h => h)
    have hsw := HI.out.bw.size
    rcases (show i = 0 ∨ i = 1 ∨ i = 2 ∨ i = 3 by omega) with rfl | rfl | rfl | rfl
    · have xf : wr.cell? ⟨gB, 0, none⟩ = some (.func (.func 43) #[.agg #[.slice p nb c, .slice pt nt ct]] #[]) := cell_heap HI.out.tab (by rw [hFs]; rfl)
      go_wp2_with fail
      have hc := tstored_any p c (.slice pt nt ct) b (wr.alloc (.cells #[.slice none 0 0, .int .i64 0] 60)) (WrF.start (F := fun w' => BsAt w' p b) HW.out fun w' ht k hk => by
        obtain ⟨g, off, e, hc⟩ := HR8.out k hk
        exact ⟨g, off, e, ht.cell (cell_later (Below.al1 wr _) hc) fun hn => hn (World.block_lt_of_cell? _ _ hc)⟩) (fun _ h => h) Hby.out (by rw [Hnb.out.1]; exact hl) (by rw [Hnb.out.1]; exact hcc)
      rw [Hnb.out.1] at hc
      refine Calls.mono hc ?_
      rintro _ w2 ⟨rfl, hF2⟩
      have hQ : FmQ b ts 0 (putB 0 (stB b)) := .inl ⟨rfl, rfl⟩
      obtain ⟨hA, hs2, hm2, sv2, hw2⟩ := HI.out.after hF2.done
      clear hF2 hc
      obtain ⟨-, rfl⟩ : (0 : Nat) = 0 ∧ bv = .pointer none := by
        rcases hA.best with h | ⟨h, -⟩
        · exact h
        · omega
      have HN : Hid (∀ n, StmI w b ts gB Fs 1 (.pointer (some ⟨wr.heap.size, 0, none⟩)) (w2.drewN n)) := Lib.hid fun n => hA.take (Below.drewN' (Below.refl _ _) n) hs2 hw2 hm2 hQ.first rfl
      generalize wr.heap.size = B2 at *
      clear hA hw2 hQ xf HW HR8 HRt
      go_upto_region 7 with (fail)
      go_quiet (fail)
      rename_i nq
      have HN1 := Lib.hid (HN.out nq)
      generalize w2.drewN nq = w3 at *
      clear HN
      go_wp2
      go_roundw
      case rel => exact ⟨1, _, rfl, by go_num, by omega, HN1⟩
      case measure => simp [intOf]
    · have xf : wr.cell? ⟨gB, 1, none⟩ = some (.func (.func 44) #[.agg #[.slice p nb c, .slice pt nt ct]] #[]) := cell_heap HI.out.tab (by rw [hFs]; rfl)
      go_wp2_with fail
      have hc := tfixed_any (.slice p nb c) pt ct ts (wr.alloc (.cells #[.slice none 0 0, .int .i64 0] 60)) HW.out HRt.out (fun a ha => Nat.lt_of_lt_of_le (Hplt.out a ha) hsw) HX.out (by rw [Hnb.out.2]; omega) (by have := Hfs.out; omega)
      rw [Hnb.out.2] at hc
      refine Calls.mono hc ?_
      rintro _ w2 ⟨rfl, hF2⟩
      have hQ : FmQ b ts 1 (fixP ts) := .inr (.inl ⟨rfl, rfl⟩)
      obtain ⟨hA, hs2, hm2, sv2, hw2⟩ := HI.out.after (Q := fixP ts) hF2
      clear hF2 hc
      obtain ⟨B1, sv1, P1, rfl, hB1, hw1, hm1, hf1⟩ : ∃ B sv P, bv = .pointer (some ⟨B, 0, none⟩) ∧ w.heap.size ≤ B ∧ Wr w2 (B + 1) B sv (nmP P) (szP P) ∧ szP P ≤ 8388608 ∧ FmP b ts 1 P := by
        rcases hA.best with ⟨h, -⟩ | ⟨-, h⟩
        · omega
        · exact h
      have HL1 : Hid (∀ n, Calls Tryz.prog 46 #[.pointer (some ⟨B1, 0, none⟩)] (w2.drewN n) fun e w' => e = .returned (.int .i64 (szP P1 : Int)) ∧ w' = w2.drewN n) := Lib.hid fun n => wlen_any _ _ _ _ _ _ (hw1.below (Below.drewN' (Below.refl _ _) n))
      have HL2 : Hid (∀ n, Calls Tryz.prog 46 #[.pointer (some ⟨wr.heap.size, 0, none⟩)] (w2.drewN n) fun e w' => e = .returned (.int .i64 (szP (fixP ts) : Int)) ∧ w' = w2.drewN n) := Lib.hid fun n => wlen_any _ _ _ _ _ _ (hw2.below (Below.drewN' (Below.refl _ _) n))
      have hf2 := hf1.step hQ
      by_cases hlt2 : szP (fixP ts) < szP P1
      · have HN : Hid (∀ n, StmI w b ts gB Fs 2 (.pointer (some ⟨wr.heap.size, 0, none⟩)) (w2.drewN n)) := Lib.hid fun n => hA.take (Below.drewN' (Below.refl _ _) n) hs2 hw2 hm2 hf2 (if_pos hlt2)
        obtain ⟨s1, hs1⟩ : ∃ s, szP P1 = s := ⟨_, rfl⟩
        obtain ⟨s2, hs2'⟩ : ∃ s, szP (fixP ts) = s := ⟨_, rfl⟩
        rw [hs1] at HL1 hlt2
        rw [hs2'] at HL2 hlt2
        have dl : decide ((s2 : Int) < (s1 : Int)) = true := by simp; omega
        have dl' : decide (s2 < s1) = true := by simp; omega
        generalize wr.heap.size = B2 at *
        clear hA hw1 hw2 hQ hf1 hf2 xf HW HR8 HRt hs1 hs2' hm1 hm2 hlt2
        go_upto_region 7 with (fail)
        go_quiet ((go_at_call 46; first | with_reducible exact Calls.quiet_of_same (HL1.out _) | with_reducible exact Calls.quiet_of_same (HL2.out _)))
        rename_i nq
        have HN1 := Lib.hid (HN.out nq)
        generalize w2.drewN nq = w3 at *
        clear HN HL1 HL2
        go_wp2
        go_roundw
        case rel => exact ⟨2, _, rfl, by go_num, by omega, HN1⟩
        case measure => simp [intOf]
      · have HN : Hid (∀ n, StmI w b ts gB Fs 2 (.pointer (some ⟨B1, 0, none⟩)) (w2.drewN n)) := Lib.hid fun n => hA.leave (Below.drewN' (Below.refl _ _) n) hB1 hw1 hm1 hf2 (if_neg hlt2)
        obtain ⟨s1, hs1⟩ : ∃ s, szP P1 = s := ⟨_, rfl⟩
        obtain ⟨s2, hs2'⟩ : ∃ s, szP (fixP ts) = s := ⟨_, rfl⟩
        rw [hs1] at HL1 hlt2
        rw [hs2'] at HL2 hlt2
        have dl : decide ((s2 : Int) < (s1 : Int)) = false := by simp; omega
        have dl' : decide (s2 < s1) = false := by simp; omega
        generalize wr.heap.size = B2 at *
        clear hA hw1 hw2 hQ hf1 hf2 xf HW HR8 HRt hs1 hs2' hm1 hm2 hlt2
        go_upto_region 7 with (fail)
        go_quiet ((go_at_call 46; first | with_reducible exact Calls.quiet_of_same (HL1.out _) | with_reducible exact Calls.quiet_of_same (HL2.out _)))
        rename_i nq
        have HN1 := Lib.hid (HN.out nq)
        generalize w2.drewN nq = w3 at *
        clear HN HL1 HL2
        go_wp2
        go_roundw
        case rel => exact ⟨2, _, rfl, by go_num, by omega, HN1⟩
        case measure => simp [intOf]
    · have xf : wr.cell? ⟨gB, 2, none⟩ = some (.func (.func 45) #[.agg #[.slice p nb c, .slice pt nt ct]] #[]) := cell_heap HI.out.tab (by rw [hFs]; rfl)
      go_wp2_with fail
      have hc := tdynamic_any (.slice p nb c) pt ct ts (wr.alloc (.cells #[.slice none 0 0, .int .i64 0] 60)) HW.out HRt.out (fun a ha => Nat.lt_of_lt_of_le (Hplt.out a ha) hsw) HX.out (by rw [Hnb.out.2]; omega) (by have := Hsum.out; omega)
      rw [Hnb.out.2] at hc
      refine Calls.mono hc ?_
      rintro _ w2 ⟨Q, rfl, hD, hF2⟩
      have hQ : FmQ b ts 2 Q := .inr (.inr ⟨rfl, hD⟩)
      obtain ⟨hA, hs2, hm2, sv2, hw2⟩ := HI.out.after hF2
      clear hF2 hc
      obtain ⟨B1, sv1, P1, rfl, hB1, hw1, hm1, hf1⟩ : ∃ B sv P, bv = .pointer (some ⟨B, 0, none⟩) ∧ w.heap.size ≤ B ∧ Wr w2 (B + 1) B sv (nmP P) (szP P) ∧ szP P ≤ 8388608 ∧ FmP b ts 2 P := by
        rcases hA.best with ⟨h, -⟩ | ⟨-, h⟩
        · omega
        · exact h
      have HL1 : Hid (∀ n, Calls Tryz.prog 46 #[.pointer (some ⟨B1, 0, none⟩)] (w2.drewN n) fun e w' => e = .returned (.int .i64 (szP P1 : Int)) ∧ w' = w2.drewN n) := Lib.hid fun n => wlen_any _ _ _ _ _ _ (hw1.below (Below.drewN' (Below.refl _ _) n))
      have HL2 : Hid (∀ n, Calls Tryz.prog 46 #[.pointer (some ⟨wr.heap.size, 0, none⟩)] (w2.drewN n) fun e w' => e = .returned (.int .i64 (szP (Q) : Int)) ∧ w' = w2.drewN n) := Lib.hid fun n => wlen_any _ _ _ _ _ _ (hw2.below (Below.drewN' (Below.refl _ _) n))
      have hf2 := hf1.step hQ
      by_cases hlt2 : szP (Q) < szP P1
      · have HN : Hid (∀ n, StmI w b ts gB Fs 3 (.pointer (some ⟨wr.heap.size, 0, none⟩)) (w2.drewN n)) := Lib.hid fun n => hA.take (Below.drewN' (Below.refl _ _) n) hs2 hw2 hm2 hf2 (if_pos hlt2)
        obtain ⟨s1, hs1⟩ : ∃ s, szP P1 = s := ⟨_, rfl⟩
        obtain ⟨s2, hs2'⟩ : ∃ s, szP (Q) = s := ⟨_, rfl⟩
        rw [hs1] at HL1 hlt2
        rw [hs2'] at HL2 hlt2
        have dl : decide ((s2 : Int) < (s1 : Int)) = true := by simp; omega
        have dl' : decide (s2 < s1) = true := by simp; omega
        generalize wr.heap.size = B2 at *
        clear hA hw1 hw2 hQ hf1 hf2 xf HW HR8 HRt hs1 hs2' hm1 hm2 hlt2
        go_upto_region 7 with (fail)
        go_quiet ((go_at_call 46; first | with_reducible exact Calls.quiet_of_same (HL1.out _) | with_reducible exact Calls.quiet_of_same (HL2.out _)))
        rename_i nq
        have HN1 := Lib.hid (HN.out nq)
        generalize w2.drewN nq = w3 at *
        clear HN HL1 HL2
        go_wp2
        go_roundw
        case rel => exact ⟨3, _, rfl, by go_num, by omega, HN1⟩
        case measure => simp [intOf]
      · have HN : Hid (∀ n, StmI w b ts gB Fs 3 (.pointer (some ⟨B1, 0, none⟩)) (w2.drewN n)) := Lib.hid fun n => hA.leave (Below.drewN' (Below.refl _ _) n) hB1 hw1 hm1 hf2 (if_neg hlt2)
        obtain ⟨s1, hs1⟩ : ∃ s, szP P1 = s := ⟨_, rfl⟩
        obtain ⟨s2, hs2'⟩ : ∃ s, szP (Q) = s := ⟨_, rfl⟩
        rw [hs1] at HL1 hlt2
        rw [hs2'] at HL2 hlt2
        have dl : decide ((s2 : Int) < (s1 : Int)) = false := by simp; omega
        have dl' : decide (s2 < s1) = false := by simp; omega
        generalize wr.heap.size = B2 at *
        clear hA hw1 hw2 hQ hf1 hf2 xf HW HR8 HRt hs1 hs2' hm1 hm2 hlt2
        go_upto_region 7 with (fail)
        go_quiet ((go_at_call 46; first | with_reducible exact Calls.quiet_of_same (HL1.out _) | with_reducible exact Calls.quiet_of_same (HL2.out _)))
        rename_i nq
        have HN1 := Lib.hid (HN.out nq)
        generalize w2.drewN nq = w3 at *
        clear HN HL1 HL2
        go_wp2
        go_roundw
        case rel => exact ⟨3, _, rfl, by go_num, by omega, HN1⟩
        case measure => simp [intOf]
    · obtain ⟨B1, sv1, P1, rfl, hB1, hw1, hm1, hf1⟩ : ∃ B sv P, bv = .pointer (some ⟨B, 0, none⟩) ∧ w.heap.size ≤ B ∧ Wr wr (B + 1) B sv (nmP P) (szP P) ∧ szP P ≤ 8388608 ∧ FmP b ts 3 P := by
        rcases HI.out.best with ⟨h, -⟩ | ⟨-, h⟩
        · omega
        · exact h
      have HE : Hid (Wr wr (B1 + 1) B1 sv1 (nmP P1) (szP P1) ∧ szP P1 ≤ 8388608 ∧ FmP b ts 3 P1) := Lib.hid ⟨hw1, hm1, hf1⟩
      clear hw1 hm1 hf1 HW HR8 HRt
      go_wp2
      go_ret
      exact ⟨B1, sv1, P1, rfl, HE.out.1, HE.out.2.1, HE.out.2.2, HI.out.bw⟩
end Go.Proofs.YtoladolgmeanhaaGreat

/- lz's Expand. -/
namespace Go.Proofs.YtoladolgmeanhaaGreat
open Go.RowKit

end Go.Proofs.YtoladolgmeanhaaGreat

/- The document's match and Match. -/
namespace Go.Proofs.YtoladolgmeanhaaGreat
open Go.RowKit

end Go.Proofs.YtoladolgmeanhaaGreat

/- The document's Match. -/
namespace Go.Proofs.YtoladolgmeanhaaGreat
open Go.RowKit

end Go.Proofs.YtoladolgmeanhaaGreat

/- Tokens of bytes that are written out; tokens of what stands twice, of a row of one byte; no token could be a longer one (plain). Nothing here speaks of a program. -/
namespace Go.Proofs.YtoladolgmeanhaaGreat

def runC (f : Nat → Nat) (a d : Nat) : Nat → Nat → Nat
  | 0, n => n
  | k + 1, n => if f (a + n) = f (a + n - d) then runC f a d k (n + 1) else n
theorem runC_is (f : Nat → Nat) (a d : Nat) : ∀ (k n : Nat), (∀ j, j < n → f (a + j) = f (a + j - d)) → IsRun f a d (n + k) (runC f a d k n)
  | 0, n, h => ⟨by simp [runC], h, fun h => by simp [runC] at h⟩
  | k + 1, n, h => by
    rw [runC]
    split
    · rename_i e
      have := runC_is f a d k (n + 1) (fun j hj => by
        by_cases e' : j = n
        · rw [e']; exact e
        · exact h j (by omega))
      rwa [show n + 1 + k = n + (k + 1) by omega] at this
    · rename_i e
      exact ⟨by omega, h, fun _ => e⟩
def bestC (f : Nat → Nat) (a m : Nat) : Nat → Nat × Nat
  | 0 => (0, 0)
  | d + 1 => if (bestC f a m d).1 < runC f a (d + 1) m 0 then (runC f a (d + 1) m 0, d + 1) else bestC f a m d
theorem bestC_is (f : Nat → Nat) (a m : Nat) : ∀ d, Scan f a m (d + 1) (bestC f a m d).1 (bestC f a m d).2
  | 0 => Scan.start f a m
  | d + 1 => by
    have h := bestC_is f a m d
    have hr := runC_is f a (d + 1) m 0 (fun j h => by omega)
    rw [Nat.zero_add] at hr
    rw [bestC]
    split
    · rename_i e; exact h.more (by omega) hr e
    · rename_i e; exact h.less hr (by omega)
def tokC (f : Nat → Nat) (N a : Nat) : Tk := if 3 ≤ (bestC f a (mo N a) (min 32768 a)).1 then ⟨0, ((bestC f a (mo N a) (min 32768 a)).1 : Nat), ((bestC f a (mo N a) (min 32768 a)).2 : Nat)⟩ else ⟨f a, 0, 0⟩
theorem tokC_is (f : Nat → Nat) (N a : Nat) : IsTok f N a (tokC f N a) := by
  have h := bestC_is f a (mo N a) (min 32768 a)
  unfold tokC
  split
  · rename_i e; exact h.rep (fun d' h1 h2 => by omega) (by omega) e
  · rename_i e; exact h.byte (fun d' h1 h2 => by omega) (by omega)
def toksC (f : Nat → Nat) (N : Nat) : Nat → Nat → List Tk
  | 0, _ => []
  | k + 1, a => if a < N then tokC f N a :: toksC f N k (a + (tokC f N a).size) else []
theorem toksC_is (f : Nat → Nat) (N : Nat) : ∀ k a, a ≤ N → N ≤ a + k → Toks f N a (toksC f N k a)
  | 0, a, h1, h2 => by
    obtain rfl : a = N := by omega
    exact .nil
  | k + 1, a, h1, h2 => by
    rw [toksC]
    split
    · rename_i e
      have ht := tokC_is f N a
      exact .cons e ht (toksC_is f N k _ (ht.fits e) (by have := ht.size_pos; omega))
    · rename_i e
      obtain rfl : a = N := by omega
      exact .nil
end Go.Proofs.YtoladolgmeanhaaGreat

/- Tokens compared; bytes as strings; the statements' example. -/
namespace Go.Proofs.YtoladolgmeanhaaGreat
open Go.RowKit

theorem OwnT.row {w : World} {base : Nat} {v : Value} {ts : List Tk} (h : OwnT w base v ts) : Row encT 3 w v ts := owns_row' encT_len h
end Go.Proofs.YtoladolgmeanhaaGreat

/- deflate: Deflate. -/
namespace Go.Proofs.YtoladolgmeanhaaGreat
open Go.RowKit Go.Maps

theorem toks_256 {b : List Nat} {ts : List Tk} (h : Toks (fb b) b.length 0 ts) (hb : ∀ x ∈ b, x < 256) : ∀ t ∈ ts, t.b < 256 := fun t ht => by
  obtain ⟨i, hi, rfl⟩ := List.getElem_of_mem ht
  obtain ⟨a, -, -, h2, -⟩ := h.at hi
  exact h2.byte (fb_lt hb)
set_option maxRecDepth 20000 in
set_option maxHeartbeats 4000000 in
theorem deflate_any (v : Value) (b : List Nat) (w : World) (hv : Rw8 w v b) (hby : ∀ x ∈ b, x < 256) (hl : b.length ≤ 524288) :
    Calls Tryz.prog 11 #[v] w fun e w' => ∃ v' S, e = .returned (.tuple #[v', .int .i64 0]) ∧ DefS b S ∧ S.length ≤ 1048576 ∧ w'.ownsRow w.heap.size 5 1 v' S.length (S.map u8v) ∧ Below w.heap.size w w' := by
  have Hv := Lib.hid hv
  have Hby := Lib.hid hby
  have Hl := Lib.hid hl
  obtain ⟨p, c, rfl, -⟩ := hv.cells
  have hM := Lib.hid (match_any b _ w hv.row hby (by omega))
  obtain ⟨nb, hnb⟩ : ∃ n, b.length = n := ⟨_, rfl⟩
  have Hnb := Lib.hid hnb
  rw [hnb] at hl hM Hv ⊢
  have d0 : decide ((nb : Int) > 524288) = false := by simp; omega
  clear hv hby hnb
  go_enter Tryz.func11, Tryz.ntmps11
  go_wp2_with fail
  refine Calls.mono hM.out ?_
  rintro _ w1 ⟨vt, ts, rfl, ho1, ht1, hb1⟩
  replace ht1 : Toks (fb b) b.length 0 ts := by rw [Hnb.out]; exact ht1
  have Ht1 := Lib.hid ht1
  obtain ⟨pt, ct, e, -, -, hrt⟩ := ho1.row
  subst e
  have Hrt := Lib.hid hrt
  have H256 : Hid (∀ t ∈ ts, t.b < 256) := Lib.hid (toks_256 ht1 Hby.out)
  have Hb1 := Lib.hid hb1
  clear ho1 ht1 hb1 hrt hM
  obtain ⟨nt, hnt⟩ : ∃ n, ts.length = n := ⟨_, rfl⟩
  have Hnt := Lib.hid hnt
  rw [hnt]
  clear hnt
  go_upto_region 4 with (fail)
  have hb2 := Below.al1 w1 (.cells #[.slice p nb c, .slice pt nt ct] 53)
  have hz2 := World.alloc_heap_new w1 (.cells #[.slice p nb c, .slice pt nt ct] 53)
  generalize w1.alloc (.cells #[.slice p nb c, .slice pt nt ct] 53) = w2 at *
  have hst := tstream_any p c b pt ct ts w2 (by rw [Hnb.out]; exact Hv.out.below (Below.thn Hb1.out hb2)) Hby.out Hl.out (Hrt.out.turns (T := fun _ => False) (Turns.of_below' hb2) fun _ _ h => h) Ht1.out H256.out
  rw [Hnb.out, Hnt.out] at hst
  have Hst := Lib.hid hst
  have Hb2 := Lib.hid (Below.thn Hb1.out hb2)
  have y0 : w2.cell? ⟨w1.heap.size, 0, none⟩ = some (.slice p nb c) := cell_heap hz2 rfl
  have y1 : w2.cell? ⟨w1.heap.size, 1, none⟩ = some (.slice pt nt ct) := cell_heap hz2 rfl
  clear hst hb2 hz2 hl
  go_wp2_with fail
  refine Calls.mono Hst.out ?_
  rintro _ w3 ⟨B, sv, P, rfl, hw, hm, hf, hb3⟩
  have Hw := Lib.hid (wbytes_any (B + 1) B (nmP P) (szP P) sv w3 hw hm)
  have Hb3 := Lib.hid (Below.thn Hb2.out hb3)
  have hlen := bytP_len P
  have HS : Hid (DefS b (bytP P) ∧ (bytP P).length ≤ 1048576) := Lib.hid ⟨by
    obtain ⟨Q, h1, rfl⟩ := hf.last
    exact ⟨ts, Q, Ht1.out, H256.out, h1, rfl⟩, by omega⟩
  clear hw hf hb3 hm hlen Hst y0 y1
  go_wp2_with fail
  refine Calls.mono Hw.out ?_
  rintro _ w4 ⟨v4, rfl, ho4, hb4⟩
  have Ho4 : Hid (w4.ownsRow w.heap.size 5 1 v4 (bytP P).length ((bytP P).map u8v)) := Lib.hid (owns_lower ho4 Hb3.out.size)
  have Hb4 := Lib.hid (Below.thn Hb3.out hb4)
  obtain ⟨p4, c4, rfl⟩ := owns_slice ho4
  clear ho4 hb4 Hw
  go_wp2
  go_ret2
  exact ⟨_, bytP P, rfl, HS.out.1, HS.out.2, Ho4.out, Hb4.out⟩
end Go.Proofs.YtoladolgmeanhaaGreat
