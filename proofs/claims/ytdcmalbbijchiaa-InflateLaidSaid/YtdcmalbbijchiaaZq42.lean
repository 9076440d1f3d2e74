/- inflate: the statement's lengths of a block: of its tokens' counts the best ones, or the fixed ones. -/
import Derived.Test.YtdcmalbbijchiaaZq36
import Derived.Test.YtdcmalbbijchiaaZq39
import Derived.Test.YtdcmalbbijchiaaZq40
import Derived.Test.YtdcmalbbijchiaaZq41
namespace Go.Proofs.Ytdcmalbbijchiaa
open Go.RowKit Go.Maps

/-- Counts as they lie. -/
def ctV (f : Nat → Nat) (n : Nat) : List Value := (List.range n).map fun i => .int .i64 ((f i : Nat) : Int)
theorem ctV_len (f : Nat → Nat) (n : Nat) : (ctV f n).length = n := by simp [ctV]
theorem ctV_at (f : Nat → Nat) {n i : Nat} (h : i < n) : (ctV f n)[i]? = some (.int .i64 ((f i : Nat) : Int)) := by
  unfold ctV
  rw [List.getElem?_map, List.getElem?_range h]; rfl
theorem ctV_congr {f g : Nat → Nat} {n : Nat} (h : ∀ i, i < n → f i = g i) : ctV f n = ctV g n :=
  List.map_congr_left fun i hi => by rw [h i (List.mem_range.1 hi)]
theorem ctV_set (f : Nat → Nat) (n i x : Nat) : (ctV f n).set i (.int .i64 (x : Int)) = ctV (fun j => if j = i then x else f j) n := by
  refine List.ext_getElem (by simp [ctV]) (fun j h1 h2 => ?_)
  have hj : j < n := by simpa [ctV] using h2
  rw [List.getElem_set]
  by_cases e : i = j
  · subst e; simp [ctV]
  · rw [if_neg e]; simp [ctV, show ¬ j = i from fun h => e h.symm]
theorem ctV_zero (n : Nat) : (List.replicate n (0 : Int)).map (Value.int .i64) = ctV (fun _ => 0) n := by
  refine List.ext_getElem (by simp [ctV]) (fun j h1 h2 => by simp [ctV])
theorem ctV_ctL (f : Nat → Nat) (n : Nat) : ctV f n = (ctL f n).map (Value.int .i64) := by simp [ctV, ctL]

theorem own_intsI {W : World} {base : Nat} {v : Value} {n : Nat} {f : Nat → Nat} (h : W.ownsRow base 3 1 v n (ctV f n)) : Row encZ 1 W v (ctL f n) := by
  rw [ctV_ctL, ← flatZ] at h
  have hl := ctL_len f n
  generalize ctL f n = fs at *
  subst hl
  exact owns_row' encZ_len h

/-- The counts beside the box of the argument. -/
structure CtI (w : World) (B : Nat) (v : Value) (f h : Nat → Nat) (wr : World) : Prop where
  box : wr.cell? ⟨B, 1, none⟩ = some v
  a : wr.ownsRow (B + 1) 3 1 (.slice (some ⟨B + 1, 0, none⟩) 286 286) 286 (ctV f 286)
  d : wr.ownsRow (B + 1) 3 1 (.slice (some ⟨B + 1 + 1, 0, none⟩) 30 30) 30 (ctV h 30)
  bl : Below B w wr

theorem CtI.below {w wr wr' : World} {B : Nat} {v : Value} {f h : Nat → Nat} (H : CtI w B v f h wr) (hb : Below wr.heap.size wr wr') : CtI w B v f h wr' :=
  ⟨cell_later hb H.box, (Turns.of_below' (T := fun _ => False) hb).owns H.a (fun _ _ h => h), (Turns.of_below' (T := fun _ => False) hb).owns H.d (fun _ _ h => h), H.bl.trans (hb.mono (by have := World.block_lt_of_cell? _ _ H.box; exact Nat.le_of_lt this))⟩
theorem CtI.setA {w wr : World} {B : Nat} {v : Value} {f h : Nat → Nat} (H : CtI w B v f h wr) {i x : Nat} (g : Nat → Nat) (hg : ∀ j, j < 286 → g j = if j = i then x else f j) : CtI w B v g h (wr.setCell ⟨B + 1, i, none⟩ (.int .i64 (x : Int))) := by
  have ht : Turns (fun b => b = B + 1) wr (wr.setCell ⟨B + 1, i, none⟩ (.int .i64 (x : Int))) := Turns.set (T := fun b => b = B + 1) (p := ⟨B + 1, i, none⟩) (Turns.refl _ _) rfl _
  refine ⟨ht.cell H.box (by simp), ?_, ht.owns H.d (fun k hk => by cases hk; simp), H.bl.setCell (by simp) _⟩
  have h5 := (World.ownsRow.stored H.a i (.int .i64 (x : Int))).1
  rw [ctV_set] at h5
  rw [ctV_congr hg]
  exact h5
theorem CtI.setD {w wr : World} {B : Nat} {v : Value} {f h : Nat → Nat} (H : CtI w B v f h wr) {i x : Nat} (g : Nat → Nat) (hg : ∀ j, j < 30 → g j = if j = i then x else h j) : CtI w B v f g (wr.setCell ⟨B + 1 + 1, i, none⟩ (.int .i64 (x : Int))) := by
  have ht : Turns (fun b => b = B + 1 + 1) wr (wr.setCell ⟨B + 1 + 1, i, none⟩ (.int .i64 (x : Int))) := Turns.set (T := fun b => b = B + 1 + 1) (p := ⟨B + 1 + 1, i, none⟩) (Turns.refl _ _) rfl _
  refine ⟨ht.cell H.box (by simp; omega), ht.owns H.a (fun k hk => by cases hk; simp), ?_, H.bl.setCell (by simp; omega) _⟩
  have h5 := (World.ownsRow.stored H.d i (.int .i64 (x : Int))).1
  rw [ctV_set] at h5
  rw [ctV_congr hg]
  exact h5
theorem CtI.atA {w wr : World} {B : Nat} {v : Value} {f h : Nat → Nat} (H : CtI w B v f h wr) {i : Nat} (hi : i < 286) : wr.cell? ⟨B + 1, i, none⟩ = some (.int .i64 ((f i : Nat) : Int)) ∧ wr.frozen? ⟨B + 1, i, none⟩ = false :=
  ⟨by rw [World.ownsRow.cellAt H.a i (by omega), ctV_at _ hi], World.ownsRow.frozenAt H.a i⟩
theorem CtI.atD {w wr : World} {B : Nat} {v : Value} {f h : Nat → Nat} (H : CtI w B v f h wr) {i : Nat} (hi : i < 30) : wr.cell? ⟨B + 1 + 1, i, none⟩ = some (.int .i64 ((h i : Nat) : Int)) ∧ wr.frozen? ⟨B + 1 + 1, i, none⟩ = false :=
  ⟨by rw [World.ownsRow.cellAt H.d i (by omega), ctV_at _ hi], World.ownsRow.frozenAt H.d i⟩

/-- A token in memory. -/
structure TkAt (W : World) (g o : Nat) (t : Tk) : Prop where
  c0 : W.cell? ⟨g, o, none⟩ = some (.int .u8 (t.b : Int))
  c1 : W.cell? ⟨g, o + 1, none⟩ = some (.int .i64 t.n)
  c2 : W.cell? ⟨g, o + 2, none⟩ = some (.int .i64 t.d)
theorem TkAt.later {W W' : World} {g o : Nat} {t : Tk} (h : TkAt W g o t) (hb : Below W.heap.size W W') : TkAt W' g o t := ⟨cell_later hb h.c0, cell_later hb h.c1, cell_later hb h.c2⟩
theorem TkAt.turns {T : Nat → Prop} {W W' : World} {g o : Nat} {t : Tk} (h : TkAt W g o t) (ht : Turns T W W') (hn : ¬ T g) : TkAt W' g o t := ⟨ht.cell h.c0 hn, ht.cell h.c1 hn, ht.cell h.c2 hn⟩
theorem RowAt.tk {W : World} {p : Option Addr} {ts : List Tk} (h : ts = [] ∨ RowAt encT 3 W p ts) {i : Nat} (hi : i < ts.length) : ∃ b off, p = some ⟨b, off, none⟩ ∧ b < W.heap.size ∧ TkAt W b (off + i * 3) ts[i] := by
  rcases h with rfl | h | ⟨b, off, rfl, h3, h4⟩
  · simp at hi
  · rw [h.2] at hi; simp at hi
  · exact ⟨b, off, rfl, h3, h4 i _ (List.getElem?_eq_getElem hi) 0 _ rfl, h4 i _ (List.getElem?_eq_getElem hi) 1 _ rfl, h4 i _ (List.getElem?_eq_getElem hi) 2 _ rfl⟩
theorem tk_new (W : World) (t : Tk) : TkAt (W.alloc (.cells #[.int .u8 (t.b : Int), .int .i64 t.n, .int .i64 t.d] 40)) W.heap.size 0 t :=
  ⟨cell_heap (World.alloc_heap_new W _) rfl, cell_heap (World.alloc_heap_new W _) rfl, cell_heap (World.alloc_heap_new W _) rfl⟩

theorem tk_ok {t : Tk} (h : t.okB = true) : (t.n = 0) ∨ (∃ n d : Nat, t.n = (n : Int) ∧ t.d = (d : Int) ∧ 3 ≤ n ∧ n ≤ 258 ∧ 1 ≤ d ∧ d ≤ 32768) := by
  by_cases h0 : t.n = 0
  · exact .inl h0
  · have hk : t.okB = decide (3 ≤ t.n ∧ t.n ≤ 258 ∧ 1 ≤ t.d ∧ t.d ≤ 32768 ∧ t.b = 0) := if_neg h0
    rw [h] at hk
    have hk := of_decide_eq_true hk.symm
    exact .inr ⟨t.n.toNat, t.d.toNat, by omega, by omega, by omega, by omega, by omega, by omega⟩

theorem ct_new (w : World) (x v : Value) : CtI w w.heap.size v (fun _ => 0) (fun _ => 0) (((w.alloc (.cells #[x, v] 28)).alloc (.cells (ctV (fun _ => 0) 286).toArray 3)).alloc (.cells (ctV (fun _ => 0) 30).toArray 3)) := by
  obtain ⟨w1, h1⟩ : ∃ w1, w.alloc (.cells #[x, v] 28) = w1 := ⟨_, rfl⟩
  have s1 : w1.heap.size = w.heap.size + 1 := by rw [← h1, World.size_alloc]
  have c1 : w1.cell? ⟨w.heap.size, 1, none⟩ = some v := by rw [← h1]; exact cell_heap (World.alloc_heap_new w _) rfl
  have b1 : Below w.heap.size w w1 := by rw [← h1]; exact Below.al1 w _
  rw [h1]
  obtain ⟨w2, h2⟩ : ∃ w2, w1.alloc (.cells (ctV (fun _ => 0) 286).toArray 3) = w2 := ⟨_, rfl⟩
  have s2 : w2.heap.size = w.heap.size + 1 + 1 := by rw [← h2, World.size_alloc, s1]
  have a2 := World.ownsRow_lit (base := w.heap.size + 1) (size := 1) (e := 3) w1 (ctV (fun _ => 0) 286).toArray 286 (by rw [s1]; exact Nat.le_refl _) (by simp only [maxLen]; omega) (by simp [ctV_len])
  rw [h2, s1, List.toList_toArray] at a2
  have b2 : Below w1.heap.size w1 w2 := by rw [← h2]; exact Below.al1 w1 _
  rw [h2]
  have a3 := World.ownsRow_lit (base := w.heap.size + 1) (size := 1) (e := 3) w2 (ctV (fun _ => 0) 30).toArray 30 (by rw [s2]; exact Nat.le_succ _) (by simp only [maxLen]; omega) (by simp [ctV_len])
  rw [s2, List.toList_toArray] at a3
  have b3 := Below.al1 w2 (.cells (ctV (fun _ => 0) 30).toArray 3)
  exact ⟨cell_later b3 (cell_later b2 c1), (Turns.of_below' (T := fun _ => False) b3).owns a2 (fun _ _ h => h), a3, (Below.thn (Below.thn b1 b2) b3)⟩

theorem ct_err {f : Nat → Nat} {n : Nat} (hn : n ≤ 320) (h : ∀ i, f i ≤ 1000000) : lErr (ctL f n) 15 = 0 ∧ lLen (ctL f n) 15 = n := by
  have e : lErr (ctL f n) 15 = 0 := by
    unfold lErr
    rw [if_neg (by rw [ctL_may hn h]; decide), if_neg]
    rw [ctL_len]
    have := many_le (fq (ctL f n)) n
    have : (2 : Nat) ^ (15 : Int).toNat = 32768 := by decide
    omega
  exact ⟨e, by unfold lLen; rw [if_pos e, ctL_len]⟩

set_option maxRecDepth 20000 in
set_option maxHeartbeats 8000000 in
theorem lengths_own (k : Nat) (v : Value) (ts : List Tk) (w : World) (hk : k < 256) (h1 : k % 3 ≠ 1) (hv : RowIn encT 3 w v ts) (hx : ∀ t ∈ ts, t.okB = true ∧ t.b < 256) (hl : ts.length ≤ 300) :
    Calls Try.prog 14 #[.agg #[.int .u8 (k : Int), v]] w fun e w' => ∃ va vb g h, e = .returned (.tuple #[va, vb]) ∧ LensOk (ctL (cA ts) 286) 15 g ∧ LensOk (ctL (cD ts) 30) 15 h ∧
      w'.ownsRow w.heap.size 5 1 va 286 ((gl g 286).map u8v) ∧ w'.ownsRow w.heap.size 5 1 vb 30 ((gl h 30).map u8v) ∧ Below w.heap.size w w' := by
  obtain ⟨p, c, rfl, -, -, hrow⟩ := hv
  have Hrow := Lib.hid hrow
  have Hx := Lib.hid hx
  obtain ⟨n, hn⟩ : ∃ n, ts.length = n := ⟨_, rfl⟩
  have Hn := Lib.hid hn
  rw [hn] at hl ⊢
  have hmk1 : ∀ w : World, (Instr.makeSlice 49 (.int .i64 286) (.int .i64 286)).run Try.prog w = .ok (.slice (some ⟨w.heap.size, 0, none⟩) 286 286) (w.alloc (.cells (ctV (fun _ => 0) 286).toArray 3)) := fun w => by
    have := make_z 286 (by omega) w
    rw [ctV_zero] at this
    exact this
  have hmk2 : ∀ w : World, (Instr.makeSlice 49 (.int .i64 30) (.int .i64 30)).run Try.prog w = .ok (.slice (some ⟨w.heap.size, 0, none⟩) 30 30) (w.alloc (.cells (ctV (fun _ => 0) 30).toArray 3)) := fun w => by
    have := make_z 30 (by omega) w
    rw [ctV_zero] at this
    exact this
  have d0 : ((k : Int) % 3 == 1) = false := by simp; omega
  clear hn hx hrow
  go_enter Try.func14, Try.ntmps14
  go_upto_region 5 with (fail)
  have HC := ct_new w (.int .u8 (k : Int)) (.slice p n c)
  generalize ((w.alloc (.cells #[.int .u8 (k : Int), .slice p n c] 28)).alloc (.cells (ctV (fun _ => 0) 286).toArray 3)).alloc (.cells (ctV (fun _ => 0) 30).toArray 3) = W3 at *
  obtain ⟨B, hB⟩ : ∃ B, w.heap.size = B := ⟨_, rfl⟩
  have HBs := Lib.hid hB
  rw [hB] at HC ⊢
  obtain ⟨a0, a1⟩ := HC.atA (i := 256) (by omega)
  have HC2 := Lib.hid (HC.setA (i := 256) (x := 1) (cA (ts.take 0)) (fun j _ => by simp [cA, eq_comm]))
  clear HC hB hmk1 hmk2 d0
  go_wp2
  go_loopw [6] (fun iv wr => ∃ i : Nat, iv = .int .i64 (i : Int) ∧ i ≤ n ∧ Hid (CtI w B (.slice p n c) (cA (ts.take i)) (cD (ts.take i)) wr)) (fun iv _ => n - (intOf iv).toNat)
  case atStart => exact ⟨0, rfl, Nat.zero_le _, HC2⟩
  case round =>
    clear HC2 a0 a1
    obtain ⟨i, rfl, hi, HC⟩ := hrel
    have cb := HC.out.box
    by_cases hin : i < n
    · have d1 : decide ((i : Int) < (n : Int)) = true := by simp; omega
      have hin' : i < ts.length := by rw [Hn.out]; exact hin
      obtain ⟨g, off, rfl, hg, htk⟩ := RowAt.tk Hrow.out hin'
      have hbl : Below w.heap.size w wr := by rw [HBs.out]; exact HC.out.bl
      obtain ⟨c0, c1, c2⟩ := htk.later hbl
      obtain ⟨hok, hb256⟩ := Hx.out _ (List.getElem_mem hin')
      have Hts := Lib.hid (List.take_succ_eq_append_getElem hin')
      have hi301 : (ts.take i).length ≤ 300 := by rw [List.length_take]; omega
      have i0 : (0 : Int) ≤ (i : Int) := by omega
      have i1 : (i : Int) < (n : Int) := by omega
      generalize ts[i] = t at *
      clear htk hbl hin' hg
      go_upto_region 10 with (fail)
      have HC1 := Lib.hid (HC.out.below (Below.al1 wr (.cells #[.int .u8 (t.b : Int), .int .i64 t.n, .int .i64 t.d] 40)))
      have HT1 := tk_new wr t
      have hgt : B + 1 < wr.heap.size := World.block_lt_of_cell? _ _ (HC.out.atA (i := 0) (by omega)).1
      generalize wr.alloc (.cells #[.int .u8 (t.b : Int), .int .i64 t.n, .int .i64 t.d] 40) = w1 at *
      generalize wr.heap.size = gt at *
      have HT := Lib.hid HT1
      clear c0 c1 c2 cb HT1 HC
      obtain ⟨y0, y1, y2⟩ := HT.out
      have HA := cA_snoc (ts.take i) t
      have HD := cD_snoc (ts.take i) t
      rw [← Hts.out] at HA HD
      have hla := cA_le (ts.take i)
      have hld := cD_le (ts.take i)
      rcases tk_ok hok with h0 | ⟨tn, td, e1, e2, n1, n2, n3, n4⟩
      · rw [h0] at y1
        have e0 : symA t = t.b := if_pos h0
        rw [e0] at HA
        obtain ⟨a0, a1⟩ := HC1.out.atA (i := t.b) (by omega)
        have hx301 : cA (ts.take i) t.b ≤ 301 := by have := hla t.b; omega
        have HC3 := HC1.out.setA (i := t.b) (x := cA (ts.take i) t.b + 1) (cA (ts.take (i + 1))) (fun j _ => by
          rw [HA j]
          by_cases e : j = t.b
          · subst e; simp
          · rw [if_neg e, if_neg (fun h => e h.symm), Nat.add_zero])
        have eD : cD (ts.take (i + 1)) = cD (ts.take i) := funext fun j => by rw [HD j, if_neg (by simp [h0]), Nat.add_zero]
        rw [← eD] at HC3
        generalize cA (ts.take i) t.b = x at *
        rw [show (((x + 1 : Nat)) : Int) = (x : Int) + 1 from rfl] at HC3
        have HC4 := Lib.hid HC3
        have j0 : (0 : Int) ≤ (t.b : Int) := by omega
        have j1 : (t.b : Int) < 286 := by omega
        clear HA HD hla hld HC3 eD e0 hok HC1
        rw [h0]
        generalize t.b = tb at *
        go_wp2_with fail
        go_roundw
        case rel => exact ⟨i + 1, by go_num, by omega, HC4⟩
        case measure => simp [intOf]; omega
      · rw [e1] at y1
        rw [e2] at y2
        have e0 : symA t = lnSym tn := by unfold symA; rw [if_neg (by omega), e1]; rfl
        have eD : symD t = dsSym td := by unfold symD; rw [e2]; rfl
        have h0 : t.n ≠ 0 := by omega
        rw [e0] at HA
        rw [eD] at HD
        obtain ⟨s1, s2, -⟩ := lnSym_ok tn (by omega) n1
        obtain ⟨r1, -⟩ := dsSym_ok n3 n4
        obtain ⟨a0, a1⟩ := HC1.out.atA (i := lnSym tn) (by omega)
        have hx301 : cA (ts.take i) (lnSym tn) ≤ 301 := by have := hla (lnSym tn); omega
        have hy301 : cD (ts.take i) (dsSym td) ≤ 300 := by have := hld (dsSym td); omega
        have HC3 := HC1.out.setA (i := lnSym tn) (x := cA (ts.take i) (lnSym tn) + 1) (cA (ts.take (i + 1))) (fun j _ => by
          rw [HA j]
          by_cases e : j = lnSym tn
          · subst e; simp
          · rw [if_neg e, if_neg (fun h => e h.symm), Nat.add_zero])
        have HTt : Turns (fun b => b = B + 1) w1 (w1.setCell ⟨B + 1, lnSym tn, none⟩ (.int .i64 ((cA (ts.take i) (lnSym tn) + 1 : Nat) : Int))) := Turns.set (T := fun b => b = B + 1) (p := ⟨B + 1, lnSym tn, none⟩) (Turns.refl _ _) rfl _
        have z2 := HTt.cell y2 (by simp; omega)
        obtain ⟨b0, b1⟩ := HC3.atD (i := dsSym td) (by omega)
        have HC5 := HC3.setD (i := dsSym td) (x := cD (ts.take i) (dsSym td) + 1) (cD (ts.take (i + 1))) (fun j _ => by
          rw [HD j]
          by_cases e : j = dsSym td
          · subst e; simp [h0]
          · rw [if_neg e, if_neg (fun h => e h.2.symm), Nat.add_zero])
        generalize cA (ts.take i) (lnSym tn) = x at *
        generalize cD (ts.take i) (dsSym td) = y at *
        rw [show (((x + 1 : Nat)) : Int) = (x : Int) + 1 from rfl] at HC5 z2 b0 b1 HC3 HTt
        rw [show (((y + 1 : Nat)) : Int) = (y : Int) + 1 from rfl] at HC5
        have HC6 := Lib.hid HC5
        have j0 : (0 : Int) ≤ (lnSym tn : Int) := by omega
        have j1 : (lnSym tn : Int) < 286 := by omega
        have j2 : (0 : Int) ≤ (dsSym td : Int) := by omega
        have j3 : (dsSym td : Int) < 30 := by omega
        have d2 : ((tn : Int) == 0) = false := by simp; omega
        have Hsy := Lib.hid (fun W => symbol_any tn W n1 n2)
        have Hds := Lib.hid (fun W => distance_any td W n3 n4)
        clear HA HD hla hld HC3 eD e0 hok HC1 HC5 HTt
        rw [e1]
        go_wp2_with fail
        refine Calls.mono (Hsy.out _) ?_
        rintro _ w2 ⟨rfl, rfl⟩
        generalize lnSym tn = ls at *
        go_wp2_with fail
        refine Calls.mono (Hds.out _) ?_
        rintro _ w3 ⟨rfl, rfl⟩
        generalize dsSym td = ds at *
        go_wp2_with fail
        go_roundw
        case rel => exact ⟨i + 1, by go_num, by omega, HC6⟩
        case measure => simp [intOf]; omega
    · obtain rfl : i = n := by omega
      have hE : ts.take i = ts := List.take_of_length_le (by rw [Hn.out]; exact Nat.le_refl _)
      rw [hE] at HC
      have hlen := Hn.out
      obtain ⟨x1, x2⟩ := ct_err (f := cA ts) (n := 286) (by omega) (fun j => by have := cA_le ts j; omega)
      obtain ⟨y1, y2⟩ := ct_err (f := cD ts) (n := 30) (by omega) (fun j => by have := cD_le ts j; omega)
      have HLa := lengths_all (ctL (cA ts) 286) _ 15 wr (own_intsI HC.out.a)
      rw [x1, x2] at HLa
      have HLA := Lib.hid HLa
      have Hbl : Hid (Below w.heap.size w wr) := Lib.hid (by rw [HBs.out]; exact HC.out.bl)
      clear HLa hE hlen x1 x2
      go_wp2_with fail
      refine Calls.mono HLA.out ?_
      rintro _ w1 ⟨v1, g, rfl, ho1, hk1, hb1⟩
      have HK1 := Lib.hid (hk1 (by first | trivial | rfl))
      have HLd := lengths_all (ctL (cD ts) 30) _ 15 w1 (own_intsI (HC.out.below hb1).d)
      rw [y1, y2] at HLd
      have HLD := Lib.hid HLd
      obtain ⟨g1, c1, rfl, hg1, hs1, hcell1⟩ := owns_ptr ho1 (by omega)
      have Hcell1 := Lib.hid hcell1
      have Hbl1 := Lib.hid (Below.thn Hbl.out hb1)
      clear ho1 hk1 hb1 HLd y1 y2 HC hg1 hs1 hcell1 HLA
      go_wp2_with fail
      refine Calls.mono HLD.out ?_
      rintro _ w2 ⟨v2, h, rfl, ho2, hk2, hb2⟩
      have HK2 := Lib.hid (hk2 (by first | trivial | rfl))
      obtain ⟨g2, c2, rfl, hg2, hs2, hcell2⟩ := owns_ptr ho2 (by omega)
      have Hcell2 := Lib.hid hcell2
      have P1 := proper_any g1 c1 (gl g 286) w2 (by rw [gl_len]; omega) (fun j hj => by
        rw [gl_len] at hj
        rw [gl_at g hj]
        exact (HK1.out.le j (by rw [ctL_len]; exact hj)).1) (fun j hj => by
        rw [gl_len] at hj
        rw [gl_at g hj]
        exact cell_later hb2 (Hcell1.out j _ (by rw [lensRow_at _ hj]; rfl)))
      rw [gl_len] at P1
      have HP1 := Lib.hid P1
      have Hbl2 := Lib.hid (Below.thn Hbl1.out hb2)
      clear P1 hk2 ho2 hb2 hcell2 HLD hg2 hs2
      go_wp2_with fail
      refine Calls.mono HP1.out ?_
      rintro _ w3 ⟨v3, rfl, ho3, hb3⟩
      have P2 := proper_any g2 c2 (gl h 30) w3 (by rw [gl_len]; omega) (fun j hj => by
        rw [gl_len] at hj
        rw [gl_at h hj]
        exact (HK2.out.le j (by rw [ctL_len]; exact hj)).1) (fun j hj => by
        rw [gl_len] at hj
        rw [gl_at h hj]
        exact cell_later hb3 (Hcell2.out j _ (by rw [lensRow_at _ hj]; rfl)))
      rw [gl_len] at P2
      have HP2 := Lib.hid P2
      have Ho3 := Lib.hid ho3
      have Hbl3 := Lib.hid (Below.thn Hbl2.out hb3)
      clear P2 ho3 hb3 HP1
      go_wp2_with fail
      refine Calls.mono HP2.out ?_
      rintro _ w4 ⟨v4, rfl, ho4, hb4⟩
      have Ho4 := Lib.hid ho4
      have Hb4 := Lib.hid hb4
      clear ho4 hb4
      go_wp2
      go_ret2
      exact ⟨v3, v4, g, h, rfl, HK1.out, HK2.out, owns_baseI ((Turns.of_below' (T := fun _ => False) Hb4.out).owns Ho3.out (fun _ _ h => h)) Hbl2.out.size, owns_baseI Ho4.out Hbl3.out.size, Below.thn Hbl3.out Hb4.out⟩

end Go.Proofs.Ytdcmalbbijchiaa
