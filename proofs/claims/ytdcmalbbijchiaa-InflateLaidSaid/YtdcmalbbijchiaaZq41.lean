/- Several texts in one, each with its own head. -/
import Derived.Test.YtdcmalbbijchiaaZq40
import Derived.Test.YtdcmalbbijchiaaZq17
/- inflate: the statement's lay of a stored block. -/
namespace Go.Proofs.Ytdcmalbbijchiaa
open Go.RowKit Go.Maps

/-- Bytes that lie from p on. -/
def BsAt (w : World) (p : Option Addr) (bs : List Nat) : Prop := ∀ i (_ : i < bs.length), ∃ g off, p = some ⟨g, off, none⟩ ∧ w.cell? ⟨g, off + i, none⟩ = some (.int .u8 ((bs.getD i 0 : Nat) : Int))

theorem take_map8 (bs : List Nat) {i : Nat} (hi : i < bs.length) : (bs.take (i + 1)).map (fun b => ((b, 8) : Nat × Nat)) = (bs.take i).map (fun b => (b, 8)) ++ [(bs.getD i 0, 8)] := by
  rw [List.take_succ_eq_append_getElem hi, List.map_append, List.getD_eq_getElem?_getD, List.getElem?_eq_getElem hi]; rfl
theorem szP_take8 (bs : List Nat) {i : Nat} (hi : i ≤ bs.length) : szP ((bs.take i).map (fun b => ((b, 8) : Nat × Nat))) = 8 * i := by
  rw [szP_bys, List.length_take, Nat.min_eq_left hi]

set_option maxRecDepth 20000 in
set_option maxHeartbeats 8000000 in
theorem lay_st {G : Nat → Prop} {W : World} {F : World → Prop} {base B : Nat} {P : Pt} (k : Nat) (v : Value) (last : Bool) (p : Option Addr) (c : Nat) (bs : List Nat) (w : World) (hk : k < 256) (h0 : k % 3 = 0) (h : WrF G W F base B P w) (hB : ∀ w, F w → BsAt w p bs) (hby : ∀ i, bs.getD i 0 < 256) (hl : bs.length ≤ 20000) (hm : szP P ≤ 8000000) :
    Calls Try.prog 6 #[.pointer (some ⟨B, 0, none⟩), .agg #[.int .u8 (k : Int), v], .bool last, .slice p bs.length c] w fun e w' => e = .returned (.tuple #[]) ∧ WrF G W F base B (P ++ (Bn.st bs).put (szP P) last) w' := by
  have H := Lib.hid h
  have HB := Lib.hid hB
  have Hby := Lib.hid hby
  have Hm := Lib.hid hm
  obtain ⟨n, hn⟩ : ∃ n, bs.length = n := ⟨_, rfl⟩
  have Hn := Lib.hid hn
  rw [hn] at hl ⊢
  have hk3 : (k : Int) % 3 = 0 := by omega
  clear h hB hby hm hn h0
  cases last
  · go_enter Try.func6, Try.ntmps6
    have hb0 := Below.al1 w (.cells #[.int .u8 (k : Int), v] 28)
    have H0 := Lib.hid (H.out.more hb0 (F2 := fun w' => w'.cell? ⟨w.heap.size, 0, none⟩ = some (.int .u8 (k : Int))) (fun w' ht => new_cell ht (Nat.le_refl _) (cell_heap (World.alloc_heap_new w _) rfl)))
    clear hb0 H
    go_wp2_with fail
    refine Calls.mono (H0.out.put (v := 0) (k := 1) (by decide) (by decide) (by have := Hm.out; omega)) ?_
    rintro _ w1 ⟨rfl, h1⟩
    have H1 := Lib.hid h1
    have c0 := h1.now.2
    generalize w.heap.size = b0 at *
    clear h1 H0
    go_wp2_with fail
    refine Calls.mono (H1.out.put (v := 0) (k := 2) (by decide) (by decide) (by have := Hm.out; simp only [szP_app, szP]; omega)) ?_
    rintro _ w2 ⟨rfl, h2⟩
    have H2 := Lib.hid h2
    have c0 := h2.now.2
    clear h2 H1
    go_wp2_with fail
    refine Calls.mono (H2.out.align (by have := Hm.out; simp only [szP_app, szP]; omega)) ?_
    rintro _ w3 ⟨rfl, h3⟩
    have H3 := Lib.hid h3
    clear h3 H2
    have hw1 : IntKind.u32.wrap (n : Int) = (n : Int) := IntWalk.u32_in _ (by omega)
    have hw2 : IntKind.u32.wrap (65535 - (n : Int)) = ((65535 - n : Nat) : Int) := by rw [IntWalk.u32_in _ (by omega)]; omega
    have hw3 : (65535 : Int) - (n : Int) = ((65535 - n : Nat) : Int) := by omega
    go_wp2_with fail
    refine Calls.mono (H3.out.put (v := n) (k := 16) (by omega) (by decide) (by have := Hm.out; simp only [szP_app, szP]; omega)) ?_
    rintro _ w4 ⟨rfl, h4⟩
    have H4 := Lib.hid h4
    clear h4 H3
    go_wp2_with fail
    refine Calls.mono (H4.out.put (v := 65535 - n) (k := 16) (by omega) (by decide) (by have := Hm.out; simp only [szP_app, szP]; omega)) ?_
    rintro _ w5 ⟨rfl, h5⟩
    have H5 := Lib.hid h5
    clear h5 H4 hw1 hw2 hw3
    go_wp2_with fail
    go_loopw [8] (fun iv wr => ∃ i : Nat, iv = .int .i64 (i : Int) ∧ i ≤ n ∧ Hid (WrF G W (fun w => F w ∧ w.cell? ⟨b0, 0, none⟩ = some (.int .u8 (k : Int))) base B (P ++ [(0, 1)] ++ [(0, 2)] ++ [(0, (8 - szP (P ++ [(0, 1)] ++ [(0, 2)]) % 8) % 8)] ++ [(n, 16)] ++ [(65535 - n, 16)] ++ (bs.take i).map (fun b => (b, 8))) wr)) (fun iv _ => n - (intOf iv).toNat)
    case atStart => exact ⟨0, rfl, Nat.zero_le _, Lib.hid (H5.out.congr (by simp))⟩
    case round =>
      clear H5
      obtain ⟨i, rfl, hi, HW⟩ := hrel
      by_cases hin : i < n
      · have d1 : decide ((i : Int) < (n : Int)) = true := by simp; omega
        have hin' : i < bs.length := by rw [Hn.out]; exact hin
        obtain ⟨g, off, rfl, cx⟩ := HB.out _ HW.out.now.1 i hin'
        have hx := Hby.out i
        have Ht := Lib.hid (take_map8 bs hin')
        have Hsz := Lib.hid (szP_take8 bs (Nat.le_of_lt hin'))
        obtain ⟨x, hxx⟩ : ∃ x, bs.getD i 0 = x := ⟨_, rfl⟩
        rw [hxx] at cx hx Ht
        have i0 : (0 : Int) ≤ (i : Int) := by omega
        have i1 : (i : Int) < (n : Int) := by omega
        have hw1 : IntKind.u32.wrap (x : Int) = (x : Int) := IntWalk.u32_in _ (by omega)
        clear hxx hin'
        go_wp2_with fail
        refine Calls.mono (HW.out.put (v := x) (k := 8) hx (by decide) (by have := Hm.out; have := Hsz.out; simp only [szP_app, szP]; omega)) ?_
        rintro _ w6 ⟨rfl, h6⟩
        have H6 := Lib.hid (h6.congr (List.append_assoc _ _ _))
        rw [← Ht.out] at H6
        clear h6
        go_wp2
        go_roundw
        case rel => exact ⟨i + 1, by go_num, by omega, H6⟩
        case measure => simp [intOf]; omega
      · obtain rfl : i = n := by omega
        have hE : bs.take i = bs := List.take_of_length_le (by rw [Hn.out]; exact Nat.le_refl _)
        rw [hE] at HW
        clear hE
        go_wp2
        (try simp only [Exit.inBlock, Exit.then])
        refine bodyPost_ret (results_none rfl _ _ _) rfl ⟨rfl, (HW.out.weak (fun _ h => h.1)).congr ?_⟩
        have e := Hn.out
        simp only [List.append_assoc, szP_app, szP, Bn.put, Bn.body, putS, Bn.kind, e]
        rfl
  · go_enter Try.func6, Try.ntmps6
    have hb0 := Below.al1 w (.cells #[.int .u8 (k : Int), v] 28)
    have H0 := Lib.hid (H.out.more hb0 (F2 := fun w' => w'.cell? ⟨w.heap.size, 0, none⟩ = some (.int .u8 (k : Int))) (fun w' ht => new_cell ht (Nat.le_refl _) (cell_heap (World.alloc_heap_new w _) rfl)))
    clear hb0 H
    go_wp2_with fail
    refine Calls.mono (H0.out.put (v := 1) (k := 1) (by decide) (by decide) (by have := Hm.out; omega)) ?_
    rintro _ w1 ⟨rfl, h1⟩
    have H1 := Lib.hid h1
    have c0 := h1.now.2
    generalize w.heap.size = b0 at *
    clear h1 H0
    go_wp2_with fail
    refine Calls.mono (H1.out.put (v := 0) (k := 2) (by decide) (by decide) (by have := Hm.out; simp only [szP_app, szP]; omega)) ?_
    rintro _ w2 ⟨rfl, h2⟩
    have H2 := Lib.hid h2
    have c0 := h2.now.2
    clear h2 H1
    go_wp2_with fail
    refine Calls.mono (H2.out.align (by have := Hm.out; simp only [szP_app, szP]; omega)) ?_
    rintro _ w3 ⟨rfl, h3⟩
    have H3 := Lib.hid h3
    clear h3 H2
    have hw1 : IntKind.u32.wrap (n : Int) = (n : Int) := IntWalk.u32_in _ (by omega)
    have hw2 : IntKind.u32.wrap (65535 - (n : Int)) = ((65535 - n : Nat) : Int) := by rw [IntWalk.u32_in _ (by omega)]; omega
    have hw3 : (65535 : Int) - (n : Int) = ((65535 - n : Nat) : Int) := by omega
    go_wp2_with fail
    refine Calls.mono (H3.out.put (v := n) (k := 16) (by omega) (by decide) (by have := Hm.out; simp only [szP_app, szP]; omega)) ?_
    rintro _ w4 ⟨rfl, h4⟩
    have H4 := Lib.hid h4
    clear h4 H3
    go_wp2_with fail
    refine Calls.mono (H4.out.put (v := 65535 - n) (k := 16) (by omega) (by decide) (by have := Hm.out; simp only [szP_app, szP]; omega)) ?_
    rintro _ w5 ⟨rfl, h5⟩
    have H5 := Lib.hid h5
    clear h5 H4 hw1 hw2 hw3
    go_wp2_with fail
    go_loopw [8] (fun iv wr => ∃ i : Nat, iv = .int .i64 (i : Int) ∧ i ≤ n ∧ Hid (WrF G W (fun w => F w ∧ w.cell? ⟨b0, 0, none⟩ = some (.int .u8 (k : Int))) base B (P ++ [(1, 1)] ++ [(0, 2)] ++ [(0, (8 - szP (P ++ [(1, 1)] ++ [(0, 2)]) % 8) % 8)] ++ [(n, 16)] ++ [(65535 - n, 16)] ++ (bs.take i).map (fun b => (b, 8))) wr)) (fun iv _ => n - (intOf iv).toNat)
    case atStart => exact ⟨0, rfl, Nat.zero_le _, Lib.hid (H5.out.congr (by simp))⟩
    case round =>
      clear H5
      obtain ⟨i, rfl, hi, HW⟩ := hrel
      by_cases hin : i < n
      · have d1 : decide ((i : Int) < (n : Int)) = true := by simp; omega
        have hin' : i < bs.length := by rw [Hn.out]; exact hin
        obtain ⟨g, off, rfl, cx⟩ := HB.out _ HW.out.now.1 i hin'
        have hx := Hby.out i
        have Ht := Lib.hid (take_map8 bs hin')
        have Hsz := Lib.hid (szP_take8 bs (Nat.le_of_lt hin'))
        obtain ⟨x, hxx⟩ : ∃ x, bs.getD i 0 = x := ⟨_, rfl⟩
        rw [hxx] at cx hx Ht
        have i0 : (0 : Int) ≤ (i : Int) := by omega
        have i1 : (i : Int) < (n : Int) := by omega
        have hw1 : IntKind.u32.wrap (x : Int) = (x : Int) := IntWalk.u32_in _ (by omega)
        clear hxx hin'
        go_wp2_with fail
        refine Calls.mono (HW.out.put (v := x) (k := 8) hx (by decide) (by have := Hm.out; have := Hsz.out; simp only [szP_app, szP]; omega)) ?_
        rintro _ w6 ⟨rfl, h6⟩
        have H6 := Lib.hid (h6.congr (List.append_assoc _ _ _))
        rw [← Ht.out] at H6
        clear h6
        go_wp2
        go_roundw
        case rel => exact ⟨i + 1, by go_num, by omega, H6⟩
        case measure => simp [intOf]; omega
      · obtain rfl : i = n := by omega
        have hE : bs.take i = bs := List.take_of_length_le (by rw [Hn.out]; exact Nat.le_refl _)
        rw [hE] at HW
        clear hE
        go_wp2
        (try simp only [Exit.inBlock, Exit.then])
        refine bodyPost_ret (results_none rfl _ _ _) rfl ⟨rfl, (HW.out.weak (fun _ h => h.1)).congr ?_⟩
        have e := Hn.out
        simp only [List.append_assoc, szP_app, szP, Bn.put, Bn.body, putS, Bn.kind, e]
        rfl

end Go.Proofs.Ytdcmalbbijchiaa

/- For the closed statement: the lengths that it names. -/
namespace Go.Proofs.Ytdcmalbbijchiaa
open Go.RowKit

theorem kn_arithF : ∀ a b : Fin 11, ∀ c : Fin 6, ∀ d : Fin 4, 0 < a.1 ∧ 0 < b.1 ∧ 0 < c.1 ∧ 0 < d.1 ∧ a.1 + b.1 + 2 * c.1 + 4 * d.1 ≤ 14 ∧ 2 ^ (15 - a.1) + 2 ^ (15 - b.1) + 2 ^ (15 - c.1) + 2 ^ (15 - d.1) = 2 ^ 15 → a.1 = 3 ∧ b.1 = 3 ∧ c.1 = 2 ∧ d.1 = 1 := by decide +kernel
theorem kn_arith {a b c d : Nat} (ha : a < 11) (hb : b < 11) (hc : c < 6) (hd : d < 4) (p0 : 0 < a) (p1 : 0 < b) (p2 : 0 < c) (p3 : 0 < d) (h : a + b + 2 * c + 4 * d ≤ 14) (hr : 2 ^ (15 - a) + 2 ^ (15 - b) + 2 ^ (15 - c) + 2 ^ (15 - d) = 2 ^ 15) : a = 3 ∧ b = 3 ∧ c = 2 ∧ d = 1 :=
  kn_arithF ⟨a, ha⟩ ⟨b, hb⟩ ⟨c, hc⟩ ⟨d, hd⟩ ⟨p0, p1, p2, p3, h, hr⟩
theorem kn_a {g : Nat → Nat} (h : LensOk [1, 1, 2, 4] 15 g) : g 0 = 3 ∧ g 1 = 3 ∧ g 2 = 2 ∧ g 3 = 1 := by
  have m4 : 2 ≤ many ([1, 1, 2, 4] : List Int).length (fq [1, 1, 2, 4]) := by decide
  have p0 := (h.le 0 (by decide)).2.2 (by decide)
  have p1 := (h.le 1 (by decide)).2.2 (by decide)
  have p2 := (h.le 2 (by decide)).2.2 (by decide)
  have p3 := (h.le 3 (by decide)).2.2 (by decide)
  have hr : room 4 15 g = 2 ^ 15 := h.code m4
  have hb := h.best m4 (l := fun i => if i = 0 then 3 else if i = 1 then 3 else if i = 2 then 2 else 1) (fun i _ => by
    show (if i = 0 then 3 else if i = 1 then 3 else if i = 2 then 2 else 1) ≤ 15
    repeat' split
    all_goals omega) (by decide) (by decide)
  have hc : cost 4 (fq [1, 1, 2, 4]) g = g 0 + g 1 + 2 * g 2 + 4 * g 3 := by
    have f0 : fq [1, 1, 2, 4] 0 = 1 := by decide
    have f1 : fq [1, 1, 2, 4] 1 = 1 := by decide
    have f2 : fq [1, 1, 2, 4] 2 = 2 := by decide
    have f3 : fq [1, 1, 2, 4] 3 = 4 := by decide
    simp only [cost, sm, f0, f1, f2, f3]
    omega
  have hb : cost 4 (fq [1, 1, 2, 4]) g ≤ 14 := hb
  rw [hc] at hb
  simp only [room, sm, if_pos p0, if_pos p1, if_pos p2, if_pos p3, Nat.zero_add] at hr
  exact kn_arith (by omega) (by omega) (by omega) (by omega) p0 p1 p2 p3 hb hr
theorem kn_b {g : Nat → Nat} (h : LensOk [0, 5] 3 g) : g 0 = 0 ∧ g 1 = 1 := by
  have m1 : many ([0, 5] : List Int).length (fq [0, 5]) = 1 := by decide
  have h0 := (h.le 0 (by decide)).2
  have h1 := (h.le 1 (by decide)).2
  have o1 := h.one m1 1 (by decide)
  have f0 : fq [0, 5] 0 = 0 := by decide
  have f1 : fq [0, 5] 1 = 5 := by decide
  rw [f0] at h0
  rw [f1] at h1
  have := h1.2 (by omega)
  constructor
  · rcases Nat.eq_zero_or_pos (g 0) with h | h
    · exact h
    · have := h0.1 h
      omega
  · omega
theorem kn_twoF : ∀ a b : Fin 6, 0 < a.1 ∧ 0 < b.1 ∧ 2 ^ (5 - a.1) + 2 ^ (5 - b.1) = 2 ^ 5 → a.1 = 1 ∧ b.1 = 1 := by decide +kernel
theorem kn_n {g : Nat → Nat} (h : LensOk [1099511627776, 1099511627776] 5 g) : g 0 = 1 ∧ g 1 = 1 := by
  have m2 : 2 ≤ many ([1099511627776, 1099511627776] : List Int).length (fq [1099511627776, 1099511627776]) := by decide
  have h0 := h.le 0 (by decide)
  have h1 := h.le 1 (by decide)
  have p0 := h0.2.2 (by decide)
  have p1 := h1.2.2 (by decide)
  have hr : room 2 5 g = 2 ^ 5 := h.code m2
  simp only [room, sm, if_pos p0, if_pos p1, Nat.zero_add] at hr
  exact kn_twoF ⟨g 0, by omega⟩ ⟨g 1, by omega⟩ ⟨p0, p1, hr⟩

theorem made_z (n : Nat) : madeCells #[Value.int .i64 0] n = ((List.replicate n (0 : Int)).map (Value.int .i64)).toArray := by
  refine Array.ext (by simp [size_madeCells]) (fun i h1 h2 => ?_)
  simp [madeCells, Nat.mod_one]
theorem int_infoK : (Try.prog.info? 3).map (fun i => (i.zero, i.size, i.bytes)) = some (some (.int .i64 0), 1, 8) := by kernel_rfl
theorem make_z (n : Nat) (hn : n ≤ 131072) (w : World) : (Instr.makeSlice 49 (.int .i64 (n : Int)) (.int .i64 (n : Int))).run Try.prog w = .ok (.slice (some ⟨w.heap.size, 0, none⟩) n n) (w.alloc (.cells ((List.replicate n (0 : Int)).map (Value.int .i64)).toArray 3)) := by
  obtain ⟨i, hi, hz, hs, hb⟩ := info_parts int_infoK
  have h := run_make (P := Try.prog) w 49 3 i _ Try.underlying49 hi hz .i64 .i64 (n : Int) (n : Int) (by omega) (Int.le_refl _) (by rw [hb]; omega) (by omega)
  rw [h]
  simp only [Int.toNat_natCast, hs, Nat.mul_one]
  rw [show (Value.int IntKind.i64 0).cells = #[Value.int .i64 0] from rfl, made_z]
theorem zeros_bad (n : Nat) (h : 320 < n) (L : Int) : mayB (List.replicate n 0) L = false := by
  unfold mayB
  rw [List.length_replicate, decide_eq_false (by omega)]
  rfl

end Go.Proofs.Ytdcmalbbijchiaa
