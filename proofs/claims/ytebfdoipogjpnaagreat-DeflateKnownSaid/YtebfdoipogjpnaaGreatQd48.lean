/- Several texts in one, each with its own head. -/
import Derived.Test.YtebfdoipogjpnaaGreatQd46
import Derived.Test.YtebfdoipogjpnaaGreatQd29
import Derived.Test.YtebfdoipogjpnaaGreatQd45
import Derived.Test.YtebfdoipogjpnaaGreatQd1
import Derived.BigQuiet
/- The walk of the statement DeflateRow. -/
namespace Go.Proofs.YtebfdoipogjpnaaGreat
open Go.RowKit Go.Maps

theorem lens_rep (c n : Nat) : lensRow (fun _ => c) n = (List.replicate n c).map u8v := by
  refine List.ext_getElem (by simp [lensRow]) (fun i h1 h2 => ?_)
  simp [lensRow]

set_option maxRecDepth 20000 in
set_option maxHeartbeats 8000000 in
theorem drow_any (cI : Int) (num : Int) (w : World) (hcI : 0 ≤ cI ∧ cI ≤ 255) (hnum : 0 ≤ num ∧ num ≤ 65535) :
    Makes Tryz.prog 6 #[.int .u8 cI, .int .u16 num] w (.bool true) := by
  unfold Makes
  obtain ⟨c, rfl⟩ := Int.eq_ofNat_of_zero_le hcI.1
  obtain ⟨num, rfl⟩ := Int.eq_ofNat_of_zero_le hnum.1
  have hc : c < 256 := by omega
  have hnum2 : num ≤ 65535 := by omega
  clear hcI hnum
  obtain ⟨n, hn⟩ : ∃ n, num % 60000 = n := ⟨_, rfl⟩
  have hsi : (num : Int) % 60000 = (n : Int) := by omega
  have hn6 : n < 60000 := by omega
  have hw0 : IntKind.i64.wrap (num : Int) = (num : Int) := IntWalk.i64_in _ (by omega)
  have hw1 : wrap64 (n : Int) = (n : Int) := wrap64_in _ (by omega)
  have hw1' : IntKind.i64.wrap (n : Int) = (n : Int) := IntWalk.i64_in _ (by omega)
  clear hn
  go_enter Tryz.func6, Tryz.ntmps6
  go_upto_region 2 with (fail)
  try rw [hsi]
  clear hsi hw0
  have hmk := make_u8 n (by omega) w
  have Hnew : Hid ((w.alloc (.cells (lensRow (fun _ => 0) n).toArray 5)).ownsRow w.heap.size 5 1 (.slice (some ⟨w.heap.size, 0, none⟩) n n) n (lensRow (fun _ => 0) n)) := Lib.hid (by
    have := World.ownsRow_lit (base := w.heap.size) (size := 1) (e := 5) w (lensRow (fun _ => 0) n).toArray n (Nat.le_refl _) (by simp only [maxLen]; omega) (by simp [lensRow_len])
    simpa using this)
  have Hb1 := Lib.hid (Below.al1 w (.cells (lensRow (fun _ => 0) n).toArray 5))
  go_wp2_with fail
  generalize w.alloc (.cells (lensRow (fun _ => 0) n).toArray 5) = W1 at *
  clear hmk
  obtain ⟨G, hG⟩ : ∃ G, w.heap.size = G := ⟨_, rfl⟩
  rw [hG] at Hnew ⊢
  have HG := Lib.hid hG
  clear hG
  go_loopw [7] (fun iv wr => ∃ i : Nat, iv = .int .i64 (i : Int) ∧ i ≤ n ∧ Hid (wr.ownsRow G 5 1 (.slice (some ⟨G, 0, none⟩) n n) n (lensRow (fun j => if j < i then c else 0) n)) ∧ Hid (Below w.heap.size w wr)) (fun iv _ => n - (intOf iv).toNat)
  case atStart => exact ⟨0, rfl, Nat.zero_le _, Lib.hid (by rw [lensRow_congr (g := fun _ => 0) (fun i _ => if_neg (by omega))]; exact Hnew.out), Hb1⟩
  case round =>
    obtain ⟨i, rfl, hi, HO, HB⟩ := hrel
    by_cases hin : i < n
    · have d0 : decide ((i : Int) < (n : Int)) = true := by simp; omega
      have d0' : decide (i < n) = true := by simpa using hin
      have i0 : (0 : Int) ≤ (i : Int) := by omega
      have i1 : (i : Int) < (n : Int) := by omega
      have hcell : wr.cell? ⟨G, i, none⟩ = some (u8v (if i < i then c else 0)) := by
        rw [World.ownsRow.cellAt HO.out i (by omega), lensRow_at _ hin]
      have hfz : wr.frozen? ⟨G, i, none⟩ = false := World.ownsRow.frozenAt HO.out i
      have hst : Hid ((wr.setCell ⟨G, i, none⟩ (.int .u8 (c : Int))).ownsRow G 5 1 (.slice (some ⟨G, 0, none⟩) n n) n (lensRow (fun j => if j < i + 1 then c else 0) n)) := Lib.hid (by
        have h5 := (World.ownsRow.stored HO.out i (u8v c)).1
        rw [lensRow_set] at h5
        rw [lensRow_congr (g := fun j => if j = i then c else if j < i then c else 0) (fun j _ => by
          by_cases e : j = i
          · subst e; simp
          · rw [if_neg e]
            by_cases e2 : j < i
            · rw [if_pos e2, if_pos (by omega)]
            · rw [if_neg e2, if_neg (by omega)])]
        exact h5)
      have HB2 := Lib.hid (HB.out.setCell (p := ⟨G, i, none⟩) (by rw [← HG.out]; exact Nat.le_refl _) (.int .u8 (c : Int)))
      go_wp2
      go_roundw
      case rel => exact ⟨i + 1, by go_num, by omega, hst, HB2⟩
      case measure => simp [intOf]; omega
    · obtain rfl : i = n := by omega
      have d0 : decide ((i : Int) < (i : Int)) = false := by simp
      have d0' : decide (i < i) = false := by simp
      have h := HO.out
      rw [lensRow_congr (g := fun _ => c) (fun j hj => if_pos hj), lens_rep] at h
      have HR : Hid (Rw8 wr (.slice (some ⟨G, 0, none⟩) i i) (List.replicate i c)) := Lib.hid (Rw8.own h (by rw [List.length_replicate]))
      have Hby : Hid (∀ x ∈ List.replicate i c, x < 256) := Lib.hid fun x hx => by rw [(List.mem_replicate.1 hx).2]; exact hc
      obtain ⟨b, hb⟩ : ∃ b, List.replicate i c = b := ⟨_, rfl⟩
      have Hsm : Hid (∀ S, DefS b S → 8 * S.length ≤ 13 * (i / 258) + 60) := Lib.hid fun S hS => row_small hc (by rw [hb]; exact hS)
      have Hbl : Hid (b.length = i) := Lib.hid (by rw [← hb, List.length_replicate])
      rw [hb] at HR Hby
      clear h HO hb Hnew hi
      go_wp2_with fail
      refine Calls.mono (deflate_any _ b wr HR.out Hby.out (by rw [Hbl.out]; omega)) ?_
      rintro _ w2 ⟨v2, S, rfl, hS, hSl, ho2, hb2⟩
      have HS := Lib.hid hS
      have Hr2 := Lib.hid (Rw8.own ho2 rfl)
      have h8 := Hsm.out S hS
      have HRb := Lib.hid (HR.out.below hb2)
      have Hb2 := Lib.hid (Below.thn HB.out hb2)
      obtain ⟨p2, c2, rfl⟩ := owns_slice ho2
      obtain ⟨s, hs⟩ : ∃ s, S.length = s := ⟨_, rfl⟩
      have Hs := Lib.hid hs
      rw [hs] at h8 hSl Hr2 ⊢
      clear hS ho2 hb2 hs Hsm HR
      go_wp2_with fail
      refine Calls.mono (infl_any _ S i w2 Hr2.out HS.out.lt (by rw [Hs.out]; omega)) ?_
      rintro _ w3 ⟨o, k, er, ov, hi3, rfl, ho3, hb3⟩
      have hfin := HS.out.infl Hby.out (by rw [Hbl.out]; omega) [] (lim := i) (by omega) (by rw [Hbl.out]; exact Nat.le_refl _)
      rw [List.append_nil] at hfin
      obtain ⟨rfl, rfl, rfl⟩ := hi3.det hfin
      have hst3 := strI_row (Rw8.own ho3 rfl).row
      have hstb := strI_row (HRb.out.below hb3).row
      obtain ⟨p3, c3, rfl⟩ := owns_slice ho3
      obtain ⟨X, hX⟩ : ∃ X, strI o = X := ⟨_, rfl⟩
      rw [hX] at hst3 hstb
      rw [Hbl.out] at hst3 ⊢
      rw [Hs.out]
      have Hb3 := Lib.hid (Below.thn Hb2.out hb3)
      obtain ⟨q, hq⟩ : ∃ q, i / 258 = q := ⟨_, rfl⟩
      rw [hq] at h8
      have hq1 : (i : Int) / 258 = (q : Int) := by omega
      have hq1' : (i : Int).tdiv 258 = (q : Int) := by rw [← hq]; rfl
      have hq2 : wrap64 (q : Int) = (q : Int) := wrap64_in _ (by omega)
      have hq2' : IntKind.i64.wrap (q : Int) = (q : Int) := IntWalk.i64_in _ (by omega)
      have hm1 : IntKind.i64.wrap (8 * (s : Int)) = 8 * (s : Int) := IntWalk.i64_in _ (by omega)
      have hm2 : IntKind.i64.wrap (13 * (q : Int)) = 13 * (q : Int) := IntWalk.i64_in _ (by omega)
      have hm3 : IntKind.i64.wrap (13 * (q : Int) + 60) = 13 * (q : Int) + 60 := IntWalk.i64_in _ (by omega)
      have hm1' : wrap64 (8 * (s : Int)) = 8 * (s : Int) := wrap64_in _ (by omega)
      have hm2' : wrap64 (13 * (q : Int)) = 13 * (q : Int) := wrap64_in _ (by omega)
      have hm3' : wrap64 (13 * (q : Int) + 60) = 13 * (q : Int) + 60 := wrap64_in _ (by omega)
      have dd : decide (8 * (s : Int) ≤ 13 * (q : Int) + 60) = true := by simp; omega
      clear hi3 ho3 hb3 hfin hX hq HRb Hr2
      go_wp2_with fail
      refine Calls.mono (dlays_law w3) ?_
      rintro _ w10 ⟨rfl, hb10⟩
      have Hb10 := Lib.hid (Below.thn Hb3.out hb10)
      clear hb10
      go_wp2
      go_ret
      exact ⟨rfl, Hb10.out⟩

end Go.Proofs.YtebfdoipogjpnaaGreat

/- Slices of bytes and of tokens that come in as arguments. -/
namespace Go.Proofs.YtebfdoipogjpnaaGreat
open Go.ChangeShapes Go.WideShapes Go.ChangeAt Go.RowKit Go.Joins Go.Deep

set_option maxRecDepth 100000 in
theorem byte_atZ {H : Type} {enc : TypeId × Value → H} {W : World} (n : Nat) (a : Addr) (D : DataW H) (Pl : List MemPlace) (cs : List Value) (hc : W.cells? 0 a 1 = some cs) (ht : DataW.trod enc Tryz.prog W 0 (fun _ => true) true n 5 cs = some (D, Pl)) :
    ∃ x : Nat, x < 256 ∧ ∀ j u, (enc8 x)[j]? = some u → W.cell? (a.add j) = some u := by
  obtain ⟨-, hl, hat⟩ := World.cells?_some hc
  match cs, hl with
  | [c0], _ =>
    obtain ⟨x, e0, -, wf⟩ := DataW.trod_int Tryz.underlying5 ht
    simp at e0
    subst e0
    have hb := wf_u8b wf
    obtain ⟨m, rfl⟩ := Int.eq_ofNat_of_zero_le hb.1
    refine ⟨m, by omega, fun j u hu => ?_⟩
    have hj : j < 1 := by
      have := (List.getElem?_eq_some_iff.1 hu).1
      simpa [enc8] using this
    rw [hat j hj]
    exact hu

set_option maxRecDepth 100000 in
theorem open_bytesZ {H : Type} {enc : TypeId × Value → H} {W : World} {base : Nat} {v : Value} {d : DataW H} {p : List MemPlace} (hv : Value.okWide Tryz.prog W .any base 22 v) (h : DataW.Trod enc Tryz.prog W 0 (fun _ => true) true 22 v d p) :
    ∃ xs : List Nat, Rw8 W v xs ∧ ∀ x ∈ xs, x < 256 :=
  open_rows Tryz.underlying22 (by kernel_rfl) byte_atZ hv h

theorem wf_u16z {x : Int} (h : (Lit.int .u16 x).wf = true) : 0 ≤ x ∧ x ≤ 65535 := by
  have hm : IntKind.u16.min = 0 := by decide
  have hx : IntKind.u16.max = 65535 := by decide
  simpa [Lit.wf, hm, hx] using h

/-- A token that may stand in memory. -/
def GoodT (t : Tk) : Prop := t.b < 256 ∧ (-9223372036854775808 ≤ t.n ∧ t.n ≤ 9223372036854775807) ∧ (-9223372036854775808 ≤ t.d ∧ t.d ≤ 9223372036854775807)
instance : Inhabited Tk := ⟨⟨0, 0, 0⟩⟩
set_option maxRecDepth 100000 in
theorem tok_at {H : Type} {enc : TypeId × Value → H} {W : World} (n : Nat) (a : Addr) (D : DataW H) (Pl : List MemPlace) (cs : List Value) (hc : W.cells? 0 a 3 = some cs) (ht : DataW.trod enc Tryz.prog W 0 (fun _ => true) true n 74 cs = some (D, Pl)) :
    ∃ t : Tk, GoodT t ∧ ∀ j u, (encT t)[j]? = some u → W.cell? (a.add j) = some u := by
  obtain ⟨-, hl, hat⟩ := World.cells?_some hc
  obtain ⟨ys, n', -, -, -, hyl, hf⟩ := DataW.trod_struct Tryz.underlying74 ht
  have h0 := hf 0 _ rfl
  have h1 := hf 1 _ rfl
  have h2 := hf 2 _ rfl
  match ys, hyl with
  | [y0, y1, y2], _ =>
    match cs, hl with
    | [c0, c1, c2], _ =>
      have hci : Tryz.prog.cellsOf 3 = 1 := by kernel_rfl
      have hcb : Tryz.prog.cellsOf 5 = 1 := by kernel_rfl
      obtain ⟨p, e0, -, wa⟩ := DataW.trod_int Tryz.underlying5 h0
      obtain ⟨q, e1, -, wb⟩ := DataW.trod_int Tryz.underlying3 h1
      obtain ⟨s, e2, -, wc⟩ := DataW.trod_int Tryz.underlying3 h2
      simp [hci, hcb] at e0 e1 e2
      subst e0 e1 e2
      have hb := wf_u8b wa
      obtain ⟨m, rfl⟩ := Int.eq_ofNat_of_zero_le hb.1
      refine ⟨⟨m, q, s⟩, ⟨by show m < 256; omega, wf_bounds wb, wf_bounds wc⟩, fun j u hu => ?_⟩
      have hj : j < 3 := by
        have := (List.getElem?_eq_some_iff.1 hu).1
        simpa [encT] using this
      rw [hat j hj]
      exact hu

set_option maxRecDepth 100000 in
theorem open_toks {H : Type} {enc : TypeId × Value → H} {W : World} {base : Nat} {v : Value} {d : DataW H} {p : List MemPlace} (hv : Value.okWide Tryz.prog W .any base 50 v) (h : DataW.Trod enc Tryz.prog W 0 (fun _ => true) true 50 v d p) :
    ∃ ts : List Tk, RwG encT 3 W v ts ∧ ∀ t ∈ ts, GoodT t :=
  open_rows Tryz.underlying50 (by kernel_rfl) tok_at hv h

end Go.Proofs.YtebfdoipogjpnaaGreat

/- For the closed statement: tokens that are none, many tokens, rows of new memory. -/
namespace Go.Proofs.YtebfdoipogjpnaaGreat
open Go.RowKit

theorem row_blockT {W : World} {b : Nat} {ts : List Tk} (h : W.heap[b]? = some (.cells (ts.flatMap encT).toArray 74)) (hl : ts.length ≤ 1048576) : Row encT 3 W (.slice (some ⟨b, 0, none⟩) ts.length ts.length) ts := by
  refine ⟨_, _, rfl, Nat.le_refl _, by simp only [maxLen]; omega, .inr ⟨b, 0, rfl, lt_heap h, fun i x hx j u hu => ?_⟩⟩
  have hj : j < 3 := by
    have := (List.getElem?_eq_some_iff.1 hu).1
    rwa [encT_len] at this
  have h1 := flat_at' encT_len ts i j hj
  rw [hx] at h1
  simp only [Option.bind_some] at h1
  rw [hu] at h1
  rw [Nat.zero_add]
  exact cell_heap h (by simpa using h1)
theorem row_nil8 (w : World) : Row enc8 1 w (.slice none 0 0) [] := ⟨none, 0, rfl, Nat.le_refl _, by simp [maxLen], .inl ⟨rfl, rfl⟩⟩
theorem row_nilT (w : World) : Row encT 3 w (.slice none 0 0) [] := ⟨none, 0, rfl, Nat.le_refl _, by simp [maxLen], .inl ⟨rfl, rfl⟩⟩

theorem kn_a : toksC (fb [97, 97, 97, 97, 97]) 5 5 0 = [⟨97, 0, 0⟩, ⟨0, 4, 1⟩] := by kernel_rfl
theorem kn_b : toksC (fb [97, 98, 97, 98]) 4 4 0 = [⟨97, 0, 0⟩, ⟨98, 0, 0⟩, ⟨97, 0, 0⟩, ⟨98, 0, 0⟩] := by kernel_rfl
theorem kn_c : toksC (fb [120, 97, 98, 99, 121, 97, 98, 99, 100, 122, 97, 98, 99, 100]) 14 14 0 = [⟨120, 0, 0⟩, ⟨97, 0, 0⟩, ⟨98, 0, 0⟩, ⟨99, 0, 0⟩, ⟨121, 0, 0⟩, ⟨0, 3, 4⟩, ⟨100, 0, 0⟩, ⟨122, 0, 0⟩, ⟨0, 4, 5⟩] := by kernel_rfl

/-- The lists of tokens one of which is none. -/
def bads : List (List Tk) := [[⟨97, 0, 0⟩, ⟨0, 3, 2⟩], [⟨0, 2, 1⟩], [⟨97, 0, 0⟩, ⟨0, 2, 1⟩], [⟨97, 0, 0⟩, ⟨0, 259, 1⟩], [⟨97, 0, 0⟩, ⟨1, 3, 1⟩], [⟨97, 0, 0⟩, ⟨0, 0, 1⟩], [⟨97, 0, 0⟩, ⟨0, 3, 0⟩], [⟨97, 0, 0⟩, ⟨0, -1, 1⟩], [⟨97, 0, 0⟩, ⟨0, 3, -1⟩]]
theorem bads_xp : ∀ ts ∈ bads, xp ts [] = ([], 70) := by decide +kernel

theorem below_fold (l : List Obj) : ∀ w : World, Below w.heap.size w (l.foldl World.alloc w) := by
  induction l with
  | nil => intro w; exact Below.refl _ _
  | cons o l ih => intro w; exact Below.thn (Below.al1 w o) (ih _)
/-- What is laid for them. -/
def badO (b : Nat) : List Obj := (bads.map fun ts => .cells (ts.flatMap encT).toArray 74) ++ [.cells ((List.range 9).map fun j => Value.slice (some ⟨b + j, 0, none⟩) (bads.getD j []).length (bads.getD j []).length).toArray 50]
theorem bad_world {w W : World} (h : (badO w.heap.size).foldl World.alloc w = W) : Below w.heap.size w W ∧ ∀ i, i < 9 → ∃ (p : Option Addr) (n : Nat) (ts : List Tk), W.cell? ⟨w.heap.size + 9, i, none⟩ = some (.slice p n n) ∧ Row encT 3 W (.slice p n n) ts ∧ xp ts [] = ([], 70) ∧ ts.length ≤ 10 := by
  subst h
  have hp := heap_pushed (badO w.heap.size) w
  have hlen : bads.length = 9 := rfl
  refine ⟨below_fold _ w, fun i hi => ?_⟩
  have hb : bads[i]? = some (bads[i]'(by omega)) := List.getElem?_eq_getElem (by omega)
  have h1 := (hp i (.cells ((bads[i]'(by omega)).flatMap encT).toArray 74)).2 (by
    unfold badO
    rw [List.getElem?_append_left (by simp [hlen]; omega), List.getElem?_map, hb]; rfl)
  have h2 := (hp 9 _).2 (show (badO w.heap.size)[9]? = some _ from rfl)
  have hd : bads.getD i [] = bads[i]'(by omega) := by rw [List.getD_eq_getElem?_getD, hb]; rfl
  have hsm : ∀ ts ∈ bads, ts.length ≤ 10 := by decide
  have hm := List.getElem_mem (l := bads) (n := i) (by omega)
  refine ⟨some ⟨w.heap.size + i, 0, none⟩, (bads[i]'(by omega)).length, bads[i]'(by omega), ?_, row_blockT h1 (by have := hsm _ hm; omega), bads_xp _ hm, hsm _ hm⟩
  refine cell_heap h2 ?_
  rw [List.getElem?_toArray, List.getElem?_map, List.getElem?_range hi, ← hd]; rfl

/-- One byte, and so many repetitions. -/
def manyT (k : Nat) : List Tk := ⟨97, 0, 0⟩ :: List.replicate k ⟨0, 258, 1⟩
theorem manyT_snoc (k : Nat) : manyT (k + 1) = manyT k ++ [⟨0, 258, 1⟩] := by unfold manyT; rw [List.replicate_succ']; rfl
theorem manyT_len (k : Nat) : (manyT k).length = k + 1 := by unfold manyT; simp
theorem manyT_xp {k : Nat} (h : 1 + 258 * k ≤ 524288) : xp (manyT k) [] = (List.replicate (1 + 258 * k) 97, 0) := by
  unfold manyT
  rw [xp_cons_ok (by decide), show tellT ⟨97, 0, 0⟩ [] = List.replicate 1 97 from rfl]
  exact xp_reps 97 k 1 (by omega) h
theorem many_ok : ∃ ys, xp (manyT 2032) [] = (ys, 0) ∧ ys.length = 524257 :=
  ⟨_, manyT_xp (by omega), by rw [List.length_replicate]⟩
theorem many_long : xp (manyT 2033) [] = ([], 2) := by
  obtain ⟨ys, h1, h2⟩ := many_ok
  rw [manyT_snoc, xp_append, h1, if_pos rfl]
  have : tkErr ⟨0, 258, 1⟩ ys.length = 2 := by
    rw [h2]
    exact tkErr_long rfl (by decide) (by decide)
  rw [xp_cons_bad (by rw [this]; decide), this]

/-- New bytes. -/
def nZ (n : Nat) : Array Value := ((List.replicate n 0).map u8v).toArray
theorem made_8 (n : Nat) : madeCells #[Value.int .u8 0] n = nZ n := by
  unfold nZ
  refine Array.ext (by simp [size_madeCells]) (fun i h1 h2 => ?_)
  simp [madeCells, Nat.mod_one, u8v]
theorem make_8 (n : Nat) (hn : n ≤ 1048576) (w : World) : (Instr.makeSlice 22 (.int .i64 (n : Int)) (.int .i64 (n : Int))).run Tryz.prog w = .ok (.slice (some ⟨w.heap.size, 0, none⟩) n n) (w.alloc (.cells (nZ n) 5)) := by
  obtain ⟨i, hi, hz, hs, hb⟩ := info_parts u8_info
  have h := run_make (P := Tryz.prog) w 22 5 i _ Tryz.underlying22 hi hz .i64 .i64 (n : Int) (n : Int) (by omega) (Int.le_refl _) (by rw [hb]; omega) (by omega)
  rw [h]
  simp only [Int.toNat_natCast, hs, Nat.mul_one]
  rw [show (Value.int IntKind.u8 0).cells = #[Value.int .u8 0] from rfl, made_8]
/-- A row of bytes of its own, whatever bytes they are. -/
def SomeB (w : World) (base g n : Nat) : Prop := ∃ xs : List Nat, xs.length = n ∧ (∀ b ∈ xs, b < 256) ∧ w.ownsRow base 5 1 (.slice (some ⟨g, 0, none⟩) n n) n (xs.map u8v)
theorem SomeB.new (w : World) (n : Nat) (hn : n ≤ 1048576) : SomeB (w.alloc (.cells (nZ n) 5)) w.heap.size w.heap.size n := by
  refine ⟨List.replicate n 0, by simp, fun b hb => by rw [(List.mem_replicate.1 hb).2]; decide, ?_⟩
  have := World.ownsRow_lit (base := w.heap.size) (size := 1) (e := 5) w (nZ n) n (Nat.le_refl _) (by simp only [maxLen]; omega) (by simp [nZ])
  rwa [show (nZ n).toList = (List.replicate n 0).map u8v from rfl] at this
theorem SomeB.put {w : World} {base g n : Nat} (h : SomeB w base g n) (i x : Nat) (hx : x < 256) : SomeB (w.setCell ⟨g, i, none⟩ (.int .u8 (x : Int))) base g n := by
  obtain ⟨xs, h1, h2, h3⟩ := h
  refine ⟨xs.set i x, by simpa using h1, fun b hb => ?_, ?_⟩
  · rcases List.mem_or_eq_of_mem_set hb with h | h
    · exact h2 b h
    · rw [h]; exact hx
  · have := owns_setCell h3 i (.int .u8 (x : Int))
    rwa [show (xs.map u8v).set i (.int .u8 (x : Int)) = (xs.set i x).map u8v from (List.map_set (f := u8v)).symm] at this
theorem SomeB.at {w : World} {base g n i : Nat} (h : SomeB w base g n) (hi : i < n) : ∃ u, w.cell? ⟨g, i, none⟩ = some u ∧ w.frozen? ⟨g, i, none⟩ = false := by
  obtain ⟨xs, h1, h2, h3⟩ := h
  obtain ⟨g', c', e, -, -, hc, hf⟩ := own_at h3 (i := i) (u := u8v (xs[i]'(by omega))) (by rw [List.getElem?_map, List.getElem?_eq_getElem (by omega)]; rfl)
  cases e
  exact ⟨_, hc, hf⟩
def xorN (a b : Int) : Nat := (bits .xor .u8 a b).toNat
theorem xorN_eq (a b : Int) : bits .xor .u8 a b = ((xorN a b : Nat) : Int) ∧ xorN a b < 256 := by
  have h : 0 ≤ bits .xor .u8 a b ∧ bits .xor .u8 a b < 256 := by
    unfold bits
    rw [IntKind.wrap_u8]
    omega
  unfold xorN
  omega

end Go.Proofs.YtebfdoipogjpnaaGreat

/- The walk of the statement DeflateKnown. -/
namespace Go.Proofs.YtebfdoipogjpnaaGreat
open Go.RowKit Go.Maps

theorem nil_small {S : List Nat} (h : DefS [] S) : S.length ≤ 2 := by
  have h1 := (h.small (ts := []) .nil).2
  rw [fixP_cost] at h1
  have e : costF [] = 0 := rfl
  rw [e] at h1
  omega
theorem known_small {b S : List Nat} (h : DefS b S) (hl : b.length = 70000) : S.length ≤ 70010 := by
  obtain ⟨ts, -, h1, -⟩ := h.ex
  have h2 := (h.small h1).1
  rw [stB_sz, hl] at h2
  have e : stJ 70000 = 1 := by decide
  rw [e] at h2
  omega
theorem rw8_nil (w : World) : Rw8 w (.slice none 0 0) [] := Rw8.own (base := 0) (World.ownsRow_nil _ _ _ _) rfl
theorem slice_hiB (p : Option Addr) (n c m : Nat) (h : m ≤ c) (w : World) : (Instr.slice 22 (.slice p n c) none (some (.int .i64 (m : Int))) none).run Tryz.prog w = .ok (.slice p m c) w := slice_hiD p n c m h w

theorem u32_nat (z : Int) : ∃ a : Nat, IntKind.u32.wrap z = (a : Int) ∧ a < 4294967296 := by
  have h := IntKind.wrap_u32 z
  exact ⟨(IntKind.u32.wrap z).toNat, by rw [h]; omega, by rw [h]; omega⟩

set_option maxRecDepth 20000 in
set_option maxHeartbeats 8000000 in
theorem dknown_any (w : World) : Makes Tryz.prog 7 #[] w (.bool true) := by
  unfold Makes
  go_enter Tryz.func7, Tryz.ntmps7
  go_wp2_with fail
  refine Calls.mono (deflate_any _ [] w (rw8_nil w) (fun x h => by cases h) (by decide)) ?_
  rintro _ w1 ⟨v1, S, rfl, hS, hSl, ho1, hb1⟩
  have HS := Lib.hid hS
  have h2 := nil_small hS
  have Hr1 := Lib.hid (Rw8.own ho1 rfl)
  have Hb1 := Lib.hid hb1
  obtain ⟨p1, c1, rfl⟩ := owns_slice ho1
  obtain ⟨n, hn⟩ : ∃ n, S.length = n := ⟨_, rfl⟩
  have Hn := Lib.hid hn
  rw [hn] at h2 Hr1 hSl ⊢
  clear hS ho1 hb1 hn
  go_wp2_with fail
  refine Calls.mono (infl_any _ S 0 w1 Hr1.out HS.out.lt (by rw [Hn.out]; omega)) ?_
  rintro _ w2 ⟨o, k, er, ov, hi2, rfl, ho2, hb2⟩
  have hfin := HS.out.infl (fun x h => by cases h) (by decide) [] (lim := 0) (by decide) (by decide)
  rw [List.append_nil] at hfin
  obtain ⟨rfl, rfl, rfl⟩ := hi2.det hfin
  obtain ⟨p2, c2, rfl⟩ := owns_slice ho2
  have Hb2 := Lib.hid (Below.thn Hb1.out hb2)
  rw [Hn.out]
  simp only [List.length_nil]
  have d2 : decide ((n : Int) > 2) = false := by simp; omega
  have d2' : decide (2 < n) = false := by simp; omega
  have d3 : ((n : Int) != (n : Int)) = false := by simp
  clear hi2 ho2 hb2 hfin Hr1 HS Hn
  have hmk : ∀ w : World, (Instr.makeSlice 22 (.int .i64 524289) (.int .i64 524289)).run Tryz.prog w = .ok (.slice (some ⟨w.heap.size, 0, none⟩) 524289 524289) (w.alloc (.cells (nZ 524289) 5)) := fun w => make_8 524289 (by decide) w
  have HS0 := Lib.hid (SomeB.new w2 524289 (by decide))
  have HB3 := Lib.hid (Below.thn Hb2.out (Below.al1 w2 (.cells (nZ 524289) 5)))
  go_wp2_with fail
  generalize w2.alloc (.cells (nZ 524289) 5) = w3 at *
  obtain ⟨G, hG⟩ : ∃ G, w2.heap.size = G := ⟨_, rfl⟩
  rw [hG] at HS0 ⊢
  have HG : Hid (w.heap.size ≤ G) := Lib.hid (by rw [← hG]; exact Hb2.out.size)
  clear hG hmk Hb2
  go_loopw [7, 8] (fun vv iv wr => ∃ i u : Nat, vv = .int .u32 (u : Int) ∧ u < 4294967296 ∧ iv = .int .i64 (i : Int) ∧ i ≤ 524289 ∧ Hid (SomeB wr G G 524289) ∧ Hid (Below w.heap.size w wr)) (fun _ iv _ => 524289 - (intOf iv).toNat)
  case atStart => exact ⟨0, 1, rfl, by decide, rfl, Nat.zero_le _, HS0, HB3⟩
  case round =>
    clear HS0 HB3
    obtain ⟨i, u, rfl, hu, rfl, hi, HS, HB⟩ := hrel
    by_cases hin : i < 524289
    · have d1 : decide ((i : Int) < 524289) = true := by simp; omega
      obtain ⟨x, hx, hf⟩ := HS.out.at hin
      have i0 : (0 : Int) ≤ (i : Int) := by omega
      have i1 : (i : Int) < 524289 := by omega
      obtain ⟨a, ha, ha2⟩ : ∃ a : Nat, IntKind.u32.wrap ((u : Int) * 1664525) = (a : Int) ∧ a < 4294967296 := u32_nat _
      obtain ⟨b, hb, hb2⟩ : ∃ b : Nat, IntKind.u32.wrap ((a : Int) + 1013904223) = (b : Int) ∧ b < 4294967296 := u32_nat _
      obtain ⟨e, he⟩ : ∃ e, b / 16777216 = e := ⟨_, rfl⟩
      have he1 : (b : Int) / 16777216 = (e : Int) := by omega
      have he2 : e < 256 := by omega
      have hw1 : IntKind.u8.wrap (e : Int) = (e : Int) := by rw [IntKind.wrap_u8]; omega
      have HS2 := Lib.hid (HS.out.put i e he2)
      have HB2 := Lib.hid (HB.out.setCell (p := ⟨G, i, none⟩) HG.out (.int .u8 (e : Int)))
      clear he
      go_wp2_with fail
      go_roundw
      case rel => exact ⟨i + 1, b, rfl, hb2, by go_num, by omega, HS2, HB2⟩
      case measure => simp [intOf]; omega
    · obtain rfl : i = 524289 := by omega
      obtain ⟨xs, hxl, hxb, hxo⟩ := HS.out
      have Hxo := Lib.hid hxo
      have hb7 : (xs.take 70000).length = 70000 := by rw [List.length_take, hxl]; decide
      have HR : Hid (Rw8 wr (.slice (some ⟨G, 0, none⟩) 70000 524289) (xs.take 70000)) := Lib.hid (by
        obtain ⟨g', c', cur, e, -, ⟨k1, k2⟩, hz, hq⟩ := owns_block hxo (by decide)
        cases e
        exact ⟨rw8_take (by rw [hxl]; decide) (by rw [hxl]; exact Nat.le_refl _) k2 ⟨cur, _, hz, fun i hi => hq i _ (by rw [List.getElem?_map, List.getElem?_eq_getElem hi, ← lq_at hi]; rfl)⟩, fun c h => by cases h⟩)
      have Hby : Hid (∀ x ∈ xs.take 70000, x < 256) := Lib.hid fun x hx => hxb x (List.mem_of_mem_take hx)
      obtain ⟨b, hb⟩ : ∃ b, xs.take 70000 = b := ⟨_, rfl⟩
      rw [hb] at hb7 HR Hby
      have Hb7 := Lib.hid hb7
      clear hxo hxb hxl hb hb7 hi hu HS Hxo
      have hsl : ∀ w : World, (Instr.slice 22 (.slice (some ⟨G, 0, none⟩) 524289 524289) none (some (.int .i64 70000)) none).run Tryz.prog w = .ok (.slice (some ⟨G, 0, none⟩) 70000 524289) w := slice_hiB _ 524289 524289 70000 (by decide)
      go_wp2_with fail
      refine Calls.mono (deflate_long (some ⟨G, 0, none⟩) 524289 524289 wr (by decide)) ?_
      rintro _ w4 ⟨rfl, rfl⟩
      go_wp2_with fail
      refine Calls.mono (deflate_any _ b _ HR.out Hby.out (by rw [Hb7.out]; decide)) ?_
      rintro _ w5 ⟨v5, S5, rfl, hS5, hSl5, ho5, hb5⟩
      have HS5 := Lib.hid hS5
      have h5 := known_small hS5 Hb7.out
      have Hr5 := Lib.hid (Rw8.own ho5 rfl)
      have HRb := Lib.hid (HR.out.below hb5)
      have Hb5 := Lib.hid (Below.thn HB.out hb5)
      obtain ⟨p5, c5, rfl⟩ := owns_slice ho5
      obtain ⟨m, hm⟩ : ∃ m, S5.length = m := ⟨_, rfl⟩
      have Hm := Lib.hid hm
      rw [hm] at h5 Hr5 hSl5 ⊢
      clear hS5 ho5 hb5 hm HR HB
      go_wp2_with fail
      refine Calls.mono (infl_any _ S5 70000 w5 Hr5.out HS5.out.lt (by rw [Hm.out]; omega)) ?_
      rintro _ w6 ⟨o6, k6, er6, ov6, hi6, rfl, ho6, hb6⟩
      have hfin := HS5.out.infl Hby.out (by rw [Hb7.out]; decide) [] (lim := 70000) (by decide) (by rw [Hb7.out]; decide)
      rw [List.append_nil] at hfin
      obtain ⟨rfl, rfl, rfl⟩ := hi6.det hfin
      have hs1 := fun q : After w6 => strI_row ((Rw8.own ho6 rfl).below q.below).row
      have hs2 := fun q : After w6 => strI_row ((HRb.out.below hb6).below q.below).row
      obtain ⟨p6, c6, rfl⟩ := owns_slice ho6
      obtain ⟨X, hX⟩ : ∃ X, strI o6 = X := ⟨_, rfl⟩
      simp only [hX, Hb7.out] at hs1 hs2 ⊢
      rw [Hm.out]
      have Hb6 := Lib.hid (Below.thn Hb5.out hb6)
      have d5 : decide ((m : Int) ≤ 70010) = true := by simp; omega
      have d5' : decide (m ≤ 70010) = true := by simp; omega
      have d6 : ((m : Int) == (m : Int)) = true := by simp
      clear hi6 ho6 hb6 hfin hX Hr5 HRb HS5 Hm
      go_upto_region 15 with (fail)
      have hne := After.ne w6
      refine wp_region_after (by kernel_rfl) (by kernel_rfl) ?_
      repeat (first
        | (go_big_quiet_step ((go_at_call 11; exact Makes.after (dlays_law _))))
        | (refine ⟨_, fun _ => rfl, ?_⟩; go_big_quiet_on))
      refine wpQuiet_nil ?_
      rintro _ ⟨nq, rfl⟩
      go_wp2
      go_ret
      exact ⟨rfl, Below.thn Hb6.out nq.below⟩

end Go.Proofs.YtebfdoipogjpnaaGreat
