/- Tokens compared; bytes as strings; the statements' example. -/
import Derived.Test.YtngiiacibbgiiaaLzL
import Derived.Test.YtngiiacibbgiiaaLzY
import Derived.Laws.BytesArg
import Derived.Lib.SlBytesConst
namespace Go.Proofs.Ytngiiacibbgiiaa
open Go.RowKit

theorem tk_stood : Try.prog.stoodInHeld 26 = false := by kernel_rfl
theorem tk_guard : Try.prog.eqGuardType Try.prog.depth 26 = false := by kernel_rfl
theorem tk_fields : Try.prog.underlying 26 = some (.struct (Try.prog.fieldsOf 26)) := by kernel_rfl
/-- Are tokens' cells alike? -/
def eqT (b n d b' n' d' : Int) : Bool := decide (b = b' ∧ n = n' ∧ d = d')
theorem guard_tk (op : BinOp) (x y : Operand) (xs ys : Array Value) (w : World) : (eqGuard op 26 x y (.agg xs) (.agg ys)).run Try.prog w = .ok () w := run_eqGuard_agg _ _ _ _ _ _ _ tk_guard
theorem equalIn_tk (b n d b' n' d' : Int) (w : World) : (Op.equalIn 10000 26 (.agg #[.int .u8 b, .int .i64 n, .int .i64 d]) (.agg #[.int .u8 b', .int .i64 n', .int .i64 d'])).run Try.prog w = .ok (eqT b n d b' n' d') w := by
  rw [show (10000 : Nat) = 9999 + 1 from rfl, run_equalIn_agg w 9999 _ _ _ tk_fields tk_stood]
  simp [go_sem, Op.eqFields]
  by_cases h1 : b = b' <;> by_cases h2 : n = n' <;> by_cases h3 : d = d' <;> simp [eqT, h1, h2, h3]
theorem eql_tk (b n d b' n' d' : Int) (w : World) : (binOp .eql 26 (.agg #[.int .u8 b, .int .i64 n, .int .i64 d]) (.agg #[.int .u8 b', .int .i64 n', .int .i64 d'])).run Try.prog w = .ok (.bool (eqT b n d b' n' d')) w := by
  rw [run_eql_struct, equalIn_tk]; rfl
theorem neq_tk (b n d b' n' d' : Int) (w : World) : (binOp .neq 26 (.agg #[.int .u8 b, .int .i64 n, .int .i64 d]) (.agg #[.int .u8 b', .int .i64 n', .int .i64 d'])).run Try.prog w = .ok (.bool (!eqT b n d b' n' d')) w := by
  rw [run_neq_struct, equalIn_tk]; rfl
theorem eqT_self (b n d : Int) : eqT b n d b n d = true := by simp [eqT]

/-- Bytes as a string. -/
def strN (l : List Nat) : ByteArray := strOfNums (l.map fun (b : Nat) => (b : Int))
theorem str_row {w : World} {v : Value} {l : List Nat} (h : Row enc8 1 w v l) : (convert 22 9 v).run Try.prog w = .ok (.string (strN l)) w := by
  obtain ⟨p, c, rfl, -, -, hr⟩ := h
  rcases hr with ⟨rfl, rfl⟩ | ⟨b, off, rfl, -, hr⟩
  · exact run_convert_bytes_nil w 22 5 Try.underlying22 Try.underlying5 _ _ 9 Try.underlying9
  · refine run_convert_bytes_arg w 22 5 Try.underlying22 Try.underlying5 b off l.length c _ (by simp) (fun i hi => ?_) 9 Try.underlying9
    have := hr i l[i] (List.getElem?_eq_getElem hi) 0 _ rfl
    rw [Nat.mul_one, Nat.add_zero] at this
    rw [this]
    simp [List.getD_eq_getElem?_getD, List.getElem?_eq_getElem hi]
    rfl
theorem strN_inj {l l' : List Nat} (h : ∀ b ∈ l, b < 256) (h' : ∀ b ∈ l', b < 256) (e : strN l = strN l') : l = l' := by
  have e1 := congrArg (fun s : ByteArray => s.data.toList) e
  simp only [strN, strOfNums_data, List.map_map] at e1
  have key : ∀ (l : List Nat), (∀ b ∈ l, b < 256) → (l.map ((fun n : Int => UInt8.ofNat n.toNat) ∘ fun b : Nat => (b : Int))).map UInt8.toNat = l := by
    intro l hl
    rw [List.map_map]
    conv => rhs; rw [← List.map_id l]
    refine List.map_congr_left (fun b hb => ?_)
    have := hl b hb
    simp; omega
  rw [← key l h, ← key l' h', e1]

theorem OwnT.row {w : World} {base : Nat} {v : Value} {ts : List Tk} (h : OwnT w base v ts) : Row encT 3 w v ts := owns_row' encT_len h
theorem Row.own8 {w : World} {base : Nat} {v : Value} {l : List Nat} (h : w.ownsRow base 5 1 v l.length (l.map u8v)) : Row enc8 1 w v l := (Rw8.own h rfl).row
/-- The cells of a row of tokens. -/
theorem Row.tok {w : World} {v : Value} {ts : List Tk} (h : Row encT 3 w v ts) : ∃ p c, v = .slice p ts.length c ∧ ∀ k (hk : k < ts.length), ∃ b off, p = some ⟨b, off, none⟩ ∧ w.cell? ⟨b, off + k * 3, none⟩ = some (.int .u8 (ts[k].b : Int)) ∧ w.cell? ⟨b, off + k * 3 + 1, none⟩ = some (.int .i64 ts[k].n) ∧ w.cell? ⟨b, off + k * 3 + 2, none⟩ = some (.int .i64 ts[k].d) := by
  obtain ⟨p, c, e, -, -, hr⟩ := h
  exact ⟨p, c, e, fun k hk => hr.tok hk⟩
theorem row_litT (w : World) (ts : List Tk) (h : ts.length ≤ 1048576) : Row encT 3 (w.alloc (.cells (ts.flatMap encT).toArray 26)) (.slice (some ⟨w.heap.size, 0, none⟩) ts.length ts.length) ts := by
  have hl : (ts.flatMap encT).length = ts.length * 3 := by
    induction ts with
    | nil => rfl
    | cons t r ih => rw [List.flatMap_cons, List.length_append, ih (by simp at h; omega), encT_len, List.length_cons]; omega
  have := World.ownsRow_lit (base := 0) (size := 3) (e := 26) w (ts.flatMap encT).toArray ts.length (Nat.zero_le _) (by simp only [maxLen]; omega) (by simpa using hl)
  exact owns_row' encT_len this

theorem ex_toks : toksC (fb [97, 98, 99, 97, 98, 99, 97, 98, 99, 100]) 10 10 0 = [⟨97, 0, 0⟩, ⟨98, 0, 0⟩, ⟨99, 0, 0⟩, ⟨0, 6, 3⟩, ⟨100, 0, 0⟩] := by kernel_rfl
theorem ex_xp : xp [⟨97, 0, 0⟩, ⟨0, 3, 1⟩] [] = ([97, 97, 97, 97], 0) := by decide +kernel
theorem ex_str : strN [97, 97, 97, 97] = { data := #[97, 97, 97, 97] } := by decide +kernel

theorem row_mark8 (w : World) (ls : List Nat) (fr : Nat × Nat) (h : ls.length ≤ 1048576) : Row enc8 1 (w.alloc (.cells (ls.map u8v).toArray 5 fr)) (.slice (some ⟨w.heap.size, 0, none⟩) ls.length ls.length) ls := by
  refine ⟨_, _, rfl, Nat.le_refl _, by simp only [maxLen]; omega, .inr ⟨w.heap.size, 0, rfl, by rw [World.size_alloc]; omega, fun i x hi j u hu => ?_⟩⟩
  have hj : j = 0 := by
    have := (List.getElem?_eq_some_iff.1 hu).1
    rw [enc8_len] at this; omega
  subst hj
  rw [Nat.zero_add, Nat.mul_one, Nat.add_zero, World.cell?_alloc_mark]
  simp only [enc8, List.getElem?_cons_zero, Option.some.injEq] at hu
  simp [hi, ← hu]

set_option maxRecDepth 20000 in
set_option maxHeartbeats 4000000 in
theorem matches_law (w : World) : Makes Try.prog 12 #[] w (.bool true) := by
  unfold Makes
  have htok := eql_tk
  have hcs := fun (w : World) (C : Array Value) (n c : Nat) => Lib.run_convert_bytes_const (P := Try.prog) w 22 5 C n c Try.underlying22 Try.underlying5
  go_enter Try.func12, Try.ntmps12
  go_wp2_with fail
  have hr1 := row_mark8 w [97, 98, 99, 97, 98, 99, 97, 98, 99, 100] (10, 11) (by decide)
  refine Calls.mono (match_any [97, 98, 99, 97, 98, 99, 97, 98, 99, 100] _ _ hr1 (by decide) (by decide)) ?_
  rintro e w1 ⟨v1, ts, rfl, ho1, ht1, hb1⟩
  have hts : ts = [⟨97, 0, 0⟩, ⟨98, 0, 0⟩, ⟨99, 0, 0⟩, ⟨0, 6, 3⟩, ⟨100, 0, 0⟩] := (toks_eq ht1).trans ex_toks
  subst hts
  have hb01 := Below.thn (Below.al1 w _) hb1
  obtain ⟨p1, c1, rfl, hc⟩ := ho1.row.tok
  have Hc := Lib.hid hc
  have Hb1 := Lib.hid hb01
  clear hr1 ho1 ht1 hb1 hb01 hc
  go_wp2_with fail
  have hr2 := row_litT w1 [⟨97, 0, 0⟩, ⟨0, 3, 1⟩] (by decide)
  refine Calls.mono (expand_any [⟨97, 0, 0⟩, ⟨0, 3, 1⟩] _ _ hr2 (by decide)) ?_
  rw [ex_xp]
  rintro e w2 ⟨v2, rfl, ho2, hb2⟩
  have hb12 := Below.thn (Below.al1 w1 _) hb2
  obtain ⟨g, off, rfl, -⟩ := Hc.out 0 (by decide)
  obtain ⟨g', off', e, x0, x1, x2⟩ := Hc.out 3 (by decide)
  cases e
  obtain ⟨g', off', e, y0, y1, y2⟩ := Hc.out 4 (by decide)
  cases e
  have x0 := cell_later hb12 x0
  have x1 := cell_later hb12 x1
  have x2 := cell_later hb12 x2
  have y0 := cell_later hb12 y0
  have y1 := cell_later hb12 y1
  have y2 := cell_later hb12 y2
  have hstr := str_row (Row.own8 ho2)
  rw [ex_str] at hstr
  obtain ⟨p2, c2, rfl⟩ := owns_slice ho2
  have Hb2 := Lib.hid (Below.thn Hb1.out hb12)
  have Hn := Lib.hid ho2
  clear hr2 ho2 hb2 hb12
  simp only [List.length_cons, List.length_nil, Nat.zero_add, Nat.reduceAdd] at *
  go_wp2
  go_ret
  exact ⟨rfl, Hb2.out⟩

end Go.Proofs.Ytngiiacibbgiiaa
