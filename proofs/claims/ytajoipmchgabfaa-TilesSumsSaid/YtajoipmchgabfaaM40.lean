/- Several texts in one, each with its own head. -/
import Derived.Test.YtajoipmchgabfaaM1
import Derived.ProofKit
import Derived.Lib.SmallJoins
import Derived.Test.YtajoipmchgabfaaM5
import Derived.Test.YtajoipmchgabfaaM2
import Derived.Laws.CopyOwn
import Derived.OwnWalkIn
import Derived.TacticsInMore
import Derived.LoopNIn
import Derived.LoopIn
/- From a walk that ends in true, and that changes nothing that was there, to what a statement says: whatever the arguments, they read behind the call as they read before. Nothing here speaks of one function. -/
namespace Go.Proofs.Ytajoipmchgabfaa
open Go.ChangeShapes Go.WideShapes Go.ChangeAt Go.RowKit Go.Joins

theorem Try.own : ownKnob Try.prog.godebug = none := by kernel_rfl
theorem Try.laidOut : laidOutB Try.prog = true := by kernel_rfl

/-- Arguments read behind a call that keeps all that was there as they read before it. -/
theorem trodAll_below {H : Type} {enc : TypeId × Value → H} {P : Program} (hl : laidOutB P = true) {W W' : World} (hb : Below W.heap.size W W') :
    ∀ (ts : List TypeId) (vs : List Value) (ds : List (DataW H)) (ps : List MemPlace), (∀ t ∈ ts, P.readableRec t = true ∧ t < P.types.size) → DataW.TrodAll enc P W 0 (fun _ => true) true ts vs ds ps → (∀ x ∈ ps, x.block < W.heap.size) →
      DataW.TrodAll enc P W' 0 (fun b => decide (b < W.heap.size)) true ts vs ds ps
  | [], _, _, _, _, h, _ => by
    obtain ⟨rfl, rfl, rfl⟩ := trodAll_nil h
    exact trodAll_mk0
  | t :: ts, _, _, _, hr, h, hlt => by
    obtain ⟨v, vs', d, ds', p, q, rfl, rfl, rfl, h1, h2⟩ := trodAll_cons h
    have ht := hr t (by simp)
    exact trodAll_cons_mk (Below.trod hl ht.1 ht.2 h1 hb (fun x hx => hlt x (by simp [hx]))) (trodAll_below hl hb ts vs' ds' q (fun t' h' => hr t' (by simp [h'])) h2 (fun x hx => hlt x (by simp [hx])))

/-- What a statement asks behind the call, where the call answers true and keeps all that was there. -/
theorem law_post {H : Type} {enc : TypeId × Value → H} {f : Func} {s : ChangeSpec} (tb : TypeId) {W W' : World} {args : Array Value} {ds gs : List (DataW H)} {before : List MemPlace}
    (hread : ∀ t ∈ f.params.toList, Try.prog.readableRec t = true ∧ t < Try.prog.types.size) (hrt : f.resultTypes = #[tb]) (hub : Try.prog.underlying tb = some .bool) (hv : s.vars = [])
    (hW : DataW.Whole enc Try.prog f.params.toList s.vars false W args.toList ds gs before) (hr : (s.fn H (ds ++ gs)).results = [.lit (.bool true)]) (ha : (s.fn H (ds ++ gs)).args = ds) (hvs : (s.fn H (ds ++ gs)).vars = [])
    (hb : Below W.heap.size W W') : s.post enc Try.prog f false true false false W args (.bool true) W' := by
  have hlt := hW.lt
  have hW' := hW
  obtain ⟨p, q, hA, hV, rfl, hfz, hnd⟩ := hW
  rw [hv] at hV
  obtain ⟨rfl, rfl⟩ := trodVars_none hV
  refine ⟨_, _, _, [], p, [], hW', ?_, ?_, ?_, hb.frame _, fun h => by cases h⟩
  · rw [hr, hrt]
    exact trodAll_mk1 (shut_bool hub true)
  · rw [ha]
    exact trodAll_below Try.laidOut hb _ _ _ _ hread hA (fun x hx => by simpa using hlt x (by simp [hx]))
  · rw [hvs, hv]
    rfl

theorem trodAll_four_mine {H : Type} {enc : TypeId × Value → H} {P : Program} {w : World} {base : Nat} {spare : Nat → Bool} {held : Bool} {t0 t1 t2 t3 : TypeId} {args : Array Value} {ds : List (DataW H)} {ps : List MemPlace} (h : DataW.TrodAll enc P w base spare held [t0, t1, t2, t3] args.toList ds ps) :
    ∃ v0 v1 v2 v3 d0 d1 d2 d3 p0 p1 p2 p3, args = #[v0, v1, v2, v3] ∧ ds = [d0, d1, d2, d3] ∧ ps = p0 ++ (p1 ++ (p2 ++ p3)) ∧ DataW.Trod enc P w base spare held t0 v0 d0 p0 ∧ DataW.Trod enc P w base spare held t1 v1 d1 p1 ∧ DataW.Trod enc P w base spare held t2 v2 d2 p2 ∧ DataW.Trod enc P w base spare held t3 v3 d3 p3 := by
  obtain ⟨v0, vs0, d0, ds0, p0, q0, hargs, rfl, rfl, h0, r0⟩ := trodAll_cons h
  obtain ⟨v1, vs1, d1, ds1, p1, q1, rfl, rfl, rfl, h1, r1⟩ := trodAll_cons r0
  obtain ⟨v2, vs2, d2, ds2, p2, q2, rfl, rfl, rfl, h2, r2⟩ := trodAll_cons r1
  obtain ⟨v3, vs3, d3, ds3, p3, q3, rfl, rfl, rfl, h3, r3⟩ := trodAll_cons r2
  obtain ⟨rfl, rfl, rfl⟩ := trodAll_nil r3
  exact ⟨v0, v1, v2, v3, d0, d1, d2, d3, p0, p1, p2, p3, by cases args; simp_all, rfl, by simp, h0, h1, h2, h3⟩

theorem trodAll_five_mine {H : Type} {enc : TypeId × Value → H} {P : Program} {w : World} {base : Nat} {spare : Nat → Bool} {held : Bool} {t0 t1 t2 t3 t4 : TypeId} {args : Array Value} {ds : List (DataW H)} {ps : List MemPlace} (h : DataW.TrodAll enc P w base spare held [t0, t1, t2, t3, t4] args.toList ds ps) :
    ∃ v0 v1 v2 v3 v4 d0 d1 d2 d3 d4 p0 p1 p2 p3 p4, args = #[v0, v1, v2, v3, v4] ∧ ds = [d0, d1, d2, d3, d4] ∧ ps = p0 ++ (p1 ++ (p2 ++ (p3 ++ p4))) ∧ DataW.Trod enc P w base spare held t0 v0 d0 p0 ∧ DataW.Trod enc P w base spare held t1 v1 d1 p1 ∧ DataW.Trod enc P w base spare held t2 v2 d2 p2 ∧ DataW.Trod enc P w base spare held t3 v3 d3 p3 ∧ DataW.Trod enc P w base spare held t4 v4 d4 p4 := by
  obtain ⟨v0, vs0, d0, ds0, p0, q0, hargs, rfl, rfl, h0, r0⟩ := trodAll_cons h
  obtain ⟨v1, vs1, d1, ds1, p1, q1, rfl, rfl, rfl, h1, r1⟩ := trodAll_cons r0
  obtain ⟨v2, vs2, d2, ds2, p2, q2, rfl, rfl, rfl, h2, r2⟩ := trodAll_cons r1
  obtain ⟨v3, vs3, d3, ds3, p3, q3, rfl, rfl, rfl, h3, r3⟩ := trodAll_cons r2
  obtain ⟨v4, vs4, d4, ds4, p4, q4, rfl, rfl, rfl, h4, r4⟩ := trodAll_cons r3
  obtain ⟨rfl, rfl, rfl⟩ := trodAll_nil r4
  exact ⟨v0, v1, v2, v3, v4, d0, d1, d2, d3, d4, p0, p1, p2, p3, p4, by cases args; simp_all, rfl, by simp, h0, h1, h2, h3, h4⟩

theorem wf_bounds {n : Int} (h : (Lit.int .i64 n).wf = true) : -9223372036854775808 ≤ n ∧ n ≤ 9223372036854775807 := by
  have hm : IntKind.i64.min = -9223372036854775808 := by decide
  simpa [Lit.wf, hm] using h

theorem wf_u8b {n : Int} (h : (Lit.int .u8 n).wf = true) : 0 ≤ n ∧ n ≤ 255 := by
  have hm : IntKind.u8.min = 0 := by decide
  have hx : IntKind.u8.max = 255 := by decide
  simpa [Lit.wf, hm, hx] using h

theorem wf_u32b {n : Int} (h : (Lit.int .u32 n).wf = true) : 0 ≤ n ∧ n < 4294967296 := by
  have hm : IntKind.u32.min = 0 := by decide
  have hx : IntKind.u32.max = 4294967295 := by decide
  have := h
  simp [Lit.wf, hm, hx] at this
  omega

end Go.Proofs.Ytajoipmchgabfaa

/- A rectangle that comes in as an argument: its four numbers. -/
namespace Go.Proofs.Ytajoipmchgabfaa
open Go.ChangeShapes Go.WideShapes Go.ChangeAt Go.RowKit Go.Joins

theorem rc_cells : Try.prog.cellsOf 38 = 4 := by kernel_rfl

set_option maxRecDepth 100000 in
theorem open_rc {H : Type} {enc : TypeId × Value → H} {W : World} {base : Nat} {v : Value} {d : DataW H} {p : List MemPlace} (hv : Value.okWide Try.prog W .any base 38 v) (h : DataW.Trod enc Try.prog W 0 (fun _ => true) true 38 v d p) :
    ∃ r : Rc, v = RV r ∧ Fit r := by
  obtain ⟨v0, v1, v2, v3, y0, y1, y2, y3, n, rfl, rfl, rfl, h0, h1, h2, h3⟩ := open_agg4 Try.underlying38 (by kernel_rfl) rc_cells hv h
  obtain ⟨a, e0, rfl, wa⟩ := DataW.trod_int Try.underlying3 h0
  obtain ⟨b, e1, rfl, wb⟩ := DataW.trod_int Try.underlying3 h1
  obtain ⟨c, e2, rfl, wc⟩ := DataW.trod_int Try.underlying3 h2
  obtain ⟨e, e3, rfl, we⟩ := DataW.trod_int Try.underlying3 h3
  simp at e0 e1 e2 e3
  subst e0 e1 e2 e3
  exact ⟨⟨a, b, c, e⟩, rfl, (wf_bounds wa).2, (wf_bounds wb).2⟩

end Go.Proofs.Ytajoipmchgabfaa

/- pixbuf's small functions: pictures in memory; row, rows, turn, whole, blank, sized, isPicture. -/
namespace Go.Proofs.Ytajoipmchgabfaa
open Go.RowKit

attribute [local go_sem] Oper.semAt_some

/-- A picture's value. -/
abbrev IV (wd ht : Int) (s : Value) : Value := .agg #[.int .i64 wd, .int .i64 ht, s]

def u32s (l : List Int) : Array Value := (l.map (Value.int .u32)).toArray

/-- Block g is these pixels. -/
def Pix (w : World) (g : Nat) (l : List Int) : Prop := w.heap[g]? = some (.cells (u32s l) 35)

theorem Pix.lt {w : World} {g : Nat} {l : List Int} (h : Pix w g l) : g < w.heap.size := (Array.getElem?_eq_some_iff.1 h).1
theorem Pix.cell {w : World} {g : Nat} {l : List Int} (h : Pix w g l) {i : Nat} (hi : i < l.length) : w.cell? ⟨g, i, none⟩ = some (.int .u32 l[i]) := by
  unfold Pix at h
  simp [World.cell?, h, u32s, hi]
theorem Pix.free {w : World} {g : Nat} {l : List Int} (h : Pix w g l) (i : Nat) : w.frozen? ⟨g, i, none⟩ = false := by
  unfold Pix at h
  simp [World.frozen?, h]
theorem Pix.same {w w1 : World} {g : Nat} {l : List Int} (h : Pix w g l) (hs : w1.heap[g]? = w.heap[g]?) : Pix w1 g l := hs.trans h
theorem Pix.later {w w1 : World} {g : Nat} {l : List Int} (h : Pix w g l) (hb : Below w.heap.size w w1) : Pix w1 g l := h.same (hb.block g h.lt)
theorem Pix.set {w : World} {g : Nat} {l : List Int} (h : Pix w g l) (i : Nat) (v : Int) : Pix (w.setCell ⟨g, i, none⟩ (.int .u32 v)) g (l.set i v) := by
  unfold Pix at h ⊢
  obtain ⟨hlt, hk⟩ := Array.getElem?_eq_some_iff.1 h
  show (w.heap.modify g _)[g]? = _
  rw [Array.getElem?_eq_getElem (by rw [Array.size_modify]; exact hlt), Array.getElem_modify_self, hk]
  simp [u32s, List.map_set]

/-- The numbers of n places from o on, turned. -/
def mapAt (f : Int → Int) (o n : Nat) (l : List Int) : List Int := l.mapIdx fun i v => if o ≤ i ∧ i < o + n then f v else v

theorem mapAt_len (f : Int → Int) (o n : Nat) (l : List Int) : (mapAt f o n l).length = l.length := by simp [mapAt]
theorem mapAt_zero (f : Int → Int) (o : Nat) (l : List Int) : mapAt f o 0 l = l := by
  refine List.ext_getElem (by simp [mapAt]) (fun i h1 h2 => ?_)
  simp only [mapAt, List.getElem_mapIdx]
  rw [if_neg (by omega)]
theorem mapAt_get (f : Int → Int) (o n : Nat) (l : List Int) (i : Nat) (h : i < l.length) : (mapAt f o n l)[i]'(by rw [mapAt_len]; exact h) = if o ≤ i ∧ i < o + n then f l[i] else l[i] := by
  simp only [mapAt, List.getElem_mapIdx]
theorem mapAt_succ (f : Int → Int) (o n : Nat) (l : List Int) (h : o + n < l.length) : (mapAt f o n l).set (o + n) (f l[o + n]) = mapAt f o (n + 1) l := by
  refine List.ext_getElem (by simp [mapAt]) (fun i h1 h2 => ?_)
  have hi : i < l.length := by simpa [mapAt] using h2
  rw [List.getElem_set, mapAt_get _ _ _ _ _ hi, mapAt_get _ _ _ _ _ hi]
  by_cases e : o + n = i
  · subst e
    rw [if_pos rfl, if_pos (by omega)]
  · rw [if_neg e]
    by_cases e2 : o ≤ i ∧ i < o + n
    · rw [if_pos e2, if_pos (by omega)]
    · rw [if_neg e2, if_neg (by omega)]

set_option maxHeartbeats 1000000 in
theorem pixRow_any (wd ht x y a hh k b off n cap : Nat) (W : World) (hcap : cap ≤ 9223372036854775807) (ha : 0 < a) (hfit : (y + k) * wd + x + a ≤ cap) (hw : wd ≤ 1048576) (hyk : y + k ≤ 1048576) :
    Makes Try.prog 58 #[IV wd ht (.slice (some ⟨b, off, none⟩) n cap), RV ⟨x, y, a, hh⟩, .int .i64 k] W (.slice (some ⟨b, off + ((y + k) * wd + x), none⟩) a a) := by
  unfold Makes
  obtain ⟨s, hs⟩ : ∃ s, y + k = s := ⟨_, rfl⟩
  obtain ⟨q, hq⟩ : ∃ q, s * wd = q := ⟨_, rfl⟩
  obtain ⟨F, hF⟩ : ∃ F, q + x = F := ⟨_, rfl⟩
  obtain ⟨E, hE⟩ : ∃ E, F + a = E := ⟨_, rfl⟩
  rw [hs, hq, hF] at hfit ⊢
  have hqb : q ≤ 1099511627776 := by rw [← hq]; exact Nat.mul_le_mul (show s ≤ 1048576 by omega) hw
  have h1 : IntKind.i64.wrap ((y : Int) + (k : Int)) = (s : Int) := by rw [← hs, Int.natCast_add]; exact IntWalk.i64_in _ (by omega)
  have h2 : IntKind.i64.wrap ((s : Int) * (wd : Int)) = (q : Int) := by rw [← hq, Int.natCast_mul]; exact IntWalk.i64_in _ (by rw [← Int.natCast_mul, hq]; omega)
  have h3 : IntKind.i64.wrap ((q : Int) + (x : Int)) = (F : Int) := by rw [← hF, Int.natCast_add]; exact IntWalk.i64_in _ (by omega)
  have h4 : IntKind.i64.wrap ((F : Int) + (a : Int)) = (E : Int) := by rw [← hE, Int.natCast_add]; exact IntWalk.i64_in _ (by omega)
  have hFE : F < E := by omega
  have hEc : E ≤ cap := by omega
  have HE := Lib.hid (show E - F = a by omega)
  clear hs hq hF hE hfit hqb
  go_enter Try.func58, Try.ntmps58
  go_wp2
  go_ret
  rw [HE.out]
  exact ⟨rfl, Below.al2 _ _ _⟩

set_option maxHeartbeats 400000 in
theorem pixRows_made (wd ht : Int) (sv : Value) (r : Rc) (w : World) : Calls Try.prog 33 #[IV wd ht sv, RV r] w fun e w' =>
    e = .returned (.func (.func 57) #[] #[.pointer (some ⟨w.heap.size + 1, 0, none⟩), .pointer (some ⟨w.heap.size, 0, none⟩)]) ∧ w' = (w.alloc (.cells #[.int .i64 wd, .int .i64 ht, sv] 24)).alloc (.cells #[.int .i64 r.x, .int .i64 r.y, .int .i64 r.a, .int .i64 r.b] 38) := by
  have hmf : ∀ (fn : Fn) (first cap : Array Value) (w : World), (Instr.makeFunc fn first cap).run Try.prog w = .ok (.func fn first cap) w := fun _ _ _ _ => rfl
  go_enter Try.func33, Try.ntmps33
  go_wp2
  go_ret
  exact ⟨rfl, rfl⟩

/-- What the iterator over rows hands over: how far down, and the row's pixels. -/
def ElRow (b off wd x y a : Nat) (_ _ : World) (_ : Nat → Prop) (k : Nat) (vs : Array Value) : Prop :=
  vs = #[.int .i64 k, .slice (some ⟨b, off + ((y + k) * wd + x), none⟩) a a]

theorem lt_of_R' {w W : World} {R : Nat → Prop} {q : Nat} (h : R q → q < w.heap.size) (hs : ∀ b, R b → W.heap[b]? = w.heap[b]?) (hq : R q) : q < W.heap.size := lt_of_same (h hq) (hs q hq)

theorem range_split {hh k : Nat} (h : k < hh) : ∃ rest, List.range hh = List.range k ++ k :: rest := by
  refine ⟨(List.range (hh - (k + 1))).map (k + 1 + ·), ?_⟩
  conv => lhs; rw [show hh = (k + 1) + (hh - (k + 1)) by omega, List.range_add]
  rw [List.range_succ]; simp

set_option maxHeartbeats 1000000 in
theorem pixRows_iter (Br Bm : Nat) (wd ht x y a hh b off n cap : Nat) (w : World) (R : Nat → Prop)
    (hBr : w.heap[Br]? = some (.cells #[.int .i64 (x : Nat), .int .i64 (y : Nat), .int .i64 (a : Nat), .int .i64 (hh : Nat)] 38)) (hBm : w.heap[Bm]? = some (.cells #[.int .i64 (wd : Nat), .int .i64 (ht : Nat), .slice (some ⟨b, off, none⟩) n cap] 24))
    (hcap : cap ≤ 9223372036854775807) (ha : 0 < hh → 0 < a) (hfit : ∀ k, k < hh → (y + k) * wd + x + a ≤ cap) (hw : wd ≤ 1048576) (hyk : y + hh ≤ 1048576) (hRlt : ∀ q, R q → q < w.heap.size) (hR1 : R Br) (hR2 : R Bm) :
    Iter Try.prog 57 #[.pointer (some ⟨Br, 0, none⟩), .pointer (some ⟨Bm, 0, none⟩)] (ElRow b off wd x y a) R (List.range hh) w := by
  intro l J Jx W hsz hRW hJ0 hY
  refine callsIn_wide.2 ?_
  have HY := Lib.hid hY
  have HRW := Lib.hid hRW
  have Hfit := Lib.hid hfit
  have rb3 : W.cell? ⟨Br, 3, none⟩ = some (.int .i64 (hh : Nat)) := by
    simp [World.cell?, hRW Br hR1, hBr]
  clear hY hRW hfit
  go_enter Try.func57, Try.ntmps57
  go_wp2
  go_loopw [7] (fun i wr => ∃ (k : Nat) (Wp : World), i = .int .i64 k ∧ k ≤ hh ∧ Hid (J (List.range k) (fun _ => False) Wp) ∧ Turns (fun _ => False) Wp wr ∧ Hid (∀ b, R b → wr.heap[b]? = w.heap[b]?)) (fun i _ => hh - (intOf i).toNat)
  case atStart => exact ⟨0, W, rfl, by omega, Lib.hid hJ0, Turns.refl _ _, HRW⟩
  case round =>
    obtain ⟨k, Wp, rfl, hk, HJ, ht', HR⟩ := hrel
    by_cases hlt : k < hh
    · have e1 := (HR.out Br hR1).trans hBr
      have e2 := (HR.out Bm hR2).trans hBm
      have r0 : wr.cell? ⟨Br, 0, none⟩ = some (.int .i64 (x : Nat)) := by simp [World.cell?, e1]
      have r1 : wr.cell? ⟨Br, 1, none⟩ = some (.int .i64 (y : Nat)) := by simp [World.cell?, e1]
      have r2 : wr.cell? ⟨Br, 2, none⟩ = some (.int .i64 (a : Nat)) := by simp [World.cell?, e1]
      have r3 : wr.cell? ⟨Br, 3, none⟩ = some (.int .i64 (hh : Nat)) := by simp [World.cell?, e1]
      have m0 : wr.cell? ⟨Bm, 0, none⟩ = some (.int .i64 (wd : Nat)) := by simp [World.cell?, e2]
      have m1 : wr.cell? ⟨Bm, 1, none⟩ = some (.int .i64 (ht : Nat)) := by simp [World.cell?, e2]
      have m2 : wr.cell? ⟨Bm, 2, none⟩ = some (.slice (some ⟨b, off, none⟩) n cap) := by simp [World.cell?, e2]
      have HR' := HR
      clear e1 e2 rb3
      go_upto_region 3 with (fail)
      refine (wpIn_wide (n := 0)).1 ?_
      gi_wp2
      refine ⟨trivial, rfl, (callsIn_wide.2 (pixRow_any wd ht x y a hh k b off n cap _ hcap (ha (by omega)) (Hfit.out k hlt) hw (by omega))).mono ?_⟩
      rintro e w1 ⟨rfl, hb1⟩
      have ht1 : Turns (fun _ => False) Wp w1 := ht'.trans (Turns.of_below' hb1)
      have HR1 : ∀ q, R q → w1.heap[q]? = w.heap[q]? := fun q hq => (hb1.block q (lt_of_R' (hRlt q) HR.out hq)).trans (HR.out q hq)
      obtain ⟨rest, hrest⟩ := range_split hlt
      obtain ⟨fn, tmps, assign, body, hy, hRd⟩ := HY.out (List.range k) k rest (fun _ => False) (fun _ => False) Wp w1 #[.int .i64 k, .slice (some ⟨b, off + ((y + k) * wd + x), none⟩) a a]
        hrest HJ.out ht1 (fun _ h => h.elim) (fun _ h => h.elim) HR1 rfl
      have Hrest := Lib.hid hrest
      have HR1' := Lib.hid HR1
      clear hb1 ht1 HR1 hrest r0 r1 r2 r3 m0 m1 m2
      gi_wp2
      refine ⟨rfl, hRd.mono ?_⟩
      rintro e W3 (⟨rfl, hJ3, hsz3, hk3⟩ | ⟨rfl, hJx3, -, -⟩)
      · have HR3 := Lib.hid (show ∀ q, R q → W3.heap[q]? = w.heap[q]? from fun q hq => (hk3 q (Or.inl hq)).trans (HR1'.out q hq))
        have HJ3 := Lib.hid (show J (List.range (k + 1)) (fun _ => False) W3 by rw [List.range_succ]; exact hJ3)
        clear hJ3 hk3
        gi_wp2
        go_wp2
        go_roundw
        case rel => exact ⟨k + 1, W3, by go_num, by omega, HJ3, Turns.refl _ _, HR3⟩
        case measure => simp [intOf]; omega
      · have HP : List.range k ++ [k] <+: List.range hh := ⟨rest, by rw [Hrest.out]; simp⟩
        gi_wp2
        go_wp2
        refine bodyPost_ret (results_none rfl _ _ _) rfl ?_
        exact ⟨⟨_, rfl⟩, .inr ⟨_, _, _, HP, hJx3, Turns.refl _ _⟩⟩
    · obtain rfl : k = hh := by omega
      go_wp2
      go_end0
      exact ⟨⟨_, rfl⟩, .inl ⟨_, _, HJ.out, ht'⟩⟩

end Go.Proofs.Ytajoipmchgabfaa
