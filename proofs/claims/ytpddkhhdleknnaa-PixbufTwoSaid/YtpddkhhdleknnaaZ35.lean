/- pixbuf's Diff. -/
import Derived.Test.YtpddkhhdleknnaaZ20
import Derived.Test.YtpddkhhdleknnaaZ21
import Derived.Test.YtpddkhhdleknnaaZ23
import Derived.Test.YtpddkhhdleknnaaZ32
import Derived.Test.YtpddkhhdleknnaaZ34
import Derived.Handy
import Derived.Deep.QuietTactic
import Derived.BigQuiet
namespace Go.Proofs.Ytpddkhhdleknnaa
open Go.RowKit

attribute [local go_sem] Oper.semAt_some
attribute [local go_sem] mkOut

/-- Are two pictures unlike at a place? -/
def unl (L M : List Int) (i j : Nat) : Bool := decide (L[i]? ≠ M[j]?)

set_option maxHeartbeats 1000000 in
theorem diffMask_any (x B1 B2 g g' o o' a : Nat) (L M : List Int) (w : World) (h1 : w.cell? ⟨B1, 0, none⟩ = some (.slice (some ⟨g, o, none⟩) a a)) (h2 : w.cell? ⟨B2, 0, none⟩ = some (.slice (some ⟨g', o', none⟩) a a)) (hL : Pix w g L) (hM : Pix w g' M) (hx : x < a) (f1 : o + a ≤ L.length) (f2 : o' + a ≤ M.length) :
    Makes Try.prog 95 #[.int .i64 (x : Nat), .pointer (some ⟨B1, 0, none⟩), .pointer (some ⟨B2, 0, none⟩)] w (.bool (unl L M (o + x) (o' + x))) := by
  unfold Makes
  have c1 := hL.cell (i := o + x) (by omega)
  have c2 := hM.cell (i := o' + x) (by omega)
  have hu : unl L M (o + x) (o' + x) = (L[o + x]'(by omega) != M[o' + x]'(by omega)) := by
    unfold unl
    rw [List.getElem?_eq_getElem (by omega), List.getElem?_eq_getElem (by omega), Bool.eq_iff_iff]
    simp
  have Hu := Lib.hid hu
  have x0 : (0 : Int) ≤ (x : Int) := by omega
  have x1 : (x : Int) < (a : Int) := by omega
  clear hu hL hM
  generalize L[o + x]'(by omega) = u at *
  generalize M[o' + x]'(by omega) = v at *
  go_enter Try.func95, Try.ntmps95
  go_upto_region 1 with (fail)
  go_quiet (fail)
  go_wp2
  go_ret
  exact ⟨ret_bool (by rw [Hu.out]), Below.drewN' (Below.refl _ _) _⟩

/-- The rectangles of all rows, one behind the other. -/
def diffL (wd : Nat) (L M : List Int) (n : Nat) : List Rc := (List.range n).flatMap fun y => stkL y (fun x => unl L M (y * wd + x) (y * wd + x)) wd
theorem diffL_succ (wd : Nat) (L M : List Int) (n : Nat) : diffL wd L M (n + 1) = diffL wd L M n ++ stkL n (fun x => unl L M (n * wd + x) (n * wd + x)) wd := by
  simp [diffL, List.range_succ]
theorem diffL_ok (wd : Nat) (L M : List Int) (hwd : wd ≤ 256) : ∀ n, n ≤ 256 → (diffL wd L M n).length ≤ n * (wd + 1) ∧ (∀ r ∈ diffL wd L M n, 0 ≤ r.x ∧ 1 ≤ r.a ∧ r.x + r.a ≤ wd ∧ 0 ≤ r.y ∧ r.b = 1 ∧ r.y + 1 ≤ n) ∧ (∀ X Y : Nat, pix (diffL wd L M n) X Y = true ↔ (Y < n ∧ X < wd ∧ unl L M (Y * wd + X) (Y * wd + X) = true))
  | 0, _ => by
    refine ⟨by simp [diffL], fun r hr => (by cases hr), fun X Y => ?_⟩
    simp [diffL, pix]
  | n + 1, hn => by
    obtain ⟨h1, h2, h3⟩ := diffL_ok wd L M hwd n (by omega)
    obtain ⟨g1, g2, g3⟩ := stkL_ok n (fun x => unl L M (n * wd + x) (n * wd + x)) wd (by omega) (by omega)
    rw [diffL_succ]
    refine ⟨by rw [List.length_append, Nat.add_mul, Nat.one_mul]; omega, fun r hr => ?_, fun X Y => ?_⟩
    · rcases List.mem_append.1 hr with hr | hr
      · have := h2 r hr
        refine ⟨this.1, this.2.1, this.2.2.1, this.2.2.2.1, this.2.2.2.2.1, by omega⟩
      · have := g2 r hr
        unfold Stk at this
        refine ⟨this.1, this.2.1, this.2.2.1, by omega, this.2.2.2.2, by omega⟩
    · rw [pix_append, Bool.or_eq_true, h3]
      unfold pix
      rw [g3]
      constructor
      · rintro (⟨a, b, c⟩ | ⟨rfl, b, c⟩)
        · exact ⟨by omega, b, c⟩
        · exact ⟨by omega, b, c⟩
      · rintro ⟨a, b, c⟩
        rcases Nat.lt_or_ge Y n with h | h
        · exact .inl ⟨h, b, c⟩
        · obtain rfl : Y = n := by omega
          exact .inr ⟨rfl, b, c⟩

theorem one_set {W : World} {B : Nat} {t : TypeId} {a : Value} (c : Value) (h : W.heap[B]? = some (.cells #[a] t)) : (W.setCell ⟨B, 0, none⟩ c).heap[B]? = some (.cells #[c] t) := by
  obtain ⟨hlt, hk⟩ := Array.getElem?_eq_some_iff.1 h
  show (W.heap.modify B _)[B]? = _
  rw [Array.getElem?_eq_getElem (by rw [Array.size_modify]; exact hlt), Array.getElem_modify_self, hk]
  rfl

/-- Between two rounds of Diff's loop. -/
structure DiffInv (W0 : World) (bU : Nat) (f : Nat → List Rc) (pre : List Nat) (T : Nat → Prop) (W : World) : Prop where
  bl : ∃ v, W.heap[bU]? = some (.cells #[v] 22) ∧ W.ownsRow (W0.heap.size + 2) 30 4 v (f pre.length).length (flatR (f pre.length)) ∧ ∀ k, v.ownBlock = some k → ¬ T k
  tr : Turns (fun b => b = bU) W0 W
theorem DiffInv.turns {W0 W W2 : World} {bU : Nat} {f : Nat → List Rc} {pre : List Nat} {Tp T : Nat → Prop} (h : DiffInv W0 bU f pre Tp W) (hU : bU < W0.heap.size) (ht : Turns (fun b => Tp b ∨ b = W0.heap.size + 1 ∨ b = W0.heap.size) W W2) (hTp : ∀ b, Tp b → W0.heap.size + 1 < b) (hT : ∀ b, b < W.heap.size → T b → Tp b) : DiffInv W0 bU f pre T W2 := by
  obtain ⟨v, h1, h2, h3⟩ := h.bl
  have no : ∀ b, b < W0.heap.size → ¬ (Tp b ∨ b = W0.heap.size + 1 ∨ b = W0.heap.size) := fun b hb h => by
    rcases h with h | h
    · have := hTp _ h; omega
    · omega
  refine ⟨⟨v, (ht.block bU (Nat.lt_of_lt_of_le hU h.tr.size) (no bU hU)).trans h1, ht.owns h2 (fun k hk hh => ?_), fun k hk hh => h3 k hk (hT k (h2.lt k hk).2 hh)⟩, h.tr.trans' ht (fun i hi h => absurd h (no i hi))⟩
  have := (h2.lt k hk).1
  rcases hh with hh | hh
  · exact h3 k hk hh
  · omega

set_option maxRecDepth 100000 in
set_option maxHeartbeats 4000000 in
theorem diff_any (B wd ht g B' g' : Nat) (L M : List Int) (w : World) (h : BufAt w B wd ht g L) (h' : BufAt w B' wd ht g' M) :
    Calls Try.prog 48 #[.pointer (some ⟨B, 0, none⟩), .pointer (some ⟨B', 0, none⟩)] w fun e w' => ∃ u, e = .returned (.tuple #[u, .int .i64 0]) ∧
      w'.ownsRow w.heap.size 30 4 u (formL (fun p _ => p) (diffL wd L M ht) []).length (flatR (formL (fun p _ => p) (diffL wd L M ht) [])) ∧ Below w.heap.size w w' := by
  have hfit := h.fit (px := 0) (py := 0) (aw := wd) (ah := ht) (by omega) (by omega)
  have hfit' := h'.fit (px := 0) (py := 0) (aw := wd) (ah := ht) (by omega) (by omega)
  have hlen := h.len
  have hlen' := h'.len
  have hwd := h.wd1
  have hht := h.ht1
  have hBl := h.lt
  have hBl' := h'.lt
  have hgl := h.pix.lt
  have hgl' := h'.pix.lt
  have hz : eqR ⟨0, 0, (wd : Int), (ht : Int)⟩ ⟨0, 0, (wd : Int), (ht : Int)⟩ = true := by simp [eqR]
  have hal := Below.al1 w (.cells #[.pointer (some ⟨B', 0, none⟩)] 42)
  have bx : (w.alloc (.cells #[.pointer (some ⟨B', 0, none⟩)] 42)).heap[w.heap.size]? = some (.cells #[.pointer (some ⟨B', 0, none⟩)] 42) := World.alloc_heap_new _ _
  have H0 := Lib.hid (h.later hal)
  have H0' := Lib.hid (h'.later hal)
  have Hz := Lib.hid hz
  have Hfit := Lib.hid hfit
  have Hfit' := Lib.hid hfit'
  clear h h' hz hfit hfit'
  refine (callsIn_wide (n := 0)).1 ?_
  refine callsIn_of_wp_marks Try.func48 rfl trivial ?_ rfl
  simp only [Try.ntmps48, List.size_toArray, List.length_cons, List.length_nil, Nat.reduceAdd, Nat.reduceSub, Array.replicate_succ, Array.replicate_zero, List.push_toArray, List.append_toArray, List.nil_append, List.cons_append]
  refine wpIn_wide.2 ?_
  go_upto_region 3 with (fail)
  generalize (w.alloc (.cells #[.pointer (some ⟨B', 0, none⟩)] 42)) = W at *
  have cx : W.cell? ⟨w.heap.size, 0, none⟩ = some (.pointer (some ⟨B', 0, none⟩)) := by simp [World.cell?, bx]
  have Hal := Lib.hid hal
  have Hbx := Lib.hid bx
  clear hal bx
  go_wp2_with fail
  refine Calls.mono (sized_eq B wd ht g B' wd ht g' L M W H0.out H0'.out Hz.out) ?_
  rintro e w1 ⟨rfl, hb1⟩
  have H1 := H0.out.later hb1
  have H1' := H0'.out.later hb1
  have bx1 := (hb1.block _ (Array.getElem?_eq_some_iff.1 Hbx.out).1).trans Hbx.out
  obtain ⟨k0, k1, k2⟩ := H1.three
  have Hb1 := Lib.hid (Hal.out.trans (hb1.mono Hal.out.size))
  clear cx hb1 H0 H0' Hal
  go_wp2_with fail
  refine Calls.mono (whole_any wd ht (.slice (some ⟨g, 0, none⟩) L.length L.length) w1) ?_
  rintro e w2 ⟨rfl, hb2⟩
  have hw2 : w.heap.size < w2.heap.size := Nat.lt_of_lt_of_le (Array.getElem?_eq_some_iff.1 bx1).1 hb2.size
  have hgB := heap_pushed [.cells #[.int .i64 0, .int .i64 0, .int .i64 (wd : Int), .int .i64 (ht : Int)] 30, .cells #[.slice none 0 0] 22] w2
  simp only [List.foldl_cons, List.foldl_nil] at hgB
  have hal2 := Below.al2 w2 (.cells #[.int .i64 0, .int .i64 0, .int .i64 (wd : Int), .int .i64 (ht : Int)] 30) (.cells #[.slice none 0 0] 22)
  have hs3 : ((w2.alloc (.cells #[.int .i64 0, .int .i64 0, .int .i64 (wd : Int), .int .i64 (ht : Int)] 30)).alloc (.cells #[.slice none 0 0] 22)).heap.size = w2.heap.size + 2 := by simp
  clear k0 k1 k2
  go_upto_region 7 with (fail)
  generalize ((w2.alloc (.cells #[.int .i64 0, .int .i64 0, .int .i64 (wd : Int), .int .i64 (ht : Int)] 30)).alloc (.cells #[.slice none 0 0] 22)) = W3 at *
  have br : W3.heap[w2.heap.size]? = some (.cells #[.int .i64 0, .int .i64 0, .int .i64 (wd : Int), .int .i64 (ht : Int)] 30) := (hgB 0 _).2 rfl
  have bu : W3.heap[w2.heap.size + 1]? = some (.cells #[.slice none 0 0] 22) := (hgB 1 _).2 rfl
  have hb13 := Below.thn hb2 hal2
  have H3 := H1.later hb13
  have H3' := H1'.later hb13
  have bx3 := (hb13.block _ (Array.getElem?_eq_some_iff.1 bx1).1).trans bx1
  have Hb3 := Lib.hid (Hb1.out.trans (hb13.mono Hb1.out.size))
  have l3 : Lies W3 w2.heap.size ⟨0, 0, (wd : Int), (ht : Int)⟩ := by refine ⟨?_, ?_, ?_, ?_⟩ <;> simp [World.cell?, br]
  clear hgB H1 H1' bx1 hb13 hal2 hb2 Hb1 Hbx
  obtain ⟨r0, r1, r2, r3⟩ := l3.rules
  have hq := After.ne W3
  have k0 := After.rule H3.three.1
  have k1 := After.rule H3.three.2.1
  have k2 := After.rule H3.three.2.2
  have H3h := Lib.hid H3
  have H3h' := Lib.hid H3'
  clear l3 H3 H3'
  refine wp_region_head 5 (by kernel_rfl) (by kernel_rfl) (by kernel_rfl) ?_
  repeat (refine Lq_step (fun K hK => ?_); go_simp; (refine hK _ ?_; clear hK K))
  refine Lq_nil ?_
  intro w4 hb4
  clear r0 r1 r2 r3 hq k0 k1 k2
  have h4 := H3h.out.later hb4
  have h4' := H3h'.out.later hb4
  have br4 := (hb4.block _ (Array.getElem?_eq_some_iff.1 br).1).trans br
  have bu4 := (hb4.block _ (Array.getElem?_eq_some_iff.1 bu).1).trans bu
  have bx4 := (hb4.block _ (Array.getElem?_eq_some_iff.1 bx3).1).trans bx3
  have Hb4 := Lib.hid (Hb3.out.trans (hb4.mono Hb3.out.size))
  have hlw := (Array.getElem?_eq_some_iff.1 bx3).1
  have hs4 := hb4.size
  clear br bu bx3 hb4 H3h H3h' Hb3
  go_wp2_with fail
  refine Calls.mono (pixRows_made wd ht (.slice (some ⟨g, 0, none⟩) L.length L.length) ⟨0, 0, (wd : Int), (ht : Int)⟩ _) ?_
  rintro e w' ⟨rfl, rfl⟩
  go_wp2_with fail
  have hg := heap_pushed [.cells #[.int .i64 (wd : Int), .int .i64 (ht : Int), .slice (some ⟨g, 0, none⟩) L.length L.length] 39, .cells #[.int .i64 0, .int .i64 0, .int .i64 (wd : Int), .int .i64 (ht : Int)] 30] w4
  simp only [List.foldl_cons, List.foldl_nil] at hg
  have hB0 := Below.al2 w4 (.cells #[.int .i64 (wd : Int), .int .i64 (ht : Int), .slice (some ⟨g, 0, none⟩) L.length L.length] 39) (.cells #[.int .i64 0, .int .i64 0, .int .i64 (wd : Int), .int .i64 (ht : Int)] 30)
  have hsz : ((w4.alloc (.cells #[.int .i64 (wd : Int), .int .i64 (ht : Int), .slice (some ⟨g, 0, none⟩) L.length L.length] 39)).alloc (.cells #[.int .i64 0, .int .i64 0, .int .i64 (wd : Int), .int .i64 (ht : Int)] 30)).heap.size = w4.heap.size + 2 := by simp
  generalize ((w4.alloc (.cells #[.int .i64 (wd : Int), .int .i64 (ht : Int), .slice (some ⟨g, 0, none⟩) L.length L.length] 39)).alloc (.cells #[.int .i64 0, .int .i64 0, .int .i64 (wd : Int), .int .i64 (ht : Int)] 30)) = W0 at *
  have bi : W0.heap[w4.heap.size]? = some (.cells #[.int .i64 (wd : Int), .int .i64 (ht : Int), .slice (some ⟨g, 0, none⟩) L.length L.length] 39) := (hg 0 _).2 rfl
  have brr : W0.heap[w4.heap.size + 1]? = some (.cells #[.int .i64 ((0 : Nat) : Int), .int .i64 ((0 : Nat) : Int), .int .i64 (wd : Int), .int .i64 (ht : Int)] 30) := (hg 1 _).2 rfl
  clear hg
  have h00 := h4.later hB0
  have h00' := h4'.later hB0
  have bx0 := (hB0.block _ (Array.getElem?_eq_some_iff.1 bx4).1).trans bx4
  have br0 := (hB0.block _ (Array.getElem?_eq_some_iff.1 br4).1).trans br4
  have bu0 := (hB0.block _ (Array.getElem?_eq_some_iff.1 bu4).1).trans bu4
  have hseq := pixRows_iter (w4.heap.size + 1) w4.heap.size wd ht 0 0 wd ht g 0 L.length L.length W0 (fun b => b = w4.heap.size ∨ b = w4.heap.size + 1) brr bi (by omega) (fun _ => hwd.1) (fun k hk => Hfit.out k hk) (by omega) (by omega) (fun q hq => by omega) (.inr rfl) (.inl rfl)
  have hU : w2.heap.size + 1 < W0.heap.size := (Array.getElem?_eq_some_iff.1 bu0).1
  have hU4 : w2.heap.size + 1 < w4.heap.size := (Array.getElem?_eq_some_iff.1 bu4).1
  have Hbx0 := Lib.hid bx0
  have Hbr0 := Lib.hid br0
  have H00 := Lib.hid h00
  have H00' := Lib.hid h00'
  have HB0 := Lib.hid (Hb4.out.trans (hB0.mono Hb4.out.size))
  clear bx0 br0 h00 h00' h4 h4' br4 bu4 bx4 hB0 hs4 hs3
  refine (wpIn_wide (n := 0)).1 ?_
  refine wpIn_rangeFunc_boxed (gf := 115) (El := ElRow g 0 wd 0 0 wd) (xs := List.range ht) (w0 := W0) ?hg ?eg hseq ?hs0 ?hRr ?hps
    (DiffInv W0 (w2.heap.size + 1) (diffL wd L M)) (fun _ _ _ _ => False) ?start (fun vs n => { tmps := #[.pointer (some ⟨B, 0, none⟩), .pointer (some ⟨B', 0, none⟩), undef, .pointer (some ⟨w.heap.size, 0, none⟩), .slice none 0 0, .int .i64 0, .pointer (some ⟨w2.heap.size, 0, none⟩), .pointer (some ⟨w2.heap.size + 1, 0, none⟩), vs.getD 0 undef, .pointer (some ⟨n, 0, none⟩), undef, .pointer (some ⟨B, 0, none⟩), .bool false, .bool false, .pointer (some ⟨B', 0, none⟩), .bool false, .bool false, .pointer (some ⟨B, 0, none⟩), .pointer (some ⟨B', 0, none⟩), .bool true, .bool false, .pointer (some ⟨B, 0, none⟩), .pointer (some ⟨B, 0, none⟩), .pointer (some ⟨B, 0, none⟩), IV wd ht (.slice (some ⟨g, 0, none⟩) L.length L.length), RV ⟨0, 0, wd, ht⟩, .pointer (some ⟨B, 0, none⟩), .pointer (some ⟨B, 0, none⟩), .pointer (some ⟨B, 0, none⟩), IV wd ht (.slice (some ⟨g, 0, none⟩) L.length L.length), RV ⟨0, 0, wd, ht⟩, .func (.func 115) #[] #[.pointer (some ⟨w4.heap.size + 1, 0, none⟩), .pointer (some ⟨w4.heap.size, 0, none⟩)], vs.getD 0 undef, vs.getD 1 undef, undef, undef, undef, undef, undef, undef, undef, undef, undef, undef, undef, undef, undef, undef, undef, undef], defers := [] }) (fun vs => .cells #[vs.getD 1 undef] 37) (fun vs => ∃ k o, vs = #[.int .i64 k, .slice (some ⟨g, o, none⟩) wd wd]) ?vok ?assign ?body ?done ?stop
  case hg => rfl
  case eg => exact enters_of Try.func115 (by kernel_rfl) rfl
  case hs0 => exact Nat.le_refl _
  case hRr => exact fun q hq => ⟨by omega, rfl⟩
  case hps =>
    intro _ _ _ _ vs h
    unfold ElRow at h
    rw [h]; rfl
  case start => exact ⟨⟨_, bu0, World.ownsRow_nil _ _ _ _, fun k hk => (by cases hk)⟩, Turns.refl _ _⟩
  case vok =>
    intro _ _ _ _ vs h
    unfold ElRow at h
    exact ⟨_, _, h⟩
  case assign =>
    rintro l vs W K hvs ⟨k, o, rfl⟩ hK
    gi_wp2
    first
      | exact hK
      | simpa using hK
      | simpa [Array.zip, Array.zipWith] using hK
  case stop => exact fun _ _ _ _ _ _ h => h.elim
  case body =>
    intro pre k rest Tp T Wq Wp W1 W2 vs hxs hI htqp hsq ht2 hTp hT hT2 hR2 hel h12 hs12 hbox hLt hL1 hD2 hL2
    obtain ⟨hpl, hka⟩ := range_pre hxs
    have hI2 : DiffInv W0 (w2.heap.size + 1) (diffL wd L M) pre T W2 := hI.turns hU ht2 (fun b hb => (hTp b hb).1) (fun b hb hh => by
      rcases hT b hh with h | h
      · exact h
      · omega)
    obtain ⟨⟨v, hbv, hown, hvT⟩, ht02⟩ := hI2
    rw [hpl] at hown
    have hf1 := Hfit.out k hka
    have hf2 := Hfit'.out k hka
    have Hsucc := Lib.hid (diffL_succ wd L M k)
    obtain ⟨hl1, -, -⟩ := diffL_ok wd L M hwd.2 k (by omega)
    have hl2 : (diffL wd L M k).length ≤ 66049 := by
      have : k * (wd + 1) ≤ 256 * 257 := Nat.mul_le_mul (by omega) (by omega)
      omega
    obtain ⟨o, ho⟩ : ∃ o, k * wd = o := ⟨_, rfl⟩
    have ho' : (0 + k) * wd + 0 = o := by rw [Nat.zero_add, Nat.add_zero, ho]
    obtain ⟨Lk, hLk⟩ : ∃ Lk, diffL wd L M k = Lk := ⟨_, rfl⟩
    rw [hLk] at hown hl2
    rw [hLk, ho] at Hsucc
    rw [ho'] at hf1 hf2
    have hvs : vs = #[.int .i64 k, .slice (some ⟨g, o, none⟩) wd wd] := by
      unfold ElRow at hel
      rw [hel, Nat.zero_add, ho']
    subst hvs
    have e0 : (#[.int .i64 (k : Int), .slice (some ⟨g, o, none⟩) wd wd] : Array Value).getD 0 undef = .int .i64 (k : Int) := rfl
    have e1 : (#[.int .i64 (k : Int), .slice (some ⟨g, o, none⟩) wd wd] : Array Value).getD 1 undef = .slice (some ⟨g, o, none⟩) wd wd := rfl
    rw [e1] at hbox
    rw [e0, e1]
    have keep : ∀ b, b < W0.heap.size → b ≠ w2.heap.size + 1 → W2.heap[b]? = W0.heap[b]? := fun b hb hn => ht02.block b hb hn
    have hBf2 : BufAt W2 B wd ht g L := H00.out.same (keep B (by omega) (by omega)) (keep g (by omega) (by omega))
    have hBf2' : BufAt W2 B' wd ht g' M := H00'.out.same (keep B' (by omega) (by omega)) (keep g' (by omega) (by omega))
    have hbx2 := (keep w.heap.size (by omega) (by omega)).trans Hbx0.out
    have hbr2 := (keep w2.heap.size (by omega) (by omega)).trans Hbr0.out
    have hs02 := ht02.size
    have hn1 : W0.heap.size + 1 < W1.heap.size := by omega
    have hownlt := fun q hq => (hown.lt q hq)
    have HvT := Lib.hid hvT
    have Ht02 := Lib.hid ht02
    have Hown := Lib.hid hown
    have Hpl := Lib.hid hpl
    have HT2 := Lib.hid hT2
    have Hbv := Lib.hid hbv
    have HhL := Lib.hid hLk
    have Hf1 := Lib.hid hf1
    have Hf2 := Lib.hid hf2
    obtain ⟨n9, hn9⟩ : ∃ n9, W1.heap.size = n9 := ⟨_, rfl⟩
    rw [hn9] at hbox hs12 hn1 ⊢
    have hn2 : n9 < W2.heap.size := by omega
    have Hbox := Lib.hid hbox
    have Hbr2 := Lib.hid hbr2
    have l2 : Lies W2 w2.heap.size ⟨0, 0, (wd : Int), (ht : Int)⟩ := by refine ⟨?_, ?_, ?_, ?_⟩ <;> simp [World.cell?, hbr2]
    have cx : W2.cell? ⟨w.heap.size, 0, none⟩ = some (.pointer (some ⟨B', 0, none⟩)) := by simp [World.cell?, hbx2]
    have hrow : ∀ Wn : World, Makes Try.prog 93 #[IV wd ht (.slice (some ⟨g', 0, none⟩) M.length M.length), RV ⟨0, 0, (wd : Int), (ht : Int)⟩, .int .i64 (k : Int)] Wn (.slice (some ⟨g', o, none⟩) wd wd) := fun Wn => by
      have := pixRow_any wd ht 0 0 wd ht k g' 0 M.length M.length Wn (by omega) hwd.1 (by rw [ho']; omega) (by omega) (by omega)
      rw [ho', Nat.zero_add] at this
      exact this
    obtain ⟨r0, r1, r2, r3⟩ := l2.rules
    have hq := After.ne W2
    have k0 := After.rule hBf2'.three.1
    have k1 := After.rule hBf2'.three.2.1
    have k2 := After.rule hBf2'.three.2.2
    have cx' := After.rule cx
    have HBf2 := Lib.hid hBf2
    have HBf2' := Lib.hid hBf2'
    have hU2 : w2.heap.size + 1 < W2.heap.size := by omega
    have HR9 := Lib.hid (show ∀ q, (q = w4.heap.size ∨ q = w4.heap.size + 1) ∨ T q ∨ q = W0.heap.size + 1 ∨ q = W0.heap.size → q < W2.heap.size ∧ q ≠ w2.heap.size + 1 ∧ v.ownBlock ≠ some q from fun q hq => by
      refine ⟨?_, ?_, fun e => ?_⟩
      · rcases hq with hq | hq | hq
        · omega
        · exact (HT2.out q hq).2
        · omega
      · rcases hq with hq | hq | hq
        · omega
        · have := (HT2.out q hq).1; omega
        · omega
      · have h9 := (hownlt q e).1
        rcases hq with hq | hq | hq
        · omega
        · exact HvT.out q e hq
        · omega)
    clear hbv hown hvT ht02 hpl hT2 hLk hbox hbr2 hbx2 hBf2 hBf2' keep e0 e1 hel hI htqp ht2 hTp hT hR2 h12 hL1 hD2 hL2 hseq bi brr bu0 hxs hf1 hf2 l2 cx hl1 ho ho' Hz hownlt
    gi_wp2
    refine wpIn_region_box1 7 _ (.cells #[.slice none 0 0] 37) _ (by kernel_rfl) (by kernel_rfl) (by kernel_rfl) (by kernel_rfl) rfl rfl (by intro a w; go_simp) ?_
    repeat (refine Lq_step (fun K hK => ?_); go_simp; first | (refine hK _ ?_; clear hK K) | (apply Exists.intro; refine ⟨fun n => ?_, hK _ ?_⟩; (go_at_call 93; exact hrow _); clear hK K))
    refine Lq_nil ?_
    intro B10 W10 hB10 hb10 hz10
    clear r0 r1 r2 r3 hq k0 k1 k2 cx' hrow
    have y0 : W10.frozen? ⟨B10, 0, none⟩ = false := by simp [World.frozen?, hz10]
    have y1 : W10.cell? ⟨B10, 0, none⟩ = some (.slice none 0 0) := by simp [World.cell?, hz10]
    have hz11 := one_set (.slice (some ⟨g', o, none⟩) wd wd) hz10
    have hb11 : Below W2.heap.size W2 (W10.setCell ⟨B10, 0, none⟩ (.slice (some ⟨g', o, none⟩) wd wd)) := hb10.setCell hB10 _
    clear hb10 hz10
    obtain ⟨W11, hW11⟩ : ∃ W11, W10.setCell ⟨B10, 0, none⟩ (.slice (some ⟨g', o, none⟩) wd wd) = W11 := ⟨_, rfl⟩
    rw [hW11] at hz11 hb11
    have hbv11 := (hb11.block _ hU2).trans Hbv.out
    have hbox11 := (hb11.block _ hn2).trans Hbox.out
    have hbr11 := (hb11.block _ (by omega)).trans Hbr2.out
    have c7 : W11.cell? ⟨w2.heap.size + 1, 0, none⟩ = some v := by simp [World.cell?, hbv11]
    have c6 : W11.cell? ⟨w2.heap.size, 2, none⟩ = some (.int .i64 (wd : Int)) := by simp [World.cell?, hbr11]
    have cb9 : W11.cell? ⟨n9, 0, none⟩ = some (.slice (some ⟨g, o, none⟩) wd wd) := by simp [World.cell?, hbox11]
    have cb10 : W11.cell? ⟨B10, 0, none⟩ = some (.slice (some ⟨g', o, none⟩) wd wd) := by simp [World.cell?, hz11]
    have Hstk := Lib.hid (fun (Wn : World) (hn : Below W11.heap.size W11 Wn) => streaks_any 95 (.pointer (some ⟨n9, 0, none⟩)) (.pointer (some ⟨B10, 0, none⟩)) (fun x => unl L M (o + x) (o + x)) k wd Wn (by omega) (by omega) (enters_of Try.func95 (by kernel_rfl) rfl)
      (fun x hx wn hbn => diffMask_any x n9 B10 g g' o o wd L M wn (cell_later (Below.thn hn hbn) cb9) (cell_later (Below.thn hn hbn) cb10) ((HBf2.out.later hb11).later (Below.thn hn hbn)).pix ((HBf2'.out.later hb11).later (Below.thn hn hbn)).pix hx Hf1.out Hf2.out))
    have Hb11 := Lib.hid hb11
    have Hbv11 := Lib.hid hbv11
    have hmf : ∀ (fn : Fn) (first cap : Array Value) (w : World), (Instr.makeFunc fn first cap).run Try.prog w = .ok (.func fn first cap) w := fun _ _ _ _ => rfl
    clear hb11 hbox11 hbr11 cb9 cb10 hz11 Hbox Hbr2 HBf2 HBf2' Hf1 Hf2 hbv11
    gi_wp2
    clear y0 y1 hW11
    have c7' := After.rule c7
    have c6' := After.rule c6
    have hq := After.ne W11
    obtain ⟨SL, hSL⟩ : ∃ SL, stkL k (fun x => unl L M (o + x) (o + x)) wd = SL := ⟨_, rfl⟩
    have hSl : SL.length ≤ wd + 1 := by rw [← hSL]; exact (stkL_ok k _ wd (by omega) (by omega)).1
    rw [hSL] at Hstk Hsucc
    clear hSL
    refine wpIn_region_maker 5 _ (fun u Wu => Wu.ownsRow (W0.heap.size + 2) 30 4 u SL.length (flatR SL)) _ (by kernel_rfl) (by kernel_rfl) (by kernel_rfl) (by kernel_rfl) rfl rfl ?_
    repeat (refine Lq_step (fun K hK => ?_); go_simp; (refine hK _ ?_; clear hK K))
    refine Lq_nil ⟨fun m => ?_, ?_⟩
    · go_simp
      refine (Hstk.out m.world m.below).mono ?_
      rintro e Wu ⟨u, rfl, hu, hbu⟩
      exact ⟨u, rfl, hbu, owns_mono hu (by have := m.below.size; have := Hb11.out.size; omega)⟩
    · intro u W12 W13 hb12 hu hb13
      clear c7' c6' hq
      have hbu := hb12.trans (hb13.mono hb12.size)
      have hu13 := (Turns.of_below' (T := fun _ => False) hb13).owns hu (fun _ _ h => h)
      have hb213 := Hb11.out.trans (hbu.mono Hb11.out.size)
      have hown13 := (Turns.of_below' (T := fun _ => False) hb213).owns Hown.out (fun _ _ h => h)
      have hbv13 := (hb213.block _ hU2).trans Hbv.out
      obtain ⟨pu, cu, rfl, -, -, hsrc⟩ := RwG.src (enc := encR) (k := 4) (fun _ => rfl) (by decide) (RwG.owned (enc := encR) (k := 4) (fun _ => rfl) hu13)
      have Hsrc := Lib.hid hsrc
      have Hown13 := Lib.hid hown13
      have Hbv13 := Lib.hid hbv13
      have Hb213 := Lib.hid hb213
      have hs213 := hb213.size
      clear hb12 hu hb13 hbu hu13 hb213 hown13 hbv13 hsrc
      obtain ⟨i0, hi0, hz0, hz1, hz2⟩ := info_parts rc_info
      simp only [List.drop_succ_cons, List.drop_zero]
      refine (wpListIn_append_mine _ rfl (.tmp 41) (.tmp 46) 22 rfl (W0.heap.size + 2) 30 i0 _ 4 32 Try.underlying22 hi0 hz0 hz1 hz2 rfl (by decide) v Lk.length (flatR Lk) rfl Hown13.out pu SL.length cu (flatR SL) rfl (flatR_len SL) Hsrc.out (flatR_ones SL) ?da1 ?da2 ?da3 ?_)
      case da1 => simp only [maxLen]; omega
      case da2 => omega
      case da3 => omega
      intro v14 W14 own14 gr14 pl14
      obtain ⟨p14, c14, rfl⟩ := owns_slice own14
      have hs14 := (Turns.of_grown (T := fun b => v.ownBlock = some b) gr14 (fun i h => h)).size
      have ht1314 : Turns (fun b => v.ownBlock = some b) W13 W14 := Turns.of_grown gr14 (fun i h => h)
      have hbv14 : W14.heap[w2.heap.size + 1]? = some (.cells #[v] 22) := (ht1314.block _ (by omega) (fun e => by have := (Hown13.out.lt _ e).1; omega)).trans Hbv13.out
      have z0 : W14.frozen? ⟨w2.heap.size + 1, 0, none⟩ = false := by simp [World.frozen?, hbv14]
      have z1 : W14.cell? ⟨w2.heap.size + 1, 0, none⟩ = some v := by simp [World.cell?, hbv14]
      have Hfin := Lib.hid (show DiffInv W0 (w2.heap.size + 1) (diffL wd L M) (pre ++ [k]) T (W14.setCell ⟨w2.heap.size + 1, 0, none⟩ (.slice p14 (Lk.length + SL.length) c14)) ∧ Turns (fun b => b = w2.heap.size + 1 ∨ v.ownBlock = some b) W2 (W14.setCell ⟨w2.heap.size + 1, 0, none⟩ (.slice p14 (Lk.length + SL.length) c14)) from by
        have hT214 : Turns (fun b => b = w2.heap.size + 1 ∨ v.ownBlock = some b) W2 (W14.setCell ⟨w2.heap.size + 1, 0, none⟩ (.slice p14 (Lk.length + SL.length) c14)) :=
          (((Turns.of_below' (T := fun b => b = w2.heap.size + 1 ∨ v.ownBlock = some b) Hb213.out).trans (ht1314.mono (fun i _ h => .inr h))).trans ((Turns.set1 (w2.heap.size + 1) W14 _).mono (fun i _ h => .inl h)))
        refine ⟨⟨⟨.slice p14 (Lk.length + SL.length) c14, one_set _ hbv14, ?_, fun q hq hT => ?_⟩, Ht02.out.trans' hT214 (fun i hi h => ?_)⟩, hT214⟩
        · have hlen9 : (diffL wd L M (pre ++ [k]).length) = Lk ++ SL := by rw [List.length_append, Hpl.out]; exact Hsucc.out
          rw [hlen9]
          refine (Turns.set1 (w2.heap.size + 1) W14 _).owns (T := fun b => b = w2.heap.size + 1) ?_ (fun q hq e => ?_)
          · have e9 : flatR (Lk ++ SL) = flatR Lk ++ flatR SL := by simp [flatR]
            rw [List.length_append, e9]
            exact own14
          · have := (own14.lt q hq).1
            omega
        · rcases pl14 q hq with h | h
          · exact HvT.out q h hT
          · have := (HT2.out q hT).2; omega
        · rcases h with h | h
          · exact h
          · have := (Hown.out.lt i h).1; omega)
      clear hbv14 ht1314 gr14 own14 pl14 Hown13 Hbv13 Hsrc Hstk
      gi_wp2
      refine ⟨Hfin.out.1, Hfin.out.2.size, fun b hb => ?_⟩
      obtain ⟨g1, g2, g3⟩ := HR9.out b hb
      exact Hfin.out.2.block b g1 (fun h => h.elim g2 g3)
  case done =>
    intro Tp Wq W hI htt hTp hlt hD
    have hI2 := hI.turns (T := Tp) hU htt (fun b hb => hTp b hb) (fun _ _ h => h)
    obtain ⟨⟨v, hbv, hown, hvT⟩, ht02⟩ := hI2
    rw [List.length_range] at hown
    have c7 : W.cell? ⟨w2.heap.size + 1, 0, none⟩ = some v := by simp [World.cell?, hbv]
    have hrow : Row encR 4 W v (diffL wd L M ht) := owns_row' (enc := encR) (k := 4) (fun _ => rfl) hown
    obtain ⟨hl1, hl2, -⟩ := diffL_ok wd L M hwd.2 ht (by omega)
    have hl3 : (diffL wd L M ht).length ≤ 67108864 := by
      have : ht * (wd + 1) ≤ 256 * 257 := Nat.mul_le_mul (by omega) (by omega)
      omega
    have Hof := Lib.hid (regOf_any v (diffL wd L M ht) W hrow (fun r hr => ⟨by have := hl2 r hr; omega, by have := hl2 r hr; omega⟩) hl3 (form_len _ rfl _ _))
    have HD := Lib.hid hD
    have Ht9 := Lib.hid (show Below w.heap.size w W from HB0.out.trans (ht02.below (B := w.heap.size) HB0.out.size (fun i h => by omega)))
    clear hI htt hD hown hvT ht02 hbv hrow hl1 hl2 hl3 hseq bi brr bu0 hTp hsz
    dsimp only
    go_wp2_with fail
    refine Calls.mono Hof.out ?_
    rintro e W5 ⟨u, rfl, hu, hb5⟩
    have Hu := Lib.hid hu
    have hD5 := Lib.hid ((hb5.block _ (by omega)).trans HD.out)
    have Hb5 := Lib.hid (Ht9.out.trans (hb5.mono Ht9.out.size))
    have hb5s := hb5.size
    have hw9 := Ht9.out.size
    clear hu hb5 c7
    go_wp2
    refine ⟨by simp, .inl ⟨_, _, rfl, run_takeDeferred hD5.out, ?_⟩⟩
    refine ⟨_, results_tmp2 rfl _ _ _, _, rfl, ?_, ?_⟩
    · exact owns_mono (ownsRow_putObj Hu.out _ hD5.out rfl) hw9
    · exact Hb5.out.trans (belowK_b (w := w) (Nat.le_refl _) W5 _ _ _ (by omega) hD5.out rfl rfl)

end Go.Proofs.Ytpddkhhdleknnaa
