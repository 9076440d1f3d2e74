/- The walk of region's cut: the rectangles of one strip. -/
import Derived.Test.YtajoipmchgabfaaGreatT7
import Derived.Test.YtajoipmchgabfaaGreatT6
import Derived.RangeFuncBox
import Derived.Shelf.RegionOpen
namespace Go.Proofs.YtajoipmchgabfaaGreat
open Go.RowKit Go.Shelf

attribute [local go_sem] Oper.semAt_some

set_option maxHeartbeats 400000 in
theorem runsE_made (p : Option Addr) (n c : Nat) (w : World) : Calls Tryz.prog 87 #[.slice p n c, .func (.func 88) #[] #[]] w fun e w' =>
    e = .returned (.func (.func 92) #[] #[.pointer (some ⟨w.heap.size, 0, none⟩), .pointer (some ⟨w.heap.size + 1, 0, none⟩)]) ∧ w' = (w.alloc (.cells #[.slice p n c] 103)).alloc (.cells #[.func (.func 88) #[] #[]] 117) := by
  have hmf : ∀ (fn : Fn) (first cap : Array Value) (w : World), (Instr.makeFunc fn first cap).run Tryz.prog w = .ok (.func fn first cap) w := fun _ _ _ _ => rfl
  go_enter Tryz.func87, Tryz.ntmps87
  go_wp2
  go_ret
  exact ⟨rfl, rfl⟩

set_option maxHeartbeats 400000 in
theorem edges_made (p : Option Addr) (n c : Nat) (w : World) : Calls Tryz.prog 80 #[.slice p n c] w fun e w' =>
    e = .returned (.func (.func 92) #[] #[.pointer (some ⟨w.heap.size, 0, none⟩), .pointer (some ⟨w.heap.size + 1, 0, none⟩)]) ∧ w' = (w.alloc (.cells #[.slice p n c] 103)).alloc (.cells #[.func (.func 88) #[] #[]] 117) := by
  go_enter Tryz.func80, Tryz.ntmps80
  go_wp2_with fail
  refine Calls.mono (runsE_made _ _ _ _) ?_
  rintro e w1 ⟨rfl, rfl⟩
  go_wp2
  go_ret
  exact ⟨rfl, rfl⟩

/-- What a function value over two bools tells. -/
def Meant (gm : Nat) (mf : Bool → Bool → Bool) : Prop := Enters Tryz.prog gm ∧ ∀ p q w, Makes Tryz.prog gm #[.bool p, .bool q] w (.bool (mf p q))

/-- How far edges turn a list's depth. -/
def turned (li : Int) : List Ed → Int
  | [] => 0
  | e :: l => (if e.li = li then e.tu else 0) + turned li l

structure CutSt where
  d0 : Int
  d1 : Int
  from' : Int
  op : Bool
  out : List Rc

def cutStep (mf : Bool → Bool → Bool) (top bot : Int) (s : CutSt) (x : Int × List Ed) : CutSt :=
  let d0 := s.d0 + turned 0 x.2
  let d1 := s.d1 + turned 1 x.2
  let has := mf (decide (0 < d0)) (decide (0 < d1))
  { d0 := d0, d1 := d1, from' := if has && !s.op then x.1 else s.from', op := has, out := if !has && s.op then s.out ++ [⟨s.from', top, x.1 - s.from', bot - top⟩] else s.out }

def cutRun (mf : Bool → Bool → Bool) (top bot : Int) (l : List (Int × List Ed)) : CutSt := l.foldl (cutStep mf top bot) ⟨0, 0, 0, false, []⟩

def flatR (l : List Rc) : List Value := l.flatMap encR

/-- An edge as region makes them. -/
def GoodEd (e : Ed) : Prop := (e.li = 0 ∨ e.li = 1) ∧ (e.tu = 1 ∨ e.tu = -1) ∧ emptyR e.rc = false

theorem turned_snoc (li : Int) (l : List Ed) (e : Ed) : turned li (l ++ [e]) = turned li l + if e.li = li then e.tu else 0 := by
  induction l with
  | nil => simp [turned]
  | cons x l ih => simp only [List.cons_append, turned, ih]; omega
theorem turned_take (li : Int) (l : List Ed) (k : Nat) (h : k < l.length) : turned li (l.take (k + 1)) = turned li (l.take k) + if l[k].li = li then l[k].tu else 0 := by
  rw [List.take_succ_eq_append_getElem h, turned_snoc]
theorem turned_le (li : Int) (l : List Ed) (hg : ∀ e ∈ l, GoodEd e) : -(l.length : Int) ≤ turned li l ∧ turned li l ≤ l.length := by
  induction l with
  | nil => simp [turned]
  | cons e l ih =>
    have := ih (fun x hx => hg x (by simp [hx]))
    have hg := (hg e (by simp)).2.1
    simp only [turned, List.length_cons]
    split <;> rcases hg with h | h <;> omega

theorem grp_flat {α : Type} (key : α → Int) (l : List α) : (grp key l).flatMap (·.2) = l := by
  induction l with
  | nil => rfl
  | cons x l ih =>
    simp only [grp]
    split
    · rename_i h; rw [h] at ih; simp at ih; simp [← ih]
    · rename_i y g rest h
      rw [h] at ih
      simp at ih
      split <;> simp [ih]
theorem grp_mem {α : Type} {key : α → Int} {l : List α} {c : Int} {g : List α} (h : (c, g) ∈ grp key l) {x : α} (hx : x ∈ g) : x ∈ l := by
  rw [← grp_flat key l]; exact List.mem_flatMap.2 ⟨_, h, hx⟩

/-- Between two rounds of cut's loop. -/
structure CutInv (w : World) (top bot : Int) (gm : Nat) (mf : Bool → Bool → Bool) (pre : List (Int × List Ed)) (T : Nat → Prop) (W : World) : Prop where
  bt : Boxed W w.heap.size 3 (.int .i64 top)
  bb : Boxed W (w.heap.size + 1) 3 (.int .i64 bot)
  bm : Boxed W (w.heap.size + 1 + 1) 60 (.func (.func gm) #[] #[])
  bl : ∃ v, Boxed W (w.heap.size + 1 + 1 + 1) 22 v ∧ W.ownsRow w.heap.size 37 4 v (cutRun mf top bot pre).out.length (flatR (cutRun mf top bot pre).out) ∧ ∀ k, v.ownBlock = some k → ¬ T k ∧ (k < w.heap.size + 9 ∨ w.heap.size + 10 < k)
  bd : W.heap[w.heap.size + 1 + 1 + 1 + 1]? = some (.cells #[.int .i64 (cutRun mf top bot pre).d0, .int .i64 (cutRun mf top bot pre).d1] 120)
  bf : Boxed W (w.heap.size + 1 + 1 + 1 + 1 + 1) 3 (.int .i64 (cutRun mf top bot pre).from')
  bo : Boxed W (w.heap.size + 1 + 1 + 1 + 1 + 1 + 1) 4 (.bool (cutRun mf top bot pre).op)
  below : Below w.heap.size w W
  big : w.heap.size + 9 ≤ W.heap.size

theorem CutInv.turns {w : World} {top bot : Int} {gm : Nat} {mf : Bool → Bool → Bool} {pre : List (Int × List Ed)} {Tp T : Nat → Prop} {W W2 : World} (h : CutInv w top bot gm mf pre Tp W) (ht : Turns (fun b => Tp b ∨ b = w.heap.size + 9 + 1 ∨ b = w.heap.size + 9) W W2)
    (hTp : ∀ b, Tp b → w.heap.size + 10 < b) (hT : ∀ b, b < W.heap.size → T b → Tp b) : CutInv w top bot gm mf pre T W2 := by
  have hn : ∀ i, i < 9 → ¬ (Tp (w.heap.size + i) ∨ w.heap.size + i = w.heap.size + 9 + 1 ∨ w.heap.size + i = w.heap.size + 9) := fun i hi h => by
    rcases h with h | h
    · have := hTp _ h; omega
    · omega
  refine ⟨ht.boxed h.bt (hn 0 (by omega)), ht.boxed h.bb (hn 1 (by omega)), ht.boxed h.bm (hn 2 (by omega)), ?_, (ht.block _ (by have := h.big; omega) (hn 4 (by omega))).trans h.bd, ht.boxed h.bf (hn 5 (by omega)), ht.boxed h.bo (hn 6 (by omega)), ?_, Nat.le_trans h.big ht.size⟩
  · obtain ⟨v, h1, h2, h3⟩ := h.bl
    refine ⟨v, ht.boxed h1 (hn 3 (by omega)), ht.owns h2 (fun k hk hh => ?_), fun k hk => ⟨fun hh => (h3 k hk).1 (hT k (h2.lt k hk).2 hh), (h3 k hk).2⟩⟩
    rcases hh with hh | hh
    · exact (h3 k hk).1 hh
    · have := (h3 k hk).2; omega
  · exact h.below.trans (ht.below (by have := h.big; omega) (fun i hi => by
      rcases hi with hi | hi
      · have := hTp _ hi; omega
      · omega))

theorem cells_new (w : World) (c : Array Value) (t : TypeId) (j : Nat) (u : Value) (h : c.toList[j]? = some u) : (w.alloc (.cells c t)).cell? ((⟨w.heap.size, 0, none⟩ : Addr).add j) = some u := by
  have hadd : (⟨w.heap.size, 0, none⟩ : Addr).add j = ⟨w.heap.size, j, none⟩ := by unfold Addr.add; split <;> simp_all
  rw [hadd]
  exact cell_at rfl (by simpa using h)

theorem rc_info : (Tryz.prog.info? 37).map (fun i => (i.zero, i.size, i.bytes)) = some (some (.agg #[.int .i64 0, .int .i64 0, .int .i64 0, .int .i64 0]), 4, 32) := by kernel_rfl

theorem turned_append (li : Int) (l m : List Ed) : turned li (l ++ m) = turned li l + turned li m := by
  induction l with
  | nil => simp [turned]
  | cons e l ih => simp only [List.cons_append, turned, ih]; omega
theorem cut_d0 (mf : Bool → Bool → Bool) (top bot : Int) (l : List (Int × List Ed)) (s : CutSt) : (l.foldl (cutStep mf top bot) s).d0 = s.d0 + turned 0 (l.flatMap (·.2)) := by
  induction l generalizing s with
  | nil => simp [turned]
  | cons x l ih => rw [List.foldl_cons, ih, List.flatMap_cons, turned_append]; simp only [cutStep]; omega
theorem cut_d1 (mf : Bool → Bool → Bool) (top bot : Int) (l : List (Int × List Ed)) (s : CutSt) : (l.foldl (cutStep mf top bot) s).d1 = s.d1 + turned 1 (l.flatMap (·.2)) := by
  induction l generalizing s with
  | nil => simp [turned]
  | cons x l ih => rw [List.foldl_cons, ih, List.flatMap_cons, turned_append]; simp only [cutStep]; omega
theorem cut_from (mf : Bool → Bool → Bool) (top bot : Int) (l : List (Int × List Ed)) (s : CutSt) (B : Int) (hs : -B ≤ s.from' ∧ s.from' ≤ B) (hl : ∀ x ∈ l, -B ≤ x.1 ∧ x.1 ≤ B) : -B ≤ (l.foldl (cutStep mf top bot) s).from' ∧ (l.foldl (cutStep mf top bot) s).from' ≤ B := by
  induction l generalizing s with
  | nil => exact hs
  | cons x l ih =>
    rw [List.foldl_cons]
    refine ih _ ?_ (fun y hy => hl y (by simp [hy]))
    simp only [cutStep]
    split
    · exact hl x (by simp)
    · exact hs
theorem cut_out (mf : Bool → Bool → Bool) (top bot : Int) (l : List (Int × List Ed)) (s : CutSt) : (l.foldl (cutStep mf top bot) s).out.length ≤ s.out.length + l.length := by
  induction l generalizing s with
  | nil => simp
  | cons x l ih =>
    rw [List.foldl_cons]
    refine Nat.le_trans (ih _) ?_
    simp only [cutStep, List.length_cons]
    split
    · simp; omega
    · omega
theorem grp_ne {α : Type} {key : α → Int} {l : List α} {c : Int} {g : List α} (h : (c, g) ∈ grp key l) : ∃ x ∈ g, key x = c := by
  induction l generalizing c g with
  | nil => simp [grp] at h
  | cons x l ih =>
    simp only [grp] at h
    split at h
    · simp at h; exact ⟨x, by simp [h.2], h.1.symm⟩
    · rename_i y g' rest hh
      split at h
      · rename_i hy
        simp at h
        rcases h with ⟨h1, h2⟩ | h
        · exact ⟨x, by simp [h2], by rw [h1, hy]⟩
        · exact ih (by rw [hh]; simp [h])
      · simp at h
        rcases h with ⟨h1, h2⟩ | ⟨h1, h2⟩ | h
        · exact ⟨x, by simp [h2], h1.symm⟩
        · exact ih (by rw [hh, h1, h2]; simp)
        · exact ih (by rw [hh]; simp [h])
theorem grp_len {α : Type} (key : α → Int) (l : List α) : (grp key l).length ≤ l.length := by
  induction l with
  | nil => simp [grp]
  | cons x l ih =>
    simp only [grp]
    split
    · simp
    · rename_i hh
      rw [hh] at ih
      split <;> simp at ih ⊢ <;> omega

/-- What a round of cut's loop owes. -/
theorem CutInv.next {w : World} {top bot : Int} {gm : Nat} {mf : Bool → Bool → Bool} {pre : List (Int × List Ed)} {T : Nat → Prop} {W W' : World} {x : Int × List Ed} {v v' : Value} (h : CutInv w top bot gm mf pre T W) (hT : ∀ b, T b → w.heap.size + 9 + 1 < b ∧ b < W.heap.size)
    (hv : ∀ k, v.ownBlock = some k → ¬ T k ∧ (k < w.heap.size + 9 ∨ w.heap.size + 10 < k)) (hvb : ∀ k, v.ownBlock = some k → w.heap.size ≤ k) (hvn : ∀ k, v.ownBlock = some k → k ≠ w.heap.size + 1 + 1 + 1 + 1 + 1 + 1 + 1 ∧ k ≠ w.heap.size + 1 + 1 + 1 + 1 + 1 + 1 + 1 + 1) (hnn : ∀ k, v.ownBlock = some k → k ≠ w.heap.size ∧ k ≠ w.heap.size + 1 ∧ k ≠ w.heap.size + 1 + 1)
    (ht : Turns (fun b => b = w.heap.size + 1 + 1 + 1 ∨ b = w.heap.size + 1 + 1 + 1 + 1 ∨ b = w.heap.size + 1 + 1 + 1 + 1 + 1 ∨ b = w.heap.size + 1 + 1 + 1 + 1 + 1 + 1 ∨ v.ownBlock = some b) W W') (hL : w.heap.size + 9 + 1 < W.heap.size)
    (bl : Boxed W' (w.heap.size + 1 + 1 + 1) 22 v') (own : W'.ownsRow w.heap.size 37 4 v' (cutStep mf top bot (cutRun mf top bot pre) x).out.length (flatR (cutStep mf top bot (cutRun mf top bot pre) x).out)) (hv' : ∀ k, v'.ownBlock = some k → v.ownBlock = some k ∨ W.heap.size ≤ k)
    (bd : W'.heap[w.heap.size + 1 + 1 + 1 + 1]? = some (.cells #[.int .i64 (cutStep mf top bot (cutRun mf top bot pre) x).d0, .int .i64 (cutStep mf top bot (cutRun mf top bot pre) x).d1] 120))
    (bf : Boxed W' (w.heap.size + 1 + 1 + 1 + 1 + 1) 3 (.int .i64 (cutStep mf top bot (cutRun mf top bot pre) x).from')) (bo : Boxed W' (w.heap.size + 1 + 1 + 1 + 1 + 1 + 1) 4 (.bool (cutStep mf top bot (cutRun mf top bot pre) x).op)) :
    CutInv w top bot gm mf (pre ++ [x]) T W' ∧ W.heap.size ≤ W'.heap.size ∧ ∀ b, (b < w.heap.size ∨ b = w.heap.size + 1 + 1 + 1 + 1 + 1 + 1 + 1 ∨ b = w.heap.size + 1 + 1 + 1 + 1 + 1 + 1 + 1 + 1) ∨ T b ∨ b = w.heap.size + 9 + 1 ∨ b = w.heap.size + 9 → W'.heap[b]? = W.heap[b]? := by
  have e : cutRun mf top bot (pre ++ [x]) = cutStep mf top bot (cutRun mf top bot pre) x := by simp [cutRun]
  have n1 : ∀ k, k = w.heap.size ∨ k = w.heap.size + 1 ∨ k = w.heap.size + 1 + 1 → ¬ (k = w.heap.size + 1 + 1 + 1 ∨ k = w.heap.size + 1 + 1 + 1 + 1 ∨ k = w.heap.size + 1 + 1 + 1 + 1 + 1 ∨ k = w.heap.size + 1 + 1 + 1 + 1 + 1 + 1 ∨ v.ownBlock = some k) := fun k hk hh => by
    rcases hh with hh | hh | hh | hh | hh
    · omega
    · omega
    · omega
    · omega
    · have := hnn k hh; omega
  refine ⟨⟨ht.boxed h.bt (n1 _ (.inl rfl)), ht.boxed h.bb (n1 _ (.inr (.inl rfl))), ht.boxed h.bm (n1 _ (.inr (.inr rfl))), ⟨v', bl, by rw [e]; exact own, fun k hk => ?_⟩, by rw [e]; exact bd, by rw [e]; exact bf, by rw [e]; exact bo, ?_, by have := ht.size; omega⟩, ht.size, fun b hb => ?_⟩
  · rcases hv' k hk with hh | hh
    · exact hv k hh
    · exact ⟨fun ht => by have := (hT k ht).2; omega, by omega⟩
  · exact h.below.trans (ht.below (by omega) (fun i hi => by
      rcases hi with hi | hi | hi | hi | hi
      · omega
      · omega
      · omega
      · omega
      · exact hvb i hi))
  · have hlt : b < W.heap.size := by
      rcases hb with hb | hb | hb
      · omega
      · exact (hT b hb).2
      · omega
    refine ht.block b hlt (fun hh => ?_)
    rcases hh with hh | hh | hh | hh | hh
    · rcases hb with hb | hb | hb
      · omega
      · have := (hT b hb).1; omega
      · omega
    · rcases hb with hb | hb | hb
      · omega
      · have := (hT b hb).1; omega
      · omega
    · rcases hb with hb | hb | hb
      · omega
      · have := (hT b hb).1; omega
      · omega
    · rcases hb with hb | hb | hb
      · omega
      · have := (hT b hb).1; omega
      · omega
    · rcases hb with hb | hb | hb
      · have h1 := hvb b hh
        have h2 := hvn b hh
        omega
      · exact (hv b hh).1 hb
      · have := (hv b hh).2; omega

set_option maxRecDepth 100000 in
set_option maxHeartbeats 2000000 in
theorem cut_any (v : Value) (xs : List Ed) (top bot : Int) (gm : Nat) (mf : Bool → Bool → Bool) (w : World) (hv : Row encE 7 w v xs) (hgm : Meant gm mf) (hgood : ∀ e ∈ xs, GoodEd e ∧ -1048576 ≤ e.pl ∧ e.pl ≤ 1048576) (hlen : xs.length ≤ 1073741824)
    (ht : -1048576 ≤ top ∧ top ≤ 1048576) (hb : -1048576 ≤ bot ∧ bot ≤ 1048576) :
    Calls Tryz.prog 82 #[v, .int .i64 top, .int .i64 bot, .func (.func gm) #[] #[]] w fun e w' =>
      ∃ u, e = .returned u ∧ w'.ownsRow w.heap.size 37 4 u (cutRun mf top bot (grp Ed.pl xs)).out.length (flatR (cutRun mf top bot (grp Ed.pl xs)).out) ∧ Below w.heap.size w w' := by
  obtain ⟨p, cap, rfl, hcap, hmax, hp⟩ := hv
  refine (callsIn_wide (n := 0)).1 ?_
  refine callsIn_of_wp_marks Tryz.func82 rfl trivial ?_ rfl
  simp only [Tryz.ntmps82, List.size_toArray, List.length_cons, List.length_nil, Nat.reduceAdd, Nat.reduceSub, Array.replicate_succ, Array.replicate_zero, List.push_toArray, List.append_toArray, List.nil_append, List.cons_append]
  refine wpIn_wide.2 ?_
  go_wp2_with (go_at_call 80; refine Calls.mono (edges_made _ _ _ _) ?_; rintro e w' ⟨rfl, rfl⟩)
  obtain ⟨W0, hW0⟩ : ∃ W0, (((((((((w.alloc (.cells #[.int .i64 top] 3)).alloc (.cells #[.int .i64 bot] 3)).alloc (.cells #[.func (.func gm) #[] #[]] 60)).alloc (.cells #[.slice none 0 0] 22)).alloc (.cells #[.int .i64 0, .int .i64 0] 120)).alloc (.cells #[.int .i64 0] 3)).alloc (.cells #[.bool false] 4)).alloc (.cells #[.slice p xs.length cap] 103)).alloc (.cells #[.func (.func 88) #[] #[]] 117)) = W0 := ⟨_, rfl⟩
  have hB0 : Below w.heap.size w W0 := by
    rw [← hW0]; exact Below.al (Below.al (Below.al (Below.al (Below.al (Below.al (Below.al (Below.al (Below.al1 _ _) _) _) _) _) _) _) _) _
  have hsz : W0.heap.size = w.heap.size + 9 := by rw [← hW0]; simp
  have hg : ∀ i o, W0.heap[w.heap.size + i]? = some o ↔ [Obj.cells #[.int .i64 top] 3, .cells #[.int .i64 bot] 3, .cells #[.func (.func gm) #[] #[]] 60, .cells #[.slice none 0 0] 22, .cells #[.int .i64 0, .int .i64 0] 120, .cells #[.int .i64 0] 3, .cells #[.bool false] 4, .cells #[.slice p xs.length cap] 103, .cells #[.func (.func 88) #[] #[]] 117][i]? = some o := by
    intro i o
    rw [← hW0]
    exact heap_pushed [.cells #[.int .i64 top] 3, .cells #[.int .i64 bot] 3, .cells #[.func (.func gm) #[] #[]] 60, .cells #[.slice none 0 0] 22, .cells #[.int .i64 0, .int .i64 0] 120, .cells #[.int .i64 0] 3, .cells #[.bool false] 4, .cells #[.slice p xs.length cap] 103, .cells #[.func (.func 88) #[] #[]] 117] w i o
  rw [hW0]
  have bt : Boxed W0 w.heap.size 3 (.int .i64 top) := (hg 0 _).2 rfl
  have bb : Boxed W0 (w.heap.size + 1) 3 (.int .i64 bot) := (hg 1 _).2 rfl
  have bm : Boxed W0 (w.heap.size + 1 + 1) 60 (.func (.func gm) #[] #[]) := (hg 2 _).2 rfl
  have bl : Boxed W0 (w.heap.size + 1 + 1 + 1) 22 (.slice none 0 0) := (hg 3 _).2 rfl
  have bd : W0.heap[w.heap.size + 1 + 1 + 1 + 1]? = some (.cells #[.int .i64 0, .int .i64 0] 120) := (hg 4 _).2 rfl
  have bf : Boxed W0 (w.heap.size + 1 + 1 + 1 + 1 + 1) 3 (.int .i64 0) := (hg 5 _).2 rfl
  have bo : Boxed W0 (w.heap.size + 1 + 1 + 1 + 1 + 1 + 1) 4 (.bool false) := (hg 6 _).2 rfl
  have be : Boxed W0 (w.heap.size + 1 + 1 + 1 + 1 + 1 + 1 + 1) 103 (.slice p xs.length cap) := (hg 7 _).2 rfl
  have bp : Boxed W0 (w.heap.size + 1 + 1 + 1 + 1 + 1 + 1 + 1 + 1) 117 (.func (.func 88) #[] #[]) := (hg 8 _).2 rfl
  clear hg hW0
  have HR3 : ∀ a, p = some a → a.block < w.heap.size := by
    rintro a rfl
    rcases hp with ⟨h, _⟩ | ⟨b, off, h, h3, _⟩
    · cases h
    · cases h; exact h3
  have hseq := runsE_iter (w.heap.size + 1 + 1 + 1 + 1 + 1 + 1 + 1) (w.heap.size + 1 + 1 + 1 + 1 + 1 + 1 + 1 + 1) p cap xs W0 (fun b => b < w.heap.size ∨ b = w.heap.size + 1 + 1 + 1 + 1 + 1 + 1 + 1 ∨ b = w.heap.size + 1 + 1 + 1 + 1 + 1 + 1 + 1 + 1) be bp hcap hmax (hp.below hB0) (fun b hb => by omega) (Or.inr (Or.inl rfl)) (Or.inr (Or.inr rfl)) (fun a e => Or.inl (HR3 a e))
  refine (wpIn_wide (n := 0)).1 ?_
  refine wpIn_rangeFunc_turns (gf := 92) rfl (enters_of Tryz.func92 (by kernel_rfl) rfl) hseq (Nat.le_refl _) (fun b hb => ⟨by omega, rfl⟩) (fun _ _ _ _ _ ⟨v, h, _⟩ => by rw [h]; rfl)
    (CutInv w top bot gm mf) (fun _ _ _ _ => False) ?start (fun vs => { tmps := #[.slice p xs.length cap, .int .i64 top, .int .i64 bot, .func (.func gm) #[] #[], undef, .pointer (some ⟨w.heap.size, 0, none⟩), .pointer (some ⟨w.heap.size + 1, 0, none⟩), .pointer (some ⟨w.heap.size + 1 + 1, 0, none⟩), .slice none 0 0, .pointer (some ⟨w.heap.size + 1 + 1 + 1, 0, none⟩), .pointer (some ⟨w.heap.size + 1 + 1 + 1 + 1, 0, none⟩), .pointer (some ⟨w.heap.size + 1 + 1 + 1 + 1 + 1, 0, none⟩), .pointer (some ⟨w.heap.size + 1 + 1 + 1 + 1 + 1 + 1, 0, none⟩), vs.getD 0 undef, vs.getD 1 undef, undef, undef, undef, .slice p xs.length cap, .func (.func 92) #[] #[.pointer (some ⟨w.heap.size + 1 + 1 + 1 + 1 + 1 + 1 + 1, 0, none⟩), .pointer (some ⟨w.heap.size + 1 + 1 + 1 + 1 + 1 + 1 + 1 + 1, 0, none⟩)], vs.getD 0 undef, vs.getD 1 undef, undef, undef, undef, undef, undef, undef, undef, undef, undef, undef, undef, undef, undef, undef, undef, undef, undef, undef, undef, undef, undef, undef, undef, undef, undef, undef, undef, undef, undef, undef, undef, undef, undef, undef, undef, undef, undef, undef, undef, undef, undef, undef, undef, undef, undef, undef, undef, undef], defers := [] }) ?assign ?body ?done ?stop
  case start => exact ⟨bt, bb, bm, ⟨_, bl, World.ownsRow_nil _ _ _ _, fun k hk => by cases hk⟩, bd, bf, bo, hB0, by omega⟩
  case assign =>
    intro l vs W K hvs hK
    obtain ⟨v0, v1, rfl⟩ := size_two hvs
    gi_wp2
    exact hK
  case body =>
    rintro pre ⟨x, g⟩ rest Tp T Wq Wp W1 W2 vs hxs hI htqp hsq ht2 hTp hT hT2 hR2 ⟨v, rfl, hv, hvR⟩ h12 hs12 hLt - hD2 hL2
    simp only [hsz] at ht2 hTp hT2 h12 hLt hD2 hL2 htqp ⊢
    have hI2 : CutInv w top bot gm mf pre T W2 := hI.turns ht2 (fun b hb => (hTp b hb).1) (fun b hb hh => by
      rcases hT b hh with h | h
      · exact h
      · omega)
    have hv2 : Row encE 7 W2 v g := hv.turns h12 (fun b hb e => by have := hvR b hb; omega)
    obtain ⟨q, cap', rfl, hq1, hq2, hq⟩ := hv2
    dsimp only at hv hq hvR hq1
    have be2 := Boxed.same be (hR2 _ (Or.inr (Or.inl rfl)))
    have bp2 := Boxed.same bp (hR2 _ (Or.inr (Or.inr rfl)))
    clear hI ht2 hTp hT hR2 h12 hv htqp bt bb bm bl bd bf bo be bp hB0 hseq hp HR3
    have HI2 := Lib.hid hI2
    have HD2 := Lib.hid hD2
    have HL2 := Lib.hid hL2
    have Hxs := Lib.hid hxs
    have Hbe := Lib.hid be2
    have Hbp := Lib.hid bp2
    clear hI2 hD2 hL2 hxs be2 bp2
    have e0 : (#[.int .i64 x, .slice q g.length cap'] : Array Value).getD 0 undef = .int .i64 x := rfl
    have e1 : (#[.int .i64 x, .slice q g.length cap'] : Array Value).getD 1 undef = .slice q g.length cap' := rfl
    rw [e0, e1]
    clear e0 e1
    have hflat : xs = pre.flatMap (·.2) ++ (g ++ rest.flatMap (·.2)) := by
      rw [← grp_flat Ed.pl xs, Hxs.out]; simp
    have hbd : ∀ li k, -1073741824 ≤ turned li (pre.flatMap (·.2)) + turned li (List.take k g) ∧ turned li (pre.flatMap (·.2)) + turned li (List.take k g) ≤ 1073741824 := fun li k => by
      rw [← turned_append]
      have h1 := turned_le li (pre.flatMap (·.2) ++ List.take k g) (fun e he => (hgood e (by
        rw [hflat]
        rcases List.mem_append.1 he with h | h
        · simp only [List.mem_append]; exact .inl h
        · simp only [List.mem_append]; exact .inr (.inl (List.mem_of_mem_take h)))).1)
      have h2 : (pre.flatMap (·.2) ++ List.take k g).length ≤ xs.length := by
        conv => rhs; rw [hflat]
        simp only [List.length_append, List.length_take]
        omega
      omega
    have hbd0 : ∀ k, -4294967296 ≤ (cutRun mf top bot pre).d0 + turned 0 (List.take k g) ∧ (cutRun mf top bot pre).d0 + turned 0 (List.take k g) ≤ 4294967296 := fun k => by
      rw [cutRun, cut_d0]; have := hbd 0 k; simp only; omega
    have hbd1 : ∀ k, -4294967296 ≤ (cutRun mf top bot pre).d1 + turned 1 (List.take k g) ∧ (cutRun mf top bot pre).d1 + turned 1 (List.take k g) ≤ 4294967296 := fun k => by
      rw [cutRun, cut_d1]; have := hbd 1 k; simp only; omega
    clear hflat hbd
    have hkey : ∀ y ∈ grp Ed.pl xs, -1048576 ≤ y.1 ∧ y.1 ≤ 1048576 := fun y hy => by
      obtain ⟨z, hz, hz2⟩ := grp_ne (c := y.1) (g := y.2) hy
      have := (hgood z (grp_mem hy hz)).2
      rw [hz2] at this
      exact this
    have Hkey := Lib.hid hkey
    clear hkey
    have Hbd0 := Lib.hid hbd0
    have Hbd1 := Lib.hid hbd1
    clear hbd0 hbd1
    gi_wp2
    gi_loopw [24] (fun i wr => ∃ k : Nat, k ≤ g.length ∧ i = .int .i64 k ∧ wr.heap[w.heap.size + 1 + 1 + 1 + 1]? = some (.cells #[.int .i64 ((cutRun mf top bot pre).d0 + turned 0 (g.take k)), .int .i64 ((cutRun mf top bot pre).d1 + turned 1 (g.take k))] 120) ∧ Turns (fun b => b = w.heap.size + 1 + 1 + 1 + 1) W2 wr) (fun i _ => g.length - (intOf i).toNat)
    case atStart => exact ⟨0, by omega, rfl, by simpa [turned] using HI2.out.bd, Turns.refl _ _⟩
    case round =>
      obtain ⟨k, hk, rfl, hdd, htr⟩ := hrel
      have hgl : g.length ≤ 9223372036854775807 := by simp only [maxLen] at hq2; omega
      by_cases hlt : k < g.length
      · have hrow : RowAt encE 7 wr q g := hq.turns htr (fun a e h => by have := hvR a.block (by rw [e]; rfl); omega)
        obtain ⟨b, off, rfl, hB, hc⟩ := hrow.ed hlt
        obtain ⟨c0, c1, c2, c3, c4, c5, c6⟩ := hc k hlt
        have hbs : b < wr.heap.size := hB
        have Hbn : b < w.heap.size ∨ b = w.heap.size + 1 + 1 + 1 + 1 + 1 + 1 + 1 ∨ b = w.heap.size + 1 + 1 + 1 + 1 + 1 + 1 + 1 + 1 := hvR b rfl
        have hdl : w.heap.size + 1 + 1 + 1 + 1 < wr.heap.size := (Array.getElem?_eq_some_iff.1 hdd).1
        have d0 : wr.cell? ⟨w.heap.size + 1 + 1 + 1 + 1, 0, none⟩ = some (.int .i64 ((cutRun mf top bot pre).d0 + turned 0 (g.take k))) := by simp [World.cell?, hdd]
        have d1 : wr.cell? ⟨w.heap.size + 1 + 1 + 1 + 1, 1, none⟩ = some (.int .i64 ((cutRun mf top bot pre).d1 + turned 1 (g.take k))) := by simp [World.cell?, hdd]
        have f0 : wr.frozen? ⟨w.heap.size + 1 + 1 + 1 + 1, 0, none⟩ = false := by simp [World.frozen?, hdd]
        have f1 : wr.frozen? ⟨w.heap.size + 1 + 1 + 1 + 1, 1, none⟩ = false := by simp [World.frozen?, hdd]
        have Hdd := hdd
        have Htr := Lib.hid htr
        have hmix : Tryz.prog.follows .mixedOrders = true := by kernel_rfl
        clear hc hdd htr hrow
        have hge : GoodEd g[k] := (hgood g[k] (by have : g[k] ∈ g := List.getElem_mem hlt; exact grp_mem (c := x) (g := g) (key := Ed.pl) (by rw [Hxs.out]; simp) this)).1
        have Ht0 := Lib.hid (turned_take 0 g k hlt)
        have Ht1 := Lib.hid (turned_take 1 g k hlt)
        have hb0 := Hbd0.out k
        have hb1 := Hbd1.out k
        have ht1 : -1 ≤ g[k].tu ∧ g[k].tu ≤ 1 := by rcases hge.2.1 with h | h <;> omega
        generalize g[k] = e at *
        obtain ⟨D0, hD0⟩ : ∃ D0, (cutRun mf top bot pre).d0 + turned 0 (List.take k g) = D0 := ⟨_, rfl⟩
        obtain ⟨D1, hD1⟩ : ∃ D1, (cutRun mf top bot pre).d1 + turned 1 (List.take k g) = D1 := ⟨_, rfl⟩
        rw [hD0] at hb0 d0
        rw [hD1] at hb1 d1
        have HD0 := Lib.hid hD0
        have HD1 := Lib.hid hD1
        rw [hD0, hD1] at Hdd
        clear hD0 hD1
        replace Hdd := Lib.hid Hdd
        rcases hge.1 with hli | hli
        · rw [hli] at c1
          gi_wp2
          have n1 := cell_at (w := wr) (c := #[.int .i64 e.pl, .int .i64 0, .int .i64 e.tu, .int .i64 e.rc.x, .int .i64 e.rc.y, .int .i64 e.rc.a, .int .i64 e.rc.b]) (t := 116) (i := 1) rfl rfl
          have n2 := cell_at (w := wr) (c := #[.int .i64 e.pl, .int .i64 0, .int .i64 e.tu, .int .i64 e.rc.x, .int .i64 e.rc.y, .int .i64 e.rc.a, .int .i64 e.rc.b]) (t := 116) (i := 2) rfl rfl
          have m0 := cell_later (Below.al1 wr (.cells #[.int .i64 e.pl, .int .i64 0, .int .i64 e.tu, .int .i64 e.rc.x, .int .i64 e.rc.y, .int .i64 e.rc.a, .int .i64 e.rc.b] 116)) d0
          have g0 := free_later (Below.al1 wr (.cells #[.int .i64 e.pl, .int .i64 0, .int .i64 e.tu, .int .i64 e.rc.x, .int .i64 e.rc.y, .int .i64 e.rc.a, .int .i64 e.rc.b] 116)) d0 f0
          have hal := Lib.hid (Below.al1 wr (.cells #[.int .i64 e.pl, .int .i64 0, .int .i64 e.tu, .int .i64 e.rc.x, .int .i64 e.rc.y, .int .i64 e.rc.a, .int .i64 e.rc.b] 116))
          generalize (wr.alloc (.cells #[.int .i64 e.pl, .int .i64 0, .int .i64 e.tu, .int .i64 e.rc.x, .int .i64 e.rc.y, .int .i64 e.rc.a, .int .i64 e.rc.b] 116)) = We at *
          have Hrel : ∀ W3, W3 = (We.setCell ⟨w.heap.size + 1 + 1 + 1 + 1, 0, none⟩ (.int .i64 (D0 + e.tu))).drew → W3.heap[w.heap.size + 1 + 1 + 1 + 1]? = some (.cells #[.int .i64 ((cutRun mf top bot pre).d0 + turned 0 (g.take (k + 1))), .int .i64 ((cutRun mf top bot pre).d1 + turned 1 (g.take (k + 1)))] 120) ∧ Turns (fun b => b = w.heap.size + 1 + 1 + 1 + 1) W2 W3 := by
            rintro W3 rfl
            refine ⟨?_, ((Htr.out.trans (Turns.of_below' hal.out)).set rfl _).drew⟩
            rw [Ht0.out, Ht1.out, hli, ← Int.add_assoc, ← Int.add_assoc, HD0.out, HD1.out]
            simp only [if_true, if_neg (show ¬ ((0 : Int) = 1) by omega), Int.add_zero]
            exact two_set0 _ ((hal.out.block _ hdl).trans Hdd.out)
          have HRel := Lib.hid Hrel
          clear Hrel d0 d1 f0 f1 c0 c1 c2 c3 c4 c5 c6
          gi_region_o
          all_goals
            gi_wp2
            go_roundw
            case rel => exact ⟨k + 1, by omega, by go_num, HRel.out _ rfl⟩
            case measure => simp [intOf]; omega
        · rw [hli] at c1
          gi_wp2
          have n1 := cell_at (w := wr) (c := #[.int .i64 e.pl, .int .i64 1, .int .i64 e.tu, .int .i64 e.rc.x, .int .i64 e.rc.y, .int .i64 e.rc.a, .int .i64 e.rc.b]) (t := 116) (i := 1) rfl rfl
          have n2 := cell_at (w := wr) (c := #[.int .i64 e.pl, .int .i64 1, .int .i64 e.tu, .int .i64 e.rc.x, .int .i64 e.rc.y, .int .i64 e.rc.a, .int .i64 e.rc.b]) (t := 116) (i := 2) rfl rfl
          have m0 := cell_later (Below.al1 wr (.cells #[.int .i64 e.pl, .int .i64 1, .int .i64 e.tu, .int .i64 e.rc.x, .int .i64 e.rc.y, .int .i64 e.rc.a, .int .i64 e.rc.b] 116)) d1
          have g0 := free_later (Below.al1 wr (.cells #[.int .i64 e.pl, .int .i64 1, .int .i64 e.tu, .int .i64 e.rc.x, .int .i64 e.rc.y, .int .i64 e.rc.a, .int .i64 e.rc.b] 116)) d1 f1
          have hal := Lib.hid (Below.al1 wr (.cells #[.int .i64 e.pl, .int .i64 1, .int .i64 e.tu, .int .i64 e.rc.x, .int .i64 e.rc.y, .int .i64 e.rc.a, .int .i64 e.rc.b] 116))
          generalize (wr.alloc (.cells #[.int .i64 e.pl, .int .i64 1, .int .i64 e.tu, .int .i64 e.rc.x, .int .i64 e.rc.y, .int .i64 e.rc.a, .int .i64 e.rc.b] 116)) = We at *
          have Hrel : ∀ W3, W3 = (We.setCell ⟨w.heap.size + 1 + 1 + 1 + 1, 1, none⟩ (.int .i64 (D1 + e.tu))).drew → W3.heap[w.heap.size + 1 + 1 + 1 + 1]? = some (.cells #[.int .i64 ((cutRun mf top bot pre).d0 + turned 0 (g.take (k + 1))), .int .i64 ((cutRun mf top bot pre).d1 + turned 1 (g.take (k + 1)))] 120) ∧ Turns (fun b => b = w.heap.size + 1 + 1 + 1 + 1) W2 W3 := by
            rintro W3 rfl
            refine ⟨?_, ((Htr.out.trans (Turns.of_below' hal.out)).set rfl _).drew⟩
            rw [Ht0.out, Ht1.out, hli, ← Int.add_assoc, ← Int.add_assoc, HD0.out, HD1.out]
            simp only [if_true, if_neg (show ¬ ((1 : Int) = 0) by omega), Int.add_zero]
            exact two_set1 _ ((hal.out.block _ hdl).trans Hdd.out)
          have HRel := Lib.hid Hrel
          clear Hrel d0 d1 f0 f1 c0 c1 c2 c3 c4 c5 c6
          gi_region_o
          all_goals
            gi_wp2
            go_roundw
            case rel => exact ⟨k + 1, by omega, by go_num, HRel.out _ rfl⟩
            case measure => simp [intOf]; omega
      · have hkg : k = g.length := by omega
        subst hkg
        rw [List.take_length] at hdd
        obtain ⟨v, bl, own, hvo⟩ := HI2.out.bl
        have nb : ∀ i, i < 4 → w.heap.size + i ≠ w.heap.size + 1 + 1 + 1 + 1 := fun i hi => by omega
        have bt2 := htr.boxed HI2.out.bt (nb 0 (by omega))
        have bb2 := htr.boxed HI2.out.bb (nb 1 (by omega))
        have bm2 := htr.boxed HI2.out.bm (nb 2 (by omega))
        have bl2 := htr.boxed bl (nb 3 (by omega))
        have bf2 := htr.boxed HI2.out.bf (by omega)
        have bo2 := htr.boxed HI2.out.bo (by omega)
        have own2 := htr.owns own (fun k hk e => by
          subst e
          rcases own.2 with ⟨rfl, _⟩ | ⟨gg, _, _, rfl, _, hgg, _⟩
          · cases hk
          · cases hk
            rw [HI2.out.bd] at hgg
            cases hgg)
        have Hst : cutRun mf top bot (pre ++ [(x, g)]) = cutStep mf top bot (cutRun mf top bot pre) (x, g) := by simp [cutRun]
        have HSt := Lib.hid Hst
        clear Hst bl own
        obtain ⟨D0, hD0⟩ : ∃ D0, (cutRun mf top bot pre).d0 + turned 0 g = D0 := ⟨_, rfl⟩
        obtain ⟨D1, hD1⟩ : ∃ D1, (cutRun mf top bot pre).d1 + turned 1 g = D1 := ⟨_, rfl⟩
        rw [hD0, hD1] at hdd
        have d0 : wr.cell? ⟨w.heap.size + 1 + 1 + 1 + 1, 0, none⟩ = some (.int .i64 D0) := by simp [World.cell?, hdd]
        have d1 : wr.cell? ⟨w.heap.size + 1 + 1 + 1 + 1, 1, none⟩ = some (.int .i64 D1) := by simp [World.cell?, hdd]
        have Hdd := Lib.hid hdd
        have HD0 := Lib.hid hD0
        have HD1 := Lib.hid hD1
        have Htr := Lib.hid htr
        have cm := bm2.cell
        clear hdd hD0 hD1 htr
        have em := hgm.1
        unfold Enters at em
        gi_wp2
        refine ⟨trivial, rfl, (CallsIn.inRound _ (callsIn_wide.2 (hgm.2 _ _ _))).mono ?_⟩
        rintro e w3 ⟨rfl, hb3⟩
        have hh3 : Hid (cutStep mf top bot (cutRun mf top bot pre) (x, g) = { d0 := D0, d1 := D1, from' := if mf (decide (0 < D0)) (decide (0 < D1)) && !(cutRun mf top bot pre).op then x else (cutRun mf top bot pre).from', op := mf (decide (0 < D0)) (decide (0 < D1)), out := if !mf (decide (0 < D0)) (decide (0 < D1)) && (cutRun mf top bot pre).op then (cutRun mf top bot pre).out ++ [⟨(cutRun mf top bot pre).from', top, x - (cutRun mf top bot pre).from', bot - top⟩] else (cutRun mf top bot pre).out }) := Lib.hid (by simp only [cutStep]; rw [HD0.out, HD1.out])
        have k3 : ∀ b, b < wr.heap.size → w3.heap[b]? = wr.heap[b]? := fun b hb => hb3.block b hb
        have bt3 := Boxed.same bt2 (k3 _ bt2.lt)
        have bb3 := Boxed.same bb2 (k3 _ bb2.lt)
        have bl3 := Boxed.same bl2 (k3 _ bl2.lt)
        have bf3 := Boxed.same bf2 (k3 _ bf2.lt)
        have bo3 := Boxed.same bo2 (k3 _ bo2.lt)
        have bd3 := (k3 _ (Array.getElem?_eq_some_iff.1 Hdd.out).1).trans Hdd.out
        have own3 := (Turns.of_below' (T := fun _ => False) hb3).owns own2 (fun _ _ h => h)
        have hfb : -1048576 ≤ (cutRun mf top bot pre).from' ∧ (cutRun mf top bot pre).from' ≤ 1048576 := cut_from mf top bot pre _ 1048576 (by simp) (fun y hy => Hkey.out y (by rw [Hxs.out]; simp [hy]))
        have hxb : -1048576 ≤ x ∧ x ≤ 1048576 := Hkey.out (x, g) (by rw [Hxs.out]; simp)
        have hob : (cutRun mf top bot pre).out.length ≤ 1073741824 := by
          have h1 := cut_out mf top bot pre ⟨0, 0, 0, false, []⟩
          have h2 := grp_len Ed.pl xs
          rw [Hxs.out] at h2
          simp at h1 h2
          unfold cutRun
          omega
        have htS : Turns (fun b => b = w.heap.size + 1 + 1 + 1 ∨ b = w.heap.size + 1 + 1 + 1 + 1 ∨ b = w.heap.size + 1 + 1 + 1 + 1 + 1 ∨ b = w.heap.size + 1 + 1 + 1 + 1 + 1 + 1 ∨ v.ownBlock = some b) W2 w3 := (Htr.out.mono (fun i _ h => Or.inr (Or.inl h))).trans (Turns.of_below' hb3)
        have be3 := Boxed.same (Htr.out.boxed Hbe.out (by omega)) (k3 _ (Htr.out.boxed Hbe.out (by omega)).lt)
        have bp3 := Boxed.same (Htr.out.boxed Hbp.out (by omega)) (k3 _ (Htr.out.boxed Hbp.out (by omega)).lt)
        have bm3 := Boxed.same bm2 (k3 _ bm2.lt)
        have hvne : ∀ k, v.ownBlock = some k → ∀ B t u, Boxed w3 B t u → t ≠ 37 → k ≠ B := fun k hk B t u hB htt e => by
          rcases own3.2 with ⟨rfl, _⟩ | ⟨gg, _, _, rfl, _, hgg, _⟩
          · cases hk
          · cases hk
            subst e
            rw [show w3.heap[gg]? = _ from hB] at hgg
            cases hgg
            exact htt rfl
        have hvd : ∀ k, v.ownBlock = some k → k ≠ w.heap.size + 1 + 1 + 1 + 1 := fun k hk e => by
          rcases own3.2 with ⟨rfl, _⟩ | ⟨gg, _, _, rfl, _, hgg, _⟩
          · cases hk
          · cases hk
            subst e
            rw [bd3] at hgg
            cases hgg
        have NX := Lib.hid (fun (W' : World) (v' : Value) => CutInv.next (W' := W') (x := (x, g)) (v := v) (v' := v') HI2.out hT2 hvo (fun k hk => (own3.lt k hk).1) (fun k hk => ⟨hvne k hk _ _ _ be3 (by decide), hvne k hk _ _ _ bp3 (by decide)⟩) (fun k hk => ⟨hvne k hk _ _ _ bt3 (by decide), hvne k hk _ _ _ bb3 (by decide), hvne k hk _ _ _ bm3 (by decide)⟩))
        rw [hh3.out] at NX
        dsimp only at NX
        have Hvne := Lib.hid hvne
        have Hvd := Lib.hid hvd
        have HtS := Lib.hid htS
        have Hbd3 := Lib.hid bd3
        have Hbl3 := Lib.hid bl3
        have Hbf3 := Lib.hid bf3
        have Hbo3 := Lib.hid bo3
        have Hown3 := Lib.hid own3
        have cf := bf3.cell
        have ff := bf3.frozen
        have co := bo3.cell
        have fo := bo3.frozen
        have ct := bt3.cell
        have cb := bb3.cell
        have cl := bl3.cell
        have fl := bl3.frozen
        clear d0 d1 cm bt2 bb2 bm2 bl2 bf2 bo2 own2 k3 hvne hvd htS bd3 bl3 bf3 bo3 own3 bt3 bb3 be3 bp3 bm3 hh3
        generalize (cutRun mf top bot pre).op = o at *
        generalize (cutRun mf top bot pre).from' = f at *
        generalize (cutRun mf top bot pre).out = out at *
        generalize mf (decide (0 < D0)) (decide (0 < D1)) = h at *
        have Ho : ∀ W u, Turns (fun b => b = w.heap.size + 1 + 1 + 1 + 1 + 1 + 1) W (W.setCell ⟨w.heap.size + 1 + 1 + 1 + 1 + 1 + 1, 0, none⟩ u) := fun W u => Turns.set1 _ W u
        have Hf : ∀ W u, Turns (fun b => b = w.heap.size + 1 + 1 + 1 + 1 + 1) W (W.setCell ⟨w.heap.size + 1 + 1 + 1 + 1 + 1, 0, none⟩ u) := fun W u => Turns.set1 _ W u
        have HHo := Lib.hid Ho
        have HHf := Lib.hid Hf
        clear Ho Hf
        cases h <;> cases o
        · gi_wp2
          refine NX.out _ v (HtS.out.set (Or.inr (Or.inr (Or.inr (Or.inl rfl)))) _) hLt (Hbl3.out.other (by omega) _) ?_ (fun k hk => .inl hk) (((HHo.out _ _).block _ (Array.getElem?_eq_some_iff.1 Hbd3.out).1 (by omega)).trans Hbd3.out) (Hbf3.out.other (by omega) _) (Hbo3.out.set _)
          exact (HHo.out _ _).owns Hown3.out (fun k hk => Hvne.out k hk _ _ _ Hbo3.out (by decide))
        · obtain ⟨i0, hi, hz0, hz1, hz2⟩ := info_parts rc_info
          gi_wp2_with (gi_at_builtin; refine wpListIn_append_mine _ rfl _ _ 22 rfl w.heap.size 37 i0 _ 4 32 Tryz.underlying22 hi hz0 hz1 hz2 rfl (by decide) _ _ _ rfl (Hown3.out.alloc _) (some ⟨w3.heap.size, 0, none⟩) 1 1 (encR ⟨f, top, x - f, bot - top⟩) rfl rfl ?c1 ?c2 ?c3 ?c4 ?c5 ?_)
          case c1 => exact .inr ⟨_, rfl, fun j u hu => by simpa using cells_new w3 _ _ j u hu⟩
          case c2 => intro u hu; simp [encR] at hu; rcases hu with rfl | rfl | rfl | rfl <;> rfl
          case c3 => simp only [maxLen]; omega
          case c4 => omega
          case c5 => have := Hbl3.out.lt; simp; omega
          intro v' w4 hown' hgrow hpl
          obtain ⟨g', cap4, rfl⟩ := ownsRow_succ hown'
          have hbl4 : Boxed w4 (w.heap.size + 1 + 1 + 1) 22 v := (Hbl3.out.alloc _).kept hgrow (fun e => Hvne.out _ e.symm _ _ _ Hbl3.out (by decide) rfl)
          have hbo4 : Boxed w4 (w.heap.size + 1 + 1 + 1 + 1 + 1 + 1) 4 (.bool true) := (Hbo3.out.alloc _).kept hgrow (fun e => Hvne.out _ e.symm _ _ _ Hbo3.out (by decide) rfl)
          have hbf4 : Boxed w4 (w.heap.size + 1 + 1 + 1 + 1 + 1) 3 (.int .i64 f) := (Hbf3.out.alloc _).kept hgrow (fun e => Hvne.out _ e.symm _ _ _ Hbf3.out (by decide) rfl)
          have hbd4 : w4.heap[w.heap.size + 1 + 1 + 1 + 1]? = some (.cells #[.int .i64 D0, .int .i64 D1] 120) := (hgrow.block _ (by have := (Array.getElem?_eq_some_iff.1 Hbd3.out).1; simp; omega) (fun e => Hvd.out _ e.symm rfl)).trans ((Below.heap_alloc _ _ _ (Array.getElem?_eq_some_iff.1 Hbd3.out).1).trans Hbd3.out)
          have Hbl4 := Lib.hid hbl4
          have Hbo4 := Lib.hid hbo4
          have Hbf4 := Lib.hid hbf4
          have Hbd4 := Lib.hid hbd4
          have HtS4 := Lib.hid ((HtS.out.alloc _).trans (Turns.of_grown hgrow (fun i e => Or.inr (Or.inr (Or.inr (Or.inr e))))))
          have Hpl := Lib.hid hpl
          have Hown4 := Lib.hid hown'
          have cl4 := hbl4.cell
          have fl4 := hbl4.frozen
          have co4 := hbo4.cell
          have fo4 := hbo4.frozen
          have ne4 : ∀ B t u, Boxed w4 B t u → t ≠ 37 → g' ≠ B := fun B t u hB htt e => by
            rcases hown'.2 with ⟨h, _⟩ | ⟨gg, _, _, h, _, hgg, _⟩
            · cases h
            · cases h
              subst e
              rw [show w4.heap[g']? = _ from hB] at hgg
              cases hgg
              exact htt rfl
          have Hne4 := Lib.hid ne4
          have lo : w.heap.size + 1 + 1 + 1 ≠ w.heap.size + 1 + 1 + 1 + 1 + 1 + 1 := by omega
          clear hbl4 hbo4 hbf4 hbd4 hpl hown' hgrow ne4
          gi_wp2
          refine NX.out _ _ ((HtS4.out.set (Or.inl rfl) _).set (Or.inr (Or.inr (Or.inr (Or.inl rfl)))) _) hLt ((Hbl4.out.set _).other (by omega) _) ?_ (fun k hk => by
              rcases Hpl.out k hk with h | h
              · exact .inl h
              · refine .inr ?_
                have h1 := HtS.out.size
                omega)
            (((HHo.out _ _).block _ (Nat.lt_of_lt_of_le (Array.getElem?_eq_some_iff.1 Hbd4.out).1 (Turns.set1 _ _ _).size) (by omega)).trans (((Turns.set1 _ _ _).block _ (Array.getElem?_eq_some_iff.1 Hbd4.out).1 (by omega)).trans Hbd4.out)) ((Hbf4.out.other (by omega) _).other (by omega) _) ((Hbo4.out.other (by omega) _).set _)
          have := (HHo.out _ (.bool false)).owns ((Turns.set1 (w.heap.size + 1 + 1 + 1) _ (.slice (some ⟨g', 0, none⟩) (out.length + 1) cap4)).owns Hown4.out (fun k hk e => by cases hk; exact Hne4.out _ _ _ Hbl4.out (by decide) e)) (fun k hk e => by cases hk; exact Hne4.out _ _ _ Hbo4.out (by decide) e)
          simpa [flatR] using this
        · gi_wp2
          refine NX.out _ v ((HtS.out.set (Or.inr (Or.inr (Or.inl rfl))) _).set (Or.inr (Or.inr (Or.inr (Or.inl rfl)))) _) hLt ((Hbl3.out.other (by omega) _).other (by omega) _) ?_ (fun k hk => .inl hk)
            (((HHo.out _ _).block _ (Nat.lt_of_lt_of_le (Array.getElem?_eq_some_iff.1 Hbd3.out).1 (HHf.out _ _).size) (by omega)).trans (((HHf.out _ _).block _ (Array.getElem?_eq_some_iff.1 Hbd3.out).1 (by omega)).trans Hbd3.out)) ((Hbf3.out.set _).other (by omega) _) ((Hbo3.out.other (by omega) _).set _)
          exact (HHo.out _ _).owns ((HHf.out _ _).owns Hown3.out (fun k hk => Hvne.out k hk _ _ _ Hbf3.out (by decide))) (fun k hk => Hvne.out k hk _ _ _ Hbo3.out (by decide))
        · gi_wp2
          refine NX.out _ v (HtS.out.set (Or.inr (Or.inr (Or.inr (Or.inl rfl)))) _) hLt (Hbl3.out.other (by omega) _) ?_ (fun k hk => .inl hk) (((HHo.out _ _).block _ (Array.getElem?_eq_some_iff.1 Hbd3.out).1 (by omega)).trans Hbd3.out) (Hbf3.out.other (by omega) _) (Hbo3.out.set _)
          exact (HHo.out _ _).owns Hown3.out (fun k hk => Hvne.out k hk _ _ _ Hbo3.out (by decide))
  case done =>
    intro Tp Wq W hI htt hTp hlt hD
    rw [hsz] at htt hTp hlt
    have hI2 := hI.turns (T := Tp) htt (fun b hb => hTp b hb) (fun _ _ h => h)
    obtain ⟨v, bl4, own4, hvo⟩ := hI2.bl
    have hB4 := hI2.below
    have cl4 := bl4.cell
    have HI := Lib.hid hI
    have Hown4 := Lib.hid own4
    have HD := Lib.hid hD
    have Hbl4 := Lib.hid bl4
    clear hI htt own4 hD bl4 hI2 bt bb bm bl bd bf bo be bp hseq
    dsimp only
    go_wp2
    refine ⟨by simp, .inl ⟨_, _, rfl, run_takeDeferred HD.out, ?_⟩⟩
    refine ⟨_, results_tmp rfl _ _ _, _, rfl, ?_, ?_⟩
    · exact ownsRow_putObj Hown4.out _ HD.out rfl
    · exact hB4.trans (belowK_b (w := w) (Nat.le_refl _) W _ _ _ (by omega) HD.out rfl rfl)
  case stop => exact fun _ _ _ _ _ _ h => h.elim

end Go.Proofs.YtajoipmchgabfaaGreat
