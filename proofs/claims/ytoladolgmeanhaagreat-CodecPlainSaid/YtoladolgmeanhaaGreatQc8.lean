/- Several texts in one, each with its own head. -/
import Derived.Test.YtoladolgmeanhaaGreatQc7
import Derived.Test.YtoladolgmeanhaaGreatQc4
import Derived.Test.YtoladolgmeanhaaGreatQc5
/- huff's mayBe, singles, count. -/
namespace Go.Proofs.YtoladolgmeanhaaGreat
open Go.RowKit

def encZ (i : Int) : List Value := [.int .i64 i]
theorem RowAt.int {W : World} {p : Option Addr} {xs : List Int} (h : RowAt encZ 1 W p xs) {k : Nat} (hk : k < xs.length) : ∃ b off, p = some ⟨b, off, none⟩ ∧ W.cell? ⟨b, off + k, none⟩ = some (.int .i64 xs[k]) := by
  rcases h with ⟨-, rfl⟩ | ⟨b, off, rfl, -, h⟩
  · simp at hk
  · refine ⟨b, off, rfl, ?_⟩
    have := h k xs[k] (List.getElem?_eq_getElem hk) 0 _ rfl
    simpa using this
def okF (f : Int) : Bool := decide (0 ≤ f ∧ f ≤ 1099511627776)
def mayB (fs : List Int) (limit : Int) : Bool := decide (1 ≤ limit ∧ limit ≤ 15 ∧ fs.length ≤ 320) && fs.all okF
theorem all_at {fs : List Int} {k : Nat} (hk : k < fs.length) (h : (fs.take k).all okF = true) : (okF fs[k] = false → fs.all okF = false) ∧ (okF fs[k] = true → (fs.take (k + 1)).all okF = true) := by
  refine ⟨fun h1 => ?_, fun h1 => ?_⟩
  · rw [Bool.eq_false_iff]
    intro h2
    have := List.all_eq_true.1 h2 fs[k] (List.getElem_mem hk)
    rw [h1] at this; cases this
  · rw [List.take_succ_eq_append_getElem hk, List.all_append, h]
    simp [h1]
set_option maxHeartbeats 1000000 in
theorem mayBe_any (fs : List Int) (v : Value) (limit : Int) (w : World) (hv : Row encZ 1 w v fs) :
    Calls Tryz.prog 137 #[v, .int .i64 limit] w fun e w' => e = .returned (.bool (mayB fs limit)) ∧ w' = w := by
  have hlen := hv.len
  obtain ⟨p, c, rfl, -, -, hrow⟩ := hv
  have Hrow := Lib.hid hrow
  obtain ⟨bb, hbb⟩ : ∃ bb, mayB fs limit = bb := ⟨_, rfl⟩
  rw [hbb]
  have Hbb := Lib.hid hbb
  clear hrow hbb
  by_cases hok : 1 ≤ limit ∧ limit ≤ 15 ∧ fs.length ≤ 320
  · obtain ⟨h1, h2, h3⟩ := hok
    have e1 : ¬ limit < 1 := by omega
    have e2 : ¬ 15 < limit := by omega
    have e3 : ¬ (320 : Int) < fs.length := by omega
    go_enter Tryz.func137, Tryz.ntmps137
    go_wp2
    go_loop [20] (fun kv => ∃ (k : Nat), kv = .int .i64 (k : Int) ∧ k ≤ fs.length ∧ Hid ((fs.take k).all okF = true)) (fun kv => fs.length - (intOf kv).toNat)
    case atStart => exact ⟨0, rfl, Nat.zero_le _, Lib.hid (by simp)⟩
    case round =>
      obtain ⟨k, rfl, hk, Hk⟩ := hrel
      by_cases hlt : k < fs.length
      · obtain ⟨g, off, rfl, hcell⟩ := Hrow.out.int hlt
        have Hat := Lib.hid (all_at hlt Hk.out)
        obtain ⟨x, hx⟩ : ∃ x, fs[k] = x := ⟨_, rfl⟩
        rw [hx] at hcell Hat
        have k0 : (0 : Int) ≤ (k : Int) := by omega
        have k1 : (k : Int) < (fs.length : Int) := by omega
        clear hx
        by_cases hx1 : x < 0
        · have hf : bb = false := by
            rw [← Hbb.out]
            unfold mayB
            rw [Hat.out.1 (by unfold okF; simp; omega)]
            simp
          go_wp2
          go_ret
          exact ⟨rfl, rfl⟩
        · by_cases hx2 : 1099511627776 < x
          · have hf : bb = false := by
              rw [← Hbb.out]
              unfold mayB
              rw [Hat.out.1 (by unfold okF; simp; omega)]
              simp
            go_wp2
            go_ret
            exact ⟨rfl, rfl⟩
          · have Hk2 := Lib.hid (Hat.out.2 (by unfold okF; simp; omega))
            go_wp2
            go_round
            case rel => exact ⟨k + 1, by go_num, by omega, Hk2⟩
            case measure => simp [intOf]; omega
      · obtain rfl : k = fs.length := by omega
        have hf : bb = true := by
          rw [← Hbb.out]
          unfold mayB
          have := Hk.out
          rw [List.take_length] at this
          rw [this]
          simp; omega
        go_wp2
        go_ret
        exact ⟨rfl, rfl⟩
  · have hf : bb = false := by
      rw [← Hbb.out]
      unfold mayB
      simp [hok]
    clear Hbb
    subst hf
    by_cases e1 : limit < 1
    · go_enter Tryz.func137, Tryz.ntmps137
      go_wp2
      go_ret
      exact ⟨rfl, rfl⟩
    · by_cases e2 : 15 < limit
      · go_enter Tryz.func137, Tryz.ntmps137
        go_wp2
        go_ret
        exact ⟨rfl, rfl⟩
      · have e3 : (320 : Int) < fs.length := by omega
        go_enter Tryz.func137, Tryz.ntmps137
        go_wp2
        go_ret
        exact ⟨rfl, rfl⟩
def fq (fs : List Int) (i : Nat) : Nat := (fs.getD i 0).toNat
def leaves (f : Nat → Nat) : Nat → List Tr
  | 0 => []
  | k + 1 => leaves f k ++ (if 0 < f k then [.leaf k (f k)] else [])
def syms (f : Nat → Nat) : Nat → List Nat
  | 0 => []
  | k + 1 => syms f k ++ (if 0 < f k then [k] else [])
theorem Lv.snoc {s c : Nat} : ∀ {ls : List Tr} {ss : List Nat}, Lv ls ss → Lv (ls ++ [.leaf s c]) (ss ++ [s])
  | [], [], _ => ⟨rfl, trivial⟩
  | .leaf _ _ :: _, _ :: _, ⟨h1, h2⟩ => ⟨h1, Lv.snoc h2⟩
  | [], _ :: _, h => h.elim
  | .leaf _ _ :: _, [], h => h.elim
  | .node _ _ :: _, _, h => by cases h
theorem leaves_lv (f : Nat → Nat) : ∀ k, Lv (leaves f k) (syms f k)
  | 0 => trivial
  | k + 1 => by
    unfold leaves syms
    by_cases h : 0 < f k
    · rw [if_pos h, if_pos h]; exact (leaves_lv f k).snoc
    · rw [if_neg h, if_neg h, List.append_nil, List.append_nil]; exact leaves_lv f k
theorem syms_mem (f : Nat → Nat) : ∀ k, ∀ i ∈ syms f k, i < k ∧ 0 < f i
  | 0, i, h => by cases h
  | k + 1, i, h => by
    unfold syms at h
    rcases List.mem_append.1 h with h | h
    · have := syms_mem f k i h
      exact ⟨by omega, this.2⟩
    · by_cases h0 : 0 < f k
      · rw [if_pos h0] at h
        obtain rfl : i = k := by simpa using h
        exact ⟨by omega, h0⟩
      · rw [if_neg h0] at h; cases h
theorem syms_up (f : Nat → Nat) : ∀ k, (syms f k).Pairwise (· < ·)
  | 0 => List.Pairwise.nil
  | k + 1 => by
    unfold syms
    rw [List.pairwise_append]
    refine ⟨syms_up f k, ?_, fun a ha b hb => ?_⟩
    · by_cases h : 0 < f k <;> simp [h]
    · have h1 := (syms_mem f k a ha).1
      by_cases h0 : 0 < f k
      · rw [if_pos h0] at hb
        obtain rfl : b = k := by simpa using hb
        exact h1
      · rw [if_neg h0] at hb; cases hb
theorem leaves_fits (f : Nat → Nat) : ∀ k, ∀ t ∈ leaves f k, t.Fits k f ∧ ¬ t.isNode ∧ ∃ s, s < k ∧ t = .leaf s (f s)
  | 0, t, h => by cases h
  | k + 1, t, h => by
    unfold leaves at h
    rcases List.mem_append.1 h with h | h
    · obtain ⟨_, _, s, hs, rfl⟩ := leaves_fits f k t h
      exact ⟨⟨by omega, rfl⟩, (fun h => h), s, by omega, rfl⟩
    · by_cases h0 : 0 < f k
      · rw [if_pos h0] at h
        obtain rfl : t = .leaf k (f k) := by simpa using h
        exact ⟨⟨by omega, rfl⟩, (fun h => h), k, by omega, rfl⟩
      · rw [if_neg h0] at h; cases h
theorem leaves_cost (f : Nat → Nat) : ∀ k, (leaves f k).map Tr.cost = ((List.range k).map f).filter fun c => decide (0 < c)
  | 0 => rfl
  | k + 1 => by
    unfold leaves
    rw [List.map_append, leaves_cost f k, List.range_succ, List.map_append, List.filter_append]
    congr 1
    by_cases h : 0 < f k <;> simp [h, Tr.cost]
theorem leaves_len (f : Nat → Nat) (k : Nat) : (leaves f k).length = many k f := by
  have := congrArg List.length (leaves_cost f k)
  rw [List.length_map, coins_len] at this
  exact this
end Go.Proofs.YtoladolgmeanhaaGreat

/- huff's singles and count. -/
namespace Go.Proofs.YtoladolgmeanhaaGreat
open Go.RowKit

structure SgInv (N : Nat → Prop) (f : Nat → Nat) (w wr : World) (k : Nat) (v : Value) (l : List (Nat × Tr)) : Prop where
  eq : l.map Prod.snd = leaves f k
  own : wr.ownsRow w.heap.size 202 1 v l.length ((l.map Prod.fst).map ptrV)
  at' : ∀ e ∈ l, TrAt wr (fun i => N i ∧ w.heap.size ≤ i ∧ v.ownBlock ≠ some i) e.1 e.2
  below : Below w.heap.size w wr
theorem fq_at {fs : List Int} {k : Nat} (hk : k < fs.length) (h0 : 0 ≤ fs[k]) : fs[k] = ((fq fs k : Nat) : Int) := by
  unfold fq
  rw [List.getD_eq_getElem?_getD, List.getElem?_eq_getElem hk]
  simp; omega
set_option maxHeartbeats 1000000 in
theorem singles_any (N : Nat → Prop) (fs : List Int) (v : Value) (w : World) (hN : ∀ i, w.heap.size ≤ i → N i) (hv : Row encZ 1 w v fs) (hlen : fs.length ≤ 320) (hpos : ∀ f ∈ fs, 0 ≤ f) :
    Calls Tryz.prog 138 #[v] w fun e w' => ∃ (v' : Value) (l : List (Nat × Tr)), e = .returned v' ∧ SgInv N (fq fs) w w' fs.length v' l := by
  obtain ⟨p, c, rfl, -, -, hrow⟩ := hv
  have Hrow := Lib.hid hrow
  have Hpos := Lib.hid hpos
  have HN := Lib.hid hN
  clear hrow hpos hN
  go_enter Tryz.func138, Tryz.ntmps138
  go_wp2
  go_loopw [3, 8] (fun v kv wr => ∃ (k : Nat) (l : List (Nat × Tr)), kv = .int .i64 (k : Int) ∧ k ≤ fs.length ∧ Hid (SgInv N (fq fs) w wr k v l)) (fun _ kv _ => fs.length - (intOf kv).toNat)
  case atStart => exact ⟨0, [], rfl, Nat.zero_le _, Lib.hid ⟨rfl, World.ownsRow_nil _ _ _ _, (fun e he => by cases he), Below.refl _ _⟩⟩
  case round =>
    obtain ⟨k, l, rfl, hk, HI⟩ := hrel
    obtain ⟨pv, cv, rfl⟩ := owns_slice HI.out.own
    by_cases hlt : k < fs.length
    · obtain ⟨g, off, rfl, hcell⟩ := Hrow.out.int hlt
      have hcell2 := cell_later HI.out.below hcell
      have Hfk := Lib.hid (fq_at hlt (Hpos.out _ (List.getElem_mem hlt)))
      rw [Hfk.out] at hcell2
      obtain ⟨x, hx⟩ : ∃ x, fq fs k = x := ⟨_, rfl⟩
      rw [hx] at hcell2
      have Hx := Lib.hid hx
      have k0 : (0 : Int) ≤ (k : Int) := by omega
      have k1 : (k : Int) < (fs.length : Int) := by omega
      clear hx hcell
      by_cases hx0 : 0 < x
      · have d0 : decide (0 < x) = true := by simpa using hx0
        have hll : l.length ≤ 320 := by
          have h1 := congrArg List.length HI.out.eq
          rw [List.length_map, leaves_len] at h1
          have h2 : many k (fq fs) ≤ k := by
            unfold many
            have := sm_le (n := k) (g := fun i => if 0 < fq fs i then 1 else 0) (h := fun _ => 1) (fun i _ => by split <;> omega)
            have h3 : ∀ m, sm m (fun _ => 1) = m := fun m => by
              induction m with
              | zero => rfl
              | succ m ih => rw [sm, ih]
            rw [h3] at this
            exact this
          omega
        have hs := HI.out.below.size
        have Hown2 : Hid ((wr.alloc (.cells #[.int .i64 (x : Int), .int .i64 (k : Int), .slice none 0 0] 201)).ownsRow w.heap.size 202 1 (.slice pv l.length cv) l.length ((l.map Prod.fst).map ptrV)) := Lib.hid (HI.out.own.alloc _)
        have hs2 : w.heap.size ≤ (wr.alloc (.cells #[.int .i64 (x : Int), .int .i64 (k : Int), .slice none 0 0] 201)).heap.size := by simp; omega
        go_wp2_with (at_builtin; refine wpList_append_one _ rfl (.tmp 15) (.tmp 20) 198 rfl w.heap.size 202 _ 8 ptr_info Tryz.underlying198 rfl (.slice pv l.length cv) l.length ((l.map Prod.fst).map ptrV) rfl Hown2.out (ptrV wr.heap.size) _ ?n1 rfl ?n3 ?n4 hs2 ?_)
        case n1 => rw [World.size_alloc]; rfl
        case n3 => simp only [maxLen]; omega
        case n4 => omega
        intro g5 cap5 w5 hown5 ht5 hpl5
        have HI5 : Hid (SgInv N (fq fs) w w5 (k + 1) (.slice (some ⟨g5, 0, none⟩) (l.length + 1) cap5) (l ++ [(wr.heap.size, .leaf k x)])) := Lib.hid (by
          have hx' : 0 < fq fs k := by rw [Hx.out]; exact hx0
          have hlt' := HI.out.own.lt
          have hno : ∀ i, i < wr.heap.size + 1 → (Value.slice pv l.length cv).ownBlock ≠ some i → g5 ≠ i := fun i h1 h2 e => by
            rcases hpl5 with h | h
            · exact h2 (e ▸ h)
            · omega
          refine ⟨?_, ?_, fun e he => ?_, ?_⟩
          · rw [List.map_append, HI.out.eq]
            conv => rhs; unfold leaves
            rw [if_pos hx', Hx.out]; rfl
          · rw [List.length_append, List.map_append, List.map_append, List.map_map]; exact hown5
          · rcases List.mem_append.1 he with he | he
            · exact (HI.out.at' e he).keep (fun i hi hn => ⟨(ht5.block i (by simp; omega) hn.2.2).trans (Below.heap_alloc wr _ i hi), hn.1, hn.2.1, fun e => hno i (by omega) hn.2.2 (by cases e; rfl)⟩)
            · obtain rfl : e = (wr.heap.size, .leaf k x) := by simpa using he
              have hn0 : (Value.slice pv l.length cv).ownBlock ≠ some wr.heap.size := fun e => by have := (hlt' _ e).2; omega
              unfold TrAt
              exact ⟨⟨HN.out _ hs, hs, fun e => hno wr.heap.size (by omega) hn0 (by cases e; rfl)⟩, (ht5.block wr.heap.size (by simp) hn0).trans (World.alloc_heap_new _ _)⟩
          · exact HI.out.below.trans (((Below.al1 wr _).mono hs).trans (ht5.below (by simp; omega) (fun i e => (hlt' i e).1))))
        clear hown5 ht5 hpl5 hs2 hs
        go_wp2
        go_roundw
        case rel => exact ⟨k + 1, _, by go_num, by omega, HI5⟩
        case measure => simp [intOf]; omega
      · have d0 : decide (0 < x) = false := by simpa using hx0
        have HI5 : Hid (SgInv N (fq fs) w wr (k + 1) (.slice pv l.length cv) l) := Lib.hid ⟨by
          rw [HI.out.eq]
          conv => rhs; unfold leaves
          rw [Hx.out, if_neg hx0, List.append_nil], HI.out.own, HI.out.at', HI.out.below⟩
        go_wp2
        go_roundw
        case rel => exact ⟨k + 1, l, by go_num, by omega, HI5⟩
        case measure => simp [intOf]; omega
    · obtain rfl : k = fs.length := by omega
      go_wp2
      go_ret
      exact ⟨_, l, rfl, HI.out⟩
end Go.Proofs.YtoladolgmeanhaaGreat

/- huff's count: the steps of a parcel are added to the symbols' lengths. -/
namespace Go.Proofs.YtoladolgmeanhaaGreat
open Go.RowKit

def lensRow (f : Nat → Nat) (n : Nat) : List Value := (List.range n).map fun i => u8v (f i)
theorem lensRow_len (f : Nat → Nat) (n : Nat) : (lensRow f n).length = n := by simp [lensRow]
theorem lensRow_at (f : Nat → Nat) {n s : Nat} (h : s < n) : (lensRow f n)[s]? = some (u8v (f s)) := by
  unfold lensRow
  rw [List.getElem?_map, List.getElem?_eq_getElem (by simpa using h)]
  simp
theorem lensRow_congr {f g : Nat → Nat} {n : Nat} (h : ∀ i, i < n → f i = g i) : lensRow f n = lensRow g n := by
  unfold lensRow
  refine List.map_congr_left fun i hi => ?_
  rw [h i (List.mem_range.1 hi)]
theorem lensRow_set (f : Nat → Nat) {n s : Nat} (x : Nat) : (lensRow f n).set s (u8v x) = lensRow (fun i => if i = s then x else f i) n := by
  refine List.ext_getElem? (fun k => ?_)
  rw [List.getElem?_set, lensRow_len]
  by_cases hk : k < n
  · rw [lensRow_at (fun i => if i = s then x else f i) hk, lensRow_at f hk]
    by_cases h : s = k
    · subst h; simp [hk]
    · simp [h, Ne.symm h]
  · rw [List.getElem?_eq_none (by rw [lensRow_len]; omega), List.getElem?_eq_none (by rw [lensRow_len]; omega)]
    by_cases h : s = k
    · subst h; simp [hk]
    · simp [h]
def LensAt (w : World) (base g n c : Nat) (f : Nat → Nat) : Prop := w.ownsRow base 5 1 (.slice (some ⟨g, 0, none⟩) n c) n (lensRow f n)
theorem LensAt.congr {w : World} {base g n c : Nat} {f f' : Nat → Nat} (h : LensAt w base g n c f) (e : ∀ i, i < n → f i = f' i) : LensAt w base g n c f' := by
  unfold LensAt at h ⊢
  rw [← lensRow_congr e]; exact h
set_option maxHeartbeats 1000000 in
theorem count_leaf (N : Nat → Prop) (base g n c b s cs : Nat) (f : Nat → Nat) (w : World) (ht : TrAt w N b (.leaf s cs)) (hL : LensAt w base g n c f) (hs : s < n) (hf : f s + 1 ≤ 255) (hg : ¬ N g) :
    Calls Tryz.prog 140 #[ptrV b, .slice (some ⟨g, 0, none⟩) n c] w fun e w' => e = .returned (.tuple #[]) ∧ LensAt w' base g n c (fun i => f i + (Tr.leaf s cs).cnt i) ∧ Turns (fun i => i = g) w w' := by
  unfold TrAt at ht
  have hb := ht.2
  have c1 : w.cell? ⟨b, 1, none⟩ = some (.int .i64 (s : Int)) := by simp [World.cell?, hb]
  have c2 : w.cell? ⟨b, 2, none⟩ = some (.slice none 0 0) := by simp [World.cell?, hb]
  have cl : w.cell? ⟨g, s, none⟩ = some (.int .u8 (f s : Int)) := by
    rw [World.ownsRow.cellAt hL s (by omega), lensRow_at f hs]; rfl
  have fl : w.frozen? ⟨g, s, none⟩ = false := World.ownsRow.frozenAt hL s
  have hst := (World.ownsRow.stored hL s (u8v (f s + 1)))
  have HR : Hid (LensAt (w.setCell ⟨g, s, none⟩ (.int .u8 ((f s : Int) + 1))) base g n c (fun i => f i + (Tr.leaf s cs).cnt i)) := Lib.hid (by
    have h1 := hst.1
    rw [lensRow_set] at h1
    refine LensAt.congr (f := fun i => if i = s then f s + 1 else f i) h1 (fun i _ => ?_)
    by_cases e : i = s
    · subst e; simp [Tr.cnt]
    · simp [Tr.cnt, e])
  have HT : Hid (Turns (fun i => i = g) w (w.setCell ⟨g, s, none⟩ (.int .u8 ((f s : Int) + 1)))) := Lib.hid ((Turns.refl _ w).set (T := fun i => i = g) (p := ⟨g, s, none⟩) rfl _)
  obtain ⟨x, hx⟩ : ∃ x, f s = x := ⟨_, rfl⟩
  rw [hx] at cl HR HT hf
  have c3 : (w.setCell ⟨g, s, none⟩ (.int .u8 ((x : Int) + 1))).cell? ⟨b, 2, none⟩ = some (.slice none 0 0) := HT.out.cell c2 (fun e => hg (e ▸ ht.1))
  have hn1 : (s : Int) < (n : Int) := by omega
  have hn0 : (0 : Int) ≤ (s : Int) := by omega
  unfold ptrV
  clear ht hL hst hb hx
  go_enter Tryz.func140, Tryz.ntmps140
  go_wp2
  obtain ⟨W, hW⟩ : ∃ W, w.setCell ⟨g, s, none⟩ (.int .u8 ((x : Int) + 1)) = W := ⟨_, rfl⟩
  rw [hW] at HR HT c3 ⊢
  clear hW
  go_loop [26] (fun kv => kv = .int .i64 0) (fun _ => 0)
  case atStart => rfl
  case round =>
    obtain rfl := hrel
    go_wp2
    go_end0
    exact ⟨rfl, HR.out, HT.out⟩
def stepC (f : Nat → Nat) (x y : Tr) (k : Nat) : Nat → Nat := fun i => f i + (if 1 ≤ k then x.cnt i else 0) + (if 2 ≤ k then y.cnt i else 0)
structure CntInv (base g n c : Nat) (f : Nat → Nat) (x y : Tr) (w wr : World) (k : Nat) : Prop where
  lens : LensAt wr base g n c (stepC f x y k)
  turns : Turns (fun i => i = g) w wr
theorem cell_heap {w : World} {b i : Nat} {cs : Array Value} {t : TypeId} {v : Value} (h : w.heap[b]? = some (.cells cs t)) (hi : cs[i]? = some v) : w.cell? ⟨b, i, none⟩ = some v := by
  simp [World.cell?, h, hi]
set_option maxHeartbeats 2000000 in
theorem count_any (N : Nat → Prop) (base g n c : Nat) (hg : ¬ N g) (fr : Nat → Nat) : ∀ (t : Tr) (b : Nat) (f : Nat → Nat) (w : World), TrAt w N b t → LensAt w base g n c f → t.Fits n fr → (∀ i, i < n → f i + t.cnt i ≤ 255) →
    Calls Tryz.prog 140 #[ptrV b, .slice (some ⟨g, 0, none⟩) n c] w fun e w' => e = .returned (.tuple #[]) ∧ LensAt w' base g n c (fun i => f i + t.cnt i) ∧ Turns (fun i => i = g) w w'
  | .leaf s cs, b, f, w, ht, hL, hF, hf => by
    have h1 := hf s hF.1
    rw [Tr.cnt, if_pos rfl] at h1
    exact count_leaf N base g n c b s cs f w ht hL hF.1 h1 hg
  | .node x y, b, f, w, ht, hL, hF, hf => by
    have ih1 := Lib.hid (count_any N base g n c hg fr x)
    have ih2 := Lib.hid (count_any N base g n c hg fr y)
    unfold TrAt at ht
    obtain ⟨hb, q, bx, by', hq, hh, hhq, hx, hy⟩ := ht
    have c2 : w.cell? ⟨b, 2, none⟩ = some (.slice (some ⟨q, 0, none⟩) 2 2) := cell_heap hh rfl
    have d0 : w.cell? ⟨q, 0, none⟩ = some (ptrV bx) := cell_heap hhq rfl
    have d1 : w.cell? ⟨q, 1, none⟩ = some (ptrV by') := cell_heap hhq rfl
    have HX := Lib.hid hx
    have HY := Lib.hid hy
    have HL := Lib.hid hL
    have HF := Lib.hid hF
    have Hf := Lib.hid hf
    have Hq := Lib.hid (fun (e : q = g) => hg (e ▸ hq))
    unfold ptrV at d0 d1
    unfold ptrV
    clear hb hh hhq hx hy hL hF hf hq
    go_enter Tryz.func140, Tryz.ntmps140
    go_wp2
    go_loopw [26] (fun kv wr => ∃ (k : Nat), kv = .int .i64 (k : Int) ∧ k ≤ 2 ∧ Hid (CntInv base g n c f x y w wr k)) (fun kv _ => 2 - (intOf kv).toNat)
    case atStart => exact ⟨0, rfl, by omega, Lib.hid ⟨HL.out.congr (fun i _ => by simp [stepC]), Turns.refl _ _⟩⟩
    case round =>
      obtain ⟨k, rfl, hk, HI⟩ := hrel
      have hcase : k = 0 ∨ k = 1 ∨ k = 2 := by omega
      rcases hcase with rfl | rfl | rfl
      · have e0 := HI.out.turns.cell d0 Hq.out
        have Hp : Hid (TrAt wr N bx x ∧ x.Fits n fr ∧ (∀ i, i < n → stepC f x y 0 i + x.cnt i ≤ 255)) := Lib.hid ⟨HX.out.keep (fun i hi hN => ⟨HI.out.turns.block i hi (fun e => hg (e ▸ hN)), hN⟩), HF.out.1, fun i hi => by
          have := Hf.out i hi
          simp [Tr.cnt, stepC] at this ⊢; omega⟩
        go_wp2_with fail
        refine Calls.mono (ih1.out bx (stepC f x y 0) wr Hp.out.1 HI.out.lens Hp.out.2.1 Hp.out.2.2) ?_
        rintro e w1 ⟨rfl, h1, h2⟩
        have HI1 : Hid (CntInv base g n c f x y w w1 1) := Lib.hid ⟨h1.congr (fun i _ => by simp [stepC]), HI.out.turns.trans h2⟩
        clear h1 h2
        go_wp2
        go_roundw
        case rel => exact ⟨1, by go_num, by omega, HI1⟩
        case measure => simp [intOf]
      · have e0 := HI.out.turns.cell d1 Hq.out
        have Hp : Hid (TrAt wr N by' y ∧ y.Fits n fr ∧ (∀ i, i < n → stepC f x y 1 i + y.cnt i ≤ 255)) := Lib.hid ⟨HY.out.keep (fun i hi hN => ⟨HI.out.turns.block i hi (fun e => hg (e ▸ hN)), hN⟩), HF.out.2, fun i hi => by
          have := Hf.out i hi
          simp [Tr.cnt, stepC] at this ⊢; omega⟩
        go_wp2_with fail
        refine Calls.mono (ih2.out by' (stepC f x y 1) wr Hp.out.1 HI.out.lens Hp.out.2.1 Hp.out.2.2) ?_
        rintro e w1 ⟨rfl, h1, h2⟩
        have HI1 : Hid (CntInv base g n c f x y w w1 2) := Lib.hid ⟨h1.congr (fun i _ => by simp [stepC]), HI.out.turns.trans h2⟩
        clear h1 h2
        go_wp2
        go_roundw
        case rel => exact ⟨2, by go_num, by omega, HI1⟩
        case measure => simp [intOf]
      · go_wp2
        go_end0
        exact ⟨rfl, HI.out.lens.congr (fun i _ => by simp only [stepC, Tr.cnt]; simp; omega), HI.out.turns⟩
end Go.Proofs.YtoladolgmeanhaaGreat

/- huff's Lengths. -/
namespace Go.Proofs.YtoladolgmeanhaaGreat
open Go.RowKit

theorem pairT_cnt (i : Nat) : ∀ l : List Tr, l.length % 2 = 0 → cntL i (pairT l) = cntL i l
  | [], _ => by simp [pairT]
  | [_], h => by simp at h
  | a :: b :: r, h => by
    have := pairT_cnt i r (by simp only [List.length_cons] at h; omega)
    simp only [cntL, pairT, List.map_cons, List.sum_cons, Tr.cnt] at this ⊢
    omega
theorem syms_has (f : Nat → Nat) : ∀ {k i : Nat}, i < k → 0 < f i → i ∈ syms f k
  | 0, i, h, _ => by omega
  | k + 1, i, h, h0 => by
    unfold syms
    rcases Nat.lt_or_ge i k with h1 | h1
    · exact List.mem_append_left _ (syms_has f h1 h0)
    · obtain rfl : i = k := by omega
      rw [if_pos h0]
      exact List.mem_append_right _ (by simp)
theorem syms_len (f : Nat → Nat) : ∀ k, (syms f k).length = many k f
  | 0 => rfl
  | k + 1 => by
    unfold syms many
    rw [List.length_append, syms_len f k, sm]
    unfold many
    by_cases h : 0 < f k <;> simp [h]
structure LensOk (fs : List Int) (L : Nat) (g : Nat → Nat) : Prop where
  le : ∀ i, i < fs.length → g i ≤ L ∧ (0 < g i ↔ 0 < fq fs i)
  one : many fs.length (fq fs) = 1 → ∀ i, i < fs.length → g i ≤ 1
  code : 2 ≤ many fs.length (fq fs) → room fs.length L g = 2 ^ L
  least : 2 ≤ many fs.length (fq fs) → ∃ P, RowN (((List.range fs.length).map (fq fs)).filter fun c => decide (0 < c)) L P ∧ 2 * many fs.length (fq fs) - 2 ≤ P.length ∧ cost fs.length (fq fs) g = (P.take (2 * many fs.length (fq fs) - 2)).sum
theorem lens_ok {fs : List Int} {L : Nat} {P : List Tr} (hP : RowT (leaves (fq fs) fs.length) L P) (hm : 2 ≤ many fs.length (fq fs)) (hL : many fs.length (fq fs) ≤ 2 ^ L) :
    LensOk fs L (fun i => cntL i ((pairT P).take (many fs.length (fq fs) - 1))) ∧ many fs.length (fq fs) - 1 ≤ (pairT P).length := by
  obtain ⟨h1, h2, h3, h4⟩ := RowT.code (leaves_lv (fq fs) fs.length) (syms_up _ _) (fun t ht => ⟨(leaves_fits _ _ t ht).1, (leaves_fits _ _ t ht).2.1⟩) (fun i _ h0 hi => by have := (syms_mem _ _ i hi).2; omega) (leaves_cost _ _) hP hm hL
  have e : ∀ i, cntL i ((pairT P).take (many fs.length (fq fs) - 1)) = cntL i (P.take (2 * many fs.length (fq fs) - 2)) := fun i => by
    rw [pairT_take, pairT_cnt i _ (by rw [List.length_take]; omega)]
    congr 2
    omega
  have e' : (fun i => cntL i ((pairT P).take (many fs.length (fq fs) - 1))) = fun i => cntL i (P.take (2 * many fs.length (fq fs) - 2)) := funext e
  rw [e']
  have hN := hP.nums
  rw [leaves_cost] at hN
  exact ⟨⟨h2, (fun h => by omega), fun _ => h3, fun _ => ⟨_, hN, by rw [List.length_map]; exact h1, h4⟩⟩, by rw [pairT_len]; omega⟩
theorem mayB_out {fs : List Int} {L : Nat} (h : mayB fs (L : Int) = true) : 1 ≤ L ∧ L ≤ 15 ∧ fs.length ≤ 320 ∧ ∀ f ∈ fs, 0 ≤ f ∧ f ≤ 1099511627776 := by
  unfold mayB at h
  rw [Bool.and_eq_true, decide_eq_true_iff, List.all_eq_true] at h
  obtain ⟨⟨h1, h2, h3⟩, h4⟩ := h
  refine ⟨by omega, by omega, h3, fun f hf => ?_⟩
  have := h4 f hf
  unfold okF at this
  exact of_decide_eq_true this
theorem sg_len {N : Nat → Prop} {fs : List Int} {w w' : World} {v : Value} {l : List (Nat × Tr)} (h : SgInv N (fq fs) w w' fs.length v l) : l.length = many fs.length (fq fs) := by
  have := congrArg List.length h.eq
  rw [List.length_map, leaves_len] at this
  exact this
theorem pow_wrap {L : Nat} (h : L ≤ 15) : ∃ q : Nat, 2 ^ L = q ∧ wrap64 ((2 : Int) ^ L) = (q : Int) := by
  refine ⟨2 ^ L, rfl, ?_⟩
  have h1 : 2 ^ L ≤ 2 ^ 15 := Nat.pow_le_pow_right (by decide) h
  have h2 : (2 : Nat) ^ 15 = 32768 := rfl
  obtain ⟨q, hq⟩ : ∃ q, 2 ^ L = q := ⟨_, rfl⟩
  rw [cast_pow, hq]
  exact IntWalk.wrap64_in (q : Int) (by omega)
theorem made_u8 (n : Nat) : madeCells #[Value.int .u8 0] n = (lensRow (fun _ => 0) n).toArray := by
  refine Array.ext (by simp [lensRow, size_madeCells]) (fun i h1 h2 => ?_)
  simp [madeCells, lensRow, Nat.mod_one, u8v]
theorem make_u8 (n : Nat) (hn : n ≤ 1048576) (w : World) : (Instr.makeSlice 25 (.int .i64 (n : Int)) (.int .i64 (n : Int))).run Tryz.prog w = .ok (.slice (some ⟨w.heap.size, 0, none⟩) n n) (w.alloc (.cells (lensRow (fun _ => 0) n).toArray 5)) := by
  obtain ⟨i, hi, hz, hs, hb⟩ := info_parts u8_info
  have h := run_make (P := Tryz.prog) w 25 5 i _ Tryz.underlying25 hi hz .i64 .i64 (n : Int) (n : Int) (by omega) (Int.le_refl _) (by rw [hb]; omega) (by omega)
  rw [h]
  simp only [Int.toNat_natCast, hs, Nat.mul_one]
  rw [show (Value.int IntKind.u8 0).cells = #[Value.int .u8 0] from rfl, made_u8]
theorem lens_new (n : Nat) (hn : n ≤ 1048576) (w : World) : LensAt (w.alloc (.cells (lensRow (fun _ => 0) n).toArray 5)) w.heap.size w.heap.size n n (fun _ => 0) := by
  refine ⟨by rw [lensRow_len]; omega, .inr ⟨w.heap.size, n, _, rfl, Nat.le_refl _, World.alloc_heap_new _ _, Nat.le_refl _, by simp only [maxLen]; omega, by simp [lensRow_len], ?_⟩⟩
  rw [List.take_of_length_le (by simp [lensRow_len])]
structure LenInv (base g n : Nat) (ts : List Tr) (w wr : World) (k : Nat) : Prop where
  lens : LensAt wr base g n n (fun i => cntL i (ts.take k))
  turns : Turns (fun i => i = g) w wr
theorem lens_any {fs : List Int} {L : Nat} {P : List Tr} (hP : RowT (leaves (fq fs) fs.length) L P) (hL : many fs.length (fq fs) ≤ 2 ^ L) (h1 : many fs.length (fq fs) ≠ 1) :
    LensOk fs L (fun i => cntL i ((pairT P).take (many fs.length (fq fs) - 1))) ∧ many fs.length (fq fs) - 1 ≤ (pairT P).length := by
  by_cases h2 : 2 ≤ many fs.length (fq fs)
  · exact lens_ok hP h2 hL
  · have h0 : many fs.length (fq fs) = 0 := by omega
    have hs : syms (fq fs) fs.length = [] := List.eq_nil_of_length_eq_zero (by rw [syms_len, h0])
    refine ⟨⟨fun i hi => ?_, (fun h => by omega), (fun h => by omega), (fun h => by omega)⟩, by omega⟩
    have e : cntL i ((pairT P).take (many fs.length (fq fs) - 1)) = 0 := by rw [h0]; simp [cntL]
    show cntL i ((pairT P).take (many fs.length (fq fs) - 1)) ≤ L ∧ (0 < cntL i ((pairT P).take (many fs.length (fq fs) - 1)) ↔ 0 < fq fs i)
    rw [e]
    refine ⟨Nat.zero_le _, fun h => by omega, fun h => ?_⟩
    have := syms_has (fq fs) hi h
    rw [hs] at this
    cases this
end Go.Proofs.YtoladolgmeanhaaGreat

/- The document's own bits: Bits, May, Number, Bytes, Of, Put, Align, Get. -/
namespace Go.Proofs.YtoladolgmeanhaaGreat
open Go.RowKit

theorem Rw8.cells {W : World} {v : Value} {l : List Nat} (h : Rw8 W v l) : ∃ p c, v = .slice p l.length c ∧ l.length ≤ c ∧ c ≤ maxLen ∧ ∀ i (hi : i < l.length), ∃ g off, p = some ⟨g, off, none⟩ ∧ W.cell? ⟨g, off + i, none⟩ = some (.int .u8 (l[i] : Int)) := by
  obtain ⟨⟨p, c, e, h1, h2, h3⟩, -⟩ := h
  refine ⟨p, c, e, h1, h2, fun i hi => ?_⟩
  rcases h3 with ⟨-, rfl⟩ | ⟨g, off, rfl, -, h4⟩
  · simp at hi
  · have := h4 i l[i] (List.getElem?_eq_getElem hi) 0 _ rfl
    rw [Nat.mul_one, Nat.add_zero] at this
    exact ⟨g, off, rfl, this⟩
end Go.Proofs.YtoladolgmeanhaaGreat

/- huff's check, and the document's own. -/
namespace Go.Proofs.YtoladolgmeanhaaGreat
open Go.RowKit

def lq (ls : List Nat) (i : Nat) : Nat := ls.getD i 0
theorem lq_at {ls : List Nat} {k : Nat} (h : k < ls.length) : ls[k] = lq ls k := by
  unfold lq
  rw [List.getD_eq_getElem?_getD, List.getElem?_eq_getElem h]; rfl
theorem RowAt.byte {W : World} {p : Option Addr} {xs : List Nat} (h : RowAt enc8 1 W p xs) {k : Nat} (hk : k < xs.length) : ∃ b off, p = some ⟨b, off, none⟩ ∧ W.cell? ⟨b, off + k, none⟩ = some (u8v (lq xs k)) := by
  rcases h with ⟨-, rfl⟩ | ⟨b, off, rfl, -, h⟩
  · simp at hk
  · refine ⟨b, off, rfl, ?_⟩
    have := h k xs[k] (List.getElem?_eq_getElem hk) 0 _ rfl
    rw [lq_at hk] at this
    simpa using this
def chk (ls : List Nat) : Int :=
  if 320 < ls.length ∨ ∃ i, i < ls.length ∧ 15 < lq ls i then 1
  else if many ls.length (lq ls) = 0 ∨ room ls.length 15 (lq ls) = 32768 ∨ (many ls.length (lq ls) = 1 ∧ room ls.length 15 (lq ls) = 16384) then 0 else 60
theorem chk_long {ls : List Nat} (h : 320 < ls.length) : chk ls = 1 := by unfold chk; rw [if_pos (.inl h)]
theorem chk_wide {ls : List Nat} {i : Nat} (h : i < ls.length) (h2 : 15 < lq ls i) : chk ls = 1 := by unfold chk; rw [if_pos (.inr ⟨i, h, h2⟩)]
theorem chk_rest {ls : List Nat} (h : ls.length ≤ 320) (h2 : ∀ i, i < ls.length → lq ls i ≤ 15) : chk ls = if many ls.length (lq ls) = 0 ∨ room ls.length 15 (lq ls) = 32768 ∨ (many ls.length (lq ls) = 1 ∧ room ls.length 15 (lq ls) = 16384) then 0 else 60 := by
  unfold chk
  rw [if_neg]
  rintro (h3 | ⟨i, h3, h4⟩)
  · omega
  · have := h2 i h3; omega
theorem many_succ (f : Nat → Nat) (k : Nat) : many (k + 1) f = many k f + (if 0 < f k then 1 else 0) := rfl
theorem room_succ (f : Nat → Nat) (L k : Nat) : room (k + 1) L f = room k L f + (if 0 < f k then 2 ^ (L - f k) else 0) := rfl
theorem many_le (f : Nat → Nat) : ∀ k, many k f ≤ k
  | 0 => Nat.le_refl _
  | k + 1 => by
    have := many_le f k
    rw [many_succ]; split <;> omega
theorem room_le (f : Nat → Nat) (L : Nat) : ∀ k, room k L f ≤ k * 2 ^ L
  | 0 => by simp [room, sm]
  | k + 1 => by
    have h1 := room_le f L k
    have h2 : 2 ^ (L - f k) ≤ 2 ^ L := Nat.pow_le_pow_right (by decide) (by omega)
    rw [room_succ, Nat.add_mul]; split <;> omega
theorem shr_15 {n : Nat} (h : n ≤ 15) : (32768 : Int) / 2 ^ n = ((2 ^ (15 - n) : Nat) : Int) := by
  have e : (32768 : Nat) = 2 ^ (15 - n) * 2 ^ n := by rw [← Nat.pow_add, show 15 - n + n = 15 by omega]
  have : (32768 : Nat) / 2 ^ n = 2 ^ (15 - n) := by
    rw [e]; exact Nat.mul_div_cancel _ (pow_pos2 n)
  rw [← this]
  simp
set_option maxRecDepth 20000 in
set_option maxHeartbeats 1000000 in
theorem check_any (ls : List Nat) (v : Value) (w : World) (hv : Row enc8 1 w v ls) :
    Calls Tryz.prog 154 #[v] w fun e w' => e = .returned (.int .i64 (chk ls)) ∧ w' = w := by
  have hlen := hv.len
  obtain ⟨p, c, rfl, -, -, hrow⟩ := hv
  have Hrow := Lib.hid hrow
  obtain ⟨r, hr⟩ : ∃ r, chk ls = r := ⟨_, rfl⟩
  rw [hr]
  have Hr := Lib.hid hr
  clear hrow hr
  by_cases h320 : 320 < ls.length
  · have e0 : (320 : Int) < ls.length := by omega
    obtain rfl : r = 1 := by rw [← Hr.out]; exact chk_long h320
    go_enter Tryz.func154, Tryz.ntmps154
    go_wp2
    go_ret
    exact ⟨rfl, rfl⟩
  · have e0 : ¬ (320 : Int) < ls.length := by omega
    go_enter Tryz.func154, Tryz.ntmps154
    go_wp2
    go_loop [3, 4, 12] (fun cv sv kv => ∃ (k m s : Nat), cv = .int .i64 (m : Int) ∧ sv = .int .i64 (s : Int) ∧ kv = .int .i64 (k : Int) ∧ k ≤ ls.length ∧ m ≤ 320 ∧ s ≤ 320 * 32768 ∧ Hid (m = many k (lq ls) ∧ s = room k 15 (lq ls) ∧ ∀ i, i < k → lq ls i ≤ 15)) (fun _ _ kv => ls.length - (intOf kv).toNat)
    case atStart => exact ⟨0, 0, 0, rfl, rfl, rfl, Nat.zero_le _, by omega, by omega, Lib.hid ⟨rfl, rfl, fun i hi => by omega⟩⟩
    case round =>
      obtain ⟨k, m, s, rfl, rfl, rfl, hk, hm, hs, HI⟩ := hrel
      by_cases hlt : k < ls.length
      · obtain ⟨g, off, rfl, hcell⟩ := Hrow.out.byte hlt
        obtain ⟨x, hx⟩ : ∃ x, lq ls k = x := ⟨_, rfl⟩
        rw [hx] at hcell
        unfold u8v at hcell
        have k0 : (0 : Int) ≤ (k : Int) := by omega
        have k1 : (k : Int) < (ls.length : Int) := by omega
        have Hx := Lib.hid hx
        clear hx
        by_cases hx15 : 15 < x
        · obtain rfl : r = 1 := by rw [← Hr.out]; exact chk_wide hlt (by rw [Hx.out]; exact hx15)
          have e1 : decide (15 < x) = true := by simpa using hx15
          go_wp2
          go_ret
          exact ⟨rfl, rfl⟩
        · have e1 : decide (15 < x) = false := by simpa using hx15
          by_cases hx0 : 0 < x
          · have e2 : decide (0 < x) = true := by simpa using hx0
            have hsh := shr_15 (n := x) (by omega)
            obtain ⟨y, hy⟩ : ∃ y, 2 ^ (15 - x) = y := ⟨_, rfl⟩
            rw [hy] at hsh
            have HI1 : Hid (m + 1 = many (k + 1) (lq ls) ∧ s + y = room (k + 1) 15 (lq ls) ∧ ∀ i, i < k + 1 → lq ls i ≤ 15) := Lib.hid (by
              obtain ⟨a1, a2, a3⟩ := HI.out
              rw [many_succ, room_succ, Hx.out, if_pos hx0, if_pos hx0, ← a1, ← a2, hy]
              refine ⟨rfl, rfl, fun i hi => ?_⟩
              rcases Nat.lt_or_ge i k with h | h
              · exact a3 i h
              · obtain rfl : i = k := by omega
                rw [Hx.out]; omega)
            have hb1 : m + 1 ≤ 320 := by rw [HI1.out.1]; have := many_le (lq ls) (k + 1); omega
            have hb2 : s + y ≤ 320 * 32768 := by
              rw [HI1.out.2.1]
              have h5 := room_le (lq ls) 15 (k + 1)
              have h6 : (2 : Nat) ^ 15 = 32768 := rfl
              rw [h6] at h5
              exact Nat.le_trans h5 (Nat.mul_le_mul_right _ (by omega))
            clear hy
            go_wp2
            go_round
            case rel => exact ⟨k + 1, m + 1, s + y, by go_num, by go_num, by go_num, by omega, hb1, hb2, HI1⟩
            case measure => simp [intOf]; omega
          · have e2 : decide (0 < x) = false := by simpa using hx0
            have HI1 : Hid (m = many (k + 1) (lq ls) ∧ s = room (k + 1) 15 (lq ls) ∧ ∀ i, i < k + 1 → lq ls i ≤ 15) := Lib.hid (by
              obtain ⟨a1, a2, a3⟩ := HI.out
              rw [many_succ, room_succ, Hx.out, if_neg hx0, if_neg hx0, ← a1, ← a2]
              refine ⟨rfl, rfl, fun i hi => ?_⟩
              rcases Nat.lt_or_ge i k with h | h
              · exact a3 i h
              · obtain rfl : i = k := by omega
                rw [Hx.out]; omega)
            go_wp2
            go_round
            case rel => exact ⟨k + 1, m, s, rfl, rfl, by go_num, by omega, hm, hs, HI1⟩
            case measure => simp [intOf]; omega
      · obtain rfl : k = ls.length := by omega
        obtain ⟨a1, a2, a3⟩ := HI.out
        have hr := Hr.out
        rw [chk_rest (by omega) a3, ← a1, ← a2] at hr
        clear a1 a2 a3
        by_cases m0 : m = 0
        · obtain rfl : r = 0 := by rw [← hr, if_pos (.inl m0)]
          subst m0
          go_wp2
          go_ret
          exact ⟨rfl, rfl⟩
        · have q0 : ((m : Int) == 0) = false := by simp; omega
          by_cases s0 : s = 32768
          · obtain rfl : r = 0 := by rw [← hr, if_pos (.inr (.inl s0))]
            subst s0
            go_wp2
            go_ret
            exact ⟨rfl, rfl⟩
          · have q1 : ((s : Int) == 32768) = false := by simp; omega
            by_cases m1 : m = 1
            · subst m1
              by_cases s1 : s = 16384
              · obtain rfl : r = 0 := by rw [← hr, if_pos (.inr (.inr ⟨rfl, s1⟩))]
                subst s1
                go_wp2
                go_ret
                exact ⟨rfl, rfl⟩
              · have q2 : ((s : Int) == 16384) = false := by simp; omega
                obtain rfl : r = 60 := by
                  rw [← hr, if_neg]
                  omega
                go_wp2
                go_ret
                exact ⟨rfl, rfl⟩
            · have q2 : ((m : Int) == 1) = false := by simp; omega
              obtain rfl : r = 60 := by
                rw [← hr, if_neg]
                omega
              go_wp2
              go_ret
              exact ⟨rfl, rfl⟩
end Go.Proofs.YtoladolgmeanhaaGreat
