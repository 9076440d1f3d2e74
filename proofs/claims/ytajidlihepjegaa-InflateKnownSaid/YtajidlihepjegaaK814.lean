/- Several texts in one, each with its own head. -/
import Derived.Test.YtajidlihepjegaaK813
/- huff's mayBe, singles, count. -/
namespace Go.Proofs.Ytajidlihepjegaa
open Go.RowKit

/-- Ints as cells. -/
def encZ (i : Int) : List Value := [.int .i64 i]
theorem encZ_len (i : Int) : (encZ i).length = 1 := rfl

theorem RowAt.int {W : World} {p : Option Addr} {xs : List Int} (h : RowAt encZ 1 W p xs) {k : Nat} (hk : k < xs.length) : ∃ b off, p = some ⟨b, off, none⟩ ∧ W.cell? ⟨b, off + k, none⟩ = some (.int .i64 xs[k]) := by
  rcases h with ⟨-, rfl⟩ | ⟨b, off, rfl, -, h⟩
  · simp at hk
  · refine ⟨b, off, rfl, ?_⟩
    have := h k xs[k] (List.getElem?_eq_getElem hk) 0 _ rfl
    simpa using this

def okF (f : Int) : Bool := decide (0 ≤ f ∧ f ≤ 1099511627776)
def mayB (fs : List Int) (limit : Int) : Bool := decide (1 ≤ limit ∧ limit ≤ 15 ∧ fs.length ≤ 320) && fs.all okF

theorem all_at {fs : List Int} {k : Nat} (hk : k < fs.length) (h : (fs.take k).all okF = true) : (okF fs[k] = false → fs.all okF = false) ∧ (okF fs[k] = true → (fs.take (k + 1)).all okF = true) := by
  refine ⟨fun h1 => ?_, fun h1 => ?_⟩
  · rw [Bool.eq_false_iff]
    intro h2
    have := List.all_eq_true.1 h2 fs[k] (List.getElem_mem hk)
    rw [h1] at this; cases this
  · rw [List.take_succ_eq_append_getElem hk, List.all_append, h]
    simp [h1]

set_option maxHeartbeats 1000000 in
theorem mayBe_any (fs : List Int) (v : Value) (limit : Int) (w : World) (hv : Row encZ 1 w v fs) :
    Calls Try.prog 46 #[v, .int .i64 limit] w fun e w' => e = .returned (.bool (mayB fs limit)) ∧ w' = w := by
  have hlen := hv.len
  obtain ⟨p, c, rfl, -, -, hrow⟩ := hv
  have Hrow := Lib.hid hrow
  obtain ⟨bb, hbb⟩ : ∃ bb, mayB fs limit = bb := ⟨_, rfl⟩
  rw [hbb]
  have Hbb := Lib.hid hbb
  clear hrow hbb
  by_cases hok : 1 ≤ limit ∧ limit ≤ 15 ∧ fs.length ≤ 320
  · obtain ⟨h1, h2, h3⟩ := hok
    have e1 : ¬ limit < 1 := by omega
    have e2 : ¬ 15 < limit := by omega
    have e3 : ¬ (320 : Int) < fs.length := by omega
    go_enter Try.func46, Try.ntmps46
    go_wp2
    go_loop [20] (fun kv => ∃ (k : Nat), kv = .int .i64 (k : Int) ∧ k ≤ fs.length ∧ Hid ((fs.take k).all okF = true)) (fun kv => fs.length - (intOf kv).toNat)
    case atStart => exact ⟨0, rfl, Nat.zero_le _, Lib.hid (by simp)⟩
    case round =>
      obtain ⟨k, rfl, hk, Hk⟩ := hrel
      by_cases hlt : k < fs.length
      · obtain ⟨g, off, rfl, hcell⟩ := Hrow.out.int hlt
        have Hat := Lib.hid (all_at hlt Hk.out)
        obtain ⟨x, hx⟩ : ∃ x, fs[k] = x := ⟨_, rfl⟩
        rw [hx] at hcell Hat
        have k0 : (0 : Int) ≤ (k : Int) := by omega
        have k1 : (k : Int) < (fs.length : Int) := by omega
        clear hx
        by_cases hx1 : x < 0
        · have hf : bb = false := by
            rw [← Hbb.out]
            unfold mayB
            rw [Hat.out.1 (by unfold okF; simp; omega)]
            simp
          go_wp2
          go_ret
          exact ⟨rfl, rfl⟩
        · by_cases hx2 : 1099511627776 < x
          · have hf : bb = false := by
              rw [← Hbb.out]
              unfold mayB
              rw [Hat.out.1 (by unfold okF; simp; omega)]
              simp
            go_wp2
            go_ret
            exact ⟨rfl, rfl⟩
          · have Hk2 := Lib.hid (Hat.out.2 (by unfold okF; simp; omega))
            go_wp2
            go_round
            case rel => exact ⟨k + 1, by go_num, by omega, Hk2⟩
            case measure => simp [intOf]; omega
      · obtain rfl : k = fs.length := by omega
        have hf : bb = true := by
          rw [← Hbb.out]
          unfold mayB
          have := Hk.out
          rw [List.take_length] at this
          rw [this]
          simp; omega
        go_wp2
        go_ret
        exact ⟨rfl, rfl⟩
  · have hf : bb = false := by
      rw [← Hbb.out]
      unfold mayB
      simp [hok]
    clear Hbb
    subst hf
    by_cases e1 : limit < 1
    · go_enter Try.func46, Try.ntmps46
      go_wp2
      go_ret
      exact ⟨rfl, rfl⟩
    · by_cases e2 : 15 < limit
      · go_enter Try.func46, Try.ntmps46
        go_wp2
        go_ret
        exact ⟨rfl, rfl⟩
      · have e3 : (320 : Int) < fs.length := by omega
        go_enter Try.func46, Try.ntmps46
        go_wp2
        go_ret
        exact ⟨rfl, rfl⟩

/-- The frequency of a symbol. -/
def fq (fs : List Int) (i : Nat) : Nat := (fs.getD i 0).toNat

/-- One step of each of the first k symbols that is to have a code. -/
def leaves (f : Nat → Nat) : Nat → List Tr
  | 0 => []
  | k + 1 => leaves f k ++ (if 0 < f k then [.leaf k (f k)] else [])
def syms (f : Nat → Nat) : Nat → List Nat
  | 0 => []
  | k + 1 => syms f k ++ (if 0 < f k then [k] else [])

theorem Lv.snoc {s c : Nat} : ∀ {ls : List Tr} {ss : List Nat}, Lv ls ss → Lv (ls ++ [.leaf s c]) (ss ++ [s])
  | [], [], _ => ⟨rfl, trivial⟩
  | .leaf _ _ :: _, _ :: _, ⟨h1, h2⟩ => ⟨h1, Lv.snoc h2⟩
  | [], _ :: _, h => h.elim
  | .leaf _ _ :: _, [], h => h.elim
  | .node _ _ :: _, _, h => by cases h

theorem leaves_lv (f : Nat → Nat) : ∀ k, Lv (leaves f k) (syms f k)
  | 0 => trivial
  | k + 1 => by
    unfold leaves syms
    by_cases h : 0 < f k
    · rw [if_pos h, if_pos h]; exact (leaves_lv f k).snoc
    · rw [if_neg h, if_neg h, List.append_nil, List.append_nil]; exact leaves_lv f k
theorem syms_mem (f : Nat → Nat) : ∀ k, ∀ i ∈ syms f k, i < k ∧ 0 < f i
  | 0, i, h => by cases h
  | k + 1, i, h => by
    unfold syms at h
    rcases List.mem_append.1 h with h | h
    · have := syms_mem f k i h
      exact ⟨by omega, this.2⟩
    · by_cases h0 : 0 < f k
      · rw [if_pos h0] at h
        obtain rfl : i = k := by simpa using h
        exact ⟨by omega, h0⟩
      · rw [if_neg h0] at h; cases h
theorem syms_up (f : Nat → Nat) : ∀ k, (syms f k).Pairwise (· < ·)
  | 0 => List.Pairwise.nil
  | k + 1 => by
    unfold syms
    rw [List.pairwise_append]
    refine ⟨syms_up f k, ?_, fun a ha b hb => ?_⟩
    · by_cases h : 0 < f k <;> simp [h]
    · have h1 := (syms_mem f k a ha).1
      by_cases h0 : 0 < f k
      · rw [if_pos h0] at hb
        obtain rfl : b = k := by simpa using hb
        exact h1
      · rw [if_neg h0] at hb; cases hb
theorem leaves_fits (f : Nat → Nat) : ∀ k, ∀ t ∈ leaves f k, t.Fits k f ∧ ¬ t.isNode ∧ ∃ s, s < k ∧ t = .leaf s (f s)
  | 0, t, h => by cases h
  | k + 1, t, h => by
    unfold leaves at h
    rcases List.mem_append.1 h with h | h
    · obtain ⟨_, _, s, hs, rfl⟩ := leaves_fits f k t h
      exact ⟨⟨by omega, rfl⟩, (fun h => h), s, by omega, rfl⟩
    · by_cases h0 : 0 < f k
      · rw [if_pos h0] at h
        obtain rfl : t = .leaf k (f k) := by simpa using h
        exact ⟨⟨by omega, rfl⟩, (fun h => h), k, by omega, rfl⟩
      · rw [if_neg h0] at h; cases h
theorem leaves_cost (f : Nat → Nat) : ∀ k, (leaves f k).map Tr.cost = ((List.range k).map f).filter fun c => decide (0 < c)
  | 0 => rfl
  | k + 1 => by
    unfold leaves
    rw [List.map_append, leaves_cost f k, List.range_succ, List.map_append, List.filter_append]
    congr 1
    by_cases h : 0 < f k <;> simp [h, Tr.cost]
theorem leaves_len (f : Nat → Nat) (k : Nat) : (leaves f k).length = many k f := by
  have := congrArg List.length (leaves_cost f k)
  rw [List.length_map, coins_len] at this
  exact this

end Go.Proofs.Ytajidlihepjegaa

/- huff's singles and count. -/
namespace Go.Proofs.Ytajidlihepjegaa
open Go.RowKit

/-- What singles' loop holds. -/
structure SgInv (N : Nat → Prop) (f : Nat → Nat) (w wr : World) (k : Nat) (v : Value) (l : List (Nat × Tr)) : Prop where
  eq : l.map Prod.snd = leaves f k
  own : wr.ownsRow w.heap.size 99 1 v l.length ((l.map Prod.fst).map ptrV)
  at' : ∀ e ∈ l, TrAt wr (fun i => N i ∧ w.heap.size ≤ i ∧ v.ownBlock ≠ some i) e.1 e.2
  below : Below w.heap.size w wr

theorem fq_at {fs : List Int} {k : Nat} (hk : k < fs.length) (h0 : 0 ≤ fs[k]) : fs[k] = ((fq fs k : Nat) : Int) := by
  unfold fq
  rw [List.getD_eq_getElem?_getD, List.getElem?_eq_getElem hk]
  simp; omega

set_option maxHeartbeats 1000000 in
theorem singles_any (N : Nat → Prop) (fs : List Int) (v : Value) (w : World) (hN : ∀ i, w.heap.size ≤ i → N i) (hv : Row encZ 1 w v fs) (hlen : fs.length ≤ 320) (hpos : ∀ f ∈ fs, 0 ≤ f) :
    Calls Try.prog 47 #[v] w fun e w' => ∃ (v' : Value) (l : List (Nat × Tr)), e = .returned v' ∧ SgInv N (fq fs) w w' fs.length v' l := by
  obtain ⟨p, c, rfl, -, -, hrow⟩ := hv
  have Hrow := Lib.hid hrow
  have Hpos := Lib.hid hpos
  have HN := Lib.hid hN
  clear hrow hpos hN
  go_enter Try.func47, Try.ntmps47
  go_wp2
  go_loopw [3, 8] (fun v kv wr => ∃ (k : Nat) (l : List (Nat × Tr)), kv = .int .i64 (k : Int) ∧ k ≤ fs.length ∧ Hid (SgInv N (fq fs) w wr k v l)) (fun _ kv _ => fs.length - (intOf kv).toNat)
  case atStart => exact ⟨0, [], rfl, Nat.zero_le _, Lib.hid ⟨rfl, World.ownsRow_nil _ _ _ _, (fun e he => by cases he), Below.refl _ _⟩⟩
  case round =>
    obtain ⟨k, l, rfl, hk, HI⟩ := hrel
    obtain ⟨pv, cv, rfl⟩ := owns_slice HI.out.own
    by_cases hlt : k < fs.length
    · obtain ⟨g, off, rfl, hcell⟩ := Hrow.out.int hlt
      have hcell2 := cell_later HI.out.below hcell
      have Hfk := Lib.hid (fq_at hlt (Hpos.out _ (List.getElem_mem hlt)))
      rw [Hfk.out] at hcell2
      obtain ⟨x, hx⟩ : ∃ x, fq fs k = x := ⟨_, rfl⟩
      rw [hx] at hcell2
      have Hx := Lib.hid hx
      have k0 : (0 : Int) ≤ (k : Int) := by omega
      have k1 : (k : Int) < (fs.length : Int) := by omega
      clear hx hcell
      by_cases hx0 : 0 < x
      · have d0 : decide (0 < x) = true := by simpa using hx0
        have hll : l.length ≤ 320 := by
          have h1 := congrArg List.length HI.out.eq
          rw [List.length_map, leaves_len] at h1
          have h2 : many k (fq fs) ≤ k := by
            unfold many
            have := sm_le (n := k) (g := fun i => if 0 < fq fs i then 1 else 0) (h := fun _ => 1) (fun i _ => by split <;> omega)
            have h3 : ∀ m, sm m (fun _ => 1) = m := fun m => by
              induction m with
              | zero => rfl
              | succ m ih => rw [sm, ih]
            rw [h3] at this
            exact this
          omega
        have hs := HI.out.below.size
        have Hown2 : Hid ((wr.alloc (.cells #[.int .i64 (x : Int), .int .i64 (k : Int), .slice none 0 0] 98)).ownsRow w.heap.size 99 1 (.slice pv l.length cv) l.length ((l.map Prod.fst).map ptrV)) := Lib.hid (HI.out.own.alloc _)
        have hs2 : w.heap.size ≤ (wr.alloc (.cells #[.int .i64 (x : Int), .int .i64 (k : Int), .slice none 0 0] 98)).heap.size := by simp; omega
        go_wp2_with (at_builtin; refine wpList_append_one _ rfl (.tmp 15) (.tmp 20) 95 rfl w.heap.size 99 _ 8 ptr_info Try.underlying95 rfl (.slice pv l.length cv) l.length ((l.map Prod.fst).map ptrV) rfl Hown2.out (ptrV wr.heap.size) _ ?n1 rfl ?n3 ?n4 hs2 ?_)
        case n1 => rw [World.size_alloc]; rfl
        case n3 => simp only [maxLen]; omega
        case n4 => omega
        intro g5 cap5 w5 hown5 ht5 hpl5
        have HI5 : Hid (SgInv N (fq fs) w w5 (k + 1) (.slice (some ⟨g5, 0, none⟩) (l.length + 1) cap5) (l ++ [(wr.heap.size, .leaf k x)])) := Lib.hid (by
          have hx' : 0 < fq fs k := by rw [Hx.out]; exact hx0
          have hlt' := HI.out.own.lt
          have hno : ∀ i, i < wr.heap.size + 1 → (Value.slice pv l.length cv).ownBlock ≠ some i → g5 ≠ i := fun i h1 h2 e => by
            rcases hpl5 with h | h
            · exact h2 (e ▸ h)
            · omega
          refine ⟨?_, ?_, fun e he => ?_, ?_⟩
          · rw [List.map_append, HI.out.eq]
            conv => rhs; unfold leaves
            rw [if_pos hx', Hx.out]; rfl
          · rw [List.length_append, List.map_append, List.map_append, List.map_map]; exact hown5
          · rcases List.mem_append.1 he with he | he
            · exact (HI.out.at' e he).keep (fun i hi hn => ⟨(ht5.block i (by simp; omega) hn.2.2).trans (Below.heap_alloc wr _ i hi), hn.1, hn.2.1, fun e => hno i (by omega) hn.2.2 (by cases e; rfl)⟩)
            · obtain rfl : e = (wr.heap.size, .leaf k x) := by simpa using he
              have hn0 : (Value.slice pv l.length cv).ownBlock ≠ some wr.heap.size := fun e => by have := (hlt' _ e).2; omega
              unfold TrAt
              exact ⟨⟨HN.out _ hs, hs, fun e => hno wr.heap.size (by omega) hn0 (by cases e; rfl)⟩, (ht5.block wr.heap.size (by simp) hn0).trans (World.alloc_heap_new _ _)⟩
          · exact HI.out.below.trans (((Below.al1 wr _).mono hs).trans (ht5.below (by simp; omega) (fun i e => (hlt' i e).1))))
        clear hown5 ht5 hpl5 hs2 hs
        go_wp2
        go_roundw
        case rel => exact ⟨k + 1, _, by go_num, by omega, HI5⟩
        case measure => simp [intOf]; omega
      · have d0 : decide (0 < x) = false := by simpa using hx0
        have HI5 : Hid (SgInv N (fq fs) w wr (k + 1) (.slice pv l.length cv) l) := Lib.hid ⟨by
          rw [HI.out.eq]
          conv => rhs; unfold leaves
          rw [Hx.out, if_neg hx0, List.append_nil], HI.out.own, HI.out.at', HI.out.below⟩
        go_wp2
        go_roundw
        case rel => exact ⟨k + 1, l, by go_num, by omega, HI5⟩
        case measure => simp [intOf]; omega
    · obtain rfl : k = fs.length := by omega
      go_wp2
      go_ret
      exact ⟨_, l, rfl, HI.out⟩

end Go.Proofs.Ytajidlihepjegaa
