/- huff's mayBe, singles, count. -/
import Derived.Test.YtlbhgackpjfhaaaHufI
namespace Go.Proofs.Ytlbhgackpjfhaaa
open Go.RowKit

/-- Ints as cells. -/
def encZ (i : Int) : List Value := [.int .i64 i]
theorem encZ_len (i : Int) : (encZ i).length = 1 := rfl

theorem RowAt.int {W : World} {p : Option Addr} {xs : List Int} (h : RowAt encZ 1 W p xs) {k : Nat} (hk : k < xs.length) : ∃ b off, p = some ⟨b, off, none⟩ ∧ W.cell? ⟨b, off + k, none⟩ = some (.int .i64 xs[k]) := by
  rcases h with ⟨-, rfl⟩ | ⟨b, off, rfl, -, h⟩
  · simp at hk
  · refine ⟨b, off, rfl, ?_⟩
    have := h k xs[k] (List.getElem?_eq_getElem hk) 0 _ rfl
    simpa using this

def okF (f : Int) : Bool := decide (0 ≤ f ∧ f ≤ 1099511627776)
def mayB (fs : List Int) (limit : Int) : Bool := decide (1 ≤ limit ∧ limit ≤ 15 ∧ fs.length ≤ 320) && fs.all okF

theorem all_at {fs : List Int} {k : Nat} (hk : k < fs.length) (h : (fs.take k).all okF = true) : (okF fs[k] = false → fs.all okF = false) ∧ (okF fs[k] = true → (fs.take (k + 1)).all okF = true) := by
  refine ⟨fun h1 => ?_, fun h1 => ?_⟩
  · rw [Bool.eq_false_iff]
    intro h2
    have := List.all_eq_true.1 h2 fs[k] (List.getElem_mem hk)
    rw [h1] at this; cases this
  · rw [List.take_succ_eq_append_getElem hk, List.all_append, h]
    simp [h1]

set_option maxHeartbeats 1000000 in
theorem mayBe_any (fs : List Int) (v : Value) (limit : Int) (w : World) (hv : Row encZ 1 w v fs) :
    Calls Try.prog 34 #[v, .int .i64 limit] w fun e w' => e = .returned (.bool (mayB fs limit)) ∧ w' = w := by
  have hlen := hv.len
  obtain ⟨p, c, rfl, -, -, hrow⟩ := hv
  have Hrow := Lib.hid hrow
  obtain ⟨bb, hbb⟩ : ∃ bb, mayB fs limit = bb := ⟨_, rfl⟩
  rw [hbb]
  have Hbb := Lib.hid hbb
  clear hrow hbb
  by_cases hok : 1 ≤ limit ∧ limit ≤ 15 ∧ fs.length ≤ 320
  · obtain ⟨h1, h2, h3⟩ := hok
    have e1 : ¬ limit < 1 := by omega
    have e2 : ¬ 15 < limit := by omega
    have e3 : ¬ (320 : Int) < fs.length := by omega
    go_enter Try.func34, Try.ntmps34
    go_wp2
    go_loop [20] (fun kv => ∃ (k : Nat), kv = .int .i64 (k : Int) ∧ k ≤ fs.length ∧ Hid ((fs.take k).all okF = true)) (fun kv => fs.length - (intOf kv).toNat)
    case atStart => exact ⟨0, rfl, Nat.zero_le _, Lib.hid (by simp)⟩
    case round =>
      obtain ⟨k, rfl, hk, Hk⟩ := hrel
      by_cases hlt : k < fs.length
      · obtain ⟨g, off, rfl, hcell⟩ := Hrow.out.int hlt
        have Hat := Lib.hid (all_at hlt Hk.out)
        obtain ⟨x, hx⟩ : ∃ x, fs[k] = x := ⟨_, rfl⟩
        rw [hx] at hcell Hat
        have k0 : (0 : Int) ≤ (k : Int) := by omega
        have k1 : (k : Int) < (fs.length : Int) := by omega
        clear hx
        by_cases hx1 : x < 0
        · have hf : bb = false := by
            rw [← Hbb.out]
            unfold mayB
            rw [Hat.out.1 (by unfold okF; simp; omega)]
            simp
          go_wp2
          go_ret
          exact ⟨rfl, rfl⟩
        · by_cases hx2 : 1099511627776 < x
          · have hf : bb = false := by
              rw [← Hbb.out]
              unfold mayB
              rw [Hat.out.1 (by unfold okF; simp; omega)]
              simp
            go_wp2
            go_ret
            exact ⟨rfl, rfl⟩
          · have Hk2 := Lib.hid (Hat.out.2 (by unfold okF; simp; omega))
            go_wp2
            go_round
            case rel => exact ⟨k + 1, by go_num, by omega, Hk2⟩
            case measure => simp [intOf]; omega
      · obtain rfl : k = fs.length := by omega
        have hf : bb = true := by
          rw [← Hbb.out]
          unfold mayB
          have := Hk.out
          rw [List.take_length] at this
          rw [this]
          simp; omega
        go_wp2
        go_ret
        exact ⟨rfl, rfl⟩
  · have hf : bb = false := by
      rw [← Hbb.out]
      unfold mayB
      simp [hok]
    clear Hbb
    subst hf
    by_cases e1 : limit < 1
    · go_enter Try.func34, Try.ntmps34
      go_wp2
      go_ret
      exact ⟨rfl, rfl⟩
    · by_cases e2 : 15 < limit
      · go_enter Try.func34, Try.ntmps34
        go_wp2
        go_ret
        exact ⟨rfl, rfl⟩
      · have e3 : (320 : Int) < fs.length := by omega
        go_enter Try.func34, Try.ntmps34
        go_wp2
        go_ret
        exact ⟨rfl, rfl⟩

/-- The frequency of a symbol. -/
def fq (fs : List Int) (i : Nat) : Nat := (fs.getD i 0).toNat

/-- One step of each of the first k symbols that is to have a code. -/
def leaves (f : Nat → Nat) : Nat → List Tr
  | 0 => []
  | k + 1 => leaves f k ++ (if 0 < f k then [.leaf k (f k)] else [])
def syms (f : Nat → Nat) : Nat → List Nat
  | 0 => []
  | k + 1 => syms f k ++ (if 0 < f k then [k] else [])

theorem Lv.snoc {s c : Nat} : ∀ {ls : List Tr} {ss : List Nat}, Lv ls ss → Lv (ls ++ [.leaf s c]) (ss ++ [s])
  | [], [], _ => ⟨rfl, trivial⟩
  | .leaf _ _ :: _, _ :: _, ⟨h1, h2⟩ => ⟨h1, Lv.snoc h2⟩
  | [], _ :: _, h => h.elim
  | .leaf _ _ :: _, [], h => h.elim
  | .node _ _ :: _, _, h => by cases h

theorem leaves_lv (f : Nat → Nat) : ∀ k, Lv (leaves f k) (syms f k)
  | 0 => trivial
  | k + 1 => by
    unfold leaves syms
    by_cases h : 0 < f k
    · rw [if_pos h, if_pos h]; exact (leaves_lv f k).snoc
    · rw [if_neg h, if_neg h, List.append_nil, List.append_nil]; exact leaves_lv f k
theorem syms_mem (f : Nat → Nat) : ∀ k, ∀ i ∈ syms f k, i < k ∧ 0 < f i
  | 0, i, h => by cases h
  | k + 1, i, h => by
    unfold syms at h
    rcases List.mem_append.1 h with h | h
    · have := syms_mem f k i h
      exact ⟨by omega, this.2⟩
    · by_cases h0 : 0 < f k
      · rw [if_pos h0] at h
        obtain rfl : i = k := by simpa using h
        exact ⟨by omega, h0⟩
      · rw [if_neg h0] at h; cases h
theorem syms_up (f : Nat → Nat) : ∀ k, (syms f k).Pairwise (· < ·)
  | 0 => List.Pairwise.nil
  | k + 1 => by
    unfold syms
    rw [List.pairwise_append]
    refine ⟨syms_up f k, ?_, fun a ha b hb => ?_⟩
    · by_cases h : 0 < f k <;> simp [h]
    · have h1 := (syms_mem f k a ha).1
      by_cases h0 : 0 < f k
      · rw [if_pos h0] at hb
        obtain rfl : b = k := by simpa using hb
        exact h1
      · rw [if_neg h0] at hb; cases hb
theorem leaves_fits (f : Nat → Nat) : ∀ k, ∀ t ∈ leaves f k, t.Fits k f ∧ ¬ t.isNode ∧ ∃ s, s < k ∧ t = .leaf s (f s)
  | 0, t, h => by cases h
  | k + 1, t, h => by
    unfold leaves at h
    rcases List.mem_append.1 h with h | h
    · obtain ⟨_, _, s, hs, rfl⟩ := leaves_fits f k t h
      exact ⟨⟨by omega, rfl⟩, (fun h => h), s, by omega, rfl⟩
    · by_cases h0 : 0 < f k
      · rw [if_pos h0] at h
        obtain rfl : t = .leaf k (f k) := by simpa using h
        exact ⟨⟨by omega, rfl⟩, (fun h => h), k, by omega, rfl⟩
      · rw [if_neg h0] at h; cases h
theorem leaves_cost (f : Nat → Nat) : ∀ k, (leaves f k).map Tr.cost = ((List.range k).map f).filter fun c => decide (0 < c)
  | 0 => rfl
  | k + 1 => by
    unfold leaves
    rw [List.map_append, leaves_cost f k, List.range_succ, List.map_append, List.filter_append]
    congr 1
    by_cases h : 0 < f k <;> simp [h, Tr.cost]
theorem leaves_len (f : Nat → Nat) (k : Nat) : (leaves f k).length = many k f := by
  have := congrArg List.length (leaves_cost f k)
  rw [List.length_map, coins_len] at this
  exact this

end Go.Proofs.Ytlbhgackpjfhaaa
