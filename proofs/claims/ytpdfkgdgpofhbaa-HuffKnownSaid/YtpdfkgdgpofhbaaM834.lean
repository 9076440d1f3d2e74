/- Several texts in one, each with its own head. -/
import Derived.Test.YtpdfkgdgpofhbaaM833
import Derived.Test.YtpdfkgdgpofhbaaM826
/- The document's own answers for huff: wrong. -/
namespace Go.Proofs.Ytpdfkgdgpofhbaa
open Go.RowKit

set_option maxRecDepth 20000 in
set_option maxHeartbeats 1000000 in
theorem refWrong_any (ls : List Nat) (v : Value) (w : World) (hv : Row enc8 1 w v ls) :
    Calls Try.prog 28 #[v] w fun e w' => e = .returned (.int .i64 (chk ls)) ∧ w' = w := by
  have hlen := hv.len
  obtain ⟨p, c, rfl, -, -, hrow⟩ := hv
  have Hrow := Lib.hid hrow
  obtain ⟨r, hr⟩ : ∃ r, chk ls = r := ⟨_, rfl⟩
  rw [hr]
  have Hr := Lib.hid hr
  clear hrow hr
  by_cases h320 : 320 < ls.length
  · have e0 : (320 : Int) < ls.length := by omega
    obtain rfl : r = 1 := by rw [← Hr.out]; exact chk_long h320
    go_enter Try.func28, Try.ntmps28
    go_wp2
    go_ret
    exact ⟨rfl, rfl⟩
  · have e0 : ¬ (320 : Int) < ls.length := by omega
    go_enter Try.func28, Try.ntmps28
    go_wp2
    go_loop [3, 4, 5] (fun sv cv kv => ∃ (k m s : Nat), cv = .int .i64 (m : Int) ∧ sv = .int .i64 (s : Int) ∧ kv = .int .i64 (k : Int) ∧ k ≤ ls.length ∧ m ≤ 320 ∧ s ≤ 320 * 32768 ∧ Hid (m = many k (lq ls) ∧ s = room k 15 (lq ls) ∧ ∀ i, i < k → lq ls i ≤ 15)) (fun _ _ kv => ls.length - (intOf kv).toNat)
    case atStart => exact ⟨0, 0, 0, rfl, rfl, rfl, Nat.zero_le _, by omega, by omega, Lib.hid ⟨rfl, rfl, fun i hi => by omega⟩⟩
    case round =>
      obtain ⟨k, m, s, rfl, rfl, rfl, hk, hm, hs, HI⟩ := hrel
      by_cases hlt : k < ls.length
      · obtain ⟨g, off, rfl, hcell⟩ := Hrow.out.byte hlt
        obtain ⟨x, hx⟩ : ∃ x, lq ls k = x := ⟨_, rfl⟩
        rw [hx] at hcell
        unfold u8v at hcell
        have k0 : (0 : Int) ≤ (k : Int) := by omega
        have k1 : (k : Int) < (ls.length : Int) := by omega
        have Hx := Lib.hid hx
        clear hx
        by_cases hx15 : 15 < x
        · obtain rfl : r = 1 := by rw [← Hr.out]; exact chk_wide hlt (by rw [Hx.out]; exact hx15)
          have e1 : decide (15 < x) = true := by simpa using hx15
          go_wp2
          go_ret
          exact ⟨rfl, rfl⟩
        · have e1 : decide (15 < x) = false := by simpa using hx15
          by_cases hx0 : 0 < x
          · have e2 : decide (0 < x) = true := by simpa using hx0
            have hsh := shr_15 (n := x) (by omega)
            obtain ⟨y, hy⟩ : ∃ y, 2 ^ (15 - x) = y := ⟨_, rfl⟩
            rw [hy] at hsh
            have HI1 : Hid (m + 1 = many (k + 1) (lq ls) ∧ s + y = room (k + 1) 15 (lq ls) ∧ ∀ i, i < k + 1 → lq ls i ≤ 15) := Lib.hid (by
              obtain ⟨a1, a2, a3⟩ := HI.out
              rw [many_succ, room_succ, Hx.out, if_pos hx0, if_pos hx0, ← a1, ← a2, hy]
              refine ⟨rfl, rfl, fun i hi => ?_⟩
              rcases Nat.lt_or_ge i k with h | h
              · exact a3 i h
              · obtain rfl : i = k := by omega
                rw [Hx.out]; omega)
            have hb1 : m + 1 ≤ 320 := by rw [HI1.out.1]; have := many_le (lq ls) (k + 1); omega
            have hb2 : s + y ≤ 320 * 32768 := by
              rw [HI1.out.2.1]
              have h5 := room_le (lq ls) 15 (k + 1)
              have h6 : (2 : Nat) ^ 15 = 32768 := rfl
              rw [h6] at h5
              exact Nat.le_trans h5 (Nat.mul_le_mul_right _ (by omega))
            clear hy
            go_wp2
            go_round
            case rel => exact ⟨k + 1, m + 1, s + y, by go_num, by go_num, by go_num, by omega, hb1, hb2, HI1⟩
            case measure => simp [intOf]; omega
          · have e2 : decide (0 < x) = false := by simpa using hx0
            have HI1 : Hid (m = many (k + 1) (lq ls) ∧ s = room (k + 1) 15 (lq ls) ∧ ∀ i, i < k + 1 → lq ls i ≤ 15) := Lib.hid (by
              obtain ⟨a1, a2, a3⟩ := HI.out
              rw [many_succ, room_succ, Hx.out, if_neg hx0, if_neg hx0, ← a1, ← a2]
              refine ⟨rfl, rfl, fun i hi => ?_⟩
              rcases Nat.lt_or_ge i k with h | h
              · exact a3 i h
              · obtain rfl : i = k := by omega
                rw [Hx.out]; omega)
            go_wp2
            go_round
            case rel => exact ⟨k + 1, m, s, rfl, rfl, by go_num, by omega, hm, hs, HI1⟩
            case measure => simp [intOf]; omega
      · obtain rfl : k = ls.length := by omega
        obtain ⟨a1, a2, a3⟩ := HI.out
        have hr := Hr.out
        rw [chk_rest (by omega) a3, ← a1, ← a2] at hr
        clear a1 a2 a3
        by_cases s0 : s = 32768
        · obtain rfl : r = 0 := by rw [← hr, if_pos (.inr (.inl s0))]
          subst s0
          go_wp2
          go_ret
          exact ⟨rfl, rfl⟩
        · have q1 : ((s : Int) == 32768) = false := by simp; omega
          by_cases m0 : m = 0
          · obtain rfl : r = 0 := by rw [← hr, if_pos (.inl m0)]
            subst m0
            go_wp2
            go_ret
            exact ⟨rfl, rfl⟩
          · have q0 : ((m : Int) == 0) = false := by simp; omega
            by_cases m1 : m = 1
            · subst m1
              by_cases s1 : s = 16384
              · obtain rfl : r = 0 := by rw [← hr, if_pos (.inr (.inr ⟨rfl, s1⟩))]
                subst s1
                go_wp2
                go_ret
                exact ⟨rfl, rfl⟩
              · have q2 : ((s : Int) == 16384) = false := by simp; omega
                obtain rfl : r = 60 := by
                  rw [← hr, if_neg]
                  omega
                go_wp2
                go_ret
                exact ⟨rfl, rfl⟩
            · have q2 : ((m : Int) == 1) = false := by simp; omega
              obtain rfl : r = 60 := by
                rw [← hr, if_neg]
                omega
              go_wp2
              go_ret
              exact ⟨rfl, rfl⟩

end Go.Proofs.Ytpdfkgdgpofhbaa

/- The document's order of codes and their rows of bits (plain), and an append of a pair. -/
namespace Go.Proofs.Ytpdfkgdgpofhbaa
open Go.RowKit

/-- The first j bits of a number of n bits, the highest first. -/
def brow (n x j : Nat) : List Bool := (List.range j).map fun i => decide (x / 2 ^ (n - 1 - i) % 2 = 1)
theorem brow_snoc (n x j : Nat) : brow n x (j + 1) = brow n x j ++ [decide (x / 2 ^ (n - 1 - j) % 2 = 1)] := by simp [brow, List.range_succ]
theorem brow_len (n x j : Nat) : (brow n x j).length = j := by simp [brow]

/-- The symbols ahead of k whose codes have n bits. -/
def sy (f : Nat → Nat) (n : Nat) : Nat → List Nat
  | 0 => []
  | k + 1 => sy f n k ++ (if f k = n then [k] else [])
/-- The symbols whose codes have at most n bits, in the codes' order. -/
def al (f : Nat → Nat) (N : Nat) : Nat → List Nat
  | 0 => []
  | n + 1 => al f N n ++ sy f (n + 1) N
/-- The symbols that are told ahead of the symbol k of length n + 1. -/
def tl (f : Nat → Nat) (N n k : Nat) : List Nat := al f N n ++ sy f (n + 1) k

theorem tl_zero (f : Nat → Nat) (N : Nat) : tl f N 0 0 = [] := rfl
theorem tl_next (f : Nat → Nat) (N n : Nat) : tl f N n N = tl f N (n + 1) 0 := by simp [tl, al, sy]
theorem tl_skip {f : Nat → Nat} {N n k : Nat} (h : f k ≠ n + 1) : tl f N n (k + 1) = tl f N n k := by simp [tl, sy, h]
theorem tl_hand {f : Nat → Nat} {N n k : Nat} (h : f k = n + 1) : tl f N n (k + 1) = tl f N n k ++ [k] := by simp [tl, sy, h]
theorem sy_mem {f : Nat → Nat} {n i : Nat} : ∀ {k : Nat}, i ∈ sy f n k → f i = n ∧ i < k
  | 0, h => by simp [sy] at h
  | k + 1, h => by
    unfold sy at h
    rcases List.mem_append.1 h with h | h
    · have := sy_mem h; exact ⟨this.1, by omega⟩
    · split at h
      · rename_i hk
        obtain rfl := List.mem_singleton.1 h
        exact ⟨hk, by omega⟩
      · cases h
theorem al_mem {f : Nat → Nat} {N i : Nat} : ∀ {n : Nat}, i ∈ al f N n → 0 < f i ∧ f i ≤ n ∧ i < N
  | 0, h => by simp [al] at h
  | n + 1, h => by
    rcases List.mem_append.1 h with h | h
    · have := al_mem h; omega
    · have := sy_mem h; omega
theorem sy_len (f : Nat → Nat) (n : Nat) : ∀ k, (sy f n k).length ≤ k
  | 0 => by simp [sy]
  | k + 1 => by
    have := sy_len f n k
    unfold sy
    rw [List.length_append]
    split <;> simp <;> omega
theorem al_len (f : Nat → Nat) (N : Nat) : ∀ n, (al f N n).length ≤ n * N
  | 0 => by simp [al]
  | n + 1 => by
    have h1 := al_len f N n
    have h2 := sy_len f (n + 1) N
    rw [al, List.length_append, Nat.succ_mul]; omega

theorem nx_skip {f : Nat → Nat} {N n k : Nat} (h : f k ≠ n + 1) : nx f N n (k + 1) = nx f N n k := by unfold nx; rw [cn_succ, if_neg h]; omega
theorem nx_hand {f : Nat → Nat} {N n k : Nat} (h : f k = n + 1) : nx f N n (k + 1) = nx f N n k + 1 := by unfold nx; rw [cn_succ, if_pos h]; omega
theorem nx_next (f : Nat → Nat) (N n : Nat) : nx f N (n + 1) 0 = nx f N n N * 2 := by
  unfold nx
  rw [en]
  simp [cn, sm]

/-- How the last number that was told and its length stand to the next one. -/
structure NI (f : Nat → Nat) (N n k next last : Nat) : Prop where
  no : tl f N n k = [] → next = 0 ∧ nx f N n k = 0
  some : tl f N n k ≠ [] → last ≤ n + 1 ∧ (next + 1) * 2 ^ (n + 1 - last) = nx f N n k
theorem NI.start (f : Nat → Nat) (N : Nat) : NI f N 0 0 0 0 := ⟨fun _ => ⟨rfl, by simp [nx, en, cn, sm]⟩, fun h => absurd (tl_zero f N) h⟩
theorem NI.skip {f : Nat → Nat} {N n k next last : Nat} (h : NI f N n k next last) (hk : f k ≠ n + 1) : NI f N n (k + 1) next last := by
  refine ⟨?_, ?_⟩
  · rw [tl_skip hk, nx_skip hk]; exact h.no
  · rw [tl_skip hk, nx_skip hk]; exact h.some
theorem NI.hand {f : Nat → Nat} {N n k : Nat} (hk : f k = n + 1) : NI f N n (k + 1) (nx f N n k) (n + 1) := by
  refine ⟨fun h => ?_, fun _ => ⟨Nat.le_refl _, ?_⟩⟩
  · rw [tl_hand hk] at h; simp at h
  · rw [Nat.sub_self, nx_hand hk]; omega
theorem NI.next {f : Nat → Nat} {N n next last : Nat} (h : NI f N n N next last) : NI f N (n + 1) 0 next last := by
  refine ⟨?_, ?_⟩
  · rw [← tl_next, nx_next]
    intro e
    obtain ⟨a, b⟩ := h.no e
    exact ⟨a, by rw [b]⟩
  · rw [← tl_next, nx_next]
    intro e
    obtain ⟨a, b⟩ := h.some e
    refine ⟨by omega, ?_⟩
    rw [show n + 1 + 1 - last = (n + 1 - last) + 1 by omega, Nat.pow_succ, ← Nat.mul_assoc, b]

/-- append of one pair, which lies in a new block. -/
theorem wpList_append_two {P : Program} (w : World) {ops : Array Oper} {rest : List Oper} {o : Oper} {a : Act} {Q : Exit → Act → World → Prop} (hgd : o.guard = none) (s x : Operand) (t : TypeId)
    (ho : o.op = .call { callee := .builtin .append, args := #[s, x], argTypes := #[t, t] })
    (base : Nat) (e : TypeId) (z : Value) (bytes : Nat) (hinfo : (P.info? e).map (fun i => (i.zero, i.size, i.bytes)) = some (some z, 2, bytes)) (ht : P.underlying t = some (.slice e)) (hzs : z.cells.size = 2)
    (v : Value) (n : Nat) (xs : List Value) (hs : a.eval s = v) (hown : w.ownsRow base e 2 v n xs) (u u2 : Value) (te : TypeId) (hx : a.eval x = .slice (some ⟨w.heap.size, 0, none⟩) 1 1) (hu : u.oneCell' = true) (hu2 : u2.oneCell' = true)
    (h63 : n + 1 ≤ maxLen) (hbytes : (n + 1) * bytes ≤ 140737488355328) (hbase : base ≤ w.heap.size)
    (h : ∀ g cap w', w'.ownsRow base e 2 (.slice (some ⟨g, 0, none⟩) (n + 1) cap) (n + 1) (xs ++ [u, u2]) → Turns (fun b => v.ownBlock = some b) w w' → (v.ownBlock = some g ∨ w.heap.size ≤ g) → wpList P ops Q rest (a.put o.dst (.slice (some ⟨g, 0, none⟩) (n + 1) cap)) w') :
    wpList P ops Q (o :: rest) a (w.alloc (.cells #[u, u2] te)) := by
  obtain ⟨i, hi, hz, hsz, hby⟩ := info_parts hinfo
  refine wpList_append_mine (P := P) (w.alloc (.cells #[u, u2] te)) hgd s x t ho base e i z 2 bytes ht hi hz hsz hby hzs (by decide) v n xs hs (hown.alloc _) (some ⟨w.heap.size, 0, none⟩) 1 1 [u, u2] hx rfl (.inr ⟨_, rfl, news_cells (c := [u, u2])⟩)
    (fun q hq => by
      rcases List.mem_cons.1 hq with rfl | hq
      · exact hu
      · rcases List.mem_singleton.1 hq with rfl; exact hu2) h63 hbytes (by rw [World.size_alloc]; omega) ?_
  intro v' w' h2 h3 h4
  rcases h2.2 with ⟨-, h0⟩ | ⟨g, cap, cur, rfl, -⟩
  · omega
  · refine h g cap w' h2 ?_ ?_
    · exact (Turns.of_below' (Below.al1 w _)).trans (Turns.of_grown h3 (fun _ h => h))
    · rcases h4 g rfl with h | h
      · exact .inl h
      · rw [World.size_alloc] at h
        exact .inr (by omega)

end Go.Proofs.Ytpdfkgdgpofhbaa
