/- Several texts in one, each with its own head. -/
import Derived.Test.YtebfdoipogjpnaaGreatQd16
import Derived.Test.YtebfdoipogjpnaaGreatQd12
import Derived.Test.YtebfdoipogjpnaaGreatQd25
/- The document's own answers for huff: wrong. -/
namespace Go.Proofs.YtebfdoipogjpnaaGreat
open Go.RowKit

set_option maxRecDepth 20000 in
set_option maxHeartbeats 1000000 in
theorem refWrong_any (ls : List Nat) (v : Value) (w : World) (hv : Row enc8 1 w v ls) :
    Calls Tryz.prog 101 #[v] w fun e w' => e = .returned (.int .i64 (chk ls)) ∧ w' = w := by
  have hlen := hv.len
  obtain ⟨p, c, rfl, -, -, hrow⟩ := hv
  have Hrow := Lib.hid hrow
  obtain ⟨r, hr⟩ : ∃ r, chk ls = r := ⟨_, rfl⟩
  rw [hr]
  have Hr := Lib.hid hr
  clear hrow hr
  by_cases h320 : 320 < ls.length
  · have e0 : (320 : Int) < ls.length := by omega
    obtain rfl : r = 1 := by rw [← Hr.out]; exact chk_long h320
    go_enter Tryz.func101, Tryz.ntmps101
    go_wp2
    go_ret
    exact ⟨rfl, rfl⟩
  · have e0 : ¬ (320 : Int) < ls.length := by omega
    go_enter Tryz.func101, Tryz.ntmps101
    go_wp2
    go_loop [3, 4, 5] (fun sv cv kv => ∃ (k m s : Nat), cv = .int .i64 (m : Int) ∧ sv = .int .i64 (s : Int) ∧ kv = .int .i64 (k : Int) ∧ k ≤ ls.length ∧ m ≤ 320 ∧ s ≤ 320 * 32768 ∧ Hid (m = many k (lq ls) ∧ s = room k 15 (lq ls) ∧ ∀ i, i < k → lq ls i ≤ 15)) (fun _ _ kv => ls.length - (intOf kv).toNat)
    case atStart => exact ⟨0, 0, 0, rfl, rfl, rfl, Nat.zero_le _, by omega, by omega, Lib.hid ⟨rfl, rfl, fun i hi => by omega⟩⟩
    case round =>
      obtain ⟨k, m, s, rfl, rfl, rfl, hk, hm, hs, HI⟩ := hrel
      by_cases hlt : k < ls.length
      · obtain ⟨g, off, rfl, hcell⟩ := Hrow.out.byte hlt
        obtain ⟨x, hx⟩ : ∃ x, lq ls k = x := ⟨_, rfl⟩
        rw [hx] at hcell
        unfold u8v at hcell
        have k0 : (0 : Int) ≤ (k : Int) := by omega
        have k1 : (k : Int) < (ls.length : Int) := by omega
        have Hx := Lib.hid hx
        clear hx
        by_cases hx15 : 15 < x
        · obtain rfl : r = 1 := by rw [← Hr.out]; exact chk_wide hlt (by rw [Hx.out]; exact hx15)
          have e1 : decide (15 < x) = true := by simpa using hx15
          go_wp2
          go_ret
          exact ⟨rfl, rfl⟩
        · have e1 : decide (15 < x) = false := by simpa using hx15
          by_cases hx0 : 0 < x
          · have e2 : decide (0 < x) = true := by simpa using hx0
            have hsh := shr_15 (n := x) (by omega)
            obtain ⟨y, hy⟩ : ∃ y, 2 ^ (15 - x) = y := ⟨_, rfl⟩
            rw [hy] at hsh
            have HI1 : Hid (m + 1 = many (k + 1) (lq ls) ∧ s + y = room (k + 1) 15 (lq ls) ∧ ∀ i, i < k + 1 → lq ls i ≤ 15) := Lib.hid (by
              obtain ⟨a1, a2, a3⟩ := HI.out
              rw [many_succ, room_succ, Hx.out, if_pos hx0, if_pos hx0, ← a1, ← a2, hy]
              refine ⟨rfl, rfl, fun i hi => ?_⟩
              rcases Nat.lt_or_ge i k with h | h
              · exact a3 i h
              · obtain rfl : i = k := by omega
                rw [Hx.out]; omega)
            have hb1 : m + 1 ≤ 320 := by rw [HI1.out.1]; have := many_le (lq ls) (k + 1); omega
            have hb2 : s + y ≤ 320 * 32768 := by
              rw [HI1.out.2.1]
              have h5 := room_le (lq ls) 15 (k + 1)
              have h6 : (2 : Nat) ^ 15 = 32768 := rfl
              rw [h6] at h5
              exact Nat.le_trans h5 (Nat.mul_le_mul_right _ (by omega))
            clear hy
            go_wp2
            go_round
            case rel => exact ⟨k + 1, m + 1, s + y, by go_num, by go_num, by go_num, by omega, hb1, hb2, HI1⟩
            case measure => simp [intOf]; omega
          · have e2 : decide (0 < x) = false := by simpa using hx0
            have HI1 : Hid (m = many (k + 1) (lq ls) ∧ s = room (k + 1) 15 (lq ls) ∧ ∀ i, i < k + 1 → lq ls i ≤ 15) := Lib.hid (by
              obtain ⟨a1, a2, a3⟩ := HI.out
              rw [many_succ, room_succ, Hx.out, if_neg hx0, if_neg hx0, ← a1, ← a2]
              refine ⟨rfl, rfl, fun i hi => ?_⟩
              rcases Nat.lt_or_ge i k with h | h
              · exact a3 i h
              · obtain rfl : i = k := by omega
                rw [Hx.out]; omega)
            go_wp2
            go_round
            case rel => exact ⟨k + 1, m, s, rfl, rfl, by go_num, by omega, hm, hs, HI1⟩
            case measure => simp [intOf]; omega
      · obtain rfl : k = ls.length := by omega
        obtain ⟨a1, a2, a3⟩ := HI.out
        have hr := Hr.out
        rw [chk_rest (by omega) a3, ← a1, ← a2] at hr
        clear a1 a2 a3
        by_cases s0 : s = 32768
        · obtain rfl : r = 0 := by rw [← hr, if_pos (.inr (.inl s0))]
          subst s0
          go_wp2
          go_ret
          exact ⟨rfl, rfl⟩
        · have q1 : ((s : Int) == 32768) = false := by simp; omega
          by_cases m0 : m = 0
          · obtain rfl : r = 0 := by rw [← hr, if_pos (.inl m0)]
            subst m0
            go_wp2
            go_ret
            exact ⟨rfl, rfl⟩
          · have q0 : ((m : Int) == 0) = false := by simp; omega
            by_cases m1 : m = 1
            · subst m1
              by_cases s1 : s = 16384
              · obtain rfl : r = 0 := by rw [← hr, if_pos (.inr (.inr ⟨rfl, s1⟩))]
                subst s1
                go_wp2
                go_ret
                exact ⟨rfl, rfl⟩
              · have q2 : ((s : Int) == 16384) = false := by simp; omega
                obtain rfl : r = 60 := by
                  rw [← hr, if_neg]
                  omega
                go_wp2
                go_ret
                exact ⟨rfl, rfl⟩
            · have q2 : ((m : Int) == 1) = false := by simp; omega
              obtain rfl : r = 60 := by
                rw [← hr, if_neg]
                omega
              go_wp2
              go_ret
              exact ⟨rfl, rfl⟩

end Go.Proofs.YtebfdoipogjpnaaGreat

/- The document's order of codes and their rows of bits (plain), and an append of a pair. -/
namespace Go.Proofs.YtebfdoipogjpnaaGreat
open Go.RowKit

def brow (n x j : Nat) : List Bool := (List.range j).map fun i => decide (x / 2 ^ (n - 1 - i) % 2 = 1)
theorem brow_snoc (n x j : Nat) : brow n x (j + 1) = brow n x j ++ [decide (x / 2 ^ (n - 1 - j) % 2 = 1)] := by simp [brow, List.range_succ]
theorem brow_len (n x j : Nat) : (brow n x j).length = j := by simp [brow]

def sy (f : Nat → Nat) (n : Nat) : Nat → List Nat
  | 0 => []
  | k + 1 => sy f n k ++ (if f k = n then [k] else [])
def al (f : Nat → Nat) (N : Nat) : Nat → List Nat
  | 0 => []
  | n + 1 => al f N n ++ sy f (n + 1) N
def tl (f : Nat → Nat) (N n k : Nat) : List Nat := al f N n ++ sy f (n + 1) k

theorem tl_zero (f : Nat → Nat) (N : Nat) : tl f N 0 0 = [] := rfl
theorem tl_next (f : Nat → Nat) (N n : Nat) : tl f N n N = tl f N (n + 1) 0 := by simp [tl, al, sy]
theorem tl_skip {f : Nat → Nat} {N n k : Nat} (h : f k ≠ n + 1) : tl f N n (k + 1) = tl f N n k := by simp [tl, sy, h]
theorem tl_hand {f : Nat → Nat} {N n k : Nat} (h : f k = n + 1) : tl f N n (k + 1) = tl f N n k ++ [k] := by simp [tl, sy, h]
theorem sy_mem {f : Nat → Nat} {n i : Nat} : ∀ {k : Nat}, i ∈ sy f n k → f i = n ∧ i < k
  | 0, h => by simp [sy] at h
  | k + 1, h => by
    unfold sy at h
    rcases List.mem_append.1 h with h | h
    · have := sy_mem h; exact ⟨this.1, by omega⟩
    · split at h
      · rename_i hk
        obtain rfl := List.mem_singleton.1 h
        exact ⟨hk, by omega⟩
      · cases h
theorem al_mem {f : Nat → Nat} {N i : Nat} : ∀ {n : Nat}, i ∈ al f N n → 0 < f i ∧ f i ≤ n ∧ i < N
  | 0, h => by simp [al] at h
  | n + 1, h => by
    rcases List.mem_append.1 h with h | h
    · have := al_mem h; omega
    · have := sy_mem h; omega
theorem sy_len (f : Nat → Nat) (n : Nat) : ∀ k, (sy f n k).length ≤ k
  | 0 => by simp [sy]
  | k + 1 => by
    have := sy_len f n k
    unfold sy
    rw [List.length_append]
    split <;> simp <;> omega
theorem al_len (f : Nat → Nat) (N : Nat) : ∀ n, (al f N n).length ≤ n * N
  | 0 => by simp [al]
  | n + 1 => by
    have h1 := al_len f N n
    have h2 := sy_len f (n + 1) N
    rw [al, List.length_append, Nat.succ_mul]; omega

theorem nx_skip {f : Nat → Nat} {N n k : Nat} (h : f k ≠ n + 1) : nx f N n (k + 1) = nx f N n k := by unfold nx; rw [cn_succ, if_neg h]; omega
theorem nx_hand {f : Nat → Nat} {N n k : Nat} (h : f k = n + 1) : nx f N n (k + 1) = nx f N n k + 1 := by unfold nx; rw [cn_succ, if_pos h]; omega
theorem nx_next (f : Nat → Nat) (N n : Nat) : nx f N (n + 1) 0 = nx f N n N * 2 := by
  unfold nx
  rw [en]
  simp [cn, sm]

structure NI (f : Nat → Nat) (N n k next last : Nat) : Prop where
  no : tl f N n k = [] → next = 0 ∧ nx f N n k = 0
  some : tl f N n k ≠ [] → last ≤ n + 1 ∧ (next + 1) * 2 ^ (n + 1 - last) = nx f N n k
theorem NI.start (f : Nat → Nat) (N : Nat) : NI f N 0 0 0 0 := ⟨fun _ => ⟨rfl, by simp [nx, en, cn, sm]⟩, fun h => absurd (tl_zero f N) h⟩
theorem NI.skip {f : Nat → Nat} {N n k next last : Nat} (h : NI f N n k next last) (hk : f k ≠ n + 1) : NI f N n (k + 1) next last := by
  refine ⟨?_, ?_⟩
  · rw [tl_skip hk, nx_skip hk]; exact h.no
  · rw [tl_skip hk, nx_skip hk]; exact h.some
theorem NI.hand {f : Nat → Nat} {N n k : Nat} (hk : f k = n + 1) : NI f N n (k + 1) (nx f N n k) (n + 1) := by
  refine ⟨fun h => ?_, fun _ => ⟨Nat.le_refl _, ?_⟩⟩
  · rw [tl_hand hk] at h; simp at h
  · rw [Nat.sub_self, nx_hand hk]; omega
theorem NI.next {f : Nat → Nat} {N n next last : Nat} (h : NI f N n N next last) : NI f N (n + 1) 0 next last := by
  refine ⟨?_, ?_⟩
  · rw [← tl_next, nx_next]
    intro e
    obtain ⟨a, b⟩ := h.no e
    exact ⟨a, by rw [b]⟩
  · rw [← tl_next, nx_next]
    intro e
    obtain ⟨a, b⟩ := h.some e
    refine ⟨by omega, ?_⟩
    rw [show n + 1 + 1 - last = (n + 1 - last) + 1 by omega, Nat.pow_succ, ← Nat.mul_assoc, b]

theorem wpList_append_two {P : Program} (w : World) {ops : Array Oper} {rest : List Oper} {o : Oper} {a : Act} {Q : Exit → Act → World → Prop} (hgd : o.guard = none) (s x : Operand) (t : TypeId)
    (ho : o.op = .call { callee := .builtin .append, args := #[s, x], argTypes := #[t, t] })
    (base : Nat) (e : TypeId) (z : Value) (bytes : Nat) (hinfo : (P.info? e).map (fun i => (i.zero, i.size, i.bytes)) = some (some z, 2, bytes)) (ht : P.underlying t = some (.slice e)) (hzs : z.cells.size = 2)
    (v : Value) (n : Nat) (xs : List Value) (hs : a.eval s = v) (hown : w.ownsRow base e 2 v n xs) (u u2 : Value) (te : TypeId) (hx : a.eval x = .slice (some ⟨w.heap.size, 0, none⟩) 1 1) (hu : u.oneCell' = true) (hu2 : u2.oneCell' = true)
    (h63 : n + 1 ≤ maxLen) (hbytes : (n + 1) * bytes ≤ 140737488355328) (hbase : base ≤ w.heap.size)
    (h : ∀ g cap w', w'.ownsRow base e 2 (.slice (some ⟨g, 0, none⟩) (n + 1) cap) (n + 1) (xs ++ [u, u2]) → Turns (fun b => v.ownBlock = some b) w w' → (v.ownBlock = some g ∨ w.heap.size ≤ g) → wpList P ops Q rest (a.put o.dst (.slice (some ⟨g, 0, none⟩) (n + 1) cap)) w') :
    wpList P ops Q (o :: rest) a (w.alloc (.cells #[u, u2] te)) := by
  obtain ⟨i, hi, hz, hsz, hby⟩ := info_parts hinfo
  refine wpList_append_mine (P := P) (w.alloc (.cells #[u, u2] te)) hgd s x t ho base e i z 2 bytes ht hi hz hsz hby hzs (by decide) v n xs hs (hown.alloc _) (some ⟨w.heap.size, 0, none⟩) 1 1 [u, u2] hx rfl (.inr ⟨_, rfl, news_cells (c := [u, u2])⟩)
    (fun q hq => by
      rcases List.mem_cons.1 hq with rfl | hq
      · exact hu
      · rcases List.mem_singleton.1 hq with rfl; exact hu2) h63 hbytes (by rw [World.size_alloc]; omega) ?_
  intro v' w' h2 h3 h4
  rcases h2.2 with ⟨-, h0⟩ | ⟨g, cap, cur, rfl, -⟩
  · omega
  · refine h g cap w' h2 ?_ ?_
    · exact (Turns.of_below' (Below.al1 w _)).trans (Turns.of_grown h3 (fun _ h => h))
    · rcases h4 g rfl with h | h
      · exact .inl h
      · rw [World.size_alloc] at h
        exact .inr (by omega)

end Go.Proofs.YtebfdoipogjpnaaGreat

/- The document's All. -/
namespace Go.Proofs.YtebfdoipogjpnaaGreat
open Go.RowKit

def encC6 (p : Nat × Value) : List Value := [.int .i64 (p.1 : Int), p.2]
theorem encC6_len (p : Nat × Value) : (encC6 p).length = 2 := rfl
def rowOf (f : Nat → Nat) (N s : Nat) : List Bool := brow (f s) (nx f N (f s - 1) s) (f s)

theorem code06_info : (Tryz.prog.info? 157).map (fun i => (i.zero, i.size, i.bytes)) = some (some (.agg #[.int .i64 0, .slice none 0 0]), 2, 32) := by kernel_rfl

structure OC (w : World) (B : Nat) (o : Value) (f : Nat → Nat) (N : Nat) (l : List Nat) : Prop where
  ex : ∃ xs : List (Nat × Value), xs.map Prod.fst = l ∧ w.ownsRow B 157 2 o l.length (xs.flatMap encC6) ∧ ∀ p ∈ xs, OwnB w B p.2 (rowOf f N p.1) ∧ p.2.oneCell' = true ∧ ∀ g, p.2.ownBlock = some g → o.ownBlock ≠ some g
theorem OC.nil (w : World) (B : Nat) (f : Nat → Nat) (N : Nat) : OC w B (.slice none 0 0) f N [] := ⟨[], rfl, World.ownsRow_nil _ _ _ _, fun p h => by cases h⟩
theorem OC.later {w w' : World} {B : Nat} {o : Value} {f : Nat → Nat} {N : Nat} {l : List Nat} (h : OC w B o f N l) (hb : Below w.heap.size w w') : OC w' B o f N l := by
  obtain ⟨xs, h1, h2, h3⟩ := h.ex
  have ht : Turns (fun _ => False) w w' := Turns.of_below' hb
  exact ⟨xs, h1, ht.owns h2 (fun _ _ h => h), fun p hp => ⟨ht.owns (h3 p hp).1 (fun _ _ h => h), (h3 p hp).2⟩⟩

theorem owns_baseC {w : World} {B B' : Nat} {e : TypeId} {size : Nat} {v : Value} {n : Nat} {xs : List Value} (h : w.ownsRow B e size v n xs) (hb : B' ≤ B) : w.ownsRow B' e size v n xs :=
  ⟨h.1, h.2.imp id fun ⟨g, cap, cur, a, b, c⟩ => ⟨g, cap, cur, a, Nat.le_trans hb b, c⟩⟩

theorem tl_len (f : Nat → Nat) (N n k : Nat) (hk : k < N) : (tl f N n k).length ≤ (n + 1) * N := by
  have h1 := al_len f N n
  have h2 := sy_len f (n + 1) k
  unfold tl
  rw [List.length_append, Nat.succ_mul]; omega

set_option maxRecDepth 20000 in
set_option maxHeartbeats 2000000 in
theorem refAll_ok (ls : List Nat) (v : Value) (w : World) (hv : Row enc8 1 w v ls) (hc : chk ls = 0) :
    Calls Tryz.prog 67 #[v] w fun e w' => ∃ o, e = .returned (.tuple #[o, .int .i64 0]) ∧ OC w' w.heap.size o (lq ls) ls.length (tl (lq ls) ls.length 15 0) ∧ Below w.heap.size w w' := by
  have hroom := room_of_chk hc
  obtain ⟨h1, h2, -⟩ := chk_zero hc
  have Hv := Lib.hid hv
  have hvb : ∀ k, v.ownBlock = some k → k < w.heap.size := fun k hk => by
    obtain ⟨p, c, rfl, _, _, h⟩ := hv
    rcases h with ⟨rfl, -⟩ | ⟨bb, off, rfl, hbb, -⟩
    · cases hk
    · cases hk; exact hbb
  have Hvb := Lib.hid hvb
  clear hvb
  have Hc := Lib.hid hc
  have H2 := Lib.hid h2
  have HR := Lib.hid hroom
  obtain ⟨p, c, rfl, -, -, -⟩ := hv
  clear hc h2 hroom
  go_enter Tryz.func67, Tryz.ntmps67
  go_wp2_with fail
  refine Calls.mono (refWrong_any ls _ w Hv.out) ?_
  rintro e w1 ⟨rfl, rfl⟩
  rw [Hc.out]
  go_wp2_with fail
  go_loopw [5, 6, 7, 8] (fun o xv lv nv wr => ∃ (n x la : Nat), xv = .int .i64 (x : Int) ∧ lv = .int .i64 (la : Int) ∧ nv = .int .i64 ((n : Int) + 1) ∧ n ≤ 15 ∧ x ≤ 65536 ∧ la ≤ 15 ∧ Hid (NI (lq ls) ls.length n 0 x la) ∧ Hid (OC wr w1.heap.size o (lq ls) ls.length (tl (lq ls) ls.length n 0)) ∧ Hid (Below w1.heap.size w1 wr)) (fun _ _ _ nv _ => 16 - (intOf nv).toNat)
  case atStart => exact ⟨0, 0, 0, rfl, rfl, rfl, by omega, by omega, by omega, Lib.hid (NI.start _ _), Lib.hid (OC.nil _ _ _ _), Lib.hid (Below.refl _ _)⟩
  case round =>
    obtain ⟨n, x, la, rfl, rfl, rfl, hn, hx, hla, HN, HO, HB⟩ := hrel
    by_cases hlt : n < 15
    · have d0 : (n : Int) + 1 ≤ 15 := by omega
      go_wp2_with fail
      generalize wr = W1 at *
      go_loopw [5, 6, 7, 9] (fun o xv lv kv wr => ∃ (k x la : Nat), xv = .int .i64 (x : Int) ∧ lv = .int .i64 (la : Int) ∧ kv = .int .i64 (k : Int) ∧ k ≤ ls.length ∧ x ≤ 65536 ∧ la ≤ 15 ∧ Hid (NI (lq ls) ls.length n k x la) ∧ Hid (OC wr w1.heap.size o (lq ls) ls.length (tl (lq ls) ls.length n k)) ∧ Hid (Below w1.heap.size w1 wr)) (fun _ _ _ kv _ => ls.length - (intOf kv).toNat)
      case atStart => exact ⟨0, x, la, rfl, rfl, rfl, by omega, hx, hla, HN, HO, HB⟩
      case round =>
        clear HN HO HB hx hla
        obtain ⟨k, x, la, rfl, rfl, rfl, hk, hx, hla, HN, HO, HB⟩ := hrel
        by_cases hkl : k < ls.length
        · obtain ⟨p', c', e', _, _, hrow⟩ := Hv.out.turns (T := fun i => w1.heap.size ≤ i) (Turns.of_below HB.out) (fun b hb => by have := Hvb.out b hb; omega)
          cases e'
          obtain ⟨g, off, rfl, hcell⟩ := hrow.byte hkl
          obtain ⟨z, hz⟩ : ∃ z, lq ls k = z := ⟨_, rfl⟩
          rw [hz] at hcell
          unfold u8v at hcell
          have Hz := Lib.hid hz
          have hz15 : z ≤ 15 := by rw [← hz]; exact H2.out k hkl
          have k0 : (0 : Int) ≤ (k : Int) := by omega
          have k1 : (k : Int) < (ls.length : Int) := by omega
          clear hrow hz
          by_cases hzn : z = n + 1
          · subst hzn
            rw [show ((n + 1 : Nat) : Int) = (n : Int) + 1 by omega] at hcell
            obtain ⟨q, hq⟩ : ∃ q, (tl (lq ls) ls.length n k).length = q := ⟨_, rfl⟩
            obtain ⟨xs, hxs1, hxs2, hxs3⟩ := HO.out.ex
            obtain ⟨po, co, rfl⟩ := owns_slice hxs2
            clear hxs1 hxs2 hxs3 xs
            have HQ : Hid (OC wr w1.heap.size (.slice po q co) (lq ls) ls.length (tl (lq ls) ls.length n k)) := Lib.hid (by rw [← hq]; exact HO.out)
            clear HO
            rw [hq]
            obtain ⟨y, hy⟩ : ∃ y, nx (lq ls) ls.length n k = y := ⟨_, rfl⟩
            have Hy := Lib.hid hy
            have Hq := Lib.hid hq
            have hyb : y < 32768 := by
              rw [← hy]
              have h5 := nx_fits HR.out hlt hkl Hz.out
              have h6 : 2 ^ (n + 1) ≤ 2 ^ 15 := Nat.pow_le_pow_right (by decide) (by omega)
              have h7 : (2 : Nat) ^ 15 = 32768 := rfl
              omega
            clear hy hq
            by_cases hq0 : q = 0
            · obtain rfl : x = y := by
                have h5 := HN.out.no (List.length_eq_zero_iff.1 (Hq.out.trans hq0))
                rw [h5.1, ← Hy.out, h5.2]
              subst hq0
              go_wp2_with fail
              generalize wr = W2 at *
              have hW2 := HB.out.size
              go_loopw [10, 11] (fun rv kv ws => ∃ (j : Nat) (kz : Int), kv = .int .i64 kz ∧ kz + j = n ∧ j ≤ n + 1 ∧ Hid (OwnB ws W2.heap.size rv (brow (n + 1) x j)) ∧ Hid (Below W2.heap.size W2 ws)) (fun _ kv _ => (intOf kv + 1).toNat)
              case atStart => exact ⟨0, n, rfl, by omega, by omega, Lib.hid (World.ownsRow_nil _ _ _ _), Lib.hid (Below.refl _ _)⟩
              case round =>
                obtain ⟨j, kz, rfl, hkz, hj, HR1, HB1⟩ := hrel
                obtain ⟨pr, cr, rfl⟩ := owns_slice HR1.out
                rw [brow_len]
                have HR2 : Hid (wr.ownsRow W2.heap.size 4 1 (.slice pr j cr) j ((brow (n + 1) x j).map Value.bool)) := Lib.hid (by have := HR1.out; unfold OwnB at this; rw [brow_len] at this; exact this)
                clear HR1
                have hs := HB1.out.size
                by_cases h0 : 0 ≤ kz
                · obtain ⟨m, rfl⟩ : ∃ m : Nat, kz = m := ⟨kz.toNat, by omega⟩
                  have e0 : (0 : Int) ≤ (m : Int) := by omega
                  obtain ⟨t, ht⟩ : ∃ t, x / 2 ^ m = t := ⟨_, rfl⟩
                  have hsh : (x : Int) / 2 ^ m = (t : Int) := by rw [← ht]; simp
                  obtain ⟨bb, hbb⟩ : ∃ bb : Bool, decide (t % 2 = 1) = bb := ⟨_, rfl⟩
                  have hB : (((t : Int) % 2 : Int) == 1) = bb := by
                    rw [← hbb, Bool.eq_iff_iff]; simp; omega
                  have hm : m + j = n := by omega
                  have Hbb : Hid (decide (x / 2 ^ (n + 1 - 1 - j) % 2 = 1) = bb) := Lib.hid (by rw [show n + 1 - 1 - j = m by omega, ht]; exact hbb)
                  clear hbb ht hkz
                  go_wp2_with (at_builtin; refine wpList_append_one wr rfl (.tmp 50) (.tmp 56) 63 rfl W2.heap.size 4 _ 1 bool_info Tryz.underlying63 rfl (.slice pr j cr) j ((brow (n + 1) x j).map Value.bool) rfl HR2.out (.bool bb) _ rfl rfl ?n3 ?n4 hs ?_)
                  case n3 => simp only [maxLen]; omega
                  case n4 => omega
                  intro g1 cap1 w3 ho1 ht1 hg1
                  have HR3 : Hid (OwnB w3 W2.heap.size (.slice (some ⟨g1, 0, none⟩) (j + 1) cap1) (brow (n + 1) x (j + 1))) := Lib.hid (by
                    unfold OwnB
                    rw [brow_len, brow_snoc, Hbb.out, List.map_append]
                    exact ho1)
                  have HB3 : Hid (Below W2.heap.size W2 w3) := Lib.hid (HB1.out.trans (ht1.below hs (fun i hi => (HR2.out.lt i hi).1)))
                  clear ho1 ht1 hg1 hs
                  go_wp2
                  go_roundw
                  case rel => exact ⟨j + 1, (m : Int) - 1, by go_num, by omega, by omega, HR3, HB3⟩
                  case measure => simp [intOf]
                · have Hj1 := Lib.hid (show j = n + 1 by omega)
                  obtain ⟨xs, hx1, hx2, hx3⟩ := HQ.out.ex
                  have hxl : (tl (lq ls) ls.length n k).length = 0 := by rw [Hq.out]
                  rw [hxl] at hx2
                  have hbw : Below W2.heap.size W2 wr := HB1.out
                  have hqb := tl_len (lq ls) ls.length n k hkl
                  have hx4 : Hid (wr.ownsRow w1.heap.size 157 2 (.slice po 0 co) 0 (xs.flatMap encC6)) := Lib.hid ((Turns.of_below' (T := fun _ => False) hbw).owns hx2 (fun _ _ h => h))
                  have Hx1 := Lib.hid hx1
                  have Hx3 := Lib.hid hx3
                  have hb48 : 0 ≤ 16 * 320 := by rw [← hxl]; exact Nat.le_trans hqb (Nat.mul_le_mul (by omega) h1)
                  have hs1 : w1.heap.size ≤ wr.heap.size := by omega
                  have Hhx2 := Lib.hid hx2
                  clear hx1 hx2 hx3 hxl hqb hbw
                  have e0 : ¬ (0 : Int) ≤ kz := h0
                  go_wp2_with (at_builtin; refine wpList_append_two wr rfl (.tmp 58) (.tmp 62) 70 rfl w1.heap.size 157 _ 32 code06_info Tryz.underlying70 rfl (.slice po 0 co) 0 (xs.flatMap encC6) rfl hx4.out (.int .i64 (k : Int)) (.slice pr j cr) _ rfl rfl rfl ?m3 ?m4 hs1 ?_)
                  case m3 => simp only [maxLen]; omega
                  intro g2 cap2 w3 ho2 ht2 hg2
                  have HOn : Hid (OC w3 w1.heap.size (.slice (some ⟨g2, 0, none⟩) (0 + 1) cap2) (lq ls) ls.length (tl (lq ls) ls.length n (k + 1))) := Lib.hid (by
                    rw [tl_hand Hz.out]
                    refine ⟨xs ++ [(k, .slice pr j cr)], by simp [Hx1.out], ?_, ?_⟩
                    · rw [List.length_append, List.length_singleton, Hq.out, List.flatMap_append]
                      exact ho2
                    · intro p hp
                      rcases List.mem_append.1 hp with hp | hp
                      · obtain ⟨a1, a2, a3⟩ := Hx3.out p hp
                        have hp1 := (Turns.of_below' (T := fun _ => False) HB1.out).owns a1 (fun _ _ h => h)
                        refine ⟨ht2.owns hp1 (fun g hg hg' => a3 g hg hg'), a2, fun g hg hg' => ?_⟩
                        have hgg : g2 = g := by simpa [Value.ownBlock] using hg'
                        subst hgg
                        rcases hg2 with h | h
                        · exact a3 _ hg h
                        · have h8 := (a1.lt _ hg).2
                          have h9 := HB1.out.size
                          omega
                      · obtain rfl := List.mem_singleton.1 hp
                        refine ⟨?_, rfl, fun g hg hg' => ?_⟩
                        · have h8 := owns_baseC HR2.out (B' := w1.heap.size) hW2
                          have h9 := ht2.owns h8 (fun g hg hg' => by
                            have := (HR2.out.lt g hg).1
                            have := (Hhx2.out.lt g hg').2
                            omega)
                          show OwnB w3 w1.heap.size (.slice pr j cr) (rowOf (lq ls) ls.length k)
                          unfold rowOf OwnB
                          rw [Hz.out, Nat.add_sub_cancel, Hy.out, brow_len, ← Hj1.out]
                          have h10 := h9
                          rw [← Hj1.out] at h10
                          exact h10
                        · have hgg : g2 = g := by simpa [Value.ownBlock] using hg'
                          subst hgg
                          have h8 := HR2.out.lt _ hg
                          rcases hg2 with h | h
                          · have := (Hhx2.out.lt _ h).2; omega
                          · omega)
                  have HBn : Hid (Below w1.heap.size w1 w3) := Lib.hid ((Below.thn HB.out HB1.out).trans (ht2.below hs1 (fun i hi => (Hhx2.out.lt i hi).1)))
                  have HNn : Hid (NI (lq ls) ls.length n (k + 1) x (n + 1)) := Lib.hid (by have h8 := NI.hand (N := ls.length) Hz.out; rw [Hy.out] at h8; exact h8)
                  clear ho2 ht2 hg2
                  go_wp2
                  go_roundw
                  case rel => exact ⟨k + 1, x, n + 1, rfl, by go_num, by go_num, by omega, by omega, by omega, HNn, HOn, HBn⟩
                  case measure => simp [intOf]; omega
            · obtain ⟨hl1, hl2⟩ := HN.out.some (fun e => hq0 (by rw [← Hq.out, e]; rfl))
              rw [Hy.out] at hl2
              have d2 : ((q : Int) > 0) := by omega
              have d3 : decide (0 < q) = true := by simp; omega
              obtain ⟨d, hd⟩ : ∃ d, n + 1 - la = d := ⟨_, rfl⟩
              rw [hd] at hl2
              have hd2 : ((n : Int) + 1 - (la : Int)) = (d : Int) := by omega
              have hw : wrap64 (((x : Int) + 1) * 2 ^ d) = (y : Int) := by
                have e : ((x : Int) + 1) * 2 ^ d = ((y : Nat) : Int) := by rw [← hl2]; simp
                rw [e]; exact IntWalk.wrap64_in _ (by omega)
              clear hl2
              go_wp2_with fail
              rw [hw]
              first | rw [d3] | skip
              clear hw hd2
              generalize wr = W2 at *
              have hW2 := HB.out.size
              go_loopw [10, 11] (fun rv kv ws => ∃ (j : Nat) (kz : Int), kv = .int .i64 kz ∧ kz + j = n ∧ j ≤ n + 1 ∧ Hid (OwnB ws W2.heap.size rv (brow (n + 1) y j)) ∧ Hid (Below W2.heap.size W2 ws)) (fun _ kv _ => (intOf kv + 1).toNat)
              case atStart => exact ⟨0, n, rfl, by omega, by omega, Lib.hid (World.ownsRow_nil _ _ _ _), Lib.hid (Below.refl _ _)⟩
              case round =>
                obtain ⟨j, kz, rfl, hkz, hj, HR1, HB1⟩ := hrel
                obtain ⟨pr, cr, rfl⟩ := owns_slice HR1.out
                rw [brow_len]
                have HR2 : Hid (wr.ownsRow W2.heap.size 4 1 (.slice pr j cr) j ((brow (n + 1) y j).map Value.bool)) := Lib.hid (by have := HR1.out; unfold OwnB at this; rw [brow_len] at this; exact this)
                clear HR1
                have hs := HB1.out.size
                by_cases h0 : 0 ≤ kz
                · obtain ⟨m, rfl⟩ : ∃ m : Nat, kz = m := ⟨kz.toNat, by omega⟩
                  have e0 : (0 : Int) ≤ (m : Int) := by omega
                  obtain ⟨t, ht⟩ : ∃ t, y / 2 ^ m = t := ⟨_, rfl⟩
                  have hsh : (y : Int) / 2 ^ m = (t : Int) := by rw [← ht]; simp
                  obtain ⟨bb, hbb⟩ : ∃ bb : Bool, decide (t % 2 = 1) = bb := ⟨_, rfl⟩
                  have hB : (((t : Int) % 2 : Int) == 1) = bb := by
                    rw [← hbb, Bool.eq_iff_iff]; simp; omega
                  have hm : m + j = n := by omega
                  have Hbb : Hid (decide (y / 2 ^ (n + 1 - 1 - j) % 2 = 1) = bb) := Lib.hid (by rw [show n + 1 - 1 - j = m by omega, ht]; exact hbb)
                  clear hbb ht hkz
                  go_wp2_with (at_builtin; refine wpList_append_one wr rfl (.tmp 50) (.tmp 56) 63 rfl W2.heap.size 4 _ 1 bool_info Tryz.underlying63 rfl (.slice pr j cr) j ((brow (n + 1) y j).map Value.bool) rfl HR2.out (.bool bb) _ rfl rfl ?r3 ?r4 hs ?_)
                  case r3 => simp only [maxLen]; omega
                  case r4 => omega
                  intro g1 cap1 w3 ho1 ht1 hg1
                  have HR3 : Hid (OwnB w3 W2.heap.size (.slice (some ⟨g1, 0, none⟩) (j + 1) cap1) (brow (n + 1) y (j + 1))) := Lib.hid (by
                    unfold OwnB
                    rw [brow_len, brow_snoc, Hbb.out, List.map_append]
                    exact ho1)
                  have HB3 : Hid (Below W2.heap.size W2 w3) := Lib.hid (HB1.out.trans (ht1.below hs (fun i hi => (HR2.out.lt i hi).1)))
                  clear ho1 ht1 hg1 hs
                  go_wp2
                  go_roundw
                  case rel => exact ⟨j + 1, (m : Int) - 1, by go_num, by omega, by omega, HR3, HB3⟩
                  case measure => simp [intOf]
                · have Hj1 := Lib.hid (show j = n + 1 by omega)
                  obtain ⟨xs, hx1, hx2, hx3⟩ := HQ.out.ex
                  have hxl : (tl (lq ls) ls.length n k).length = q := by rw [Hq.out]
                  rw [hxl] at hx2
                  have hbw : Below W2.heap.size W2 wr := HB1.out
                  have hqb := tl_len (lq ls) ls.length n k hkl
                  have hx4 : Hid (wr.ownsRow w1.heap.size 157 2 (.slice po q co) q (xs.flatMap encC6)) := Lib.hid ((Turns.of_below' (T := fun _ => False) hbw).owns hx2 (fun _ _ h => h))
                  have Hx1 := Lib.hid hx1
                  have Hx3 := Lib.hid hx3
                  have hb48 : q ≤ 16 * 320 := by rw [← hxl]; exact Nat.le_trans hqb (Nat.mul_le_mul (by omega) h1)
                  have hs1 : w1.heap.size ≤ wr.heap.size := by omega
                  have Hhx2 := Lib.hid hx2
                  clear hx1 hx2 hx3 hxl hqb hbw
                  have e0 : ¬ (0 : Int) ≤ kz := h0
                  go_wp2_with (at_builtin; refine wpList_append_two wr rfl (.tmp 58) (.tmp 62) 70 rfl w1.heap.size 157 _ 32 code06_info Tryz.underlying70 rfl (.slice po q co) q (xs.flatMap encC6) rfl hx4.out (.int .i64 (k : Int)) (.slice pr j cr) _ rfl rfl rfl ?p3 ?p4 hs1 ?_)
                  case p3 => simp only [maxLen]; omega
                  case p4 => omega
                  intro g2 cap2 w3 ho2 ht2 hg2
                  have HOn : Hid (OC w3 w1.heap.size (.slice (some ⟨g2, 0, none⟩) (q + 1) cap2) (lq ls) ls.length (tl (lq ls) ls.length n (k + 1))) := Lib.hid (by
                    rw [tl_hand Hz.out]
                    refine ⟨xs ++ [(k, .slice pr j cr)], by simp [Hx1.out], ?_, ?_⟩
                    · rw [List.length_append, List.length_singleton, Hq.out, List.flatMap_append]
                      exact ho2
                    · intro p hp
                      rcases List.mem_append.1 hp with hp | hp
                      · obtain ⟨a1, a2, a3⟩ := Hx3.out p hp
                        have hp1 := (Turns.of_below' (T := fun _ => False) HB1.out).owns a1 (fun _ _ h => h)
                        refine ⟨ht2.owns hp1 (fun g hg hg' => a3 g hg hg'), a2, fun g hg hg' => ?_⟩
                        have hgg : g2 = g := by simpa [Value.ownBlock] using hg'
                        subst hgg
                        rcases hg2 with h | h
                        · exact a3 _ hg h
                        · have h8 := (a1.lt _ hg).2
                          have h9 := HB1.out.size
                          omega
                      · obtain rfl := List.mem_singleton.1 hp
                        refine ⟨?_, rfl, fun g hg hg' => ?_⟩
                        · have h8 := owns_baseC HR2.out (B' := w1.heap.size) hW2
                          have h9 := ht2.owns h8 (fun g hg hg' => by
                            have := (HR2.out.lt g hg).1
                            have := (Hhx2.out.lt g hg').2
                            omega)
                          show OwnB w3 w1.heap.size (.slice pr j cr) (rowOf (lq ls) ls.length k)
                          unfold rowOf OwnB
                          rw [Hz.out, Nat.add_sub_cancel, Hy.out, brow_len, ← Hj1.out]
                          have h10 := h9
                          rw [← Hj1.out] at h10
                          exact h10
                        · have hgg : g2 = g := by simpa [Value.ownBlock] using hg'
                          subst hgg
                          have h8 := HR2.out.lt _ hg
                          rcases hg2 with h | h
                          · have := (Hhx2.out.lt _ h).2; omega
                          · omega)
                  have HBn : Hid (Below w1.heap.size w1 w3) := Lib.hid ((Below.thn HB.out HB1.out).trans (ht2.below hs1 (fun i hi => (Hhx2.out.lt i hi).1)))
                  have HNn : Hid (NI (lq ls) ls.length n (k + 1) y (n + 1)) := Lib.hid (by have h8 := NI.hand (N := ls.length) Hz.out; rw [Hy.out] at h8; exact h8)
                  clear ho2 ht2 hg2
                  go_wp2
                  go_roundw
                  case rel => exact ⟨k + 1, y, n + 1, rfl, by go_num, by go_num, by omega, by omega, by omega, HNn, HOn, HBn⟩
                  case measure => simp [intOf]; omega
          · have ez : ((z : Int) != (n : Int) + 1) = true := by simp; omega
            have HN1 := Lib.hid (HN.out.skip (by rw [Hz.out]; exact hzn))
            have HO1 := Lib.hid (show OC _ _ _ _ _ (tl (lq ls) ls.length n (k + 1)) from by rw [tl_skip (by rw [Hz.out]; exact hzn)]; exact HO.out)
            go_wp2
            go_roundw
            case rel => exact ⟨k + 1, x, la, rfl, rfl, by go_num, by omega, hx, hla, HN1, HO1, HB⟩
            case measure => simp [intOf]; omega
        · obtain rfl : k = ls.length := by omega
          have HN1 := Lib.hid HN.out.next
          have HO1 := Lib.hid (tl_next (lq ls) ls.length n ▸ HO.out)
          go_wp2
          go_roundw
          case rel => exact ⟨n + 1, x, la, rfl, rfl, by go_num, by omega, hx, hla, HN1, HO1, HB⟩
          case measure => simp [intOf]; omega
    · obtain rfl : n = 15 := by omega
      go_wp2
      go_ret2
      exact ⟨_, rfl, HO.out, HB.out⟩

end Go.Proofs.YtebfdoipogjpnaaGreat

/- A code's row of bits is its number (plain). -/
namespace Go.Proofs.YtebfdoipogjpnaaGreat

theorem brow_step (n x : Nat) : brow (n + 1) x (n + 1) = brow n (x / 2) n ++ [decide (x % 2 = 1)] := by
  rw [brow_snoc]
  congr 1
  · unfold brow
    refine List.map_congr_left fun i hi => ?_
    have hi := List.mem_range.1 hi
    rw [Nat.div_div_eq_div_mul, ← Nat.pow_succ', show n + 1 - 1 - i = (n - 1 - i) + 1 by omega]
  · simp

theorem numL_snoc' (l : List Bool) (b : Bool) : numL (l ++ [b]) = numL l + b.toNat * 2 ^ l.length := by
  induction l with
  | nil => cases b <;> simp [numL]
  | cons a r ih =>
    rw [List.cons_append, numL, ih, numL, List.length_cons, Nat.pow_succ, Nat.mul_add, Nat.mul_comm 2 (_ * _), Nat.mul_assoc, Nat.add_assoc]

theorem numL_brow : ∀ n x, numL (brow n x n) = trn n 0 x
  | 0, x => rfl
  | n + 1, x => by
    rw [brow_step, numL_snoc', numL_brow n, brow_len, trn, trn_acc n (0 * 2 + x % 2), Nat.zero_mul, Nat.zero_add, Nat.add_comm]
    congr 1
    have : (decide (x % 2 = 1)).toNat = x % 2 := by
      rcases Nat.mod_two_eq_zero_or_one x with h | h <;> simp [h]
    rw [this]

theorem numL_rowOf (f : Nat → Nat) (N s : Nat) : numL (rowOf f N s) = cd f N s := numL_brow _ _

end Go.Proofs.YtebfdoipogjpnaaGreat
