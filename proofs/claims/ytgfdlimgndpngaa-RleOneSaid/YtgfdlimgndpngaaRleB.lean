/- rle: pixels as rows of cells; low, tell, lay. -/
import Derived.Test.YtgfdlimgndpngaaBytes
import Derived.Test.YtgfdlimgndpngaaAppends
import Derived.Test.YtgfdlimgndpngaaRleA
import Derived.Laws.BitsLemmas
namespace Go.Proofs.Ytgfdlimgndpngaa
open Go.RowKit

attribute [local go_sem] Oper.semAt_some

/-- A pixel's number as a value. -/
def pxv (x : Nat) : Value := .int .u32 (x : Int)
def encP (x : Nat) : List Value := [pxv x]
theorem encP_len (x : Nat) : (encP x).length = 1 := rfl
theorem flatP : ∀ l : List Nat, l.flatMap encP = l.map pxv
  | [] => rfl
  | b :: r => by rw [List.flatMap_cons, flatP r]; rfl
theorem pxv_info : (Try.prog.info? 34).map (fun i => (i.zero, i.size, i.bytes)) = some (some (.int .u32 0), 1, 4) := by kernel_rfl
theorem oneP (l : List Nat) : ∀ u ∈ l.map pxv, u.oneCell' = true := by
  intro u hu
  obtain ⟨b, _, rfl⟩ := List.mem_map.1 hu
  rfl
/-- A slice of pixels that reads so. -/
abbrev RwP (w : World) (v : Value) (l : List Nat) : Prop := RwG encP 1 w v l
theorem RwP.own {w : World} {base : Nat} {v : Value} {l : List Nat} {n : Nat} (h : w.ownsRow base 34 1 v n (l.map pxv)) (hn : n = l.length) : RwP w v l := by
  subst hn
  rw [← flatP] at h
  exact RwG.owned encP_len h
theorem Row.ownP {w : World} {base : Nat} {v : Value} {l : List Nat} (h : w.ownsRow base 34 1 v l.length (l.map pxv)) : Row encP 1 w v l := (RwP.own h rfl).row
theorem Row.own8' {w : World} {base : Nat} {v : Value} {l : List Nat} (h : w.ownsRow base 5 1 v l.length (l.map u8v)) : Row enc8 1 w v l := (Rw8.own h rfl).row
theorem RowAt.px {W : World} {p : Option Addr} {xs : List Nat} (h : RowAt encP 1 W p xs) {k : Nat} (hk : k < xs.length) : ∃ b off, p = some ⟨b, off, none⟩ ∧ W.cell? ⟨b, off + k, none⟩ = some (.int .u32 (xs.getD k 0 : Int)) := by
  rcases h with ⟨-, rfl⟩ | ⟨b, off, rfl, -, h⟩
  · simp at hk
  · refine ⟨b, off, rfl, ?_⟩
    have := h k xs[k] (List.getElem?_eq_getElem hk) 0 _ rfl
    rw [Nat.mul_one, Nat.add_zero] at this
    rw [this, List.getD_eq_getElem?_getD, List.getElem?_eq_getElem hk]
    rfl

/-- A run's value. -/
abbrev RnV (n c : Nat) : Value := .agg #[.int .i64 (n : Int), .int .u32 (c : Int)]

theorem mask_lw (x : Nat) (h : x < 4294967296) : bits .and .u32 (x : Int) 16777215 = ((rlw x : Nat) : Int) := by
  have e := bits_mask .u32 32 (by decide) (fun n h0 h1 => by rw [IntKind.wrap_u32]; omega) 24 (by decide) (x : Int) (by omega) (by omega)
  have e2 : bits .and .u32 (x : Int) 16777215 = (x : Int) % 16777216 := by simpa using e
  rw [e2]
  show (x : Int) % 16777216 = ((x % 16777216 : Nat) : Int)
  omega

/-- The call answers v, and nothing at all has changed. -/
def StillR (f : FuncId) (args : Array Value) (w : World) (v : Value) : Prop :=
  Calls Try.prog f args w fun e w' => e = .returned v ∧ w' = w
theorem low_any (x : Nat) (w : World) (h : x < 4294967296) : StillR 24 #[.int .u32 (x : Int)] w (.int .u32 ((rlw x : Nat) : Int)) := by
  unfold StillR
  have e := mask_lw x h
  go_enter Try.func24, Try.ntmps24
  go_wp2
  go_ret
  exact ⟨by first | rfl | rw [e] | simp [e], rfl⟩

set_option maxRecDepth 20000 in
set_option maxHeartbeats 4000000 in
theorem rtell_any (n c : Nat) (hok : RlOk (n, c)) (base : Nat) (vb : Value) (o : List Nat) (w : World) (hown : w.ownsRow base 5 1 vb o.length (o.map u8v)) (hlen : o.length ≤ 8388608) (hbase : base ≤ w.heap.size) :
    Calls Try.prog 17 #[RnV n c, vb] w fun e w' => ∃ v', e = .returned v' ∧ w'.ownsRow base 5 1 v' (o ++ rlB (n, c)).length ((o ++ rlB (n, c)).map u8v) ∧ Turns (fun k => vb.ownBlock = some k) w w' ∧ (∀ k, v'.ownBlock = some k → vb.ownBlock = some k ∨ w.heap.size ≤ k) := by
  obtain ⟨h1, h2, h3⟩ := hok
  simp only at h1 h2 h3
  obtain ⟨pb, cb, rfl⟩ := owns_slice hown
  have Hown := Lib.hid hown
  obtain ⟨i0, hi0, hz0, hz1, hz2⟩ := info_parts u8_info
  obtain ⟨a1, ha1⟩ : ∃ a, n - 1 = a := ⟨_, rfl⟩
  obtain ⟨a2, ha2⟩ : ∃ a, c / 65536 = a := ⟨_, rfl⟩
  obtain ⟨a3, ha3⟩ : ∃ a, c / 256 % 256 = a := ⟨_, rfl⟩
  obtain ⟨a4, ha4⟩ : ∃ a, c % 256 = a := ⟨_, rfl⟩
  have e1 : (n : Int) - 1 = (a1 : Int) := by omega
  have e2 : (c : Int) / 65536 = (a2 : Int) := by omega
  have b1 : a1 ≤ 255 := by omega
  have b2 : a2 ≤ 255 := by omega
  have e3 : ((c : Int) / 256) % 256 = (a3 : Int) := by omega
  have e4 : (c : Int) % 256 = (a4 : Int) := by omega
  have Hb : Hid (rlB (n, c) = [a1, a2, a3, a4]) := Lib.hid (by show [n - 1, c / 65536, c / 256 % 256, c % 256] = _; rw [ha1, ha2, ha3, ha4])
  clear hown ha1 ha2 ha3 ha4
  go_enter Try.func17, Try.ntmps17
  go_wp2_with (at_builtin; refine wpList_append_mine _ rfl (.tmp 5) (.tmp 21) 23 rfl base 5 i0 _ 1 1 Try.underlying23 hi0 hz0 hz1 hz2 rfl (by decide) (.slice pb o.length cb) o.length (o.map u8v) rfl ((Hown.out.alloc _).alloc _) (some ⟨w.heap.size + 1, 0, none⟩) 4 4 [.int .u8 a1, .int .u8 a2, .int .u8 a3, .int .u8 a4] rfl rfl (.inr ⟨_, rfl, ?c2⟩) ?c3 ?c4 ?c5 ?c6 ?_)
  case c2 =>
    have := news_cells (w := w.alloc (.cells #[.int .i64 (n : Int), .int .u32 (c : Int)] 39)) (c := [.int .u8 (a1 : Int), .int .u8 (a2 : Int), .int .u8 (a3 : Int), .int .u8 (a4 : Int)]) (t := 5)
    rw [World.size_alloc] at this
    exact this
  case c3 =>
    intro u hu
    simp only [List.mem_cons, List.not_mem_nil, or_false] at hu
    rcases hu with rfl | rfl | rfl | rfl <;> rfl
  case c4 => simp only [maxLen]; omega
  case c5 => omega
  case c6 => simp only [World.size_alloc]; omega
  intro v' w5 ho1 ht1 hg1
  have Ho1 : Hid (w5.ownsRow base 5 1 v' (o ++ rlB (n, c)).length ((o ++ rlB (n, c)).map u8v)) := Lib.hid (by
    rw [Hb.out, List.length_append, List.map_append]
    exact ho1)
  have Ht1 : Hid (Turns (fun k => (Value.slice pb o.length cb).ownBlock = some k) w w5) := Lib.hid ((Turns.of_below' (Below.al2 w _ _)).trans (Turns.of_grown ht1 (fun _ h => h)))
  have Hg1 : Hid (∀ k, v'.ownBlock = some k → (Value.slice pb o.length cb).ownBlock = some k ∨ w.heap.size ≤ k) := Lib.hid (fun k hk => (hg1 k hk).elim Or.inl fun h => Or.inr (Nat.le_trans (by first | omega | simp) h))
  clear ho1 ht1 hg1 e1 e2 e3 e4
  go_wp2
  go_ret
  exact ⟨_, rfl, Ho1.out, Ht1.out, Hg1.out⟩

end Go.Proofs.Ytgfdlimgndpngaa
