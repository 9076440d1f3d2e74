/- bits' writer: lay, cut, add. -/
import Derived.Test.YtonhcdhlinlncaaBitA
import Derived.Deep.QuietTactic
import Derived.BigQuiet
import Derived.BigRegion
namespace Go.Proofs.Ytonhcdhlinlncaa
open Go.RowKit

def u8v (b : Nat) : Value := .int .u8 (b : Int)

theorem u8_info : (Try.prog.info? 5).map (fun i => (i.zero, i.size, i.bytes)) = some (some (.int .u8 0), 1, 1) := by kernel_rfl

/-- The type of a writer's block. -/
abbrev tyW : TypeId := 63
/-- Block B is a writer of n bits, which are the number N; its bytes lie in memory from base on. -/
structure Wr (W : World) (base B : Nat) (sv : Value) (N n : Nat) : Prop where
  lt : B < base
  box : W.heap[B]? = some (.cells #[sv, .int .i64 (n : Int)] tyW)
  own : W.ownsRow base 5 1 sv ((n + 7) / 8) ((byts N ((n + 7) / 8)).map u8v)
  num : N < 2 ^ n

theorem Wr.c0 {W : World} {base B N n : Nat} {sv : Value} (h : Wr W base B sv N n) : W.cell? ⟨B, 0, none⟩ = some sv := by simp [World.cell?, h.box]
theorem Wr.c1 {W : World} {base B N n : Nat} {sv : Value} (h : Wr W base B sv N n) : W.cell? ⟨B, 1, none⟩ = some (.int .i64 (n : Int)) := by simp [World.cell?, h.box]
theorem Wr.free {W : World} {base B N n : Nat} {sv : Value} (h : Wr W base B sv N n) (i : Nat) : W.frozen? ⟨B, i, none⟩ = false := by simp [World.frozen?, h.box]
theorem Wr.size {W : World} {base B N n : Nat} {sv : Value} (h : Wr W base B sv N n) : B < W.heap.size := (Array.getElem?_eq_some_iff.1 h.box).1
theorem Wr.turns {T : Nat → Prop} {W W' : World} {base B N n : Nat} {sv : Value} (h : Wr W base B sv N n) (ht : Turns T W W') (hB : ¬ T B) (hs : ∀ k, sv.ownBlock = some k → ¬ T k) : Wr W' base B sv N n :=
  ⟨h.lt, (ht.block B h.size hB).trans h.box, ht.owns h.own hs, h.num⟩
theorem Wr.below {W W' : World} {base B N n : Nat} {sv : Value} (h : Wr W base B sv N n) (hb : Below W.heap.size W W') : Wr W' base B sv N n :=
  h.turns (T := fun _ => False) (Turns.of_below' hb) (fun h => h) (fun _ _ h => h)
theorem Wr.apart {W : World} {base B N n : Nat} {sv : Value} (h : Wr W base B sv N n) : sv.ownBlock ≠ some B := fun e => by
  have h1 := h.own.lt B e
  have h2 := h.lt
  omega

/-- From w to w' the writer has come to have other bits; nothing else has turned. -/
def WrTo (base B : Nat) (sv : Value) (N n : Nat) (w w' : World) : Prop :=
  ∃ sv', Wr w' base B sv' N n ∧ Turns (fun b => b = B ∨ sv.ownBlock = some b) w w' ∧ ∀ k, sv'.ownBlock = some k → sv.ownBlock = some k ∨ w.heap.size ≤ k

theorem WrTo.refl {w : World} {base B N n : Nat} {sv : Value} (h : Wr w base B sv N n) : WrTo base B sv N n w w := ⟨sv, h, Turns.refl _ _, fun _ h => .inl h⟩
theorem WrTo.step {w w1 w2 : World} {base B M m : Nat} {sv sv1 : Value} (h2 : Turns (fun b => b = B ∨ sv.ownBlock = some b) w w1) (h3 : ∀ k, sv1.ownBlock = some k → sv.ownBlock = some k ∨ w.heap.size ≤ k) (k : WrTo base B sv1 M m w1 w2) : WrTo base B sv M m w w2 := by
  obtain ⟨sv2, k1, k2, k3⟩ := k
  refine ⟨sv2, k1, h2.trans' k2 (fun i hi h => ?_), fun q hq => ?_⟩
  · rcases h with h | h
    · exact .inl h
    · rcases h3 i h with h | h
      · exact .inr h
      · omega
  · rcases k3 q hq with h | h
    · rcases h3 q h with h | h
      · exact .inl h
      · exact .inr h
    · exact .inr (Nat.le_trans h2.size h)

theorem or_lay (x p f s : Nat) (hx : x < 2 ^ f) (hp : p < 2 ^ s) (hfit : f + s ≤ 8) : bits .or .u8 (x : Int) ((p : Int) * 2 ^ f) = ((x + p * 2 ^ f : Nat) : Int) ∧ p * 2 ^ f < 256 := by
  have h6 : 2 ^ f * 2 ^ s ≤ 2 ^ 8 := by rw [← Nat.pow_add]; exact Nat.pow_le_pow_right (by decide) hfit
  have h7 : p * 2 ^ f + 2 ^ f ≤ 2 ^ f * 2 ^ s := by
    have : (p + 1) * 2 ^ f ≤ 2 ^ s * 2 ^ f := Nat.mul_le_mul_right _ hp
    rw [Nat.mul_comm (2 ^ f) (2 ^ s)]
    rw [Nat.add_mul] at this
    omega
  have h8 : (2 : Nat) ^ 8 = 256 := rfl
  have e : ((p : Int) * 2 ^ f) = ((p * 2 ^ f : Nat) : Int) := by simp
  rw [e, (bits_nat .u8 8 (by decide) (fun m h0 h1 => by rw [IntKind.wrap_u8]; omega) x (p * 2 ^ f) (by omega) (by omega)).2]
  refine ⟨?_, by omega⟩
  rw [Nat.or_comm, Nat.mul_comm p, ← Nat.two_pow_add_eq_or_of_lt hx p]
  congr 1
  omega

set_option maxRecDepth 100000 in
set_option maxHeartbeats 2000000 in
theorem lay_any (base B N n p s : Nat) (sv : Value) (w : World) (h : Wr w base B sv N n) (hp : p < 2 ^ s) (hs : 0 < s) (hfit : n % 8 + s ≤ 8) (hmax : n + s ≤ 8388608) (hbase : base ≤ w.heap.size) :
    Calls Try.prog 44 #[.pointer (some ⟨B, 0, none⟩), .int .u8 (p : Int), .int .i64 (s : Int)] w fun e w' => e = .returned (.tuple #[]) ∧ WrTo base B sv (N + p * 2 ^ n) (n + s) w w' := by
  obtain ⟨hm, hby, hlo, hnum, h256⟩ := byts_lay N n p s h.num hp hs hfit
  obtain ⟨q, hq⟩ : ∃ q, n / 8 = q := ⟨_, rfl⟩
  obtain ⟨f, hf⟩ : ∃ f, n % 8 = f := ⟨_, rfl⟩
  rw [hq] at hm hby hlo h256
  rw [hf] at hby hlo h256 hfit
  obtain ⟨x, hx⟩ : ∃ x, N / 256 ^ q = x := ⟨_, rfl⟩
  rw [hx] at hby hlo h256
  obtain ⟨hor, hp256⟩ := or_lay x p f s hlo hp hfit
  obtain ⟨y, hy⟩ : ∃ y, x + p * 2 ^ f = y := ⟨_, rfl⟩
  rw [hy] at hor hby h256
  have hpm : ((p : Int) * 2 ^ f) % 256 = (p : Int) * 2 ^ f := by
    have e : ((p : Int) * 2 ^ f) = ((p * 2 ^ f : Nat) : Int) := by simp
    rw [e]; omega
  have Hor := Lib.hid (And.intro hor hpm)
  clear hpm hp256 hy
  have hc0 := h.c0
  have hc1 := h.c1
  have hf0 := h.free 0
  obtain ⟨sp, sc, rfl⟩ := owns_slice h.own
  have hf7 : f < 8 := by omega
  have hn8 : n = 8 * q + f := by omega
  have hqb : q ≤ 1048576 := by omega
  have hnf : (n : Int) % 8 = (f : Int) := by omega
  have Hn := Lib.hid (And.intro hm (And.intro hby (And.intro hnum (And.intro h256 hx))))
  clear hm hby hnum h256 hq hf hor hx
  by_cases h0 : f = 0
  · have hz : ((f : Int) == 0) = true := by simp [h0]
    have hx0 : x = 0 := by rw [h0] at hlo; simpa using hlo
    have Hx0 := Lib.hid hx0
    have Hn8 := Lib.hid hn8
    have hl : (n + 7) / 8 = q := by omega
    have H := Lib.hid h
    rw [hl] at hc0
    have Hl := Lib.hid hl
    clear h hfit hl h0 hx0 hn8
    go_enter Try.func44, Try.ntmps44
    go_wp2_with (at_builtin; refine wpList_append_one w rfl (.tmp 18) (.tmp 19) 23 rfl base 5 _ 1 u8_info Try.underlying23 rfl (.slice sp q sc) q ((byts N q).map u8v) rfl (by have := H.out.own; rw [Hl.out] at this; exact this) (.int .u8 0) _ rfl rfl ?n3 ?n4 hbase ?_)
    case n3 => simp only [maxLen]; omega
    case n4 => omega
    intro g cap w1 ho1 ht1 hg1
    have hgB : g ≠ B := fun e => by
      have h1 := (ho1.lt g rfl).1
      have h2 := H.out.lt
      omega
    have hbx := H.out.box
    have hap := H.out.apart
    rw [Hl.out] at hbx hap
    have hb1 := (ht1.block B H.out.size hap).trans hbx
    clear hbx hap
    have d0 : w1.cell? ⟨B, 0, none⟩ = some (.slice sp q sc) := by simp [World.cell?, hb1]
    have e0 : w1.frozen? ⟨B, 0, none⟩ = false := by simp [World.frozen?, hb1]
    have hb2 := two_set0 (.slice (some ⟨g, 0, none⟩) (q + 1) cap) hb1
    have ho2 := (Turns.set (T := fun b => b = B) (Turns.refl _ w1) (p := ⟨B, 0, none⟩) rfl (.slice (some ⟨g, 0, none⟩) (q + 1) cap)).owns ho1 (fun k hk h => hgB (by cases hk; exact h))
    have ht2 : Turns (fun b => b = B ∨ (Value.slice sp q sc).ownBlock = some b) w (w1.setCell ⟨B, 0, none⟩ (.slice (some ⟨g, 0, none⟩) (q + 1) cap)) := (ht1.mono (fun _ _ h => .inr h)).set (p := ⟨B, 0, none⟩) (.inl rfl) _
    have Hg := Lib.hid hg1
    have HgB := Lib.hid hgB
    have Hb := Lib.hid hb2
    have Ho := Lib.hid ho2
    have Ht := Lib.hid ht2
    clear hb1 hb2 ho1 ho2 ht1 ht2 hg1 hgB
    go_upto_region 3 with (fail)
    obtain ⟨W3, hW3⟩ : ∃ W3, w1.setCell ⟨B, 0, none⟩ (.slice (some ⟨g, 0, none⟩) (q + 1) cap) = W3 := ⟨_, rfl⟩
    rw [hW3] at Hb Ho Ht ⊢
    clear hW3 d0 e0 hc0 hc1 hf0
    rw [show ([Value.int IntKind.u8 0]) = [.int .u8 (x : Int)] by rw [Hx0.out]; rfl] at Ho
    have hq := After.ne W3
    have hc0 : W3.cell? ⟨B, 0, none⟩ = some (.slice (some ⟨g, 0, none⟩) (q + 1) cap) := by simp [World.cell?, Hb.out]
    have hc1 : W3.cell? ⟨B, 1, none⟩ = some (.int .i64 (n : Int)) := by simp [World.cell?, Hb.out]
    have hcx : W3.cell? ⟨g, q, none⟩ = some (.int .u8 (x : Int)) := by
      rw [Ho.out.cellAt q (by omega)]
      rw [List.getElem?_append_right (by simp [byts_len])]
      simp [byts_len]
    have e0 := After.rule hc0
    have e1 := After.rule hc1
    have e2 := After.rule hcx
    have hwq : IntKind.i64.wrap (q : Int) = (q : Int) := IntWalk.i64_in _ (by omega)
    have hq0 : (0 : Int) ≤ (q : Int) := by omega
    have hq1 : (q : Int) < (q : Int) + 1 := by omega
    have hor := Hor.out.1
    have hpm := Hor.out.2
    refine wp_region_head 16 (by kernel_rfl) (by kernel_rfl) (by kernel_rfl) ?_
    repeat (refine Lq_step (fun K hK => ?_); go_simp; (refine hK _ ?_; clear hK K))
    refine Lq_nil ?_
    intro w4 hb4
    clear e0 e1 e2 hq
    have f4 : w4.frozen? ⟨g, q, none⟩ = false := free_later hb4 hcx (Ho.out.frozenAt q)
    have hcx' := cell_later hb4 hcx
    have hbx := (hb4.block B (Array.getElem?_eq_some_iff.1 Hb.out).1).trans Hb.out
    have ho4 := (Turns.of_below' (T := fun _ => False) hb4).owns Ho.out (fun _ _ h => h)
    have hbo := ho4.stored q (.int .u8 (y : Int))
    have ht5 : Turns (fun b => b = B ∨ (Value.slice sp q sc).ownBlock = some b) w (w4.setCell ⟨g, q, none⟩ (.int .u8 (y : Int))) := (Ht.out.trans (Turns.of_below' hb4)).trans' (Turns.of_grown hbo.2 (T := fun b => b = g) (fun i h => by cases h; rfl)) (fun i hi h => by
      subst h
      rcases Hg.out with h | h
      · exact .inr h
      · omega)
    have hb5 : (w4.setCell ⟨g, q, none⟩ (.int .u8 (y : Int))).heap[B]? = some (.cells #[.slice (some ⟨g, 0, none⟩) (q + 1) cap, .int .i64 (n : Int)] tyW) := (Below.heap_setCell _ _ _ B (fun h => HgB.out h.symm)).trans hbx
    have Ht5 := Lib.hid ht5
    have Hb5 := Lib.hid hb5
    have Ho5 := Lib.hid hbo.1
    clear hc0 hc1 hcx hb4 hbx ho4 hbo ht5 hb5
    go_upto_region 4 with (fail)
    obtain ⟨W5, hW5⟩ : ∃ W5, w4.setCell ⟨g, q, none⟩ (.int .u8 (y : Int)) = W5 := ⟨_, rfl⟩
    rw [hW5] at Ht5 Hb5 Ho5 ⊢
    clear hW5 f4 hcx'
    have c5 : W5.cell? ⟨B, 1, none⟩ = some (.int .i64 (n : Int)) := by simp [World.cell?, Hb5.out]
    have f5 : W5.frozen? ⟨B, 1, none⟩ = false := by simp [World.frozen?, Hb5.out]
    have Hb6 := Lib.hid (two_set1 (.int .i64 ((n : Int) + (s : Int))) Hb5.out)
    have Ho6 := Lib.hid ((Turns.set (T := fun b => b = B) (Turns.refl _ W5) (p := ⟨B, 1, none⟩) rfl (.int .i64 ((n : Int) + (s : Int)))).owns Ho5.out (fun k hk h => HgB.out (by cases hk; exact h)))
    have Ht6 := Lib.hid (Ht5.out.set (p := ⟨B, 1, none⟩) (.inl rfl) (.int .i64 ((n : Int) + (s : Int))))
    go_wp2
    go_end0
    obtain ⟨k1, k2, k3, k4, k5⟩ := Hn.out
    refine ⟨rfl, .slice (some ⟨g, 0, none⟩) (q + 1) cap, ⟨H.out.lt, ?_, ?_, k3⟩, ?_, ?_⟩
    · rw [Hb6.out, Int.natCast_add]
    · rw [k1, k2]
      have h6 := Ho6.out
      rw [List.set_append_right _ _ (by simp [byts_len])] at h6
      simpa [byts_len, u8v] using h6
    · rw [Hl.out]; exact Ht6.out
    · intro k hk
      cases hk
      rw [Hl.out]; exact Hg.out
  · have hz : ((f : Int) == 0) = false := by simp; omega
    have hl : (n + 7) / 8 = q + 1 := by omega
    have hx := Hn.out.2.2.2.2
    have hx256 : x % 256 = x := by
      have : 2 ^ f ≤ 2 ^ 7 := Nat.pow_le_pow_right (by decide) (by omega)
      have h7 : (2 : Nat) ^ 7 = 128 := rfl
      omega
    have hbx := h.box
    have hox := h.own
    rw [hl] at hbx hox
    rw [byts_snoc, hx, hx256, List.map_append, show List.map u8v [x] = [.int .u8 (x : Int)] from rfl] at hox
    obtain ⟨g, hsv, hbg, hglt⟩ : ∃ g, sp = some ⟨g, 0, none⟩ ∧ base ≤ g ∧ g < w.heap.size := by
      rcases hox.2 with ⟨-, h0⟩ | ⟨g, cap, cur, hsv, hbg, hg, -⟩
      · omega
      · cases hsv
        exact ⟨g, rfl, hbg, (Array.getElem?_eq_some_iff.1 hg).1⟩
    subst hsv
    rw [hl] at hc0
    have Ho : Hid _ := Lib.hid hox
    have Hb := Lib.hid hbx
    have H := Lib.hid h
    have Hl := Lib.hid hl
    have hlt := h.lt
    have HgB := Lib.hid (show g ≠ B by omega)
    have Hg := Lib.hid (show (Value.slice (some ⟨g, 0, none⟩) (q + 1) sc).ownBlock = some g ∨ w.heap.size ≤ g from .inl rfl)
    have Ht := Lib.hid (Turns.refl (fun b => b = B ∨ (Value.slice (some ⟨g, 0, none⟩) (q + 1) sc).ownBlock = some b) w)
    have Hn8 := Lib.hid hn8
    clear h hfit hl h0 hn8 hx hx256 hbx hox hbg hglt hlt
    go_enter Try.func44, Try.ntmps44
    go_upto_region 3 with (fail)
    clear hc0 hc1 hf0
    have hq := After.ne w
    have hc0 : w.cell? ⟨B, 0, none⟩ = some (.slice (some ⟨g, 0, none⟩) (q + 1) sc) := by simp [World.cell?, Hb.out]
    have hc1 : w.cell? ⟨B, 1, none⟩ = some (.int .i64 (n : Int)) := by simp [World.cell?, Hb.out]
    have hcx : w.cell? ⟨g, q, none⟩ = some (.int .u8 (x : Int)) := by
      rw [Ho.out.cellAt q (by omega)]
      rw [List.getElem?_append_right (by simp [byts_len])]
      simp [byts_len]
    have e0 := After.rule hc0
    have e1 := After.rule hc1
    have e2 := After.rule hcx
    have hwq : IntKind.i64.wrap (q : Int) = (q : Int) := IntWalk.i64_in _ (by omega)
    have hq0 : (0 : Int) ≤ (q : Int) := by omega
    have hq1 : (q : Int) < (q : Int) + 1 := by omega
    have hor := Hor.out.1
    have hpm := Hor.out.2
    refine wp_region_head 16 (by kernel_rfl) (by kernel_rfl) (by kernel_rfl) ?_
    repeat (refine Lq_step (fun K hK => ?_); go_simp; (refine hK _ ?_; clear hK K))
    refine Lq_nil ?_
    intro w4 hb4
    clear e0 e1 e2 hq
    have f4 : w4.frozen? ⟨g, q, none⟩ = false := free_later hb4 hcx (Ho.out.frozenAt q)
    have hcx' := cell_later hb4 hcx
    have hbx := (hb4.block B (Array.getElem?_eq_some_iff.1 Hb.out).1).trans Hb.out
    have ho4 := (Turns.of_below' (T := fun _ => False) hb4).owns Ho.out (fun _ _ h => h)
    have hbo := ho4.stored q (.int .u8 (y : Int))
    have ht5 : Turns (fun b => b = B ∨ (Value.slice (some ⟨g, 0, none⟩) (q + 1) sc).ownBlock = some b) w (w4.setCell ⟨g, q, none⟩ (.int .u8 (y : Int))) := (Ht.out.trans (Turns.of_below' hb4)).trans' (Turns.of_grown hbo.2 (T := fun b => b = g) (fun i h => by cases h; rfl)) (fun i hi h => by
      subst h
      rcases Hg.out with h | h
      · exact .inr h
      · omega)
    have hb5 : (w4.setCell ⟨g, q, none⟩ (.int .u8 (y : Int))).heap[B]? = some (.cells #[.slice (some ⟨g, 0, none⟩) (q + 1) sc, .int .i64 (n : Int)] tyW) := (Below.heap_setCell _ _ _ B (fun h => HgB.out h.symm)).trans hbx
    have Ht5 := Lib.hid ht5
    have Hb5 := Lib.hid hb5
    have Ho5 := Lib.hid hbo.1
    clear hc0 hc1 hcx hb4 hbx ho4 hbo ht5 hb5
    go_upto_region 4 with (fail)
    obtain ⟨W5, hW5⟩ : ∃ W5, w4.setCell ⟨g, q, none⟩ (.int .u8 (y : Int)) = W5 := ⟨_, rfl⟩
    rw [hW5] at Ht5 Hb5 Ho5 ⊢
    clear hW5 f4 hcx'
    have c5 : W5.cell? ⟨B, 1, none⟩ = some (.int .i64 (n : Int)) := by simp [World.cell?, Hb5.out]
    have f5 : W5.frozen? ⟨B, 1, none⟩ = false := by simp [World.frozen?, Hb5.out]
    have Hb6 := Lib.hid (two_set1 (.int .i64 ((n : Int) + (s : Int))) Hb5.out)
    have Ho6 := Lib.hid ((Turns.set (T := fun b => b = B) (Turns.refl _ W5) (p := ⟨B, 1, none⟩) rfl (.int .i64 ((n : Int) + (s : Int)))).owns Ho5.out (fun k hk h => HgB.out (by cases hk; exact h)))
    have Ht6 := Lib.hid (Ht5.out.set (p := ⟨B, 1, none⟩) (.inl rfl) (.int .i64 ((n : Int) + (s : Int))))
    go_wp2
    go_end0
    obtain ⟨k1, k2, k3, k4, k5⟩ := Hn.out
    refine ⟨rfl, .slice (some ⟨g, 0, none⟩) (q + 1) sc, ⟨H.out.lt, ?_, ?_, k3⟩, ?_, ?_⟩
    · rw [Hb6.out, Int.natCast_add]
    · rw [k1, k2]
      have h6 := Ho6.out
      rw [List.set_append_right _ _ (by simp [byts_len])] at h6
      simpa [byts_len, u8v] using h6
    · rw [Hl.out]; exact Ht6.out
    · intro k hk
      cases hk
      rw [Hl.out]; exact Hg.out

set_option maxRecDepth 100000 in
set_option maxHeartbeats 2000000 in
theorem cut_any (base B N n v k : Nat) (sv : Value) (w : World) (h : Wr w base B sv N n) (hv : v < 2 ^ k) (hk : k ≤ 24) (hmax : n + k ≤ 8388608) (hbase : base ≤ w.heap.size) :
    Calls Try.prog 43 #[.int .u32 (v : Int), .int .i64 (k : Int), .int .i64 (n : Int), .func (.func 44) #[.pointer (some ⟨B, 0, none⟩)] #[]] w fun e w' => e = .returned (.tuple #[]) ∧ WrTo base B sv (N + v * 2 ^ n) (n + k) w w' := by
  have H := Lib.hid h
  clear h
  go_enter Try.func43, Try.ntmps43
  go_wp2
  go_loopw [0, 1, 2] (fun a b c wr => ∃ (v1 k1 n1 N1 : Nat), a = .int .u32 (v1 : Int) ∧ b = .int .i64 (k1 : Int) ∧ c = .int .i64 (n1 : Int) ∧ v1 < 2 ^ k1 ∧ k1 ≤ 24 ∧ n1 + k1 ≤ 8388608 ∧ Hid (n1 + k1 = n + k) ∧ Hid (N1 + v1 * 2 ^ n1 = N + v * 2 ^ n) ∧ Hid (WrTo base B sv N1 n1 w wr)) (fun _ b _ _ => (intOf b).toNat)
  case atStart => exact ⟨v, k, n, N, rfl, rfl, rfl, hv, hk, hmax, Lib.hid rfl, Lib.hid rfl, Lib.hid (WrTo.refl H.out)⟩
  case round =>
    obtain ⟨v1, k1, n1, N1, rfl, rfl, rfl, hv1, hk1, hm1, Hnk, Hnum, Hto⟩ := hrel
    by_cases h0 : 0 < k1
    · obtain ⟨z, hz⟩ : ∃ z, min k1 (8 - n1 % 8) = z := ⟨_, rfl⟩
      have hz0 : 0 < z := by omega
      have hzk : z ≤ k1 := by omega
      have hz8 : n1 % 8 + z ≤ 8 := by omega
      have Hz := Lib.hid hz
      have hv32 : v1 < 4294967296 := by have := pow_le24 hk1; omega
      obtain ⟨p, hp⟩ : ∃ p, v1 % 2 ^ z = p := ⟨_, rfl⟩
      obtain ⟨u, hu⟩ : ∃ u, v1 / 2 ^ z = u := ⟨_, rfl⟩
      have hpz : p < 2 ^ z := by rw [← hp]; exact Nat.mod_lt _ (pow_pos' z)
      have hp256 : p < 256 := by
        have : 2 ^ z ≤ 2 ^ 8 := Nat.pow_le_pow_right (by decide) (by omega)
        have h8 : (2 : Nat) ^ 8 = 256 := rfl
        omega
      have huk : u < 2 ^ (k1 - z) := by
        rw [← hu]
        refine Nat.div_lt_of_lt_mul ?_
        rw [← Nat.pow_add, show z + (k1 - z) = k1 by omega]
        exact hv1
      have Hu : Hid (((v1 : Int) / 2 ^ z) = (u : Int)) := Lib.hid (by rw [← hu]; simp)
      have Hpu := Lib.hid (show p + 2 ^ z * u = v1 by rw [← hp, ← hu]; exact Nat.mod_add_div _ _)
      have Hp := Lib.hid hp
      clear hz hp hu
      go_wp2_with fail
      refine Calls.mono (fitting_any k1 n1 _ (by omega)) ?_
      rintro e w1 ⟨rfl, rfl⟩
      rw [Hz.out]
      go_wp2_with fail
      refine Calls.mono (low_any v1 z _ hv32 (by omega)) ?_
      rintro e w1 ⟨rfl, rfl⟩
      rw [Hp.out]
      go_wp2_with fail
      obtain ⟨sv1, hw1, ht1, hl1⟩ := Hto.out
      have hb1 := Nat.le_trans hbase ht1.size
      refine Calls.mono (lay_any base B N1 n1 p z sv1 w1 hw1 hpz hz0 hz8 (by omega) hb1) ?_
      rintro e w2 ⟨rfl, hto2⟩
      have Hto2 := Lib.hid (WrTo.step ht1 hl1 hto2)
      have hu := Hu.out
      clear hw1 ht1 hl1 hto2 Hto hb1
      go_wp2
      go_roundw
      case rel => exact ⟨u, k1 - z, n1 + z, N1 + p * 2 ^ n1, rfl, by go_num, by go_num, huk, by omega, by omega, Lib.hid (by have := Hnk.out; omega), Lib.hid (by
          rw [← Hnum.out, ← Hpu.out, Nat.pow_add, Nat.add_mul, Nat.mul_comm (2 ^ z) u, Nat.mul_comm (2 ^ n1) (2 ^ z), Nat.mul_assoc, Nat.add_assoc]), Hto2⟩
      case measure => simp [intOf]; omega
    · obtain rfl : k1 = 0 := by omega
      have hv0 : v1 = 0 := by simpa using hv1
      subst hv0
      go_wp2
      go_end0
      refine ⟨rfl, ?_⟩
      have e1 := Hnk.out
      have e2 := Hnum.out
      rw [Nat.zero_mul, Nat.add_zero] at e2
      rw [← e2, ← e1]
      exact Hto.out

set_option maxHeartbeats 1000000 in
theorem add_any (base B N n v k : Nat) (sv : Value) (w : World) (h : Wr w base B sv N n) (hv : v < 2 ^ k) (hk : k ≤ 24) (hmax : n + k ≤ 8388608) (hbase : base ≤ w.heap.size) :
    Calls Try.prog 39 #[.pointer (some ⟨B, 0, none⟩), .int .u32 (v : Int), .int .i64 (k : Int)] w fun e w' => e = .returned (.tuple #[]) ∧ WrTo base B sv (N + v * 2 ^ n) (n + k) w w' := by
  have hmf : ∀ (fn : Fn) (first cap : Array Value) (w : World), (Instr.makeFunc fn first cap).run Try.prog w = .ok (.func fn first cap) w := fun _ _ _ _ => rfl
  have hc1 := h.c1
  have H := Lib.hid h
  clear h
  go_enter Try.func39, Try.ntmps39
  go_wp2_with fail
  refine Calls.mono (cut_any base B N n v k sv w H.out hv hk hmax hbase) ?_
  rintro e w1 ⟨rfl, hto⟩
  have Hto := Lib.hid hto
  clear hto
  go_wp2
  go_end0
  exact ⟨rfl, Hto.out⟩

end Go.Proofs.Ytonhcdhlinlncaa
