/- The document's Own: a picture of its own, cut to 24 bits. -/
import Derived.Test.YtpddkhhdleknnaaZ15
import Derived.Test.YtpddkhhdleknnaaZ18
import Derived.Test.YtpddkhhdleknnaaZ2
import Derived.Test.YtpddkhhdleknnaaZ20
import Derived.Deep.RegionHeld3
import Derived.Deep.RegionLaw
import Derived.Deep.AppendLies
import Derived.Deep.DrawnRows
import Derived.Handy
namespace Go.Proofs.Ytpddkhhdleknnaa
open Go.RowKit

def u32V (l : List Int) : List Value := l.map (Value.int .u32)
theorem u32_ones (l : List Int) : ∀ u ∈ u32V l, u.oneCell' = true := by
  intro u hu
  obtain ⟨x, -, rfl⟩ := List.mem_map.1 hu
  rfl

theorem owns_drew' {W : World} {base : Nat} {e : TypeId} {size : Nat} {v : Value} {n : Nat} {xs : List Value} (h : W.ownsRow base e size v n xs) : W.drew.ownsRow base e size v n xs := h
theorem cells_news_drew (w : World) (t : TypeId) (cs : List Value) : ∀ j u, cs[j]? = some u → (w.alloc (.cells cs.toArray t)).drew.cell? ((⟨w.heap.size, 0, none⟩ : Addr).add j) = some u := cells_news w t cs
theorem grown_cell {w w' : World} {row : Option Nat} (h : w.grownBy w' row) {p : Addr} {v : Value} (hc : w.cell? p = some v) (hn : row ≠ some p.block) : w'.cell? p = some v :=
  (Turns.of_grown (T := fun b => row = some b) h (fun _ h => h)).cell hc hn
theorem grown_free {w w' : World} {row : Option Nat} (h : w.grownBy w' row) {p : Addr} {v : Value} (hc : w.cell? p = some v) (hf : w.frozen? p = false) (hn : row ≠ some p.block) : w'.frozen? p = false :=
  (Turns.of_grown (T := fun b => row = some b) h (fun _ h => h)).free hc hf hn
theorem RowAt.blk' {w : World} {p : Option Addr} {l : List Int} (h : RowAt encU 1 w p l) : ∀ a, p = some a → a.block < w.heap.size := by
  rintro a rfl
  rcases h with ⟨h, -⟩ | ⟨b, off, h, hb, -⟩
  · cases h
  · cases h; exact hb

theorem own_turns {wr w5 : World} {o : Obj} {row : Option Nat} {B : Nat} {u : Value} (h : (wr.alloc o).drew.grownBy w5 row) : Turns (fun i => row = some i ∨ i = B) wr (w5.setCell ⟨B, 2, none⟩ u) := by
  have a1 : Turns (fun i => row = some i ∨ i = B) wr (wr.alloc o).drew := (Turns.of_below' (Below.al1 wr o)).drew
  have a2 := (Turns.of_grown (T := fun i => row = some i) h (fun _ h => h)).mono (T' := fun i => row = some i ∨ i = B) (fun _ _ h => Or.inl h)
  exact (a1.trans a2).set (p := ⟨B, 2, none⟩) (Or.inr rfl) u
theorem owns_base {W : World} {base base' : Nat} {e : TypeId} {size : Nat} {v : Value} {n : Nat} {xs : List Value} (h : W.ownsRow base e size v n xs) (hb : base' ≤ base) : W.ownsRow base' e size v n xs := by
  refine ⟨h.1, ?_⟩
  rcases h.2 with h0 | ⟨g, cap, cur, h1, h2, h3⟩
  · exact .inl h0
  · exact .inr ⟨g, cap, cur, h1, by omega, h3⟩
theorem three_set2 {W : World} {B : Nat} {t : TypeId} {a b c : Value} (x : Value) (h : W.heap[B]? = some (.cells #[a, b, c] t)) : (W.setCell ⟨B, 2, none⟩ x).heap[B]? = some (.cells #[a, b, x] t) := by
  obtain ⟨hlt, hk⟩ := Array.getElem?_eq_some_iff.1 h
  show (W.heap.modify B _)[B]? = _
  rw [Array.getElem?_eq_getElem (by rw [Array.size_modify]; exact hlt), Array.getElem_modify_self, hk]
  rfl

set_option maxRecDepth 100000 in
set_option maxHeartbeats 4000000 in
theorem refOwn_any (wd ht : Int) (p : Option Addr) (c : Nat) (S : List Int) (w : World) (hS : RowAt encU 1 w p S) (hl : S.length ≤ 65536) (hu : U32 S) :
    Calls Try.prog 33 #[IV wd ht (.slice p S.length c)] w fun e w' => ∃ p' c', e = .returned (IV wd ht (.slice p' S.length c')) ∧ w'.ownsRow w.heap.size 49 1 (.slice p' S.length c') S.length (u32V (S.map cut24)) ∧ Below w.heap.size w w' := by
  obtain ⟨i0, hi0, hz0, hz1, hz2⟩ := info_parts u32_info
  go_enter Try.func33, Try.ntmps33
  go_wp2
  have hgB := heap_pushed [.cells #[.int .i64 wd, .int .i64 ht, .slice p S.length c] 39, .cells #[.int .i64 0, .int .i64 0, .slice none 0 0] 39, .cells #[.int .i64 wd, .int .i64 ht, .slice none 0 0] 39] w
  simp only [List.foldl_cons, List.foldl_nil] at hgB
  have hal := Below.al3 w (.cells #[.int .i64 wd, .int .i64 ht, .slice p S.length c] 39) (.cells #[.int .i64 0, .int .i64 0, .slice none 0 0] 39) (.cells #[.int .i64 wd, .int .i64 ht, .slice none 0 0] 39)
  have hsz : (((w.alloc (.cells #[.int .i64 wd, .int .i64 ht, .slice p S.length c] 39)).alloc (.cells #[.int .i64 0, .int .i64 0, .slice none 0 0] 39)).alloc (.cells #[.int .i64 wd, .int .i64 ht, .slice none 0 0] 39)).heap.size = w.heap.size + 3 := by simp
  generalize (((w.alloc (.cells #[.int .i64 wd, .int .i64 ht, .slice p S.length c] 39)).alloc (.cells #[.int .i64 0, .int .i64 0, .slice none 0 0] 39)).alloc (.cells #[.int .i64 wd, .int .i64 ht, .slice none 0 0] 39)) = w0 at *
  have i1 : Im3 w0 w.heap.size wd ht (.slice p S.length c) := (hgB 0 _).2 rfl
  have i2 : Im3 w0 (w.heap.size + 1) 0 0 (.slice none 0 0) := (hgB 1 _).2 rfl
  have i3 : Im3 w0 (w.heap.size + 1 + 1) wd ht (.slice none 0 0) := (hgB 2 _).2 rfl
  have HS := Lib.hid hS
  have Hu := Lib.hid hu
  have hszg : w.heap.size + 3 ≤ w0.heap.size := by omega
  clear hgB hS hu hsz
  go_loopw [4] (fun iv wr => ∃ (k : Nat) (v : Value), k ≤ S.length ∧ iv = .int .i64 k ∧ Hid (Im3 wr w.heap.size wd ht (.slice p S.length c)) ∧ Hid (Im3 wr (w.heap.size + 1) 0 0 (.slice none 0 0)) ∧ Hid (Im3 wr (w.heap.size + 1 + 1) wd ht v) ∧
    Hid (wr.ownsRow (w.heap.size + 3) 49 1 v k (u32V ((S.take k).map cut24))) ∧ Hid (Below w.heap.size w wr) ∧ w.heap.size + 3 ≤ wr.heap.size) (fun iv _ => S.length - (intOf iv).toNat)
  case atStart => exact ⟨0, .slice none 0 0, Nat.zero_le _, rfl, Lib.hid i1, Lib.hid i2, Lib.hid i3, Lib.hid (World.ownsRow_nil _ _ _ _), Lib.hid hal, hszg⟩
  case round =>
    obtain ⟨k, v, hk, rfl, H1, H2, H3, Hown, Hb, hsr⟩ := hrel
    obtain ⟨m0, m1, m2⟩ := H1.out.cells
    obtain ⟨q, cq, rfl⟩ := owns_slice Hown.out
    by_cases hlt : k < S.length
    · have dk : decide (k < S.length) = true := by simp; omega
      obtain ⟨b, off, hp, hx⟩ := HS.out.u32_at hlt
      subst hp
      obtain ⟨hv1, hv2⟩ := Hu.out S[k] (List.getElem_mem hlt)
      have hx0 := hx _ Hb.out
      have htk : (S.take (k + 1)).map cut24 = (S.take k).map cut24 ++ [cut24 S[k]] := by rw [List.take_succ_eq_append_getElem hlt, List.map_append]; rfl
      have Htk := Lib.hid htk
      have hr : S[k].tmod 16777216 = cut24 S[k] := Int.tmod_eq_emod_of_nonneg hv1
      have hbw := HS.out.blk' _ rfl
      simp only at hbw
      obtain ⟨n0, n1, n2⟩ := H3.out.cells
      have f2 := H3.out.free 2
      have k0 : (0 : Int) ≤ (k : Int) := by omega
      have k1 : (k : Int) < (S.length : Int) := by omega
      clear hx htk
      generalize S[k] = x at *
      generalize cut24 x = y at *
      go_upto_region 5 with (fail)
      have q1 := cell_later (Below.al1 wr (.cells #[.int .u32 y] 49)) n2
      have q2 := cell_later (Below.al1 wr (.cells #[.int .u32 y] 49)) m2
      have q3 := cell_later (Below.al1 wr (.cells #[.int .u32 y] 49)) hx0
      have q4 := free_later (Below.al1 wr (.cells #[.int .u32 y] 49)) n2 f2
      have hne1 : (Value.slice q k cq).ownBlock ≠ some (w.heap.size + 1 + 1) := fun e => by have := (Hown.out.lt _ e).1; omega
      have hne2 : (Value.slice q k cq).ownBlock ≠ some w.heap.size := fun e => by have := (Hown.out.lt _ e).1; omega
      have hne3 : (Value.slice q k cq).ownBlock ≠ some b := fun e => by have := (Hown.out.lt _ e).1; omega
      go_region_law (refine step_append_lies _ (by rfl) (.tmp 18) (.tmp 25) 37 (by rfl) (w.heap.size + 3) 49 i0 _ 1 4 Try.underlying37 hi0 hz0 hz1 hz2 rfl (by decide) (.slice q k cq) k (u32V ((S.take k).map cut24)) (by rfl) (owns_drew' (Hown.out.alloc _)) _ 1 1 [.int .u32 y] (by rfl) rfl (fun j u hu => cells_news_drew _ _ [.int .u32 y] j u hu) (u32_ones [y]) (by decide) (by simp only [maxLen]; omega) (by omega) (by simp; omega) (wr.heap.size + 1) (by simp) ?_; intro g5 cap5 w5 hown5 hgr5 hpl5 hlt5; have z1 := grown_cell hgr5 q1 hne1; have z4 := grown_free hgr5 q1 q4 hne1)
      all_goals
        have htA : Turns (fun i => (Value.slice q k cq).ownBlock = some i ∨ i = w.heap.size + 1 + 1) wr (w5.setCell ⟨w.heap.size + 1 + 1, 2, none⟩ (.slice (some ⟨g5, 0, none⟩) (k + 1) cap5)) :=
          own_turns hgr5
        have hno : ∀ i, i < w.heap.size + 1 + 1 → ¬ ((Value.slice q k cq).ownBlock = some i ∨ i = w.heap.size + 1 + 1) := fun i hi h => by
          rcases h with h | h
          · have := (Hown.out.lt _ h).1; omega
          · omega
        have g1 := Lib.hid (H1.out.same (htA.block w.heap.size (by omega) (hno _ (by omega))))
        have g2 := Lib.hid (H2.out.same (htA.block (w.heap.size + 1) (by omega) (hno _ (by omega))))
        have h35 : Im3 w5 (w.heap.size + 1 + 1) wd ht (.slice q k cq) := (H3.out.later (Below.al1 wr (.cells #[.int .u32 y] 49))).same ((Turns.of_grown (T := fun i => (Value.slice q k cq).ownBlock = some i) hgr5 (fun _ h => h)).block _ (by simp; omega) (fun e => hne1 e))
        have g3 := Lib.hid (show Im3 (w5.setCell ⟨w.heap.size + 1 + 1, 2, none⟩ (.slice (some ⟨g5, 0, none⟩) (k + 1) cap5)) (w.heap.size + 1 + 1) wd ht (.slice (some ⟨g5, 0, none⟩) (k + 1) cap5) from three_set2 _ h35)
        have g4 := Lib.hid (show (w5.setCell ⟨w.heap.size + 1 + 1, 2, none⟩ (.slice (some ⟨g5, 0, none⟩) (k + 1) cap5)).ownsRow (w.heap.size + 3) 49 1 (.slice (some ⟨g5, 0, none⟩) (k + 1) cap5) (k + 1) (u32V ((S.take (k + 1)).map cut24)) from by
          refine (Turns.set (T := fun i => i = w.heap.size + 1 + 1) (p := ⟨w.heap.size + 1 + 1, 2, none⟩) (Turns.refl _ w5) rfl _).owns ?_ (fun i hi e => by have := (hown5.lt i hi).1; omega)
          rw [Htk.out, u32V, List.map_append]
          exact hown5)
        have g5' := Lib.hid (Hb.out.trans (htA.below (B := w.heap.size) Hb.out.size (fun i h => by
          rcases h with h | h
          · have := (Hown.out.lt _ h).1; omega
          · omega)))
        have g6 : w.heap.size + 3 ≤ (w5.setCell ⟨w.heap.size + 1 + 1, 2, none⟩ (.slice (some ⟨g5, 0, none⟩) (k + 1) cap5)).heap.size := Nat.le_trans hsr htA.size
        clear htA hno h35 hown5 hgr5 hpl5 hlt5 z1 z4 q1 q2 q3 q4 n0 n1 n2 f2 hx0 m0 m1 m2
        go_wp2
        go_roundw
        case rel => exact ⟨k + 1, _, by omega, by go_num, g1, g2, g3, g4, g5', g6⟩
        case measure => simp [intOf]; omega
    · obtain rfl : k = S.length := by omega
      have dk : decide (S.length < S.length) = false := by simp
      obtain ⟨n0, n1, n2⟩ := H3.out.cells
      obtain ⟨d0, d1, d2⟩ := H2.out.cells
      have f0 := H2.out.free 0
      have f1 := H2.out.free 1
      have f2 := H2.out.free 2
      have Hres := Lib.hid (H2.out.set wd ht (.slice q S.length cq))
      have hown9 := Hown.out
      rw [List.take_length] at hown9
      have Hown9 := Lib.hid hown9
      clear hown9
      go_wp2
      refine bodyPost_ret (v := IV wd ht (.slice q S.length cq)) (results_iv (B := w.heap.size + 1) Try.results33 rfl Hres.out) rfl ⟨q, cq, rfl, ?_, Hb.out.trans ((below_set3 _ _ _).mono (by omega))⟩
      refine owns_base (((((Turns.refl (fun i => i = w.heap.size + 1) wr).set (p := ⟨w.heap.size + 1, 0, none⟩) rfl _).set (p := ⟨w.heap.size + 1, 1, none⟩) rfl _).set (p := ⟨w.heap.size + 1, 2, none⟩) rfl _).owns Hown9.out (fun i hi e => ?_)) (show w.heap.size ≤ w.heap.size + 3 by omega)
      have := (Hown9.out.lt i hi).1
      omega

end Go.Proofs.Ytpddkhhdleknnaa
