/- Several texts in one, each with its own head. -/
import Derived.Test.YtoladolgmeanhaaGreatQp7
import Derived.Test.YtoladolgmeanhaaGreatQp27
import Derived.Test.YtoladolgmeanhaaGreatQp8
import Derived.Test.YtoladolgmeanhaaGreatQp9
/- The library's heap over huff's queue, move by move: Push, Pop; put, take. -/
namespace Go.Proofs.YtoladolgmeanhaaGreat
open Go.RowKit

def QuTd (base B : Nat) (sv : Value) (E : List (Nat × Nat)) (w w' : World) : Prop :=
  ∃ sv', Qu w' base B sv' E ∧ Turns (fun b => b = B ∨ sv.ownBlock = some b) w w' ∧ ∀ k, sv'.ownBlock = some k → sv.ownBlock = some k ∨ w.heap.size ≤ k
theorem QuTd.step {w w1 w2 : World} {base B : Nat} {sv sv1 : Value} {E : List (Nat × Nat)} (h2 : Turns (fun b => b = B ∨ sv.ownBlock = some b) w w1) (h3 : ∀ k, sv1.ownBlock = some k → sv.ownBlock = some k ∨ w.heap.size ≤ k) (k : QuTd base B sv1 E w1 w2) : QuTd base B sv E w w2 := by
  obtain ⟨sv2, k1, k2, k3⟩ := k
  refine ⟨sv2, k1, h2.trans' k2 (fun i hi h => ?_), fun q hq => ?_⟩
  · rcases h with h | h
    · exact .inl h
    · rcases h3 i h with h | h
      · exact .inr h
      · omega
  · rcases k3 q hq with h | h
    · rcases h3 q h with h | h
      · exact .inl h
      · exact .inr h
    · exact .inr (Nat.le_trans h2.size h)
set_option maxHeartbeats 1000000 in
theorem hpush_det (base B : Nat) (sv : Value) (F : List (Nat × Nat)) (b c : Nat) (w : World) (h3 : Qu w base B sv F) (hc : w.cell? ⟨b, 0, none⟩ = some (.int .i64 (c : Int))) (hbB : b ≠ B) (hbs : sv.ownBlock ≠ some b) (hlen : F.length < 65536) (hbase : base ≤ w.heap.size) :
    Calls Tryz.prog 177 #[.iface 239 (.pointer (some ⟨B, 0, none⟩)), .iface 202 (ptrV b)] w fun e w' => e = .returned (.tuple #[]) ∧ ∃ G, PushR F (b, c) G ∧ QuTd base B sv G w w' := by
  obtain ⟨n, hn⟩ : ∃ n, F.length = n := ⟨_, rfl⟩
  have hl : n < 65536 := by rw [← hn]; exact hlen
  have m0 := fun q w => method_push q ⟨B, 0, none⟩ w
  have H3 := Lib.hid h3
  have Hn := Lib.hid hn
  clear h3 hn hlen
  go_enter Tryz.func177, Tryz.ntmps177
  go_wp2_with fail
  refine Calls.mono (qpush_any base B sv F b c w H3.out hc hbB hbs (by have := Hn.out; omega) hbase) ?_
  rintro e w1 ⟨rfl, sv1, hq1, ht1, hs1⟩
  have HQ := Lib.hid hq1
  have HT := Lib.hid (And.intro ht1 hs1)
  have c1 := hq1.c0
  obtain ⟨p1, cp1, rfl⟩ := owns_slice hq1.own
  have m1 := fun q => method_len q ⟨B, 0, none⟩ _ w1 c1
  have hl1 : (F ++ [(b, c)]).length = n + 1 := by simp [Hn.out]
  rw [hl1] at m1 c1
  have Hl1 := Lib.hid hl1
  clear hq1 ht1 hs1 hl1
  go_wp2_with fail
  refine Calls.mono (qlen_any _ _ _ _) ?_
  rintro e w2 ⟨rfl, rfl⟩
  go_wp2_with fail
  refine Calls.mono (up_det base B _ (F ++ [(b, c)]) n w2 HQ.out (by have := Hl1.out; omega) (by have := Hl1.out; omega)) ?_
  rintro e w3 ⟨rfl, G, g1, g3, g4⟩
  have HG := Lib.hid (And.intro g1 (And.intro g3 g4))
  clear g1 g3 g4
  go_wp2
  go_end0
  obtain ⟨g1, g3, g4⟩ := HG.out
  obtain ⟨ht, hs⟩ := HT.out
  refine ⟨rfl, G, by unfold PushR; rw [Hn.out]; exact g1, QuTd.step ht hs ⟨_, g3, g4.mono (fun _ _ h => .inr h), fun _ h => .inl h⟩⟩
set_option maxHeartbeats 2000000 in
theorem hpop_det (base B : Nat) (sv : Value) (F : List (Nat × Nat)) (w : World) (h3 : Qu w base B sv F) (h0 : 0 < F.length) (hlen : F.length ≤ 65536) :
    Calls Tryz.prog 178 #[.iface 239 (.pointer (some ⟨B, 0, none⟩))] w fun e w' => ∃ x G, e = .returned (.iface 202 (ptrV x.1)) ∧ PopR F x G ∧ QuTd base B sv G w w' := by
  obtain ⟨n, hn⟩ : ∃ n, F.length = n + 1 := ⟨F.length - 1, by omega⟩
  have hl : n < 65536 := by omega
  have c0 := h3.c0
  obtain ⟨p0, cp0, hp0⟩ := owns_slice h3.own
  rw [hn] at hp0
  subst hp0
  have H3 := Lib.hid h3
  have Hn := Lib.hid hn
  have hF0 : 0 < F.length := by omega
  have m0 := fun q => method_len q ⟨B, 0, none⟩ _ w c0
  have ms := fun q => method_swap q ⟨B, 0, none⟩ _ w c0
  have mp := fun q w => method_pop q ⟨B, 0, none⟩ w
  clear h3 hn h0 hlen
  go_enter Tryz.func178, Tryz.ntmps178
  go_wp2_with fail
  refine Calls.mono (qlen_any _ _ _ _) ?_
  rintro e w1 ⟨rfl, rfl⟩
  go_wp2_with fail
  have hsw : Calls Tryz.prog 205 #[.slice p0 (n + 1) cp0, .int .i64 0, .int .i64 (n : Int)] w1 fun e w' => e = .returned (.tuple #[]) ∧ Qu w' base B (.slice p0 (n + 1) cp0) (swp F 0 n) ∧ Turns (fun b => (Value.slice p0 (n + 1) cp0).ownBlock = some b) w1 w' := by
    have hF := Hn.out
    rcases Nat.eq_zero_or_pos n with hz | hz
    · subst hz
      rw [swp_self (by omega)]
      exact qswap_same base B _ F 0 w1 H3.out (by omega)
    · rw [swp_eq (by omega) (by omega)]
      exact qswap_any base B _ F 0 n w1 H3.out (by omega) (by omega) (by omega)
  refine Calls.mono hsw ?_
  rintro e w2 ⟨rfl, hq2, ht2⟩
  have HQ2 := Lib.hid hq2
  have HT2 := Lib.hid ht2
  clear hq2 ht2 hsw m0 ms c0
  go_wp2_with fail
  refine Calls.mono (down_det base B _ (swp F 0 n) n w2 HQ2.out (by rw [swp_len, Hn.out]; omega) (by rw [swp_len, Hn.out]; omega)) ?_
  rintro e w3 ⟨⟨v3, rfl⟩, D, d1, d3, hq3, ht3⟩
  have hDl : D.length = n + 1 := by rw [d1.len, swp_len, Hn.out]
  have hx : D = D.take n ++ [F[0]'hF0] := by
    have e1 : D[n]? = some (F[0]'hF0) := by
      rw [d3 n (Nat.le_refl _), swp_eq (by rw [Hn.out]; omega) (by rw [Hn.out]; omega), List.getElem?_set_self (by simp [Hn.out])]
    obtain ⟨hlt, e2⟩ := List.getElem?_eq_some_iff.1 e1
    rw [← e2]
    refine List.ext_getElem? (fun k => ?_)
    rcases Nat.lt_or_ge k n with hk | hk
    · rw [List.getElem?_append_left (by simp; omega), List.getElem?_take_of_lt hk]
    · rw [List.getElem?_append_right (by simp; omega)]
      rcases Nat.lt_or_ge n k with hk2 | hk2
      · rw [List.getElem?_eq_none (by omega), List.getElem?_eq_none (by simp; omega)]
      · obtain rfl : k = n := by omega
        simp [hDl]
  have HD := Lib.hid d1
  have Hx := Lib.hid hx
  obtain ⟨x, hxx⟩ : ∃ x, F[0]'hF0 = x := ⟨_, rfl⟩
  rw [hxx] at hx
  have Hxx := Lib.hid hxx
  have HQ3 := Lib.hid (show Qu w3 base B (.slice p0 (n + 1) cp0) (D.take n ++ [(x.1, x.2)]) from hx ▸ hq3)
  have HT3 := Lib.hid (HT2.out.trans ht3)
  clear d1 d3 hq3 ht3 hDl hx hxx
  go_wp2_with fail
  refine Calls.mono (qpop_any base B _ (D.take n) x.1 x.2 w3 HQ3.out (by simp; omega)) ?_
  rintro e w4 ⟨rfl, sv4, hq4, ht4, hs4⟩
  have HQ4 := Lib.hid (And.intro hq4 (And.intro ht4 hs4))
  clear hq4 ht4 hs4
  go_wp2
  go_ret
  obtain ⟨hq4, ht4, hs4⟩ := HQ4.out
  refine ⟨x, D.take n, rfl, ⟨?_, D, ?_, ?_⟩, sv4, hq4, ?_, ?_⟩
  · rw [List.getElem?_eq_getElem hF0, Hxx.out]
  · rw [show F.length - 1 = n by have := Hn.out; omega]; exact HD.out
  · rw [show F.length - 1 = n by have := Hn.out; omega]
  · exact (HT3.out.mono (T' := fun b => b = B ∨ (Value.slice p0 (n + 1) cp0).ownBlock = some b) (fun _ _ h => .inr h)).trans ht4
  · intro k hk
    rcases hs4 k hk with h | h
    · exact .inl h
    · exact .inr (Nat.le_trans HT3.out.size h)
set_option maxRecDepth 100000 in
set_option maxHeartbeats 2000000 in
theorem put_det (base B : Nat) (sv : Value) (E l : List (Nat × Nat)) (v : Value) (w : World) (h : Qu w base B sv E) (hv : Row encPr 1 w v (l.map Prod.fst)) (hvb : ∀ k, v.ownBlock = some k → k ≠ B ∧ sv.ownBlock ≠ some k)
    (hl : ∀ e ∈ l, e.1 ≠ B ∧ sv.ownBlock ≠ some e.1 ∧ w.cell? ⟨e.1, 0, none⟩ = some (.int .i64 (e.2 : Int))) (hlen : E.length + l.length ≤ 65536) (hbase : base ≤ w.heap.size) :
    Calls Tryz.prog 166 #[.pointer (some ⟨B, 0, none⟩), v] w fun e w' => e = .returned (.tuple #[]) ∧ ∃ G, PutR E l G ∧ QuTd base B sv G w w' := by
  obtain ⟨p, c, rfl, h1, h2, hrow⟩ := hv
  rw [List.length_map] at h1 hvb ⊢
  have H := Lib.hid h
  have Hrow := Lib.hid hrow
  have Hvb := Lib.hid hvb
  have Hl := Lib.hid hl
  clear h hrow hvb hl h2
  go_enter Tryz.func166, Tryz.ntmps166
  go_wp2
  go_loopw [8] (fun kv wr => ∃ (k : Nat), kv = .int .i64 (k : Int) ∧ k ≤ l.length ∧ Hid (∃ G, PutR E (l.take k) G ∧ QuTd base B sv G w wr)) (fun kv _ => l.length - (intOf kv).toNat)
  case atStart => exact ⟨0, rfl, Nat.zero_le _, Lib.hid ⟨E, by rw [List.take_zero]; exact .nil, sv, H.out, Turns.refl _ _, fun _ h => .inl h⟩⟩
  case round =>
    obtain ⟨k, rfl, hk, Hto⟩ := hrel
    by_cases hlt : k < l.length
    · obtain ⟨g, off, rfl, hcell⟩ := Hrow.out.ptr (k := k) (by simpa using hlt)
      obtain ⟨G1, hput, sv1, hp1, ht1, hs1⟩ := Hto.out
      have hG1 := hput.len
      have Hput := Lib.hid hput
      clear hput
      rw [List.getElem_map] at hcell
      obtain ⟨hb1, hb2, hb3⟩ := Hl.out l[k] (List.getElem_mem hlt)
      obtain ⟨hg1, hg2⟩ := Hvb.out g rfl
      have hx : wr.cell? ⟨g, off + k, none⟩ = some (ptrV l[k].1) := ht1.cell hcell (fun e => by
        rcases e with e | e
        · exact hg1 e
        · exact hg2 e)
      have Hkey : Hid (wr.cell? ⟨l[k].1, 0, none⟩ = some (.int .i64 (l[k].2 : Int))) := Lib.hid (ht1.cell hb3 (fun e => by
        rcases e with e | e
        · exact hb1 e
        · exact hb2 e))
      have Hap : Hid (l[k].1 ≠ B ∧ sv1.ownBlock ≠ some l[k].1) := Lib.hid ⟨hb1, fun e => by
        have := World.block_lt_of_cell? _ _ hb3
        simp only at this
        rcases hs1 _ e with h | h
        · exact hb2 h
        · omega⟩
      have Htk : Hid (l.take (k + 1) = l.take k ++ [(l[k].1, l[k].2)]) := Lib.hid (by
        rw [List.take_succ_eq_append_getElem hlt])
      have hlk : (l.take k).length = k := by rw [List.length_take]; omega
      rw [hlk] at hG1
      have HG1 := Lib.hid hG1
      clear hG1
      have Hp1 := Lib.hid hp1
      have Ht1 := Lib.hid (And.intro ht1 hs1)
      obtain ⟨b, hb⟩ : ∃ b, l[k].1 = b := ⟨_, rfl⟩
      obtain ⟨c0, hc0⟩ : ∃ c, l[k].2 = c := ⟨_, rfl⟩
      rw [hb] at hx Hkey Hap Htk
      rw [hc0] at Hkey Htk
      unfold ptrV at hx
      have Hlk := Lib.hid hlk
      have k0 : (0 : Int) ≤ (k : Int) := by omega
      have k1 : (k : Int) < (l.length : Int) := by omega
      have hbw := Nat.le_trans hbase ht1.size
      clear hcell hb1 hb2 hb3 hg1 hg2 hp1 ht1 hs1 hlk hb hc0
      go_wp2_with fail
      refine Calls.mono (hpush_det base B sv1 G1 b c0 wr Hp1.out Hkey.out Hap.out.1 Hap.out.2 (by rw [HG1.out]; omega) hbw) ?_
      rintro e w1 ⟨rfl, G2, hg2, hto1⟩
      have Hto1 : Hid (∃ G, PutR E (l.take (k + 1)) G ∧ QuTd base B sv G w w1) := Lib.hid ⟨G2, by
        rw [Htk.out]
        exact Hput.out.append (.cons hg2 .nil), QuTd.step Ht1.out.1 Ht1.out.2 hto1⟩
      clear hto1 hg2
      go_wp2
      go_roundw
      case rel => exact ⟨k + 1, by go_num, by omega, Hto1⟩
      case measure => simp [intOf]; omega
    · obtain rfl : k = l.length := by omega
      go_wp2
      go_end0
      refine ⟨rfl, ?_⟩
      have := Hto.out
      rw [List.take_length] at this
      exact this
theorem take_det (base B : Nat) (sv : Value) (E : List (Nat × Nat)) (w : World) (h : Qu w base B sv E) (h0 : 0 < E.length) (hlen : E.length ≤ 65536) :
    Calls Tryz.prog 168 #[.pointer (some ⟨B, 0, none⟩)] w fun e w' => ∃ x E', e = .returned (ptrV x.1) ∧ PopR E x E' ∧ QuTd base B sv E' w w' := by
  have H := Lib.hid h
  clear h
  have hta := assert_parcel
  go_enter Tryz.func168, Tryz.ntmps168
  go_wp2_with fail
  refine Calls.mono (hpop_det base B sv E w H.out h0 hlen) ?_
  rintro e w1 ⟨x, E', rfl, h1, h3⟩
  have H1 := Lib.hid (And.intro h1 h3)
  clear h1 h3
  go_wp2
  go_ret
  exact ⟨x, E', rfl, H1.out⟩
end Go.Proofs.YtoladolgmeanhaaGreat

/- huff's pairs, move by move. -/
namespace Go.Proofs.YtoladolgmeanhaaGreat
open Go.RowKit

section
variable {α : Type} [Inhabited α]
theorem gs_eq {E : List (α × Nat)} {i j : Nat} (hi : i < E.length) (hj : j < E.length) : gs E i j = (E.set i E[j]).set j E[i] := by
  unfold gs; simp [List.getD_eq_getElem?_getD, hi, hj]
theorem gs_perm {E : List (α × Nat)} {i j : Nat} (hi : i < E.length) (hj : j < E.length) : (gs E i j).Perm E := by
  rw [gs_eq hi hj]; exact List.set_set_perm hi hj
theorem UpR.perm {E R : List (α × Nat)} {j : Nat} (h : UpR E j R) : j < E.length → R.Perm E := by
  induction h with
  | stop h => intro _; exact List.Perm.refl _
  | @step E R j h0 h hr ih =>
    intro hj
    exact (ih (by rw [gs_len]; omega)).trans (gs_perm (E := E) (i := (j - 1) / 2) (j := j) (by omega) hj)
theorem lessr_lt {m i : Nat} {E : List (α × Nat)} (h : 2 * i + 1 < m) : i < lessr m E i ∧ lessr m E i < m := by
  unfold lessr
  split <;> omega
theorem DnR.perm {m : Nat} {E R : List (α × Nat)} {i : Nat} (h : DnR m E i R) : m ≤ E.length → R.Perm E := by
  induction h with
  | stop h => intro _; exact List.Perm.refl _
  | @step E R i h0 h hr ih =>
    intro hm
    have hl := lessr_lt (E := E) h0
    exact (ih (by rw [gs_len]; exact hm)).trans (gs_perm (E := E) (i := i) (j := lessr m E i) (by omega) (by omega))
theorem DnR.keep {m : Nat} {E R : List (α × Nat)} {i : Nat} (h : DnR m E i R) : ∀ k, m ≤ k → R[k]? = E[k]? := by
  induction h with
  | stop h => intro k _; rfl
  | @step E R i h0 h hr ih =>
    intro k hk
    have hl := lessr_lt (E := E) h0
    rw [ih k hk]
    unfold gs
    rw [List.getElem?_set_ne (by omega), List.getElem?_set_ne (by omega)]
theorem PopR.perm {F G : List (α × Nat)} {x : α × Nat} (h : PopR F x G) (h0 : 0 < F.length) : (x :: G).Perm F := by
  obtain ⟨h1, D, h2, rfl⟩ := h
  obtain ⟨n, hn⟩ : ∃ n, F.length = n + 1 := ⟨F.length - 1, by omega⟩
  rw [show F.length - 1 = n by omega] at h2 ⊢
  have hp : D.Perm F := (h2.perm (by rw [gs_len]; omega)).trans (gs_perm (E := F) (i := 0) (j := n) (by omega) (by omega))
  have hx : F[0]'h0 = x := by rw [List.getElem?_eq_getElem h0] at h1; injection h1
  have hD : D[n]? = some x := by
    rw [h2.keep n (Nat.le_refl _), gs_eq h0 (by omega), List.getElem?_set_self (by simp; omega), hx]
  have hDl : D.length = n + 1 := by rw [h2.len, gs_len, hn]
  have e : D = D.take n ++ [x] := by
    obtain ⟨hlt, e2⟩ := List.getElem?_eq_some_iff.1 hD
    rw [← e2, ← List.take_succ_eq_append_getElem hlt, List.take_of_length_le (by omega)]
  have h3 : (D.take n ++ [x]).Perm F := by rw [← e]; exact hp
  exact (List.perm_append_singleton x _).symm.trans h3
theorem PutR.perm {F l G : List (α × Nat)} (h : PutR F l G) : G.Perm (F ++ l) := by
  induction h with
  | nil => simp
  | @cons F G H l x h hr ih =>
    have h1 : G.Perm (F ++ [x]) := UpR.perm h (by simp)
    refine ih.trans ?_
    have := h1.append_right l
    rwa [List.append_assoc] at this
theorem TakeR.perm {F P E : List (α × Nat)} (h : TakeR F P E) : (P ++ E).Perm F := by
  induction h with
  | nil => exact List.Perm.refl _
  | cons h0 h hr ih => exact (ih.cons _).trans (h.perm h0)
theorem OrdR.perm {X P E : List (α × Nat)} (h : OrdR X P E) : (P ++ E).Perm X := by
  obtain ⟨F, h1, h2, -⟩ := h
  exact h2.perm.trans (by simpa using h1.perm)
end

structure PairIvD (w wr : World) (base B : Nat) (L F0 : List (Nat × Nat)) (v sv : Value) (E P : List (Nat × Nat)) (rs : List Nat) : Prop where
  heap : Qu wr base B sv E
  perm : (P ++ E).Perm L
  take : TakeR F0 P E
  even : P.length = 2 * rs.length
  own : wr.ownsRow base 202 1 v rs.length (rs.map ptrV)
  nodes : Nodes wr (fun i => base ≤ i ∧ sv.ownBlock ≠ some i ∧ v.ownBlock ≠ some i) P rs
  apart : ∀ k, v.ownBlock = some k → sv.ownBlock ≠ some k
  below : Below w.heap.size w wr
structure PairMdD (w wr : World) (base B : Nat) (L F0 : List (Nat × Nat)) (v sv : Value) (E P : List (Nat × Nat)) (rs : List Nat) (x y : Nat × Nat) : Prop where
  heap : Qu wr base B sv E
  perm : (P ++ [x, y] ++ E).Perm L
  take : TakeR F0 (P ++ [x, y]) E
  even : P.length = 2 * rs.length
  own : wr.ownsRow base 202 1 v rs.length (rs.map ptrV)
  nodes : Nodes wr (fun i => base ≤ i ∧ sv.ownBlock ≠ some i ∧ v.ownBlock ≠ some i) P rs
  apart : ∀ k, v.ownBlock = some k → sv.ownBlock ≠ some k
  below : Below w.heap.size w wr
theorem PairIvD.mid {w wr w1 w2 : World} {B : Nat} {L F0 : List (Nat × Nat)} {v sv sv1 : Value} {E E1 E2 P : List (Nat × Nat)} {rs : List Nat} {x y : Nat × Nat} (h : PairIvD w wr (w.heap.size + 1) B L F0 v sv E P rs) (hB : B = w.heap.size) (hx0 : 0 < E.length) (hxr : PopR E x E1) (hy0 : 0 < E1.length) (hyr : PopR E1 y E2)
    (ht1 : Turns (fun b => b = B ∨ sv.ownBlock = some b) wr w1) (hs1 : ∀ k, sv1.ownBlock = some k → sv.ownBlock = some k ∨ wr.heap.size ≤ k) (k : QuTd (w.heap.size + 1) B sv1 E2 w1 w2) : ∃ sv2, PairMdD w w2 (w.heap.size + 1) B L F0 v sv2 E2 P rs x y := by
  have hx := hxr.perm hx0
  have hy := hyr.perm hy0
  obtain ⟨sv2, k1, k2, k3⟩ := QuTd.step ht1 hs1 k
  have hown := h.heap.own.lt
  have hn : ∀ i, w.heap.size + 1 ≤ i → i < wr.heap.size → sv.ownBlock ≠ some i → w2.heap[i]? = wr.heap[i]? ∧ sv2.ownBlock ≠ some i := fun i h1 h2 h3 => ⟨k2.block i h2 (fun e => by
    rcases e with e | e
    · omega
    · exact h3 e), fun e => by
    rcases k3 i e with e | e
    · exact h3 e
    · omega⟩
  refine ⟨sv2, k1, ?_, ?_, h.even, ?_, ?_, ?_, ?_⟩
  · refine List.Perm.trans ?_ h.perm
    rw [List.append_assoc]
    exact (((hy.cons x).trans hx)).append_left P
  · have h5 := (h.take.snoc hx0 hxr).snoc hy0 hyr
    rwa [List.append_assoc] at h5
  · exact k2.owns h.own (fun i hi e => by
      have := h.own.lt i hi
      rcases e with e | e
      · omega
      · exact h.apart i hi e)
  · exact h.nodes.keep (fun i hi hN => by
      obtain ⟨q1, q2⟩ := hn i hN.1 hi hN.2.1
      exact ⟨q1, hN.1, q2, hN.2.2⟩)
  · intro k hk
    have := h.own.lt k hk
    exact (hn k this.1 this.2 (h.apart k hk)).2
  · exact h.below.trans (k2.below h.below.size (fun i e => by
      rcases e with e | e
      · omega
      · have := hown i e; omega))
theorem PairMdD.bound {w w5 w6 : World} {B : Nat} {L F0 : List (Nat × Nat)} {pv : Option Addr} {cv g5 cap5 : Nat} {sv : Value} {E P : List (Nat × Nat)} {rs : List Nat} {x y : Nat × Nat} (h : PairMdD w w5 (w.heap.size + 1) B L F0 (.slice pv rs.length cv) sv E P rs x y) (hB : B = w.heap.size) (hL : ∀ e ∈ L, e.1 < w.heap.size) (hsz : w.heap.size + 1 ≤ w5.heap.size)
    (ho : w6.ownsRow (w.heap.size + 1) 202 1 (.slice (some ⟨g5, 0, none⟩) (rs.length + 1) cap5) (rs.length + 1) (rs.map ptrV ++ [ptrV (w5.heap.size + 1)]))
    (hg : (((w5.alloc (.cells #[ptrV x.1, ptrV y.1] 202)).alloc (.cells #[.int .i64 ((x.2 : Int) + (y.2 : Int)), .int .i64 0, .slice (some ⟨w5.heap.size, 0, none⟩) 2 2] 201)).alloc (.cells #[ptrV (w5.heap.size + 1)] 202)).drew.grownBy w6 (Value.slice pv rs.length cv).ownBlock)
    (hpl : (Value.slice pv rs.length cv).ownBlock = some g5 ∨ g5 = w5.heap.size + 3) :
    PairIvD w w6 (w.heap.size + 1) B L F0 (.slice (some ⟨g5, 0, none⟩) (rs.length + 1) cap5) sv E (P ++ [x, y]) (rs ++ [w5.heap.size + 1]) := by
  have hb3 : Below w5.heap.size w5 (((w5.alloc (.cells #[ptrV x.1, ptrV y.1] 202)).alloc (.cells #[.int .i64 ((x.2 : Int) + (y.2 : Int)), .int .i64 0, .slice (some ⟨w5.heap.size, 0, none⟩) 2 2] 201)).alloc (.cells #[ptrV (w5.heap.size + 1)] 202)).drew := (Below.al3 w5 _ _ _).drew
  have hg0 := Turns.of_grown (T := fun i => (Value.slice pv rs.length cv).ownBlock = some i) hg (fun _ h => h)
  have hlt := fun k hk => h.own.lt k hk
  have ht : Turns (fun i => (Value.slice pv rs.length cv).ownBlock = some i) w5 w6 := (Turns.of_below' (T := fun i => (Value.slice pv rs.length cv).ownBlock = some i) hb3).trans hg0
  have hg5 : ∀ i, i < w5.heap.size + 3 → (Value.slice pv rs.length cv).ownBlock ≠ some i → (Value.slice (some ⟨g5, 0, none⟩) (rs.length + 1) cap5).ownBlock ≠ some i := fun i h1 h2 e => by
    cases e
    rcases hpl with h | h
    · exact h2 h
    · have h1' : g5 < w5.heap.size + 3 := h1
      omega
  have e0 : w6.heap[w5.heap.size]? = some (.cells #[ptrV x.1, ptrV y.1] 202) := by
    refine (hg0.block w5.heap.size (by simp; omega) (fun e => by have := (hlt _ e).2; omega)).trans ?_
    exact (heap_pushed [.cells #[ptrV x.1, ptrV y.1] 202, .cells #[.int .i64 ((x.2 : Int) + (y.2 : Int)), .int .i64 0, .slice (some ⟨w5.heap.size, 0, none⟩) 2 2] 201, .cells #[ptrV (w5.heap.size + 1)] 202] w5 0 _).2 rfl
  have e1 : w6.heap[w5.heap.size + 1]? = some (.cells #[.int .i64 ((x.2 : Int) + (y.2 : Int)), .int .i64 0, .slice (some ⟨w5.heap.size, 0, none⟩) 2 2] 201) := by
    refine (hg0.block (w5.heap.size + 1) (by simp) (fun e => by have := (hlt _ e).2; omega)).trans ?_
    exact (heap_pushed [.cells #[ptrV x.1, ptrV y.1] 202, .cells #[.int .i64 ((x.2 : Int) + (y.2 : Int)), .int .i64 0, .slice (some ⟨w5.heap.size, 0, none⟩) 2 2] 201, .cells #[ptrV (w5.heap.size + 1)] 202] w5 1 _).2 rfl
  have hso := h.heap.own.lt
  have hvn : ∀ i, w5.heap.size ≤ i → (Value.slice pv rs.length cv).ownBlock ≠ some i := fun i hi e => by have := (hlt i e).2; omega
  have hsn : ∀ i, w5.heap.size ≤ i → sv.ownBlock ≠ some i := fun i hi e => by have := (hso i e).2; omega
  refine ⟨?_, h.perm, h.take, ?_, ?_, ?_, ?_, ?_⟩
  · have f3 := h.heap
    refine ⟨f3.lt, (ht.block B f3.size (fun e => by have := (hlt _ e).1; omega)).trans f3.box, ht.owns f3.own (fun k hk e => h.apart k e hk), fun e he => ?_⟩
    obtain ⟨k1, k2, k3⟩ := f3.keys e he
    refine ⟨k1, k2, ?_⟩
    refine ht.cell k3 (fun hv => ?_)
    have h1 := (hlt _ hv).1
    have h2 := hL e (h.perm.mem_iff.1 (List.mem_append_right _ he))
    simp only at h1
    omega
  · rw [List.length_append, List.length_append, h.even]
    simp
    omega
  · rw [List.length_append, List.map_append]
    exact ho
  · refine Nodes.snoc ⟨w5.heap.size, ⟨by omega, hsn _ (by omega), hg5 _ (by omega) (hvn _ (by omega))⟩, ⟨by omega, hsn _ (by omega), hg5 _ (by omega) (hvn _ (by omega))⟩, e1, e0⟩ (h.nodes.keep (fun i hi hN => ⟨ht.block i hi hN.2.2, hN.1, hN.2.1, hg5 i (by omega) hN.2.2⟩))
  · intro k hk e
    rcases hpl with hp | hp
    · cases hk
      exact h.apart _ hp e
    · cases hk
      exact hsn _ (by simp only; omega) e
  · exact h.below.trans (ht.below h.below.size (fun i e => by have := (hlt i e).1; omega))
set_option maxRecDepth 100000 in
set_option maxHeartbeats 4000000 in
theorem pairs_det (l b : List (Nat × Nat)) (vl vb : Value) (w : World) (hvl : Row encPr 1 w vl (l.map Prod.fst)) (hvb : Row encPr 1 w vb (b.map Prod.fst))
    (hl : ∀ e ∈ l ++ b, w.cell? ⟨e.1, 0, none⟩ = some (.int .i64 (e.2 : Int)) ∧ e.2 ≤ 1152921504606846976) (hlen : (l ++ b).length ≤ 65536) :
    Calls Tryz.prog 157 #[vl, vb] w fun e w' => ∃ v P E rs, e = .returned v ∧ OrdR (l ++ b) P E ∧ (P ++ E).Perm (l ++ b) ∧ P.length = 2 * rs.length ∧ E.length ≤ 1 ∧
      w'.ownsRow w.heap.size 202 1 v rs.length (rs.map ptrV) ∧ Nodes w' (fun i => w.heap.size ≤ i) P rs ∧ Below w.heap.size w w' := by
  obtain ⟨i0, hi0, hz0, hz1, hz2⟩ := info_parts ptr_info
  have Hl := Lib.hid hl
  have hll : ∀ e ∈ l ++ b, e.1 < w.heap.size := fun e he => World.block_lt_of_cell? _ _ (hl e he).1
  have hq1 : Qu (w.alloc (.cells #[.slice none 0 0] 229)) (w.heap.size + 1) w.heap.size (.slice none 0 0) [] :=
    ⟨by omega, by rw [World.alloc_heap_new], World.ownsRow_nil _ _ _ _, fun e he => by cases he⟩
  have hbw := Below.al1 w (.cells #[.slice none 0 0] 229)
  have hblk : ∀ v : Value, ∀ xs : List Nat, Row encPr 1 w v xs → ∀ k, v.ownBlock = some k → k < w.heap.size := fun v xs hv k hk => by
    obtain ⟨p, c, rfl, h1, h2, h3⟩ := hv
    rcases h3 with ⟨rfl, -⟩ | ⟨bb, off, rfl, hbb, -⟩
    · cases hk
    · cases hk; exact hbb
  have Hq1 := Lib.hid hq1
  have Hbw := Lib.hid hbw
  have Hvl := Lib.hid (And.intro (hvl.below hbw) (hblk _ _ hvl))
  have Hvb := Lib.hid (And.intro (hvb.below hbw) (hblk _ _ hvb))
  have Hll := Lib.hid hll
  obtain ⟨pl, cl, rfl, -, -, -⟩ := hvl
  obtain ⟨pb, cb, rfl, -, -, -⟩ := hvb
  rw [List.length_append] at hlen
  rw [List.length_map] at Hvl Hvb
  rw [List.length_map, List.length_map]
  clear hl hll hq1 hbw hblk
  go_enter Tryz.func157, Tryz.ntmps157
  go_wp2_with fail
  refine Calls.mono (put_det (w.heap.size + 1) w.heap.size _ [] l _ _ Hq1.out Hvl.out.1 (fun k hk => ⟨by have := Hvl.out.2 k hk; omega, fun e => by cases e⟩) (fun e he => ⟨by have := Hll.out e (List.mem_append_left _ he); omega, (fun h => by cases h), cell_later Hbw.out (Hl.out e (List.mem_append_left _ he)).1⟩) (by simp; omega) (by simp)) ?_
  rintro e w1 ⟨rfl, F1, hf1, sv1, hp1, ht1, hs1⟩
  have HF1 := Lib.hid hf1
  have hF1l := hf1.len
  simp only [List.length_nil, Nat.zero_add] at hF1l
  have HF1l := Lib.hid hF1l
  have hown1 := hp1.own.lt
  clear hf1 hF1l
  have hb01 : Below w.heap.size w w1 := Hbw.out.trans (ht1.below (by simp) (fun i hi => by
    rcases hi with hi | hi
    · omega
    · cases hi))
  have Hp1 := Lib.hid hp1
  have H01 := Lib.hid hb01
  have Hs1 := Lib.hid hown1
  have Hvb1 : Hid (Row encPr 1 w1 (.slice pb b.length cb) (b.map Prod.fst)) := Lib.hid (Hvb.out.1.same (fun k hk => ht1.block k (by have := Hvb.out.2 k hk; simp; omega) (fun h => by
    rcases h with h | h
    · have := Hvb.out.2 k hk; omega
    · cases h)))
  have hbs1 : w.heap.size + 1 ≤ w1.heap.size := Nat.le_trans (by simp) ht1.size
  clear hp1 ht1 hs1 hown1 hb01
  go_wp2_with fail
  refine Calls.mono (put_det (w.heap.size + 1) w.heap.size sv1 F1 b _ _ Hp1.out Hvb1.out (fun k hk => ⟨by have := Hvb.out.2 k hk; omega, fun e => by
    have h1 := Hvb.out.2 k hk
    have h2 := Hs1.out k e
    omega⟩) (fun e he => ⟨by have := Hll.out e (List.mem_append_right _ he); omega, (fun h => by
    have h1 := Hll.out e (List.mem_append_right _ he)
    have h2 := Hs1.out _ h
    omega), cell_later H01.out (Hl.out e (List.mem_append_right _ he)).1⟩) (by rw [HF1l.out]; exact hlen) hbs1) ?_
  rintro e w2 ⟨rfl, F0, hf2, sv2, hp2, ht2, hs2⟩
  have hf0 := HF1.out.append hf2
  have HF0 := Lib.hid hf0
  have hfp := hf0.perm
  rw [List.nil_append] at hfp
  have hb02 : Below w.heap.size w w2 := H01.out.trans (ht2.below H01.out.size (fun i hi => by
    rcases hi with hi | hi
    · omega
    · have := Hs1.out i hi; omega))
  have Hi : Hid (PairIvD w w2 (w.heap.size + 1) w.heap.size (l ++ b) F0 (.slice none 0 0) sv2 F0 [] []) := Lib.hid ⟨hp2, hfp, .nil, rfl, World.ownsRow_nil _ _ _ _, trivial, (fun k hk => by cases hk), hb02⟩
  have hbs2 := Nat.le_trans hbs1 ht2.size
  clear hp2 ht2 hs2 hb02 hf2 hf0 hfp HF1 HF1l Hp1 H01 Hs1 Hvb1 hbs1 Hq1 Hbw Hvl Hvb
  go_wp2
  go_loopw [6] (fun v wr => ∃ (sv : Value) (E P : List (Nat × Nat)) (rs : List Nat), Hid (PairIvD w wr (w.heap.size + 1) w.heap.size (l ++ b) F0 v sv E P rs) ∧ Hid (w.heap.size + 1 ≤ wr.heap.size)) (fun v _ => (l ++ b).length - 2 * lenP v)
  case atStart => exact ⟨sv2, F0, [], [], Hi, Lib.hid hbs2⟩
  case round =>
    obtain ⟨sv, E, P, rs, HI, Hsz⟩ := hrel
    have hc0 := HI.out.heap.c0
    obtain ⟨ps, cs, rfl⟩ := owns_slice HI.out.heap.own
    by_cases hE : 1 < E.length
    · have d1 : decide (1 < E.length) = true := by simpa using hE
      go_wp2_with fail
      refine Calls.mono (qlen_any _ _ _ _) ?_
      rintro e w3 ⟨rfl, rfl⟩
      go_wp2_with fail
      refine Calls.mono (take_det _ _ _ E w3 HI.out.heap (by omega) (by have := HI.out.perm.length_eq; simp at this; omega)) ?_
      rintro e w4 ⟨x, E1, rfl, hx1, sv1, hh1, ht1, hs1⟩
      have Hx := Lib.hid (And.intro hx1 (And.intro (show 0 < E.length by omega) (And.intro ht1 hs1)))
      have Hh1 := Lib.hid hh1
      have hl1 := hx1.len
      have HE1 : Hid (0 < E1.length ∧ E1.length ≤ 65536) := Lib.hid (by
        have := HI.out.perm.length_eq
        simp at this
        omega)
      clear hx1 ht1 hs1 hh1 hl1 hc0
      go_wp2_with fail
      refine Calls.mono (take_det _ _ _ E1 w4 Hh1.out HE1.out.1 HE1.out.2) ?_
      rintro e w5 ⟨y, E2, rfl, hy1, hto⟩
      obtain ⟨sv2, hmid⟩ := HI.out.mid rfl Hx.out.2.1 Hx.out.1 HE1.out.1 hy1 Hx.out.2.2.1 Hx.out.2.2.2 hto
      have Hm := Lib.hid hmid
      have hbw5 := Nat.le_trans Hsz.out (Nat.le_trans Hx.out.2.2.1.size (by obtain ⟨_, _, h, _⟩ := hto; exact h.size))
      obtain ⟨hcx, hxb⟩ := Hl.out x (hmid.perm.mem_iff.1 (by simp))
      obtain ⟨hcy, hyb⟩ := Hl.out y (hmid.perm.mem_iff.1 (by simp))
      have hcx5 := cell_later hmid.below hcx
      have hcy5 := cell_later hmid.below hcy
      obtain ⟨bx, hbx⟩ : ∃ bx, x.1 = bx := ⟨_, rfl⟩
      obtain ⟨by', hby⟩ : ∃ by', y.1 = by' := ⟨_, rfl⟩
      obtain ⟨cx, hcx0⟩ : ∃ cx, x.2 = cx := ⟨_, rfl⟩
      obtain ⟨cy, hcy0⟩ : ∃ cy, y.2 = cy := ⟨_, rfl⟩
      rw [hbx, hcx0] at hcx5
      rw [hby, hcy0] at hcy5
      rw [hcx0] at hxb
      rw [hcy0] at hyb
      have Hxy := Lib.hid (And.intro hbx (And.intro hby (And.intro hcx0 hcy0)))
      obtain ⟨pv, cv, rfl⟩ := owns_slice hmid.own
      have Hown := Lib.hid hmid.own
      rw [hbx, hby]
      unfold ptrV
      clear hmid hy1 hto hcx hcy hbx hby hcx0 hcy0 HE1 Hh1 Hx
      go_upto_region 7 with (fail)
      have hrl : rs.length ≤ 65536 := by
        have h1 := Hm.out.perm.length_eq
        have h2 := Hm.out.even
        simp at h1
        omega
      have q1 := fun o => cell_later (Below.al1 w5 o) hcx5
      have q2 := fun o => cell_later (Below.al1 w5 o) hcy5
      have hw : IntKind.i64.wrap ((cx : Int) + (cy : Int)) = (cx : Int) + (cy : Int) := IntWalk.i64_in _ (by omega)
      go_region_law (refine step_append_lies _ (by rfl) (.tmp 18) (.tmp 33) 198 (by rfl) (w.heap.size + 1) 202 i0 _ 1 8 Tryz.underlying198 hi0 hz0 hz1 hz2 rfl (by decide) (.slice pv rs.length cv) rs.length (rs.map ptrV) (by rfl) (hq_drew (((Hown.out.alloc _).alloc _).alloc _)) _ 1 1 [ptrV (w5.heap.size + 1)] (by rfl) rfl (fun j u hu => hq_news_at _ _ [ptrV (w5.heap.size + 1)] _ (by simp) j u hu) (by intro u hu; simp at hu; subst hu; rfl) (by decide) (by simp only [maxLen]; omega) (by omega) (by simp; omega) (w5.heap.size + 3) (by simp) ?_; intro g5 cap5 w6 hown6 hgr6 hpl6 hlt6)
      all_goals
        have Hnext : Hid (PairIvD w w6 (w.heap.size + 1) w.heap.size (l ++ b) F0 (.slice (some ⟨g5, 0, none⟩) (rs.length + 1) cap5) sv2 E2 (P ++ [x, y]) (rs ++ [w5.heap.size + 1])) := Lib.hid (by
          obtain ⟨e1, e2, e3, e4⟩ := Hxy.out
          refine Hm.out.bound rfl Hll.out hbw5 hown6 ?_ hpl6
          rw [e1, e2, e3, e4]
          exact hgr6)
        have Hs6 : Hid (w.heap.size + 1 ≤ w6.heap.size) := Lib.hid (Nat.le_trans hbw5 (Nat.le_trans (by simp; omega) hgr6.size))
        have Hms : Hid (2 * (rs.length + 1) ≤ (l ++ b).length) := Lib.hid (by
          have h1 := Hm.out.perm.length_eq
          have h2 := Hm.out.even
          simp at h1 ⊢
          omega)
        clear hown6 hgr6 hpl6 hlt6 q1 q2 Hown hcx5 hcy5
        go_wp2
        go_roundw
        case rel => (repeat apply Exists.intro); exact ⟨⟨sv2, E2, P ++ [x, y], rs ++ [w5.heap.size + 1], Hnext, Hs6⟩, rfl⟩
        case measure =>
          have := Hms.out
          show (l ++ b).length - 2 * (rs.length + 1) < (l ++ b).length - 2 * rs.length
          omega
    · have d1 : decide (1 < E.length) = false := by simpa using hE
      go_wp2_with fail
      refine Calls.mono (qlen_any _ _ _ _) ?_
      rintro e w3 ⟨rfl, rfl⟩
      go_wp2
      go_ret
      have hown := HI.out.own
      exact ⟨_, P, E, rs, rfl, ⟨F0, HF0.out, HI.out.take, by omega, _, HI.out.even⟩, HI.out.perm, HI.out.even, by omega, hq_base hown (by omega), HI.out.nodes.keep (fun i _ hN => ⟨rfl, by have := hN.1; omega⟩), HI.out.below⟩
end Go.Proofs.YtoladolgmeanhaaGreat

/- What is taken from a heap rises; rows of trees as the code makes them (plain). -/
namespace Go.Proofs.YtoladolgmeanhaaGreat
open Go.RowKit

theorem UpR.hp {E R : List (Nat × Nat)} {j : Nat} (h : UpR E j R) : j < E.length → HpUp (kk E) E.length j → Hp (kk R) R.length := by
  induction h with
  | @stop E j h =>
    intro _ hu
    refine hu.done (h.imp id fun h => ?_)
    have h : ¬ kk E j < kk E ((j - 1) / 2) := h
    omega
  | @step E R j h0 h hr ih =>
    intro hj hu
    refine ih (by rw [gs_len]; omega) ?_
    rw [gs_len]
    exact HpUp.step rfl hu h0 hj h
theorem lessr_min {m i : Nat} {E : List (Nat × Nat)} (_h : 2 * i + 1 < m) : ∀ k, 0 < k → k < m → (k - 1) / 2 = i → kk E (lessr m E i) ≤ kk E k := fun k k0 kn hk => by
  have e : ∀ k, gk E k = kk E k := fun _ => rfl
  have hk2 : k = 2 * i + 1 ∨ k = 2 * i + 2 := by omega
  unfold lessr
  rw [e, e]
  split
  · rename_i h1
    rcases hk2 with rfl | rfl
    · omega
    · exact Nat.le_refl _
  · rename_i h1
    rcases hk2 with rfl | rfl
    · exact Nat.le_refl _
    · have : ¬ kk E (2 * i + 2) < kk E (2 * i + 1) := fun h2 => h1 ⟨kn, h2⟩
      omega
theorem DnR.hp {m : Nat} {E R : List (Nat × Nat)} {i : Nat} (h : DnR m E i R) : m ≤ E.length → HpDn (kk E) m i → Hp (kk R) m := by
  induction h with
  | @stop E i h =>
    intro hm hd
    refine hd.done (fun k k0 kn hk => ?_)
    by_cases h2 : 2 * i + 1 < m
    · have h3 := lessr_min (E := E) h2 k k0 kn hk
      have h4 : ¬ kk E (lessr m E i) < kk E i := h.resolve_left (by omega)
      omega
    · omega
  | @step E R i h0 h hr ih =>
    intro hm hd
    have hl := lessr_lt (E := E) h0
    have hpar : (lessr m E i - 1) / 2 = i := by unfold lessr; split <;> omega
    exact ih (by rw [gs_len]; exact hm) (HpDn.step hm hd hpar (by omega) hl.2 (lessr_min h0) h)
theorem PushR.hp {F G : List (Nat × Nat)} {x : Nat × Nat} (h : PushR F x G) (hf : Hp (kk F) F.length) : Hp (kk G) G.length := by
  refine UpR.hp h (by simp) ?_
  have := HpUp.push x hf
  rw [List.length_append]
  exact this
theorem PutR.hp {F l G : List (Nat × Nat)} (h : PutR F l G) : Hp (kk F) F.length → Hp (kk G) G.length := by
  induction h with
  | nil => exact id
  | cons h hr ih => intro hf; exact ih (PushR.hp h hf)
theorem PopR.hp {F G : List (Nat × Nat)} {x : Nat × Nat} (h : PopR F x G) (h0 : 0 < F.length) (hf : Hp (kk F) F.length) : (∀ y ∈ F, x.2 ≤ y.2) ∧ Hp (kk G) G.length := by
  have hl := h.len
  obtain ⟨h1, D, h2, rfl⟩ := h
  obtain ⟨n, hn⟩ : ∃ n, F.length = n + 1 := ⟨F.length - 1, by omega⟩
  rw [show F.length - 1 = n by omega] at h2 hl ⊢
  have hx : F[0]'h0 = x := by rw [List.getElem?_eq_getElem h0] at h1; injection h1
  refine ⟨fun y hy => ?_, ?_⟩
  · obtain ⟨k, hk, rfl⟩ := List.getElem_of_mem hy
    have := hf.least k hk
    rw [kk_at hk, kk_at h0, hx] at this
    exact this
  · have h3 := h2.hp (by rw [gs_len]; omega) (HpDn.pop hn (by rw [← hn]; exact hf))
    rw [hl]
    exact h3.congr (fun k hk => kk_take D n k hk)
theorem TakeR.up {F P E : List (Nat × Nat)} (h : TakeR F P E) : Hp (kk F) F.length → P.Pairwise (fun a b => a.2 ≤ b.2) ∧ ∀ p ∈ P, ∀ e ∈ E, p.2 ≤ e.2 := by
  induction h with
  | nil => intro _; exact ⟨List.Pairwise.nil, fun p hp => by cases hp⟩
  | @cons F G E P x h0 h hr ih =>
    intro hf
    obtain ⟨h1, h2⟩ := h.hp h0 hf
    obtain ⟨i1, i2⟩ := ih h2
    have hm : ∀ y ∈ P ++ E, x.2 ≤ y.2 := fun y hy => h1 y ((h.perm h0).mem_iff.1 (List.mem_cons_of_mem _ (hr.perm.mem_iff.1 hy)))
    refine ⟨List.pairwise_cons.2 ⟨fun y hy => hm y (List.mem_append_left _ hy), i1⟩, fun p hp e he => ?_⟩
    rcases List.mem_cons.1 hp with rfl | hp
    · exact hm e (List.mem_append_right _ he)
    · exact i2 p hp e he
theorem OrdR.up {X P E : List (Nat × Nat)} (h : OrdR X P E) : Up ((P ++ E).map Prod.snd) := by
  obtain ⟨F, h1, h2, h3, -⟩ := h
  obtain ⟨u1, u2⟩ := h2.up (h1.hp (fun k h0 hk => by simp at hk))
  rw [List.map_append]
  unfold Up
  rw [List.pairwise_append]
  refine ⟨List.pairwise_map.2 u1, ?_, fun a ha c hc => ?_⟩
  · match E, h3 with
    | [], _ => exact List.Pairwise.nil
    | [_], _ => simp
    | _ :: _ :: _, h3 => simp at h3
  · obtain ⟨x, hx, rfl⟩ := List.mem_map.1 ha
    obtain ⟨y, hy, rfl⟩ := List.mem_map.1 hc
    exact u2 x hx y hy
instance : Inhabited Tr := ⟨.leaf 0 0⟩
def tk2 (t : Tr) : Tr × Nat := (t, t.cost)
def OrdT (X Q : List Tr) : Prop := ∃ P E, OrdR (X.map tk2) P E ∧ Q = (P ++ E).map Prod.fst
theorem OrdT.det {X Q Q' : List Tr} (h : OrdT X Q) (k : OrdT X Q') : Q = Q' := by
  obtain ⟨P, E, h1, rfl⟩ := h
  obtain ⟨P', E', k1, rfl⟩ := k
  obtain ⟨rfl, rfl⟩ := h1.det k1
  rfl
def RowD (ls : List Tr) : Nat → List Tr → Prop
  | 0, P => P = []
  | j + 1, P => ∃ Q, RowD ls j Q ∧ OrdT (ls ++ pairT Q) P
theorem RowD.det {ls : List Tr} : ∀ {j : Nat} {P P' : List Tr}, RowD ls j P → RowD ls j P' → P = P'
  | 0, _, _, h, k => h.trans k.symm
  | j + 1, _, _, ⟨Q, hQ, h⟩, ⟨Q', hQ', k⟩ => by
    obtain rfl := RowD.det hQ hQ'
    exact h.det k
end Go.Proofs.YtoladolgmeanhaaGreat
