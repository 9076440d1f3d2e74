/- lz's Match. -/
import Derived.Test.YtngiiacibbgiiaaLzG
namespace Go.Proofs.Ytngiiacibbgiiaa
open Go.RowKit Go.Maps

theorem tok_info : (Try.prog.info? 26).map (fun i => (i.zero, i.size, i.bytes)) = some (some (.agg #[.int .u8 0, .int .i64 0, .int .i64 0]), 3, 24) := by kernel_rfl

/-- append of one element of three cells, which lies in a new block. -/
theorem wpList_append_three {P : Program} (w : World) {ops : Array Oper} {rest : List Oper} {o : Oper} {a : Act} {Q : Exit → Act → World → Prop} (hgd : o.guard = none) (s x : Operand) (t : TypeId)
    (ho : o.op = .call { callee := .builtin .append, args := #[s, x], argTypes := #[t, t] })
    (base : Nat) (e : TypeId) (z : Value) (bytes : Nat) (hinfo : (P.info? e).map (fun i => (i.zero, i.size, i.bytes)) = some (some z, 3, bytes)) (ht : P.underlying t = some (.slice e)) (hzs : z.cells.size = 3)
    (v : Value) (n : Nat) (xs : List Value) (hs : a.eval s = v) (hown : w.ownsRow base e 3 v n xs) (u u2 u3 : Value) (te : TypeId) (hx : a.eval x = .slice (some ⟨w.heap.size, 0, none⟩) 1 1) (hu : u.oneCell' = true) (hu2 : u2.oneCell' = true) (hu3 : u3.oneCell' = true)
    (h63 : n + 1 ≤ maxLen) (hbytes : (n + 1) * bytes ≤ 140737488355328) (hbase : base ≤ w.heap.size)
    (h : ∀ g cap w', w'.ownsRow base e 3 (.slice (some ⟨g, 0, none⟩) (n + 1) cap) (n + 1) (xs ++ [u, u2, u3]) → Turns (fun b => v.ownBlock = some b) w w' → (v.ownBlock = some g ∨ w.heap.size ≤ g) → wpList P ops Q rest (a.put o.dst (.slice (some ⟨g, 0, none⟩) (n + 1) cap)) w') :
    wpList P ops Q (o :: rest) a (w.alloc (.cells #[u, u2, u3] te)) := by
  obtain ⟨i, hi, hz, hsz, hby⟩ := info_parts hinfo
  refine wpList_append_mine (P := P) (w.alloc (.cells #[u, u2, u3] te)) hgd s x t ho base e i z 3 bytes ht hi hz hsz hby hzs (by decide) v n xs hs (hown.alloc _) (some ⟨w.heap.size, 0, none⟩) 1 1 [u, u2, u3] hx rfl (.inr ⟨_, rfl, news_cells (c := [u, u2, u3])⟩)
    (fun q hq => by
      rcases List.mem_cons.1 hq with rfl | hq
      · exact hu
      rcases List.mem_cons.1 hq with rfl | hq
      · exact hu2
      · rcases List.mem_singleton.1 hq with rfl; exact hu3) h63 hbytes (by rw [World.size_alloc]; omega) ?_
  intro v' w' h2 h3 h4
  rcases h2.2 with ⟨-, h0⟩ | ⟨g, cap, cur, rfl, -⟩
  · omega
  · refine h g cap w' h2 ?_ ?_
    · exact (Turns.of_below' (Below.al1 w _)).trans (Turns.of_grown h3 (fun _ h => h))
    · rcases h4 g rfl with h | h
      · exact .inl h
      · rw [World.size_alloc] at h
        exact .inr (by omega)

/-- Tokens of its own. -/
def OwnT (w : World) (base : Nat) (v : Value) (ts : List Tk) : Prop := w.ownsRow base 26 3 v ts.length (ts.flatMap encT)

theorem Row.ownH {w : World} {base : Nat} {v : Value} {A : List Nat} (h : w.ownsRow base 33 1 v A.length (A.map hv)) : Row encH 1 w v A := by
  rw [← flatH] at h
  exact owns_row' encH_len h

theorem IsTok.byte {f : Nat → Nat} {N a : Nat} {t : Tk} (h : IsTok f N a t) (hf : ∀ i, f i < 256) : t.b < 256 := by
  rcases h with ⟨rfl, -⟩ | ⟨n, d, rfl, -⟩
  · exact hf a
  · show 0 < 256; omega
theorem IsTok.small {f : Nat → Nat} {N a : Nat} {t : Tk} (h : IsTok f N a t) : t.n ≤ 258 := by
  rcases h with ⟨rfl, -⟩ | ⟨n, d, rfl, h1, h2, h3, h4, h5, -⟩
  · show (0 : Int) ≤ 258; omega
  · have := h5.le
    unfold mo at this
    show (n : Int) ≤ 258; omega

set_option maxRecDepth 20000 in
set_option maxHeartbeats 8000000 in
theorem match_any (l : List Nat) (vb : Value) (w : World) (hvr : Row enc8 1 w vb l) (hby : ∀ b ∈ l, b < 256) (hl : l.length ≤ 1048576) :
    Calls Try.prog 10 #[vb] w fun e w' => ∃ (v' : Value) (ts : List Tk), e = .returned v' ∧ OwnT w' w.heap.size v' ts ∧ Toks (fb l) l.length 0 ts ∧ Below w.heap.size w w' := by
  have Hv := Lib.hid hvr
  obtain ⟨p, c, rfl, -, -, -⟩ := hvr
  go_enter Try.func10, Try.ntmps10
  go_wp2_with fail
  refine Calls.mono (stood_any l _ w Hv.out hby hl) ?_
  rintro e w1 ⟨va, A, rfl, hA, hown, hah, hb1⟩
  obtain ⟨pa, ca, rfl⟩ := owns_slice hown
  obtain ⟨W, hW⟩ : ∃ W, w1.alloc (.cells #[.slice p l.length c, .slice pa A.length ca] 41) = W := ⟨_, rfl⟩
  have hbW : Below w1.heap.size w1 W := by rw [← hW]; exact Below.al1 w1 _
  have hS : W.heap[w1.heap.size]? = some (.cells #[.slice p l.length c, .slice pa A.length ca] 41) := by
    rw [← hW]
    exact (heap_pushed [.cells #[.slice p l.length c, .slice pa A.length ca] 41] w1 0 _).2 rfl
  have HvW := Lib.hid (Hv.out.below (Below.thn hb1 hbW))
  have HaW := Lib.hid ((Row.ownH hown).below hbW)
  have HS := Lib.hid hS
  have HbW := Lib.hid (Below.thn hb1 hbW)
  have HW := Lib.hid hW
  have Hah := Lib.hid (And.intro hA hah)
  have HsW : Hid (w1.heap.size < W.heap.size) := Lib.hid (lt_heap hS)
  clear hb1 hbW hS hown hA hah hW
  go_wp2_with fail
  rw [HW.out]
  go_loopw [4, 5] (fun lv av wr => ∃ (a : Nat) (ts : List Tk), av = .int .i64 (a : Int) ∧ a ≤ l.length ∧ ts.length ≤ a ∧ Hid (OwnT wr W.heap.size lv ts) ∧ Hid (ToksTo (fb l) l.length a ts) ∧ Hid (Below W.heap.size W wr)) (fun _ av _ => l.length - (intOf av).toNat)
  case atStart => exact ⟨0, [], rfl, Nat.zero_le _, Nat.le_refl _, Lib.hid (World.ownsRow_nil _ _ _ _), Lib.hid .nil, Lib.hid (Below.refl _ _)⟩
  case round =>
    obtain ⟨a, ts, rfl, ha, hts, HO, HT, HB⟩ := hrel
    by_cases hlt : a < l.length
    · have d0 : decide ((a : Int) < (l.length : Int)) = true := by simp; omega
      have c0 := cell_later HB.out (cell_heap (i := 0) HS.out rfl)
      have c1 := cell_later HB.out (cell_heap (i := 1) HS.out rfl)
      obtain ⟨po, co, rfl⟩ := owns_slice HO.out
      obtain ⟨q, hq⟩ : ∃ q, ts.length = q := ⟨_, rfl⟩
      have HO2 : Hid (wr.ownsRow W.heap.size 26 3 (.slice po q co) q (ts.flatMap encT)) := Lib.hid (by rw [← hq]; exact HO.out)
      have Hq := Lib.hid hq
      rw [hq] at hts ⊢
      clear HO hq
      go_wp2_with fail
      refine Calls.mono (token_any l A _ _ a wr (HvW.out.below HB.out) (HaW.out.below HB.out) Hah.out.1 Hah.out.2 hlt hl) ?_
      rintro e w2 ⟨t, rfl, htok, hb2⟩
      have Htok := Lib.hid htok
      have HB2 := Lib.hid (Below.thn HB.out hb2)
      have HO3 := Lib.hid ((Turns.of_below' (T := fun _ => False) hb2).owns HO2.out (fun _ _ h => h))
      have hs1 : W.heap.size ≤ w2.heap.size := HB2.out.size
      have hsml := htok.small
      have hpos := htok.size_pos
      have hfit := htok.fits hlt
      obtain ⟨tb, tn, td⟩ := t
      obtain ⟨z, hz⟩ : ∃ z, Tk.size ⟨tb, tn, td⟩ = z := ⟨_, rfl⟩
      rw [hz] at hpos hfit
      have Hz := Lib.hid hz
      simp only at hsml
      unfold tkV
      simp only
      clear htok hb2 hz HO2 c0 c1
      have hc : (w2.alloc (.cells #[.int .u8 (tb : Int), .int .i64 tn, .int .i64 td] 26)).heap[w2.heap.size]? = some (.cells #[.int .u8 (tb : Int), .int .i64 tn, .int .i64 td] 26) := (heap_pushed [.cells #[.int .u8 (tb : Int), .int .i64 tn, .int .i64 td] 26] w2 0 _).2 rfl
      have hb23 := Below.al1 w2 (.cells #[.int .u8 (tb : Int), .int .i64 tn, .int .i64 td] 26)
      go_upto_region 6 with (fail)
      generalize w2.alloc (.cells #[.int .u8 (tb : Int), .int .i64 tn, .int .i64 td] 26) = W3 at *
      have HO4 := Lib.hid ((Turns.of_below' (T := fun _ => False) hb23).owns HO3.out (fun _ _ h => h))
      have HB3 := Lib.hid (Below.thn HB2.out hb23)
      have hs2 : W.heap.size ≤ W3.heap.size := HB3.out.size
      have x0 : W3.cell? ⟨w2.heap.size, 0, none⟩ = some (.int .u8 (tb : Int)) := cell_heap hc rfl
      have x1 : W3.cell? ⟨w2.heap.size, 1, none⟩ = some (.int .i64 tn) := cell_heap hc rfl
      have x2 : W3.cell? ⟨w2.heap.size, 2, none⟩ = some (.int .i64 td) := cell_heap hc rfl
      have Hc := Lib.hid (And.intro hc hb23)
      clear hc hb23
      go_wp2_with (at_builtin; refine wpList_append_three W3 rfl (.tmp 18) (.tmp 20) 23 rfl W.heap.size 26 _ 24 tok_info Try.underlying23 rfl (.slice po q co) q (ts.flatMap encT) rfl HO4.out (.int .u8 (tb : Int)) (.int .i64 tn) (.int .i64 td) _ rfl rfl rfl rfl ?n3 ?n4 hs2 ?_)
      case n3 => simp only [maxLen]; omega
      case n4 => omega
      intro g1 cap1 w5 ho1 ht1 hg1
      have HB5 := Lib.hid (HB3.out.trans (ht1.below hs2 (fun k hk => (HO4.out.lt k hk).1)))
      have hc5 := (ht1.block w2.heap.size (lt_heap Hc.out.1) (fun e => by
        have := (HO3.out.lt w2.heap.size e).2
        omega)).trans Hc.out.1
      have x0 : w5.cell? ⟨w2.heap.size, 0, none⟩ = some (.int .u8 (tb : Int)) := cell_heap hc5 rfl
      have x1 : w5.cell? ⟨w2.heap.size, 1, none⟩ = some (.int .i64 tn) := cell_heap hc5 rfl
      have x2 : w5.cell? ⟨w2.heap.size, 2, none⟩ = some (.int .i64 td) := cell_heap hc5 rfl
      have HO5 : Hid (OwnT w5 W.heap.size (.slice (some ⟨g1, 0, none⟩) (q + 1) cap1) (ts ++ [⟨tb, tn, td⟩])) := Lib.hid (by
        unfold OwnT
        rw [List.length_append, Hq.out, List.flatMap_append]
        exact ho1)
      have HT5 : Hid (ToksTo (fb l) l.length (a + z) (ts ++ [⟨tb, tn, td⟩])) := Lib.hid (by rw [← Hz.out]; exact .snoc HT.out hlt Htok.out)
      have Hlen : Hid ((ts ++ [(⟨tb, tn, td⟩ : Tk)]).length = q + 1) := Lib.hid (by rw [List.length_append, Hq.out]; rfl)
      clear hc5 ho1 ht1 hg1 HO3 HO4 hs2 Hc HB3
      go_wp2_with fail
      refine Calls.mono (size_any ⟨tb, tn, td⟩ w5 (by show tn ≤ 1000; omega)) ?_
      rintro e w6 ⟨rfl, hb6⟩
      rw [Hz.out]
      have HB6 := Lib.hid (HB5.out.trans (hb6.mono HB5.out.size))
      have HO6 := Lib.hid (show OwnT w6 W.heap.size _ _ from (Turns.of_below' (T := fun _ => False) hb6).owns HO5.out (fun _ _ h => h))
      have ez : (a : Int) + (z : Int) = ((a + z : Nat) : Int) := by omega
      obtain ⟨az, haz⟩ : ∃ az, a + z = az := ⟨_, rfl⟩
      rw [haz] at HT5 hfit ez
      have haz2 : a < az := by omega
      clear hb6 x0 x1 x2 haz HB5 HO5
      go_wp2_with fail
      go_roundw
      case rel => exact ⟨az, ts ++ [⟨tb, tn, td⟩], rfl, hfit, by rw [Hlen.out]; omega, HO6, HT5, HB6⟩
      case measure => simp [intOf]; omega
    · obtain rfl : a = l.length := by omega
      have d0 : decide ((l.length : Int) < (l.length : Int)) = false := by simp
      go_wp2_with fail
      go_ret
      exact ⟨_, ts, rfl, owns_base HO.out HbW.out.size, HT.out.all, HbW.out.trans (HB.out.mono HbW.out.size)⟩

end Go.Proofs.Ytngiiacibbgiiaa
