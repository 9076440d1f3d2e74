/- Several texts in one, each with its own head. -/
import Derived.Test.YtdcmalbbijchiaaZq44
import Derived.Test.YtdcmalbbijchiaaZq45
import Derived.Test.YtdcmalbbijchiaaZq46
import Derived.Test.YtdcmalbbijchiaaZq40
/- inflate: the statement's lay, whatever block; what it lays may be told, and tells what the tokens tell. -/
namespace Go.Proofs.Ytdcmalbbijchiaa
open Go.RowKit Go.Maps

/-- The block that is laid. -/
def LayB (k : Nat) (ts : List Tk) (bs : List Nat) (b : Bn) : Prop :=
  (k % 3 = 0 ∧ b = .st bs) ∨ (k % 3 = 1 ∧ b = .fx (ts.map tn)) ∨ (k % 3 = 2 ∧ ∃ A D, CodS ts A D ∧ A.length = 286 ∧ D.length = 30 ∧ b = .dy A D (ts.map tn))

theorem layS_any {G : Nat → Prop} {W : World} {F : World → Prop} {base B : Nat} {P : Pt} (k : Nat) (last : Bool) (p q : Option Addr) (c d : Nat) (ts : List Tk) (bs : List Nat) (w : World) (hk : k < 256) (h : WrF G W F base B P w)
    (hT : ∀ w, F w → ts = [] ∨ RowAt encT 3 w p ts) (hc : ts.length ≤ c ∧ c ≤ maxLen) (hx : ∀ t ∈ ts, t.okB = true ∧ t.b < 256) (hl : ts.length ≤ 300)
    (hB : ∀ w, F w → BsAt w q bs) (hby : ∀ i, bs.getD i 0 < 256) (hbl : bs.length ≤ 20000) (hm : szP P ≤ 8000000) :
    Calls Try.prog 6 #[.pointer (some ⟨B, 0, none⟩), .agg #[.int .u8 (k : Int), .slice p ts.length c], .bool last, .slice q bs.length d] w fun e w' => e = .returned (.tuple #[]) ∧ ∃ b, LayB k ts bs b ∧ WrF G W F base B (P ++ b.put (szP P) last) w' := by
  have h3 : k % 3 = 0 ∨ k % 3 = 1 ∨ k % 3 = 2 := by omega
  rcases h3 with h3 | h3 | h3
  · exact (lay_st k _ last q d bs w hk h3 h hB hby hbl hm).mono fun e w' ⟨h1, h2⟩ => ⟨h1, _, .inl ⟨h3, rfl⟩, h2⟩
  · cases last
    · exact (lay_t10 k p q c bs.length d ts w hk h3 h hT hc hx hl hm).mono fun e w' ⟨h1, A, D, h2, h4, h5⟩ => ⟨h1, _, .inr (.inl ⟨h3, rfl⟩), h5⟩
    · exact (lay_t11 k p q c bs.length d ts w hk h3 h hT hc hx hl hm).mono fun e w' ⟨h1, A, D, h2, h4, h5⟩ => ⟨h1, _, .inr (.inl ⟨h3, rfl⟩), h5⟩
  · cases last
    · refine (lay_t20 k p q c bs.length d ts w hk h3 h hT hc hx hl hm).mono fun e w' ⟨h1, A, D, h2, h4, h5⟩ => ⟨h1, _, .inr (.inr ⟨h3, A, D, h2, ?_, ?_, rfl⟩), h5⟩
      all_goals (rcases h4 with ⟨h4, -⟩ | ⟨-, h4, h5⟩ <;> omega)
    · refine (lay_t21 k p q c bs.length d ts w hk h3 h hT hc hx hl hm).mono fun e w' ⟨h1, A, D, h2, h4, h5⟩ => ⟨h1, _, .inr (.inr ⟨h3, A, D, h2, ?_, ?_, rfl⟩), h5⟩
      all_goals (rcases h4 with ⟨h4, -⟩ | ⟨-, h4, h5⟩ <;> omega)

theorem xp_okB : ∀ {ts : List Tk} {o : List Nat}, (xp ts o).2 = 0 → ∀ t ∈ ts, t.okB = true
  | [], _, _, t, ht => by cases ht
  | x :: r, o, h, t, ht => by
    by_cases e : tkErr x o.length = 0
    · rw [xp_cons_ok e] at h
      rcases List.mem_cons.1 ht with rfl | ht
      · exact (tkErr_zero e).1
      · exact xp_okB h t ht
    · rw [xp_cons_bad e] at h
      exact absurd h e
theorem layB_ok {k : Nat} {ts : List Tk} {b : Bn} {o : List Nat} (hb : LayB k ts ((xp ts o).1.drop o.length) b) (hx : (xp ts o).2 = 0) (h256 : ∀ t ∈ ts, t.b < 256) (ho : ∀ x ∈ o, x < 256) (hl : (xp ts o).1.length ≤ 20000) (hn : ts.length ≤ 300) :
    b.ok o ∧ b.tell o = (xp ts o).1 ∧ b.few 20000 300 := by
  have he := xp_told hx
  have hok := xp_okB hx
  rcases hb with ⟨-, rfl⟩ | ⟨-, rfl⟩ | ⟨-, A, D, hC, hA, hD, rfl⟩
  · obtain ⟨z, hz⟩ := told_pre (ts.map tn) o
    have hdr : (xp ts o).1.drop o.length = z := by rw [he, hz, List.drop_left]
    have hby := xp_byte ts o ho h256
    refine ⟨⟨?_, fun x hx => hby x (List.mem_of_mem_drop hx)⟩, ?_, ?_⟩
    · rw [List.length_drop]; omega
    · show o ++ (xp ts o).1.drop o.length = _
      rw [hdr, he, hz]
    · show ((xp ts o).1.drop o.length).length ≤ 20000
      rw [List.length_drop]; omega
  · refine ⟨xp_may hx fun t ht => fix_cod (hok t ht) (h256 t ht), he.symm, ?_⟩
    show (ts.map tn).length ≤ 300
    rw [List.length_map]; exact hn
  · refine ⟨⟨hA, hD, hC.low, hC.ca, hC.cd, hC.h256.2, xp_may hx hC.cod⟩, he.symm, ?_⟩
    show (ts.map tn).length ≤ 300
    rw [List.length_map]; exact hn

/-- A row of tokens beside the writer, whose own blocks may grow. -/
def Gq (n : Nat) (v : Value) (b : Nat) : Prop := b < n ∨ v.ownBlock = some b
theorem WrY.here {G : Nat → Prop} {base B : Nat} {P : Pt} {W w : World} (h : WrY G base B P W w) : WrY G base B P w w := by
  obtain ⟨sv, h1, h2, h3, h4, h5⟩ := h
  exact ⟨sv, h1, h2, h3, Turns.refl _ _, fun b hb => ⟨(h5 b hb).1, (h5 b hb).2.1, Nat.lt_of_lt_of_le (h5 b hb).2.2 h4.size⟩⟩
theorem WrY.grow {n base B : Nat} {v v' : Value} {P : Pt} {w w' : World} (h : WrY (Gq n v) base B P w w) (ht : Turns (fun b => v.ownBlock = some b) w w') (hv : ∀ k, v'.ownBlock = some k → v.ownBlock = some k ∨ w.heap.size ≤ k) (hlt : ∀ k, v'.ownBlock = some k → k < w'.heap.size) : WrY (Gq n v') base B P w' w' := by
  obtain ⟨sv, h1, h2, h3, -, h5⟩ := h
  have hs := h1.size
  refine ⟨sv, h1.turns ht (fun e => (h5 _ (.inr e)).1 rfl) (fun k hk e => (h5 _ (.inr e)).2.1 hk), Nat.le_trans h2 ht.size, h3, Turns.refl _ _, fun b hb => ?_⟩
  rcases hb with hb | hb
  · obtain ⟨a1, a2, a3⟩ := h5 b (.inl hb)
    exact ⟨a1, a2, Nat.lt_of_lt_of_le a3 ht.size⟩
  · rcases hv b hb with e | e
    · obtain ⟨a1, a2, a3⟩ := h5 b (.inr e)
      exact ⟨a1, a2, Nat.lt_of_lt_of_le a3 ht.size⟩
    · exact ⟨by omega, fun e2 => by have := (h1.own.lt b e2).2; omega, hlt b hb⟩

end Go.Proofs.Ytdcmalbbijchiaa

/- lz's tell and Expand. -/
namespace Go.Proofs.Ytdcmalbbijchiaa
open Go.RowKit

theorem rpt_snoc (d : Nat) : ∀ k o, rpt d (k + 1) o = rpt d k o ++ [(rpt d k o).getD ((rpt d k o).length - d) 0]
  | 0, o => rfl
  | k + 1, o => by rw [rpt, rpt_snoc d k]; rfl
theorem RowAt.tok {W : World} {p : Option Addr} {xs : List Tk} (h : RowAt encT 3 W p xs) {k : Nat} (hk : k < xs.length) : ∃ b off, p = some ⟨b, off, none⟩ ∧ W.cell? ⟨b, off + k * 3, none⟩ = some (.int .u8 (xs[k].b : Int)) ∧ W.cell? ⟨b, off + k * 3 + 1, none⟩ = some (.int .i64 xs[k].n) ∧ W.cell? ⟨b, off + k * 3 + 2, none⟩ = some (.int .i64 xs[k].d) := by
  rcases h with ⟨-, rfl⟩ | ⟨b, off, rfl, -, h⟩
  · simp at hk
  · have := h k xs[k] (List.getElem?_eq_getElem hk)
    exact ⟨b, off, rfl, this 0 _ rfl, this 1 _ rfl, this 2 _ rfl⟩
theorem own_last {w : World} {base : Nat} {v : Value} {o : List Nat} (h : w.ownsRow base 5 1 v o.length (o.map u8v)) {i : Nat} (hi : i < o.length) : ∃ g c, v = .slice (some ⟨g, 0, none⟩) o.length c ∧ w.cell? ⟨g, i, none⟩ = some (.int .u8 (o.getD i 0 : Int)) := by
  obtain ⟨g, c, e, -, -, hc, -⟩ := own_at h (i := i) (u := u8v (o.getD i 0)) (by rw [List.getElem?_map, List.getElem?_eq_getElem hi, List.getD_eq_getElem?_getD, List.getElem?_eq_getElem hi]; rfl)
  exact ⟨g, c, e, hc⟩

set_option maxRecDepth 20000 in
set_option maxHeartbeats 4000000 in
theorem tell_any (t : Tk) (base : Nat) (vb : Value) (o : List Nat) (w : World) (hown : w.ownsRow base 5 1 vb o.length (o.map u8v)) (hok : t.okB = true) (hd : t.d ≤ (o.length : Int)) (hlen : o.length ≤ 524288) (hbase : base ≤ w.heap.size) :
    Calls Try.prog 11 #[vb, tkV t] w fun e w' => ∃ v', e = .returned v' ∧ w'.ownsRow base 5 1 v' (tellT t o).length ((tellT t o).map u8v) ∧ Turns (fun k => vb.ownBlock = some k) w w' ∧ (∀ k, v'.ownBlock = some k → vb.ownBlock = some k ∨ w.heap.size ≤ k) := by
  obtain ⟨b, n, d⟩ := t
  unfold tkV
  simp only at hd ⊢
  have Hown := Lib.hid hown
  obtain ⟨pb, cb, rfl⟩ := owns_slice hown
  obtain ⟨W, hW⟩ : ∃ W, w.alloc (.cells #[.int .u8 (b : Int), .int .i64 n, .int .i64 d] 40) = W := ⟨_, rfl⟩
  have hbW : Below w.heap.size w W := by rw [← hW]; exact Below.al1 w _
  have hT : W.heap[w.heap.size]? = some (.cells #[.int .u8 (b : Int), .int .i64 n, .int .i64 d] 40) := by
    rw [← hW]
    exact (heap_pushed [.cells #[.int .u8 (b : Int), .int .i64 n, .int .i64 d] 40] w 0 _).2 rfl
  have c0 : W.cell? ⟨w.heap.size, 0, none⟩ = some (.int .u8 (b : Int)) := cell_heap hT rfl
  have c1 : W.cell? ⟨w.heap.size, 1, none⟩ = some (.int .i64 n) := cell_heap hT rfl
  have c2 : W.cell? ⟨w.heap.size, 2, none⟩ = some (.int .i64 d) := cell_heap hT rfl
  have HownW := Lib.hid ((Turns.of_below' (T := fun _ => False) hbW).owns hown (fun _ _ h => h))
  have hsW : base ≤ W.heap.size := Nat.le_trans hbase hbW.size
  have HbW := Lib.hid hbW
  have HT := Lib.hid hT
  have Hok := Lib.hid hok
  have hglt := hown.lt
  have Hglt := Lib.hid hglt
  clear hown hbW hT hok hglt
  by_cases h0 : n = 0
  · have e0 : (n == 0) = true := by simp; omega
    have ht : tellT ⟨b, n, d⟩ o = o ++ [b] := by unfold tellT; rw [if_pos h0]
    have Ht := Lib.hid ht
    clear ht
    go_enter Try.func11, Try.ntmps11
    clear h0
    go_upto_region 1 with (fail)
    clear hW
    go_wp2_with (at_builtin; refine wpList_append_one W rfl (.tmp 8) (.tmp 11) 23 rfl base 5 _ 1 u8_info Try.underlying23 rfl (.slice pb o.length cb) o.length (o.map u8v) rfl HownW.out (.int .u8 (b : Int)) _ rfl rfl ?n3 ?n4 hsW ?_)
    case n3 => simp only [maxLen]; omega
    case n4 => omega
    intro g1 cap1 w5 ho1 ht1 hg1
    have Ho1 := Lib.hid (And.intro ho1 (And.intro ht1 hg1))
    clear ho1 ht1 hg1 c0 c1 c2
    go_wp2
    go_ret
    refine ⟨_, rfl, ?_, (Turns.of_below' HbW.out).trans Ho1.out.2.1, fun k hk => ?_⟩
    · rw [Ht.out, List.length_append, List.map_append]
      exact Ho1.out.1
    · cases hk
      rcases Ho1.out.2.2 with h | h
      · exact .inl h
      · exact .inr (Nat.le_trans HbW.out.size h)
  · have hok2 : 3 ≤ n ∧ n ≤ 258 ∧ 1 ≤ d ∧ d ≤ 32768 := by
      have := Hok.out
      simp [Tk.okB, h0] at this
      omega
    obtain ⟨m, rfl⟩ : ∃ m : Nat, n = m := ⟨n.toNat, by omega⟩
    obtain ⟨dd, rfl⟩ : ∃ m : Nat, d = m := ⟨d.toNat, by omega⟩
    have e0 : ((m : Int) == 0) = false := by simp; omega
    have ht : tellT ⟨b, (m : Int), (dd : Int)⟩ o = rpt dd m o := by unfold tellT; rw [if_neg h0]; simp
    have Ht := Lib.hid ht
    clear ht
    go_enter Try.func11, Try.ntmps11
    go_upto_region 1 with (fail)
    clear hW h0
    go_wp2
    go_loopw [0, 15] (fun bv kv wr => ∃ k : Nat, kv = .int .i64 (k : Int) ∧ k ≤ m ∧ Hid (wr.ownsRow base 5 1 bv (rpt dd k o).length ((rpt dd k o).map u8v)) ∧ Hid (Turns (fun b => (Value.slice pb o.length cb).ownBlock = some b) W wr) ∧ Hid (∀ b, bv.ownBlock = some b → (Value.slice pb o.length cb).ownBlock = some b ∨ W.heap.size ≤ b)) (fun _ kv _ => m - (intOf kv).toNat)
    case atStart => exact ⟨0, rfl, Nat.zero_le _, HownW, Lib.hid (Turns.refl _ _), Lib.hid fun b h => .inl h⟩
    case round =>
      obtain ⟨k, rfl, hk, HO, HTu, HBk⟩ := hrel
      by_cases hlt : k < m
      · have d0 : decide ((k : Int) < (m : Int)) = true := by simp; omega
        obtain ⟨q, hq⟩ : ∃ q, (rpt dd k o).length = q := ⟨_, rfl⟩
        have hq2 : q = o.length + k := by rw [← hq]; exact rpt_len _ _ _
        have hqb : q ≤ 600000 := by omega
        have hqd : dd ≤ q := by omega
        clear hq2
        obtain ⟨g, cg, e, hcell⟩ := own_last HO.out (i := q - dd) (by rw [hq]; omega)
        subst e
        obtain ⟨x, hx⟩ : ∃ x, (rpt dd k o).getD (q - dd) 0 = x := ⟨_, rfl⟩
        rw [hx] at hcell
        obtain ⟨r, hr⟩ : ∃ r, q - dd = r := ⟨_, rfl⟩
        have er : (q : Int) - (dd : Int) = (r : Int) := by omega
        have r0 : (0 : Int) ≤ (r : Int) := by omega
        have r1 : (r : Int) < (q : Int) := by omega
        rw [hr] at hcell
        have Hs : Hid (rpt dd (k + 1) o = rpt dd k o ++ [x]) := Lib.hid (by rw [rpt_snoc, hq, hx])
        have HO2 : Hid (wr.ownsRow base 5 1 (.slice (some ⟨g, 0, none⟩) q cg) q ((rpt dd k o).map u8v)) := Lib.hid (by have := HO.out; rw [hq] at this; exact this)
        have HBk2 := Lib.hid (show ∀ b, some g = some b → (Value.slice pb o.length cb).ownBlock = some b ∨ W.heap.size ≤ b from fun b hb => HBk.out b hb)
        have Hq := Lib.hid hq
        have hc2 : wr.cell? ⟨w.heap.size, 2, none⟩ = some (.int .i64 (dd : Int)) := HTu.out.cell c2 (fun e => by have h := (Hglt.out _ e).2; simp only at h; omega)
        have hs1 : base ≤ wr.heap.size := Nat.le_trans hsW HTu.out.size
        rw [hq]
        clear HO hx hr hq HBk
        go_wp2_with (at_builtin; refine wpList_append_one wr rfl (.tmp 17) (.tmp 26) 23 rfl base 5 _ 1 u8_info Try.underlying23 rfl (.slice (some ⟨g, 0, none⟩) q cg) q ((rpt dd k o).map u8v) rfl HO2.out (.int .u8 (x : Int)) _ rfl rfl ?m3 ?m4 hs1 ?_)
        case m3 => simp only [maxLen]; omega
        case m4 => omega
        intro g1 cap1 w5 ho1 ht1 hg1
        have HO5 : Hid (w5.ownsRow base 5 1 (.slice (some ⟨g1, 0, none⟩) (q + 1) cap1) (rpt dd (k + 1) o).length ((rpt dd (k + 1) o).map u8v)) := Lib.hid (by
          rw [Hs.out, List.length_append, List.map_append, Hq.out]
          exact ho1)
        have HT5 : Hid (Turns (fun b => (Value.slice pb o.length cb).ownBlock = some b) W w5) := Lib.hid (HTu.out.trans' ht1 (fun i hi e => by
          rcases HBk2.out i e with h | h
          · exact h
          · omega))
        have HB5 : Hid (∀ b, (Value.slice (some ⟨g1, 0, none⟩) (q + 1) cap1).ownBlock = some b → (Value.slice pb o.length cb).ownBlock = some b ∨ W.heap.size ≤ b) := Lib.hid (fun b hb => by
          cases hb
          rcases hg1 with h | h
          · exact HBk2.out _ h
          · exact .inr (Nat.le_trans HTu.out.size h))
        clear ho1 ht1 hg1 hcell hc2 er r0 r1
        go_wp2
        go_roundw
        case rel => exact ⟨k + 1, by go_num, by omega, HO5, HT5, HB5⟩
        case measure => simp [intOf]; omega
      · obtain rfl : k = m := by omega
        have d0 : decide ((k : Int) < (k : Int)) = false := by simp
        go_wp2
        go_ret
        refine ⟨_, rfl, ?_, (Turns.of_below' HbW.out).trans (HTu.out.mono fun i _ h => h), fun k hk => ?_⟩
        · rw [Ht.out]; exact HO.out
        · rcases HBk.out _ hk with h | h
          · exact .inl h
          · exact .inr (Nat.le_trans HbW.out.size h)

end Go.Proofs.Ytdcmalbbijchiaa

/- lz's Expand. -/
namespace Go.Proofs.Ytdcmalbbijchiaa
open Go.RowKit

theorem tkErr_bad {t : Tk} {n : Nat} (h : t.okB = false) : tkErr t n = 70 := by unfold tkErr; rw [if_pos (.inl (by simp [h]))]
theorem tkErr_far {t : Tk} {n : Nat} (h : (n : Int) < t.d) : tkErr t n = 70 := by unfold tkErr; rw [if_pos (.inr h)]
theorem tkErr_long {t : Tk} {n : Nat} (h : t.okB = true) (h2 : ¬ (n : Int) < t.d) (h3 : 524288 < n + t.size) : tkErr t n = 2 := by
  unfold tkErr; rw [if_neg (by simp [h]; omega), if_pos h3]
theorem tkErr_none {t : Tk} {n : Nat} (h : t.okB = true) (h2 : ¬ (n : Int) < t.d) (h3 : ¬ 524288 < n + t.size) : tkErr t n = 0 := by
  unfold tkErr; rw [if_neg (by simp [h]; omega), if_neg h3]
theorem okB_small {t : Tk} (h : t.okB = true) : t.n ≤ 258 ∧ t.size ≤ 258 := by
  unfold Tk.okB at h
  split at h
  · rename_i e; unfold Tk.size; omega
  · simp at h; unfold Tk.size; omega

set_option maxRecDepth 20000 in
set_option maxHeartbeats 8000000 in
theorem expand_any (ts : List Tk) (v : Value) (w : World) (hv : Row encT 3 w v ts) (hl : ts.length ≤ 1048576) :
    Calls Try.prog 4 #[v] w fun e w' => ∃ v', e = .returned (.tuple #[v', .int .i64 (xp ts []).2]) ∧ w'.ownsRow w.heap.size 5 1 v' (xp ts []).1.length ((xp ts []).1.map u8v) ∧ Below w.heap.size w w' := by
  have Hv := Lib.hid hv
  have HvB : Hid (∀ g, v.ownBlock = some g → g < w.heap.size) := Lib.hid (fun g hg => by
    obtain ⟨p, c, rfl, -, -, h⟩ := hv
    rcases h with ⟨rfl, -⟩ | ⟨b, off, rfl, h, -⟩
    · cases hg
    · cases hg; exact h)
  obtain ⟨p, c, rfl, -, -, -⟩ := hv
  obtain ⟨R, hR⟩ : ∃ R, xp ts [] = R := ⟨_, rfl⟩
  have HR := Lib.hid hR
  rw [hR]
  clear hR
  go_enter Try.func4, Try.ntmps4
  go_wp2_with fail
  go_loopw [4, 9] (fun bv kv wr => ∃ (k : Nat) (o : List Nat), kv = .int .i64 (k : Int) ∧ k ≤ ts.length ∧ o.length ≤ 524288 ∧ Hid (wr.ownsRow w.heap.size 5 1 bv o.length (o.map u8v)) ∧ Hid (xp (ts.drop k) o = R) ∧ Hid (Below w.heap.size w wr)) (fun _ kv _ => ts.length - (intOf kv).toNat)
  case atStart => exact ⟨0, [], rfl, Nat.zero_le _, by simp, Lib.hid (World.ownsRow_nil _ _ _ _), Lib.hid (by rw [List.drop_zero]; exact HR.out), Lib.hid (Below.refl _ _)⟩
  case round =>
    obtain ⟨k, o, rfl, hk, ho, HO, HX, HB⟩ := hrel
    obtain ⟨po, co, rfl⟩ := owns_slice HO.out
    by_cases hlt : k < ts.length
    · have d0 : decide ((k : Int) < (ts.length : Int)) = true := by simp; omega
      obtain ⟨pp, cc, e, -, -, hrow⟩ := Hv.out.below HB.out
      cases e
      obtain ⟨g, off, rfl, hc0, hc1, hc2⟩ := hrow.tok hlt
      have HX2 : Hid (xp (ts[k] :: ts.drop (k + 1)) o = R) := Lib.hid (by rw [← List.drop_eq_getElem_cons hlt]; exact HX.out)
      generalize ts[k] = t at *
      obtain ⟨q, hq⟩ : ∃ q, o.length = q := ⟨_, rfl⟩
      have Hq := Lib.hid hq
      have HO2 : Hid (wr.ownsRow w.heap.size 5 1 (.slice po q co) q (o.map u8v)) := Lib.hid (by rw [← hq]; exact HO.out)
      rw [hq] at ho ⊢
      obtain ⟨bk, hbk⟩ : ∃ bk, t.okB = bk := ⟨_, rfl⟩
      have Hbk := Lib.hid hbk
      have k0 : (0 : Int) ≤ (k : Int) := by omega
      have k1 : (k : Int) < (ts.length : Int) := by omega
      obtain ⟨W, hW⟩ : ∃ W, wr.alloc (.cells #[.int .u8 (t.b : Int), .int .i64 t.n, .int .i64 t.d] 40) = W := ⟨_, rfl⟩
      have hbW : Below wr.heap.size wr W := by rw [← hW]; exact Below.al1 wr _
      have hT : W.heap[wr.heap.size]? = some (.cells #[.int .u8 (t.b : Int), .int .i64 t.n, .int .i64 t.d] 40) := by
        rw [← hW]
        exact (heap_pushed [.cells #[.int .u8 (t.b : Int), .int .i64 t.n, .int .i64 t.d] 40] wr 0 _).2 rfl
      have HT := Lib.hid hT
      have HbW := Lib.hid hbW
      have e0 : W.cell? ⟨wr.heap.size, 0, none⟩ = some (.int .u8 (t.b : Int)) := cell_heap hT rfl
      have e1 : W.cell? ⟨wr.heap.size, 1, none⟩ = some (.int .i64 t.n) := cell_heap hT rfl
      have e2 : W.cell? ⟨wr.heap.size, 2, none⟩ = some (.int .i64 t.d) := cell_heap hT rfl
      clear hrow HO hq hbk hbW hT HX
      go_upto_region 5 with (fail)
      clear hW hc0 hc1 hc2
      go_wp2_with fail
      refine Calls.mono (lzMayBe_any t W) ?_
      rintro e w2 ⟨rfl, hb2⟩
      rw [Hbk.out]
      have HB2 := Lib.hid (Below.thn (Below.thn HB.out HbW.out) hb2)
      have HO3 := Lib.hid ((Turns.of_below' (T := fun _ => False) (Below.thn HbW.out hb2)).owns HO2.out (fun _ _ h => h))
      have e0 := cell_later hb2 e0
      have e1 := cell_later hb2 e1
      have e2 := cell_later hb2 e2
      clear hb2 HO2
      cases bk with
      | false =>
        go_wp2
        go_ret2
        obtain rfl : R = ([], 70) := by rw [← HX2.out, xp_cons_bad (by rw [tkErr_bad Hbk.out]; decide), tkErr_bad Hbk.out]
        exact ⟨_, rfl, World.ownsRow_nil _ _ _ _, HB2.out⟩
      | true =>
        by_cases hd : (q : Int) < t.d
        · have d1 : decide (t.d > (q : Int)) = true := by simp; omega
          go_wp2
          go_ret2
          have hr : R = ([], 70) := by
            have := HX2.out
            rw [xp_cons_bad (by rw [Hq.out, tkErr_far hd]; decide), Hq.out, tkErr_far hd] at this
            exact this.symm
          rw [hr]
          exact ⟨_, rfl, World.ownsRow_nil _ _ _ _, HB2.out⟩
        · have d1 : decide (t.d > (q : Int)) = false := by simp; omega
          have hsm := okB_small Hbk.out
          go_wp2_with fail
          refine Calls.mono (size_any t w2 (by omega)) ?_
          rintro e w3 ⟨rfl, hb3⟩
          have HB3 := Lib.hid (Below.thn HB2.out hb3)
          have HO4 := Lib.hid ((Turns.of_below' (T := fun _ => False) hb3).owns HO3.out (fun _ _ h => h))
          have e0 := cell_later hb3 e0
          have e1 := cell_later hb3 e1
          have e2 := cell_later hb3 e2
          obtain ⟨z, hz⟩ : ∃ z, t.size = z := ⟨_, rfl⟩
          rw [hz] at hsm ⊢
          have Hz := Lib.hid hz
          clear hb3 hz HO3
          by_cases hlong : 524288 < q + z
          · have d2 : decide ((z : Int) > 524288 - (q : Int)) = true := by simp; omega
            go_wp2
            go_ret2
            have hr : R = ([], 2) := by
              have h1 : tkErr t o.length = 2 := by rw [Hq.out]; exact tkErr_long Hbk.out (by omega) (by rw [Hz.out]; exact hlong)
              have := HX2.out
              rw [xp_cons_bad (by rw [h1]; decide), h1] at this
              exact this.symm
            rw [hr]
            exact ⟨_, rfl, World.ownsRow_nil _ _ _ _, HB3.out⟩
          · have d2 : decide ((z : Int) > 524288 - (q : Int)) = false := by simp; omega
            have h0 : tkErr t o.length = 0 := by rw [Hq.out]; exact tkErr_none Hbk.out (by omega) (by rw [Hz.out]; exact hlong)
            have H0 := Lib.hid h0
            have hs3 := HB3.out.size
            clear h0
            go_wp2_with fail
            refine Calls.mono (tell_any t w.heap.size (.slice po q co) o w3 (by rw [Hq.out]; exact HO4.out) Hbk.out (by rw [Hq.out]; omega) (by rw [Hq.out]; exact ho) hs3) ?_
            rintro e w4 ⟨v', rfl, ho4, ht4, hg4⟩
            have hlen : (tellT t o).length ≤ 524288 := by rw [tellT_len _ _ Hbk.out, Hq.out, Hz.out]; omega
            have HO5 := Lib.hid ho4
            have HB5 := Lib.hid (HB3.out.trans (ht4.below hs3 (fun k hk => (HO4.out.lt k hk).1)))
            have HX5 : Hid (xp (ts.drop (k + 1)) (tellT t o) = R) := Lib.hid (by rw [← HX2.out, xp_cons_ok H0.out])
            clear ho4 ht4 hg4 e0 e1 e2 HO4
            go_wp2
            go_roundw
            case rel => exact ⟨k + 1, tellT t o, by go_num, by omega, hlen, HO5, HX5, HB5⟩
            case measure => simp [intOf]; omega
    · obtain rfl : k = ts.length := by omega
      have d0 : decide ((ts.length : Int) < (ts.length : Int)) = false := by simp
      go_wp2
      go_ret2
      have hr : R = (o, 0) := by
        have := HX.out
        rw [List.drop_length] at this
        exact this.symm
      rw [hr]
      exact ⟨_, rfl, HO.out, HB.out⟩

end Go.Proofs.Ytdcmalbbijchiaa
