/- region's without: the edges of rectangles that end at y are left out, in place. -/
import Derived.Test.YtajoipmchgabfaaGreatT9
namespace Go.Proofs.YtajoipmchgabfaaGreat
open Go.RowKit Go.Sort

/-- Does the edge's rectangle end at y? -/
def endsAt (y : Int) (e : Ed) : Bool := decide (e.rc.y + e.rc.b = y)

set_option maxHeartbeats 400000 in
theorem without1_any (e : Ed) (y : Int) (By : Nat) (w : World) (hy : w.cell? ⟨By, 0, none⟩ = some (.int .i64 y)) (hg : emptyR e.rc = false) :
    Makes Tryz.prog 91 #[EV e, .pointer (some ⟨By, 0, none⟩)] w (.bool (endsAt y e)) := by
  unfold Makes
  have hbd := emptyR_false.1 hg
  clear hg
  have hlt := World.block_lt_of_cell? _ _ hy
  go_enter Tryz.func91, Tryz.ntmps91
  go_wp2
  go_ret
  exact ⟨ret_bool (by rw [Bool.eq_iff_iff]; simp [endsAt]), Below.al1 _ _⟩

set_option maxHeartbeats 1000000 in
theorem idxE_any (v : Value) (xs : List Ed) (y : Int) (By : Nat) (w : World) (hv : Row encE 7 w v xs) (hy : w.cell? ⟨By, 0, none⟩ = some (.int .i64 y)) (hg : ∀ e ∈ xs, emptyR e.rc = false) :
    Calls Tryz.prog 96 #[v, .func (.func 91) #[] #[.pointer (some ⟨By, 0, none⟩)]] w fun e w' =>
      ((∃ k : Nat, ∃ h : k < xs.length, e = .returned (.int .i64 k) ∧ endsAt y xs[k] = true ∧ ∀ j (hj : j < k), endsAt y xs[j] = false) ∨ (e = .returned (.int .i64 (-1)) ∧ ∀ x ∈ xs, endsAt y x = false)) ∧ Below w.heap.size w w' := by
  have hn := hv.len
  obtain ⟨p, cap, rfl, -, -, hp⟩ := hv
  have e84 := enters_of Tryz.func91 (by kernel_rfl) rfl
  go_enter Tryz.func96, Tryz.ntmps96
  go_wp2
  go_loopw [8] (fun i wr => ∃ k : Nat, k ≤ xs.length ∧ i = .int .i64 k ∧ Below w.heap.size w wr ∧ Hid (∀ j (_ : j < k) (h : j < xs.length), endsAt y xs[j] = false)) (fun i _ => xs.length - (intOf i).toNat)
  case atStart => exact ⟨0, by omega, rfl, Below.refl _ _, Lib.hid (fun j h => by omega)⟩
  case round =>
    obtain ⟨k, hk, rfl, hb, Hn⟩ := hrel
    by_cases hlt : k < xs.length
    · obtain ⟨b, off, rfl, hB, hc⟩ := (hp.below hb).ed hlt
      obtain ⟨c0, c1, c2, c3, c4, c5, c6⟩ := hc k hlt
      have hge := hg xs[k] (List.getElem_mem hlt)
      have hy2 := cell_later hb hy
      clear hc
      obtain ⟨e, he⟩ : ∃ e, e = xs[k] := ⟨_, rfl⟩
      rw [← he] at c0 c1 c2 c3 c4 c5 c6 hge
      have He := Lib.hid he
      clear he
      go_wp2_with fail
      refine Calls.mono (without1_any e y By _ hy2 hge) ?_
      rintro e2 w2 ⟨rfl, hb2⟩
      cases hq : endsAt y e
      · have Hq := Lib.hid hq
        clear hq
        go_wp2
        go_roundw
        case rel => exact ⟨k + 1, by omega, by go_num, Below.thn hb hb2, Lib.hid (fun j hj h => by
          rcases Nat.lt_or_ge j k with h1 | h1
          · exact Hn.out j h1 h
          · obtain rfl : j = k := by omega
            rw [← He.out]; exact Hq.out)⟩
        case measure => simp [intOf]; omega
      · have Hq := Lib.hid hq
        clear hq
        go_wp2
        go_ret
        exact ⟨.inl ⟨k, hlt, rfl, by rw [← He.out]; exact Hq.out, fun j hj => Hn.out j hj (by omega)⟩, Below.thn hb hb2⟩
    · go_wp2
      go_ret
      refine ⟨.inr ⟨rfl, fun x hx => ?_⟩, hb⟩
      obtain ⟨j, hj, rfl⟩ := List.getElem_of_mem hx
      exact Hn.out j (by omega) hj

theorem setMany_set (d : Array Ed) (i : Nat) (x : Ed) (hi : i < d.size) : setMany (flatK encE 7 d) (i * 7) (encE x) = flatK encE 7 (d.setIfInBounds i x) := by
  refine ext_get! (by simp) fun t ht => ?_
  have ht' : t < d.size * 7 := by simpa using ht
  rw [get_setMany _ _ _ t (by simpa using ht'), get_flatK _ _ _ t ht', get_flatK _ _ _ t (by simpa using ht')]
  have hq : t / 7 < d.size := by omega
  have e1 : d[t / 7]! = d[t / 7] := getElem!_pos d (t / 7) hq
  have e2 : (d.setIfInBounds i x)[t / 7]! = if i = t / 7 then x else d[t / 7] := by
    rw [getElem!_pos (d.setIfInBounds i x) (t / 7) (by simpa using hq), Array.getElem_setIfInBounds]
  rw [e1, e2]
  by_cases h : i * 7 ≤ t ∧ t < i * 7 + (encE x).length
  · rw [if_pos h]
    have h2 : t < i * 7 + 7 := h.2
    obtain rfl : i = t / 7 := by omega
    rw [if_pos rfl, show t - t / 7 * 7 = t % 7 by omega]
  · rw [if_neg h, if_neg (fun e => h ⟨by omega, by show t < i * 7 + 7; omega⟩)]

/-- An edge stored at place i of a row that is owned. -/
theorem owns_store {W : World} {base : Nat} {e : TypeId} {g cap n : Nat} {ys : List Ed} (hn : ys.length = n) (h : W.ownsRow base e 7 (.slice (some ⟨g, 0, none⟩) n cap) n (flatE ys)) (i : Nat) (hi : i < n) (x : Ed) :
    (W.setCells g (i * 7) (encE x)).ownsRow base e 7 (.slice (some ⟨g, 0, none⟩) n cap) n (flatE (ys.set i x)) ∧ W.grownBy (W.setCells g (i * 7) (encE x)) (some g) := by
  subst hn
  have hH := owns_holds h
  have hs : W.setCells g (i * 7) (encE x) = sortWorldK encE 7 W g 0 0 (ys.set i x).toArray #[] := by
    have h1 : putRow id W g 0 (flatK encE 7 ys.toArray) = W := putRowK_self encE 7 W g 0 ys.toArray hH
    have h2 := setCells_putRow W g 0 (encE x) (i * 7) (flatK encE 7 ys.toArray) (by rw [size_flatK]; show i * 7 + 7 ≤ _; simp; omega)
    rw [h1, Nat.zero_add, setMany_set _ i x (by simpa using hi)] at h2
    rw [h2]
    simp [sortWorldK, putRowK]
  rw [hs]
  exact owns_put #[] h (by simp)

/-- clear: what stands ahead stays. -/
theorem run_clear_own {P : Program} {W : World} {base : Nat} {e t ty : TypeId} {z : Value} {size g n cap i c : Nat} {xs : List Value} (ht : P.underlying t = some (.slice e)) (hv : ∀ w, (zeroValue e).run P w = .ok z w) (hz : z.cells.size = size) (h1 : ∀ u ∈ z.cells.toList, u.oneCell' = true)
    (h : W.ownsRow base e size (.slice (some ⟨g, 0, none⟩) n cap) n xs) (hi : i < n) :
    ∃ W', (Builtin.clear_ #[t] ty #[.slice (some ⟨g, i * size, none⟩) (n - i) c]).run P W = .ok (.tuple #[]) W' ∧ W'.ownsRow base e size (.slice (some ⟨g, 0, none⟩) i cap) i (xs.take (i * size)) ∧ W.grownBy W' (some g) := by
  rcases h.2 with ⟨h0, _⟩ | ⟨g', cap', cur, h0, hb, hg, hn, hm, hs, htk⟩
  · cases h0
  · cases h0
    have hle : i * size ≤ n * size := Nat.mul_le_mul_right _ (by omega)
    have hle2 : n * size ≤ cap * size := Nat.mul_le_mul_right _ hn
    have hzl : (Builtin.zeroCells z.cells (n - i)).toList.length = (n - i) * size := by rw [Array.length_toList, size_zeroCells, hz]
    have hsub : (n - i) * size = n * size - i * size := Nat.sub_mul n i size
    have hst := run_storeCells_at P g (i * size) e (Builtin.zeroCells z.cells (n - i)).toList 0 cur W hg (by rw [hzl, hsub]; omega) (fun u hu => by
      have hu2 : ∃ a, a < (n - i) * z.cells.size ∧ z.cells[a % z.cells.size]! = u := by simpa [Builtin.zeroCells] using hu
      obtain ⟨q, hq, rfl⟩ := hu2
      have hpos : 0 < z.cells.size := by
        rcases Nat.eq_zero_or_pos z.cells.size with h0 | h0
        · rw [h0] at hq; omega
        · exact h0
      rw [getElem!_pos z.cells (q % z.cells.size) (Nat.mod_lt _ hpos)]
      exact h1 _ (by simp))
    rw [Nat.add_zero] at hst
    obtain ⟨cs, hcs⟩ : ∃ cs, (List.take (i * size) cur.toList ++ (Builtin.zeroCells z.cells (n - i)).toList ++ List.drop (i * size + (Builtin.zeroCells z.cells (n - i)).toList.length) cur.toList).toArray = cs := ⟨_, rfl⟩
    rw [hcs] at hst
    refine ⟨W.setRow g cs, ?_, ⟨by rw [List.length_take, h.1]; omega, .inr ⟨g, cap, cs, rfl, hb, setRow_heap W g cur _ e _ hg, by omega, hm, ?_, ?_⟩⟩, rfl, rfl, rfl, by simp [World.setRow], fun k _ hk => setRow_other W g k _ (fun e => hk (by rw [e]))⟩
    · obtain ⟨m, hm'⟩ : ∃ m, n - i = m + 1 := ⟨n - i - 1, by omega⟩
      rw [hm'] at hst ⊢
      simp [Builtin.clear_, run_underlying ht, hv, hst]
    · rw [← hcs]
      simp only [List.size_toArray, List.length_append, List.length_take, List.length_drop, Array.length_toList, hzl]
      omega
    · rw [← hcs]
      simp only [List.append_assoc]
      rw [List.take_append_of_le_length (by simp; omega), List.take_take, Nat.min_self, ← htk, List.take_take, Nat.min_eq_left hle]

theorem edz : ∀ w, (zeroValue 116).run Tryz.prog w = .ok (.agg #[.int .i64 0, .int .i64 0, .int .i64 0, .int .i64 0, .int .i64 0, .int .i64 0, .int .i64 0]) w := fun _ => by kernel_rfl

theorem set_take {α : Type} (l : List α) (i : Nat) (x : α) (h : i < l.length) : (l.set i x).take (i + 1) = l.take i ++ [x] := by
  rw [List.take_succ_eq_append_getElem (by simpa using h), List.take_set_of_le (Nat.le_refl i)]
  simp

theorem flatE_take (l : List Ed) (i : Nat) : (flatE l).take (i * 7) = flatE (l.take i) := by
  induction l generalizing i with
  | nil => simp [flatE]
  | cons e l ih =>
    cases i with
    | zero => simp [flatE]
    | succ i =>
      have h7 : (encE e).length = 7 := rfl
      rw [List.take_succ_cons]
      simp only [flatE, List.flatMap_cons] at ih ⊢
      rw [List.take_append, h7, List.take_of_length_le (by rw [h7]; omega), show (i + 1) * 7 - 7 = i * 7 by omega, ih]

set_option maxRecDepth 100000 in
set_option maxHeartbeats 2000000 in
theorem delete_any (base : Nat) (v : Value) (xs : List Ed) (y : Int) (By : Nat) (w : World) (hown : w.ownsRow base 116 7 v xs.length (flatE xs)) (hy : Boxed w By 3 (.int .i64 y)) (hg : ∀ e ∈ xs, emptyR e.rc = false) :
    Calls Tryz.prog 90 #[v, .func (.func 91) #[] #[.pointer (some ⟨By, 0, none⟩)]] w fun e w' =>
      ∃ u, e = .returned u ∧ w'.ownsRow base 116 7 u (xs.filter (fun e => !endsAt y e)).length (flatE (xs.filter (fun e => !endsAt y e))) ∧ u.ownBlock = v.ownBlock ∧ Turns (fun b => v.ownBlock = some b) w w' := by
  have hrow := owns_row (enc := encE) (k := 7) (fun _ => rfl) hown
  have hidx := idxE_any v xs y By w hrow hy.cell hg
  have e84 := enters_of Tryz.func91 (by kernel_rfl) rfl
  have hn := hrow.len
  have Hown := Lib.hid hown
  obtain ⟨p, cap, rfl, -, -, hp⟩ := hrow
  clear hown
  go_enter Tryz.func90, Tryz.ntmps90
  go_wp2_with fail
  refine Calls.mono hidx ?_
  rintro e w2 ⟨hor, hb2⟩
  have Hb2 := Lib.hid hb2
  have Hown2 := Lib.hid ((Turns.of_below' (T := fun _ => False) hb2).owns Hown.out (fun _ _ h => h))
  clear hidx hb2
  rcases hor with ⟨k, hk, rfl, hyes, hno⟩ | ⟨rfl, hno⟩
  · obtain ⟨g, off, rfl, -, -⟩ := hp.ed hk
    have hoff : off = 0 := by
      rcases Hown.out.2 with ⟨h, _⟩ | ⟨_, _, _, h, _⟩
      · cases h
      · cases h; rfl
    subst hoff
    have hgB : g ≠ By := fun e => hy.not_row (by decide) Hown.out (by rw [e]; rfl)
    have hst : xs.take k = (xs.take (k + 1)).filter (fun e => !endsAt y e) := by
      rw [List.take_succ_eq_append_getElem hk, List.filter_append]
      simp only [List.filter_cons, hyes, Bool.not_true, List.filter_nil, List.append_nil, Bool.false_eq_true, if_false]
      symm
      refine List.filter_eq_self.2 (fun x hx => ?_)
      obtain ⟨j, hj, rfl⟩ := List.getElem_of_mem hx
      rw [List.length_take] at hj
      rw [List.getElem_take, hno j (by omega)]; rfl
    have Hst := Lib.hid hst
    have Hy0 := Lib.hid hy
    have hk1 : ((k : Int) == -1) = false := by simp
    clear hst hyes hno hy hp
    go_wp2
    go_loopw [5, 6] (fun ii jj wr => ∃ (i j : Nat) (ys : List Ed), ii = .int .i64 i ∧ jj = .int .i64 j ∧ i < j ∧ j ≤ xs.length ∧ ys.length = xs.length ∧ wr.ownsRow base 116 7 (.slice (some ⟨g, 0, none⟩) xs.length cap) xs.length (flatE ys) ∧ Hid (ys.take i = (xs.take j).filter (fun e => !endsAt y e)) ∧ Hid (ys.drop j = xs.drop j) ∧ Turns (fun b => b = g) w wr) (fun _ jj _ => xs.length - (intOf jj).toNat)
    case atStart => exact ⟨k, k + 1, xs, rfl, by go_num, by omega, by omega, rfl, Hown2.out, Hst, Lib.hid rfl, Turns.of_below' Hb2.out⟩
    case round =>
      obtain ⟨i, j, ys, rfl, rfl, hij, hj, hyl, hown, Htk, Hdr, htr⟩ := hrel
      have Hyl := Lib.hid hyl
      have hyB : wr.cell? ⟨By, 0, none⟩ = some (.int .i64 y) := (htr.boxed Hy0.out (fun e => hgB e.symm)).cell
      by_cases hlt : j < xs.length
      · have hjy : j < ys.length := by omega
        have hyj : ys[j] = xs[j] := by
          have h1 := Hdr.out
          rw [List.drop_eq_getElem_cons hjy, List.drop_eq_getElem_cons hlt] at h1
          exact (List.cons.inj h1).1
        obtain ⟨p', _, h0, -, -, hrw⟩ := owns_row (enc := encE) (k := 7) (xs := ys) (v := .slice (some ⟨g, 0, none⟩) xs.length cap) (fun _ => rfl) (by rw [hyl]; exact hown)
        simp only [Value.slice.injEq] at h0
        rw [← h0.1] at hrw
        clear h0
        obtain ⟨_, _, h0, hgs, hc⟩ := hrw.ed hjy
        cases h0
        have hcj := hc j hjy
        rw [hyj] at hcj
        have hge := hg xs[j] (List.getElem_mem hlt)
        have hxt := List.take_succ_eq_append_getElem hlt
        obtain ⟨e, he⟩ : ∃ e, e = xs[j] := ⟨_, rfl⟩
        rw [← he] at hcj hge hxt
        obtain ⟨c0, c1, c2, c3, c4, c5, c6⟩ := hcj
        simp only [Nat.zero_add] at c0 c1 c2 c3 c4 c5 c6
        have Hown3 := Lib.hid hown
        have Hxt := Lib.hid hxt
        have Htr := Lib.hid htr
        have He := Lib.hid he
        clear hyj hrw hc hown hyl hxt htr he
        have hyBl := World.block_lt_of_cell? _ _ hyB
        go_wp2_with fail
        refine Calls.mono (without1_any e y By _ (cell_later (Below.al1 _ _) hyB) hge) ?_
        rintro e2 w3 ⟨rfl, hb3⟩
        have hbx := Lib.hid (Below.thn (Below.al1 wr (.cells #[.int .i64 e.pl, .int .i64 e.li, .int .i64 e.tu, .int .i64 e.rc.x, .int .i64 e.rc.y, .int .i64 e.rc.a, .int .i64 e.rc.b] 116)) hb3)
        have Hown4 := Lib.hid ((Turns.of_below' (T := fun _ => False) hbx.out).owns Hown3.out (fun _ _ h => h))
        cases hq : endsAt y e
        · have Hq := Lib.hid hq
          clear hq
          have hN : LiesE w3 wr.heap.size 0 e := LiesE.later ⟨cell_at rfl rfl, cell_at rfl rfl, cell_at rfl rfl, cell_at rfl rfl, cell_at rfl rfl, cell_at rfl rfl, cell_at rfl rfl⟩ hb3
          obtain ⟨n0, n1, n2, n3, n4, n5, n6⟩ := hN
          simp only [Nat.zero_add] at n1 n2 n3 n4 n5 n6
          have hT : ∀ c, c < 7 → ∃ u, w3.cell? ⟨g, i * 7 + c, none⟩ = some u ∧ w3.frozen? ⟨g, i * 7 + c, none⟩ = false := fun c hc => by
            have := (owns_holds (xs := ys) (cap := cap) (by rw [Hyl.out]; exact Hown4.out)).cell (i := i) (c := c) (by simp [Hyl.out]; omega) hc
            rw [Nat.zero_add] at this
            exact ⟨_, this.1, this.2⟩
          obtain ⟨t0, x0, y0⟩ := hT 0 (by omega)
          obtain ⟨t1, x1, y1⟩ := hT 1 (by omega)
          obtain ⟨t2, x2, y2⟩ := hT 2 (by omega)
          obtain ⟨t3, x3, y3⟩ := hT 3 (by omega)
          obtain ⟨t4, x4, y4⟩ := hT 4 (by omega)
          obtain ⟨t5, x5, y5⟩ := hT 5 (by omega)
          obtain ⟨t6, x6, y6⟩ := hT 6 (by omega)
          rw [Nat.add_zero] at x0 y0
          clear hT hb3
          have hil : i < xs.length := by omega
          go_wp2
          go_roundw
          case rel =>
            obtain ⟨h1, h2⟩ := owns_store Hyl.out Hown4.out i hil e
            refine ⟨i + 1, j + 1, ys.set i e, by go_num, by go_num, by omega, by omega, by simpa using Hyl.out, h1, Lib.hid ?_, Lib.hid ?_, (Htr.out.trans (Turns.of_below' hbx.out)).trans (Turns.of_grown h2 (fun q hq => by cases hq; rfl))⟩
            · rw [set_take _ _ _ (by rw [Hyl.out]; exact hil), Htk.out, Hxt.out, List.filter_append]
              simp [Hq.out]
            · have h3 := Hdr.out
              rw [List.drop_set_of_lt (by omega)]
              have h4 : ∀ l : List Ed, l.drop (j + 1) = (l.drop j).drop 1 := fun l => by rw [List.drop_drop]
              rw [h4 ys, h4 xs, h3]
          case measure => simp [intOf]; omega
        · have Hq := Lib.hid hq
          clear hq
          go_wp2
          go_roundw
          case rel =>
            refine ⟨i, j + 1, ys, rfl, by go_num, by omega, by omega, Hyl.out, Hown4.out, Lib.hid ?_, Lib.hid ?_, Htr.out.trans (Turns.of_below' hbx.out)⟩
            · rw [Htk.out, Hxt.out, List.filter_append]
              simp [Hq.out]
            · have h3 := Hdr.out
              have h4 : ∀ l : List Ed, l.drop (j + 1) = (l.drop j).drop 1 := fun l => by rw [List.drop_drop]
              rw [h4 ys, h4 xs, h3]
          case measure => simp [intOf]; omega
      · obtain rfl : j = xs.length := by omega
        have hil : i < xs.length := hij
        obtain ⟨W', hcl, hown', hgr⟩ := run_clear_own (P := Tryz.prog) (size := 7) (t := 103) (ty := 0) (c := cap - i) Tryz.underlying103 edz rfl (by intro u hu; simp [Value.cells] at hu; subst hu; rfl) hown hil
        have hcapl : xs.length ≤ cap := by
          rcases hown.2 with ⟨h, _⟩ | ⟨_, _, _, h, _, _, h2, _⟩
          · cases h
          · cases h; exact h2
        have hcapm : cap ≤ 9223372036854775807 := by
          rcases hown.2 with ⟨h, _⟩ | ⟨_, _, _, h, _, _, _, h2, _⟩
          · cases h
          · cases h; simp only [maxLen] at h2; omega
        have hfin : W'.ownsRow base 116 7 (.slice (some ⟨g, 0, none⟩) i cap) (xs.filter (fun e => !endsAt y e)).length (flatE (xs.filter (fun e => !endsAt y e))) := by
          have h1 := Htk.out
          rw [List.take_length] at h1
          have h2 : (flatE ys).take (i * 7) = flatE (ys.take i) := flatE_take ys i
          rw [h2, h1] at hown'
          have h3 : (xs.filter (fun e => !endsAt y e)).length = i := by rw [← h1, List.length_take]; omega
          rw [h3]
          exact hown'
        have Hfin := Lib.hid hfin
        have Htr := Lib.hid (htr.trans (Turns.of_grown (T := fun b => b = g) hgr (fun q hq => by cases hq; rfl)))
        clear hown hown' hgr htr hfin hyl
        go_wp2
        go_ret
        exact ⟨_, rfl, Hfin.out, rfl, Htr.out.mono (fun q _ hq => by rw [hq]; rfl)⟩
  · have hf : xs.filter (fun e => !endsAt y e) = xs := List.filter_eq_self.2 (fun x hx => by simp [hno x hx])
    have Hf := Lib.hid hf
    clear hf hno
    go_wp2
    go_ret
    exact ⟨_, rfl, by rw [Hf.out]; exact Hown2.out, rfl, Turns.of_below' Hb2.out⟩

set_option maxHeartbeats 400000 in
theorem without_any (base : Nat) (v : Value) (xs : List Ed) (y : Int) (w : World) (hown : w.ownsRow base 116 7 v xs.length (flatE xs)) (hg : ∀ e ∈ xs, emptyR e.rc = false) :
    Calls Tryz.prog 84 #[v, .int .i64 y] w fun e w' =>
      ∃ u, e = .returned u ∧ w'.ownsRow base 116 7 u (xs.filter (fun e => !endsAt y e)).length (flatE (xs.filter (fun e => !endsAt y e))) ∧ u.ownBlock = v.ownBlock ∧ Turns (fun b => v.ownBlock = some b) w w' := by
  have hmf : ∀ (fn : Fn) (first cap : Array Value) (w : World), (Instr.makeFunc fn first cap).run Tryz.prog w = .ok (.func fn first cap) w := fun _ _ _ _ => rfl
  have hd := delete_any base v xs y w.heap.size (w.alloc (.cells #[.int .i64 y] 3)) (hown.alloc _) (Boxed.new w 3 (.int .i64 y)) hg
  obtain ⟨p, cap, rfl, -, -, -⟩ := owns_row (enc := encE) (k := 7) (fun _ => rfl) hown
  have Hd := Lib.hid hd
  clear hown hd
  go_enter Tryz.func84, Tryz.ntmps84
  go_wp2_with fail
  refine Calls.mono Hd.out ?_
  rintro e w2 ⟨u, rfl, hown2, hu, ht⟩
  have Hown2 := Lib.hid hown2
  have Hu := Lib.hid hu
  have Ht := Lib.hid ht
  clear hown2 hu ht
  go_wp2
  go_ret
  exact ⟨u, rfl, Hown2.out, Hu.out, (Turns.of_below' (Below.al1 w _)).trans Ht.out⟩

end Go.Proofs.YtajoipmchgabfaaGreat
