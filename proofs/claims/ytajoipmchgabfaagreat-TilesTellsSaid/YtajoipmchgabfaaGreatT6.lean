/- Several texts in one, each with its own head. -/
import Derived.Test.YtajoipmchgabfaaGreatT3
import Derived.OwnWalkIn
import Derived.Maps.AppendAt
import Derived.Test.YtajoipmchgabfaaGreatT5
import Derived.Test.YtajoipmchgabfaaGreatT1
/- append: where the new slice lies, and a source that may be nil. Nothing here speaks of one program. -/
namespace Go.Proofs.YtajoipmchgabfaaGreat
open Go.RowKit

section
variable {P : Program} (w : World)

/-- append: the answer owns the longer row; it lies where the old one lay, or in a new block. -/
theorem run_append_mine (base : Nat) (t ty e : TypeId) (i : TypeInfo) (z : Value) (size bytes : Nat) (ht : P.underlying t = some (.slice e)) (hi : P.info? e = some i) (hz : i.zero = some z)
    (hsize : i.size = size) (hby : i.bytes = bytes) (hzs : z.cells.size = size) (hsz : 0 < size)
    (v : Value) (n : Nat) (xs : List Value) (hown : w.ownsRow base e size v n xs)
    (p : Option Addr) (m c : Nat) (news : List Value) (hl : news.length = m * size) (hnews : (p = none ∧ m = 0 ∧ c = 0) ∨ ∃ a, p = some a ∧ ∀ j u, news[j]? = some u → w.cell? (a.add j) = some u) (h1 : ∀ u ∈ news, u.oneCell' = true)
    (h63 : n + m ≤ maxLen) (hbytes : (n + m) * bytes ≤ 140737488355328) (hbase : base ≤ w.heap.size) :
    ∃ v' w', (Builtin.append_ #[t, t] ty #[v, .slice p m c]).run P w = .ok v' w' ∧ w'.ownsRow base e size v' (n + m) (xs ++ news) ∧ w.grownBy w' v.ownBlock ∧ (∀ k, v'.ownBlock = some k → v.ownBlock = some k ∨ w.heap.size ≤ k) := by
  rcases hnews with ⟨rfl, rfl, rfl⟩ | ⟨a, rfl, hnews⟩
  · have hn : news = [] := List.eq_nil_of_length_eq_zero (by simpa using hl)
    subst hn
    refine ⟨v, w, ?_, by simpa using hown, ⟨rfl, rfl, rfl, Nat.le_refl _, fun _ _ _ => rfl⟩, fun k hk => .inl hk⟩
    rcases hown.2 with ⟨rfl, rfl⟩ | ⟨g, cap, cur, rfl, hbg, hg, hnc, hcm, hcs, htake⟩
    · simp [Builtin.append_, run_underlying ht, sizeOf, typeInfo, hi, Builtin.lenOf, Builtin.firstCells]
    · simp [Builtin.append_, run_underlying ht, sizeOf, typeInfo, hi, Builtin.lenOf, Builtin.firstCells, hnc, storeCells]
  · obtain ⟨v', w', hr, h2, h3, h4⟩ := run_append_own (P := P) w base t ty e i z size bytes ht hi hz hsize hby hzs hsz v n xs hown a m c news hl hnews h1 h63 hbytes hbase
    refine ⟨v', w', hr, h2, h3, ?_⟩
    rcases hown.2 with ⟨rfl, rfl⟩ | ⟨g, cap, cur, rfl, hbg, hg, hnc, hcm, hcs, htake⟩
    · obtain ⟨v2, w2, hr2, k2, _, _⟩ := run_append_own (P := P) w w.heap.size t ty e i z size bytes ht hi hz hsize hby hzs hsz _ 0 [] (World.ownsRow_nil w _ e size) a m c news hl hnews h1 h63 hbytes (Nat.le_refl _)
      rw [hr] at hr2
      cases hr2
      exact fun k hk => .inr (k2.lt k hk).1
    · subst hsize
      subst hby
      by_cases hroom : n + m ≤ cap
      · have hfit : n * i.size + news.length ≤ cur.size := by rw [hl, hcs, ← Nat.add_mul]; exact Nat.mul_le_mul_right _ hroom
        have hr2 := run_append_room (P := P) w t ty e i ht hi g n cap cur hg a m c news hl hnews h1 hroom hfit
        rw [hr] at hr2
        cases hr2
        exact fun k hk => .inl hk
      · have holds : ∀ j u, xs[j]? = some u → w.cell? ((⟨g, 0, none⟩ : Addr).add j) = some u := hown.cells (g := g) rfl
        have hr2 := run_append_grow (P := P) w t ty e i z ht hi hz ⟨g, 0, none⟩ n cap xs hown.1 holds a m c news hl hnews (by omega) (by simp only [maxLen] at h63; omega) (growslice_fits (by omega) hbytes)
        rw [hr] at hr2
        cases hr2
        exact fun k hk => .inr (by cases hk; exact Nat.le_refl _)
end

theorem wpList_append_mine {P : Program} (w : World) {ops : Array Oper} {rest : List Oper} {o : Oper} {a : Act} {Q : Exit → Act → World → Prop} (hgd : o.guard = none) (s x : Operand) (t : TypeId)
    (ho : o.op = .call { callee := .builtin .append, args := #[s, x], argTypes := #[t, t] })
    (base : Nat) (e : TypeId) (i : TypeInfo) (z : Value) (size bytes : Nat) (ht : P.underlying t = some (.slice e)) (hi : P.info? e = some i) (hz : i.zero = some z)
    (hsize : i.size = size) (hby : i.bytes = bytes) (hzs : z.cells.size = size) (hsz : 0 < size)
    (v : Value) (n : Nat) (xs : List Value) (hs : a.eval s = v) (hown : w.ownsRow base e size v n xs)
    (p : Option Addr) (m c : Nat) (news : List Value) (hx : a.eval x = .slice p m c) (hl : news.length = m * size) (hnews : (p = none ∧ m = 0 ∧ c = 0) ∨ ∃ ad, p = some ad ∧ ∀ j u, news[j]? = some u → w.cell? (ad.add j) = some u) (h1 : ∀ u ∈ news, u.oneCell' = true)
    (h63 : n + m ≤ maxLen) (hbytes : (n + m) * bytes ≤ 140737488355328) (hbase : base ≤ w.heap.size)
    (h : ∀ v' w', w'.ownsRow base e size v' (n + m) (xs ++ news) → w.grownBy w' v.ownBlock → (∀ k, v'.ownBlock = some k → v.ownBlock = some k ∨ w.heap.size ≤ k) → wpList P ops Q rest (a.put o.dst v') w') : wpList P ops Q (o :: rest) a w :=
  wpList_plain hgd fun _ hK => by
    obtain ⟨v', w', hr, h2, h3, h4⟩ := run_append_mine (P := P) w base t o.type e i z size bytes ht hi hz hsize hby hzs hsz v n xs hown p m c news hl hnews h1 h63 hbytes hbase
    unfold Oper.wp execOp
    simp only [ho, resolve, invoke, builtin, Sem.run_bind, Sem.run_pure, Result.andThen_ok, List.map_toArray, List.map_cons, List.map_nil, hs, hx, hr]
    exact hK _ _ (h v' w' h2 h3 h4)

theorem wpListIn_append_mine {F : Fence} {n : Nat} {P : Program} (w : World) {ops : Array Oper} {rest : List Oper} {o : Oper} {a : Act} {Q : Exit → Act → World → Prop}
    (hg : o.guard = none) (s x : Operand) (t : TypeId) (hop : o.op = Op.call { callee := Callee.builtin Builtin.append, args := #[s, x], argTypes := #[t, t] })
    (base : Nat) (e : TypeId) (i : TypeInfo) (z : Value) (size bytes : Nat) (h1 : P.underlying t = some (.slice e)) (h2 : P.info? e = some i) (h3 : i.zero = some z) (h4 : i.size = size) (h5 : i.bytes = bytes) (h6 : z.cells.size = size) (h7 : 0 < size)
    (v : Value) (k : Nat) (xs : List Value) (hs : a.eval s = v) (hown : w.ownsRow base e size v k xs) (p : Option Addr) (m c : Nat) (news : List Value) (hx : a.eval x = .slice p m c) (hn : news.length = m * size)
    (hc : (p = none ∧ m = 0 ∧ c = 0) ∨ ∃ ad, p = some ad ∧ ∀ j u, news[j]? = some u → w.cell? (ad.add j) = some u) (h1c : ∀ u ∈ news, u.oneCell' = true) (b1 : k + m ≤ maxLen) (b2 : (k + m) * bytes ≤ 140737488355328) (b3 : base ≤ w.heap.size)
    (hK : ∀ v' w', w'.ownsRow base e size v' (k + m) (xs ++ news) → w.grownBy w' v.ownBlock → (∀ k, v'.ownBlock = some k → v.ownBlock = some k ∨ w.heap.size ≤ k) → wpListIn F n P ops Q rest (a.put o.dst v') w') :
    wpListIn F n P ops Q (o :: rest) a w := by
  refine wpListIn_plain hg fun K hK' => ?_
  obtain ⟨v', w', hrun, r1, r2, r3⟩ := run_append_mine (P := P) w base t o.type e i z size bytes h1 h2 h3 h4 h5 h6 h7 v k xs hown p m c news hn hc h1c b1 b2 b3
  unfold Oper.wpIn
  refine ⟨?_, ?_⟩
  · simp [Oper.about, hop, resolve, Target.leads, Sem.run_pure]
  · rw [Oper.semAt_plain F _ _ (by rw [hop]; intro c hc'; cases hc')]
    simp [execOp, hop, resolve, invoke, builtin, hs, hx, hrun, Result.andThen]
    exact hK' _ _ (hK v' w' r1 r2 r3)

theorem news_cells {w : World} {c : List Value} {t : TypeId} : ∀ j u, c[j]? = some u → (w.alloc (.cells c.toArray t)).cell? ((⟨w.heap.size, 0, none⟩ : Addr).add j) = some u := fun j u hj => by
  rw [Addr.add_lit, Nat.zero_add, World.cell?_alloc_at _ _ _ _ rfl]
  simpa using hj

/-- append of one element, which lies in a new block: where the answer lies. -/
theorem wpList_append_one {P : Program} (w : World) {ops : Array Oper} {rest : List Oper} {o : Oper} {a : Act} {Q : Exit → Act → World → Prop} (hgd : o.guard = none) (s x : Operand) (t : TypeId)
    (ho : o.op = .call { callee := .builtin .append, args := #[s, x], argTypes := #[t, t] })
    (base : Nat) (e : TypeId) (z : Value) (bytes : Nat) (hinfo : (P.info? e).map (fun i => (i.zero, i.size, i.bytes)) = some (some z, 1, bytes)) (ht : P.underlying t = some (.slice e)) (hzs : z.cells.size = 1)
    (v : Value) (n : Nat) (xs : List Value) (hs : a.eval s = v) (hown : w.ownsRow base e 1 v n xs) (u : Value) (te : TypeId) (hx : a.eval x = .slice (some ⟨w.heap.size, 0, none⟩) 1 1) (hu : u.oneCell' = true)
    (h63 : n + 1 ≤ maxLen) (hbytes : (n + 1) * bytes ≤ 140737488355328) (hbase : base ≤ w.heap.size)
    (h : ∀ g cap w', w'.ownsRow base e 1 (.slice (some ⟨g, 0, none⟩) (n + 1) cap) (n + 1) (xs ++ [u]) → Turns (fun b => v.ownBlock = some b) w w' → (v.ownBlock = some g ∨ w.heap.size ≤ g) → wpList P ops Q rest (a.put o.dst (.slice (some ⟨g, 0, none⟩) (n + 1) cap)) w') :
    wpList P ops Q (o :: rest) a (w.alloc (.cells #[u] te)) := by
  obtain ⟨i, hi, hz, hsz, hby⟩ := info_parts hinfo
  refine wpList_append_mine (P := P) (w.alloc (.cells #[u] te)) hgd s x t ho base e i z 1 bytes ht hi hz hsz hby hzs (by decide) v n xs hs (hown.alloc _) (some ⟨w.heap.size, 0, none⟩) 1 1 [u] hx rfl (.inr ⟨_, rfl, news_cells (c := [u])⟩)
    (fun q hq => by rcases List.mem_singleton.1 hq with rfl; exact hu) h63 hbytes (by rw [World.size_alloc]; omega) ?_
  intro v' w' h2 h3 h4
  rcases h2.2 with ⟨-, h0⟩ | ⟨g, cap, cur, rfl, -⟩
  · omega
  · refine h g cap w' h2 ?_ ?_
    · exact (Turns.of_below' (Below.al1 w _)).trans (Turns.of_grown h3 (fun _ h => h))
    · rcases h4 g rfl with h | h
      · exact .inl h
      · rw [World.size_alloc] at h
        exact .inr (by omega)

end Go.Proofs.YtajoipmchgabfaaGreat

/- region's downs and acrosses: the edges of rectangles, sorted. -/
namespace Go.Proofs.YtajoipmchgabfaaGreat
open Go.RowKit

/-- The upper and lower edges of a list's rectangles that have pixels. -/
def edgesOf (li : Int) (rs : List Rc) : List Ed := rs.flatMap fun r => if emptyR r = true then [] else [⟨r.y, li, 1, r⟩, ⟨r.y + r.b, li, -1, r⟩]

theorem edgesOf_take (li : Int) (rs : List Rc) (j : Nat) (h : j < rs.length) : edgesOf li (rs.take (j + 1)) = edgesOf li (rs.take j) ++ if emptyR rs[j] = true then [] else [⟨rs[j].y, li, 1, rs[j]⟩, ⟨rs[j].y + rs[j].b, li, -1, rs[j]⟩] := by
  rw [List.take_succ_eq_append_getElem h, edgesOf, List.flatMap_append]; simp [edgesOf]
theorem edgesOf_len (li : Int) (rs : List Rc) : (edgesOf li rs).length ≤ 2 * rs.length := by
  induction rs with
  | nil => simp [edgesOf]
  | cons r rs ih =>
    simp only [edgesOf, List.flatMap_cons, List.length_append, List.length_cons] at ih ⊢
    have : (if emptyR r = true then ([] : List Ed) else [⟨r.y, li, 1, r⟩, ⟨r.y + r.b, li, -1, r⟩]).length ≤ 2 := by split <;> simp
    omega
def downsL (a b : List Rc) : List Ed := edgesOf 0 a ++ edgesOf 1 b

theorem ed_info : (Tryz.prog.info? 116).map (fun i => (i.zero, i.size, i.bytes)) = some (some (.agg #[.int .i64 0, .int .i64 0, .int .i64 0, .int .i64 0, .int .i64 0, .int .i64 0, .int .i64 0]), 7, 56) := by kernel_rfl

theorem encE_one (l : List Ed) : ∀ u ∈ flatE l, u.oneCell' = true := by
  intro u hu
  obtain ⟨e, _, he⟩ := List.mem_flatMap.1 hu
  simp [encE] at he
  rcases he with rfl | rfl | rfl | rfl | rfl | rfl | rfl <;> rfl

theorem cells_new' (w : World) (c : Array Value) (t : TypeId) (j : Nat) (u : Value) (h : c.toList[j]? = some u) : (w.alloc (.cells c t)).cell? ((⟨w.heap.size, 0, none⟩ : Addr).add j) = some u := by
  have hadd : (⟨w.heap.size, 0, none⟩ : Addr).add j = ⟨w.heap.size, j, none⟩ := by unfold Addr.add; split <;> simp_all
  rw [hadd]
  exact cell_at rfl (by simpa using h)

def downsUpto (a b : List Rc) : Nat → List Ed
  | 0 => []
  | 1 => edgesOf 0 a
  | _ => downsL a b

set_option maxRecDepth 100000 in
set_option maxHeartbeats 2000000 in
theorem downs_any (va vb : Value) (a b : List Rc) (w : World) (ha : Row encR 4 w va a) (hb : Row encR 4 w vb b) (hfa : ∀ r ∈ a, Fit r) (hfb : ∀ r ∈ b, Fit r) (hlen : a.length + b.length ≤ 268435456) :
    Calls Tryz.prog 81 #[va, vb] w fun e w' => ∃ u d, e = .returned u ∧ d.Perm (downsL a b) ∧ SortedPl d ∧ w'.ownsRow w.heap.size 116 7 u d.length (flatE d) ∧ Below w.heap.size w w' := by
  obtain ⟨pa, ca, rfl, -, -, hpa⟩ := ha
  obtain ⟨pb, cb, rfl, -, -, hpb⟩ := hb
  obtain ⟨i0, hi, hz0, hz1, hz2⟩ := info_parts ed_info
  go_enter Tryz.func81, Tryz.ntmps81
  go_wp2
  go_loopw [5, 13] (fun v i wr => ∃ k : Nat, k ≤ 2 ∧ i = .int .i64 k ∧ wr.ownsRow w.heap.size 116 7 v (downsUpto a b k).length (flatE (downsUpto a b k)) ∧ Below w.heap.size w wr) (fun _ i _ => 2 - (intOf i).toNat)
  case atStart => exact ⟨0, by omega, rfl, World.ownsRow_nil _ _ _ _, Below.refl _ _⟩
  case round =>
    obtain ⟨k, hk, rfl, hown, hbw⟩ := hrel
    by_cases hlt : k < 2
    · obtain ⟨p, rs, cap, hix, hrow, hfit, hL, hlrs, hln⟩ : ∃ (p : Option Addr) (rs : List Rc) (cap : Nat), (∀ w, (Instr.index 118 (.agg #[.slice pa a.length ca, .slice pb b.length cb]) (.int .i64 k)).run Tryz.prog w = .ok (.slice p rs.length cap) w) ∧ RowAt encR 4 w p rs ∧ (∀ r ∈ rs, Fit r) ∧ downsUpto a b (k + 1) = downsUpto a b k ++ edgesOf k rs ∧ (downsUpto a b k).length + 2 * rs.length ≤ 536870912 ∧ rs.length ≤ 268435456 := by
        have h1 := edgesOf_len 0 a
        obtain rfl | rfl : k = 0 ∨ k = 1 := by omega
        · exact ⟨pa, a, ca, fun _ => by kernel_rfl, hpa, hfa, by simp [downsUpto], by simp [downsUpto]; omega, by omega⟩
        · exact ⟨pb, b, cb, fun _ => by kernel_rfl, hpb, hfb, by simp [downsUpto, downsL], by simp [downsUpto]; omega, by omega⟩
      have Hown := Lib.hid hown
      have HL := Lib.hid hL
      have Hlrs := Lib.hid hlrs
      have hrl63 : rs.length ≤ 9223372036854775807 := by omega
      have hk2 : decide ((k : Int) < 2) = true := by simp; omega
      clear hL hown hlrs hln
      go_wp2
      go_loopw [5, 19] (fun v i wr => ∃ j : Nat, j ≤ rs.length ∧ i = .int .i64 j ∧ wr.ownsRow w.heap.size 116 7 v (downsUpto a b k ++ edgesOf k (rs.take j)).length (flatE (downsUpto a b k ++ edgesOf k (rs.take j))) ∧ Below w.heap.size w wr) (fun _ i _ => rs.length - (intOf i).toNat)
      case atStart => exact ⟨0, by omega, rfl, by simpa [edgesOf] using Hown.out, hbw⟩
      case round =>
        obtain ⟨j, hj, rfl, hown, hbw2⟩ := hrel
        by_cases hjl : j < rs.length
        · have hrl := hrow.below hbw2
          obtain ⟨bb, off, rfl, hB, hc⟩ := hrl.rc hjl
          obtain ⟨c0, c1, c2, c3⟩ := hc j hjl
          have hft := hfit rs[j] (List.getElem_mem hjl)
          have Htk := Lib.hid (edgesOf_take k rs j hjl)
          have Hlj := Lib.hid (edgesOf_len k (rs.take j))
          clear hc hrl
          generalize rs[j] = r at *
          have Hown2 := Lib.hid hown
          clear hown
          go_wp2_with fail
          refine Calls.mono (empty_any _ _ hft) ?_
          rintro e w2 ⟨rfl, hb2⟩
          have hl2 : Lies w2 wr.heap.size r := (Lies.new rfl).later hb2
          obtain ⟨l0, l1, l2, l3⟩ := hl2
          have Hb2 := Lib.hid hb2
          have Hbw2 : Hid (Below w.heap.size w w2) := Lib.hid (Below.thn hbw2 (Below.thn (Below.al1 _ _) hb2))
          have Hown3 := Lib.hid ((Turns.of_below' (T := fun _ => False) (Below.thn (Below.al1 wr (.cells #[.int .i64 r.x, .int .i64 r.y, .int .i64 r.a, .int .i64 r.b] 37)) hb2)).owns Hown2.out (fun _ _ h => h))
          clear hb2
          cases her : emptyR r
          · have Her := Lib.hid her
            have hbd := emptyR_false.1 her
            clear her
            go_wp2_with (at_builtin; refine wpList_append_mine _ rfl (.tmp 26) (.tmp 40) 103 rfl w.heap.size 116 i0 _ 7 56 Tryz.underlying103 hi hz0 hz1 hz2 rfl (by decide) _ _ _ rfl (Hown3.out.alloc _) (some ⟨w2.heap.size, 0, none⟩) 2 2 (flatE [⟨r.y, k, 1, r⟩, ⟨r.y + r.b, k, -1, r⟩]) rfl rfl ?c1 ?c2 ?c3 ?c4 ?c5 ?_)
            case c1 => exact .inr ⟨_, rfl, fun j u hu => cells_new' w2 _ _ j u hu⟩
            case c2 => exact encE_one _
            case c3 => have h1 := Hlrs.out; have h2 := Hlj.out; rw [List.length_take] at h2; simp only [maxLen, List.length_append]; omega
            case c4 => have h1 := Hlrs.out; have h2 := Hlj.out; rw [List.length_take] at h2; simp only [List.length_append]; omega
            case c5 => have := Hbw2.out.size; simp; omega
            intro v' w3 hown' hgrow hpl
            have Hown' := Lib.hid hown'
            have Hbw3 : Hid (Below w.heap.size w w3) := Lib.hid ((Below.al Hbw2.out _).grown hgrow (by have := Hbw2.out.size; simp; omega) (fun k' e => (Hown3.out.lt k' e).1))
            have Hres : (w3.ownsRow w.heap.size 116 7 v' (downsUpto a b k ++ edgesOf k (rs.take (j + 1))).length (flatE (downsUpto a b k ++ edgesOf k (rs.take (j + 1))))) := by
              rw [Htk.out, Her.out]
              have h5 := hown'
              simp only [flatE, ← List.flatMap_append, List.append_assoc] at h5
              simpa [flatE, Nat.add_assoc] using h5
            have HRes := Lib.hid Hres
            clear hown' hgrow hpl Hown' Hres
            go_wp2
            go_roundw
            case rel => exact ⟨j + 1, by omega, by go_num, HRes.out, Hbw3.out⟩
            case measure => simp [intOf]; omega
          · have Her := Lib.hid her
            clear her
            have Hres := Lib.hid (show (edgesOf k (rs.take (j + 1))) = edgesOf k (rs.take j) by rw [Htk.out, Her.out]; simp)
            go_wp2
            go_roundw
            case rel => exact ⟨j + 1, by omega, by go_num, by rw [Hres.out]; exact Hown3.out, Hbw2.out⟩
            case measure => simp [intOf]; omega
        · have hje : j = rs.length := by omega
          subst hje
          rw [List.take_length, ← HL.out] at hown
          have Hown2 := Lib.hid hown
          clear hown
          go_wp2
          go_roundw
          case rel => first | exact ⟨k + 1, by omega, by go_num, Hown2.out, hbw2⟩ | ((repeat apply Exists.intro); exact ⟨⟨k + 1, by omega, by go_num, Hown2.out, hbw2⟩, rfl⟩)
          case measure => simp [intOf]; omega
    · obtain rfl : k = 2 := by omega
      have hlen2 : (downsUpto a b 2).length < 4611686018427387904 := by
        have h1 := edgesOf_len 0 a
        have h2 := edgesOf_len 1 b
        simp [downsUpto, downsL]
        omega
      have hs := sortEdges_any w.heap.size u5 (downsUpto a b 2) wr hlen2 hown
      have Hown := Lib.hid hown
      clear hown hlen2
      go_wp2_with fail
      refine Calls.mono hs ?_
      rintro e w2 ⟨rfl, ys, hp, hso, hown2, hg⟩
      have Hb2 := Lib.hid (hbw.grown hg hbw.size (fun k' e => (Hown.out.lt k' e).1))
      have Hp := Lib.hid hp
      have Hso := Lib.hid hso
      have Hown2 := Lib.hid hown2
      clear hp hso hown2 hg hs
      go_wp2
      go_ret
      exact ⟨_, ys, rfl, Hp.out, Hso.out, by rw [Hp.out.length_eq]; exact Hown2.out, Hb2.out⟩

end Go.Proofs.YtajoipmchgabfaaGreat
