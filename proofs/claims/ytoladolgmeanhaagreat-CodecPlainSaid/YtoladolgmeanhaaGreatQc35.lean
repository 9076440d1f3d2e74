/- Several texts in one, each with its own head. -/
import Derived.Test.YtoladolgmeanhaaGreatQc1
import Derived.Test.YtoladolgmeanhaaGreatQc33
import Derived.Maps.OwnSet
import Derived.Maps.OwnOps
import Derived.Test.YtoladolgmeanhaaGreatQc3
import Derived.OwnWalkIn
import Derived.TacticsInMore
import Derived.LoopNIn
import Derived.LoopIn
import Derived.Laws.Cover3
import Derived.Test.YtoladolgmeanhaaGreatQc10
import Derived.Test.YtoladolgmeanhaaGreatQc8
/- palette: the map of colours; low, width, count. -/
namespace Go.Proofs.YtoladolgmeanhaaGreat
open Go.RowKit Go.Maps

attribute [local go_sem] Oper.semAt_some

def relP (v : Value) : Option (DataW Value × List MemPlace) := some (.held v, [])
theorem pk_under : Tryz.prog.underlying 41 = some (.int .u32) := by kernel_rfl
theorem pm_under : Tryz.prog.underlying 109 = some (.map 41 41) := by kernel_rfl
theorem pk_wf {x : Nat} (h : x < 4294967296) : (Lit.int .u32 (x : Int)).wf = true := by
  have hm : IntKind.u32.min = 0 := by decide
  have hx : IntKind.u32.max = 4294967295 := by decide
  simp [Lit.wf, hm, hx]; omega
theorem pk_key {x : Nat} (h : x < 4294967296) : keyOf Tryz.prog 41 (.int .u32 (x : Int)) = some (.int .u32 (x : Int)) := keyOf_int_mk pk_under (pk_wf h)
theorem pk_keyed : Maps.Keyed Tryz.prog 41 := int_keyed pk_under
theorem pz_zero (w : World) : (zeroValue 41).run Tryz.prog w = .ok (.int .u32 0) w := by kernel_rfl
def MapP (w : World) (M : Nat) (cs : List Nat) : Prop :=
  ∃ D : DataW Value, w.ownsMap Tryz.prog 41 relP M cs.length D ∧ Maps.size D = cs.length ∧ ∀ c : Nat, c < 4294967296 → Maps.has D (.int .u32 (c : Int)) = decide (c ∈ cs) ∧ (c ∈ cs → ∀ z, D.atKey (.int .u32 (c : Int)) z = .held (pxv (plI c cs)))
theorem MapP.made (w : World) : MapP (w.alloc (.map #[] 0)) w.heap.size [] :=
  ⟨_, World.ownsMap_made w _ _ _, rfl, fun c _ => ⟨rfl, fun h => by cases h⟩⟩
theorem MapP.lt {w : World} {M : Nat} {cs : List Nat} (h : MapP w M cs) : M < w.heap.size := by
  obtain ⟨D, hD, _⟩ := h
  exact hD.lt
theorem MapP.turned {w w' : World} {M : Nat} {cs : List Nat} (h : MapP w M cs) {T : Nat → Prop} (ht : Turns T w w') (hT : ¬ T M) : MapP w' M cs := by
  have hlt := h.lt
  obtain ⟨D, ⟨es, clock, hb, r⟩, hF⟩ := h
  exact ⟨D, ⟨es, clock, (ht.block M hlt hT).trans hb, r⟩, hF⟩
theorem MapP.below {w w' : World} {M : Nat} {cs : List Nat} (h : MapP w M cs) (hb : Below w.heap.size w w') : MapP w' M cs := h.turned (T := fun _ => False) (Turns.of_below' hb) (fun h => h)
set_option maxRecDepth 20000 in
theorem MapP.put {w : World} {M : Nat} {cs : List Nat} (h : MapP w M cs) (hn : cs.length ≤ 1000) {c : Nat} (hc : c < 4294967296) (hnew : c ∉ cs) :
    ∃ w', (Instr.mapUpdate 109 (.map (some M)) (.int .u32 (c : Int)) (.int .u32 (cs.length : Int))).run Tryz.prog w = .ok () w' ∧ MapP w' M (cs ++ [c]) ∧ Turns (fun i => i = M) w w' := by
  obtain ⟨D, hD, hs, hF⟩ := h
  obtain ⟨w', hr, ho, ht⟩ := hD.store pk_keyed pm_under (by simp only [maxLen]; omega) (pk_key hc) (val := .int .u32 (cs.length : Int)) (d := .held (pxv cs.length)) (ps := []) rfl
  have hk : WideAt.IsKeyLit (.int .u32 (c : Int)) := pk_keyed.key (pk_key hc)
  refine ⟨w', hr, ⟨_, by rw [List.length_append]; exact ho, ?_, fun k hk' => ?_⟩, Turns.of_grown ht.grown (fun i e => by cases e; rfl)⟩
  · rw [Maps.size_put (hD.tidy pk_keyed), (hF c hc).1, if_neg (by simpa using hnew), hs, List.length_append]; rfl
  · by_cases e : k = c
    · subst e
      refine ⟨by rw [Maps.has_put_same hD.isMap hk]; simp, fun _ z => ?_⟩
      rw [Maps.atKey_put_same hD.isMap hk]
      have : plI k (cs ++ [k]) = cs.length := by
        refine plI_first (by simp) (fun j hj => ?_) (.inr ?_)
        · rw [List.getD_eq_getElem?_getD, List.getElem?_append_left hj, List.getElem?_eq_getElem hj]
          intro e; exact hnew (by rw [← e]; exact List.getElem_mem hj)
        · simp [List.getD_eq_getElem?_getD]
      rw [this]
    · have hne : (Lit.int .u32 (k : Int)) ≠ (Lit.int .u32 (c : Int)) := fun he => e (by injection he with _ he; omega)
      refine ⟨by rw [Maps.has_put_other hne, (hF k hk').1]; simp [e], fun hm z => ?_⟩
      have hm' : k ∈ cs := by simpa [e] using hm
      rw [Maps.atKey_put_other hne, (hF k hk').2 hm', plI_app hm']
theorem MapP.look {w : World} {M : Nat} {cs : List Nat} (h : MapP w M cs) {c : Nat} (hc : c < 4294967296) (hm : c ∈ cs) :
    (Instr.lookup 109 (.map (some M)) (.int .u32 (c : Int)) false).run Tryz.prog w = .ok (.int .u32 (plI c cs : Int)) w := by
  obtain ⟨D, hD, hs, hF⟩ := h
  obtain ⟨v, ps, hr, hv⟩ := hD.lookup pk_keyed pm_under (pz_zero w) (zd := .held (.int .u32 0)) (zp := []) rfl (pk_key hc)
  rw [hr]
  have hv2 : DataW.held v = D.atKey (.int .u32 (c : Int)) (.held (.int .u32 0)) := (by simpa [relP] using hv : DataW.held v = D.atKey (.int .u32 (c : Int)) (.held (.int .u32 0)) ∧ ps = []).1
  rw [(hF c hc).2 hm] at hv2
  cases hv2; rfl
theorem MapP.look_yes {w : World} {M : Nat} {cs : List Nat} (h : MapP w M cs) {c : Nat} (hc : c < 4294967296) (hm : c ∈ cs) :
    (Instr.lookup 109 (.map (some M)) (.int .u32 (c : Int)) true).run Tryz.prog w = .ok (.tuple #[.int .u32 (plI c cs : Int), .bool true]) w := by
  obtain ⟨D, hD, hs, hF⟩ := h
  obtain ⟨v, ps, hr, hv⟩ := hD.look_ok pk_keyed pm_under (pz_zero w) (zd := .held (.int .u32 0)) (zp := []) rfl (pk_key hc)
  rw [hr, (hF c hc).1]
  have hv2 : DataW.held v = D.atKey (.int .u32 (c : Int)) (.held (.int .u32 0)) := (by simpa [relP] using hv : DataW.held v = D.atKey (.int .u32 (c : Int)) (.held (.int .u32 0)) ∧ ps = []).1
  rw [(hF c hc).2 hm] at hv2
  cases hv2; simp [hm, pxv]
theorem MapP.look_no {w : World} {M : Nat} {cs : List Nat} (h : MapP w M cs) {c : Nat} (hc : c < 4294967296) (hm : c ∉ cs) :
    (Instr.lookup 109 (.map (some M)) (.int .u32 (c : Int)) true).run Tryz.prog w = .ok (.tuple #[.int .u32 0, .bool false]) w := by
  obtain ⟨D, hD, hs, hF⟩ := h
  obtain ⟨v, ps, hr, hv⟩ := hD.look_ok pk_keyed pm_under (pz_zero w) (zd := .held (.int .u32 0)) (zp := []) rfl (pk_key hc)
  rw [hr, (hF c hc).1]
  have hv2 : DataW.held v = D.atKey (.int .u32 (c : Int)) (.held (.int .u32 0)) := (by simpa [relP] using hv : DataW.held v = D.atKey (.int .u32 (c : Int)) (.held (.int .u32 0)) ∧ ps = []).1
  rw [Maps.atKey_of_not_has (by rw [(hF c hc).1]; simpa using hm)] at hv2
  cases hv2; simp [hm]
theorem plow_any (x : Nat) (w : World) (h : x < 4294967296) : StillR 98 #[.int .u32 (x : Int)] w (.int .u32 ((rlw x : Nat) : Int)) := by
  unfold StillR
  have e := mask_lw x h
  go_enter Tryz.func98, Tryz.ntmps98
  go_wp2
  go_ret
  exact ⟨by first | rfl | rw [e] | simp [e], rfl⟩
theorem pwidth_any (k : Nat) (w : World) : StillR 99 #[.int .i64 (k : Int)] w (.int .i64 ((plZ k : Nat) : Int)) := by
  unfold StillR
  go_enter Tryz.func99, Tryz.ntmps99
  by_cases h1 : k ≤ 1
  · have d1 : decide ((k : Int) ≤ 1) = true := by simp; omega
    have e : plZ k = 0 := if_pos h1
    rw [e]
    go_wp2
    go_ret
    exact ⟨rfl, rfl⟩
  have d1 : decide ((k : Int) ≤ 1) = false := by simp; omega
  by_cases h2 : k ≤ 2
  · have d2 : decide ((k : Int) ≤ 2) = true := by simp; omega
    have e : plZ k = 1 := by unfold plZ; rw [if_neg h1, if_pos h2]
    rw [e]
    go_wp2
    go_ret
    exact ⟨rfl, rfl⟩
  have d2 : decide ((k : Int) ≤ 2) = false := by simp; omega
  by_cases h3 : k ≤ 4
  · have d3 : decide ((k : Int) ≤ 4) = true := by simp; omega
    have e : plZ k = 2 := by unfold plZ; rw [if_neg h1, if_neg h2, if_pos h3]
    rw [e]
    go_wp2
    go_ret
    exact ⟨rfl, rfl⟩
  have d3 : decide ((k : Int) ≤ 4) = false := by simp; omega
  have e : plZ k = 4 := by unfold plZ; rw [if_neg h1, if_neg h2, if_neg h3]
  rw [e]
  go_wp2
  go_ret
  exact ⟨rfl, rfl⟩
set_option maxRecDepth 20000 in
set_option maxHeartbeats 4000000 in
theorem pcount_any (p : Option Addr) (c : Nat) (l : List Nat) (w : World) (hp : RowAt encP 1 w p l) (h32 : ∀ x ∈ l, x < 4294967296) (hl : l.length ≤ 1048576) :
    Calls Tryz.prog 68 #[.slice p l.length c] w fun e w' => ∃ (cs : List Nat) (v' : Value) (M : Nat), e = .returned (.tuple #[v', .map (some M)]) ∧ w'.ownsRow w.heap.size 41 1 v' cs.length (cs.map pxv) ∧ MapP w' M cs ∧ w.heap.size ≤ M ∧ Below w.heap.size w w' ∧ (cs = plCol l ∧ cs.length ≤ 16 ∨ 16 < cs.length ∧ cs.length ≤ 17 ∧ 16 < (plCol l).length) := by
  have Hp := Lib.hid hp
  have H32 : Hid (∀ i, l.getD i 0 < 4294967296) := Lib.hid (fun i => by
    rw [List.getD_eq_getElem?_getD]
    cases h : l[i]? with
    | none => decide
    | some x => exact h32 x (List.mem_of_getElem? h))
  obtain ⟨n, hn⟩ : ∃ n, l.length = n := ⟨_, rfl⟩
  have Hn := Lib.hid hn
  rw [hn] at hl ⊢
  clear hp hn h32
  go_enter Tryz.func68, Tryz.ntmps68
  have hmk := run_makeMap (P := Tryz.prog) 109 w
  go_wp2_with fail
  clear hmk
  have Hm0 := Lib.hid (MapP.made w)
  have Hb0 := Lib.hid (Below.al1 w (.map #[] 0))
  generalize w.alloc (.map #[] 0) = W1 at *
  go_loopw [4, 14] (fun ov iv wr => ∃ (i k : Nat) (cs : List Nat), iv = .int .i64 (i : Int) ∧ i ≤ n ∧ k ≤ 16 ∧ Hid (cs.length = k) ∧ Hid (cs = plC [] (l.take i)) ∧ Hid (wr.ownsRow (w.heap.size + 1) 41 1 ov k (cs.map pxv)) ∧ Hid (MapP wr w.heap.size cs) ∧ Hid (Below w.heap.size w wr)) (fun _ iv _ => n - (intOf iv).toNat)
  case atStart => exact ⟨0, 0, [], rfl, Nat.zero_le _, Nat.zero_le _, Lib.hid rfl, Lib.hid rfl, Lib.hid (World.ownsRow_nil _ _ _ _), Hm0, Hb0⟩
  case round =>
    obtain ⟨i, k, cs, rfl, hi, hk, HK, HC, HO, HM, HB⟩ := hrel
    obtain ⟨vp, vc, rfl⟩ := owns_slice HO.out
    by_cases hin : i < n
    · have d1 : decide ((i : Int) < (n : Int)) = true := by simp; omega
      obtain ⟨g, off, rfl, hc⟩ := Hp.out.pxs (by rw [Hn.out]; omega)
      have x0 := cell_later HB.out (hc i (by rw [Hn.out]; omega))
      have HS : Hid (plC [] (l.take (i + 1)) = plS cs (rlw (l.getD i 0))) := Lib.hid (by rw [plC_take (by rw [Hn.out]; exact hin), ← HC.out])
      have hxb := H32.out i
      obtain ⟨x, hx⟩ : ∃ x, l.getD i 0 = x := ⟨_, rfl⟩
      rw [hx] at x0 HS hxb
      have hyb : rlw x < 4294967296 := Nat.lt_trans (rlw_lt x) (by decide)
      have i0 : (0 : Int) ≤ (i : Int) := by omega
      have i1 : (i : Int) < (n : Int) := by omega
      have hs1 : w.heap.size + 1 ≤ wr.heap.size := HM.out.lt
      have HL := Lib.hid (plow_any x wr hxb)
      obtain ⟨y, hy⟩ : ∃ y, rlw x = y := ⟨_, rfl⟩
      rw [hy] at HS HL hyb
      clear hc hx hy
      go_wp2_with fail
      refine Calls.mono HL.out ?_
      rintro _ u1 ⟨rfl, rfl⟩
      by_cases hmem : y ∈ cs
      · have hlook := HM.out.look_yes hyb hmem
        have HC2 : Hid (cs = plC [] (l.take (i + 1))) := Lib.hid (by rw [HS.out, plS_old hmem])
        clear hmem HS HC x0
        go_wp2
        go_roundw
        case rel => exact ⟨i + 1, k, cs, by go_num, by omega, hk, HK, HC2, HO, HM, HB⟩
        case measure => simp [intOf]; omega
      · have hlook := HM.out.look_no hyb hmem
        obtain ⟨u2, hr2, hm2, ht2⟩ := HM.out.put (by rw [HK.out]; omega) hyb hmem
        rw [HK.out] at hr2
        have HC2 : Hid (cs ++ [y] = plC [] (l.take (i + 1))) := Lib.hid (by rw [HS.out, plS_new hmem])
        have hs2 : w.heap.size + 1 ≤ u2.heap.size := Nat.le_trans hs1 ht2.size
        have Hm2 := Lib.hid hm2
        have HO2 : Hid (u2.ownsRow (w.heap.size + 1) 41 1 (.slice vp k vc) k (cs.map pxv)) := Lib.hid (ht2.owns HO.out (fun b hb (e : b = w.heap.size) => by have := (HO.out.lt b hb).1; omega))
        have HB2 : Hid (Below w.heap.size w u2) := Lib.hid (HB.out.trans (ht2.below (by omega) (fun b (hb : b = w.heap.size) => by omega)))
        have wk : IntKind.u32.wrap (k : Int) = (k : Int) := by rw [IntKind.wrap_u32]; omega
        clear hmem hm2 ht2 HS HC
        go_wp2_with (at_builtin; refine wpList_append_one u2 rfl (.tmp 32) (.tmp 34) 22 rfl (w.heap.size + 1) 41 _ 4 pxv_info Tryz.underlying22 rfl (.slice vp k vc) k (cs.map pxv) rfl HO2.out (.int .u32 (y : Int)) _ rfl rfl ?m3 ?m4 hs2 ?_)
        case m3 => simp only [maxLen]; omega
        case m4 => omega
        intro g1 cap1 w5 ho1 ht1 hg1
        have Ho1 : Hid (w5.ownsRow (w.heap.size + 1) 41 1 (.slice (some ⟨g1, 0, none⟩) (k + 1) cap1) (k + 1) ((cs ++ [y]).map pxv)) := Lib.hid (by
          rw [List.map_append]
          simpa [pxv] using ho1)
        have Hm5 : Hid (MapP w5 w.heap.size (cs ++ [y])) := Lib.hid (Hm2.out.turned ht1 (fun e => by have := (HO2.out.lt _ e).1; omega))
        have HB5 := Lib.hid (HB2.out.trans (ht1.below HB2.out.size (fun b hb => Nat.le_trans (Nat.le_succ _) (HO2.out.lt b hb).1)))
        have HK5 : Hid ((cs ++ [y]).length = k + 1) := Lib.hid (by rw [List.length_append, HK.out]; rfl)
        clear ho1 ht1 hg1 hr2 hlook x0
        by_cases hbig : k = 16
        · subst hbig
          go_wp2
          go_ret2
          refine ⟨_, _, w.heap.size, rfl, ?_, Hm5.out, Nat.le_refl _, HB5.out, .inr ⟨by rw [HK5.out]; omega, by rw [HK5.out]; omega, ?_⟩⟩
          · rw [HK5.out]; exact owns_base Ho1.out (by omega)
          · have := plC_long (l := l) (i := i + 1) []
            rw [← HC2.out, HK5.out] at this
            exact Nat.lt_of_lt_of_le (by omega) this
        · have d2 : decide ((k : Int) + 1 > 16) = false := by simp; omega
          go_wp2
          go_roundw
          case rel => exact ⟨i + 1, k + 1, cs ++ [y], by go_num, by omega, by omega, HK5, HC2, Ho1, Hm5, HB5⟩
          case measure => simp [intOf]; omega
    · obtain rfl : i = n := by omega
      have d1 : decide ((i : Int) < (i : Int)) = false := by simp
      go_wp2
      go_ret2
      have e : cs = plCol l := by rw [HC.out, List.take_of_length_le (by rw [Hn.out]; exact Nat.le_refl _)]; rfl
      refine ⟨cs, _, w.heap.size, rfl, ?_, HM.out, Nat.le_refl _, HB.out, .inl ⟨e, by rw [HK.out]; exact hk⟩⟩
      rw [HK.out]; exact owns_base HO.out (by omega)
end Go.Proofs.YtoladolgmeanhaaGreat

/- palette: tellColors; slices.Chunk as an iterator hands it over. -/
namespace Go.Proofs.YtoladolgmeanhaaGreat
open Go.RowKit

attribute [local go_sem] Oper.semAt_some

theorem flat_snoc (cs : List Nat) {i : Nat} (h : i < cs.length) : (cs.take (i + 1)).flatMap plB = (cs.take i).flatMap plB ++ plB (cs.getD i 0) := by
  rw [List.take_succ_eq_append_getElem h, List.flatMap_append, List.getD_eq_getElem?_getD, List.getElem?_eq_getElem h]
  simp
set_option maxRecDepth 20000 in
set_option maxHeartbeats 4000000 in
theorem ptellColors_any (p : Option Addr) (c : Nat) (cs : List Nat) (w : World) (hp : RowAt encP 1 w p cs) (h24 : ∀ x ∈ cs, x < 16777216) (h1 : 1 ≤ cs.length) (h16 : cs.length ≤ 16) :
    Calls Tryz.prog 69 #[.slice p cs.length c] w fun e w' => ∃ v', e = .returned v' ∧ w'.ownsRow w.heap.size 5 1 v' (plH cs).length ((plH cs).map u8v) ∧ Below w.heap.size w w' := by
  have Hp := Lib.hid hp
  obtain ⟨i0, hi0, hz0, hz1, hz2⟩ := info_parts u8_info
  have H24 : Hid (∀ i, cs.getD i 0 < 16777216) := Lib.hid (fun i => by
    rw [List.getD_eq_getElem?_getD]
    cases h : cs[i]? with
    | none => decide
    | some x => exact h24 x (List.mem_of_getElem? h))
  have HS := Lib.hid (fun (i : Nat) (h : i < cs.length) => flat_snoc cs h)
  obtain ⟨n, hn⟩ : ∃ n, cs.length = n := ⟨_, rfl⟩
  have Hn := Lib.hid hn
  rw [hn] at h1 h16 ⊢
  obtain ⟨m, rfl⟩ : ∃ m, n = m + 1 := ⟨n - 1, by omega⟩
  have HH : Hid (plH cs = m :: cs.flatMap plB) := Lib.hid (by unfold plH; rw [hn]; rfl)
  obtain ⟨n, hnm⟩ : ∃ n, m + 1 = n := ⟨_, rfl⟩
  have e0 : (n : Int) - 1 = (m : Int) := by omega
  rw [hnm] at Hn h1 h16 ⊢
  have hm : m ≤ 15 := by omega
  have w0 : IntKind.u8.wrap (m : Int) = (m : Int) := by rw [IntKind.wrap_u8]; omega
  clear hp hn h24 hnm
  go_enter Tryz.func69, Tryz.ntmps69
  go_wp2_with fail
  have Ho0 : Hid ((w.alloc (.cells #[.int .u8 (m : Int)] 5)).ownsRow w.heap.size 5 1 (.slice (some ⟨w.heap.size, 0, none⟩) 1 1) 1 ([m].map u8v)) := Lib.hid (World.ownsRow_lit w #[.int .u8 (m : Int)] 1 (Nat.le_refl _) (by decide) rfl)
  have Hb0 := Lib.hid (Below.al1 w (.cells #[.int .u8 (m : Int)] 5))
  generalize w.alloc (.cells #[.int .u8 (m : Int)] 5) = W1 at *
  clear w0 e0
  go_loopw [3, 13] (fun ov iv wr => ∃ (i : Nat) (o : List Nat), iv = .int .i64 (i : Int) ∧ i ≤ n ∧ o.length ≤ 1 + 3 * i ∧ Hid (o = m :: (cs.take i).flatMap plB) ∧ Hid (wr.ownsRow w.heap.size 5 1 ov o.length (o.map u8v)) ∧ Hid (Below w.heap.size w wr)) (fun _ iv _ => n - (intOf iv).toNat)
  case atStart => exact ⟨0, [m], rfl, Nat.zero_le _, by simp, Lib.hid (by simp), Ho0, Hb0⟩
  case round =>
    obtain ⟨i, o, rfl, hi, hol, HE, HO, HB⟩ := hrel
    obtain ⟨vp, vc, rfl⟩ := owns_slice HO.out
    by_cases hin : i < n
    · have d1 : decide ((i : Int) < (n : Int)) = true := by simp; omega
      obtain ⟨g, off, rfl, hc⟩ := Hp.out.pxs (by rw [Hn.out]; omega)
      have x0 := cell_later HB.out (hc i (by rw [Hn.out]; omega))
      have hs := HS.out i (by rw [Hn.out]; exact hin)
      have hxb := H24.out i
      obtain ⟨x, hx⟩ : ∃ x, cs.getD i 0 = x := ⟨_, rfl⟩
      rw [hx] at x0 hs hxb
      obtain ⟨a1, ha1⟩ : ∃ a, x / 65536 = a := ⟨_, rfl⟩
      obtain ⟨a2, ha2⟩ : ∃ a, x / 256 % 256 = a := ⟨_, rfl⟩
      obtain ⟨a3, ha3⟩ : ∃ a, x % 256 = a := ⟨_, rfl⟩
      have e1 : (x : Int) / 65536 = (a1 : Int) := by omega
      have e2 : ((x : Int) / 256) % 256 = (a2 : Int) := by omega
      have e3 : (x : Int) % 256 = (a3 : Int) := by omega
      have b1 : a1 ≤ 255 := by omega
      have HE2 : Hid (o ++ [a1, a2, a3] = m :: (cs.take (i + 1)).flatMap plB) := Lib.hid (by
        rw [hs, HE.out]
        show _ = m :: (_ ++ [x / 65536, x / 256 % 256, x % 256])
        rw [ha1, ha2, ha3]; rfl)
      have k0 : (0 : Int) ≤ (i : Int) := by omega
      have k1 : (i : Int) < (n : Int) := by omega
      have hs1 := HB.out.size
      clear ha1 ha2 ha3 hs hx hc
      go_wp2_with (at_builtin; refine wpList_append_mine _ rfl (.tmp 17) (.tmp 26) 25 rfl w.heap.size 5 i0 _ 1 1 Tryz.underlying25 hi0 hz0 hz1 hz2 rfl (by decide) (.slice vp o.length vc) o.length (o.map u8v) rfl (HO.out.alloc _) (some ⟨wr.heap.size, 0, none⟩) 3 3 [.int .u8 a1, .int .u8 a2, .int .u8 a3] rfl rfl (.inr ⟨_, rfl, ?c2⟩) ?c3 ?c4 ?c5 ?c6 ?_)
      case c2 => exact news_cells (w := wr) (c := [.int .u8 (a1 : Int), .int .u8 (a2 : Int), .int .u8 (a3 : Int)]) (t := 5)
      case c3 =>
        intro u hu
        simp only [List.mem_cons, List.not_mem_nil, or_false] at hu
        rcases hu with rfl | rfl | rfl <;> rfl
      case c4 => simp only [maxLen]; omega
      case c5 => omega
      case c6 => simp only [World.size_alloc]; omega
      intro v' w5 ho1 ht1 hg1
      have Ho1 : Hid (w5.ownsRow w.heap.size 5 1 v' (o ++ [a1, a2, a3]).length ((o ++ [a1, a2, a3]).map u8v)) := Lib.hid (by
        rw [List.length_append, List.map_append]
        exact ho1)
      have hT : Turns (fun k => (Value.slice vp o.length vc).ownBlock = some k) wr w5 := (Turns.of_below' (Below.al1 wr _)).trans (Turns.of_grown ht1 (fun _ h => h))
      have Hb5 : Hid (Below w.heap.size w w5) := Lib.hid (HB.out.trans (hT.below hs1 (fun b hb => (HO.out.lt b hb).1)))
      have hlen : (o ++ [a1, a2, a3]).length ≤ 1 + 3 * (i + 1) := by rw [List.length_append]; simp only [List.length_cons, List.length_nil]; omega
      clear ho1 ht1 hg1 hT e1 e2 e3 x0
      go_wp2
      go_roundw
      case rel => exact ⟨i + 1, _, by go_num, by omega, hlen, HE2, Ho1, Hb5⟩
      case measure => simp [intOf]; omega
    · obtain rfl : i = n := by omega
      have d1 : decide ((i : Int) < (i : Int)) = false := by simp
      have HX : Hid (plH cs = o) := Lib.hid (by rw [HH.out, HE.out, List.take_of_length_le (by rw [Hn.out]; exact Nat.le_refl _)])
      go_wp2
      go_ret
      rw [HX.out]
      exact ⟨_, rfl, HO.out, HB.out⟩
def chL (n a N : Nat) : List (Nat × Nat) := if _h : a < N ∧ 0 < n then (a, min n (N - a)) :: chL n (a + n) N else []
termination_by N - a
theorem chL_yes {n a N : Nat} (h : a < N) (h0 : 0 < n) : chL n a N = (a, min n (N - a)) :: chL n (a + n) N := by rw [chL, dif_pos ⟨h, h0⟩]
theorem chL_no {n a N : Nat} (h : ¬ a < N) : chL n a N = [] := by rw [chL, dif_neg (fun h' => h h'.1)]
def ElCh (p : Option Addr) (_ _ : World) (_ : Nat → Prop) (x : Nat × Nat) (vs : Array Value) : Prop := ∃ g off, p = some ⟨g, off, none⟩ ∧ vs = #[.slice (some ⟨g, off + x.1, none⟩) x.2 x.2]
set_option maxRecDepth 20000 in
set_option maxHeartbeats 4000000 in
theorem chunk_iter8 (Bl Bn : Nat) (p : Option Addr) (N k c : Nat) (w : World) (R : Nat → Prop) (hBl : w.cell? ⟨Bl, 0, none⟩ = some (.slice p N c)) (hBn : w.cell? ⟨Bn, 0, none⟩ = some (.int .i64 (k : Int))) (hp : 0 < N → ∃ g off, p = some ⟨g, off, none⟩) (hl : N ≤ 1048576) (hk : k ≤ 1073741824) (hk0 : 0 < k) (hlc : N ≤ c)
    (hRlt : ∀ b, R b → b < w.heap.size) (hR1 : R Bl) (hR2 : R Bn) :
    Iter Tryz.prog 93 #[.pointer (some ⟨Bl, 0, none⟩), .pointer (some ⟨Bn, 0, none⟩)] (ElCh p) R (chL k 0 N) w := by
  intro ll J Jx W hsz hRW hJ0 hY
  refine callsIn_wide.2 ?_
  have HY := Lib.hid hY
  have HRW := Lib.hid hRW
  have Hp := Lib.hid hp
  have HRlt := Lib.hid hRlt
  have HBl := Lib.hid hBl
  have HBn := Lib.hid hBn
  clear hY hRW hp hRlt hBl hBn
  go_enter Tryz.func93, Tryz.ntmps93
  go_wp2
  go_loopw [4] (fun av wr => ∃ (a : Nat) (pre : List (Nat × Nat)) (Tp : Nat → Prop) (Wp : World), av = .int .i64 (a : Int) ∧ a ≤ N + k ∧ Hid (chL k 0 N = pre ++ chL k a N) ∧ Hid (J pre Tp Wp) ∧ Hid (Turns Tp Wp wr) ∧ Hid (∀ b, R b → wr.heap[b]? = w.heap[b]?)) (fun av _ => N + k - (intOf av).toNat)
  case atStart => exact ⟨0, [], fun _ => False, W, rfl, Nat.zero_le _, Lib.hid rfl, Lib.hid hJ0, Lib.hid (Turns.refl _ _), HRW⟩
  case round =>
    obtain ⟨a, pre, Tp, Wp, rfl, ha, HE, HJ, HT, HR⟩ := hrel
    have xb := (World.cell?_of_block (a := ⟨Bl, 0, none⟩) (HR.out Bl hR1)).trans HBl.out
    have xn := (World.cell?_of_block (a := ⟨Bn, 0, none⟩) (HR.out Bn hR2)).trans HBn.out
    by_cases han : a < N
    · have d1 : decide ((a : Int) < (N : Int)) = true := by simp; omega
      obtain ⟨g, off, rfl⟩ := Hp.out (by omega)
      obtain ⟨z, hz⟩ : ∃ z, min k (N - a) = z := ⟨_, rfl⟩
      have hzi : min (k : Int) ((N - a : Nat) : Int) = (z : Int) := by omega
      have hzi2 : min (k : Int) ((N : Int) - (a : Int)) = (z : Int) := by omega
      have hz0 : 0 < z := by omega
      have hzN : a + z ≤ N := by omega
      have HE3 : Hid (chL k 0 N = pre ++ (a, z) :: chL k (a + k) N) := Lib.hid (by rw [HE.out, chL_yes han hk0, hz])
      have i0 : (0 : Int) ≤ (a : Int) := by omega
      have i1 : (a : Int) ≤ (N : Int) := by omega
      have i2 : (a : Int) ≤ (c : Int) := by omega
      have hm : (if N - a < k then ((N - a : Nat) : Int) else (k : Int)) = (z : Int) := by split <;> omega
      have Hm := Lib.hid hm
      clear hz hm hzi hzi2
      go_upto_region 3 with (fail)
      go_quiet (fail)
      rename_i nq
      rw [Hm.out]
      have HR1 : Hid (∀ b, R b → (wr.drewN nq).heap[b]? = w.heap[b]?) := HR
      have HT1 : Hid (Turns Tp Wp (wr.drewN nq)) := Lib.hid (HT.out.drewN nq)
      generalize wr.drewN nq = u1 at *
      have xb1 := (World.cell?_of_block (a := ⟨Bl, 0, none⟩) (HR1.out Bl hR1)).trans HBl.out
      have xn1 := (World.cell?_of_block (a := ⟨Bn, 0, none⟩) (HR1.out Bn hR2)).trans HBn.out
      clear xb xn
      obtain ⟨fn, tmps, assign, body, hy, hRd⟩ := HY.out pre (a, z) (chL k (a + k) N) Tp (fun _ => False) Wp u1 #[.slice (some ⟨g, off + a, none⟩) z z] HE3.out HJ.out HT1.out (fun _ h => h.elim) (fun _ h => h.elim) HR1.out ⟨g, off, rfl, rfl⟩
      obtain ⟨q, hq⟩ : ∃ q, a + z = q := ⟨_, rfl⟩
      have j1 : (a : Int) + (z : Int) = (q : Int) := by omega
      have j2 : (a : Int) ≤ (q : Int) := by omega
      have j3 : (q : Int) ≤ (c : Int) := by omega
      have j4 : q - a = z := by omega
      have j5 : (0 : Int) ≤ (q : Int) := by omega
      clear hq
      go_upto_region 4 with (fail)
      refine (wpIn_wide (n := 0)).1 ?_
      gi_wp2
      refine ⟨rfl, hRd.mono ?_⟩
      rintro e W3 (⟨rfl, hJ3, hsz3, hk3⟩ | ⟨rfl, hJx3, -, -⟩)
      · have HR3 : Hid (∀ b, R b → W3.heap[b]? = w.heap[b]?) := Lib.hid (fun b hb => (hk3 b (Or.inl hb)).trans (HR1.out b hb))
        have HJ3 := Lib.hid hJ3
        have xn3 := (World.cell?_of_block (a := ⟨Bn, 0, none⟩) (HR3.out Bn hR2)).trans HBn.out
        clear hk3 hJ3 hy hRd xb1 xn1
        gi_wp2
        go_wp2
        go_roundw
        case rel => exact ⟨a + k, pre ++ [(a, z)], fun _ => False, W3, by go_num, by omega, Lib.hid (by rw [HE3.out]; simp), HJ3, Lib.hid (Turns.refl _ _), HR3⟩
        case measure => simp [intOf]; omega
      · have HP : pre ++ [(a, z)] <+: chL k 0 N := ⟨chL k (a + k) N, by rw [HE3.out]; simp⟩
        gi_wp2
        go_wp2
        refine bodyPost_ret (results_none rfl _ _ _) rfl ?_
        exact ⟨⟨_, rfl⟩, .inr ⟨_, _, _, HP, hJx3, Turns.refl _ _⟩⟩
    · have d1 : decide ((a : Int) < (N : Int)) = false := by simp; omega
      have HX : Hid (chL k 0 N = pre) := Lib.hid (by rw [HE.out, chL_no han]; simp)
      go_wp2
      go_end0
      exact ⟨⟨_, rfl⟩, .inl ⟨_, _, by rw [HX.out]; exact HJ.out, HT.out⟩⟩
theorem chunk_made8 (p : Option Addr) (n c k : Nat) (w : World) (hk : 0 < k) : Calls Tryz.prog 64 #[.slice p n c, .int .i64 (k : Int)] w fun e w' => e = .returned (.func (.func 93) #[] #[.pointer (some ⟨w.heap.size, 0, none⟩), .pointer (some ⟨w.heap.size + 1, 0, none⟩)]) ∧ w' = (w.alloc (.cells #[.slice p n c] 25)).alloc (.cells #[.int .i64 (k : Int)] 3) := by
  have hmf : ∀ (fn : Fn) (first cap : Array Value) (w : World), (Instr.makeFunc fn first cap).run Tryz.prog w = .ok (.func fn first cap) w := fun _ _ _ _ => rfl
  have d1 : decide ((k : Int) < 1) = false := by simp; omega
  go_enter Tryz.func64, Tryz.ntmps64
  go_wp2
  go_ret
  exact ⟨rfl, rfl⟩
set_option maxRecDepth 20000 in
set_option maxHeartbeats 4000000 in
theorem chunk_iterP (Bl Bn : Nat) (p : Option Addr) (N k c : Nat) (w : World) (R : Nat → Prop) (hBl : w.cell? ⟨Bl, 0, none⟩ = some (.slice p N c)) (hBn : w.cell? ⟨Bn, 0, none⟩ = some (.int .i64 (k : Int))) (hp : 0 < N → ∃ g off, p = some ⟨g, off, none⟩) (hl : N ≤ 1048576) (hk : k ≤ 1073741824) (hk0 : 0 < k) (hlc : N ≤ c)
    (hRlt : ∀ b, R b → b < w.heap.size) (hR1 : R Bl) (hR2 : R Bn) :
    Iter Tryz.prog 123 #[.pointer (some ⟨Bl, 0, none⟩), .pointer (some ⟨Bn, 0, none⟩)] (ElCh p) R (chL k 0 N) w := by
  intro ll J Jx W hsz hRW hJ0 hY
  refine callsIn_wide.2 ?_
  have HY := Lib.hid hY
  have HRW := Lib.hid hRW
  have Hp := Lib.hid hp
  have HRlt := Lib.hid hRlt
  have HBl := Lib.hid hBl
  have HBn := Lib.hid hBn
  clear hY hRW hp hRlt hBl hBn
  go_enter Tryz.func123, Tryz.ntmps123
  go_wp2
  go_loopw [4] (fun av wr => ∃ (a : Nat) (pre : List (Nat × Nat)) (Tp : Nat → Prop) (Wp : World), av = .int .i64 (a : Int) ∧ a ≤ N + k ∧ Hid (chL k 0 N = pre ++ chL k a N) ∧ Hid (J pre Tp Wp) ∧ Hid (Turns Tp Wp wr) ∧ Hid (∀ b, R b → wr.heap[b]? = w.heap[b]?)) (fun av _ => N + k - (intOf av).toNat)
  case atStart => exact ⟨0, [], fun _ => False, W, rfl, Nat.zero_le _, Lib.hid rfl, Lib.hid hJ0, Lib.hid (Turns.refl _ _), HRW⟩
  case round =>
    obtain ⟨a, pre, Tp, Wp, rfl, ha, HE, HJ, HT, HR⟩ := hrel
    have xb := (World.cell?_of_block (a := ⟨Bl, 0, none⟩) (HR.out Bl hR1)).trans HBl.out
    have xn := (World.cell?_of_block (a := ⟨Bn, 0, none⟩) (HR.out Bn hR2)).trans HBn.out
    by_cases han : a < N
    · have d1 : decide ((a : Int) < (N : Int)) = true := by simp; omega
      obtain ⟨g, off, rfl⟩ := Hp.out (by omega)
      obtain ⟨z, hz⟩ : ∃ z, min k (N - a) = z := ⟨_, rfl⟩
      have hzi : min (k : Int) ((N - a : Nat) : Int) = (z : Int) := by omega
      have hzi2 : min (k : Int) ((N : Int) - (a : Int)) = (z : Int) := by omega
      have hz0 : 0 < z := by omega
      have hzN : a + z ≤ N := by omega
      have HE3 : Hid (chL k 0 N = pre ++ (a, z) :: chL k (a + k) N) := Lib.hid (by rw [HE.out, chL_yes han hk0, hz])
      have i0 : (0 : Int) ≤ (a : Int) := by omega
      have i1 : (a : Int) ≤ (N : Int) := by omega
      have i2 : (a : Int) ≤ (c : Int) := by omega
      have hm : (if N - a < k then ((N - a : Nat) : Int) else (k : Int)) = (z : Int) := by split <;> omega
      have Hm := Lib.hid hm
      clear hz hm hzi hzi2
      go_upto_region 3 with (fail)
      go_quiet (fail)
      rename_i nq
      rw [Hm.out]
      have HR1 : Hid (∀ b, R b → (wr.drewN nq).heap[b]? = w.heap[b]?) := HR
      have HT1 : Hid (Turns Tp Wp (wr.drewN nq)) := Lib.hid (HT.out.drewN nq)
      generalize wr.drewN nq = u1 at *
      have xb1 := (World.cell?_of_block (a := ⟨Bl, 0, none⟩) (HR1.out Bl hR1)).trans HBl.out
      have xn1 := (World.cell?_of_block (a := ⟨Bn, 0, none⟩) (HR1.out Bn hR2)).trans HBn.out
      clear xb xn
      obtain ⟨fn, tmps, assign, body, hy, hRd⟩ := HY.out pre (a, z) (chL k (a + k) N) Tp (fun _ => False) Wp u1 #[.slice (some ⟨g, off + a, none⟩) z z] HE3.out HJ.out HT1.out (fun _ h => h.elim) (fun _ h => h.elim) HR1.out ⟨g, off, rfl, rfl⟩
      obtain ⟨q, hq⟩ : ∃ q, a + z = q := ⟨_, rfl⟩
      have j1 : (a : Int) + (z : Int) = (q : Int) := by omega
      have j2 : (a : Int) ≤ (q : Int) := by omega
      have j3 : (q : Int) ≤ (c : Int) := by omega
      have j4 : q - a = z := by omega
      have j5 : (0 : Int) ≤ (q : Int) := by omega
      clear hq
      go_upto_region 4 with (fail)
      refine (wpIn_wide (n := 0)).1 ?_
      gi_wp2
      refine ⟨rfl, hRd.mono ?_⟩
      rintro e W3 (⟨rfl, hJ3, hsz3, hk3⟩ | ⟨rfl, hJx3, -, -⟩)
      · have HR3 : Hid (∀ b, R b → W3.heap[b]? = w.heap[b]?) := Lib.hid (fun b hb => (hk3 b (Or.inl hb)).trans (HR1.out b hb))
        have HJ3 := Lib.hid hJ3
        have xn3 := (World.cell?_of_block (a := ⟨Bn, 0, none⟩) (HR3.out Bn hR2)).trans HBn.out
        clear hk3 hJ3 hy hRd xb1 xn1
        gi_wp2
        go_wp2
        go_roundw
        case rel => exact ⟨a + k, pre ++ [(a, z)], fun _ => False, W3, by go_num, by omega, Lib.hid (by rw [HE3.out]; simp), HJ3, Lib.hid (Turns.refl _ _), HR3⟩
        case measure => simp [intOf]; omega
      · have HP : pre ++ [(a, z)] <+: chL k 0 N := ⟨chL k (a + k) N, by rw [HE3.out]; simp⟩
        gi_wp2
        go_wp2
        refine bodyPost_ret (results_none rfl _ _ _) rfl ?_
        exact ⟨⟨_, rfl⟩, .inr ⟨_, _, _, HP, hJx3, Turns.refl _ _⟩⟩
    · have d1 : decide ((a : Int) < (N : Int)) = false := by simp; omega
      have HX : Hid (chL k 0 N = pre) := Lib.hid (by rw [HE.out, chL_no han]; simp)
      go_wp2
      go_end0
      exact ⟨⟨_, rfl⟩, .inl ⟨_, _, by rw [HX.out]; exact HJ.out, HT.out⟩⟩
theorem chunk_madeP (p : Option Addr) (n c k : Nat) (w : World) (hk : 0 < k) : Calls Tryz.prog 100 #[.slice p n c, .int .i64 (k : Int)] w fun e w' => e = .returned (.func (.func 123) #[] #[.pointer (some ⟨w.heap.size, 0, none⟩), .pointer (some ⟨w.heap.size + 1, 0, none⟩)]) ∧ w' = (w.alloc (.cells #[.slice p n c] 22)).alloc (.cells #[.int .i64 (k : Int)] 3) := by
  have hmf : ∀ (fn : Fn) (first cap : Array Value) (w : World), (Instr.makeFunc fn first cap).run Tryz.prog w = .ok (.func fn first cap) w := fun _ _ _ _ => rfl
  have d1 : decide ((k : Int) < 1) = false := by simp; omega
  go_enter Tryz.func100, Tryz.ntmps100
  go_wp2
  go_ret
  exact ⟨rfl, rfl⟩
end Go.Proofs.YtoladolgmeanhaaGreat

/- bits' reader: Align (all else of it in BitDH). -/
namespace Go.Proofs.YtoladolgmeanhaaGreat
open Go.RowKit

end Go.Proofs.YtoladolgmeanhaaGreat

/- bits: what all its statements ask: bytes that are held against each other, and the laid example. -/
namespace Go.Proofs.YtoladolgmeanhaaGreat
open Go.RowKit

theorem Wr.new (w : World) : Wr (w.alloc (.cells #[.slice none 0 0, .int .i64 0] 58)) (w.heap.size + 1) w.heap.size (.slice none 0 0) 0 0 :=
  ⟨by omega, ⟨_, World.alloc_heap_new w _⟩, World.ownsRow_nil _ _ _ _, by decide⟩
end Go.Proofs.YtoladolgmeanhaaGreat
