/- palette: the map of colours; low, width, count. -/
import Derived.Test.YtonhcdhlinlncaaPalA
import Derived.Test.YtonhcdhlinlncaaRleG
import Derived.Maps.OwnSet
import Derived.Maps.OwnOps
namespace Go.Proofs.Ytonhcdhlinlncaa
open Go.RowKit Go.Maps

attribute [local go_sem] Oper.semAt_some

/-- A value reads as itself. -/
def relP (v : Value) : Option (DataW Value × List MemPlace) := some (.held v, [])
theorem pk_under : Try.prog.underlying 35 = some (.int .u32) := by kernel_rfl
theorem pm_under : Try.prog.underlying 40 = some (.map 35 35) := by kernel_rfl
theorem pk_wf {x : Nat} (h : x < 4294967296) : (Lit.int .u32 (x : Int)).wf = true := by
  have hm : IntKind.u32.min = 0 := by decide
  have hx : IntKind.u32.max = 4294967295 := by decide
  simp [Lit.wf, hm, hx]; omega
theorem pk_key {x : Nat} (h : x < 4294967296) : keyOf Try.prog 35 (.int .u32 (x : Int)) = some (.int .u32 (x : Int)) := keyOf_int_mk pk_under (pk_wf h)
theorem pk_keyed : Maps.Keyed Try.prog 35 := int_keyed pk_under
theorem pz_zero (w : World) : (zeroValue 35).run Try.prog w = .ok (.int .u32 0) w := by kernel_rfl

/-- Block M is the map that tells of each colour its place. -/
def MapP (w : World) (M : Nat) (cs : List Nat) : Prop :=
  ∃ D : DataW Value, w.ownsMap Try.prog 35 relP M cs.length D ∧ Maps.size D = cs.length ∧ ∀ c : Nat, c < 4294967296 → Maps.has D (.int .u32 (c : Int)) = decide (c ∈ cs) ∧ (c ∈ cs → ∀ z, D.atKey (.int .u32 (c : Int)) z = .held (pxv (plI c cs)))
theorem MapP.made (w : World) : MapP (w.alloc (.map #[] 0)) w.heap.size [] :=
  ⟨_, World.ownsMap_made w _ _ _, rfl, fun c _ => ⟨rfl, fun h => by cases h⟩⟩
theorem MapP.lt {w : World} {M : Nat} {cs : List Nat} (h : MapP w M cs) : M < w.heap.size := by
  obtain ⟨D, hD, _⟩ := h
  exact hD.lt
theorem MapP.turned {w w' : World} {M : Nat} {cs : List Nat} (h : MapP w M cs) {T : Nat → Prop} (ht : Turns T w w') (hT : ¬ T M) : MapP w' M cs := by
  have hlt := h.lt
  obtain ⟨D, ⟨es, clock, hb, r⟩, hF⟩ := h
  exact ⟨D, ⟨es, clock, (ht.block M hlt hT).trans hb, r⟩, hF⟩
theorem MapP.below {w w' : World} {M : Nat} {cs : List Nat} (h : MapP w M cs) (hb : Below w.heap.size w w') : MapP w' M cs := h.turned (T := fun _ => False) (Turns.of_below' hb) (fun h => h)
theorem MapP.put {w : World} {M : Nat} {cs : List Nat} (h : MapP w M cs) (hn : cs.length ≤ 1000) {c : Nat} (hc : c < 4294967296) (hnew : c ∉ cs) :
    ∃ w', (Instr.mapUpdate 40 (.map (some M)) (.int .u32 (c : Int)) (.int .u32 (cs.length : Int))).run Try.prog w = .ok () w' ∧ MapP w' M (cs ++ [c]) ∧ Turns (fun i => i = M) w w' := by
  obtain ⟨D, hD, hs, hF⟩ := h
  obtain ⟨w', hr, ho, ht⟩ := hD.store pk_keyed pm_under (by simp only [maxLen]; omega) (pk_key hc) (val := .int .u32 (cs.length : Int)) (d := .held (pxv cs.length)) (ps := []) rfl
  have hk : WideAt.IsKeyLit (.int .u32 (c : Int)) := pk_keyed.key (pk_key hc)
  refine ⟨w', hr, ⟨_, by rw [List.length_append]; exact ho, ?_, fun k hk' => ?_⟩, Turns.of_grown ht.grown (fun i e => by cases e; rfl)⟩
  · rw [Maps.size_put (hD.tidy pk_keyed), (hF c hc).1, if_neg (by simpa using hnew), hs, List.length_append]; rfl
  · by_cases e : k = c
    · subst e
      refine ⟨by rw [Maps.has_put_same hD.isMap hk]; simp, fun _ z => ?_⟩
      rw [Maps.atKey_put_same hD.isMap hk]
      have : plI k (cs ++ [k]) = cs.length := by
        refine plI_first (by simp) (fun j hj => ?_) (.inr ?_)
        · rw [List.getD_eq_getElem?_getD, List.getElem?_append_left hj, List.getElem?_eq_getElem hj]
          intro e; exact hnew (by rw [← e]; exact List.getElem_mem hj)
        · simp [List.getD_eq_getElem?_getD]
      rw [this]
    · have hne : (Lit.int .u32 (k : Int)) ≠ (Lit.int .u32 (c : Int)) := fun he => e (by injection he with _ he; omega)
      refine ⟨by rw [Maps.has_put_other hne, (hF k hk').1]; simp [e], fun hm z => ?_⟩
      have hm' : k ∈ cs := by simpa [e] using hm
      rw [Maps.atKey_put_other hne, (hF k hk').2 hm', plI_app hm']
theorem MapP.look {w : World} {M : Nat} {cs : List Nat} (h : MapP w M cs) {c : Nat} (hc : c < 4294967296) (hm : c ∈ cs) :
    (Instr.lookup 40 (.map (some M)) (.int .u32 (c : Int)) false).run Try.prog w = .ok (.int .u32 (plI c cs : Int)) w := by
  obtain ⟨D, hD, hs, hF⟩ := h
  obtain ⟨v, ps, hr, hv⟩ := hD.lookup pk_keyed pm_under (pz_zero w) (zd := .held (.int .u32 0)) (zp := []) rfl (pk_key hc)
  rw [hr]
  have hv2 : DataW.held v = D.atKey (.int .u32 (c : Int)) (.held (.int .u32 0)) := (by simpa [relP] using hv : DataW.held v = D.atKey (.int .u32 (c : Int)) (.held (.int .u32 0)) ∧ ps = []).1
  rw [(hF c hc).2 hm] at hv2
  cases hv2; rfl
theorem MapP.look_yes {w : World} {M : Nat} {cs : List Nat} (h : MapP w M cs) {c : Nat} (hc : c < 4294967296) (hm : c ∈ cs) :
    (Instr.lookup 40 (.map (some M)) (.int .u32 (c : Int)) true).run Try.prog w = .ok (.tuple #[.int .u32 (plI c cs : Int), .bool true]) w := by
  obtain ⟨D, hD, hs, hF⟩ := h
  obtain ⟨v, ps, hr, hv⟩ := hD.look_ok pk_keyed pm_under (pz_zero w) (zd := .held (.int .u32 0)) (zp := []) rfl (pk_key hc)
  rw [hr, (hF c hc).1]
  have hv2 : DataW.held v = D.atKey (.int .u32 (c : Int)) (.held (.int .u32 0)) := (by simpa [relP] using hv : DataW.held v = D.atKey (.int .u32 (c : Int)) (.held (.int .u32 0)) ∧ ps = []).1
  rw [(hF c hc).2 hm] at hv2
  cases hv2; simp [hm, pxv]
theorem MapP.look_no {w : World} {M : Nat} {cs : List Nat} (h : MapP w M cs) {c : Nat} (hc : c < 4294967296) (hm : c ∉ cs) :
    (Instr.lookup 40 (.map (some M)) (.int .u32 (c : Int)) true).run Try.prog w = .ok (.tuple #[.int .u32 0, .bool false]) w := by
  obtain ⟨D, hD, hs, hF⟩ := h
  obtain ⟨v, ps, hr, hv⟩ := hD.look_ok pk_keyed pm_under (pz_zero w) (zd := .held (.int .u32 0)) (zp := []) rfl (pk_key hc)
  rw [hr, (hF c hc).1]
  have hv2 : DataW.held v = D.atKey (.int .u32 (c : Int)) (.held (.int .u32 0)) := (by simpa [relP] using hv : DataW.held v = D.atKey (.int .u32 (c : Int)) (.held (.int .u32 0)) ∧ ps = []).1
  rw [Maps.atKey_of_not_has (by rw [(hF c hc).1]; simpa using hm)] at hv2
  cases hv2; simp [hm]
theorem MapP.len {w : World} {M : Nat} {cs : List Nat} (h : MapP w M cs) (ty : TypeId) : (Builtin.len_ #[40] ty #[.map (some M)]).run Try.prog w = .ok (.int .i64 (cs.length : Int)) w := by
  obtain ⟨D, hD, hs, hF⟩ := h
  rw [hD.len pm_under ty, hs]

theorem plow_any (x : Nat) (w : World) (h : x < 4294967296) : StillR 27 #[.int .u32 (x : Int)] w (.int .u32 ((rlw x : Nat) : Int)) := by
  unfold StillR
  have e := mask_lw x h
  go_enter Try.func27, Try.ntmps27
  go_wp2
  go_ret
  exact ⟨by first | rfl | rw [e] | simp [e], rfl⟩

theorem pwidth_any (k : Nat) (w : World) : StillR 28 #[.int .i64 (k : Int)] w (.int .i64 ((plZ k : Nat) : Int)) := by
  unfold StillR
  go_enter Try.func28, Try.ntmps28
  by_cases h1 : k ≤ 1
  · have d1 : decide ((k : Int) ≤ 1) = true := by simp; omega
    have e : plZ k = 0 := if_pos h1
    rw [e]
    go_wp2
    go_ret
    exact ⟨rfl, rfl⟩
  have d1 : decide ((k : Int) ≤ 1) = false := by simp; omega
  by_cases h2 : k ≤ 2
  · have d2 : decide ((k : Int) ≤ 2) = true := by simp; omega
    have e : plZ k = 1 := by unfold plZ; rw [if_neg h1, if_pos h2]
    rw [e]
    go_wp2
    go_ret
    exact ⟨rfl, rfl⟩
  have d2 : decide ((k : Int) ≤ 2) = false := by simp; omega
  by_cases h3 : k ≤ 4
  · have d3 : decide ((k : Int) ≤ 4) = true := by simp; omega
    have e : plZ k = 2 := by unfold plZ; rw [if_neg h1, if_neg h2, if_pos h3]
    rw [e]
    go_wp2
    go_ret
    exact ⟨rfl, rfl⟩
  have d3 : decide ((k : Int) ≤ 4) = false := by simp; omega
  have e : plZ k = 4 := by unfold plZ; rw [if_neg h1, if_neg h2, if_neg h3]
  rw [e]
  go_wp2
  go_ret
  exact ⟨rfl, rfl⟩

set_option maxRecDepth 20000 in
set_option maxHeartbeats 4000000 in
theorem pcount_any (p : Option Addr) (c : Nat) (l : List Nat) (w : World) (hp : RowAt encP 1 w p l) (h32 : ∀ x ∈ l, x < 4294967296) (hl : l.length ≤ 1048576) :
    Calls Try.prog 17 #[.slice p l.length c] w fun e w' => ∃ (cs : List Nat) (v' : Value) (M : Nat), e = .returned (.tuple #[v', .map (some M)]) ∧ w'.ownsRow w.heap.size 35 1 v' cs.length (cs.map pxv) ∧ MapP w' M cs ∧ w.heap.size ≤ M ∧ Below w.heap.size w w' ∧ (cs = plCol l ∧ cs.length ≤ 16 ∨ 16 < cs.length ∧ cs.length ≤ 17 ∧ 16 < (plCol l).length) := by
  have Hp := Lib.hid hp
  have H32 : Hid (∀ i, l.getD i 0 < 4294967296) := Lib.hid (fun i => by
    rw [List.getD_eq_getElem?_getD]
    cases h : l[i]? with
    | none => decide
    | some x => exact h32 x (List.mem_of_getElem? h))
  obtain ⟨n, hn⟩ : ∃ n, l.length = n := ⟨_, rfl⟩
  have Hn := Lib.hid hn
  rw [hn] at hl ⊢
  clear hp hn h32
  go_enter Try.func17, Try.ntmps17
  have hmk := run_makeMap (P := Try.prog) 40 w
  go_wp2_with fail
  clear hmk
  have Hm0 := Lib.hid (MapP.made w)
  have Hb0 := Lib.hid (Below.al1 w (.map #[] 0))
  generalize w.alloc (.map #[] 0) = W1 at *
  go_loopw [4, 14] (fun ov iv wr => ∃ (i k : Nat) (cs : List Nat), iv = .int .i64 (i : Int) ∧ i ≤ n ∧ k ≤ 16 ∧ Hid (cs.length = k) ∧ Hid (cs = plC [] (l.take i)) ∧ Hid (wr.ownsRow (w.heap.size + 1) 35 1 ov k (cs.map pxv)) ∧ Hid (MapP wr w.heap.size cs) ∧ Hid (Below w.heap.size w wr)) (fun _ iv _ => n - (intOf iv).toNat)
  case atStart => exact ⟨0, 0, [], rfl, Nat.zero_le _, Nat.zero_le _, Lib.hid rfl, Lib.hid rfl, Lib.hid (World.ownsRow_nil _ _ _ _), Hm0, Hb0⟩
  case round =>
    obtain ⟨i, k, cs, rfl, hi, hk, HK, HC, HO, HM, HB⟩ := hrel
    obtain ⟨vp, vc, rfl⟩ := owns_slice HO.out
    by_cases hin : i < n
    · have d1 : decide ((i : Int) < (n : Int)) = true := by simp; omega
      obtain ⟨g, off, rfl, hc⟩ := Hp.out.pxs (by rw [Hn.out]; omega)
      have x0 := cell_later HB.out (hc i (by rw [Hn.out]; omega))
      have HS : Hid (plC [] (l.take (i + 1)) = plS cs (rlw (l.getD i 0))) := Lib.hid (by rw [plC_take (by rw [Hn.out]; exact hin), ← HC.out])
      have hxb := H32.out i
      obtain ⟨x, hx⟩ : ∃ x, l.getD i 0 = x := ⟨_, rfl⟩
      rw [hx] at x0 HS hxb
      have hyb : rlw x < 4294967296 := Nat.lt_trans (rlw_lt x) (by decide)
      have i0 : (0 : Int) ≤ (i : Int) := by omega
      have i1 : (i : Int) < (n : Int) := by omega
      have hs1 : w.heap.size + 1 ≤ wr.heap.size := HM.out.lt
      have HL := Lib.hid (plow_any x wr hxb)
      obtain ⟨y, hy⟩ : ∃ y, rlw x = y := ⟨_, rfl⟩
      rw [hy] at HS HL hyb
      clear hc hx hy
      go_wp2_with fail
      refine Calls.mono HL.out ?_
      rintro _ u1 ⟨rfl, rfl⟩
      by_cases hmem : y ∈ cs
      · have hlook := HM.out.look_yes hyb hmem
        have HC2 : Hid (cs = plC [] (l.take (i + 1))) := Lib.hid (by rw [HS.out, plS_old hmem])
        clear hmem HS HC x0
        go_wp2
        go_roundw
        case rel => exact ⟨i + 1, k, cs, by go_num, by omega, hk, HK, HC2, HO, HM, HB⟩
        case measure => simp [intOf]; omega
      · have hlook := HM.out.look_no hyb hmem
        obtain ⟨u2, hr2, hm2, ht2⟩ := HM.out.put (by rw [HK.out]; omega) hyb hmem
        rw [HK.out] at hr2
        have HC2 : Hid (cs ++ [y] = plC [] (l.take (i + 1))) := Lib.hid (by rw [HS.out, plS_new hmem])
        have hs2 : w.heap.size + 1 ≤ u2.heap.size := Nat.le_trans hs1 ht2.size
        have Hm2 := Lib.hid hm2
        have HO2 : Hid (u2.ownsRow (w.heap.size + 1) 35 1 (.slice vp k vc) k (cs.map pxv)) := Lib.hid (ht2.owns HO.out (fun b hb (e : b = w.heap.size) => by have := (HO.out.lt b hb).1; omega))
        have HB2 : Hid (Below w.heap.size w u2) := Lib.hid (HB.out.trans (ht2.below (by omega) (fun b (hb : b = w.heap.size) => by omega)))
        have wk : IntKind.u32.wrap (k : Int) = (k : Int) := by rw [IntKind.wrap_u32]; omega
        clear hmem hm2 ht2 HS HC
        go_wp2_with (at_builtin; refine wpList_append_one u2 rfl (.tmp 32) (.tmp 34) 22 rfl (w.heap.size + 1) 35 _ 4 pxv_info Try.underlying22 rfl (.slice vp k vc) k (cs.map pxv) rfl HO2.out (.int .u32 (y : Int)) _ rfl rfl ?m3 ?m4 hs2 ?_)
        case m3 => simp only [maxLen]; omega
        case m4 => omega
        intro g1 cap1 w5 ho1 ht1 hg1
        have Ho1 : Hid (w5.ownsRow (w.heap.size + 1) 35 1 (.slice (some ⟨g1, 0, none⟩) (k + 1) cap1) (k + 1) ((cs ++ [y]).map pxv)) := Lib.hid (by
          rw [List.map_append]
          simpa [pxv] using ho1)
        have Hm5 : Hid (MapP w5 w.heap.size (cs ++ [y])) := Lib.hid (Hm2.out.turned ht1 (fun e => by have := (HO2.out.lt _ e).1; omega))
        have HB5 := Lib.hid (HB2.out.trans (ht1.below HB2.out.size (fun b hb => Nat.le_trans (Nat.le_succ _) (HO2.out.lt b hb).1)))
        have HK5 : Hid ((cs ++ [y]).length = k + 1) := Lib.hid (by rw [List.length_append, HK.out]; rfl)
        clear ho1 ht1 hg1 hr2 hlook x0
        by_cases hbig : k = 16
        · subst hbig
          go_wp2
          go_ret2
          refine ⟨_, _, w.heap.size, rfl, ?_, Hm5.out, Nat.le_refl _, HB5.out, .inr ⟨by rw [HK5.out]; omega, by rw [HK5.out]; omega, ?_⟩⟩
          · rw [HK5.out]; exact owns_base Ho1.out (by omega)
          · have := plC_long (l := l) (i := i + 1) []
            rw [← HC2.out, HK5.out] at this
            exact Nat.lt_of_lt_of_le (by omega) this
        · have d2 : decide ((k : Int) + 1 > 16) = false := by simp; omega
          go_wp2
          go_roundw
          case rel => exact ⟨i + 1, k + 1, cs ++ [y], by go_num, by omega, by omega, HK5, HC2, Ho1, Hm5, HB5⟩
          case measure => simp [intOf]; omega
    · obtain rfl : i = n := by omega
      have d1 : decide ((i : Int) < (i : Int)) = false := by simp
      go_wp2
      go_ret2
      have e : cs = plCol l := by rw [HC.out, List.take_of_length_le (by rw [Hn.out]; exact Nat.le_refl _)]; rfl
      refine ⟨cs, _, w.heap.size, rfl, ?_, HM.out, Nat.le_refl _, HB.out, .inl ⟨e, by rw [HK.out]; exact hk⟩⟩
      rw [HK.out]; exact owns_base HO.out (by omega)

end Go.Proofs.Ytonhcdhlinlncaa
