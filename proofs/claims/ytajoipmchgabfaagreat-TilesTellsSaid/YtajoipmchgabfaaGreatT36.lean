/- Several texts in one, each with its own head. -/
import Derived.Shelf.SlIterI.Nil
import Derived.Shelf.SortM.Plain
import Derived.Shelf.SortM.SortNone
import Derived.Ground.GgzProg
import Derived.Ground.SlgmProg
import Derived.Test.YtajoipmchgabfaaGreatProg
import Derived.Test.YtajoipmchgabfaaGreatT35
/- The library's keys, sorted and sort, laid at this program: each field a fact of the program, compared by the kernel. -/
namespace Go.Proofs
open Go.Shelf
def Tryz.keysZ_ren : Go.Shelf.Ren := ⟨fun | 7 => 19 | 10 => 30 | n => n, fun | 23 => 47 | 26 => 3 | 3 => 22 | 28 => 45 | 0 => 0 | 27 => 44 | 33 => 57 | 4 => 4 | n => n, fun | n => n⟩
theorem Tryz.keysZ : Go.Proofs.SlLaysZI.n7 Tryz.prog Tryz.keysZ_ren := {
  mixed := by kernel_rfl
  f7 := ⟨Tryz.f19.name, by decide, Tryz.func19.trans (congrArg some (by kernel_rfl))⟩
  f10 := ⟨Tryz.f30.name, by decide, Tryz.func30.trans (congrArg some (by kernel_rfl))⟩
  t0 := Tryz.underlying0
  a0 := Tryz.isAgg0
  z0 := Tryz.sizeOf0
  v0 := Tryz.zeroValue0
  t4 := Tryz.underlying4
  a4 := Tryz.isAgg4
  z4 := Tryz.sizeOf4
  v4 := Tryz.zeroValue4
  t23 := Tryz.underlying47
  a23 := Tryz.isAgg47
  z23 := Tryz.sizeOf47
  v23 := Tryz.zeroValue47
  t26 := Tryz.underlying3
  a26 := Tryz.isAgg3
  z26 := Tryz.sizeOf3
  v26 := Tryz.zeroValue3
  t27 := Tryz.underlying44
  a27 := Tryz.isAgg44
  z27 := Tryz.sizeOf44
  v27 := Tryz.zeroValue44
  t28 := Tryz.underlying45
  a28 := Tryz.isAgg45
  z28 := Tryz.sizeOf45
  v28 := Tryz.zeroValue45
  t33 := Tryz.underlying57
  a33 := Tryz.isAgg57
  z33 := Tryz.sizeOf57
  v33 := Tryz.zeroValue57 }
def Tryz.sortedZ_ren : Go.Shelf.Ren := ⟨fun | 6 => 18 | 8 => 28 | 9 => 29 | 11 => 41 | 13 => 43 | 12 => 42 | 23 => 60 | 24 => 61 | 14 => 51 | 15 => 52 | 16 => 53 | 17 => 54 | 18 => 55 | 19 => 56 | 20 => 57 | 21 => 58 | 22 => 59 | 25 => 71 | 26 => 72 | 27 => 73 | 28 => 74 | 29 => 75 | 30 => 76 | 31 => 86 | n => n, fun | 26 => 3 | 28 => 45 | 24 => 30 | 0 => 0 | 3 => 3 | 37 => 69 | 48 => 38 | 50 => 90 | 4 => 4 | 40 => 81 | 39 => 80 | 45 => 86 | 5 => 5 | 9 => 9 | 51 => 96 | 55 => 100 | 57 => 112 | 58 => 72 | 33 => 57 | n => n, fun | n => n⟩
theorem Tryz.sortedZ : Go.Proofs.SlLaysZI.n6 Tryz.prog Tryz.sortedZ_ren := {
  mixed := by kernel_rfl
  f6 := ⟨Tryz.f18.name, by decide, Tryz.func18.trans (congrArg some (by kernel_rfl))⟩
  f8 := ⟨Tryz.f28.name, by decide, Tryz.func28.trans (congrArg some (by kernel_rfl))⟩
  f11 := ⟨Tryz.f41.name, by decide, Tryz.func41.trans (congrArg some (by kernel_rfl))⟩
  t0 := Tryz.underlying0
  a0 := Tryz.isAgg0
  z0 := Tryz.sizeOf0
  v0 := Tryz.zeroValue0
  t24 := Tryz.underlying30
  a24 := Tryz.isAgg30
  z24 := Tryz.sizeOf30
  v24 := Tryz.zeroValue30
  t26 := Tryz.underlying3
  a26 := Tryz.isAgg3
  z26 := Tryz.sizeOf3
  v26 := Tryz.zeroValue3
  t28 := Tryz.underlying45
  a28 := Tryz.isAgg45
  z28 := Tryz.sizeOf45
  v28 := Tryz.zeroValue45
  i26 := by kernel_rfl }
def Tryz.sortZ_ren : Go.Shelf.Ren := ⟨fun | 5 => 29 | 8 => 43 | 7 => 42 | 19 => 60 | 20 => 61 | 10 => 51 | 11 => 52 | 12 => 53 | 13 => 54 | 14 => 55 | 15 => 56 | 16 => 57 | 17 => 58 | 18 => 59 | 30 => 71 | 31 => 72 | 32 => 73 | 33 => 74 | 34 => 75 | 35 => 76 | 40 => 86 | n => n, fun | 23 => 30 | 25 => 3 | 3 => 3 | 32 => 69 | 22 => 30 | 0 => 0 | 44 => 38 | 46 => 90 | 4 => 4 | 36 => 81 | 35 => 80 | 41 => 86 | 5 => 5 | 9 => 9 | 53 => 96 | 57 => 100 | 63 => 112 | 64 => 72 | n => n, fun | n => n⟩
theorem Tryz.sortZ : Go.Proofs.SlLaysM.n5 Tryz.prog Tryz.sortZ_ren := {
  mixed := by kernel_rfl
  f5 := ⟨Tryz.f29.name, by decide, Tryz.func29.trans (congrArg some (by kernel_rfl))⟩
  f7 := ⟨Tryz.f42.name, by decide, Tryz.func42.trans (congrArg some (by kernel_rfl))⟩
  f8 := Tryz.func43.trans (congrArg some (by kernel_rfl))
  f10 := ⟨Tryz.f51.name, by decide, Tryz.func51.trans (congrArg some (by kernel_rfl))⟩
  f11 := ⟨Tryz.f52.name, by decide, Tryz.func52.trans (congrArg some (by kernel_rfl))⟩
  f12 := ⟨Tryz.f53.name, by decide, Tryz.func53.trans (congrArg some (by kernel_rfl))⟩
  f13 := ⟨Tryz.f54.name, by decide, Tryz.func54.trans (congrArg some (by kernel_rfl))⟩
  f14 := ⟨Tryz.f55.name, by decide, Tryz.func55.trans (congrArg some (by kernel_rfl))⟩
  f15 := ⟨Tryz.f56.name, by decide, Tryz.func56.trans (congrArg some (by kernel_rfl))⟩
  f16 := ⟨Tryz.f57.name, by decide, Tryz.func57.trans (congrArg some (by kernel_rfl))⟩
  f17 := ⟨Tryz.f58.name, by decide, Tryz.func58.trans (congrArg some (by kernel_rfl))⟩
  f18 := ⟨Tryz.f59.name, by decide, Tryz.func59.trans (congrArg some (by kernel_rfl))⟩
  f19 := Tryz.func60.trans (congrArg some (by kernel_rfl))
  f20 := Tryz.func61.trans (congrArg some (by kernel_rfl))
  f30 := ⟨Tryz.f71.name, by decide, Tryz.func71.trans (congrArg some (by kernel_rfl))⟩
  f31 := Tryz.func72.trans (congrArg some (by kernel_rfl))
  f32 := Tryz.func73.trans (congrArg some (by kernel_rfl))
  f33 := ⟨Tryz.f74.name, by decide, Tryz.func74.trans (congrArg some (by kernel_rfl))⟩
  f34 := ⟨Tryz.f75.name, by decide, Tryz.func75.trans (congrArg some (by kernel_rfl))⟩
  f35 := ⟨Tryz.f76.name, by decide, Tryz.func76.trans (congrArg some (by kernel_rfl))⟩
  f40 := ⟨Tryz.f86.name, by decide, Tryz.func86.trans (congrArg some (by kernel_rfl))⟩
  t0 := Tryz.underlying0
  a0 := Tryz.isAgg0
  z0 := Tryz.sizeOf0
  v0 := Tryz.zeroValue0
  t3 := Tryz.underlying3
  a3 := Tryz.isAgg3
  z3 := Tryz.sizeOf3
  v3 := Tryz.zeroValue3
  t4 := Tryz.underlying4
  a4 := Tryz.isAgg4
  z4 := Tryz.sizeOf4
  v4 := Tryz.zeroValue4
  t5 := Tryz.underlying5
  a5 := Tryz.isAgg5
  z5 := Tryz.sizeOf5
  v5 := Tryz.zeroValue5
  t9 := Tryz.underlying9
  a9 := Tryz.isAgg9
  z9 := Tryz.sizeOf9
  v9 := Tryz.zeroValue9
  t22 := Tryz.underlying30
  a22 := Tryz.isAgg30
  z22 := Tryz.sizeOf30
  v22 := Tryz.zeroValue30
  t23 := Tryz.underlying30
  a23 := Tryz.isAgg30
  z23 := Tryz.sizeOf30
  v23 := Tryz.zeroValue30
  t25 := Tryz.underlying3
  a25 := Tryz.isAgg3
  z25 := Tryz.sizeOf3
  v25 := Tryz.zeroValue3
  t32 := Tryz.underlying69
  a32 := Tryz.isAgg69
  z32 := Tryz.sizeOf69
  v32 := Tryz.zeroValue69
  t35 := Tryz.underlying80
  a35 := Tryz.isAgg80
  z35 := Tryz.sizeOf80
  v35 := Tryz.zeroValue80
  t36 := Tryz.underlying81
  a36 := Tryz.isAgg81
  z36 := Tryz.sizeOf81
  v36 := Tryz.zeroValue81
  t41 := Tryz.underlying86
  a41 := Tryz.isAgg86
  z41 := Tryz.sizeOf86
  v41 := Tryz.zeroValue86
  t44 := Tryz.underlying38
  a44 := Tryz.isAgg38
  z44 := Tryz.sizeOf38
  v44 := Tryz.zeroValue38
  t46 := Tryz.underlying90
  a46 := Tryz.isAgg90
  z46 := Tryz.sizeOf90
  v46 := Tryz.zeroValue90
  t53 := Tryz.underlying96
  a53 := Tryz.isAgg96
  z53 := Tryz.sizeOf96
  v53 := Tryz.zeroValue96
  t57 := Tryz.underlying100
  a57 := Tryz.isAgg100
  z57 := Tryz.sizeOf100
  v57 := Tryz.zeroValue100
  t63 := Tryz.underlying112
  a63 := Tryz.isAgg112
  z63 := Tryz.sizeOf112
  v63 := Tryz.zeroValue112
  t64 := Tryz.underlying72
  a64 := Tryz.isAgg72
  z64 := Tryz.sizeOf72
  v64 := Tryz.zeroValue72 }
end Go.Proofs

/- tiles: Touched. -/
namespace Go.Proofs.YtajoipmchgabfaaGreat
open Go.RowKit Go.Maps Go.Sort Go.Shelf

/-- slices.Sort's two contracts, at the fence that asks nothing. -/
theorem sortsZ (m : Nat) : AnyZI.SortsIn Tryz.prog Tryz.sortedZ_ren Fence.wide m :=
  ⟨fun blk off cap ss W hH hblk hsz => callsIn_wide.2 (AnyM.slices_Sort_int Tryz.sortZ blk off cap ss W hH hblk hsz),
   fun p cap W => callsIn_wide.2 (AnyM.slices_Sort_int_none Tryz.sortZ p cap W)⟩

theorem keysZ_any (M : Option Nat) (W : World) : Calls Tryz.prog 19 #[.map M] W fun e w' => e = .returned (.func (.func 30) #[] #[.pointer (some ⟨W.heap.size, 0, none⟩)]) ∧ w' = W.alloc (.cells #[.map M] 47) :=
  (callsIn_wide (n := 5)).1 (AnyZI.keys_in Tryz.keysZ Fence.wide 5 trivial rfl M W)

theorem sortedZ_any (M nn : Nat) (D0 : DataW Value) (W : World) (hown : W.ownsMap Tryz.prog 3 relV M nn D0) (hsz : Maps.size D0 ≤ 4096) :
    Calls Tryz.prog 18 #[.func (.func 30) #[] #[.pointer (some ⟨W.heap.size, 0, none⟩)]] (W.alloc (.cells #[.map (some M)] 47)) fun e w' => ∃ (v : Value) (ss : List Int), e = .returned v ∧ ss.Perm (intKeys D0) ∧
      w'.ownsRow W.heap.size 3 1 v ss.length ((ss.mergeSort (fun x y => decide (x ≤ y))).map encZ) ∧ Below W.heap.size W w' := by
  have hbl := hown.lt
  have hseq : SeqGives Fence.wide 2 Tryz.prog 30 #[.pointer (some ⟨W.heap.size, 0, none⟩)] encZ (fun ss => ss.Perm (intKeys D0)) (Maps.size D0) (W.alloc (.cells #[.map (some M)] 47)) :=
    AnyZI.keys_gives (ρ := Tryz.keysZ_ren) { Tryz.keysZ with } Fence.wide _ trivial rfl (by omega) W.heap.size M nn D0 _ (by simp) (by simp) (by
      obtain ⟨es, clock, hb, Ft, hs, hD⟩ := hown
      exact ⟨es, clock, (Below.heap_alloc _ _ M hbl).trans hb, Ft, hs, hD⟩)
  have cS := AnyZI.sorted_in Tryz.sortedZ Fence.wide 5 trivial trivial trivial trivial rfl (by omega) (sortsZ _) (enters_of Tryz.func29 (by kernel_rfl) rfl) 30 #[.pointer (some ⟨W.heap.size, 0, none⟩)] trivial (enters_of Tryz.func30 (by kernel_rfl) rfl) _ _ (by simp only [maxLen]; omega) (by omega) _ hseq
  change CallsIn _ _ Tryz.prog 18 _ _ _ at cS
  refine Calls.mono ((callsIn_wide (n := 5)).1 cS) ?_
  rintro e w' ⟨v, ss, rfl, hS, hrow, hnil, hb⟩
  exact ⟨v, ss, rfl, hS, owns_baseT hrow (by simp), (Below.al1 W _).trans (hb.mono (by simp))⟩

/-- The numbers of the tiles that have a piece. -/
def tcE (N : Nat) (E : List (Nat × Rc)) : List Nat := (List.range N).filter fun i => !(ofN E i).isEmpty
def tcL (pw ph : Nat) (l : List Rc) : List Nat := tcE (tlN pw ph) (pcsL pw ph (ptL pw ph l))
def intV (i : Nat) : Value := .int .i64 (i : Int)
theorem tc_mem {N : Nat} {E : List (Nat × Rc)} {i : Nat} : i ∈ tcE N E ↔ i < N ∧ ofN E i ≠ [] := by
  unfold tcE
  rw [List.mem_filter, List.mem_range]
  cases ofN E i <;> simp
theorem tc_keys {N : Nat} {E : List (Nat × Rc)} (hN : ∀ i, ofN E i ≠ [] → i < N) {w0 w : World} {b8 M N0 : Nat} {T : Nat → Prop} {F : Nat → Option Value} (h : PcF w0 b8 M N0 T F E w) :
    ∃ D, w.ownsMap Tryz.prog 3 relV M E.length D ∧ ((tcE N E).map fun (i : Nat) => (i : Int)).Perm (intKeys D) := by
  obtain ⟨D, hD, hI, hF⟩ := h.map
  obtain ⟨es, rfl, hpw, -⟩ := hD.entries mk_keyed
  refine ⟨_, hD, perm_intKeys hpw ?_ ?_ fun x => ?_⟩
  · obtain ⟨es', e, he⟩ := hI
    cases e
    exact he
  · refine List.pairwise_map.2 ((List.nodup_range.filter _).imp fun {a b} hne e => hne ?_)
    omega
  · rw [(hF x).1, List.mem_map]
    constructor
    · rintro ⟨i, hi, rfl⟩
      rw [intF_nat]
      have := h.yes i (tc_mem.1 hi).2
      cases hv : F i with
      | none => exact absurd hv this
      | some v => rfl
    · intro hs
      unfold intF at hs
      by_cases hx : 0 ≤ x
      · rw [if_pos hx] at hs
        have hne : ofN E x.toNat ≠ [] := fun e => by rw [h.no _ e] at hs; cases hs
        exact ⟨x.toNat, tc_mem.2 ⟨hN _ hne, hne⟩, by omega⟩
      · rw [if_neg hx] at hs; cases hs
theorem tc_sorted (N : Nat) (E : List (Nat × Rc)) : ((tcE N E).map fun (i : Nat) => (i : Int)).mergeSort (fun x y => decide (x ≤ y)) = (tcE N E).map fun (i : Nat) => (i : Int) := by
  refine List.mergeSort_of_pairwise (List.pairwise_map.2 ?_)
  refine List.Pairwise.imp (R := fun a b => a < b) (fun {a b} h => by simp; omega) ?_
  exact List.Pairwise.filter _ List.pairwise_lt_range

set_option maxHeartbeats 1000000 in
theorem touched_any (v : Value) (l : List Rc) (w h : Int) (W : World) (hv : Row encR 4 W v l) (hf : ∀ r ∈ l, Fit r) (hl : l.length ≤ 1048576) :
    Calls Tryz.prog 9 #[v, .int .i64 w, .int .i64 h] W fun e w' => ∃ v', e = .returned v' ∧ w'.ownsRow W.heap.size 3 1 v' (tcL (szW w h) (szH w h) l).length ((tcL (szW w h) (szH w h) l).map intV) ∧ Below W.heap.size W w' := by
  have hpw := szW_le w h
  have hph := szH_le w h
  have hpc := fun v W hv => pieces_any v l w h W hv hf hl
  obtain ⟨pw, hpwe⟩ : ∃ p, szW w h = p := ⟨_, rfl⟩
  obtain ⟨ph, hphe⟩ : ∃ p, szH w h = p := ⟨_, rfl⟩
  rw [hpwe] at hpw hpc ⊢
  rw [hphe] at hph hpc ⊢
  unfold tcL
  have HN := Lib.hid (fun i (hi : ofN (pcsL pw ph (ptL pw ph l)) i ≠ []) => by
    obtain ⟨r, hr⟩ := List.exists_mem_of_ne_nil _ hi
    exact (pcs_mem hpw hph (ptL_in pw ph l) hr).1)
  obtain ⟨E, hE⟩ : ∃ E, pcsL pw ph (ptL pw ph l) = E := ⟨_, rfl⟩
  rw [hE] at hpc HN ⊢
  have Hpc := Lib.hid hpc
  have Hv := Lib.hid hv
  have H256 := Lib.hid (tlN_le hpw hph)
  clear hpc hpwe hphe hE hv hf hl
  go_enter Tryz.func9, Tryz.ntmps9
  go_wp2_with fail
  refine Calls.mono (Hpc.out v W Hv.out) ?_
  rintro _ w1 ⟨M, b8, N0, F, rfl, hP⟩
  obtain ⟨D, hD, hperm⟩ := tc_keys HN.out hP
  have HbW := Lib.hid hP.bel
  have HD := Lib.hid hD
  have Hperm := Lib.hid hperm
  have Hsz : Hid (Maps.size D ≤ 4096) := Lib.hid (by
    have h1 := hperm.length_eq
    rw [List.length_map] at h1
    have h2 : (tcE (tlN pw ph) E).length ≤ tlN pw ph := by unfold tcE; have := List.length_filter_le (fun i => !(ofN E i).isEmpty) (List.range (tlN pw ph)); simpa using this
    have h3 := H256.out
    obtain ⟨es, rfl, -, -⟩ := hD.entries mk_keyed
    have h4 : (intKeys (.map es : DataW Value)).length = es.length := by simp [intKeys]
    rw [Maps.size_eq]; omega)
  clear hP hD hperm
  go_wp2_with fail
  refine Calls.mono (keysZ_any (some M) w1) ?_
  rintro _ w2 ⟨rfl, rfl⟩
  have Hso := Lib.hid (sortedZ_any M E.length D w1 HD.out Hsz.out)
  generalize w1.alloc (.cells #[.map (some M)] 47) = w2 at *
  go_wp2_with fail
  refine Calls.mono Hso.out ?_
  rintro _ w3 ⟨v', ss, rfl, hS, hrow, hb⟩
  have hq : ss.mergeSort (fun x y => decide (x ≤ y)) = (tcE (tlN pw ph) E).map fun (i : Nat) => (i : Int) := by
    rw [← tc_sorted]
    exact mergeSort_of_perm_i (hS.trans Hperm.out.symm)
  have hlen : ss.length = (tcE (tlN pw ph) E).length := by
    have h1 := (hS.trans Hperm.out.symm).length_eq
    rwa [List.length_map] at h1
  have e : ((tcE (tlN pw ph) E).map fun (i : Nat) => (i : Int)).map encZ = (tcE (tlN pw ph) E).map intV := by rw [List.map_map]; rfl
  rw [hq, hlen, e] at hrow
  have Hrow := Lib.hid hrow
  have Hb := Lib.hid hb
  clear hrow hb hq hlen e hS Hso
  go_wp2
  go_ret
  exact ⟨_, rfl, owns_baseT Hrow.out HbW.out.size, Below.thn HbW.out Hb.out⟩

end Go.Proofs.YtajoipmchgabfaaGreat
