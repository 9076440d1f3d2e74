/- Several texts in one, each with its own head. -/
import Derived.Shelf.SlIterI.Nil
import Derived.Shelf.SortM.Plain
import Derived.Shelf.SortM.SortNone
import Derived.Ground.GgzProg
import Derived.Ground.SlgmProg
import Derived.Test.YtajoipmchgabfaaProg
import Derived.Test.YtajoipmchgabfaaM33
/- The library's keys, sorted and sort, laid at this program: each field a fact of the program, compared by the kernel. -/
namespace Go.Proofs
open Go.Shelf
def Try.keysZ_ren : Go.Shelf.Ren := ⟨fun | 7 => 69 | 10 => 78 | n => n, fun | 23 => 102 | 26 => 3 | 3 => 58 | 28 => 100 | 0 => 0 | 27 => 99 | 33 => 109 | 4 => 4 | n => n, fun | n => n⟩
theorem Try.keysZ : Go.Proofs.SlLaysZI.n7 Try.prog Try.keysZ_ren := {
  mixed := by kernel_rfl
  f7 := ⟨Try.f69.name, by decide, Try.func69.trans (congrArg some (by kernel_rfl))⟩
  f10 := ⟨Try.f78.name, by decide, Try.func78.trans (congrArg some (by kernel_rfl))⟩
  t0 := Try.underlying0
  a0 := Try.isAgg0
  z0 := Try.sizeOf0
  v0 := Try.zeroValue0
  t4 := Try.underlying4
  a4 := Try.isAgg4
  z4 := Try.sizeOf4
  v4 := Try.zeroValue4
  t23 := Try.underlying102
  a23 := Try.isAgg102
  z23 := Try.sizeOf102
  v23 := Try.zeroValue102
  t26 := Try.underlying3
  a26 := Try.isAgg3
  z26 := Try.sizeOf3
  v26 := Try.zeroValue3
  t27 := Try.underlying99
  a27 := Try.isAgg99
  z27 := Try.sizeOf99
  v27 := Try.zeroValue99
  t28 := Try.underlying100
  a28 := Try.isAgg100
  z28 := Try.sizeOf100
  v28 := Try.zeroValue100
  t33 := Try.underlying109
  a33 := Try.isAgg109
  z33 := Try.sizeOf109
  v33 := Try.zeroValue109 }
def Try.sortedZ_ren : Go.Shelf.Ren := ⟨fun | 6 => 68 | 8 => 76 | 9 => 77 | 11 => 84 | 13 => 86 | 12 => 85 | 23 => 97 | 24 => 98 | 14 => 88 | 15 => 89 | 16 => 90 | 17 => 91 | 18 => 92 | 19 => 93 | 20 => 94 | 21 => 95 | 22 => 96 | 25 => 103 | 26 => 104 | 27 => 105 | 28 => 106 | 29 => 107 | 30 => 108 | 31 => 116 | n => n, fun | 26 => 3 | 28 => 100 | 24 => 79 | 0 => 0 | 3 => 3 | 37 => 117 | 48 => 35 | 50 => 131 | 4 => 4 | 40 => 123 | 39 => 122 | 45 => 127 | 5 => 5 | 9 => 9 | 51 => 134 | 55 => 138 | 57 => 149 | 58 => 88 | 33 => 109 | n => n, fun | n => n⟩
theorem Try.sortedZ : Go.Proofs.SlLaysZI.n6 Try.prog Try.sortedZ_ren := {
  mixed := by kernel_rfl
  f6 := ⟨Try.f68.name, by decide, Try.func68.trans (congrArg some (by kernel_rfl))⟩
  f8 := ⟨Try.f76.name, by decide, Try.func76.trans (congrArg some (by kernel_rfl))⟩
  f11 := ⟨Try.f84.name, by decide, Try.func84.trans (congrArg some (by kernel_rfl))⟩
  t0 := Try.underlying0
  a0 := Try.isAgg0
  z0 := Try.sizeOf0
  v0 := Try.zeroValue0
  t24 := Try.underlying79
  a24 := Try.isAgg79
  z24 := Try.sizeOf79
  v24 := Try.zeroValue79
  t26 := Try.underlying3
  a26 := Try.isAgg3
  z26 := Try.sizeOf3
  v26 := Try.zeroValue3
  t28 := Try.underlying100
  a28 := Try.isAgg100
  z28 := Try.sizeOf100
  v28 := Try.zeroValue100
  i26 := by kernel_rfl }
def Try.sortZ_ren : Go.Shelf.Ren := ⟨fun | 5 => 77 | 8 => 86 | 7 => 85 | 19 => 97 | 20 => 98 | 10 => 88 | 11 => 89 | 12 => 90 | 13 => 91 | 14 => 92 | 15 => 93 | 16 => 94 | 17 => 95 | 18 => 96 | 30 => 103 | 31 => 104 | 32 => 105 | 33 => 106 | 34 => 107 | 35 => 108 | 40 => 116 | n => n, fun | 23 => 79 | 25 => 3 | 3 => 3 | 32 => 117 | 22 => 79 | 0 => 0 | 44 => 35 | 46 => 131 | 4 => 4 | 36 => 123 | 35 => 122 | 41 => 127 | 5 => 5 | 9 => 9 | 53 => 134 | 57 => 138 | 63 => 149 | 64 => 88 | n => n, fun | n => n⟩
theorem Try.sortZ : Go.Proofs.SlLaysM.n5 Try.prog Try.sortZ_ren := {
  mixed := by kernel_rfl
  f5 := ⟨Try.f77.name, by decide, Try.func77.trans (congrArg some (by kernel_rfl))⟩
  f7 := ⟨Try.f85.name, by decide, Try.func85.trans (congrArg some (by kernel_rfl))⟩
  f8 := Try.func86.trans (congrArg some (by kernel_rfl))
  f10 := ⟨Try.f88.name, by decide, Try.func88.trans (congrArg some (by kernel_rfl))⟩
  f11 := ⟨Try.f89.name, by decide, Try.func89.trans (congrArg some (by kernel_rfl))⟩
  f12 := ⟨Try.f90.name, by decide, Try.func90.trans (congrArg some (by kernel_rfl))⟩
  f13 := ⟨Try.f91.name, by decide, Try.func91.trans (congrArg some (by kernel_rfl))⟩
  f14 := ⟨Try.f92.name, by decide, Try.func92.trans (congrArg some (by kernel_rfl))⟩
  f15 := ⟨Try.f93.name, by decide, Try.func93.trans (congrArg some (by kernel_rfl))⟩
  f16 := ⟨Try.f94.name, by decide, Try.func94.trans (congrArg some (by kernel_rfl))⟩
  f17 := ⟨Try.f95.name, by decide, Try.func95.trans (congrArg some (by kernel_rfl))⟩
  f18 := ⟨Try.f96.name, by decide, Try.func96.trans (congrArg some (by kernel_rfl))⟩
  f19 := Try.func97.trans (congrArg some (by kernel_rfl))
  f20 := Try.func98.trans (congrArg some (by kernel_rfl))
  f30 := ⟨Try.f103.name, by decide, Try.func103.trans (congrArg some (by kernel_rfl))⟩
  f31 := Try.func104.trans (congrArg some (by kernel_rfl))
  f32 := Try.func105.trans (congrArg some (by kernel_rfl))
  f33 := ⟨Try.f106.name, by decide, Try.func106.trans (congrArg some (by kernel_rfl))⟩
  f34 := ⟨Try.f107.name, by decide, Try.func107.trans (congrArg some (by kernel_rfl))⟩
  f35 := ⟨Try.f108.name, by decide, Try.func108.trans (congrArg some (by kernel_rfl))⟩
  f40 := ⟨Try.f116.name, by decide, Try.func116.trans (congrArg some (by kernel_rfl))⟩
  t0 := Try.underlying0
  a0 := Try.isAgg0
  z0 := Try.sizeOf0
  v0 := Try.zeroValue0
  t3 := Try.underlying3
  a3 := Try.isAgg3
  z3 := Try.sizeOf3
  v3 := Try.zeroValue3
  t4 := Try.underlying4
  a4 := Try.isAgg4
  z4 := Try.sizeOf4
  v4 := Try.zeroValue4
  t5 := Try.underlying5
  a5 := Try.isAgg5
  z5 := Try.sizeOf5
  v5 := Try.zeroValue5
  t9 := Try.underlying9
  a9 := Try.isAgg9
  z9 := Try.sizeOf9
  v9 := Try.zeroValue9
  t22 := Try.underlying79
  a22 := Try.isAgg79
  z22 := Try.sizeOf79
  v22 := Try.zeroValue79
  t23 := Try.underlying79
  a23 := Try.isAgg79
  z23 := Try.sizeOf79
  v23 := Try.zeroValue79
  t25 := Try.underlying3
  a25 := Try.isAgg3
  z25 := Try.sizeOf3
  v25 := Try.zeroValue3
  t32 := Try.underlying117
  a32 := Try.isAgg117
  z32 := Try.sizeOf117
  v32 := Try.zeroValue117
  t35 := Try.underlying122
  a35 := Try.isAgg122
  z35 := Try.sizeOf122
  v35 := Try.zeroValue122
  t36 := Try.underlying123
  a36 := Try.isAgg123
  z36 := Try.sizeOf123
  v36 := Try.zeroValue123
  t41 := Try.underlying127
  a41 := Try.isAgg127
  z41 := Try.sizeOf127
  v41 := Try.zeroValue127
  t44 := Try.underlying35
  a44 := Try.isAgg35
  z44 := Try.sizeOf35
  v44 := Try.zeroValue35
  t46 := Try.underlying131
  a46 := Try.isAgg131
  z46 := Try.sizeOf131
  v46 := Try.zeroValue131
  t53 := Try.underlying134
  a53 := Try.isAgg134
  z53 := Try.sizeOf134
  v53 := Try.zeroValue134
  t57 := Try.underlying138
  a57 := Try.isAgg138
  z57 := Try.sizeOf138
  v57 := Try.zeroValue138
  t63 := Try.underlying149
  a63 := Try.isAgg149
  z63 := Try.sizeOf149
  v63 := Try.zeroValue149
  t64 := Try.underlying88
  a64 := Try.isAgg88
  z64 := Try.sizeOf88
  v64 := Try.zeroValue88 }
end Go.Proofs

/- tiles: Touched. -/
namespace Go.Proofs.Ytajoipmchgabfaa
open Go.RowKit Go.Maps Go.Sort Go.Shelf

/-- slices.Sort's two contracts, at the fence that asks nothing. -/
theorem sortsZ (m : Nat) : AnyZI.SortsIn Try.prog Try.sortedZ_ren Fence.wide m :=
  ⟨fun blk off cap ss W hH hblk hsz => callsIn_wide.2 (AnyM.slices_Sort_int Try.sortZ blk off cap ss W hH hblk hsz),
   fun p cap W => callsIn_wide.2 (AnyM.slices_Sort_int_none Try.sortZ p cap W)⟩

theorem keysZ_any (M : Option Nat) (W : World) : Calls Try.prog 69 #[.map M] W fun e w' => e = .returned (.func (.func 78) #[] #[.pointer (some ⟨W.heap.size, 0, none⟩)]) ∧ w' = W.alloc (.cells #[.map M] 102) :=
  (callsIn_wide (n := 5)).1 (AnyZI.keys_in Try.keysZ Fence.wide 5 trivial rfl M W)

theorem sortedZ_any (M nn : Nat) (D0 : DataW Value) (W : World) (hown : W.ownsMap Try.prog 3 relV M nn D0) (hsz : Maps.size D0 ≤ 4096) :
    Calls Try.prog 68 #[.func (.func 78) #[] #[.pointer (some ⟨W.heap.size, 0, none⟩)]] (W.alloc (.cells #[.map (some M)] 102)) fun e w' => ∃ (v : Value) (ss : List Int), e = .returned v ∧ ss.Perm (intKeys D0) ∧
      w'.ownsRow W.heap.size 3 1 v ss.length ((ss.mergeSort (fun x y => decide (x ≤ y))).map encZ) ∧ Below W.heap.size W w' := by
  have hbl := hown.lt
  have hseq : SeqGives Fence.wide 2 Try.prog 78 #[.pointer (some ⟨W.heap.size, 0, none⟩)] encZ (fun ss => ss.Perm (intKeys D0)) (Maps.size D0) (W.alloc (.cells #[.map (some M)] 102)) :=
    AnyZI.keys_gives (ρ := Try.keysZ_ren) { Try.keysZ with } Fence.wide _ trivial rfl (by omega) W.heap.size M nn D0 _ (by simp) (by simp) (by
      obtain ⟨es, clock, hb, Ft, hs, hD⟩ := hown
      exact ⟨es, clock, (Below.heap_alloc _ _ M hbl).trans hb, Ft, hs, hD⟩)
  have cS := AnyZI.sorted_in Try.sortedZ Fence.wide 5 trivial trivial trivial trivial rfl (by omega) (sortsZ _) (enters_of Try.func77 (by kernel_rfl) rfl) 78 #[.pointer (some ⟨W.heap.size, 0, none⟩)] trivial (enters_of Try.func78 (by kernel_rfl) rfl) _ _ (by simp only [maxLen]; omega) (by omega) _ hseq
  change CallsIn _ _ Try.prog 68 _ _ _ at cS
  refine Calls.mono ((callsIn_wide (n := 5)).1 cS) ?_
  rintro e w' ⟨v, ss, rfl, hS, hrow, hnil, hb⟩
  exact ⟨v, ss, rfl, hS, owns_baseT hrow (by simp), (Below.al1 W _).trans (hb.mono (by simp))⟩

/-- The numbers of the tiles that have a piece. -/
def tcE (N : Nat) (E : List (Nat × Rc)) : List Nat := (List.range N).filter fun i => !(ofN E i).isEmpty
def tcL (pw ph : Nat) (l : List Rc) : List Nat := tcE (tlN pw ph) (pcsL pw ph (ptL pw ph l))
def intV (i : Nat) : Value := .int .i64 (i : Int)
theorem tc_mem {N : Nat} {E : List (Nat × Rc)} {i : Nat} : i ∈ tcE N E ↔ i < N ∧ ofN E i ≠ [] := by
  unfold tcE
  rw [List.mem_filter, List.mem_range]
  cases ofN E i <;> simp
theorem tc_keys {N : Nat} {E : List (Nat × Rc)} (hN : ∀ i, ofN E i ≠ [] → i < N) {w0 w : World} {b8 M N0 : Nat} {T : Nat → Prop} {F : Nat → Option Value} (h : PcF w0 b8 M N0 T F E w) :
    ∃ D, w.ownsMap Try.prog 3 relV M E.length D ∧ ((tcE N E).map fun (i : Nat) => (i : Int)).Perm (intKeys D) := by
  obtain ⟨D, hD, hI, hF⟩ := h.map
  obtain ⟨es, rfl, hpw, -⟩ := hD.entries mk_keyed
  refine ⟨_, hD, perm_intKeys hpw ?_ ?_ fun x => ?_⟩
  · obtain ⟨es', e, he⟩ := hI
    cases e
    exact he
  · refine List.pairwise_map.2 ((List.nodup_range.filter _).imp fun {a b} hne e => hne ?_)
    omega
  · rw [(hF x).1, List.mem_map]
    constructor
    · rintro ⟨i, hi, rfl⟩
      rw [intF_nat]
      have := h.yes i (tc_mem.1 hi).2
      cases hv : F i with
      | none => exact absurd hv this
      | some v => rfl
    · intro hs
      unfold intF at hs
      by_cases hx : 0 ≤ x
      · rw [if_pos hx] at hs
        have hne : ofN E x.toNat ≠ [] := fun e => by rw [h.no _ e] at hs; cases hs
        exact ⟨x.toNat, tc_mem.2 ⟨hN _ hne, hne⟩, by omega⟩
      · rw [if_neg hx] at hs; cases hs
theorem tc_sorted (N : Nat) (E : List (Nat × Rc)) : ((tcE N E).map fun (i : Nat) => (i : Int)).mergeSort (fun x y => decide (x ≤ y)) = (tcE N E).map fun (i : Nat) => (i : Int) := by
  refine List.mergeSort_of_pairwise (List.pairwise_map.2 ?_)
  refine List.Pairwise.imp (R := fun a b => a < b) (fun {a b} h => by simp; omega) ?_
  exact List.Pairwise.filter _ List.pairwise_lt_range

set_option maxHeartbeats 1000000 in
theorem touched_any (v : Value) (l : List Rc) (w h : Int) (W : World) (hv : Row encR 4 W v l) (hf : ∀ r ∈ l, Fit r) (hl : l.length ≤ 1048576) :
    Calls Try.prog 46 #[v, .int .i64 w, .int .i64 h] W fun e w' => ∃ v', e = .returned v' ∧ w'.ownsRow W.heap.size 3 1 v' (tcL (szW w h) (szH w h) l).length ((tcL (szW w h) (szH w h) l).map intV) ∧ Below W.heap.size W w' := by
  have hpw := szW_le w h
  have hph := szH_le w h
  have hpc := fun v W hv => pieces_any v l w h W hv hf hl
  obtain ⟨pw, hpwe⟩ : ∃ p, szW w h = p := ⟨_, rfl⟩
  obtain ⟨ph, hphe⟩ : ∃ p, szH w h = p := ⟨_, rfl⟩
  rw [hpwe] at hpw hpc ⊢
  rw [hphe] at hph hpc ⊢
  unfold tcL
  have HN := Lib.hid (fun i (hi : ofN (pcsL pw ph (ptL pw ph l)) i ≠ []) => by
    obtain ⟨r, hr⟩ := List.exists_mem_of_ne_nil _ hi
    exact (pcs_mem hpw hph (ptL_in pw ph l) hr).1)
  obtain ⟨E, hE⟩ : ∃ E, pcsL pw ph (ptL pw ph l) = E := ⟨_, rfl⟩
  rw [hE] at hpc HN ⊢
  have Hpc := Lib.hid hpc
  have Hv := Lib.hid hv
  have H256 := Lib.hid (tlN_le hpw hph)
  clear hpc hpwe hphe hE hv hf hl
  go_enter Try.func46, Try.ntmps46
  go_wp2_with fail
  refine Calls.mono (Hpc.out v W Hv.out) ?_
  rintro _ w1 ⟨M, b8, N0, F, rfl, hP⟩
  obtain ⟨D, hD, hperm⟩ := tc_keys HN.out hP
  have HbW := Lib.hid hP.bel
  have HD := Lib.hid hD
  have Hperm := Lib.hid hperm
  have Hsz : Hid (Maps.size D ≤ 4096) := Lib.hid (by
    have h1 := hperm.length_eq
    rw [List.length_map] at h1
    have h2 : (tcE (tlN pw ph) E).length ≤ tlN pw ph := by unfold tcE; have := List.length_filter_le (fun i => !(ofN E i).isEmpty) (List.range (tlN pw ph)); simpa using this
    have h3 := H256.out
    obtain ⟨es, rfl, -, -⟩ := hD.entries mk_keyed
    have h4 : (intKeys (.map es : DataW Value)).length = es.length := by simp [intKeys]
    rw [Maps.size_eq]; omega)
  clear hP hD hperm
  go_wp2_with fail
  refine Calls.mono (keysZ_any (some M) w1) ?_
  rintro _ w2 ⟨rfl, rfl⟩
  have Hso := Lib.hid (sortedZ_any M E.length D w1 HD.out Hsz.out)
  generalize w1.alloc (.cells #[.map (some M)] 102) = w2 at *
  go_wp2_with fail
  refine Calls.mono Hso.out ?_
  rintro _ w3 ⟨v', ss, rfl, hS, hrow, hb⟩
  have hq : ss.mergeSort (fun x y => decide (x ≤ y)) = (tcE (tlN pw ph) E).map fun (i : Nat) => (i : Int) := by
    rw [← tc_sorted]
    exact mergeSort_of_perm_i (hS.trans Hperm.out.symm)
  have hlen : ss.length = (tcE (tlN pw ph) E).length := by
    have h1 := (hS.trans Hperm.out.symm).length_eq
    rwa [List.length_map] at h1
  have e : ((tcE (tlN pw ph) E).map fun (i : Nat) => (i : Int)).map encZ = (tcE (tlN pw ph) E).map intV := by rw [List.map_map]; rfl
  rw [hq, hlen, e] at hrow
  have Hrow := Lib.hid hrow
  have Hb := Lib.hid hb
  clear hrow hb hq hlen e hS Hso
  go_wp2
  go_ret
  exact ⟨_, rfl, owns_baseT Hrow.out HbW.out.size, Below.thn HbW.out Hb.out⟩

end Go.Proofs.Ytajoipmchgabfaa
