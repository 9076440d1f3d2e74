/- region's downs and acrosses: the edges of rectangles, sorted. -/
import Derived.Test.YtjigdgfanpeibaaTC7
import Derived.Test.YtjigdgfanpeibaaTC1
namespace Go.Proofs.Ytjigdgfanpeibaa
open Go.RowKit

/-- The upper and lower edges of a list's rectangles that have pixels. -/
def edgesOf (li : Int) (rs : List Rc) : List Ed := rs.flatMap fun r => if emptyR r = true then [] else [⟨r.y, li, 1, r⟩, ⟨r.y + r.b, li, -1, r⟩]

theorem edgesOf_take (li : Int) (rs : List Rc) (j : Nat) (h : j < rs.length) : edgesOf li (rs.take (j + 1)) = edgesOf li (rs.take j) ++ if emptyR rs[j] = true then [] else [⟨rs[j].y, li, 1, rs[j]⟩, ⟨rs[j].y + rs[j].b, li, -1, rs[j]⟩] := by
  rw [List.take_succ_eq_append_getElem h, edgesOf, List.flatMap_append]; simp [edgesOf]
theorem edgesOf_len (li : Int) (rs : List Rc) : (edgesOf li rs).length ≤ 2 * rs.length := by
  induction rs with
  | nil => simp [edgesOf]
  | cons r rs ih =>
    simp only [edgesOf, List.flatMap_cons, List.length_append, List.length_cons] at ih ⊢
    have : (if emptyR r = true then ([] : List Ed) else [⟨r.y, li, 1, r⟩, ⟨r.y + r.b, li, -1, r⟩]).length ≤ 2 := by split <;> simp
    omega
def downsL (a b : List Rc) : List Ed := edgesOf 0 a ++ edgesOf 1 b

theorem ed_info : (Try.prog.info? 151).map (fun i => (i.zero, i.size, i.bytes)) = some (some (.agg #[.int .i64 0, .int .i64 0, .int .i64 0, .int .i64 0, .int .i64 0, .int .i64 0, .int .i64 0]), 7, 56) := by kernel_rfl

theorem encE_one (l : List Ed) : ∀ u ∈ flatE l, u.oneCell' = true := by
  intro u hu
  obtain ⟨e, _, he⟩ := List.mem_flatMap.1 hu
  simp [encE] at he
  rcases he with rfl | rfl | rfl | rfl | rfl | rfl | rfl <;> rfl

theorem cells_new' (w : World) (c : Array Value) (t : TypeId) (j : Nat) (u : Value) (h : c.toList[j]? = some u) : (w.alloc (.cells c t)).cell? ((⟨w.heap.size, 0, none⟩ : Addr).add j) = some u := by
  have hadd : (⟨w.heap.size, 0, none⟩ : Addr).add j = ⟨w.heap.size, j, none⟩ := by unfold Addr.add; split <;> simp_all
  rw [hadd]
  exact cell_at rfl (by simpa using h)

def downsUpto (a b : List Rc) : Nat → List Ed
  | 0 => []
  | 1 => edgesOf 0 a
  | _ => downsL a b

set_option maxRecDepth 100000 in
set_option maxHeartbeats 2000000 in
theorem downs_any (va vb : Value) (a b : List Rc) (w : World) (ha : Row encR 4 w va a) (hb : Row encR 4 w vb b) (hfa : ∀ r ∈ a, Fit r) (hfb : ∀ r ∈ b, Fit r) (hlen : a.length + b.length ≤ 268435456) :
    Calls Try.prog 103 #[va, vb] w fun e w' => ∃ u d, e = .returned u ∧ d.Perm (downsL a b) ∧ SortedPl d ∧ w'.ownsRow w.heap.size 151 7 u d.length (flatE d) ∧ Below w.heap.size w w' := by
  obtain ⟨pa, ca, rfl, -, -, hpa⟩ := ha
  obtain ⟨pb, cb, rfl, -, -, hpb⟩ := hb
  obtain ⟨i0, hi, hz0, hz1, hz2⟩ := info_parts ed_info
  go_enter Try.func103, Try.ntmps103
  go_wp2
  go_loopw [5, 13] (fun v i wr => ∃ k : Nat, k ≤ 2 ∧ i = .int .i64 k ∧ wr.ownsRow w.heap.size 151 7 v (downsUpto a b k).length (flatE (downsUpto a b k)) ∧ Below w.heap.size w wr) (fun _ i _ => 2 - (intOf i).toNat)
  case atStart => exact ⟨0, by omega, rfl, World.ownsRow_nil _ _ _ _, Below.refl _ _⟩
  case round =>
    obtain ⟨k, hk, rfl, hown, hbw⟩ := hrel
    by_cases hlt : k < 2
    · obtain ⟨p, rs, cap, hix, hrow, hfit, hL, hlrs, hln⟩ : ∃ (p : Option Addr) (rs : List Rc) (cap : Nat), (∀ w, (Instr.index 153 (.agg #[.slice pa a.length ca, .slice pb b.length cb]) (.int .i64 k)).run Try.prog w = .ok (.slice p rs.length cap) w) ∧ RowAt encR 4 w p rs ∧ (∀ r ∈ rs, Fit r) ∧ downsUpto a b (k + 1) = downsUpto a b k ++ edgesOf k rs ∧ (downsUpto a b k).length + 2 * rs.length ≤ 536870912 ∧ rs.length ≤ 268435456 := by
        have h1 := edgesOf_len 0 a
        obtain rfl | rfl : k = 0 ∨ k = 1 := by omega
        · exact ⟨pa, a, ca, fun _ => by kernel_rfl, hpa, hfa, by simp [downsUpto], by simp [downsUpto]; omega, by omega⟩
        · exact ⟨pb, b, cb, fun _ => by kernel_rfl, hpb, hfb, by simp [downsUpto, downsL], by simp [downsUpto]; omega, by omega⟩
      have Hown := Lib.hid hown
      have HL := Lib.hid hL
      have Hlrs := Lib.hid hlrs
      have hrl63 : rs.length ≤ 9223372036854775807 := by omega
      have hk2 : decide ((k : Int) < 2) = true := by simp; omega
      clear hL hown hlrs hln
      go_wp2
      go_loopw [5, 19] (fun v i wr => ∃ j : Nat, j ≤ rs.length ∧ i = .int .i64 j ∧ wr.ownsRow w.heap.size 151 7 v (downsUpto a b k ++ edgesOf k (rs.take j)).length (flatE (downsUpto a b k ++ edgesOf k (rs.take j))) ∧ Below w.heap.size w wr) (fun _ i _ => rs.length - (intOf i).toNat)
      case atStart => exact ⟨0, by omega, rfl, by simpa [edgesOf] using Hown.out, hbw⟩
      case round =>
        obtain ⟨j, hj, rfl, hown, hbw2⟩ := hrel
        by_cases hjl : j < rs.length
        · have hrl := hrow.below hbw2
          obtain ⟨bb, off, rfl, hB, hc⟩ := hrl.rc hjl
          obtain ⟨c0, c1, c2, c3⟩ := hc j hjl
          have hft := hfit rs[j] (List.getElem_mem hjl)
          have Htk := Lib.hid (edgesOf_take k rs j hjl)
          have Hlj := Lib.hid (edgesOf_len k (rs.take j))
          clear hc hrl
          generalize rs[j] = r at *
          have Hown2 := Lib.hid hown
          clear hown
          go_wp2_with fail
          refine Calls.mono (empty_any _ _ hft) ?_
          rintro e w2 ⟨rfl, hb2⟩
          have hl2 : Lies w2 wr.heap.size r := (Lies.new rfl).later hb2
          obtain ⟨l0, l1, l2, l3⟩ := hl2
          have Hb2 := Lib.hid hb2
          have Hbw2 : Hid (Below w.heap.size w w2) := Lib.hid (Below.thn hbw2 (Below.thn (Below.al1 _ _) hb2))
          have Hown3 := Lib.hid ((Turns.of_below' (T := fun _ => False) (Below.thn (Below.al1 wr (.cells #[.int .i64 r.x, .int .i64 r.y, .int .i64 r.a, .int .i64 r.b] 38)) hb2)).owns Hown2.out (fun _ _ h => h))
          clear hb2
          cases her : emptyR r
          · have Her := Lib.hid her
            have hbd := emptyR_false.1 her
            clear her
            go_wp2_with (at_builtin; refine wpList_append_mine _ rfl (.tmp 26) (.tmp 40) 129 rfl w.heap.size 151 i0 _ 7 56 Try.underlying129 hi hz0 hz1 hz2 rfl (by decide) _ _ _ rfl (Hown3.out.alloc _) (some ⟨w2.heap.size, 0, none⟩) 2 2 (flatE [⟨r.y, k, 1, r⟩, ⟨r.y + r.b, k, -1, r⟩]) rfl rfl ?c1 ?c2 ?c3 ?c4 ?c5 ?_)
            case c1 => exact .inr ⟨_, rfl, fun j u hu => cells_new' w2 _ _ j u hu⟩
            case c2 => exact encE_one _
            case c3 => have h1 := Hlrs.out; have h2 := Hlj.out; rw [List.length_take] at h2; simp only [maxLen, List.length_append]; omega
            case c4 => have h1 := Hlrs.out; have h2 := Hlj.out; rw [List.length_take] at h2; simp only [List.length_append]; omega
            case c5 => have := Hbw2.out.size; simp; omega
            intro v' w3 hown' hgrow hpl
            have Hown' := Lib.hid hown'
            have Hbw3 : Hid (Below w.heap.size w w3) := Lib.hid ((Below.al Hbw2.out _).grown hgrow (by have := Hbw2.out.size; simp; omega) (fun k' e => (Hown3.out.lt k' e).1))
            have Hres : (w3.ownsRow w.heap.size 151 7 v' (downsUpto a b k ++ edgesOf k (rs.take (j + 1))).length (flatE (downsUpto a b k ++ edgesOf k (rs.take (j + 1))))) := by
              rw [Htk.out, Her.out]
              have h5 := hown'
              simp only [flatE, ← List.flatMap_append, List.append_assoc] at h5
              simpa [flatE, Nat.add_assoc] using h5
            have HRes := Lib.hid Hres
            clear hown' hgrow hpl Hown' Hres
            go_wp2
            go_roundw
            case rel => exact ⟨j + 1, by omega, by go_num, HRes.out, Hbw3.out⟩
            case measure => simp [intOf]; omega
          · have Her := Lib.hid her
            clear her
            have Hres := Lib.hid (show (edgesOf k (rs.take (j + 1))) = edgesOf k (rs.take j) by rw [Htk.out, Her.out]; simp)
            go_wp2
            go_roundw
            case rel => exact ⟨j + 1, by omega, by go_num, by rw [Hres.out]; exact Hown3.out, Hbw2.out⟩
            case measure => simp [intOf]; omega
        · have hje : j = rs.length := by omega
          subst hje
          rw [List.take_length, ← HL.out] at hown
          have Hown2 := Lib.hid hown
          clear hown
          go_wp2
          go_roundw
          case rel => first | exact ⟨k + 1, by omega, by go_num, Hown2.out, hbw2⟩ | ((repeat apply Exists.intro); exact ⟨⟨k + 1, by omega, by go_num, Hown2.out, hbw2⟩, rfl⟩)
          case measure => simp [intOf]; omega
    · obtain rfl : k = 2 := by omega
      have hlen2 : (downsUpto a b 2).length < 4611686018427387904 := by
        have h1 := edgesOf_len 0 a
        have h2 := edgesOf_len 1 b
        simp [downsUpto, downsL]
        omega
      have hs := sortEdges_any w.heap.size u5 (downsUpto a b 2) wr hlen2 hown
      have Hown := Lib.hid hown
      clear hown hlen2
      go_wp2_with fail
      refine Calls.mono hs ?_
      rintro e w2 ⟨rfl, ys, hp, hso, hown2, hg⟩
      have Hb2 := Lib.hid (hbw.grown hg hbw.size (fun k' e => (Hown.out.lt k' e).1))
      have Hp := Lib.hid hp
      have Hso := Lib.hid hso
      have Hown2 := Lib.hid hown2
      clear hp hso hown2 hg hs
      go_wp2
      go_ret
      exact ⟨_, ys, rfl, Hp.out, Hso.out, by rw [Hp.out.length_eq]; exact Hown2.out, Hb2.out⟩

end Go.Proofs.Ytjigdgfanpeibaa
