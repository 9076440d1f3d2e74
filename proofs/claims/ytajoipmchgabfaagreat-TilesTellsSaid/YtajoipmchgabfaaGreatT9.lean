/- region's acrosses: the left and right edges of the rectangles that begin. -/
import Derived.Test.YtajoipmchgabfaaGreatT6
import Derived.Test.YtajoipmchgabfaaGreatT8
namespace Go.Proofs.YtajoipmchgabfaaGreat
open Go.RowKit

theorem cells_new_at (w : World) (c : Array Value) (t : TypeId) (n j : Nat) (u : Value) (hn : n = w.heap.size) (h : c.toList[j]? = some u) : (w.alloc (.cells c t)).cell? ((⟨n, 0, none⟩ : Addr).add j) = some u := by
  subst hn; exact cells_new' w c t j u h

def acrossL (l : List Ed) : List Ed := l.flatMap fun e => if e.tu = 1 then [⟨e.rc.x, e.li, 1, e.rc⟩, ⟨e.rc.x + e.rc.a, e.li, -1, e.rc⟩] else []

theorem acrossL_take (l : List Ed) (j : Nat) (h : j < l.length) : acrossL (l.take (j + 1)) = acrossL (l.take j) ++ if l[j].tu = 1 then [⟨l[j].rc.x, l[j].li, 1, l[j].rc⟩, ⟨l[j].rc.x + l[j].rc.a, l[j].li, -1, l[j].rc⟩] else [] := by
  rw [List.take_succ_eq_append_getElem h, acrossL, List.flatMap_append]; simp [acrossL]
theorem acrossL_len (l : List Ed) : (acrossL l).length ≤ 2 * l.length := by
  induction l with
  | nil => simp [acrossL]
  | cons e l ih =>
    simp only [acrossL, List.flatMap_cons, List.length_append, List.length_cons] at ih ⊢
    have : (if e.tu = 1 then ([⟨e.rc.x, e.li, 1, e.rc⟩, ⟨e.rc.x + e.rc.a, e.li, -1, e.rc⟩] : List Ed) else []).length ≤ 2 := by split <;> simp
    omega

set_option maxRecDepth 100000 in
set_option maxHeartbeats 2000000 in
theorem acrosses_any (v : Value) (l : List Ed) (w : World) (hv : Row encE 7 w v l) (hg : ∀ e ∈ l, GoodEd e) (hlen : l.length ≤ 1073741824) :
    Calls Tryz.prog 85 #[v] w fun e w' => ∃ u d, e = .returned u ∧ d.Perm (acrossL l) ∧ SortedPl d ∧ w'.ownsRow w.heap.size 116 7 u d.length (flatE d) ∧ Below w.heap.size w w' := by
  obtain ⟨p, cap, rfl, -, -, hp⟩ := hv
  have hl63 : l.length ≤ 9223372036854775807 := by omega
  have Hlen := Lib.hid hlen
  clear hlen
  obtain ⟨i0, hi, hz0, hz1, hz2⟩ := info_parts ed_info
  go_enter Tryz.func85, Tryz.ntmps85
  go_wp2
  go_loopw [3, 8] (fun v i wr => ∃ j : Nat, j ≤ l.length ∧ i = .int .i64 j ∧ wr.ownsRow w.heap.size 116 7 v (acrossL (l.take j)).length (flatE (acrossL (l.take j))) ∧ Below w.heap.size w wr) (fun _ i _ => l.length - (intOf i).toNat)
  case atStart => exact ⟨0, by omega, rfl, World.ownsRow_nil _ _ _ _, Below.refl _ _⟩
  case round =>
    obtain ⟨j, hj, rfl, hown, hbw⟩ := hrel
    by_cases hjl : j < l.length
    · have hrl := hp.below hbw
      obtain ⟨bb, off, rfl, hB, hc⟩ := hrl.ed hjl
      obtain ⟨c0, c1, c2, c3, c4, c5, c6⟩ := hc j hjl
      have hge := hg l[j] (List.getElem_mem hjl)
      have Htk := Lib.hid (acrossL_take l j hjl)
      have Hlj := Lib.hid (acrossL_len (l.take j))
      have hbd := emptyR_false.1 hge.2.2
      clear hc hrl
      generalize l[j] = r at *
      have Hown := Lib.hid hown
      clear hown
      by_cases htu : r.tu = 1
      · have htu' : ((r.tu : Int) == 1) = true := by simpa using htu
        have Htu := Lib.hid htu
        clear htu hge
        go_wp2_with (at_builtin; refine wpList_append_mine _ rfl (.tmp 15) (.tmp 36) 103 rfl w.heap.size 116 i0 _ 7 56 Tryz.underlying103 hi hz0 hz1 hz2 rfl (by decide) _ _ _ rfl ((Hown.out.alloc _).alloc _) (some ⟨wr.heap.size + 1, 0, none⟩) 2 2 (flatE [⟨r.rc.x, r.li, 1, r.rc⟩, ⟨r.rc.x + r.rc.a, r.li, -1, r.rc⟩]) rfl rfl ?c1 ?c2 ?c3 ?c4 ?c5 ?_)
        case c1 => exact .inr ⟨_, rfl, fun j u hu => cells_new_at (wr.alloc _) _ _ _ j u (by simp) hu⟩
        case c2 => exact encE_one _
        case c3 => have h1 := Hlen.out; have h2 := Hlj.out; rw [List.length_take] at h2; simp only [maxLen]; omega
        case c4 => have h1 := Hlen.out; have h2 := Hlj.out; rw [List.length_take] at h2; omega
        case c5 => have := hbw.size; simp; omega
        intro v' w3 hown' hgrow hpl
        have Hbw3 : Hid (Below w.heap.size w w3) := Lib.hid ((Below.al (Below.al hbw _) _).grown hgrow (by have := hbw.size; simp; omega) (fun k' e => (Hown.out.lt k' e).1))
        have Hres : (w3.ownsRow w.heap.size 116 7 v' (acrossL (l.take (j + 1))).length (flatE (acrossL (l.take (j + 1))))) := by
          rw [Htk.out, Htu.out]
          have h5 := hown'
          simp only [flatE, ← List.flatMap_append] at h5
          simpa [flatE] using h5
        have HRes := Lib.hid Hres
        clear hown' hgrow hpl Hres
        go_wp2
        go_roundw
        case rel => exact ⟨j + 1, by omega, by go_num, HRes.out, Hbw3.out⟩
        case measure => simp [intOf]; omega
      · have htu' : ((r.tu : Int) == 1) = false := by simpa using htu
        have Hres := Lib.hid (show acrossL (l.take (j + 1)) = acrossL (l.take j) by rw [Htk.out, if_neg htu]; simp)
        clear htu hge
        have Hown3 := Lib.hid (Hown.out.alloc (.cells #[.int .i64 r.pl, .int .i64 r.li, .int .i64 r.tu, .int .i64 r.rc.x, .int .i64 r.rc.y, .int .i64 r.rc.a, .int .i64 r.rc.b] 116))
        go_wp2
        go_roundw
        case rel => exact ⟨j + 1, by omega, by go_num, by rw [Hres.out]; exact Hown3.out, Below.al hbw _⟩
        case measure => simp [intOf]; omega
    · obtain rfl : j = l.length := by omega
      rw [List.take_length] at hown
      have hlen2 : (acrossL l).length < 4611686018427387904 := by
        have h1 := acrossL_len l
        have h2 := Hlen.out
        omega
      have hs := sortEdges_any w.heap.size u3 (acrossL l) wr hlen2 hown
      have Hown := Lib.hid hown
      clear hown hlen2
      go_wp2_with fail
      refine Calls.mono hs ?_
      rintro e w2 ⟨rfl, ys, hp, hso, hown2, hg⟩
      have Hb2 := Lib.hid (hbw.grown hg hbw.size (fun k' e => (Hown.out.lt k' e).1))
      have Hp := Lib.hid hp
      have Hso := Lib.hid hso
      have Hown2 := Lib.hid hown2
      clear hp hso hown2 hg hs
      go_wp2
      go_ret
      exact ⟨_, ys, rfl, Hp.out, Hso.out, by rw [Hp.out.length_eq]; exact Hown2.out, Hb2.out⟩

end Go.Proofs.YtajoipmchgabfaaGreat
