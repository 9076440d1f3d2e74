/- Several texts in one, each with its own head. -/
import Derived.Test.YtoladolgmeanhaaGreatQc46
namespace Go.Proofs.YtoladolgmeanhaaGreat
theorem byts_lt : ∀ (N m : Nat), ∀ b ∈ byts N m, b < 256
  | _, 0, b, h => by cases h
  | N, m + 1, b, h => by
    rcases List.mem_cons.1 h with rfl | h
    · omega
    · exact byts_lt _ m b h
theorem plTri_flat : ∀ cs : List Nat, (∀ c ∈ cs, c < 16777216) → plTri (cs.flatMap plB) = cs
  | [], _ => rfl
  | c :: r, h => by
    have := h c (by simp)
    show (c / 65536 * 65536 + c / 256 % 256 * 256 + c % 256) :: plTri (r.flatMap plB) = _
    rw [plTri_flat r (fun x hx => h x (by simp [hx])), show c / 65536 * 65536 + c / 256 % 256 * 256 + c % 256 = c by omega]
theorem cdP_tri (l : List Nat) : plTri (cdP l) = l.map rlw := plTri_flat _ (fun c hc => by
  obtain ⟨y, -, rfl⟩ := List.mem_map.1 hc
  exact rlw_lt y)
open Go.RowKit
instance : Inhabited Tr := ⟨.leaf 0 0⟩
end Go.Proofs.YtoladolgmeanhaaGreat

namespace Go.Proofs.YtoladolgmeanhaaGreat
section
variable {l : List Nat} {m : Nat}
theorem Cut.has (h : Cut l m) {i : Nat} (hi : i < l.length) (hp : 0 < Proofs.YtoladolgmeanhaaGreat.lq l i) : i < m := by
  rcases Nat.lt_or_ge i m with h1 | h1
  · exact h1
  · have := h.z i h1 hi; omega
end
end Go.Proofs.YtoladolgmeanhaaGreat

namespace Go.Proofs.YtoladolgmeanhaaGreat
open Go.RowKit
attribute [local go_sem] Oper.semAt_some
set_option maxRecDepth 20000 in
theorem pslice_tail8 {w : World} {g off n c S : Nat} {l : List Nat} (h : RowAt enc8 1 w (some ⟨g, off, none⟩) l) (hn : l.length = n) (hS : S ≤ n) (hc : n ≤ c) :
    ∃ p' c', (∀ w' : World, (Instr.slice 25 (.slice (some ⟨g, off, none⟩) n c) (some (.int .i64 (S : Int))) none none).run Tryz.prog w' = .ok (.slice p' (n - S) c') w') ∧ RowAt enc8 1 w p' (l.drop S) ∧ n - S ≤ c' ∧ c' ≤ c ∧ p' ≠ none := by
  obtain ⟨i, hi, hz, hs, hb⟩ := info_parts u8_info
  have hrun : ∀ w' : World, (Instr.slice 25 (.slice (some ⟨g, off, none⟩) n c) (some (.int .i64 (S : Int))) none none).run Tryz.prog w' = .ok (if c = S then .slice (some ⟨g, off, none⟩) (n - S) 0 else .slice (some ⟨g, off + S, none⟩) (n - S) (c - S)) w' := fun w' => by
    rw [run_slice_l w' 25 (some ⟨g, off, none⟩) n c (by kernel_rfl) .i64 (S : Int) (by omega) (by omega), Int.toNat_natCast]
    by_cases hcs : c = S
    · subst hcs
      simp [go_sem]
    · simp [go_sem, hcs, Addr.add]
  rcases h with ⟨h, -⟩ | ⟨b, o, e, hb, hcl⟩
  · cases h
  cases e
  by_cases hcs : c = S
  · refine ⟨_, 0, fun w' => by rw [hrun, if_pos hcs], .inr ⟨_, _, rfl, hb, fun i x hi => ?_⟩, by omega, by omega, by simp⟩
    rw [List.drop_of_length_le (by omega)] at hi
    simp at hi
  · refine ⟨_, c - S, fun w' => by rw [hrun, if_neg hcs], .inr ⟨_, _, rfl, hb, fun i x hi j u hu => ?_⟩, by omega, by omega, by simp⟩
    rw [List.getElem?_drop] at hi
    have := hcl (S + i) x hi j u hu
    rw [Nat.mul_one] at this ⊢
    rw [← this]
    congr 2
    omega
end Go.Proofs.YtoladolgmeanhaaGreat

namespace Go.Proofs.YtoladolgmeanhaaGreat
open Go.RowKit
attribute [local go_sem] Oper.semAt_some
attribute [local go_sem] run_store_funcC
instance (wd ht : Int) (n : Nat) : Decidable (cdM wd ht n) := by unfold cdM; infer_instance
end Go.Proofs.YtoladolgmeanhaaGreat

namespace Go.Proofs.YtoladolgmeanhaaGreat
open Go.RowKit
attribute [local go_sem] Oper.semAt_some
theorem results_ci {fn : Func} {p : Tmp} {tmps : Array Value} {w : World} {B : Nat} {wd ht : Int} {v : Value} (h : fn.results = #[.cell p 24]) (hp : tmps.getD p undef = .pointer (some ⟨B, 0, none⟩))
    (c0 : w.cell? ⟨B, 0, none⟩ = some (.int .i64 wd)) (c1 : w.cell? ⟨B, 1, none⟩ = some (.int .i64 ht)) (c2 : w.cell? ⟨B, 2, none⟩ = some v) (hv : ∃ a n c, v = .slice a n c) : (results fn tmps).run Tryz.prog w = .ok (ImgV wd ht v) w := by
  obtain ⟨a, n, c, rfl⟩ := hv
  have hp' : tmps[p]?.getD undef = .pointer (some ⟨B, 0, none⟩) := by simpa using hp
  simp [results, h, hp', go_sem, c0, c1, c2, ImgV]
set_option maxRecDepth 20000 in
set_option maxHeartbeats 4000000 in
theorem ccut_any (wd ht : Int) (p : Option Addr) (c : Nat) (l : List Nat) (w : World) (hp : RowAt encP 1 w p l) (hl : l.length ≤ 1048576) :
    Calls Tryz.prog 19 #[.agg #[.int .i64 wd, .int .i64 ht, .slice p l.length c]] w fun e w' => ∃ v, e = .returned (ImgV wd ht v) ∧ w'.ownsRow w.heap.size 41 1 v (l.map rlw).length ((l.map rlw).map pxv) ∧ Below w.heap.size w w' := by
  have h2 := Below.al2 w (.cells #[.int .i64 wd, .int .i64 ht, .slice p l.length c] 24) (.cells #[.int .i64 0, .int .i64 0, .slice none 0 0] 24)
  have H := rcut_any p c l _ (hp.below h2) hl
  have hg := heap_pushed [.cells #[.int .i64 wd, .int .i64 ht, .slice p l.length c] 24, .cells #[.int .i64 0, .int .i64 0, .slice none 0 0] 24] w
  have hs : ((w.alloc (.cells #[.int .i64 wd, .int .i64 ht, .slice p l.length c] 24)).alloc (.cells #[.int .i64 0, .int .i64 0, .slice none 0 0] 24)).heap.size = w.heap.size + 1 + 1 := by rw [World.size_alloc, World.size_alloc]
  simp only [List.foldl_cons, List.foldl_nil] at hg
  obtain ⟨n, hn⟩ : ∃ n, l.length = n := ⟨_, rfl⟩
  rw [hn] at H h2 hg hs ⊢
  clear hp hn hl
  go_enter Tryz.func19, Tryz.ntmps19
  go_upto_region 1 with (fail)
  generalize (w.alloc (.cells #[.int .i64 wd, .int .i64 ht, .slice p n c] 24)).alloc (.cells #[.int .i64 0, .int .i64 0, .slice none 0 0] 24) = W at *
  have g0 := (hg 0 _).2 rfl
  have g1 := (hg 1 _).2 rfl
  rw [Nat.add_zero] at g0
  have c0 : W.cell? ⟨w.heap.size, 0, none⟩ = some (.int .i64 wd) := cell_heap g0 rfl
  have c1 : W.cell? ⟨w.heap.size, 1, none⟩ = some (.int .i64 ht) := cell_heap g0 rfl
  have c2 : W.cell? ⟨w.heap.size, 2, none⟩ = some (.slice p n c) := cell_heap g0 rfl
  have f2 : W.frozen? ⟨w.heap.size, 2, none⟩ = false := by simp [World.frozen?, g0]
  have k0 : W.cell? ⟨w.heap.size + 1, 0, none⟩ = some (.int .i64 0) := cell_heap g1 rfl
  have k1 : W.cell? ⟨w.heap.size + 1, 1, none⟩ = some (.int .i64 0) := cell_heap g1 rfl
  have k2 : W.cell? ⟨w.heap.size + 1, 2, none⟩ = some (.slice none 0 0) := cell_heap g1 rfl
  have j0 : W.frozen? ⟨w.heap.size + 1, 0, none⟩ = false := by simp [World.frozen?, g1]
  have j1 : W.frozen? ⟨w.heap.size + 1, 1, none⟩ = false := by simp [World.frozen?, g1]
  have j2 : W.frozen? ⟨w.heap.size + 1, 2, none⟩ = false := by simp [World.frozen?, g1]
  have H2 := Lib.hid h2
  have Hs := Lib.hid hs
  clear hg g0 g1 h2 hs
  go_wp2_with fail
  refine Calls.mono H ?_
  rintro _ w1 ⟨v, rfl, ho, hb⟩
  rw [List.length_map] at ho
  obtain ⟨vp, vc, rfl⟩ := owns_slice ho
  have Ho := Lib.hid ho
  have Hb := Lib.hid (Below.thn H2.out hb)
  have q0 := cell_later hb c0
  have q1 := cell_later hb c1
  have q2 := cell_later hb c2
  have r2 := free_later hb c2 f2
  have m0 := cell_later hb k0
  have m1 := cell_later hb k1
  have m2 := cell_later hb k2
  have n0 := free_later hb k0 j0
  have n1 := free_later hb k1 j1
  have n2 := free_later hb k2 j2
  clear c0 c1 c2 f2 k0 k1 k2 j0 j1 j2 ho hb H
  go_upto_region 2 with (fail)
  have t1 : Turns (fun b => b = w.heap.size) w1 (w1.setCell ⟨w.heap.size, 2, none⟩ (.slice vp l.length vc)) := (Turns.refl (fun b => b = w.heap.size) w1).set (p := ⟨w.heap.size, 2, none⟩) rfl _
  have x0 : (w1.setCell ⟨w.heap.size, 2, none⟩ (.slice vp l.length vc)).cell? ⟨w.heap.size, 0, none⟩ = some (.int .i64 wd) := by simp [go_sem, q0]
  have x1 : (w1.setCell ⟨w.heap.size, 2, none⟩ (.slice vp l.length vc)).cell? ⟨w.heap.size, 1, none⟩ = some (.int .i64 ht) := by simp [go_sem, q1]
  have x2 : (w1.setCell ⟨w.heap.size, 2, none⟩ (.slice vp l.length vc)).cell? ⟨w.heap.size, 2, none⟩ = some (.slice vp l.length vc) := by simp [go_sem, q2]
  have hne : ¬ w.heap.size + 1 = w.heap.size := by omega
  have y0 := t1.cell m0 hne
  have y1 := t1.cell m1 hne
  have y2 := t1.cell m2 hne
  have z0 := t1.free m0 n0 hne
  have z1 := t1.free m1 n1 hne
  have z2 := t1.free m2 n2 hne
  have T1 := Lib.hid t1
  generalize w1.setCell ⟨w.heap.size, 2, none⟩ (.slice vp l.length vc) = w2 at *
  clear q0 q1 q2 r2 m0 m1 m2 n0 n1 n2 t1 hne
  go_wp2
  obtain ⟨u0, u1, u2, ut⟩ := img_set wd ht (.slice vp l.length vc) y0 y1 y2 _ rfl
  have hW := Hs.out
  refine bodyPost_ret (results_ci rfl rfl u0 u1 u2 ⟨_, _, _, rfl⟩) rfl ⟨_, rfl, ?_, ?_⟩
  · rw [List.length_map]
    refine ut.owns (T1.out.owns (owns_base Ho.out (by omega)) (fun i hi (h : i = w.heap.size) => ?_)) (fun i hi (h : i = w.heap.size + 1) => ?_)
    · have := (Ho.out.lt i hi).1; omega
    · have := (Ho.out.lt i hi).1; omega
  · have h1 : Below w.heap.size w w2 := Hb.out.trans (T1.out.below Hb.out.size fun i (hi : i = w.heap.size) => by omega)
    exact h1.trans (ut.below h1.size fun i (hi : i = w.heap.size + 1) => by omega)
end Go.Proofs.YtoladolgmeanhaaGreat
