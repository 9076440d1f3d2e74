/- The document's Codes of lengths that make a code. -/
import Derived.Test.YtpdfkgdgpofhbaaM839
import Derived.Test.YtpdfkgdgpofhbaaM840
import Derived.Test.YtpdfkgdgpofhbaaM84
namespace Go.Proofs.Ytpdfkgdgpofhbaa
open Go.RowKit

theorem sy_has {f : Nat → Nat} {n i : Nat} : ∀ {k : Nat}, i < k → f i = n → i ∈ sy f n k
  | 0, h, _ => by omega
  | k + 1, h, e => by
    unfold sy
    rcases Nat.lt_or_ge i k with h1 | h1
    · exact List.mem_append_left _ (sy_has h1 e)
    · obtain rfl : i = k := by omega
      refine List.mem_append_right _ ?_
      rw [if_pos e]
      exact List.mem_singleton.2 rfl
theorem al_has {f : Nat → Nat} {N i : Nat} (h0 : 0 < f i) (hi : i < N) : ∀ {n : Nat}, f i ≤ n → i ∈ al f N n
  | 0, h => by omega
  | n + 1, h => by
    rcases Nat.lt_or_ge (f i) (n + 1) with h1 | h1
    · exact List.mem_append_left _ (al_has h0 hi (by omega))
    · exact List.mem_append_right _ (sy_has hi (by omega))
theorem tl_iff {f : Nat → Nat} {N i : Nat} (h15 : ∀ i, i < N → f i ≤ 15) : i ∈ tl f N 15 0 ↔ i < N ∧ 0 < f i := by
  unfold tl
  rw [show sy f (15 + 1) 0 = [] from rfl, List.append_nil]
  exact ⟨fun h => ⟨(al_mem h).2.2, (al_mem h).1⟩, fun h => al_has h.2 h.1 (h15 i h.1)⟩

/-- Where the codes lie. -/
theorem OC.cells {w : World} {B : Nat} {o : Value} {f : Nat → Nat} {N : Nat} {l : List Nat} (h : OC w B o f N l) : ∃ p c, o = .slice p l.length c ∧ ∀ k (hk : k < l.length), ∃ b off, p = some ⟨b, off, none⟩ ∧ w.cell? ⟨b, off + k * 2, none⟩ = some (.int .i64 (l[k] : Int)) ∧ ∃ q cq, w.cell? ⟨b, off + k * 2 + 1, none⟩ = some (.slice q (f l[k]) cq) ∧ f l[k] ≤ cq ∧ cq ≤ maxLen ∧ BitsAt w q (rowOf f N l[k]) := by
  obtain ⟨xs, h1, h2, h3⟩ := h.ex
  have hl : l.length = xs.length := by rw [← h1, List.length_map]
  rw [hl] at h2
  obtain ⟨p, c, e, _, _, hr⟩ := owns_row' encC6_len h2
  refine ⟨p, c, by rw [hl]; exact e, fun k hk => ?_⟩
  have hk' : k < xs.length := by omega
  rcases hr with ⟨-, rfl⟩ | ⟨b, off, rfl, -, hc⟩
  · simp at hk'
  · have hx := List.getElem?_eq_getElem hk'
    have e1 : l[k] = xs[k].1 := by simp [← h1]
    obtain ⟨q, cq, e2, q1, q2, q3⟩ := (h3 xs[k] (List.getElem_mem hk')).1.rw.cells
    rw [rowOf_len, ← e1] at e2
    rw [rowOf_len, ← e1] at q1
    refine ⟨b, off, rfl, ?_, q, cq, ?_, q1, q2, ?_⟩
    · have := hc k _ hx 0 _ rfl
      rw [e1]; exact this
    · have := hc k _ hx 1 _ rfl
      rw [← e2]; exact this
    · rw [e1]; exact q3

set_option maxRecDepth 20000 in
set_option maxHeartbeats 2000000 in
theorem refCodes_ok (ls : List Nat) (v : Value) (w : World) (hv : Row enc8 1 w v ls) (hc : chk ls = 0) :
    Calls Try.prog 9 #[v] w fun e w' => ∃ v', e = .returned (.tuple #[v', .int .i64 0]) ∧ w'.ownsRow w.heap.size 30 1 v' ls.length (cRow (fun i => if 0 < lq ls i then cd (lq ls) ls.length i else 0) ls.length) ∧ Below w.heap.size w w' := by
  obtain ⟨h1, h2, -⟩ := chk_zero hc
  have Hv := Lib.hid hv
  have Hc := Lib.hid hc
  have H2 := Lib.hid h2
  obtain ⟨p, c, rfl, -, -, -⟩ := hv
  have hmk := make_u16 ls.length (by omega)
  clear hc h2
  go_enter Try.func9, Try.ntmps9
  go_wp2_with fail
  refine Calls.mono (refAll_ok ls _ w Hv.out Hc.out) ?_
  rintro e w1 ⟨o, rfl, hoc, hb1⟩
  obtain ⟨po, co, rfl, hcells⟩ := hoc.cells
  have Hcells := Lib.hid hcells
  have Hb1 := Lib.hid hb1
  have HT := Lib.hid (fun i => tl_iff (i := i) H2.out)
  have hqb : (tl (lq ls) ls.length 15 0).length ≤ 4800 := by
    have := al_len (lq ls) ls.length 15
    unfold tl
    rw [show sy (lq ls) (15 + 1) 0 = [] from rfl, List.append_nil]
    omega
  have Hcd := Lib.hid (fun i => numL_rowOf (lq ls) ls.length i)
  have hcd16 : ∀ i, i < ls.length → cd (lq ls) ls.length i < 65536 := fun i hi => trn_small (H2.out i hi)
  have Hcd16 := Lib.hid hcd16
  generalize tl (lq ls) ls.length 15 0 = T at *
  clear hcells hoc hb1 hcd16
  go_wp2_with fail
  go_loopw [7] (fun iv wr => ∃ k : Nat, iv = .int .i64 (k : Int) ∧ k ≤ T.length ∧ Hid (wr.ownsRow w1.heap.size 30 1 (.slice (some ⟨w1.heap.size, 0, none⟩) ls.length ls.length) ls.length (cRow (fun s => if s ∈ T.take k then cd (lq ls) ls.length s else 0) ls.length)) ∧ Hid (Below w1.heap.size w1 wr)) (fun iv _ => T.length - (intOf iv).toNat)
  case atStart =>
    refine ⟨0, rfl, Nat.zero_le _, Lib.hid ?_, Lib.hid (Below.al1 w1 _)⟩
    rw [cRow_congr (g := fun _ => 0) (fun i _ => by simp)]
    exact World.ownsRow_lit (base := w1.heap.size) (size := 1) (e := 30) w1 (cRow (fun _ => 0) ls.length).toArray ls.length (Nat.le_refl _) (by simp only [maxLen]; omega) (by simp [cRow_len])
  case round =>
    obtain ⟨k, rfl, hk, Ho, Hb⟩ := hrel
    by_cases hlt : k < T.length
    · obtain ⟨b, off, rfl, c0, q, cq, c1, hq1, hq2, hbits⟩ := Hcells.out k hlt
      obtain ⟨s, hs⟩ : ∃ s, T[k] = s := ⟨_, rfl⟩
      have hsm := (HT.out s).1 (by rw [← hs]; exact List.getElem_mem hlt)
      have htk : T.take (k + 1) = T.take k ++ [s] := by rw [List.take_succ_eq_append_getElem hlt, hs]
      have Htk := Lib.hid htk
      simp only [hs] at c0 c1 hq1 hbits
      clear hs htk
      have hfs := H2.out s hsm.1
      have hx16 := Hcd16.out s hsm.1
      have c0 := cell_later Hb.out c0
      have c1 := cell_later Hb.out c1
      have hbt := hbits.below (Hb.out.mono (Nat.le_refl _))
      have hnum := Hcd.out s
      have hrl := rowOf_len (lq ls) ls.length s
      obtain ⟨x, hx⟩ : ∃ x, cd (lq ls) ls.length s = x := ⟨_, rfl⟩
      have Hx := Lib.hid hx
      rw [hx] at hnum hx16
      obtain ⟨n, hn⟩ : ∃ n, lq ls s = n := ⟨_, rfl⟩
      rw [hn] at c1 hq1 hfs hrl
      have Hnum : Hid (∀ m : After wr, Makes Try.prog 26 #[.slice q n cq] m.world (.int .u32 (x : Int))) := Lib.hid (fun m => by
        refine Calls.mono (number_len q cq n _ m.world hrl.symm (by omega) (hbt.below m.below)) ?_
        rintro e w' ⟨rfl, rfl⟩
        exact ⟨by rw [hnum], Below.refl _ _⟩)
      have hw16 : IntKind.u16.wrap (x : Int) = (x : Int) := by rw [IntKind.wrap_u16]; omega
      have s0 : (0 : Int) ≤ (s : Int) := by omega
      have s1 : (s : Int) < (ls.length : Int) := by omega
      have k0 : (0 : Int) ≤ (k : Int) := by omega
      have k1 : (k : Int) < (T.length : Int) := by omega
      clear hbits hbt hnum hrl hx hn hq1 hq2 hsm
      go_upto_region 8 with (fail)
      have hqq := After.ne wr
      have C0 := After.rule c0
      have C1 := After.rule c1
      refine wp_region_head 14 (by kernel_rfl) (by kernel_rfl) (by kernel_rfl) ?_
      repeat (refine Lq_step (fun K hK => ?_); go_simp; first | (refine hK _ ?_; clear hK K) | (apply Exists.intro; refine ⟨fun m => ?_, hK _ ?_⟩; (go_at_call 26; exact Hnum.out _); clear hK K))
      refine Lq_nil ?_
      intro w2 hb2
      clear C0 C1 hqq
      have ho2 := (Turns.of_below' (T := fun _ => False) hb2).owns Ho.out (fun _ _ h => h)
      have hc2 := ho2.cellAt s (by omega)
      have hf2 := ho2.frozenAt s
      rw [cRow_at _ (by omega)] at hc2
      unfold u16v at hc2
      generalize ((if s ∈ T.take k then cd (lq ls) ls.length s else 0 : Nat) : Int) = y at hc2
      have hst := (ho2.stored s (u16v x)).1
      rw [cRow_set] at hst
      have Ho3 : Hid ((w2.setCell ⟨w1.heap.size, s, none⟩ (.int .u16 (x : Int))).ownsRow w1.heap.size 30 1 (.slice (some ⟨w1.heap.size, 0, none⟩) ls.length ls.length) ls.length (cRow (fun s => if s ∈ T.take (k + 1) then cd (lq ls) ls.length s else 0) ls.length)) := Lib.hid (by
        rw [cRow_congr (g := fun i => if i = s then x else if i ∈ T.take k then cd (lq ls) ls.length i else 0) (fun i _ => by
          simp only [Htk.out, List.mem_append, List.mem_singleton]
          by_cases e : i = s
          · subst e; simp [Hx.out]
          · simp [e])]
        exact hst)
      have Hb3 := Lib.hid ((Hb.out.trans (hb2.mono Hb.out.size)).setCell (p := ⟨w1.heap.size, s, none⟩) (Nat.le_refl _) (.int .u16 (x : Int)))
      clear ho2 hst hb2 c0 c1
      go_wp2
      go_roundw
      case rel => exact ⟨k + 1, by go_num, by omega, Ho3, Hb3⟩
      case measure => simp [intOf]; omega
    · obtain rfl : k = T.length := by omega
      go_wp2
      go_ret2
      refine ⟨_, rfl, ?_, Below.thn Hb1.out Hb.out⟩
      have h5 := Ho.out
      rw [List.take_length] at h5
      rw [cRow_congr (g := fun s => if s ∈ T then cd (lq ls) ls.length s else 0) (fun i hi => by
        by_cases e : 0 < lq ls i
        · rw [if_pos e, if_pos ((HT.out i).2 ⟨hi, e⟩)]
        · rw [if_neg e, if_neg (fun h => e ((HT.out i).1 h).2)])]
      exact owns_base h5 Hb1.out.size

end Go.Proofs.Ytpdfkgdgpofhbaa
