/- huff's Lengths, move by move: the same again. -/
import Derived.Test.YtoladolgmeanhaaGreatQc8
import Derived.Test.YtoladolgmeanhaaGreatQc27
namespace Go.Proofs.YtoladolgmeanhaaGreat
open Go.RowKit

def LensD (fs : List Int) (L : Nat) (g : Nat → Nat) : Prop := ∃ P, RowD (leaves (fq fs) fs.length) L P ∧ ∀ i, g i = cntL i ((pairT P).take (many fs.length (fq fs) - 1))
set_option maxRecDepth 20000 in
set_option maxHeartbeats 2000000 in
theorem lengths_det (fs : List Int) (v : Value) (L : Nat) (w : World) (hv : Row encZ 1 w v fs) (hb : mayB fs (L : Int) = true) (hm : many fs.length (fq fs) ≤ 2 ^ L) :
    Calls Tryz.prog 115 #[v, .int .i64 (L : Int)] w fun e w' => ∃ (v' : Value) (g : Nat → Nat), e = .returned (.tuple #[v', .int .i64 0]) ∧ w'.ownsRow w.heap.size 5 1 v' fs.length (lensRow g fs.length) ∧ LensOk fs L g ∧ (many fs.length (fq fs) ≠ 1 → LensD fs L g) ∧ Below w.heap.size w w' := by
  obtain ⟨h1, h2, h3, h4⟩ := mayB_out hb
  have hvb : ∀ k, v.ownBlock = some k → k < w.heap.size := fun k hk => by
    obtain ⟨p, c, rfl, _, _, h⟩ := hv
    rcases h with ⟨rfl, -⟩ | ⟨bb, off, rfl, hbb, -⟩
    · cases hk
    · cases hk; exact hbb
  have Hv := Lib.hid hv
  have Hb := Lib.hid hb
  have Hm := Lib.hid hm
  have H4 := Lib.hid h4
  obtain ⟨pf, cf, rfl, -, -, -⟩ := hv
  clear hb hm h4
  go_enter Tryz.func115, Tryz.ntmps115
  go_wp2_with fail
  refine Calls.mono (mayBe_any fs _ L w Hv.out) ?_
  rintro e w1 ⟨rfl, rfl⟩
  rw [Hb.out]
  go_wp2_with fail
  refine Calls.mono (singles_any (fun _ => True) fs _ w1 (fun _ _ => trivial) Hv.out h3 (fun f hf => (H4.out f hf).1)) ?_
  rintro e w2 ⟨vl, l, rfl, hs⟩
  have hl := sg_len hs
  have Hs := Lib.hid hs
  obtain ⟨p, c, rfl⟩ := owns_slice hs.own
  obtain ⟨q, hq, hwz⟩ := pow_wrap h2
  have hgt : ¬ (q : Int) < (l.length : Int) := by
    have := Hm.out
    rw [← hl, hq] at this
    omega
  have Hq := Lib.hid (And.intro hl hq)
  clear hs hl hq
  have hL0 : (0 : Int) ≤ (L : Int) := by omega
  have hmk := make_u8 fs.length (by omega)
  have Hnew := Lib.hid (lens_new fs.length (by omega) w2)
  have Hnb := Lib.hid (Below.al1 w2 (.cells (lensRow (fun _ => 0) fs.length).toArray 5))
  have Hg0 := Lib.hid (show (w2.alloc (.cells (lensRow (fun _ => 0) fs.length).toArray 5)).heap.size = w2.heap.size + 1 from World.size_alloc _ _)
  have Hrow := Lib.hid ((own_ptrs Hs.out.own (by rw [List.length_map])).below Hnb.out)
  have Hblk := Lib.hid (fun k (hk : (Value.slice p l.length c).ownBlock = some k) => (Hs.out.own.lt k hk).2)
  have Htr : Hid (∀ e ∈ l, TrAt (w2.alloc (.cells (lensRow (fun _ => 0) fs.length).toArray 5)) (fun i => i ≠ w2.heap.size) e.1 e.2) := Lib.hid (fun e he => (Hs.out.at' e he).keep (fun i hi _ => ⟨Hnb.out.block i hi, by omega⟩))
  by_cases h1l : l.length = 1
  · have e1 : ((l.length : Int) == 1) = true := by simp; omega
    obtain ⟨b0, s0, hl0, hs0, hfs⟩ : ∃ b0 s0, l = [(b0, .leaf s0 (fq fs s0))] ∧ s0 < fs.length ∧ syms (fq fs) fs.length = [s0] := by
      match l, h1l, Hs.out.eq with
      | [(b0, t0)], _, he =>
        obtain ⟨_, _, s0, hs0, ht⟩ := leaves_fits (fq fs) fs.length t0 (by rw [← he]; simp)
        have h5 := leaves_lv (fq fs) fs.length
        rw [← he, ht] at h5
        refine ⟨b0, s0, by rw [ht], hs0, ?_⟩
        simp only [List.map_cons, List.map_nil] at h5
        match hsy : syms (fq fs) fs.length, h5 with
        | [x], h5 => rw [h5.1]
        | x :: y :: r, h5 => exact h5.2.elim
    go_upto_region 8 with (fail)
    have Hok : Hid (LensOk fs L (fun i => if i = s0 then 1 else 0)) := Lib.hid (by
      have hms : many fs.length (fq fs) = 1 := by rw [← syms_len, hfs]; rfl
      refine ⟨fun i hi => ⟨?_, ?_⟩, fun _ i _ => ?_, (fun h => by omega), (fun h => by omega)⟩
      · show (if i = s0 then 1 else 0) ≤ L
        split <;> omega
      · constructor
        · intro h
          have e : i = s0 := by
            by_cases e : i = s0
            · exact e
            · simp [e] at h
          subst e
          exact (syms_mem _ _ i (by rw [hfs]; simp)).2
        · intro h
          have := syms_has (fq fs) hi h
          rw [hfs] at this
          obtain rfl : i = s0 := by simpa using this
          simp
      · show (if i = s0 then 1 else 0) ≤ 1
        split <;> omega)
    obtain ⟨W, hW⟩ : ∃ W, w2.alloc (.cells (lensRow (fun _ => 0) fs.length).toArray 5) = W := ⟨_, rfl⟩
    rw [hW] at Hnew Hnb Hg0 Hrow Htr ⊢
    clear hW hmk
    have hrow := Hrow.out
    obtain ⟨p', c', e', _, _, hrow⟩ := hrow
    rw [List.length_map] at e'
    cases e'
    obtain ⟨gl, off, rfl, hc0⟩ := hrow.ptr (k := 0) (by rw [hl0]; simp)
    have ht0 := Htr.out (b0, .leaf s0 (fq fs s0)) (by rw [hl0]; simp)
    unfold TrAt at ht0
    have hc1 : W.cell? ⟨b0, 1, none⟩ = some (.int .i64 (s0 : Int)) := cell_heap ht0.2 rfl
    have hc2 : W.cell? ⟨gl, off, none⟩ = some (.pointer (some ⟨b0, 0, none⟩)) := by
      rw [List.getElem_map] at hc0
      have e : (l[0]'(by rw [hl0]; simp)) = (b0, .leaf s0 (fq fs s0)) := by simp [hl0]
      rw [e] at hc0
      exact hc0
    have hc3 : W.cell? ⟨w2.heap.size, s0, none⟩ = some (.int .u8 0) := by
      rw [World.ownsRow.cellAt Hnew.out s0 (by omega), lensRow_at _ hs0]; rfl
    have hf3 : W.frozen? ⟨w2.heap.size, s0, none⟩ = false := World.ownsRow.frozenAt Hnew.out s0
    have HR : Hid ((W.setCell ⟨w2.heap.size, s0, none⟩ (.int .u8 1)).ownsRow w1.heap.size 5 1 (.slice (some ⟨w2.heap.size, 0, none⟩) fs.length fs.length) fs.length (lensRow (fun i => if i = s0 then 1 else 0) fs.length) ∧ Below w1.heap.size w1 (W.setCell ⟨w2.heap.size, s0, none⟩ (.int .u8 1))) := Lib.hid (by
      have h5 := (World.ownsRow.stored Hnew.out s0 (u8v 1)).1
      rw [lensRow_set] at h5
      refine ⟨hq_base h5 Hs.out.below.size, ?_⟩
      exact (Below.thn Hs.out.below Hnb.out).setCell (p := ⟨w2.heap.size, s0, none⟩) Hs.out.below.size _)
    have k0 : (0 : Int) ≤ (s0 : Int) := by omega
    have k1 : (s0 : Int) < (fs.length : Int) := by omega
    have k2 : (0 : Int) < (l.length : Int) := by omega
    clear hc0 ht0 hrow hl0
    go_wp2
    go_ret2
    exact ⟨_, _, rfl, HR.out.1, Hok.out, fun h => absurd (Hq.out.1.symm.trans h1l) h, HR.out.2⟩
  · have e1 : ((l.length : Int) == 1) = false := by simp; omega
    have hls : l.map Prod.snd = leaves (fq fs) fs.length := Hs.out.eq
    have hm1 : many fs.length (fq fs) ≠ 1 := by rw [← Hq.out.1]; exact h1l
    have Hfin : Hid (∀ P, RowT (l.map Prod.snd) L P → l.length - 1 ≤ (pairT P).length) := Lib.hid (fun P hP => by
      rw [hls] at hP
      rw [Hq.out.1]
      exact (lens_any hP Hm.out hm1).2)
    have Hls := Lib.hid (And.intro hls hm1)
    have Hpre : Hid ((∀ e ∈ l, TrAt (w2.alloc (.cells (lensRow (fun _ => 0) fs.length).toArray 5)) (fun i => i ≠ w2.heap.size) e.1 e.2 ∧ e.2.cost ≤ 1099511627776) ∧ l.length ≤ 320) := Lib.hid ⟨fun e he => ⟨Htr.out e he, by
      obtain ⟨_, _, s, hs, ht⟩ := leaves_fits (fq fs) fs.length e.2 (by rw [← hls]; exact List.mem_map_of_mem he)
      rw [ht]
      show fq fs s ≤ _
      have h5 := (H4.out fs[s] (List.getElem_mem hs))
      have h6 := fq_at hs h5.1
      omega⟩, by
      have : many fs.length (fq fs) ≤ fs.length := by
        rw [← syms_len]
        have h5 : ∀ k, (syms (fq fs) k).length ≤ k := fun k => by
          induction k with
          | zero => exact Nat.le_refl _
          | succ k ih =>
            unfold syms
            rw [List.length_append]
            have : (if 0 < fq fs k then [k] else []).length ≤ 1 := by split <;> simp
            omega
        exact h5 _
      have := Hq.out.1
      omega⟩
    clear hls hm1
    go_wp2_with fail
    refine Calls.mono (cheapest_det (fun i => i ≠ w2.heap.size) l _ L _ (fun i hi => by have := Hg0.out; omega) Hrow.out Hpre.out.1 Hpre.out.2 h2 Hfin.out) ?_
    rintro e w3 ⟨v3, P, rt, rfl, hP, hrt, hrow3, hat, hb3, hbk⟩
    obtain ⟨W, hW⟩ : ∃ W, w2.alloc (.cells (lensRow (fun _ => 0) fs.length).toArray 5) = W := ⟨_, rfl⟩
    rw [hW] at Hnew Hnb Hg0 Hrow Htr Hpre hb3 hbk
    clear hW hmk Hfin Hrow Htr
    rw [Hls.out.1] at hP
    have HD := Lib.hid hP
    have hP := hP.rowT
    obtain ⟨ch, hch⟩ : ∃ ch, rt.take (l.length - 1) = ch := ⟨_, rfl⟩
    rw [hch] at hrow3
    have hchl : ch.length ≤ 320 := by
      have := Hpre.out.2
      rw [← hch, List.length_take]; omega
    have hcs : ch.map Prod.snd = (pairT P).take (many fs.length (fq fs) - 1) := by rw [← hch, List.map_take, hrt, Hq.out.1]
    have HD : Hid (LensD fs L (fun i => cntL i (ch.map Prod.snd))) := Lib.hid ⟨P, HD.out, fun i => by rw [hcs]⟩
    have Hok : Hid (LensOk fs L (fun i => cntL i (ch.map Prod.snd))) := Lib.hid (by rw [hcs]; exact (lens_any hP Hm.out Hls.out.2).1)
    have Hch : Hid ((∀ e ∈ ch, TrAt w3 (fun i => i ≠ w2.heap.size) e.1 e.2 ∧ e.2.Fits fs.length (fq fs))) := Lib.hid (fun e he => ⟨hat e (by rw [← hch] at he; exact List.mem_of_mem_take he), by
      have h5 : e.2 ∈ pairT P := by
        have : e.2 ∈ ch.map Prod.snd := List.mem_map_of_mem he
        rw [hcs] at this
        exact List.mem_of_mem_take this
      obtain ⟨x, y, e1, hx, hy⟩ := pairT_node P _ h5
      have hf := RowT.fits (N := fs.length) (f := fq fs) (fun t ht => ⟨(leaves_fits _ _ t ht).1, (leaves_fits _ _ t ht).2.1⟩) hP
      rw [e1]
      exact ⟨(hf x hx).1, (hf y hy).1⟩⟩)
    have Hl3 : Hid (LensAt w3 w2.heap.size w2.heap.size fs.length fs.length (fun _ => 0)) := Lib.hid ((Turns.of_below' (T := fun _ => False) hb3).owns Hnew.out (fun _ _ h => h))
    have Hb3 := Lib.hid (Below.thn (Below.thn Hs.out.below Hnb.out) hb3)
    obtain ⟨p3, c3, rfl, hle3, -, hrow3⟩ := hrow3
    have Hrow3 := Lib.hid (And.intro hrow3 (fun k hk => hbk k hk))
    rw [List.length_map] at hle3 ⊢
    clear Hpre hP hrt hrow3 hat hb3 hbk hch hcs Hnew
    go_wp2
    go_loopw [40] (fun kv wr => ∃ (k : Nat), kv = .int .i64 (k : Int) ∧ k ≤ ch.length ∧ Hid (LenInv w2.heap.size w2.heap.size fs.length (ch.map Prod.snd) w3 wr k)) (fun kv _ => ch.length - (intOf kv).toNat)
    case atStart => exact ⟨0, rfl, Nat.zero_le _, Lib.hid ⟨Hl3.out.congr (fun i _ => by simp [cntL]), Turns.refl _ _⟩⟩
    case round =>
      obtain ⟨k, rfl, hk, HI⟩ := hrel
      by_cases hlt : k < ch.length
      · obtain ⟨g, off, rfl, hcell⟩ := Hrow3.out.1.ptr (k := k) (by simpa using hlt)
        rw [List.getElem_map] at hcell
        have hgn : g ≠ w2.heap.size := by
          have h5 := Hrow3.out.2 g rfl
          have h6 := Hg0.out
          omega
        have hx : wr.cell? ⟨g, off + k, none⟩ = some (ptrV ch[k].1) := HI.out.turns.cell hcell hgn
        obtain ⟨ht, hF⟩ := Hch.out ch[k] (List.getElem_mem hlt)
        have hcnt : ∀ i, cntL i ((ch.map Prod.snd).take (k + 1)) = cntL i ((ch.map Prod.snd).take k) + (ch[k].2).cnt i := fun i => by
          rw [List.take_succ_eq_append_getElem (by simpa using hlt), cntL_append]
          simp [cntL]
        have Hp : Hid (TrAt wr (fun i => i ≠ w2.heap.size) ch[k].1 ch[k].2 ∧ ch[k].2.Fits fs.length (fq fs) ∧ ∀ i, i < fs.length → cntL i ((ch.map Prod.snd).take k) + (ch[k].2).cnt i ≤ 255) := Lib.hid ⟨ht.keep (fun i hi hN => ⟨HI.out.turns.block i hi hN, hN⟩), hF, fun i hi => by
          have h5 : cntL i (ch.map Prod.snd) ≤ L := (Hok.out.le i hi).1
          have h6 : cntL i (ch.map Prod.snd) = cntL i ((ch.map Prod.snd).take (k + 1)) + cntL i ((ch.map Prod.snd).drop (k + 1)) := by
            rw [← cntL_append, List.take_append_drop]
          rw [hcnt i] at h6
          omega⟩
        have Hcnt := Lib.hid hcnt
        obtain ⟨b, hb⟩ : ∃ b, ch[k].1 = b := ⟨_, rfl⟩
        obtain ⟨t, htt⟩ : ∃ t, ch[k].2 = t := ⟨_, rfl⟩
        rw [hb] at hx Hp
        rw [htt] at Hp Hcnt
        unfold ptrV at hx
        have k0 : (0 : Int) ≤ (k : Int) := by omega
        have k1 : (k : Int) < (ch.length : Int) := by omega
        clear hcell ht hF hcnt hb htt hgn
        go_wp2_with fail
        refine Calls.mono (count_any (fun i => i ≠ w2.heap.size) w2.heap.size w2.heap.size fs.length fs.length (fun h => h rfl) (fq fs) t b _ wr Hp.out.1 HI.out.lens Hp.out.2.1 Hp.out.2.2) ?_
        rintro e w4 ⟨rfl, h5, h6⟩
        have HI4 : Hid (LenInv w2.heap.size w2.heap.size fs.length (ch.map Prod.snd) w3 w4 (k + 1)) := Lib.hid ⟨h5.congr (fun i _ => (Hcnt.out i).symm), HI.out.turns.trans h6⟩
        clear h5 h6
        go_wp2
        go_roundw
        case rel => exact ⟨k + 1, by go_num, by omega, HI4⟩
        case measure => simp [intOf]; omega
      · obtain rfl : k = ch.length := by omega
        go_wp2
        go_ret2
        have h5 := HI.out.lens.congr (f' := fun i => cntL i (ch.map Prod.snd)) (fun i _ => by
          rw [List.take_of_length_le (by simp)])
        exact ⟨_, _, rfl, hq_base h5 Hs.out.below.size, Hok.out, fun _ => HD.out, Hb3.out.trans (HI.out.turns.below Hb3.out.size (fun i e => by subst e; exact Hs.out.below.size))⟩
end Go.Proofs.YtoladolgmeanhaaGreat
