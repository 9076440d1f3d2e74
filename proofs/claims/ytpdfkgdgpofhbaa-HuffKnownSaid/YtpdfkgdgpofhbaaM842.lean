/- The document's Read. -/
import Derived.Test.YtpdfkgdgpofhbaaM840
import Derived.Test.YtpdfkgdgpofhbaaM841
namespace Go.Proofs.Ytpdfkgdgpofhbaa
open Go.RowKit

theorem pre_iff {f : Nat → Nat} {N i a t : Nat} {bs : List Bool} (h : a + t ≤ bs.length) : pre (rowOf f N i) (sg bs a t) = true ↔ t ≤ f i ∧ (rowOf f N i).take t = sg bs a t := by
  unfold pre
  rw [decide_eq_true_iff, seg_len h, rowOf_len]

/-- What the inner loop has seen of the first k codes. -/
structure Seen (f : Nat → Nat) (N : Nat) (T : List Nat) (bs : List Bool) (a t k : Nat) (sb : Bool) : Prop where
  some : sb = true ↔ ∃ j, ∃ h : j < T.length, j < k ∧ pre (rowOf f N T[j]) (sg bs a t) = true
  none : ∀ j, ∀ h : j < T.length, j < k → pre (rowOf f N T[j]) (sg bs a t) = true → f T[j] ≠ t

theorem Seen.start (f : Nat → Nat) (N : Nat) (T : List Nat) (bs : List Bool) (a t : Nat) : Seen f N T bs a t 0 false :=
  ⟨⟨fun h => (by cases h), fun ⟨j, _, h, _⟩ => by omega⟩, fun j _ h => by omega⟩
theorem Seen.no {f : Nat → Nat} {N : Nat} {T : List Nat} {bs : List Bool} {a t k : Nat} {sb : Bool} (h : Seen f N T bs a t k sb) (hk : k < T.length) (hp : pre (rowOf f N T[k]) (sg bs a t) = false) : Seen f N T bs a t (k + 1) sb := by
  refine ⟨h.some.trans ⟨fun ⟨j, h1, h2, h3⟩ => ⟨j, h1, by omega, h3⟩, fun ⟨j, h1, h2, h3⟩ => ⟨j, h1, ?_, h3⟩⟩, fun j h1 h2 h3 => ?_⟩
  · rcases Nat.lt_or_ge j k with h4 | h4
    · exact h4
    · obtain rfl : j = k := by omega
      rw [hp] at h3; cases h3
  · rcases Nat.lt_or_ge j k with h4 | h4
    · exact h.none j h1 h4 h3
    · obtain rfl : j = k := by omega
      rw [hp] at h3; cases h3
theorem Seen.yes {f : Nat → Nat} {N : Nat} {T : List Nat} {bs : List Bool} {a t k : Nat} {sb : Bool} (h : Seen f N T bs a t k sb) (hk : k < T.length) (hp : pre (rowOf f N T[k]) (sg bs a t) = true) (hn : f T[k] ≠ t) : Seen f N T bs a t (k + 1) true := by
  refine ⟨⟨fun _ => ⟨k, hk, by omega, hp⟩, fun _ => rfl⟩, fun j h1 h2 h3 => ?_⟩
  rcases Nat.lt_or_ge j k with h4 | h4
  · exact h.none j h1 h4 h3
  · obtain rfl : j = k := by omega
    exact hn

/-- All that the document's Read has to do with. -/
structure RdDoc (ls : List Nat) (T : List Nat) (l : List Nat) (a L : Nat) (F : Nat × Nat → Option Nat) : Prop where
  chk : chk ls = 0
  mem : ∀ i, i ∈ T ↔ i < ls.length ∧ 0 < lq ls i
  byte : ∀ b ∈ l, b < 256
  tf : ToldF (lq ls) ls.length 15 0 F
  tm : ToldM (lq ls) ls.length 15 0 L

/-- So far no code is read. -/
def Yet (F : Nat × Nat → Option Nat) (l : List Nat) (a t : Nat) : Prop := ∀ u, 1 ≤ u → u < t → F (bt l a u, u) = none

theorem RdDoc.iff {ls T l : List Nat} {a L : Nat} {F : Nat × Nat → Option Nat} (h : RdDoc ls T l a L F) {t i : Nat} (ht : a + t ≤ 8 * l.length) : F (bt l a t, t) = some i ↔ i < ls.length ∧ 0 < lq ls i ∧ lq ls i = t ∧ rowOf (lq ls) ls.length i = sg (ofB l) a t :=
  told_iff h.tf h.byte ht (chk_zero h.chk).2.1

theorem RdDoc.found {ls T l : List Nat} {a L : Nat} {F : Nat × Nat → Option Nat} (h : RdDoc ls T l a L F) {t i : Nat} (ht : a + t ≤ 8 * l.length) (hy : Yet F l a t) (hi : i ∈ T) (hp : pre (rowOf (lq ls) ls.length i) (sg (ofB l) a t) = true) (hf : lq ls i = t) (htL : t ≤ L) : RdAns F L l a i 0 t := by
  have h1 := (h.mem i).1 hi
  rw [pre_iff (by rw [ofB_len]; exact ht)] at hp
  have h2 := hp.2
  rw [← hf, List.take_of_length_le (by rw [rowOf_len]; exact Nat.le_refl _), hf] at h2
  exact ⟨hy, ⟨htL, ht⟩, .inl ⟨rfl, by omega, (h.iff ht).2 ⟨h1.1, h1.2, hf, h2⟩⟩⟩

theorem RdDoc.step {ls T l : List Nat} {a L : Nat} {F : Nat × Nat → Option Nat} (h : RdDoc ls T l a L F) {t : Nat} {sb : Bool} (ht : a + t ≤ 8 * l.length) (hs : Seen (lq ls) ls.length T (ofB l) a t T.length sb) (_h1 : 1 ≤ t) : F (bt l a t, t) = none := by
  cases hF : F (bt l a t, t) with
  | none => rfl
  | some i =>
    obtain ⟨i1, i2, i3, i4⟩ := (h.iff ht).1 hF
    obtain ⟨j, hj, hji⟩ := List.getElem_of_mem ((h.mem i).2 ⟨i1, i2⟩)
    exfalso
    refine hs.none j hj hj ?_ (by rw [hji]; exact i3)
    rw [hji, pre_iff (by rw [ofB_len]; exact ht)]
    refine ⟨by omega, ?_⟩
    rw [← i4, List.take_of_length_le (by rw [rowOf_len]; omega)]

theorem RdDoc.lost {ls T l : List Nat} {a L : Nat} {F : Nat × Nat → Option Nat} (h : RdDoc ls T l a L F) {t : Nat} (ht : a + t ≤ 8 * l.length) (hy : Yet F l a t) (htL : t ≤ L) (hs : Seen (lq ls) ls.length T (ofB l) a t T.length false) : RdAns F L l a 0 60 t := by
  have hst := h.step ht hs
  have e : t = L := by
    rcases Nat.lt_or_ge t L with h1 | h1
    · exfalso
      obtain ⟨i, i1, i2, i3, i4⟩ := goes (bs := ofB l) (a := a) (t := t) h.chk h.tm (by rw [ofB_len]; exact ht) (fun u i u1 u2 ui uf hr => by
        have h2 := (h.iff (t := u) (i := i) (by omega)).2 ⟨ui, by omega, uf, hr⟩
        rcases Nat.lt_or_ge u t with h3 | h3
        · rw [hy u u1 h3] at h2; cases h2
        · obtain rfl : u = t := by omega
          rw [hst u1] at h2; cases h2) h1
      obtain ⟨j, hj, hji⟩ := List.getElem_of_mem ((h.mem i).2 ⟨i1, i3⟩)
      have := hs.some.2 ⟨j, hj, hj, by rw [hji, pre_iff (by rw [ofB_len]; exact ht)]; exact ⟨i2, i4⟩⟩
      cases this
    · omega
  exact ⟨hy, ⟨htL, ht⟩, .inr (.inl ⟨rfl, rfl, e, hst⟩)⟩

theorem RdDoc.more {ls T l : List Nat} {a L : Nat} {F : Nat × Nat → Option Nat} (h : RdDoc ls T l a L F) {t : Nat} (ht : a + t ≤ 8 * l.length) (hs : Seen (lq ls) ls.length T (ofB l) a t T.length true) : t < L := by
  obtain ⟨j, hj, -, hp⟩ := hs.some.1 rfl
  have hn := hs.none j hj hj hp
  rw [pre_iff (by rw [ofB_len]; exact ht)] at hp
  have h1 := (h.mem T[j]).1 (List.getElem_mem hj)
  have h2 := h.tm.ge T[j] h1.1 ⟨h1.2, .inl ((chk_zero h.chk).2.1 _ h1.1)⟩
  omega

theorem RdDoc.few {ls T l : List Nat} {a L : Nat} {F : Nat × Nat → Option Nat} (h : RdDoc ls T l a L F) {t : Nat} (ht : a + t = 8 * l.length) (hy : Yet F l a t) (hs : Seen (lq ls) ls.length T (ofB l) a t T.length true) : RdAns F L l a 0 50 t :=
  ⟨hy, ⟨Nat.le_of_lt (h.more (by omega) hs), by omega⟩, .inr (.inr ⟨rfl, rfl, h.more (by omega) hs, ht, h.step (by omega) hs⟩)⟩

theorem RdDoc.next {ls T l : List Nat} {a L : Nat} {F : Nat × Nat → Option Nat} (h : RdDoc ls T l a L F) {t : Nat} (ht : a + t ≤ 8 * l.length) (hy : Yet F l a t) (hs : Seen (lq ls) ls.length T (ofB l) a t T.length true) : Yet F l a (t + 1) := fun u h1 h2 => by
  rcases Nat.lt_or_ge u t with h3 | h3
  · exact hy u h1 h3
  · obtain rfl : u = t := by omega
    exact h.step ht hs h1

set_option maxRecDepth 100000 in
set_option maxHeartbeats 4000000 in
theorem refRead_any (ls T l : List Nat) (a L B : Nat) (F : Nat × Nat → Option Nat) (lv rv : Value) (w : World) (hd : RdDoc ls T l a L F) (ho : OC w B lv (lq ls) ls.length T) (hr : RwB w rv (ofB l)) (hlen : l.length ≤ 1000) (hT : T.length ≤ 100000) (ha : a ≤ 8 * l.length) :
    Calls Try.prog 16 #[lv, rv, .int .i64 (a : Int)] w fun e w' => ∃ (x : Nat) (er : Int) (s : Nat), e = .returned (.tuple #[.int .i64 (x : Int), .int .i64 ((a + s : Nat) : Int), .int .i64 er]) ∧ RdAns F L l a x er s ∧ Below w.heap.size w w' := by
  obtain ⟨p, c, rfl, hcells⟩ := ho.cells
  obtain ⟨rp, rc, rfl, hrc1, hrc2, hbits⟩ := hr.cells
  have hLen := ofB_len l
  rw [hLen] at hrc1
  have Hlen := Lib.hid hLen
  have Hcells := Lib.hid hcells
  have Hbits := Lib.hid (show BitsAt w rp (ofB l) from hbits)
  have Hd := Lib.hid hd
  have Hrc := Lib.hid hrc1
  have Ho := Lib.hid ho
  rw [hLen]
  obtain ⟨M, hM⟩ : ∃ M, 8 * l.length = M := ⟨_, rfl⟩
  have HM := Lib.hid hM
  rw [hM] at ha hrc1 ⊢
  have hM8 : M ≤ 8000 := by omega
  clear hd ho hr hcells hbits hrc2 hLen hM hlen
  go_enter Try.func16, Try.ntmps16
  go_wp2
  go_loopw [2] (fun tv wr => ∃ t : Nat, tv = .int .i64 ((a : Int) + (t : Int)) ∧ t ≤ L ∧ a + t ≤ M ∧ Hid (Yet F l a t) ∧ Hid (Below w.heap.size w wr)) (fun tv _ => M - (intOf tv).toNat)
  case atStart => exact ⟨0, by simp, Nat.zero_le _, by omega, Lib.hid (fun u h1 h2 => by omega), Lib.hid (Below.refl _ _)⟩
  case round =>
    obtain ⟨t, rfl, htL, hat, HY, HB⟩ := hrel
    go_wp2
    generalize wr = W1 at *
    go_loopw [10, 11] (fun sv kv ws => ∃ (k : Nat) (sb : Bool), sv = .bool sb ∧ kv = .int .i64 (k : Int) ∧ k ≤ T.length ∧ Hid (Seen (lq ls) ls.length T (ofB l) a t k sb) ∧ Hid (Below w.heap.size w ws)) (fun _ kv _ => T.length - (intOf kv).toNat)
    case atStart => exact ⟨0, false, rfl, rfl, Nat.zero_le _, Lib.hid (Seen.start _ _ _ _ _ _), HB⟩
    case round =>
      obtain ⟨k, sb, rfl, rfl, hk, HS, HB1⟩ := hrel
      by_cases hkT : k < T.length
      · obtain ⟨b, off, rfl, c0, q, cq, c1, hq1, hq2, hrow⟩ := Hcells.out k hkT
        obtain ⟨s, hs⟩ : ∃ s, T[k] = s := ⟨_, rfl⟩
        have Hyes := Lib.hid (fun hp hn => HS.out.yes hkT hp hn)
        have Hno := Lib.hid (fun hp => HS.out.no hkT hp)
        have Hfound := Lib.hid (fun hp hf => Hd.out.found (by rw [HM.out]; exact hat) HY.out (List.getElem_mem hkT) hp hf htL)
        simp only [hs] at c0 c1 hq1 hrow Hyes Hno Hfound
        have hrl := rowOf_len (lq ls) ls.length s
        have c0 := cell_later HB1.out c0
        have c1 := cell_later HB1.out c1
        obtain ⟨n, hn⟩ : ∃ n, lq ls s = n := ⟨_, rfl⟩
        rw [hn] at c1 hq1 hrl Hyes Hfound
        obtain ⟨q2, hq2'⟩ : ∃ q2, (if rc = a then rp else rp.map fun x => x.add a) = q2 := ⟨_, rfl⟩
        have hsl := slice_row rp M rc a t _ rfl (by omega)
        rw [hq2'] at hsl
        obtain ⟨pb, hpb⟩ : ∃ pb, pre (rowOf (lq ls) ls.length s) (sg (ofB l) a t) = pb := ⟨_, rfl⟩
        rw [hpb] at Hyes Hno Hfound
        have Hbeg : Hid (∀ m : After wr, Makes Try.prog 33 #[.slice q n cq, .slice q2 t (rc - a)] m.world (.bool pb)) := Lib.hid (fun m => by
          have hb2 := Below.thn HB1.out m.below
          rw [← hpb]
          refine begins_any q q2 n t cq (rc - a) _ _ m.world hrl.symm ?_ (by omega) (hrow.below hb2) ?_
          · rw [seg_len (by rw [Hlen.out, HM.out]; exact hat)]
          · rw [← hq2']
            exact sliced_bits rc (Hbits.out.below hb2) (by rw [Hlen.out, HM.out]; exact hrc1) (by rw [Hlen.out, HM.out]; exact hat))
        have k0 : (0 : Int) ≤ (k : Int) := by omega
        have k1 : (k : Int) < (T.length : Int) := by omega
        have ht1 : (t : Int) ≤ 8000 := by omega
        clear hrow hrl hpb hq2' hq2 hs hn
        go_upto_region 6 with (fail)
        have hqq := After.ne wr
        have C1 := After.rule c1
        refine wp_region_head 9 (by kernel_rfl) (by kernel_rfl) (by kernel_rfl) ?_
        repeat (refine Lq_step (fun K hK => ?_); go_simp; (refine hK _ ?_; clear hK K))
        refine Lq_nil ?_
        intro w2' hb2'
        simp only [List.drop_succ_cons, List.drop_zero]
        have hbg := Hbeg.out ⟨w2', hb2'⟩
        go_wp2_with fail
        refine Calls.mono hbg ?_
        clear hbg
        rintro e w2 ⟨rfl, hb2''⟩
        have hb2 := Below.thn hb2' hb2''
        have HB2 := Lib.hid (HB1.out.trans (hb2.mono HB1.out.size))
        have c0 := cell_later hb2 c0
        have c1 := cell_later hb2 c1
        clear C1 hqq hb2 hsl hb2' hb2'' Hbeg
        cases pb with
        | false =>
          go_wp2
          go_roundw
          case rel => exact ⟨k + 1, sb, rfl, by go_num, by omega, Lib.hid (Hno.out trivial), HB2⟩
          case measure => simp [intOf]; omega
        | true =>
          have hsub : (a : Int) + (t : Int) - (a : Int) = (t : Int) := by omega
          by_cases hnt : n = t
          · subst hnt
            go_wp2
            go_ret3
            exact ⟨s, 0, n, by simp, Hfound.out trivial trivial, HB2.out⟩
          · have e0 : ((n : Int) == (t : Int)) = false := by simp; omega
            go_wp2
            go_roundw
            case rel => exact ⟨k + 1, true, rfl, by go_num, by omega, Lib.hid (Hyes.out trivial hnt), HB2⟩
            case measure => simp [intOf]; omega
      · obtain rfl : k = T.length := by omega
        cases sb with
        | false =>
          go_wp2
          go_ret3
          exact ⟨0, 60, t, by simp, Hd.out.lost (by rw [HM.out]; exact hat) HY.out htL HS.out, HB1.out⟩
        | true =>
          by_cases hM2 : a + t = M
          · have e0 : (((a : Int) + (t : Int)) == (M : Int)) = true := by simp; omega
            go_wp2
            go_ret3
            exact ⟨0, 50, t, by simp, Hd.out.few (by rw [HM.out]; exact hM2) HY.out HS.out, HB1.out⟩
          · have e0 : (((a : Int) + (t : Int)) == (M : Int)) = false := by simp; omega
            go_wp2
            go_roundw
            case rel => exact ⟨t + 1, by go_num, by have := Hd.out.more (by rw [HM.out]; exact hat) HS.out; omega, by omega, Lib.hid (Hd.out.next (by rw [HM.out]; exact hat) HY.out HS.out), HB1⟩
            case measure => simp [intOf]; omega

end Go.Proofs.Ytpdfkgdgpofhbaa
