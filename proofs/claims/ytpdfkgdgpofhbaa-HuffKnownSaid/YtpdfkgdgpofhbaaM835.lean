/- The document's All. -/
import Derived.Test.YtpdfkgdgpofhbaaM834
namespace Go.Proofs.Ytpdfkgdgpofhbaa
open Go.RowKit

def encC6 (p : Nat × Value) : List Value := [.int .i64 (p.1 : Int), p.2]
theorem encC6_len (p : Nat × Value) : (encC6 p).length = 2 := rfl
/-- The row of bits of a symbol. -/
def rowOf (f : Nat → Nat) (N s : Nat) : List Bool := brow (f s) (nx f N (f s - 1) s) (f s)

theorem code06_info : (Try.prog.info? 66).map (fun i => (i.zero, i.size, i.bytes)) = some (some (.agg #[.int .i64 0, .slice none 0 0]), 2, 32) := by kernel_rfl

/-- The codes of these symbols, in memory from B on. -/
structure OC (w : World) (B : Nat) (o : Value) (f : Nat → Nat) (N : Nat) (l : List Nat) : Prop where
  ex : ∃ xs : List (Nat × Value), xs.map Prod.fst = l ∧ w.ownsRow B 66 2 o l.length (xs.flatMap encC6) ∧ ∀ p ∈ xs, OwnB w B p.2 (rowOf f N p.1) ∧ p.2.oneCell' = true ∧ ∀ g, p.2.ownBlock = some g → o.ownBlock ≠ some g
theorem OC.nil (w : World) (B : Nat) (f : Nat → Nat) (N : Nat) : OC w B (.slice none 0 0) f N [] := ⟨[], rfl, World.ownsRow_nil _ _ _ _, fun p h => by cases h⟩
theorem OC.later {w w' : World} {B : Nat} {o : Value} {f : Nat → Nat} {N : Nat} {l : List Nat} (h : OC w B o f N l) (hb : Below w.heap.size w w') : OC w' B o f N l := by
  obtain ⟨xs, h1, h2, h3⟩ := h.ex
  have ht : Turns (fun _ => False) w w' := Turns.of_below' hb
  exact ⟨xs, h1, ht.owns h2 (fun _ _ h => h), fun p hp => ⟨ht.owns (h3 p hp).1 (fun _ _ h => h), (h3 p hp).2⟩⟩

theorem owns_base {w : World} {B B' : Nat} {e : TypeId} {size : Nat} {v : Value} {n : Nat} {xs : List Value} (h : w.ownsRow B e size v n xs) (hb : B' ≤ B) : w.ownsRow B' e size v n xs :=
  ⟨h.1, h.2.imp id fun ⟨g, cap, cur, a, b, c⟩ => ⟨g, cap, cur, a, Nat.le_trans hb b, c⟩⟩

theorem tl_len (f : Nat → Nat) (N n k : Nat) (hk : k < N) : (tl f N n k).length ≤ (n + 1) * N := by
  have h1 := al_len f N n
  have h2 := sy_len f (n + 1) k
  unfold tl
  rw [List.length_append, Nat.succ_mul]; omega

set_option maxRecDepth 20000 in
set_option maxHeartbeats 2000000 in
theorem refAll_ok (ls : List Nat) (v : Value) (w : World) (hv : Row enc8 1 w v ls) (hc : chk ls = 0) :
    Calls Try.prog 12 #[v] w fun e w' => ∃ o, e = .returned (.tuple #[o, .int .i64 0]) ∧ OC w' w.heap.size o (lq ls) ls.length (tl (lq ls) ls.length 15 0) ∧ Below w.heap.size w w' := by
  have hroom := room_of_chk hc
  obtain ⟨h1, h2, -⟩ := chk_zero hc
  have Hv := Lib.hid hv
  have hvb : ∀ k, v.ownBlock = some k → k < w.heap.size := fun k hk => by
    obtain ⟨p, c, rfl, _, _, h⟩ := hv
    rcases h with ⟨rfl, -⟩ | ⟨bb, off, rfl, hbb, -⟩
    · cases hk
    · cases hk; exact hbb
  have Hvb := Lib.hid hvb
  clear hvb
  have Hc := Lib.hid hc
  have H2 := Lib.hid h2
  have HR := Lib.hid hroom
  obtain ⟨p, c, rfl, -, -, -⟩ := hv
  clear hc h2 hroom
  go_enter Try.func12, Try.ntmps12
  go_wp2_with fail
  refine Calls.mono (refWrong_any ls _ w Hv.out) ?_
  rintro e w1 ⟨rfl, rfl⟩
  rw [Hc.out]
  go_wp2_with fail
  go_loopw [5, 6, 7, 8] (fun o xv lv nv wr => ∃ (n x la : Nat), xv = .int .i64 (x : Int) ∧ lv = .int .i64 (la : Int) ∧ nv = .int .i64 ((n : Int) + 1) ∧ n ≤ 15 ∧ x ≤ 65536 ∧ la ≤ 15 ∧ Hid (NI (lq ls) ls.length n 0 x la) ∧ Hid (OC wr w1.heap.size o (lq ls) ls.length (tl (lq ls) ls.length n 0)) ∧ Hid (Below w1.heap.size w1 wr)) (fun _ _ _ nv _ => 16 - (intOf nv).toNat)
  case atStart => exact ⟨0, 0, 0, rfl, rfl, rfl, by omega, by omega, by omega, Lib.hid (NI.start _ _), Lib.hid (OC.nil _ _ _ _), Lib.hid (Below.refl _ _)⟩
  case round =>
    obtain ⟨n, x, la, rfl, rfl, rfl, hn, hx, hla, HN, HO, HB⟩ := hrel
    by_cases hlt : n < 15
    · have d0 : (n : Int) + 1 ≤ 15 := by omega
      go_wp2_with fail
      generalize wr = W1 at *
      go_loopw [5, 6, 7, 9] (fun o xv lv kv wr => ∃ (k x la : Nat), xv = .int .i64 (x : Int) ∧ lv = .int .i64 (la : Int) ∧ kv = .int .i64 (k : Int) ∧ k ≤ ls.length ∧ x ≤ 65536 ∧ la ≤ 15 ∧ Hid (NI (lq ls) ls.length n k x la) ∧ Hid (OC wr w1.heap.size o (lq ls) ls.length (tl (lq ls) ls.length n k)) ∧ Hid (Below w1.heap.size w1 wr)) (fun _ _ _ kv _ => ls.length - (intOf kv).toNat)
      case atStart => exact ⟨0, x, la, rfl, rfl, rfl, by omega, hx, hla, HN, HO, HB⟩
      case round =>
        clear HN HO HB hx hla
        obtain ⟨k, x, la, rfl, rfl, rfl, hk, hx, hla, HN, HO, HB⟩ := hrel
        by_cases hkl : k < ls.length
        · obtain ⟨p', c', e', _, _, hrow⟩ := Hv.out.turns (T := fun i => w1.heap.size ≤ i) (Turns.of_below HB.out) (fun b hb => by have := Hvb.out b hb; omega)
          cases e'
          obtain ⟨g, off, rfl, hcell⟩ := hrow.byte hkl
          obtain ⟨z, hz⟩ : ∃ z, lq ls k = z := ⟨_, rfl⟩
          rw [hz] at hcell
          unfold u8v at hcell
          have Hz := Lib.hid hz
          have hz15 : z ≤ 15 := by rw [← hz]; exact H2.out k hkl
          have k0 : (0 : Int) ≤ (k : Int) := by omega
          have k1 : (k : Int) < (ls.length : Int) := by omega
          clear hrow hz
          by_cases hzn : z = n + 1
          · subst hzn
            rw [show ((n + 1 : Nat) : Int) = (n : Int) + 1 by omega] at hcell
            obtain ⟨q, hq⟩ : ∃ q, (tl (lq ls) ls.length n k).length = q := ⟨_, rfl⟩
            obtain ⟨xs, hxs1, hxs2, hxs3⟩ := HO.out.ex
            obtain ⟨po, co, rfl⟩ := owns_slice hxs2
            clear hxs1 hxs2 hxs3 xs
            have HQ : Hid (OC wr w1.heap.size (.slice po q co) (lq ls) ls.length (tl (lq ls) ls.length n k)) := Lib.hid (by rw [← hq]; exact HO.out)
            clear HO
            rw [hq]
            obtain ⟨y, hy⟩ : ∃ y, nx (lq ls) ls.length n k = y := ⟨_, rfl⟩
            have Hy := Lib.hid hy
            have Hq := Lib.hid hq
            have hyb : y < 32768 := by
              rw [← hy]
              have h5 := nx_fits HR.out hlt hkl Hz.out
              have h6 : 2 ^ (n + 1) ≤ 2 ^ 15 := Nat.pow_le_pow_right (by decide) (by omega)
              have h7 : (2 : Nat) ^ 15 = 32768 := rfl
              omega
            clear hy hq
            by_cases hq0 : q = 0
            · obtain rfl : x = y := by
                have h5 := HN.out.no (List.length_eq_zero_iff.1 (Hq.out.trans hq0))
                rw [h5.1, ← Hy.out, h5.2]
              subst hq0
              go_wp2_with fail
              generalize wr = W2 at *
              have hW2 := HB.out.size
              go_loopw [10, 11] (fun rv kv ws => ∃ (j : Nat) (kz : Int), kv = .int .i64 kz ∧ kz + j = n ∧ j ≤ n + 1 ∧ Hid (OwnB ws W2.heap.size rv (brow (n + 1) x j)) ∧ Hid (Below W2.heap.size W2 ws)) (fun _ kv _ => (intOf kv + 1).toNat)
              case atStart => exact ⟨0, n, rfl, by omega, by omega, Lib.hid (World.ownsRow_nil _ _ _ _), Lib.hid (Below.refl _ _)⟩
              case round =>
                obtain ⟨j, kz, rfl, hkz, hj, HR1, HB1⟩ := hrel
                obtain ⟨pr, cr, rfl⟩ := owns_slice HR1.out
                rw [brow_len]
                have HR2 : Hid (wr.ownsRow W2.heap.size 4 1 (.slice pr j cr) j ((brow (n + 1) x j).map Value.bool)) := Lib.hid (by have := HR1.out; unfold OwnB at this; rw [brow_len] at this; exact this)
                clear HR1
                have hs := HB1.out.size
                by_cases h0 : 0 ≤ kz
                · obtain ⟨m, rfl⟩ : ∃ m : Nat, kz = m := ⟨kz.toNat, by omega⟩
                  have e0 : (0 : Int) ≤ (m : Int) := by omega
                  obtain ⟨t, ht⟩ : ∃ t, x / 2 ^ m = t := ⟨_, rfl⟩
                  have hsh : (x : Int) / 2 ^ m = (t : Int) := by rw [← ht]; simp
                  obtain ⟨bb, hbb⟩ : ∃ bb : Bool, decide (t % 2 = 1) = bb := ⟨_, rfl⟩
                  have hB : (((t : Int) % 2 : Int) == 1) = bb := by
                    rw [← hbb, Bool.eq_iff_iff]; simp; omega
                  have hm : m + j = n := by omega
                  have Hbb : Hid (decide (x / 2 ^ (n + 1 - 1 - j) % 2 = 1) = bb) := Lib.hid (by rw [show n + 1 - 1 - j = m by omega, ht]; exact hbb)
                  clear hbb ht hkz
                  go_wp2_with (at_builtin; refine wpList_append_one wr rfl (.tmp 50) (.tmp 56) 39 rfl W2.heap.size 4 _ 1 bool_info Try.underlying39 rfl (.slice pr j cr) j ((brow (n + 1) x j).map Value.bool) rfl HR2.out (.bool bb) _ rfl rfl ?n3 ?n4 hs ?_)
                  case n3 => simp only [maxLen]; omega
                  case n4 => omega
                  intro g1 cap1 w3 ho1 ht1 hg1
                  have HR3 : Hid (OwnB w3 W2.heap.size (.slice (some ⟨g1, 0, none⟩) (j + 1) cap1) (brow (n + 1) x (j + 1))) := Lib.hid (by
                    unfold OwnB
                    rw [brow_len, brow_snoc, Hbb.out, List.map_append]
                    exact ho1)
                  have HB3 : Hid (Below W2.heap.size W2 w3) := Lib.hid (HB1.out.trans (ht1.below hs (fun i hi => (HR2.out.lt i hi).1)))
                  clear ho1 ht1 hg1 hs
                  go_wp2
                  go_roundw
                  case rel => exact ⟨j + 1, (m : Int) - 1, by go_num, by omega, by omega, HR3, HB3⟩
                  case measure => simp [intOf]
                · have Hj1 := Lib.hid (show j = n + 1 by omega)
                  obtain ⟨xs, hx1, hx2, hx3⟩ := HQ.out.ex
                  have hxl : (tl (lq ls) ls.length n k).length = 0 := by rw [Hq.out]
                  rw [hxl] at hx2
                  have hbw : Below W2.heap.size W2 wr := HB1.out
                  have hqb := tl_len (lq ls) ls.length n k hkl
                  have hx4 : Hid (wr.ownsRow w1.heap.size 66 2 (.slice po 0 co) 0 (xs.flatMap encC6)) := Lib.hid ((Turns.of_below' (T := fun _ => False) hbw).owns hx2 (fun _ _ h => h))
                  have Hx1 := Lib.hid hx1
                  have Hx3 := Lib.hid hx3
                  have hb48 : 0 ≤ 16 * 320 := by rw [← hxl]; exact Nat.le_trans hqb (Nat.mul_le_mul (by omega) h1)
                  have hs1 : w1.heap.size ≤ wr.heap.size := by omega
                  have Hhx2 := Lib.hid hx2
                  clear hx1 hx2 hx3 hxl hqb hbw
                  have e0 : ¬ (0 : Int) ≤ kz := h0
                  go_wp2_with (at_builtin; refine wpList_append_two wr rfl (.tmp 58) (.tmp 62) 33 rfl w1.heap.size 66 _ 32 code06_info Try.underlying33 rfl (.slice po 0 co) 0 (xs.flatMap encC6) rfl hx4.out (.int .i64 (k : Int)) (.slice pr j cr) _ rfl rfl rfl ?m3 ?m4 hs1 ?_)
                  case m3 => simp only [maxLen]; omega
                  intro g2 cap2 w3 ho2 ht2 hg2
                  have HOn : Hid (OC w3 w1.heap.size (.slice (some ⟨g2, 0, none⟩) (0 + 1) cap2) (lq ls) ls.length (tl (lq ls) ls.length n (k + 1))) := Lib.hid (by
                    rw [tl_hand Hz.out]
                    refine ⟨xs ++ [(k, .slice pr j cr)], by simp [Hx1.out], ?_, ?_⟩
                    · rw [List.length_append, List.length_singleton, Hq.out, List.flatMap_append]
                      exact ho2
                    · intro p hp
                      rcases List.mem_append.1 hp with hp | hp
                      · obtain ⟨a1, a2, a3⟩ := Hx3.out p hp
                        have hp1 := (Turns.of_below' (T := fun _ => False) HB1.out).owns a1 (fun _ _ h => h)
                        refine ⟨ht2.owns hp1 (fun g hg hg' => a3 g hg hg'), a2, fun g hg hg' => ?_⟩
                        have hgg : g2 = g := by simpa [Value.ownBlock] using hg'
                        subst hgg
                        rcases hg2 with h | h
                        · exact a3 _ hg h
                        · have h8 := (a1.lt _ hg).2
                          have h9 := HB1.out.size
                          omega
                      · obtain rfl := List.mem_singleton.1 hp
                        refine ⟨?_, rfl, fun g hg hg' => ?_⟩
                        · have h8 := owns_base HR2.out (B' := w1.heap.size) hW2
                          have h9 := ht2.owns h8 (fun g hg hg' => by
                            have := (HR2.out.lt g hg).1
                            have := (Hhx2.out.lt g hg').2
                            omega)
                          show OwnB w3 w1.heap.size (.slice pr j cr) (rowOf (lq ls) ls.length k)
                          unfold rowOf OwnB
                          rw [Hz.out, Nat.add_sub_cancel, Hy.out, brow_len, ← Hj1.out]
                          have h10 := h9
                          rw [← Hj1.out] at h10
                          exact h10
                        · have hgg : g2 = g := by simpa [Value.ownBlock] using hg'
                          subst hgg
                          have h8 := HR2.out.lt _ hg
                          rcases hg2 with h | h
                          · have := (Hhx2.out.lt _ h).2; omega
                          · omega)
                  have HBn : Hid (Below w1.heap.size w1 w3) := Lib.hid ((Below.thn HB.out HB1.out).trans (ht2.below hs1 (fun i hi => (Hhx2.out.lt i hi).1)))
                  have HNn : Hid (NI (lq ls) ls.length n (k + 1) x (n + 1)) := Lib.hid (by have h8 := NI.hand (N := ls.length) Hz.out; rw [Hy.out] at h8; exact h8)
                  clear ho2 ht2 hg2
                  go_wp2
                  go_roundw
                  case rel => exact ⟨k + 1, x, n + 1, rfl, by go_num, by go_num, by omega, by omega, by omega, HNn, HOn, HBn⟩
                  case measure => simp [intOf]; omega
            · obtain ⟨hl1, hl2⟩ := HN.out.some (fun e => hq0 (by rw [← Hq.out, e]; rfl))
              rw [Hy.out] at hl2
              have d2 : ((q : Int) > 0) := by omega
              have d3 : decide (0 < q) = true := by simp; omega
              obtain ⟨d, hd⟩ : ∃ d, n + 1 - la = d := ⟨_, rfl⟩
              rw [hd] at hl2
              have hd2 : ((n : Int) + 1 - (la : Int)) = (d : Int) := by omega
              have hw : wrap64 (((x : Int) + 1) * 2 ^ d) = (y : Int) := by
                have e : ((x : Int) + 1) * 2 ^ d = ((y : Nat) : Int) := by rw [← hl2]; simp
                rw [e]; exact IntWalk.wrap64_in _ (by omega)
              clear hl2
              go_wp2_with fail
              rw [hw]
              first | rw [d3] | skip
              clear hw hd2
              generalize wr = W2 at *
              have hW2 := HB.out.size
              go_loopw [10, 11] (fun rv kv ws => ∃ (j : Nat) (kz : Int), kv = .int .i64 kz ∧ kz + j = n ∧ j ≤ n + 1 ∧ Hid (OwnB ws W2.heap.size rv (brow (n + 1) y j)) ∧ Hid (Below W2.heap.size W2 ws)) (fun _ kv _ => (intOf kv + 1).toNat)
              case atStart => exact ⟨0, n, rfl, by omega, by omega, Lib.hid (World.ownsRow_nil _ _ _ _), Lib.hid (Below.refl _ _)⟩
              case round =>
                obtain ⟨j, kz, rfl, hkz, hj, HR1, HB1⟩ := hrel
                obtain ⟨pr, cr, rfl⟩ := owns_slice HR1.out
                rw [brow_len]
                have HR2 : Hid (wr.ownsRow W2.heap.size 4 1 (.slice pr j cr) j ((brow (n + 1) y j).map Value.bool)) := Lib.hid (by have := HR1.out; unfold OwnB at this; rw [brow_len] at this; exact this)
                clear HR1
                have hs := HB1.out.size
                by_cases h0 : 0 ≤ kz
                · obtain ⟨m, rfl⟩ : ∃ m : Nat, kz = m := ⟨kz.toNat, by omega⟩
                  have e0 : (0 : Int) ≤ (m : Int) := by omega
                  obtain ⟨t, ht⟩ : ∃ t, y / 2 ^ m = t := ⟨_, rfl⟩
                  have hsh : (y : Int) / 2 ^ m = (t : Int) := by rw [← ht]; simp
                  obtain ⟨bb, hbb⟩ : ∃ bb : Bool, decide (t % 2 = 1) = bb := ⟨_, rfl⟩
                  have hB : (((t : Int) % 2 : Int) == 1) = bb := by
                    rw [← hbb, Bool.eq_iff_iff]; simp; omega
                  have hm : m + j = n := by omega
                  have Hbb : Hid (decide (y / 2 ^ (n + 1 - 1 - j) % 2 = 1) = bb) := Lib.hid (by rw [show n + 1 - 1 - j = m by omega, ht]; exact hbb)
                  clear hbb ht hkz
                  go_wp2_with (at_builtin; refine wpList_append_one wr rfl (.tmp 50) (.tmp 56) 39 rfl W2.heap.size 4 _ 1 bool_info Try.underlying39 rfl (.slice pr j cr) j ((brow (n + 1) y j).map Value.bool) rfl HR2.out (.bool bb) _ rfl rfl ?r3 ?r4 hs ?_)
                  case r3 => simp only [maxLen]; omega
                  case r4 => omega
                  intro g1 cap1 w3 ho1 ht1 hg1
                  have HR3 : Hid (OwnB w3 W2.heap.size (.slice (some ⟨g1, 0, none⟩) (j + 1) cap1) (brow (n + 1) y (j + 1))) := Lib.hid (by
                    unfold OwnB
                    rw [brow_len, brow_snoc, Hbb.out, List.map_append]
                    exact ho1)
                  have HB3 : Hid (Below W2.heap.size W2 w3) := Lib.hid (HB1.out.trans (ht1.below hs (fun i hi => (HR2.out.lt i hi).1)))
                  clear ho1 ht1 hg1 hs
                  go_wp2
                  go_roundw
                  case rel => exact ⟨j + 1, (m : Int) - 1, by go_num, by omega, by omega, HR3, HB3⟩
                  case measure => simp [intOf]
                · have Hj1 := Lib.hid (show j = n + 1 by omega)
                  obtain ⟨xs, hx1, hx2, hx3⟩ := HQ.out.ex
                  have hxl : (tl (lq ls) ls.length n k).length = q := by rw [Hq.out]
                  rw [hxl] at hx2
                  have hbw : Below W2.heap.size W2 wr := HB1.out
                  have hqb := tl_len (lq ls) ls.length n k hkl
                  have hx4 : Hid (wr.ownsRow w1.heap.size 66 2 (.slice po q co) q (xs.flatMap encC6)) := Lib.hid ((Turns.of_below' (T := fun _ => False) hbw).owns hx2 (fun _ _ h => h))
                  have Hx1 := Lib.hid hx1
                  have Hx3 := Lib.hid hx3
                  have hb48 : q ≤ 16 * 320 := by rw [← hxl]; exact Nat.le_trans hqb (Nat.mul_le_mul (by omega) h1)
                  have hs1 : w1.heap.size ≤ wr.heap.size := by omega
                  have Hhx2 := Lib.hid hx2
                  clear hx1 hx2 hx3 hxl hqb hbw
                  have e0 : ¬ (0 : Int) ≤ kz := h0
                  go_wp2_with (at_builtin; refine wpList_append_two wr rfl (.tmp 58) (.tmp 62) 33 rfl w1.heap.size 66 _ 32 code06_info Try.underlying33 rfl (.slice po q co) q (xs.flatMap encC6) rfl hx4.out (.int .i64 (k : Int)) (.slice pr j cr) _ rfl rfl rfl ?p3 ?p4 hs1 ?_)
                  case p3 => simp only [maxLen]; omega
                  case p4 => omega
                  intro g2 cap2 w3 ho2 ht2 hg2
                  have HOn : Hid (OC w3 w1.heap.size (.slice (some ⟨g2, 0, none⟩) (q + 1) cap2) (lq ls) ls.length (tl (lq ls) ls.length n (k + 1))) := Lib.hid (by
                    rw [tl_hand Hz.out]
                    refine ⟨xs ++ [(k, .slice pr j cr)], by simp [Hx1.out], ?_, ?_⟩
                    · rw [List.length_append, List.length_singleton, Hq.out, List.flatMap_append]
                      exact ho2
                    · intro p hp
                      rcases List.mem_append.1 hp with hp | hp
                      · obtain ⟨a1, a2, a3⟩ := Hx3.out p hp
                        have hp1 := (Turns.of_below' (T := fun _ => False) HB1.out).owns a1 (fun _ _ h => h)
                        refine ⟨ht2.owns hp1 (fun g hg hg' => a3 g hg hg'), a2, fun g hg hg' => ?_⟩
                        have hgg : g2 = g := by simpa [Value.ownBlock] using hg'
                        subst hgg
                        rcases hg2 with h | h
                        · exact a3 _ hg h
                        · have h8 := (a1.lt _ hg).2
                          have h9 := HB1.out.size
                          omega
                      · obtain rfl := List.mem_singleton.1 hp
                        refine ⟨?_, rfl, fun g hg hg' => ?_⟩
                        · have h8 := owns_base HR2.out (B' := w1.heap.size) hW2
                          have h9 := ht2.owns h8 (fun g hg hg' => by
                            have := (HR2.out.lt g hg).1
                            have := (Hhx2.out.lt g hg').2
                            omega)
                          show OwnB w3 w1.heap.size (.slice pr j cr) (rowOf (lq ls) ls.length k)
                          unfold rowOf OwnB
                          rw [Hz.out, Nat.add_sub_cancel, Hy.out, brow_len, ← Hj1.out]
                          have h10 := h9
                          rw [← Hj1.out] at h10
                          exact h10
                        · have hgg : g2 = g := by simpa [Value.ownBlock] using hg'
                          subst hgg
                          have h8 := HR2.out.lt _ hg
                          rcases hg2 with h | h
                          · have := (Hhx2.out.lt _ h).2; omega
                          · omega)
                  have HBn : Hid (Below w1.heap.size w1 w3) := Lib.hid ((Below.thn HB.out HB1.out).trans (ht2.below hs1 (fun i hi => (Hhx2.out.lt i hi).1)))
                  have HNn : Hid (NI (lq ls) ls.length n (k + 1) y (n + 1)) := Lib.hid (by have h8 := NI.hand (N := ls.length) Hz.out; rw [Hy.out] at h8; exact h8)
                  clear ho2 ht2 hg2
                  go_wp2
                  go_roundw
                  case rel => exact ⟨k + 1, y, n + 1, rfl, by go_num, by go_num, by omega, by omega, by omega, HNn, HOn, HBn⟩
                  case measure => simp [intOf]; omega
          · have ez : ((z : Int) != (n : Int) + 1) = true := by simp; omega
            have HN1 := Lib.hid (HN.out.skip (by rw [Hz.out]; exact hzn))
            have HO1 := Lib.hid (show OC _ _ _ _ _ (tl (lq ls) ls.length n (k + 1)) from by rw [tl_skip (by rw [Hz.out]; exact hzn)]; exact HO.out)
            go_wp2
            go_roundw
            case rel => exact ⟨k + 1, x, la, rfl, rfl, by go_num, by omega, hx, hla, HN1, HO1, HB⟩
            case measure => simp [intOf]; omega
        · obtain rfl : k = ls.length := by omega
          have HN1 := Lib.hid HN.out.next
          have HO1 := Lib.hid (tl_next (lq ls) ls.length n ▸ HO.out)
          go_wp2
          go_roundw
          case rel => exact ⟨n + 1, x, la, rfl, rfl, by go_num, by omega, hx, hla, HN1, HO1, HB⟩
          case measure => simp [intOf]; omega
    · obtain rfl : n = 15 := by omega
      go_wp2
      go_ret2
      exact ⟨_, rfl, HO.out, HB.out⟩

end Go.Proofs.Ytpdfkgdgpofhbaa
