/- The walk of the statement TilesSums. -/
import Derived.Test.YtajoipmchgabfaaM38
import Derived.Test.YtajoipmchgabfaaM39
import Derived.Test.YtajoipmchgabfaaM1
import Derived.Test.YtajoipmchgabfaaM46
import Derived.Test.YtajoipmchgabfaaM47
import Derived.Test.YtajoipmchgabfaaM29
import Derived.Deep.QuietTactic
import Derived.BigQuiet
namespace Go.Proofs.Ytajoipmchgabfaa
open Go.RowKit

theorem tlN_pos {pw ph : Nat} (h1 : 0 < pw) (h2 : 0 < ph) : 0 < tlN pw ph := by
  unfold tlN clN
  exact Nat.mul_pos (by omega) (by omega)
/-- Where a picture has sums, and where not. -/
theorem smL_none {wd ht : Int} {L : List Int} (h : (smL wd ht L).length = 0) : ¬ (okS wd ht ∧ (L.length : Int) = wd * ht) := by
  intro hc
  have h3 := hc.1
  unfold okS at h3
  unfold smL at h
  rw [if_pos hc, List.length_map, List.length_range] at h
  have := tlN_pos (show 0 < wd.toNat by omega) (show 0 < ht.toNat by omega)
  omega
theorem smL_some {wd ht : Int} {L : List Int} (h : (smL wd ht L).length ≠ 0) : ∃ pw ph : Nat, wd = pw ∧ ht = ph ∧ 1 ≤ pw ∧ pw ≤ 256 ∧ 1 ≤ ph ∧ ph ≤ 256 ∧ L.length = pw * ph ∧ szW wd ht = pw ∧ szH wd ht = ph ∧ ∀ L' : List Int, L'.length = L.length → smL wd ht L' = (List.range (tlN pw ph)).map (tlS pw ph L') := by
  by_cases hc : okS wd ht ∧ (L.length : Int) = wd * ht
  · obtain ⟨h1, h2⟩ := hc
    have h3 := h1
    unfold okS at h3
    obtain ⟨a, rfl⟩ := Int.eq_ofNat_of_zero_le (show 0 ≤ wd by omega)
    obtain ⟨b, rfl⟩ := Int.eq_ofNat_of_zero_le (show 0 ≤ ht by omega)
    refine ⟨a, b, rfl, rfl, by omega, by omega, by omega, by omega, by exact_mod_cast h2, ?_, ?_, fun L' hl => ?_⟩
    · unfold szW; rw [if_pos h1]; simp
    · unfold szH; rw [if_pos h1]; simp
    · unfold smL; rw [if_pos ⟨h1, by rw [hl]; exact h2⟩]; simp
  · unfold smL at h
    rw [if_neg hc] at h
    exact absurd rfl h

theorem lowL_len (L : List Int) : (lowL L).length = L.length := by unfold lowL; simp
/-- One more pixel with its highest byte changed. -/
theorem lowL_set {L S : List Int} {k : Nat} {z : Int} (hk : k < L.length) (hz : z % 16777216 = L[k] % 16777216) (h : lowL L = S) : lowL (L.set k z) = S := by
  rw [← h]
  unfold lowL
  rw [List.map_set, hz]
  apply List.ext_getElem?
  intro i
  by_cases hi : i = k
  · subst hi
    rw [List.getElem?_set_self (by simpa using hk)]
    simp [hk]
  · rw [List.getElem?_set_ne (by omega)]
theorem U32.set {L : List Int} (h : U32 L) (k : Nat) {z : Int} (hz : 0 ≤ z ∧ z < 4294967296) : U32 (L.set k z) := fun v hv => by
  rcases List.mem_or_eq_of_mem_set hv with hv | rfl
  · exact h v hv
  · exact hz
theorem xor_u32 (z : Int) (h0 : 0 ≤ z) (h1 : z < 4294967296) : 0 ≤ bits .xor .u32 z 16777216 ∧ bits .xor .u32 z 16777216 < 4294967296 := by
  obtain ⟨n, rfl⟩ := Int.eq_ofNat_of_zero_le h0
  have h := xor32_nat n 16777216 (by omega) (by decide)
  rw [show ((16777216 : Nat) : Int) = 16777216 from rfl] at h
  rw [h]
  have hx : n ^^^ 16777216 < 2 ^ 32 := Nat.xor_lt_two_pow (by omega) (by omega)
  omega
theorem RowAt.srcW {W : World} {p : Option Addr} {xs : List Int} (h : RowAt encW 1 W p xs) (hne : xs.length ≠ 0) : ∃ ad, p = some ad ∧ ∀ j u, (xs.map u32V)[j]? = some u → W.cell? (ad.add j) = some u := by
  rcases h with ⟨_, rfl⟩ | ⟨b, off, rfl, hb, hc⟩
  · exact absurd rfl hne
  · refine ⟨_, rfl, fun j u hu => ?_⟩
    obtain ⟨hj, hu'⟩ := List.getElem?_eq_some_iff.1 hu
    rw [List.length_map] at hj
    have h1 := hc j xs[j] (List.getElem?_eq_getElem hj) 0 (.int .u32 xs[j]) rfl
    rw [List.getElem_map] at hu'
    rw [← hu', Addr.add_lit]
    simpa [u32V] using h1
/-- What differs in one pixel alone differs in a tile that has it, if at all. -/
theorem sums_same {pw ph i P : Nat} {c : Int} {L S : List Int} (hw : pw ≤ 256) (hh : ph ≤ 256) (hi : i < tlN pw ph) (hl : lowL L = lowL S) (hP : P < S.length) (h : hasR (tlR pw ph i) ((P % pw : Nat) : Int) ((P / pw : Nat) : Int) = false ∨ c % 16777216 = S[P] % 16777216) : tlS pw ph (L.set P c) i = tlS pw ph S i := by
  have hlen : L.length = S.length := by rw [← lowL_len L, hl, lowL_len]
  rcases h with h | h
  · rw [tlS_set hw hh hi h, ← tlS_low pw ph L i, hl, tlS_low]
  · have h2 : L[P] % 16777216 = S[P] % 16777216 := by
      have h3 : (lowL L)[P]? = (lowL S)[P]? := by rw [hl]
      unfold lowL at h3
      rw [List.getElem?_map, List.getElem?_map, List.getElem?_eq_getElem (by omega), List.getElem?_eq_getElem hP] at h3
      simpa using h3
    rw [← tlS_low pw ph (L.set P c) i, lowL_set (by omega) (h.trans h2.symm) hl, tlS_low]

theorem Row.ownW {w : World} {base : Nat} {e : TypeId} {v : Value} {l : List Int} (h : w.ownsRow base e 1 v l.length (l.map u32V)) : Row encW 1 w v l := by
  have e : l.flatMap encW = l.map u32V := by
    clear h
    induction l with
    | nil => rfl
    | cons a l ih => rw [List.flatMap_cons, ih]; rfl
  exact owns_row' (enc := encW) (k := 1) (fun _ => rfl) (by rw [e]; exact h)

theorem step_px {L S : List Int} {i n : Nat} (hL : L.length = n ∧ lowL L = lowL S ∧ U32 L) (hi : i < n) : ∃ z, L[i]? = some z ∧ (L.set i (bits .xor .u32 z 16777216)).length = n ∧ lowL (L.set i (bits .xor .u32 z 16777216)) = lowL S ∧ U32 (L.set i (bits .xor .u32 z 16777216)) := by
  have hi' : i < L.length := by omega
  have hu := hL.2.2 L[i] (List.getElem_mem _)
  exact ⟨L[i], List.getElem?_eq_getElem hi', by rw [List.length_set]; exact hL.1, lowL_set hi' (xor_low _ hu.1 hu.2) hL.2.1, hL.2.2.set i (xor_u32 _ hu.1 hu.2)⟩

theorem RowAt.sum_at {w : World} {p : Option Addr} {f : Nat → Int} {N i : Nat} (h : RowAt encW 1 w p ((List.range N).map f)) (hi : i < N) : ∃ b off, p = some ⟨b, off, none⟩ ∧ w.cell? ⟨b, off + i, none⟩ = some (.int .u32 (f i)) := by
  obtain ⟨b, off, e, h1⟩ := h.w32_at (k := i) (by simpa using hi)
  exact ⟨b, off, e, by simpa using h1 w (Below.refl _ _)⟩
theorem grL_at {pw ph i : Nat} (hi : i < (grL pw ph).length) : (grL pw ph)[i] = tlR pw ph i := by simp [grL]

theorem own_block {w : World} {B n c : Nat} {e : TypeId} {p : Option Addr} {xs : List Value} (h : w.ownsRow B e 1 (.slice p n c) n xs) (hn : 0 < n) : ∃ g, p = some ⟨g, 0, none⟩ ∧ B ≤ g := by
  rcases h.2 with ⟨_, h0⟩ | ⟨g, cp, cur, e, h1, -⟩
  · omega
  · injection e with e1
    exact ⟨g, e1, h1⟩

set_option maxRecDepth 20000 in
set_option maxHeartbeats 4000000 in
theorem tsums_any (wd ht : Int) (p : Option Addr) (cap : Nat) (S : List Int) (at0 c : Int) (W : World) (hi : Img W wd ht p cap S) (hc : 0 ≤ c ∧ c < 4294967296) :
    Makes Try.prog 4 #[IV wd ht (.slice p S.length cap), .int .i64 at0, .int .u32 c] W (.bool true) := by
  unfold Makes
  have HI := Lib.hid hi
  obtain ⟨n, hn⟩ : ∃ n, S.length = n := ⟨_, rfl⟩
  have hncap : n ≤ cap := by rw [← hn]; exact hi.len
  have hcap := hi.cap
  have hwb := hi.wb
  have hhb := hi.hb
  have Hn := Lib.hid hn
  rw [hn]
  clear hi hn
  go_enter Try.func4, Try.ntmps4
  go_upto_region 1 with (fail)
  have hi0 : Im3 (W.alloc (.cells #[.int .i64 wd, .int .i64 ht, .slice p n cap] 24)) W.heap.size wd ht (.slice p n cap) := Im3.new rfl
  have hb0 := Below.al1 W (.cells #[.int .i64 wd, .int .i64 ht, .slice p n cap] 24)
  generalize W.alloc (.cells #[.int .i64 wd, .int .i64 ht, .slice p n cap] 24) = w0 at *
  have HI0 := Lib.hid hi0
  have Hb0 := Lib.hid hb0
  obtain ⟨m0, m1, m2⟩ := hi0.cells
  clear hi0 hb0
  by_cases hbig : 2000 < n
  · have d0 : decide ((n : Int) > 2000) = true := by simp; omega
    go_wp2_with fail
    refine Calls.mono (tlWakes_any _) ?_
    rintro _ w1 ⟨rfl, hb1⟩
    have Hb := Lib.hid (Below.thn Hb0.out hb1)
    clear hb1 m0 m1 m2
    go_wp2
    go_ret
    exact ⟨rfl, Hb.out⟩
  have d0 : decide ((n : Int) > 2000) = false := by simp; omega
  go_wp2_with fail
  refine Calls.mono (sums_any wd ht p cap n S w0 (HI.out.row.below Hb0.out) Hn.out hncap hcap) ?_
  rintro _ w1 ⟨v1, rfl, ho1, hb1⟩
  obtain ⟨p1, c1, rfl, hc1, hc1', hp1⟩ := Row.ownW ho1
  have HI1 := Lib.hid (HI0.out.later hb1)
  have Hb1 := Lib.hid (Below.thn Hb0.out hb1)
  have Hp1 := Lib.hid hp1
  clear m0 m1 m2
  obtain ⟨m0, m1, m2⟩ := HI1.out.cells
  clear ho1 hb1 hp1 HI0 d0
  by_cases hz : (smL wd ht S).length = 0
  · have hno := smL_none hz
    rw [hz]
    rw [Hn.out] at hno
    have Hcase := Lib.hid (show (decide (wd < 1) = true) ∨ (decide (wd < 1) = false ∧ decide (wd > 256) = true) ∨ (decide (wd < 1) = false ∧ decide (wd > 256) = false ∧ decide (ht < 1) = true) ∨ (decide (wd < 1) = false ∧ decide (wd > 256) = false ∧ decide (ht < 1) = false ∧ decide (ht > 256) = true) ∨ (decide (wd < 1) = false ∧ decide (wd > 256) = false ∧ decide (ht < 1) = false ∧ decide (ht > 256) = false ∧ ((n : Int) != IntKind.i64.wrap (wd * ht)) = true) from by
      by_cases h1 : wd < 1
      · exact .inl (decide_eq_true h1)
      by_cases h2 : wd > 256
      · exact .inr (.inl ⟨decide_eq_false h1, decide_eq_true h2⟩)
      by_cases h3 : ht < 1
      · exact .inr (.inr (.inl ⟨decide_eq_false h1, decide_eq_false h2, decide_eq_true h3⟩))
      by_cases h4 : ht > 256
      · exact .inr (.inr (.inr (.inl ⟨decide_eq_false h1, decide_eq_false h2, decide_eq_false h3, decide_eq_true h4⟩)))
      refine .inr (.inr (.inr (.inr ⟨decide_eq_false h1, decide_eq_false h2, decide_eq_false h3, decide_eq_false h4, ?_⟩)))
      have hw : IntKind.i64.wrap (wd * ht) = wd * ht := by
        obtain ⟨x, rfl⟩ := Int.eq_ofNat_of_zero_le (show 0 ≤ wd by omega)
        obtain ⟨y, rfl⟩ := Int.eq_ofNat_of_zero_le (show 0 ≤ ht by omega)
        have : x * y ≤ 256 * 256 := Nat.mul_le_mul (by omega) (by omega)
        exact IntWalk.i64_in _ (by rw [← Int.natCast_mul]; omega)
      rw [hw]
      have : ¬ (n : Int) = wd * ht := fun h => hno ⟨by unfold okS; omega, h⟩
      simp [this])
    clear hno hz Hp1 hwb hhb
    obtain ⟨z, hzz⟩ : ∃ z, IntKind.i64.wrap (wd * ht) = z := ⟨_, rfl⟩
    rw [hzz] at Hcase
    rcases Hcase.out with e1 | ⟨e1, e2⟩ | ⟨e1, e2, e3⟩ | ⟨e1, e2, e3, e4⟩ | ⟨e1, e2, e3, e4, e5⟩
    all_goals
      clear Hcase
      go_wp2_with fail
      refine Calls.mono (tlWakes_any _) ?_
      rintro _ w2 ⟨rfl, hb2⟩
      have Hb := Lib.hid (Below.thn Hb1.out hb2)
      clear hb2 m0 m1 m2
      go_wp2
      go_ret
      exact ⟨rfl, Hb.out⟩
  obtain ⟨pw, ph, rfl, rfl, hp1, hp2, hp3, hp4, hp5, hp6, hp7, hp8⟩ := smL_some hz
  have Hsm := Lib.hid hp8
  rw [hp8 S rfl] at hz hc1 Hp1 ⊢
  have hgr := fun w => grid_any (pw : Int) (ph : Int) w
  rw [hp6, hp7] at hgr
  have hgl : (grL pw ph).length = tlN pw ph := by unfold grL; simp
  rw [hgl] at hgr
  rw [List.length_map, List.length_range] at hz hc1 ⊢
  rw [Hn.out] at hp5
  obtain ⟨N, hN⟩ : ∃ N, tlN pw ph = N := ⟨_, rfl⟩
  have hN256 := tlN_le hp2 hp4
  rw [hN] at hz hc1 hgr hN256 ⊢
  have HN := Lib.hid (And.intro hN hgl)
  have Hgr := Lib.hid hgr
  have H5 := Lib.hid hp5
  have hn0 : 0 < n := by rw [hp5]; exact Nat.mul_pos (by omega) (by omega)
  clear hp8 hp7 hp6 hp5 hN hgr hgl
  have dz : ((N : Int) == 0) = false := by simp; omega
  go_wp2_with fail
  refine Calls.mono (Hgr.out _) ?_
  rintro _ w2 ⟨v2, rfl, ho2, hb2⟩
  obtain ⟨p2, c2, rfl, hc2, hc2', hp2'⟩ := owns_row' (enc := encR) (k := 4) (fun _ => rfl) (by rw [HN.out.2, HN.out.1]; exact ho2)
  have HI2 := Lib.hid (HI1.out.later hb2)
  have Hb2 := Lib.hid (Below.thn Hb1.out hb2)
  have Ha2 := Lib.hid (Hp1.out.below hb2)
  have Hg2 := Lib.hid hp2'
  have Hs2 := Lib.hid (HI.out.row.below (Below.thn Hb1.out hb2))
  clear ho2 hb2 hp2' m0 m1 m2 HI1 Hp1
  rw [HN.out.2, HN.out.1] at hc2 ⊢
  go_upto_region 7 with (fail)
  obtain ⟨m0, m1, m2⟩ := HI2.out.cells
  have hq := After.ne w2
  have C0 := After.rule m0
  have C1 := After.rule m1
  have C2 := After.rule m2
  refine wp_region_itms [none, none, none, none, none, none, some (postA w2.heap.size n (S.map u32V)), none, some (postB w2.heap.size)] (by kernel_rfl) (by kernel_rfl) (by kernel_rfl) (by kernel_rfl) (fun p hp r hr v => ?_) ?_
  · simp only [List.mem_cons, List.not_mem_nil, or_false] at hp
    rcases hp with rfl | rfl | rfl | rfl | rfl | rfl | rfl | rfl | rfl <;> first | (cases hr; done) | (cases hr; exact postA_stays _ _ _ _) | (cases hr; exact postB_stays _ _)
  simp only [itms]
  refine Mq_look1 (.pointer (some ⟨W.heap.size, 0, none⟩)) (fun m => by go_simp) ?_
  refine Mq_look1 (.int .i64 (pw : Int)) (fun m => by go_simp) ?_
  refine Mq_look1 (.pointer (some ⟨W.heap.size, 1, none⟩)) (fun m => by go_simp) ?_
  refine Mq_look1 (.int .i64 (ph : Int)) (fun m => by go_simp) ?_
  refine Mq_look1 (.pointer (some ⟨W.heap.size, 2, none⟩)) (fun m => by go_simp) ?_
  refine Mq_look1 (.slice p n cap) (fun m => by go_simp) ?_
  refine Mq_new1 (fun m => ?_) ?_
  · refine postA_new (s := .tmp 66) (p := p) (n := n) (c := cap) rfl (by go_simp) (by rw [List.length_map, Hn.out]) (fun u hu => ?_) (by omega) (.inr ?_) m.below.size
    · obtain ⟨z, -, rfl⟩ := List.mem_map.1 hu
      rfl
    · exact RowAt.srcW (Hs2.out.below m.below) (by rw [Hn.out]; omega)
  rintro _ ⟨_, ⟨p3, c3, rfl⟩, -⟩
  refine Mq_look1 (.agg #[.int .i64 (pw : Int), .int .i64 (ph : Int), .slice p3 n c3]) (fun m => by go_simp) ?_
  refine Mq_new1 (fun m => ?_) ?_
  · go_simp
    exact postB_new _ m.below.size
  rintro _ ⟨_, b, rfl, -, -⟩
  refine Mq_nil1 ?_
  intro w3 hb3 hkn
  obtain ⟨⟨-, -, hA⟩, hB⟩ := hkn
  obtain ⟨b', e, hbb, hbx⟩ := hB
  cases e
  obtain ⟨g, rfl, hgb⟩ := own_block hA hn0
  have hgn := post_apart hA hbx rfl
  simp only [List.length_cons, List.length_nil, List.drop_succ_cons, List.drop_zero]
  clear m0 m1 m2 C0 C1 C2 hq
  have hI3 : Im3 w3 b 0 0 (.slice none 0 0) := hbx
  have hI4 := hI3.set (pw : Int) (ph : Int) (.slice (some ⟨g, 0, none⟩) n c3)
  obtain ⟨m0, m1, m2⟩ := hI3.cells
  have f0 := hI3.free 0
  have f1 := hI3.free 1
  have f2 := hI3.free 2
  go_upto_region 8 with (fail)
  have ht4 : Turns (fun q => q = b) w3 (((w3.setCell ⟨b, 0, none⟩ (.int .i64 (pw : Int))).setCell ⟨b, 1, none⟩ (.int .i64 (ph : Int))).setCell ⟨b, 2, none⟩ (.slice (some ⟨g, 0, none⟩) n c3)) := Turns.set (T := fun q => q = b) (Turns.set (T := fun q => q = b) (Turns.set (T := fun q => q = b) (Turns.refl _ _) (p := ⟨b, 0, none⟩) rfl _) (p := ⟨b, 1, none⟩) rfl _) (p := ⟨b, 2, none⟩) rfl _
  generalize (((w3.setCell ⟨b, 0, none⟩ (.int .i64 (pw : Int))).setCell ⟨b, 1, none⟩ (.int .i64 (ph : Int))).setCell ⟨b, 2, none⟩ (.slice (some ⟨g, 0, none⟩) n c3)) = w4 at *
  have HA4 := Lib.hid (ht4.owns hA (fun k hk hkb => by cases hk; exact hgn hkb))
  have hb4 : Below w2.heap.size w2 w4 := Below.trans hb3 (ht4.below hb3.size (fun i hi => by rw [hi]; exact hbb))
  have HI4 := Lib.hid hI4
  have Hb4 := Lib.hid hb4
  have HX := Lib.hid (And.intro hgb (And.intro hgn (And.intro hbb (And.intro hI4.lt (hA.lt g rfl).2))))
  have HS4 := ht4.size
  clear m0 m1 m2 f0 f1 f2 hI3 hI4 hA hbx hgn hb3 hbb hgb ht4 hb4 HS4
  go_wp2_with fail
  go_loopw [10] (fun iv wr => ∃ (i : Nat) (L : List Int), i ≤ n ∧ iv = .int .i64 (i : Int) ∧ Hid (L.length = n ∧ lowL L = lowL S ∧ U32 L) ∧ Hid (wr.ownsRow w2.heap.size 35 1 (.slice (some ⟨g, 0, none⟩) n c3) n (L.map u32V)) ∧ Hid (Turns (fun q => q = g) w4 wr)) (fun iv _ => n - (intOf iv).toNat)
  case atStart => exact ⟨0, S, Nat.zero_le _, rfl, Lib.hid ⟨Hn.out, rfl, HI.out.u⟩, HA4, Lib.hid (Turns.refl _ _)⟩
  case round =>
    obtain ⟨i, L, hi, rfl, HL, Ho, Ht⟩ := hrel
    have Hr4 := Lib.hid (HI4.out.same (Ht.out.block b HX.out.2.2.2.1 (fun h => HX.out.2.1 h.symm)))
    obtain ⟨m0, m1, m2⟩ := Hr4.out.cells
    by_cases hin : i < n
    · have dk : decide ((i : Int) < (n : Int)) = true := by simp; omega
      obtain ⟨z, hz, hL'⟩ := step_px HL.out hin
      have HL' := Lib.hid hL'
      have hcell := Ho.out.cellAt i (by omega)
      rw [List.getElem?_map, hz] at hcell
      replace hcell : wr.cell? ⟨g, i, none⟩ = some (.int .u32 z) := hcell
      have hfz := Ho.out.frozenAt i
      clear hz hL'
      have hq := After.ne wr
      have C2 := After.rule m2
      have CX := After.rule hcell
      have k0 : (0 : Int) ≤ (i : Int) := by omega
      have k1 : (i : Int) < (n : Int) := by omega
      go_upto_region 11 with (fail)
      refine wp_region_head 10 (by kernel_rfl) (by kernel_rfl) (by kernel_rfl) ?_
      repeat (refine Lq_step (fun K hK => ?_); go_simp; (refine hK _ ?_; clear hK K))
      refine Lq_nil ?_
      intro w' hb
      simp only [List.drop_succ_cons, List.drop_zero]
      have x1 := cell_later hb hcell
      have x2 := (Turns.of_below' (T := fun _ => False) hb).free hcell hfz (fun h => h)
      have ho' := (Turns.of_below' (T := fun _ => False) hb).owns Ho.out (fun _ _ h => h)
      have hst := (ho'.stored i (u32V (bits .xor .u32 z 16777216))).1
      rw [← List.map_set] at hst
      have Ho' := Lib.hid hst
      have Ht' := Lib.hid ((Ht.out.trans (Turns.of_below' (T := fun q => q = g) hb)).set (T := fun q => q = g) (p := ⟨g, i, none⟩) rfl (u32V (bits .xor .u32 z 16777216)))
      clear hq C2 CX m0 m1 m2 hcell hfz ho' hst hb
      go_wp2
      go_roundw
      case rel => exact ⟨i + 1, _, by omega, by go_num, HL', Ho', Ht'⟩
      case measure => simp [intOf]; omega
    · obtain rfl : n = i := by omega
      have dk : decide ((n : Int) < (n : Int)) = false := by simp
      have hnz : ((n : Int) == 0) = false := by simp; omega
      have hnp : (0 : Int) < (n : Int) := by omega
      have ht1 := Int.lt_tmod_of_pos at0 hnp
      have ht2 := Int.tmod_lt_of_pos at0 hnp
      obtain ⟨t, ht⟩ : ∃ t, at0.tmod (n : Int) = t := ⟨_, rfl⟩
      rw [ht] at ht1 ht2
      have hwt : IntKind.i64.wrap (t + n) = t + n ∨ 0 ≤ t := by
        by_cases h0 : 0 ≤ t
        · exact .inr h0
        · exact .inl (IntWalk.i64_in _ (by omega))
      have Hwt := Lib.hid hwt
      clear hwt hnp
      go_upto_if 92 with (fail)
      go_cut [11] (fun s wx => ∃ P : Nat, P < n ∧ s = .int .i64 (P : Int) ∧ wx = wr)
      case first =>
        clear ht
        by_cases hneg : t < 0
        · have hzz : decide (t < 0) = true := decide_eq_true hneg
          have hw := Hwt.out.resolve_right (by omega)
          simp only [hzz]
          go_wp2_with fail
          go_meet
          exact ⟨(t + n).toNat, by omega, by congr 1; omega, rfl⟩
        · have hzz : decide (t < 0) = false := decide_eq_false hneg
          simp only [hzz]
          go_wp2_with fail
          go_meet
          exact ⟨t.toNat, by omega, by congr 1; omega, rfl⟩
      case rest =>
        obtain ⟨P, hP, rfl, hwc⟩ := hcut
        obtain rfl := hwc.symm
        clear ht ht1 ht2 Hwt
        have hln := HL.out.1
        obtain ⟨x0, hx0⟩ : ∃ z, L[P]? = some z := ⟨L[P]'(by omega), List.getElem?_eq_getElem (by omega)⟩
        have hcell := Ho.out.cellAt P (by omega)
        rw [List.getElem?_map, hx0] at hcell
        replace hcell : wr.cell? ⟨g, P, none⟩ = some (.int .u32 x0) := hcell
        have hfz := Ho.out.frozenAt P
        have k0 : (0 : Int) ≤ (P : Int) := by omega
        have k1 : (P : Int) < (n : Int) := by omega
        have hst := (Ho.out.stored P (u32V c)).1
        rw [← List.map_set] at hst
        have Ho5 : Hid ((wr.setCell ⟨g, P, none⟩ (.int .u32 c)).ownsRow w2.heap.size 35 1 (.slice (some ⟨g, 0, none⟩) n c3) n ((L.set P c).map u32V)) := Lib.hid hst
        have Ht5 := Lib.hid (Ht.out.set (T := fun q => q = g) (p := ⟨g, P, none⟩) rfl (.int .u32 c))
        clear hst hx0
        go_upto_region 16 with (fail)
        generalize wr.setCell ⟨g, P, none⟩ (.int .u32 c) = w5 at *
        have hb45 : Below w2.heap.size w4 w5 := Ht5.out.below Hb4.out.size (fun i hi => by rw [hi]; exact HX.out.1)
        have hb25 := Below.trans Hb4.out hb45
        have hi5 : Im3 w5 W.heap.size (pw : Int) (ph : Int) (.slice p n cap) := HI2.out.later hb25
        have hb5 := HI4.out.same (Ht5.out.block b HX.out.2.2.2.1 (fun h => HX.out.2.1 h.symm))
        have Ha5 := Lib.hid (Ha2.out.below hb25)
        have Hg5 := Lib.hid (Hg2.out.below hb25)
        have Hs5 := Lib.hid (Hs2.out.below hb25)
        have Hb5 := Lib.hid (Below.thn Hb2.out hb25)
        have Hi5 := Lib.hid hi5
        have HL5 : Hid (lowL L = lowL S ∧ (L.set P c).length = n ∧ (L.set P c).length = S.length) := Lib.hid ⟨HL.out.2.1, by rw [List.length_set]; exact HL.out.1, by rw [List.length_set, Hn.out]; exact HL.out.1⟩
        have hrow := Row.ownW (l := L.set P c) (by rw [HL5.out.2.1]; exact Ho5.out)
        obtain ⟨p5, c5, e5, q5, q5', hat5⟩ := hrow
        rw [HL5.out.2.1] at e5 q5
        injection e5 with e5 _ e6
        subst e5 e6
        obtain ⟨m0, m1, m2⟩ := hb5.cells
        have Hat5 := Lib.hid hat5
        clear hb45 hb25 hi5 hb5 hat5 Ht5 Ho5 Ha2 Hg2 Hs2 Ht Ho Hr4
        simp only [maxLen] at q5'
        go_wp2_with fail
        refine Calls.mono (sums_any (pw : Int) (ph : Int) (some ⟨g, 0, none⟩) c3 n (L.set P c) w5 Hat5.out HL5.out.2.1 q5 (by omega)) ?_
        rw [Hsm.out _ HL5.out.2.2, List.length_map, List.length_range, HN.out.1]
        rintro _ w6 ⟨v6, rfl, ho6, hb6⟩
        have hrow := Row.ownW (l := (List.range N).map (tlS pw ph (L.set P c))) (by rw [List.length_map, List.length_range]; exact ho6)
        obtain ⟨p6, c6, rfl, r6, r6', hat6⟩ := hrow
        rw [List.length_map, List.length_range] at r6 ⊢
        have Ha6 := Lib.hid (Ha5.out.below hb6)
        have Hg6 := Lib.hid (Hg5.out.below hb6)
        have Hs6 := Lib.hid (Hs5.out.below hb6)
        have Hi6 := Lib.hid (Hi5.out.later hb6)
        have Hb6 := Lib.hid (Below.thn Hb5.out hb6)
        have Hat6 := Lib.hid hat6
        rw [HN.out.1] at Ha6
        clear ho6 hb6 hat6 Ha5 Hg5 Hs5 Hi5 Hb5 Hat5 m0 m1 m2 hcell hfz HI4 HA4 q5 q5'
        go_wp2_with fail
        go_loopw [13] (fun iv wr => ∃ i : Nat, i ≤ N ∧ iv = .int .i64 (i : Int) ∧ Hid (Below w6.heap.size w6 wr)) (fun iv _ => N - (intOf iv).toNat)
        case atStart => exact ⟨0, Nat.zero_le _, rfl, Lib.hid (Below.refl _ _)⟩
        case round =>
          obtain ⟨i, hi, rfl, HB⟩ := hrel
          by_cases hiN : i < N
          · have dk : decide ((i : Int) < (N : Int)) = true := by simp; omega
            obtain ⟨ba, oa, rfl, ca⟩ := (Ha6.out.below HB.out).sum_at hiN
            obtain ⟨bb, ob, rfl, cb⟩ := (Hat6.out.below HB.out).sum_at hiN
            have hil : i < (grL pw ph).length := by rw [HN.out.2, HN.out.1]; exact hiN
            obtain ⟨bg, og, rfl, -, hat⟩ := Hg6.out.rc hil
            obtain ⟨g0, g1, g2, g3⟩ := (hat i hil).later HB.out
            rw [grL_at hil] at g0 g1 g2 g3
            have hPl : P < S.length := by rw [Hn.out]; exact hP
            obtain ⟨bs, os, rfl, cs0⟩ := RowAt.w32_at (l := S) Hs6.out hPl
            have cs := cs0 wr HB.out
            have hsu := HI.out.u _ (List.getElem_mem hPl)
            obtain ⟨m0, m1, m2⟩ := (Hi6.out.later HB.out).cells
            obtain ⟨X, hX⟩ : ∃ X, P % pw = X := ⟨_, rfl⟩
            obtain ⟨Y, hY⟩ : ∃ Y, P / pw = Y := ⟨_, rfl⟩
            have hsame := sums_same (c := c) (S := S) (L := L) (P := P) hp2 hp4 (by rw [HN.out.1]; exact hiN) HL5.out.1 hPl
            rw [hX, hY] at hsame
            have hu1 : (P : Int) % (pw : Int) = (X : Int) := by rw [← hX]; exact (Int.natCast_emod P pw).symm
            have hu2 : (P : Int) / (pw : Int) = (Y : Int) := by rw [← hY]; exact (Int.natCast_ediv P pw).symm
            have hYb : Y ≤ 65536 := by have := Nat.div_le_self P pw; omega
            have hw : IntKind.i64.wrap (Y : Int) = (Y : Int) := IntWalk.i64_in _ (by omega)
            have hfit : Fit (tlR pw ph i) := and_fit _ _
            obtain ⟨r, hr⟩ : ∃ r, tlR pw ph i = r := ⟨_, rfl⟩
            rw [hr] at g0 g1 g2 g3 hsame hfit
            have hhas := fun u => has_any r (X : Int) (Y : Int) u hfit
            obtain ⟨hv, hhv⟩ : ∃ v, hasR r (X : Int) (Y : Int) = v := ⟨_, rfl⟩
            rw [hhv] at hhas hsame
            have Hhas := Lib.hid hhas
            obtain ⟨sv, hsv⟩ : ∃ z, S[P] = z := ⟨_, rfl⟩
            rw [hsv] at cs hsame hsu
            obtain ⟨sa, hsa⟩ : ∃ z, tlS pw ph S i = z := ⟨_, rfl⟩
            obtain ⟨sb, hsb⟩ : ∃ z, tlS pw ph (L.set P c) i = z := ⟨_, rfl⟩
            rw [hsa] at ca hsame
            rw [hsb] at cb hsame
            have hm1 := mask24 c hc
            have hm2 := mask24 sv hsu
            unfold cut24 at hm1 hm2
            obtain ⟨cc, hcc⟩ : ∃ z, c % 16777216 = z := ⟨_, rfl⟩
            obtain ⟨cv, hcv⟩ : ∃ z, sv % 16777216 = z := ⟨_, rfl⟩
            rw [hcc] at hm1 hsame
            rw [hcv] at hm2 hsame
            have hpw0 : ((pw : Int) == 0) = false := by simp; omega
            have Hc : Hid ((hv = false ∧ sb = sa ∧ (cc == cv) = true) ∨ (hv = false ∧ sb = sa ∧ (cc == cv) = false) ∨ (hv = true ∧ sb = sa ∧ (cc == cv) = true) ∨ (hv = true ∧ sb = sb ∧ (cc == cv) = false)) := Lib.hid (by
              by_cases e : cc = cv
              · have e2 : (cc == cv) = true := by simp [e]
                cases hv
                · exact .inl ⟨rfl, hsame (.inl rfl), e2⟩
                · exact .inr (.inr (.inl ⟨rfl, hsame (.inr e), e2⟩))
              · have e2 : (cc == cv) = false := by simp [e]
                cases hv
                · exact .inr (.inl ⟨rfl, hsame (.inl rfl), e2⟩)
                · exact .inr (.inr (.inr ⟨rfl, rfl, e2⟩)))
            have j0 : (0 : Int) ≤ (i : Int) := by omega
            have j1 : (i : Int) < (N : Int) := by omega
            have hq := After.ne wr
            have R0 := After.rule m0
            have R1 := After.rule m1
            have R2 := After.rule m2
            have R3 := After.rule ca
            have R4 := After.rule cb
            have R5 := After.rule g0
            have R6 := After.rule g1
            have R7 := After.rule g2
            have R8 := After.rule g3
            have R9 := After.rule cs
            clear hsame hhv hsv hsa hsb hcc hcv hr hfit hX hY hhas hsu hat hil cs0 ca cb g0 g1 g2 g3 cs m1 m2
            go_upto_region 22 with (fail)
            clear m0
            rcases Hc.out with ⟨rfl, rfl, e3⟩ | ⟨rfl, rfl, e3⟩ | ⟨rfl, rfl, e3⟩ | ⟨rfl, -, e3⟩
            all_goals
              clear Hc
              refine wp_region_in ⟨wr, Below.refl _ _⟩ (by kernel_rfl) (by kernel_rfl) ?_
              repeat (first
                | (go_big_quiet_step ((go_at_call 28; exact Makes.after (Hhas.out _))))
                | (refine ⟨_, fun _ => rfl, ?_⟩; go_big_quiet_on))
              refine wpQuiet_nil ?_
              rintro _ ⟨n1, rfl⟩
              have HB' := Lib.hid (Below.thn HB.out n1.below)
              clear hq R0 R1 R2 R3 R4 R5 R6 R7 R8 R9
              go_wp2
              go_roundw
              case rel => exact ⟨i + 1, by omega, by go_num, HB'⟩
              case measure => simp [intOf]; omega
          · obtain rfl : N = i := by omega
            have dk : decide ((N : Int) < (N : Int)) = false := by simp
            go_wp2_with fail
            refine Calls.mono (tlWakes_any _) ?_
            rintro _ w9 ⟨rfl, hb9⟩
            have Hb9 := Lib.hid (Below.thn Hb6.out (Below.thn HB.out hb9))
            clear hb9
            go_wp2
            go_ret
            exact ⟨rfl, Hb9.out⟩

end Go.Proofs.Ytajoipmchgabfaa
