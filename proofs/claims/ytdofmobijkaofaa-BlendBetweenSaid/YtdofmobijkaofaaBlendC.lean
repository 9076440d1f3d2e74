/- The document's own Over, the statements' up, and their closed calls. -/
import Derived.Test.YtdofmobijkaofaaBlendB
import Derived.Test.YtdofmobijkaofaaBlendM
namespace Go.Proofs.Ytdofmobijkaofaa
open Go.RowKit

set_option maxRecDepth 100000 in
set_option maxHeartbeats 4000000 in
theorem refOver_any (d s a : Int) (w : World) (hd0 : 0 ≤ d) (hd : d < 4294967296) (hs0 : 0 ≤ s) (hs : s < 4294967296) (ha0 : 0 ≤ a) (ha : a ≤ 255) :
    Makes Try.prog 10 #[.int .u32 d, .int .u32 s, .int .u8 a] w (.int .u32 (overI d s a)) := by
  unfold Makes
  obtain ⟨p0, hp0⟩ : ∃ p, s % 256 * a = p := ⟨_, rfl⟩
  obtain ⟨r0, hr0⟩ : ∃ r, d % 256 * (255 - a) = r := ⟨_, rfl⟩
  have hp0l : 0 ≤ p0 := by rw [← hp0]; exact prod_lo (by omega) ha0
  have hp0u : p0 ≤ 65025 := by rw [← hp0]; exact prod_hi (by omega) ha0 ha
  have hr0l : 0 ≤ r0 := by rw [← hr0]; exact prod_lo (by omega) (by omega)
  have hr0u : r0 ≤ 65025 := by rw [← hr0]; exact prod_hi (by omega) (by omega) (by omega)
  have hs0 := mix_hi (chI_hi d 1) (chI_hi s 1) ha0 ha
  have hm0 : mixI (chI d 1) (chI s 1) a = (p0 + r0 + 127) / 255 := by rw [← hp0, ← hr0]; simp [mixI, divI, chI]
  rw [show chI s 1 * a = p0 by rw [← hp0]; simp [chI], show chI d 1 * (255 - a) = r0 by rw [← hr0]; simp [chI]] at hs0
  obtain ⟨p1, hp1⟩ : ∃ p, s / 256 % 256 * a = p := ⟨_, rfl⟩
  obtain ⟨r1, hr1⟩ : ∃ r, d / 256 % 256 * (255 - a) = r := ⟨_, rfl⟩
  have hp1l : 0 ≤ p1 := by rw [← hp1]; exact prod_lo (by omega) ha0
  have hp1u : p1 ≤ 65025 := by rw [← hp1]; exact prod_hi (by omega) ha0 ha
  have hr1l : 0 ≤ r1 := by rw [← hr1]; exact prod_lo (by omega) (by omega)
  have hr1u : r1 ≤ 65025 := by rw [← hr1]; exact prod_hi (by omega) (by omega) (by omega)
  have hs1 := mix_hi (chI_hi d 256) (chI_hi s 256) ha0 ha
  have hm1 : mixI (chI d 256) (chI s 256) a = (p1 + r1 + 127) / 255 := by rw [← hp1, ← hr1]; simp [mixI, divI, chI]
  rw [show chI s 256 * a = p1 by rw [← hp1]; simp [chI], show chI d 256 * (255 - a) = r1 by rw [← hr1]; simp [chI]] at hs1
  obtain ⟨p2, hp2⟩ : ∃ p, s / 65536 % 256 * a = p := ⟨_, rfl⟩
  obtain ⟨r2, hr2⟩ : ∃ r, d / 65536 % 256 * (255 - a) = r := ⟨_, rfl⟩
  have hp2l : 0 ≤ p2 := by rw [← hp2]; exact prod_lo (by omega) ha0
  have hp2u : p2 ≤ 65025 := by rw [← hp2]; exact prod_hi (by omega) ha0 ha
  have hr2l : 0 ≤ r2 := by rw [← hr2]; exact prod_lo (by omega) (by omega)
  have hr2u : r2 ≤ 65025 := by rw [← hr2]; exact prod_hi (by omega) (by omega) (by omega)
  have hs2 := mix_hi (chI_hi d 65536) (chI_hi s 65536) ha0 ha
  have hm2 : mixI (chI d 65536) (chI s 65536) a = (p2 + r2 + 127) / 255 := by rw [← hp2, ← hr2]; simp [mixI, divI, chI]
  rw [show chI s 65536 * a = p2 by rw [← hp2]; simp [chI], show chI d 65536 * (255 - a) = r2 by rw [← hr2]; simp [chI]] at hs2
  unfold overI
  rw [hm0, hm1, hm2]
  clear hm0 hm1 hm2
  go_enter Try.func10, Try.ntmps10
  go_wp2_with fail
  refine wp_loop_rounds 4 ?_
  rw [rounds_succ]; go_upto_region 5 with fail
  go_quiet (fail)
  go_wp2_with fail
  rw [rounds_succ]; go_upto_region 5 with fail
  go_quiet (fail)
  go_wp2_with fail
  rw [rounds_succ]; go_upto_region 5 with fail
  go_quiet (fail)
  go_wp2_with fail
  rw [rounds_succ]; go_wp2_with fail
  go_ret
  exact ⟨rfl, Go.Proofs.Ytdofmobijkaofaa.Below.drewN' (Below.refl _ _) _⟩

theorem mul_eq {a b v : Int} (w : World) (h : mulI a b = v) (ha0 : 0 ≤ a) (ha : a ≤ 255) (hb0 : 0 ≤ b) (hb : b ≤ 255) : Makes Try.prog 7 #[.int .u8 a, .int .u8 b] w (.int .u8 v) := by
  rw [← h]; exact (mul_any a b w ha0 ha hb0 hb).makes
theorem refMul_eq {a b v : Int} (w : World) (h : mulI a b = v) (ha0 : 0 ≤ a) (ha : a ≤ 255) (hb0 : 0 ≤ b) (hb : b ≤ 255) : Makes Try.prog 8 #[.int .u8 a, .int .u8 b] w (.int .u8 v) := by
  rw [← h]; exact (refMul_any a b w ha0 ha hb0 hb).makes
theorem over_eq {d s a v : Int} (w : World) (h : overI d s a = v) (ha0 : 0 ≤ a) (ha : a ≤ 255) : Makes Try.prog 9 #[.int .u32 d, .int .u32 s, .int .u8 a] w (.int .u32 v) := by
  rw [← h]; exact over_any d s a w ha0 ha

theorem wakes_any (w : World) : Makes Try.prog 11 #[] w (.bool true) := by
  unfold Makes
  go_enter Try.func11, Try.ntmps11
  go_wp2_with fail
  refine Calls.mono (mul_eq (v := 7) _ (by decide) (by decide) (by decide) (by decide) (by decide)) ?_
  rintro e w1 ⟨rfl, hb1⟩
  go_wp2_with fail
  refine Calls.mono (mul_eq (v := 64) _ (by decide) (by decide) (by decide) (by decide) (by decide)) ?_
  rintro e w2 ⟨rfl, hb2⟩
  go_wp2_with fail
  refine Calls.mono (over_eq (v := 8421504) _ (by decide) (by decide) (by decide)) ?_
  rintro e w3 ⟨rfl, hb3⟩
  go_wp2_with fail
  refine Calls.mono (over_eq (v := 4214880) _ (by decide) (by decide) (by decide)) ?_
  rintro e w4 ⟨rfl, hb4⟩
  go_wp2
  go_ret
  exact ⟨rfl, Below.thn (Below.thn (Below.thn hb1 hb2) hb3) hb4⟩

theorem t8 : ∀ j < 32, Nat.testBit 4294967040 j = decide (8 ≤ j) := by decide
theorem t16 : ∀ j < 32, Nat.testBit 4294902015 j = decide (j < 8 ∨ 16 ≤ j) := by decide
theorem t24 : ∀ j < 32, Nat.testBit 4278255615 j = decide (j < 16 ∨ 24 ≤ j) := by decide

/-- A colour, a channel of which is another. -/
theorem put_bits (c v s M : Nat) (hv : v < 256) (hs : s = 0 ∨ s = 8 ∨ s = 16) (hM : ∀ j < 32, Nat.testBit M j = decide (j < s ∨ s + 8 ≤ j)) (t : Nat) (ht : t = 0 ∨ t = 8 ∨ t = 16) :
    ((c &&& M) ||| v * 2 ^ s) / 2 ^ t % 256 = if t = s then v else c / 2 ^ t % 256 := by
  have h8 : (256 : Nat) = 2 ^ 8 := rfl
  refine Nat.eq_of_testBit_eq fun i => ?_
  have hvi : ∀ i, 8 ≤ i → v.testBit i = false := fun i hi => Nat.testBit_lt_two_pow (Nat.lt_of_lt_of_le hv (by rw [h8]; exact Nat.pow_le_pow_right (by decide) hi))
  rw [h8, Nat.testBit_mod_two_pow, Nat.testBit_div_two_pow, Nat.testBit_or, Nat.testBit_and, Nat.testBit_mul_two_pow]
  by_cases hi : i < 8
  · rw [hM (i + t) (by omega)]
    by_cases e : t = s
    · subst e
      have h1 : ¬ (i + t < t ∨ t + 8 ≤ i + t) := by omega
      simp [hi, h1]
    · rw [if_neg e, Nat.testBit_mod_two_pow, Nat.testBit_div_two_pow]
      have h1 : i + t < s ∨ s + 8 ≤ i + t := by omega
      have h2 : (decide (s ≤ i + t) && v.testBit (i + t - s)) = false := by
        by_cases h3 : s ≤ i + t
        · rw [hvi (i + t - s) (by omega)]; simp
        · simp [h3]
      rw [h2]
      simp [hi, h1]
  · by_cases e : t = s
    · rw [if_pos e, hvi i (by omega)]
      simp [hi]
    · rw [if_neg e, Nat.testBit_mod_two_pow]
      simp [hi]

/-- A colour, one channel of which is v. -/
def putI (c v : Int) (s M : Nat) : Int := (((c.toNat &&& M) ||| v.toNat * 2 ^ s : Nat) : Int)

theorem putI_lo (c v : Int) (s M : Nat) : 0 ≤ putI c v s M := Int.natCast_nonneg _
theorem putI_hi {c v : Int} {s M : Nat} (hc0 : 0 ≤ c) (hc : c < 4294967296) (hv0 : 0 ≤ v) (hv : v ≤ 255) (hs : s = 0 ∨ s = 8 ∨ s = 16) : putI c v s M < 4294967296 := by
  have h : ((c.toNat &&& M) ||| v.toNat * 2 ^ s) < 2 ^ 32 := by
    refine Nat.or_lt_two_pow (Nat.lt_of_le_of_lt Nat.and_le_left (by omega)) ?_
    rcases hs with rfl | rfl | rfl <;> omega
  unfold putI
  omega
theorem putI_ch {c v : Int} {s M : Nat} (hc0 : 0 ≤ c) (hv0 : 0 ≤ v) (hv : v ≤ 255) (hs : s = 0 ∨ s = 8 ∨ s = 16) (hM : ∀ j < 32, Nat.testBit M j = decide (j < s ∨ s + 8 ≤ j)) (t : Nat) (ht : t = 0 ∨ t = 8 ∨ t = 16) :
    chI (putI c v s M) (2 ^ t) = if t = s then v else chI c (2 ^ t) := by
  have h := put_bits c.toNat v.toNat s M (by omega) hs hM t ht
  unfold chI putI
  have e : (((c.toNat &&& M ||| v.toNat * 2 ^ s : Nat) : Int) / 2 ^ t % 256) = (((c.toNat &&& M ||| v.toNat * 2 ^ s) / 2 ^ t % 256 : Nat) : Int) := by simp
  rw [e, h]
  obtain ⟨C, rfl⟩ := Int.eq_ofNat_of_zero_le hc0
  obtain ⟨V, rfl⟩ := Int.eq_ofNat_of_zero_le hv0
  split <;> simp

/-- What is brighter by m. -/
def moreI (x m : Int) : Int := if x + m ≤ 255 then x + m else 255
theorem moreI_lo {x m : Int} (hx : 0 ≤ x) (hm : 0 ≤ m) : 0 ≤ moreI x m := by unfold moreI; split <;> omega
theorem moreI_hi (x m : Int) : moreI x m ≤ 255 := by unfold moreI; split <;> omega
theorem moreI_ge {x m : Int} (hx : x ≤ 255) (hm : 0 ≤ m) : x ≤ moreI x m := by unfold moreI; split <;> omega

set_option maxHeartbeats 1000000 in
theorem up0_any (c m : Int) (w : World) (hc0 : 0 ≤ c) (hc : c < 4294967296) (hm0 : 0 ≤ m) (hm : m ≤ 255) :
    Makes Try.prog 12 #[.int .u32 c, .int .i64 0, .int .u8 m] w (.int .u32 (putI c (moreI (chI c 1) m) 0 4294967040)) := by
  unfold Makes
  have hv0 := moreI_lo (chI_lo c 1) hm0
  have hv := moreI_hi (chI c 1) m
  have hx0 := chI_lo c 1
  have hx := chI_hi c 1
  have h1 : bits .and .u32 (c) 255 = chI c 1 := by rw [mask8 _ (by omega) (by omega)]; simp [chI]
  obtain ⟨X, h2⟩ : ∃ X, bits .andNot .u32 c 255 = X := ⟨_, rfl⟩
  have h2' : X = ((c.toNat &&& 4294967040 : Nat) : Int) := by rw [← h2, u32_andNot c 255 hc0 hc (by decide) (by decide)]; rfl
  have hXl : X.toNat < 4294967296 := by rw [h2']; simpa using Nat.lt_of_le_of_lt Nat.and_le_left (by omega : c.toNat < 4294967296)
  have hX0 : 0 ≤ X := by omega
  have h3 : ∀ v, moreI (chI c 1) m = v → bits .or .u32 X (v) = putI c (moreI (chI c 1) m) 0 4294967040 := by
    intro v e
    rw [e] at hv0 hv ⊢
    rw [u32_or X (v) hX0 (by omega) (by omega) (by omega), h2']
    unfold putI
    congr 2
    try (rw [show (v).toNat = v.toNat * 1 by omega])
    try simp
  clear h2'
  generalize chI c 1 = x at *
  rcases Int.lt_trichotomy (x + m) 255 with hc | hc | hc
  · have e : moreI x m = x + m := by unfold moreI; rw [if_pos (by omega)]
    have h4 := h3 _ e
    rw [e] at h4 ⊢
    clear h3 e hv0 hv
    go_enter Try.func12, Try.ntmps12
    go_upto_region 2 with fail
    go_region
    all_goals (go_wp2; go_ret; exact ⟨rfl, by go_grown⟩)
  · have e : moreI x m = 255 := by unfold moreI; rw [if_pos (by omega), hc]
    have h4 := h3 255 e
    rw [e] at h4 ⊢
    clear h3 e hv0 hv
    go_enter Try.func12, Try.ntmps12
    go_upto_region 2 with fail
    go_region
    all_goals (go_wp2; go_ret; exact ⟨rfl, by go_grown⟩)
  · have e : moreI x m = 255 := by unfold moreI; rw [if_neg (by omega)]
    have h4 := h3 255 e
    rw [e] at h4 ⊢
    clear h3 e hv0 hv
    go_enter Try.func12, Try.ntmps12
    go_upto_region 2 with fail
    go_region
    all_goals (go_wp2; go_ret; exact ⟨rfl, by go_grown⟩)

set_option maxHeartbeats 1000000 in
theorem up8_any (c m : Int) (w : World) (hc0 : 0 ≤ c) (hc : c < 4294967296) (hm0 : 0 ≤ m) (hm : m ≤ 255) :
    Makes Try.prog 12 #[.int .u32 c, .int .i64 8, .int .u8 m] w (.int .u32 (putI c (moreI (chI c 256) m) 8 4294902015)) := by
  unfold Makes
  have hv0 := moreI_lo (chI_lo c 256) hm0
  have hv := moreI_hi (chI c 256) m
  have hx0 := chI_lo c 256
  have hx := chI_hi c 256
  have h1 : bits .and .u32 (c / 256) 255 = chI c 256 := by rw [mask8 _ (by omega) (by omega)]; simp [chI]
  obtain ⟨X, h2⟩ : ∃ X, bits .andNot .u32 c 65280 = X := ⟨_, rfl⟩
  have h2' : X = ((c.toNat &&& 4294902015 : Nat) : Int) := by rw [← h2, u32_andNot c 65280 hc0 hc (by decide) (by decide)]; rfl
  have hXl : X.toNat < 4294967296 := by rw [h2']; simpa using Nat.lt_of_le_of_lt Nat.and_le_left (by omega : c.toNat < 4294967296)
  have hX0 : 0 ≤ X := by omega
  have h3 : ∀ v, moreI (chI c 256) m = v → bits .or .u32 X (v * 256) = putI c (moreI (chI c 256) m) 8 4294902015 := by
    intro v e
    rw [e] at hv0 hv ⊢
    rw [u32_or X (v * 256) hX0 (by omega) (by omega) (by omega), h2']
    unfold putI
    congr 2
    try (rw [show (v * 256).toNat = v.toNat * 256 by omega])
    try simp
  clear h2'
  generalize chI c 256 = x at *
  rcases Int.lt_trichotomy (x + m) 255 with hc | hc | hc
  · have e : moreI x m = x + m := by unfold moreI; rw [if_pos (by omega)]
    have h4 := h3 _ e
    rw [e] at h4 ⊢
    clear h3 e hv0 hv
    go_enter Try.func12, Try.ntmps12
    go_upto_region 2 with fail
    go_region
    all_goals (go_wp2; go_ret; exact ⟨rfl, by go_grown⟩)
  · have e : moreI x m = 255 := by unfold moreI; rw [if_pos (by omega), hc]
    have h4 := h3 255 e
    rw [show (255 : Int) * 256 = 65280 by decide] at h4
    rw [e] at h4 ⊢
    clear h3 e hv0 hv
    go_enter Try.func12, Try.ntmps12
    go_upto_region 2 with fail
    go_region
    all_goals (go_wp2; go_ret; exact ⟨rfl, by go_grown⟩)
  · have e : moreI x m = 255 := by unfold moreI; rw [if_neg (by omega)]
    have h4 := h3 255 e
    rw [show (255 : Int) * 256 = 65280 by decide] at h4
    rw [e] at h4 ⊢
    clear h3 e hv0 hv
    go_enter Try.func12, Try.ntmps12
    go_upto_region 2 with fail
    go_region
    all_goals (go_wp2; go_ret; exact ⟨rfl, by go_grown⟩)

set_option maxHeartbeats 1000000 in
theorem up16_any (c m : Int) (w : World) (hc0 : 0 ≤ c) (hc : c < 4294967296) (hm0 : 0 ≤ m) (hm : m ≤ 255) :
    Makes Try.prog 12 #[.int .u32 c, .int .i64 16, .int .u8 m] w (.int .u32 (putI c (moreI (chI c 65536) m) 16 4278255615)) := by
  unfold Makes
  have hv0 := moreI_lo (chI_lo c 65536) hm0
  have hv := moreI_hi (chI c 65536) m
  have hx0 := chI_lo c 65536
  have hx := chI_hi c 65536
  have h1 : bits .and .u32 (c / 65536) 255 = chI c 65536 := by rw [mask8 _ (by omega) (by omega)]; simp [chI]
  obtain ⟨X, h2⟩ : ∃ X, bits .andNot .u32 c 16711680 = X := ⟨_, rfl⟩
  have h2' : X = ((c.toNat &&& 4278255615 : Nat) : Int) := by rw [← h2, u32_andNot c 16711680 hc0 hc (by decide) (by decide)]; rfl
  have hXl : X.toNat < 4294967296 := by rw [h2']; simpa using Nat.lt_of_le_of_lt Nat.and_le_left (by omega : c.toNat < 4294967296)
  have hX0 : 0 ≤ X := by omega
  have h3 : ∀ v, moreI (chI c 65536) m = v → bits .or .u32 X (v * 65536) = putI c (moreI (chI c 65536) m) 16 4278255615 := by
    intro v e
    rw [e] at hv0 hv ⊢
    rw [u32_or X (v * 65536) hX0 (by omega) (by omega) (by omega), h2']
    unfold putI
    congr 2
    try (rw [show (v * 65536).toNat = v.toNat * 65536 by omega])
    try simp
  clear h2'
  generalize chI c 65536 = x at *
  rcases Int.lt_trichotomy (x + m) 255 with hc | hc | hc
  · have e : moreI x m = x + m := by unfold moreI; rw [if_pos (by omega)]
    have h4 := h3 _ e
    rw [e] at h4 ⊢
    clear h3 e hv0 hv
    go_enter Try.func12, Try.ntmps12
    go_upto_region 2 with fail
    go_region
    all_goals (go_wp2; go_ret; exact ⟨rfl, by go_grown⟩)
  · have e : moreI x m = 255 := by unfold moreI; rw [if_pos (by omega), hc]
    have h4 := h3 255 e
    rw [show (255 : Int) * 65536 = 16711680 by decide] at h4
    rw [e] at h4 ⊢
    clear h3 e hv0 hv
    go_enter Try.func12, Try.ntmps12
    go_upto_region 2 with fail
    go_region
    all_goals (go_wp2; go_ret; exact ⟨rfl, by go_grown⟩)
  · have e : moreI x m = 255 := by unfold moreI; rw [if_neg (by omega)]
    have h4 := h3 255 e
    rw [show (255 : Int) * 65536 = 16711680 by decide] at h4
    rw [e] at h4 ⊢
    clear h3 e hv0 hv
    go_enter Try.func12, Try.ntmps12
    go_upto_region 2 with fail
    go_region
    all_goals (go_wp2; go_ret; exact ⟨rfl, by go_grown⟩)

end Go.Proofs.Ytdofmobijkaofaa
