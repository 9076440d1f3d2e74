/- Plain facts of blended channels: nothing here walks. -/
import Derived.Test.YtdofmobijkaofaaBlendA
namespace Go.Proofs.Ytdofmobijkaofaa
open Go.RowKit

theorem divI_mono {m n : Int} (h : m ≤ n) : divI m ≤ divI n := by unfold divI; omega
theorem divI_mul (x : Int) : divI (x * 255) = x := by unfold divI; omega
theorem divI_add (p n : Int) : divI (p * 255 + n) = p + divI n := by unfold divI; omega

theorem mixI_from (p q a : Int) : mixI p q a = p + divI ((q - p) * a) := by
  unfold mixI
  rw [← divI_add]
  congr 1
  rw [Int.sub_mul, Int.mul_sub]
  omega

theorem mixI_zero (p q : Int) : mixI p q 0 = p := by rw [mixI_from]; simp [divI]
theorem mixI_all (p q : Int) : mixI p q 255 = q := by rw [mixI_from, divI_mul]; omega
theorem mixI_self (p a : Int) : mixI p p a = p := by rw [mixI_from]; simp [divI]

/-- What is over it is no darker: the channel rises with alpha, from the one to the other. -/
theorem mixI_up {p q a b : Int} (h : p ≤ q) (hab : a ≤ b) : mixI p q a ≤ mixI p q b := by
  rw [mixI_from, mixI_from]
  have := divI_mono (Int.mul_le_mul_of_nonneg_left hab (show 0 ≤ q - p by omega))
  omega
theorem mixI_down {p q a b : Int} (h : q ≤ p) (hab : a ≤ b) : mixI p q b ≤ mixI p q a := by
  rw [mixI_from, mixI_from]
  have h1 := Int.mul_le_mul_of_nonneg_left hab (show 0 ≤ p - q by omega)
  have h2 : (q - p) * b ≤ (q - p) * a := by
    have e1 : (q - p) * a = -((p - q) * a) := by rw [← Int.neg_mul]; congr 1; omega
    have e2 : (q - p) * b = -((p - q) * b) := by rw [← Int.neg_mul]; congr 1; omega
    omega
  have := divI_mono h2
  omega
theorem mixI_ge {p q a : Int} (ha0 : 0 ≤ a) (ha : a ≤ 255) : min p q ≤ mixI p q a := by
  rcases Int.le_total p q with h | h
  · have := mixI_up h ha0
    rw [mixI_zero] at this
    omega
  · have := mixI_down h ha
    rw [mixI_all] at this
    omega
theorem mixI_le {p q a : Int} (ha0 : 0 ≤ a) (ha : a ≤ 255) : mixI p q a ≤ max p q := by
  rcases Int.le_total p q with h | h
  · have := mixI_up h ha
    rw [mixI_all] at this
    omega
  · have := mixI_down h ha0
    rw [mixI_zero] at this
    omega
theorem mixI_over {p q r a : Int} (h : q ≤ r) (ha0 : 0 ≤ a) : mixI p q a ≤ mixI p r a := by
  unfold mixI
  have := Int.mul_le_mul_of_nonneg_right h ha0
  exact divI_mono (by omega)
theorem mixI_behind {p q r a : Int} (h : p ≤ r) (ha : a ≤ 255) : mixI p q a ≤ mixI r q a := by
  unfold mixI
  have := Int.mul_le_mul_of_nonneg_right h (show 0 ≤ 255 - a by omega)
  exact divI_mono (by omega)

theorem mulI_all (a : Int) : mulI a 255 = a := divI_mul a
theorem mulI_none (a : Int) : mulI a 0 = 0 := by simp [mulI, divI]
theorem mulI_comm (a b : Int) : mulI a b = mulI b a := by unfold mulI; rw [Int.mul_comm]
theorem mulI_mono {a b c : Int} (h : b ≤ c) (ha0 : 0 ≤ a) : mulI a b ≤ mulI a c := divI_mono (Int.mul_le_mul_of_nonneg_left h ha0)
theorem mulI_le {a b : Int} (ha0 : 0 ≤ a) (hb : b ≤ 255) : mulI a b ≤ a := by
  have := mulI_mono hb ha0
  rw [mulI_all] at this
  exact this
theorem mulI_le_min {a b : Int} (ha0 : 0 ≤ a) (ha : a ≤ 255) (hb0 : 0 ≤ b) (hb : b ≤ 255) : mulI a b ≤ min a b := by
  have h1 := mulI_le ha0 hb
  have h2 := mulI_le hb0 ha
  rw [mulI_comm] at h2
  omega

/-- A colour's lowest 24 bits by its channels. -/
theorem colour_sum (c : Int) : chI c 1 + chI c 256 * 256 + chI c 65536 * 65536 = c % 16777216 := by unfold chI; omega
theorem overI_zero (d s : Int) : overI d s 0 = d % 16777216 := by unfold overI; rw [mixI_zero, mixI_zero, mixI_zero, colour_sum]
theorem overI_all (d s : Int) : overI d s 255 = s % 16777216 := by unfold overI; rw [mixI_all, mixI_all, mixI_all, colour_sum]
theorem overI_self (d a : Int) : overI d d a = d % 16777216 := by unfold overI; rw [mixI_self, mixI_self, mixI_self, colour_sum]

theorem overI_parts (d s : Int) {a : Int} (ha0 : 0 ≤ a) (ha : a ≤ 255) :
    (0 ≤ overI d s a ∧ overI d s a ≤ 16777215) ∧ chI (overI d s a) 1 = mixI (chI d 1) (chI s 1) a ∧ chI (overI d s a) 256 = mixI (chI d 256) (chI s 256) a ∧ chI (overI d s a) 65536 = mixI (chI d 65536) (chI s 65536) a := by
  have l1 := mixI_lo (chI_lo d 1) (chI_lo s 1) ha0 ha
  have l2 := mixI_lo (chI_lo d 256) (chI_lo s 256) ha0 ha
  have l3 := mixI_lo (chI_lo d 65536) (chI_lo s 65536) ha0 ha
  have u1 := mixI_hi (chI_hi d 1) (chI_hi s 1) ha0 ha
  have u2 := mixI_hi (chI_hi d 256) (chI_hi s 256) ha0 ha
  have u3 := mixI_hi (chI_hi d 65536) (chI_hi s 65536) ha0 ha
  unfold overI
  generalize mixI (chI d 1) (chI s 1) a = x at *
  generalize mixI (chI d 256) (chI s 256) a = y at *
  generalize mixI (chI d 65536) (chI s 65536) a = z at *
  unfold chI
  omega

/-- A mask of eight bits, and one of 24. -/
theorem mask8 (x : Int) (h0 : 0 ≤ x) (h1 : x < 4294967296) : bits .and .u32 x 255 = x % 256 := by
  have h := bits_mask .u32 32 (by decide) (fun n h0 h1 => by rw [IntKind.wrap_u32]; omega) 8 (by decide) x h0 (by omega)
  simpa using h
theorem mask24 (x : Int) (h0 : 0 ≤ x) (h1 : x < 4294967296) : bits .and .u32 x 16777215 = x % 16777216 := by
  have h := bits_mask .u32 32 (by decide) (fun n h0 h1 => by rw [IntKind.wrap_u32]; omega) 24 (by decide) x h0 (by omega)
  simpa using h

end Go.Proofs.Ytdofmobijkaofaa
