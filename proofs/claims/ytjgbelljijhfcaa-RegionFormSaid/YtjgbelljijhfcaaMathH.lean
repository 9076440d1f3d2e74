/- Plain facts: how many rectangles a form has, out of few. -/
import Derived.Test.YtjgbelljijhfcaaMathG
namespace Go.Proofs.Ytjgbelljijhfcaa
open Go.RowKit

theorem bandsR_len : ∀ (l : List (List Rc)) (ab : List Rc), (bandsR ab l).flatten.length ≤ ab.length + l.flatten.length
  | [], ab => by
    unfold bandsR
    split <;> simp
  | st :: l, ab => by
    have h1 := bandsR_len l (ab.map (higher ((st.map (·.b)).headD 0)))
    have h2 := bandsR_len l st
    rw [bandsR]
    rw [List.length_map] at h1
    rw [List.flatten_cons, List.length_append]
    split
    · omega
    · split
      · rw [List.nil_append]; omega
      · rw [List.flatten_append, List.length_append]
        simp only [List.flatten_cons, List.flatten_nil, List.append_nil]
        omega

theorem across_len (li : Int) (rs : List Rc) : (acrossOf li rs).length ≤ 2 * rs.length := by
  induction rs with
  | nil => simp [acrossOf]
  | cons r rs ih =>
    rw [show acrossOf li (r :: rs) = ⟨r.x, li, 1, r⟩ :: ⟨r.x + r.a, li, -1, r⟩ :: acrossOf li rs from rfl]
    simp only [List.length_cons]
    omega

theorem strip_len (mf : Bool → Bool → Bool) (a b : List Rc) (t y : Int) : (stripC mf a b t y).length ≤ 2 * (a.length + b.length) := by
  have h1 := cut_out mf t y (grp Ed.pl (srt (sidesAt a b t))) ⟨0, 0, 0, false, []⟩
  have h2 := grp_len Ed.pl (srt (sidesAt a b t))
  have h3 := (srt_perm (sidesAt a b t)).length_eq
  have h4 := across_len 0 (act a t)
  have h5 := across_len 1 (act b t)
  have h6 : (act a t).length ≤ a.length := List.length_filter_le _ _
  have h7 : (act b t).length ≤ b.length := List.length_filter_le _ _
  rw [sidesAt, List.length_append] at h3
  rw [show sidesAt a b t = acrossOf 0 (act a t) ++ acrossOf 1 (act b t) from rfl] at h2
  unfold stripC cutRun
  rw [show sidesAt a b t = acrossOf 0 (act a t) ++ acrossOf 1 (act b t) from rfl] at h1 ⊢
  simp only [List.length_nil, Nat.zero_add] at h1
  omega

theorem stripsK_len (mf : Bool → Bool → Bool) (a b : List Rc) : ∀ ks : List Int, (stripsK mf a b ks).flatten.length ≤ ks.length * (2 * (a.length + b.length))
  | [] => by simp [stripsK]
  | [_] => by simp [stripsK]
  | k :: k' :: ks => by
    have h1 := stripsK_len mf a b (k' :: ks)
    have h2 := strip_len mf a b k k'
    rw [stripsK, List.flatten_append, List.length_append]
    rw [List.length_cons (a := k), Nat.add_mul, Nat.one_mul]
    split
    · simp only [List.flatten_nil, List.length_nil]; omega
    · simp only [List.flatten_cons, List.flatten_nil, List.append_nil]; omega

theorem form_len2 (mf : Bool → Bool → Bool) (a b : List Rc) : (formL mf a b).length ≤ (2 * (a.length + b.length)) * (2 * (a.length + b.length)) := by
  have h1 := bandsR_len (stripsL mf a b) []
  have h2 := stripsK_len mf a b (keysOf a b)
  have h3 : (keysOf a b).length ≤ 2 * (a.length + b.length) := by
    have := grp_len Ed.pl (srt (downsL a b))
    have h4 := (srt_perm (downsL a b)).length_eq
    have h5 := edgesOf_len 0 a
    have h6 := edgesOf_len 1 b
    rw [keysOf, List.length_map]
    rw [show (downsL a b).length = (edgesOf 0 a ++ edgesOf 1 b).length from rfl, List.length_append] at h4
    omega
  have h4 := Nat.mul_le_mul_right (2 * (a.length + b.length)) h3
  unfold formL
  rw [bandsOf_R]
  rw [show stripsL mf a b = stripsK mf a b (keysOf a b) from rfl] at h1 ⊢
  simp only [List.length_nil, Nat.zero_add] at h1
  omega

theorem form_small {mf : Bool → Bool → Bool} {a b : List Rc} (ha : a.length ≤ 24) (hb : b.length ≤ 24) : (formL mf a b).length ≤ 9216 :=
  Nat.le_trans (form_len2 mf a b) (Nat.mul_le_mul (show 2 * (a.length + b.length) ≤ 96 by omega) (show 2 * (a.length + b.length) ≤ 96 by omega))

end Go.Proofs.Ytjgbelljijhfcaa
