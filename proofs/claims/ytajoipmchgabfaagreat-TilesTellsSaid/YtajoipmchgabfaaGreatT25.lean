/- Several texts in one, each with its own head. -/
import Derived.Test.YtajoipmchgabfaaGreatT20
import Derived.Test.YtajoipmchgabfaaGreatT24
/- tiles, plainly: the parts of a list within a picture, and how many pieces there are. Nothing here speaks of a program. -/
namespace Go.Proofs.YtajoipmchgabfaaGreat

/-- The parts of a list within a picture, in form. -/
def ptL (pw ph : Nat) (l : List Rc) : List Rc := formL (fun p _ => p) (wiL pw ph l) []
theorem ptL_pix (pw ph : Nat) (l : List Rc) (x y : Int) : pix (ptL pw ph l) x y = (pix l x y && hasR (pcR pw ph) x y) := by
  unfold ptL
  rw [pix_form _ rfl, wiL_pix]
theorem ptL_in (pw ph : Nat) (l : List Rc) : ∀ r ∈ ptL pw ph l, InP pw ph r :=
  inP_of (form_full _ rfl _ _) fun x y h => by
    rw [ptL_pix, Bool.and_eq_true] at h
    exact h.2
theorem sumX_mono {f g : Int → Int} (h : ∀ x, f x ≤ g x) (n : Nat) : sumX f n ≤ sumX g n := by
  have h1 := sumX_add f (fun x => g x - f x) n
  have h2 : sumX (fun x => f x + (g x - f x)) n = sumX g n := sumX_congr (fun x => by omega) n
  have h3 : 0 ≤ sumX (fun x => g x - f x) n := by
    generalize hd : (fun x => g x - f x) = d
    have hd' : ∀ x, 0 ≤ d x := fun x => by rw [← hd]; have := h x; simp only; omega
    clear hd h1 h2
    induction n with
    | zero => simp [sumX]
    | succ n ih => unfold sumX; have := hd' (n - 1048576); first | omega | (have := hd' (-1048576 + n); omega) | (simp only []; split <;> omega)
  omega
theorem sumP_mono {f g : Int → Int → Int} (h : ∀ x y, f x y ≤ g x y) (n m : Nat) : sumP f n m ≤ sumP g n m := by
  unfold sumP
  exact sumX_mono (fun y => sumX_mono (fun x => h x y) n) m
theorem ptL_len {pw ph : Nat} (hw : pw ≤ 256) (hh : ph ≤ 256) (l : List Rc) : (ptL pw ph l).length ≤ 65536 := by
  have h1 : ((ptL pw ph l).length : Int) ≤ areaS (ptL pw ph l) := len_area _ (form_full _ rfl _ _)
  by_cases he : emptyR (pcR pw ph) = true
  · have : ptL pw ph l = [] := by
      rcases List.eq_nil_or_concat (ptL pw ph l) with h | ⟨_, r, h⟩
      · exact h
      · have hr := ptL_in pw ph l r (by rw [h]; simp)
        obtain ⟨i1, i2, i3, i4, i5, i6⟩ := hr
        have : emptyR (pcR pw ph) = false := by rw [emptyR_false]; simp only [pcR]; omega
        rw [this] at he; cases he
    rw [this]; simp
  · have he' : emptyR (pcR pw ph) = false := by simpa using he
    have h2 := area_form (fun p _ => p) rfl (wiL pw ph l) []
    have h3 := sumP_rect he' 2097152 2097152 rfl rfl
    have h4 : sumP (fun x y => ind (pix (wiL pw ph l) x y)) 2097152 2097152 ≤ sumP (fun x y => ind (hasR (pcR pw ph) x y)) 2097152 2097152 := sumP_mono (fun x y => by
      rw [wiL_pix]
      unfold ind
      cases pix l x y <;> cases hasR (pcR pw ph) x y <;> simp) _ _
    have h5 : areaR (pcR pw ph) ≤ 65536 := by
      have : areaR (pcR pw ph) = (pw : Int) * ph := by unfold areaR; rw [if_neg (by rw [he']; decide)]; rfl
      rw [this]
      have := Nat.mul_le_mul hw hh
      have e : ((pw * ph : Nat) : Int) = (pw : Int) * ph := by simp
      omega
    unfold ptL at h1 ⊢
    omega
theorem unR_len {w h : Nat} (hw : w ≤ 256) (hh : h ≤ 256) {p : Rc} (hp : InP w h p) : (unR w h p).length ≤ 256 := by
  obtain ⟨h1, h2, h3, h4, h5, h6⟩ := hp
  unfold unR unL rowsT rowT
  rw [List.length_flatMap]
  simp only [List.length_map, List.length_range', List.map_const', List.sum_replicate_nat]
  have a1 : (p.y.toNat + p.b.toNat + 15) / 16 - p.y.toNat / 16 ≤ 16 := by omega
  have a2 : (p.x.toNat + p.a.toNat + 15) / 16 - p.x.toNat / 16 ≤ 16 := by omega
  have := Nat.mul_le_mul a1 a2
  omega
theorem pcsL_len {w h : Nat} (hw : w ≤ 256) (hh : h ≤ 256) : ∀ {ps : List Rc}, (∀ p ∈ ps, InP w h p) → (pcsL w h ps).length ≤ ps.length * 256
  | [], _ => by simp [pcsL]
  | p :: ps, hp => by
    have h1 := unR_len hw hh (hp p (by simp))
    have h2 := pcsL_len hw hh (ps := ps) (fun q hq => hp q (by simp [hq]))
    unfold pcsL at h2 ⊢
    rw [List.flatMap_cons, List.length_append, List.length_cons]
    unfold pcsE at *
    rw [List.length_map]
    omega
theorem tl_in {w h i : Nat} (hw : w ≤ 256) (hh : h ≤ 256) (hi : i < tlN w h) : InP w h (tlR w h i) ∧ emptyR (tlR w h i) = false := by
  have hc : 0 < clN w := by
    unfold tlN at hi
    exact Nat.pos_of_ne_zero (fun e => by rw [e] at hi; simp at hi)
  have hqc : i % clN w < clN w := Nat.mod_lt _ hc
  have hrc : i / clN w < clN h := Nat.div_lt_of_lt_mul (by unfold tlN at hi; rw [Nat.mul_comm]; exact hi)
  have hq16 : 16 * (i % clN w) < w := by unfold clN at hqc ⊢; omega
  have hr16 : 16 * (i / clN w) < h := by
    have h1 : 16 * (i / clN w) < 16 * clN h := by omega
    have h2 : clN h = (h + 15) / 16 := rfl
    omega
  have he : emptyR (tlR w h i) = false := til_full hw hh hq16 hr16
  refine ⟨inP_of (l := [tlR w h i]) (fun r hr => ?_) (fun x y hx => ?_) _ List.mem_cons_self, he⟩
  · rcases List.mem_cons.1 hr with rfl | hr
    · exact he
    · cases hr
  · obtain ⟨r, hr, hxr⟩ := pix_iff.1 hx
    rcases List.mem_cons.1 hr with rfl | hr
    · unfold tlR til at hxr
      rw [has_and, Bool.and_eq_true] at hxr
      exact hxr.2
    · cases hr
theorem form_len_in {r : Rc} {l : List Rc} (hr : emptyR r = false) (h : ∀ x y, pix l x y = true → hasR r x y = true) : ((formL (fun p _ => p) l []).length : Int) ≤ areaR r := by
  have h1 := len_area _ (form_full (fun p _ => p) rfl l [])
  have h2 := area_form (fun p _ => p) rfl l []
  have h3 := sumP_rect hr 2097152 2097152 rfl rfl
  have h4 : sumP (fun x y => ind (pix l x y)) 2097152 2097152 ≤ sumP (fun x y => ind (hasR r x y)) 2097152 2097152 := sumP_mono (fun x y => by
    have := h x y
    unfold ind
    cases hp : pix l x y <;> cases hq : hasR r x y <;> simp_all) _ _
  omega
/-- The form of one tile's pieces. -/
def fmN (E : List (Nat × Rc)) (i : Nat) : List Rc := formL (fun p _ => p) (ofN E i) []
theorem fullT_full {q r : Nat} (hq : q ≤ 256) (hr : r ≤ 256) : emptyR (fullT q r) = false ∧ areaR (fullT q r) = 256 := by
  have h : emptyR (fullT q r) = false := by rw [emptyR_false]; simp only [fullT]; omega
  exact ⟨h, by unfold areaR; rw [if_neg (by rw [h]; decide)]; rfl⟩
theorem tl_parts {w h i : Nat} (hw : w ≤ 256) (hh : h ≤ 256) (hi : i < tlN w h) : i % clN w < clN w ∧ i / clN w < clN h ∧ clN w ≤ 16 ∧ clN h ≤ 16 := by
  have hc : 0 < clN w := by
    unfold tlN at hi
    exact Nat.pos_of_ne_zero (fun e => by rw [e] at hi; simp at hi)
  refine ⟨Nat.mod_lt _ hc, Nat.div_lt_of_lt_mul (by unfold tlN at hi; rw [Nat.mul_comm]; exact hi), by unfold clN; omega, by unfold clN; omega⟩
theorem fmN_len {w h : Nat} (hw : w ≤ 256) (hh : h ≤ 256) {ps : List Rc} (hp : ∀ p ∈ ps, InP w h p) (i : Nat) : (fmN (pcsL w h ps) i).length ≤ 256 := by
  by_cases hi : i < tlN w h
  · obtain ⟨a1, a2, a3, a4⟩ := tl_parts hw hh hi
    obtain ⟨f1, f2⟩ := fullT_full (q := i % clN w) (r := i / clN w) (by omega) (by omega)
    have := form_len_in f1 (l := ofN (pcsL w h ps) i) (fun x y hx => by
      rw [pcs_pix hw hh hp hi, Bool.and_eq_true] at hx
      have h2 := hx.2
      unfold tlR til at h2
      rw [has_and, Bool.and_eq_true] at h2
      exact h2.1)
    unfold fmN; omega
  · have : ofN (pcsL w h ps) i = [] := List.eq_nil_iff_forall_not_mem.2 fun s hs => hi (pcs_mem hw hh hp hs).1
    unfold fmN; rw [this]
    have : formL (fun p _ => p) ([] : List Rc) [] = [] := by
      rcases List.eq_nil_or_concat (formL (fun p _ => p) ([] : List Rc) []) with h | ⟨_, r, h⟩
      · exact h
      · have hr : r ∈ formL (fun p _ => p) ([] : List Rc) [] := by rw [h]; simp
        obtain ⟨c1, -, -, -⟩ := corner_has (form_full _ rfl _ _ r hr)
        have := pix_iff.2 ⟨r, hr, c1⟩
        rw [pix_form _ rfl] at this
        simp [pix_nil] at this
    rw [this]; simp
theorem fm_total {w h : Nat} (hw : w ≤ 256) (hh : h ≤ 256) {ps : List Rc} (hp : ∀ p ∈ ps, InP w h p) : ∀ (xs : List (Nat × Rc)), (xs.flatMap fun e => fmN (pcsL w h ps) e.1).length ≤ xs.length * 256
  | [] => by simp
  | e :: xs => by
    have h1 := fmN_len hw hh hp e.1
    have h2 := fm_total hw hh hp xs
    rw [List.flatMap_cons, List.length_append, List.length_cons]
    omega
theorem pcsL_snoc (w h : Nat) (ps : List Rc) (p : Rc) : pcsL w h (ps ++ [p]) = pcsL w h ps ++ pcsE w h p := by
  unfold pcsL; rw [List.flatMap_append, List.flatMap_singleton]

end Go.Proofs.YtajoipmchgabfaaGreat

/- tiles, plainly: one tile for each pixel; what is touched. Nothing here speaks of a program. -/
namespace Go.Proofs.YtajoipmchgabfaaGreat

theorem tl_has {w h i : Nat} (hw : w ≤ 256) (hh : h ≤ 256) (hi : i < tlN w h) (x y : Int) : hasR (tlR w h i) x y = true ↔ (16 * ((i % clN w : Nat) : Int) ≤ x ∧ x < 16 * ((i % clN w : Nat) : Int) + 16 ∧ x < w) ∧ (16 * ((i / clN w : Nat) : Int) ≤ y ∧ y < 16 * ((i / clN w : Nat) : Int) + 16 ∧ y < h) := by
  obtain ⟨a1, a2, a3, a4⟩ := tl_parts hw hh hi
  have hr16 : 16 * (i / clN w) < h := by
    have h1 : 16 * (i / clN w) < 16 * clN h := by omega
    have h2 : clN h = (h + 15) / 16 := rfl
    omega
  exact til_has hw hh (by unfold clN at a1 ⊢; omega) hr16 x y

theorem tile_one {w h : Nat} (hw : w ≤ 256) (hh : h ≤ 256) (x y : Int) : ∃ i0, (∀ i, i < tlN w h → hasR (tlR w h i) x y = decide (i = i0)) ∧
    ((0 ≤ x ∧ x < w ∧ 0 ≤ y ∧ y < h ∧ i0 < tlN w h ∧ (i0 : Int) = y / 16 * (clN w : Int) + x / 16) ∨ (¬ (0 ≤ x ∧ x < w ∧ 0 ≤ y ∧ y < h) ∧ i0 = tlN w h)) := by
  by_cases hin : 0 ≤ x ∧ x < w ∧ 0 ≤ y ∧ y < h
  · obtain ⟨X, rfl⟩ := Int.eq_ofNat_of_zero_le hin.1
    obtain ⟨Y, rfl⟩ := Int.eq_ofNat_of_zero_le hin.2.2.1
    have hX : X / 16 < clN w := by unfold clN; omega
    have hY : Y / 16 < clN h := by unfold clN; omega
    refine ⟨Y / 16 * clN w + X / 16, fun i hi => ?_, .inl ⟨hin.1, hin.2.1, hin.2.2.1, hin.2.2.2, ?_, by simp⟩⟩
    · rw [Bool.eq_iff_iff, tl_has hw hh hi, decide_eq_true_iff]
      obtain ⟨a1, a2, -, -⟩ := tl_parts hw hh hi
      constructor
      · intro hc
        have e1 : i % clN w = X / 16 := by omega
        have e2 : i / clN w = Y / 16 := by omega
        rw [← e1, ← e2, Nat.mul_comm, Nat.div_add_mod]
      · rintro rfl
        obtain ⟨e1, e2⟩ := num_parts (r := Y / 16) hX
        rw [e1, e2]
        omega
    · have : (Y / 16 + 1) * clN w ≤ clN h * clN w := Nat.mul_le_mul_right _ hY
      rw [Nat.add_mul] at this
      unfold tlN; omega
  · refine ⟨tlN w h, fun i hi => ?_, .inr ⟨hin, rfl⟩⟩
    have : ¬ hasR (tlR w h i) x y = true := fun hc => hin (by
      rw [tl_has hw hh hi] at hc
      have n1 := Int.natCast_nonneg (i % clN w)
      have n2 := Int.natCast_nonneg (i / clN w)
      omega)
    rw [show decide (i = tlN w h) = false by simp; omega]
    simpa using this

/-- A tile is touched where a list and it have a pixel. -/
theorem touch_iff {w h : Nat} (hw : w ≤ 256) (hh : h ≤ 256) (l : List Rc) {i : Nat} (hi : i < tlN w h) : ofN (pcsL w h (ptL w h l)) i ≠ [] ↔ ∃ x y, pix l x y = true ∧ hasR (tlR w h i) x y = true := by
  have hpx := pcs_pix hw hh (ptL_in w h l) hi
  constructor
  · intro hne
    obtain ⟨r, hr⟩ := List.exists_mem_of_ne_nil _ hne
    obtain ⟨-, he, -⟩ := pcs_mem hw hh (ptL_in w h l) hr
    obtain ⟨c1, -, -, -⟩ := corner_has he
    have h1 := pix_iff.2 ⟨r, hr, c1⟩
    rw [hpx, ptL_pix, Bool.and_eq_true, Bool.and_eq_true] at h1
    exact ⟨_, _, h1.1.1, h1.2⟩
  · rintro ⟨x, y, h1, h2⟩ e
    have h3 := hpx x y
    have h4 : hasR (pcR w h) x y = true := by
      unfold tlR til at h2
      rw [has_and, Bool.and_eq_true] at h2
      exact h2.2
    rw [e, ptL_pix, h1, h2, h4, pix_nil] at h3
    cases h3

theorem filter_one (i0 : Nat) : ∀ N, (List.range N).filter (fun i => decide (i = i0)) = if i0 < N then [i0] else []
  | 0 => rfl
  | N + 1 => by
    rw [List.range_succ, List.filter_append, filter_one i0 N]
    by_cases h : N = i0
    · subst h
      simp
    · by_cases h2 : i0 < N
      · simp [h, h2, show i0 < N + 1 by omega]
      · simp [h, h2, show ¬ i0 < N + 1 by omega]
theorem touch_one {w h : Nat} (hw : w ≤ 256) (hh : h ≤ 256) (x y : Int) {i0 : Nat} (h0 : ∀ i, i < tlN w h → hasR (tlR w h i) x y = decide (i = i0)) :
    ((List.range (tlN w h)).filter fun i => !(ofN (pcsL w h (ptL w h [⟨x, y, 1, 1⟩])) i).isEmpty) = if i0 < tlN w h then [i0] else [] := by
  rw [← filter_one]
  refine List.filter_congr fun i hi => ?_
  have hi' := List.mem_range.1 hi
  rw [← h0 i hi', Bool.eq_iff_iff]
  have h1 := touch_iff hw hh [⟨x, y, 1, 1⟩] hi'
  have h2 : (!(ofN (pcsL w h (ptL w h [⟨x, y, 1, 1⟩])) i).isEmpty) = true ↔ ofN (pcsL w h (ptL w h [⟨x, y, 1, 1⟩])) i ≠ [] := by
    cases ofN (pcsL w h (ptL w h [⟨x, y, 1, 1⟩])) i <;> simp
  rw [h2, h1]
  constructor
  · rintro ⟨p, q, e1, e2⟩
    obtain ⟨r, hr, hx⟩ := pix_iff.1 e1
    rcases List.mem_cons.1 hr with rfl | hr
    · obtain ⟨-, b1, b2⟩ := has_iff.1 hx
      simp only at b1 b2
      rwa [show p = x by omega, show q = y by omega] at e2
    · cases hr
  · intro hx
    refine ⟨x, y, pix_iff.2 ⟨_, List.mem_cons_self, has_iff.2 ⟨?_, by simp only; omega, by simp only; omega⟩⟩, hx⟩
    have h3 := (tl_has hw hh hi' x y).1 hx
    have n1 := Int.natCast_nonneg (i % clN w)
    have n2 := Int.natCast_nonneg (i / clN w)
    rw [emptyR_false]
    simp only
    omega

end Go.Proofs.YtajoipmchgabfaaGreat

/- The walks of the document's own answers for rectangles (Good, Empty, Has, Area): each is the same number as the program's. -/
namespace Go.Proofs.YtajoipmchgabfaaGreat
open Go.RowKit

theorem goodR_false {r : Rc} (h : ¬ ((-1048576 ≤ r.x ∧ 0 ≤ r.a ∧ r.a ≤ 1048576 - r.x) ∧ (-1048576 ≤ r.y ∧ 0 ≤ r.b ∧ r.b ≤ 1048576 - r.y))) : goodR r = false := by
  cases hg : goodR r
  · rfl
  · exact absurd (goodR_iff.1 hg) h

theorem hasR_empty {r : Rc} {x y : Int} (h : emptyR r = true) : hasR r x y = false := by
  cases hh : hasR r x y
  · rfl
  · have h1 : goodR r = true ∧ (r.x ≤ x ∧ x < r.x + r.a) ∧ (r.y ≤ y ∧ y < r.y + r.b) := by simpa [hasR, wayHas] using hh
    have h2 := goodR_iff.1 h1.1
    have h3 : emptyR r = false := emptyR_false.2 (by omega)
    rw [h3] at h; cases h

set_option maxHeartbeats 1000000 in
theorem rgood_any (r : Rc) (w : World) : Makes Tryz.prog 33 #[RV r] w (.bool (goodR r)) := by
  unfold Makes
  go_enter Tryz.func33, Tryz.ntmps33
  go_wp2
  all_goals (go_ret; exact ⟨ret_bool (by rw [Bool.eq_iff_iff, goodR_iff]; simp; omega), Below.al1 _ _⟩)

set_option maxHeartbeats 400000 in
theorem rempty_any (r : Rc) (w : World) : Makes Tryz.prog 21 #[RV r] w (.bool (emptyR r)) := by
  unfold Makes
  go_enter Tryz.func21, Tryz.ntmps21
  go_wp2_with fail
  refine Calls.mono (rgood_any _ _) ?_
  rintro e w1 ⟨rfl, hb1⟩
  have hbw : Below w.heap.size w w1 := Below.thn (Below.al1 _ _) hb1
  obtain ⟨hc0, hc1, hc2, hc3⟩ : Lies w1 w.heap.size r := (Lies.new rfl).later hb1
  cases hg : goodR r
  · have Hg := Lib.hid hg
    clear hg
    go_wp2
    go_ret
    exact ⟨ret_bool (by simp [emptyR, Hg.out]), hbw⟩
  · have Hg := Lib.hid hg
    obtain ⟨⟨g1, g2, g3⟩, g4, g5, g6⟩ := goodR_iff.1 hg
    clear hg
    go_wp2
    all_goals (go_ret; exact ⟨ret_bool (by rw [Bool.eq_iff_iff]; simp [emptyR, Hg.out, fullR, wayFull]; omega), hbw⟩)

set_option maxHeartbeats 1000000 in
theorem rhas_any (r : Rc) (x y : Int) (w : World) : Makes Tryz.prog 70 #[RV r, .int .i64 x, .int .i64 y] w (.bool (hasR r x y)) := by
  unfold Makes
  go_enter Tryz.func70, Tryz.ntmps70
  go_wp2_with fail
  refine Calls.mono (rempty_any _ _) ?_
  rintro e w1 ⟨rfl, hb1⟩
  have hbw : Below w.heap.size w w1 := Below.thn (Below.al1 _ _) hb1
  obtain ⟨hc0, hc1, hc2, hc3⟩ : Lies w1 w.heap.size r := (Lies.new rfl).later hb1
  cases hg : emptyR r
  · have Hg := Lib.hid hg
    have Hgd := Lib.hid (good_of_empty hg)
    obtain ⟨⟨g1, g2, g3⟩, g4, g5, g6⟩ := emptyR_false.1 hg
    clear hg
    go_wp2
    all_goals (go_ret; exact ⟨ret_bool (by rw [Bool.eq_iff_iff]; simp [hasR, Hgd.out, wayHas]; omega), hbw⟩)
  · have Hg := Lib.hid hg
    clear hg
    go_wp2
    go_ret
    exact ⟨ret_bool (by rw [hasR_empty Hg.out]), hbw⟩

end Go.Proofs.YtajoipmchgabfaaGreat

/- The walks of the document's own answers for rectangles (And, Or, In): each is the same rectangle as the program's. -/
namespace Go.Proofs.YtajoipmchgabfaaGreat
open Go.RowKit

theorem max_keep (ts : Array TypeId) (t : TypeId) (k k' : IntKind) (x y : Int) (w : World) : (Builtin.max_ ts t #[.int k x, .int k' y]).run Tryz.prog w = .ok (.int k (max x y)) w := by
  rw [run_max_int2]; congr 2; split <;> omega
theorem min_keep (ts : Array TypeId) (t : TypeId) (k k' : IntKind) (x y : Int) (w : World) : (Builtin.min_ ts t #[.int k x, .int k' y]).run Tryz.prog w = .ok (.int k (min x y)) w := by
  rw [run_min_int2]; congr 2; split <;> omega

theorem andR_zero {r s : Rc} (h : min (r.x + r.a) (s.x + s.a) - max r.x s.x ≤ 0 ∨ min (r.y + r.b) (s.y + s.b) - max r.y s.y ≤ 0) : andR r s = zeroRc := by
  unfold andR
  split
  · rfl
  split
  · rfl
  split
  · rfl
  · rename_i h1
    have h2 := emptyR_false.1 (by simpa using h1)
    simp only [midR] at h2
    omega
theorem andR_mid {r s : Rc} (hr : emptyR r = false) (hs : emptyR s = false) (h : 0 < min (r.x + r.a) (s.x + s.a) - max r.x s.x) (h' : 0 < min (r.y + r.b) (s.y + s.b) - max r.y s.y) : andR r s = midR r s := by
  have h1 := emptyR_false.1 hr
  have h2 := emptyR_false.1 hs
  have h3 : emptyR (midR r s) = false := emptyR_false.2 (by simp only [midR]; omega)
  simp [andR, hr, hs, h3]

set_option maxHeartbeats 1000000 in
theorem rand_any (r s : Rc) (w : World) : Makes Tryz.prog 17 #[RV r, RV s] w (RV (andR r s)) := by
  unfold Makes
  go_enter Tryz.func17, Tryz.ntmps17
  go_wp2_with fail
  refine Calls.mono (rempty_any _ _) ?_
  rintro e w1 ⟨rfl, hb1⟩
  have hbw : Below w.heap.size w w1 := Below.thn (Below.al3 _ _ _ _) hb1
  have hl : Lies w1 w.heap.size r := (Lies.new rfl).later (Below.thn (Below.al2 _ _ _) hb1)
  have hm : Lies w1 (w.heap.size + 1) s := (Lies.new (by simp)).later (Below.thn (Below.al1 _ _) hb1)
  have hrm : Room w1 (w.heap.size + 1 + 1) := (Room.new (by simp)).later hb1
  have HL := Lib.hid hl
  have HM := Lib.hid hm
  have Hrm := Lib.hid hrm
  cases her : emptyR r
  · have Her := Lib.hid her
    clear her hrm hl
    obtain ⟨d0, d1, d2, d3⟩ := hm
    go_wp2_with fail
    refine Calls.mono (rempty_any _ _) ?_
    rintro e w2 ⟨rfl, hb2⟩
    have hbw2 := Below.thn hbw hb2
    clear d0 d1 d2 d3
    have hrm2 := Hrm.out.later hb2
    have Hrm2 := Lib.hid hrm2
    obtain ⟨rc0, rc1, rc2, rc3, rf0, rf1, rf2, rf3⟩ := hrm2
    cases hes : emptyR s
    · have Hes := Lib.hid hes
      clear hes
      obtain ⟨c0, c1, c2, c3⟩ := HL.out.later hb2
      obtain ⟨d0, d1, d2, d3⟩ := HM.out.later hb2
      obtain ⟨⟨g1, g2, g3⟩, g4, g5, g6⟩ := emptyR_false.1 Her.out
      obtain ⟨⟨k1, k2, k3⟩, k4, k5, k6⟩ := emptyR_false.1 Hes.out
      have hmax := max_keep
      have hmin := min_keep
      have m1 : -2097152 ≤ min (r.x + r.a) (s.x + s.a) - max r.x s.x := by omega
      have m2 : min (r.x + r.a) (s.x + s.a) - max r.x s.x ≤ 2097152 := by omega
      have m3 : -2097152 ≤ min (r.y + r.b) (s.y + s.b) - max r.y s.y := by omega
      have m4 : min (r.y + r.b) (s.y + s.b) - max r.y s.y ≤ 2097152 := by omega
      go_wp2
      go_quiet (fail)
      clear c0 c1 c2 c3 d0 d1 d2 d3 rc0 rc1 rc2 rc3 rf0 rf1 rf2 rf3
      have hb3 : Below w1.heap.size w1 (w2.drewN nq) := Below.drewN' hb2 nq
      clear hb2 hbw2 Hrm2
      generalize w2.drewN nq = w3 at *
      have hbw3 := Below.thn hbw hb3
      have Hrm3 := Lib.hid (Hrm.out.later (Below.thn hb3 (Below.al1 w3 (.cells #[.int .i64 (midR r s).x, .int .i64 (midR r s).y, .int .i64 (midR r s).a, .int .i64 (midR r s).b] 37))))
      obtain ⟨c0, c1, c2, c3⟩ := HL.out.later hb3
      obtain ⟨d0, d1, d2, d3⟩ := HM.out.later hb3
      have hrm3 : Room (w3.alloc (.cells #[.int .i64 (max r.x s.x), .int .i64 (max r.y s.y), .int .i64 (min (r.x + r.a) (s.x + s.a) - max r.x s.x), .int .i64 (min (r.y + r.b) (s.y + s.b) - max r.y s.y)] 37)) (w.heap.size + 1 + 1) := Hrm3.out
      obtain ⟨rc0, rc1, rc2, rc3, rf0, rf1, rf2, rf3⟩ := hrm3
      have hbw4 := Below.thn hbw3 (Below.al1 w3 (.cells #[.int .i64 (midR r s).x, .int .i64 (midR r s).y, .int .i64 (midR r s).a, .int .i64 (midR r s).b] 37))
      by_cases e1 : min (r.x + r.a) (s.x + s.a) - max r.x s.x ≤ 0
      · go_wp2
        exact bodyPost_ret (v := RV zeroRc) (results_rc Tryz.results17 rfl (Lies.stored Hrm3.out zeroRc)) rfl ⟨by rw [andR_zero (Or.inl e1)], hbw4.trans ((Below.stored zeroRc).mono (by omega))⟩
      · by_cases e2 : min (r.y + r.b) (s.y + s.b) - max r.y s.y ≤ 0
        · go_wp2
          exact bodyPost_ret (v := RV zeroRc) (results_rc Tryz.results17 rfl (Lies.stored Hrm3.out zeroRc)) rfl ⟨by rw [andR_zero (Or.inr e2)], hbw4.trans ((Below.stored zeroRc).mono (by omega))⟩
        · go_wp2
          exact bodyPost_ret (v := RV (midR r s)) (results_rc Tryz.results17 rfl (Lies.stored Hrm3.out (midR r s))) rfl ⟨by rw [andR_mid Her.out Hes.out (by omega) (by omega)], hbw4.trans ((Below.stored (midR r s)).mono (by omega))⟩
    · have Hes := Lib.hid hes
      clear hes
      go_wp2
      exact bodyPost_ret (v := RV zeroRc) (results_rc Tryz.results17 rfl (Lies.stored Hrm2.out zeroRc)) rfl ⟨by simp [andR, Hes.out], hbw2.trans ((Below.stored zeroRc).mono (by omega))⟩
  · have Her := Lib.hid her
    clear her hl hm
    obtain ⟨rc0, rc1, rc2, rc3, rf0, rf1, rf2, rf3⟩ := hrm
    go_wp2
    exact bodyPost_ret (v := RV zeroRc) (results_rc Tryz.results17 rfl (Lies.stored Hrm.out zeroRc)) rfl ⟨by simp [andR, Her.out], hbw.trans ((Below.stored zeroRc).mono (by omega))⟩

end Go.Proofs.YtajoipmchgabfaaGreat
