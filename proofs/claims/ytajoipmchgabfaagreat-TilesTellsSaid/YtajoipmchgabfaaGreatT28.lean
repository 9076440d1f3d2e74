/- Several texts in one, each with its own head. -/
import Derived.Test.YtajoipmchgabfaaGreatT27
import Derived.Test.YtajoipmchgabfaaGreatT23
import Derived.Test.YtajoipmchgabfaaGreatT25
import Derived.Test.YtajoipmchgabfaaGreatT6
import Derived.Deep.QuietTactic
import Derived.BigQuiet
import Derived.Test.YtajoipmchgabfaaGreatT21
import Derived.Maps.OwnSet
import Derived.Maps.OwnOps
import Derived.Lib.SlKeysI
/- Plain facts: bounds of places, and one column more at the end of a row. Nothing here walks. -/
namespace Go.Proofs.YtajoipmchgabfaaGreat
open Go.RowKit

theorem edgesI_bound {down : Bool} {a b : List Rc} {z : Int} (h : z ∈ edgesI down b (edgesI down a [])) : -1048576 ≤ z ∧ z ≤ 1048576 := by
  have key : ∀ r : Rc, emptyR r = false → (z = nearR down r ∨ z = nearR down r + sizeR down r) → -1048576 ≤ z ∧ z ≤ 1048576 := fun r he hz => by
    have hb := emptyR_false.1 he
    cases down <;> simp [nearR, sizeR] at hz <;> omega
  rw [edgesI_mem, edgesI_mem] at h
  rcases h with (h | ⟨r, -, he, hz⟩) | ⟨r, -, he, hz⟩
  · cases h
  · exact key r he hz
  · exact key r he hz

theorem colPut_snoc (y h x x' : Int) (r : Rc) : ∀ l : List Rc, colPut y h x x' (l ++ [r]) = if r.x + r.a = x then l ++ [⟨r.x, r.y, x' - r.x, r.b⟩] else l ++ [r, ⟨x, y, x' - x, h⟩]
  | [] => by simp [colPut]
  | [s] => by
    show s :: colPut y h x x' [r] = _
    simp only [colPut]
    split <;> simp
  | s :: t :: l => by
    have ih := colPut_snoc y h x x' r (t :: l)
    show s :: colPut y h x x' (t :: l ++ [r]) = _
    rw [ih]
    split <;> simp

theorem colPut_len (y h x x' : Int) : ∀ l : List Rc, (colPut y h x x' l).length ≤ l.length + 1
  | [] => by simp [colPut]
  | [r] => by unfold colPut; split <;> simp
  | r :: s :: l => by
    have := colPut_len y h x x' (s :: l)
    show (r :: colPut y h x x' (s :: l)).length ≤ _
    simp at this ⊢
    omega

theorem colsO_len (F : Int → Bool) (y h : Int) : ∀ (ks : List Int) (x : Int) (band : List Rc), (colsO F y h band x ks).length ≤ band.length + ks.length
  | [], _, _ => by simp [colsO]
  | x' :: ks, x, band => by
    unfold colsO
    have h1 := colsO_len F y h ks x' (if F x = true then colPut y h x x' band else band)
    have h2 : (if F x = true then colPut y h x x' band else band).length ≤ band.length + 1 := by
      split
      · exact colPut_len y h x x' band
      · omega
    simp
    omega

/-- One place on: what is still to come of a row of columns. -/
theorem colsO_at (F : Int → Bool) (y h : Int) (band : List Rc) (xs : List Int) (i : Nat) (hi : i + 1 < xs.length) :
    colsO F y h band (xs[i]'(by omega)) (xs.drop (i + 1)) = colsO F y h (if F (xs[i]'(by omega)) = true then colPut y h (xs[i]'(by omega)) xs[i + 1] band else band) xs[i + 1] (xs.drop (i + 2)) := by
  rw [List.drop_eq_getElem_cons hi]
  rfl

theorem docR_at (mf : Bool → Bool → Bool) (a b : List Rc) (xs : List Int) (s : List Rc × List Rc) (ys : List Int) (j : Nat) (hj : j + 1 < ys.length) :
    docR mf a b xs s (ys[j]'(by omega)) (ys.drop (j + 1)) = docR mf a b xs (docStep s (colsR (fun u => mf (pix a u (ys[j]'(by omega))) (pix b u (ys[j]'(by omega)))) (ys[j]'(by omega)) (ys[j + 1] - ys[j]'(by omega)) xs) (ys[j]'(by omega)) ys[j + 1]) ys[j + 1] (ys.drop (j + 2)) := by
  rw [List.drop_eq_getElem_cons hj]
  rfl

end Go.Proofs.YtajoipmchgabfaaGreat

/- Plain facts: does a column join the one before it; bounds; the last step of the document's rows. Nothing here walks. -/
namespace Go.Proofs.YtajoipmchgabfaaGreat
open Go.RowKit

/-- Does a column at x join the last one of a band? -/
def joinB (band : List Rc) (x : Int) : Bool := match band.getLast? with
  | some r => decide (r.x + r.a = x)
  | none => false
theorem joinB_nil (x : Int) : joinB [] x = false := rfl
theorem joinB_snoc (l : List Rc) (r : Rc) (x : Int) : joinB (l ++ [r]) x = decide (r.x + r.a = x) := by simp [joinB]
theorem nil_or_snoc {α : Type} (l : List α) : l = [] ∨ ∃ l' r, l = l' ++ [r] := by
  rcases List.eq_nil_or_concat l with h | ⟨l', r, h⟩
  · exact .inl h
  · exact .inr ⟨l', r, by rw [h]; simp⟩
theorem colPut_not {band : List Rc} {x : Int} (h : joinB band x = false) (y hh x' : Int) : colPut y hh x x' band = band ++ [⟨x, y, x' - x, hh⟩] := by
  rcases nil_or_snoc band with rfl | ⟨l, r, rfl⟩
  · rfl
  · rw [joinB_snoc] at h
    rw [colPut_snoc, if_neg (by simpa using h)]
    simp
theorem colPut_join {l : List Rc} {r : Rc} {x : Int} (h : joinB (l ++ [r]) x = true) (y hh x' : Int) : colPut y hh x x' (l ++ [r]) = l ++ [⟨r.x, r.y, x' - r.x, r.b⟩] := by
  rw [joinB_snoc] at h
  rw [colPut_snoc, if_pos (by simpa using h)]
theorem joinB_some {band : List Rc} {x : Int} (h : joinB band x = true) : ∃ l r, band = l ++ [r] ∧ r.x + r.a = x := by
  rcases nil_or_snoc band with rfl | ⟨l, r, rfl⟩
  · cases h
  · rw [joinB_snoc] at h
    exact ⟨l, r, rfl, by simpa using h⟩

/-- Bounds across, and down. -/
def XB (r : Rc) : Prop := -1048576 ≤ r.x ∧ 0 ≤ r.a ∧ r.x + r.a ≤ 1048576
def YB (r : Rc) : Prop := -1048576 ≤ r.y ∧ r.y ≤ 1048576 ∧ -1048576 ≤ r.y + r.b ∧ r.y + r.b ≤ 1048576

theorem flatR_set2 (l : List Rc) (k : Nat) (a : Int) (h : k < l.length) : (flatR l).set (k * 4 + 2) (.int .i64 a) = flatR (l.set k ⟨l[k].x, l[k].y, a, l[k].b⟩) := by
  induction l generalizing k with
  | nil => simp at h
  | cons r l ih =>
    have h4 : (encR r).length = 4 := rfl
    cases k with
    | zero => simp [flatR, encR]
    | succ k =>
      have := ih k (by simpa using h)
      simp only [flatR, List.flatMap_cons, List.set_cons_succ] at this ⊢
      rw [List.set_append_right _ _ (by rw [h4]; omega), h4, show (k + 1) * 4 + 2 - 4 = k * 4 + 2 by omega, this]
      simp

theorem flatR_last (l : List Rc) (r : Rc) (a : Int) : (flatR (l ++ [r])).set (l.length * 4 + 2) (.int .i64 a) = flatR (l ++ [⟨r.x, r.y, a, r.b⟩]) := by
  have h : l.length < (l ++ [r]).length := by simp
  rw [flatR_set2 _ _ _ h]
  congr 1
  rw [List.set_append_right _ _ (Nat.le_refl _)]
  simp

theorem flatR_snoc (l : List Rc) (r : Rc) : flatR (l ++ [r]) = flatR l ++ encR r := by simp [flatR]
theorem flatR_at_last (l : List Rc) (r : Rc) (j : Nat) : (flatR (l ++ [r]))[l.length * 4 + j]? = (encR r)[j]? := by
  rw [flatR_snoc, List.getElem?_append_right (by rw [flatR_len]; omega), flatR_len, show l.length * 4 + j - l.length * 4 = j by omega]

theorem docStep_go {s : List Rc × List Rc} {st : List Rc} {y : Int} (h : goesD s.2 st y = true) (y' : Int) : docStep s st y y' = (s.1, s.2.map (tall y')) := by unfold docStep; rw [if_pos h]
theorem docStep_not {s : List Rc × List Rc} {st : List Rc} {y : Int} (h : goesD s.2 st y = false) (y' : Int) : docStep s st y y' = (s.1 ++ s.2, st) := by unfold docStep; rw [if_neg (by rw [h]; simp)]

theorem tall_YB {y' : Int} {r : Rc} (h : YB r) (hy : -1048576 ≤ y' ∧ y' ≤ 1048576) : YB (tall y' r) := by
  unfold YB tall at *
  simp only
  omega

/-- One column more, within the bounds. -/
theorem colPut_XB {band : List Rc} {x x' : Int} (h : ∀ r ∈ band, XB r) (hx : -1048576 ≤ x) (hxx : x ≤ x') (hx' : x' ≤ 1048576) (y hh : Int) : ∀ r ∈ colPut y hh x x' band, XB r := by
  cases hj : joinB band x with
  | true =>
    obtain ⟨l, r, rfl, e⟩ := joinB_some hj
    rw [colPut_join hj]
    intro q hq
    rcases List.mem_append.1 hq with hq | hq
    · exact h q (by simp [hq])
    · have h1 := h r (by simp)
      rcases List.mem_singleton.1 hq with rfl
      unfold XB at *
      simp only
      omega
  | false =>
    rw [colPut_not hj]
    intro q hq
    rcases List.mem_append.1 hq with hq | hq
    · exact h q hq
    · rcases List.mem_singleton.1 hq with rfl
      unfold XB
      simp only
      omega
/-- One column more: of one height with the others. -/
theorem colPut_Y {band : List Rc} {x x' y hh : Int} (h : ∀ r ∈ band, r.y = y ∧ r.b = hh) : ∀ r ∈ colPut y hh x x' band, r.y = y ∧ r.b = hh := by
  cases hj : joinB band x with
  | true =>
    obtain ⟨l, r, rfl, e⟩ := joinB_some hj
    rw [colPut_join hj]
    intro q hq
    rcases List.mem_append.1 hq with hq | hq
    · exact h q (by simp [hq])
    · have h1 := h r (by simp)
      rcases List.mem_singleton.1 hq with rfl
      exact h1
  | false =>
    rw [colPut_not hj]
    intro q hq
    rcases List.mem_append.1 hq with hq | hq
    · exact h q hq
    · rcases List.mem_singleton.1 hq with rfl
      exact ⟨rfl, rfl⟩

end Go.Proofs.YtajoipmchgabfaaGreat

/- tiles: the document's Grid. -/
namespace Go.Proofs.YtajoipmchgabfaaGreat
open Go.RowKit

/-- The first tiles of a size. -/
def gl (pw ph m : Nat) : List Rc := (List.range m).map (tlR pw ph)
theorem gl_len (pw ph m : Nat) : (gl pw ph m).length = m := by unfold gl; simp
theorem gl_succ (pw ph m : Nat) : gl pw ph (m + 1) = gl pw ph m ++ [tlR pw ph m] := by
  unfold gl
  rw [List.range_succ, List.map_append]
  rfl
theorem gl_all (pw ph : Nat) : gl pw ph (tlN pw ph) = grL pw ph := rfl
theorem grid_el {pw ph r q : Nat} (hq : q < clN pw) : andR ⟨(q : Int) * 16, (r : Int) * 16, 16, 16⟩ ⟨0, 0, pw, ph⟩ = tlR pw ph (r * clN pw + q) := by
  have hc : 0 < clN pw := by omega
  have e1 : (r * clN pw + q) % clN pw = q := by rw [Nat.mul_comm, Nat.mul_add_mod, Nat.mod_eq_of_lt hq]
  have e2 : (r * clN pw + q) / clN pw = r := by rw [Nat.mul_comm, Nat.mul_add_div hc, Nat.div_eq_of_lt hq, Nat.add_zero]
  unfold tlR
  rw [e1, e2]
  rfl
theorem src_new {w : World} {c : Array Value} {t : TypeId} {xs : List Value} (hc : c.toList = xs) : ∃ ad, (some ⟨w.heap.size, 0, none⟩ : Option Addr) = some ad ∧ ∀ j u, xs[j]? = some u → (w.alloc (.cells c t)).cell? (ad.add j) = some u := by
  refine ⟨_, rfl, fun j u hu => ?_⟩
  rw [Addr.add_lit]
  refine cell_at rfl ?_
  rw [Nat.zero_add, ← Array.getElem?_toList, hc]
  exact hu
theorem own_less {w : World} {B B' : Nat} {e : TypeId} {k : Nat} {v : Value} {n : Nat} {xs : List Value} (h : w.ownsRow B e k v n xs) (hB : B' ≤ B) : w.ownsRow B' e k v n xs :=
  ⟨h.1, h.2.imp id fun ⟨g, cp, cur, h1, h2, h3⟩ => ⟨g, cp, cur, h1, Nat.le_trans hB h2, h3⟩⟩

set_option maxRecDepth 20000 in
set_option maxHeartbeats 4000000 in
theorem refGrid_any (w h : Int) (W : World) : Calls Tryz.prog 7 #[.int .i64 w, .int .i64 h] W fun e w' => ∃ v', e = .returned v' ∧ w'.ownsRow W.heap.size 37 4 v' (grL (szW w h) (szH w h)).length (flatR (grL (szW w h) (szH w h))) ∧ Below W.heap.size W w' := by
  obtain ⟨i0, hi0, hz0, hz1, hz2⟩ := info_parts rc_info
  obtain ⟨pw, hpw⟩ : ∃ p, szW w h = p := ⟨_, rfl⟩
  obtain ⟨ph, hph⟩ : ∃ p, szH w h = p := ⟨_, rfl⟩
  have hb := sz_both w h
  rw [hpw, hph] at hb ⊢
  clear hpw hph
  rcases hb with ⟨rfl, rfl, hno⟩ | ⟨hp1, hp3, hok, rfl, rfl⟩
  · have hcase : (decide (w < 1) = true) ∨ (decide (w < 1) = false ∧ decide (w > 256) = true) ∨ (decide (w < 1) = false ∧ decide (w > 256) = false ∧ decide (h < 1) = true) ∨ (decide (w < 1) = false ∧ decide (w > 256) = false ∧ decide (h < 1) = false ∧ decide (h > 256) = true) := by
      by_cases h1 : w < 1
      · exact .inl (decide_eq_true h1)
      by_cases h2 : w > 256
      · exact .inr (.inl ⟨decide_eq_false h1, decide_eq_true h2⟩)
      by_cases h3 : h < 1
      · exact .inr (.inr (.inl ⟨decide_eq_false h1, decide_eq_false h2, decide_eq_true h3⟩))
      by_cases h4 : h > 256
      · exact .inr (.inr (.inr ⟨decide_eq_false h1, decide_eq_false h2, decide_eq_false h3, decide_eq_true h4⟩))
      exact absurd (by unfold okS; omega) hno
    rw [show grL 0 0 = [] from rfl]
    clear hno
    rcases hcase with d1 | ⟨d1, d2⟩ | ⟨d1, d2, d3⟩ | ⟨d1, d2, d3, d4⟩
    all_goals
      go_enter Tryz.func7, Tryz.ntmps7
      go_wp2
      go_ret
      exact ⟨_, rfl, World.ownsRow_nil _ _ _ _, Below.refl _ _⟩
  unfold okS at hok
  have hw2 : pw ≤ 256 := by omega
  have hh2 : ph ≤ 256 := by omega
  have hN := tlN_le hw2 hh2
  have d1 : decide ((pw : Int) < 1) = false := by simp; omega
  have d2 : decide ((pw : Int) > 256) = false := by simp; omega
  have d3 : decide ((ph : Int) < 1) = false := by simp; omega
  have d4 : decide ((ph : Int) > 256) = false := by simp; omega
  have Hel := Lib.hid (fun r q => @grid_el pw ph r q)
  rw [show (grL pw ph).length = tlN pw ph by unfold grL; simp]
  obtain ⟨C, hC⟩ : ∃ C, clN pw = C := ⟨_, rfl⟩
  obtain ⟨R, hR⟩ : ∃ R, clN ph = R := ⟨_, rfl⟩
  have HM : Hid (∀ r q, r < R → q < C → r * C + q < tlN pw ph) := Lib.hid (fun r q h1 h2 => by
    unfold tlN
    rw [hC, hR]
    have h3 : (r + 1) * C ≤ R * C := Nat.mul_le_mul (by omega) (Nat.le_refl _)
    rw [Nat.succ_mul] at h3
    omega)
  have HT : Hid (tlN pw ph = R * C) := Lib.hid (by unfold tlN; rw [hC, hR])
  rw [hC] at Hel
  have HC : Hid (∀ q : Nat, (q < C → (q : Int) * 16 < pw) ∧ (q = C → ¬ (q : Int) * 16 < pw) ∧ C ≤ 16) := Lib.hid (fun q => by unfold clN at hC; omega)
  have HR : Hid (∀ q : Nat, (q < R → (q : Int) * 16 < ph) ∧ (q = R → ¬ (q : Int) * 16 < ph) ∧ R ≤ 16) := Lib.hid (fun q => by unfold clN at hR; omega)
  clear hC hR hok
  go_enter Tryz.func7, Tryz.ntmps7
  go_wp2_with fail
  go_loopw [5, 6, 7] (fun ov yv _ wr => ∃ (r M : Nat) (pv : Option Addr) (cv : Nat), r ≤ R ∧ yv = .int .i64 ((r : Int) * 16) ∧ Hid (M = r * C) ∧ ov = .slice pv M cv ∧ Hid (wr.ownsRow W.heap.size 37 4 (.slice pv M cv) M (flatR (gl pw ph M))) ∧ Hid (Below W.heap.size W wr)) (fun _ yv _ _ => R * 16 - (intOf yv).toNat)
  case atStart => exact ⟨0, 0, none, 0, Nat.zero_le _, rfl, Lib.hid (by simp), rfl, Lib.hid (World.ownsRow_nil _ _ _ _), Lib.hid (Below.refl _ _)⟩
  case round =>
    obtain ⟨r, M, pv, cv, hr, rfl, HMr, rfl, Ho, Hb⟩ := hrel
    by_cases hlt : r < R
    · have dy : decide ((r : Int) * 16 < (ph : Int)) = true := decide_eq_true ((HR.out r).1 hlt)
      go_wp2_with fail
      go_loopw [5, 7] (fun ov xv wr => ∃ (q K : Nat) (pv : Option Addr) (cv : Nat), q ≤ C ∧ xv = .int .i64 ((q : Int) * 16) ∧ Hid (K = M + q) ∧ ov = .slice pv K cv ∧ Hid (wr.ownsRow W.heap.size 37 4 (.slice pv K cv) K (flatR (gl pw ph K))) ∧ Hid (Below W.heap.size W wr)) (fun _ xv _ => C * 16 - (intOf xv).toNat)
      case atStart => exact ⟨0, M, pv, cv, Nat.zero_le _, rfl, Lib.hid rfl, rfl, Ho, Hb⟩
      case round =>
        obtain ⟨q, K, p2, c2, hq, rfl, HK, rfl, Ho2, Hb2⟩ := hrel
        by_cases hqlt : q < C
        · have dx : decide ((q : Int) * 16 < (pw : Int)) = true := decide_eq_true ((HC.out q).1 hqlt)
          have hKN : K < tlN pw ph := by rw [HK.out, HMr.out]; exact HM.out r q hlt hqlt
          have hel := Hel.out r q hqlt
          rw [← HMr.out, ← HK.out] at hel
          have hsucc := gl_succ pw ph K
          obtain ⟨T, hT⟩ : ∃ T, tlR pw ph K = T := ⟨_, rfl⟩
          rw [hT] at hel hsucc
          have hand := fun u => rand_any ⟨(q : Int) * 16, (r : Int) * 16, 16, 16⟩ ⟨0, 0, pw, ph⟩ u
          rw [hel] at hand
          have Hand := Lib.hid hand
          have Hsucc := Lib.hid hsucc
          have hC16 := (HC.out q).2.2
          have hwx : IntKind.i64.wrap ((q : Int) * 16 + 16) = ((q + 1 : Nat) : Int) * 16 := by rw [IntWalk.i64_in _ (by omega)]; omega
          clear hel hT hand hsucc
          go_wp2_with fail
          refine Calls.mono (Hand.out _) ?_
          rintro _ w3 ⟨rfl, hb3⟩
          have Ho3 := Lib.hid ((Turns.of_below' (T := fun _ => False) hb3).owns Ho2.out (fun _ _ h => h))
          have Hb3 := Lib.hid (Below.thn Hb2.out hb3)
          have hs3 := Hb3.out.size
          clear hb3 Ho2 Hb2
          go_wp2_with (at_builtin; refine wpList_append_mine _ rfl (.tmp 32) (.tmp 40) 22 rfl W.heap.size 37 i0 _ 4 32 Tryz.underlying22 hi0 hz0 hz1 hz2 rfl (by decide) (.slice p2 K c2) K (flatR (gl pw ph K)) rfl (Ho3.out.alloc _) (some ⟨w3.heap.size, 0, none⟩) 1 1 (encR T) rfl rfl ?n1 ?n2 ?n3 ?n4 ?n5 ?_)
          case n1 => exact .inr (src_new rfl)
          case n2 => exact encR_one [T]
          case n3 => simp only [maxLen]; omega
          case n4 => omega
          case n5 => simp; omega
          intro v8 w9 r8 gr8 pl8
          have ht8 : Turns (fun q => (Value.slice p2 K c2).ownBlock = some q) (w3.alloc (.cells #[.int .i64 T.x, .int .i64 T.y, .int .i64 T.a, .int .i64 T.b] 37)) w9 := Turns.of_grown gr8 (fun i h => h)
          have Hb8 := Lib.hid (show Below W.heap.size W w9 from (Below.thn Hb3.out (Below.al1 w3 _)).trans (ht8.below (by simp; omega) (fun q hq => (Ho3.out.lt q hq).1)))
          obtain ⟨p9, c9, rfl⟩ := owns_slice r8
          have Hr8 : Hid (w9.ownsRow W.heap.size 37 4 (.slice p9 (K + 1) c9) (K + 1) (flatR (gl pw ph (K + 1)))) := Lib.hid (by
            rw [Hsucc.out, flatR_snoc]
            exact r8)
          clear r8 gr8 pl8 ht8
          go_wp2
          go_roundw
          case rel => exact ⟨q + 1, K + 1, _, _, by omega, by go_num, Lib.hid (by rw [HK.out]; omega), rfl, Hr8, Hb8⟩
          case measure => simp [intOf]; omega
        · obtain rfl : C = q := by omega
          have dx : decide ((C : Int) * 16 < (pw : Int)) = false := decide_eq_false (by have := (HC.out C).2.1 rfl; omega)
          have hR16 := (HR.out r).2.2
          have hwy : IntKind.i64.wrap ((r : Int) * 16 + 16) = ((r + 1 : Nat) : Int) * 16 := by rw [IntWalk.i64_in _ (by omega)]; omega
          go_wp2
          go_roundw
          case rel => exact ⟨r + 1, K, _, _, by omega, by go_num, Lib.hid (by rw [HK.out, HMr.out, Nat.succ_mul]), rfl, Ho2, Hb2⟩
          case measure => simp [intOf]; omega
    · obtain rfl : R = r := by omega
      have dy : decide ((R : Int) * 16 < (ph : Int)) = false := decide_eq_false (by have := (HR.out R).2.1 rfl; omega)
      go_wp2
      go_ret
      have hMN : M = tlN pw ph := by rw [HMr.out, HT.out]
      subst hMN
      exact ⟨_, rfl, Ho.out, Hb.out⟩

end Go.Proofs.YtajoipmchgabfaaGreat

/- tiles: maps from numbers to slices: what a store and a look-up do. -/
namespace Go.Proofs.YtajoipmchgabfaaGreat
open Go.RowKit Go.Maps

/-- A value reads as itself. -/
def relV (v : Value) : Option (DataW Value × List MemPlace) := some (.held v, [])
theorem mk_under : Tryz.prog.underlying 3 = some (.int .i64) := by kernel_rfl
theorem mm_under : Tryz.prog.underlying 47 = some (.map 3 22) := by kernel_rfl
def IntD (D : DataW Value) : Prop := ∃ es, D = .map es ∧ ∀ p ∈ es, ∃ x, p.1 = .int .i64 x
theorem mem_insertD {x p : Lit × DataW Value} : ∀ {l : List (Lit × DataW Value)}, p ∈ DataW.insert x l → p = x ∨ p ∈ l
  | [], h => .inl (by simpa [DataW.insert] using h)
  | y :: r, h => by
    unfold DataW.insert at h
    split at h
    · rcases List.mem_cons.1 h with h | h
      · exact .inl h
      · exact .inr h
    · rcases List.mem_cons.1 h with h | h
      · exact .inr (by rw [h]; exact List.mem_cons_self)
      · exact (mem_insertD h).imp id fun h => List.mem_cons_of_mem _ h
theorem IntD.put {D : DataW Value} (h : IntD D) (x : Int) (d : DataW Value) : IntD (D.put (.int .i64 x) d) := by
  obtain ⟨es, rfl, he⟩ := h
  refine ⟨_, rfl, fun p hp => ?_⟩
  rcases mem_insertD hp with rfl | hp
  · exact ⟨x, rfl⟩
  · exact he p (List.mem_filter.1 hp).1

/-- Block M is a map of at most n entries that reads as F. -/
def MapV (w : World) (M n : Nat) (F : Int → Option Value) : Prop :=
  ∃ D : DataW Value, w.ownsMap Tryz.prog 3 relV M n D ∧ IntD D ∧ ∀ k : Int, Maps.has D (.int .i64 k) = (F k).isSome ∧ ∀ v, F k = some v → ∀ z, D.atKey (.int .i64 k) z = .held v
theorem wf_key {x : Int} (h : 0 ≤ x ∧ x ≤ 1048576) : (Lit.int .i64 x).wf = true := by
  have hm : IntKind.i64.min = -9223372036854775808 := by decide
  have hx : IntKind.i64.max = 9223372036854775807 := by decide
  simp [Lit.wf, hm, hx]; omega
theorem mk_key {x : Int} (h : 0 ≤ x ∧ x ≤ 1048576) : keyOf Tryz.prog 3 (.int .i64 x) = some (.int .i64 x) := keyOf_int_mk mk_under (wf_key h)
theorem mk_keyed : Keyed Tryz.prog 3 := int_keyed mk_under
theorem int_isKey {x : Int} (h : 0 ≤ x ∧ x ≤ 1048576) : WideAt.IsKeyLit (.int .i64 x) := mk_keyed.key (mk_key h)
theorem MapV.made (w : World) : MapV (w.alloc (.map #[] 0)) w.heap.size 0 fun _ => none :=
  ⟨_, World.ownsMap_made w _ _ _, ⟨[], rfl, fun p hp => by cases hp⟩, fun k => ⟨rfl, fun x h => by cases h⟩⟩
theorem MapV.put {w : World} {M n : Nat} {F : Int → Option Value} (h : MapV w M n F) (hn : n < maxLen) {k : Int} (h1 : 0 ≤ k ∧ k ≤ 1048576) (v : Value) :
    ∃ w', (Instr.mapUpdate 47 (.map (some M)) (.int .i64 k) v).run Tryz.prog w = .ok () w' ∧ MapV w' M (n + 1) (fun k' => if k' = k then some v else F k') ∧ w.mapTurned w' M := by
  obtain ⟨D, hD, hI, hF⟩ := h
  obtain ⟨w', hr, ho, ht⟩ := hD.store mk_keyed mm_under hn (mk_key h1) (val := v) (d := .held v) (ps := []) rfl
  refine ⟨w', hr, ⟨_, ho, hI.put k _, fun k' => ?_⟩, ht⟩
  by_cases e : k' = k
  · subst e
    simp only [if_true, Option.isSome_some, Option.some.injEq]
    exact ⟨Maps.has_put_same hD.isMap (int_isKey h1) _, fun y hy z => by subst hy; exact Maps.atKey_put_same hD.isMap (int_isKey h1) _ z⟩
  · simp only [if_neg e]
    have hne : (Lit.int .i64 k') ≠ (Lit.int .i64 k) := fun he => e (by cases he; rfl)
    exact ⟨by rw [Maps.has_put_other hne]; exact (hF k').1, fun y hy z => by rw [Maps.atKey_put_other hne]; exact (hF k').2 y hy z⟩
theorem mz_zero (w : World) : (zeroValue 22).run Tryz.prog w = .ok (.slice none 0 0) w := by kernel_rfl
theorem MapV.look {w : World} {M n : Nat} {F : Int → Option Value} (h : MapV w M n F) {k : Int} (h1 : 0 ≤ k ∧ k ≤ 1048576) :
    (Instr.lookup 47 (.map (some M)) (.int .i64 k) false).run Tryz.prog w = .ok ((F k).getD (.slice none 0 0)) w := by
  obtain ⟨D, hD, hI, hF⟩ := h
  obtain ⟨v, ps, hr, hv⟩ := hD.lookup mk_keyed mm_under (mz_zero w) (zd := .held (.slice none 0 0)) (zp := []) rfl (mk_key h1)
  rw [hr]
  have hv2 : DataW.held v = D.atKey (.int .i64 k) (.held (.slice none 0 0)) := (by simpa [relV] using hv : DataW.held v = D.atKey (.int .i64 k) (.held (.slice none 0 0)) ∧ ps = []).1
  cases hk : F k with
  | none =>
    rw [Maps.atKey_of_not_has (by rw [(hF k).1, hk]; rfl)] at hv2
    cases hv2; rfl
  | some x =>
    rw [(hF k).2 x hk] at hv2
    cases hv2; rfl
theorem MapV.turned {w w' : World} {M n : Nat} {F : Int → Option Value} (h : MapV w M n F) {T : Nat → Prop} (ht : Turns T w w') (hT : ¬ T M) : MapV w' M n F := by
  obtain ⟨D, ⟨es, clock, hb, r⟩, hF⟩ := h
  exact ⟨D, ⟨es, clock, (ht.block M (lt_heapT hb) hT).trans hb, r⟩, hF⟩
theorem MapV.lt {w : World} {M n : Nat} {F : Int → Option Value} (h : MapV w M n F) : M < w.heap.size := by
  obtain ⟨D, hD, _⟩ := h
  exact hD.lt
theorem mt_turnsV {w w' : World} {M : Nat} (h : w.mapTurned w' M) : Turns (fun i => i = M) w w' := Turns.of_grown h.grown (fun i e => by cases e; rfl)

end Go.Proofs.YtajoipmchgabfaaGreat
