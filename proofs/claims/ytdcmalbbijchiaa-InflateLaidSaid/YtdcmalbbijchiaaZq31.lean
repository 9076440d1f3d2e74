/- Several texts in one, each with its own head. -/
import Derived.Test.YtdcmalbbijchiaaZq30
import Derived.Laws.BytesArg
import Derived.Lib.SlBytesConst
/- inflate: bytes as strings; the statements' example, walked. -/
namespace Go.Proofs.Ytdcmalbbijchiaa
open Go.RowKit Go.Maps

/-- Bytes as a string. -/
def strI (l : List Nat) : ByteArray := strOfNums (l.map fun (b : Nat) => (b : Int))
theorem strI_row {w : World} {v : Value} {l : List Nat} (h : Row enc8 1 w v l) : (convert 23 9 v).run Try.prog w = .ok (.string (strI l)) w := by
  obtain ⟨p, c, rfl, -, -, hr⟩ := h
  rcases hr with ⟨rfl, rfl⟩ | ⟨b, off, rfl, -, hr⟩
  · exact run_convert_bytes_nil w 23 5 Try.underlying23 Try.underlying5 _ _ 9 Try.underlying9
  · refine run_convert_bytes_arg w 23 5 Try.underlying23 Try.underlying5 b off l.length c _ (by simp) (fun i hi => ?_) 9 Try.underlying9
    have := hr i l[i] (List.getElem?_eq_getElem hi) 0 _ rfl
    rw [Nat.mul_one, Nat.add_zero] at this
    rw [this]
    simp [List.getD_eq_getElem?_getD, List.getElem?_eq_getElem hi]
    rfl
theorem strI_app (a b : List Nat) : strI (a ++ b) = strI a ++ strI b := by
  have h : (strI (a ++ b)).data = (strI a ++ strI b).data := by
    apply Array.ext'
    simp [strI, strOfNums_data, ByteArray.data_append]
  cases h1 : strI (a ++ b) with
  | mk d =>
    cases h2 : strI a ++ strI b with
    | mk d2 => rw [h1, h2] at h; simp only at h; rw [h]
theorem abc_str : strI [97, 98, 99] = { data := #[97, 98, 99] } := by decide +kernel

set_option maxRecDepth 20000 in
set_option maxHeartbeats 2000000 in
theorem ireads_law (w : World) : Makes Try.prog 5 #[] w (.bool true) := by
  unfold Makes
  go_enter Try.func5, Try.ntmps5
  go_wp2_with fail
  have hr8 : Rw8 (w.alloc (.cells (abcL.map u8v).toArray 5)) (.slice (some ⟨w.heap.size, 0, none⟩) 6 6) abcL := Rw8.own (base := w.heap.size) (World.ownsRow_lit w (abcL.map u8v).toArray 6 (Nat.le_refl _) (by simp [maxLen]) rfl) rfl
  refine Calls.mono (infl_any _ abcL 10 _ hr8 (by decide) (by decide)) ?_
  rintro e w1 ⟨o, k, er, ov, hi, rfl, ho, hb⟩
  obtain ⟨rfl, rfl, rfl⟩ := hi.det abc_infl
  have hstr := strI_row (Rw8.own ho rfl).row
  rw [abc_str] at hstr
  obtain ⟨p, c, rfl⟩ := owns_slice ho
  have Hb := Lib.hid (Below.thn (Below.al1 w _) hb)
  clear hi ho hb hr8
  simp only [List.length_cons, List.length_nil, Nat.zero_add, Nat.reduceAdd] at *
  go_wp2
  go_ret
  exact ⟨rfl, Hb.out⟩

end Go.Proofs.Ytdcmalbbijchiaa

/- A writer behind all that there is. -/
namespace Go.Proofs.Ytdcmalbbijchiaa
open Go.RowKit Go.Maps

/-- A writer of n bits, the number N, that was made behind W0 (at S); all that W0 had stands. -/
def WrI (S base B N n : Nat) (W0 w : World) : Prop := ∃ sv, Wr w base B sv N n ∧ Below S W0 w ∧ base ≤ w.heap.size ∧ S ≤ B ∧ n ≤ 8388608
theorem WrI.new (w : World) : WrI w.heap.size (w.heap.size + 1) w.heap.size 0 0 w (w.alloc (.cells #[.slice none 0 0, .int .i64 0] 25)) :=
  ⟨_, ⟨by omega, World.alloc_heap_new w _, World.ownsRow_nil _ _ _ _, by decide⟩, Below.al1 w _, by simp, Nat.le_refl _, by decide⟩
theorem WrI.keeps {S base B N n : Nat} {W0 w : World} (h : WrI S base B N n W0 w) : Below S W0 w := by obtain ⟨_, _, h, _⟩ := h; exact h
theorem WrI.below {S base B N n : Nat} {W0 w w' : World} (h : WrI S base B N n W0 w) (hb : Below w.heap.size w w') : WrI S base B N n W0 w' := by
  obtain ⟨sv, h1, h2, h3, h4, h5⟩ := h
  exact ⟨sv, h1.below hb, h2.trans (hb.mono (by have := h1.size; omega)), Nat.le_trans h3 hb.size, h4, h5⟩
theorem putI_ok {S base B N n v k : Nat} {W0 w : World} (h : WrI S base B N n W0 w) (hv : v < 2 ^ k) (hk : k ≤ 24) (hmax : n + k ≤ 8388608) :
    Calls Try.prog 12 #[.pointer (some ⟨B, 0, none⟩), .int .u32 (v : Int), .int .i64 (k : Int)] w fun e w' => e = .returned (.int .i64 0) ∧ WrI S base B (N + v * 2 ^ n) (n + k) W0 w' := by
  obtain ⟨sv, hw, hb, hs, hS, -⟩ := h
  refine (put_ok base B N n v k sv w hw hv hk hmax hs).mono fun e w' ⟨he, hto⟩ => ⟨he, ?_⟩
  obtain ⟨sv', h1, h2, h3⟩ := hto
  refine ⟨sv', h1, hb.trans (h2.below (by have := hw.size; omega) (fun i hi => ?_)), Nat.le_trans hs h2.size, hS, hmax⟩
  rcases hi with rfl | hi
  · exact hS
  · have h4 := (hw.own.lt i hi).1
    have h5 := hw.lt
    omega
theorem bytesI {S base B N n : Nat} {W0 w : World} (h : WrI S base B N n W0 w) :
    Calls Try.prog 7 #[.pointer (some ⟨B, 0, none⟩)] w fun e w' => ∃ v', e = .returned v' ∧ Own8 w.heap.size (byts N ((n + 7) / 8)) w w' v' := by
  obtain ⟨sv, h1, h2, h3, h4, h5⟩ := h
  exact wbytes_any base B N n sv w h1 h5

end Go.Proofs.Ytdcmalbbijchiaa

/- inflate, plainly: what a stream tells elsewhere: further on in other bytes, behind other bytes that came, under a greater limit. -/
namespace Go.Proofs.Ytdcmalbbijchiaa

theorem numB_app : ∀ a b : List Nat, numB (a ++ b) = numB a + 256 ^ a.length * numB b
  | [], b => by simp [numB]
  | x :: a, b => by
    rw [List.cons_append, numB, numB, numB_app a b, List.length_cons, Nat.pow_succ, Nat.mul_add]
    rw [← Nat.mul_assoc, Nat.mul_comm 256 (256 ^ a.length)]
    omega
theorem p256 (n : Nat) : 256 ^ n = 2 ^ (8 * n) := by rw [Nat.pow_mul]
theorem nb_ext (l m : List Nat) (a k : Nat) (h : a + k ≤ 8 * l.length) : nb (l ++ m) a k = nb l a k := by
  unfold nb
  rw [numB_app, p256, show 8 * l.length = a + (k + (8 * l.length - a - k)) by omega, Nat.pow_add, Nat.pow_add, Nat.mul_assoc, Nat.add_mul_div_left _ _ (Nat.two_pow_pos a), Nat.mul_assoc, Nat.add_mul_mod_self_left]
theorem nb_shift (p l : List Nat) (hp : ∀ b ∈ p, b < 256) (a k : Nat) : nb (p ++ l) (a + 8 * p.length) k = nb l a k := by
  unfold nb
  have h : numB p / 2 ^ (8 * p.length) = 0 := Nat.div_eq_of_lt (by rw [← p256]; exact numB_lt p hp)
  rw [numB_app, p256, Nat.add_comm a, Nat.pow_add, ← Nat.div_div_eq_div_mul, Nat.add_mul_div_left _ _ (Nat.two_pow_pos _), h, Nat.zero_add]

/-- What l tells up to the bit K, l' tells s bits further on. -/
structure Trn (l l' : List Nat) (K s : Nat) : Prop where
  num : ∀ a k, a + k ≤ K → nb l' (a + s) k = nb l a k
  le : K + s ≤ 8 * l'.length
  eight : s % 8 = 0

section
variable {l l' : List Nat} {K s lim lim' : Nat} {q : List Nat}

theorem Trn.sy (T : Trn l l' K s) {ls : List Nat} {a x t : Nat} (h : Sy ls l a x 0 t) (hK : a + t ≤ K) : Sy ls l' (a + s) x 0 t := by
  obtain ⟨F, L, hF, hM, h⟩ := h
  refine ⟨F, L, hF, hM, ⟨fun u u1 u2 => ?_, ⟨h.le.1, by have := T.le; omega⟩, ?_⟩⟩
  · rw [show bt l' (a + s) u = bt l a u from T.num a u (by omega)]
    exact h.no u u1 u2
  · rcases h.ans with ⟨h1, h2, h3⟩ | ⟨h1, -⟩ | ⟨h1, -⟩
    · exact .inl ⟨rfl, h2, by rw [show bt l' (a + s) t = bt l a t from T.num a t hK]; exact h3⟩
    · cases h1
    · cases h1

theorem ext_app (q : List Nat) (d : Nat) : ∀ (n : Nat) (o : List Nat), d ≤ o.length → ext d n (q ++ o) = q ++ ext d n o
  | 0, _, _ => rfl
  | n + 1, o, h => by
    have e : (q ++ o).getD ((q ++ o).length - d) 0 = o.getD (o.length - d) 0 := by
      rw [List.length_append, show q.length + o.length - d = q.length + (o.length - d) by omega]
      rw [List.getD_eq_getElem?_getD, List.getD_eq_getElem?_getD, List.getElem?_append_right (by omega)]
      congr 2; omega
    rw [ext, ext, e, List.append_assoc, ext_app q d n _ (by simp; omega)]

theorem Trn.rp (T : Trn l l' K s) (hlim : lim + q.length ≤ lim') {D : List Nat} {a x a' : Nat} {o o' : List Nat} (h : InfRp D l lim a x o (.go a' o')) (hK : a' ≤ K) : InfRp D l' lim' (a + s) x (q ++ o) (.go (a' + s) (q ++ o')) := by
  rcases h.view with ⟨_, e⟩ | ⟨_, _, e⟩ | ⟨h1, h2, y, er, t, h3, ⟨_, e⟩ | ⟨_, _, e⟩ | ⟨_, _, _, e⟩ | ⟨rfl, h4, h5, ⟨_, e⟩ | ⟨_, _, e⟩ | ⟨h6, h7, e⟩⟩⟩ <;> try (cases e; done)
  injection e with e1 e2
  subst e1; subst e2
  have n1 := T.num a (lnBits x) (by omega)
  have n2 := T.num (a + lnBits x + t) (dsBits y) hK
  have hs := T.sy h3 (by omega)
  have p1 : a + s + lnBits x = a + lnBits x + s := by omega
  have p2 : a + s + lnBits x + t = a + lnBits x + t + s := by omega
  have hle := T.le
  have hl : (q ++ o).length = q.length + o.length := List.length_append
  have hd := InfRp.done (D := D) (l := l') (lim := lim') (a := a + s) (x := x) (o := q ++ o) h1 (by omega) y t (by rw [p1]; exact hs) h4 (by omega) (by rw [p2, n2, hl]; omega) (by rw [n1, hl]; omega)
  refine Eq.mp (congrArg _ ?_) hd
  rw [p2, n1, n2, ext_app q _ _ _ h6]
  congr 1; omega

theorem Trn.tk (T : Trn l l' K s) (hlim : lim + q.length ≤ lim') {A D : List Nat} {a a' : Nat} {o o' : List Nat} (h : InfTk A D l lim a o (.go a' o')) (hK : a' ≤ K) : InfTk A D l' lim' (a + s) (q ++ o) (.go (a' + s) (q ++ o')) := by
  obtain ⟨x, e, t, h1, ⟨_, e1⟩ | ⟨_, _, e1⟩ | ⟨rfl, h2, h3, e1⟩ | ⟨_, _, _, e1⟩ | ⟨rfl, h2, h3⟩⟩ := h.view
  · cases e1
  · cases e1
  · injection e1 with e1 e2
    subst e1; subst e2
    have hd := InfTk.byte (A := A) (D := D) (l := l') (lim := lim') (a := a + s) (o := q ++ o) x t (T.sy h1 hK) h2 (by simp; omega)
    refine Eq.mp (congrArg _ ?_) hd
    rw [List.append_assoc]
    congr 1; omega
  · cases e1
  · have hup := h3.up _ _ rfl
    have hr := T.rp (q := q) hlim h3 hK
    rw [show a + t + s = a + s + t by omega] at hr
    exact .rep x t _ (T.sy h1 (by omega)) h2 hr
theorem Trn.tkf (T : Trn l l' K s) {A D : List Nat} {a a' : Nat} {o : List Nat} (h : InfTk A D l lim a o (.fin a')) (hK : a' ≤ K) : InfTk A D l' lim' (a + s) (q ++ o) (.fin (a' + s)) := by
  cases h with
  | fin t h1 =>
    have hd := InfTk.fin (A := A) (D := D) (l := l') (lim := lim') (a := a + s) (o := q ++ o) t (T.sy h1 hK)
    refine Eq.mp (congrArg _ ?_) hd
    congr 1; omega
  | rep x t r h h1 h2 => cases h2
theorem Trn.toks (T : Trn l l' K s) (hlim : lim + q.length ≤ lim') {A D : List Nat} {a : Nat} {o : List Nat} {r : InfSt} (h : InfToks A D l lim a o r) : ∀ a' o', r = .go a' o' → a' ≤ K → InfToks A D l' lim' (a + s) (q ++ o) (.go (a' + s) (q ++ o')) := by
  induction h with
  | fin a a1 o h =>
    intro a' o' e hK
    injection e with e1 e2
    subst e1; subst e2
    exact .fin _ _ _ (T.tkf h hK)
  | no => intro a' o' e; cases e
  | more a a1 o o1 r h h1 ih =>
    intro a' o' e hK
    have := h1.up a' o' e
    exact .more _ _ _ _ _ (T.tk hlim h (by omega)) (ih a' o' e hK)

theorem alN_shift (a : Nat) (hs : s % 8 = 0) : alN (a + s) = alN a + s := by unfold alN; omega
theorem bys_tr (T : Trn l l' K s) (a : Nat) : ∀ n, a + 8 * n ≤ K → bys l' (a + s) n = bys l a n
  | 0, _ => rfl
  | n + 1, h => by
    rw [bys_succ, bys_succ, bys_tr T a n (by omega), show a + s + 8 * n = a + 8 * n + s by omega, T.num (a + 8 * n) 8 (by omega)]
theorem Trn.sd (T : Trn l l' K s) (hlim : lim + q.length ≤ lim') {a a' : Nat} {o o' : List Nat} (h : InfSd l lim a o (.go a' o')) (hK : a' ≤ K) : InfSd l' lim' (a + s) (q ++ o) (.go (a' + s) (q ++ o')) := by
  have hle := T.le
  have ha := alN_shift (s := s) a T.eight
  cases h with
  | done h1 h2 h3 h4 =>
    have n1 := T.num (alN a) 16 (by omega)
    have n2 := T.num (alN a + 16) 16 (by omega)
    have n3 := bys_tr T (alN a + 32) (nb l (alN a) 16) hK
    have hd := InfSd.done (l := l') (lim := lim') (a := a + s) (o := q ++ o) (by rw [ha]; omega) (by rw [ha, n1, show alN a + s + 16 = alN a + 16 + s by omega, n2]; exact h2) (by rw [ha, n1, List.length_append]; omega) (by rw [ha, n1]; omega)
    refine Eq.mp (congrArg _ ?_) hd
    rw [ha, n1, show alN a + s + 32 = alN a + 32 + s by omega, n3, List.append_assoc]
    congr 1; omega
theorem Trn.sv (T : Trn l l' K s) {C : List Nat} {n a a' : Nat} {ls ls' : List Nat} (h : InfSv C l n a ls (.go a' ls')) (hK : a' ≤ K) : InfSv C l' n (a + s) ls (.go (a' + s) ls') := by
  have hle := T.le
  cases h with
  | go x t k c v h h1 h2 h3 =>
    have n1 := T.num (a + t) k hK
    have hd := InfSv.go (C := C) (l := l') (n := n) (a := a + s) (ls := ls) x t k c v (T.sy h (by omega)) h1 (by omega) (by rw [show a + s + t = a + t + s by omega, n1]; exact h3)
    refine Eq.mp (congrArg _ ?_) hd
    rw [show a + s + t = a + t + s by omega, n1]
    congr 1; omega
theorem Trn.ls (T : Trn l l' K s) {C : List Nat} {n a : Nat} {ls : List Nat} {r : InfSt} (h : InfLs C l n a ls r) : ∀ a' ls', r = .go a' ls' → a' ≤ K → InfLs C l' n (a + s) ls (.go (a' + s) ls') := by
  induction h with
  | fin a ls h =>
    intro a' o' e hK
    injection e with e1 e2
    subst e1; subst e2
    exact .fin _ _ h
  | no => intro a' o' e; cases e
  | more a a1 o o1 r h0 h h1 ih =>
    intro a' o' e hK
    have := h1.up a' o' e
    exact .more _ _ _ _ _ h0 (T.sv h (by omega)) (ih a' o' e hK)
theorem clF_tr (T : Trn l l' K s) (a : Nat) : ∀ k, a + 3 * k ≤ K → clF l' (a + s) k = clF l a k
  | 0, _ => rfl
  | k + 1, h => by
    funext i
    unfold clF
    rw [clF_tr T a k (by omega), show a + s + 3 * k = a + 3 * k + s by omega, T.num (a + 3 * k) 3 (by omega)]
theorem Trn.dy (T : Trn l l' K s) {a n a' : Nat} {ls : List Nat} (h : InfDy l a n (.go a' ls)) (hK : a' ≤ K) : InfDy l' (a + s) n (.go (a' + s) ls) := by
  have hle := T.le
  cases h with
  | done h h1 h2 h3 a' ls h4 h5 =>
    have hup := h4.up _ _ rfl
    have n1 := T.num a 5 (by omega)
    have n2 := T.num (a + 5) 5 (by omega)
    have n3 := T.num (a + 10) 4 (by omega)
    have e1 : a + s + 5 = a + 5 + s := by omega
    have e2 : a + s + 10 = a + 10 + s := by omega
    have e3 : a + s + 14 = a + 14 + s := by omega
    have n4 : clL l' (a + s + 14) (nb l (a + 10) 4 + 4) = clL l (a + 14) (nb l (a + 10) 4 + 4) := by unfold clL; rw [e3, clF_tr T (a + 14) _ (by omega)]
    have n5 := T.ls h4 _ _ rfl hK
    have hd := InfDy.done (l := l') (a := a + s) (by omega) (by rw [n1, e1, n2]; exact h1) (by rw [e2, n3]; omega) (by rw [e2, n3, n4]; exact h3) (a' + s) ls (by
      rw [n1, e1, n2, e2, n3, n4]
      rw [show a + s + 14 + 3 * (nb l (a + 10) 4 + 4) = a + 14 + 3 * (nb l (a + 10) 4 + 4) + s by omega]
      exact n5) (by rw [n1]; exact h5)
    rw [n1] at hd
    exact hd
theorem Trn.bk (T : Trn l l' K s) (hlim : lim + q.length ≤ lim') {a a' : Nat} {o o' : List Nat} (h : InfBk l lim a o (.go a' o')) (hK : a' ≤ K) : InfBk l' lim' (a + s) (q ++ o) (.go (a' + s) (q ++ o')) := by
  have hle := T.le
  have hup := h.up _ _ rfl
  have e1 : a + s + 2 = a + 2 + s := by omega
  cases h with
  | stored h h1 r h2 =>
    have hup2 : a + 2 ≤ a' := by cases h2; unfold alN; omega
    exact .stored (by omega) (by rw [T.num a 2 (by omega)]; exact h1) _ (by rw [e1]; exact T.sd hlim h2 hK)
  | fixed h h1 r h2 =>
    have hup2 := h2.up _ _ rfl
    exact .fixed (by omega) (by rw [T.num a 2 (by omega)]; exact h1) _ (by rw [e1]; exact T.toks hlim h2 _ _ rfl hK)
  | dyn h h1 n a1 ls h2 r h3 =>
    have hup2 := h3.up _ _ rfl
    have hup3 := h2.up
    exact .dyn (by omega) (by rw [T.num a 2 (by omega)]; exact h1) n (a1 + s) ls (by rw [e1]; exact T.dy h2 (by omega)) _ (T.toks hlim h3 _ _ rfl hK)
theorem Trn.bl (T : Trn l l' K s) (hlim : lim + q.length ≤ lim') {a : Nat} {o : List Nat} {r : InfSt} (h : InfBl l lim a o r) : ∀ a' o', r = .go a' o' → a' ≤ K → InfBl l' lim' (a + s) (q ++ o) (.go (a' + s) (q ++ o')) := by
  have hle := T.le
  induction h with
  | few => intro a' o' e; cases e
  | no => intro a' o' e; cases e
  | last a o h h1 a1 o1 h2 =>
    intro a' o' e hK
    injection e with e1 e2
    subst e1; subst e2
    have hup := h2.up _ _ rfl
    have hb := T.bk (q := q) hlim h2 hK
    rw [show a + 1 + s = a + s + 1 by omega] at hb
    exact .last _ _ (by omega) (by rw [T.num a 1 (by omega)]; exact h1) _ _ hb
  | more a o h h1 a1 o1 h2 r h3 ih =>
    intro a' o' e hK
    have hup : a1 ≤ a' := by
      have : ∀ {a o r}, InfBl l lim a o r → ∀ a' o', r = .go a' o' → a ≤ a' := fun h => by
        induction h with
        | few => intro a' o' e; cases e
        | no => intro a' o' e; cases e
        | last a o h h1 a1 o1 h2 => intro a' o' e; injection e with e1 e2; have := h2.up _ _ rfl; omega
        | more a o h h1 a1 o1 h2 r h3 ih => intro a' o' e; have := ih a' o' e; have := h2.up _ _ rfl; omega
      exact this h3 a' o' e
    have hup2 := h2.up _ _ rfl
    have hb := T.bk (q := q) hlim h2 (by omega)
    rw [show a + 1 + s = a + s + 1 by omega] at hb
    exact .more _ _ (by omega) (by rw [T.num a 1 (by omega)]; exact h1) _ _ hb _ (ih a' o' e hK)
end

end Go.Proofs.Ytdcmalbbijchiaa
