/- Several texts in one, each with its own head. -/
import Derived.Test.YtpddkhhdleknnaaZ4
import Derived.Test.YtpddkhhdleknnaaZ3
import Derived.Laws.CopyOwn
import Derived.OwnWalkIn
import Derived.TacticsInMore
import Derived.LoopNIn
import Derived.LoopIn
import Derived.Laws.BitsLemmas
/- pixbuf's small functions: pictures in memory; row, rows, turn, whole, blank, sized, isPicture. -/
namespace Go.Proofs.Ytpddkhhdleknnaa
open Go.RowKit

attribute [local go_sem] Oper.semAt_some

/-- A picture's value. -/
abbrev IV (wd ht : Int) (s : Value) : Value := .agg #[.int .i64 wd, .int .i64 ht, s]

def u32s (l : List Int) : Array Value := (l.map (Value.int .u32)).toArray

/-- Block g is these pixels. -/
def Pix (w : World) (g : Nat) (l : List Int) : Prop := w.heap[g]? = some (.cells (u32s l) 49)

theorem Pix.lt {w : World} {g : Nat} {l : List Int} (h : Pix w g l) : g < w.heap.size := (Array.getElem?_eq_some_iff.1 h).1
theorem Pix.cell {w : World} {g : Nat} {l : List Int} (h : Pix w g l) {i : Nat} (hi : i < l.length) : w.cell? ⟨g, i, none⟩ = some (.int .u32 l[i]) := by
  unfold Pix at h
  simp [World.cell?, h, u32s, hi]
theorem Pix.free {w : World} {g : Nat} {l : List Int} (h : Pix w g l) (i : Nat) : w.frozen? ⟨g, i, none⟩ = false := by
  unfold Pix at h
  simp [World.frozen?, h]
theorem Pix.same {w w1 : World} {g : Nat} {l : List Int} (h : Pix w g l) (hs : w1.heap[g]? = w.heap[g]?) : Pix w1 g l := hs.trans h
theorem Pix.later {w w1 : World} {g : Nat} {l : List Int} (h : Pix w g l) (hb : Below w.heap.size w w1) : Pix w1 g l := h.same (hb.block g h.lt)
theorem Pix.set {w : World} {g : Nat} {l : List Int} (h : Pix w g l) (i : Nat) (v : Int) : Pix (w.setCell ⟨g, i, none⟩ (.int .u32 v)) g (l.set i v) := by
  unfold Pix at h ⊢
  obtain ⟨hlt, hk⟩ := Array.getElem?_eq_some_iff.1 h
  show (w.heap.modify g _)[g]? = _
  rw [Array.getElem?_eq_getElem (by rw [Array.size_modify]; exact hlt), Array.getElem_modify_self, hk]
  simp [u32s, List.map_set]

/-- The numbers of n places from o on, turned. -/
def mapAt (f : Int → Int) (o n : Nat) (l : List Int) : List Int := l.mapIdx fun i v => if o ≤ i ∧ i < o + n then f v else v

theorem mapAt_len (f : Int → Int) (o n : Nat) (l : List Int) : (mapAt f o n l).length = l.length := by simp [mapAt]
theorem mapAt_zero (f : Int → Int) (o : Nat) (l : List Int) : mapAt f o 0 l = l := by
  refine List.ext_getElem (by simp [mapAt]) (fun i h1 h2 => ?_)
  simp only [mapAt, List.getElem_mapIdx]
  rw [if_neg (by omega)]
theorem mapAt_get (f : Int → Int) (o n : Nat) (l : List Int) (i : Nat) (h : i < l.length) : (mapAt f o n l)[i]'(by rw [mapAt_len]; exact h) = if o ≤ i ∧ i < o + n then f l[i] else l[i] := by
  simp only [mapAt, List.getElem_mapIdx]
theorem mapAt_succ (f : Int → Int) (o n : Nat) (l : List Int) (h : o + n < l.length) : (mapAt f o n l).set (o + n) (f l[o + n]) = mapAt f o (n + 1) l := by
  refine List.ext_getElem (by simp [mapAt]) (fun i h1 h2 => ?_)
  have hi : i < l.length := by simpa [mapAt] using h2
  rw [List.getElem_set, mapAt_get _ _ _ _ _ hi, mapAt_get _ _ _ _ _ hi]
  by_cases e : o + n = i
  · subst e
    rw [if_pos rfl, if_pos (by omega)]
  · rw [if_neg e]
    by_cases e2 : o ≤ i ∧ i < o + n
    · rw [if_pos e2, if_pos (by omega)]
    · rw [if_neg e2, if_neg (by omega)]

set_option maxHeartbeats 1000000 in
theorem pixRow_any (wd ht x y a hh k b off n cap : Nat) (W : World) (hcap : cap ≤ 9223372036854775807) (ha : 0 < a) (hfit : (y + k) * wd + x + a ≤ cap) (hw : wd ≤ 1048576) (hyk : y + k ≤ 1048576) :
    Makes Try.prog 93 #[IV wd ht (.slice (some ⟨b, off, none⟩) n cap), RV ⟨x, y, a, hh⟩, .int .i64 k] W (.slice (some ⟨b, off + ((y + k) * wd + x), none⟩) a a) := by
  unfold Makes
  obtain ⟨s, hs⟩ : ∃ s, y + k = s := ⟨_, rfl⟩
  obtain ⟨q, hq⟩ : ∃ q, s * wd = q := ⟨_, rfl⟩
  obtain ⟨F, hF⟩ : ∃ F, q + x = F := ⟨_, rfl⟩
  obtain ⟨E, hE⟩ : ∃ E, F + a = E := ⟨_, rfl⟩
  rw [hs, hq, hF] at hfit ⊢
  have hqb : q ≤ 1099511627776 := by rw [← hq]; exact Nat.mul_le_mul (show s ≤ 1048576 by omega) hw
  have h1 : IntKind.i64.wrap ((y : Int) + (k : Int)) = (s : Int) := by rw [← hs, Int.natCast_add]; exact IntWalk.i64_in _ (by omega)
  have h2 : IntKind.i64.wrap ((s : Int) * (wd : Int)) = (q : Int) := by rw [← hq, Int.natCast_mul]; exact IntWalk.i64_in _ (by rw [← Int.natCast_mul, hq]; omega)
  have h3 : IntKind.i64.wrap ((q : Int) + (x : Int)) = (F : Int) := by rw [← hF, Int.natCast_add]; exact IntWalk.i64_in _ (by omega)
  have h4 : IntKind.i64.wrap ((F : Int) + (a : Int)) = (E : Int) := by rw [← hE, Int.natCast_add]; exact IntWalk.i64_in _ (by omega)
  have hFE : F < E := by omega
  have hEc : E ≤ cap := by omega
  have HE := Lib.hid (show E - F = a by omega)
  clear hs hq hF hE hfit hqb
  go_enter Try.func93, Try.ntmps93
  go_wp2
  go_ret
  rw [HE.out]
  exact ⟨rfl, Below.al2 _ _ _⟩

set_option maxHeartbeats 400000 in
theorem pixRows_made (wd ht : Int) (sv : Value) (r : Rc) (w : World) : Calls Try.prog 82 #[IV wd ht sv, RV r] w fun e w' =>
    e = .returned (.func (.func 115) #[] #[.pointer (some ⟨w.heap.size + 1, 0, none⟩), .pointer (some ⟨w.heap.size, 0, none⟩)]) ∧ w' = (w.alloc (.cells #[.int .i64 wd, .int .i64 ht, sv] 39)).alloc (.cells #[.int .i64 r.x, .int .i64 r.y, .int .i64 r.a, .int .i64 r.b] 30) := by
  have hmf : ∀ (fn : Fn) (first cap : Array Value) (w : World), (Instr.makeFunc fn first cap).run Try.prog w = .ok (.func fn first cap) w := fun _ _ _ _ => rfl
  go_enter Try.func82, Try.ntmps82
  go_wp2
  go_ret
  exact ⟨rfl, rfl⟩

/-- What the iterator over rows hands over: how far down, and the row's pixels. -/
def ElRow (b off wd x y a : Nat) (_ _ : World) (_ : Nat → Prop) (k : Nat) (vs : Array Value) : Prop :=
  vs = #[.int .i64 k, .slice (some ⟨b, off + ((y + k) * wd + x), none⟩) a a]

theorem lt_of_R' {w W : World} {R : Nat → Prop} {q : Nat} (h : R q → q < w.heap.size) (hs : ∀ b, R b → W.heap[b]? = w.heap[b]?) (hq : R q) : q < W.heap.size := lt_of_same (h hq) (hs q hq)

theorem range_split {hh k : Nat} (h : k < hh) : ∃ rest, List.range hh = List.range k ++ k :: rest := by
  refine ⟨(List.range (hh - (k + 1))).map (k + 1 + ·), ?_⟩
  conv => lhs; rw [show hh = (k + 1) + (hh - (k + 1)) by omega, List.range_add]
  rw [List.range_succ]; simp

set_option maxHeartbeats 1000000 in
theorem pixRows_iter (Br Bm : Nat) (wd ht x y a hh b off n cap : Nat) (w : World) (R : Nat → Prop)
    (hBr : w.heap[Br]? = some (.cells #[.int .i64 (x : Nat), .int .i64 (y : Nat), .int .i64 (a : Nat), .int .i64 (hh : Nat)] 30)) (hBm : w.heap[Bm]? = some (.cells #[.int .i64 (wd : Nat), .int .i64 (ht : Nat), .slice (some ⟨b, off, none⟩) n cap] 39))
    (hcap : cap ≤ 9223372036854775807) (ha : 0 < hh → 0 < a) (hfit : ∀ k, k < hh → (y + k) * wd + x + a ≤ cap) (hw : wd ≤ 1048576) (hyk : y + hh ≤ 1048576) (hRlt : ∀ q, R q → q < w.heap.size) (hR1 : R Br) (hR2 : R Bm) :
    Iter Try.prog 115 #[.pointer (some ⟨Br, 0, none⟩), .pointer (some ⟨Bm, 0, none⟩)] (ElRow b off wd x y a) R (List.range hh) w := by
  intro l J Jx W hsz hRW hJ0 hY
  refine callsIn_wide.2 ?_
  have HY := Lib.hid hY
  have HRW := Lib.hid hRW
  have Hfit := Lib.hid hfit
  have rb3 : W.cell? ⟨Br, 3, none⟩ = some (.int .i64 (hh : Nat)) := by
    simp [World.cell?, hRW Br hR1, hBr]
  clear hY hRW hfit
  go_enter Try.func115, Try.ntmps115
  go_wp2
  go_loopw [7] (fun i wr => ∃ (k : Nat) (Wp : World), i = .int .i64 k ∧ k ≤ hh ∧ Hid (J (List.range k) (fun _ => False) Wp) ∧ Turns (fun _ => False) Wp wr ∧ Hid (∀ b, R b → wr.heap[b]? = w.heap[b]?)) (fun i _ => hh - (intOf i).toNat)
  case atStart => exact ⟨0, W, rfl, by omega, Lib.hid hJ0, Turns.refl _ _, HRW⟩
  case round =>
    obtain ⟨k, Wp, rfl, hk, HJ, ht', HR⟩ := hrel
    by_cases hlt : k < hh
    · have e1 := (HR.out Br hR1).trans hBr
      have e2 := (HR.out Bm hR2).trans hBm
      have r0 : wr.cell? ⟨Br, 0, none⟩ = some (.int .i64 (x : Nat)) := by simp [World.cell?, e1]
      have r1 : wr.cell? ⟨Br, 1, none⟩ = some (.int .i64 (y : Nat)) := by simp [World.cell?, e1]
      have r2 : wr.cell? ⟨Br, 2, none⟩ = some (.int .i64 (a : Nat)) := by simp [World.cell?, e1]
      have r3 : wr.cell? ⟨Br, 3, none⟩ = some (.int .i64 (hh : Nat)) := by simp [World.cell?, e1]
      have m0 : wr.cell? ⟨Bm, 0, none⟩ = some (.int .i64 (wd : Nat)) := by simp [World.cell?, e2]
      have m1 : wr.cell? ⟨Bm, 1, none⟩ = some (.int .i64 (ht : Nat)) := by simp [World.cell?, e2]
      have m2 : wr.cell? ⟨Bm, 2, none⟩ = some (.slice (some ⟨b, off, none⟩) n cap) := by simp [World.cell?, e2]
      have HR' := HR
      clear e1 e2 rb3
      go_upto_region 3 with (fail)
      refine (wpIn_wide (n := 0)).1 ?_
      gi_wp2
      refine ⟨trivial, rfl, (callsIn_wide.2 (pixRow_any wd ht x y a hh k b off n cap _ hcap (ha (by omega)) (Hfit.out k hlt) hw (by omega))).mono ?_⟩
      rintro e w1 ⟨rfl, hb1⟩
      have ht1 : Turns (fun _ => False) Wp w1 := ht'.trans (Turns.of_below' hb1)
      have HR1 : ∀ q, R q → w1.heap[q]? = w.heap[q]? := fun q hq => (hb1.block q (lt_of_R' (hRlt q) HR.out hq)).trans (HR.out q hq)
      obtain ⟨rest, hrest⟩ := range_split hlt
      obtain ⟨fn, tmps, assign, body, hy, hRd⟩ := HY.out (List.range k) k rest (fun _ => False) (fun _ => False) Wp w1 #[.int .i64 k, .slice (some ⟨b, off + ((y + k) * wd + x), none⟩) a a]
        hrest HJ.out ht1 (fun _ h => h.elim) (fun _ h => h.elim) HR1 rfl
      have Hrest := Lib.hid hrest
      have HR1' := Lib.hid HR1
      clear hb1 ht1 HR1 hrest r0 r1 r2 r3 m0 m1 m2
      gi_wp2
      refine ⟨rfl, hRd.mono ?_⟩
      rintro e W3 (⟨rfl, hJ3, hsz3, hk3⟩ | ⟨rfl, hJx3, -, -⟩)
      · have HR3 := Lib.hid (show ∀ q, R q → W3.heap[q]? = w.heap[q]? from fun q hq => (hk3 q (Or.inl hq)).trans (HR1'.out q hq))
        have HJ3 := Lib.hid (show J (List.range (k + 1)) (fun _ => False) W3 by rw [List.range_succ]; exact hJ3)
        clear hJ3 hk3
        gi_wp2
        go_wp2
        go_roundw
        case rel => exact ⟨k + 1, W3, by go_num, by omega, HJ3, Turns.refl _ _, HR3⟩
        case measure => simp [intOf]; omega
      · have HP : List.range k ++ [k] <+: List.range hh := ⟨rest, by rw [Hrest.out]; simp⟩
        gi_wp2
        go_wp2
        refine bodyPost_ret (results_none rfl _ _ _) rfl ?_
        exact ⟨⟨_, rfl⟩, .inr ⟨_, _, _, HP, hJx3, Turns.refl _ _⟩⟩
    · obtain rfl : k = hh := by omega
      go_wp2
      go_end0
      exact ⟨⟨_, rfl⟩, .inl ⟨_, _, HJ.out, ht'⟩⟩

end Go.Proofs.Ytpddkhhdleknnaa

/- pixbuf's turn, whole, blank, sized, isPicture. -/
namespace Go.Proofs.Ytpddkhhdleknnaa
open Go.RowKit

/-- A number cut to 24 bits. -/
def cut24 (v : Int) : Int := v % 16777216

theorem wraps_u32_32 (n : Int) (h₀ : 0 ≤ n) (h₁ : n < 2 ^ 32) : IntKind.u32.wrap n = n := by rw [IntKind.wrap_u32]; omega

theorem mask24 (v : Int) (hv : 0 ≤ v ∧ v < 4294967296) : bits .and .u32 v 16777215 = cut24 v := by
  have h := bits_mask .u32 32 (by decide) wraps_u32_32 24 (by decide) v (by omega) (by omega)
  have e : ((2 : Int) ^ 24 - 1) = 16777215 := by decide
  have e2 : ((2 : Int) ^ 24) = 16777216 := by decide
  rw [e, e2] at h
  exact h

set_option maxHeartbeats 400000 in
theorem layMask_any (v : Int) (w : World) (hv : 0 ≤ v ∧ v < 4294967296) : Calls Try.prog 117 #[.int .u32 v] w fun e w' => e = .returned (.int .u32 (cut24 v)) ∧ w' = w := by
  go_enter Try.func117, Try.ntmps117
  go_wp2
  go_ret
  exact ⟨by rw [← mask24 v hv]; rfl, rfl⟩

set_option maxHeartbeats 400000 in
theorem whole_any (wd ht : Int) (s : Value) (w : World) : Makes Try.prog 81 #[IV wd ht s] w (RV ⟨0, 0, wd, ht⟩) := by
  unfold Makes
  go_enter Try.func81, Try.ntmps81
  go_wp2
  exact bodyPost_ret (v := RV ⟨0, 0, wd, ht⟩) (results_rc Try.results81 rfl (Lies.new (n := w.heap.size + 1) (r := ⟨0, 0, wd, ht⟩) (w := w.alloc (.cells #[.int .i64 wd, .int .i64 ht, s] 39)) (by simp))) rfl ⟨rfl, Below.al2 _ _ _⟩

def sizedB (wd ht : Int) : Bool := decide ((1 ≤ wd ∧ wd ≤ 256) ∧ (1 ≤ ht ∧ ht ≤ 256))

set_option maxHeartbeats 400000 in
theorem sized_any (wd ht : Int) (w : World) : Calls Try.prog 90 #[.int .i64 wd, .int .i64 ht] w fun e w' => e = .returned (.bool (sizedB wd ht)) ∧ w' = w := by
  obtain ⟨B, hB⟩ : ∃ B, sizedB wd ht = B := ⟨_, rfl⟩
  have fin : B = true ↔ ((1 ≤ wd ∧ wd ≤ 256) ∧ (1 ≤ ht ∧ ht ≤ 256)) := by rw [← hB]; simp [sizedB]
  rw [hB]
  go_enter Try.func90, Try.ntmps90
  by_cases h1 : 1 ≤ wd
  · have d1 : decide (1 ≤ wd) = true := by simpa using h1
    by_cases h2 : wd ≤ 256
    · have d2 : decide (wd ≤ 256) = true := by simpa using h2
      by_cases h3 : 1 ≤ ht
      · have d3 : decide (1 ≤ ht) = true := by simpa using h3
        by_cases h4 : ht ≤ 256
        · have d4 : decide (ht ≤ 256) = true := by simpa using h4
          obtain rfl : B = true := fin.2 ⟨⟨h1, h2⟩, h3, h4⟩
          clear fin hB
          go_wp2
          go_ret
          exact ⟨rfl, rfl⟩
        · have d4 : decide (ht ≤ 256) = false := by simpa using h4
          obtain rfl : B = false := by cases B; rfl; exact absurd (fin.1 rfl).2.2 h4
          clear fin hB
          go_wp2
          go_ret
          exact ⟨rfl, rfl⟩
      · have d3 : decide (1 ≤ ht) = false := by simpa using h3
        obtain rfl : B = false := by cases B; rfl; exact absurd (fin.1 rfl).2.1 h3
        clear fin hB
        go_wp2
        go_ret
        exact ⟨rfl, rfl⟩
    · have d2 : decide (wd ≤ 256) = false := by simpa using h2
      obtain rfl : B = false := by cases B; rfl; exact absurd (fin.1 rfl).1.2 h2
      clear fin hB
      go_wp2
      go_ret
      exact ⟨rfl, rfl⟩
  · have d1 : decide (1 ≤ wd) = false := by simpa using h1
    obtain rfl : B = false := by cases B; rfl; exact absurd (fin.1 rfl).1.1 h1
    clear fin hB
    go_wp2
    go_ret
    exact ⟨rfl, rfl⟩

/-- Is it a picture? -/
def pictB (wd ht : Int) (n : Nat) : Bool := sizedB wd ht && decide ((n : Int) = wd * ht)

theorem sizedB_iff {wd ht : Int} : sizedB wd ht = true ↔ ((1 ≤ wd ∧ wd ≤ 256) ∧ (1 ≤ ht ∧ ht ≤ 256)) := by simp [sizedB]

set_option maxHeartbeats 1000000 in
theorem isPicture_any (wd ht : Int) (p : Option Addr) (n c : Nat) (w : World) : Makes Try.prog 79 #[IV wd ht (.slice p n c)] w (.bool (pictB wd ht n)) := by
  unfold Makes
  obtain ⟨B, hB⟩ : ∃ B, pictB wd ht n = B := ⟨_, rfl⟩
  rw [hB]
  go_enter Try.func79, Try.ntmps79
  go_wp2_with fail
  refine Calls.mono (sized_any _ _ _) ?_
  rintro e w1 ⟨rfl, rfl⟩
  cases hs : sizedB wd ht
  · obtain rfl : B = false := by rw [← hB, pictB, hs]; rfl
    have Hs := Lib.hid hs
    clear hs hB
    go_wp2
    go_ret
    exact ⟨rfl, Below.al1 _ _⟩
  · obtain ⟨⟨s1, s2⟩, s3, s4⟩ := sizedB_iff.1 hs
    have hm0 : 0 ≤ wd * ht := Int.mul_nonneg (by omega) (by omega)
    have hm1 : wd * ht ≤ 65536 := Int.le_trans (Int.mul_le_mul s2 s4 (by omega) (by omega)) (by decide)
    obtain ⟨q, hq⟩ : ∃ q, wd * ht = q := ⟨_, rfl⟩
    rw [hq] at hm0 hm1
    have hw : IntKind.i64.wrap (wd * ht) = q := by rw [hq]; exact IntWalk.i64_in _ (by omega)
    by_cases hz : (n : Int) = q
    · obtain rfl : B = true := by rw [← hB, pictB, hs, hq]; simpa using hz
      have hz' : ((n : Int) == q) = true := by simpa using hz
      have Hs := Lib.hid hs
      clear hs hB hq s1 s2 s3 s4 hz
      go_wp2
      go_ret
      exact ⟨rfl, Below.al1 _ _⟩
    · obtain rfl : B = false := by rw [← hB, pictB, hs, hq]; simpa using hz
      have hz' : ((n : Int) == q) = false := by simpa using hz
      have Hs := Lib.hid hs
      clear hs hB hq s1 s2 s3 s4 hz
      go_wp2
      go_ret
      exact ⟨rfl, Below.al1 _ _⟩

set_option maxHeartbeats 1000000 in
theorem turn0_any (gm : Nat) (f : Int → Int) (g o n cap : Nat) (L : List Int) (w : World) (hL : Pix w g L) (hfit : o + n ≤ L.length) (hlen : L.length ≤ 1048576) (hF : Enters Try.prog gm) (hg : ∀ v ∈ L, ∀ w1, Calls Try.prog gm #[.int .u32 v] w1 fun e w2 => e = .returned (.int .u32 (f v)) ∧ w2 = w1) :
    Calls Try.prog 84 #[.slice (some ⟨g, o, none⟩) n cap, .func (.func gm) #[] #[]] w fun e w' => e = .returned (.tuple #[]) ∧ Pix w' g (mapAt f o n L) ∧ Turns (fun b => b = g) w w' := by
  unfold Enters at hF
  have Hg := Lib.hid hg
  clear hg
  go_enter Try.func84, Try.ntmps84
  go_wp2
  go_loopw [8] (fun i wr => ∃ k : Nat, k ≤ n ∧ i = .int .i64 k ∧ Pix wr g (mapAt f o k L) ∧ Turns (fun b => b = g) w wr) (fun i _ => n - (intOf i).toNat)
  case atStart => exact ⟨0, by omega, rfl, by rw [mapAt_zero]; exact hL, Turns.refl _ _⟩
  case round =>
    obtain ⟨k, hk, rfl, hP, ht⟩ := hrel
    by_cases hlt : k < n
    · have hi : o + k < L.length := by omega
      have hget : (mapAt f o k L)[o + k]'(by rw [mapAt_len]; exact hi) = L[o + k] := by rw [mapAt_get _ _ _ _ _ hi, if_neg (by omega)]
      have c0 := hP.cell (i := o + k) (by rw [mapAt_len]; exact hi)
      rw [hget] at c0
      have f0 := hP.free (o + k)
      have Hn := Lib.hid (show Pix (wr.setCell ⟨g, o + k, none⟩ (.int .u32 (f L[o + k]))) g (mapAt f o (k + 1) L) from by
        rw [← mapAt_succ _ _ _ _ hi]; exact hP.set _ _)
      have Ht := Lib.hid (show Turns (fun b => b = g) w (wr.setCell ⟨g, o + k, none⟩ (.int .u32 (f L[o + k]))) from ht.set (p := ⟨g, o + k, none⟩) rfl _)
      have Hc := Lib.hid (Hg.out L[o + k] (List.getElem_mem hi))
      clear hget hP ht hL
      generalize L[o + k] = v at *
      go_wp2_with fail
      refine Calls.mono (Hc.out _) ?_
      rintro e w1 ⟨rfl, rfl⟩
      go_wp2
      go_roundw
      case rel => exact ⟨k + 1, by omega, by go_num, Hn.out, Ht.out⟩
      case measure => simp [intOf]; omega
    · obtain rfl : k = n := by omega
      go_wp2
      go_end0
      exact ⟨rfl, hP, ht⟩

end Go.Proofs.Ytpddkhhdleknnaa
