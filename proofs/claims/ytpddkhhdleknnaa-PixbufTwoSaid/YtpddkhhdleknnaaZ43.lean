/- pixbuf's New, the document's New and Is; what Diff and Same tell of no buffer, and of unlike sizes. -/
import Derived.Test.YtpddkhhdleknnaaZ15
import Derived.Handy
namespace Go.Proofs.Ytpddkhhdleknnaa
open Go.RowKit

theorem new_no (wd ht : Int) (w : World) (h : sizedB wd ht = false) : Makes Try.prog 46 #[.int .i64 wd, .int .i64 ht] w (.tuple #[.pointer none, .int .i64 1]) := by
  unfold Makes
  have hs := fun w => sized_any wd ht w
  rw [h] at hs
  have Hs := Lib.hid hs
  clear hs h
  go_enter Try.func46, Try.ntmps46
  go_wp2_with fail
  refine Calls.mono (Hs.out _) ?_
  rintro e w1 ⟨rfl, rfl⟩
  go_wp2
  go_ret2
  exact ⟨rfl, Below.refl _ _⟩

theorem U24_zeros (n : Nat) : U24 (List.replicate n 0) := U24.zeros n

set_option maxHeartbeats 1000000 in
theorem new_yes (wd ht : Nat) (w : World) (h1 : 1 ≤ wd ∧ wd ≤ 256) (h2 : 1 ≤ ht ∧ ht ≤ 256) :
    Calls Try.prog 46 #[.int .i64 (wd : Int), .int .i64 (ht : Int)] w fun e w' => ∃ B g, e = .returned (.tuple #[.pointer (some ⟨B, 0, none⟩), .int .i64 0]) ∧ BufAt w' B wd ht g (List.replicate (wd * ht) 0) ∧ w.heap.size ≤ B ∧ w.heap.size ≤ g ∧ Below w.heap.size w w' := by
  have hs := fun w => sized_any wd ht w
  rw [sizedB_iff.2 ⟨⟨by omega, by omega⟩, ⟨by omega, by omega⟩⟩] at hs
  have Hs := Lib.hid hs
  have hm : wd * ht ≤ 65536 := Nat.mul_le_mul h1.2 h2.2
  obtain ⟨n, hn⟩ : ∃ n, wd * ht = n := ⟨_, rfl⟩
  rw [hn] at hm ⊢
  have Hbl := Lib.hid (fun w => blank_any wd ht n w hn (by omega))
  have Hn := Lib.hid hn
  clear hs hn
  go_enter Try.func46, Try.ntmps46
  go_wp2_with fail
  refine Calls.mono (Hs.out _) ?_
  rintro e w1 ⟨rfl, rfl⟩
  go_wp2_with fail
  refine Calls.mono (Hbl.out _) ?_
  rintro e w3 ⟨g, rfl, hg, hP, hb3⟩
  have hg3 : g < w3.heap.size := hP.lt
  have HP := Lib.hid hP
  have Hb3 := Lib.hid hb3
  clear hP hb3
  go_wp2
  go_ret2
  have hal := Below.al1 w3 (.cells #[.int .i64 (wd : Int), .int .i64 (ht : Int), .slice (some ⟨g, 0, none⟩) n n] 99)
  have hcl : (List.replicate n (0 : Int)).length = n := by simp
  refine ⟨w3.heap.size, g, rfl, ⟨?_, HP.out.later hal, by rw [hcl]; exact Hn.out, h1, h2, U24.zeros n⟩, Hb3.out.size, hg, Hb3.out.trans (hal.mono Hb3.out.size)⟩
  rw [hcl]
  exact World.alloc_heap_new _ _

set_option maxRecDepth 100000 in
set_option maxHeartbeats 2000000 in
theorem refNew_no (wd ht : Int) (w : World) (hs : sizedB wd ht = false) : Makes Try.prog 47 #[.int .i64 wd, .int .i64 ht] w (.tuple #[IV 0 0 (.slice none 0 0), .int .i64 1]) := by
  unfold Makes
  have Hal := Lib.hid (Below.al1 w (.cells #[.int .i64 0, .int .i64 0, .slice none 0 0] 39))
  have Hi := Lib.hid (show Im3 (w.alloc (.cells #[.int .i64 0, .int .i64 0, .slice none 0 0] 39)) w.heap.size 0 0 (.slice none 0 0) from Im3.new rfl)
  have hcase : wd < 1 ∨ 256 < wd ∨ ht < 1 ∨ 256 < ht := by
    have : ¬ ((1 ≤ wd ∧ wd ≤ 256) ∧ (1 ≤ ht ∧ ht ≤ 256)) := fun h => by rw [sizedB_iff.2 h] at hs; cases hs
    omega
  clear hs
  by_cases c1 : wd < 1
  · have d1 : decide (wd < 1) = true := by simpa using c1
    clear hcase
    go_enter Try.func47, Try.ntmps47
    go_wp2
    exact bodyPost_ret (v := .tuple #[IV 0 0 (.slice none 0 0), .int .i64 1]) (results_iv2 (B := w.heap.size) Try.results47 rfl rfl Hi.out) rfl ⟨rfl, Hal.out⟩
  · have d1 : decide (wd < 1) = false := by simpa using c1
    by_cases c2 : 256 < wd
    · have d2 : decide (256 < wd) = true := by simpa using c2
      clear hcase
      go_enter Try.func47, Try.ntmps47
      go_wp2
      exact bodyPost_ret (v := .tuple #[IV 0 0 (.slice none 0 0), .int .i64 1]) (results_iv2 (B := w.heap.size) Try.results47 rfl rfl Hi.out) rfl ⟨rfl, Hal.out⟩
    · have d2 : decide (256 < wd) = false := by simpa using c2
      by_cases c3 : ht < 1
      · have d3 : decide (ht < 1) = true := by simpa using c3
        clear hcase
        go_enter Try.func47, Try.ntmps47
        go_wp2
        exact bodyPost_ret (v := .tuple #[IV 0 0 (.slice none 0 0), .int .i64 1]) (results_iv2 (B := w.heap.size) Try.results47 rfl rfl Hi.out) rfl ⟨rfl, Hal.out⟩
      · have d3 : decide (ht < 1) = false := by simpa using c3
        have d4 : decide (256 < ht) = true := by simp; omega
        clear hcase
        go_enter Try.func47, Try.ntmps47
        go_wp2
        exact bodyPost_ret (v := .tuple #[IV 0 0 (.slice none 0 0), .int .i64 1]) (results_iv2 (B := w.heap.size) Try.results47 rfl rfl Hi.out) rfl ⟨rfl, Hal.out⟩

set_option maxRecDepth 100000 in
set_option maxHeartbeats 2000000 in
theorem refNew_yes (a b : Nat) (w : World) (h1 : 1 ≤ a ∧ a ≤ 256) (h2 : 1 ≤ b ∧ b ≤ 256) :
    Calls Try.prog 47 #[.int .i64 (a : Int), .int .i64 (b : Int)] w fun e w' => ∃ g, e = .returned (.tuple #[IV a b (.slice (some ⟨g, 0, none⟩) (a * b) (a * b)), .int .i64 0]) ∧ Pix w' g (List.replicate (a * b) 0) ∧ Below w.heap.size w w' := by
  obtain ⟨n, hn⟩ : ∃ n, a * b = n := ⟨_, rfl⟩
  have hnm : n ≤ 65536 := by rw [← hn]; exact Nat.mul_le_mul h1.2 h2.2
  have hw1 : IntKind.i64.wrap ((a : Int) * (b : Int)) = (n : Int) := by rw [← Int.natCast_mul, hn]; exact IntWalk.i64_in _ (by omega)
  rw [hn]
  have d1 : decide ((a : Int) < 1) = false := by simp; omega
  have d2 : decide ((256 : Int) < (a : Int)) = false := by simp; omega
  have d3 : decide ((b : Int) < 1) = false := by simp; omega
  have d4 : decide ((256 : Int) < (b : Int)) = false := by simp; omega
  have hmk := make_u32 n (by omega)
  have hal2 := Below.al2 w (.cells #[.int .i64 (a : Int), .int .i64 (b : Int), .slice (some ⟨w.heap.size + 1, 0, none⟩) n n] 39) (.cells (u32s (List.replicate n 0)) 49)
  have i2 : Im3 ((w.alloc (.cells #[.int .i64 (a : Int), .int .i64 (b : Int), .slice (some ⟨w.heap.size + 1, 0, none⟩) n n] 39)).alloc (.cells (u32s (List.replicate n 0)) 49)) w.heap.size a b (.slice (some ⟨w.heap.size + 1, 0, none⟩) n n) := (Im3.new rfl).later (Below.al1 _ _)
  have hP : Pix ((w.alloc (.cells #[.int .i64 (a : Int), .int .i64 (b : Int), .slice (some ⟨w.heap.size + 1, 0, none⟩) n n] 39)).alloc (.cells (u32s (List.replicate n 0)) 49)) (w.heap.size + 1) (List.replicate n 0) := by
    have := World.alloc_heap_new (w.alloc (.cells #[.int .i64 (a : Int), .int .i64 (b : Int), .slice (some ⟨w.heap.size + 1, 0, none⟩) n n] 39)) (.cells (u32s (List.replicate n 0)) 49)
    rwa [World.size_alloc] at this
  have Hi := Lib.hid i2
  have HP := Lib.hid hP
  have Hal := Lib.hid hal2
  clear hn hal2 i2 hP
  go_enter Try.func47, Try.ntmps47
  go_wp2
  exact bodyPost_ret (v := .tuple #[IV a b (.slice (some ⟨w.heap.size + 1, 0, none⟩) n n), .int .i64 0]) (results_iv2 (B := w.heap.size) Try.results47 rfl rfl Hi.out) rfl ⟨_, rfl, HP.out, Hal.out⟩

set_option maxHeartbeats 2000000 in
theorem refIs_any (wd ht : Int) (p : Option Addr) (n c : Nat) (w : World) : Makes Try.prog 29 #[IV wd ht (.slice p n c)] w (.bool (pictB wd ht n)) := by
  unfold Makes
  obtain ⟨Bv, hB⟩ : ∃ Bv, pictB wd ht n = Bv := ⟨_, rfl⟩
  rw [hB]
  have HB := Lib.hid hB
  clear hB
  by_cases c1 : 1 ≤ wd
  · by_cases c2 : wd ≤ 256
    · by_cases c3 : 1 ≤ ht
      · by_cases c4 : ht ≤ 256
        · have hs : sizedB wd ht = true := sizedB_iff.2 ⟨⟨c1, c2⟩, c3, c4⟩
          have hm0 : 0 ≤ wd * ht := Int.mul_nonneg (by omega) (by omega)
          have hm1 : wd * ht ≤ 65536 := Int.le_trans (Int.mul_le_mul c2 c4 (by omega) (by omega)) (by decide)
          obtain ⟨q, hq⟩ : ∃ q, wd * ht = q := ⟨_, rfl⟩
          rw [hq] at hm0 hm1
          have hw : IntKind.i64.wrap (wd * ht) = q := by rw [hq]; exact IntWalk.i64_in _ (by omega)
          have hz : ((n : Int) == q) = Bv := by rw [← HB.out, pictB, hs, hq, Bool.true_and, Bool.eq_iff_iff]; simp
          have d1 : decide (1 ≤ wd) = true := by simpa using c1
          have d2 : decide (wd ≤ 256) = true := by simpa using c2
          have d3 : decide (1 ≤ ht) = true := by simpa using c3
          have d4 : decide (ht ≤ 256) = true := by simpa using c4
          clear hs hq hm0 hm1 c1 c2 c3 c4
          go_enter Try.func29, Try.ntmps29
          go_wp2
          go_ret
          exact ⟨rfl, Below.al1 _ _⟩
        · have hf : Bv = false := by rw [← HB.out, pictB]; have : sizedB wd ht = false := by (cases h : sizedB wd ht; rfl; exact absurd (sizedB_iff.1 h).2.2 c4)
                                     rw [this]; rfl
          subst hf
          have d1 : decide (1 ≤ wd) = true := by simpa using c1
          have d2 : decide (wd ≤ 256) = true := by simpa using c2
          have d3 : decide (1 ≤ ht) = true := by simpa using c3
          have d4 : decide (ht ≤ 256) = false := by simpa using c4
          go_enter Try.func29, Try.ntmps29
          go_wp2
          go_ret
          exact ⟨rfl, Below.al1 _ _⟩
      · have hf : Bv = false := by rw [← HB.out, pictB]; have : sizedB wd ht = false := by (cases h : sizedB wd ht; rfl; exact absurd (sizedB_iff.1 h).2.1 c3)
                                   rw [this]; rfl
        subst hf
        have d1 : decide (1 ≤ wd) = true := by simpa using c1
        have d2 : decide (wd ≤ 256) = true := by simpa using c2
        have d3 : decide (1 ≤ ht) = false := by simpa using c3
        go_enter Try.func29, Try.ntmps29
        go_wp2
        go_ret
        exact ⟨rfl, Below.al1 _ _⟩
    · have hf : Bv = false := by rw [← HB.out, pictB]; have : sizedB wd ht = false := by (cases h : sizedB wd ht; rfl; exact absurd (sizedB_iff.1 h).1.2 c2)
                                 rw [this]; rfl
      subst hf
      have d1 : decide (1 ≤ wd) = true := by simpa using c1
      have d2 : decide (wd ≤ 256) = false := by simpa using c2
      go_enter Try.func29, Try.ntmps29
      go_wp2
      go_ret
      exact ⟨rfl, Below.al1 _ _⟩
  · have hf : Bv = false := by rw [← HB.out, pictB]; have : sizedB wd ht = false := by (cases h : sizedB wd ht; rfl; exact absurd (sizedB_iff.1 h).1.1 c1)
                               rw [this]; rfl
    subst hf
    have d1 : decide (1 ≤ wd) = false := by simpa using c1
    go_enter Try.func29, Try.ntmps29
    go_wp2
    go_ret
    exact ⟨rfl, Below.al1 _ _⟩

/-- A buffer or none. -/
abbrev ptrV (b : Option Nat) : Value := .pointer (b.map fun B => ⟨B, 0, none⟩)

set_option maxRecDepth 100000 in
theorem diff_nil1 (v : Option Nat) (w : World) : Makes Try.prog 48 #[.pointer none, ptrV v] w (.tuple #[.slice none 0 0, .int .i64 8]) := by
  unfold Makes
  go_enter Try.func48, Try.ntmps48
  go_wp2
  go_returns
  exact ⟨rfl, by go_grown⟩
set_option maxRecDepth 100000 in
theorem diff_nil2 (B : Nat) (w : World) : Makes Try.prog 48 #[.pointer (some ⟨B, 0, none⟩), .pointer none] w (.tuple #[.slice none 0 0, .int .i64 8]) := by
  unfold Makes
  go_enter Try.func48, Try.ntmps48
  go_wp2
  go_returns
  exact ⟨rfl, by go_grown⟩
set_option maxRecDepth 100000 in
theorem same_nil1 (B : Nat) (w : World) : Makes Try.prog 49 #[.pointer none, .pointer (some ⟨B, 0, none⟩)] w (.bool false) := by
  unfold Makes
  have he : ∀ w, (Sem.run Try.prog (binOp BinOp.eql 42 (.pointer none) (.pointer (some ⟨B, 0, none⟩))) w) = .ok (.bool false) w := fun w => rfl
  go_enter Try.func49, Try.ntmps49
  go_wp2
  go_ret
  exact ⟨rfl, Below.refl _ _⟩
set_option maxRecDepth 100000 in
theorem same_nil2 (B : Nat) (w : World) : Makes Try.prog 49 #[.pointer (some ⟨B, 0, none⟩), .pointer none] w (.bool false) := by
  unfold Makes
  go_enter Try.func49, Try.ntmps49
  go_wp2
  go_ret
  exact ⟨rfl, Below.refl _ _⟩
set_option maxRecDepth 100000 in
theorem same_nil3 (w : World) : Makes Try.prog 49 #[.pointer none, .pointer none] w (.bool true) := by
  unfold Makes
  go_enter Try.func49, Try.ntmps49
  go_wp2
  go_ret
  exact ⟨rfl, Below.refl _ _⟩

set_option maxRecDepth 100000 in
set_option maxHeartbeats 1000000 in
theorem diff_size (B wd ht g B' wd' ht' g' : Nat) (L M : List Int) (w : World) (h : BufAt w B wd ht g L) (h' : BufAt w B' wd' ht' g' M) (hne : eqR ⟨0, 0, (wd : Int), (ht : Int)⟩ ⟨0, 0, (wd' : Int), (ht' : Int)⟩ = false) :
    Makes Try.prog 48 #[.pointer (some ⟨B, 0, none⟩), .pointer (some ⟨B', 0, none⟩)] w (.tuple #[.slice none 0 0, .int .i64 1]) := by
  unfold Makes
  have hal := Below.al1 w (.cells #[.pointer (some ⟨B', 0, none⟩)] 42)
  have H0 := Lib.hid (h.later hal)
  have H0' := Lib.hid (h'.later hal)
  have Hal := Lib.hid hal
  have Hne := Lib.hid hne
  clear h h' hal hne
  go_enter Try.func48, Try.ntmps48
  go_wp2_with fail
  refine Calls.mono (sized_eq B wd ht g B' wd' ht' g' L M _ H0.out H0'.out Hne.out) ?_
  rintro e w1 ⟨rfl, hb1⟩
  have Hb1 := Lib.hid (Below.thn Hal.out hb1)
  clear hb1
  go_wp2
  go_returns
  exact ⟨rfl, Hb1.out⟩

set_option maxRecDepth 100000 in
set_option maxHeartbeats 1000000 in
theorem same_size (B wd ht g B' wd' ht' g' : Nat) (L M : List Int) (w : World) (h : BufAt w B wd ht g L) (h' : BufAt w B' wd' ht' g' M) (hne : eqR ⟨0, 0, (wd : Int), (ht : Int)⟩ ⟨0, 0, (wd' : Int), (ht' : Int)⟩ = false) :
    Makes Try.prog 49 #[.pointer (some ⟨B, 0, none⟩), .pointer (some ⟨B', 0, none⟩)] w (.bool false) := by
  unfold Makes
  have Hh := Lib.hid h
  have Hh' := Lib.hid h'
  have Hne := Lib.hid hne
  have hq := After.ne w
  clear h h' hne
  go_enter Try.func49, Try.ntmps49
  go_upto_region 3 with (fail)
  refine wp_region_after (by kernel_rfl) (by kernel_rfl) ?_
  repeat (go_big_quiet_step ((go_at_call 92; exact Makes.after (sized_eq B wd ht g B' wd' ht' g' L M _ (Hh.out.later (After.below _)) (Hh'.out.later (After.below _)) Hne.out))))
  refine wpQuiet_nil ?_
  rintro _ ⟨nq, rfl⟩
  have Hn := Lib.hid nq.below
  go_wp2
  go_ret
  exact ⟨rfl, Hn.out⟩

end Go.Proofs.Ytpddkhhdleknnaa
