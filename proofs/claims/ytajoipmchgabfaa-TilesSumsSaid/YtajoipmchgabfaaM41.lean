/- Several texts in one, each with its own head. -/
import Derived.Test.YtajoipmchgabfaaM40
import Derived.Laws.BitsLemmas
/- pixbuf's turn, whole, blank, sized, isPicture. -/
namespace Go.Proofs.Ytajoipmchgabfaa
open Go.RowKit

/-- A number cut to 24 bits. -/
def cut24 (v : Int) : Int := v % 16777216

theorem wraps_u32_32 (n : Int) (h₀ : 0 ≤ n) (h₁ : n < 2 ^ 32) : IntKind.u32.wrap n = n := by rw [IntKind.wrap_u32]; omega

theorem mask24 (v : Int) (hv : 0 ≤ v ∧ v < 4294967296) : bits .and .u32 v 16777215 = cut24 v := by
  have h := bits_mask .u32 32 (by decide) wraps_u32_32 24 (by decide) v (by omega) (by omega)
  have e : ((2 : Int) ^ 24 - 1) = 16777215 := by decide
  have e2 : ((2 : Int) ^ 24) = 16777216 := by decide
  rw [e, e2] at h
  exact h

set_option maxHeartbeats 400000 in
theorem layMask_any (v : Int) (w : World) (hv : 0 ≤ v ∧ v < 4294967296) : Calls Try.prog 64 #[.int .u32 v] w fun e w' => e = .returned (.int .u32 (cut24 v)) ∧ w' = w := by
  go_enter Try.func64, Try.ntmps64
  go_wp2
  go_ret
  exact ⟨by rw [← mask24 v hv]; rfl, rfl⟩

set_option maxHeartbeats 400000 in
theorem whole_any (wd ht : Int) (s : Value) (w : World) : Makes Try.prog 31 #[IV wd ht s] w (RV ⟨0, 0, wd, ht⟩) := by
  unfold Makes
  go_enter Try.func31, Try.ntmps31
  go_wp2
  exact bodyPost_ret (v := RV ⟨0, 0, wd, ht⟩) (results_rc Try.results31 rfl (Lies.new (n := w.heap.size + 1) (r := ⟨0, 0, wd, ht⟩) (w := w.alloc (.cells #[.int .i64 wd, .int .i64 ht, s] 24)) (by simp))) rfl ⟨rfl, Below.al2 _ _ _⟩

def sizedB (wd ht : Int) : Bool := decide ((1 ≤ wd ∧ wd ≤ 256) ∧ (1 ≤ ht ∧ ht ≤ 256))

set_option maxHeartbeats 400000 in
theorem sized_any (wd ht : Int) (w : World) : Calls Try.prog 55 #[.int .i64 wd, .int .i64 ht] w fun e w' => e = .returned (.bool (sizedB wd ht)) ∧ w' = w := by
  obtain ⟨B, hB⟩ : ∃ B, sizedB wd ht = B := ⟨_, rfl⟩
  have fin : B = true ↔ ((1 ≤ wd ∧ wd ≤ 256) ∧ (1 ≤ ht ∧ ht ≤ 256)) := by rw [← hB]; simp [sizedB]
  rw [hB]
  go_enter Try.func55, Try.ntmps55
  by_cases h1 : 1 ≤ wd
  · have d1 : decide (1 ≤ wd) = true := by simpa using h1
    by_cases h2 : wd ≤ 256
    · have d2 : decide (wd ≤ 256) = true := by simpa using h2
      by_cases h3 : 1 ≤ ht
      · have d3 : decide (1 ≤ ht) = true := by simpa using h3
        by_cases h4 : ht ≤ 256
        · have d4 : decide (ht ≤ 256) = true := by simpa using h4
          obtain rfl : B = true := fin.2 ⟨⟨h1, h2⟩, h3, h4⟩
          clear fin hB
          go_wp2
          go_ret
          exact ⟨rfl, rfl⟩
        · have d4 : decide (ht ≤ 256) = false := by simpa using h4
          obtain rfl : B = false := by cases B; rfl; exact absurd (fin.1 rfl).2.2 h4
          clear fin hB
          go_wp2
          go_ret
          exact ⟨rfl, rfl⟩
      · have d3 : decide (1 ≤ ht) = false := by simpa using h3
        obtain rfl : B = false := by cases B; rfl; exact absurd (fin.1 rfl).2.1 h3
        clear fin hB
        go_wp2
        go_ret
        exact ⟨rfl, rfl⟩
    · have d2 : decide (wd ≤ 256) = false := by simpa using h2
      obtain rfl : B = false := by cases B; rfl; exact absurd (fin.1 rfl).1.2 h2
      clear fin hB
      go_wp2
      go_ret
      exact ⟨rfl, rfl⟩
  · have d1 : decide (1 ≤ wd) = false := by simpa using h1
    obtain rfl : B = false := by cases B; rfl; exact absurd (fin.1 rfl).1.1 h1
    clear fin hB
    go_wp2
    go_ret
    exact ⟨rfl, rfl⟩

/-- Is it a picture? -/
def pictB (wd ht : Int) (n : Nat) : Bool := sizedB wd ht && decide ((n : Int) = wd * ht)

theorem sizedB_iff {wd ht : Int} : sizedB wd ht = true ↔ ((1 ≤ wd ∧ wd ≤ 256) ∧ (1 ≤ ht ∧ ht ≤ 256)) := by simp [sizedB]

set_option maxHeartbeats 1000000 in
theorem isPicture_any (wd ht : Int) (p : Option Addr) (n c : Nat) (w : World) : Makes Try.prog 29 #[IV wd ht (.slice p n c)] w (.bool (pictB wd ht n)) := by
  unfold Makes
  obtain ⟨B, hB⟩ : ∃ B, pictB wd ht n = B := ⟨_, rfl⟩
  rw [hB]
  go_enter Try.func29, Try.ntmps29
  go_wp2_with fail
  refine Calls.mono (sized_any _ _ _) ?_
  rintro e w1 ⟨rfl, rfl⟩
  cases hs : sizedB wd ht
  · obtain rfl : B = false := by rw [← hB, pictB, hs]; rfl
    have Hs := Lib.hid hs
    clear hs hB
    go_wp2
    go_ret
    exact ⟨rfl, Below.al1 _ _⟩
  · obtain ⟨⟨s1, s2⟩, s3, s4⟩ := sizedB_iff.1 hs
    have hm0 : 0 ≤ wd * ht := Int.mul_nonneg (by omega) (by omega)
    have hm1 : wd * ht ≤ 65536 := Int.le_trans (Int.mul_le_mul s2 s4 (by omega) (by omega)) (by decide)
    obtain ⟨q, hq⟩ : ∃ q, wd * ht = q := ⟨_, rfl⟩
    rw [hq] at hm0 hm1
    have hw : IntKind.i64.wrap (wd * ht) = q := by rw [hq]; exact IntWalk.i64_in _ (by omega)
    by_cases hz : (n : Int) = q
    · obtain rfl : B = true := by rw [← hB, pictB, hs, hq]; simpa using hz
      have hz' : ((n : Int) == q) = true := by simpa using hz
      have Hs := Lib.hid hs
      clear hs hB hq s1 s2 s3 s4 hz
      go_wp2
      go_ret
      exact ⟨rfl, Below.al1 _ _⟩
    · obtain rfl : B = false := by rw [← hB, pictB, hs, hq]; simpa using hz
      have hz' : ((n : Int) == q) = false := by simpa using hz
      have Hs := Lib.hid hs
      clear hs hB hq s1 s2 s3 s4 hz
      go_wp2
      go_ret
      exact ⟨rfl, Below.al1 _ _⟩

set_option maxHeartbeats 1000000 in
theorem turn0_any (gm : Nat) (f : Int → Int) (g o n cap : Nat) (L : List Int) (w : World) (hL : Pix w g L) (hfit : o + n ≤ L.length) (hlen : L.length ≤ 1048576) (hF : Enters Try.prog gm) (hg : ∀ v ∈ L, ∀ w1, Calls Try.prog gm #[.int .u32 v] w1 fun e w2 => e = .returned (.int .u32 (f v)) ∧ w2 = w1) :
    Calls Try.prog 35 #[.slice (some ⟨g, o, none⟩) n cap, .func (.func gm) #[] #[]] w fun e w' => e = .returned (.tuple #[]) ∧ Pix w' g (mapAt f o n L) ∧ Turns (fun b => b = g) w w' := by
  unfold Enters at hF
  have Hg := Lib.hid hg
  clear hg
  go_enter Try.func35, Try.ntmps35
  go_wp2
  go_loopw [8] (fun i wr => ∃ k : Nat, k ≤ n ∧ i = .int .i64 k ∧ Pix wr g (mapAt f o k L) ∧ Turns (fun b => b = g) w wr) (fun i _ => n - (intOf i).toNat)
  case atStart => exact ⟨0, by omega, rfl, by rw [mapAt_zero]; exact hL, Turns.refl _ _⟩
  case round =>
    obtain ⟨k, hk, rfl, hP, ht⟩ := hrel
    by_cases hlt : k < n
    · have hi : o + k < L.length := by omega
      have hget : (mapAt f o k L)[o + k]'(by rw [mapAt_len]; exact hi) = L[o + k] := by rw [mapAt_get _ _ _ _ _ hi, if_neg (by omega)]
      have c0 := hP.cell (i := o + k) (by rw [mapAt_len]; exact hi)
      rw [hget] at c0
      have f0 := hP.free (o + k)
      have Hn := Lib.hid (show Pix (wr.setCell ⟨g, o + k, none⟩ (.int .u32 (f L[o + k]))) g (mapAt f o (k + 1) L) from by
        rw [← mapAt_succ _ _ _ _ hi]; exact hP.set _ _)
      have Ht := Lib.hid (show Turns (fun b => b = g) w (wr.setCell ⟨g, o + k, none⟩ (.int .u32 (f L[o + k]))) from ht.set (p := ⟨g, o + k, none⟩) rfl _)
      have Hc := Lib.hid (Hg.out L[o + k] (List.getElem_mem hi))
      clear hget hP ht hL
      generalize L[o + k] = v at *
      go_wp2_with fail
      refine Calls.mono (Hc.out _) ?_
      rintro e w1 ⟨rfl, rfl⟩
      go_wp2
      go_roundw
      case rel => exact ⟨k + 1, by omega, by go_num, Hn.out, Ht.out⟩
      case measure => simp [intOf]; omega
    · obtain rfl : k = n := by omega
      go_wp2
      go_end0
      exact ⟨rfl, hP, ht⟩

end Go.Proofs.Ytajoipmchgabfaa

/- pixbuf's blank and lay. -/
namespace Go.Proofs.Ytajoipmchgabfaa
open Go.RowKit

attribute [local go_sem] Oper.semAt_some

theorem u32_info : (Try.prog.info? 35).map (fun i => (i.zero, i.size, i.bytes)) = some (some (.int .u32 0), 1, 4) := by kernel_rfl

theorem made0 (n : Nat) : madeCells #[Value.int .u32 0] n = u32s (List.replicate n 0) := by
  refine Array.ext (by simp [u32s, size_madeCells]) (fun i h1 h2 => ?_)
  simp [madeCells, u32s, Nat.mod_one]

theorem make_u32 (n : Nat) (hn : n ≤ 1048576) (w : World) : (Instr.makeSlice 22 (.int .i64 (n : Int)) (.int .i64 (n : Int))).run Try.prog w = .ok (.slice (some ⟨w.heap.size, 0, none⟩) n n) (w.alloc (.cells (u32s (List.replicate n 0)) 35)) := by
  obtain ⟨i, hi, hz, hs, hb⟩ := info_parts u32_info
  have h := run_make (P := Try.prog) w 22 35 i _ Try.underlying22 hi hz .i64 .i64 (n : Int) (n : Int) (by omega) (Int.le_refl _) (by rw [hb]; omega) (by omega)
  rw [h]
  simp only [Int.toNat_natCast, hs, Nat.mul_one]
  rw [show (Value.int IntKind.u32 0).cells = #[Value.int .u32 0] from rfl, made0]

/-- A picture, read out of its three cells. -/
theorem results_iv {fn : Func} {p : Tmp} {tmps : Array Value} {w : World} {B : Nat} {wd ht : Int} {sv : Value} (h : fn.results = #[.cell p 24]) (hp : tmps.getD p undef = .pointer (some ⟨B, 0, none⟩)) (hl : w.heap[B]? = some (.cells #[.int .i64 wd, .int .i64 ht, sv] 24)) :
    (results fn tmps).run Try.prog w = .ok (IV wd ht sv) w := by
  have hp' : tmps[p]?.getD undef = .pointer (some ⟨B, 0, none⟩) := by simpa using hp
  have c0 : w.cell? ⟨B, 0, none⟩ = some (.int .i64 wd) := by simp [World.cell?, hl]
  have c1 : w.cell? ⟨B, 1, none⟩ = some (.int .i64 ht) := by simp [World.cell?, hl]
  have c2 : w.cell? ⟨B, 2, none⟩ = some sv := by simp [World.cell?, hl]
  simp [results, h, hp', go_sem, c0, c1, c2]

set_option maxHeartbeats 1000000 in
theorem blank_any (wd ht n : Nat) (w : World) (hn : wd * ht = n) (hle : n ≤ 1048576) :
    Calls Try.prog 56 #[.int .i64 wd, .int .i64 ht] w fun e w' => ∃ g, e = .returned (IV wd ht (.slice (some ⟨g, 0, none⟩) n n)) ∧ w.heap.size ≤ g ∧ Pix w' g (List.replicate n 0) ∧ Below w.heap.size w w' := by
  have hmk := make_u32 n hle
  have hw : IntKind.i64.wrap ((wd : Int) * (ht : Int)) = (n : Int) := by rw [← Int.natCast_mul, hn]; exact IntWalk.i64_in _ (by omega)
  clear hn
  go_enter Try.func56, Try.ntmps56
  go_wp2
  have hg := heap_pushed [.cells #[.int .i64 (wd : Int), .int .i64 (ht : Int), .slice (some ⟨w.heap.size + 1, 0, none⟩) n n] 24, .cells (u32s (List.replicate n 0)) 35] w
  simp only [List.foldl_cons, List.foldl_nil] at hg
  exact bodyPost_ret (v := IV wd ht (.slice (some ⟨w.heap.size + 1, 0, none⟩) n n)) (results_iv (B := w.heap.size) Try.results56 rfl ((hg 0 _).2 rfl)) rfl ⟨_, rfl, by omega, (hg 1 _).2 rfl, Below.al2 _ _ _⟩

/-- A row of numbers laid over another one, from a place on. -/
theorem u32s_splice (L cs : List Int) (o : Nat) : ((u32s L).toList.take o ++ cs.map (Value.int .u32) ++ (u32s L).toList.drop (o + (cs.map (Value.int .u32)).length)).toArray = u32s (splice L o cs) := by
  simp [u32s, splice, List.map_append, List.map_take, List.map_drop]

theorem wpListIn_copy_pix {F : Fence} {n : Nat} {P : Program} (w : World) {ops : Array Oper} {rest : List Oper} {o : Oper} {a : Act} {Q : Exit → Act → World → Prop}
    (hg : o.guard = none) (s x : Operand) (t : TypeId) (hop : o.op = Op.call { callee := Callee.builtin Builtin.copy, args := #[s, x], argTypes := #[t, t] })
    (e : TypeId) (h1 : P.underlying t = some (.slice e)) (h2 : (P.info? e).map (·.size) = some 1) (g off dLen dCap : Nat) (ad : Addr) (sLen sCap : Nat) (hs : a.eval s = .slice (some ⟨g, off, none⟩) dLen dCap) (hx : a.eval x = .slice (some ad) sLen sCap)
    (L cs : List Int) (t' : TypeId) (hL : w.heap[g]? = some (.cells (u32s L) t')) (hn : cs.length = Nat.min sLen dLen) (hsrc : ∀ j v, cs[j]? = some v → w.cell? (ad.add j) = some (.int .u32 v)) (hfit : off + cs.length ≤ L.length)
    (hK : ∀ w', w'.heap[g]? = some (.cells (u32s (splice L off cs)) t') → Turns (fun b => b = g) w w' → wpListIn F n P ops Q rest (a.put o.dst (goInt cs.length)) w') :
    wpListIn F n P ops Q (o :: rest) a w := by
  refine wpListIn_plain hg fun K hK' => ?_
  have hrun := run_copy_row (P := P) w t t o.type e g off dLen dCap ad sLen sCap (u32s L) t' (cs.map (Value.int .u32)) h1 h2 hL (by simpa using hn) (fun j v hj => by
    rw [List.getElem?_map] at hj
    cases hc : cs[j]? with
    | none => rw [hc] at hj; cases hj
    | some q => rw [hc] at hj; cases hj; exact hsrc j q hc) (by simpa [u32s] using hfit) (by intro v hv; obtain ⟨q, _, rfl⟩ := List.mem_map.1 hv; rfl)
  rw [u32s_splice, List.length_map] at hrun
  unfold Oper.wpIn
  refine ⟨?_, ?_⟩
  · simp [Oper.about, hop, resolve, Target.leads, Sem.run_pure]
  · rw [Oper.semAt_plain F _ _ (by rw [hop]; intro c hc'; cases hc')]
    simp [execOp, hop, resolve, invoke, builtin, hs, hx, hrun, Result.andThen]
    refine hK' _ _ (hK _ (setRow_heap w g _ _ t' _ hL) ⟨rfl, rfl, rfl, by simp [World.setRow], fun k _ hk => setRow_other w g k _ hk⟩)

theorem splice_len {L cs : List Int} {o : Nat} (h : o + cs.length ≤ L.length) : (splice L o cs).length = L.length := length_splice L o cs h

/-- One row more laid. -/
def layStep (tw ax ay aw fw px py : Nat) (S : List Int) (L : List Int) (k : Nat) : List Int := mapAt cut24 ((ay + k) * tw + ax) aw (splice L ((ay + k) * tw + ax) ((S.drop ((py + k) * fw + px)).take aw))
/-- The picture behind lay. -/
def layL (tw ax ay aw fw px py : Nat) (S L : List Int) (n : Nat) : List Int := (List.range n).foldl (layStep tw ax ay aw fw px py S) L

theorem layL_succ (tw ax ay aw fw px py : Nat) (S L : List Int) (n : Nat) : layL tw ax ay aw fw px py S L (n + 1) = layStep tw ax ay aw fw px py S (layL tw ax ay aw fw px py S L n) n := by
  simp [layL, List.range_succ]

/-- Numbers of 32 bits. -/
def U32 (l : List Int) : Prop := ∀ v ∈ l, 0 ≤ v ∧ v < 4294967296

theorem U32.splice {L cs : List Int} (h : U32 L) (hc : U32 cs) (o : Nat) : U32 (splice L o cs) := by
  intro v hv
  simp only [Go.splice, List.mem_append] at hv
  rcases hv with hv | hv | hv
  · exact h v (List.mem_of_mem_take hv)
  · exact hc v hv
  · exact h v (List.mem_of_mem_drop hv)
theorem U32.mapAt {L : List Int} (h : U32 L) (o n : Nat) : U32 (mapAt cut24 o n L) := by
  intro v hv
  obtain ⟨i, hi, rfl⟩ := List.getElem_of_mem hv
  have hi' : i < L.length := by rwa [mapAt_len] at hi
  rw [mapAt_get _ _ _ _ _ hi']
  have := h L[i] (List.getElem_mem hi')
  split
  · unfold cut24; omega
  · exact this

theorem seg_len {S : List Int} {F aw : Nat} (h : F + aw ≤ S.length) : ((S.drop F).take aw).length = aw := by
  rw [List.length_take, List.length_drop]; omega
theorem seg_U32 {S : List Int} (h : U32 S) (F aw : Nat) : U32 ((S.drop F).take aw) := fun v hv => h v (List.mem_of_mem_drop (List.mem_of_mem_take hv))

theorem layL_ok (tw ax ay aw fw px py : Nat) (S L : List Int) (hS : U32 S) (hL : U32 L) : ∀ n, (∀ k, k < n → (ay + k) * tw + ax + aw ≤ L.length ∧ (py + k) * fw + px + aw ≤ S.length) → (layL tw ax ay aw fw px py S L n).length = L.length ∧ U32 (layL tw ax ay aw fw px py S L n)
  | 0, _ => ⟨rfl, hL⟩
  | n + 1, h => by
    obtain ⟨h1, h2⟩ := layL_ok tw ax ay aw fw px py S L hS hL n (fun k hk => h k (by omega))
    have hn := h n (by omega)
    have hsl := seg_len (S := S) (F := (py + n) * fw + px) (aw := aw) (by omega)
    rw [layL_succ, layStep]
    refine ⟨?_, (h2.splice (seg_U32 hS _ _) _).mapAt _ _⟩
    rw [mapAt_len, splice_len (by rw [hsl, h1]; omega), h1]

end Go.Proofs.Ytajoipmchgabfaa
