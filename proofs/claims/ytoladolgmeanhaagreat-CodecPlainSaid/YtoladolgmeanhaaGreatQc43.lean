/- Several texts in one, each with its own head. -/
import Derived.Test.YtoladolgmeanhaaGreatQc39
import Derived.Test.YtoladolgmeanhaaGreatQc16
import Derived.Test.YtoladolgmeanhaaGreatQc42
/- codec: fits, ways. -/
namespace Go.Proofs.YtoladolgmeanhaaGreat
open Go.RowKit

attribute [local go_sem] Oper.semAt_some

def wysL : List Value := [.func (.func 32) #[] #[], .func (.func 33) #[] #[], .func (.func 34) #[] #[], .func (.func 35) #[] #[], .func (.func 36) #[] #[], .func (.func 37) #[] #[], .func (.func 38) #[] #[], .func (.func 39) #[] #[]]
set_option maxRecDepth 20000 in
theorem cfits_any (a b : Int) (w : World) : Calls Tryz.prog 20 #[.int .i64 a, .int .i64 b] w fun e w' => e = .returned (.bool (decide (1 ≤ a ∧ 1 ≤ b ∧ a ≤ 256 ∧ b ≤ 256))) ∧ w' = w := by
  have hmin := fun w => min_R #[3, 3] 3 .i64 .i64 a b w
  have hmax : ∀ w : World, (Builtin.max_ #[3, 3] 3 #[.int .i64 a, .int .i64 b]).run Tryz.prog w = .ok (.int .i64 (max a b)) w := fun w => by
    rw [run_max_int2]; congr 2; split <;> omega
  obtain ⟨x, hx⟩ : ∃ x, min a b = x := ⟨_, rfl⟩
  obtain ⟨y, hy⟩ : ∃ y, max a b = y := ⟨_, rfl⟩
  rw [hx] at hmin
  rw [hy] at hmax
  have e : (decide (1 ≤ a ∧ 1 ≤ b ∧ a ≤ 256 ∧ b ≤ 256)) = (decide (x ≥ 1) && decide (y ≤ 256)) := by
    rw [← Bool.decide_and]
    congr 1
    apply propext
    omega
  rw [e]
  clear e hx hy
  go_enter Tryz.func20, Tryz.ntmps20
  obtain ⟨p, hp⟩ : ∃ p, decide (x ≥ 1) = p := ⟨_, rfl⟩
  cases p
  · go_wp2
    go_ret
    exact ⟨by rw [hp]; rfl, rfl⟩
  · go_wp2
    go_ret
    exact ⟨by rw [hp]; simp, rfl⟩
theorem results_ways {fn : Func} {p : Tmp} {tmps : Array Value} {w : World} {B : Nat} (h : fn.results = #[.cell p 47]) (hp : tmps.getD p undef = .pointer (some ⟨B, 0, none⟩)) (hc : ∀ i u, wysL[i]? = some u → w.cell? ⟨B, i, none⟩ = some u) : (results fn tmps).run Tryz.prog w = .ok (.agg wysL.toArray) w := by
  have hp' : tmps[p]?.getD undef = .pointer (some ⟨B, 0, none⟩) := by simpa using hp
  have c0 := hc 0 _ rfl
  have c1 := hc 1 _ rfl
  have c2 := hc 2 _ rfl
  have c3 := hc 3 _ rfl
  have c4 := hc 4 _ rfl
  have c5 := hc 5 _ rfl
  have c6 := hc 6 _ rfl
  have c7 := hc 7 _ rfl
  simp [results, h, hp', go_sem, c0, c1, c2, c3, c4, c5, c6, c7, wysL]
set_option maxRecDepth 20000 in
theorem ways_any (w : World) : Makes Tryz.prog 21 #[] w (.agg wysL.toArray) := by
  unfold Makes
  have hz := World.alloc_heap_new w (.cells #[.nilFunc, .nilFunc, .nilFunc, .nilFunc, .nilFunc, .nilFunc, .nilFunc, .nilFunc] 47)
  have hb := Below.al1 w (.cells #[.nilFunc, .nilFunc, .nilFunc, .nilFunc, .nilFunc, .nilFunc, .nilFunc, .nilFunc] 47)
  go_enter Tryz.func21, Tryz.ntmps21
  go_upto_region 1 with (fail)
  generalize w.alloc (.cells #[.nilFunc, .nilFunc, .nilFunc, .nilFunc, .nilFunc, .nilFunc, .nilFunc, .nilFunc] 47) = W at *
  refine wp_region_lit ?_
  iterate 5
    refine wpList_plain rfl fun K hK => ?_
    go_simp
    refine hK _ _ ?_
    clear hK K
  refine wpList_store_rowTo rfl 47 _ _ rfl rfl w.heap.size wysL.toArray rfl rfl 47 _ hz (by kernel_rfl) (by kernel_rfl) (by kernel_rfl) ?_
  have ho : (W.setRow w.heap.size wysL.toArray).heap[w.heap.size]? = some (.cells wysL.toArray 47) := setRow_heap _ _ _ _ _ _ hz
  have hb1 : Below w.heap.size w (W.setRow w.heap.size wysL.toArray) := below_setRow hb (Nat.le_refl _) _
  generalize W.setRow w.heap.size wysL.toArray = W2 at *
  clear hz hb
  go_wp2
  exact bodyPost_ret (results_ways rfl rfl (fun i u hu => cell_heap ho (by simpa using hu))) rfl ⟨rfl, hb1⟩
end Go.Proofs.YtoladolgmeanhaaGreat

/- codec: Encode. -/
namespace Go.Proofs.YtoladolgmeanhaaGreat
open Go.RowKit

attribute [local go_sem] Oper.semAt_some

theorem run_store_funcC {P : Program} {w : World} {a : Addr} {m : Mode} (fn : Fn) (x y : Array Value) : (store a (.func fn x y) m).run P w = stored P w a (.func fn x y) m := run_store P w a _ m rfl
attribute [local go_sem] run_store_funcC

def cdM (wd ht : Int) (n : Nat) : Prop := 1 ≤ wd ∧ 1 ≤ ht ∧ wd ≤ 256 ∧ ht ≤ 256 ∧ (n : Int) = wd * ht
instance (wd ht : Int) (n : Nat) : Decidable (cdM wd ht n) := by unfold cdM; infer_instance
theorem cd_area {wd ht : Int} (h : 1 ≤ wd ∧ 1 ≤ ht ∧ wd ≤ 256 ∧ ht ≤ 256) : ∃ q : Nat, wd * ht = (q : Int) ∧ 1 ≤ q ∧ q ≤ 65536 := by
  obtain ⟨a, rfl⟩ : ∃ a : Nat, wd = (a : Int) := ⟨wd.toNat, by omega⟩
  obtain ⟨b, rfl⟩ : ∃ b : Nat, ht = (b : Int) := ⟨ht.toNat, by omega⟩
  have h1 : a * b ≤ 256 * 256 := Nat.mul_le_mul (by omega) (by omega)
  have h2 : 1 * 1 ≤ a * b := Nat.mul_le_mul (by omega) (by omega)
  exact ⟨a * b, by simp, by omega, by omega⟩
theorem cdG_pre (l S S' : List Nat) : ∀ i, i ≤ 3 → cdG l S i = cdG l S' i
  | 0, _ => rfl
  | 1, _ => rfl
  | 2, _ => rfl
  | 3, _ => rfl
  | i + 4, h => by omega
theorem ways_index (w : World) :
    (Instr.index 47 (.agg wysL.toArray) (.int .i64 0)).run Tryz.prog w = .ok (.agg #[.func (.func 32) #[] #[], .func (.func 33) #[] #[]]) w ∧
    (Instr.index 47 (.agg wysL.toArray) (.int .i64 1)).run Tryz.prog w = .ok (.agg #[.func (.func 34) #[] #[], .func (.func 35) #[] #[]]) w ∧
    (Instr.index 47 (.agg wysL.toArray) (.int .i64 2)).run Tryz.prog w = .ok (.agg #[.func (.func 36) #[] #[], .func (.func 37) #[] #[]]) w ∧
    (Instr.index 47 (.agg wysL.toArray) (.int .i64 3)).run Tryz.prog w = .ok (.agg #[.func (.func 38) #[] #[], .func (.func 39) #[] #[]]) w := by
  refine ⟨?_, ?_, ?_, ?_⟩ <;> kernel_rfl
def TlE (l : List Nat) (i base : Nat) (W : World) (e : Ending) (w' : World) : Prop :=
  ∃ v' S', e = .returned (.tuple #[v', .bool (cdW l S' i).2]) ∧ (i < 3 → S' = []) ∧ (i = 3 → DefS (cdP l) S') ∧ (cdW l S' i).1.length ≤ 4194304 ∧ w'.ownsRow base 5 1 v' (cdW l S' i).1.length ((cdW l S' i).1.map u8v) ∧ Below W.heap.size W w'
set_option maxRecDepth 20000 in
set_option maxHeartbeats 8000000 in
theorem cencode_any (wd ht : Int) (p : Option Addr) (c : Nat) (l : List Nat) (w : World) (hp : RowAt encP 1 w p l) (h32 : ∀ x ∈ l, x < 4294967296) (hlc : l.length ≤ c) :
    Calls Tryz.prog 10 #[.agg #[.int .i64 wd, .int .i64 ht, .slice p l.length c]] w fun e w' => Below w.heap.size w w' ∧ ((¬ cdM wd ht l.length ∧ e = .returned (.tuple #[.int .u8 0, .slice none 0 0, .int .i64 1])) ∨
      (cdM wd ht l.length ∧ ∃ S v', DefS (cdP l) S ∧ e = .returned (.tuple #[.int .u8 ((cdE l S).1 : Int), v', .int .i64 0]) ∧ w'.ownsRow w.heap.size 5 1 v' (cdE l S).2.length ((cdE l S).2.map u8v))) := by
  have Hp := Lib.hid hp
  have H32 := Lib.hid h32
  obtain ⟨n, hn⟩ : ∃ n, l.length = n := ⟨_, rfl⟩
  have Hn := Lib.hid hn
  rw [hn] at hlc ⊢
  clear hp h32 hn
  go_enter Tryz.func10, Tryz.ntmps10
  go_upto_region 1 with (fail)
  have hT := World.alloc_heap_new w (.cells #[.int .i64 wd, .int .i64 ht, .slice p n c] 24)
  have hb0 := Below.al1 w (.cells #[.int .i64 wd, .int .i64 ht, .slice p n c] 24)
  have hs0 : (w.alloc (.cells #[.int .i64 wd, .int .i64 ht, .slice p n c] 24)).heap.size = w.heap.size + 1 := by simp
  generalize w.alloc (.cells #[.int .i64 wd, .int .i64 ht, .slice p n c] 24) = W0 at *
  have c0 : W0.cell? ⟨w.heap.size, 0, none⟩ = some (.int .i64 wd) := cell_heap hT rfl
  have c1 : W0.cell? ⟨w.heap.size, 1, none⟩ = some (.int .i64 ht) := cell_heap hT rfl
  have c2 : W0.cell? ⟨w.heap.size, 2, none⟩ = some (.slice p n c) := cell_heap hT rfl
  have Hb0 := Lib.hid hb0
  clear hb0 hT
  obtain ⟨f, hf⟩ : ∃ f, decide (1 ≤ wd ∧ 1 ≤ ht ∧ wd ≤ 256 ∧ ht ≤ 256) = f := ⟨_, rfl⟩
  have Hf := Lib.hid hf
  have HF : Hid (∀ w, Calls Tryz.prog 20 #[.int .i64 wd, .int .i64 ht] w fun e w' => e = .returned (.bool f) ∧ w' = w) := Lib.hid (fun w => by
    have := cfits_any wd ht w
    rwa [hf] at this)
  clear hf
  cases f
  case false =>
    go_wp2_with fail
    refine Calls.mono (HF.out _) ?_
    rintro _ u ⟨rfl, rfl⟩
    go_wp2
    go_ret3
    exact ⟨Hb0.out, .inl ⟨fun h => by have h2 := of_decide_eq_false Hf.out; exact h2 ⟨h.1, h.2.1, h.2.2.1, h.2.2.2.1⟩, rfl⟩⟩
  have hfit := of_decide_eq_true Hf.out
  obtain ⟨q, hq, hq1, hq2⟩ := cd_area hfit
  have Hq := Lib.hid hq
  have Hfit := Lib.hid hfit
  have hwq : IntKind.i64.wrap (q : Int) = (q : Int) := IntWalk.i64_in _ (by omega)
  have hwm : IntKind.i64.wrap (wd * ht) = (q : Int) := by rw [hq]; exact hwq
  clear hfit
  by_cases hnq : n = q
  case neg =>
    have d1 : ((n : Int) != (q : Int)) = true := by simp; omega
    go_wp2_with fail
    refine Calls.mono (HF.out _) ?_
    rintro _ u ⟨rfl, rfl⟩
    go_wp2
    go_ret3
    exact ⟨Hb0.out, .inl ⟨fun h => by have h2 := h.2.2.2.2; rw [Hq.out] at h2; omega, rfl⟩⟩
  subst hnq
  have d1 : ((n : Int) != (n : Int)) = false := by simp
  have HM : Hid (cdM wd ht n) := Lib.hid ⟨Hfit.out.1, Hfit.out.2.1, Hfit.out.2.2.1, Hfit.out.2.2.2, Hq.out.symm⟩
  have H0 : Hid (∀ W, Below W0.heap.size W0 W → Calls Tryz.prog 32 #[.slice p n c] W (TlE l 0 W0.heap.size W)) := Lib.hid (fun W hW => by
    have h := ctellPlain_any p c l W (Hp.out.below (Below.thn Hb0.out hW)) H32.out (by rw [Hn.out]; omega)
    rw [Hn.out] at h
    refine Calls.mono h ?_
    rintro _ w' ⟨v', rfl, ho, hb⟩
    exact ⟨v', [], rfl, fun _ => rfl, fun h => by omega, by show (cdP l).length ≤ _; rw [cdP_len, Hn.out]; omega, owns_base ho hW.size, hb⟩)
  have H1 : Hid (∀ W, Below W0.heap.size W0 W → Calls Tryz.prog 34 #[.slice p n c] W (TlE l 1 W0.heap.size W)) := Lib.hid (fun W hW => by
    have h := ctellRuns_any p c l W (Hp.out.below (Below.thn Hb0.out hW)) H32.out (by rw [Hn.out]; omega) (by rw [Hn.out]; exact hlc)
    rw [Hn.out] at h
    refine Calls.mono h ?_
    rintro _ w' ⟨v', rfl, ho, hb⟩
    exact ⟨v', [], rfl, fun _ => rfl, fun h => by omega, by show (rlBs (rlO l)).length ≤ _; rw [rlBs_len]; have := rl_len l; rw [Hn.out] at this; omega, owns_base ho hW.size, hb⟩)
  have H2 : Hid (∀ W, Below W0.heap.size W0 W → Calls Tryz.prog 36 #[.slice p n c] W (TlE l 2 W0.heap.size W)) := Lib.hid (fun W hW => by
    have h := pencode_any p c l W (Hp.out.below (Below.thn Hb0.out hW)) H32.out (by rw [Hn.out]; omega) (by rw [Hn.out]; exact hlc)
    rw [Hn.out] at h
    refine Calls.mono h ?_
    rintro _ w' ⟨v', rfl, ho, hb⟩
    exact ⟨v', [], rfl, fun _ => rfl, fun h => by omega, by have := plE_len (l := l) (by rw [Hn.out]; omega); show (plE l).1.length ≤ _; omega, owns_base ho hW.size, hb⟩)
  have H3 : Hid (∀ W, Below W0.heap.size W0 W → Calls Tryz.prog 38 #[.slice p n c] W (TlE l 3 W0.heap.size W)) := Lib.hid (fun W hW => by
    have h := ctellStream_any p c l W (Hp.out.below (Below.thn Hb0.out hW)) H32.out (by rw [Hn.out]; omega)
    rw [Hn.out] at h
    refine Calls.mono h ?_
    rintro _ w' ⟨v', S, rfl, hS, hl, ho, hb⟩
    exact ⟨v', S, rfl, fun h => by omega, fun _ => hS, by show S.length ≤ _; omega, owns_base ho hW.size, hb⟩)
  go_wp2_with fail
  refine Calls.mono (HF.out _) ?_
  rintro _ u ⟨rfl, rfl⟩
  go_wp2_with fail
  refine Calls.mono (ways_any _) ?_
  rintro _ u1 ⟨rfl, hb1⟩
  have Hb1 := Lib.hid hb1
  have Hsz := Lib.hid hs0
  clear hb1 hwq hwm hq hs0 d1
  unfold wysL
  have C2 := Lib.hid c2
  have hsB : Hid (w.heap.size < u.heap.size) := Lib.hid (by have := Hsz.out; omega)
  clear c0 c1 c2
  go_wp2_with fail
  go_loopw [5, 6, 29] (fun kv bv iv wr => ∃ (i : Nat) (S : List Nat), kv = .int .u8 ((cdG l S i).1 : Int) ∧ iv = .int .i64 (i : Int) ∧ i ≤ 4 ∧ Hid ((i < 4 → S = []) ∧ (i = 4 → DefS (cdP l) S) ∧ (cdG l S i).2.length ≤ 4194304) ∧ Hid (wr.ownsRow u.heap.size 5 1 bv (cdG l S i).2.length ((cdG l S i).2.map u8v)) ∧ Hid (Below u.heap.size u wr)) (fun _ _ iv _ => 4 - (intOf iv).toNat)
  case atStart => exact ⟨0, [], rfl, rfl, by omega, Lib.hid ⟨fun _ => rfl, fun h => by omega, by show 0 ≤ _; omega⟩, Lib.hid (World.ownsRow_nil _ _ _ _), Hb1⟩
  case round =>
    obtain ⟨i, S, rfl, rfl, hi4, HS, HO, HB⟩ := hrel
    have c2 := cell_later HB.out C2.out
    by_cases hi : i < 4
    case neg =>
      obtain rfl : i = 4 := by omega
      obtain ⟨bp, bc, rfl⟩ := owns_slice HO.out
      go_wp2
      go_ret3
      exact ⟨Below.thn Hb0.out HB.out, .inr ⟨HM.out, S, HS.out.2.1 (by trivial), _, rfl, owns_base HO.out Hb0.out.size⟩⟩
    obtain rfl := HS.out.1 hi
    have HK := Lib.hid (cdG_kind l [])
    obtain ⟨A, hA⟩ : ∃ A, cdG l [] i = A := ⟨_, rfl⟩
    have HA := Lib.hid hA
    have hAl := HS.out.2.2
    rw [hA] at HO hAl ⊢
    obtain ⟨K, B⟩ := A
    dsimp only at HO hAl ⊢
    obtain ⟨bp, bc, rfl⟩ := owns_slice HO.out
    have HAl := Lib.hid hAl
    have hcase : i = 0 ∨ i = 1 ∨ i = 2 ∨ i = 3 := by omega
    have Hbx := Lib.hid (Below.al1 wr (.cells #[.nilFunc, .nilFunc] 46))
    clear hA hi hi4 hAl HS
    rcases hcase with rfl | rfl | rfl | rfl
    · have hix := (ways_index wr).1
      unfold wysL at hix
      go_upto_region 8 with (fail)
      have hT8 := World.alloc_heap_new wr (.cells #[.func (.func 32) #[] #[], .func (.func 33) #[] #[]] 46)
      have hbw := Below.al1 wr (.cells #[.func (.func 32) #[] #[], .func (.func 33) #[] #[]] 46)
      have hb8 := HB.out.trans (hbw.mono HB.out.size)
      have c8 := cell_later hbw c2
      have ho8 := (Turns.of_below' (T := fun _ => False) hbw).owns HO.out (fun _ _ h => h)
      generalize wr.alloc (.cells #[.func (.func 32) #[] #[], .func (.func 33) #[] #[]] 46) = w8 at *
      have f8 : w8.cell? ⟨wr.heap.size, 0, none⟩ = some (.func (.func 32) #[] #[]) := cell_heap hT8 rfl
      have Hb8 := Lib.hid hb8
      have Ho8 := Lib.hid ho8
      clear hT8 hb8 c2 hix hbw ho8
      go_wp2_with fail
      refine Calls.mono (H0.out w8 Hb8.out) ?_
      rintro _ w9 ⟨v9, S9, rfl, s1, s2, hl9, ho9, hb9⟩
      have HOB := Lib.hid ((Turns.of_below' (T := fun _ => False) hb9).owns Ho8.out (fun _ _ h => h))
      have Hb9 := Lib.hid (Hb8.out.trans (hb9.mono Hb8.out.size))
      have HE : Hid (cdG l S9 1 = cdS (K, B) 1 (cdW l S9 0).1 (cdW l S9 0).2) := Lib.hid (by
        rw [← HA.out, ← cdG_pre l S9 [] 0 (by omega)]; rfl)
      have HS9 : Hid ((1 < 4 → S9 = []) ∧ (1 = 4 → DefS (cdP l) S9)) := Lib.hid ⟨fun h => s1 (by omega), fun h => s2 (by omega)⟩
      obtain ⟨X, hX⟩ : ∃ X, cdW l S9 0 = X := ⟨_, rfl⟩
      rw [hX] at hl9 ho9 HE ⊢
      obtain ⟨xb, is⟩ := X
      dsimp only at hl9 ho9 HE ⊢
      obtain ⟨p9, c9, rfl⟩ := owns_slice ho9
      have Ho9 := Lib.hid ho9
      have Hl9 := Lib.hid hl9
      clear hX hl9 ho9 hb9 s1 s2 f8 c8
      cases is
      case false =>
        go_wp2
        go_roundw
        case rel => exact ⟨1, S9, by (rw [HE.out, cdS_no (by simp)]; try rfl), by go_num, by omega, Lib.hid ⟨HS9.out.1, HS9.out.2, by rw [HE.out, cdS_no (by simp)]; exact HAl.out⟩, Lib.hid (by rw [HE.out, cdS_no (by simp)]; exact HOB.out), Hb9⟩
        case measure => simp [intOf]
      by_cases hK : K = 0
      case pos =>
        have dk : ((K : Int) == 0) = true := by simp; omega
        go_wp2
        go_roundw
        case rel => exact ⟨1, S9, by (rw [HE.out, cdS_yes ⟨rfl, .inl hK⟩]; try rfl), by go_num, by omega, Lib.hid ⟨HS9.out.1, HS9.out.2, by rw [HE.out, cdS_yes ⟨rfl, .inl hK⟩]; exact Hl9.out⟩, Lib.hid (by rw [HE.out, cdS_yes ⟨rfl, .inl hK⟩]; exact Ho9.out), Hb9⟩
        case measure => simp [intOf]
      have dk : ((K : Int) == 0) = false := by simp; omega
      by_cases hlt : xb.length < B.length
      case pos =>
        have dl : decide ((xb.length : Int) < (B.length : Int)) = true := by simp; omega
        go_wp2
        go_roundw
        case rel => exact ⟨1, S9, by (rw [HE.out, cdS_yes ⟨rfl, .inr hlt⟩]; try rfl), by go_num, by omega, Lib.hid ⟨HS9.out.1, HS9.out.2, by rw [HE.out, cdS_yes ⟨rfl, .inr hlt⟩]; exact Hl9.out⟩, Lib.hid (by rw [HE.out, cdS_yes ⟨rfl, .inr hlt⟩]; exact Ho9.out), Hb9⟩
        case measure => simp [intOf]
      case neg =>
        have dl : decide ((xb.length : Int) < (B.length : Int)) = false := by simp; omega
        go_wp2
        go_roundw
        case rel => exact ⟨1, S9, by (rw [HE.out, cdS_no (fun h => h.2.elim hK hlt)]; try rfl), by go_num, by omega, Lib.hid ⟨HS9.out.1, HS9.out.2, by rw [HE.out, cdS_no (fun h => h.2.elim hK hlt)]; exact HAl.out⟩, Lib.hid (by rw [HE.out, cdS_no (fun h => h.2.elim hK hlt)]; exact HOB.out), Hb9⟩
        case measure => simp [intOf]
    · have hix := (ways_index wr).2.1
      unfold wysL at hix
      go_upto_region 8 with (fail)
      have hT8 := World.alloc_heap_new wr (.cells #[.func (.func 34) #[] #[], .func (.func 35) #[] #[]] 46)
      have hbw := Below.al1 wr (.cells #[.func (.func 34) #[] #[], .func (.func 35) #[] #[]] 46)
      have hb8 := HB.out.trans (hbw.mono HB.out.size)
      have c8 := cell_later hbw c2
      have ho8 := (Turns.of_below' (T := fun _ => False) hbw).owns HO.out (fun _ _ h => h)
      generalize wr.alloc (.cells #[.func (.func 34) #[] #[], .func (.func 35) #[] #[]] 46) = w8 at *
      have f8 : w8.cell? ⟨wr.heap.size, 0, none⟩ = some (.func (.func 34) #[] #[]) := cell_heap hT8 rfl
      have Hb8 := Lib.hid hb8
      have Ho8 := Lib.hid ho8
      clear hT8 hb8 c2 hix hbw ho8
      go_wp2_with fail
      refine Calls.mono (H1.out w8 Hb8.out) ?_
      rintro _ w9 ⟨v9, S9, rfl, s1, s2, hl9, ho9, hb9⟩
      have HOB := Lib.hid ((Turns.of_below' (T := fun _ => False) hb9).owns Ho8.out (fun _ _ h => h))
      have Hb9 := Lib.hid (Hb8.out.trans (hb9.mono Hb8.out.size))
      have HE : Hid (cdG l S9 2 = cdS (K, B) 2 (cdW l S9 1).1 (cdW l S9 1).2) := Lib.hid (by
        rw [← HA.out, ← cdG_pre l S9 [] 1 (by omega)]; rfl)
      have HS9 : Hid ((2 < 4 → S9 = []) ∧ (2 = 4 → DefS (cdP l) S9)) := Lib.hid ⟨fun h => s1 (by omega), fun h => s2 (by omega)⟩
      obtain ⟨X, hX⟩ : ∃ X, cdW l S9 1 = X := ⟨_, rfl⟩
      rw [hX] at hl9 ho9 HE ⊢
      obtain ⟨xb, is⟩ := X
      dsimp only at hl9 ho9 HE ⊢
      obtain ⟨p9, c9, rfl⟩ := owns_slice ho9
      have Ho9 := Lib.hid ho9
      have Hl9 := Lib.hid hl9
      clear hX hl9 ho9 hb9 s1 s2 f8 c8
      cases is
      case false =>
        go_wp2
        go_roundw
        case rel => exact ⟨2, S9, by (rw [HE.out, cdS_no (by simp)]; try rfl), by go_num, by omega, Lib.hid ⟨HS9.out.1, HS9.out.2, by rw [HE.out, cdS_no (by simp)]; exact HAl.out⟩, Lib.hid (by rw [HE.out, cdS_no (by simp)]; exact HOB.out), Hb9⟩
        case measure => simp [intOf]
      by_cases hK : K = 0
      case pos =>
        have dk : ((K : Int) == 0) = true := by simp; omega
        go_wp2
        go_roundw
        case rel => exact ⟨2, S9, by (rw [HE.out, cdS_yes ⟨rfl, .inl hK⟩]; try rfl), by go_num, by omega, Lib.hid ⟨HS9.out.1, HS9.out.2, by rw [HE.out, cdS_yes ⟨rfl, .inl hK⟩]; exact Hl9.out⟩, Lib.hid (by rw [HE.out, cdS_yes ⟨rfl, .inl hK⟩]; exact Ho9.out), Hb9⟩
        case measure => simp [intOf]
      have dk : ((K : Int) == 0) = false := by simp; omega
      by_cases hlt : xb.length < B.length
      case pos =>
        have dl : decide ((xb.length : Int) < (B.length : Int)) = true := by simp; omega
        go_wp2
        go_roundw
        case rel => exact ⟨2, S9, by (rw [HE.out, cdS_yes ⟨rfl, .inr hlt⟩]; try rfl), by go_num, by omega, Lib.hid ⟨HS9.out.1, HS9.out.2, by rw [HE.out, cdS_yes ⟨rfl, .inr hlt⟩]; exact Hl9.out⟩, Lib.hid (by rw [HE.out, cdS_yes ⟨rfl, .inr hlt⟩]; exact Ho9.out), Hb9⟩
        case measure => simp [intOf]
      case neg =>
        have dl : decide ((xb.length : Int) < (B.length : Int)) = false := by simp; omega
        go_wp2
        go_roundw
        case rel => exact ⟨2, S9, by (rw [HE.out, cdS_no (fun h => h.2.elim hK hlt)]; try rfl), by go_num, by omega, Lib.hid ⟨HS9.out.1, HS9.out.2, by rw [HE.out, cdS_no (fun h => h.2.elim hK hlt)]; exact HAl.out⟩, Lib.hid (by rw [HE.out, cdS_no (fun h => h.2.elim hK hlt)]; exact HOB.out), Hb9⟩
        case measure => simp [intOf]
    · have hix := (ways_index wr).2.2.1
      unfold wysL at hix
      go_upto_region 8 with (fail)
      have hT8 := World.alloc_heap_new wr (.cells #[.func (.func 36) #[] #[], .func (.func 37) #[] #[]] 46)
      have hbw := Below.al1 wr (.cells #[.func (.func 36) #[] #[], .func (.func 37) #[] #[]] 46)
      have hb8 := HB.out.trans (hbw.mono HB.out.size)
      have c8 := cell_later hbw c2
      have ho8 := (Turns.of_below' (T := fun _ => False) hbw).owns HO.out (fun _ _ h => h)
      generalize wr.alloc (.cells #[.func (.func 36) #[] #[], .func (.func 37) #[] #[]] 46) = w8 at *
      have f8 : w8.cell? ⟨wr.heap.size, 0, none⟩ = some (.func (.func 36) #[] #[]) := cell_heap hT8 rfl
      have Hb8 := Lib.hid hb8
      have Ho8 := Lib.hid ho8
      clear hT8 hb8 c2 hix hbw ho8
      go_wp2_with fail
      refine Calls.mono (H2.out w8 Hb8.out) ?_
      rintro _ w9 ⟨v9, S9, rfl, s1, s2, hl9, ho9, hb9⟩
      have HOB := Lib.hid ((Turns.of_below' (T := fun _ => False) hb9).owns Ho8.out (fun _ _ h => h))
      have Hb9 := Lib.hid (Hb8.out.trans (hb9.mono Hb8.out.size))
      have HE : Hid (cdG l S9 3 = cdS (K, B) 3 (cdW l S9 2).1 (cdW l S9 2).2) := Lib.hid (by
        rw [← HA.out, ← cdG_pre l S9 [] 2 (by omega)]; rfl)
      have HS9 : Hid ((3 < 4 → S9 = []) ∧ (3 = 4 → DefS (cdP l) S9)) := Lib.hid ⟨fun h => s1 (by omega), fun h => s2 (by omega)⟩
      obtain ⟨X, hX⟩ : ∃ X, cdW l S9 2 = X := ⟨_, rfl⟩
      rw [hX] at hl9 ho9 HE ⊢
      obtain ⟨xb, is⟩ := X
      dsimp only at hl9 ho9 HE ⊢
      obtain ⟨p9, c9, rfl⟩ := owns_slice ho9
      have Ho9 := Lib.hid ho9
      have Hl9 := Lib.hid hl9
      clear hX hl9 ho9 hb9 s1 s2 f8 c8
      cases is
      case false =>
        go_wp2
        go_roundw
        case rel => exact ⟨3, S9, by (rw [HE.out, cdS_no (by simp)]; try rfl), by go_num, by omega, Lib.hid ⟨HS9.out.1, HS9.out.2, by rw [HE.out, cdS_no (by simp)]; exact HAl.out⟩, Lib.hid (by rw [HE.out, cdS_no (by simp)]; exact HOB.out), Hb9⟩
        case measure => simp [intOf]
      by_cases hK : K = 0
      case pos =>
        have dk : ((K : Int) == 0) = true := by simp; omega
        go_wp2
        go_roundw
        case rel => exact ⟨3, S9, by (rw [HE.out, cdS_yes ⟨rfl, .inl hK⟩]; try rfl), by go_num, by omega, Lib.hid ⟨HS9.out.1, HS9.out.2, by rw [HE.out, cdS_yes ⟨rfl, .inl hK⟩]; exact Hl9.out⟩, Lib.hid (by rw [HE.out, cdS_yes ⟨rfl, .inl hK⟩]; exact Ho9.out), Hb9⟩
        case measure => simp [intOf]
      have dk : ((K : Int) == 0) = false := by simp; omega
      by_cases hlt : xb.length < B.length
      case pos =>
        have dl : decide ((xb.length : Int) < (B.length : Int)) = true := by simp; omega
        go_wp2
        go_roundw
        case rel => exact ⟨3, S9, by (rw [HE.out, cdS_yes ⟨rfl, .inr hlt⟩]; try rfl), by go_num, by omega, Lib.hid ⟨HS9.out.1, HS9.out.2, by rw [HE.out, cdS_yes ⟨rfl, .inr hlt⟩]; exact Hl9.out⟩, Lib.hid (by rw [HE.out, cdS_yes ⟨rfl, .inr hlt⟩]; exact Ho9.out), Hb9⟩
        case measure => simp [intOf]
      case neg =>
        have dl : decide ((xb.length : Int) < (B.length : Int)) = false := by simp; omega
        go_wp2
        go_roundw
        case rel => exact ⟨3, S9, by (rw [HE.out, cdS_no (fun h => h.2.elim hK hlt)]; try rfl), by go_num, by omega, Lib.hid ⟨HS9.out.1, HS9.out.2, by rw [HE.out, cdS_no (fun h => h.2.elim hK hlt)]; exact HAl.out⟩, Lib.hid (by rw [HE.out, cdS_no (fun h => h.2.elim hK hlt)]; exact HOB.out), Hb9⟩
        case measure => simp [intOf]
    · have hix := (ways_index wr).2.2.2
      unfold wysL at hix
      go_upto_region 8 with (fail)
      have hT8 := World.alloc_heap_new wr (.cells #[.func (.func 38) #[] #[], .func (.func 39) #[] #[]] 46)
      have hbw := Below.al1 wr (.cells #[.func (.func 38) #[] #[], .func (.func 39) #[] #[]] 46)
      have hb8 := HB.out.trans (hbw.mono HB.out.size)
      have c8 := cell_later hbw c2
      have ho8 := (Turns.of_below' (T := fun _ => False) hbw).owns HO.out (fun _ _ h => h)
      generalize wr.alloc (.cells #[.func (.func 38) #[] #[], .func (.func 39) #[] #[]] 46) = w8 at *
      have f8 : w8.cell? ⟨wr.heap.size, 0, none⟩ = some (.func (.func 38) #[] #[]) := cell_heap hT8 rfl
      have Hb8 := Lib.hid hb8
      have Ho8 := Lib.hid ho8
      clear hT8 hb8 c2 hix hbw ho8
      go_wp2_with fail
      refine Calls.mono (H3.out w8 Hb8.out) ?_
      rintro _ w9 ⟨v9, S9, rfl, s1, s2, hl9, ho9, hb9⟩
      have HOB := Lib.hid ((Turns.of_below' (T := fun _ => False) hb9).owns Ho8.out (fun _ _ h => h))
      have Hb9 := Lib.hid (Hb8.out.trans (hb9.mono Hb8.out.size))
      have HE : Hid (cdG l S9 4 = cdS (K, B) 4 (cdW l S9 3).1 (cdW l S9 3).2) := Lib.hid (by
        rw [← HA.out, ← cdG_pre l S9 [] 3 (by omega)]; rfl)
      have HS9 : Hid ((4 < 4 → S9 = []) ∧ (4 = 4 → DefS (cdP l) S9)) := Lib.hid ⟨fun h => s1 (by omega), fun h => s2 (by omega)⟩
      obtain ⟨X, hX⟩ : ∃ X, cdW l S9 3 = X := ⟨_, rfl⟩
      rw [hX] at hl9 ho9 HE ⊢
      obtain ⟨xb, is⟩ := X
      dsimp only at hl9 ho9 HE ⊢
      obtain ⟨p9, c9, rfl⟩ := owns_slice ho9
      have Ho9 := Lib.hid ho9
      have Hl9 := Lib.hid hl9
      clear hX hl9 ho9 hb9 s1 s2 f8 c8
      cases is
      case false =>
        go_wp2
        go_roundw
        case rel => exact ⟨4, S9, by (rw [HE.out, cdS_no (by simp)]; try rfl), by go_num, by omega, Lib.hid ⟨HS9.out.1, HS9.out.2, by rw [HE.out, cdS_no (by simp)]; exact HAl.out⟩, Lib.hid (by rw [HE.out, cdS_no (by simp)]; exact HOB.out), Hb9⟩
        case measure => simp [intOf]
      by_cases hK : K = 0
      case pos =>
        have dk : ((K : Int) == 0) = true := by simp; omega
        go_wp2
        go_roundw
        case rel => exact ⟨4, S9, by (rw [HE.out, cdS_yes ⟨rfl, .inl hK⟩]; try rfl), by go_num, by omega, Lib.hid ⟨HS9.out.1, HS9.out.2, by rw [HE.out, cdS_yes ⟨rfl, .inl hK⟩]; exact Hl9.out⟩, Lib.hid (by rw [HE.out, cdS_yes ⟨rfl, .inl hK⟩]; exact Ho9.out), Hb9⟩
        case measure => simp [intOf]
      have dk : ((K : Int) == 0) = false := by simp; omega
      by_cases hlt : xb.length < B.length
      case pos =>
        have dl : decide ((xb.length : Int) < (B.length : Int)) = true := by simp; omega
        go_wp2
        go_roundw
        case rel => exact ⟨4, S9, by (rw [HE.out, cdS_yes ⟨rfl, .inr hlt⟩]; try rfl), by go_num, by omega, Lib.hid ⟨HS9.out.1, HS9.out.2, by rw [HE.out, cdS_yes ⟨rfl, .inr hlt⟩]; exact Hl9.out⟩, Lib.hid (by rw [HE.out, cdS_yes ⟨rfl, .inr hlt⟩]; exact Ho9.out), Hb9⟩
        case measure => simp [intOf]
      case neg =>
        have dl : decide ((xb.length : Int) < (B.length : Int)) = false := by simp; omega
        go_wp2
        go_roundw
        case rel => exact ⟨4, S9, by (rw [HE.out, cdS_no (fun h => h.2.elim hK hlt)]; try rfl), by go_num, by omega, Lib.hid ⟨HS9.out.1, HS9.out.2, by rw [HE.out, cdS_no (fun h => h.2.elim hK hlt)]; exact HAl.out⟩, Lib.hid (by rw [HE.out, cdS_no (fun h => h.2.elim hK hlt)]; exact HOB.out), Hb9⟩
        case measure => simp [intOf]
end Go.Proofs.YtoladolgmeanhaaGreat
