/- Several texts in one, each with its own head. -/
import Derived.Test.YtebfdoipogjpnaaGreatQd44
import Derived.Test.YtebfdoipogjpnaaGreatQd27
import Derived.Laws.BytesArg
import Derived.Lib.SlBytesConst
import Derived.Test.YtebfdoipogjpnaaGreatQd23
/- The document's Match. -/
namespace Go.Proofs.YtebfdoipogjpnaaGreat
open Go.RowKit

set_option maxRecDepth 20000 in
set_option maxHeartbeats 8000000 in
theorem refMatch_any (l : List Nat) (vb : Value) (w : World) (hvr : Row enc8 1 w vb l) (hl : l.length ≤ 1048576) :
    Calls Tryz.prog 38 #[vb] w fun e w' => ∃ (v' : Value) (ts : List Tk), e = .returned v' ∧ OwnT w' w.heap.size v' ts ∧ Toks (fb l) l.length 0 ts ∧ Below w.heap.size w w' := by
  have Hv := Lib.hid hvr
  obtain ⟨p, c, rfl, -, -, -⟩ := hvr
  go_enter Tryz.func38, Tryz.ntmps38
  go_wp2_with fail
  go_loopw [3, 4] (fun lv av wr => ∃ (a : Nat) (ts : List Tk), av = .int .i64 (a : Int) ∧ a ≤ l.length ∧ ts.length ≤ a ∧ Hid (OwnT wr w.heap.size lv ts) ∧ Hid (ToksTo (fb l) l.length a ts) ∧ Hid (Below w.heap.size w wr)) (fun _ av _ => l.length - (intOf av).toNat)
  case atStart => exact ⟨0, [], rfl, Nat.zero_le _, Nat.le_refl _, Lib.hid (World.ownsRow_nil _ _ _ _), Lib.hid .nil, Lib.hid (Below.refl _ _)⟩
  case round =>
    obtain ⟨a, ts, rfl, ha, hts, HO, HT, HB⟩ := hrel
    by_cases hlt : a < l.length
    · have d0 : decide (a < l.length) = true := by simp; omega
      obtain ⟨po, co, rfl⟩ := owns_slice HO.out
      obtain ⟨q, hq⟩ : ∃ q, ts.length = q := ⟨_, rfl⟩
      have HO2 : Hid (wr.ownsRow w.heap.size 74 3 (.slice po q co) q (ts.flatMap encT)) := Lib.hid (by rw [← hq]; exact HO.out)
      have Hq := Lib.hid hq
      rw [hq] at hts ⊢
      obtain ⟨m, hm⟩ : ∃ m, mo l.length a = m := ⟨_, rfl⟩
      have Hm := Lib.hid hm
      have hm258 : m ≤ 258 := by rw [← hm]; exact Nat.min_le_left _ _
      clear HO hq hm
      go_wp2_with fail
      generalize wr = W1 at *
      go_loopw [5, 6, 7] (fun bv dv kv wr => ∃ L D d : Nat, bv = .int .i64 (L : Int) ∧ dv = .int .i64 (D : Int) ∧ kv = .int .i64 (d : Int) ∧ 1 ≤ d ∧ d ≤ 32769 ∧ d ≤ a + 1 ∧ L ≤ 258 ∧ D ≤ 32768 ∧ Hid (Scan (fb l) a m d L D) ∧ Hid (Below W1.heap.size W1 wr)) (fun _ _ kv _ => 40000 - (intOf kv).toNat)
      case atStart => exact ⟨0, 0, 1, rfl, rfl, rfl, by omega, by omega, by omega, by omega, by omega, Lib.hid (Scan.start _ _ _), Lib.hid (Below.refl _ _)⟩
      case round =>
        obtain ⟨L, D, d, rfl, rfl, rfl, hd1, hd2, hd3, hL, hD, HS, HB1⟩ := hrel
        by_cases hgo : d ≤ 32768 ∧ d ≤ a
        · obtain ⟨hg1, hg2⟩ := hgo
          have d1 : decide ((d : Int) ≤ 32768) = true := by simp; omega
          have d2 : decide (d ≤ a) = true := by simp; omega
          go_wp2_with fail
          refine Calls.mono (refRun_any l _ a d wr (Hv.out.below (HB.out.trans (HB1.out.mono HB.out.size))) hd1 hg2 (by omega) hl) ?_
          rintro e w2 ⟨n, rfl, hrun, hb2⟩
          have Hrun := Lib.hid (show IsRun (fb l) a d m n by rw [← Hm.out]; exact hrun)
          have hn : n ≤ 258 := Nat.le_trans Hrun.out.le hm258
          have HB2 := Lib.hid (Below.thn HB1.out hb2)
          clear hrun hb2
          by_cases hng : L < n
          · have d3 : decide (n > L) = true := by simp; omega
            go_wp2
            go_roundw
            case rel => exact ⟨n, d, d + 1, rfl, rfl, by go_num, by omega, by omega, by omega, hn, hg1, Lib.hid (HS.out.more hd1 Hrun.out hng), HB2⟩
            case measure => simp [intOf]; omega
          · have d3 : decide (n > L) = false := by simp; omega
            go_wp2
            go_roundw
            case rel => exact ⟨L, D, d + 1, rfl, rfl, by go_num, by omega, by omega, by omega, hL, hD, Lib.hid (HS.out.less Hrun.out (by omega)), HB2⟩
            case measure => simp [intOf]; omega
        · have hend : ∀ d', d' ≤ 32768 → d' ≤ a → d' < d := fun d' h1 h2 => by omega
          have hS : Scan (fb l) a (mo l.length a) d L D := by rw [Hm.out]; exact HS.out
          have HO3 := Lib.hid ((Turns.of_below' (T := fun _ => False) HB1.out).owns HO2.out (fun _ _ h => h))
          have HB3 := Lib.hid (HB.out.trans (HB1.out.mono HB.out.size))
          have hs3 := HB3.out.size
          by_cases h3 : 3 ≤ L
          · have d4 : decide ((L : Int) ≥ 3) = true := by simp; omega
            have htok := hS.rep hend ⟨by omega, by omega⟩ h3
            have hfit := htok.fits hlt
            have hsz : Tk.size ⟨0, (L : Int), (D : Int)⟩ = L := by unfold Tk.size; simp; omega
            rw [hsz] at hfit
            have HT5 : Hid (ToksTo (fb l) l.length (a + L) (ts ++ [⟨0, L, D⟩])) := Lib.hid (by have := HT.out.snoc hlt htok; rwa [hsz] at this)
            obtain ⟨az, haz⟩ : ∃ az, a + L = az := ⟨_, rfl⟩
            have eaz : (a : Int) + (L : Int) = (az : Int) := by omega
            have haz2 : a < az := by omega
            rw [haz] at HT5 hfit
            clear haz htok hsz hS hend HO2
            by_cases hdd : d ≤ 32768
            · have d1 : decide ((d : Int) ≤ 32768) = true := by simp; omega
              have d2 : decide (d ≤ a) = false := by simp; omega
              go_wp2_with (at_builtin; refine wpList_append_three wr rfl (.tmp 33) (.tmp 37) 50 rfl w.heap.size 74 _ 24 tok_info Tryz.underlying50 rfl (.slice po q co) q (ts.flatMap encT) rfl HO3.out (.int .u8 0) (.int .i64 (L : Int)) (.int .i64 (D : Int)) _ rfl rfl rfl rfl ?a3 ?a4 hs3 ?_)
              case a3 => simp only [maxLen]; omega
              case a4 => omega
              intro g1 cap1 w5 ho1 ht1 hg1
              have HB5 := Lib.hid (HB3.out.trans (ht1.below hs3 (fun k hk => (HO3.out.lt k hk).1)))
              have HO5 : Hid (OwnT w5 w.heap.size (.slice (some ⟨g1, 0, none⟩) (q + 1) cap1) (ts ++ [⟨0, L, D⟩])) := Lib.hid (by
                unfold OwnT
                rw [List.length_append, Hq.out, List.flatMap_append]
                exact ho1)
              have hlen : (ts ++ [(⟨0, L, D⟩ : Tk)]).length = q + 1 := by rw [List.length_append, Hq.out]; rfl
              have Hlen := Lib.hid hlen
              clear ho1 ht1 hg1 HO3 hlen
              go_wp2
              go_roundw
              case rel => exact ⟨az, ts ++ [⟨0, L, D⟩], rfl, hfit, by rw [Hlen.out]; omega, HO5, HT5, HB5⟩
              case measure => simp [intOf]; omega
            · have d1 : decide ((d : Int) ≤ 32768) = false := by simp; omega
              go_wp2_with (at_builtin; refine wpList_append_three wr rfl (.tmp 33) (.tmp 37) 50 rfl w.heap.size 74 _ 24 tok_info Tryz.underlying50 rfl (.slice po q co) q (ts.flatMap encT) rfl HO3.out (.int .u8 0) (.int .i64 (L : Int)) (.int .i64 (D : Int)) _ rfl rfl rfl rfl ?b3 ?b4 hs3 ?_)
              case b3 => simp only [maxLen]; omega
              case b4 => omega
              intro g1 cap1 w5 ho1 ht1 hg1
              have HB5 := Lib.hid (HB3.out.trans (ht1.below hs3 (fun k hk => (HO3.out.lt k hk).1)))
              have HO5 : Hid (OwnT w5 w.heap.size (.slice (some ⟨g1, 0, none⟩) (q + 1) cap1) (ts ++ [⟨0, L, D⟩])) := Lib.hid (by
                unfold OwnT
                rw [List.length_append, Hq.out, List.flatMap_append]
                exact ho1)
              have hlen : (ts ++ [(⟨0, L, D⟩ : Tk)]).length = q + 1 := by rw [List.length_append, Hq.out]; rfl
              have Hlen := Lib.hid hlen
              clear ho1 ht1 hg1 HO3 hlen
              go_wp2
              go_roundw
              case rel => exact ⟨az, ts ++ [⟨0, L, D⟩], rfl, hfit, by rw [Hlen.out]; omega, HO5, HT5, HB5⟩
              case measure => simp [intOf]; omega
          · have d4 : decide ((L : Int) ≥ 3) = false := by simp; omega
            have htok := hS.byte hend (by omega)
            obtain ⟨pp, cc, e, -, -, hrow⟩ := Hv.out.below HB3.out
            cases e
            obtain ⟨g, off, rfl, hx⟩ := hrow.byteF (k := a) hlt
            obtain ⟨x, hxx⟩ : ∃ x, fb l a = x := ⟨_, rfl⟩
            rw [hxx] at hx htok
            have HT5 : Hid (ToksTo (fb l) l.length (a + 1) (ts ++ [⟨x, 0, 0⟩])) := Lib.hid (HT.out.snoc hlt htok)
            have a0 : (0 : Int) ≤ (a : Int) := by omega
            have a1 : (a : Int) < (l.length : Int) := by omega
            clear htok hS hend HO2 hrow hxx
            by_cases hdd : d ≤ 32768
            · have d1 : decide ((d : Int) ≤ 32768) = true := by simp; omega
              have d2 : decide (d ≤ a) = false := by simp; omega
              go_wp2_with (at_builtin; refine wpList_append_three wr rfl (.tmp 42) (.tmp 48) 50 rfl w.heap.size 74 _ 24 tok_info Tryz.underlying50 rfl (.slice po q co) q (ts.flatMap encT) rfl HO3.out (.int .u8 (x : Int)) (.int .i64 0) (.int .i64 0) _ rfl rfl rfl rfl ?c3 ?c4 hs3 ?_)
              case c3 => simp only [maxLen]; omega
              case c4 => omega
              intro g1 cap1 w5 ho1 ht1 hg1
              have HB5 := Lib.hid (HB3.out.trans (ht1.below hs3 (fun k hk => (HO3.out.lt k hk).1)))
              have HO5 : Hid (OwnT w5 w.heap.size (.slice (some ⟨g1, 0, none⟩) (q + 1) cap1) (ts ++ [⟨x, 0, 0⟩])) := Lib.hid (by
                unfold OwnT
                rw [List.length_append, Hq.out, List.flatMap_append]
                exact ho1)
              have hlen : (ts ++ [(⟨x, 0, 0⟩ : Tk)]).length = q + 1 := by rw [List.length_append, Hq.out]; rfl
              have Hlen := Lib.hid hlen
              clear ho1 ht1 hg1 HO3 hlen hx
              go_wp2
              go_roundw
              case rel => exact ⟨a + 1, ts ++ [⟨x, 0, 0⟩], by go_num, by omega, by rw [Hlen.out]; omega, HO5, HT5, HB5⟩
              case measure => simp [intOf]; omega
            · have d1 : decide ((d : Int) ≤ 32768) = false := by simp; omega
              go_wp2_with (at_builtin; refine wpList_append_three wr rfl (.tmp 42) (.tmp 48) 50 rfl w.heap.size 74 _ 24 tok_info Tryz.underlying50 rfl (.slice po q co) q (ts.flatMap encT) rfl HO3.out (.int .u8 (x : Int)) (.int .i64 0) (.int .i64 0) _ rfl rfl rfl rfl ?e3 ?e4 hs3 ?_)
              case e3 => simp only [maxLen]; omega
              case e4 => omega
              intro g1 cap1 w5 ho1 ht1 hg1
              have HB5 := Lib.hid (HB3.out.trans (ht1.below hs3 (fun k hk => (HO3.out.lt k hk).1)))
              have HO5 : Hid (OwnT w5 w.heap.size (.slice (some ⟨g1, 0, none⟩) (q + 1) cap1) (ts ++ [⟨x, 0, 0⟩])) := Lib.hid (by
                unfold OwnT
                rw [List.length_append, Hq.out, List.flatMap_append]
                exact ho1)
              have hlen : (ts ++ [(⟨x, 0, 0⟩ : Tk)]).length = q + 1 := by rw [List.length_append, Hq.out]; rfl
              have Hlen := Lib.hid hlen
              clear ho1 ht1 hg1 HO3 hlen hx
              go_wp2
              go_roundw
              case rel => exact ⟨a + 1, ts ++ [⟨x, 0, 0⟩], by go_num, by omega, by rw [Hlen.out]; omega, HO5, HT5, HB5⟩
              case measure => simp [intOf]; omega
    · obtain rfl : a = l.length := by omega
      have d0 : decide (l.length < l.length) = false := by simp
      go_wp2_with fail
      go_ret
      exact ⟨_, ts, rfl, HO.out, HT.out.all, HB.out⟩

end Go.Proofs.YtebfdoipogjpnaaGreat

/- Tokens of bytes that are written out; tokens of what stands twice, of a row of one byte; no token could be a longer one (plain). Nothing here speaks of a program. -/
namespace Go.Proofs.YtebfdoipogjpnaaGreat

def runC (f : Nat → Nat) (a d : Nat) : Nat → Nat → Nat
  | 0, n => n
  | k + 1, n => if f (a + n) = f (a + n - d) then runC f a d k (n + 1) else n
theorem runC_is (f : Nat → Nat) (a d : Nat) : ∀ (k n : Nat), (∀ j, j < n → f (a + j) = f (a + j - d)) → IsRun f a d (n + k) (runC f a d k n)
  | 0, n, h => ⟨by simp [runC], h, fun h => by simp [runC] at h⟩
  | k + 1, n, h => by
    rw [runC]
    split
    · rename_i e
      have := runC_is f a d k (n + 1) (fun j hj => by
        by_cases e' : j = n
        · rw [e']; exact e
        · exact h j (by omega))
      rwa [show n + 1 + k = n + (k + 1) by omega] at this
    · rename_i e
      exact ⟨by omega, h, fun _ => e⟩
def bestC (f : Nat → Nat) (a m : Nat) : Nat → Nat × Nat
  | 0 => (0, 0)
  | d + 1 => if (bestC f a m d).1 < runC f a (d + 1) m 0 then (runC f a (d + 1) m 0, d + 1) else bestC f a m d
theorem bestC_is (f : Nat → Nat) (a m : Nat) : ∀ d, Scan f a m (d + 1) (bestC f a m d).1 (bestC f a m d).2
  | 0 => Scan.start f a m
  | d + 1 => by
    have h := bestC_is f a m d
    have hr := runC_is f a (d + 1) m 0 (fun j h => by omega)
    rw [Nat.zero_add] at hr
    rw [bestC]
    split
    · rename_i e; exact h.more (by omega) hr e
    · rename_i e; exact h.less hr (by omega)
def tokC (f : Nat → Nat) (N a : Nat) : Tk := if 3 ≤ (bestC f a (mo N a) (min 32768 a)).1 then ⟨0, ((bestC f a (mo N a) (min 32768 a)).1 : Nat), ((bestC f a (mo N a) (min 32768 a)).2 : Nat)⟩ else ⟨f a, 0, 0⟩
theorem tokC_is (f : Nat → Nat) (N a : Nat) : IsTok f N a (tokC f N a) := by
  have h := bestC_is f a (mo N a) (min 32768 a)
  unfold tokC
  split
  · rename_i e; exact h.rep (fun d' h1 h2 => by omega) (by omega) e
  · rename_i e; exact h.byte (fun d' h1 h2 => by omega) (by omega)
def toksC (f : Nat → Nat) (N : Nat) : Nat → Nat → List Tk
  | 0, _ => []
  | k + 1, a => if a < N then tokC f N a :: toksC f N k (a + (tokC f N a).size) else []
theorem toksC_is (f : Nat → Nat) (N : Nat) : ∀ k a, a ≤ N → N ≤ a + k → Toks f N a (toksC f N k a)
  | 0, a, h1, h2 => by
    obtain rfl : a = N := by omega
    exact .nil
  | k + 1, a, h1, h2 => by
    rw [toksC]
    split
    · rename_i e
      have ht := tokC_is f N a
      exact .cons e ht (toksC_is f N k _ (ht.fits e) (by have := ht.size_pos; omega))
    · rename_i e
      obtain rfl : a = N := by omega
      exact .nil
theorem toks_eq {l : List Nat} {ts : List Tk} (h : Toks (fb l) l.length 0 ts) : ts = toksC (fb l) l.length l.length 0 :=
  h.uniq (toksC_is _ _ _ _ (by omega) (by omega))

/-- What stands twice. -/
theorem tok_twice {f : Nat → Nat} {n a : Nat} {t : Tk} (h : IsTok f (2 * n) a t) (h0 : t.n = 0) (ha : n ≤ a) (haN : a < 2 * n) (hn : n ≤ 32768) (hf : ∀ i, i < n → f (i + n) = f i) : 2 * n ≤ a + 2 := by
  rcases h with ⟨rfl, h⟩ | ⟨m, d, rfl, h1, -⟩
  · have hr : IsRun f a n (mo (2 * n) a) (mo (2 * n) a) := ⟨Nat.le_refl _, fun j hj => by
      have hm : mo (2 * n) a ≤ 2 * n - a := Nat.min_le_right _ _
      have := hf (a + j - n) (by omega)
      rwa [show a + j - n + n = a + j by omega] at this, fun h => by omega⟩
    have := h n _ (by omega) hn ha hr
    unfold mo at this
    omega
  · simp at h0; omega
/-- A row of one byte. -/
theorem tok_row {f : Nat → Nat} {N a c : Nat} {t : Tk} (h : IsTok f N a t) (ha : a < N) (hf : ∀ i, i < N → f i = c) : t = if 0 < a ∧ 3 ≤ N - a then ⟨0, ((min (N - a) 258 : Nat) : Int), 1⟩ else ⟨c, 0, 0⟩ := by
  have hm : mo N a ≤ N - a := Nat.min_le_right _ _
  split
  · rename_i e
    refine h.uniq (.inr ⟨min (N - a) 258, 1, rfl, by omega, Nat.le_refl _, by omega, by omega, ⟨by unfold mo; omega, fun j hj => ?_, fun h => ?_⟩, fun d' n' h1 h2 h3 h4 => ⟨?_, fun h => by omega⟩⟩)
    · rw [hf _ (by omega), hf _ (by omega)]
    · unfold mo at h; omega
    · have := h4.le; unfold mo at this; omega
  · rename_i e
    rw [← hf a ha]
    by_cases e' : 0 < a
    · exact h.uniq (IsTok.short (by unfold mo; omega))
    · exact h.uniq (.inl ⟨rfl, fun d n h1 h2 h3 => by omega⟩)
/-- No token could be a longer one. -/
theorem IsTok.longest {f : Nat → Nat} {N a : Nat} {t : Tk} (h : IsTok f N a t) (ha : a < N) :
    (0 < t.n → t.d ≤ (a : Int)) ∧ (0 < t.n → t.n < 258 → a + t.size < N → f (a + t.size) ≠ f (a + t.size - t.d.toNat)) ∧
    ∀ d k : Nat, 1 ≤ d → d ≤ 32768 → d ≤ a → (t.n = 0 ∨ (d : Int) < t.d) → IsRun f a d (mo N a) k → 3 ≤ k → ¬ t.n ≤ (k : Int) := by
  rcases h with ⟨rfl, h⟩ | ⟨n, d, rfl, h1, h2, h3, h4, h5, h6⟩
  · refine ⟨fun h => absurd h (by simp), fun h => absurd h (by simp), fun d k k1 k2 k3 _ k5 k6 => ?_⟩
    have := h d k k1 k2 k3 k5
    omega
  · have hs : Tk.size ⟨0, (n : Int), (d : Int)⟩ = n := by simp [Tk.size]; omega
    rw [hs]
    refine ⟨fun _ => by simpa using h4, fun _ g1 g2 => ?_, fun d' k k1 k2 k3 k4 k5 k6 => ?_⟩
    · have := h5.ne (by unfold mo; simp at g1; omega)
      simpa using this
    · have := (h6 d' k k1 k2 k3 k5).2 (by rcases k4 with k4 | k4 <;> simp at k4 <;> omega)
      simp; omega
theorem IsTok.len {f : Nat → Nat} {N a : Nat} {t : Tk} (h : IsTok f N a t) : t.n = 0 ∨ (3 ≤ t.n ∧ t.n ≤ 258) := by
  rcases h with ⟨rfl, h⟩ | ⟨n, d, rfl, h1, h2, h3, h4, h5, h6⟩
  · exact .inl rfl
  · have := h5.le
    unfold mo at this
    exact .inr (by simp; omega)

/-- So many repetitions of the one byte ahead. -/
theorem xp_reps (c : Nat) : ∀ k o, 1 ≤ o → o + 258 * k ≤ 524288 → xp (List.replicate k ⟨0, 258, 1⟩) (List.replicate o c) = (List.replicate (o + 258 * k) c, 0)
  | 0, o, _, _ => rfl
  | k + 1, o, h0, h => by
    have he : tkErr ⟨0, 258, 1⟩ (List.replicate o c).length = 0 := by
      unfold tkErr
      rw [if_neg (by simp [Tk.okB]; omega), if_neg (by simp [Tk.size]; omega)]
    have key : ∀ n o, 1 ≤ o → rpt 1 n (List.replicate o c) = List.replicate (o + n) c := by
      intro n
      induction n with
      | zero => intro o _; rfl
      | succ n ih =>
        intro o ho
        have e : (List.replicate o c).getD ((List.replicate o c).length - 1) 0 = c := by
          rw [List.getD_eq_getElem?_getD, List.getElem?_replicate, List.length_replicate, if_pos (by omega)]; rfl
        rw [rpt, e, ← List.replicate_succ', ih _ (by omega), show o + 1 + n = o + (n + 1) by omega]
    have ht : tellT ⟨0, 258, 1⟩ (List.replicate o c) = List.replicate (o + 258) c := by
      unfold tellT
      rw [if_neg (by decide)]
      exact key 258 o h0
    rw [List.replicate_succ, xp_cons_ok he, ht, xp_reps c k (o + 258) (by omega) (by omega), show o + 258 + 258 * k = o + 258 * (k + 1) by omega]

end Go.Proofs.YtebfdoipogjpnaaGreat

/- Tokens compared; bytes as strings; the statements' example. -/
namespace Go.Proofs.YtebfdoipogjpnaaGreat
open Go.RowKit

theorem tk_stood : Tryz.prog.stoodInHeld 74 = false := by kernel_rfl
theorem tk_guard : Tryz.prog.eqGuardType Tryz.prog.depth 74 = false := by kernel_rfl
theorem tk_fields : Tryz.prog.underlying 74 = some (.struct (Tryz.prog.fieldsOf 74)) := by kernel_rfl
/-- Are tokens' cells alike? -/
def eqT (b n d b' n' d' : Int) : Bool := decide (b = b' ∧ n = n' ∧ d = d')
theorem guard_tk (op : BinOp) (x y : Operand) (xs ys : Array Value) (w : World) : (eqGuard op 74 x y (.agg xs) (.agg ys)).run Tryz.prog w = .ok () w := run_eqGuard_agg _ _ _ _ _ _ _ tk_guard
theorem equalIn_tk (b n d b' n' d' : Int) (w : World) : (Op.equalIn 10000 74 (.agg #[.int .u8 b, .int .i64 n, .int .i64 d]) (.agg #[.int .u8 b', .int .i64 n', .int .i64 d'])).run Tryz.prog w = .ok (eqT b n d b' n' d') w := by
  rw [show (10000 : Nat) = 9999 + 1 from rfl, run_equalIn_agg w 9999 _ _ _ tk_fields tk_stood]
  simp [go_sem, Op.eqFields]
  by_cases h1 : b = b' <;> by_cases h2 : n = n' <;> by_cases h3 : d = d' <;> simp [eqT, h1, h2, h3]
theorem eql_tk (b n d b' n' d' : Int) (w : World) : (binOp .eql 74 (.agg #[.int .u8 b, .int .i64 n, .int .i64 d]) (.agg #[.int .u8 b', .int .i64 n', .int .i64 d'])).run Tryz.prog w = .ok (.bool (eqT b n d b' n' d')) w := by
  rw [run_eql_struct, equalIn_tk]; rfl
theorem neq_tk (b n d b' n' d' : Int) (w : World) : (binOp .neq 74 (.agg #[.int .u8 b, .int .i64 n, .int .i64 d]) (.agg #[.int .u8 b', .int .i64 n', .int .i64 d'])).run Tryz.prog w = .ok (.bool (!eqT b n d b' n' d')) w := by
  rw [run_neq_struct, equalIn_tk]; rfl
theorem eqT_self (b n d : Int) : eqT b n d b n d = true := by simp [eqT]

/-- Bytes as a string. -/
def strN (l : List Nat) : ByteArray := strOfNums (l.map fun (b : Nat) => (b : Int))
theorem str_row {w : World} {v : Value} {l : List Nat} (h : Row enc8 1 w v l) : (convert 22 9 v).run Tryz.prog w = .ok (.string (strN l)) w := by
  obtain ⟨p, c, rfl, -, -, hr⟩ := h
  rcases hr with ⟨rfl, rfl⟩ | ⟨b, off, rfl, -, hr⟩
  · exact run_convert_bytes_nil w 22 5 Tryz.underlying22 Tryz.underlying5 _ _ 9 Tryz.underlying9
  · refine run_convert_bytes_arg w 22 5 Tryz.underlying22 Tryz.underlying5 b off l.length c _ (by simp) (fun i hi => ?_) 9 Tryz.underlying9
    have := hr i l[i] (List.getElem?_eq_getElem hi) 0 _ rfl
    rw [Nat.mul_one, Nat.add_zero] at this
    rw [this]
    simp [List.getD_eq_getElem?_getD, List.getElem?_eq_getElem hi]
    rfl
theorem strN_inj {l l' : List Nat} (h : ∀ b ∈ l, b < 256) (h' : ∀ b ∈ l', b < 256) (e : strN l = strN l') : l = l' := by
  have e1 := congrArg (fun s : ByteArray => s.data.toList) e
  simp only [strN, strOfNums_data, List.map_map] at e1
  have key : ∀ (l : List Nat), (∀ b ∈ l, b < 256) → (l.map ((fun n : Int => UInt8.ofNat n.toNat) ∘ fun b : Nat => (b : Int))).map UInt8.toNat = l := by
    intro l hl
    rw [List.map_map]
    conv => rhs; rw [← List.map_id l]
    refine List.map_congr_left (fun b hb => ?_)
    have := hl b hb
    simp; omega
  rw [← key l h, ← key l' h', e1]

theorem OwnT.row {w : World} {base : Nat} {v : Value} {ts : List Tk} (h : OwnT w base v ts) : Row encT 3 w v ts := owns_row' encT_len h
theorem Row.own8 {w : World} {base : Nat} {v : Value} {l : List Nat} (h : w.ownsRow base 5 1 v l.length (l.map u8v)) : Row enc8 1 w v l := (Rw8.own h rfl).row
/-- The cells of a row of tokens. -/
theorem Row.tok {w : World} {v : Value} {ts : List Tk} (h : Row encT 3 w v ts) : ∃ p c, v = .slice p ts.length c ∧ ∀ k (hk : k < ts.length), ∃ b off, p = some ⟨b, off, none⟩ ∧ w.cell? ⟨b, off + k * 3, none⟩ = some (.int .u8 (ts[k].b : Int)) ∧ w.cell? ⟨b, off + k * 3 + 1, none⟩ = some (.int .i64 ts[k].n) ∧ w.cell? ⟨b, off + k * 3 + 2, none⟩ = some (.int .i64 ts[k].d) := by
  obtain ⟨p, c, e, -, -, hr⟩ := h
  exact ⟨p, c, e, fun k hk => hr.tok hk⟩
theorem row_litT (w : World) (ts : List Tk) (h : ts.length ≤ 1048576) : Row encT 3 (w.alloc (.cells (ts.flatMap encT).toArray 74)) (.slice (some ⟨w.heap.size, 0, none⟩) ts.length ts.length) ts := by
  have hl : (ts.flatMap encT).length = ts.length * 3 := by
    induction ts with
    | nil => rfl
    | cons t r ih => rw [List.flatMap_cons, List.length_append, ih (by simp at h; omega), encT_len, List.length_cons]; omega
  have := World.ownsRow_lit (base := 0) (size := 3) (e := 74) w (ts.flatMap encT).toArray ts.length (Nat.zero_le _) (by simp only [maxLen]; omega) (by simpa using hl)
  exact owns_row' encT_len this

theorem ex_toks : toksC (fb [97, 98, 99, 97, 98, 99, 97, 98, 99, 100]) 10 10 0 = [⟨97, 0, 0⟩, ⟨98, 0, 0⟩, ⟨99, 0, 0⟩, ⟨0, 6, 3⟩, ⟨100, 0, 0⟩] := by kernel_rfl
theorem ex_xp : xp [⟨97, 0, 0⟩, ⟨0, 3, 1⟩] [] = ([97, 97, 97, 97], 0) := by decide +kernel
theorem ex_str : strN [97, 97, 97, 97] = { data := #[97, 97, 97, 97] } := by decide +kernel

theorem row_mark8 (w : World) (ls : List Nat) (fr : Nat × Nat) (h : ls.length ≤ 1048576) : Row enc8 1 (w.alloc (.cells (ls.map u8v).toArray 5 fr)) (.slice (some ⟨w.heap.size, 0, none⟩) ls.length ls.length) ls := by
  refine ⟨_, _, rfl, Nat.le_refl _, by simp only [maxLen]; omega, .inr ⟨w.heap.size, 0, rfl, by rw [World.size_alloc]; omega, fun i x hi j u hu => ?_⟩⟩
  have hj : j = 0 := by
    have := (List.getElem?_eq_some_iff.1 hu).1
    rw [enc8_len] at this; omega
  subst hj
  rw [Nat.zero_add, Nat.mul_one, Nat.add_zero, World.cell?_alloc_mark]
  simp only [enc8, List.getElem?_cons_zero, Option.some.injEq] at hu
  simp [hi, ← hu]

end Go.Proofs.YtebfdoipogjpnaaGreat

/- deflate: Deflate. -/
namespace Go.Proofs.YtebfdoipogjpnaaGreat
open Go.RowKit Go.Maps

theorem toks_256 {b : List Nat} {ts : List Tk} (h : Toks (fb b) b.length 0 ts) (hb : ∀ x ∈ b, x < 256) : ∀ t ∈ ts, t.b < 256 := fun t ht => by
  obtain ⟨i, hi, rfl⟩ := List.getElem_of_mem ht
  obtain ⟨a, -, -, h2, -⟩ := h.at hi
  exact h2.byte (fb_lt hb)

set_option maxRecDepth 20000 in
set_option maxHeartbeats 4000000 in
theorem deflate_any (v : Value) (b : List Nat) (w : World) (hv : Rw8 w v b) (hby : ∀ x ∈ b, x < 256) (hl : b.length ≤ 524288) :
    Calls Tryz.prog 9 #[v] w fun e w' => ∃ v' S, e = .returned (.tuple #[v', .int .i64 0]) ∧ DefS b S ∧ S.length ≤ 1048576 ∧ w'.ownsRow w.heap.size 5 1 v' S.length (S.map u8v) ∧ Below w.heap.size w w' := by
  have Hv := Lib.hid hv
  have Hby := Lib.hid hby
  have Hl := Lib.hid hl
  obtain ⟨p, c, rfl, -⟩ := hv.cells
  have hM := Lib.hid (match_any b _ w hv.row hby (by omega))
  obtain ⟨nb, hnb⟩ : ∃ n, b.length = n := ⟨_, rfl⟩
  have Hnb := Lib.hid hnb
  rw [hnb] at hl hM Hv ⊢
  have d0 : decide ((nb : Int) > 524288) = false := by simp; omega
  clear hv hby hnb
  go_enter Tryz.func9, Tryz.ntmps9
  go_wp2_with fail
  refine Calls.mono hM.out ?_
  rintro _ w1 ⟨vt, ts, rfl, ho1, ht1, hb1⟩
  replace ht1 : Toks (fb b) b.length 0 ts := by rw [Hnb.out]; exact ht1
  have Ht1 := Lib.hid ht1
  obtain ⟨pt, ct, e, -, -, hrt⟩ := ho1.row
  subst e
  have Hrt := Lib.hid hrt
  have H256 : Hid (∀ t ∈ ts, t.b < 256) := Lib.hid (toks_256 ht1 Hby.out)
  have Hb1 := Lib.hid hb1
  clear ho1 ht1 hb1 hrt hM
  obtain ⟨nt, hnt⟩ : ∃ n, ts.length = n := ⟨_, rfl⟩
  have Hnt := Lib.hid hnt
  rw [hnt]
  clear hnt
  go_upto_region 4 with (fail)
  have hb2 := Below.al1 w1 (.cells #[.slice p nb c, .slice pt nt ct] 53)
  have hz2 := World.alloc_heap_new w1 (.cells #[.slice p nb c, .slice pt nt ct] 53)
  generalize w1.alloc (.cells #[.slice p nb c, .slice pt nt ct] 53) = w2 at *
  have hst := tstream_any p c b pt ct ts w2 (by rw [Hnb.out]; exact Hv.out.below (Below.thn Hb1.out hb2)) Hby.out Hl.out (Hrt.out.turns (T := fun _ => False) (Turns.of_below' hb2) fun _ _ h => h) Ht1.out H256.out
  rw [Hnb.out, Hnt.out] at hst
  have Hst := Lib.hid hst
  have Hb2 := Lib.hid (Below.thn Hb1.out hb2)
  have y0 : w2.cell? ⟨w1.heap.size, 0, none⟩ = some (.slice p nb c) := cell_heap hz2 rfl
  have y1 : w2.cell? ⟨w1.heap.size, 1, none⟩ = some (.slice pt nt ct) := cell_heap hz2 rfl
  clear hst hb2 hz2 hl
  go_wp2_with fail
  refine Calls.mono Hst.out ?_
  rintro _ w3 ⟨B, sv, P, rfl, hw, hm, hf, hb3⟩
  have Hw := Lib.hid (wbytes_any (B + 1) B (nmP P) (szP P) sv w3 hw hm)
  have Hb3 := Lib.hid (Below.thn Hb2.out hb3)
  have hlen := bytP_len P
  have HS : Hid (DefS b (bytP P) ∧ (bytP P).length ≤ 1048576) := Lib.hid ⟨by
    obtain ⟨Q, h1, rfl⟩ := hf.last
    exact ⟨ts, Q, Ht1.out, H256.out, h1, rfl⟩, by omega⟩
  clear hw hf hb3 hm hlen Hst y0 y1
  go_wp2_with fail
  refine Calls.mono Hw.out ?_
  rintro _ w4 ⟨v4, rfl, ho4, hb4⟩
  have Ho4 : Hid (w4.ownsRow w.heap.size 5 1 v4 (bytP P).length ((bytP P).map u8v)) := Lib.hid (owns_lower ho4 Hb3.out.size)
  have Hb4 := Lib.hid (Below.thn Hb3.out hb4)
  obtain ⟨p4, c4, rfl⟩ := owns_slice ho4
  clear ho4 hb4 Hw
  go_wp2
  go_ret2
  exact ⟨_, bytP P, rfl, HS.out.1, HS.out.2, Ho4.out, Hb4.out⟩

end Go.Proofs.YtebfdoipogjpnaaGreat

/- inflate: bytes as strings; the statements' example, walked. -/
namespace Go.Proofs.YtebfdoipogjpnaaGreat
open Go.RowKit Go.Maps

/-- Bytes as a string. -/
def strI (l : List Nat) : ByteArray := strOfNums (l.map fun (b : Nat) => (b : Int))
theorem strI_row {w : World} {v : Value} {l : List Nat} (h : Row enc8 1 w v l) : (convert 22 9 v).run Tryz.prog w = .ok (.string (strI l)) w := by
  obtain ⟨p, c, rfl, -, -, hr⟩ := h
  rcases hr with ⟨rfl, rfl⟩ | ⟨b, off, rfl, -, hr⟩
  · exact run_convert_bytes_nil w 22 5 Tryz.underlying22 Tryz.underlying5 _ _ 9 Tryz.underlying9
  · refine run_convert_bytes_arg w 22 5 Tryz.underlying22 Tryz.underlying5 b off l.length c _ (by simp) (fun i hi => ?_) 9 Tryz.underlying9
    have := hr i l[i] (List.getElem?_eq_getElem hi) 0 _ rfl
    rw [Nat.mul_one, Nat.add_zero] at this
    rw [this]
    simp [List.getD_eq_getElem?_getD, List.getElem?_eq_getElem hi]
    rfl
theorem strI_app (a b : List Nat) : strI (a ++ b) = strI a ++ strI b := by
  have h : (strI (a ++ b)).data = (strI a ++ strI b).data := by
    apply Array.ext'
    simp [strI, strOfNums_data, ByteArray.data_append]
  cases h1 : strI (a ++ b) with
  | mk d =>
    cases h2 : strI a ++ strI b with
    | mk d2 => rw [h1, h2] at h; simp only at h; rw [h]
theorem abc_str : strI [97, 98, 99] = { data := #[97, 98, 99] } := by decide +kernel

end Go.Proofs.YtebfdoipogjpnaaGreat

/- deflate: more bytes than a body may have; the statements' example, walked. -/
namespace Go.Proofs.YtebfdoipogjpnaaGreat
open Go.RowKit Go.Maps

set_option maxHeartbeats 1000000 in
theorem deflate_long (p : Option Addr) (n c : Nat) (w : World) (h : 524288 < n) :
    Calls Tryz.prog 9 #[.slice p n c] w fun e w' => e = .returned (.tuple #[.slice none 0 0, .int .i64 2]) ∧ w' = w := by
  have d0 : decide ((n : Int) > 524288) = true := by simp; omega
  go_enter Tryz.func9, Tryz.ntmps9
  go_wp2
  go_ret2
  exact ⟨rfl, rfl⟩

def abcT : List Tk := [⟨97, 0, 0⟩, ⟨98, 0, 0⟩, ⟨99, 0, 0⟩]
theorem abc_toks : Toks (fb [97, 98, 99]) 3 0 abcT := by
  have h := toksC_is (fb [97, 98, 99]) 3 3 0 (by decide) (by decide)
  have e : toksC (fb [97, 98, 99]) 3 3 0 = abcT := by kernel_rfl
  rwa [e] at h
theorem abc_sz : szP (fixP abcT) = 34 := by decide +kernel
theorem abc_small {S : List Nat} (h : DefS [97, 98, 99] S) : S.length ≤ 5 := by
  have := (h.small (ts := abcT) abc_toks).2
  rw [abc_sz] at this
  omega

set_option maxRecDepth 20000 in
set_option maxHeartbeats 2000000 in
theorem dlays_law (w : World) : Makes Tryz.prog 11 #[] w (.bool true) := by
  unfold Makes
  have hcs := fun (w : World) (C : Array Value) (n c : Nat) => Lib.run_convert_bytes_const (P := Tryz.prog) w 22 5 C n c Tryz.underlying22 Tryz.underlying5
  go_enter Tryz.func11, Tryz.ntmps11
  go_wp2_with fail
  have hr1 := row_mark8 w [97, 98, 99] (3, 4) (by decide)
  refine Calls.mono (deflate_any _ [97, 98, 99] _ ⟨hr1, fun c h => by cases h⟩ (by decide) (by decide)) ?_
  rintro e w1 ⟨v1, S, rfl, hS, hm, ho, hb⟩
  have HS := Lib.hid (And.intro hS hm)
  have Hb1 := Lib.hid (Below.thn (Below.al1 w _) hb)
  have Hr := Lib.hid (Rw8.own ho rfl)
  have h5 := abc_small hS
  obtain ⟨p1, c1, rfl⟩ := owns_slice ho
  obtain ⟨n, hn⟩ : ∃ n, S.length = n := ⟨_, rfl⟩
  have Hn := Lib.hid hn
  rw [hn] at h5
  have d5 : decide ((n : Int) ≤ 5) = true := by simp; omega
  have d5' : decide (n ≤ 5) = true := by simp; omega
  rw [hn] at Hr ⊢
  clear hr1 ho hb hS hm hn
  go_wp2_with fail
  refine Calls.mono (infl_any _ S 3 _ Hr.out HS.out.1.lt (by have := HS.out.2; omega)) ?_
  rintro e w2 ⟨o, k, er, ov, hi, rfl, ho, hb⟩
  have hfin := HS.out.1.infl (by decide) (by decide) [] (lim := 3) (by decide) (by decide)
  rw [List.append_nil] at hfin
  obtain ⟨rfl, rfl, rfl⟩ := hi.det hfin
  have hstr := strI_row (Rw8.own ho rfl).row
  rw [abc_str] at hstr
  obtain ⟨p, c, rfl⟩ := owns_slice ho
  have Hb := Lib.hid (Below.thn Hb1.out hb)
  have hn := Hn.out
  rw [hn]
  clear hi ho hb hfin Hr hn
  simp only [List.length_cons, List.length_nil, Nat.zero_add, Nat.reduceAdd] at *
  go_wp2
  go_ret
  exact ⟨rfl, Hb.out⟩

end Go.Proofs.YtebfdoipogjpnaaGreat
