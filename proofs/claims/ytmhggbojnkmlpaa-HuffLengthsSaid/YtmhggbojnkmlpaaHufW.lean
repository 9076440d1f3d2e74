/- The document's Least. -/
import Derived.Test.YtmhggbojnkmlpaaHufV
namespace Go.Proofs.Ytmhggbojnkmlpaa
open Go.RowKit

/-- The frequencies above nought of the first k. -/
def coinsK (fs : List Int) (k : Nat) : List Nat := ((List.range k).map (fq fs)).filter fun c => decide (0 < c)
theorem coinsK_succ (fs : List Int) (k : Nat) : coinsK fs (k + 1) = coinsK fs k ++ (if 0 < fq fs k then [fq fs k] else []) := by
  unfold coinsK
  rw [List.range_succ, List.map_append, List.filter_append]
  congr 1
  by_cases h : 0 < fq fs k <;> simp [h]
theorem coinsK_len (fs : List Int) (k : Nat) : (coinsK fs k).length = many k (fq fs) := coins_len k (fq fs)
theorem coinsK_le {fs : List Int} (h : ∀ f ∈ fs, 0 ≤ f ∧ f ≤ 1099511627776) {k : Nat} (hk : k ≤ fs.length) : ∀ c ∈ coinsK fs k, c ≤ 1099511627776 := fun c hc => by
  obtain ⟨h1, -⟩ := List.mem_filter.1 hc
  obtain ⟨i, hi, rfl⟩ := List.mem_map.1 h1
  have hi' : i < fs.length := Nat.lt_of_lt_of_le (List.mem_range.1 hi) hk
  have h2 := h fs[i] (List.getElem_mem hi')
  have h3 := fq_at hi' h2.1
  omega

theorem pairN_get : ∀ (l : List Nat) (j : Nat) (h : 2 * j + 1 < l.length), (pairN l).take (j + 1) = (pairN l).take j ++ [l[2 * j] + l[2 * j + 1]]
  | [], j, h => by simp at h
  | [_], j, h => by simp at h
  | a :: b :: r, 0, h => by simp [pairN]
  | a :: b :: r, j + 1, h => by
    have := pairN_get r j (by simp only [List.length_cons] at h; omega)
    simp only [pairN, List.take_succ_cons, this, List.cons_append]
    congr 3

theorem RowN.len_le {coins : List Nat} : ∀ {j : Nat} {P : List Nat}, RowN coins j P → P.length ≤ 2 * coins.length
  | 0, _, h => by subst h; simp
  | j + 1, P, ⟨Q, hQ, _, hp⟩ => by
    have h1 := RowN.len_le hQ
    have h2 := hp.length_eq
    rw [List.length_append, pairN_len] at h2
    omega
theorem pairN_mem : ∀ (l : List Nat), ∀ c ∈ pairN l, ∃ a b, c = a + b ∧ a ∈ l ∧ b ∈ l
  | [], c, h => by simp [pairN] at h
  | [_], c, h => by simp [pairN] at h
  | a :: b :: r, c, h => by
    rcases List.mem_cons.1 h with rfl | h
    · exact ⟨a, b, rfl, by simp, by simp⟩
    · obtain ⟨x, y, e, hx, hy⟩ := pairN_mem r c h
      exact ⟨x, y, e, by simp [hx], by simp [hy]⟩
theorem RowN.le {coins : List Nat} {C : Nat} (hc : ∀ c ∈ coins, c ≤ C) : ∀ {j : Nat} {P : List Nat}, RowN coins j P → ∀ c ∈ P, c ≤ C * 2 ^ j
  | 0, _, h, c, hm => by subst h; cases hm
  | j + 1, P, ⟨Q, hQ, _, hp⟩, c, hm => by
    have h2 : C * 2 ^ (j + 1) = C * 2 ^ j + C * 2 ^ j := by rw [Nat.pow_succ, ← Nat.mul_assoc]; omega
    rcases List.mem_append.1 (hp.mem_iff.1 hm) with h | h
    · have := hc c h
      have h3 : C * 1 ≤ C * 2 ^ (j + 1) := Nat.mul_le_mul_left C (pow_pos2 _)
      omega
    · obtain ⟨a, b, rfl, ha, hb⟩ := pairN_mem _ c h
      have h3 := RowN.le hc hQ a ha
      have h4 := RowN.le hc hQ b hb
      omega
theorem sum_le (B : Nat) : ∀ l : List Nat, (∀ c ∈ l, c ≤ B) → l.sum ≤ l.length * B
  | [], _ => by simp
  | a :: l, h => by
    have h1 := sum_le B l (fun c hc => h c (List.mem_cons_of_mem _ hc))
    have h2 := h a (List.mem_cons_self ..)
    simp only [List.sum_cons, List.length_cons, Nat.add_mul]
    omega

/-- What Least's rounds hold. -/
structure LstInv (fs : List Int) (w wr : World) (r : Nat) (v : Value) (P : List Nat) : Prop where
  row : RowN (coinsK fs fs.length) r P
  own : OwnN wr w.heap.size v P
  below : Below w.heap.size w wr

set_option maxRecDepth 20000 in
set_option maxHeartbeats 4000000 in
theorem least_any (fs : List Int) (v : Value) (L : Nat) (w : World) (hv : Row encZ 1 w v fs) (hlen : fs.length ≤ 60) (hL : L ≤ 15) (hL1 : 1 ≤ L) (hf : ∀ f ∈ fs, 0 ≤ f ∧ f ≤ 1099511627776) (hm1 : 1 ≤ many fs.length (fq fs)) (hm : many fs.length (fq fs) ≤ 2 ^ L) :
    Calls Try.prog 14 #[v, .int .i64 (L : Int)] w fun e w' => ∃ P, e = .returned (.int .i64 (((P.take (2 * many fs.length (fq fs) - 2)).sum : Nat) : Int)) ∧ RowN (coinsK fs fs.length) L P ∧ Below w.heap.size w w' := by
  obtain ⟨p, c, rfl, -, -, hrow⟩ := hv
  have Hrow := Lib.hid hrow
  have Hf := Lib.hid hf
  have Hm := Lib.hid hm
  have Hm1 := Lib.hid hm1
  obtain ⟨i0, hi0, hz0, hz1, hz2⟩ := info_parts int_infoN
  clear hrow hf hm hm1
  go_enter Try.func14, Try.ntmps14
  go_wp2
  go_loopw [5, 6, 7] (fun av nv rv wr => ∃ (r n : Nat) (P : List Nat), nv = .int .i64 (n : Int) ∧ rv = .int .i64 (r : Int) ∧ r ≤ L ∧ Hid (0 < r → n = many fs.length (fq fs)) ∧ Hid (LstInv fs w wr r av P)) (fun _ _ rv _ => L - (intOf rv).toNat)
  case atStart => exact ⟨0, 0, [], rfl, rfl, Nat.zero_le _, Lib.hid (fun h => by omega), Lib.hid ⟨rfl, World.ownsRow_nil _ _ _ _, Below.refl _ _⟩⟩
  case round =>
    obtain ⟨r, n, P, rfl, rfl, hr, Hn, HI⟩ := hrel
    obtain ⟨pa, ca, rfl⟩ := owns_slice HI.out.own
    by_cases hrL : r < L
    · have d0 : decide (r < L) = true := by simpa using hrL
      generalize wr = W1 at *
      go_wp2
      go_loopw [6, 8, 9] (fun nv xv iv ws => ∃ (i m : Nat), nv = .int .i64 (m : Int) ∧ iv = .int .i64 (i : Int) ∧ i ≤ fs.length ∧ m ≤ 60 ∧ Hid (m = many i (fq fs) ∧ OwnN ws W1.heap.size xv (coinsK fs i) ∧ Below W1.heap.size W1 ws)) (fun _ _ iv _ => fs.length - (intOf iv).toNat)
      case atStart => exact ⟨0, 0, rfl, rfl, Nat.zero_le _, by omega, Lib.hid ⟨rfl, World.ownsRow_nil _ _ _ _, Below.refl _ _⟩⟩
      case round =>
        obtain ⟨i, m, rfl, rfl, hi, hm60, HJ⟩ := hrel
        obtain ⟨px, cx, rfl⟩ := owns_slice HJ.out.2.1
        by_cases hin : i < fs.length
        · obtain ⟨g, off, rfl, hcell⟩ := Hrow.out.int hin
          have hcx := cell_later (Below.thn HI.out.below HJ.out.2.2) hcell
          rw [fq_at hin (Hf.out _ (List.getElem_mem hin)).1] at hcx
          have Hsucc := Lib.hid (coinsK_succ fs i)
          have Hmany := Lib.hid (many_succ (fq fs) i)
          obtain ⟨x, hx⟩ : ∃ x, fq fs i = x := ⟨_, rfl⟩
          rw [hx] at hcx Hsucc Hmany
          have k0 : (0 : Int) ≤ (i : Int) := by omega
          have k1 : (i : Int) < (fs.length : Int) := by omega
          have d1 : decide (i < fs.length) = true := by simpa using hin
          have Hml : Hid (m ≤ i) := Lib.hid (by rw [HJ.out.1]; exact many_le _ _)
          have hm59 : m + 1 ≤ 60 := by have := Hml.out; omega
          clear hcell hx
          by_cases hx0 : 0 < x
          · have d2 : decide (0 < x) = true := by simpa using hx0
            have hs := HJ.out.2.2.size
            have hcl : (coinsK fs i).length = m := by rw [coinsK_len, HJ.out.1]
            have hbw := Lib.hid (show wr.ownsRow W1.heap.size 3 1 (.slice px m cx) m ((coinsK fs i).map nV) by have := HJ.out.2.1; unfold OwnN at this; rw [hcl] at this; exact this)
            rw [hcl]
            have Hcl := Lib.hid hcl
            clear hcl
            go_wp2_with (at_builtin; refine wpList_append_one wr rfl (.tmp 29) (.tmp 34) 22 rfl W1.heap.size 3 _ 8 int_infoN Try.underlying22 rfl (.slice px m cx) m ((coinsK fs i).map nV) rfl hbw.out (.int .i64 (x : Int)) _ rfl rfl ?n3 ?n4 hs ?_)
            case n3 => simp only [maxLen]; omega
            case n4 => omega
            intro g5 cap5 w5 hown5 ht5 hpl5
            have HJ5 : Hid (m + 1 = many (i + 1) (fq fs) ∧ OwnN w5 W1.heap.size (.slice (some ⟨g5, 0, none⟩) (m + 1) cap5) (coinsK fs (i + 1)) ∧ Below W1.heap.size W1 w5) := Lib.hid (by
              refine ⟨by rw [Hmany.out, if_pos hx0, ← HJ.out.1], ?_, HJ.out.2.2.trans (ht5.below hs (fun i e => (World.ownsRow.lt hbw.out i e).1))⟩
              unfold OwnN
              rw [Hsucc.out, if_pos hx0, List.length_append, Hcl.out, List.map_append]
              exact hown5)
            clear hown5 ht5 hpl5 hs
            go_wp2
            go_roundw
            case rel => exact ⟨i + 1, m + 1, by go_num, by go_num, by omega, hm59, HJ5⟩
            case measure => simp [intOf]; omega
          · have d2 : decide (0 < x) = false := by simpa using hx0
            have HJ5 : Hid (m = many (i + 1) (fq fs) ∧ OwnN wr W1.heap.size (.slice px (coinsK fs i).length cx) (coinsK fs (i + 1)) ∧ Below W1.heap.size W1 wr) := Lib.hid (by
              refine ⟨by rw [Hmany.out, if_neg hx0, ← HJ.out.1]; rfl, ?_, HJ.out.2.2⟩
              rw [Hsucc.out, if_neg hx0, List.append_nil]
              exact HJ.out.2.1)
            go_wp2
            go_roundw
            case rel => exact ⟨i + 1, m, rfl, by go_num, by omega, hm60, HJ5⟩
            case measure => simp [intOf]; omega
        · obtain rfl : i = fs.length := by omega
          have d1 : decide (fs.length < fs.length) = false := by simp
          generalize wr = W2 at *
          have HP := Lib.hid (HI.out.own.below HJ.out.2.2)
          have Hcl := Lib.hid (show (coinsK fs fs.length).length = m by rw [coinsK_len, HJ.out.1])
          have HPl : Hid (P.length ≤ 120) := Lib.hid (by
            have h1 := RowN.len_le HI.out.row
            rw [Hcl.out] at h1; omega)
          have HPb : Hid (∀ c ∈ P, c ≤ 36028797018963968) := Lib.hid (fun c hc => by
            have h1 := RowN.le (coinsK_le Hf.out (Nat.le_refl _)) HI.out.row c hc
            have h2 : 2 ^ r ≤ 2 ^ 15 := Nat.pow_le_pow_right (by decide) (by omega)
            have h3 : (2 : Nat) ^ 15 = 32768 := rfl
            rw [h3] at h2
            have h4 : 1099511627776 * 2 ^ r ≤ 1099511627776 * 32768 := Nat.mul_le_mul_left _ h2
            omega)
          have hpl := HPl.out
          go_wp2
          go_loopw [8, 10] (fun xv iv wt => ∃ (j : Nat), iv = .int .i64 (2 * (j : Int)) ∧ 2 * j ≤ P.length + 1 ∧ j ≤ 100 ∧ Hid (2 * j ≤ P.length ∧ OwnN wt W1.heap.size xv (coinsK fs fs.length ++ (pairN P).take j) ∧ Below W1.heap.size W1 wt)) (fun _ iv _ => 200 - (intOf iv).toNat)
          case atStart => exact ⟨0, rfl, by omega, by omega, Lib.hid ⟨by omega, by simpa using HJ.out.2.1, HJ.out.2.2⟩⟩
          case round =>
            obtain ⟨j, rfl, hj, hj100, HK⟩ := hrel
            obtain ⟨py, cy, rfl⟩ := owns_slice HK.out.2.1
            by_cases hjl : 2 * j + 1 < P.length
            · obtain ⟨u, hu⟩ : ∃ u, 2 * j = u := ⟨_, rfl⟩
              obtain ⟨v, hv⟩ : ∃ v, u + 1 = v := ⟨_, rfl⟩
              have hui : 2 * (j : Int) = (u : Int) := by omega
              have hvi : (u : Int) + 1 = (v : Int) := by omega
              have hPw := HI.out.own.below HK.out.2.2
              obtain ⟨q, hq, cu⟩ := own_ptrsN hPw rfl u (by omega)
              obtain ⟨q', hq', cv⟩ := own_ptrsN hPw rfl v (by omega)
              subst hq
              cases hq'
              have hget := pairN_get P j hjl
              have hxb := HPb.out P[u] (List.getElem_mem (by omega))
              have hyb := HPb.out P[v] (List.getElem_mem (by omega))
              obtain ⟨x, hx⟩ : ∃ x, P[u]'(by omega) = x := ⟨_, rfl⟩
              obtain ⟨y, hy⟩ : ∃ y, P[v]'(by omega) = y := ⟨_, rfl⟩
              have Hget : Hid ((pairN P).take (j + 1) = (pairN P).take j ++ [x + y]) := Lib.hid (by
                subst hv hu
                rw [hget, ← hx, ← hy])
              rw [hx] at cu hxb
              rw [hy] at cv hyb
              have hw : IntKind.i64.wrap ((x : Int) + (y : Int)) = (x : Int) + (y : Int) := IntWalk.i64_in _ (by omega)
              have hwv : IntKind.i64.wrap (v : Int) = (v : Int) := IntWalk.i64_in _ (by omega)
              obtain ⟨N, hN⟩ : ∃ N, (coinsK fs fs.length ++ (pairN P).take j).length = N := ⟨_, rfl⟩
              have hNb : N ≤ 200 := by
                rw [← hN, List.length_append, List.length_take, Hcl.out]; omega
              have Hown := Lib.hid (show wr.ownsRow W1.heap.size 3 1 (.slice py N cy) N ((coinsK fs fs.length ++ (pairN P).take j).map nV) by have := HK.out.2.1; unfold OwnN at this; rw [hN] at this; exact this)
              rw [hN]
              have HN := Lib.hid hN
              have hsz := HK.out.2.2.size
              have k0 : (0 : Int) ≤ (u : Int) := by omega
              have k1 : (v : Int) < (P.length : Int) := by omega
              have k2 : (u : Int) < (P.length : Int) := by omega
              have k3 : (0 : Int) ≤ (v : Int) := by omega
              have q1 := fun o => cell_later (Below.al1 wr o) cu
              have q2 := fun o => cell_later (Below.al1 wr o) cv
              have Huj := Lib.hid hu
              clear hget hx hy hPw hN hu
              go_upto_region 17 with (fail)
              go_region_law (refine step_append_lies _ (by rfl) (.tmp 45) (.tmp 56) 22 (by rfl) W1.heap.size 3 i0 _ 1 8 Try.underlying22 hi0 hz0 hz1 hz2 rfl (by decide) (.slice py N cy) N ((coinsK fs fs.length ++ (pairN P).take j).map nV) (by rfl) (hq_drew (Hown.out.alloc _)) _ 1 1 [.int .i64 ((x : Int) + (y : Int))] (by rfl) rfl (fun j u hu => hq_news _ _ [.int .i64 ((x : Int) + (y : Int))] j u hu) (by intro u hu; simp at hu; subst hu; rfl) (by decide) (by simp only [maxLen]; omega) (by omega) (by simp; omega) (wr.heap.size + 1) (by simp) ?_; intro g5 cap5 w5 hown5 hgr5 hpl5 hlt5)
              all_goals
                have HK5 : Hid (2 * (j + 1) ≤ P.length ∧ OwnN w5 W1.heap.size (.slice (some ⟨g5, 0, none⟩) (N + 1) cap5) (coinsK fs fs.length ++ (pairN P).take (j + 1)) ∧ Below W1.heap.size W1 w5) := Lib.hid (by
                  refine ⟨by omega, ?_, ?_⟩
                  · unfold OwnN
                    rw [Hget.out, ← List.append_assoc, List.length_append, HN.out, List.map_append (l₂ := [x + y])]
                    rw [show List.map nV [x + y] = [.int .i64 ((x : Int) + (y : Int))] by simp [nV]]
                    exact hown5
                  · exact HK.out.2.2.trans (((Below.al1 wr _).drew.mono hsz).trans ((Turns.of_grown (T := fun b => (Value.slice py N cy).ownBlock = some b) hgr5 (fun _ h => h)).below (by simp; omega) (fun i e => (World.ownsRow.lt Hown.out i e).1)))
                  )
                clear hown5 hgr5 hpl5 hlt5 q1 q2 cu cv
                go_wp2
                go_roundw
                case rel => exact ⟨j + 1, by go_num, by omega, by omega, HK5⟩
                case measure => simp [intOf]; omega
            · have hjh : (pairN P).take j = pairN P := List.take_of_length_le (by rw [pairN_len]; omega)
              have hni : ¬ (2 * (j : Int) + 1 < (P.length : Int)) := by omega
              have HK2 := Lib.hid HK.out.2
              rw [hjh] at HK2 ⊢
              have hnew := HK2.out.1.row
              rw [List.length_append] at hnew
              have Hnew := Lib.hid hnew
              clear hnew
              have hln : (coinsK fs fs.length ++ pairN P).length ≤ 4096 := by rw [List.length_append, pairN_len, Hcl.out]; omega
              have Hjh := Lib.hid hjh
              clear hjh HK
              go_wp2_with fail
              refine Calls.mono (rise_any (coinsK fs fs.length ++ pairN P) _ _ Hnew.out hln) ?_
              rintro e w9 ⟨v9, ys, rfl, h1, h2, h3, h4⟩
              have hb9 : Below w.heap.size w w9 := Below.thn (Below.thn HI.out.below HK2.out.2) h4
              have HI9 : Hid (LstInv fs w w9 (r + 1) v9 ys) := Lib.hid ⟨⟨P, HI.out.row, h2, h1⟩, hq_base h3 (Nat.le_trans HI.out.below.size HK2.out.2.size), hb9⟩
              have Hn9 : Hid (0 < r + 1 → m = many fs.length (fq fs)) := Lib.hid (fun _ => HJ.out.1)
              clear h1 h2 h3 h4 hb9
              go_wp2
              go_roundw
              case rel => exact ⟨r + 1, m, ys, rfl, by go_num, by omega, Hn9, HI9⟩
              case measure => simp [intOf]; omega
    · obtain rfl : r = L := by omega
      have d0 : decide (r < r) = false := by simp
      obtain ⟨q, hq⟩ : ∃ q, 2 * n - 2 = q := ⟨_, rfl⟩
      have hnm : n = many fs.length (fq fs) := Hn.out (by omega)
      have hmf := many_le (fq fs) fs.length
      have hn1 := Hm1.out
      have hqi : 2 * (n : Int) - 2 = (q : Int) := by omega
      have hn60 : n ≤ 60 := by omega
      have Hcl := Lib.hid (show (coinsK fs fs.length).length = n by rw [coinsK_len, hnm])
      have HPb : Hid (∀ c ∈ P, c ≤ 36028797018963968) := Lib.hid (fun c hc => by
        have h1 := RowN.le (coinsK_le Hf.out (Nat.le_refl _)) HI.out.row c hc
        have h2 : 2 ^ r ≤ 2 ^ 15 := Nat.pow_le_pow_right (by decide) (by omega)
        have h3 : (2 : Nat) ^ 15 = 32768 := rfl
        rw [h3] at h2
        have h4 : 1099511627776 * 2 ^ r ≤ 1099511627776 * 32768 := Nat.mul_le_mul_left _ h2
        omega)
      have hqP : q ≤ P.length := by
        obtain ⟨r', rfl⟩ : ∃ r', r = r' + 1 := ⟨r - 1, by omega⟩
        have h1 := RowN.enough HI.out.row (by rw [coinsK_len]; exact Hm.out) (by rw [coinsK_len]; exact Hm1.out)
        rw [Hcl.out] at h1
        omega
      have Hqn := Lib.hid (show 2 * many fs.length (fq fs) - 2 = q by omega)
      clear hnm hmf hn1 hq
      go_wp2
      go_loop [11, 12] (fun sv iv => ∃ (i t : Nat), sv = .int .i64 (t : Int) ∧ iv = .int .i64 (i : Int) ∧ i ≤ q ∧ t ≤ 4611686018427387904 ∧ Hid (t = (P.take i).sum)) (fun _ iv => q - (intOf iv).toNat)
      case atStart => exact ⟨0, 0, rfl, rfl, Nat.zero_le _, by omega, Lib.hid (by simp)⟩
      case round =>
        obtain ⟨i, t, rfl, rfl, hi, ht, Ht⟩ := hrel
        by_cases hiq : i < q
        · obtain ⟨g, hg, cg⟩ := own_ptrsN HI.out.own rfl i (by omega)
          subst hg
          have hxb := HPb.out P[i] (List.getElem_mem (by omega))
          have hsum : (P.take (i + 1)).sum = (P.take i).sum + P[i] := by
            rw [List.take_succ_eq_append_getElem (by omega), List.sum_append]; simp
          obtain ⟨x, hx⟩ : ∃ x, P[i]'(by omega) = x := ⟨_, rfl⟩
          rw [hx] at cg hxb hsum
          have Ht1 : Hid (t + x = (P.take (i + 1)).sum) := Lib.hid (by rw [hsum, ← Ht.out])
          have htb : t + x ≤ 4611686018427387904 := by
            rw [Ht1.out]
            have h5 := sum_le 36028797018963968 (P.take (i + 1)) (fun c hc => HPb.out c (List.mem_of_mem_take hc))
            rw [List.length_take] at h5
            have h6 : min (i + 1) P.length * 36028797018963968 ≤ 118 * 36028797018963968 := Nat.mul_le_mul_right _ (by omega)
            omega
          have k0 : (0 : Int) ≤ (i : Int) := by omega
          have k1 : (i : Int) < (P.length : Int) := by omega
          have d1 : decide (i < q) = true := by simpa using hiq
          clear hx hsum
          go_wp2
          go_round
          case rel => exact ⟨i + 1, t + x, by go_num, by go_num, by omega, htb, Ht1⟩
          case measure => simp [intOf]; omega
        · obtain rfl : i = q := by omega
          have d1 : decide (i < i) = false := by simp
          go_wp2
          go_ret
          exact ⟨P, by rw [Hqn.out, ← Ht.out]; rfl, HI.out.row, HI.out.below⟩

end Go.Proofs.Ytmhggbojnkmlpaa
