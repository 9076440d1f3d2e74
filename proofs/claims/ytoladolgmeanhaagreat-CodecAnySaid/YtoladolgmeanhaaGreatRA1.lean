/- Several texts in one, each with its own head. -/
import Derived.Test.YtoladolgmeanhaaGreatQc46
import Derived.WalkKit
import Derived.Lib.Hide
namespace Go.Proofs.YtoladolgmeanhaaGreat
theorem byts_lt : ∀ (N m : Nat), ∀ b ∈ byts N m, b < 256
  | _, 0, b, h => by cases h
  | N, m + 1, b, h => by
    rcases List.mem_cons.1 h with rfl | h
    · omega
    · exact byts_lt _ m b h
theorem numB_byts : ∀ (N m : Nat), N < 256 ^ m → numB (byts N m) = N
  | N, 0, h => by simp at h; subst h; rfl
  | N, m + 1, h => by
    rw [byts, numB, numB_byts (N / 256) m (by rw [Nat.pow_succ] at h; exact Nat.div_lt_of_lt_mul (by rwa [Nat.mul_comm]))]
    omega
theorem rlay_rgo : ∀ (r : List Nat) (n c : Nat), rlay (rgo n c r) = List.replicate n c ++ r.map rlw
  | [], n, c => by show List.replicate n c ++ [] = _; rfl
  | x :: r, n, c => by
    unfold rgo
    split
    · rename_i h
      rw [rlay_rgo r, List.replicate_succ', List.append_assoc, List.map_cons, h.1]
      rfl
    · rw [rlay_cons, rlay_rgo r]
      rfl
theorem rlay_rl (l : List Nat) : rlay (rlO l) = l.map rlw := by
  cases l with
  | nil => rfl
  | cons x r => show rlay (rgo 1 (rlw x) r) = _; rw [rlay_rgo]; rfl
/- Two rows are no more runs than both. -/
theorem rgo_near : ∀ (b : List Nat) (c : Nat), (∀ n m, (rgo m c b).length ≤ (rgo n c b).length + 1) ∧ ∀ n m, n ≤ m → (rgo n c b).length ≤ (rgo m c b).length
  | [], c => ⟨fun _ _ => by simp [rgo], fun _ _ _ => by simp [rgo]⟩
  | x :: b, c => by
    obtain ⟨A, B⟩ := rgo_near b c
    have B0 : rlw x = c → ∀ m, (rgo 1 (rlw x) b).length ≤ (rgo (m + 1) c b).length := fun h m => by rw [h]; exact B 1 (m + 1) (by omega)
    have A0 : rlw x = c → ∀ m, (rgo m c b).length ≤ (rgo 1 (rlw x) b).length + 1 := fun h m => by rw [h]; exact A 1 m
    refine ⟨fun n m => ?_, fun n m hnm => ?_⟩
    · unfold rgo
      split
      · split
        · exact A _ _
        · rename_i h1 h2
          rw [List.length_cons]; have := A0 h1.1 (m + 1); omega
      · split
        · rename_i h1 h2
          rw [List.length_cons]; have := B0 h2.1 n; omega
        · rw [List.length_cons, List.length_cons]; omega
    · unfold rgo
      split
      · split
        · exact B _ _ (by omega)
        · rename_i h1 h2
          rw [List.length_cons]; exact A0 h1.1 (n + 1)
      · split
        · rename_i h1 h2
          exact absurd ⟨h2.1, by omega⟩ h1
        · exact Nat.le_refl _
theorem rgo_app : ∀ (a b : List Nat) (n c : Nat), (rgo n c (a ++ b)).length ≤ (rgo n c a).length + (rlO b).length
  | [], [], n, c => by simp [rgo, rlO]
  | [], x :: b, n, c => by
    rw [List.nil_append]
    show (if rlw x = c ∧ n < 256 then _ else _ : List (Nat × Nat)).length ≤ 1 + (rgo 1 (rlw x) b).length
    split
    · rename_i h
      rw [h.1]; have := (rgo_near b c).1 1 (n + 1); omega
    · rw [List.length_cons]; omega
  | x :: a, b, n, c => by
    rw [List.cons_append]
    unfold rgo
    split
    · exact rgo_app a b (n + 1) c
    · rw [List.length_cons, List.length_cons]; have := rgo_app a b 1 (rlw x); omega
theorem rl_app (a b : List Nat) : (rlO (a ++ b)).length ≤ (rlO a).length + (rlO b).length := by
  cases a with
  | nil => simp [rlO]
  | cons x a => exact rgo_app a b 1 (rlw x)
theorem rl_one {n c : Nat} (hn : n ≤ 256) : (rlO (List.replicate n c)).length ≤ 1 := by
  cases n with
  | zero => simp [rlO]
  | succ n =>
    rw [rl_run (l := List.replicate (n + 1) c) (k := n + 1) (by omega) hn (by simp) (fun i hi => by simp [List.getD_eq_getElem?_getD, hi]) (.inr (.inl (by simp)))]
    simp [rlO]
theorem rl_lay : ∀ rs : List (Nat × Nat), (∀ r ∈ rs, r.1 ≤ 256) → (rlO (rlay rs)).length ≤ rs.length
  | [], _ => by simp [rlay, rlO]
  | r :: rs, h => by
    rw [rlay_cons]
    have h1 := rl_app (List.replicate r.1 r.2) (rlay rs)
    have h2 := rl_one (c := r.2) (h r (by simp))
    have h3 := rl_lay rs (fun x hx => h x (by simp [hx]))
    rw [List.length_cons]
    omega
theorem rlT_rlBs : ∀ rs : List (Nat × Nat), (∀ r ∈ rs, RlOk r) → ∀ t, rlT (rlBs rs ++ t) = rs ++ rlT t
  | [], _, t => rfl
  | (n, c) :: rs, h, t => by
    obtain ⟨h1, h2, h3⟩ := h (n, c) (by simp)
    show (n - 1 + 1, c / 65536 * 65536 + c / 256 % 256 * 256 + c % 256) :: rlT (rlBs rs ++ t) = _
    simp only at h1 h3
    rw [rlT_rlBs rs (fun r hr => h r (by simp [hr])) t, show n - 1 + 1 = n by omega, show c / 65536 * 65536 + c / 256 % 256 * 256 + c % 256 = c by omega]
    rfl
theorem rlT_len : ∀ b : List Nat, (rlT b).length = b.length / 4
  | [] => rfl
  | [_] => by simp [rlT]
  | [_, _] => by simp [rlT]
  | [_, _, _] => by simp [rlT]
  | _ :: _ :: _ :: _ :: r => by
    show (rlT r).length + 1 = (r.length + 4) / 4
    rw [rlT_len r]; omega
theorem rlD_rl {l : List Nat} (h : l.length ≤ 65536) : rlD (rlBs (rlO l)) l.length = (l.map rlw, 0) := by
  have e : rlay (rlT (rlBs (rlO l))) = l.map rlw := by
    have := rlT_rlBs (rlO l) (rl_ok l) []
    rw [List.append_nil] at this
    rw [this, show rlT [] = [] from rfl, List.append_nil, rlay_rl]
  rw [rlD_yes (by omega) (by rw [rlBs_len]; omega) (by rw [e]; simp), e]
theorem plS_pre (acc : List Nat) (c : Nat) : ∃ t, plS acc c = acc ++ t := by
  unfold plS; split
  · exact ⟨[], by simp⟩
  · exact ⟨[c], rfl⟩
theorem plC_pre : ∀ (l acc : List Nat), ∃ t, plC acc l = acc ++ t
  | [], acc => ⟨[], by simp [plC]⟩
  | x :: r, acc => by
    obtain ⟨t, e⟩ := plS_pre acc (rlw x)
    obtain ⟨u, e2⟩ := plC_pre r (plS acc (rlw x))
    exact ⟨t ++ u, by show plC (plS acc (rlw x)) r = _; rw [e2, e, List.append_assoc]⟩
theorem plC_nodup : ∀ (l acc : List Nat), acc.Nodup → (plC acc l).Nodup
  | [], _, h => h
  | x :: r, acc, h => plC_nodup r _ (by
    unfold plS; split
    · exact h
    · rename_i hx
      rw [List.nodup_append]
      exact ⟨h, by simp, fun a ha b hb e => by simp at hb; subst hb; subst e; exact hx ha⟩)
theorem plI_le (c : Nat) : ∀ l : List Nat, plI c l ≤ l.length
  | [] => Nat.le_refl _
  | x :: r => by
    have := plI_le c r
    unfold plI; split <;> simp <;> omega
theorem plI_get {c : Nat} : ∀ {l : List Nat}, c ∈ l → l.getD (plI c l) 0 = c
  | [], h => by cases h
  | x :: r, h => by
    unfold plI
    split
    · rename_i e; simpa using e
    · rename_i e
      rw [List.getD_cons_succ]
      exact plI_get ((List.mem_cons.1 h).resolve_left fun e' => e e'.symm)
theorem plN_lt (s : Nat) : ∀ l : List Nat, (∀ v ∈ l, v < 2 ^ s) → plN s l < 2 ^ (s * l.length)
  | [], _ => by simp [plN]
  | x :: r, h => by
    have h1 := h x (by simp)
    have h2 := plN_lt s r (fun v hv => h v (by simp [hv]))
    show x + 2 ^ s * plN s r < 2 ^ (s * (r.length + 1))
    rw [Nat.mul_add s, Nat.mul_one, Nat.pow_add, Nat.mul_comm (2 ^ (s * r.length))]
    have h3 : 2 ^ s * (plN s r + 1) ≤ 2 ^ s * 2 ^ (s * r.length) := Nat.mul_le_mul_left _ h2
    rw [Nat.mul_add, Nat.mul_one] at h3
    omega
theorem plN_get (s : Nat) : ∀ (l : List Nat), (∀ v ∈ l, v < 2 ^ s) → ∀ i, i < l.length → plN s l / 2 ^ (s * i) % 2 ^ s = l.getD i 0
  | [], _, i, h => by simp at h
  | x :: r, h, 0, _ => by
    have h1 := h x (by simp)
    show (x + 2 ^ s * plN s r) / 2 ^ (s * 0) % 2 ^ s = x
    rw [Nat.mul_zero, Nat.pow_zero, Nat.div_one, Nat.add_mul_mod_self_left, Nat.mod_eq_of_lt h1]
  | x :: r, h, i + 1, hi => by
    have h1 := h x (by simp)
    show (x + 2 ^ s * plN s r) / 2 ^ (s * (i + 1)) % 2 ^ s = _
    rw [Nat.mul_add s, Nat.mul_one, Nat.pow_add, Nat.mul_comm (2 ^ (s * i)), ← Nat.div_div_eq_div_mul, Nat.add_mul_div_left _ _ (pow_pos' s), Nat.div_eq_of_lt h1, Nat.zero_add, List.getD_cons_succ]
    exact plN_get s r (fun v hv => h v (by simp [hv])) i (by simpa using hi)
theorem plV_lt {l : List Nat} : ∀ v ∈ plV (plCol l) l, v < (plCol l).length := by
  intro v hv
  obtain ⟨x, hx, rfl⟩ := List.mem_map.1 hv
  exact plI_lt.2 ((plC_mem l [] _).2 (.inr ⟨x, hx, rfl⟩))
theorem plE_256 (l : List Nat) : ∀ x ∈ (plE l).1, x < 256 := by
  unfold plE
  split
  · intro x hx; cases hx
  · rename_i h
    intro x hx
    rcases List.mem_append.1 hx with hx | hx
    · rcases List.mem_cons.1 hx with rfl | hx
      · omega
      · obtain ⟨c, hc, hx⟩ := List.mem_flatMap.1 hx
        have := plCol_lt l c hc
        simp only [plB, List.mem_cons, List.not_mem_nil, or_false] at hx
        rcases hx with rfl | rfl | rfl <;> omega
    · exact byts_lt _ _ x hx
theorem plTri_flat : ∀ cs : List Nat, (∀ c ∈ cs, c < 16777216) → plTri (cs.flatMap plB) = cs
  | [], _ => rfl
  | c :: r, h => by
    have := h c (by simp)
    show (c / 65536 * 65536 + c / 256 % 256 * 256 + c % 256) :: plTri (r.flatMap plB) = _
    rw [plTri_flat r (fun x hx => h x (by simp [hx])), show c / 65536 * 65536 + c / 256 % 256 * 256 + c % 256 = c by omega]
theorem plG_plT {l : List Nat} (h : (plCol l).length ≤ 16) : plG (plT (plCol l) l) (plZ (plCol l).length) l.length = plV (plCol l) l := by
  have hv : ∀ v ∈ plV (plCol l) l, v < 2 ^ plZ (plCol l).length := fun v hv => Nat.lt_of_lt_of_le (plV_lt v hv) (plZ_pow h)
  have hN := plN_lt _ _ hv
  rw [plV_len] at hN
  have hB : numB (plT (plCol l) l) = plN (plZ (plCol l).length) (plV (plCol l) l) := numB_byts _ _ (by
    rw [pow256]
    exact Nat.lt_of_lt_of_le hN (Nat.pow_le_pow_right (by decide) (by omega)))
  refine List.ext_getElem (by rw [plG_len, plV_len]) (fun i h1 h2 => ?_)
  rw [plG_at, hB, plN_get _ _ hv i h2, List.getD_eq_getElem?_getD, List.getElem?_eq_getElem h2]
  rfl
theorem plPx_plT {l : List Nat} (h : (plCol l).length ≤ 16) : plPx (plCol l) (plT (plCol l) l) l.length = some (l.map rlw) := by
  have hv : ∀ v ∈ plV (plCol l) l, v < 2 ^ plZ (plCol l).length := fun v hv => Nat.lt_of_lt_of_le (plV_lt v hv) (plZ_pow h)
  have hN := plN_lt _ _ hv
  rw [plV_len] at hN
  have hB : numB (plT (plCol l) l) = plN (plZ (plCol l).length) (plV (plCol l) l) := numB_byts _ _ (by
    rw [pow256]
    exact Nat.lt_of_lt_of_le hN (Nat.pow_le_pow_right (by decide) (by omega)))
  unfold plPx
  rw [if_neg (by rw [plT_len, Nat.mul_comm]; simp), plG_plT h, if_neg (by
    rintro ⟨v, h1, h2⟩
    have := plV_lt v h1
    omega), if_neg (by
    rw [hB, Nat.mul_comm, Nat.div_eq_of_lt hN]; simp)]
  congr 1
  unfold plV
  rw [List.map_map]
  refine List.map_congr_left (fun x hx => ?_)
  exact plI_get ((plC_mem l [] _).2 (.inr ⟨x, hx, rfl⟩))
theorem plD_plE {l : List Nat} (h : ¬ ((plCol l).length < 1 ∨ 16 < (plCol l).length)) (hl : l.length ≤ 65536) : plD (plE l).1 l.length = (l.map rlw, 0) := by
  have h0 : 1 ≤ l.length := by
    have := (plC_len l []).2
    have e : plC [] l = plCol l := rfl
    rw [e] at this
    simp at this; omega
  rw [plE_yes h]
  have hd : (plH (plCol l) ++ plT (plCol l) l).getD 0 0 = (plCol l).length - 1 := rfl
  rw [plD_of (by omega) (by
    simp only
    rw [hd, List.length_append, plH_len]; omega)]
  simp only
  rw [hd, show (plCol l).length - 1 + 1 = (plCol l).length by omega]
  have e1 : ((plH (plCol l) ++ plT (plCol l) l).drop 1).take (3 * (plCol l).length) = (plCol l).flatMap plB := by
    show (((plCol l).flatMap plB) ++ plT (plCol l) l).take _ = _
    rw [List.take_append_of_le_length (by have := plH_len (plCol l); unfold plH at this; rw [List.length_cons] at this; omega), List.take_of_length_le (by have := plH_len (plCol l); unfold plH at this; rw [List.length_cons] at this; omega)]
  have e2 : (plH (plCol l) ++ plT (plCol l) l).drop (1 + 3 * (plCol l).length) = plT (plCol l) l := by
    rw [← plH_len, List.drop_left]
  rw [e1, e2, plTri_flat _ (plCol_lt l), Int.toNat_natCast, plPx_plT (by omega)]
theorem plE_length {l : List Nat} (h : ¬ ((plCol l).length < 1 ∨ 16 < (plCol l).length)) : (plE l).1.length = 1 + 3 * (plCol l).length + (l.length * plZ (plCol l).length + 7) / 8 := by
  rw [plE_yes h, List.length_append, plH_len, plT_len, Nat.mul_comm (plZ _)]
theorem cdP_tri (l : List Nat) : plTri (cdP l) = l.map rlw := plTri_flat _ (fun c hc => by
  obtain ⟨y, -, rfl⟩ := List.mem_map.1 hc
  exact rlw_lt y)
theorem plTri_low : ∀ (b : List Nat), (∀ x ∈ b, x < 256) → ∀ c ∈ plTri b, c < 16777216
  | x :: y :: z :: r, h, c, hc => by
    rcases List.mem_cons.1 (show c ∈ (x * 65536 + y * 256 + z) :: plTri r from hc) with rfl | hc
    · have h1 := h x (by simp); have h2 := h y (by simp); have h3 := h z (by simp); omega
    · exact plTri_low r (fun q hq => h q (by simp [hq])) c hc
  | [], _, c, hc => by simp [plTri] at hc
  | [_], _, c, hc => by simp [plTri] at hc
  | [_, _], _, c, hc => by simp [plTri] at hc
theorem low_map {l : List Nat} (h : ∀ x ∈ l, x < 16777216) : l.map rlw = l := by
  have : l.map rlw = l.map id := List.map_congr_left fun x hx => Nat.mod_eq_of_lt (h x hx)
  simpa using this
theorem cdS_len {acc : Nat × List Nat} {k : Nat} {b : List Nat} {is : Bool} (h : acc.1 ≠ 0) : (cdS acc k b is).2.length ≤ acc.2.length ∧ (is = true → (cdS acc k b is).2.length ≤ b.length) := by
  by_cases h1 : is = true ∧ (acc.1 = 0 ∨ b.length < acc.2.length)
  · rw [cdS_yes h1]
    obtain ⟨e, h1⟩ := h1
    dsimp only
    omega
  · rw [cdS_no h1]
    exact ⟨Nat.le_refl _, fun e => Nat.le_of_not_lt fun q => h1 ⟨e, .inr q⟩⟩
theorem cdG_short (l S : List Nat) : ∀ i j, j ≤ i → (cdW l S j).2 = true → (cdG l S (i + 1)).2.length ≤ (cdW l S j).1.length
  | 0, j, hj, _ => by obtain rfl : j = 0 := by omega
                      exact Nat.le_refl _
  | i + 1, j, hj, h => by
    have hk := (cdG_kind l S i).1
    have hl := cdS_len (k := i + 2) (b := (cdW l S (i + 1)).1) (is := (cdW l S (i + 1)).2) hk
    by_cases e : j = i + 1
    · subst e
      exact hl.2 h
    · exact Nat.le_trans hl.1 (cdG_short l S i j (by omega) h)
theorem cdG_is (l S : List Nat) : ∀ i, ∃ j, j ≤ i ∧ cdG l S (i + 1) = (j + 1, (cdW l S j).1) ∧ (cdW l S j).2 = true
  | 0 => ⟨0, Nat.le_refl _, rfl, rfl⟩
  | i + 1 => by
    by_cases h : (cdW l S (i + 1)).2 = true ∧ ((cdG l S (i + 1)).1 = 0 ∨ (cdW l S (i + 1)).1.length < (cdG l S (i + 1)).2.length)
    · exact ⟨i + 1, Nat.le_refl _, cdS_yes h, h.1⟩
    · obtain ⟨j, h1, h2, h3⟩ := cdG_is l S i
      exact ⟨j, by omega, (cdS_no h).trans h2, h3⟩
theorem cdE_is (l S : List Nat) : ∃ j, j ≤ 3 ∧ cdE l S = (j + 1, (cdW l S j).1) ∧ (cdW l S j).2 = true := cdG_is l S 3
theorem cdE_short (l S : List Nat) {j : Nat} (hj : j ≤ 3) (h : (cdW l S j).2 = true) : (cdE l S).2.length ≤ (cdW l S j).1.length := cdG_short l S 3 j hj h
theorem cdE_len (l S : List Nat) : (cdE l S).2.length ≤ 3 * l.length := by
  have := cdE_short l S (j := 0) (by omega) rfl
  rwa [show (cdW l S 0).1 = cdP l from rfl, cdP_len] at this
theorem cdE_kind (l S : List Nat) : 1 ≤ (cdE l S).1 ∧ (cdE l S).1 ≤ 4 := by
  have := cdG_kind l S 3
  exact ⟨Nat.pos_of_ne_zero this.1, this.2⟩
open Go.RowKit
theorem Makes.after {P : Program} {f : FuncId} {args : Array Value} {w : World} {v : Value} {n : After w} (h : Makes P f args n.world v) :
    Calls P f args n.world fun e w'' => e = .returned v ∧ ∃ m : After w, w'' = m.world :=
  Calls.mono h fun _ w'' ⟨he, hb⟩ => ⟨he, ⟨w'', Below.thn n.below hb⟩, rfl⟩
end Go.Proofs.YtoladolgmeanhaaGreat

namespace Go.Proofs.YtoladolgmeanhaaGreat
theorem sm_lt {g h : Nat → Nat} : ∀ {n k : Nat}, (∀ i, i < n → g i ≤ h i) → k < n → g k < h k → sm n g < sm n h
  | 0, k, _, hk, _ => by omega
  | n + 1, k, e, hk, hl => by
    simp only [sm]
    have h2 := e n (by omega)
    rcases Nat.lt_or_ge k n with h1 | h1
    · have := sm_lt (n := n) (fun i hi => e i (by omega)) h1 hl
      omega
    · obtain rfl : k = n := by omega
      have := sm_le (n := k) (fun i hi => e i (by omega))
      omega
theorem told_ex {f : Nat → Nat} {N : Nat} (ha : Apt f N) : ∀ n, (∃ F L, ToldF f N n 0 F ∧ ToldM f N n 0 L) ∧ ∀ k, k ≤ N → ∃ F L, ToldF f N n k F ∧ ToldM f N n k L := by
  have step : ∀ n, (∃ F L, ToldF f N n 0 F ∧ ToldM f N n 0 L) → ∀ k, k ≤ N → ∃ F L, ToldF f N n k F ∧ ToldM f N n k L := fun n h0 k => by
    induction k with
    | zero => exact fun _ => h0
    | succ k ih =>
      intro hk
      obtain ⟨F, L, h1, h2⟩ := ih (by omega)
      by_cases e : f k = n + 1
      · exact ⟨_, _, h1.hand ha (by omega) e, h2.hand (by omega) e⟩
      · exact ⟨F, L, h1.congr (fun i _ => Tld.skip e), h2.congr (fun i _ => Tld.skip e)⟩
  intro n
  induction n with
  | zero =>
    have h0 : ∃ F L, ToldF f N 0 0 F ∧ ToldM f N 0 0 L := ⟨fun _ => none, 0, ⟨fun i hi ht => by unfold Tld at ht; omega, fun q x hx => by cases hx⟩, ⟨fun i hi ht => by unfold Tld at ht; omega, .inl rfl⟩⟩
    exact ⟨h0, step 0 h0⟩
  | succ n ih =>
    obtain ⟨F, L, h1, h2⟩ := ih.2 N (Nat.le_refl _)
    have h0 : ∃ F L, ToldF f N (n + 1) 0 F ∧ ToldM f N (n + 1) 0 L := ⟨F, L, h1.congr (fun i hi => Tld.next hi), h2.congr (fun i hi => Tld.next hi)⟩
    exact ⟨h0, step (n + 1) h0⟩
theorem told_of_chk {ls : List Nat} (h : chk ls = 0) : ∃ F L, ToldF (lq ls) ls.length 15 0 F ∧ ToldM (lq ls) ls.length 15 0 L := (told_ex (apt_chk h) 15).1
theorem numB_app : ∀ a b : List Nat, numB (a ++ b) = numB a + 256 ^ a.length * numB b
  | [], b => by simp [numB]
  | x :: a, b => by
    rw [List.cons_append, numB, numB, numB_app a b, List.length_cons, Nat.pow_succ, Nat.mul_add]
    rw [← Nat.mul_assoc, Nat.mul_comm 256 (256 ^ a.length)]
    omega
theorem p256 (n : Nat) : 256 ^ n = 2 ^ (8 * n) := by rw [Nat.pow_mul]
theorem nb_ext (l m : List Nat) (a k : Nat) (h : a + k ≤ 8 * l.length) : nb (l ++ m) a k = nb l a k := by
  unfold nb
  rw [numB_app, p256, show 8 * l.length = a + (k + (8 * l.length - a - k)) by omega, Nat.pow_add, Nat.pow_add, Nat.mul_assoc, Nat.add_mul_div_left _ _ (Nat.two_pow_pos a), Nat.mul_assoc, Nat.add_mul_mod_self_left]
theorem sy_of {ls l : List Nat} {a x s : Nat} (hc : chk ls = 0) (hx : x < ls.length) (h1 : 1 ≤ s) (hs : lq ls x = s) (hb : nb l a s = cd (lq ls) ls.length x)
    (hn : ∀ t, t < s → 1 ≤ t → ∀ i, i < ls.length → ¬ (lq ls i = t ∧ nb l a t = cd (lq ls) ls.length i)) (hl : a + s ≤ 8 * l.length) : Sy ls l a x 0 s := by
  obtain ⟨F, L, hF, hM⟩ := told_of_chk hc
  have h15 := (chk_zero hc).2.1 x hx
  have hL : lq ls x ≤ L := hM.ge x hx ⟨by omega, .inl h15⟩
  refine ⟨F, L, hF, hM, ⟨fun t t1 t2 => ?_, ⟨by omega, hl⟩, .inl ⟨rfl, h1, ?_⟩⟩⟩
  · cases e : F (bt l a t, t) with
    | none => rfl
    | some i =>
      obtain ⟨i1, i2, i3⟩ := hF.out _ _ e
      simp only [Prod.mk.injEq] at i3
      exact absurd ⟨i3.2.symm, i3.1⟩ (hn t t2 t1 i i1)
  · have := hF.has x hx ⟨by omega, .inl h15⟩
    rw [hs] at this
    rw [show bt l a s = cd (lq ls) ls.length x from hb]
    exact this
theorem trn_acc : ∀ n r x, trn n r x = r * 2 ^ n + trn n 0 x
  | 0, r, x => by simp [trn]
  | n + 1, r, x => by
    rw [trn, trn, trn_acc n (r * 2 + x % 2), trn_acc n (0 * 2 + x % 2), Nat.pow_succ, Nat.add_mul, Nat.zero_mul, Nat.zero_add, Nat.mul_assoc r, Nat.mul_comm 2, Nat.add_assoc]
def nu (f : Nat → Nat) (N i : Nat) : Nat := nx f N (f i - 1) i
theorem nu_of {f : Nat → Nat} {N n i : Nat} (h : f i = n + 1) : nu f N i = nx f N n i := by unfold nu; rw [h, Nat.add_sub_cancel]
theorem nxz_skip {f : Nat → Nat} {N n k : Nat} (h : f k ≠ n + 1) : nx f N n (k + 1) = nx f N n k := by unfold nx; rw [cn_succ, if_neg h]; omega
theorem nxz_hand {f : Nat → Nat} {N n k : Nat} (h : f k = n + 1) : nx f N n (k + 1) = nx f N n k + 1 := by unfold nx; rw [cn_succ, if_pos h]; omega
theorem nxz_next (f : Nat → Nat) (N n : Nat) : nx f N (n + 1) 0 = nx f N n N * 2 := by
  unfold nx
  rw [en]
  simp [cn, sm]
structure Tiled (f : Nat → Nat) (N n k : Nat) : Prop where
  below : ∀ i, i < N → Tld f n k i → (nu f N i + 1) * 2 ^ (15 - f i) ≤ nx f N n k * 2 ^ (14 - n)
  full : ∀ p, p < nx f N n k * 2 ^ (14 - n) → ∃ i, i < N ∧ Tld f n k i ∧ nu f N i * 2 ^ (15 - f i) ≤ p ∧ p < (nu f N i + 1) * 2 ^ (15 - f i)
theorem Tiled.start (f : Nat → Nat) (N : Nat) : Tiled f N 0 0 := by
  have h : nx f N 0 0 = 0 := by simp [nx, en, cn, sm]
  refine ⟨fun i _ ht => ?_, fun p hp => ?_⟩
  · unfold Tld at ht; omega
  · rw [h, Nat.zero_mul] at hp; omega
theorem Tiled.skip {f : Nat → Nat} {N n k : Nat} (h : Tiled f N n k) (hk : f k ≠ n + 1) : Tiled f N n (k + 1) := by
  refine ⟨fun i hi ht => ?_, fun p hp => ?_⟩
  · rw [nxz_skip hk]; exact h.below i hi ((Tld.skip hk).2 ht)
  · rw [nxz_skip hk] at hp
    obtain ⟨i, a, b, c⟩ := h.full p hp
    exact ⟨i, a, (Tld.skip hk).1 b, c⟩
theorem Tiled.hand {f : Nat → Nat} {N n k : Nat} (h : Tiled f N n k) (hkN : k < N) (hk : f k = n + 1) : Tiled f N n (k + 1) := by
  have e1 : 15 - f k = 14 - n := by omega
  have e2 := nu_of (N := N) hk
  refine ⟨fun i hi ht => ?_, fun p hp => ?_⟩
  · rw [nxz_hand hk]
    rcases (Tld.hand hk).1 ht with h1 | rfl
    · refine Nat.le_trans (h.below i hi h1) (Nat.mul_le_mul_right _ (by omega))
    · rw [e1, e2]; exact Nat.le_refl _
  · rw [nxz_hand hk] at hp
    rcases Nat.lt_or_ge p (nx f N n k * 2 ^ (14 - n)) with h1 | h1
    · obtain ⟨i, a, b, c⟩ := h.full p h1
      exact ⟨i, a, (Tld.hand hk).2 (.inl b), c⟩
    · exact ⟨k, hkN, (Tld.hand hk).2 (.inr rfl), by rw [e1, e2]; exact h1, by rw [e1, e2]; exact hp⟩
theorem Tiled.next {f : Nat → Nat} {N n : Nat} (h : Tiled f N n N) (hn : n < 14) : Tiled f N (n + 1) 0 := by
  have e : nx f N (n + 1) 0 * 2 ^ (14 - (n + 1)) = nx f N n N * 2 ^ (14 - n) := by
    rw [nxz_next, Nat.mul_assoc, show 14 - n = (14 - (n + 1)) + 1 by omega, Nat.pow_succ, Nat.mul_comm 2]
  refine ⟨fun i hi ht => ?_, fun p hp => ?_⟩
  · rw [e]; exact h.below i hi ((Tld.next hi).2 ht)
  · rw [e] at hp
    obtain ⟨i, a, b, c⟩ := h.full p hp
    exact ⟨i, a, (Tld.next a).1 b, c⟩
theorem tiled_row {f : Nat → Nat} {N n : Nat} (h : Tiled f N n 0) : ∀ k, k ≤ N → Tiled f N n k
  | 0, _ => h
  | k + 1, hk => by
    by_cases e : f k = n + 1
    · exact (tiled_row h k (by omega)).hand (by omega) e
    · exact (tiled_row h k (by omega)).skip e
theorem tiled_start (f : Nat → Nat) (N : Nat) : ∀ n, n ≤ 14 → Tiled f N n 0
  | 0, _ => Tiled.start f N
  | n + 1, hn => (tiled_row (tiled_start f N n (by omega)) N (Nat.le_refl _)).next (by omega)
theorem tiled_all (f : Nat → Nat) (N : Nat) {n k : Nat} (hn : n ≤ 14) (hk : k ≤ N) : Tiled f N n k := tiled_row (tiled_start f N n hn) k hk
theorem pow_split {a b : Nat} (h : a ≤ b) (hb : b ≤ 15) : 2 ^ (15 - a) = 2 ^ (b - a) * 2 ^ (15 - b) := by
  rw [← Nat.pow_add, show b - a + (15 - b) = 15 - a by omega]
theorem nu_apart {f : Nat → Nat} {N i j : Nat} (hi : i < N) (hj : j < N) (h0 : 0 < f j) (hle : f j ≤ f i) (h15 : f i ≤ 15) (hne : i ≠ j) : nu f N i / 2 ^ (f i - f j) ≠ nu f N j := by
  have key : ∀ i j, i < N → j < N → 0 < f j → f j ≤ f i → f i ≤ 15 → (f j < f i ∨ j < i) → (nu f N j + 1) * 2 ^ (f i - f j) ≤ nu f N i := fun i j hi hj h0 hle h15 hlt => by
    obtain ⟨n, hn⟩ : ∃ n, f i = n + 1 := ⟨f i - 1, by omega⟩
    have h1 := (tiled_all f N (n := n) (k := i) (by omega) (by omega)).below j hj (by unfold Tld; omega)
    rw [← nu_of hn, pow_split hle h15, ← Nat.mul_assoc, show 14 - n = 15 - f i by omega] at h1
    exact Nat.le_of_mul_le_mul_right h1 (Nat.two_pow_pos _)
  by_cases hlt : f j < f i ∨ j < i
  · have h1 := key i j hi hj h0 hle h15 hlt
    have h2 : nu f N j + 1 ≤ nu f N i / 2 ^ (f i - f j) := (Nat.le_div_iff_mul_le (Nat.two_pow_pos _)).2 h1
    omega
  · have e : f i = f j := by omega
    have h1 := key j i hj hi (by omega) (by omega) (by omega) (.inr (by omega))
    rw [e, Nat.sub_self, Nat.pow_zero] at *
    omega
theorem nu_fits {f : Nat → Nat} {N i : Nat} (hr : room N 15 f ≤ 32768) (hi : i < N) (h0 : 0 < f i) (h15 : f i ≤ 15) : nu f N i < 2 ^ f i := by
  obtain ⟨n, hn⟩ : ∃ n, f i = n + 1 := ⟨f i - 1, by omega⟩
  rw [nu_of hn, hn]
  exact nx_fits hr (by omega) hi hn
theorem trn_mod : ∀ n t x, t ≤ n → trn n 0 x % 2 ^ t = trn t 0 (x / 2 ^ (n - t))
  | 0, t, x, h => by
    obtain rfl : t = 0 := by omega
    simp [trn]
  | n + 1, t, x, h => by
    by_cases e : t = n + 1
    · subst e
      rw [Nat.sub_self, Nat.pow_zero, Nat.div_one, Nat.mod_eq_of_lt (trn_low _ _)]
    · have h1 : t ≤ n := by omega
      rw [trn, trn_acc, Nat.zero_mul, Nat.zero_add, show x % 2 * 2 ^ n = 2 ^ t * (x % 2 * 2 ^ (n - t)) by
        rw [Nat.mul_comm (2 ^ t), Nat.mul_assoc, ← Nat.pow_add, Nat.sub_add_cancel h1], Nat.mul_add_mod, trn_mod n t _ h1, Nat.div_div_eq_div_mul, ← Nat.pow_succ', show (n - t).succ = n + 1 - t by omega]
theorem cdn_apart {ls : List Nat} (hc : chk ls = 0) {i k : Nat} (hi : i < ls.length) (hk : k < ls.length) (h0 : 0 < lq ls i) (hle : lq ls i ≤ lq ls k) (hne : i ≠ k) : cd (lq ls) ls.length k % 2 ^ lq ls i ≠ cd (lq ls) ls.length i := by
  intro h
  have hr := room_of_chk hc
  have h15 := (chk_zero hc).2.1
  have f1 := nu_fits hr hi h0 (h15 i hi)
  have f2 := nu_fits hr hk (by omega) (h15 k hk)
  unfold cd at h
  rw [trn_mod _ _ _ hle] at h
  refine nu_apart hk hi h0 hle (h15 k hk) (Ne.symm hne) ?_
  refine (trn_inj _ _ _ _ _ ?_ f1 h).2
  rw [Nat.div_lt_iff_lt_mul (Nat.two_pow_pos _), ← Nat.pow_add, show lq ls i + (lq ls k - lq ls i) = lq ls k by omega]
  exact f2
def okP (P : Pt) : Prop := ∀ p ∈ P, p.1 < 2 ^ p.2
theorem okP.app {a b : Pt} (h : okP (a ++ b)) : okP a ∧ okP b := ⟨fun p hp => h p (List.mem_append_left _ hp), fun p hp => h p (List.mem_append_right _ hp)⟩
theorem okP_app {a b : Pt} (ha : okP a) (hb : okP b) : okP (a ++ b) := fun p hp => (List.mem_append.1 hp).elim (ha p) (hb p)
theorem okP_one {v k : Nat} (h : v < 2 ^ k) : okP [(v, k)] := fun p hp => by rw [List.mem_singleton.1 hp]; exact h
theorem nmP_lt : ∀ {P : Pt}, okP P → nmP P < 2 ^ szP P
  | [], _ => by simp [nmP, szP]
  | p :: r, h => by
    have h1 := h p List.mem_cons_self
    have h2 := nmP_lt (P := r) fun q hq => h q (List.mem_cons_of_mem _ hq)
    rw [nmP, szP, Nat.pow_add]
    calc p.1 + 2 ^ p.2 * nmP r < 2 ^ p.2 + 2 ^ p.2 * nmP r := by omega
      _ = 2 ^ p.2 * (nmP r + 1) := by rw [Nat.mul_add, Nat.mul_one, Nat.add_comm]
      _ ≤ 2 ^ p.2 * 2 ^ szP r := Nat.mul_le_mul_left _ h2
theorem bytP_num {P : Pt} (h : okP P) : numB (bytP P) = nmP P := by
  refine numB_byts _ _ (Nat.lt_of_lt_of_le (nmP_lt h) ?_)
  rw [p256]
  exact Nat.pow_le_pow_right (by omega) (by omega)
theorem put_at {P p q : Pt} {v k : Nat} (h : okP P) (e : P = p ++ (v, k) :: q) (m : List Nat) : nb (bytP P ++ m) (szP p) k = v ∧ szP p + k ≤ 8 * (bytP P ++ m).length := by
  have hs : szP P = szP p + (k + szP q) := by rw [e, szP_app, szP]
  have hl : szP p + k ≤ 8 * (bytP P).length := by rw [bytP_len]; omega
  refine ⟨?_, by rw [List.length_append]; omega⟩
  rw [nb_ext _ _ _ _ hl]
  unfold nb
  rw [bytP_num h]
  subst e
  have hp := nmP_lt h.app.1
  have hv : v < 2 ^ k := h (v, k) (by simp)
  rw [nmP_app, nmP, Nat.add_mul_div_left _ _ (Nat.two_pow_pos _), Nat.div_eq_of_lt hp, Nat.zero_add, Nat.add_mul_mod_self_left, Nat.mod_eq_of_lt hv]
theorem nb_less (l : List Nat) (a : Nat) {t s : Nat} (h : t ≤ s) : nb l a t = nb l a s % 2 ^ t := by
  unfold nb
  rw [Nat.mod_mod_of_dvd _ (Nat.pow_dvd_pow 2 h)]
def AtP (l : List Nat) : Nat → Pt → Prop
  | _, [] => True
  | a, p :: q => nb l a p.2 = p.1 ∧ a + p.2 ≤ 8 * l.length ∧ AtP l (a + p.2) q
theorem AtP.app {l : List Nat} : ∀ {a : Nat} {x y : Pt}, AtP l a (x ++ y) → AtP l a x ∧ AtP l (a + szP x) y
  | _, [], _, h => ⟨trivial, h⟩
  | a, p :: x, y, h => by
    obtain ⟨h1, h2, h3⟩ := h
    obtain ⟨h4, h5⟩ := AtP.app (x := x) h3
    exact ⟨⟨h1, h2, h4⟩, by rw [szP, ← Nat.add_assoc]; exact h5⟩
theorem atP_of {P : Pt} (h : okP P) (m : List Nat) : ∀ {p q : Pt}, P = p ++ q → AtP (bytP P ++ m) (szP p) q
  | _, [], _ => trivial
  | p, (v, k) :: q, e => by
    obtain ⟨h1, h2⟩ := put_at h e m
    refine ⟨h1, h2, ?_⟩
    have := atP_of h m (p := p ++ [(v, k)]) (q := q) (by rw [e]; simp)
    rwa [(nmP_snoc p v k).2] at this
theorem atP_all {P : Pt} (h : okP P) (m : List Nat) : AtP (bytP P ++ m) 0 P := atP_of h m (p := []) rfl
theorem AtP.sy {ls l : List Nat} (hc : chk ls = 0) {x a : Nat} (hx : x < ls.length) (h0 : 0 < lq ls x) {q : Pt} (h : AtP l a ((cd (lq ls) ls.length x, lq ls x) :: q)) : Sy ls l a x 0 (lq ls x) ∧ AtP l (a + lq ls x) q := by
  obtain ⟨h1, h2, h3⟩ := h
  refine ⟨sy_of hc hx h0 rfl h1 (fun t t1 t2 i hi ⟨hi1, hi2⟩ => ?_) h2, h3⟩
  rw [nb_less _ _ (Nat.le_of_lt t1), h1] at hi2
  subst hi1
  exact cdn_apart hc hi hx t2 (by omega) (fun e => by subst e; omega) hi2
theorem Tn.tell_len (t : Tn) (o : List Nat) : (t.tell o).length = o.length + (if t.n = 0 then 1 else t.n) := by
  unfold Tn.tell
  split
  · simp
  · rw [ext_len]
theorem tn_tk {A D l : List Nat} (hA : chk A = 0) (hD : chk D = 0) {t : Tn} {o : List Nat} (ht : t.ok A D o) {a : Nat} {q : Pt} (h : AtP l a (t.put A D ++ q)) (lim : Nat) :
    ((t.tell o).length ≤ lim → InfTk A D l lim a o (.go (a + szP (t.put A D)) (t.tell o))) ∧ (o.length ≤ lim → lim < (t.tell o).length → InfTk A D l lim a o (.no 81)) := by
  have hlen := t.tell_len o
  by_cases h0 : t.n = 0
  · obtain ⟨b1, b2, b3⟩ := ht.1 h0
    have e : t.put A D = [(cd (lq A) A.length t.b, lq A t.b)] := if_pos h0
    have e2 : t.tell o = o ++ [t.b] := if_pos h0
    rw [if_pos h0] at hlen
    rw [e] at h ⊢
    rw [hlen, e2]
    obtain ⟨s1, -⟩ := AtP.sy hA b2 b3 h
    refine ⟨fun hl => ?_, fun h1 h2 => .full _ _ s1 b1 (by omega)⟩
    have := InfTk.byte (A := A) (D := D) (l := l) (lim := lim) (a := a) (o := o) _ _ s1 b1 (by omega)
    simpa [szP] using this
  · obtain ⟨n1, n2, d1, d2, d3, x1, x2, y1, y2⟩ := ht.2 h0
    obtain ⟨s1, s2, s3, s4⟩ := lnSym_ok t.n (by omega) n1
    obtain ⟨r1, r2, r3⟩ := dsSym_ok d1 d2
    have e : t.put A D = [(cd (lq A) A.length (lnSym t.n), lq A (lnSym t.n)), (t.n - lnBase (lnSym t.n), lnBits (lnSym t.n)), (cd (lq D) D.length (dsSym t.d), lq D (dsSym t.d)), (t.d - dsBase (dsSym t.d), dsBits (dsSym t.d))] := if_neg h0
    have e2 : t.tell o = ext t.d t.n o := if_neg h0
    rw [if_neg h0] at hlen
    rw [e] at h ⊢
    rw [hlen, e2]
    obtain ⟨p1, h⟩ := AtP.sy hA x1 x2 h
    obtain ⟨p2, p3, h⟩ := h
    obtain ⟨p4, h⟩ := AtP.sy hD y1 y2 h
    obtain ⟨p5, p6, -⟩ := h
    simp only at p2 p3 p4 p5 p6
    have hd : dsBase (dsSym t.d) + nb l (a + lq A (lnSym t.n) + lnBits (lnSym t.n) + lq D (dsSym t.d)) (dsBits (dsSym t.d)) = t.d := by rw [p5]; omega
    have hn : lnBase (lnSym t.n) + nb l (a + lq A (lnSym t.n)) (lnBits (lnSym t.n)) = t.n := by rw [p2]; omega
    refine ⟨fun hl => ?_, fun h1 h2 => ?_⟩
    · have := InfRp.done (D := D) (l := l) (lim := lim) (a := a + lq A (lnSym t.n)) (x := lnSym t.n) (o := o) (by omega) p3 _ _ p4 r1 p6 (by rw [hd]; exact d3) (by rw [hn]; exact hl)
      rw [hd, hn] at this
      have h2 := InfTk.rep (A := A) (D := D) (l := l) (lim := lim) (a := a) (o := o) _ _ _ p1 (by omega) this
      rw [show a + szP [(cd (lq A) A.length (lnSym t.n), lq A (lnSym t.n)), (t.n - lnBase (lnSym t.n), lnBits (lnSym t.n)), (cd (lq D) D.length (dsSym t.d), lq D (dsSym t.d)), (t.d - dsBase (dsSym t.d), dsBits (dsSym t.d))] = a + lq A (lnSym t.n) + lnBits (lnSym t.n) + lq D (dsSym t.d) + dsBits (dsSym t.d) by simp only [szP]; omega]
      exact h2
    · exact .rep _ _ _ p1 (by omega) (.over (by omega) p3 _ _ p4 r1 p6 (by rw [hd]; exact d3) (by rw [hn]; omega))
theorem toldT_len : ∀ (ts : List Tn) (o : List Nat), o.length ≤ (toldT ts o).length
  | [], _ => Nat.le_refl _
  | t :: r, o => by
    have := toldT_len r (t.tell o)
    have := t.tell_len o
    rw [toldT]; omega
theorem tn_toks {A D l : List Nat} (hA : chk A = 0) (hD : chk D = 0) (h6 : 256 < A.length) (h7 : 0 < lq A 256) (lim : Nat) : ∀ {ts : List Tn} {o : List Nat}, mayT A D ts o → ∀ {a : Nat} {q : Pt}, AtP l a (laidT A D ts ++ (cd (lq A) A.length 256, lq A 256) :: q) →
    ((toldT ts o).length ≤ lim → InfToks A D l lim a o (.go (a + szP (laidT A D ts) + lq A 256) (toldT ts o))) ∧ (o.length ≤ lim → lim < (toldT ts o).length → InfToks A D l lim a o (.no 81))
  | [], o, _, a, q, h => by
    obtain ⟨s1, -⟩ := AtP.sy hA h6 h7 h
    refine ⟨fun _ => ?_, fun h1 h2 => absurd h2 (by rw [toldT]; omega)⟩
    exact .fin _ _ _ (.fin _ s1)
  | t :: r, o, ht, a, q, h => by
    rw [laidT, List.append_assoc] at h
    obtain ⟨t1, t2⟩ := tn_tk hA hD ht.1 h lim
    obtain ⟨-, h3⟩ := h.app
    obtain ⟨r1, r2⟩ := tn_toks hA hD h6 h7 lim (ts := r) ht.2 h3
    have hle := toldT_len r (t.tell o)
    refine ⟨fun hl => ?_, fun h1 h2 => ?_⟩
    · rw [toldT] at hl
      have h4 := InfToks.more _ _ _ _ _ (t1 (by omega)) (r1 hl)
      rw [laidT, szP_app, toldT, ← Nat.add_assoc a]
      exact h4
    · rw [toldT] at h2
      by_cases h5 : (t.tell o).length ≤ lim
      · exact .more _ _ _ _ _ (t1 h5) (r2 h5 h2)
      · exact .no _ _ _ (t2 h1 (by omega))
end Go.Proofs.YtoladolgmeanhaaGreat
