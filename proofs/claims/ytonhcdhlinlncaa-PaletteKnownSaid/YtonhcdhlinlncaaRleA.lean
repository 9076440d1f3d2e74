/- rle, plainly: pixels as runs, runs as pixels and as bytes. Nothing here speaks of a program. -/
import Derived.WalkKit
namespace Go.Proofs.Ytonhcdhlinlncaa

/-- Of a pixel's number what counts. -/
def rlw (x : Nat) : Nat := x % 16777216
theorem rlw_lt (x : Nat) : rlw x < 16777216 := Nat.mod_lt _ (by decide)
theorem rlw_rlw (x : Nat) : rlw (rlw x) = rlw x := Nat.mod_mod _ _

/-- So many of this colour, and what comes behind. -/
def rgo : Nat → Nat → List Nat → List (Nat × Nat)
  | n, c, [] => [(n, c)]
  | n, c, x :: r => if rlw x = c ∧ n < 256 then rgo (n + 1) c r else (n, c) :: rgo 1 (rlw x) r
/-- The runs of pixels. -/
def rlO : List Nat → List (Nat × Nat)
  | [] => []
  | x :: r => rgo 1 (rlw x) r
theorem rgo_stop {n c : Nat} {r : List Nat} (h : n = 256 ∨ r = [] ∨ ∃ x r', r = x :: r' ∧ rlw x ≠ c) : rgo n c r = (n, c) :: rlO r := by
  cases r with
  | nil => rfl
  | cons x r' =>
    show (if rlw x = c ∧ n < 256 then _ else _) = _
    rw [if_neg]
    · rfl
    · rintro ⟨h1, h2⟩
      rcases h with h | h | ⟨y, r'', e, h⟩
      · omega
      · cases h
      · cases e; exact h h1
theorem rgo_more {n c x : Nat} {r : List Nat} (h : rlw x = c) (hn : n < 256) : rgo n c (x :: r) = rgo (n + 1) c r := if_pos ⟨h, hn⟩
theorem rgo_run {c : Nat} : ∀ (j n : Nat) (r : List Nat), n + j ≤ 256 → j ≤ r.length → (∀ i, i < j → rlw (r.getD i 0) = c) → (n + j = 256 ∨ j = r.length ∨ rlw (r.getD j 0) ≠ c) → rgo n c r = (n + j, c) :: rlO (r.drop j)
  | 0, n, r, _, _, _, h => by
    rw [List.drop_zero]
    refine rgo_stop ?_
    rcases h with h | h | h
    · exact .inl h
    · exact .inr (.inl (List.length_eq_zero_iff.1 h.symm))
    · cases r with
      | nil => exact .inr (.inl rfl)
      | cons x r => exact .inr (.inr ⟨x, r, rfl, h⟩)
  | j + 1, n, [], _, hl, _, _ => by simp at hl
  | j + 1, n, x :: r, hn, hl, ha, h => by
    have h0 : rlw x = c := ha 0 (by omega)
    rw [rgo_more h0 (by omega), rgo_run j (n + 1) r (by omega) (by simpa using hl) (fun i hi => ha (i + 1) (by omega)) (by
      rcases h with h | h | h
      · exact .inl (by omega)
      · exact .inr (.inl (by simpa using h))
      · exact .inr (.inr h)), List.drop_succ_cons]
    congr 2
    omega
/-- The first run, and those behind it. -/
theorem rl_run {l : List Nat} {k : Nat} (hk : 1 ≤ k) (h256 : k ≤ 256) (hl : k ≤ l.length) (ha : ∀ i, i < k → rlw (l.getD i 0) = rlw (l.getD 0 0)) (h : k = 256 ∨ k = l.length ∨ rlw (l.getD k 0) ≠ rlw (l.getD 0 0)) : rlO l = (k, rlw (l.getD 0 0)) :: rlO (l.drop k) := by
  cases l with
  | nil => simp at hl; omega
  | cons x r =>
    obtain ⟨j, rfl⟩ : ∃ j, k = j + 1 := ⟨k - 1, by omega⟩
    show rgo 1 (rlw x) r = _
    rw [rgo_run (c := rlw x) j 1 r (by omega) (by simpa using hl) (fun i hi => ha (i + 1) (by omega)) (by
      rcases h with h | h | h
      · exact .inl (by omega)
      · exact .inr (.inl (by simpa using h))
      · exact .inr (.inr h)), Nat.add_comm 1 j]
    rfl

/-- The pixels of runs. -/
def rlay (rs : List (Nat × Nat)) : List Nat := rs.flatMap fun r => List.replicate r.1 r.2
theorem rlay_cons (r : Nat × Nat) (rs : List (Nat × Nat)) : rlay (r :: rs) = List.replicate r.1 r.2 ++ rlay rs := rfl
theorem rlay_app (a b : List (Nat × Nat)) : rlay (a ++ b) = rlay a ++ rlay b := List.flatMap_append
theorem rlay_rgo : ∀ (r : List Nat) (n c : Nat), rlay (rgo n c r) = List.replicate n c ++ r.map rlw
  | [], n, c => by show List.replicate n c ++ [] = _; rfl
  | x :: r, n, c => by
    unfold rgo
    split
    · rename_i h
      rw [rlay_rgo r, List.replicate_succ', List.append_assoc, List.map_cons, h.1]
      rfl
    · rw [rlay_cons, rlay_rgo r]
      rfl
theorem rlay_rl (l : List Nat) : rlay (rlO l) = l.map rlw := by
  cases l with
  | nil => rfl
  | cons x r => show rlay (rgo 1 (rlw x) r) = _; rw [rlay_rgo]; rfl

/-- Runs that may be. -/
def RlOk (r : Nat × Nat) : Prop := 1 ≤ r.1 ∧ r.1 ≤ 256 ∧ r.2 < 16777216
theorem rgo_ok : ∀ (r : List Nat) (n c : Nat), 1 ≤ n → n ≤ 256 → c < 16777216 → ∀ x ∈ rgo n c r, RlOk x
  | [], n, c, h1, h2, h3, x, hx => by
    simp [rgo] at hx; subst hx; exact ⟨h1, h2, h3⟩
  | y :: r, n, c, h1, h2, h3, x, hx => by
    unfold rgo at hx
    split at hx
    · rename_i h
      exact rgo_ok r (n + 1) c (by omega) (by omega) h3 x hx
    · rcases List.mem_cons.1 hx with rfl | hx
      · exact ⟨h1, h2, h3⟩
      · exact rgo_ok r 1 (rlw y) (by omega) (by omega) (rlw_lt y) x hx
theorem rl_ok (l : List Nat) : ∀ x ∈ rlO l, RlOk x := by
  cases l with
  | nil => intro x hx; cases hx
  | cons y r => exact rgo_ok r 1 (rlw y) (by omega) (by omega) (rlw_lt y)
theorem rgo_len : ∀ (r : List Nat) (n c : Nat), (rgo n c r).length ≤ r.length + 1
  | [], n, c => by simp [rgo]
  | x :: r, n, c => by
    unfold rgo
    split
    · have := rgo_len r (n + 1) c; simp; omega
    · have := rgo_len r 1 (rlw x); simp; omega
theorem rl_len (l : List Nat) : (rlO l).length ≤ l.length := by
  cases l with
  | nil => simp [rlO]
  | cons x r => exact rgo_len r 1 (rlw x)

/-- Two runs side by side: the first one is full, or they are of two colours. -/
def RlApt : List (Nat × Nat) → Prop
  | [] => True
  | [_] => True
  | a :: b :: r => (a.1 = 256 ∨ a.2 ≠ b.2) ∧ RlApt (b :: r)
theorem rgo_apt : ∀ (r : List Nat) (n c : Nat), n ≤ 256 → RlApt (rgo n c r) ∧ ∃ k t, rgo n c r = (k, c) :: t
  | [], n, c, _ => ⟨trivial, n, [], rfl⟩
  | x :: r, n, c, hn => by
    unfold rgo
    split
    · rename_i h
      exact rgo_apt r (n + 1) c (by omega)
    · rename_i h
      obtain ⟨h1, k, t, e⟩ := rgo_apt r 1 (rlw x) (by omega)
      rw [e] at h1 ⊢
      refine ⟨⟨?_, h1⟩, n, _, rfl⟩
      by_cases hc : rlw x = c
      · left; show n = 256; by_cases h2 : n < 256
        · exact absurd ⟨hc, h2⟩ h
        · omega
      · right; exact fun e => hc e.symm
theorem rl_apt (l : List Nat) : RlApt (rlO l) := by
  cases l with
  | nil => trivial
  | cons x r => exact (rgo_apt r 1 (rlw x) (by omega)).1
theorem RlApt.at : ∀ {rs : List (Nat × Nat)}, RlApt rs → ∀ i (h : i + 1 < rs.length), rs[i].1 = 256 ∨ rs[i].2 ≠ rs[i + 1].2
  | [], _, i, h => by simp at h
  | [_], _, i, h => by simp at h
  | a :: b :: r, h, 0, _ => h.1
  | a :: b :: r, h, i + 1, hi => RlApt.at h.2 i (by simpa using hi)

/- Two rows are no more runs than both. -/
theorem rgo_near : ∀ (b : List Nat) (c : Nat), (∀ n m, (rgo m c b).length ≤ (rgo n c b).length + 1) ∧ ∀ n m, n ≤ m → (rgo n c b).length ≤ (rgo m c b).length
  | [], c => ⟨fun _ _ => by simp [rgo], fun _ _ _ => by simp [rgo]⟩
  | x :: b, c => by
    obtain ⟨A, B⟩ := rgo_near b c
    have B0 : rlw x = c → ∀ m, (rgo 1 (rlw x) b).length ≤ (rgo (m + 1) c b).length := fun h m => by rw [h]; exact B 1 (m + 1) (by omega)
    have A0 : rlw x = c → ∀ m, (rgo m c b).length ≤ (rgo 1 (rlw x) b).length + 1 := fun h m => by rw [h]; exact A 1 m
    refine ⟨fun n m => ?_, fun n m hnm => ?_⟩
    · unfold rgo
      split
      · split
        · exact A _ _
        · rename_i h1 h2
          rw [List.length_cons]; have := A0 h1.1 (m + 1); omega
      · split
        · rename_i h1 h2
          rw [List.length_cons]; have := B0 h2.1 n; omega
        · rw [List.length_cons, List.length_cons]; omega
    · unfold rgo
      split
      · split
        · exact B _ _ (by omega)
        · rename_i h1 h2
          rw [List.length_cons]; exact A0 h1.1 (n + 1)
      · split
        · rename_i h1 h2
          exact absurd ⟨h2.1, by omega⟩ h1
        · exact Nat.le_refl _
theorem rgo_app : ∀ (a b : List Nat) (n c : Nat), (rgo n c (a ++ b)).length ≤ (rgo n c a).length + (rlO b).length
  | [], [], n, c => by simp [rgo, rlO]
  | [], x :: b, n, c => by
    rw [List.nil_append]
    show (if rlw x = c ∧ n < 256 then _ else _ : List (Nat × Nat)).length ≤ 1 + (rgo 1 (rlw x) b).length
    split
    · rename_i h
      rw [h.1]; have := (rgo_near b c).1 1 (n + 1); omega
    · rw [List.length_cons]; omega
  | x :: a, b, n, c => by
    rw [List.cons_append]
    unfold rgo
    split
    · exact rgo_app a b (n + 1) c
    · rw [List.length_cons, List.length_cons]; have := rgo_app a b 1 (rlw x); omega
theorem rl_app (a b : List Nat) : (rlO (a ++ b)).length ≤ (rlO a).length + (rlO b).length := by
  cases a with
  | nil => simp [rlO]
  | cons x a => exact rgo_app a b 1 (rlw x)
theorem rl_one {n c : Nat} (hn : n ≤ 256) : (rlO (List.replicate n c)).length ≤ 1 := by
  cases n with
  | zero => simp [rlO]
  | succ n =>
    rw [rl_run (l := List.replicate (n + 1) c) (k := n + 1) (by omega) hn (by simp) (fun i hi => by simp [List.getD_eq_getElem?_getD, hi]) (.inr (.inl (by simp)))]
    simp [rlO]
theorem rl_lay : ∀ rs : List (Nat × Nat), (∀ r ∈ rs, r.1 ≤ 256) → (rlO (rlay rs)).length ≤ rs.length
  | [], _ => by simp [rlay, rlO]
  | r :: rs, h => by
    rw [rlay_cons]
    have h1 := rl_app (List.replicate r.1 r.2) (rlay rs)
    have h2 := rl_one (c := r.2) (h r (by simp))
    have h3 := rl_lay rs (fun x hx => h x (by simp [hx]))
    rw [List.length_cons]
    omega

/-- The bytes of a run, of runs. -/
def rlB (r : Nat × Nat) : List Nat := [r.1 - 1, r.2 / 65536, r.2 / 256 % 256, r.2 % 256]
def rlBs (rs : List (Nat × Nat)) : List Nat := rs.flatMap rlB
theorem rlBs_len : ∀ rs : List (Nat × Nat), (rlBs rs).length = 4 * rs.length
  | [] => rfl
  | r :: rs => by show (rlB r ++ rlBs rs).length = _; rw [List.length_append, rlBs_len rs]; simp [rlB]; omega
theorem rlBs_app (a b : List (Nat × Nat)) : rlBs (a ++ b) = rlBs a ++ rlBs b := List.flatMap_append
/-- The runs that bytes tell. -/
def rlT : List Nat → List (Nat × Nat)
  | a :: b :: c :: d :: r => (a + 1, b * 65536 + c * 256 + d) :: rlT r
  | _ => []
theorem rlT_rlBs : ∀ rs : List (Nat × Nat), (∀ r ∈ rs, RlOk r) → ∀ t, rlT (rlBs rs ++ t) = rs ++ rlT t
  | [], _, t => rfl
  | (n, c) :: rs, h, t => by
    obtain ⟨h1, h2, h3⟩ := h (n, c) (by simp)
    show (n - 1 + 1, c / 65536 * 65536 + c / 256 % 256 * 256 + c % 256) :: rlT (rlBs rs ++ t) = _
    simp only at h1 h3
    rw [rlT_rlBs rs (fun r hr => h r (by simp [hr])) t, show n - 1 + 1 = n by omega, show c / 65536 * 65536 + c / 256 % 256 * 256 + c % 256 = c by omega]
    rfl
theorem rlT_len : ∀ b : List Nat, (rlT b).length = b.length / 4
  | [] => rfl
  | [_] => by simp [rlT]
  | [_, _] => by simp [rlT]
  | [_, _, _] => by simp [rlT]
  | _ :: _ :: _ :: _ :: r => by
    show (rlT r).length + 1 = (r.length + 4) / 4
    rw [rlT_len r]; omega
theorem rlT_ok : ∀ b : List Nat, (∀ x ∈ b, x < 256) → ∀ r ∈ rlT b, RlOk r
  | [], _, r, hr => by simp [rlT] at hr
  | [_], _, r, hr => by simp [rlT] at hr
  | [_, _], _, r, hr => by simp [rlT] at hr
  | [_, _, _], _, r, hr => by simp [rlT] at hr
  | x :: y :: z :: u :: t, h, r, hr => by
    rcases List.mem_cons.1 (show r ∈ (x + 1, y * 65536 + z * 256 + u) :: rlT t from hr) with rfl | hr
    · have h1 := h x (by simp); have h2 := h y (by simp); have h3 := h z (by simp); have h4 := h u (by simp)
      exact ⟨by show 1 ≤ x + 1; omega, by show x + 1 ≤ 256; omega, by show y * 65536 + z * 256 + u < _; omega⟩
    · exact rlT_ok t (fun q hq => h q (by simp [hq])) r hr
/-- What is decoded: the pixels and the error. -/
def rlD (b : List Nat) (n : Int) : List Nat × Int :=
  if n < 0 ∨ 65536 < n then ([], 1) else if b.length % 4 ≠ 0 then ([], 131) else if ((rlay (rlT b)).length : Int) = n then (rlay (rlT b), 0) else ([], 131)
theorem rlD_arg {b : List Nat} {n : Int} (h : n < 0 ∨ 65536 < n) : rlD b n = ([], 1) := if_pos h
theorem rlD_odd {b : List Nat} {n : Int} (h : ¬ (n < 0 ∨ 65536 < n)) (h4 : b.length % 4 ≠ 0) : rlD b n = ([], 131) := by unfold rlD; rw [if_neg h, if_pos h4]
theorem rlD_no {b : List Nat} {n : Int} (h : ¬ (n < 0 ∨ 65536 < n)) (hl : ((rlay (rlT b)).length : Int) ≠ n) : rlD b n = ([], 131) := by
  unfold rlD; rw [if_neg h, if_neg hl]; split <;> rfl
theorem rlD_yes {b : List Nat} {n : Int} (h : ¬ (n < 0 ∨ 65536 < n)) (h4 : b.length % 4 = 0) (hl : ((rlay (rlT b)).length : Int) = n) : rlD b n = (rlay (rlT b), 0) := by
  unfold rlD; rw [if_neg h, if_neg (by omega), if_pos hl]
theorem rlD_rl {l : List Nat} (h : l.length ≤ 65536) : rlD (rlBs (rlO l)) l.length = (l.map rlw, 0) := by
  have e : rlay (rlT (rlBs (rlO l))) = l.map rlw := by
    have := rlT_rlBs (rlO l) (rl_ok l) []
    rw [List.append_nil] at this
    rw [this, show rlT [] = [] from rfl, List.append_nil, rlay_rl]
  rw [rlD_yes (by omega) (by rw [rlBs_len]; omega) (by rw [e]; simp), e]

end Go.Proofs.Ytonhcdhlinlncaa
