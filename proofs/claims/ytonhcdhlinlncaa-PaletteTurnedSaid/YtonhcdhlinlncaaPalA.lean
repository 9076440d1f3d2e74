/- palette, plainly: the colours of pixels, their numbers, and the bytes of both. Nothing here speaks of a program. -/
import Derived.Test.YtonhcdhlinlncaaBitM
import Derived.Test.YtonhcdhlinlncaaRleA
namespace Go.Proofs.Ytonhcdhlinlncaa

/-- One colour more, if it is new. -/
def plS (acc : List Nat) (c : Nat) : List Nat := if c ∈ acc then acc else acc ++ [c]
/-- The colours of pixels behind these, in the order in which they come first. -/
def plC : List Nat → List Nat → List Nat
  | acc, [] => acc
  | acc, x :: r => plC (plS acc (rlw x)) r
def plCol (l : List Nat) : List Nat := plC [] l

theorem plS_old {acc : List Nat} {c : Nat} (h : c ∈ acc) : plS acc c = acc := if_pos h
theorem plS_new {acc : List Nat} {c : Nat} (h : c ∉ acc) : plS acc c = acc ++ [c] := if_neg h
theorem plS_pre (acc : List Nat) (c : Nat) : ∃ t, plS acc c = acc ++ t := by
  unfold plS; split
  · exact ⟨[], by simp⟩
  · exact ⟨[c], rfl⟩
theorem plS_mem {acc : List Nat} {c x : Nat} : x ∈ plS acc c ↔ x ∈ acc ∨ x = c := by
  unfold plS; split
  · rename_i h
    exact ⟨.inl, fun h' => h'.elim id (fun e => by rw [e]; exact h)⟩
  · simp
theorem plC_pre : ∀ (l acc : List Nat), ∃ t, plC acc l = acc ++ t
  | [], acc => ⟨[], by simp [plC]⟩
  | x :: r, acc => by
    obtain ⟨t, e⟩ := plS_pre acc (rlw x)
    obtain ⟨u, e2⟩ := plC_pre r (plS acc (rlw x))
    exact ⟨t ++ u, by show plC (plS acc (rlw x)) r = _; rw [e2, e, List.append_assoc]⟩
theorem plC_app : ∀ (a b acc : List Nat), plC acc (a ++ b) = plC (plC acc a) b
  | [], _, _ => rfl
  | x :: a, b, acc => plC_app a b (plS acc (rlw x))
theorem plC_mem : ∀ (l acc : List Nat) (c : Nat), c ∈ plC acc l ↔ c ∈ acc ∨ ∃ x ∈ l, rlw x = c
  | [], acc, c => by simp [plC]
  | x :: r, acc, c => by
    show c ∈ plC (plS acc (rlw x)) r ↔ _
    rw [plC_mem r, plS_mem]
    constructor
    · rintro ((h | h) | ⟨y, hy, e⟩)
      · exact .inl h
      · exact .inr ⟨x, by simp, h.symm⟩
      · exact .inr ⟨y, by simp [hy], e⟩
    · rintro (h | ⟨y, hy, e⟩)
      · exact .inl (.inl h)
      · rcases List.mem_cons.1 hy with rfl | hy
        · exact .inl (.inr e.symm)
        · exact .inr ⟨y, hy, e⟩
theorem plC_nodup : ∀ (l acc : List Nat), acc.Nodup → (plC acc l).Nodup
  | [], _, h => h
  | x :: r, acc, h => plC_nodup r _ (by
    unfold plS; split
    · exact h
    · rename_i hx
      rw [List.nodup_append]
      exact ⟨h, by simp, fun a ha b hb e => by simp at hb; subst hb; subst e; exact hx ha⟩)
theorem plC_len : ∀ (l acc : List Nat), acc.length ≤ (plC acc l).length ∧ (plC acc l).length ≤ acc.length + l.length
  | [], acc => by simp [plC]
  | x :: r, acc => by
    have := plC_len r (plS acc (rlw x))
    have h2 : acc.length ≤ (plS acc (rlw x)).length ∧ (plS acc (rlw x)).length ≤ acc.length + 1 := by
      unfold plS; split <;> simp
    show acc.length ≤ (plC (plS acc (rlw x)) r).length ∧ (plC (plS acc (rlw x)) r).length ≤ _
    rw [List.length_cons]; omega
theorem plC_map : ∀ (l acc : List Nat), plC acc (l.map rlw) = plC acc l
  | [], _ => rfl
  | x :: r, acc => by
    show plC (plS acc (rlw (rlw x))) (r.map rlw) = plC (plS acc (rlw x)) r
    rw [rlw_rlw, plC_map r]
theorem plCol_lt (l : List Nat) : ∀ c ∈ plCol l, c < 16777216 := by
  intro c hc
  rcases (plC_mem l [] c).1 hc with h | ⟨x, _, rfl⟩
  · cases h
  · exact rlw_lt x
theorem plCol_nil {l : List Nat} : (plCol l).length = 0 ↔ l = [] := by
  constructor
  · intro h
    cases l with
    | nil => rfl
    | cons x r =>
      have : rlw x ∈ plCol (x :: r) := (plC_mem _ _ _).2 (.inr ⟨x, by simp, rfl⟩)
      rw [List.length_eq_zero_iff.1 h] at this
      cases this
  · rintro rfl; rfl
theorem plC_take {l : List Nat} {i : Nat} (h : i < l.length) (acc : List Nat) : plC acc (l.take (i + 1)) = plS (plC acc (l.take i)) (rlw (l.getD i 0)) := by
  rw [List.take_succ_eq_append_getElem h, plC_app, List.getD_eq_getElem?_getD, List.getElem?_eq_getElem h]
  rfl
theorem plC_long {l : List Nat} {i : Nat} (acc : List Nat) : (plC acc (l.take i)).length ≤ (plC acc l).length := by
  have e := plC_app (l.take i) (l.drop i) acc
  rw [List.take_append_drop] at e
  rw [e]
  exact (plC_len _ _).1

/-- The place of a colour; the list's end, if it is not there. -/
def plI (c : Nat) : List Nat → Nat
  | [] => 0
  | x :: r => if x = c then 0 else plI c r + 1
theorem plI_le (c : Nat) : ∀ l : List Nat, plI c l ≤ l.length
  | [] => Nat.le_refl _
  | x :: r => by
    have := plI_le c r
    unfold plI; split <;> simp <;> omega
theorem plI_lt {c : Nat} : ∀ {l : List Nat}, plI c l < l.length ↔ c ∈ l
  | [] => by simp [plI]
  | x :: r => by
    unfold plI
    split
    · rename_i h; simp [h]
    · rename_i h
      have := plI_lt (c := c) (l := r)
      rw [List.length_cons, List.mem_cons, Nat.add_lt_add_iff_right, this]
      exact ⟨.inr, fun h' => h'.elim (fun e => absurd e.symm h) id⟩
theorem plI_get {c : Nat} : ∀ {l : List Nat}, c ∈ l → l.getD (plI c l) 0 = c
  | [], h => by cases h
  | x :: r, h => by
    unfold plI
    split
    · rename_i e; simpa using e
    · rename_i e
      rw [List.getD_cons_succ]
      exact plI_get ((List.mem_cons.1 h).resolve_left fun e' => e e'.symm)
theorem plI_app {c : Nat} {t : List Nat} : ∀ {l : List Nat}, c ∈ l → plI c (l ++ t) = plI c l
  | [], h => by cases h
  | x :: r, h => by
    show (if x = c then 0 else plI c (r ++ t) + 1) = if x = c then 0 else plI c r + 1
    split
    · rfl
    · rename_i e
      rw [plI_app ((List.mem_cons.1 h).resolve_left fun e' => e e'.symm)]
theorem plI_new {c : Nat} : ∀ {l : List Nat}, c ∉ l → plI c l = l.length
  | [], _ => rfl
  | x :: r, h => by
    unfold plI
    rw [if_neg (fun e => h (by rw [e]; simp)), plI_new (fun h' => h (List.mem_cons_of_mem _ h'))]
    rfl
theorem plI_nodup : ∀ {l : List Nat}, l.Nodup → ∀ i (h : i < l.length), plI l[i] l = i
  | [], _, i, h => by simp at h
  | x :: r, hn, i, h => by
    cases i with
    | zero => simp [plI]
    | succ i =>
      have hn' := List.nodup_cons.1 hn
      rw [List.getElem_cons_succ]
      unfold plI
      rw [if_neg (fun e => hn'.1 (by rw [e]; exact List.getElem_mem _)), plI_nodup hn'.2 i]
/-- Up to a place where it is. -/
theorem plI_first {c : Nat} : ∀ {l : List Nat} {i : Nat}, i ≤ l.length → (∀ j, j < i → l.getD j 0 ≠ c) → (i = l.length ∨ l.getD i 0 = c) → plI c l = i
  | [], i, h, _, _ => by simp at h; subst h; rfl
  | x :: r, 0, _, _, h2 => by
    rcases h2 with h2 | h2
    · simp at h2
    · unfold plI; rw [if_pos (by simpa using h2)]
  | x :: r, i + 1, h, h1, h2 => by
    unfold plI
    rw [if_neg (by simpa using h1 0 (by omega)), plI_first (by simpa using h) (fun j hj => by simpa using h1 (j + 1) (by omega)) (by simpa using h2)]

/-- Of how many bits a number is, of so many colours. -/
def plZ (k : Nat) : Nat := if k ≤ 1 then 0 else if k ≤ 2 then 1 else if k ≤ 4 then 2 else 4
theorem plZ_le (k : Nat) : plZ k ≤ 4 := by unfold plZ; split <;> (try split) <;> (try split) <;> omega
theorem plZ_pow {k : Nat} (h : k ≤ 16) : k ≤ 2 ^ plZ k := by
  unfold plZ; split
  · simpa using by assumption
  · split
    · simpa using by assumption
    · split
      · simpa using by assumption
      · simpa using h

/-- The number that numbers of s bits are, one behind the other. -/
def plN (s : Nat) : List Nat → Nat
  | [] => 0
  | v :: r => v + 2 ^ s * plN s r
theorem plN_snoc (s v : Nat) : ∀ l : List Nat, plN s (l ++ [v]) = plN s l + v * 2 ^ (s * l.length)
  | [] => by simp [plN]
  | x :: r => by
    show x + 2 ^ s * plN s (r ++ [v]) = x + 2 ^ s * plN s r + v * 2 ^ (s * (r.length + 1))
    rw [plN_snoc s v r, Nat.mul_add, Nat.mul_add s, Nat.mul_one, Nat.pow_add, Nat.add_assoc]
    congr 2
    rw [← Nat.mul_assoc, Nat.mul_comm (2 ^ s) v, Nat.mul_assoc, Nat.mul_comm (2 ^ s)]
theorem plN_lt (s : Nat) : ∀ l : List Nat, (∀ v ∈ l, v < 2 ^ s) → plN s l < 2 ^ (s * l.length)
  | [], _ => by simp [plN]
  | x :: r, h => by
    have h1 := h x (by simp)
    have h2 := plN_lt s r (fun v hv => h v (by simp [hv]))
    show x + 2 ^ s * plN s r < 2 ^ (s * (r.length + 1))
    rw [Nat.mul_add s, Nat.mul_one, Nat.pow_add, Nat.mul_comm (2 ^ (s * r.length))]
    have h3 : 2 ^ s * (plN s r + 1) ≤ 2 ^ s * 2 ^ (s * r.length) := Nat.mul_le_mul_left _ h2
    rw [Nat.mul_add, Nat.mul_one] at h3
    omega
theorem plN_get (s : Nat) : ∀ (l : List Nat), (∀ v ∈ l, v < 2 ^ s) → ∀ i, i < l.length → plN s l / 2 ^ (s * i) % 2 ^ s = l.getD i 0
  | [], _, i, h => by simp at h
  | x :: r, h, 0, _ => by
    have h1 := h x (by simp)
    show (x + 2 ^ s * plN s r) / 2 ^ (s * 0) % 2 ^ s = x
    rw [Nat.mul_zero, Nat.pow_zero, Nat.div_one, Nat.add_mul_mod_self_left, Nat.mod_eq_of_lt h1]
  | x :: r, h, i + 1, hi => by
    have h1 := h x (by simp)
    show (x + 2 ^ s * plN s r) / 2 ^ (s * (i + 1)) % 2 ^ s = _
    rw [Nat.mul_add s, Nat.mul_one, Nat.pow_add, Nat.mul_comm (2 ^ (s * i)), ← Nat.div_div_eq_div_mul, Nat.add_mul_div_left _ _ (pow_pos' s), Nat.div_eq_of_lt h1, Nat.zero_add, List.getD_cons_succ]
    exact plN_get s r (fun v hv => h v (by simp [hv])) i (by simpa using hi)
theorem plN_zero : ∀ l : List Nat, (∀ v ∈ l, v < 1) → plN 0 l = 0
  | [], _ => rfl
  | x :: r, h => by
    have h1 := h x (by simp)
    have h2 := plN_zero r (fun v hv => h v (by simp [hv]))
    show x + 2 ^ 0 * plN 0 r = 0
    rw [h2]; omega

/-- The bytes of a colour, of a palette's beginning, of numbers. -/
def plB (c : Nat) : List Nat := [c / 65536, c / 256 % 256, c % 256]
def plH (cs : List Nat) : List Nat := (cs.length - 1) :: cs.flatMap plB
def plV (cs l : List Nat) : List Nat := l.map fun x => plI (rlw x) cs
def plT (cs l : List Nat) : List Nat := byts (plN (plZ cs.length) (plV cs l)) ((plZ cs.length * l.length + 7) / 8)
theorem plH_len (cs : List Nat) : (plH cs).length = 1 + 3 * cs.length := by
  have : (cs.flatMap plB).length = 3 * cs.length := by
    induction cs with
    | nil => rfl
    | cons c r ih => rw [List.flatMap_cons, List.length_append, ih]; simp [plB]; omega
  unfold plH; rw [List.length_cons, this]; omega
theorem plT_len (cs l : List Nat) : (plT cs l).length = (plZ cs.length * l.length + 7) / 8 := byts_len _ _
theorem plV_len (cs l : List Nat) : (plV cs l).length = l.length := List.length_map _
theorem plV_lt {l : List Nat} : ∀ v ∈ plV (plCol l) l, v < (plCol l).length := by
  intro v hv
  obtain ⟨x, hx, rfl⟩ := List.mem_map.1 hv
  exact plI_lt.2 ((plC_mem l [] _).2 (.inr ⟨x, hx, rfl⟩))
/-- What is encoded: the bytes, and whether they are. -/
def plE (l : List Nat) : List Nat × Bool := if (plCol l).length < 1 ∨ 16 < (plCol l).length then ([], false) else (plH (plCol l) ++ plT (plCol l) l, true)
theorem plE_no {l : List Nat} (h : (plCol l).length < 1 ∨ 16 < (plCol l).length) : plE l = ([], false) := if_pos h
theorem plE_yes {l : List Nat} (h : ¬ ((plCol l).length < 1 ∨ 16 < (plCol l).length)) : plE l = (plH (plCol l) ++ plT (plCol l) l, true) := if_neg h
theorem plE_len {l : List Nat} (h : l.length ≤ 1048576) : (plE l).1.length ≤ 1048576 := by
  unfold plE
  split
  · simp
  · rw [List.length_append, plH_len, plT_len]
    have := plZ_le (plCol l).length
    have h2 : plZ (plCol l).length * l.length ≤ 4 * 1048576 := Nat.mul_le_mul this h
    omega
theorem plE_256 (l : List Nat) : ∀ x ∈ (plE l).1, x < 256 := by
  unfold plE
  split
  · intro x hx; cases hx
  · rename_i h
    intro x hx
    rcases List.mem_append.1 hx with hx | hx
    · rcases List.mem_cons.1 hx with rfl | hx
      · omega
      · obtain ⟨c, hc, hx⟩ := List.mem_flatMap.1 hx
        have := plCol_lt l c hc
        simp only [plB, List.mem_cons, List.not_mem_nil, or_false] at hx
        rcases hx with rfl | rfl | rfl <;> omega
    · exact byts_lt _ _ x hx

/-- The colours that bytes are. -/
def plTri : List Nat → List Nat
  | a :: b :: c :: r => (a * 65536 + b * 256 + c) :: plTri r
  | _ => []
theorem plTri_flat : ∀ cs : List Nat, (∀ c ∈ cs, c < 16777216) → plTri (cs.flatMap plB) = cs
  | [], _ => rfl
  | c :: r, h => by
    have := h c (by simp)
    show (c / 65536 * 65536 + c / 256 % 256 * 256 + c % 256) :: plTri (r.flatMap plB) = _
    rw [plTri_flat r (fun x hx => h x (by simp [hx])), show c / 65536 * 65536 + c / 256 % 256 * 256 + c % 256 = c by omega]
/-- The numbers of s bits that bytes are. -/
def plG (b : List Nat) (s n : Nat) : List Nat := (List.range n).map fun i => numB b / 2 ^ (s * i) % 2 ^ s
/-- What is decoded of the colours and the bytes behind them. -/
def plP (cs b : List Nat) (n : Nat) : Option (List Nat) :=
  if b.length ≠ (n * plZ cs.length + 7) / 8 then none else if ∃ v ∈ plG b (plZ cs.length) n, cs.length ≤ v then none else if numB b / 2 ^ (n * plZ cs.length) ≠ 0 then none else some ((plG b (plZ cs.length) n).map fun v => cs.getD v 0)
/-- What is decoded: the pixels and the error. -/
def plD (b : List Nat) (n : Int) : List Nat × Int :=
  if n < 1 ∨ 65536 < n then ([], 1)
  else if b.length = 0 ∨ 16 ≤ b.getD 0 0 ∨ b.length < 1 + 3 * (b.getD 0 0 + 1) then ([], 131)
  else match plP (plTri ((b.drop 1).take (3 * (b.getD 0 0 + 1)))) (b.drop (1 + 3 * (b.getD 0 0 + 1))) n.toNat with
    | none => ([], 131)
    | some l => (l, 0)
theorem plD_arg {b : List Nat} {n : Int} (h : n < 1 ∨ 65536 < n) : plD b n = ([], 1) := if_pos h
theorem plD_head {b : List Nat} {n : Int} (h : ¬ (n < 1 ∨ 65536 < n)) (h2 : b.length = 0 ∨ 16 ≤ b.getD 0 0 ∨ b.length < 1 + 3 * (b.getD 0 0 + 1)) : plD b n = ([], 131) := by unfold plD; rw [if_neg h, if_pos h2]
theorem plD_of {b : List Nat} {n : Int} (h : ¬ (n < 1 ∨ 65536 < n)) (h2 : ¬ (b.length = 0 ∨ 16 ≤ b.getD 0 0 ∨ b.length < 1 + 3 * (b.getD 0 0 + 1))) : plD b n = match plP (plTri ((b.drop 1).take (3 * (b.getD 0 0 + 1)))) (b.drop (1 + 3 * (b.getD 0 0 + 1))) n.toNat with | none => ([], 131) | some l => (l, 0) := by unfold plD; rw [if_neg h, if_neg h2]
theorem plG_len (b : List Nat) (s n : Nat) : (plG b s n).length = n := by simp [plG]
theorem plG_at (b : List Nat) (s n i : Nat) (h : i < (plG b s n).length) : (plG b s n)[i] = numB b / 2 ^ (s * i) % 2 ^ s := by simp [plG]
theorem plTri_len : ∀ (k : Nat) (b : List Nat), b.length = 3 * k → (plTri b).length = k
  | 0, b, h => by rw [List.length_eq_zero_iff.1 (by omega : b.length = 0)]; rfl
  | k + 1, [], h => by simp at h
  | k + 1, [_], h => by simp at h; omega
  | k + 1, [_, _], h => by simp at h; omega
  | k + 1, _ :: _ :: _ :: r, h => by
    show (plTri r).length + 1 = k + 1
    rw [plTri_len k r (by simp at h; omega)]
theorem plD_len {b : List Nat} {n : Int} : (plD b n).1.length ≤ 65536 := by
  unfold plD
  split
  · simp
  · rename_i h
    split
    · simp
    · split
      · simp
      · rename_i l hl
        unfold plP at hl
        split at hl
        · cases hl
        · split at hl
          · cases hl
          · split at hl
            · cases hl
            · cases hl
              simp only [List.length_map, plG_len]
              omega

/-- What is encoded is decoded. -/
theorem plG_plT {l : List Nat} (h : (plCol l).length ≤ 16) : plG (plT (plCol l) l) (plZ (plCol l).length) l.length = plV (plCol l) l := by
  have hv : ∀ v ∈ plV (plCol l) l, v < 2 ^ plZ (plCol l).length := fun v hv => Nat.lt_of_lt_of_le (plV_lt v hv) (plZ_pow h)
  have hN := plN_lt _ _ hv
  rw [plV_len] at hN
  have hB : numB (plT (plCol l) l) = plN (plZ (plCol l).length) (plV (plCol l) l) := numB_byts _ _ (by
    rw [pow256]
    exact Nat.lt_of_lt_of_le hN (Nat.pow_le_pow_right (by decide) (by omega)))
  refine List.ext_getElem (by rw [plG_len, plV_len]) (fun i h1 h2 => ?_)
  rw [plG_at, hB, plN_get _ _ hv i h2, List.getD_eq_getElem?_getD, List.getElem?_eq_getElem h2]
  rfl
theorem plP_plT {l : List Nat} (h : (plCol l).length ≤ 16) : plP (plCol l) (plT (plCol l) l) l.length = some (l.map rlw) := by
  have hv : ∀ v ∈ plV (plCol l) l, v < 2 ^ plZ (plCol l).length := fun v hv => Nat.lt_of_lt_of_le (plV_lt v hv) (plZ_pow h)
  have hN := plN_lt _ _ hv
  rw [plV_len] at hN
  have hB : numB (plT (plCol l) l) = plN (plZ (plCol l).length) (plV (plCol l) l) := numB_byts _ _ (by
    rw [pow256]
    exact Nat.lt_of_lt_of_le hN (Nat.pow_le_pow_right (by decide) (by omega)))
  unfold plP
  rw [if_neg (by rw [plT_len, Nat.mul_comm]; simp), plG_plT h, if_neg (by
    rintro ⟨v, h1, h2⟩
    have := plV_lt v h1
    omega), if_neg (by
    rw [hB, Nat.mul_comm, Nat.div_eq_of_lt hN]; simp)]
  congr 1
  unfold plV
  rw [List.map_map]
  refine List.map_congr_left (fun x hx => ?_)
  exact plI_get ((plC_mem l [] _).2 (.inr ⟨x, hx, rfl⟩))
theorem plD_plE {l : List Nat} (h : ¬ ((plCol l).length < 1 ∨ 16 < (plCol l).length)) (hl : l.length ≤ 65536) : plD (plE l).1 l.length = (l.map rlw, 0) := by
  have h0 : 1 ≤ l.length := by
    have := (plC_len l []).2
    have e : plC [] l = plCol l := rfl
    rw [e] at this
    simp at this; omega
  rw [plE_yes h]
  have hd : (plH (plCol l) ++ plT (plCol l) l).getD 0 0 = (plCol l).length - 1 := rfl
  rw [plD_of (by omega) (by
    simp only
    rw [hd, List.length_append, plH_len]; omega)]
  simp only
  rw [hd, show (plCol l).length - 1 + 1 = (plCol l).length by omega]
  have e1 : ((plH (plCol l) ++ plT (plCol l) l).drop 1).take (3 * (plCol l).length) = (plCol l).flatMap plB := by
    show (((plCol l).flatMap plB) ++ plT (plCol l) l).take _ = _
    rw [List.take_append_of_le_length (by have := plH_len (plCol l); unfold plH at this; rw [List.length_cons] at this; omega), List.take_of_length_le (by have := plH_len (plCol l); unfold plH at this; rw [List.length_cons] at this; omega)]
  have e2 : (plH (plCol l) ++ plT (plCol l) l).drop (1 + 3 * (plCol l).length) = plT (plCol l) l := by
    rw [← plH_len, List.drop_left]
  rw [e1, e2, plTri_flat _ (plCol_lt l), Int.toNat_natCast, plP_plT (by omega)]
theorem plE_length {l : List Nat} (h : ¬ ((plCol l).length < 1 ∨ 16 < (plCol l).length)) : (plE l).1.length = 1 + 3 * (plCol l).length + (l.length * plZ (plCol l).length + 7) / 8 := by
  rw [plE_yes h, List.length_append, plH_len, plT_len, Nat.mul_comm (plZ _)]

/-- The other way round. -/
theorem plCol_perm {l l' : List Nat} (h : ∀ x, x ∈ l ↔ x ∈ l') : (plCol l).length = (plCol l').length := by
  have k : ∀ c, c ∈ plCol l ↔ c ∈ plCol l' := fun c => by
    unfold plCol
    rw [plC_mem, plC_mem]
    exact or_congr Iff.rfl ⟨fun ⟨x, hx, e⟩ => ⟨x, (h x).1 hx, e⟩, fun ⟨x, hx, e⟩ => ⟨x, (h x).2 hx, e⟩⟩
  have n1 : (plCol l).Nodup := plC_nodup l [] List.nodup_nil
  have n2 : (plCol l').Nodup := plC_nodup l' [] List.nodup_nil
  exact Nat.le_antisymm (n1.length_le_of_subset fun c hc => (k c).1 hc) (n2.length_le_of_subset fun c hc => (k c).2 hc)

end Go.Proofs.Ytonhcdhlinlncaa
