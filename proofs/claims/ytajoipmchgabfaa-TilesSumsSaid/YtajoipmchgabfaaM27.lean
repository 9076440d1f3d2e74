/- Several texts in one, each with its own head. -/
import Derived.Test.YtajoipmchgabfaaM21
import Derived.Test.YtajoipmchgabfaaM26
import Derived.Test.YtajoipmchgabfaaM5
import Derived.StillTail
/- tiles, plainly: the parts of a list within a picture, and how many pieces there are. Nothing here speaks of a program. -/
namespace Go.Proofs.Ytajoipmchgabfaa

/-- The parts of a list within a picture, in form. -/
def ptL (pw ph : Nat) (l : List Rc) : List Rc := formL (fun p _ => p) (wiL pw ph l) []
theorem ptL_pix (pw ph : Nat) (l : List Rc) (x y : Int) : pix (ptL pw ph l) x y = (pix l x y && hasR (pcR pw ph) x y) := by
  unfold ptL
  rw [pix_form _ rfl, wiL_pix]
theorem ptL_in (pw ph : Nat) (l : List Rc) : ∀ r ∈ ptL pw ph l, InP pw ph r :=
  inP_of (form_full _ rfl _ _) fun x y h => by
    rw [ptL_pix, Bool.and_eq_true] at h
    exact h.2
theorem sumX_mono {f g : Int → Int} (h : ∀ x, f x ≤ g x) (n : Nat) : sumX f n ≤ sumX g n := by
  have h1 := sumX_add f (fun x => g x - f x) n
  have h2 : sumX (fun x => f x + (g x - f x)) n = sumX g n := sumX_congr (fun x => by omega) n
  have h3 : 0 ≤ sumX (fun x => g x - f x) n := by
    generalize hd : (fun x => g x - f x) = d
    have hd' : ∀ x, 0 ≤ d x := fun x => by rw [← hd]; have := h x; simp only; omega
    clear hd h1 h2
    induction n with
    | zero => simp [sumX]
    | succ n ih => unfold sumX; have := hd' (n - 1048576); first | omega | (have := hd' (-1048576 + n); omega) | (simp only []; split <;> omega)
  omega
theorem sumP_mono {f g : Int → Int → Int} (h : ∀ x y, f x y ≤ g x y) (n m : Nat) : sumP f n m ≤ sumP g n m := by
  unfold sumP
  exact sumX_mono (fun y => sumX_mono (fun x => h x y) n) m
theorem ptL_len {pw ph : Nat} (hw : pw ≤ 256) (hh : ph ≤ 256) (l : List Rc) : (ptL pw ph l).length ≤ 65536 := by
  have h1 : ((ptL pw ph l).length : Int) ≤ areaS (ptL pw ph l) := len_area _ (form_full _ rfl _ _)
  by_cases he : emptyR (pcR pw ph) = true
  · have : ptL pw ph l = [] := by
      rcases List.eq_nil_or_concat (ptL pw ph l) with h | ⟨_, r, h⟩
      · exact h
      · have hr := ptL_in pw ph l r (by rw [h]; simp)
        obtain ⟨i1, i2, i3, i4, i5, i6⟩ := hr
        have : emptyR (pcR pw ph) = false := by rw [emptyR_false]; simp only [pcR]; omega
        rw [this] at he; cases he
    rw [this]; simp
  · have he' : emptyR (pcR pw ph) = false := by simpa using he
    have h2 := area_form (fun p _ => p) rfl (wiL pw ph l) []
    have h3 := sumP_rect he' 2097152 2097152 rfl rfl
    have h4 : sumP (fun x y => ind (pix (wiL pw ph l) x y)) 2097152 2097152 ≤ sumP (fun x y => ind (hasR (pcR pw ph) x y)) 2097152 2097152 := sumP_mono (fun x y => by
      rw [wiL_pix]
      unfold ind
      cases pix l x y <;> cases hasR (pcR pw ph) x y <;> simp) _ _
    have h5 : areaR (pcR pw ph) ≤ 65536 := by
      have : areaR (pcR pw ph) = (pw : Int) * ph := by unfold areaR; rw [if_neg (by rw [he']; decide)]; rfl
      rw [this]
      have := Nat.mul_le_mul hw hh
      have e : ((pw * ph : Nat) : Int) = (pw : Int) * ph := by simp
      omega
    unfold ptL at h1 ⊢
    omega
theorem unR_len {w h : Nat} (hw : w ≤ 256) (hh : h ≤ 256) {p : Rc} (hp : InP w h p) : (unR w h p).length ≤ 256 := by
  obtain ⟨h1, h2, h3, h4, h5, h6⟩ := hp
  unfold unR unL rowsT rowT
  rw [List.length_flatMap]
  simp only [List.length_map, List.length_range', List.map_const', List.sum_replicate_nat]
  have a1 : (p.y.toNat + p.b.toNat + 15) / 16 - p.y.toNat / 16 ≤ 16 := by omega
  have a2 : (p.x.toNat + p.a.toNat + 15) / 16 - p.x.toNat / 16 ≤ 16 := by omega
  have := Nat.mul_le_mul a1 a2
  omega
theorem pcsL_len {w h : Nat} (hw : w ≤ 256) (hh : h ≤ 256) : ∀ {ps : List Rc}, (∀ p ∈ ps, InP w h p) → (pcsL w h ps).length ≤ ps.length * 256
  | [], _ => by simp [pcsL]
  | p :: ps, hp => by
    have h1 := unR_len hw hh (hp p (by simp))
    have h2 := pcsL_len hw hh (ps := ps) (fun q hq => hp q (by simp [hq]))
    unfold pcsL at h2 ⊢
    rw [List.flatMap_cons, List.length_append, List.length_cons]
    unfold pcsE at *
    rw [List.length_map]
    omega
theorem tl_in {w h i : Nat} (hw : w ≤ 256) (hh : h ≤ 256) (hi : i < tlN w h) : InP w h (tlR w h i) ∧ emptyR (tlR w h i) = false := by
  have hc : 0 < clN w := by
    unfold tlN at hi
    exact Nat.pos_of_ne_zero (fun e => by rw [e] at hi; simp at hi)
  have hqc : i % clN w < clN w := Nat.mod_lt _ hc
  have hrc : i / clN w < clN h := Nat.div_lt_of_lt_mul (by unfold tlN at hi; rw [Nat.mul_comm]; exact hi)
  have hq16 : 16 * (i % clN w) < w := by unfold clN at hqc ⊢; omega
  have hr16 : 16 * (i / clN w) < h := by
    have h1 : 16 * (i / clN w) < 16 * clN h := by omega
    have h2 : clN h = (h + 15) / 16 := rfl
    omega
  have he : emptyR (tlR w h i) = false := til_full hw hh hq16 hr16
  refine ⟨inP_of (l := [tlR w h i]) (fun r hr => ?_) (fun x y hx => ?_) _ List.mem_cons_self, he⟩
  · rcases List.mem_cons.1 hr with rfl | hr
    · exact he
    · cases hr
  · obtain ⟨r, hr, hxr⟩ := pix_iff.1 hx
    rcases List.mem_cons.1 hr with rfl | hr
    · unfold tlR til at hxr
      rw [has_and, Bool.and_eq_true] at hxr
      exact hxr.2
    · cases hr
theorem form_len_in {r : Rc} {l : List Rc} (hr : emptyR r = false) (h : ∀ x y, pix l x y = true → hasR r x y = true) : ((formL (fun p _ => p) l []).length : Int) ≤ areaR r := by
  have h1 := len_area _ (form_full (fun p _ => p) rfl l [])
  have h2 := area_form (fun p _ => p) rfl l []
  have h3 := sumP_rect hr 2097152 2097152 rfl rfl
  have h4 : sumP (fun x y => ind (pix l x y)) 2097152 2097152 ≤ sumP (fun x y => ind (hasR r x y)) 2097152 2097152 := sumP_mono (fun x y => by
    have := h x y
    unfold ind
    cases hp : pix l x y <;> cases hq : hasR r x y <;> simp_all) _ _
  omega
/-- The form of one tile's pieces. -/
def fmN (E : List (Nat × Rc)) (i : Nat) : List Rc := formL (fun p _ => p) (ofN E i) []
theorem fullT_full {q r : Nat} (hq : q ≤ 256) (hr : r ≤ 256) : emptyR (fullT q r) = false ∧ areaR (fullT q r) = 256 := by
  have h : emptyR (fullT q r) = false := by rw [emptyR_false]; simp only [fullT]; omega
  exact ⟨h, by unfold areaR; rw [if_neg (by rw [h]; decide)]; rfl⟩
theorem tl_parts {w h i : Nat} (hw : w ≤ 256) (hh : h ≤ 256) (hi : i < tlN w h) : i % clN w < clN w ∧ i / clN w < clN h ∧ clN w ≤ 16 ∧ clN h ≤ 16 := by
  have hc : 0 < clN w := by
    unfold tlN at hi
    exact Nat.pos_of_ne_zero (fun e => by rw [e] at hi; simp at hi)
  refine ⟨Nat.mod_lt _ hc, Nat.div_lt_of_lt_mul (by unfold tlN at hi; rw [Nat.mul_comm]; exact hi), by unfold clN; omega, by unfold clN; omega⟩
theorem fmN_len {w h : Nat} (hw : w ≤ 256) (hh : h ≤ 256) {ps : List Rc} (hp : ∀ p ∈ ps, InP w h p) (i : Nat) : (fmN (pcsL w h ps) i).length ≤ 256 := by
  by_cases hi : i < tlN w h
  · obtain ⟨a1, a2, a3, a4⟩ := tl_parts hw hh hi
    obtain ⟨f1, f2⟩ := fullT_full (q := i % clN w) (r := i / clN w) (by omega) (by omega)
    have := form_len_in f1 (l := ofN (pcsL w h ps) i) (fun x y hx => by
      rw [pcs_pix hw hh hp hi, Bool.and_eq_true] at hx
      have h2 := hx.2
      unfold tlR til at h2
      rw [has_and, Bool.and_eq_true] at h2
      exact h2.1)
    unfold fmN; omega
  · have : ofN (pcsL w h ps) i = [] := List.eq_nil_iff_forall_not_mem.2 fun s hs => hi (pcs_mem hw hh hp hs).1
    unfold fmN; rw [this]
    have : formL (fun p _ => p) ([] : List Rc) [] = [] := by
      rcases List.eq_nil_or_concat (formL (fun p _ => p) ([] : List Rc) []) with h | ⟨_, r, h⟩
      · exact h
      · have hr : r ∈ formL (fun p _ => p) ([] : List Rc) [] := by rw [h]; simp
        obtain ⟨c1, -, -, -⟩ := corner_has (form_full _ rfl _ _ r hr)
        have := pix_iff.2 ⟨r, hr, c1⟩
        rw [pix_form _ rfl] at this
        simp [pix_nil] at this
    rw [this]; simp
theorem fm_total {w h : Nat} (hw : w ≤ 256) (hh : h ≤ 256) {ps : List Rc} (hp : ∀ p ∈ ps, InP w h p) : ∀ (xs : List (Nat × Rc)), (xs.flatMap fun e => fmN (pcsL w h ps) e.1).length ≤ xs.length * 256
  | [] => by simp
  | e :: xs => by
    have h1 := fmN_len hw hh hp e.1
    have h2 := fm_total hw hh hp xs
    rw [List.flatMap_cons, List.length_append, List.length_cons]
    omega
theorem pcsL_snoc (w h : Nat) (ps : List Rc) (p : Rc) : pcsL w h (ps ++ [p]) = pcsL w h ps ++ pcsE w h p := by
  unfold pcsL; rw [List.flatMap_append, List.flatMap_singleton]

end Go.Proofs.Ytajoipmchgabfaa

/- Regions that draw their order, whose head only reads and calls what keeps all that there is, and makes new blocks, and whose tail stores: one walk of the head in the order of the text serves every order. Nothing here speaks of one program. -/
namespace Go.Proofs.Ytajoipmchgabfaa
open Go.RowKit

section
variable {P : Program} {ops : Array Oper} {W : World} {md : Region.Mode}

/-- A value in the very world, or a call that answers it and keeps all that there is. -/
def mkUpon (P : Program) (w : World) (v : Value) : Result Next → Prop
  | .ok (.value u) w' => w' = w ∧ u = v
  | .ok .skip w' => w' = w ∧ v = undef
  | .ok (.enter f args) w' => w' = w ∧ Calls P f args w (fun e w'' => e = .returned v ∧ Below w.heap.size w w'')
  | _ => False

attribute [go_sem] mkUpon

def Yields (P : Program) (ops : Array Oper) (W : World) (o : Oper) (v : Value) (a : Act) : Prop :=
  (Region.wanted o (yielded ops a.tmps) = true ∧ ∀ n : After W, mkUpon P n.world v ((execOp a.eval o).run P n.world)) ∨ (Region.wanted o (yielded ops a.tmps) = false ∧ v = undef)

theorem Yields.of_same {o : Oper} {v : Value} {a a' : Act} (hy : Yields P ops W o v a) (he : execOp a'.eval o = execOp a.eval o)
    (hw : Region.wanted o (yielded ops a'.tmps) = Region.wanted o (yielded ops a.tmps)) : Yields P ops W o v a' := by
  unfold Yields at *
  rw [he, hw]
  exact hy

/-- The head's reading and calling operations, in the order of the text. -/
def Lq (P : Program) (ops : Array Oper) (W : World) (E : Act → Prop) : List Oper → Act → Prop
  | [], a => E a
  | o :: rest, a => ∃ v, Yields P ops W o v a ∧ Lq P ops W E rest (a.put o.dst v)

theorem Lq_nil {E : Act → Prop} {a : Act} (h : E a) : Lq P ops W E [] a := h
theorem Lq_step {E : Act → Prop} {a : Act} {o : Oper} {rest : List Oper}
    (h : ∀ K : Act → Prop, (∀ a, Lq P ops W E rest a → K a) → if Region.wanted o (yielded ops a.tmps) then ∃ v, (∀ n : After W, mkUpon P n.world v ((execOp a.eval o).run P n.world)) ∧ K (a.put o.dst v) else K (a.put o.dst undef)) : Lq P ops W E (o :: rest) a := by
  have h1 := h _ (fun _ h => h)
  by_cases hw : Region.wanted o (yielded ops a.tmps) = true
  · rw [if_pos hw] at h1
    obtain ⟨v, h2, h3⟩ := h1
    exact ⟨v, Or.inl ⟨hw, h2⟩, h3⟩
  · rw [if_neg hw] at h1
    exact ⟨undef, Or.inr ⟨by simpa using hw, rfl⟩, h1⟩

theorem Lq.mono {E E' : Act → Prop} (hE : ∀ a, E a → E' a) : ∀ (l : List Oper) (a : Act), Lq P ops W E l a → Lq P ops W E' l a
  | [], a, h => hE a h
  | _ :: l, _, ⟨v, hy, h⟩ => ⟨v, hy, Lq.mono hE l _ h⟩

/-- One of them may come up ahead of others that are apart from it. -/
theorem Lq.pick {E : Act → Prop} (j : Oper) (post : List Oper) (hj : ∀ cs b, j.op ≠ .select cs b) : ∀ (pre : List Oper) (a : Act), (∀ p ∈ pre, p.apart ops j = true ∧ ∀ cs b, p.op ≠ .select cs b) → Lq P ops W E (pre ++ j :: post) a →
    ∃ v, Yields P ops W j v a ∧ Lq P ops W E (pre ++ post) (a.put j.dst v)
  | [], _, _, h => h
  | i :: pre, a, hap, h => by
    obtain ⟨vi, hyi, h'⟩ := h
    obtain ⟨v, hy, hL⟩ := Lq.pick j post hj pre (a.put i.dst vi) (fun p hp => hap p (by simp [hp])) h'
    obtain ⟨hi, hsi⟩ := hap i (by simp)
    obtain ⟨h1, h2, h3⟩ := Oper.apart_spec hi
    refine ⟨v, hy.of_same (execOp_put j hj a i.dst vi h1).symm (wanted_put j a i.dst vi h1).symm, vi, hyi.of_same (execOp_put i hsi a j.dst v h3) (wanted_put i a j.dst v h3), ?_⟩
    rw [← Act.put_comm a vi v h2]
    exact hL

/-- A slot that none of them looks at may be filled ahead of them. -/
theorem Lq.put {E E' : Act → Prop} (j : Oper) (x : Value) (hE : ∀ a, E a → E' (a.put j.dst x)) : ∀ (l : List Oper) (a : Act), (∀ p ∈ l, p.apart ops j = true ∧ ∀ cs b, p.op ≠ .select cs b) → Lq P ops W E l a → Lq P ops W E' l (a.put j.dst x)
  | [], a, _, h => hE a h
  | i :: l, a, hap, h => by
    obtain ⟨vi, hyi, h'⟩ := h
    obtain ⟨hi, hsi⟩ := hap i (by simp)
    obtain ⟨h1, h2, h3⟩ := Oper.apart_spec hi
    refine ⟨vi, hyi.of_same (execOp_put i hsi a j.dst x h3) (wanted_put i a j.dst x h3), ?_⟩
    rw [← Act.put_comm a vi x h2]
    exact Lq.put j x hE l (a.put i.dst vi) (fun p hp => hap p (by simp [hp])) h'

def updB (β : Nat → Nat) (i B : Nat) : Nat → Nat := fun k => if k = i then B else β k
theorem updB_same (β : Nat → Nat) (i B : Nat) : updB β i B i = B := by simp [updB]
theorem updB_ne (β : Nat → Nat) {i k : Nat} (B : Nat) (h : k ≠ i) : updB β i B k = β k := by simp [updB, h]
theorem updB_comm (β : Nat → Nat) {i j : Nat} (h : i ≠ j) (B C : Nat) : updB (updB β i B) j C = updB (updB β j C) i B := by
  funext k
  by_cases h1 : k = i
  · subst h1
    rw [updB_ne _ _ h, updB_same, updB_same]
  · by_cases h2 : k = j
    · subst h2
      rw [updB_same, updB_ne _ _ h1, updB_same]
    · rw [updB_ne _ _ h2, updB_ne _ _ h1, updB_ne _ _ h1, updB_ne _ _ h2]

/-- The head's new blocks: wherever they come to lie. -/
def La (W : World) (F : (Nat → Nat) → Act → Prop) : List (Nat × Oper) → (Nat → Nat) → Act → Prop
  | [], β, a => F β a
  | o :: rest, β, a => ∀ B, W.heap.size ≤ B → La W F rest (updB β o.1 B) (a.put o.2.dst (.pointer (some ⟨B, 0, none⟩)))

theorem La.pick {F : (Nat → Nat) → Act → Prop} (j : Nat × Oper) (post : List (Nat × Oper)) : ∀ (pre : List (Nat × Oper)) (β : Nat → Nat) (a : Act), (∀ p ∈ pre, p.1 ≠ j.1 ∧ ∀ d, p.2.dst = some d → j.2.dst ≠ some d) → La W F (pre ++ j :: post) β a →
    ∀ B, W.heap.size ≤ B → La W F (pre ++ post) (updB β j.1 B) (a.put j.2.dst (.pointer (some ⟨B, 0, none⟩)))
  | [], _, _, _, h => h
  | i :: pre, β, a, hap, h => fun B hB Bi hBi => by
    have h2 := La.pick j post pre (updB β i.1 Bi) (a.put i.2.dst (.pointer (some ⟨Bi, 0, none⟩))) (fun p hp => hap p (by simp [hp])) (h Bi hBi) B hB
    have hi := hap i (by simp)
    rw [updB_comm _ hi.1, Act.put_comm a _ _ hi.2] at h2
    exact h2

theorem not_waits {i j : Nat} {listed : Array Bool} (hj : j ∈ Region.ready md ops listed) (hi : listed.getD i true = false) : Region.waitsFor md ops j i = false := by
  cases h : Region.waitsFor md ops j i
  · rfl
  · obtain ⟨oj, hoj, e, he, hb, hon⟩ := Region.waitsFor_spec h
    obtain ⟨_, o, ho, hall⟩ := mem_ready.1 hj
    have : oj = o := Option.some.inj (hoj.symm.trans ho)
    subst this
    have h2 := hall e he hb
    rw [hon, getD_both hi] at h2
    cases h2

theorem split_at {α : Type} {x : α} {l : List α} (h : x ∈ l) : ∃ pre post, l = pre ++ x :: post := List.append_of_mem h

end
end Go.Proofs.Ytajoipmchgabfaa
