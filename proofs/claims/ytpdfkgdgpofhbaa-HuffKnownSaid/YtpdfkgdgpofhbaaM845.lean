/- Several texts in one, each with its own head. -/
import Derived.Test.YtpdfkgdgpofhbaaM830
import Derived.Test.YtpdfkgdgpofhbaaM843
import Derived.Test.YtpdfkgdgpofhbaaM844
import Derived.Test.YtpdfkgdgpofhbaaM831
/- For the closed statement: the chapter's examples, as they lie in memory. -/
namespace Go.Proofs.Ytpdfkgdgpofhbaa
open Go.RowKit Go.Maps

theorem row_block8 {W : World} {b : Nat} {ls : List Nat} (h : W.heap[b]? = some (.cells (ls.map u8v).toArray 5)) (hl : ls.length ≤ 1048576) : Row enc8 1 W (.slice (some ⟨b, 0, none⟩) ls.length ls.length) ls := by
  refine ⟨_, _, rfl, Nat.le_refl _, by simp only [maxLen]; omega, .inr ⟨b, 0, rfl, lt_heap h, fun i x hx j u hu => ?_⟩⟩
  have hj : j = 0 := by
    have := (List.getElem?_eq_some_iff.1 hu).1
    rw [enc8_len] at this
    omega
  subst hj
  refine cell_heap h ?_
  have e : u = u8v x := by
    have h5 : (enc8 x)[0]? = some (u8v x) := rfl
    rw [h5] at hu
    injection hu with hu
    exact hu.symm
  rw [List.getElem?_toArray, List.getElem?_map, e]
  rw [show 0 + i * 1 + 0 = i by omega, hx]; rfl

/-- A row of the examples. -/
structure RowK (W : World) (B i : Nat) (pl pw : Option Addr) (n m : Nat) (e : Int) (ls : List Nat) (ws : Nat → Nat) : Prop where
  c0 : W.cell? ⟨B, i * 3, none⟩ = some (.slice pl n n)
  c1 : W.cell? ⟨B, i * 3 + 1, none⟩ = some (.slice pw m m)
  c2 : W.cell? ⟨B, i * 3 + 2, none⟩ = some (.int .i64 e)
  row : Row enc8 1 W (.slice pl n n) ls
  chk : chk ls = e
  want : ∀ k, k < m → ∃ b, pw = some ⟨b, 0, none⟩ ∧ W.cell? ⟨b, k, none⟩ = some (.int .u16 ((ws k : Nat) : Int))
  good : e = 0 → m = ls.length ∧ ∀ k, k < m → (if 0 < lq ls k then cd (lq ls) ls.length k else 0) = ws k
  bad : e ≠ 0 → m = 0
  le : m ≤ 320

theorem rowK_good {W : World} {B i bl bw : Nat} {ls ws : List Nat} (hl : W.heap[bl]? = some (.cells (ls.map u8v).toArray 5)) (hw : W.heap[bw]? = some (.cells (ws.map u16v).toArray 30))
    (c0 : W.cell? ⟨B, i * 3, none⟩ = some (.slice (some ⟨bl, 0, none⟩) ls.length ls.length)) (c1 : W.cell? ⟨B, i * 3 + 1, none⟩ = some (.slice (some ⟨bw, 0, none⟩) ws.length ws.length)) (c2 : W.cell? ⟨B, i * 3 + 2, none⟩ = some (.int .i64 0))
    (hc : chk ls = 0) (h1 : ws.length = ls.length) (h2 : ws.length ≤ 320) (hk : ∀ k, k < ls.length → (if 0 < lq ls k then cd (lq ls) ls.length k else 0) = lq ws k) : RowK W B i (some ⟨bl, 0, none⟩) (some ⟨bw, 0, none⟩) ls.length ws.length 0 ls (lq ws) :=
  ⟨c0, c1, c2, row_block8 hl (by omega), hc, fun k hk => ⟨bw, rfl, cell_heap hw (by rw [List.getElem?_toArray, List.getElem?_map, List.getElem?_eq_getElem hk, lq_at hk]; rfl)⟩, fun _ => ⟨h1, fun k h => hk k (by omega)⟩, fun h => absurd rfl h, h2⟩
theorem rowK_bad {W : World} {B i bl : Nat} {e : Int} {ls : List Nat} (hl : W.heap[bl]? = some (.cells (ls.map u8v).toArray 5))
    (c0 : W.cell? ⟨B, i * 3, none⟩ = some (.slice (some ⟨bl, 0, none⟩) ls.length ls.length)) (c1 : W.cell? ⟨B, i * 3 + 1, none⟩ = some (.slice none 0 0)) (c2 : W.cell? ⟨B, i * 3 + 2, none⟩ = some (.int .i64 e))
    (hc : chk ls = e) (he : e ≠ 0) (h2 : ls.length ≤ 1048576) : RowK W B i (some ⟨bl, 0, none⟩) none ls.length 0 e ls (fun _ => 0) :=
  ⟨c0, c1, c2, row_block8 hl h2, hc, fun k hk => by omega, fun h => absurd h he, fun _ => rfl, by omega⟩
theorem rowK_nil {W : World} {B i : Nat} (c0 : W.cell? ⟨B, i * 3, none⟩ = some (.slice none 0 0)) (c1 : W.cell? ⟨B, i * 3 + 1, none⟩ = some (.slice none 0 0)) (c2 : W.cell? ⟨B, i * 3 + 2, none⟩ = some (.int .i64 0)) : RowK W B i none none 0 0 0 [] (fun _ => 0) :=
  ⟨c0, c1, c2, ⟨none, 0, rfl, Nat.le_refl _, by simp [maxLen], .inl ⟨rfl, rfl⟩⟩, by decide, fun k hk => by omega, fun _ => ⟨rfl, fun k hk => by omega⟩, fun _ => rfl, by omega⟩

theorem lq_zeros (n i : Nat) : lq (List.replicate n 0) i = 0 := by
  unfold lq
  rw [List.getD_eq_getElem?_getD, List.getElem?_replicate]
  split <;> rfl
theorem many_zeros : ∀ n : Nat, many n (fun _ => 0) = 0
  | 0 => rfl
  | n + 1 => by
    have := many_zeros n
    unfold many at this ⊢
    rw [sm, this]; rfl
theorem chk_zeros (n : Nat) (hn : n ≤ 320) : chk (List.replicate n 0) = 0 := by
  have hl : (List.replicate n 0).length = n := List.length_replicate
  rw [chk_rest (by rw [hl]; exact hn) (fun i _ => by rw [lq_zeros]; omega)]
  refine if_pos (.inl ?_)
  rw [show lq (List.replicate n 0) = fun _ => 0 from funext fun i => lq_zeros n i]
  exact many_zeros _

theorem lens_zeros (n : Nat) : lensRow (fun _ => 0) n = (List.replicate n 0).map u8v := by
  refine List.ext_getElem (by simp [lensRow]) (fun i h1 h2 => ?_)
  simp [lensRow]
theorem c_zeros (n : Nat) : cRow (fun _ => 0) n = (List.replicate n 0).map u16v := by
  refine List.ext_getElem (by simp [cRow]) (fun i h1 h2 => ?_)
  simp [cRow]

/-- A new row of values. -/
def postR (t : TypeId) (n : Nat) (xs : List Value) (v : Value) (w : World) : Prop := ∃ b, v = .slice (some ⟨b, 0, none⟩) n n ∧ w.heap[b]? = some (.cells xs.toArray t)
theorem postR_stays (t : TypeId) (n : Nat) (xs : List Value) (v : Value) : StaysI (postR t n xs v) := fun _ _ ⟨b, h1, h2⟩ hb => ⟨b, h1, (hb.block b (lt_heap h2)).trans h2⟩
theorem postR_new (t : TypeId) (n : Nat) (xs : List Value) (w : World) : newOut w (postR t n xs) (.ok (.value (.slice (some ⟨w.heap.size, 0, none⟩) n n)) (w.alloc (.cells xs.toArray t))) := ⟨Below.al1 _ _, _, rfl, World.alloc_heap_new _ _⟩
theorem postR_at {t : TypeId} {n b : Nat} {xs : List Value} {w : World} (h : postR t n xs (.slice (some ⟨b, 0, none⟩) n n) w) : w.heap[b]? = some (.cells xs.toArray t) := by
  obtain ⟨b', e, h⟩ := h
  cases e
  exact h
theorem alloc_at {w W : World} {o : Obj} (h : w.alloc o = W) : W.heap[w.heap.size]? = some o ∧ Below w.heap.size w W := by
  subst h
  exact ⟨World.alloc_heap_new _ _, Below.al1 _ _⟩
theorem Mq_new {P : Program} {W : World} {F : (World → Prop) → Act → Prop} {k : Nat} {o : Oper} {p : Value → World → Prop} {rest : List Itm} {Kn : World → Prop} {a : Act} (h1 : ∀ m : After W, newOut m.world p ((execOp a.eval o).run P m.world)) (h2 : ∀ v, (∃ w, p v w) → Mq P W F rest (fun w => Kn w ∧ p v w) (a.put o.dst v)) : Mq P W F (⟨k, o, some p⟩ :: rest) Kn a := ⟨h1, h2⟩
theorem Mq_look {P : Program} {W : World} {F : (World → Prop) → Act → Prop} {k : Nat} {o : Oper} {rest : List Itm} {Kn : World → Prop} {a : Act} (v : Value) (h1 : ∀ m : After W, (execOp a.eval o).run P m.world = .ok (.value v) m.world) (h2 : Mq P W F rest Kn (a.put o.dst v)) : Mq P W F (⟨k, o, none⟩ :: rest) Kn a := ⟨v, h1, h2⟩
theorem Mq_nil {P : Program} {W : World} {F : (World → Prop) → Act → Prop} {Kn : World → Prop} {a : Act} (h : F Kn a) : Mq P W F [] Kn a := h

theorem k_rows {W : World} {B b0 b1 b3 b5 b7 b8 b10 b11 b14 b15 b17 b19 b21 b23 b24 b26 b27 : Nat} (h0 : W.heap[b0]? = some (.cells ([2, 1, 3, 3].map u8v).toArray 5)) (h1 : W.heap[b1]? = some (.cells ([1, 0, 3, 7].map u16v).toArray 30)) (h3 : W.heap[b3]? = some (.cells ([1, 1, 1].map u8v).toArray 5)) (h5 : W.heap[b5]? = some (.cells ([2].map u8v).toArray 5)) (h7 : W.heap[b7]? = some (.cells ([1].map u8v).toArray 5)) (h8 : W.heap[b8]? = some (.cells ([0].map u16v).toArray 30)) (h10 : W.heap[b10]? = some (.cells ([0, 0].map u8v).toArray 5)) (h11 : W.heap[b11]? = some (.cells ([0, 0].map u16v).toArray 30)) (h14 : W.heap[b14]? = some (.cells ([0, 1, 0].map u8v).toArray 5)) (h15 : W.heap[b15]? = some (.cells ([0, 0, 0].map u16v).toArray 30)) (h17 : W.heap[b17]? = some (.cells ([1, 2].map u8v).toArray 5)) (h19 : W.heap[b19]? = some (.cells ([16].map u8v).toArray 5)) (h21 : W.heap[b21]? = some (.cells (lensRow (fun _ => 0) 321).toArray 5)) (h23 : W.heap[b23]? = some (.cells (lensRow (fun _ => 0) 320).toArray 5)) (h24 : W.heap[b24]? = some (.cells (cRow (fun _ => 0) 320).toArray 30)) (h26 : W.heap[b26]? = some (.cells ([3, 3, 3, 3, 3, 2, 4, 4].map u8v).toArray 5)) (h27 : W.heap[b27]? = some (.cells ([2, 6, 1, 5, 3, 0, 7, 15].map u16v).toArray 30))
    (hT : W.heap[B]? = some (.cells #[.slice (some ⟨b0, 0, none⟩) 4 4, .slice (some ⟨b1, 0, none⟩) 4 4, .int .i64 0, .slice (some ⟨b3, 0, none⟩) 3 3, .slice none 0 0, .int .i64 60, .slice (some ⟨b5, 0, none⟩) 1 1, .slice none 0 0, .int .i64 60, .slice (some ⟨b7, 0, none⟩) 1 1, .slice (some ⟨b8, 0, none⟩) 1 1, .int .i64 0, .slice (some ⟨b10, 0, none⟩) 2 2, .slice (some ⟨b11, 0, none⟩) 2 2, .int .i64 0, .slice none 0 0, .slice none 0 0, .int .i64 0, .slice (some ⟨b14, 0, none⟩) 3 3, .slice (some ⟨b15, 0, none⟩) 3 3, .int .i64 0, .slice (some ⟨b17, 0, none⟩) 2 2, .slice none 0 0, .int .i64 60, .slice (some ⟨b19, 0, none⟩) 1 1, .slice none 0 0, .int .i64 1, .slice (some ⟨b21, 0, none⟩) 321 321, .slice none 0 0, .int .i64 1, .slice (some ⟨b23, 0, none⟩) 320 320, .slice (some ⟨b24, 0, none⟩) 320 320, .int .i64 0, .slice (some ⟨b26, 0, none⟩) 8 8, .slice (some ⟨b27, 0, none⟩) 8 8, .int .i64 0] 57)) : ∀ i, i < 12 → ∃ pl pw n m e ls ws, RowK W B i pl pw n m e ls ws := by
  intro i hi
  have hi : i = 0 ∨ i = 1 ∨ i = 2 ∨ i = 3 ∨ i = 4 ∨ i = 5 ∨ i = 6 ∨ i = 7 ∨ i = 8 ∨ i = 9 ∨ i = 10 ∨ i = 11 := by omega
  rcases hi with rfl | rfl | rfl | rfl | rfl | rfl | rfl | rfl | rfl | rfl | rfl | rfl
  · exact ⟨_, _, _, _, _, _, _, rowK_good (ls := [2, 1, 3, 3]) (ws := [1, 0, 3, 7]) h0 h1 (cell_heap hT rfl) (cell_heap hT rfl) (cell_heap hT rfl) (by decide) rfl (by decide) (by decide)⟩
  · exact ⟨_, _, _, _, _, _, _, rowK_bad (ls := [1, 1, 1]) h3 (cell_heap hT rfl) (cell_heap hT rfl) (cell_heap hT rfl) (by decide) (by decide) (by decide)⟩
  · exact ⟨_, _, _, _, _, _, _, rowK_bad (ls := [2]) h5 (cell_heap hT rfl) (cell_heap hT rfl) (cell_heap hT rfl) (by decide) (by decide) (by decide)⟩
  · exact ⟨_, _, _, _, _, _, _, rowK_good (ls := [1]) (ws := [0]) h7 h8 (cell_heap hT rfl) (cell_heap hT rfl) (cell_heap hT rfl) (by decide) rfl (by decide) (by decide)⟩
  · exact ⟨_, _, _, _, _, _, _, rowK_good (ls := [0, 0]) (ws := [0, 0]) h10 h11 (cell_heap hT rfl) (cell_heap hT rfl) (cell_heap hT rfl) (by decide) rfl (by decide) (by decide)⟩
  · exact ⟨_, _, _, _, _, _, _, rowK_nil (cell_heap hT rfl) (cell_heap hT rfl) (cell_heap hT rfl)⟩
  · exact ⟨_, _, _, _, _, _, _, rowK_good (ls := [0, 1, 0]) (ws := [0, 0, 0]) h14 h15 (cell_heap hT rfl) (cell_heap hT rfl) (cell_heap hT rfl) (by decide) rfl (by decide) (by decide)⟩
  · exact ⟨_, _, _, _, _, _, _, rowK_bad (ls := [1, 2]) h17 (cell_heap hT rfl) (cell_heap hT rfl) (cell_heap hT rfl) (by decide) (by decide) (by decide)⟩
  · exact ⟨_, _, _, _, _, _, _, rowK_bad (ls := [16]) h19 (cell_heap hT rfl) (cell_heap hT rfl) (cell_heap hT rfl) (by decide) (by decide) (by decide)⟩
  · exact ⟨_, _, _, _, _, _, _, rowK_bad (ls := List.replicate 321 0) (by rw [← lens_zeros]; exact h21) (by rw [List.length_replicate]; exact cell_heap hT rfl) (cell_heap hT rfl) (cell_heap hT rfl) (chk_long (by rw [List.length_replicate]; omega)) (by decide) (by rw [List.length_replicate]; omega)⟩
  · exact ⟨_, _, _, _, _, _, _, rowK_good (ls := List.replicate 320 0) (ws := List.replicate 320 0) (by rw [← lens_zeros]; exact h23) (by rw [← c_zeros]; exact h24) (by rw [List.length_replicate]; exact cell_heap hT rfl) (by rw [List.length_replicate]; exact cell_heap hT rfl) (cell_heap hT rfl) (chk_zeros 320 (Nat.le_refl _)) rfl (by rw [List.length_replicate]; omega) (fun k _ => by rw [lq_zeros]; rfl)⟩
  · exact ⟨_, _, _, _, _, _, _, rowK_good (ls := [3, 3, 3, 3, 3, 2, 4, 4]) (ws := [2, 6, 1, 5, 3, 0, 7, 15]) h26 h27 (cell_heap hT rfl) (cell_heap hT rfl) (cell_heap hT rfl) (by decide) rfl (by decide) (by decide)⟩

end Go.Proofs.Ytpdfkgdgpofhbaa

/- For the closed statement: the lengths that it names. -/
namespace Go.Proofs.Ytpdfkgdgpofhbaa
open Go.RowKit

theorem kn_arithF : ∀ a b : Fin 11, ∀ c : Fin 6, ∀ d : Fin 4, 0 < a.1 ∧ 0 < b.1 ∧ 0 < c.1 ∧ 0 < d.1 ∧ a.1 + b.1 + 2 * c.1 + 4 * d.1 ≤ 14 ∧ 2 ^ (15 - a.1) + 2 ^ (15 - b.1) + 2 ^ (15 - c.1) + 2 ^ (15 - d.1) = 2 ^ 15 → a.1 = 3 ∧ b.1 = 3 ∧ c.1 = 2 ∧ d.1 = 1 := by decide +kernel
theorem kn_arith {a b c d : Nat} (ha : a < 11) (hb : b < 11) (hc : c < 6) (hd : d < 4) (p0 : 0 < a) (p1 : 0 < b) (p2 : 0 < c) (p3 : 0 < d) (h : a + b + 2 * c + 4 * d ≤ 14) (hr : 2 ^ (15 - a) + 2 ^ (15 - b) + 2 ^ (15 - c) + 2 ^ (15 - d) = 2 ^ 15) : a = 3 ∧ b = 3 ∧ c = 2 ∧ d = 1 :=
  kn_arithF ⟨a, ha⟩ ⟨b, hb⟩ ⟨c, hc⟩ ⟨d, hd⟩ ⟨p0, p1, p2, p3, h, hr⟩
theorem kn_a {g : Nat → Nat} (h : LensOk [1, 1, 2, 4] 15 g) : g 0 = 3 ∧ g 1 = 3 ∧ g 2 = 2 ∧ g 3 = 1 := by
  have m4 : 2 ≤ many ([1, 1, 2, 4] : List Int).length (fq [1, 1, 2, 4]) := by decide
  have p0 := (h.le 0 (by decide)).2.2 (by decide)
  have p1 := (h.le 1 (by decide)).2.2 (by decide)
  have p2 := (h.le 2 (by decide)).2.2 (by decide)
  have p3 := (h.le 3 (by decide)).2.2 (by decide)
  have hr : room 4 15 g = 2 ^ 15 := h.code m4
  have hb := h.best m4 (l := fun i => if i = 0 then 3 else if i = 1 then 3 else if i = 2 then 2 else 1) (fun i _ => by
    show (if i = 0 then 3 else if i = 1 then 3 else if i = 2 then 2 else 1) ≤ 15
    repeat' split
    all_goals omega) (by decide) (by decide)
  have hc : cost 4 (fq [1, 1, 2, 4]) g = g 0 + g 1 + 2 * g 2 + 4 * g 3 := by
    have f0 : fq [1, 1, 2, 4] 0 = 1 := by decide
    have f1 : fq [1, 1, 2, 4] 1 = 1 := by decide
    have f2 : fq [1, 1, 2, 4] 2 = 2 := by decide
    have f3 : fq [1, 1, 2, 4] 3 = 4 := by decide
    simp only [cost, sm, f0, f1, f2, f3]
    omega
  have hb : cost 4 (fq [1, 1, 2, 4]) g ≤ 14 := hb
  rw [hc] at hb
  simp only [room, sm, if_pos p0, if_pos p1, if_pos p2, if_pos p3, Nat.zero_add] at hr
  exact kn_arith (by omega) (by omega) (by omega) (by omega) p0 p1 p2 p3 hb hr
theorem kn_b {g : Nat → Nat} (h : LensOk [0, 5] 3 g) : g 0 = 0 ∧ g 1 = 1 := by
  have m1 : many ([0, 5] : List Int).length (fq [0, 5]) = 1 := by decide
  have h0 := (h.le 0 (by decide)).2
  have h1 := (h.le 1 (by decide)).2
  have o1 := h.one m1 1 (by decide)
  have f0 : fq [0, 5] 0 = 0 := by decide
  have f1 : fq [0, 5] 1 = 5 := by decide
  rw [f0] at h0
  rw [f1] at h1
  have := h1.2 (by omega)
  constructor
  · rcases Nat.eq_zero_or_pos (g 0) with h | h
    · exact h
    · have := h0.1 h
      omega
  · omega
theorem kn_twoF : ∀ a b : Fin 6, 0 < a.1 ∧ 0 < b.1 ∧ 2 ^ (5 - a.1) + 2 ^ (5 - b.1) = 2 ^ 5 → a.1 = 1 ∧ b.1 = 1 := by decide +kernel
theorem kn_n {g : Nat → Nat} (h : LensOk [1099511627776, 1099511627776] 5 g) : g 0 = 1 ∧ g 1 = 1 := by
  have m2 : 2 ≤ many ([1099511627776, 1099511627776] : List Int).length (fq [1099511627776, 1099511627776]) := by decide
  have h0 := h.le 0 (by decide)
  have h1 := h.le 1 (by decide)
  have p0 := h0.2.2 (by decide)
  have p1 := h1.2.2 (by decide)
  have hr : room 2 5 g = 2 ^ 5 := h.code m2
  simp only [room, sm, if_pos p0, if_pos p1, Nat.zero_add] at hr
  exact kn_twoF ⟨g 0, by omega⟩ ⟨g 1, by omega⟩ ⟨p0, p1, hr⟩

theorem made_z (n : Nat) : madeCells #[Value.int .i64 0] n = ((List.replicate n (0 : Int)).map (Value.int .i64)).toArray := by
  refine Array.ext (by simp [size_madeCells]) (fun i h1 h2 => ?_)
  simp [madeCells, Nat.mod_one]
theorem int_infoK : (Try.prog.info? 3).map (fun i => (i.zero, i.size, i.bytes)) = some (some (.int .i64 0), 1, 8) := by kernel_rfl
theorem make_z (n : Nat) (hn : n ≤ 131072) (w : World) : (Instr.makeSlice 47 (.int .i64 (n : Int)) (.int .i64 (n : Int))).run Try.prog w = .ok (.slice (some ⟨w.heap.size, 0, none⟩) n n) (w.alloc (.cells ((List.replicate n (0 : Int)).map (Value.int .i64)).toArray 3)) := by
  obtain ⟨i, hi, hz, hs, hb⟩ := info_parts int_infoK
  have h := run_make (P := Try.prog) w 47 3 i _ Try.underlying47 hi hz .i64 .i64 (n : Int) (n : Int) (by omega) (Int.le_refl _) (by rw [hb]; omega) (by omega)
  rw [h]
  simp only [Int.toNat_natCast, hs, Nat.mul_one]
  rw [show (Value.int IntKind.i64 0).cells = #[Value.int .i64 0] from rfl, made_z]
theorem zeros_bad (n : Nat) (h : 320 < n) (L : Int) : mayB (List.replicate n 0) L = false := by
  unfold mayB
  rw [List.length_replicate, decide_eq_false (by omega)]
  rfl

end Go.Proofs.Ytpdfkgdgpofhbaa
