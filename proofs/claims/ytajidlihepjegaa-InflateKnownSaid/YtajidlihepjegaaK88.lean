/- huff's queue: Len, Less, Swap, Push, Pop, as the library's heap calls them. -/
import Derived.Test.YtajidlihepjegaaK81
import Derived.Test.YtajidlihepjegaaK84
import Derived.Test.YtajidlihepjegaaK86
import Derived.Test.YtajidlihepjegaaK87
import Derived.BigQuiet
import Derived.BigRegion
import Derived.IntWalk
import Derived.Handy
import Derived.WalkSmall
namespace Go.Proofs.Ytajidlihepjegaa
open Go.RowKit

/-- A pointer to a block. -/
def ptrV (b : Nat) : Value := .pointer (some ⟨b, 0, none⟩)
theorem ptr_info : (Try.prog.info? 99).map (fun i => (i.zero, i.size, i.bytes)) = some (some (.pointer none), 1, 8) := by kernel_rfl
theorem ptr_size : (Try.prog.info? 99).map (·.size) = some 1 := by kernel_rfl

theorem method_push (k : Nat) (a : Addr) (w : World) : (method (k + 1) 127 (.pointer (some a)) "Push").run Try.prog w = .ok (113, .pointer (some a)) w := by kernel_rfl
theorem method_pop (k : Nat) (a : Addr) (w : World) : (method (k + 1) 127 (.pointer (some a)) "Pop").run Try.prog w = .ok (112, .pointer (some a)) w := by kernel_rfl
theorem load_queue (a : Addr) (v : Value) (w : World) (h : w.cell? a = some v) : (loadVar 112 a).run Try.prog w = .ok v w := by
  have ha : (isAgg 112).run Try.prog w = .ok false w := by kernel_rfl
  simp [loadVar, Sem.run_bind, ha, h]

theorem method_val (name : String) (g k : Nat) (a : Addr) (v : Value) (w : World) (hg : (Try.prog.info? 127).bind (fun i => (i.methods.find? (·.name == name)).map fun m => (m.path.toList, m.func)) = some ([], some (g, false))) (h : w.cell? a = some v) :
    (method (k + 1) 127 (.pointer (some a)) name).run Try.prog w = .ok (g, v) w := by
  have hl := load_queue a v w h
  have hu : Try.prog.underlying 127 = some (.pointer 112) := by kernel_rfl
  revert hg hl hu
  generalize Try.prog = P
  intro hg hl hu
  obtain ⟨i, hi, hg⟩ := Option.bind_eq_some_iff.1 hg
  obtain ⟨m, hm, e⟩ := Option.map_eq_some_iff.1 hg
  have e1 : m.path = #[] := by
    have := congrArg Prod.fst e
    simpa using this
  have e2 : m.func = some (g, false) := congrArg Prod.snd e
  have hc : ∀ n : String, (Builtin.ssaWrapNilChk_ #[127] 127 #[.pointer (some a), strVal "", strVal n]).run P w = .ok (.pointer (some a)) w := fun _ => rfl
  unfold method
  simp [typeInfo, Sem.run_bind, hi, hm, e1, e2, follow, receiverAt, underlying, hu, Place.get, hc, hl, asAddr]

theorem method_len (k : Nat) (a : Addr) (v : Value) (w : World) (h : w.cell? a = some v) : (method (k + 1) 127 (.pointer (some a)) "Len").run Try.prog w = .ok (64, v) w := method_val _ _ k a v w (by kernel_rfl) h
theorem method_less (k : Nat) (a : Addr) (v : Value) (w : World) (h : w.cell? a = some v) : (method (k + 1) 127 (.pointer (some a)) "Less").run Try.prog w = .ok (110, v) w := method_val _ _ k a v w (by kernel_rfl) h
theorem method_swap (k : Nat) (a : Addr) (v : Value) (w : World) (h : w.cell? a = some v) : (method (k + 1) 127 (.pointer (some a)) "Swap").run Try.prog w = .ok (111, v) w := method_val _ _ k a v w (by kernel_rfl) h

/-- Block B is a queue: of blocks, each with what it costs. -/
structure Qu (w : World) (base B : Nat) (sv : Value) (E : List (Nat × Nat)) : Prop where
  lt : B < base
  box : w.heap[B]? = some (.cells #[sv] 112)
  own : w.ownsRow base 99 1 sv E.length (E.map fun e => ptrV e.1)
  keys : ∀ e ∈ E, e.1 ≠ B ∧ sv.ownBlock ≠ some e.1 ∧ w.cell? ⟨e.1, 0, none⟩ = some (.int .i64 (e.2 : Int))

theorem Qu.c0 {w : World} {base B : Nat} {sv : Value} {E : List (Nat × Nat)} (h : Qu w base B sv E) : w.cell? ⟨B, 0, none⟩ = some sv := by simp [World.cell?, h.box]
theorem Qu.size {w : World} {base B : Nat} {sv : Value} {E : List (Nat × Nat)} (h : Qu w base B sv E) : B < w.heap.size := (Array.getElem?_eq_some_iff.1 h.box).1
theorem Qu.apart {w : World} {base B : Nat} {sv : Value} {E : List (Nat × Nat)} (h : Qu w base B sv E) : sv.ownBlock ≠ some B := fun e => by
  have h1 := h.own.lt B e
  have h2 := h.lt
  omega
theorem Qu.free {w : World} {base B : Nat} {sv : Value} {E : List (Nat × Nat)} (h : Qu w base B sv E) : w.frozen? ⟨B, 0, none⟩ = false := by simp [World.frozen?, h.box]

/-- What the row of a queue has at its k-th place. -/
theorem Qu.at {w : World} {base B : Nat} {sv : Value} {E : List (Nat × Nat)} (h : Qu w base B sv E) {k : Nat} (hk : k < E.length) : ∃ g c, sv = .slice (some ⟨g, 0, none⟩) E.length c ∧ w.cell? ⟨g, k, none⟩ = some (ptrV E[k].1) ∧ w.frozen? ⟨g, k, none⟩ = false ∧
    w.cell? ⟨E[k].1, 0, none⟩ = some (.int .i64 (E[k].2 : Int)) ∧ base ≤ g ∧ g < w.heap.size := by
  have hk' := (h.keys E[k] (List.getElem_mem hk)).2.2
  have hl := h.own.lt
  have ho := h.own
  obtain ⟨p, c, rfl⟩ := owns_slice ho
  rcases ho.2 with ⟨-, h0⟩ | ⟨g, cap, cur, e, _⟩
  · omega
  · cases e
    refine ⟨g, c, rfl, ?_, ho.frozenAt k, hk', (hl g rfl).1, (hl g rfl).2⟩
    rw [ho.cellAt k (by simpa using hk)]
    rw [List.getElem?_map, List.getElem?_eq_getElem hk]
    rfl

theorem qlen_any (p : Option Addr) (n c : Nat) (w : World) : Calls Try.prog 64 #[.slice p n c] w fun e w' => e = .returned (.int .i64 (n : Int)) ∧ w' = w := by
  go_enter Try.func64, Try.ntmps64
  go_wp2
  go_ret
  exact ⟨rfl, rfl⟩

theorem qless_any (base B : Nat) (sv : Value) (E : List (Nat × Nat)) (i j : Nat) (w : World) (h : Qu w base B sv E) (hi : i < E.length) (hj : j < E.length) :
    Calls Try.prog 110 #[sv, .int .i64 (i : Int), .int .i64 (j : Int)] w fun e w' => e = .returned (.bool (decide (E[i].2 < E[j].2))) ∧ Below w.heap.size w w' := by
  obtain ⟨g, c, rfl, c1, -, c2, -, -⟩ := h.at hi
  obtain ⟨g', c', e, c3, -, c4, -, -⟩ := h.at hj
  cases e
  generalize hd : decide (E[i].2 < E[j].2) = d
  generalize E[i].2 = x at *
  generalize E[j].2 = y at *
  generalize E[i].1 = bi at *
  generalize E[j].1 = bj at *
  unfold ptrV at c1 c3
  have hli : (i : Int) < E.length := by omega
  have hlj : (j : Int) < E.length := by omega
  have h0i : (0 : Int) ≤ i := by omega
  have h0j : (0 : Int) ≤ j := by omega
  generalize E.length = n at *
  clear h
  go_enter Try.func110, Try.ntmps110
  go_wp2
  go_quiet (fail)
  go_wp2
  go_ret
  exact ⟨rfl, Below.drewN' (Below.refl _ _) nq⟩

theorem sw_len {α : Type} (E : List α) (i j : Nat) (hi : i < E.length) (hj : j < E.length) : ((E.set i E[j]).set j E[i]).length = E.length := by simp

theorem Qu.put {w w' : World} {base B : Nat} {sv : Value} {E E' : List (Nat × Nat)} (h : Qu w base B sv E) (ht : Turns (fun b => sv.ownBlock = some b) w w') (ho : w'.ownsRow base 99 1 sv E'.length (E'.map fun e => ptrV e.1)) (hE : ∀ e ∈ E', e ∈ E) : Qu w' base B sv E' :=
  ⟨h.lt, (ht.block B h.size h.apart).trans h.box, ho, fun e he => by
    obtain ⟨h1, h2, h3⟩ := h.keys e (hE e he)
    exact ⟨h1, h2, ht.cell h3 h2⟩⟩

theorem row_swap {w : World} {base g c n i j : Nat} {e : TypeId} {xs : List Value} (h : w.ownsRow base e 1 (.slice (some ⟨g, 0, none⟩) n c) n xs) (hj : j < n) (hij : i ≠ j) {b : Value} (hb : w.cell? ⟨g, j, none⟩ = some b) :
    (w.setCell ⟨g, i, none⟩ b).cell? ⟨g, j, none⟩ = some b ∧ (w.setCell ⟨g, i, none⟩ b).frozen? ⟨g, j, none⟩ = false := by
  have h1 := (h.stored i b).1
  refine ⟨?_, h1.frozenAt j⟩
  rw [h1.cellAt j (by omega)]
  have := h.cellAt j (by omega)
  rw [hb] at this
  rw [List.getElem?_set_ne hij]
  exact this.symm

theorem turns_two (w : World) (g i j n c : Nat) (u v : Value) : Turns (fun b => (Value.slice (some ⟨g, 0, none⟩) n c).ownBlock = some b) w ((w.setCell ⟨g, i, none⟩ u).setCell ⟨g, j, none⟩ v).drew :=
  Turns.drew (Turns.set (T := fun b => (Value.slice (some ⟨g, 0, none⟩) n c).ownBlock = some b) (Turns.set (T := fun b => (Value.slice (some ⟨g, 0, none⟩) n c).ownBlock = some b) (Turns.refl _ w) (p := ⟨g, i, none⟩) rfl u) (p := ⟨g, j, none⟩) rfl v)

set_option maxRecDepth 100000 in
theorem qswap_any (base B : Nat) (sv : Value) (E : List (Nat × Nat)) (i j : Nat) (w : World) (h : Qu w base B sv E) (hi : i < E.length) (hj : j < E.length) (hij : i ≠ j) :
    Calls Try.prog 111 #[sv, .int .i64 (i : Int), .int .i64 (j : Int)] w fun e w' => e = .returned (.tuple #[]) ∧ Qu w' base B sv ((E.set i E[j]).set j E[i]) ∧ Turns (fun b => sv.ownBlock = some b) w w' := by
  obtain ⟨g, c, rfl, c1, f1, -, -, -⟩ := h.at hi
  obtain ⟨g', c', e, c3, f3, -, -, -⟩ := h.at hj
  cases e
  have H := Lib.hid h
  obtain ⟨c5, f5⟩ := row_swap h.own hj hij c3
  obtain ⟨c6, f6⟩ := row_swap h.own hi (fun e => hij e.symm) c1
  have hli : (i : Int) < E.length := by omega
  have hlj : (j : Int) < E.length := by omega
  have h0i : (0 : Int) ≤ i := by omega
  have h0j : (0 : Int) ≤ j := by omega
  have hl := sw_len E i j hi hj
  obtain ⟨n, hn⟩ : ∃ n, E.length = n := ⟨_, rfl⟩
  obtain ⟨bi, hbi⟩ : ∃ bi, E[i].1 = bi := ⟨_, rfl⟩
  obtain ⟨bj, hbj⟩ : ∃ bj, E[j].1 = bj := ⟨_, rfl⟩
  rw [hbi] at c1 c6 f6
  rw [hbj] at c3 c5 f5
  unfold ptrV at c1 c3 c5 f5 c6 f6
  rw [hn] at hli hlj ⊢
  have Hn := Lib.hid (And.intro hn (And.intro hbi hbj))
  have Hl := Lib.hid hl
  clear h hn hbi hbj hl
  go_enter Try.func111, Try.ntmps111
  go_region
  go_end0
  refine ⟨rfl, ?_, turns_two w g i j n c _ _⟩
  obtain ⟨e1, e2, e3⟩ := Hn.out
  have ho := H.out.own
  have h2 := ((ho.stored i (ptrV bj)).1.stored j (ptrV bi)).1.drew
  rw [← e2, ← e3] at h2 ⊢
  rw [e1] at h2
  refine (e1 ▸ H.out).put (turns_two w g i j n c _ _) ?_ (fun e he => ?_)
  · rw [Hl.out, e1, List.map_set, List.map_set]
    exact h2
  · rcases List.mem_or_eq_of_mem_set he with he | rfl
    · rcases List.mem_or_eq_of_mem_set he with he | rfl
      · exact he
      · exact List.getElem_mem _
    · exact List.getElem_mem _

set_option maxRecDepth 100000 in
theorem qswap_same (base B : Nat) (sv : Value) (E : List (Nat × Nat)) (i : Nat) (w : World) (h : Qu w base B sv E) (hi : i < E.length) :
    Calls Try.prog 111 #[sv, .int .i64 (i : Int), .int .i64 (i : Int)] w fun e w' => e = .returned (.tuple #[]) ∧ Qu w' base B sv E ∧ Turns (fun b => sv.ownBlock = some b) w w' := by
  obtain ⟨g, c, rfl, c1, f1, -, -, -⟩ := h.at hi
  have H := Lib.hid h
  have h1 := (h.own.stored i (ptrV E[i].1)).1
  have c5 : (w.setCell ⟨g, i, none⟩ (ptrV E[i].1)).cell? ⟨g, i, none⟩ = some (ptrV E[i].1) := World.cell?_setCell_same' _ _ _ (by rw [c1]; rfl)
  have f5 : (w.setCell ⟨g, i, none⟩ (ptrV E[i].1)).frozen? ⟨g, i, none⟩ = false := h1.frozenAt i
  have hli : (i : Int) < E.length := by omega
  have h0i : (0 : Int) ≤ i := by omega
  obtain ⟨n, hn⟩ : ∃ n, E.length = n := ⟨_, rfl⟩
  obtain ⟨bi, hbi⟩ : ∃ bi, E[i].1 = bi := ⟨_, rfl⟩
  rw [hbi] at c1 c5 f5
  unfold ptrV at c1 c5 f5
  rw [hn] at hli ⊢
  have Hn := Lib.hid (And.intro hn hbi)
  clear h hn hbi h1
  go_enter Try.func111, Try.ntmps111
  go_region
  go_end0
  refine ⟨rfl, ?_, turns_two w g i i n c _ _⟩
  obtain ⟨e1, e2⟩ := Hn.out
  have ho := H.out.own
  have h2 := ((ho.stored i (ptrV bi)).1.stored i (ptrV bi)).1.drew
  rw [← e2] at h2 ⊢
  rw [e1] at h2
  refine (e1 ▸ H.out).put (turns_two w g i i n c _ _) ?_ (fun e he => he)
  rw [List.set_set] at h2
  have e : (E.map fun e => ptrV e.1).set i (ptrV E[i].1) = E.map fun e => ptrV e.1 := by
    refine List.ext_getElem (by simp) (fun k _ h2 => ?_)
    rw [List.getElem_set]
    split
    · rename_i hk; subst hk; simp
    · rfl
  rw [e] at h2
  rw [e1]
  exact h2

end Go.Proofs.Ytajidlihepjegaa
