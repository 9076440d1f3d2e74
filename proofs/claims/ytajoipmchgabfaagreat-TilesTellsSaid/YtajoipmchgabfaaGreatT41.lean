/- The walk of the document's edges. -/
import Derived.Test.YtajoipmchgabfaaGreatT26
namespace Go.Proofs.YtajoipmchgabfaaGreat
open Go.RowKit

/-- The places behind so many sides of one rectangle. -/
def edgeS (down : Bool) (o : List Int) (r : Rc) : Nat → List Int
  | 0 => o
  | 1 => insI (nearR down r) o
  | _ => insI (nearR down r + sizeR down r) (insI (nearR down r) o)

theorem edgeS_succ (down : Bool) (o : List Int) (r : Rc) (s : Nat) (h : s < 2) : edgeS down o r (s + 1) = insI (nearR down r + s * sizeR down r) (edgeS down o r s) := by
  rcases (show s = 0 ∨ s = 1 by omega) with rfl | rfl
  · simp [edgeS]
  · simp [edgeS]
theorem edgeS_len (down : Bool) (o : List Int) (r : Rc) : ∀ s, (edgeS down o r s).length ≤ o.length + 2
  | 0 => by simp [edgeS]
  | 1 => by have := insI_len (nearR down r) o; simp only [edgeS]; omega
  | s + 2 => by
    have h1 := insI_len (nearR down r + sizeR down r) (insI (nearR down r) o)
    have h2 := insI_len (nearR down r) o
    simp only [edgeS]; omega

theorem stop_here {p : Prop} (h : Hid p) : p := h

theorem ints_from {W : World} {base g n c : Nat} {C : List Int} (h : W.ownsRow base 3 1 (.slice (some ⟨g, 0, none⟩) n c) n (intsV C)) (j : Nat) : ∀ (i : Nat) (u : Value), (intsV (C.drop j))[i]? = some u → W.cell? ⟨g, j + i, none⟩ = some u := fun i u hu => by
  have h2 := h.cells (g := g) rfl (j + i) u (by simpa [intsV] using hu)
  rw [Addr.add_lit, Nat.zero_add] at h2
  exact h2
theorem ints_from' {W : World} {base g n c : Nat} {C : List Int} (h : W.ownsRow base 3 1 (.slice (some ⟨g, 0, none⟩) n c) n (intsV C)) (j : Nat) : ∀ (i : Nat) (u : Value), (intsV (C.drop j))[i]? = some u → W.cell? ((⟨g, j, none⟩ : Addr).add i) = some u := fun i u hu => by
  rw [Addr.add_lit]; exact ints_from h j i u hu
theorem ints_one (l : List Int) : ∀ u ∈ intsV l, u.oneCell' = true := by
  intro u hu
  obtain ⟨x, -, rfl⟩ := List.mem_map.1 hu
  rfl
theorem one_src (w : World) (x : Value) (t : TypeId) : ∀ (i : Nat) (u : Value), [x][i]? = some u → (w.alloc (.cells #[x] t)).cell? ((⟨w.heap.size, 0, none⟩ : Addr).add i) = some u := fun i u hu => by
  have hi : i = 0 := by
    have := (List.getElem?_eq_some_iff.1 hu).1
    simp at this
    omega
  subst hi
  rw [Addr.add_lit]
  exact cell_at rfl (by simpa using hu)
theorem owns_src {W : World} {base : Nat} {e : TypeId} {p : Option Addr} {n c : Nat} {xs : List Value} (h : W.ownsRow base e 1 (.slice p n c) n xs) : (p = none ∧ n = 0 ∧ c = 0) ∨ ∃ a, p = some a ∧ ∀ j u, xs[j]? = some u → W.cell? (a.add j) = some u := by
  rcases h.2 with ⟨h1, h2⟩ | ⟨g, cap, cur, he, hb, hg, hn, hm, hs, ht⟩
  · cases h1
    exact .inl ⟨rfl, rfl, rfl⟩
  · cases he
    exact .inr ⟨_, rfl, h.cells (g := g) rfl⟩
theorem put_row {W : World} {base : Nat} {v : Value} {C : List Int} {X : Int} {j : Nat} (hN : insI X C = C.take j ++ X :: C.drop j) (h : W.ownsRow base 3 1 v (j + 1 + (C.length - j)) ((intsV C).take j ++ .int .i64 X :: intsV (C.drop j))) (hj : j ≤ C.length) : W.ownsRow base 3 1 v (insI X C).length (intsV (insI X C)) := by
  rw [hN]
  have e1 : (C.take j ++ X :: C.drop j).length = j + 1 + (C.length - j) := by simp; omega
  have e2 : intsV (C.take j ++ X :: C.drop j) = (intsV C).take j ++ .int .i64 X :: intsV (C.drop j) := by simp [intsV, List.map_take]
  rw [e1, e2]
  exact h
theorem put_row_end {W : World} {base : Nat} {v : Value} {C : List Int} {X : Int} (hN : insI X C = C.take C.length ++ X :: C.drop C.length) (h : W.ownsRow base 3 1 v (C.length + 1) ((intsV C).take C.length ++ [.int .i64 X])) : W.ownsRow base 3 1 v (insI X C).length (intsV (insI X C)) := by
  rw [hN]
  have e1 : (C.take C.length ++ X :: C.drop C.length).length = C.length + 1 := by simp
  have e2 : intsV (C.take C.length ++ X :: C.drop C.length) = (intsV C).take C.length ++ [.int .i64 X] := by
    have e3 : (intsV C).take C.length = intsV C := List.take_of_length_le (by simp [intsV])
    rw [e3, List.take_length, List.drop_length]
    simp [intsV]
  rw [e1, e2]
  exact h
theorem put_turns_nil {w wr w1 w2 w3 : World} {vo v2 : Value} {o : Obj} (h0 : Turns (fun q => vo.ownBlock = some q) w wr) (h1 : Turns (fun _ => False) wr w1) (h2 : Turns (fun _ => False) (w1.alloc o) w2) (h3 : Turns (fun b => v2.ownBlock = some b) w2 w3)
    (h4 : ∀ q, v2.ownBlock = some q → wr.heap.size ≤ q) : Turns (fun q => vo.ownBlock = some q) w w3 := by
  have hsw := h0.size
  have a1 := h0.trans' h1 (fun i _ h => h.elim)
  have a2 := a1.alloc o
  have a3 := a2.trans' h2 (fun i _ h => h.elim)
  refine a3.trans' h3 (fun i hi h => ?_)
  have := h4 i h
  omega
theorem put_turns {w wr w1 w2 w3 : World} {vo ov v2 : Value} {g : Nat} {o : Obj} (h0 : Turns (fun q => vo.ownBlock = some q) w wr) (hp : ∀ q, ov.ownBlock = some q → vo.ownBlock = some q ∨ w.heap.size ≤ q) (h1 : Turns (fun _ => False) wr w1) (h2 : Turns (fun b => b = g) (w1.alloc o) w2) (h3 : Turns (fun b => v2.ownBlock = some b) w2 w3)
    (h4 : ∀ q, v2.ownBlock = some q → q = g ∨ wr.heap.size ≤ q) (hg : ov.ownBlock = some g := by rfl) : Turns (fun q => vo.ownBlock = some q) w w3 := by
  have hsw := h0.size
  have a1 := h0.trans' h1 (fun i _ h => h.elim)
  have a2 := a1.alloc o
  have hgo : ∀ i, i < w.heap.size → i = g → vo.ownBlock = some i := fun i hi e => by
    subst e
    rcases hp i hg with h | h
    · exact h
    · omega
  have a3 := a2.trans' h2 hgo
  refine a3.trans' h3 (fun i hi h => ?_)
  rcases h4 i h with h5 | h5
  · exact hgo i hi h5
  · omega

set_option maxRecDepth 100000 in
set_option maxHeartbeats 40000000 in
theorem redges_any (down : Bool) (v vo : Value) (xs : List Rc) (os : List Int) (base : Nat) (w : World) (hv : Row encR 4 w v xs) (ho : w.ownsRow base 3 1 vo os.length (intsV os)) (hbase : base ≤ w.heap.size) (hap : ∀ q, vo.ownBlock = some q → v.ownBlock ≠ some q) (hlen : os.length + 2 * xs.length ≤ 1048576) :
    Calls Tryz.prog 36 #[v, .bool down, vo] w fun e w' => ∃ u, e = .returned u ∧ w'.ownsRow base 3 1 u (edgesI down xs os).length (intsV (edgesI down xs os)) ∧ Turns (fun q => vo.ownBlock = some q) w w' ∧ ∀ q, u.ownBlock = some q → vo.ownBlock = some q ∨ w.heap.size ≤ q := by
  obtain ⟨p, cap, rfl, -, -, hp⟩ := hv
  have hxl : xs.length ≤ 9223372036854775807 := by omega
  obtain ⟨i0, hi, hz0, hz1, hz2⟩ := info_parts int_info
  have Hap := Lib.hid hap
  have Hlen := Lib.hid hlen
  clear hap hlen
  go_enter Tryz.func36, Tryz.ntmps36
  go_wp2
  go_loopw [2, 7] (fun ov i wr => ∃ k : Nat, k ≤ xs.length ∧ i = .int .i64 k ∧ wr.ownsRow base 3 1 ov (edgesI down (xs.take k) os).length (intsV (edgesI down (xs.take k) os)) ∧ Turns (fun q => vo.ownBlock = some q) w wr ∧ Hid (∀ q, ov.ownBlock = some q → vo.ownBlock = some q ∨ w.heap.size ≤ q)) (fun _ i _ => xs.length - (intOf i).toNat)
  case atStart => exact ⟨0, by omega, rfl, ho, Turns.refl _ _, Lib.hid (fun q hq => .inl hq)⟩
  case round =>
    obtain ⟨k, hk, rfl, hown, ht, Hpl⟩ := hrel
    by_cases hlt : k < xs.length
    · have hp1 : RowAt encR 4 wr p xs := hp.turns ht (fun a e h => Hap.out a.block h (by rw [e]; rfl))
      obtain ⟨b, off, rfl, hB, hc⟩ := hp1.rc hlt
      obtain ⟨a0, a1, a2, a3⟩ := hc k hlt
      have Hnext := Lib.hid (edgesI_take down xs os k hlt)
      have HcL := Lib.hid (edgesI_len down (xs.take k) os)
      have Hxk := Lib.hid (show (xs.take k).length = k by rw [List.length_take]; omega)
      have HB := Lib.hid (show ∀ W, Turns (fun q => vo.ownBlock = some q) w W → LiesAt W b (off + k * 4) xs[k] from fun W hW => by
        obtain ⟨_, _, e, _, hd⟩ := (hp.turns hW (fun a e h => Hap.out a.block h (by rw [e]; rfl))).rc hlt
        cases e
        exact hd k hlt)
      clear hc hp1
      generalize xs[k] = r at *
      generalize edgesI down (xs.take k) os = o at *
      have Hown := Lib.hid hown
      have Ht := Lib.hid ht
      clear hown ht
      go_wp2_with fail
      refine Calls.mono (rempty_any r _) ?_
      rintro e w1 ⟨rfl, hb1⟩
      have Ht1 := Lib.hid (Ht.out.trans (Turns.of_below' hb1))
      have Hown1 := Lib.hid ((Turns.of_below' (T := fun _ => False) hb1).owns Hown.out (fun _ _ h => h))
      clear hb1 a0 a1 a2 a3
      cases he : emptyR r
      · have He := Lib.hid he
        have hbd := emptyR_false.1 he
        clear he
        go_wp2
        go_loopw [2, 8] (fun ov i wr => ∃ s : Nat, s ≤ 2 ∧ i = .int .i64 s ∧ wr.ownsRow base 3 1 ov (edgeS down o r s).length (intsV (edgeS down o r s)) ∧ Turns (fun q => vo.ownBlock = some q) w wr ∧ Hid (∀ q, ov.ownBlock = some q → vo.ownBlock = some q ∨ w.heap.size ≤ q)) (fun _ i _ => 2 - (intOf i).toNat)
        case atStart => exact ⟨0, by omega, rfl, Hown1.out, Ht1.out, Hpl⟩
        case round =>
          obtain ⟨s, hs, rfl, hown, ht, Hpl2⟩ := hrel
          by_cases hs2 : s < 2
          · have Hl := Lib.hid (HB.out _ ht)
            obtain ⟨c0, c1, c2, c3⟩ := Hl.out
            obtain ⟨po, co, hu⟩ := owns_slice hown
            subst hu
            have HownC := Lib.hid hown
            have Ht3 := Lib.hid ht
            have Hss := Lib.hid (edgeS_succ down o r s hs2)
            have HCl := Lib.hid (edgeS_len down o r s)
            clear hown ht
            generalize edgeS down o r s = C at *
            have hCb : C.length ≤ 1048576 := by have := HCl.out; have := HcL.out; have := Hxk.out; have := Hlen.out; omega
            have hq : ∀ t : Int, 0 ≤ t ∧ t ≤ 2097152 → 0 ≤ (s : Int) * t ∧ (s : Int) * t ≤ 2097152 := fun t ht => by
              rcases (show s = 0 ∨ s = 1 by omega) with rfl | rfl
              · simp
              · simp; omega
            have b1 := hq r.a (by omega)
            have b2 := hq r.b (by omega)
            have Hs := Lib.hid hs2
            obtain ⟨qa, hqa⟩ : ∃ q, (s : Int) * r.a = q := ⟨_, rfl⟩
            obtain ⟨qb, hqb⟩ : ∃ q, (s : Int) * r.b = q := ⟨_, rfl⟩
            rw [hqa] at b1
            rw [hqb] at b2
            have z1 : IntKind.i64.wrap ((s : Int) * r.a) = qa := by rw [hqa]; exact IntWalk.i64_in _ (by omega)
            have z2 : IntKind.i64.wrap (r.x + qa) = r.x + qa := IntWalk.i64_in _ (by omega)
            have z3 : IntKind.i64.wrap ((s : Int) * r.b) = qb := by rw [hqb]; exact IntWalk.i64_in _ (by omega)
            have z4 : IntKind.i64.wrap (r.y + qb) = r.y + qb := IntWalk.i64_in _ (by omega)
            clear hq
            cases down
            · obtain ⟨X, hX⟩ : ∃ X, r.x + qa = X := ⟨_, rfl⟩
              have HX := Lib.hid (show nearR false r + s * sizeR false r = X by simp [nearR, sizeR, hqa, hX])
              rw [hX] at z2
              clear hqa hqb
              go_wp2
              go_quiet (fail)
              go_wp2
              go_loopw [10] (fun i w3 => ∃ j : Nat, j ≤ C.length ∧ i = .int .i64 j ∧ w3.ownsRow base 3 1 (.slice po C.length co) C.length (intsV C) ∧ Turns (fun q => vo.ownBlock = some q) w w3 ∧ Hid (∀ m (h : m < C.length), m < j → C[m] < X)) (fun i _ => C.length - (intOf i).toNat)
              case atStart => exact ⟨0, by omega, rfl, HownC.out, by first | exact Ht3.out.drewN _ | exact (Ht3.out.drewN _).drewN _, Lib.hid (fun m h hm => by omega)⟩
              case round =>
                obtain ⟨j, hj, rfl, hown3, ht3, Hlow⟩ := hrel
                have Hat := Lib.hid (fun h1 h2 => insI_at (x := X) (l := C) (k := j) hj h1 h2)
                have Hown3 := Lib.hid hown3
                have Ht33 := Lib.hid ht3
                by_cases hjl : j < C.length
                · obtain ⟨g, rfl⟩ : ∃ g, po = some ⟨g, 0, none⟩ := by
                    rcases hown3.2 with ⟨h1, h2⟩ | ⟨g, _, _, h1, -⟩
                    · omega
                    · cases h1; exact ⟨g, rfl⟩
                  have cj : wr.cell? ⟨g, j, none⟩ = some (.int .i64 C[j]) := by
                    have := hown3.cells (g := g) rfl j (.int .i64 C[j]) (by simp [intsV, hjl])
                    rw [Addr.add_lit, Nat.zero_add] at this
                    exact this
                  have Hnx := Lib.hid (show C[j] < X → ∀ m (h : m < C.length), m < j + 1 → C[m] < X from fun h m hm hm2 => by
                    rcases (show m < j ∨ m = j by omega) with h3 | h3
                    · exact Hlow.out m hm h3
                    · subst h3; exact h)
                  have Hsame := Lib.hid (show ¬ C[j] < X → C[j] = X → insI X C = C from fun h1 h2 => by
                    rw [Hat.out Hlow.out (fun _ => h1), if_pos ⟨hjl, h2⟩])
                  have Hput := Lib.hid (show ¬ C[j] < X → ¬ C[j] = X → insI X C = C.take j ++ X :: C.drop j from fun h1 h2 => by
                    rw [Hat.out Hlow.out (fun _ => h1), if_neg (fun ⟨_, h⟩ => h2 h)])
                  clear hown3 ht3
                  generalize C[j] = y at *
                  by_cases hlx : y < X
                  · have d1 : decide (y < X) = true := by simpa using hlx
                    have HN := Lib.hid (Hnx.out hlx)
                    clear hlx
                    go_wp2
                    go_roundw
                    case rel => exact ⟨j + 1, by omega, by go_num, Hown3.out, Ht33.out, HN⟩
                    case measure => simp [intOf]; omega
                  · have d1 : decide (y < X) = false := by simpa using hlx
                    by_cases hyx : y = X
                    · have d2 : ((y : Int) == X) = true := by simpa using hyx
                      have HN := Lib.hid (Hsame.out hlx hyx)
                      have Hres := Lib.hid (show wr.ownsRow base 3 1 (.slice (some ⟨g, 0, none⟩) C.length co) (insI X C).length (intsV (insI X C)) from by rw [HN.out]; exact Hown3.out)
                      clear hyx hlx
                      go_wp2
                      refine ⟨⟨s + 1, by have := Hs.out; omega, by go_num, by rw [Hss.out, HX.out]; exact Hres.out, Ht33.out, Hpl2⟩, ?_⟩
                      have := Hs.out
                      simp [intOf]
                      omega
                    · have d2 : ((y : Int) == X) = false := by simpa using hyx
                      have HN := Lib.hid (Hput.out hlx hyx)
                      have hco : C.length ≤ co := by
                        rcases Hown3.out.2 with ⟨h1, h2⟩ | ⟨g', cap', cur, he', hb', hg', hn', hm', hs', ht'⟩
                        · cases h1
                        · cases he'; exact hn'
                      have hcj : ¬ co = j := by omega
                      have hcj' : ¬ j = co := by omega
                      clear hyx hlx
                      have hgl : g < wr.heap.size := (Hown3.out.lt g rfl).2
                      have hb2 : base ≤ wr.heap.size := by have := (Hown3.out.lt g rfl).1; omega
                      go_wp2_with (at_builtin; refine wpList_append_mine _ rfl _ (.tmp 82) 30 rfl base 3 i0 _ 1 8 Tryz.underlying30 hi hz0 hz1 hz2 rfl (by decide) (.slice none 0 0) 0 [] rfl (World.ownsRow_nil _ _ _ _) _ _ _ (intsV (C.drop j)) rfl ?b11 ?b12 ?b13 ?b14 ?b15 ?b16 ?_)
                      try case b11 => first | (simp [intsV]; done) | (simp [intsV]; omega)
                      try case b12 => first | exact ints_from Hown3.out j | exact .inr ⟨_, rfl, ints_from' Hown3.out j⟩ | (intro i u h; rw [List.drop_eq_nil_of_le (by omega)] at h; simp [intsV] at h) | (refine .inr ⟨_, rfl, ?_⟩; intro i u h; rw [List.drop_eq_nil_of_le (by omega)] at h; simp [intsV] at h) | (intro i u h; simp [intsV] at h)
                      try case b13 => exact ints_one _
                      try case b14 => first | omega | (simp [maxLen]; omega)
                      try case b15 => first | omega | (simp; omega)
                      try case b16 => exact hb2
                      intro v1 w1 r1 gr1 pl1
                      have r1 : w1.ownsRow base 3 1 v1 (C.length - j) (intsV (C.drop j)) := by simpa using r1
                      have ht1 : Turns (fun _ => False) wr w1 := Turns.of_grown gr1 (fun i h => by cases h)
                      have Hown1 := Lib.hid (ht1.owns Hown3.out (fun _ _ h => h))
                      obtain ⟨p1, c1, rfl⟩ := owns_slice r1
                      have Hp1 := Lib.hid (show ∀ q, (Value.slice p1 (C.length - j) c1).ownBlock = some q → wr.heap.size ≤ q from fun q hq => by
                        rcases pl1 q hq with h | h
                        · cases h
                        · exact h)
                      have Hr1 := Lib.hid r1
                      have Ht1 := Lib.hid ht1
                      have hs1 := ht1.size
                      clear r1 gr1 pl1 ht1
                      go_wp2_with (at_builtin; refine wpList_append_mine _ rfl (.tmp 86) (.tmp 88) 30 rfl base 3 i0 _ 1 8 Tryz.underlying30 hi hz0 hz1 hz2 rfl (by decide) (.slice (some ⟨g, 0, none⟩) j co) j ((intsV C).take j) rfl ((owns_take1 Hown1.out (by omega)).alloc _) (some ⟨w1.heap.size, 0, none⟩) 1 1 [.int .i64 X] rfl rfl ?b21 ?b22 ?b23 ?b24 ?b25 ?_)
                      try case b21 => first | exact one_src _ _ _ | exact .inr ⟨_, rfl, one_src _ _ _⟩
                      try case b22 => exact ints_one [X]
                      try case b23 => first | omega | (simp [maxLen]; omega)
                      try case b24 => first | omega | (simp; omega)
                      try case b25 => simp; omega
                      intro v2 w2 r2 gr2 pl2
                      have ht2 : Turns (fun b => b = g) (w1.alloc (.cells #[.int .i64 X] 3)) w2 := Turns.of_grown gr2 (fun i h => by cases h; rfl)
                      have hr12 := ht2.owns (Hr1.out.alloc _) (fun q hq e => by have := Hp1.out q hq; omega)
                      have Hr12 := Lib.hid (owns_src hr12)
                      have Hr2 := Lib.hid r2
                      have Ht2 := Lib.hid ht2
                      have Hp2 := Lib.hid (show ∀ q, v2.ownBlock = some q → q = g ∨ wr.heap.size ≤ q from fun q hq => by
                        rcases pl2 q hq with h | h
                        · left; cases h; rfl
                        · right; (try simp at h); omega)
                      have hs2 := ht2.size
                      try simp at hs2
                      clear r2 gr2 pl2 ht2 hr12
                      go_wp2_with (at_builtin; refine wpList_append_mine _ rfl (.tmp 89) (.tmp 90) 30 rfl base 3 i0 _ 1 8 Tryz.underlying30 hi hz0 hz1 hz2 rfl (by decide) v2 (j + 1) ((intsV C).take j ++ [.int .i64 X]) rfl Hr2.out p1 (C.length - j) c1 (intsV (C.drop j)) rfl ?b31 Hr12.out ?b33 ?b34 ?b35 ?b36 ?_)
                      try case b31 => first | (simp [intsV]; done) | (simp [intsV]; omega)
                      try case b33 => exact ints_one _
                      try case b34 => first | omega | (simp [maxLen]; omega)
                      try case b35 => first | omega | (simp; omega)
                      try case b36 => omega
                      intro v3 w3 r3 gr3 pl3
                      have hfin := Lib.hid (put_row HN.out r3 (by omega))
                      have ht3 : Turns (fun b => v2.ownBlock = some b) w2 w3 := Turns.of_grown gr3 (fun i h => h)
                      have Htz := Lib.hid (put_turns (ov := .slice (some ⟨g, 0, none⟩) C.length _) Ht33.out Hpl2.out Ht1.out Ht2.out ht3 Hp2.out)
                      have Hpz := Lib.hid (show ∀ q, v3.ownBlock = some q → vo.ownBlock = some q ∨ w.heap.size ≤ q from fun q hq => by
                        have hsw := Ht33.out.size
                        rcases pl3 q hq with h | h
                        · rcases Hp2.out q h with h2 | h2
                          · subst h2; exact Hpl2.out q rfl
                          · right; omega
                        · right; omega)
                      clear r3 gr3 pl3 ht3
                      go_wp2
                      refine ⟨⟨s + 1, by have := Hs.out; omega, by go_num, by rw [Hss.out, HX.out]; exact hfin.out, Htz.out, Hpz⟩, ?_⟩
                      have := Hs.out
                      simp [intOf]
                      omega
                · obtain rfl : j = C.length := by omega
                  have HN := Lib.hid (show insI X C = C.take C.length ++ X :: C.drop C.length by
                    rw [Hat.out Hlow.out (fun h => by omega), if_neg (fun ⟨h, _⟩ => by omega)])
                  by_cases hnil : po = none
                  · subst hnil
                    obtain ⟨h0, hc0⟩ : C.length = 0 ∧ co = 0 := by
                      rcases Hown3.out.2 with ⟨h1, h2⟩ | ⟨g', cap', cur, he', hb', hg', hn', hm', hs', ht'⟩
                      · simpa using h1
                      · cases he'
                    obtain rfl : C = [] := List.eq_nil_of_length_eq_zero h0
                    subst hc0
                    have hb2 : base ≤ wr.heap.size := by have := Ht33.out.size; omega
                    clear hown3 ht3
                    go_wp2_with (at_builtin; refine wpList_append_mine _ rfl _ (.tmp 82) 30 rfl base 3 i0 _ 1 8 Tryz.underlying30 hi hz0 hz1 hz2 rfl (by decide) (.slice none 0 0) 0 [] rfl (World.ownsRow_nil _ _ _ _) none 0 0 [] rfl rfl (.inl ⟨rfl, rfl, rfl⟩) (fun u hu => by cases hu) (Nat.zero_le _) (by decide) hb2 ?_)
                    intro v1 w1 r1 gr1 pl1
                    have r1 : w1.ownsRow base 3 1 v1 0 [] := by simpa using r1
                    have ht1 : Turns (fun _ => False) wr w1 := Turns.of_grown gr1 (fun i h => by cases h)
                    obtain ⟨p1, c1, rfl⟩ := owns_slice r1
                    have Hr1 := Lib.hid r1
                    have Ht1 := Lib.hid ht1
                    have hs1 := ht1.size
                    clear r1 gr1 pl1 ht1
                    go_wp2_with (at_builtin; refine wpList_append_mine _ rfl (.tmp 86) (.tmp 88) 30 rfl base 3 i0 _ 1 8 Tryz.underlying30 hi hz0 hz1 hz2 rfl (by decide) (.slice none 0 0) 0 [] rfl (World.ownsRow_nil _ _ _ _) (some ⟨w1.heap.size, 0, none⟩) 1 1 [.int .i64 X] rfl rfl (.inr ⟨_, rfl, one_src _ _ _⟩) (ints_one [X]) (by decide) (by decide) (by simp; omega) ?_)
                    intro v2 w2 r2 gr2 pl2
                    have r2 : w2.ownsRow base 3 1 v2 1 [.int .i64 X] := by simpa using r2
                    have ht2 : Turns (fun _ => False) (w1.alloc (.cells #[.int .i64 X] 3)) w2 := Turns.of_grown gr2 (fun i h => by cases h)
                    have hr12 := ht2.owns (Hr1.out.alloc _) (fun q hq e => e)
                    have Hr12 := Lib.hid (owns_src hr12)
                    have Hr2 := Lib.hid r2
                    have Ht2 := Lib.hid ht2
                    have Hp2 := Lib.hid (show ∀ q, v2.ownBlock = some q → wr.heap.size ≤ q from fun q hq => by
                      rcases pl2 q hq with h | h
                      · cases h
                      · (try simp at h); omega)
                    have hs2 := ht2.size
                    try simp at hs2
                    clear r2 gr2 pl2 ht2 hr12
                    go_wp2_with (at_builtin; refine wpList_append_mine _ rfl (.tmp 89) (.tmp 90) 30 rfl base 3 i0 _ 1 8 Tryz.underlying30 hi hz0 hz1 hz2 rfl (by decide) v2 1 [.int .i64 X] rfl Hr2.out p1 0 c1 [] rfl rfl Hr12.out (fun u hu => by cases hu) (by decide) (by decide) (by omega) ?_)
                    intro v3 w3 r3 gr3 pl3
                    have hfin := Lib.hid (show w3.ownsRow base 3 1 v3 (insI X []).length (intsV (insI X [])) by simpa [insI, intsV] using r3)
                    have ht3 : Turns (fun b => v2.ownBlock = some b) w2 w3 := Turns.of_grown gr3 (fun i h => h)
                    have Htz := Lib.hid (put_turns_nil Ht33.out Ht1.out Ht2.out ht3 Hp2.out)
                    have Hpz := Lib.hid (show ∀ q, v3.ownBlock = some q → vo.ownBlock = some q ∨ w.heap.size ≤ q from fun q hq => by
                      have hsw := Ht33.out.size
                      rcases pl3 q hq with h | h
                      · have := Hp2.out q h; right; omega
                      · right; omega)
                    clear r3 gr3 pl3 ht3
                    go_wp2
                    refine ⟨⟨s + 1, by have := Hs.out; omega, by go_num, by rw [Hss.out, HX.out]; exact hfin.out, Htz.out, Hpz⟩, ?_⟩
                    have := Hs.out
                    simp [intOf]
                    omega
                  · obtain ⟨g, rfl⟩ : ∃ g, po = some ⟨g, 0, none⟩ := by
                      rcases Hown3.out.2 with ⟨h1, h2⟩ | ⟨g', cap', cur, he', hb', hg', hn', hm', hs', ht'⟩
                      · exfalso
                        simp at h1
                        exact hnil h1.1
                      · cases he'
                        exact ⟨g', rfl⟩
                    have hco : C.length ≤ co := by
                      rcases Hown3.out.2 with ⟨h1, h2⟩ | ⟨g', cap', cur, he', hb', hg', hn', hm', hs', ht'⟩
                      · cases h1
                      · cases he'; exact hn'
                    clear hown3 ht3 hnil
                    by_cases hcj : co = C.length
                    · subst hcj
                      have hgl : g < wr.heap.size := (Hown3.out.lt g rfl).2
                      have hb2 : base ≤ wr.heap.size := by have := (Hown3.out.lt g rfl).1; omega
                      go_wp2_with (at_builtin; refine wpList_append_mine _ rfl _ (.tmp 82) 30 rfl base 3 i0 _ 1 8 Tryz.underlying30 hi hz0 hz1 hz2 rfl (by decide) (.slice none 0 0) 0 [] rfl (World.ownsRow_nil _ _ _ _) _ _ _ (intsV (C.drop C.length)) rfl ?d11 ?d12 ?d13 ?d14 ?d15 ?d16 ?_)
                      try case d11 => first | (simp [intsV]; done) | (simp [intsV]; omega)
                      try case d12 => first | exact ints_from Hown3.out C.length | exact .inr ⟨_, rfl, ints_from' Hown3.out C.length⟩ | (intro i u h; rw [List.drop_eq_nil_of_le (by omega)] at h; simp [intsV] at h) | (refine .inr ⟨_, rfl, ?_⟩; intro i u h; rw [List.drop_eq_nil_of_le (by omega)] at h; simp [intsV] at h) | (intro i u h; simp [intsV] at h)
                      try case d13 => exact ints_one _
                      try case d14 => first | omega | (simp [maxLen]; omega)
                      try case d15 => first | omega | (simp; omega)
                      try case d16 => exact hb2
                      intro v1 w1 r1 gr1 pl1
                      have r1 : w1.ownsRow base 3 1 v1 0 [] := by simpa [intsV] using r1
                      have ht1 : Turns (fun _ => False) wr w1 := Turns.of_grown gr1 (fun i h => by cases h)
                      have Hown1 := Lib.hid (ht1.owns Hown3.out (fun _ _ h => h))
                      obtain ⟨p1, c1, rfl⟩ := owns_slice r1
                      have Hp1 := Lib.hid (show ∀ q, (Value.slice p1 0 c1).ownBlock = some q → wr.heap.size ≤ q from fun q hq => by
                        rcases pl1 q hq with h | h
                        · cases h
                        · exact h)
                      have Hr1 := Lib.hid r1
                      have Ht1 := Lib.hid ht1
                      have hs1 := ht1.size
                      clear r1 gr1 pl1 ht1
                      go_wp2_with (at_builtin; refine wpList_append_mine _ rfl (.tmp 86) (.tmp 88) 30 rfl base 3 i0 _ 1 8 Tryz.underlying30 hi hz0 hz1 hz2 rfl (by decide) (.slice (some ⟨g, 0, none⟩) C.length C.length) C.length ((intsV C).take C.length) rfl ((owns_take1 Hown1.out (by omega)).alloc _) (some ⟨w1.heap.size, 0, none⟩) 1 1 [.int .i64 X] rfl rfl ?d21 ?d22 ?d23 ?d24 ?d25 ?_)
                      try case d21 => first | exact one_src _ _ _ | exact .inr ⟨_, rfl, one_src _ _ _⟩
                      try case d22 => exact ints_one [X]
                      try case d23 => first | omega | (simp [maxLen]; omega)
                      try case d24 => first | omega | (simp; omega)
                      try case d25 => simp; omega
                      intro v2 w2 r2 gr2 pl2
                      have ht2 : Turns (fun b => b = g) (w1.alloc (.cells #[.int .i64 X] 3)) w2 := Turns.of_grown gr2 (fun i h => by cases h; rfl)
                      have hr12 := ht2.owns (Hr1.out.alloc _) (fun q hq e => by have := Hp1.out q hq; omega)
                      have Hr12 := Lib.hid (owns_src hr12)
                      have Hr2 := Lib.hid r2
                      have Ht2 := Lib.hid ht2
                      have Hp2 := Lib.hid (show ∀ q, v2.ownBlock = some q → q = g ∨ wr.heap.size ≤ q from fun q hq => by
                        rcases pl2 q hq with h | h
                        · left; cases h; rfl
                        · right; (try simp at h); omega)
                      have hs2 := ht2.size
                      try simp at hs2
                      clear r2 gr2 pl2 ht2 hr12
                      go_wp2_with (at_builtin; refine wpList_append_mine _ rfl (.tmp 89) (.tmp 90) 30 rfl base 3 i0 _ 1 8 Tryz.underlying30 hi hz0 hz1 hz2 rfl (by decide) v2 (C.length + 1) ((intsV C).take C.length ++ [.int .i64 X]) rfl Hr2.out p1 0 c1 [] rfl ?d31 Hr12.out ?d33 ?d34 ?d35 ?d36 ?_)
                      try case d31 => first | (simp [intsV]; done) | (simp [intsV]; omega)
                      try case d33 => exact ints_one _
                      try case d34 => first | omega | (simp [maxLen]; omega)
                      try case d35 => first | omega | (simp; omega)
                      try case d36 => omega
                      intro v3 w3 r3 gr3 pl3
                      have r3' : w3.ownsRow base 3 1 v3 (C.length + 1) ((intsV C).take C.length ++ [.int .i64 X]) := by simpa using r3
                      have hfin := Lib.hid (put_row_end HN.out r3')
                      have ht3 : Turns (fun b => v2.ownBlock = some b) w2 w3 := Turns.of_grown gr3 (fun i h => h)
                      have Htz := Lib.hid (put_turns (ov := .slice (some ⟨g, 0, none⟩) C.length _) Ht33.out Hpl2.out Ht1.out Ht2.out ht3 Hp2.out)
                      have Hpz := Lib.hid (show ∀ q, v3.ownBlock = some q → vo.ownBlock = some q ∨ w.heap.size ≤ q from fun q hq => by
                        have hsw := Ht33.out.size
                        rcases pl3 q hq with h | h
                        · rcases Hp2.out q h with h2 | h2
                          · subst h2; exact Hpl2.out q rfl
                          · right; omega
                        · right; omega)
                      clear r3 r3' gr3 pl3 ht3
                      go_wp2
                      refine ⟨⟨s + 1, by have := Hs.out; omega, by go_num, by rw [Hss.out, HX.out]; exact hfin.out, Htz.out, Hpz⟩, ?_⟩
                      have := Hs.out
                      simp [intOf]
                      omega
                    · have hcj' : ¬ C.length = co := fun e => hcj e.symm
                      have hgl : g < wr.heap.size := (Hown3.out.lt g rfl).2
                      have hb2 : base ≤ wr.heap.size := by have := (Hown3.out.lt g rfl).1; omega
                      go_wp2_with (at_builtin; refine wpList_append_mine _ rfl _ (.tmp 82) 30 rfl base 3 i0 _ 1 8 Tryz.underlying30 hi hz0 hz1 hz2 rfl (by decide) (.slice none 0 0) 0 [] rfl (World.ownsRow_nil _ _ _ _) _ _ _ (intsV (C.drop C.length)) rfl ?e11 ?e12 ?e13 ?e14 ?e15 ?e16 ?_)
                      try case e11 => first | (simp [intsV]; done) | (simp [intsV]; omega)
                      try case e12 => first | exact ints_from Hown3.out C.length | exact .inr ⟨_, rfl, ints_from' Hown3.out C.length⟩ | (intro i u h; rw [List.drop_eq_nil_of_le (by omega)] at h; simp [intsV] at h) | (refine .inr ⟨_, rfl, ?_⟩; intro i u h; rw [List.drop_eq_nil_of_le (by omega)] at h; simp [intsV] at h) | (intro i u h; simp [intsV] at h)
                      try case e13 => exact ints_one _
                      try case e14 => first | omega | (simp [maxLen]; omega)
                      try case e15 => first | omega | (simp; omega)
                      try case e16 => exact hb2
                      intro v1 w1 r1 gr1 pl1
                      have r1 : w1.ownsRow base 3 1 v1 0 [] := by simpa [intsV] using r1
                      have ht1 : Turns (fun _ => False) wr w1 := Turns.of_grown gr1 (fun i h => by cases h)
                      have Hown1 := Lib.hid (ht1.owns Hown3.out (fun _ _ h => h))
                      obtain ⟨p1, c1, rfl⟩ := owns_slice r1
                      have Hp1 := Lib.hid (show ∀ q, (Value.slice p1 0 c1).ownBlock = some q → wr.heap.size ≤ q from fun q hq => by
                        rcases pl1 q hq with h | h
                        · cases h
                        · exact h)
                      have Hr1 := Lib.hid r1
                      have Ht1 := Lib.hid ht1
                      have hs1 := ht1.size
                      clear r1 gr1 pl1 ht1
                      go_wp2_with (at_builtin; refine wpList_append_mine _ rfl (.tmp 86) (.tmp 88) 30 rfl base 3 i0 _ 1 8 Tryz.underlying30 hi hz0 hz1 hz2 rfl (by decide) (.slice (some ⟨g, 0, none⟩) C.length co) C.length ((intsV C).take C.length) rfl ((owns_take1 Hown1.out (by omega)).alloc _) (some ⟨w1.heap.size, 0, none⟩) 1 1 [.int .i64 X] rfl rfl ?e21 ?e22 ?e23 ?e24 ?e25 ?_)
                      try case e21 => first | exact one_src _ _ _ | exact .inr ⟨_, rfl, one_src _ _ _⟩
                      try case e22 => exact ints_one [X]
                      try case e23 => first | omega | (simp [maxLen]; omega)
                      try case e24 => first | omega | (simp; omega)
                      try case e25 => simp; omega
                      intro v2 w2 r2 gr2 pl2
                      have ht2 : Turns (fun b => b = g) (w1.alloc (.cells #[.int .i64 X] 3)) w2 := Turns.of_grown gr2 (fun i h => by cases h; rfl)
                      have hr12 := ht2.owns (Hr1.out.alloc _) (fun q hq e => by have := Hp1.out q hq; omega)
                      have Hr12 := Lib.hid (owns_src hr12)
                      have Hr2 := Lib.hid r2
                      have Ht2 := Lib.hid ht2
                      have Hp2 := Lib.hid (show ∀ q, v2.ownBlock = some q → q = g ∨ wr.heap.size ≤ q from fun q hq => by
                        rcases pl2 q hq with h | h
                        · left; cases h; rfl
                        · right; (try simp at h); omega)
                      have hs2 := ht2.size
                      try simp at hs2
                      clear r2 gr2 pl2 ht2 hr12
                      go_wp2_with (at_builtin; refine wpList_append_mine _ rfl (.tmp 89) (.tmp 90) 30 rfl base 3 i0 _ 1 8 Tryz.underlying30 hi hz0 hz1 hz2 rfl (by decide) v2 (C.length + 1) ((intsV C).take C.length ++ [.int .i64 X]) rfl Hr2.out p1 0 c1 [] rfl ?e31 Hr12.out ?e33 ?e34 ?e35 ?e36 ?_)
                      try case e31 => first | (simp [intsV]; done) | (simp [intsV]; omega)
                      try case e33 => exact ints_one _
                      try case e34 => first | omega | (simp [maxLen]; omega)
                      try case e35 => first | omega | (simp; omega)
                      try case e36 => omega
                      intro v3 w3 r3 gr3 pl3
                      have r3' : w3.ownsRow base 3 1 v3 (C.length + 1) ((intsV C).take C.length ++ [.int .i64 X]) := by simpa using r3
                      have hfin := Lib.hid (put_row_end HN.out r3')
                      have ht3 : Turns (fun b => v2.ownBlock = some b) w2 w3 := Turns.of_grown gr3 (fun i h => h)
                      have Htz := Lib.hid (put_turns (ov := .slice (some ⟨g, 0, none⟩) C.length _) Ht33.out Hpl2.out Ht1.out Ht2.out ht3 Hp2.out)
                      have Hpz := Lib.hid (show ∀ q, v3.ownBlock = some q → vo.ownBlock = some q ∨ w.heap.size ≤ q from fun q hq => by
                        have hsw := Ht33.out.size
                        rcases pl3 q hq with h | h
                        · rcases Hp2.out q h with h2 | h2
                          · subst h2; exact Hpl2.out q rfl
                          · right; omega
                        · right; omega)
                      clear r3 r3' gr3 pl3 ht3
                      go_wp2
                      refine ⟨⟨s + 1, by have := Hs.out; omega, by go_num, by rw [Hss.out, HX.out]; exact hfin.out, Htz.out, Hpz⟩, ?_⟩
                      have := Hs.out
                      simp [intOf]
                      omega
            · obtain ⟨X, hX⟩ : ∃ X, r.y + qb = X := ⟨_, rfl⟩
              have HX := Lib.hid (show nearR true r + s * sizeR true r = X by simp [nearR, sizeR, hqb, hX])
              rw [hX] at z4
              clear hqa hqb
              go_wp2
              go_quiet (fail)
              go_wp2
              go_quiet (fail)
              go_wp2
              go_loopw [10] (fun i w3 => ∃ j : Nat, j ≤ C.length ∧ i = .int .i64 j ∧ w3.ownsRow base 3 1 (.slice po C.length co) C.length (intsV C) ∧ Turns (fun q => vo.ownBlock = some q) w w3 ∧ Hid (∀ m (h : m < C.length), m < j → C[m] < X)) (fun i _ => C.length - (intOf i).toNat)
              case atStart => exact ⟨0, by omega, rfl, HownC.out, by first | exact Ht3.out.drewN _ | exact (Ht3.out.drewN _).drewN _, Lib.hid (fun m h hm => by omega)⟩
              case round =>
                obtain ⟨j, hj, rfl, hown3, ht3, Hlow⟩ := hrel
                have Hat := Lib.hid (fun h1 h2 => insI_at (x := X) (l := C) (k := j) hj h1 h2)
                have Hown3 := Lib.hid hown3
                have Ht33 := Lib.hid ht3
                by_cases hjl : j < C.length
                · obtain ⟨g, rfl⟩ : ∃ g, po = some ⟨g, 0, none⟩ := by
                    rcases hown3.2 with ⟨h1, h2⟩ | ⟨g, _, _, h1, -⟩
                    · omega
                    · cases h1; exact ⟨g, rfl⟩
                  have cj : wr.cell? ⟨g, j, none⟩ = some (.int .i64 C[j]) := by
                    have := hown3.cells (g := g) rfl j (.int .i64 C[j]) (by simp [intsV, hjl])
                    rw [Addr.add_lit, Nat.zero_add] at this
                    exact this
                  have Hnx := Lib.hid (show C[j] < X → ∀ m (h : m < C.length), m < j + 1 → C[m] < X from fun h m hm hm2 => by
                    rcases (show m < j ∨ m = j by omega) with h3 | h3
                    · exact Hlow.out m hm h3
                    · subst h3; exact h)
                  have Hsame := Lib.hid (show ¬ C[j] < X → C[j] = X → insI X C = C from fun h1 h2 => by
                    rw [Hat.out Hlow.out (fun _ => h1), if_pos ⟨hjl, h2⟩])
                  have Hput := Lib.hid (show ¬ C[j] < X → ¬ C[j] = X → insI X C = C.take j ++ X :: C.drop j from fun h1 h2 => by
                    rw [Hat.out Hlow.out (fun _ => h1), if_neg (fun ⟨_, h⟩ => h2 h)])
                  clear hown3 ht3
                  generalize C[j] = y at *
                  by_cases hlx : y < X
                  · have d1 : decide (y < X) = true := by simpa using hlx
                    have HN := Lib.hid (Hnx.out hlx)
                    clear hlx
                    go_wp2
                    go_roundw
                    case rel => exact ⟨j + 1, by omega, by go_num, Hown3.out, Ht33.out, HN⟩
                    case measure => simp [intOf]; omega
                  · have d1 : decide (y < X) = false := by simpa using hlx
                    by_cases hyx : y = X
                    · have d2 : ((y : Int) == X) = true := by simpa using hyx
                      have HN := Lib.hid (Hsame.out hlx hyx)
                      have Hres := Lib.hid (show wr.ownsRow base 3 1 (.slice (some ⟨g, 0, none⟩) C.length co) (insI X C).length (intsV (insI X C)) from by rw [HN.out]; exact Hown3.out)
                      clear hyx hlx
                      go_wp2
                      refine ⟨⟨s + 1, by have := Hs.out; omega, by go_num, by rw [Hss.out, HX.out]; exact Hres.out, Ht33.out, Hpl2⟩, ?_⟩
                      have := Hs.out
                      simp [intOf]
                      omega
                    · have d2 : ((y : Int) == X) = false := by simpa using hyx
                      have HN := Lib.hid (Hput.out hlx hyx)
                      have hco : C.length ≤ co := by
                        rcases Hown3.out.2 with ⟨h1, h2⟩ | ⟨g', cap', cur, he', hb', hg', hn', hm', hs', ht'⟩
                        · cases h1
                        · cases he'; exact hn'
                      have hcj : ¬ co = j := by omega
                      have hcj' : ¬ j = co := by omega
                      clear hyx hlx
                      have hgl : g < wr.heap.size := (Hown3.out.lt g rfl).2
                      have hb2 : base ≤ wr.heap.size := by have := (Hown3.out.lt g rfl).1; omega
                      go_wp2_with (at_builtin; refine wpList_append_mine _ rfl _ (.tmp 82) 30 rfl base 3 i0 _ 1 8 Tryz.underlying30 hi hz0 hz1 hz2 rfl (by decide) (.slice none 0 0) 0 [] rfl (World.ownsRow_nil _ _ _ _) _ _ _ (intsV (C.drop j)) rfl ?c11 ?c12 ?c13 ?c14 ?c15 ?c16 ?_)
                      try case c11 => first | (simp [intsV]; done) | (simp [intsV]; omega)
                      try case c12 => first | exact ints_from Hown3.out j | exact .inr ⟨_, rfl, ints_from' Hown3.out j⟩ | (intro i u h; rw [List.drop_eq_nil_of_le (by omega)] at h; simp [intsV] at h) | (refine .inr ⟨_, rfl, ?_⟩; intro i u h; rw [List.drop_eq_nil_of_le (by omega)] at h; simp [intsV] at h) | (intro i u h; simp [intsV] at h)
                      try case c13 => exact ints_one _
                      try case c14 => first | omega | (simp [maxLen]; omega)
                      try case c15 => first | omega | (simp; omega)
                      try case c16 => exact hb2
                      intro v1 w1 r1 gr1 pl1
                      have r1 : w1.ownsRow base 3 1 v1 (C.length - j) (intsV (C.drop j)) := by simpa using r1
                      have ht1 : Turns (fun _ => False) wr w1 := Turns.of_grown gr1 (fun i h => by cases h)
                      have Hown1 := Lib.hid (ht1.owns Hown3.out (fun _ _ h => h))
                      obtain ⟨p1, c1, rfl⟩ := owns_slice r1
                      have Hp1 := Lib.hid (show ∀ q, (Value.slice p1 (C.length - j) c1).ownBlock = some q → wr.heap.size ≤ q from fun q hq => by
                        rcases pl1 q hq with h | h
                        · cases h
                        · exact h)
                      have Hr1 := Lib.hid r1
                      have Ht1 := Lib.hid ht1
                      have hs1 := ht1.size
                      clear r1 gr1 pl1 ht1
                      go_wp2_with (at_builtin; refine wpList_append_mine _ rfl (.tmp 86) (.tmp 88) 30 rfl base 3 i0 _ 1 8 Tryz.underlying30 hi hz0 hz1 hz2 rfl (by decide) (.slice (some ⟨g, 0, none⟩) j co) j ((intsV C).take j) rfl ((owns_take1 Hown1.out (by omega)).alloc _) (some ⟨w1.heap.size, 0, none⟩) 1 1 [.int .i64 X] rfl rfl ?c21 ?c22 ?c23 ?c24 ?c25 ?_)
                      try case c21 => first | exact one_src _ _ _ | exact .inr ⟨_, rfl, one_src _ _ _⟩
                      try case c22 => exact ints_one [X]
                      try case c23 => first | omega | (simp [maxLen]; omega)
                      try case c24 => first | omega | (simp; omega)
                      try case c25 => simp; omega
                      intro v2 w2 r2 gr2 pl2
                      have ht2 : Turns (fun b => b = g) (w1.alloc (.cells #[.int .i64 X] 3)) w2 := Turns.of_grown gr2 (fun i h => by cases h; rfl)
                      have hr12 := ht2.owns (Hr1.out.alloc _) (fun q hq e => by have := Hp1.out q hq; omega)
                      have Hr12 := Lib.hid (owns_src hr12)
                      have Hr2 := Lib.hid r2
                      have Ht2 := Lib.hid ht2
                      have Hp2 := Lib.hid (show ∀ q, v2.ownBlock = some q → q = g ∨ wr.heap.size ≤ q from fun q hq => by
                        rcases pl2 q hq with h | h
                        · left; cases h; rfl
                        · right; (try simp at h); omega)
                      have hs2 := ht2.size
                      try simp at hs2
                      clear r2 gr2 pl2 ht2 hr12
                      go_wp2_with (at_builtin; refine wpList_append_mine _ rfl (.tmp 89) (.tmp 90) 30 rfl base 3 i0 _ 1 8 Tryz.underlying30 hi hz0 hz1 hz2 rfl (by decide) v2 (j + 1) ((intsV C).take j ++ [.int .i64 X]) rfl Hr2.out p1 (C.length - j) c1 (intsV (C.drop j)) rfl ?c31 Hr12.out ?c33 ?c34 ?c35 ?c36 ?_)
                      try case c31 => first | (simp [intsV]; done) | (simp [intsV]; omega)
                      try case c33 => exact ints_one _
                      try case c34 => first | omega | (simp [maxLen]; omega)
                      try case c35 => first | omega | (simp; omega)
                      try case c36 => omega
                      intro v3 w3 r3 gr3 pl3
                      have hfin := Lib.hid (put_row HN.out r3 (by omega))
                      have ht3 : Turns (fun b => v2.ownBlock = some b) w2 w3 := Turns.of_grown gr3 (fun i h => h)
                      have Htz := Lib.hid (put_turns (ov := .slice (some ⟨g, 0, none⟩) C.length _) Ht33.out Hpl2.out Ht1.out Ht2.out ht3 Hp2.out)
                      have Hpz := Lib.hid (show ∀ q, v3.ownBlock = some q → vo.ownBlock = some q ∨ w.heap.size ≤ q from fun q hq => by
                        have hsw := Ht33.out.size
                        rcases pl3 q hq with h | h
                        · rcases Hp2.out q h with h2 | h2
                          · subst h2; exact Hpl2.out q rfl
                          · right; omega
                        · right; omega)
                      clear r3 gr3 pl3 ht3
                      go_wp2
                      refine ⟨⟨s + 1, by have := Hs.out; omega, by go_num, by rw [Hss.out, HX.out]; exact hfin.out, Htz.out, Hpz⟩, ?_⟩
                      have := Hs.out
                      simp [intOf]
                      omega
                · obtain rfl : j = C.length := by omega
                  have HN := Lib.hid (show insI X C = C.take C.length ++ X :: C.drop C.length by
                    rw [Hat.out Hlow.out (fun h => by omega), if_neg (fun ⟨h, _⟩ => by omega)])
                  by_cases hnil : po = none
                  · subst hnil
                    obtain ⟨h0, hc0⟩ : C.length = 0 ∧ co = 0 := by
                      rcases Hown3.out.2 with ⟨h1, h2⟩ | ⟨g', cap', cur, he', hb', hg', hn', hm', hs', ht'⟩
                      · simpa using h1
                      · cases he'
                    obtain rfl : C = [] := List.eq_nil_of_length_eq_zero h0
                    subst hc0
                    have hb2 : base ≤ wr.heap.size := by have := Ht33.out.size; omega
                    clear hown3 ht3
                    go_wp2_with (at_builtin; refine wpList_append_mine _ rfl _ (.tmp 82) 30 rfl base 3 i0 _ 1 8 Tryz.underlying30 hi hz0 hz1 hz2 rfl (by decide) (.slice none 0 0) 0 [] rfl (World.ownsRow_nil _ _ _ _) none 0 0 [] rfl rfl (.inl ⟨rfl, rfl, rfl⟩) (fun u hu => by cases hu) (Nat.zero_le _) (by decide) hb2 ?_)
                    intro v1 w1 r1 gr1 pl1
                    have r1 : w1.ownsRow base 3 1 v1 0 [] := by simpa using r1
                    have ht1 : Turns (fun _ => False) wr w1 := Turns.of_grown gr1 (fun i h => by cases h)
                    obtain ⟨p1, c1, rfl⟩ := owns_slice r1
                    have Hr1 := Lib.hid r1
                    have Ht1 := Lib.hid ht1
                    have hs1 := ht1.size
                    clear r1 gr1 pl1 ht1
                    go_wp2_with (at_builtin; refine wpList_append_mine _ rfl (.tmp 86) (.tmp 88) 30 rfl base 3 i0 _ 1 8 Tryz.underlying30 hi hz0 hz1 hz2 rfl (by decide) (.slice none 0 0) 0 [] rfl (World.ownsRow_nil _ _ _ _) (some ⟨w1.heap.size, 0, none⟩) 1 1 [.int .i64 X] rfl rfl (.inr ⟨_, rfl, one_src _ _ _⟩) (ints_one [X]) (by decide) (by decide) (by simp; omega) ?_)
                    intro v2 w2 r2 gr2 pl2
                    have r2 : w2.ownsRow base 3 1 v2 1 [.int .i64 X] := by simpa using r2
                    have ht2 : Turns (fun _ => False) (w1.alloc (.cells #[.int .i64 X] 3)) w2 := Turns.of_grown gr2 (fun i h => by cases h)
                    have hr12 := ht2.owns (Hr1.out.alloc _) (fun q hq e => e)
                    have Hr12 := Lib.hid (owns_src hr12)
                    have Hr2 := Lib.hid r2
                    have Ht2 := Lib.hid ht2
                    have Hp2 := Lib.hid (show ∀ q, v2.ownBlock = some q → wr.heap.size ≤ q from fun q hq => by
                      rcases pl2 q hq with h | h
                      · cases h
                      · (try simp at h); omega)
                    have hs2 := ht2.size
                    try simp at hs2
                    clear r2 gr2 pl2 ht2 hr12
                    go_wp2_with (at_builtin; refine wpList_append_mine _ rfl (.tmp 89) (.tmp 90) 30 rfl base 3 i0 _ 1 8 Tryz.underlying30 hi hz0 hz1 hz2 rfl (by decide) v2 1 [.int .i64 X] rfl Hr2.out p1 0 c1 [] rfl rfl Hr12.out (fun u hu => by cases hu) (by decide) (by decide) (by omega) ?_)
                    intro v3 w3 r3 gr3 pl3
                    have hfin := Lib.hid (show w3.ownsRow base 3 1 v3 (insI X []).length (intsV (insI X [])) by simpa [insI, intsV] using r3)
                    have ht3 : Turns (fun b => v2.ownBlock = some b) w2 w3 := Turns.of_grown gr3 (fun i h => h)
                    have Htz := Lib.hid (put_turns_nil Ht33.out Ht1.out Ht2.out ht3 Hp2.out)
                    have Hpz := Lib.hid (show ∀ q, v3.ownBlock = some q → vo.ownBlock = some q ∨ w.heap.size ≤ q from fun q hq => by
                      have hsw := Ht33.out.size
                      rcases pl3 q hq with h | h
                      · have := Hp2.out q h; right; omega
                      · right; omega)
                    clear r3 gr3 pl3 ht3
                    go_wp2
                    refine ⟨⟨s + 1, by have := Hs.out; omega, by go_num, by rw [Hss.out, HX.out]; exact hfin.out, Htz.out, Hpz⟩, ?_⟩
                    have := Hs.out
                    simp [intOf]
                    omega
                  · obtain ⟨g, rfl⟩ : ∃ g, po = some ⟨g, 0, none⟩ := by
                      rcases Hown3.out.2 with ⟨h1, h2⟩ | ⟨g', cap', cur, he', hb', hg', hn', hm', hs', ht'⟩
                      · exfalso
                        simp at h1
                        exact hnil h1.1
                      · cases he'
                        exact ⟨g', rfl⟩
                    have hco : C.length ≤ co := by
                      rcases Hown3.out.2 with ⟨h1, h2⟩ | ⟨g', cap', cur, he', hb', hg', hn', hm', hs', ht'⟩
                      · cases h1
                      · cases he'; exact hn'
                    clear hown3 ht3 hnil
                    by_cases hcj : co = C.length
                    · subst hcj
                      have hgl : g < wr.heap.size := (Hown3.out.lt g rfl).2
                      have hb2 : base ≤ wr.heap.size := by have := (Hown3.out.lt g rfl).1; omega
                      go_wp2_with (at_builtin; refine wpList_append_mine _ rfl _ (.tmp 82) 30 rfl base 3 i0 _ 1 8 Tryz.underlying30 hi hz0 hz1 hz2 rfl (by decide) (.slice none 0 0) 0 [] rfl (World.ownsRow_nil _ _ _ _) _ _ _ (intsV (C.drop C.length)) rfl ?f11 ?f12 ?f13 ?f14 ?f15 ?f16 ?_)
                      try case f11 => first | (simp [intsV]; done) | (simp [intsV]; omega)
                      try case f12 => first | exact ints_from Hown3.out C.length | exact .inr ⟨_, rfl, ints_from' Hown3.out C.length⟩ | (intro i u h; rw [List.drop_eq_nil_of_le (by omega)] at h; simp [intsV] at h) | (refine .inr ⟨_, rfl, ?_⟩; intro i u h; rw [List.drop_eq_nil_of_le (by omega)] at h; simp [intsV] at h) | (intro i u h; simp [intsV] at h)
                      try case f13 => exact ints_one _
                      try case f14 => first | omega | (simp [maxLen]; omega)
                      try case f15 => first | omega | (simp; omega)
                      try case f16 => exact hb2
                      intro v1 w1 r1 gr1 pl1
                      have r1 : w1.ownsRow base 3 1 v1 0 [] := by simpa [intsV] using r1
                      have ht1 : Turns (fun _ => False) wr w1 := Turns.of_grown gr1 (fun i h => by cases h)
                      have Hown1 := Lib.hid (ht1.owns Hown3.out (fun _ _ h => h))
                      obtain ⟨p1, c1, rfl⟩ := owns_slice r1
                      have Hp1 := Lib.hid (show ∀ q, (Value.slice p1 0 c1).ownBlock = some q → wr.heap.size ≤ q from fun q hq => by
                        rcases pl1 q hq with h | h
                        · cases h
                        · exact h)
                      have Hr1 := Lib.hid r1
                      have Ht1 := Lib.hid ht1
                      have hs1 := ht1.size
                      clear r1 gr1 pl1 ht1
                      go_wp2_with (at_builtin; refine wpList_append_mine _ rfl (.tmp 86) (.tmp 88) 30 rfl base 3 i0 _ 1 8 Tryz.underlying30 hi hz0 hz1 hz2 rfl (by decide) (.slice (some ⟨g, 0, none⟩) C.length C.length) C.length ((intsV C).take C.length) rfl ((owns_take1 Hown1.out (by omega)).alloc _) (some ⟨w1.heap.size, 0, none⟩) 1 1 [.int .i64 X] rfl rfl ?f21 ?f22 ?f23 ?f24 ?f25 ?_)
                      try case f21 => first | exact one_src _ _ _ | exact .inr ⟨_, rfl, one_src _ _ _⟩
                      try case f22 => exact ints_one [X]
                      try case f23 => first | omega | (simp [maxLen]; omega)
                      try case f24 => first | omega | (simp; omega)
                      try case f25 => simp; omega
                      intro v2 w2 r2 gr2 pl2
                      have ht2 : Turns (fun b => b = g) (w1.alloc (.cells #[.int .i64 X] 3)) w2 := Turns.of_grown gr2 (fun i h => by cases h; rfl)
                      have hr12 := ht2.owns (Hr1.out.alloc _) (fun q hq e => by have := Hp1.out q hq; omega)
                      have Hr12 := Lib.hid (owns_src hr12)
                      have Hr2 := Lib.hid r2
                      have Ht2 := Lib.hid ht2
                      have Hp2 := Lib.hid (show ∀ q, v2.ownBlock = some q → q = g ∨ wr.heap.size ≤ q from fun q hq => by
                        rcases pl2 q hq with h | h
                        · left; cases h; rfl
                        · right; (try simp at h); omega)
                      have hs2 := ht2.size
                      try simp at hs2
                      clear r2 gr2 pl2 ht2 hr12
                      go_wp2_with (at_builtin; refine wpList_append_mine _ rfl (.tmp 89) (.tmp 90) 30 rfl base 3 i0 _ 1 8 Tryz.underlying30 hi hz0 hz1 hz2 rfl (by decide) v2 (C.length + 1) ((intsV C).take C.length ++ [.int .i64 X]) rfl Hr2.out p1 0 c1 [] rfl ?f31 Hr12.out ?f33 ?f34 ?f35 ?f36 ?_)
                      try case f31 => first | (simp [intsV]; done) | (simp [intsV]; omega)
                      try case f33 => exact ints_one _
                      try case f34 => first | omega | (simp [maxLen]; omega)
                      try case f35 => first | omega | (simp; omega)
                      try case f36 => omega
                      intro v3 w3 r3 gr3 pl3
                      have r3' : w3.ownsRow base 3 1 v3 (C.length + 1) ((intsV C).take C.length ++ [.int .i64 X]) := by simpa using r3
                      have hfin := Lib.hid (put_row_end HN.out r3')
                      have ht3 : Turns (fun b => v2.ownBlock = some b) w2 w3 := Turns.of_grown gr3 (fun i h => h)
                      have Htz := Lib.hid (put_turns (ov := .slice (some ⟨g, 0, none⟩) C.length _) Ht33.out Hpl2.out Ht1.out Ht2.out ht3 Hp2.out)
                      have Hpz := Lib.hid (show ∀ q, v3.ownBlock = some q → vo.ownBlock = some q ∨ w.heap.size ≤ q from fun q hq => by
                        have hsw := Ht33.out.size
                        rcases pl3 q hq with h | h
                        · rcases Hp2.out q h with h2 | h2
                          · subst h2; exact Hpl2.out q rfl
                          · right; omega
                        · right; omega)
                      clear r3 r3' gr3 pl3 ht3
                      go_wp2
                      refine ⟨⟨s + 1, by have := Hs.out; omega, by go_num, by rw [Hss.out, HX.out]; exact hfin.out, Htz.out, Hpz⟩, ?_⟩
                      have := Hs.out
                      simp [intOf]
                      omega
                    · have hcj' : ¬ C.length = co := fun e => hcj e.symm
                      have hgl : g < wr.heap.size := (Hown3.out.lt g rfl).2
                      have hb2 : base ≤ wr.heap.size := by have := (Hown3.out.lt g rfl).1; omega
                      go_wp2_with (at_builtin; refine wpList_append_mine _ rfl _ (.tmp 82) 30 rfl base 3 i0 _ 1 8 Tryz.underlying30 hi hz0 hz1 hz2 rfl (by decide) (.slice none 0 0) 0 [] rfl (World.ownsRow_nil _ _ _ _) _ _ _ (intsV (C.drop C.length)) rfl ?g11 ?g12 ?g13 ?g14 ?g15 ?g16 ?_)
                      try case g11 => first | (simp [intsV]; done) | (simp [intsV]; omega)
                      try case g12 => first | exact ints_from Hown3.out C.length | exact .inr ⟨_, rfl, ints_from' Hown3.out C.length⟩ | (intro i u h; rw [List.drop_eq_nil_of_le (by omega)] at h; simp [intsV] at h) | (refine .inr ⟨_, rfl, ?_⟩; intro i u h; rw [List.drop_eq_nil_of_le (by omega)] at h; simp [intsV] at h) | (intro i u h; simp [intsV] at h)
                      try case g13 => exact ints_one _
                      try case g14 => first | omega | (simp [maxLen]; omega)
                      try case g15 => first | omega | (simp; omega)
                      try case g16 => exact hb2
                      intro v1 w1 r1 gr1 pl1
                      have r1 : w1.ownsRow base 3 1 v1 0 [] := by simpa [intsV] using r1
                      have ht1 : Turns (fun _ => False) wr w1 := Turns.of_grown gr1 (fun i h => by cases h)
                      have Hown1 := Lib.hid (ht1.owns Hown3.out (fun _ _ h => h))
                      obtain ⟨p1, c1, rfl⟩ := owns_slice r1
                      have Hp1 := Lib.hid (show ∀ q, (Value.slice p1 0 c1).ownBlock = some q → wr.heap.size ≤ q from fun q hq => by
                        rcases pl1 q hq with h | h
                        · cases h
                        · exact h)
                      have Hr1 := Lib.hid r1
                      have Ht1 := Lib.hid ht1
                      have hs1 := ht1.size
                      clear r1 gr1 pl1 ht1
                      go_wp2_with (at_builtin; refine wpList_append_mine _ rfl (.tmp 86) (.tmp 88) 30 rfl base 3 i0 _ 1 8 Tryz.underlying30 hi hz0 hz1 hz2 rfl (by decide) (.slice (some ⟨g, 0, none⟩) C.length co) C.length ((intsV C).take C.length) rfl ((owns_take1 Hown1.out (by omega)).alloc _) (some ⟨w1.heap.size, 0, none⟩) 1 1 [.int .i64 X] rfl rfl ?g21 ?g22 ?g23 ?g24 ?g25 ?_)
                      try case g21 => first | exact one_src _ _ _ | exact .inr ⟨_, rfl, one_src _ _ _⟩
                      try case g22 => exact ints_one [X]
                      try case g23 => first | omega | (simp [maxLen]; omega)
                      try case g24 => first | omega | (simp; omega)
                      try case g25 => simp; omega
                      intro v2 w2 r2 gr2 pl2
                      have ht2 : Turns (fun b => b = g) (w1.alloc (.cells #[.int .i64 X] 3)) w2 := Turns.of_grown gr2 (fun i h => by cases h; rfl)
                      have hr12 := ht2.owns (Hr1.out.alloc _) (fun q hq e => by have := Hp1.out q hq; omega)
                      have Hr12 := Lib.hid (owns_src hr12)
                      have Hr2 := Lib.hid r2
                      have Ht2 := Lib.hid ht2
                      have Hp2 := Lib.hid (show ∀ q, v2.ownBlock = some q → q = g ∨ wr.heap.size ≤ q from fun q hq => by
                        rcases pl2 q hq with h | h
                        · left; cases h; rfl
                        · right; (try simp at h); omega)
                      have hs2 := ht2.size
                      try simp at hs2
                      clear r2 gr2 pl2 ht2 hr12
                      go_wp2_with (at_builtin; refine wpList_append_mine _ rfl (.tmp 89) (.tmp 90) 30 rfl base 3 i0 _ 1 8 Tryz.underlying30 hi hz0 hz1 hz2 rfl (by decide) v2 (C.length + 1) ((intsV C).take C.length ++ [.int .i64 X]) rfl Hr2.out p1 0 c1 [] rfl ?g31 Hr12.out ?g33 ?g34 ?g35 ?g36 ?_)
                      try case g31 => first | (simp [intsV]; done) | (simp [intsV]; omega)
                      try case g33 => exact ints_one _
                      try case g34 => first | omega | (simp [maxLen]; omega)
                      try case g35 => first | omega | (simp; omega)
                      try case g36 => omega
                      intro v3 w3 r3 gr3 pl3
                      have r3' : w3.ownsRow base 3 1 v3 (C.length + 1) ((intsV C).take C.length ++ [.int .i64 X]) := by simpa using r3
                      have hfin := Lib.hid (put_row_end HN.out r3')
                      have ht3 : Turns (fun b => v2.ownBlock = some b) w2 w3 := Turns.of_grown gr3 (fun i h => h)
                      have Htz := Lib.hid (put_turns (ov := .slice (some ⟨g, 0, none⟩) C.length _) Ht33.out Hpl2.out Ht1.out Ht2.out ht3 Hp2.out)
                      have Hpz := Lib.hid (show ∀ q, v3.ownBlock = some q → vo.ownBlock = some q ∨ w.heap.size ≤ q from fun q hq => by
                        have hsw := Ht33.out.size
                        rcases pl3 q hq with h | h
                        · rcases Hp2.out q h with h2 | h2
                          · subst h2; exact Hpl2.out q rfl
                          · right; omega
                        · right; omega)
                      clear r3 r3' gr3 pl3 ht3
                      go_wp2
                      refine ⟨⟨s + 1, by have := Hs.out; omega, by go_num, by rw [Hss.out, HX.out]; exact hfin.out, Htz.out, Hpz⟩, ?_⟩
                      have := Hs.out
                      simp [intOf]
                      omega
          · obtain rfl : s = 2 := by omega
            have Hown2 := Lib.hid (show wr.ownsRow base 3 1 _ (edgeR down o r).length (intsV (edgeR down o r)) from by
              have e : edgeR down o r = edgeS down o r 2 := by simp [edgeR, edgeS, He.out]
              rw [e]; exact hown)
            clear hown
            go_wp2
            go_roundw
            case rel => first | exact ⟨k + 1, by omega, by go_num, by rw [Hnext.out]; exact Hown2.out, ht, Hpl2⟩ | ((repeat apply Exists.intro); exact ⟨⟨k + 1, by omega, by go_num, by rw [Hnext.out]; exact Hown2.out, ht, Hpl2⟩, rfl⟩)
            case measure => simp [intOf]; omega
      · have He := Lib.hid (show edgeR down o r = o by simp [edgeR, he])
        clear he
        go_wp2
        go_roundw
        case rel => exact ⟨k + 1, by omega, by go_num, by rw [Hnext.out, He.out]; exact Hown1.out, Ht1.out, Hpl⟩
        case measure => simp [intOf]; omega
    · obtain rfl : k = xs.length := by omega
      rw [List.take_length] at hown
      have Hown := Lib.hid hown
      clear hown
      go_wp2
      go_ret
      exact ⟨_, rfl, Hown.out, ht, Hpl.out⟩

end Go.Proofs.YtajoipmchgabfaaGreat
