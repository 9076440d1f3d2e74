/- Several texts in one, each with its own head. -/
import Derived.Test.YtajoipmchgabfaaGreatT21
import Derived.Test.YtajoipmchgabfaaGreatT18
import Derived.Test.YtajoipmchgabfaaGreatT4
import Derived.StillTail
/- tiles: within. -/
namespace Go.Proofs.YtajoipmchgabfaaGreat
open Go.RowKit

attribute [local go_sem] Oper.semAt_some

def wiS (w h : Nat) (l : List Rc) (k : Nat) : List Rc := wiL w h (l.take k)
theorem wiL_snoc (w h : Nat) (l : List Rc) (r : Rc) : wiL w h (l ++ [r]) = wiL w h l ++ (if emptyR (andR r (pcR w h)) = true then [] else [andR r (pcR w h)]) := by
  unfold wiL
  rw [List.map_append, List.filter_append]
  congr 1
  cases hq : emptyR (andR r (pcR w h)) <;> simp [hq]

set_option maxRecDepth 20000 in
set_option maxHeartbeats 4000000 in
theorem within_any (v : Value) (l : List Rc) (pw ph : Nat) (w : World) (hv : Row encR 4 w v l) (hf : ∀ r ∈ l, Fit r) (hl : l.length ≤ 1048576) :
    Calls Tryz.prog 31 #[v, RV (pcR pw ph)] w fun e w' => ∃ v', e = .returned v' ∧ w'.ownsRow w.heap.size 37 4 v' (wiL pw ph l).length (flatR (wiL pw ph l)) ∧ Below w.heap.size w w' := by
  obtain ⟨p, c, rfl, hc1, hc2, hp⟩ := hv
  obtain ⟨nf, hi0, hz0, hz1, hz2⟩ := info_parts rc_info
  have Hp := Lib.hid hp
  have Hf := Lib.hid hf
  have hpf : Fit (pcR pw ph) := ⟨by simp [pcR], by simp [pcR]⟩
  have Hpf := Lib.hid hpf
  obtain ⟨n, hn⟩ : ∃ n, l.length = n := ⟨_, rfl⟩
  have Hn := Lib.hid hn
  rw [hn] at hl hc1 ⊢
  obtain ⟨W, hW⟩ : ∃ W, w.alloc (.cells #[.int .i64 0, .int .i64 0, .int .i64 (pw : Int), .int .i64 (ph : Int)] 37) = W := ⟨_, rfl⟩
  have hbW : Below w.heap.size w W := by rw [← hW]; exact Below.al1 w _
  have hLp : Lies W w.heap.size (pcR pw ph) := by rw [← hW]; exact Lies.new (r := pcR pw ph) rfl
  have HLp := Lib.hid hLp
  have HbW := Lib.hid hbW
  have hwlt : w.heap.size < W.heap.size := by rw [← hW]; simp
  have hwle : W.heap.size ≤ w.heap.size + 1 := by rw [← hW]; simp
  clear hp hf hn hpf hbW hLp
  unfold pcR
  go_enter Tryz.func31, Tryz.ntmps31
  go_upto_region 2 with (fail)
  have hW2 : w.alloc (.cells #[.int .i64 0, .int .i64 0, .int .i64 (pw : Int), .int .i64 (ph : Int)] 37) = W := hW
  first
    | rw [hW2]
    | skip
  clear hW2 hW
  go_wp2_with fail
  go_loopw [5, 11] (fun ov iv wr => ∃ i : Nat, iv = .int .i64 (i : Int) ∧ i ≤ n ∧ Hid (wr.ownsRow (w.heap.size + 1) 37 4 ov (wiS pw ph l i).length (flatR (wiS pw ph l i))) ∧ Hid (Below W.heap.size W wr)) (fun _ iv _ => n - (intOf iv).toNat)
  case atStart => exact ⟨0, rfl, Nat.zero_le _, Lib.hid (World.ownsRow_nil _ _ _ _), Lib.hid (Below.refl _ _)⟩
  case round =>
    obtain ⟨i, rfl, hi, HO, HB⟩ := hrel
    have hol : (wiS pw ph l i).length ≤ 1048576 := by
      have h1 := wiL_len pw ph (l.take i)
      rw [List.length_take] at h1
      unfold wiS; omega
    obtain ⟨q, hq⟩ : ∃ q, (wiS pw ph l i).length = q := ⟨_, rfl⟩
    have Hq := Lib.hid hq
    rw [hq] at HO hol
    clear hq
    obtain ⟨vp, vc, rfl⟩ := owns_slice HO.out
    by_cases hin : i < n
    · have d1 : decide ((i : Int) < (n : Int)) = true := by simp; omega
      have hil : i < l.length := by rw [Hn.out]; exact hin
      obtain ⟨b, off, rfl, -, hat⟩ := Hp.out.rc hil
      obtain ⟨x0, x1, x2, x3⟩ := ((hat i hil).later HbW.out).later HB.out
      have hfr := Hf.out _ (List.getElem_mem hil)
      have Hs : Hid (wiS pw ph l (i + 1) = wiS pw ph l i ++ (if emptyR (andR l[i] (pcR pw ph)) = true then [] else [andR l[i] (pcR pw ph)])) := Lib.hid (by
        unfold wiS; rw [List.take_succ_eq_append_getElem hil, wiL_snoc])
      have i0 : (0 : Int) ≤ (i : Int) := by omega
      have i1 : (i : Int) < (n : Int) := by omega
      generalize l[i] = r at *
      have P := HLp.out.later HB.out
      clear hat hil
      go_upto_region 5 with (fail)
      have hlr : Lies (wr.alloc (.cells #[.int .i64 r.x, .int .i64 r.y, .int .i64 r.a, .int .i64 r.b] 37)) wr.heap.size r := Lies.new rfl
      have hb1 := Below.al1 wr (.cells #[.int .i64 r.x, .int .i64 r.y, .int .i64 r.a, .int .i64 r.b] 37)
      have P := P.later hb1
      have HB1 := Lib.hid (Below.thn HB.out hb1)
      have HO1 := Lib.hid ((Turns.of_below' (T := fun _ => False) hb1).owns HO.out (fun _ _ h => h))
      generalize wr.alloc (.cells #[.int .i64 r.x, .int .i64 r.y, .int .i64 r.a, .int .i64 r.b] 37) = u1 at *
      generalize wr.heap.size = rb at *
      obtain ⟨y0, y1, y2, y3⟩ := hlr
      obtain ⟨p0, p1, p2, p3⟩ := P
      simp only [pcR] at p0 p1 p2 p3
      have hand := fun W => and_any r (pcR pw ph) W hfr Hpf.out
      have hemp := fun W => empty_any (andR r (pcR pw ph)) W (and_fit _ _)
      obtain ⟨s, hs⟩ : ∃ s, andR r (pcR pw ph) = s := ⟨_, rfl⟩
      rw [hs] at hand hemp Hs
      unfold pcR at hand
      have Hand := Lib.hid hand
      have Hemp := Lib.hid hemp
      clear hb1 x0 x1 x2 x3 HB HO hand hemp hs
      go_wp2_with fail
      refine Calls.mono (Hand.out _) ?_
      rintro _ u2 ⟨rfl, hb2⟩
      have HB2 := Lib.hid (Below.thn HB1.out hb2)
      have HO2 := Lib.hid ((Turns.of_below' (T := fun _ => False) hb2).owns HO1.out (fun _ _ h => h))
      clear hb2 y0 y1 y2 y3 p0 p1 p2 p3 HB1 HO1 Hand
      go_upto_region 6 with (fail)
      have hls : Lies (u2.alloc (.cells #[.int .i64 s.x, .int .i64 s.y, .int .i64 s.a, .int .i64 s.b] 37)) u2.heap.size s := Lies.new rfl
      have hb3 := Below.al1 u2 (.cells #[.int .i64 s.x, .int .i64 s.y, .int .i64 s.a, .int .i64 s.b] 37)
      have HB3 := Lib.hid (Below.thn HB2.out hb3)
      have HO3 := Lib.hid ((Turns.of_below' (T := fun _ => False) hb3).owns HO2.out (fun _ _ h => h))
      generalize u2.alloc (.cells #[.int .i64 s.x, .int .i64 s.y, .int .i64 s.a, .int .i64 s.b] 37) = u3 at *
      generalize u2.heap.size = sb at *
      have Hls := Lib.hid hls
      obtain ⟨y0, y1, y2, y3⟩ := hls
      clear hb3 HB2 HO2
      go_wp2_with fail
      refine Calls.mono (Hemp.out _) ?_
      rintro _ u4 ⟨rfl, hb4⟩
      obtain ⟨z0, z1, z2, z3⟩ := Hls.out.later hb4
      have HB4 := Lib.hid (Below.thn HB3.out hb4)
      have HO4 := Lib.hid ((Turns.of_below' (T := fun _ => False) hb4).owns HO3.out (fun _ _ h => h))
      clear hb4 y0 y1 y2 y3 HB3 HO3 Hemp Hls
      cases he : emptyR s with
      | true =>
        have Hs2 : Hid (wiS pw ph l (i + 1) = wiS pw ph l i) := Lib.hid (by rw [Hs.out, if_pos he, List.append_nil])
        go_wp2
        go_roundw
        case rel => exact ⟨i + 1, by go_num, by omega, by rw [Hs2.out, Hq.out]; exact HO4, HB4⟩
        case measure => simp [intOf]; omega
      | false =>
        have Hs2 : Hid (wiS pw ph l (i + 1) = wiS pw ph l i ++ [s]) := Lib.hid (by rw [Hs.out, if_neg (by rw [he]; decide)])
        have hsz : w.heap.size + 1 ≤ u4.heap.size := by have := HB4.out.size; omega
        go_wp2_with (at_builtin; refine wpList_append_mine _ rfl (.tmp 21) (.tmp 23) 22 rfl (w.heap.size + 1) 37 nf _ 4 32 Tryz.underlying22 hi0 hz0 hz1 hz2 rfl (by decide) (.slice vp q vc) q (flatR (wiS pw ph l i)) rfl (HO4.out.alloc _) (some ⟨u4.heap.size, 0, none⟩) 1 1 (encR s) rfl rfl ?c1 ?c2 ?c3 ?c4 ?c5 ?_)
        case c1 => exact .inr ⟨_, rfl, news_cells (c := encR s)⟩
        case c2 => intro u hu; simp [encR] at hu; rcases hu with rfl | rfl | rfl | rfl <;> rfl
        case c3 => simp only [maxLen]; omega
        case c4 => omega
        case c5 => first | omega | (simp; omega)
        intro v5 w5 ho5 hg5 hp5
        have HO5 : Hid (w5.ownsRow (w.heap.size + 1) 37 4 v5 (wiS pw ph l (i + 1)).length (flatR (wiS pw ph l (i + 1)))) := Lib.hid (by
          rw [Hs2.out, List.length_append, Hq.out, show flatR (wiS pw ph l i ++ [s]) = flatR (wiS pw ph l i) ++ encR s by simp [flatR]]
          exact ho5)
        have ht5 : Turns (fun b => (Value.slice vp q vc).ownBlock = some b) u4 w5 := (Turns.of_below' (Below.al1 u4 _)).trans (Turns.of_grown hg5 (fun _ h => h))
        have HB5 := Lib.hid (HB4.out.trans (ht5.below HB4.out.size (fun b hb => by have := (HO4.out.lt _ hb).1; omega)))
        clear ho5 hg5 hp5 ht5 z0 z1 z2 z3
        go_wp2
        go_roundw
        case rel => exact ⟨i + 1, by go_num, by omega, HO5, HB5⟩
        case measure => simp [intOf]; omega
    · obtain rfl : i = n := by omega
      have d1 : decide ((i : Int) < (i : Int)) = false := by simp
      have e : wiS pw ph l i = wiL pw ph l := by unfold wiS; rw [List.take_of_length_le (by rw [Hn.out]; exact Nat.le_refl _)]
      rw [e] at Hq HO
      go_wp2
      go_ret
      refine ⟨_, rfl, ?_, Below.thn HbW.out HB.out⟩
      rw [Hq.out]
      exact owns_baseT HO.out (by omega)

end Go.Proofs.YtajoipmchgabfaaGreat

/- Regions that draw their order, whose head only reads and calls what keeps all that there is, and makes new blocks, and whose tail stores: one walk of the head in the order of the text serves every order. Nothing here speaks of one program. -/
namespace Go.Proofs.YtajoipmchgabfaaGreat
open Go.RowKit

section
variable {P : Program} {ops : Array Oper} {W : World} {md : Region.Mode}

/-- A value in the very world, or a call that answers it and keeps all that there is. -/
def mkUpon (P : Program) (w : World) (v : Value) : Result Next → Prop
  | .ok (.value u) w' => w' = w ∧ u = v
  | .ok .skip w' => w' = w ∧ v = undef
  | .ok (.enter f args) w' => w' = w ∧ Calls P f args w (fun e w'' => e = .returned v ∧ Below w.heap.size w w'')
  | _ => False

attribute [go_sem] mkUpon

def Yields (P : Program) (ops : Array Oper) (W : World) (o : Oper) (v : Value) (a : Act) : Prop :=
  (Region.wanted o (yielded ops a.tmps) = true ∧ ∀ n : After W, mkUpon P n.world v ((execOp a.eval o).run P n.world)) ∨ (Region.wanted o (yielded ops a.tmps) = false ∧ v = undef)

theorem Yields.of_same {o : Oper} {v : Value} {a a' : Act} (hy : Yields P ops W o v a) (he : execOp a'.eval o = execOp a.eval o)
    (hw : Region.wanted o (yielded ops a'.tmps) = Region.wanted o (yielded ops a.tmps)) : Yields P ops W o v a' := by
  unfold Yields at *
  rw [he, hw]
  exact hy

/-- The head's reading and calling operations, in the order of the text. -/
def Lq (P : Program) (ops : Array Oper) (W : World) (E : Act → Prop) : List Oper → Act → Prop
  | [], a => E a
  | o :: rest, a => ∃ v, Yields P ops W o v a ∧ Lq P ops W E rest (a.put o.dst v)

theorem Lq_nil {E : Act → Prop} {a : Act} (h : E a) : Lq P ops W E [] a := h
theorem Lq_step {E : Act → Prop} {a : Act} {o : Oper} {rest : List Oper}
    (h : ∀ K : Act → Prop, (∀ a, Lq P ops W E rest a → K a) → if Region.wanted o (yielded ops a.tmps) then ∃ v, (∀ n : After W, mkUpon P n.world v ((execOp a.eval o).run P n.world)) ∧ K (a.put o.dst v) else K (a.put o.dst undef)) : Lq P ops W E (o :: rest) a := by
  have h1 := h _ (fun _ h => h)
  by_cases hw : Region.wanted o (yielded ops a.tmps) = true
  · rw [if_pos hw] at h1
    obtain ⟨v, h2, h3⟩ := h1
    exact ⟨v, Or.inl ⟨hw, h2⟩, h3⟩
  · rw [if_neg hw] at h1
    exact ⟨undef, Or.inr ⟨by simpa using hw, rfl⟩, h1⟩

theorem Lq.mono {E E' : Act → Prop} (hE : ∀ a, E a → E' a) : ∀ (l : List Oper) (a : Act), Lq P ops W E l a → Lq P ops W E' l a
  | [], a, h => hE a h
  | _ :: l, _, ⟨v, hy, h⟩ => ⟨v, hy, Lq.mono hE l _ h⟩

/-- One of them may come up ahead of others that are apart from it. -/
theorem Lq.pick {E : Act → Prop} (j : Oper) (post : List Oper) (hj : ∀ cs b, j.op ≠ .select cs b) : ∀ (pre : List Oper) (a : Act), (∀ p ∈ pre, p.apart ops j = true ∧ ∀ cs b, p.op ≠ .select cs b) → Lq P ops W E (pre ++ j :: post) a →
    ∃ v, Yields P ops W j v a ∧ Lq P ops W E (pre ++ post) (a.put j.dst v)
  | [], _, _, h => h
  | i :: pre, a, hap, h => by
    obtain ⟨vi, hyi, h'⟩ := h
    obtain ⟨v, hy, hL⟩ := Lq.pick j post hj pre (a.put i.dst vi) (fun p hp => hap p (by simp [hp])) h'
    obtain ⟨hi, hsi⟩ := hap i (by simp)
    obtain ⟨h1, h2, h3⟩ := Oper.apart_spec hi
    refine ⟨v, hy.of_same (execOp_put j hj a i.dst vi h1).symm (wanted_put j a i.dst vi h1).symm, vi, hyi.of_same (execOp_put i hsi a j.dst v h3) (wanted_put i a j.dst v h3), ?_⟩
    rw [← Act.put_comm a vi v h2]
    exact hL

/-- A slot that none of them looks at may be filled ahead of them. -/
theorem Lq.put {E E' : Act → Prop} (j : Oper) (x : Value) (hE : ∀ a, E a → E' (a.put j.dst x)) : ∀ (l : List Oper) (a : Act), (∀ p ∈ l, p.apart ops j = true ∧ ∀ cs b, p.op ≠ .select cs b) → Lq P ops W E l a → Lq P ops W E' l (a.put j.dst x)
  | [], a, _, h => hE a h
  | i :: l, a, hap, h => by
    obtain ⟨vi, hyi, h'⟩ := h
    obtain ⟨hi, hsi⟩ := hap i (by simp)
    obtain ⟨h1, h2, h3⟩ := Oper.apart_spec hi
    refine ⟨vi, hyi.of_same (execOp_put i hsi a j.dst x h3) (wanted_put i a j.dst x h3), ?_⟩
    rw [← Act.put_comm a vi x h2]
    exact Lq.put j x hE l (a.put i.dst vi) (fun p hp => hap p (by simp [hp])) h'

def updB (β : Nat → Nat) (i B : Nat) : Nat → Nat := fun k => if k = i then B else β k
theorem updB_same (β : Nat → Nat) (i B : Nat) : updB β i B i = B := by simp [updB]
theorem updB_ne (β : Nat → Nat) {i k : Nat} (B : Nat) (h : k ≠ i) : updB β i B k = β k := by simp [updB, h]
theorem updB_comm (β : Nat → Nat) {i j : Nat} (h : i ≠ j) (B C : Nat) : updB (updB β i B) j C = updB (updB β j C) i B := by
  funext k
  by_cases h1 : k = i
  · subst h1
    rw [updB_ne _ _ h, updB_same, updB_same]
  · by_cases h2 : k = j
    · subst h2
      rw [updB_same, updB_ne _ _ h1, updB_same]
    · rw [updB_ne _ _ h2, updB_ne _ _ h1, updB_ne _ _ h1, updB_ne _ _ h2]

/-- The head's new blocks: wherever they come to lie. -/
def La (W : World) (F : (Nat → Nat) → Act → Prop) : List (Nat × Oper) → (Nat → Nat) → Act → Prop
  | [], β, a => F β a
  | o :: rest, β, a => ∀ B, W.heap.size ≤ B → La W F rest (updB β o.1 B) (a.put o.2.dst (.pointer (some ⟨B, 0, none⟩)))

theorem La.pick {F : (Nat → Nat) → Act → Prop} (j : Nat × Oper) (post : List (Nat × Oper)) : ∀ (pre : List (Nat × Oper)) (β : Nat → Nat) (a : Act), (∀ p ∈ pre, p.1 ≠ j.1 ∧ ∀ d, p.2.dst = some d → j.2.dst ≠ some d) → La W F (pre ++ j :: post) β a →
    ∀ B, W.heap.size ≤ B → La W F (pre ++ post) (updB β j.1 B) (a.put j.2.dst (.pointer (some ⟨B, 0, none⟩)))
  | [], _, _, _, h => h
  | i :: pre, β, a, hap, h => fun B hB Bi hBi => by
    have h2 := La.pick j post pre (updB β i.1 Bi) (a.put i.2.dst (.pointer (some ⟨Bi, 0, none⟩))) (fun p hp => hap p (by simp [hp])) (h Bi hBi) B hB
    have hi := hap i (by simp)
    rw [updB_comm _ hi.1, Act.put_comm a _ _ hi.2] at h2
    exact h2

theorem not_waits {i j : Nat} {listed : Array Bool} (hj : j ∈ Region.ready md ops listed) (hi : listed.getD i true = false) : Region.waitsFor md ops j i = false := by
  cases h : Region.waitsFor md ops j i
  · rfl
  · obtain ⟨oj, hoj, e, he, hb, hon⟩ := Region.waitsFor_spec h
    obtain ⟨_, o, ho, hall⟩ := mem_ready.1 hj
    have : oj = o := Option.some.inj (hoj.symm.trans ho)
    subst this
    have h2 := hall e he hb
    rw [hon, getD_both hi] at h2
    cases h2

theorem split_at {α : Type} {x : α} {l : List α} (h : x ∈ l) : ∃ pre post, l = pre ++ x :: post := List.append_of_mem h

end
end Go.Proofs.YtajoipmchgabfaaGreat
