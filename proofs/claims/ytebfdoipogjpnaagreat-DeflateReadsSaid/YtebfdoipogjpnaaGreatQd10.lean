/- Several texts in one, each with its own head. -/
import Derived.Test.YtebfdoipogjpnaaGreatQd9
import Derived.Test.YtebfdoipogjpnaaGreatQd5
/- huff's cheapest. -/
namespace Go.Proofs.YtebfdoipogjpnaaGreat
open Go.RowKit

theorem RowAt.take {α : Type} {enc : α → List Value} {k : Nat} {W : World} {p : Option Addr} {xs : List α} (h : RowAt enc k W p xs) (m : Nat) : RowAt enc k W p (xs.take m) := by
  rcases h with ⟨h1, rfl⟩ | ⟨b, off, rfl, h2, h3⟩
  · exact .inl ⟨h1, by simp⟩
  · refine .inr ⟨b, off, rfl, h2, fun i x hi j u hj => h3 i x ?_ j u hj⟩
    rw [List.getElem?_take] at hi
    split at hi
    · exact hi
    · cases hi
theorem Row.take {α : Type} {enc : α → List Value} {k : Nat} {W : World} {p : Option Addr} {n c : Nat} {xs : List α} (h : Row enc k W (.slice p n c) xs) {m : Nat} (hm : m ≤ xs.length) : Row enc k W (.slice p m c) (xs.take m) := by
  obtain ⟨p', c', e, h1, h2, h3⟩ := h
  cases e
  have hl : (xs.take m).length = m := by rw [List.length_take]; omega
  exact ⟨p, c, by rw [hl], by omega, h2, h3.take m⟩

theorem own_ptrs {W : World} {base : Nat} {v : Value} {n : Nat} {bs : List Nat} (h : W.ownsRow base 216 1 v n (bs.map ptrV)) (hn : n = bs.length) : Row encP 1 W v bs := by
  subst hn
  rw [← flatP] at h
  exact owns_row' encP_len h

/-- What cheapest answers. -/
def Cheap (N : Nat → Prop) (l : List (Nat × Tr)) (L : Nat) (w : World) (e : Ending) (w' : World) : Prop :=
  ∃ (v : Value) (P : List Tr) (rt : List (Nat × Tr)), e = .returned v ∧ RowT (l.map Prod.snd) L P ∧ rt.map Prod.snd = pairT P ∧ Row encP 1 w' v ((rt.take (l.length - 1)).map Prod.fst) ∧
    (∀ e ∈ rt, TrAt w' N e.1 e.2) ∧ Below w.heap.size w w' ∧ ∀ k, v.ownBlock = some k → w.heap.size ≤ k

/-- What cheapest's loop holds: a row's parcels, bound two by two. -/
structure ChInv (N : Nat → Prop) (ls : List Tr) (w wr : World) (k : Nat) (v : Value) (P : List Tr) (rt : List (Nat × Tr)) : Prop where
  row : RowT ls k P
  eq : rt.map Prod.snd = pairT P
  own : wr.ownsRow w.heap.size 216 1 v rt.length ((rt.map Prod.fst).map ptrV)
  at' : ∀ e ∈ rt, TrAt wr N e.1 e.2
  below : Below w.heap.size w wr

set_option maxHeartbeats 1000000 in
theorem cheapest_any (N : Nat → Prop) (l : List (Nat × Tr)) (vl : Value) (L : Nat) (w : World) (hN : ∀ i, w.heap.size ≤ i → N i) (hvl : Row encP 1 w vl (l.map Prod.fst)) (hl : ∀ e ∈ l, TrAt w N e.1 e.2 ∧ e.2.cost ≤ 1099511627776) (hlen : l.length ≤ 320) (hL : L ≤ 15)
    (hfin : ∀ P, RowT (l.map Prod.snd) L P → l.length - 1 ≤ (pairT P).length) :
    Calls Tryz.prog 165 #[vl, .int .i64 (L : Int)] w fun e w' => Cheap N l L w e w' := by
  have Hvl := Lib.hid hvl
  have Hl := Lib.hid hl
  have Hfin := Lib.hid hfin
  have HN := Lib.hid hN
  obtain ⟨pl, cl, rfl, -, -, -⟩ := hvl
  rw [List.length_map] at Hvl ⊢
  clear hl hfin hN
  go_enter Tryz.func165, Tryz.ntmps165
  go_wp2
  go_loopw [5, 7] (fun v kv wr => ∃ (k : Nat) (P : List Tr) (rt : List (Nat × Tr)), kv = .int .i64 (k : Int) ∧ k ≤ L ∧ Hid (ChInv N (l.map Prod.snd) w wr k v P rt)) (fun _ kv _ => L - (intOf kv).toNat)
  case atStart => exact ⟨0, [], [], rfl, Nat.zero_le _, Lib.hid ⟨rfl, by simp [pairT], World.ownsRow_nil _ _ _ _, (fun e he => by cases he), Below.refl _ _⟩⟩
  case round =>
    obtain ⟨k, P, rt, rfl, hk, HI⟩ := hrel
    obtain ⟨pb, cb, rfl⟩ := owns_slice HI.out.own
    by_cases hlt : k < L
    · have d1 : (k : Int) < (L : Int) := by omega
      have hlsl : (l.map Prod.snd).length = l.length := List.length_map _
      have Hpre : Hid ((∀ e ∈ l ++ rt, TrAt wr N e.1 e.2 ∧ e.2.cost ≤ 1152921504606846976) ∧ (l ++ rt).length ≤ 65536) := Lib.hid (by
        refine ⟨fun e he => ?_, ?_⟩
        · rcases List.mem_append.1 he with he | he
          · obtain ⟨h1, h2⟩ := Hl.out e he
            exact ⟨h1.below HI.out.below, by omega⟩
          · refine ⟨HI.out.at' e he, ?_⟩
            have hm : e.2 ∈ pairT P := by rw [← HI.out.eq]; exact List.mem_map_of_mem he
            obtain ⟨x, y, e1, hx, hy⟩ := pairT_node P _ hm
            have hc : ∀ t ∈ l.map Prod.snd, t.cost ≤ 1099511627776 := fun t ht => by
              obtain ⟨q, hq, rfl⟩ := List.mem_map.1 ht
              exact (Hl.out q hq).2
            have h1 := RowT.cost_le hc HI.out.row x hx
            have h2 := RowT.cost_le hc HI.out.row y hy
            have h3 : 2 ^ k ≤ 2 ^ 15 := Nat.pow_le_pow_right (by decide) (by omega)
            have h4 : (2 : Nat) ^ 15 = 32768 := rfl
            rw [e1]
            simp only [Tr.cost]
            omega
        · have h1 := RowT.len_le HI.out.row
          have h2 := congrArg List.length HI.out.eq
          rw [List.length_map, pairT_len] at h2
          rw [List.length_append]
          omega)
      have Hvl2 := Lib.hid (Hvl.out.below HI.out.below)
      have Hvb2 := Lib.hid (own_ptrs HI.out.own (by rw [List.length_map]))
      have HN2 : Hid (∀ i, wr.heap.size ≤ i → N i) := Lib.hid (fun i hi => HN.out i (Nat.le_trans HI.out.below.size hi))
      clear hlsl
      go_wp2_with fail
      refine Calls.mono (pairs_any N l rt _ _ wr HN2.out Hvl2.out Hvb2.out Hpre.out.1 Hpre.out.2) ?_
      rintro e w1 ⟨v, Q, rt', rfl, h1, h2, h3, h4, h5, h6⟩
      have HI1 : Hid (ChInv N (l.map Prod.snd) w w1 (k + 1) v (Q.map Prod.snd) rt') := Lib.hid ⟨⟨P, HI.out.row, h2, by
        have := h1.map Prod.snd
        rw [List.map_append, HI.out.eq] at this
        exact this⟩, h3, hq_base h4 HI.out.below.size, h5, Below.thn HI.out.below h6⟩
      clear h1 h2 h3 h4 h5 h6
      go_wp2
      go_roundw
      case rel => exact ⟨k + 1, _, rt', by go_num, by omega, HI1⟩
      case measure => simp [intOf]; omega
    · obtain rfl : k = L := by omega
      have hcap : rt.length ≤ cb ∧ l.length - 1 ≤ rt.length := by
        refine ⟨?_, ?_⟩
        · rcases HI.out.own.2 with ⟨h0, h1⟩ | ⟨g, cap, cur, hv, -, -, hn, -⟩
          · omega
          · injection hv with a1 a2 a3
            omega
        · have h2 := congrArg List.length HI.out.eq
          have h3 := Hfin.out P HI.out.row
          rw [List.length_map] at h2
          omega
      have hrow := own_ptrs HI.out.own (by rw [List.length_map])
      have Hrow := Lib.hid (hrow.take (m := l.length - 1) (by rw [List.length_map]; omega))
      clear hrow
      obtain ⟨h1, h2⟩ := hcap
      go_wp2
      · go_ret
        have e0 : l.length - 1 = 0 := by omega
        have hr := Hrow.out
        rw [e0] at hr
        exact ⟨_, P, rt, rfl, HI.out.row, HI.out.eq, by rw [e0, List.map_take]; exact hr, HI.out.at', HI.out.below, fun k hk => (HI.out.own.lt k (by cases pb <;> exact hk)).1⟩
      · go_ret
        exact ⟨_, P, rt, rfl, HI.out.row, HI.out.eq, by rw [List.map_take]; exact Hrow.out, HI.out.at', HI.out.below, fun k hk => (HI.out.own.lt k (by cases pb <;> exact hk)).1⟩

end Go.Proofs.YtebfdoipogjpnaaGreat

/- huff's mayBe, singles, count. -/
namespace Go.Proofs.YtebfdoipogjpnaaGreat
open Go.RowKit

/-- Ints as cells. -/
def encZ (i : Int) : List Value := [.int .i64 i]
theorem encZ_len (i : Int) : (encZ i).length = 1 := rfl

theorem RowAt.int {W : World} {p : Option Addr} {xs : List Int} (h : RowAt encZ 1 W p xs) {k : Nat} (hk : k < xs.length) : ∃ b off, p = some ⟨b, off, none⟩ ∧ W.cell? ⟨b, off + k, none⟩ = some (.int .i64 xs[k]) := by
  rcases h with ⟨-, rfl⟩ | ⟨b, off, rfl, -, h⟩
  · simp at hk
  · refine ⟨b, off, rfl, ?_⟩
    have := h k xs[k] (List.getElem?_eq_getElem hk) 0 _ rfl
    simpa using this

def okF (f : Int) : Bool := decide (0 ≤ f ∧ f ≤ 1099511627776)
def mayB (fs : List Int) (limit : Int) : Bool := decide (1 ≤ limit ∧ limit ≤ 15 ∧ fs.length ≤ 320) && fs.all okF

theorem all_at {fs : List Int} {k : Nat} (hk : k < fs.length) (h : (fs.take k).all okF = true) : (okF fs[k] = false → fs.all okF = false) ∧ (okF fs[k] = true → (fs.take (k + 1)).all okF = true) := by
  refine ⟨fun h1 => ?_, fun h1 => ?_⟩
  · rw [Bool.eq_false_iff]
    intro h2
    have := List.all_eq_true.1 h2 fs[k] (List.getElem_mem hk)
    rw [h1] at this; cases this
  · rw [List.take_succ_eq_append_getElem hk, List.all_append, h]
    simp [h1]

set_option maxHeartbeats 1000000 in
theorem mayBe_any (fs : List Int) (v : Value) (limit : Int) (w : World) (hv : Row encZ 1 w v fs) :
    Calls Tryz.prog 163 #[v, .int .i64 limit] w fun e w' => e = .returned (.bool (mayB fs limit)) ∧ w' = w := by
  have hlen := hv.len
  obtain ⟨p, c, rfl, -, -, hrow⟩ := hv
  have Hrow := Lib.hid hrow
  obtain ⟨bb, hbb⟩ : ∃ bb, mayB fs limit = bb := ⟨_, rfl⟩
  rw [hbb]
  have Hbb := Lib.hid hbb
  clear hrow hbb
  by_cases hok : 1 ≤ limit ∧ limit ≤ 15 ∧ fs.length ≤ 320
  · obtain ⟨h1, h2, h3⟩ := hok
    have e1 : ¬ limit < 1 := by omega
    have e2 : ¬ 15 < limit := by omega
    have e3 : ¬ (320 : Int) < fs.length := by omega
    go_enter Tryz.func163, Tryz.ntmps163
    go_wp2
    go_loop [20] (fun kv => ∃ (k : Nat), kv = .int .i64 (k : Int) ∧ k ≤ fs.length ∧ Hid ((fs.take k).all okF = true)) (fun kv => fs.length - (intOf kv).toNat)
    case atStart => exact ⟨0, rfl, Nat.zero_le _, Lib.hid (by simp)⟩
    case round =>
      obtain ⟨k, rfl, hk, Hk⟩ := hrel
      by_cases hlt : k < fs.length
      · obtain ⟨g, off, rfl, hcell⟩ := Hrow.out.int hlt
        have Hat := Lib.hid (all_at hlt Hk.out)
        obtain ⟨x, hx⟩ : ∃ x, fs[k] = x := ⟨_, rfl⟩
        rw [hx] at hcell Hat
        have k0 : (0 : Int) ≤ (k : Int) := by omega
        have k1 : (k : Int) < (fs.length : Int) := by omega
        clear hx
        by_cases hx1 : x < 0
        · have hf : bb = false := by
            rw [← Hbb.out]
            unfold mayB
            rw [Hat.out.1 (by unfold okF; simp; omega)]
            simp
          go_wp2
          go_ret
          exact ⟨rfl, rfl⟩
        · by_cases hx2 : 1099511627776 < x
          · have hf : bb = false := by
              rw [← Hbb.out]
              unfold mayB
              rw [Hat.out.1 (by unfold okF; simp; omega)]
              simp
            go_wp2
            go_ret
            exact ⟨rfl, rfl⟩
          · have Hk2 := Lib.hid (Hat.out.2 (by unfold okF; simp; omega))
            go_wp2
            go_round
            case rel => exact ⟨k + 1, by go_num, by omega, Hk2⟩
            case measure => simp [intOf]; omega
      · obtain rfl : k = fs.length := by omega
        have hf : bb = true := by
          rw [← Hbb.out]
          unfold mayB
          have := Hk.out
          rw [List.take_length] at this
          rw [this]
          simp; omega
        go_wp2
        go_ret
        exact ⟨rfl, rfl⟩
  · have hf : bb = false := by
      rw [← Hbb.out]
      unfold mayB
      simp [hok]
    clear Hbb
    subst hf
    by_cases e1 : limit < 1
    · go_enter Tryz.func163, Tryz.ntmps163
      go_wp2
      go_ret
      exact ⟨rfl, rfl⟩
    · by_cases e2 : 15 < limit
      · go_enter Tryz.func163, Tryz.ntmps163
        go_wp2
        go_ret
        exact ⟨rfl, rfl⟩
      · have e3 : (320 : Int) < fs.length := by omega
        go_enter Tryz.func163, Tryz.ntmps163
        go_wp2
        go_ret
        exact ⟨rfl, rfl⟩

/-- The frequency of a symbol. -/
def fq (fs : List Int) (i : Nat) : Nat := (fs.getD i 0).toNat

/-- One step of each of the first k symbols that is to have a code. -/
def leaves (f : Nat → Nat) : Nat → List Tr
  | 0 => []
  | k + 1 => leaves f k ++ (if 0 < f k then [.leaf k (f k)] else [])
def syms (f : Nat → Nat) : Nat → List Nat
  | 0 => []
  | k + 1 => syms f k ++ (if 0 < f k then [k] else [])

theorem Lv.snoc {s c : Nat} : ∀ {ls : List Tr} {ss : List Nat}, Lv ls ss → Lv (ls ++ [.leaf s c]) (ss ++ [s])
  | [], [], _ => ⟨rfl, trivial⟩
  | .leaf _ _ :: _, _ :: _, ⟨h1, h2⟩ => ⟨h1, Lv.snoc h2⟩
  | [], _ :: _, h => h.elim
  | .leaf _ _ :: _, [], h => h.elim
  | .node _ _ :: _, _, h => by cases h

theorem leaves_lv (f : Nat → Nat) : ∀ k, Lv (leaves f k) (syms f k)
  | 0 => trivial
  | k + 1 => by
    unfold leaves syms
    by_cases h : 0 < f k
    · rw [if_pos h, if_pos h]; exact (leaves_lv f k).snoc
    · rw [if_neg h, if_neg h, List.append_nil, List.append_nil]; exact leaves_lv f k
theorem syms_mem (f : Nat → Nat) : ∀ k, ∀ i ∈ syms f k, i < k ∧ 0 < f i
  | 0, i, h => by cases h
  | k + 1, i, h => by
    unfold syms at h
    rcases List.mem_append.1 h with h | h
    · have := syms_mem f k i h
      exact ⟨by omega, this.2⟩
    · by_cases h0 : 0 < f k
      · rw [if_pos h0] at h
        obtain rfl : i = k := by simpa using h
        exact ⟨by omega, h0⟩
      · rw [if_neg h0] at h; cases h
theorem syms_up (f : Nat → Nat) : ∀ k, (syms f k).Pairwise (· < ·)
  | 0 => List.Pairwise.nil
  | k + 1 => by
    unfold syms
    rw [List.pairwise_append]
    refine ⟨syms_up f k, ?_, fun a ha b hb => ?_⟩
    · by_cases h : 0 < f k <;> simp [h]
    · have h1 := (syms_mem f k a ha).1
      by_cases h0 : 0 < f k
      · rw [if_pos h0] at hb
        obtain rfl : b = k := by simpa using hb
        exact h1
      · rw [if_neg h0] at hb; cases hb
theorem leaves_fits (f : Nat → Nat) : ∀ k, ∀ t ∈ leaves f k, t.Fits k f ∧ ¬ t.isNode ∧ ∃ s, s < k ∧ t = .leaf s (f s)
  | 0, t, h => by cases h
  | k + 1, t, h => by
    unfold leaves at h
    rcases List.mem_append.1 h with h | h
    · obtain ⟨_, _, s, hs, rfl⟩ := leaves_fits f k t h
      exact ⟨⟨by omega, rfl⟩, (fun h => h), s, by omega, rfl⟩
    · by_cases h0 : 0 < f k
      · rw [if_pos h0] at h
        obtain rfl : t = .leaf k (f k) := by simpa using h
        exact ⟨⟨by omega, rfl⟩, (fun h => h), k, by omega, rfl⟩
      · rw [if_neg h0] at h; cases h
theorem leaves_cost (f : Nat → Nat) : ∀ k, (leaves f k).map Tr.cost = ((List.range k).map f).filter fun c => decide (0 < c)
  | 0 => rfl
  | k + 1 => by
    unfold leaves
    rw [List.map_append, leaves_cost f k, List.range_succ, List.map_append, List.filter_append]
    congr 1
    by_cases h : 0 < f k <;> simp [h, Tr.cost]
theorem leaves_len (f : Nat → Nat) (k : Nat) : (leaves f k).length = many k f := by
  have := congrArg List.length (leaves_cost f k)
  rw [List.length_map, coins_len] at this
  exact this

end Go.Proofs.YtebfdoipogjpnaaGreat

/- huff's singles and count. -/
namespace Go.Proofs.YtebfdoipogjpnaaGreat
open Go.RowKit

/-- What singles' loop holds. -/
structure SgInv (N : Nat → Prop) (f : Nat → Nat) (w wr : World) (k : Nat) (v : Value) (l : List (Nat × Tr)) : Prop where
  eq : l.map Prod.snd = leaves f k
  own : wr.ownsRow w.heap.size 216 1 v l.length ((l.map Prod.fst).map ptrV)
  at' : ∀ e ∈ l, TrAt wr (fun i => N i ∧ w.heap.size ≤ i ∧ v.ownBlock ≠ some i) e.1 e.2
  below : Below w.heap.size w wr

theorem fq_at {fs : List Int} {k : Nat} (hk : k < fs.length) (h0 : 0 ≤ fs[k]) : fs[k] = ((fq fs k : Nat) : Int) := by
  unfold fq
  rw [List.getD_eq_getElem?_getD, List.getElem?_eq_getElem hk]
  simp; omega

set_option maxHeartbeats 1000000 in
theorem singles_any (N : Nat → Prop) (fs : List Int) (v : Value) (w : World) (hN : ∀ i, w.heap.size ≤ i → N i) (hv : Row encZ 1 w v fs) (hlen : fs.length ≤ 320) (hpos : ∀ f ∈ fs, 0 ≤ f) :
    Calls Tryz.prog 164 #[v] w fun e w' => ∃ (v' : Value) (l : List (Nat × Tr)), e = .returned v' ∧ SgInv N (fq fs) w w' fs.length v' l := by
  obtain ⟨p, c, rfl, -, -, hrow⟩ := hv
  have Hrow := Lib.hid hrow
  have Hpos := Lib.hid hpos
  have HN := Lib.hid hN
  clear hrow hpos hN
  go_enter Tryz.func164, Tryz.ntmps164
  go_wp2
  go_loopw [3, 8] (fun v kv wr => ∃ (k : Nat) (l : List (Nat × Tr)), kv = .int .i64 (k : Int) ∧ k ≤ fs.length ∧ Hid (SgInv N (fq fs) w wr k v l)) (fun _ kv _ => fs.length - (intOf kv).toNat)
  case atStart => exact ⟨0, [], rfl, Nat.zero_le _, Lib.hid ⟨rfl, World.ownsRow_nil _ _ _ _, (fun e he => by cases he), Below.refl _ _⟩⟩
  case round =>
    obtain ⟨k, l, rfl, hk, HI⟩ := hrel
    obtain ⟨pv, cv, rfl⟩ := owns_slice HI.out.own
    by_cases hlt : k < fs.length
    · obtain ⟨g, off, rfl, hcell⟩ := Hrow.out.int hlt
      have hcell2 := cell_later HI.out.below hcell
      have Hfk := Lib.hid (fq_at hlt (Hpos.out _ (List.getElem_mem hlt)))
      rw [Hfk.out] at hcell2
      obtain ⟨x, hx⟩ : ∃ x, fq fs k = x := ⟨_, rfl⟩
      rw [hx] at hcell2
      have Hx := Lib.hid hx
      have k0 : (0 : Int) ≤ (k : Int) := by omega
      have k1 : (k : Int) < (fs.length : Int) := by omega
      clear hx hcell
      by_cases hx0 : 0 < x
      · have d0 : decide (0 < x) = true := by simpa using hx0
        have hll : l.length ≤ 320 := by
          have h1 := congrArg List.length HI.out.eq
          rw [List.length_map, leaves_len] at h1
          have h2 : many k (fq fs) ≤ k := by
            unfold many
            have := sm_le (n := k) (g := fun i => if 0 < fq fs i then 1 else 0) (h := fun _ => 1) (fun i _ => by split <;> omega)
            have h3 : ∀ m, sm m (fun _ => 1) = m := fun m => by
              induction m with
              | zero => rfl
              | succ m ih => rw [sm, ih]
            rw [h3] at this
            exact this
          omega
        have hs := HI.out.below.size
        have Hown2 : Hid ((wr.alloc (.cells #[.int .i64 (x : Int), .int .i64 (k : Int), .slice none 0 0] 215)).ownsRow w.heap.size 216 1 (.slice pv l.length cv) l.length ((l.map Prod.fst).map ptrV)) := Lib.hid (HI.out.own.alloc _)
        have hs2 : w.heap.size ≤ (wr.alloc (.cells #[.int .i64 (x : Int), .int .i64 (k : Int), .slice none 0 0] 215)).heap.size := by simp; omega
        go_wp2_with (at_builtin; refine wpList_append_one _ rfl (.tmp 15) (.tmp 20) 212 rfl w.heap.size 216 _ 8 ptr_info Tryz.underlying212 rfl (.slice pv l.length cv) l.length ((l.map Prod.fst).map ptrV) rfl Hown2.out (ptrV wr.heap.size) _ ?n1 rfl ?n3 ?n4 hs2 ?_)
        case n1 => rw [World.size_alloc]; rfl
        case n3 => simp only [maxLen]; omega
        case n4 => omega
        intro g5 cap5 w5 hown5 ht5 hpl5
        have HI5 : Hid (SgInv N (fq fs) w w5 (k + 1) (.slice (some ⟨g5, 0, none⟩) (l.length + 1) cap5) (l ++ [(wr.heap.size, .leaf k x)])) := Lib.hid (by
          have hx' : 0 < fq fs k := by rw [Hx.out]; exact hx0
          have hlt' := HI.out.own.lt
          have hno : ∀ i, i < wr.heap.size + 1 → (Value.slice pv l.length cv).ownBlock ≠ some i → g5 ≠ i := fun i h1 h2 e => by
            rcases hpl5 with h | h
            · exact h2 (e ▸ h)
            · omega
          refine ⟨?_, ?_, fun e he => ?_, ?_⟩
          · rw [List.map_append, HI.out.eq]
            conv => rhs; unfold leaves
            rw [if_pos hx', Hx.out]; rfl
          · rw [List.length_append, List.map_append, List.map_append, List.map_map]; exact hown5
          · rcases List.mem_append.1 he with he | he
            · exact (HI.out.at' e he).keep (fun i hi hn => ⟨(ht5.block i (by simp; omega) hn.2.2).trans (Below.heap_alloc wr _ i hi), hn.1, hn.2.1, fun e => hno i (by omega) hn.2.2 (by cases e; rfl)⟩)
            · obtain rfl : e = (wr.heap.size, .leaf k x) := by simpa using he
              have hn0 : (Value.slice pv l.length cv).ownBlock ≠ some wr.heap.size := fun e => by have := (hlt' _ e).2; omega
              unfold TrAt
              exact ⟨⟨HN.out _ hs, hs, fun e => hno wr.heap.size (by omega) hn0 (by cases e; rfl)⟩, (ht5.block wr.heap.size (by simp) hn0).trans (World.alloc_heap_new _ _)⟩
          · exact HI.out.below.trans (((Below.al1 wr _).mono hs).trans (ht5.below (by simp; omega) (fun i e => (hlt' i e).1))))
        clear hown5 ht5 hpl5 hs2 hs
        go_wp2
        go_roundw
        case rel => exact ⟨k + 1, _, by go_num, by omega, HI5⟩
        case measure => simp [intOf]; omega
      · have d0 : decide (0 < x) = false := by simpa using hx0
        have HI5 : Hid (SgInv N (fq fs) w wr (k + 1) (.slice pv l.length cv) l) := Lib.hid ⟨by
          rw [HI.out.eq]
          conv => rhs; unfold leaves
          rw [Hx.out, if_neg hx0, List.append_nil], HI.out.own, HI.out.at', HI.out.below⟩
        go_wp2
        go_roundw
        case rel => exact ⟨k + 1, l, by go_num, by omega, HI5⟩
        case measure => simp [intOf]; omega
    · obtain rfl : k = fs.length := by omega
      go_wp2
      go_ret
      exact ⟨_, l, rfl, HI.out⟩

end Go.Proofs.YtebfdoipogjpnaaGreat

/- huff's count: the steps of a parcel are added to the symbols' lengths. -/
namespace Go.Proofs.YtebfdoipogjpnaaGreat
open Go.RowKit

/-- Lengths as cells. -/
def lensRow (f : Nat → Nat) (n : Nat) : List Value := (List.range n).map fun i => u8v (f i)
theorem lensRow_len (f : Nat → Nat) (n : Nat) : (lensRow f n).length = n := by simp [lensRow]
theorem lensRow_at (f : Nat → Nat) {n s : Nat} (h : s < n) : (lensRow f n)[s]? = some (u8v (f s)) := by
  unfold lensRow
  rw [List.getElem?_map, List.getElem?_eq_getElem (by simpa using h)]
  simp
theorem lensRow_congr {f g : Nat → Nat} {n : Nat} (h : ∀ i, i < n → f i = g i) : lensRow f n = lensRow g n := by
  unfold lensRow
  refine List.map_congr_left fun i hi => ?_
  rw [h i (List.mem_range.1 hi)]
theorem lensRow_set (f : Nat → Nat) {n s : Nat} (x : Nat) : (lensRow f n).set s (u8v x) = lensRow (fun i => if i = s then x else f i) n := by
  refine List.ext_getElem? (fun k => ?_)
  rw [List.getElem?_set, lensRow_len]
  by_cases hk : k < n
  · rw [lensRow_at (fun i => if i = s then x else f i) hk, lensRow_at f hk]
    by_cases h : s = k
    · subst h; simp [hk]
    · simp [h, Ne.symm h]
  · rw [List.getElem?_eq_none (by rw [lensRow_len]; omega), List.getElem?_eq_none (by rw [lensRow_len]; omega)]
    by_cases h : s = k
    · subst h; simp [hk]
    · simp [h]

def LensAt (w : World) (base g n c : Nat) (f : Nat → Nat) : Prop := w.ownsRow base 5 1 (.slice (some ⟨g, 0, none⟩) n c) n (lensRow f n)

theorem LensAt.congr {w : World} {base g n c : Nat} {f f' : Nat → Nat} (h : LensAt w base g n c f) (e : ∀ i, i < n → f i = f' i) : LensAt w base g n c f' := by
  unfold LensAt at h ⊢
  rw [← lensRow_congr e]; exact h

set_option maxHeartbeats 1000000 in
theorem count_leaf (N : Nat → Prop) (base g n c b s cs : Nat) (f : Nat → Nat) (w : World) (ht : TrAt w N b (.leaf s cs)) (hL : LensAt w base g n c f) (hs : s < n) (hf : f s + 1 ≤ 255) (hg : ¬ N g) :
    Calls Tryz.prog 166 #[ptrV b, .slice (some ⟨g, 0, none⟩) n c] w fun e w' => e = .returned (.tuple #[]) ∧ LensAt w' base g n c (fun i => f i + (Tr.leaf s cs).cnt i) ∧ Turns (fun i => i = g) w w' := by
  unfold TrAt at ht
  have hb := ht.2
  have c1 : w.cell? ⟨b, 1, none⟩ = some (.int .i64 (s : Int)) := by simp [World.cell?, hb]
  have c2 : w.cell? ⟨b, 2, none⟩ = some (.slice none 0 0) := by simp [World.cell?, hb]
  have cl : w.cell? ⟨g, s, none⟩ = some (.int .u8 (f s : Int)) := by
    rw [World.ownsRow.cellAt hL s (by omega), lensRow_at f hs]; rfl
  have fl : w.frozen? ⟨g, s, none⟩ = false := World.ownsRow.frozenAt hL s
  have hst := (World.ownsRow.stored hL s (u8v (f s + 1)))
  have HR : Hid (LensAt (w.setCell ⟨g, s, none⟩ (.int .u8 ((f s : Int) + 1))) base g n c (fun i => f i + (Tr.leaf s cs).cnt i)) := Lib.hid (by
    have h1 := hst.1
    rw [lensRow_set] at h1
    refine LensAt.congr (f := fun i => if i = s then f s + 1 else f i) h1 (fun i _ => ?_)
    by_cases e : i = s
    · subst e; simp [Tr.cnt]
    · simp [Tr.cnt, e])
  have HT : Hid (Turns (fun i => i = g) w (w.setCell ⟨g, s, none⟩ (.int .u8 ((f s : Int) + 1)))) := Lib.hid ((Turns.refl _ w).set (T := fun i => i = g) (p := ⟨g, s, none⟩) rfl _)
  obtain ⟨x, hx⟩ : ∃ x, f s = x := ⟨_, rfl⟩
  rw [hx] at cl HR HT hf
  have c3 : (w.setCell ⟨g, s, none⟩ (.int .u8 ((x : Int) + 1))).cell? ⟨b, 2, none⟩ = some (.slice none 0 0) := HT.out.cell c2 (fun e => hg (e ▸ ht.1))
  have hn1 : (s : Int) < (n : Int) := by omega
  have hn0 : (0 : Int) ≤ (s : Int) := by omega
  unfold ptrV
  clear ht hL hst hb hx
  go_enter Tryz.func166, Tryz.ntmps166
  go_wp2
  obtain ⟨W, hW⟩ : ∃ W, w.setCell ⟨g, s, none⟩ (.int .u8 ((x : Int) + 1)) = W := ⟨_, rfl⟩
  rw [hW] at HR HT c3 ⊢
  clear hW
  go_loop [26] (fun kv => kv = .int .i64 0) (fun _ => 0)
  case atStart => rfl
  case round =>
    obtain rfl := hrel
    go_wp2
    go_end0
    exact ⟨rfl, HR.out, HT.out⟩

/-- What the first k parts of a pair make of lengths. -/
def stepC (f : Nat → Nat) (x y : Tr) (k : Nat) : Nat → Nat := fun i => f i + (if 1 ≤ k then x.cnt i else 0) + (if 2 ≤ k then y.cnt i else 0)
structure CntInv (base g n c : Nat) (f : Nat → Nat) (x y : Tr) (w wr : World) (k : Nat) : Prop where
  lens : LensAt wr base g n c (stepC f x y k)
  turns : Turns (fun i => i = g) w wr

theorem cell_heap {w : World} {b i : Nat} {cs : Array Value} {t : TypeId} {v : Value} (h : w.heap[b]? = some (.cells cs t)) (hi : cs[i]? = some v) : w.cell? ⟨b, i, none⟩ = some v := by
  simp [World.cell?, h, hi]

set_option maxHeartbeats 2000000 in
theorem count_any (N : Nat → Prop) (base g n c : Nat) (hg : ¬ N g) (fr : Nat → Nat) : ∀ (t : Tr) (b : Nat) (f : Nat → Nat) (w : World), TrAt w N b t → LensAt w base g n c f → t.Fits n fr → (∀ i, i < n → f i + t.cnt i ≤ 255) →
    Calls Tryz.prog 166 #[ptrV b, .slice (some ⟨g, 0, none⟩) n c] w fun e w' => e = .returned (.tuple #[]) ∧ LensAt w' base g n c (fun i => f i + t.cnt i) ∧ Turns (fun i => i = g) w w'
  | .leaf s cs, b, f, w, ht, hL, hF, hf => by
    have h1 := hf s hF.1
    rw [Tr.cnt, if_pos rfl] at h1
    exact count_leaf N base g n c b s cs f w ht hL hF.1 h1 hg
  | .node x y, b, f, w, ht, hL, hF, hf => by
    have ih1 := Lib.hid (count_any N base g n c hg fr x)
    have ih2 := Lib.hid (count_any N base g n c hg fr y)
    unfold TrAt at ht
    obtain ⟨hb, q, bx, by', hq, hh, hhq, hx, hy⟩ := ht
    have c2 : w.cell? ⟨b, 2, none⟩ = some (.slice (some ⟨q, 0, none⟩) 2 2) := cell_heap hh rfl
    have d0 : w.cell? ⟨q, 0, none⟩ = some (ptrV bx) := cell_heap hhq rfl
    have d1 : w.cell? ⟨q, 1, none⟩ = some (ptrV by') := cell_heap hhq rfl
    have HX := Lib.hid hx
    have HY := Lib.hid hy
    have HL := Lib.hid hL
    have HF := Lib.hid hF
    have Hf := Lib.hid hf
    have Hq := Lib.hid (fun (e : q = g) => hg (e ▸ hq))
    unfold ptrV at d0 d1
    unfold ptrV
    clear hb hh hhq hx hy hL hF hf hq
    go_enter Tryz.func166, Tryz.ntmps166
    go_wp2
    go_loopw [26] (fun kv wr => ∃ (k : Nat), kv = .int .i64 (k : Int) ∧ k ≤ 2 ∧ Hid (CntInv base g n c f x y w wr k)) (fun kv _ => 2 - (intOf kv).toNat)
    case atStart => exact ⟨0, rfl, by omega, Lib.hid ⟨HL.out.congr (fun i _ => by simp [stepC]), Turns.refl _ _⟩⟩
    case round =>
      obtain ⟨k, rfl, hk, HI⟩ := hrel
      have hcase : k = 0 ∨ k = 1 ∨ k = 2 := by omega
      rcases hcase with rfl | rfl | rfl
      · have e0 := HI.out.turns.cell d0 Hq.out
        have Hp : Hid (TrAt wr N bx x ∧ x.Fits n fr ∧ (∀ i, i < n → stepC f x y 0 i + x.cnt i ≤ 255)) := Lib.hid ⟨HX.out.keep (fun i hi hN => ⟨HI.out.turns.block i hi (fun e => hg (e ▸ hN)), hN⟩), HF.out.1, fun i hi => by
          have := Hf.out i hi
          simp [Tr.cnt, stepC] at this ⊢; omega⟩
        go_wp2_with fail
        refine Calls.mono (ih1.out bx (stepC f x y 0) wr Hp.out.1 HI.out.lens Hp.out.2.1 Hp.out.2.2) ?_
        rintro e w1 ⟨rfl, h1, h2⟩
        have HI1 : Hid (CntInv base g n c f x y w w1 1) := Lib.hid ⟨h1.congr (fun i _ => by simp [stepC]), HI.out.turns.trans h2⟩
        clear h1 h2
        go_wp2
        go_roundw
        case rel => exact ⟨1, by go_num, by omega, HI1⟩
        case measure => simp [intOf]
      · have e0 := HI.out.turns.cell d1 Hq.out
        have Hp : Hid (TrAt wr N by' y ∧ y.Fits n fr ∧ (∀ i, i < n → stepC f x y 1 i + y.cnt i ≤ 255)) := Lib.hid ⟨HY.out.keep (fun i hi hN => ⟨HI.out.turns.block i hi (fun e => hg (e ▸ hN)), hN⟩), HF.out.2, fun i hi => by
          have := Hf.out i hi
          simp [Tr.cnt, stepC] at this ⊢; omega⟩
        go_wp2_with fail
        refine Calls.mono (ih2.out by' (stepC f x y 1) wr Hp.out.1 HI.out.lens Hp.out.2.1 Hp.out.2.2) ?_
        rintro e w1 ⟨rfl, h1, h2⟩
        have HI1 : Hid (CntInv base g n c f x y w w1 2) := Lib.hid ⟨h1.congr (fun i _ => by simp [stepC]), HI.out.turns.trans h2⟩
        clear h1 h2
        go_wp2
        go_roundw
        case rel => exact ⟨2, by go_num, by omega, HI1⟩
        case measure => simp [intOf]
      · go_wp2
        go_end0
        exact ⟨rfl, HI.out.lens.congr (fun i _ => by simp only [stepC, Tr.cnt]; simp; omega), HI.out.turns⟩

end Go.Proofs.YtebfdoipogjpnaaGreat
