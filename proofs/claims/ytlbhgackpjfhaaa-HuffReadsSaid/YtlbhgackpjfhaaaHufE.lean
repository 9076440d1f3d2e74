/- huff's queue: put, take. -/
import Derived.Test.YtlbhgackpjfhaaaHufD
namespace Go.Proofs.Ytlbhgackpjfhaaa
open Go.RowKit

/-- Blocks as cells: pointers to them. -/
def encP (b : Nat) : List Value := [ptrV b]
theorem encP_len (b : Nat) : (encP b).length = 1 := rfl
theorem flatP : ∀ l : List Nat, l.flatMap encP = l.map ptrV
  | [] => rfl
  | b :: r => by rw [List.flatMap_cons, flatP r]; rfl

theorem RowAt.ptr {W : World} {p : Option Addr} {xs : List Nat} (h : RowAt encP 1 W p xs) {k : Nat} (hk : k < xs.length) : ∃ b off, p = some ⟨b, off, none⟩ ∧ W.cell? ⟨b, off + k, none⟩ = some (ptrV xs[k]) := by
  rcases h with ⟨-, rfl⟩ | ⟨b, off, rfl, -, h⟩
  · simp at hk
  · refine ⟨b, off, rfl, ?_⟩
    have := h k xs[k] (List.getElem?_eq_getElem hk) 0 _ rfl
    simpa using this

theorem HeapTo.blk {base B : Nat} {sv : Value} {E : List (Nat × Nat)} {w w' : World} (h : HeapTo base B sv E w w') {x : Nat} (hx : x < w.heap.size) (hB : x ≠ B) (hs : sv.ownBlock ≠ some x) : w'.heap[x]? = w.heap[x]? := by
  obtain ⟨sv', -, ht, -⟩ := h
  exact ht.block x hx (fun e => by
    rcases e with e | e
    · exact hB e
    · exact hs e)

set_option maxRecDepth 100000 in
set_option maxHeartbeats 2000000 in
theorem put_any (base B : Nat) (sv : Value) (E l : List (Nat × Nat)) (v : Value) (w : World) (h : Heap w base B sv E) (hv : Row encP 1 w v (l.map Prod.fst)) (hvb : ∀ k, v.ownBlock = some k → k ≠ B ∧ sv.ownBlock ≠ some k)
    (hl : ∀ e ∈ l, e.1 ≠ B ∧ sv.ownBlock ≠ some e.1 ∧ w.cell? ⟨e.1, 0, none⟩ = some (.int .i64 (e.2 : Int))) (hlen : E.length + l.length ≤ 65536) (hbase : base ≤ w.heap.size) :
    Calls Try.prog 48 #[.pointer (some ⟨B, 0, none⟩), v] w fun e w' => e = .returned (.tuple #[]) ∧ HeapTo base B sv (E ++ l) w w' := by
  obtain ⟨p, c, rfl, h1, h2, hrow⟩ := hv
  rw [List.length_map] at h1 hvb ⊢
  have H := Lib.hid h
  have Hrow := Lib.hid hrow
  have Hvb := Lib.hid hvb
  have Hl := Lib.hid hl
  clear h hrow hvb hl h2
  go_enter Try.func48, Try.ntmps48
  go_wp2
  go_loopw [8] (fun kv wr => ∃ (k : Nat), kv = .int .i64 (k : Int) ∧ k ≤ l.length ∧ Hid (HeapTo base B sv (E ++ l.take k) w wr)) (fun kv _ => l.length - (intOf kv).toNat)
  case atStart => exact ⟨0, rfl, Nat.zero_le _, Lib.hid ⟨sv, by simpa using H.out, Turns.refl _ _, fun _ h => .inl h⟩⟩
  case round =>
    obtain ⟨k, rfl, hk, Hto⟩ := hrel
    by_cases hlt : k < l.length
    · obtain ⟨g, off, rfl, hcell⟩ := Hrow.out.ptr (k := k) (by simpa using hlt)
      obtain ⟨sv1, hp1, ht1, hs1⟩ := Hto.out
      rw [List.getElem_map] at hcell
      obtain ⟨hb1, hb2, hb3⟩ := Hl.out l[k] (List.getElem_mem hlt)
      obtain ⟨hg1, hg2⟩ := Hvb.out g rfl
      have hx : wr.cell? ⟨g, off + k, none⟩ = some (ptrV l[k].1) := ht1.cell hcell (fun e => by
        rcases e with e | e
        · exact hg1 e
        · exact hg2 e)
      have Hkey : Hid (wr.cell? ⟨l[k].1, 0, none⟩ = some (.int .i64 (l[k].2 : Int))) := Lib.hid (ht1.cell hb3 (fun e => by
        rcases e with e | e
        · exact hb1 e
        · exact hb2 e))
      have Hap : Hid (l[k].1 ≠ B ∧ sv1.ownBlock ≠ some l[k].1) := Lib.hid ⟨hb1, fun e => by
        have := World.block_lt_of_cell? _ _ hb3
        simp only at this
        rcases hs1 _ e with h | h
        · exact hb2 h
        · omega⟩
      have Htk : Hid (E ++ l.take (k + 1) = E ++ l.take k ++ [(l[k].1, l[k].2)]) := Lib.hid (by
        rw [List.take_succ_eq_append_getElem hlt, List.append_assoc])
      have hlk : (l.take k).length = k := by rw [List.length_take]; omega
      have Hp1 := Lib.hid hp1
      have Ht1 := Lib.hid (And.intro ht1 hs1)
      obtain ⟨b, hb⟩ : ∃ b, l[k].1 = b := ⟨_, rfl⟩
      obtain ⟨c0, hc0⟩ : ∃ c, l[k].2 = c := ⟨_, rfl⟩
      rw [hb] at hx Hkey Hap Htk
      rw [hc0] at Hkey Htk
      unfold ptrV at hx
      have Hlk := Lib.hid hlk
      have k0 : (0 : Int) ≤ (k : Int) := by omega
      have k1 : (k : Int) < (l.length : Int) := by omega
      have hbw := Nat.le_trans hbase ht1.size
      clear hcell hb1 hb2 hb3 hg1 hg2 hp1 ht1 hs1 hlk hb hc0
      go_wp2_with fail
      refine Calls.mono (hpush_any base B sv1 (E ++ l.take k) b c0 wr Hp1.out Hkey.out Hap.out.1 Hap.out.2 (by rw [List.length_append, Hlk.out]; omega) hbw) ?_
      rintro e w1 ⟨rfl, hto1⟩
      have Hto1 : Hid (HeapTo base B sv (E ++ l.take (k + 1)) w w1) := Lib.hid (by
        rw [Htk.out]
        exact HeapTo.step Ht1.out.1 Ht1.out.2 hto1)
      clear hto1
      go_wp2
      go_roundw
      case rel => exact ⟨k + 1, by go_num, by omega, Hto1⟩
      case measure => simp [intOf]; omega
    · obtain rfl : k = l.length := by omega
      go_wp2
      go_end0
      refine ⟨rfl, ?_⟩
      have := Hto.out
      rw [List.take_length] at this
      exact this

theorem take_any (base B : Nat) (sv : Value) (E : List (Nat × Nat)) (w : World) (h : Heap w base B sv E) (h0 : 0 < E.length) (hlen : E.length ≤ 65536) :
    Calls Try.prog 50 #[.pointer (some ⟨B, 0, none⟩)] w fun e w' => ∃ x E', e = .returned (ptrV x.1) ∧ (x :: E').Perm E ∧ (∀ y ∈ E', x.2 ≤ y.2) ∧ HeapTo base B sv E' w w' := by
  have H := Lib.hid h
  clear h
  have hta := assert_parcel
  go_enter Try.func50, Try.ntmps50
  go_wp2_with fail
  refine Calls.mono (hpop_any base B sv E w H.out h0 hlen) ?_
  rintro e w1 ⟨x, E', rfl, h1, h2, h3⟩
  have H1 := Lib.hid (And.intro h1 (And.intro h2 h3))
  clear h1 h2 h3
  go_wp2
  go_ret
  exact ⟨x, E', rfl, H1.out⟩

end Go.Proofs.Ytlbhgackpjfhaaa
