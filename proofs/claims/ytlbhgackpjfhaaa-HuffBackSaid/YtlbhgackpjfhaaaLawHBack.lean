/- The walk of the statement HuffBack. -/
import Derived.Test.YtlbhgackpjfhaaaHufPe
import Derived.Test.YtlbhgackpjfhaaaHufPc
import Derived.Test.YtlbhgackpjfhaaaHufRb
namespace Go.Proofs.Ytlbhgackpjfhaaa
open Go.RowKit Go.Maps

theorem Wr.newH (w : World) : Wr (w.alloc (.cells #[.slice none 0 0, .int .i64 0] 51)) (w.heap.size + 1) w.heap.size (.slice none 0 0) 0 0 :=
  ⟨by omega, World.alloc_heap_new w _, World.ownsRow_nil _ _ _ _, by decide⟩

theorem int_infoB : (Try.prog.info? 3).map (fun i => (i.zero, i.size, i.bytes)) = some (some (.int .i64 0), 1, 8) := by kernel_rfl

theorem c_cellsB {w : World} {base n : Nat} {p : Option Addr} {c : Nat} {f : Nat → Nat} (h : w.ownsRow base 30 1 (.slice p n c) n (cRow f n)) : ∀ i, i < n → ∃ b, p = some ⟨b, 0, none⟩ ∧ w.cell? ⟨b, i, none⟩ = some (.int .u16 ((f i : Nat) : Int)) := fun i hi => by
  obtain ⟨b, c', e, -, -, hc⟩ := owns_ptr h (by omega)
  injection e with e1 _ _
  exact ⟨b, e1, hc i _ (by rw [cRow_at _ hi]; rfl)⟩
theorem l_cellsB {w : World} {base n : Nat} {p : Option Addr} {c : Nat} {g : Nat → Nat} (h : w.ownsRow base 5 1 (.slice p n c) n (lensRow g n)) : ∀ i, i < n → ∃ b, p = some ⟨b, 0, none⟩ ∧ w.cell? ⟨b, i, none⟩ = some (.int .u8 ((g i : Nat) : Int)) := fun i hi => by
  obtain ⟨b, c', e, -, -, hc⟩ := owns_ptr h (by omega)
  injection e with e1 _ _
  exact ⟨b, e1, hc i _ (by rw [lensRow_at _ hi]; rfl)⟩

/-- What the loop that writes holds: the symbols that were chosen, their codes one behind the other. -/
structure WB (B : Nat) (f : Nat → Nat) (N i : Nat) (wa : List Nat) (wv sv : Value) (w : World) : Prop where
  wr : Wr w (B + 1) B sv (numL (rws f N wa)) (rws f N wa).length
  want : w.ownsRow (B + 1) 3 1 wv wa.length (wa.map fun s : Nat => Value.int .i64 (s : Int))
  apart : ∀ k, wv.ownBlock = some k → sv.ownBlock ≠ some k
  mem : ∀ s ∈ wa, s < N ∧ 0 < f s ∧ f s ≤ 15
  len : wa.length ≤ i
theorem WB.start (w : World) (f : Nat → Nat) (N : Nat) : WB w.heap.size f N 0 [] (.slice none 0 0) (.slice none 0 0) (w.alloc (.cells #[.slice none 0 0, .int .i64 0] 51)) :=
  ⟨Wr.newH w, World.ownsRow_nil _ _ _ _, fun k h => (by cases h), fun s h => (by simp at h), Nat.zero_le _⟩
theorem WB.skip {B : Nat} {f : Nat → Nat} {N i : Nat} {wa : List Nat} {wv sv : Value} {w : World} (h : WB B f N i wa wv sv w) : WB B f N (i + 1) wa wv sv w :=
  ⟨h.wr, h.want, h.apart, h.mem, by have := h.len; omega⟩
theorem WB.short {B : Nat} {f : Nat → Nat} {N i : Nat} {wa : List Nat} {wv sv : Value} {w : World} (h : WB B f N i wa wv sv w) : (rws f N wa).length ≤ 15 * i := by
  have := rws_le (f := f) (N := N) (l := wa) (fun s hs => (h.mem s hs).2.2)
  have := h.len
  omega
theorem WB.put {B : Nat} {f : Nat → Nat} {N i s : Nat} {wa : List Nat} {wv sv : Value} {w w1 w2 w3 : World} {g cap : Nat} (h : WB B f N i wa wv sv w) (hs : s < N ∧ 0 < f s ∧ f s ≤ 15)
    (ho : w1.ownsRow (B + 1) 3 1 (.slice (some ⟨g, 0, none⟩) (wa.length + 1) cap) (wa.length + 1) (wa.map (fun s : Nat => Value.int .i64 (s : Int)) ++ [.int .i64 (s : Int)]))
    (hg : wv.ownBlock = some g ∨ w.heap.size ≤ g) (hb : Below w1.heap.size w1 w2)
    (hw : WrTo (B + 1) B sv (numL (rws f N wa) + cd f N s * 2 ^ (rws f N wa).length) ((rws f N wa).length + f s) w2 w3) : ∃ sv', WB B f N (i + 1) (wa ++ [s]) (.slice (some ⟨g, 0, none⟩) (wa.length + 1) cap) sv' w3 := by
  obtain ⟨sv', h1, h2, h3⟩ := hw
  have hsg : sv.ownBlock ≠ some g := fun e => by
    rcases hg with hg | hg
    · exact h.apart g hg e
    · have := (h.wr.own.lt g e).2
      omega
  have hgB : B + 1 ≤ g := (ho.lt g rfl).1
  have hg2 : g < w2.heap.size := Nat.lt_of_lt_of_le (ho.lt g rfl).2 hb.size
  refine ⟨sv', ⟨by rw [rws_num, rws_len]; exact h1, ?_, ?_, ?_, ?_⟩⟩
  · have := h2.owns ((Turns.of_below' (T := fun _ => False) hb).owns ho (fun _ _ h => h)) (fun k hk => by
      obtain rfl : g = k := Option.some.inj hk
      rintro (e | e)
      · omega
      · exact hsg e)
    simpa using this
  · intro k hk e
    obtain rfl : g = k := Option.some.inj hk
    rcases h3 _ e with e | e
    · exact hsg e
    · omega
  · intro x hx
    rcases List.mem_append.1 hx with hx | hx
    · exact h.mem x hx
    · rw [List.mem_singleton.1 hx]; exact hs
  · have := h.len
    simp; omega
theorem wantAt {w : World} {base : Nat} {p : Option Addr} {wa : List Nat} {c : Nat} (h : w.ownsRow base 3 1 (.slice p wa.length c) wa.length (wa.map fun s : Nat => Value.int .i64 (s : Int))) {k : Nat} (hk : k < wa.length) : ∃ g, p = some ⟨g, 0, none⟩ ∧ w.cell? ⟨g, k, none⟩ = some (.int .i64 ((wa[k] : Nat) : Int)) := by
  obtain ⟨b, c', e, -, -, hc⟩ := owns_ptr h (by omega)
  injection e with e1 _ _
  exact ⟨b, e1, hc k _ (by simp [hk])⟩
theorem WB.later {B : Nat} {f : Nat → Nat} {N i : Nat} {wa : List Nat} {wv sv : Value} {w w' : World} (h : WB B f N i wa wv sv w) (hb : Below w.heap.size w w') : WB B f N i wa wv sv w' :=
  ⟨h.wr.below hb, (Turns.of_below' (T := fun _ => False) hb).owns h.want (fun _ _ h => h), h.apart, h.mem, h.len⟩

set_option maxRecDepth 20000 in
set_option maxHeartbeats 4000000 in
theorem hback_any (v0 : Value) (fs : List Int) (limit : Int) (v2 : Value) (sy : List Int) (w : World) (hv0 : Row encZ 1 w v0 fs) (_hlim : -9223372036854775808 ≤ limit ∧ limit ≤ 9223372036854775807) (hv2 : Row encZ 1 w v2 sy) :
    Makes Try.prog 5 #[v0, .int .i64 limit, v2] w (.bool true) := by
  unfold Makes
  have Hv0 := Lib.hid hv0
  have Hv2 := Lib.hid hv2
  obtain ⟨p, c, rfl, -, -, -⟩ := hv0
  obtain ⟨p2, c2, rfl, -, -, -⟩ := hv2
  go_enter Try.func5, Try.ntmps5
  by_cases hl : 100 < fs.length
  · have d0 : decide ((fs.length : Int) > 100) = true := by simp; omega
    go_wp2
    go_ret
    exact ⟨rfl, Below.refl _ _⟩
  have d0 : decide ((fs.length : Int) > 100) = false := by simp; omega
  by_cases hl2 : 200 < sy.length
  · have d1 : decide ((sy.length : Int) > 200) = true := by simp; omega
    go_wp2
    go_ret
    exact ⟨rfl, Below.refl _ _⟩
  have d1 : decide ((sy.length : Int) > 200) = false := by simp; omega
  go_wp2_with fail
  refine Calls.mono (lengths_all fs _ limit w Hv0.out) ?_
  rintro e w1 ⟨vl, g, rfl, hol, hok, hb1⟩
  obtain ⟨pl, cl, rfl⟩ := owns_slice hol
  by_cases he : lErr fs limit = 0
  · have hlen : lLen fs limit = fs.length := by unfold lLen; rw [if_pos he]
    rw [hlen] at hol ⊢
    have hok := hok he
    have hlim : limit.toNat ≤ 15 := by
      unfold lErr at he
      split at he
      · cases he
      · rename_i h
        have h' : mayB fs limit = true := by simpa using h
        unfold mayB at h'
        rw [Bool.and_eq_true, decide_eq_true_iff] at h'
        omega
    have hchk := lens_chk hok hlim (by omega)
    have hg15 : ∀ i, i < fs.length → g i ≤ 15 := fun i hi => by have := (hok.le i hi).1; omega
    have hlr : Rw8 w1 (.slice pl fs.length cl) (gl g fs.length) := Rw8.own (n := fs.length) (by rw [← gl_row]; exact hol) (gl_len _ _).symm
    have Hl1 := Lib.hid hol
    have Hlr := Lib.hid hlr
    have Hb1 := Lib.hid hb1
    have Hg15 := Lib.hid hg15
    have Hchk := Lib.hid hchk
    clear hok hol hb1 hlen hchk hlr hlim hg15
    rw [he]
    clear he
    go_wp2_with fail
    refine Calls.mono (codes_ok (gl g fs.length) _ w1 Hlr.out.row Hchk.out) ?_
    rintro e w2 ⟨vc, rfl, hoc, hb2⟩
    rw [gl_len] at hoc
    obtain ⟨pc, cc, rfl⟩ := owns_slice hoc
    have Hoc := Lib.hid hoc
    have Hl2 := Lib.hid ((Turns.of_below' (T := fun _ => False) hb2).owns Hl1.out (fun _ _ h => h))
    have Hlr2 := Lib.hid (Hlr.out.below hb2)
    have Hb2 := Lib.hid (Below.thn Hb1.out hb2)
    clear hoc hb2 Hl1 Hlr
    go_wp2_with fail
    refine Calls.mono (new_ok (gl g fs.length) _ w2 Hlr2.out.row Hchk.out (apt_chk Hchk.out)) ?_
    rintro e w3 ⟨T, rfl, htab, hb3⟩
    have Hoc3 := Lib.hid ((Turns.of_below' (T := fun _ => False) hb3).owns Hoc.out (fun _ _ h => h))
    have Hl3 := Lib.hid ((Turns.of_below' (T := fun _ => False) hb3).owns Hl2.out (fun _ _ h => h))
    have Hb3 := Lib.hid (Below.thn Hb2.out hb3)
    have Htab := Lib.hid htab
    clear htab hb3 Hoc Hl2 Hlr2
    go_wp2_with fail
    go_loopw [13] (fun iv wr => ∃ i : Nat, iv = .int .i64 (i : Int) ∧ i ≤ fs.length ∧ Hid (Below w3.heap.size w3 wr)) (fun iv _ => fs.length - (intOf iv).toNat)
    case atStart => exact ⟨0, rfl, Nat.zero_le _, Lib.hid (Below.refl _ _)⟩
    case round =>
      obtain ⟨i, rfl, hi, HB⟩ := hrel
      by_cases hin : i < fs.length
      · go_wp2_with fail
        generalize wr = W1 at *
        go_loopw [14] (fun kv wr => ∃ k : Nat, kv = .int .i64 (k : Int) ∧ k ≤ fs.length ∧ Hid (Below w3.heap.size w3 wr)) (fun kv _ => fs.length - (intOf kv).toNat)
        case atStart => exact ⟨0, rfl, Nat.zero_le _, HB⟩
        case round =>
          clear HB
          obtain ⟨k, rfl, hk, HB⟩ := hrel
          by_cases hkn : k < fs.length
          · obtain ⟨bl, rfl, hl1⟩ := l_cellsB Hl3.out i hin
            obtain ⟨bl', e1, hl2⟩ := l_cellsB Hl3.out k hkn
            cases e1
            obtain ⟨bc, rfl, hc1⟩ := c_cellsB Hoc3.out i hin
            obtain ⟨bc', e1, hc2⟩ := c_cellsB Hoc3.out k hkn
            cases e1
            have c0 := cell_later HB.out hl1
            have c1 := cell_later HB.out hl2
            have k0 := cell_later HB.out hc1
            have k1 := cell_later HB.out hc2
            have Hap := Lib.hid (fun h0 hle hne => cd_apart (ls := gl g fs.length) (i := i) (k := k) Hchk.out (by rw [gl_len]; exact hin) (by rw [gl_len]; exact hkn) h0 hle hne)
            have Hcl := Lib.hid (cd_lt (lq (gl g fs.length)) fs.length i)
            have Hck := Lib.hid (cd_lt (lq (gl g fs.length)) fs.length k)
            rw [gl_len] at Hap
            simp only [gl_at g hin, gl_at g hkn] at k0 k1 Hap Hcl Hck
            have hx15 := Hg15.out i hin
            have hy15 := Hg15.out k hkn
            generalize g i = x at *
            generalize g k = y at *
            generalize cd (lq (gl g fs.length)) fs.length i = X at *
            generalize cd (lq (gl g fs.length)) fs.length k = Y at *
            have i0 : (0 : Int) ≤ (i : Int) := by omega
            have i1 : (i : Int) < (fs.length : Int) := by omega
            have i2 : (0 : Int) ≤ (k : Int) := by omega
            have i3 : (k : Int) < (fs.length : Int) := by omega
            clear hl1 hl2 hc1 hc2
            by_cases hik : i = k
            · have e0 : ((i : Int) != (k : Int)) = false := by simp; omega
              go_upto_region 16 with (fail)
              go_quiet (fail)
              rename_i nq
              have hd : Below wr.heap.size wr (wr.drewN nq) := Below.drewN' (Below.refl _ _) nq
              have HB2 := Lib.hid (Below.thn HB.out hd)
              generalize wr.drewN nq = W2 at *
              clear hd c0 c1 k0 k1
              go_wp2
              go_roundw
              case rel => exact ⟨k + 1, by go_num, by omega, HB2⟩
              case measure => simp [intOf]; omega
            have e0 : ((i : Int) != (k : Int)) = true := by simp; omega
            by_cases hx0 : x = 0
            · have e1 : decide ((x : Int) > 0) = false := by simp; omega
              have e1' : decide (0 < x) = false := by simp; omega
              go_upto_region 16 with (fail)
              go_quiet (fail)
              rename_i nq
              have hd : Below wr.heap.size wr (wr.drewN nq) := Below.drewN' (Below.refl _ _) nq
              have HB2 := Lib.hid (Below.thn HB.out hd)
              generalize wr.drewN nq = W2 at *
              clear hd c0 c1 k0 k1
              go_wp2
              go_roundw
              case rel => exact ⟨k + 1, by go_num, by omega, HB2⟩
              case measure => simp [intOf]; omega
            have e1 : decide ((x : Int) > 0) = true := by simp; omega
            have e1' : decide (0 < x) = true := by simp; omega
            by_cases hxy : x ≤ y
            · have hx : 0 < x := by omega
              have hy : 0 < y := by omega
              rw [if_pos hx] at k0
              rw [if_pos hy] at k1
              have e2 : decide (x ≤ y) = true := by simpa using hxy
              have hne : ¬ Y % 2 ^ x = X := Hap.out hx hxy hik
              obtain ⟨q, hq, hq0, hq1⟩ : ∃ q : Nat, 2 ^ x = q ∧ 0 < q ∧ q < 65536 := ⟨2 ^ x, rfl, Nat.two_pow_pos x, Nat.lt_of_le_of_lt (Nat.pow_le_pow_right (by decide) hx15) (by decide)⟩
              have hqz : (2 : Int) ^ x = (q : Int) := by rw [← hq]; simp
              have hqw : IntKind.u16.wrap ((2 : Int) ^ x) = (q : Int) := by rw [hqz, IntKind.wrap_u16]; omega
              have hqn : ((q : Int) == 0) = false := by simp; omega
              obtain ⟨r, hr⟩ : ∃ r : Nat, Y % q = r := ⟨_, rfl⟩
              have hrz : (Y : Int) % (q : Int) = (r : Int) := by rw [← hr]; simp
              have hre : ((r : Int) == (X : Int)) = false := by rw [hq, hr] at hne; simpa using fun h : (r : Int) = X => hne (by omega)
              have hrw : IntKind.u16.wrap (r : Int) = (r : Int) := by
                have := Nat.mod_lt Y hq0
                rw [IntKind.wrap_u16]; omega
              clear hq hqz hr hne
              go_upto_region 16 with (fail)
              go_quiet (fail)
              rename_i nq
              have hd : Below wr.heap.size wr (wr.drewN nq) := Below.drewN' (Below.refl _ _) nq
              have HB2 := Lib.hid (Below.thn HB.out hd)
              generalize wr.drewN nq = W2 at *
              clear hd c0 c1 k0 k1
              go_wp2
              go_roundw
              case rel => exact ⟨k + 1, by go_num, by omega, HB2⟩
              case measure => simp [intOf]; omega
            · have e2 : decide (x ≤ y) = false := by simp; omega
              go_upto_region 16 with (fail)
              go_quiet (fail)
              rename_i nq
              have hd : Below wr.heap.size wr (wr.drewN nq) := Below.drewN' (Below.refl _ _) nq
              have HB2 := Lib.hid (Below.thn HB.out hd)
              generalize wr.drewN nq = W2 at *
              clear hd c0 c1 k0 k1
              go_wp2
              go_roundw
              case rel => exact ⟨k + 1, by go_num, by omega, HB2⟩
              case measure => simp [intOf]; omega
          · obtain rfl : k = fs.length := by omega
            go_wp2
            go_roundw
            case rel => exact ⟨i + 1, by go_num, by omega, HB⟩
            case measure => simp [intOf]; omega
      · obtain rfl : i = fs.length := by omega
        obtain ⟨M, n, L, F, t1, t2, t3, t4, -⟩ := Htab.out.ex
        have htb : Tb w3 T M n L F := ⟨t1, t2⟩
        have hL15 : L ≤ 15 := by
          rcases t4.le with h | ⟨i, i1, i2, i3⟩
          · omega
          · rw [← i3]; exact (chk_zero Hchk.out).2.1 i i1
        have hTw : T < w3.heap.size := lt_heap t1
        have hMw : M < w3.heap.size := t2.lt
        have Htb := Lib.hid htb
        have HF := Lib.hid t3
        have HM := Lib.hid t4
        clear t1 t2 t3 t4 htb Htab
        generalize wr = W1 at *
        have HS0 := Lib.hid (WB.start W1 (lq (gl g fs.length)) fs.length)
        have HB1 : Hid (Below w3.heap.size w3 (W1.alloc (.cells #[.slice none 0 0, .int .i64 0] 51))) := Lib.hid (Below.al HB.out _)
        go_wp2
        go_loopw [16, 17] (fun wv iv wr => ∃ (i : Nat) (wa : List Nat) (sv : Value), iv = .int .i64 (i : Int) ∧ i ≤ sy.length ∧ Hid (WB W1.heap.size (lq (gl g fs.length)) fs.length i wa wv sv wr) ∧ Hid (Below w3.heap.size w3 wr) ∧ Hid (Below W1.heap.size W1 wr)) (fun _ iv _ => sy.length - (intOf iv).toNat)
        case atStart => exact ⟨0, [], _, rfl, Nat.zero_le _, HS0, HB1, Lib.hid (Below.al1 _ _)⟩
        case round =>
          obtain ⟨i, wa, sv, rfl, hi, HW, HB3, HB13⟩ := hrel
          obtain ⟨pw, cw, rfl⟩ := owns_slice HW.out.want
          by_cases hin : i < sy.length
          · have hrow := Hv2.out.below (Below.trans Hb3.out (HB3.out.mono Hb3.out.size))
            obtain ⟨_, _, e, -, -, hrow⟩ := hrow
            cases e
            obtain ⟨bs, os, rfl, hcs⟩ := hrow.int hin
            generalize sy[i] = s at *
            have HWs := Lib.hid HW.out.skip
            have i0 : (0 : Int) ≤ (i : Int) := by omega
            have i1 : (i : Int) < (sy.length : Int) := by omega
            clear hrow
            by_cases hs0 : s < 0
            · have e0 : decide (s < 0) = true := by simpa using hs0
              go_wp2
              go_roundw
              case rel => exact ⟨i + 1, wa, sv, by go_num, by omega, HWs, HB3, HB13⟩
              case measure => simp [intOf]; omega
            have e0 : decide (s < 0) = false := by simpa using hs0
            obtain ⟨s, rfl⟩ := Int.eq_ofNat_of_zero_le (Int.not_lt.1 hs0)
            by_cases hsN : fs.length ≤ s
            · have e1 : decide ((s : Int) ≥ (fs.length : Int)) = true := by simp; omega
              go_wp2
              go_roundw
              case rel => exact ⟨i + 1, wa, sv, by go_num, by omega, HWs, HB3, HB13⟩
              case measure => simp [intOf]; omega
            have e1 : decide ((s : Int) ≥ (fs.length : Int)) = false := by simp; omega
            have hsN : s < fs.length := by omega
            obtain ⟨bl, rfl, hl1⟩ := l_cellsB Hl3.out s hsN
            obtain ⟨bc, rfl, hc1⟩ := c_cellsB Hoc3.out s hsN
            have c0 := cell_later HB3.out hl1
            have s0 : (0 : Int) ≤ (s : Int) := by omega
            have s1 : (s : Int) < (fs.length : Int) := by omega
            by_cases hg0 : g s = 0
            · have e2 : (((g s : Nat) : Int) == 0) = true := by simp; omega
              go_wp2
              go_roundw
              case rel => exact ⟨i + 1, wa, sv, by go_num, by omega, HWs, HB3, HB13⟩
              case measure => simp [intOf]; omega
            have e2 : (((g s : Nat) : Int) == 0) = false := by simp; omega
            have hcl := cd_lt (lq (gl g fs.length)) fs.length s
            rw [gl_at g hsN] at hcl hc1
            rw [if_pos (by omega)] at hc1
            have hg15 := Hg15.out s hsN
            have Hmem := Lib.hid (show s < fs.length ∧ 0 < lq (gl g fs.length) s ∧ lq (gl g fs.length) s ≤ 15 from ⟨hsN, by rw [gl_at g hsN]; omega, by rw [gl_at g hsN]; omega⟩)
            have Hx := Lib.hid (show lq (gl g fs.length) s = g s from gl_at g hsN)
            obtain ⟨X, hX⟩ : ∃ X, cd (lq (gl g fs.length)) fs.length s = X := ⟨_, rfl⟩
            obtain ⟨x, hx⟩ : ∃ x, g s = x := ⟨_, rfl⟩
            rw [hX, hx] at hcl
            rw [hX] at hc1
            rw [hx] at c0 hl1 hg15 hg0 e2 Hx
            have Hc := Lib.hid (And.intro hl1 hc1)
            have HX := Lib.hid hX
            have hX16 : (X : Int) < 65536 := by
              have := Nat.pow_le_pow_right (n := 2) (by decide) hg15
              omega
            have hXw : IntKind.u32.wrap (X : Int) = (X : Int) := IntWalk.u32_in _ (by omega)
            have hXw2 : IntKind.u16.wrap (X : Int) = (X : Int) := by rw [IntKind.wrap_u16]; omega
            have Hcl := Lib.hid hcl
            have hs : W1.heap.size + 1 ≤ wr.heap.size := by have := HW.out.wr.size; omega
            have hlen := HW.out.len
            clear hX hx hcl hl1 hc1
            go_wp2_with (at_builtin; refine wpList_append_one wr rfl (.tmp 138) (.tmp 140) 47 rfl (W1.heap.size + 1) 3 _ 8 int_infoB Try.underlying47 rfl (.slice pw wa.length cw) wa.length _ rfl HW.out.want (.int .i64 (s : Int)) _ rfl rfl ?n3 ?n4 hs ?_)
            case n3 => simp only [maxLen]; omega
            case n4 => omega
            intro g1 cap1 w5 ho1 ht1 hg1
            have hw3 : w3.heap.size ≤ W1.heap.size := HB.out.size
            have HB5 := Lib.hid (HB3.out.trans (ht1.below HB3.out.size (fun k hk => by have := (HW.out.want.lt k hk).1; omega)))
            have HB15 := Lib.hid (HB13.out.trans (ht1.below HB13.out.size (fun k hk => by have := (HW.out.want.lt k hk).1; omega)))
            have Hwr5 := Lib.hid (HW.out.wr.turns ht1 (fun e => by have := (HW.out.want.lt _ e).1; omega) (fun k hk e => HW.out.apart k e hk))
            have hs5 : W1.heap.size + 1 ≤ w5.heap.size := Nat.le_trans hs ht1.size
            have Ho1 := Lib.hid ho1
            have Hg1 := Lib.hid hg1
            have c0 := cell_later HB5.out Hc.out.1
            have c1 := cell_later HB5.out Hc.out.2
            have hB2 : Hid (∀ k, (k = W1.heap.size ∨ sv.ownBlock = some k) → W1.heap.size ≤ k) := Lib.hid (fun k hk => by
              rcases hk with rfl | hk
              · exact Nat.le_refl _
              · have := (HW.out.wr.own.lt k hk).1
                omega)
            have hshort := HW.out.short
            clear ho1 ht1 hg1 HB3 HB13 hw3
            go_upto_region 26 with (fail)
            have hqq := After.ne w5
            have C0 := After.rule c0
            have C1 := After.rule c1
            refine wp_region_head 10 (by kernel_rfl) (by kernel_rfl) (by kernel_rfl) ?_
            repeat (refine Lq_step (fun K hK => ?_); go_simp; (refine hK _ ?_; clear hK K))
            refine Lq_nil ?_
            intro w6 hb6
            simp only [List.drop_succ_cons, List.drop_zero]
            have hs6 := hb6.size
            clear C0 C1 hqq
            go_wp2_with fail
            refine Calls.mono (put_ok (W1.heap.size + 1) W1.heap.size _ _ X x sv w6 (Hwr5.out.below hb6) Hcl.out (by omega) (by omega) (by omega)) ?_
            rintro e w7 ⟨rfl, hto⟩
            obtain ⟨sv', hW7⟩ := WB.put HW.out Hmem.out Ho1.out Hg1.out hb6 (by rw [HX.out, Hx.out]; exact hto)
            obtain ⟨_, -, h2, -⟩ := hto
            have HB6 := Lib.hid (HB5.out.trans (hb6.mono HB5.out.size))
            have HB16 := Lib.hid (HB15.out.trans (hb6.mono HB15.out.size))
            have HB7 := Lib.hid (HB6.out.trans (h2.below HB6.out.size (fun k hk => Nat.le_trans HB.out.size (hB2.out k hk))))
            have HB17 := Lib.hid (HB16.out.trans (h2.below HB16.out.size hB2.out))
            have HW7 := Lib.hid hW7
            clear c0 c1 hb6 h2 hW7 hs6
            go_wp2
            go_roundw
            case rel => exact ⟨i + 1, wa ++ [s], sv', by go_num, by omega, HW7, HB7, HB17⟩
            case measure => simp [intOf]; omega
          · obtain rfl : i = sy.length := by omega
            have hshort := HW.out.short
            have hwl := HW.out.len
            have hmem := HW.out.mem
            have Hmem := Lib.hid hmem
            obtain ⟨bs, hbs⟩ : ∃ bs, rws (lq (gl g fs.length)) fs.length wa = bs := ⟨_, rfl⟩
            have hwr := HW.out.wr
            rw [hbs] at hshort hwr
            have Hwr := Lib.hid hwr
            obtain ⟨l, hl'⟩ : ∃ l, byts (numL bs) ((bs.length + 7) / 8) = l := ⟨_, rfl⟩
            have hnl : numB l = numL bs := by
              rw [← hl']
              refine numB_byts _ _ (Nat.lt_of_lt_of_le (numL_lt bs) ?_)
              rw [pow256]; exact Nat.pow_le_pow_right (by decide) (by omega)
            have hll : l.length = (bs.length + 7) / 8 := by rw [← hl']; exact byts_len _ _
            have hlb : ∀ b ∈ l, b < 256 := by rw [← hl']; exact byts_lt _ _
            have Hnl := Lib.hid hnl
            have Hll := Lib.hid hll
            have Hlb := Lib.hid hlb
            have Hbs := Lib.hid hbs
            have Hl' := Lib.hid hl'
            have Hwant := Lib.hid HW.out.want
            clear hnl hll hlb hbs hl' hwr hmem HW
            generalize wr = W5 at *
            go_wp2_with fail
            refine Calls.mono (wbytes_any (W1.heap.size + 1) W1.heap.size _ _ sv W5 Hwr.out (by omega)) ?_
            rintro e w6 ⟨vb, rfl, hob⟩
            rw [Hl'.out] at hob
            have Hr6 := Lib.hid (Rw8.own hob.1 rfl)
            have Hb6 := Lib.hid hob.2
            clear hob
            go_wp2_with fail
            refine Calls.mono (new_any _ l w6 Hr6.out Hlb.out (by have := Hll.out; omega)) ?_
            rintro e w7 ⟨Br, sr, rfl, hrd, hb7, hBr, -⟩
            have Hrd := Lib.hid (show Rd w7 Br sr l (rws (lq (gl g fs.length)) fs.length (wa.take 0)).length from hrd)
            have Hb7 := Lib.hid hb7
            have hTMB : T ≠ Br ∧ M ≠ Br := by
              have h1 := HB3.out.size
              have h2 := Hb6.out.size
              omega
            have HTMB := Lib.hid hTMB
            have Hb57 := Lib.hid (Below.thn Hb6.out hb7)
            have Htb7 := Lib.hid (Htb.out.turns (N := fun _ => False) (Turns.of_below' (Below.thn HB3.out Hb57.out)) (fun h => h) (fun h => h))
            clear hrd hb7 hTMB
            go_wp2
            go_loopw [20] (fun kv wr => ∃ k : Nat, kv = .int .i64 (k : Int) ∧ k ≤ wa.length ∧ Hid (Tb wr T M n L F) ∧ Hid (Rd wr Br sr l (rws (lq (gl g fs.length)) fs.length (wa.take k)).length) ∧ Hid (Below W5.heap.size W5 wr)) (fun kv _ => wa.length - (intOf kv).toNat)
            case atStart => exact ⟨0, rfl, Nat.zero_le _, Htb7, Hrd, Hb57⟩
            case round =>
              obtain ⟨k, rfl, hk, HTb, HRd, HBw⟩ := hrel
              by_cases hkn : k < wa.length
              · go_wp2_with fail
                refine Calls.mono (read_any T M n L Br _ F sr l _ HTb.out HRd.out hL15 HTMB.out.1 HTMB.out.2) ?_
                rintro e wx ⟨x, er, s, rfl, hans, hrd, htb, htu⟩
                obtain ⟨r1, r2, r3⟩ := rws_at (lq (gl g fs.length)) fs.length hkn
                have hm := Hmem.out wa[k] (List.getElem_mem hkn)
                have hw := wantAt Hwant.out hkn
                rw [Hbs.out] at r1 r2
                have hdoc := read_row (l := l) (bs := bs) (i := wa[k]) Hchk.out HF.out HM.out Hnl.out (by have := Hll.out; omega) (by rw [gl_len]; exact hm.1) hm.2.1 (by rw [gl_len]; exact r1) r2
                obtain ⟨h1, h2, h3⟩ := hans.one hdoc
                subst h2
                rw [h3] at hrd
                rw [← r3] at hrd
                rw [← h1] at hw
                obtain ⟨gw, rfl, hw⟩ := hw
                have HBx := Lib.hid (HBw.out.trans (htu.below HBw.out.size (fun i hi => by have := Hb6.out.size; omega)))
                have c0 := cell_later HBx.out hw
                have HRd2 := Lib.hid hrd
                have HTb2 := Lib.hid htb
                have hne : ((x : Int) != (x : Int)) = false := by simp
                have i0 : (0 : Int) ≤ (k : Int) := by omega
                have i1 : (k : Int) < (wa.length : Int) := by omega
                clear hdoc hans hrd htb htu r1 r2 r3 h1 h3 hm hw HTb HRd HBw
                go_wp2
                go_roundw
                case rel => exact ⟨k + 1, by go_num, by omega, HTb2, HRd2, HBx⟩
                case measure => simp [intOf]; omega
              · obtain rfl : k = wa.length := by omega
                have hrd := HRd.out
                rw [List.take_length, Hbs.out] at hrd
                have HRd2 := Lib.hid hrd
                have Hwr2 := Lib.hid (Hwr.out.below HBw.out)
                have he : (((bs.length : Nat) : Int) == ((bs.length : Nat) : Int)) = true := by simp
                clear hrd HRd HTb
                go_wp2_with fail
                refine Calls.mono (at_any Br _ sr l wr HRd2.out) ?_
                rintro e wy ⟨rfl, rfl⟩
                go_wp2_with fail
                refine Calls.mono (wlen_any _ _ _ _ sv wy Hwr2.out) ?_
                rintro e wz ⟨rfl, rfl⟩
                go_wp2_with fail
                refine Calls.mono (codes_law wz) ?_
                rintro e w9 ⟨rfl, hb9⟩
                have Hb9 := Lib.hid (Hb3.out.trans ((HB3.out.trans ((Below.thn HBw.out hb9).mono HB3.out.size)).mono Hb3.out.size))
                clear hb9
                go_wp2
                go_ret
                exact ⟨rfl, Hb9.out⟩
  · have e0 : (lErr fs limit != 0) = true := by simpa using he
    generalize lErr fs limit = r at *
    generalize lLen fs limit = q at *
    have Hb1 := Lib.hid hb1
    clear hok hol hb1 he
    go_wp2_with fail
    refine Calls.mono (codes_law w1) ?_
    rintro e w9 ⟨rfl, hb9⟩
    have Hb9 := Lib.hid (Below.thn Hb1.out hb9)
    clear hb9
    go_wp2
    go_ret
    exact ⟨rfl, Hb9.out⟩

end Go.Proofs.Ytlbhgackpjfhaaa
