/- The walk of the statement LzLongest. (Written by a program: it has four copies of one tail.) -/
import Derived.Test.YtngiiacibbgiiaaLzM
namespace Go.Proofs.Ytngiiacibbgiiaa
open Go.RowKit

set_option maxRecDepth 20000 in
set_option maxHeartbeats 40000000 in
theorem zlongest_any (v : Value) (l : List Nat) (w : World) (hv : Rw8 w v l) (hby : ∀ b ∈ l, b < 256) :
    Makes Try.prog 9 #[v] w (.bool true) := by
  unfold Makes
  have Hv := Lib.hid hv.row
  obtain ⟨p, c, rfl, -, -, -⟩ := hv.row
  clear hv
  go_enter Try.func9, Try.ntmps9
  by_cases hl : 1000 < l.length
  · have d0 : decide ((l.length : Int) > 1000) = true := by simp; omega
    go_wp2
    go_ret
    exact ⟨rfl, Below.refl _ _⟩
  have d0 : decide ((l.length : Int) > 1000) = false := by simp; omega
  go_wp2_with fail
  refine Calls.mono (match_any l _ w Hv.out hby (by omega)) ?_
  rintro e w3 ⟨v2, ts, rfl, ho2, ht2, hb2⟩
  have Hx := Lib.hid ho2.row
  have Ht2 := Lib.hid ht2
  have Hb3 := Lib.hid hb2
  have hle := ht2.le.2
  obtain ⟨pp, cc, rfl⟩ := owns_slice ho2
  obtain ⟨q, hq⟩ : ∃ q, ts.length = q := ⟨_, rfl⟩
  obtain ⟨N, hN⟩ : ∃ N, l.length = N := ⟨_, rfl⟩
  have HN := Lib.hid hN
  rw [hN] at Ht2
  have hqN : q ≤ N := by omega
  have hNb : N ≤ 1000 := by omega
  have Hq := Lib.hid hq
  rw [hN, hq]
  clear ho2 hb2 ht2 hq hle d0 hl hN
  have hmx := max_lz
  go_wp2
  generalize w3 = W3 at *
  go_loopw [4, 5] (fun nv iv wr => ∃ i a : Nat, nv = .int .i64 (a : Int) ∧ iv = .int .i64 (i : Int) ∧ i ≤ q ∧ a ≤ N ∧ Hid (ToksTo (fb l) N a (ts.take i)) ∧ Hid (Below W3.heap.size W3 wr)) (fun _ iv _ => q - (intOf iv).toNat)
  case atStart => exact ⟨0, 0, rfl, rfl, Nat.zero_le _, Nat.zero_le _, Lib.hid .nil, Lib.hid (Below.refl _ _)⟩
  case round =>
    obtain ⟨i, a, rfl, rfl, hi, ha, HT, HB⟩ := hrel
    by_cases hin : i < q
    · have d1 : decide (i < q) = true := by simpa using hin
      obtain ⟨_, _, e1, hcx⟩ := Hx.out.tok
      obtain ⟨g, off, e, x0, x1, x2⟩ := hcx i (by rw [Hq.out]; exact hin)
      cases e1
      subst e
      obtain ⟨a', k1, k2, k3, k4⟩ := Ht2.out.at (i := i) (by rw [Hq.out]; exact hin)
      obtain rfl := HT.out.uniq k1
      generalize ts[i]'(by rw [Hq.out]; exact hin) = t at *
      obtain ⟨tb, tn, td⟩ := t
      have hlen := k3.len
      obtain ⟨hdist, hnext, hlong⟩ := k3.longest k2
      have hfit := k3.fits k2
      have hsz : max tn 1 = ((Tk.size ⟨tb, tn, td⟩ : Nat) : Int) := by unfold Tk.size; simp only at hlen ⊢; omega
      have htd : 0 ≤ td ∧ td ≤ 32768 := by
        rcases k3 with ⟨h, -⟩ | ⟨n, d, h, h1, h2, h3, -⟩
        · injection h with _ _ h; omega
        · injection h with _ _ h; omega
      obtain ⟨dd, rfl⟩ : ∃ m : Nat, td = m := ⟨td.toNat, by omega⟩
      generalize Tk.size ⟨tb, tn, (dd : Int)⟩ = z at *
      have HT2 := Lib.hid k4
      obtain ⟨m, hm⟩ : ∃ m, mo N a = m := ⟨_, rfl⟩
      rw [hm] at hlong
      have Hm := Lib.hid (show m = min 258 (N - a) by rw [← hm]; rfl)
      have Hlong := Lib.hid hlong
      simp only at x0 x1 x2 hlen hdist hnext Hlong
      have x0 := cell_later HB.out x0
      have x1 := cell_later HB.out x1
      have x2 := cell_later HB.out x2
      have i0 : (0 : Int) ≤ (i : Int) := by omega
      have i1 : (i : Int) < (q : Int) := by omega
      obtain ⟨az, haz⟩ : ∃ az, a + z = az := ⟨_, rfl⟩
      have eaz : (a : Int) + (z : Int) = (az : Int) := by omega
      rw [haz] at HT2 hfit hnext
      obtain ⟨W4, hW4⟩ : ∃ W4, wr.alloc (.cells #[.int .u8 (tb : Int), .int .i64 tn, .int .i64 (dd : Int)] 26) = W4 := ⟨_, rfl⟩
      have hbW : Below wr.heap.size wr W4 := by rw [← hW4]; exact Below.al1 wr _
      have hT : W4.heap[wr.heap.size]? = some (.cells #[.int .u8 (tb : Int), .int .i64 tn, .int .i64 (dd : Int)] 26) := by
        rw [← hW4]
        exact (heap_pushed [.cells #[.int .u8 (tb : Int), .int .i64 tn, .int .i64 (dd : Int)] 26] wr 0 _).2 rfl
      have e1 : W4.cell? ⟨wr.heap.size, 1, none⟩ = some (.int .i64 tn) := cell_heap hT rfl
      have e2 : W4.cell? ⟨wr.heap.size, 2, none⟩ = some (.int .i64 (dd : Int)) := cell_heap hT rfl
      have HB4 := Lib.hid (Below.thn HB.out hbW)
      have c9 : decide (az > N) = false := by simp; omega
      have Hnext := Lib.hid hnext
      have ha1 : a < N := k2
      clear hcx k1 k2 k3 k4 haz hbW hT hlong hnext hm
      go_upto_region 9 with (fail)
      generalize wr.heap.size = bx at *
      clear hW4 x0 x1 x2
      by_cases h0 : tn = 0
      · subst h0
        go_wp2_with fail
        go_quiet (fail)
        have hdr : Below W4.heap.size W4 (W4.drewN nq) := Below.drewN' (Below.refl _ _) nq
        have HB5 := Lib.hid (Below.thn HB4.out hdr)
        have e1 := cell_later hdr e1
        have e2 := cell_later hdr e2
        generalize W4.drewN nq = W5 at *
        clear hdr
        go_wp2_with fail
        go_loopw [8] (fun dv wr => ∃ d : Nat, dv = .int .i64 (d : Int) ∧ 1 ≤ d ∧ d ≤ a + 1 ∧ d ≤ 301 ∧ Hid (Below W5.heap.size W5 wr)) (fun dv _ => 400 - (intOf dv).toNat)
        case atStart => exact ⟨1, rfl, by omega, by omega, by omega, Lib.hid (Below.refl _ _)⟩
        case round =>
          obtain ⟨d, rfl, hd1, hda, hd3, HB6⟩ := hrel
          have e1 := cell_later HB6.out e1
          have e2 := cell_later HB6.out e2
          by_cases hda' : d ≤ a
          · by_cases hd3' : d ≤ 300
            · have g1 : decide (d ≤ a) = true := by simpa using hda'
              have g2 : decide ((d : Int) ≤ 300) = true := by simp; omega
              go_wp2_with fail
              generalize wr = W6 at *
              go_loopw [9] (fun kv wr => ∃ k : Nat, kv = .int .i64 (k : Int) ∧ k ≤ m ∧ Hid (∀ j, j < k → fb l (a + j) = fb l (a + j - d)) ∧ Hid (Below W6.heap.size W6 wr)) (fun kv _ => m - (intOf kv).toNat)
              case atStart => exact ⟨0, rfl, Nat.zero_le _, Lib.hid fun j h => by omega, Lib.hid (Below.refl _ _)⟩
              case round =>
                obtain ⟨k, rfl, hk, HK, HB7⟩ := hrel
                have e1 := cell_later HB7.out e1
                obtain ⟨s, hs⟩ : ∃ s, a + k = s := ⟨_, rfl⟩
                have es : (a : Int) + (k : Int) = (s : Int) := by omega
                by_cases hkm : k < m
                · have hk4 : k < 258 ∧ s < N := by have := Hm.out; omega
                  have f0 : decide ((k : Int) < 258) = true := by simp; omega
                  have f1 : decide (s < N) = true := by simp; omega
                  obtain ⟨u, hu⟩ : ∃ u, s - d = u := ⟨_, rfl⟩
                  have hvw := Hv.out.below (Below.thn (Below.thn (Below.thn Hb3.out HB5.out) HB6.out) HB7.out)
                  obtain ⟨pw, cw, ew, -, -, hrow⟩ := hvw
                  cases ew
                  obtain ⟨gg, oo, e', hx⟩ := hrow.byteF (k := s) (by rw [HN.out]; omega)
                  cases e'
                  obtain ⟨gg', oo', e', hy⟩ := hrow.byteF (k := u) (by rw [HN.out]; omega)
                  cases e'
                  have et : (s : Int) - (d : Int) = (u : Int) := by omega
                  have s0 : (0 : Int) ≤ (s : Int) := by omega
                  have s1 : (s : Int) < (N : Int) := by omega
                  have s2 : s < N := by omega
                  have t0 : (0 : Int) ≤ (u : Int) := by omega
                  have t1 : (u : Int) < (N : Int) := by omega
                  have Hs := Lib.hid (And.intro hs hu)
                  obtain ⟨x, hxx⟩ : ∃ x, fb l s = x := ⟨_, rfl⟩
                  obtain ⟨y, hyy⟩ : ∃ y, fb l u = y := ⟨_, rfl⟩
                  rw [hxx] at hx
                  rw [hyy] at hy
                  have Hxy := Lib.hid (And.intro hxx hyy)
                  clear hs hu hxx hyy hrow
                  by_cases hxy : x = y
                  · subst hxy
                    have e0 : ((x : Int) == (x : Int)) = true := by simp
                    go_wp2_with fail
                    go_quiet (fail)
                    have hdr : Below wr.heap.size wr (wr.drewN nq) := Below.drewN' (Below.refl _ _) nq
                    have HB8 := Lib.hid (Below.thn HB7.out hdr)
                    have e1 := cell_later hdr e1
                    generalize wr.drewN nq = W8 at *
                    have HB9 := Lib.hid (Below.thn HB6.out HB8.out)
                    clear hdr
                    clear hx hy
                    go_wp2
                    go_roundw
                    case rel => exact ⟨k + 1, by go_num, by omega, Lib.hid fun j hj => by
                      rcases Nat.lt_or_ge j k with h | h
                      · exact HK.out j h
                      · obtain rfl : j = k := by omega
                        rw [Hs.out.1, Hs.out.2, Hxy.out.1, Hxy.out.2], HB8⟩
                    case measure => simp [intOf]; omega
                  · have e0 : ((x : Int) == (y : Int)) = false := by simp; omega
                    go_wp2_with fail
                    go_quiet (fail)
                    have hdr : Below wr.heap.size wr (wr.drewN nq) := Below.drewN' (Below.refl _ _) nq
                    have HB8 := Lib.hid (Below.thn HB7.out hdr)
                    have e1 := cell_later hdr e1
                    generalize wr.drewN nq = W8 at *
                    have HB9 := Lib.hid (Below.thn HB6.out HB8.out)
                    clear hdr
                    clear hx hy
                    have hrun : IsRun (fb l) a d m k := ⟨hk, HK.out, fun _ => by rw [Hs.out.1, Hs.out.2, Hxy.out.1, Hxy.out.2]; exact hxy⟩
                    have Hrun := Lib.hid hrun
                    clear hrun
                    by_cases hk3 : 3 ≤ k
                    · have hnk := Hlong.out d k hd1 (by omega) (by omega) (.inl (by simp)) Hrun.out hk3
                      omega
                    · have b0 : decide ((k : Int) ≥ 3) = false := by simp; omega
                      go_wp2
                      go_roundw
                      case rel => exact ⟨d + 1, by go_num, by omega, by omega, by omega, HB9⟩
                      case measure => simp [intOf]; omega
                · obtain rfl : k = m := by omega
                  clear hs hk hkm
                  by_cases h258 : k < 258
                  · have hsl : ¬ s < N := by have := Hm.out; omega
                    have f0 : decide ((k : Int) < 258) = true := by simp; omega
                    have f1 : decide (s < N) = false := by simp; omega
                    go_wp2_with fail
                    go_quiet (fail)
                    have hdr : Below wr.heap.size wr (wr.drewN nq) := Below.drewN' (Below.refl _ _) nq
                    have HB8 := Lib.hid (Below.thn HB7.out hdr)
                    have e1 := cell_later hdr e1
                    generalize wr.drewN nq = W8 at *
                    have HB9 := Lib.hid (Below.thn HB6.out HB8.out)
                    clear hdr
                    have hrun : IsRun (fb l) a d k k := ⟨Nat.le_refl _, HK.out, fun h => by omega⟩
                    have Hrun := Lib.hid hrun
                    clear hrun
                    by_cases hk3 : 3 ≤ k
                    · have hnk := Hlong.out d k hd1 (by omega) (by omega) (.inl (by simp)) Hrun.out hk3
                      have h9 := Hm.out
                      omega
                    · have b0 : decide ((k : Int) ≥ 3) = false := by simp; omega
                      go_wp2
                      go_roundw
                      case rel => exact ⟨d + 1, by go_num, by omega, by omega, by omega, HB9⟩
                      case measure => simp [intOf]; omega
                  · have f0 : decide ((k : Int) < 258) = false := by simp; omega
                    go_wp2_with fail
                    go_quiet (fail)
                    have hdr : Below wr.heap.size wr (wr.drewN nq) := Below.drewN' (Below.refl _ _) nq
                    have HB8 := Lib.hid (Below.thn HB7.out hdr)
                    have e1 := cell_later hdr e1
                    generalize wr.drewN nq = W8 at *
                    have HB9 := Lib.hid (Below.thn HB6.out HB8.out)
                    clear hdr
                    have hrun : IsRun (fb l) a d k k := ⟨Nat.le_refl _, HK.out, fun h => by omega⟩
                    have Hrun := Lib.hid hrun
                    clear hrun
                    by_cases hk3 : 3 ≤ k
                    · have hnk := Hlong.out d k hd1 (by omega) (by omega) (.inl (by simp)) Hrun.out hk3
                      have h9 := Hm.out
                      omega
                    · have b0 : decide ((k : Int) ≥ 3) = false := by simp; omega
                      go_wp2
                      go_roundw
                      case rel => exact ⟨d + 1, by go_num, by omega, by omega, by omega, HB9⟩
                      case measure => simp [intOf]; omega
            · have g1 : decide (d ≤ a) = true := by simpa using hda'
              have g2 : decide ((d : Int) ≤ 300) = false := by simp; omega
              go_wp2_with fail
              go_roundw
              case rel => exact ⟨i + 1, az, rfl, by go_num, by omega, hfit, HT2, Lib.hid (Below.thn HB5.out HB6.out)⟩
              case measure => simp [intOf]; omega
          · have g1 : decide (d ≤ a) = false := by simpa using hda'
            go_wp2_with fail
            go_roundw
            case rel => exact ⟨i + 1, az, rfl, by go_num, by omega, hfit, HT2, Lib.hid (Below.thn HB5.out HB6.out)⟩
            case measure => simp [intOf]; omega
      · have h3 : 3 ≤ tn ∧ tn ≤ 258 := by omega
        have hd := hdist (by omega)
        have c0 : decide (tn > 0) = true := by simp; omega
        have c3 : decide (dd > a) = false := by simp; omega
        have s1 : (tn == 0) = false := by simp; omega
        clear hdist hlen
        by_cases h258 : tn < 258
        · have c4 : decide (tn < 258) = true := by simp; omega
          by_cases hazN : az < N
          · have c5 : decide (az < N) = true := by simpa using hazN
            have hne := Hnext.out (by omega) h258 hazN
            rw [show ((dd : Int)).toNat = dd from rfl] at hne
            have hvw := Hv.out.below (Below.thn Hb3.out HB4.out)
            obtain ⟨pw, cw, ew, -, -, hrow⟩ := hvw
            cases ew
            obtain ⟨u, hu⟩ : ∃ u, az - dd = u := ⟨_, rfl⟩
            rw [hu] at hne
            obtain ⟨gg, oo, rfl, hx⟩ := hrow.byteF (k := az) (by rw [HN.out]; omega)
            obtain ⟨gg', oo', e', hy⟩ := hrow.byteF (k := u) (by rw [HN.out]; omega)
            cases e'
            have et : (az : Int) - (dd : Int) = (u : Int) := by omega
            have s0 : (0 : Int) ≤ (az : Int) := by omega
            have s2 : (az : Int) < (N : Int) := by omega
            have t0 : (0 : Int) ≤ (u : Int) := by omega
            have t1 : (u : Int) < (N : Int) := by omega
            generalize fb l az = x at *
            generalize fb l u = y at *
            have e0 : ((x : Int) == (y : Int)) = false := by simp; omega
            clear hu hrow hne
            go_wp2_with fail
            go_quiet (fail)
            have hdr : Below W4.heap.size W4 (W4.drewN nq) := Below.drewN' (Below.refl _ _) nq
            have HB5 := Lib.hid (Below.thn HB4.out hdr)
            have e1 := cell_later hdr e1
            have e2 := cell_later hdr e2
            generalize W4.drewN nq = W5 at *
            clear hdr
            clear hx hy et s0 s2 t0 t1 e0 c5
            go_wp2_with fail
            go_loopw [8] (fun dv wr => ∃ d : Nat, dv = .int .i64 (d : Int) ∧ 1 ≤ d ∧ d ≤ a + 1 ∧ d ≤ 301 ∧ Hid (Below W5.heap.size W5 wr)) (fun dv _ => 400 - (intOf dv).toNat)
            case atStart => exact ⟨1, rfl, by omega, by omega, by omega, Lib.hid (Below.refl _ _)⟩
            case round =>
              obtain ⟨d, rfl, hd1, hda, hd3, HB6⟩ := hrel
              have e1 := cell_later HB6.out e1
              have e2 := cell_later HB6.out e2
              by_cases hda' : d ≤ a
              · by_cases hd3' : d ≤ 300
                · by_cases hdt : (d : Int) < (dd : Int)
                  · have g1 : decide (d ≤ a) = true := by simpa using hda'
                    have g2 : decide ((d : Int) ≤ 300) = true := by simp; omega
                    have g3 : decide ((d : Int) < (dd : Int)) = true := by simp; omega
                    go_wp2_with fail
                    generalize wr = W6 at *
                    go_loopw [9] (fun kv wr => ∃ k : Nat, kv = .int .i64 (k : Int) ∧ k ≤ m ∧ Hid (∀ j, j < k → fb l (a + j) = fb l (a + j - d)) ∧ Hid (Below W6.heap.size W6 wr)) (fun kv _ => m - (intOf kv).toNat)
                    case atStart => exact ⟨0, rfl, Nat.zero_le _, Lib.hid fun j h => by omega, Lib.hid (Below.refl _ _)⟩
                    case round =>
                      obtain ⟨k, rfl, hk, HK, HB7⟩ := hrel
                      have e1 := cell_later HB7.out e1
                      obtain ⟨s, hs⟩ : ∃ s, a + k = s := ⟨_, rfl⟩
                      have es : (a : Int) + (k : Int) = (s : Int) := by omega
                      by_cases hkm : k < m
                      · have hk4 : k < 258 ∧ s < N := by have := Hm.out; omega
                        have f0 : decide ((k : Int) < 258) = true := by simp; omega
                        have f1 : decide (s < N) = true := by simp; omega
                        obtain ⟨u, hu⟩ : ∃ u, s - d = u := ⟨_, rfl⟩
                        have hvw := Hv.out.below (Below.thn (Below.thn (Below.thn Hb3.out HB5.out) HB6.out) HB7.out)
                        obtain ⟨pw, cw, ew, -, -, hrow⟩ := hvw
                        cases ew
                        obtain ⟨gg, oo, e', hx⟩ := hrow.byteF (k := s) (by rw [HN.out]; omega)
                        cases e'
                        obtain ⟨gg', oo', e', hy⟩ := hrow.byteF (k := u) (by rw [HN.out]; omega)
                        cases e'
                        have et : (s : Int) - (d : Int) = (u : Int) := by omega
                        have s0 : (0 : Int) ≤ (s : Int) := by omega
                        have s1 : (s : Int) < (N : Int) := by omega
                        have s2 : s < N := by omega
                        have t0 : (0 : Int) ≤ (u : Int) := by omega
                        have t1 : (u : Int) < (N : Int) := by omega
                        have Hs := Lib.hid (And.intro hs hu)
                        obtain ⟨x, hxx⟩ : ∃ x, fb l s = x := ⟨_, rfl⟩
                        obtain ⟨y, hyy⟩ : ∃ y, fb l u = y := ⟨_, rfl⟩
                        rw [hxx] at hx
                        rw [hyy] at hy
                        have Hxy := Lib.hid (And.intro hxx hyy)
                        clear hs hu hxx hyy hrow
                        by_cases hxy : x = y
                        · subst hxy
                          have e0 : ((x : Int) == (x : Int)) = true := by simp
                          go_wp2_with fail
                          go_quiet (fail)
                          have hdr : Below wr.heap.size wr (wr.drewN nq) := Below.drewN' (Below.refl _ _) nq
                          have HB8 := Lib.hid (Below.thn HB7.out hdr)
                          have e1 := cell_later hdr e1
                          generalize wr.drewN nq = W8 at *
                          have HB9 := Lib.hid (Below.thn HB6.out HB8.out)
                          clear hdr
                          clear hx hy
                          go_wp2
                          go_roundw
                          case rel => exact ⟨k + 1, by go_num, by omega, Lib.hid fun j hj => by
                            rcases Nat.lt_or_ge j k with h | h
                            · exact HK.out j h
                            · obtain rfl : j = k := by omega
                              rw [Hs.out.1, Hs.out.2, Hxy.out.1, Hxy.out.2], HB8⟩
                          case measure => simp [intOf]; omega
                        · have e0 : ((x : Int) == (y : Int)) = false := by simp; omega
                          go_wp2_with fail
                          go_quiet (fail)
                          have hdr : Below wr.heap.size wr (wr.drewN nq) := Below.drewN' (Below.refl _ _) nq
                          have HB8 := Lib.hid (Below.thn HB7.out hdr)
                          have e1 := cell_later hdr e1
                          generalize wr.drewN nq = W8 at *
                          have HB9 := Lib.hid (Below.thn HB6.out HB8.out)
                          clear hdr
                          clear hx hy
                          have hrun : IsRun (fb l) a d m k := ⟨hk, HK.out, fun _ => by rw [Hs.out.1, Hs.out.2, Hxy.out.1, Hxy.out.2]; exact hxy⟩
                          have Hrun := Lib.hid hrun
                          clear hrun
                          by_cases hk3 : 3 ≤ k
                          · have hnk := Hlong.out d k hd1 (by omega) (by omega) (.inr hdt) Hrun.out hk3
                            have b0 : decide ((k : Int) ≥ 3) = true := by simp; omega
                            have b1 : decide ((k : Int) ≥ tn) = false := by simp; omega
                            go_wp2
                            go_roundw
                            case rel => exact ⟨d + 1, by go_num, by omega, by omega, by omega, HB9⟩
                            case measure => simp [intOf]; omega
                          · have b0 : decide ((k : Int) ≥ 3) = false := by simp; omega
                            go_wp2
                            go_roundw
                            case rel => exact ⟨d + 1, by go_num, by omega, by omega, by omega, HB9⟩
                            case measure => simp [intOf]; omega
                      · obtain rfl : k = m := by omega
                        clear hs hk hkm
                        by_cases h258 : k < 258
                        · have hsl : ¬ s < N := by have := Hm.out; omega
                          have f0 : decide ((k : Int) < 258) = true := by simp; omega
                          have f1 : decide (s < N) = false := by simp; omega
                          go_wp2_with fail
                          go_quiet (fail)
                          have hdr : Below wr.heap.size wr (wr.drewN nq) := Below.drewN' (Below.refl _ _) nq
                          have HB8 := Lib.hid (Below.thn HB7.out hdr)
                          have e1 := cell_later hdr e1
                          generalize wr.drewN nq = W8 at *
                          have HB9 := Lib.hid (Below.thn HB6.out HB8.out)
                          clear hdr
                          have hrun : IsRun (fb l) a d k k := ⟨Nat.le_refl _, HK.out, fun h => by omega⟩
                          have Hrun := Lib.hid hrun
                          clear hrun
                          by_cases hk3 : 3 ≤ k
                          · have hnk := Hlong.out d k hd1 (by omega) (by omega) (.inr hdt) Hrun.out hk3
                            have h9 := Hm.out
                            omega
                          · have b0 : decide ((k : Int) ≥ 3) = false := by simp; omega
                            go_wp2
                            go_roundw
                            case rel => exact ⟨d + 1, by go_num, by omega, by omega, by omega, HB9⟩
                            case measure => simp [intOf]; omega
                        · have f0 : decide ((k : Int) < 258) = false := by simp; omega
                          go_wp2_with fail
                          go_quiet (fail)
                          have hdr : Below wr.heap.size wr (wr.drewN nq) := Below.drewN' (Below.refl _ _) nq
                          have HB8 := Lib.hid (Below.thn HB7.out hdr)
                          have e1 := cell_later hdr e1
                          generalize wr.drewN nq = W8 at *
                          have HB9 := Lib.hid (Below.thn HB6.out HB8.out)
                          clear hdr
                          have hrun : IsRun (fb l) a d k k := ⟨Nat.le_refl _, HK.out, fun h => by omega⟩
                          have Hrun := Lib.hid hrun
                          clear hrun
                          by_cases hk3 : 3 ≤ k
                          · have hnk := Hlong.out d k hd1 (by omega) (by omega) (.inr hdt) Hrun.out hk3
                            have h9 := Hm.out
                            omega
                          · have b0 : decide ((k : Int) ≥ 3) = false := by simp; omega
                            go_wp2
                            go_roundw
                            case rel => exact ⟨d + 1, by go_num, by omega, by omega, by omega, HB9⟩
                            case measure => simp [intOf]; omega
                  · have g1 : decide (d ≤ a) = true := by simpa using hda'
                    have g2 : decide ((d : Int) ≤ 300) = true := by simp; omega
                    have g3 : decide ((d : Int) < (dd : Int)) = false := by simp; omega
                    go_wp2_with fail
                    go_roundw
                    case rel => exact ⟨i + 1, az, rfl, by go_num, by omega, hfit, HT2, Lib.hid (Below.thn HB5.out HB6.out)⟩
                    case measure => simp [intOf]; omega
                · have g1 : decide (d ≤ a) = true := by simpa using hda'
                  have g2 : decide ((d : Int) ≤ 300) = false := by simp; omega
                  go_wp2_with fail
                  go_roundw
                  case rel => exact ⟨i + 1, az, rfl, by go_num, by omega, hfit, HT2, Lib.hid (Below.thn HB5.out HB6.out)⟩
                  case measure => simp [intOf]; omega
              · have g1 : decide (d ≤ a) = false := by simpa using hda'
                go_wp2_with fail
                go_roundw
                case rel => exact ⟨i + 1, az, rfl, by go_num, by omega, hfit, HT2, Lib.hid (Below.thn HB5.out HB6.out)⟩
                case measure => simp [intOf]; omega
          · have c5 : decide (az < N) = false := by simpa using hazN
            go_wp2_with fail
            go_quiet (fail)
            have hdr : Below W4.heap.size W4 (W4.drewN nq) := Below.drewN' (Below.refl _ _) nq
            have HB5 := Lib.hid (Below.thn HB4.out hdr)
            have e1 := cell_later hdr e1
            have e2 := cell_later hdr e2
            generalize W4.drewN nq = W5 at *
            clear hdr
            go_wp2_with fail
            go_loopw [8] (fun dv wr => ∃ d : Nat, dv = .int .i64 (d : Int) ∧ 1 ≤ d ∧ d ≤ a + 1 ∧ d ≤ 301 ∧ Hid (Below W5.heap.size W5 wr)) (fun dv _ => 400 - (intOf dv).toNat)
            case atStart => exact ⟨1, rfl, by omega, by omega, by omega, Lib.hid (Below.refl _ _)⟩
            case round =>
              obtain ⟨d, rfl, hd1, hda, hd3, HB6⟩ := hrel
              have e1 := cell_later HB6.out e1
              have e2 := cell_later HB6.out e2
              by_cases hda' : d ≤ a
              · by_cases hd3' : d ≤ 300
                · by_cases hdt : (d : Int) < (dd : Int)
                  · have g1 : decide (d ≤ a) = true := by simpa using hda'
                    have g2 : decide ((d : Int) ≤ 300) = true := by simp; omega
                    have g3 : decide ((d : Int) < (dd : Int)) = true := by simp; omega
                    go_wp2_with fail
                    generalize wr = W6 at *
                    go_loopw [9] (fun kv wr => ∃ k : Nat, kv = .int .i64 (k : Int) ∧ k ≤ m ∧ Hid (∀ j, j < k → fb l (a + j) = fb l (a + j - d)) ∧ Hid (Below W6.heap.size W6 wr)) (fun kv _ => m - (intOf kv).toNat)
                    case atStart => exact ⟨0, rfl, Nat.zero_le _, Lib.hid fun j h => by omega, Lib.hid (Below.refl _ _)⟩
                    case round =>
                      obtain ⟨k, rfl, hk, HK, HB7⟩ := hrel
                      have e1 := cell_later HB7.out e1
                      obtain ⟨s, hs⟩ : ∃ s, a + k = s := ⟨_, rfl⟩
                      have es : (a : Int) + (k : Int) = (s : Int) := by omega
                      by_cases hkm : k < m
                      · have hk4 : k < 258 ∧ s < N := by have := Hm.out; omega
                        have f0 : decide ((k : Int) < 258) = true := by simp; omega
                        have f1 : decide (s < N) = true := by simp; omega
                        obtain ⟨u, hu⟩ : ∃ u, s - d = u := ⟨_, rfl⟩
                        have hvw := Hv.out.below (Below.thn (Below.thn (Below.thn Hb3.out HB5.out) HB6.out) HB7.out)
                        obtain ⟨pw, cw, ew, -, -, hrow⟩ := hvw
                        cases ew
                        obtain ⟨gg, oo, e', hx⟩ := hrow.byteF (k := s) (by rw [HN.out]; omega)
                        cases e'
                        obtain ⟨gg', oo', e', hy⟩ := hrow.byteF (k := u) (by rw [HN.out]; omega)
                        cases e'
                        have et : (s : Int) - (d : Int) = (u : Int) := by omega
                        have s0 : (0 : Int) ≤ (s : Int) := by omega
                        have s1 : (s : Int) < (N : Int) := by omega
                        have s2 : s < N := by omega
                        have t0 : (0 : Int) ≤ (u : Int) := by omega
                        have t1 : (u : Int) < (N : Int) := by omega
                        have Hs := Lib.hid (And.intro hs hu)
                        obtain ⟨x, hxx⟩ : ∃ x, fb l s = x := ⟨_, rfl⟩
                        obtain ⟨y, hyy⟩ : ∃ y, fb l u = y := ⟨_, rfl⟩
                        rw [hxx] at hx
                        rw [hyy] at hy
                        have Hxy := Lib.hid (And.intro hxx hyy)
                        clear hs hu hxx hyy hrow
                        by_cases hxy : x = y
                        · subst hxy
                          have e0 : ((x : Int) == (x : Int)) = true := by simp
                          go_wp2_with fail
                          go_quiet (fail)
                          have hdr : Below wr.heap.size wr (wr.drewN nq) := Below.drewN' (Below.refl _ _) nq
                          have HB8 := Lib.hid (Below.thn HB7.out hdr)
                          have e1 := cell_later hdr e1
                          generalize wr.drewN nq = W8 at *
                          have HB9 := Lib.hid (Below.thn HB6.out HB8.out)
                          clear hdr
                          clear hx hy
                          go_wp2
                          go_roundw
                          case rel => exact ⟨k + 1, by go_num, by omega, Lib.hid fun j hj => by
                            rcases Nat.lt_or_ge j k with h | h
                            · exact HK.out j h
                            · obtain rfl : j = k := by omega
                              rw [Hs.out.1, Hs.out.2, Hxy.out.1, Hxy.out.2], HB8⟩
                          case measure => simp [intOf]; omega
                        · have e0 : ((x : Int) == (y : Int)) = false := by simp; omega
                          go_wp2_with fail
                          go_quiet (fail)
                          have hdr : Below wr.heap.size wr (wr.drewN nq) := Below.drewN' (Below.refl _ _) nq
                          have HB8 := Lib.hid (Below.thn HB7.out hdr)
                          have e1 := cell_later hdr e1
                          generalize wr.drewN nq = W8 at *
                          have HB9 := Lib.hid (Below.thn HB6.out HB8.out)
                          clear hdr
                          clear hx hy
                          have hrun : IsRun (fb l) a d m k := ⟨hk, HK.out, fun _ => by rw [Hs.out.1, Hs.out.2, Hxy.out.1, Hxy.out.2]; exact hxy⟩
                          have Hrun := Lib.hid hrun
                          clear hrun
                          by_cases hk3 : 3 ≤ k
                          · have hnk := Hlong.out d k hd1 (by omega) (by omega) (.inr hdt) Hrun.out hk3
                            have b0 : decide ((k : Int) ≥ 3) = true := by simp; omega
                            have b1 : decide ((k : Int) ≥ tn) = false := by simp; omega
                            go_wp2
                            go_roundw
                            case rel => exact ⟨d + 1, by go_num, by omega, by omega, by omega, HB9⟩
                            case measure => simp [intOf]; omega
                          · have b0 : decide ((k : Int) ≥ 3) = false := by simp; omega
                            go_wp2
                            go_roundw
                            case rel => exact ⟨d + 1, by go_num, by omega, by omega, by omega, HB9⟩
                            case measure => simp [intOf]; omega
                      · obtain rfl : k = m := by omega
                        clear hs hk hkm
                        by_cases h258 : k < 258
                        · have hsl : ¬ s < N := by have := Hm.out; omega
                          have f0 : decide ((k : Int) < 258) = true := by simp; omega
                          have f1 : decide (s < N) = false := by simp; omega
                          go_wp2_with fail
                          go_quiet (fail)
                          have hdr : Below wr.heap.size wr (wr.drewN nq) := Below.drewN' (Below.refl _ _) nq
                          have HB8 := Lib.hid (Below.thn HB7.out hdr)
                          have e1 := cell_later hdr e1
                          generalize wr.drewN nq = W8 at *
                          have HB9 := Lib.hid (Below.thn HB6.out HB8.out)
                          clear hdr
                          have hrun : IsRun (fb l) a d k k := ⟨Nat.le_refl _, HK.out, fun h => by omega⟩
                          have Hrun := Lib.hid hrun
                          clear hrun
                          by_cases hk3 : 3 ≤ k
                          · have hnk := Hlong.out d k hd1 (by omega) (by omega) (.inr hdt) Hrun.out hk3
                            have h9 := Hm.out
                            omega
                          · have b0 : decide ((k : Int) ≥ 3) = false := by simp; omega
                            go_wp2
                            go_roundw
                            case rel => exact ⟨d + 1, by go_num, by omega, by omega, by omega, HB9⟩
                            case measure => simp [intOf]; omega
                        · have f0 : decide ((k : Int) < 258) = false := by simp; omega
                          go_wp2_with fail
                          go_quiet (fail)
                          have hdr : Below wr.heap.size wr (wr.drewN nq) := Below.drewN' (Below.refl _ _) nq
                          have HB8 := Lib.hid (Below.thn HB7.out hdr)
                          have e1 := cell_later hdr e1
                          generalize wr.drewN nq = W8 at *
                          have HB9 := Lib.hid (Below.thn HB6.out HB8.out)
                          clear hdr
                          have hrun : IsRun (fb l) a d k k := ⟨Nat.le_refl _, HK.out, fun h => by omega⟩
                          have Hrun := Lib.hid hrun
                          clear hrun
                          by_cases hk3 : 3 ≤ k
                          · have hnk := Hlong.out d k hd1 (by omega) (by omega) (.inr hdt) Hrun.out hk3
                            have h9 := Hm.out
                            omega
                          · have b0 : decide ((k : Int) ≥ 3) = false := by simp; omega
                            go_wp2
                            go_roundw
                            case rel => exact ⟨d + 1, by go_num, by omega, by omega, by omega, HB9⟩
                            case measure => simp [intOf]; omega
                  · have g1 : decide (d ≤ a) = true := by simpa using hda'
                    have g2 : decide ((d : Int) ≤ 300) = true := by simp; omega
                    have g3 : decide ((d : Int) < (dd : Int)) = false := by simp; omega
                    go_wp2_with fail
                    go_roundw
                    case rel => exact ⟨i + 1, az, rfl, by go_num, by omega, hfit, HT2, Lib.hid (Below.thn HB5.out HB6.out)⟩
                    case measure => simp [intOf]; omega
                · have g1 : decide (d ≤ a) = true := by simpa using hda'
                  have g2 : decide ((d : Int) ≤ 300) = false := by simp; omega
                  go_wp2_with fail
                  go_roundw
                  case rel => exact ⟨i + 1, az, rfl, by go_num, by omega, hfit, HT2, Lib.hid (Below.thn HB5.out HB6.out)⟩
                  case measure => simp [intOf]; omega
              · have g1 : decide (d ≤ a) = false := by simpa using hda'
                go_wp2_with fail
                go_roundw
                case rel => exact ⟨i + 1, az, rfl, by go_num, by omega, hfit, HT2, Lib.hid (Below.thn HB5.out HB6.out)⟩
                case measure => simp [intOf]; omega
        · have c4 : decide (tn < 258) = false := by simp; omega
          go_wp2_with fail
          go_quiet (fail)
          have hdr : Below W4.heap.size W4 (W4.drewN nq) := Below.drewN' (Below.refl _ _) nq
          have HB5 := Lib.hid (Below.thn HB4.out hdr)
          have e1 := cell_later hdr e1
          have e2 := cell_later hdr e2
          generalize W4.drewN nq = W5 at *
          clear hdr
          go_wp2_with fail
          go_loopw [8] (fun dv wr => ∃ d : Nat, dv = .int .i64 (d : Int) ∧ 1 ≤ d ∧ d ≤ a + 1 ∧ d ≤ 301 ∧ Hid (Below W5.heap.size W5 wr)) (fun dv _ => 400 - (intOf dv).toNat)
          case atStart => exact ⟨1, rfl, by omega, by omega, by omega, Lib.hid (Below.refl _ _)⟩
          case round =>
            obtain ⟨d, rfl, hd1, hda, hd3, HB6⟩ := hrel
            have e1 := cell_later HB6.out e1
            have e2 := cell_later HB6.out e2
            by_cases hda' : d ≤ a
            · by_cases hd3' : d ≤ 300
              · by_cases hdt : (d : Int) < (dd : Int)
                · have g1 : decide (d ≤ a) = true := by simpa using hda'
                  have g2 : decide ((d : Int) ≤ 300) = true := by simp; omega
                  have g3 : decide ((d : Int) < (dd : Int)) = true := by simp; omega
                  go_wp2_with fail
                  generalize wr = W6 at *
                  go_loopw [9] (fun kv wr => ∃ k : Nat, kv = .int .i64 (k : Int) ∧ k ≤ m ∧ Hid (∀ j, j < k → fb l (a + j) = fb l (a + j - d)) ∧ Hid (Below W6.heap.size W6 wr)) (fun kv _ => m - (intOf kv).toNat)
                  case atStart => exact ⟨0, rfl, Nat.zero_le _, Lib.hid fun j h => by omega, Lib.hid (Below.refl _ _)⟩
                  case round =>
                    obtain ⟨k, rfl, hk, HK, HB7⟩ := hrel
                    have e1 := cell_later HB7.out e1
                    obtain ⟨s, hs⟩ : ∃ s, a + k = s := ⟨_, rfl⟩
                    have es : (a : Int) + (k : Int) = (s : Int) := by omega
                    by_cases hkm : k < m
                    · have hk4 : k < 258 ∧ s < N := by have := Hm.out; omega
                      have f0 : decide ((k : Int) < 258) = true := by simp; omega
                      have f1 : decide (s < N) = true := by simp; omega
                      obtain ⟨u, hu⟩ : ∃ u, s - d = u := ⟨_, rfl⟩
                      have hvw := Hv.out.below (Below.thn (Below.thn (Below.thn Hb3.out HB5.out) HB6.out) HB7.out)
                      obtain ⟨pw, cw, ew, -, -, hrow⟩ := hvw
                      cases ew
                      obtain ⟨gg, oo, e', hx⟩ := hrow.byteF (k := s) (by rw [HN.out]; omega)
                      cases e'
                      obtain ⟨gg', oo', e', hy⟩ := hrow.byteF (k := u) (by rw [HN.out]; omega)
                      cases e'
                      have et : (s : Int) - (d : Int) = (u : Int) := by omega
                      have s0 : (0 : Int) ≤ (s : Int) := by omega
                      have s1 : (s : Int) < (N : Int) := by omega
                      have s2 : s < N := by omega
                      have t0 : (0 : Int) ≤ (u : Int) := by omega
                      have t1 : (u : Int) < (N : Int) := by omega
                      have Hs := Lib.hid (And.intro hs hu)
                      obtain ⟨x, hxx⟩ : ∃ x, fb l s = x := ⟨_, rfl⟩
                      obtain ⟨y, hyy⟩ : ∃ y, fb l u = y := ⟨_, rfl⟩
                      rw [hxx] at hx
                      rw [hyy] at hy
                      have Hxy := Lib.hid (And.intro hxx hyy)
                      clear hs hu hxx hyy hrow
                      by_cases hxy : x = y
                      · subst hxy
                        have e0 : ((x : Int) == (x : Int)) = true := by simp
                        go_wp2_with fail
                        go_quiet (fail)
                        have hdr : Below wr.heap.size wr (wr.drewN nq) := Below.drewN' (Below.refl _ _) nq
                        have HB8 := Lib.hid (Below.thn HB7.out hdr)
                        have e1 := cell_later hdr e1
                        generalize wr.drewN nq = W8 at *
                        have HB9 := Lib.hid (Below.thn HB6.out HB8.out)
                        clear hdr
                        clear hx hy
                        go_wp2
                        go_roundw
                        case rel => exact ⟨k + 1, by go_num, by omega, Lib.hid fun j hj => by
                          rcases Nat.lt_or_ge j k with h | h
                          · exact HK.out j h
                          · obtain rfl : j = k := by omega
                            rw [Hs.out.1, Hs.out.2, Hxy.out.1, Hxy.out.2], HB8⟩
                        case measure => simp [intOf]; omega
                      · have e0 : ((x : Int) == (y : Int)) = false := by simp; omega
                        go_wp2_with fail
                        go_quiet (fail)
                        have hdr : Below wr.heap.size wr (wr.drewN nq) := Below.drewN' (Below.refl _ _) nq
                        have HB8 := Lib.hid (Below.thn HB7.out hdr)
                        have e1 := cell_later hdr e1
                        generalize wr.drewN nq = W8 at *
                        have HB9 := Lib.hid (Below.thn HB6.out HB8.out)
                        clear hdr
                        clear hx hy
                        have hrun : IsRun (fb l) a d m k := ⟨hk, HK.out, fun _ => by rw [Hs.out.1, Hs.out.2, Hxy.out.1, Hxy.out.2]; exact hxy⟩
                        have Hrun := Lib.hid hrun
                        clear hrun
                        by_cases hk3 : 3 ≤ k
                        · have hnk := Hlong.out d k hd1 (by omega) (by omega) (.inr hdt) Hrun.out hk3
                          have b0 : decide ((k : Int) ≥ 3) = true := by simp; omega
                          have b1 : decide ((k : Int) ≥ tn) = false := by simp; omega
                          go_wp2
                          go_roundw
                          case rel => exact ⟨d + 1, by go_num, by omega, by omega, by omega, HB9⟩
                          case measure => simp [intOf]; omega
                        · have b0 : decide ((k : Int) ≥ 3) = false := by simp; omega
                          go_wp2
                          go_roundw
                          case rel => exact ⟨d + 1, by go_num, by omega, by omega, by omega, HB9⟩
                          case measure => simp [intOf]; omega
                    · obtain rfl : k = m := by omega
                      clear hs hk hkm
                      by_cases h258 : k < 258
                      · have hsl : ¬ s < N := by have := Hm.out; omega
                        have f0 : decide ((k : Int) < 258) = true := by simp; omega
                        have f1 : decide (s < N) = false := by simp; omega
                        go_wp2_with fail
                        go_quiet (fail)
                        have hdr : Below wr.heap.size wr (wr.drewN nq) := Below.drewN' (Below.refl _ _) nq
                        have HB8 := Lib.hid (Below.thn HB7.out hdr)
                        have e1 := cell_later hdr e1
                        generalize wr.drewN nq = W8 at *
                        have HB9 := Lib.hid (Below.thn HB6.out HB8.out)
                        clear hdr
                        have hrun : IsRun (fb l) a d k k := ⟨Nat.le_refl _, HK.out, fun h => by omega⟩
                        have Hrun := Lib.hid hrun
                        clear hrun
                        by_cases hk3 : 3 ≤ k
                        · have hnk := Hlong.out d k hd1 (by omega) (by omega) (.inr hdt) Hrun.out hk3
                          have h9 := Hm.out
                          omega
                        · have b0 : decide ((k : Int) ≥ 3) = false := by simp; omega
                          go_wp2
                          go_roundw
                          case rel => exact ⟨d + 1, by go_num, by omega, by omega, by omega, HB9⟩
                          case measure => simp [intOf]; omega
                      · have f0 : decide ((k : Int) < 258) = false := by simp; omega
                        go_wp2_with fail
                        go_quiet (fail)
                        have hdr : Below wr.heap.size wr (wr.drewN nq) := Below.drewN' (Below.refl _ _) nq
                        have HB8 := Lib.hid (Below.thn HB7.out hdr)
                        have e1 := cell_later hdr e1
                        generalize wr.drewN nq = W8 at *
                        have HB9 := Lib.hid (Below.thn HB6.out HB8.out)
                        clear hdr
                        have hrun : IsRun (fb l) a d k k := ⟨Nat.le_refl _, HK.out, fun h => by omega⟩
                        have Hrun := Lib.hid hrun
                        clear hrun
                        by_cases hk3 : 3 ≤ k
                        · have hnk := Hlong.out d k hd1 (by omega) (by omega) (.inr hdt) Hrun.out hk3
                          have h9 := Hm.out
                          omega
                        · have b0 : decide ((k : Int) ≥ 3) = false := by simp; omega
                          go_wp2
                          go_roundw
                          case rel => exact ⟨d + 1, by go_num, by omega, by omega, by omega, HB9⟩
                          case measure => simp [intOf]; omega
                · have g1 : decide (d ≤ a) = true := by simpa using hda'
                  have g2 : decide ((d : Int) ≤ 300) = true := by simp; omega
                  have g3 : decide ((d : Int) < (dd : Int)) = false := by simp; omega
                  go_wp2_with fail
                  go_roundw
                  case rel => exact ⟨i + 1, az, rfl, by go_num, by omega, hfit, HT2, Lib.hid (Below.thn HB5.out HB6.out)⟩
                  case measure => simp [intOf]; omega
              · have g1 : decide (d ≤ a) = true := by simpa using hda'
                have g2 : decide ((d : Int) ≤ 300) = false := by simp; omega
                go_wp2_with fail
                go_roundw
                case rel => exact ⟨i + 1, az, rfl, by go_num, by omega, hfit, HT2, Lib.hid (Below.thn HB5.out HB6.out)⟩
                case measure => simp [intOf]; omega
            · have g1 : decide (d ≤ a) = false := by simpa using hda'
              go_wp2_with fail
              go_roundw
              case rel => exact ⟨i + 1, az, rfl, by go_num, by omega, hfit, HT2, Lib.hid (Below.thn HB5.out HB6.out)⟩
              case measure => simp [intOf]; omega
    · obtain rfl : i = q := by omega
      have d1 : decide (i < i) = false := by simp
      have hend : a = N := by
        have h1 := HT.out
        rw [List.take_of_length_le (by rw [Hq.out]; omega)] at h1
        exact Ht2.out.end h1
      subst hend
      go_wp2_with fail
      refine Calls.mono (matches_law wr) ?_
      rintro e w9 ⟨rfl, hb9⟩
      have Hb9 := Lib.hid (Below.thn (Below.thn Hb3.out HB.out) hb9)
      clear hb9
      go_wp2
      go_ret
      exact ⟨rfl, Hb9.out⟩

end Go.Proofs.Ytngiiacibbgiiaa
