/- tiles: pieces. -/
import Derived.Test.YtajoipmchgabfaaGreatT34
import Derived.Test.YtajoipmchgabfaaGreatT18
namespace Go.Proofs.YtajoipmchgabfaaGreat
open Go.RowKit Go.Maps

attribute [local go_sem] Oper.semAt_some

set_option maxRecDepth 100000 in
set_option maxHeartbeats 4000000 in
theorem pieces_any (v : Value) (l : List Rc) (w h : Int) (W : World) (hv : Row encR 4 W v l) (hf : ∀ r ∈ l, Fit r) (hl : l.length ≤ 1048576) :
    Calls Tryz.prog 20 #[v, .int .i64 w, .int .i64 h] W fun e w' => ∃ M b8 N0 F, e = .returned (.map (some M)) ∧ PcF W b8 M N0 (fun _ => False) F (pcsL (szW w h) (szH w h) (ptL (szW w h) (szH w h) l)) w' := by
  have hpw := szW_le w h
  have hph := szH_le w h
  have hwh := fun W => tlWhole_any w h W
  obtain ⟨pw, hpwe⟩ : ∃ p, szW w h = p := ⟨_, rfl⟩
  obtain ⟨ph, hphe⟩ : ∃ p, szH w h = p := ⟨_, rfl⟩
  rw [hpwe] at hpw hwh ⊢
  rw [hphe] at hph hwh ⊢
  obtain ⟨ps, hps⟩ : ∃ ps, ptL pw ph l = ps := ⟨_, rfl⟩
  rw [hps]
  have Hp0 := Lib.hid hps
  have Hps := Lib.hid (show ps.length ≤ 65536 by rw [← hps]; exact ptL_len hpw hph l)
  have Hin := Lib.hid (show ∀ p ∈ ps, InP pw ph p by rw [← hps]; exact ptL_in pw ph l)
  clear hps
  have Hwh := Lib.hid hwh
  have Hv := Lib.hid hv
  have Hf := Lib.hid hf
  obtain ⟨nf, hj0, hj1, hj2, hj3⟩ := info_parts rc_info
  have Hpw := Lib.hid hpw
  have Hph := Lib.hid hph
  clear hwh hpwe hphe hv hf
  refine (callsIn_wide (n := 0)).1 ?_
  refine callsIn_of_wp_marks Tryz.func20 rfl trivial ?_ rfl
  simp only [Tryz.ntmps20, List.size_toArray, List.length_cons, List.length_nil, Nat.reduceAdd, Nat.reduceSub, Array.replicate_succ, Array.replicate_zero, List.push_toArray, List.append_toArray, List.nil_append, List.cons_append]
  refine wpIn_wide.2 ?_
  go_wp2_with fail
  refine Calls.mono (Hwh.out _) ?_
  rintro _ u1 ⟨rfl, hb1⟩
  unfold pcR
  go_upto_region 2 with (fail)
  have hlp : Lies (u1.alloc (.cells #[.int .i64 0, .int .i64 0, .int .i64 (pw : Int), .int .i64 (ph : Int)] 37)) u1.heap.size (pcR pw ph) := Lies.new (r := pcR pw ph) rfl
  have hb2 := Below.al1 u1 (.cells #[.int .i64 0, .int .i64 0, .int .i64 (pw : Int), .int .i64 (ph : Int)] 37)
  have HB2 := Lib.hid (Below.thn hb1 hb2)
  have hlt7 : u1.heap.size < (u1.alloc (.cells #[.int .i64 0, .int .i64 0, .int .i64 (pw : Int), .int .i64 (ph : Int)] 37)).heap.size := by simp
  generalize u1.alloc (.cells #[.int .i64 0, .int .i64 0, .int .i64 (pw : Int), .int .i64 (ph : Int)] 37) = u2 at *
  obtain ⟨b7, hb7⟩ : ∃ b, u1.heap.size = b := ⟨_, rfl⟩
  rw [hb7] at hlp hlt7 ⊢
  have Hlp := Lib.hid hlp
  clear hb1 hb2 hb7 hlp
  have hmm := run_makeMap (P := Tryz.prog) 47 u2
  go_upto_region 3 with (fail)
  clear hmm
  have hm3 : MapV (u2.alloc (.map #[] 0)) u2.heap.size 0 (intF fun _ => none) := by
    have := MapV.made u2
    rwa [show (intF fun _ => none) = fun _ => none from by funext k; unfold intF; split <;> rfl]
  have hc3 : ((u2.alloc (.map #[] 0)).alloc (.cells #[.map (some u2.heap.size)] 47)).cell? ⟨u2.heap.size + 1, 0, none⟩ = some (.map (some u2.heap.size)) := by
    have := World.alloc_heap_new (u2.alloc (.map #[] 0)) (.cells #[.map (some u2.heap.size)] 47)
    exact cell_heapT (by simpa using this) rfl
  have hb3 := Below.al2 u2 (.map #[] 0) (.cells #[.map (some u2.heap.size)] 47)
  have hm4 := hm3.turned (Turns.of_below' (T := fun _ => False) (Below.al1 (u2.alloc (.map #[] 0)) (.cells #[.map (some u2.heap.size)] 47))) (fun h => h)
  have hz3 : ((u2.alloc (.map #[] 0)).alloc (.cells #[.map (some u2.heap.size)] 47)).heap.size = u2.heap.size + 1 + 1 := by simp
  generalize (u2.alloc (.map #[] 0)).alloc (.cells #[.map (some u2.heap.size)] 47) = u3 at *
  obtain ⟨M, hM⟩ : ∃ b, u2.heap.size = b := ⟨_, rfl⟩
  have HB3 := Lib.hid (Below.thn HB2.out hb3)
  have hWM : W.heap.size ≤ M := by have := HB2.out.size; omega
  rw [hM] at hm4 hc3 hz3 ⊢
  have p0 := (Hlp.out.later hb3)
  rw [hM] at hlt7
  obtain ⟨c0, c1, c2, c3⟩ := p0
  simp only [pcR] at c0 c1 c2 c3
  have hwi := fun v' u (hv' : Row encR 4 u v' l) => within_any v' l pw ph u hv' Hf.out hl
  unfold pcR at hwi
  have Hwi := Lib.hid (hwi v u3 (Hv.out.below HB3.out))
  have Hm4 := Lib.hid hm4
  have Hc3 := Lib.hid hc3
  have Hz3 := Lib.hid hz3
  have Hlp3 := Lib.hid (Hlp.out.later hb3)
  clear hwi hm3 hb3 hM hm4 hc3 hz3 Hlp HB2
  go_wp2_with fail
  refine Calls.mono Hwi.out ?_
  rintro _ u4 ⟨v4, rfl, ho4, hb4⟩
  have Ho4 := Lib.hid ho4
  have Hb4 := Lib.hid hb4
  clear ho4 hb4 c0 c1 c2 c3 Hwi
  go_wp2_with fail
  refine Calls.mono (regOf_any v4 (wiL pw ph l) u4 (owns_row' (enc := encR) (k := 4) (fun _ => rfl) Ho4.out) (wiL_fit pw ph l) (Nat.le_trans (wiL_len pw ph l) (by omega)) (form_len _ rfl _ _)) ?_
  rintro _ u5 ⟨v5, rfl, ho5, hb5⟩
  rw [show formL (fun p _ => p) (wiL pw ph l) [] = ps from Hp0.out] at ho5
  have Ho5 := Lib.hid ho5
  have Hb5 := Lib.hid (Below.thn Hb4.out hb5)
  have hs45 : M + 1 + 1 ≤ u4.heap.size := by have := Hb4.out.size; have := Hz3.out; omega
  have Hs5 := Lib.hid (show u4.heap.size ≤ u5.heap.size ∧ M + 1 + 1 ≤ u4.heap.size from ⟨hb5.size, hs45⟩)
  obtain ⟨n, hn⟩ : ∃ n, ps.length = n := ⟨_, rfl⟩
  have Hn := Lib.hid hn
  rw [hn] at Ho5
  obtain ⟨p5, c5, rfl⟩ := owns_slice Ho5.out
  clear ho5 hb5 hn hs45 hl
  go_wp2_with fail
  obtain ⟨N0, hN0⟩ : ∃ b, u5.heap.size = b := ⟨_, rfl⟩
  have HN0 := Lib.hid hN0
  have hP0 : PcF W (M + 1) M N0 (fun b => b ∈ ([] : List Nat)) (fun _ => none) (pcsL pw ph (ps.take 0)) u5 := by
    have e : pcsL pw ph (ps.take 0) = [] := by rw [List.take_zero]; rfl
    have hS := Hs5.out
    rw [e]
    exact ⟨cell_later Hb5.out Hc3.out, Hm4.out.turned (Turns.of_below' (T := fun _ => False) Hb5.out) (fun h => h), fun i _ => rfl, fun i h => absurd rfl h, fun i => World.ownsRow_nil _ _ _ _, fun i j k h => (by cases h), fun i k h => (by cases h), by simp, by simp, fun b hb => by simp at hb, by omega, by omega, by omega, by omega, hWM, Below.thn HB3.out Hb5.out⟩
  have HP0 := Lib.hid hP0
  have HN5 : Hid (∀ k, (Value.slice p5 n c5).ownBlock = some k → k ≠ M ∧ k < N0) := Lib.hid (fun k hk => by
    have := Ho5.out.lt k hk
    have := Hs5.out
    omega)
  have Hr5 := Lib.hid (owns_row' (enc := encR) (k := 4) (fun _ => rfl) (show u5.ownsRow u4.heap.size 37 4 (.slice p5 n c5) ps.length (flatR ps) by rw [Hn.out]; exact Ho5.out))
  have Hlp5 := Lib.hid (Hlp3.out.later Hb5.out)
  have H7N : Hid (b7 ≠ M ∧ b7 < N0) := Lib.hid (by have := Hs5.out; omega)
  clear hP0 Ho5 Hlp3 Hm4 Hc3 Hz3
  refine wp_loop (fun a' w' => ∃ (u10 u22 u23 u24 u25 u26 u27 u28 u41 : Value) (ds : List Deferred), (∃ (i : Nat) (F : Nat → Option Value) (rs : List Nat), u22 = .int .i64 (i : Int) ∧ i ≤ n ∧ ds = rs.map mkD ∧ Hid (PcF W (M + 1) M N0 (fun b => b ∈ rs) F (pcsL pw ph (ps.take i)) w') ∧ Hid (Turns (fun b => b = M ∨ N0 ≤ b) u5 w') ∧ Hid (rs.Nodup ∧ ∀ r ∈ rs, N0 ≤ r ∧ w'.heap[r]? = some (.deferred (some [])))) ∧ a' = { tmps := #[v, .int .i64 w, .int .i64 h, undef, undef, undef, .map none, .pointer (some ⟨b7, 0, none⟩), .pointer (some ⟨M + 1, 0, none⟩), undef, u10, undef, undef, .int .i64 w, .int .i64 h, RV { x := 0, y := 0, a := pw, b := ph }, .map (some M), v, .agg #[.int .i64 0, .int .i64 0, .int .i64 (pw : Int), .int .i64 (ph : Int)], v4, .slice p5 n c5, .int .i64 (n : Int), u22, u23, u24, u25, u26, u27, u28, undef, undef, undef, undef, undef, undef, undef, undef, undef, undef, undef, undef, u41, undef], defers := ds }) (fun a _ => n - (intOf (a.tmps.getD 22 undef)).toNat) ?start ?round
  case start =>
    exact ⟨undef, .int .i64 0, undef, undef, undef, undef, undef, undef, undef, [], ⟨0, _, [], rfl, Nat.zero_le _, rfl, HP0, Lib.hid (Turns.refl _ _), Lib.hid ⟨List.nodup_nil, fun r hr => (by simp at hr)⟩⟩, rfl⟩
  case round =>
    rintro _ wr ⟨u10, u22, u23, u24, u25, u26, u27, u28, u41, _, ⟨i, F, rs, rfl, hi, rfl, HP, HT, HR⟩, rfl⟩
    clear HP0
    by_cases hin : i < n
    · have d1 : decide ((i : Int) < (n : Int)) = true := by simp; omega
      have hil : i < ps.length := by rw [Hn.out]; exact hin
      obtain ⟨pr, cr, her, -, -, hrow⟩ := Hr5.out.turns HT.out (fun k hk h => by have := HN5.out k hk; omega)
      have hrow' : RowAt encR 4 wr p5 ps := by cases her; exact hrow
      clear hrow her
      obtain ⟨b, off, rfl, -, hat⟩ := RowAt.rc hrow' hil
      obtain ⟨x0, x1, x2, x3⟩ := hat i hil
      have Htk : Hid (pcsL pw ph (ps.take (i + 1)) = pcsL pw ph (ps.take i) ++ (unR pw ph ps[i]).map fun e => (e.1, andR ps[i] e.2)) := Lib.hid (by rw [List.take_succ_eq_append_getElem hil, pcsL_snoc]; rfl)
      have Hpin := Lib.hid (Hin.out _ (List.getElem_mem hil))
      have HEl : Hid ((pcsL pw ph (ps.take i)).length ≤ 65536 * 256) := Lib.hid (by
        have h1 := pcsL_len Hpw.out Hph.out (ps := ps.take i) (fun p hp => Hin.out p (List.mem_of_mem_take hp))
        have h2 := Hps.out
        rw [List.length_take] at h1
        have h3 : min i ps.length * 256 ≤ 65536 * 256 := Nat.mul_le_mul_right _ (by omega)
        omega)
      have i0 : (0 : Int) ≤ (i : Int) := by omega
      have i1 : (i : Int) < (n : Int) := by omega
      generalize ps[i] = p at *
      have y7 : Lies wr b7 (pcR pw ph) := lies_block Hlp5.out (HT.out.block b7 (by have := H7N.out; have := HN0.out; omega) (by have := H7N.out; omega))
      clear hat hil hrow'
      go_upto_region 6 with (fail)
      have HNr := Lib.hid (show N0 ≤ wr.heap.size by have := HT.out.size; have := HN0.out; omega)
      have hlr : Lies (wr.alloc (.cells #[.int .i64 p.x, .int .i64 p.y, .int .i64 p.a, .int .i64 p.b] 37)) wr.heap.size p := Lies.new rfl
      have hb1 := Below.al1 wr (.cells #[.int .i64 p.x, .int .i64 p.y, .int .i64 p.a, .int .i64 p.b] 37)
      have hz1 : (wr.alloc (.cells #[.int .i64 p.x, .int .i64 p.y, .int .i64 p.a, .int .i64 p.b] 37)).heap.size = wr.heap.size + 1 := by simp
      have P7 := y7.later hb1
      have HP1 := Lib.hid (HP.out.turn (S := fun _ => False) (T := fun b => b ∈ rs ∨ wr.heap.size ≤ b) (Turns.of_below' hb1) (fun _ h => h.elim) (Nat.le_refl _) (fun b hb => hb))
      have HT1 := Lib.hid (HT.out.trans (Turns.of_below' (T := fun b => b = M ∨ N0 ≤ b) hb1))
      have HR1 := Lib.hid (And.intro HR.out.1 (fun r hr => And.intro (HR.out.2 r hr).1 (And.intro (show r < wr.heap.size from lt_heapT (HR.out.2 r hr).2) ((hb1.block r (lt_heapT (HR.out.2 r hr).2)).trans (HR.out.2 r hr).2))))
      generalize wr.alloc (.cells #[.int .i64 p.x, .int .i64 p.y, .int .i64 p.a, .int .i64 p.b] 37) = w1 at *
      obtain ⟨b10, hb10⟩ : ∃ b, wr.heap.size = b := ⟨_, rfl⟩
      rw [hb10] at hlr hz1 HP1 HR1 HNr ⊢
      have Hlr := Lib.hid hlr
      have Hz1 := Lib.hid hz1
      have H7 := Lib.hid P7
      obtain ⟨y0, y1, y2, y3⟩ := hlr
      obtain ⟨p0, p1, p2, p3⟩ := P7
      simp only [pcR] at p0 p1 p2 p3
      have hun := under_made p (pcR pw ph) w1
      unfold pcR at hun
      clear hb1 hz1 x0 x1 x2 x3 y7 HP HT HR hb10
      go_wp2_with fail
      refine Calls.mono hun ?_
      rintro _ w2 ⟨rfl, rfl⟩
      clear hun y0 y1 y2 y3 p0 p1 p2 p3
      have hlt : Lies (w1.alloc (.cells #[.int .i64 p.x, .int .i64 p.y, .int .i64 p.a, .int .i64 p.b] 37)) w1.heap.size p := Lies.new rfl
      have hlq : Lies ((w1.alloc (.cells #[.int .i64 p.x, .int .i64 p.y, .int .i64 p.a, .int .i64 p.b] 37)).alloc (.cells #[.int .i64 0, .int .i64 0, .int .i64 (pw : Int), .int .i64 (ph : Int)] 37)) (w1.heap.size + 1) (pcR pw ph) := Lies.new (r := pcR pw ph) (by simp)
      have hlt2 := hlt.later (Below.al1 _ (.cells #[.int .i64 0, .int .i64 0, .int .i64 (pw : Int), .int .i64 (ph : Int)] 37))
      have hb2 := Below.al2 w1 (.cells #[.int .i64 p.x, .int .i64 p.y, .int .i64 p.a, .int .i64 p.b] 37) (.cells #[.int .i64 0, .int .i64 0, .int .i64 (pw : Int), .int .i64 (ph : Int)] 37)
      have hz2 : ((w1.alloc (.cells #[.int .i64 p.x, .int .i64 p.y, .int .i64 p.a, .int .i64 p.b] 37)).alloc (.cells #[.int .i64 0, .int .i64 0, .int .i64 (pw : Int), .int .i64 (ph : Int)] 37)).heap.size = w1.heap.size + 1 + 1 := by simp
      generalize (w1.alloc (.cells #[.int .i64 p.x, .int .i64 p.y, .int .i64 p.a, .int .i64 p.b] 37)).alloc (.cells #[.int .i64 0, .int .i64 0, .int .i64 (pw : Int), .int .i64 (ph : Int)] 37) = u at *
      obtain ⟨nn, hnn⟩ : ∃ b, u.heap.size = b := ⟨_, rfl⟩
      obtain ⟨Bt, hBt⟩ : ∃ b, w1.heap.size = b := ⟨_, rfl⟩
      have hsz : Bt = b10 + 1 ∧ nn = b10 + 3 := by have := Hz1.out; omega
      have HP2 := Lib.hid (HP1.out.turn (S := fun _ => False) (T := fun b => b ∈ rs ∨ b10 ≤ b) (Turns.of_below' hb2) (fun _ h => h.elim) (Nat.le_refl _) (fun b hb => .inl hb))
      have HT2 := Lib.hid (HT1.out.trans (Turns.of_below' (T := fun b => b = M ∨ N0 ≤ b) hb2))
      have HR2 := Lib.hid (And.intro HR1.out.1 (fun r hr => And.intro (HR1.out.2 r hr).1 (And.intro (HR1.out.2 r hr).2.1 ((hb2.block r (lt_heapT (HR1.out.2 r hr).2.2)).trans (HR1.out.2 r hr).2.2))))
      have Hl10 := Lib.hid (Hlr.out.later hb2)
      rw [hBt] at hlt2 hlq
      have hlt3 : Lies u Bt ⟨(p.x.toNat : Int), (p.y.toNat : Int), (p.a.toNat : Int), (p.b.toNat : Int)⟩ := by
        obtain ⟨g1, g2, g3, g4, g5, g6⟩ := Hpin.out
        rw [Int.toNat_of_nonneg g1, Int.toNat_of_nonneg g2, Int.toNat_of_nonneg (by omega : 0 ≤ p.a), Int.toNat_of_nonneg (by omega : 0 ≤ p.b)]
        exact hlt2
      rw [hBt] at *
      have HIt := Lib.hid (under_iter (Bt + 1) Bt pw ph p.x.toNat p.y.toNat p.a.toNat p.b.toNat u (fun b => b = Bt + 1 ∨ b = Bt ∨ b = b10 ∨ b ∈ rs) hlq hlt3 hpw hph (by obtain ⟨g1, g2, g3, g4, g5, g6⟩ := Hpin.out; omega) (by obtain ⟨g1, g2, g3, g4, g5, g6⟩ := Hpin.out; omega) (fun b hb => by
        rcases hb with rfl | rfl | rfl | hb
        · omega
        · omega
        · omega
        · have := (HR2.out.2 b hb).2.1; omega) (.inl rfl) (.inr (.inl rfl)))
      change Hid (Iter _ _ _ _ _ (unR pw ph p) _) at HIt
      have Hsz := Lib.hid hsz
      clear hlt hlq hlt2 hlt3 hb2 hz2 hBt hsz HP1 HT1 HR1 Hlr H7 Hz1
      go_wp2_with fail
      obtain ⟨E0, hE0⟩ : ∃ E, pcsL pw ph (ps.take i) = E := ⟨_, rfl⟩
      rw [hE0] at HP2 HEl Htk
      have HRb := Lib.hid (show ∀ b, (b = Bt + 1 ∨ b = Bt ∨ b = b10 ∨ b ∈ rs) → N0 ≤ b ∧ b < nn from fun b hb => by
        have h1 := Hsz.out
        have h2 := HNr.out
        rcases hb with rfl | rfl | rfl | hb
        · omega
        · omega
        · omega
        · have := HR2.out.2 b hb; omega)
      have HI0 : PcF W (M + 1) M N0 (fun b => False ∨ (b = nn ∨ b = nn + 1 ∨ b ∈ rs ∨ (b10 ≤ b ∧ b < nn))) F (E0 ++ ([] : List (Nat × Rc)).map fun e => (e.1, andR p e.2)) u := by
        rw [List.map_nil, List.append_nil]
        exact HP2.out.turn (S := fun _ => False) (Turns.refl _ _) (fun _ h => h.elim) (Nat.le_refl _) (fun b hb => by
          rcases hb with hb | hb | hb | hb | hb
          · exact hb.elim
          · right; omega
          · right; omega
          · exact .inl (.inl hb)
          · exact .inl (.inr hb.1))
      have HNN := Lib.hid hnn
      clear hE0 HP2
      refine (wpIn_wide (n := 0)).1 ?_
      refine wpIn_rangeFunc_made (gf := 40) (El := ElT) (xs := unR pw ph p) (w0 := u) ?hg ?eg HIt.out ?hs0 ?hRr VsT asgT ?hps ?hasg
        (fun pre T W' => ∃ F, PcF W (M + 1) M N0 (fun b => T b ∨ (b = nn ∨ b = nn + 1 ∨ b ∈ rs ∨ (b10 ≤ b ∧ b < nn))) F (E0 ++ pre.map fun e => (e.1, andR p e.2)) W' ∧ Turns (fun b => b = M ∨ N0 ≤ b) u5 W' ∧ ∀ r ∈ rs, W'.heap[r]? = some (.deferred (some []))) (fun _ _ _ _ => False) ?start
        (fun vs W' => { tmps := #[v, .int .i64 w, .int .i64 h, undef, undef, undef, .map none, .pointer (some ⟨b7, 0, none⟩), .pointer (some ⟨M + 1, 0, none⟩), undef, .pointer (some ⟨b10, 0, none⟩), vs.getD 0 undef, .pointer (some ⟨W'.heap.size, 0, none⟩), .int .i64 w, .int .i64 h, RV { x := 0, y := 0, a := pw, b := ph }, .map (some M), v, .agg #[.int .i64 0, .int .i64 0, .int .i64 (pw : Int), .int .i64 (ph : Int)], v4, .slice (some ⟨b, off, none⟩) n c5, .int .i64 (n : Int), .int .i64 (i : Int), .bool true, .pointer (some ⟨b, off + i * 4, none⟩), .agg #[.int .i64 p.x, .int .i64 p.y, .int .i64 p.a, .int .i64 p.b], .agg #[.int .i64 p.x, .int .i64 p.y, .int .i64 p.a, .int .i64 p.b], .agg #[.int .i64 0, .int .i64 0, .int .i64 (pw : Int), .int .i64 (ph : Int)], .func (.func 40) #[] #[.pointer (some ⟨Bt + 1, 0, none⟩), .pointer (some ⟨Bt, 0, none⟩)], vs.getD 0 undef, vs.getD 1 undef, undef, undef, undef, undef, undef, undef, undef, undef, undef, undef, u41, undef], defers := [] }) ?assign ?body ?done ?stop
      case hg => rfl
      case eg => exact fun _ _ => rfl
      case hs0 => exact Nat.le_refl _
      case hRr => exact fun q hq => ⟨by have := (HRb.out q hq).2; omega, rfl⟩
      case hps =>
        rintro _ _ _ x _ h
        rw [h]; exact ⟨rfl, x, rfl⟩
      case hasg =>
        rintro _ W' ⟨x, rfl⟩
        exact Below.al1 W' _
      case start => exact ⟨F, HI0, HT2.out, fun r hr => (HR2.out.2 r hr).2.2⟩
      case assign =>
        rintro l _ W' K ⟨x, rfl⟩ hK
        gi_wp2
        first
          | exact hK
          | simpa using hK
          | simpa [Array.zip, Array.zipWith, asgT] using hK
      case stop => exact fun _ _ _ _ _ _ h => h.elim
      case body =>
        rintro pre ⟨num, r⟩ rest Tp T Wq Wp W1' W2 vs hxs hI htqp hsq hsq1 ht2 hTp hT hT2 hR2 hEl h12 hs12 h1a hLt hL1 hD2 hL2
        simp only [hnn] at ht2 hTp hT2 h12 hLt hL1 hD2 hL2 htqp h1a ⊢
        obtain rfl : vs = #[.int .i64 (num : Int), RV r] := hEl
        obtain ⟨r0, hr0⟩ := hL1
        have hnlt : nn + 1 < W1'.heap.size := lt_heapT hr0
        have hpa : Lies W2 W1'.heap.size r := lies_at (t := 37) ((h1a.block _ (by show W1'.heap.size < (W1'.alloc _).heap.size; rw [World.size_alloc]; omega) (by omega)).trans (World.alloc_heap_new W1' (.cells #[.int .i64 r.x, .int .i64 r.y, .int .i64 r.a, .int .i64 r.b] 37)))
        obtain ⟨F1, k1, k2, k3⟩ := hI
        have hmem : (num, r) ∈ unR pw ph p := by rw [hxs]; simp
        obtain ⟨hnum, hrt⟩ := unR_tile Hpin.out hmem
        simp only at hnum hrt
        have hfr : Fit r := by rw [hrt]; exact and_fit _ _
        have hnumb : (0 : Int) ≤ (num : Int) ∧ (num : Int) ≤ 1048576 := by have := tlN_le hpw hph; omega
        have hfp : Fit p := full_fit (by obtain ⟨g1, g2, g3, g4, g5, g6⟩ := Hpin.out; rw [emptyR_false]; omega)
        have hEl2 : (E0 ++ pre.map fun e => (e.1, andR p e.2)).length ≤ 16777472 := by
          have h1 := HEl.out
          have h2 := unR_len Hpw.out Hph.out Hpin.out
          rw [hxs] at h2
          simp only [List.length_append, List.length_cons] at h2
          simp only [List.length_append, List.length_map]
          omega
        obtain ⟨E, hE⟩ : ∃ E, (E0 ++ pre.map fun e => (e.1, andR p e.2)) = E := ⟨_, rfl⟩
        rw [hE] at k1 hEl2
        have hSz := Hsz.out
        have hNr := HNr.out
        have hrlt : ∀ k, (ownF F1 num).ownBlock = some k → k < Wq.heap.size := fun k hk => ((k1.row num).lt k hk).2
        have K1 := Lib.hid (k1.turn ht2 (T := fun b => T b ∨ (b = nn ∨ b = nn + 1 ∨ b ∈ rs ∨ (b10 ≤ b ∧ b < nn))) (fun b hb => by
          rcases hb with h | h | h
          · exact .inl h
          · exact .inr (.inr (.inl h))
          · exact .inr (.inl h)) hsq (fun b hb => by
          rcases hb with h | h
          · exact (hT b h).imp .inl id
          · exact .inl (.inr h)))
        have K2 := Lib.hid (k2.trans (ht2.mono (fun b _ hb => .inr (by
          rcases hb with h | h | h
          · have := (hTp b h).1; omega
          · omega
          · omega))))
        have K3 : Hid (∀ r ∈ rs, W2.heap[r]? = some (.deferred (some []))) := Lib.hid (fun r hr => (hR2 r (.inr (.inr (.inr hr)))).trans (HR2.out.2 r hr).2.2)
        have L10 : Lies W2 b10 p := lies_block Hl10.out (hR2 b10 (.inr (.inr (.inl rfl))))
        have hTl := Lib.hid (fun b hb => (hT2 b hb : nn + 1 < b ∧ b < W2.heap.size))
        obtain ⟨pb, hpb⟩ : ∃ pb, W1'.heap.size = pb := ⟨_, rfl⟩
        rw [hpb] at hpa
        have hpn : nn + 1 < pb := by rw [← hpb]; exact hnlt
        have hpl : pb < W2.heap.size := by have h9 : (W1'.alloc (.cells #[.int .i64 r.x, .int .i64 r.y, .int .i64 r.a, .int .i64 r.b] 37)).heap.size ≤ W2.heap.size := h1a.size; rw [World.size_alloc] at h9; omega
        have hown : ∀ k, (ownF F1 num).ownBlock = some k → N0 ≤ k ∧ k ≠ pb ∧ k ≠ b10 := fun k hk => by
          have h1 := hrlt k hk
          have h2 := ((k1.row num).lt k hk).1
          have h3 := k1.out num k hk
          refine ⟨h2, by omega, fun e => h3 (.inr (.inr (.inr (.inr ⟨by omega, by omega⟩))))⟩
        have Hown := Lib.hid hown
        have Hmem := Lib.hid hmem
        have HE := Lib.hid hE
        have Hel := Lib.hid hEl2
        have HrB := Lib.hid (fun b hb => (hR2 b hb : W2.heap[b]? = u.heap[b]?))
        have e0 : (#[.int .i64 (num : Int), RV r] : Array Value).getD 0 undef = .int .i64 (num : Int) := rfl
        have e1 : (#[.int .i64 (num : Int), RV r] : Array Value).getD 1 undef = RV r := rfl
        rw [e0, e1]
        have hwlt : pb < W2.heap.size := hpl
        clear htqp hsq hsq1 ht2 hTp hT hT2 hR2 h12 hs12 h1a hLt hD2 hL2 hxs hr0 hnlt k1 k2 k3 hrlt e0 e1 hE hEl2 hmem hrt hnum HI0 hSz hNr
        rw [hpb]
        clear hpb
        gi_wp2
        obtain ⟨C, hC⟩ : ∃ C : World → Prop, C = fun w => Turns (fun b => (ownF F1 num).ownBlock = some b) W2 w := ⟨_, rfl⟩
        have hCst : StaysC C := by
          rw [hC]
          exact fun w w' h hb => h.trans (Turns.of_below' hb)
        have hCi : ∀ w, C w → Turns (fun b => (ownF F1 num).ownBlock = some b) W2 w := by
          rw [hC]
          exact fun _ h => h
        have hT' : ∀ n : InC C, Turns (fun b => (ownF F1 num).ownBlock = some b) W2 n.world := fun n => hCi _ n.ok
        have q8 : ∀ n : InC C, n.world.cell? ⟨M + 1, 0, none⟩ = some (.map (some M)) := fun n => (hT' n).cell K1.out.box (fun h => by have h1 : N0 ≤ M + 1 := (Hown.out _ h).1; have := K1.out.lb; omega)
        have qL : ∀ n : InC C, (Instr.lookup 47 (.map (some M)) (.int .i64 (num : Int)) false).run Tryz.prog n.world = .ok (ownF F1 num) n.world := fun n => by
          have h1 := (K1.out.map.turned (hT' n) (fun h => by have := (Hown.out _ h).1; have := K1.out.lm; omega)).look hnumb
          rw [intF_nat] at h1
          exact h1
        have qa : ∀ n : InC C, Lies n.world b10 p := fun n => lies_block L10 ((hT' n).block b10 (by have := (HRb.out b10 (.inr (.inr (.inl rfl)))).2; have := Hsz.out; omega) (fun h => (Hown.out _ h).2.2 rfl))
        have qb : ∀ n : InC C, Lies n.world pb r := fun n => lies_block hpa ((hT' n).block pb hwlt (fun h => (Hown.out _ h).2.1 rfl))
        have a0 := fun n => (qa n).c0
        have a1 := fun n => (qa n).c1
        have a2 := fun n => (qa n).c2
        have a3 := fun n => (qa n).c3
        have b0 := fun n => (qb n).c0
        have b1 := fun n => (qb n).c1
        have b2 := fun n => (qb n).c2
        have b3 := fun n => (qb n).c3
        have HT' := Lib.hid hT'
        have Hhp := Lib.hid hfp
        have Hhr := Lib.hid hfr
        clear qa qb hT' hpa L10 hown hpl hfp hfr
        have hC2 : C W2 := by rw [hC]; exact Turns.refl _ _
        have hK0 : StaysC (fun w => Below W2.heap.size W2 w) := fun w w' h hb => h.trans (hb.mono h.size)
        have hqq : Nonempty (InC C) := ⟨⟨W2, hC2⟩⟩
        have HC := Lib.hid hC
        have HCi := Lib.hid hCi
        clear hC hCi
        refine wpIn_region_chainT 8 10 C (fun w => Below W2.heap.size W2 w) (by kernel_rfl) (by decide) (by kernel_rfl) (by kernel_rfl) (by kernel_rfl) (by kernel_rfl) (fun h => by obtain ⟨_, _, h⟩ := h; exact h) hCst hC2 hK0 (Below.refl _ _) ?_
        repeat (refine LqC_on (fun K hK => ?_); go_simp; first | (refine hK _ ?_; clear hK K) | (apply Exists.intro; refine ⟨fun n => ?_, hK _ ?_⟩; (exact and_any p r n.world Hhp.out Hhr.out); clear hK K))
        refine LqC_nil ?_
        simp only [List.take_succ_cons, List.take_zero, List.drop_succ_cons, List.drop_zero]
        refine ChC_build rfl 1 #[.int .i64 (andR p r).x, .int .i64 (andR p r).y, .int .i64 (andR p r).a, .int .i64 (andR p r).b] 37 ?hrun hCst hK0 (fun sv => ?_)
        case hrun =>
          intro w'
          first
            | rfl
            | (go_simp; done)
            | kernel_rfl
        refine ChC_append rfl (.tmp 35) (.tmp 39) 22 rfl N0 37 nf _ 4 32 Tryz.underlying22 hj0 hj1 hj2 hj3 rfl (by decide) (ownF F1 num) (ofN E num).length (flatR (ofN E num)) rfl sv 1 (encR (andR p r)) rfl rfl ?c2 ?c3 ?c4 ?hin W2.heap.size ?hZ ?hCa (fun v' => ?_)
        case c2 => intro u hu; simp [encR] at hu; rcases hu with rfl | rfl | rfl | rfl <;> rfl
        case c3 =>
          have h1 := Hel.out
          have h2 : (ofN E num).length ≤ E.length := by unfold ofN; rw [List.length_map]; exact List.length_filter_le _ _
          simp only [maxLen]; omega
        case c4 =>
          have h1 := Hel.out
          have h2 : (ofN E num).length ≤ E.length := by unfold ofN; rw [List.length_map]; exact List.length_filter_le _ _
          omega
        case hin =>
          rintro w' - ⟨hk, B, e1, e2⟩
          refine ⟨(Turns.of_below' (T := fun _ => False) hk).owns (K1.out.row num) (fun _ _ h => h), Nat.le_trans K1.out.nw hk.size, _, _, e1, .inr ⟨_, rfl, World.news_of_block e2⟩⟩
        case hZ => exact fun w' hw => (HCi.out w' hw).size
        case hCa =>
          intro w' w'' hw _ hg
          rw [HC.out] at hw ⊢
          exact hw.trans (Turns.of_grown hg (fun _ h => h))
        intro w4 hw4 hk4
        obtain ⟨ho4, hp4⟩ := hk4
        have ht4 := HCi.out w4 hw4
        have hM4 : ¬ (ownF F1 num).ownBlock = some M := fun h => by have := (Hown.out _ h).1; have := K1.out.lm; omega
        obtain ⟨w5, hr5, hm5, ht5⟩ := (K1.out.map.turned ht4 hM4).put (by have := Hel.out; simp only [maxLen]; omega) hnumb v'
        have K5 := Lib.hid (K1.out.step (num := num) (r := andR p r) (fun b hb => by
          rcases hb with h | h | h | h | h
          · exact (hTl.out b h).2
          · omega
          · omega
          · have := (HR2.out.2 b h).2.1; have := Hsz.out; omega
          · omega) ht4 ho4 hp4 ht5 hm5)
        have ht45 : Turns (fun b => (ownF F1 num).ownBlock = some b ∨ b = M) W2 w5 := (ht4.mono (fun _ _ h => .inl h)).trans ((mt_turnsV ht5).mono (fun _ _ h => .inr h))
        have Ht45 := Lib.hid ht45
        have HM : Hid (M < N0 ∧ b10 < nn) := Lib.hid ⟨K1.out.lm, by have := Hsz.out; omega⟩
        clear ht45 ht4 ht5 hm5 ho4 hp4 hw4 hM4 hCst hC2 hK0 hqq q8 qL a0 a1 a2 a3 b0 b1 b2 b3
        go_simp
        go_wp2
        gi_wp2
        refine ⟨⟨fun i => if i = num then some v' else F1 i, ?_, K2.out.trans (Ht45.out.mono (fun b _ hb => ?_)), fun q hq => ?_⟩, Ht45.out.size, fun b hb => ?_⟩
        · rw [List.map_append, ← List.append_assoc, HE.out]
          exact K5.out
        · rcases hb with h | h
          · exact .inr (Hown.out _ h).1
          · exact .inl h
        · refine (Ht45.out.block q (lt_heapT (K3.out q hq)) (fun h => ?_)).trans (K3.out q hq)
          rcases h with h | h
          · exact K1.out.out num q h (.inr (.inr (.inr (.inl hq))))
          · have := (HR2.out.2 q hq).1; have := HM.out; omega
        · have hsz := Hsz.out
          have hX : b < W2.heap.size ∧ (T b ∨ (b = nn ∨ b = nn + 1 ∨ b ∈ rs ∨ (b10 ≤ b ∧ b < nn))) := by
            rcases hb with hb | hb | hb | hb
            · have := HRb.out b hb
              refine ⟨by omega, .inr ?_⟩
              rcases hb with h | h | h | h
              · omega
              · omega
              · omega
              · exact .inr (.inr (.inl h))
            · exact ⟨(hTl.out b hb).2, .inl hb⟩
            · exact ⟨by omega, .inr (by omega)⟩
            · exact ⟨by omega, .inr (by omega)⟩
          refine Ht45.out.block b hX.1 (fun h => ?_)
          rcases h with h | h
          · exact K1.out.out num b h hX.2
          · have h1 := HM.out
            have h2 := HNr.out
            rcases hX.2 with h | h | h | h | h
            · have := (hTl.out b h).1; omega
            · omega
            · omega
            · have := (HR2.out.2 b h).1; omega
            · omega
      case done =>
        intro Tp Wq W' hI htt hTp hlt hD
        rw [hnn] at htt hTp hlt hD
        obtain ⟨F1, k1, k2, k3⟩ := hI
        have hSz := Hsz.out
        have hNr := HNr.out
        have K1 := Lib.hid (k1.turn htt (T := fun b => b ∈ nn :: rs) (fun b hb => by
          rcases hb with h | h | h
          · exact .inl h
          · exact .inr (.inr (.inl h))
          · exact .inr (.inl h)) (Nat.le_refl _) (fun b hb => by
          rcases List.mem_cons.1 hb with h | h
          · exact .inl (.inr (.inl h))
          · exact .inl (.inr (.inr (.inr (.inl h))))))
        have K2 := Lib.hid (k2.trans (htt.mono (fun b _ hb => .inr (by
          rcases hb with h | h | h
          · have := hTp b h; omega
          · omega
          · omega))))
        have K3 : Hid ((nn :: rs).Nodup ∧ ∀ r ∈ nn :: rs, N0 ≤ r ∧ W'.heap[r]? = some (.deferred (some []))) := Lib.hid (by
          refine ⟨List.nodup_cons.2 ⟨fun h => by have := (HR2.out.2 nn h).2.1; omega, HR2.out.1⟩, fun q hq => ?_⟩
          rcases List.mem_cons.1 hq with rfl | hq
          · exact ⟨by omega, hD⟩
          · have h1 := HR2.out.2 q hq
            exact ⟨h1.1, (htt.block q (lt_heapT (k3 q hq)) (fun h => by
              rcases h with h | h | h
              · have := hTp q h; omega
              · omega
              · omega)).trans (k3 q hq)⟩)
        rw [hnn]
        rw [← Htk.out] at K1
        clear htt hTp hlt hD k1 k2 k3 hSz hNr HI0
        dsimp only
        go_wp2
        have hwr : Value.int .i64 (wrap64 ((i : Int) + 1)) = .int .i64 ((i + 1 : Nat) : Int) := by
          have h1 := Hps.out
          have h2 := Hn.out
          have h3 : i < 65536 := by omega
          rw [IntWalk.wrap64_in _ (by omega)]
          simp
        rw [hwr]
        refine ⟨⟨_, _, _, _, _, _, _, _, _, _, ⟨i + 1, F1, nn :: rs, rfl, by omega, rfl, K1, K2, K3⟩, rfl⟩, ?_⟩
        simp [intOf]
        omega
    · obtain rfl : i = n := by omega
      have d1 : decide ((i : Int) < (i : Int)) = false := by simp
      have e : ps.take i = ps := List.take_of_length_le (by rw [Hn.out]; exact Nat.le_refl _)
      rw [e] at HP
      have hbx := HP.out.box
      have HB := Lib.hid hbx
      go_wp2
      refine leaves_marks rs wr HR.out.1 (fun r hr => (HR.out.2 r hr).2) (fun w' ht => ?_)
      exact ⟨_, results_tmp rfl _ _ _, M, M + 1, N0, F, rfl, HP.out.turn ht (fun _ h => h) (Nat.le_refl _) (fun _ h => h.elim)⟩

end Go.Proofs.YtajoipmchgabfaaGreat
