/- Several texts in one, each with its own head. -/
import Derived.Test.YtebfdoipogjpnaaGreatQr3
import Derived.Test.YtebfdoipogjpnaaGreatQr4
import Derived.Deep.RegionHeld3
import Derived.Test.YtebfdoipogjpnaaGreatQd45
/- deflate: the document's own reader: a block with codes of its own. -/
namespace Go.Proofs.YtebfdoipogjpnaaGreat
open Go.RowKit Go.Maps

theorem dy_done {l : List Nat} {a n a1 : Nat} {ls : List Nat} (h : InfDy l a n (.go a1 ls)) : a + 14 ≤ 8 * l.length ∧ (nb l a 5 + 257 ≤ 286 ∧ nb l (a + 5) 5 + 1 ≤ 30) ∧ a + 14 + 3 * (nb l (a + 10) 4 + 4) ≤ 8 * l.length ∧
    chk (clL l (a + 14) (nb l (a + 10) 4 + 4)) = 0 ∧ InfLs (clL l (a + 14) (nb l (a + 10) 4 + 4)) l (nb l a 5 + 257 + (nb l (a + 5) 5 + 1)) (a + 14 + 3 * (nb l (a + 10) 4 + 4)) [] (.go a1 ls) ∧
    (lq ls 256 ≠ 0 ∧ chk (ls.take (nb l a 5 + 257)) = 0 ∧ chk (ls.drop (nb l a 5 + 257)) = 0) ∧ n = nb l a 5 + 257 := by
  cases h with
  | done h h1 h2 h3 _ _ h4 h5 => exact ⟨h, h1, h2, h3, h4, h5, rfl⟩

theorem ls_next {C l : List Nat} {n a a1 : Nat} {L ls : List Nat} (h : InfLs C l n a L (.go a1 ls)) : (n ≤ L.length ∧ a1 = a ∧ ls = L) ∨ (L.length < n ∧ ∃ x s k c v, Sy C l a x 0 s ∧ (x = 16 ∧ 0 < L.length ∧ k = 2 ∧ c = 3 ∧ v = L.getD (L.length - 1) 0 ∨ x = 17 ∧ k = 3 ∧ c = 3 ∧ v = 0 ∨ x = 18 ∧ k = 7 ∧ c = 11 ∧ v = 0 ∨ x < 16 ∧ k = 0 ∧ c = 1 ∧ v = x) ∧
    a + s + k ≤ 8 * l.length ∧ L.length + (c + nb l (a + s) k) ≤ n ∧ InfLs C l n (a + s + k) (L ++ List.replicate (c + nb l (a + s) k) v) (.go a1 ls)) := by
  cases h with
  | fin _ _ h => exact .inl ⟨h, rfl, rfl⟩
  | more _ _ _ _ _ h0 h h1 =>
    cases h with
    | go x s k c v h2 h3 h4 h5 => exact .inr ⟨h0, x, s, k, c, v, h2, h3, h4, h5, h1⟩

section
variable {base S : Nat} {rv ov : Value} {l : List Nat} {lim a : Nat} {o : List Nat}

set_option maxRecDepth 20000 in
set_option maxHeartbeats 8000000 in
theorem dynamic_at {n0 a1 a' : Nat} {ls o' : List Nat} (w : World) (h : Ds w base S rv ov l lim a o) (hby : ∀ b ∈ l, b < 256) (hl : l.length ≤ 1000) (hlim : lim ≤ 524288) (hd : InfDy l a n0 (.go a1 ls)) (ht : InfToks (ls.take n0) (ls.drop n0) l lim a1 o (.go a' o')) :
    Calls Tryz.prog 36 #[.pointer (some ⟨S, 0, none⟩)] w fun e w' => e = .returned (.tuple #[]) ∧ ∃ ov', Ds w' base S rv ov' l lim a' o' ∧ Dgo w S ov w' ov' := by
  obtain ⟨g1, ⟨g2, g3⟩, g4, g5, g6, g7, rfl⟩ := dy_done hd
  have H := Lib.hid h
  have Hby := Lib.hid hby
  have Hl := Lib.hid hl
  have HTk := Lib.hid ht
  have k4 : nb l (a + 10) 4 < 16 := nb_lt _ _ _
  obtain ⟨x1, hx1⟩ : ∃ x, nb l a 5 = x := ⟨_, rfl⟩
  obtain ⟨x2, hx2⟩ : ∃ x, nb l (a + 5) 5 = x := ⟨_, rfl⟩
  obtain ⟨x3, hx3⟩ : ∃ x, nb l (a + 10) 4 = x := ⟨_, rfl⟩
  have HX := Lib.hid (And.intro hx1 (And.intro hx2 hx3))
  rw [hx1] at g2 g6 g7 HTk
  rw [hx2] at g3 g6
  rw [hx3] at g4 g5 g6 k4
  have G5 := Lib.hid g5
  have G6 := Lib.hid g6
  have G7 := Lib.hid g7
  clear h hby hl ht hd hx1 hx2 hx3 g5 g6 g7
  go_enter Tryz.func36, Tryz.ntmps36
  go_wp2_with fail
  refine Calls.mono (num_at (k := 5) w H.out Hby.out Hl.out (by decide) (by omega)) ?_
  rintro _ w1 ⟨rfl, hD1, ht1⟩
  rw [HX.out.1]
  have HD1 := Lib.hid hD1
  have HT1 := Lib.hid ht1
  clear hD1 ht1
  go_wp2_with fail
  refine Calls.mono (num_at (k := 5) w1 HD1.out Hby.out Hl.out (by decide) (by omega)) ?_
  rintro _ w2 ⟨rfl, hD2, ht2⟩
  rw [HX.out.2.1]
  have HD2 := Lib.hid hD2
  have HT2 := Lib.hid (HT1.out.trans ht2)
  clear hD2 ht2 HD1 HT1
  go_wp2_with fail
  refine Calls.mono (num_at (k := 4) w2 HD2.out Hby.out Hl.out (by decide) (by omega)) ?_
  rintro _ w3 ⟨rfl, hD3, ht3⟩
  rw [show a + 5 + 5 = a + 10 by omega, HX.out.2.2]
  have HD3 : Hid (Ds w3 base S rv ov l lim (a + 14) o) := Lib.hid hD3
  have HT3 := Lib.hid (HT2.out.trans ht3)
  clear hD3 ht3 HD2 HT2
  have e1 : decide ((x1 : Int) + 257 > 286) = false := by simp; omega
  have e2 : decide ((x2 : Int) + 1 > 30) = false := by simp; omega
  go_wp2_with fail
  refine Calls.mono (wrong_no _ _ w3) ?_
  rintro _ z1 ⟨rfl, hz1⟩
  obtain rfl := hz1.symm
  clear hz1
  have hmk : ∀ w : World, (Instr.makeSlice 22 (.int .i64 19) (.int .i64 19)).run Tryz.prog w = .ok (.slice (some ⟨w.heap.size, 0, none⟩) 19 19) (w.alloc (.cells (lensRow (fun _ => 0) 19).toArray 5)) := fun w => make_u8 19 (by decide) w
  go_wp2_with fail
  have hb4 := Below.al1 w3 (.cells (lensRow (fun _ => 0) 19).toArray 5)
  have hz4 := World.alloc_heap_new w3 (.cells (lensRow (fun _ => 0) 19).toArray 5)
  generalize w3.alloc (.cells (lensRow (fun _ => 0) 19).toArray 5) = w4 at *
  refine Calls.mono (order_any w4) ?_
  rintro _ w5 ⟨gO, cO, rfl, hO, hb5⟩
  obtain ⟨Z, hZ⟩ : ∃ Z, w3.heap.size = Z := ⟨_, rfl⟩
  have hbZ := Below.thn hb4 hb5
  have HD5 := Lib.hid (HD3.out.below hbZ)
  have HT5 := Lib.hid (HT3.out.trans (Turns.of_below' (T := fun b => b = S) hbZ))
  have HZ5 : Hid (w5.heap[Z]? = some (.cells (lensRow (clF l (a + 14) 0) 19).toArray 5)) := Lib.hid (by rw [← hZ]; exact (hb5.block _ (lt_heap hz4)).trans hz4)
  have HO5 := Lib.hid hO
  have hSZ : S < Z := by rw [← hZ]; exact HD3.out.size
  have hOS : gO ≠ S := fun e => by
    have h1 := hO 0 (by decide)
    have h2 := HD5.out.c0
    rw [e] at h1
    rw [h1] at h2
    have h3 := Option.some.inj h2
    have h4 := HD5.out.row
    obtain ⟨p, c, h5⟩ := owns_slice h4
    rw [h5] at h3
    cases h3
  have hOZ : gO ≠ Z := fun e => by
    have h1 := hO 0 (by decide)
    have h2 : w5.cell? ⟨Z, 0, none⟩ = some (u8v (clF l (a + 14) 0 0)) := cell_heap HZ5.out (by rw [List.getElem?_toArray, lensRow_at _ (by decide)])
    rw [e, h2] at h1
    have h3 := Option.some.inj h1
    cases h3
  have HZw := Lib.hid (show Z ≤ w5.heap.size from by rw [← hZ]; exact hbZ.size)
  have HZe := Lib.hid hZ
  have hZw0 : Hid (w.heap.size ≤ w3.heap.size) := Lib.hid HT3.out.size
  have HRo : Hid ((∀ k, rv.ownBlock = some k → k < Z) ∧ ∀ k, ov.ownBlock = some k → k < Z) := Lib.hid ⟨fun k hk => by rw [← hZ]; exact (HD3.out.row.lt k hk).2, fun k hk => by rw [← hZ]; exact (HD3.out.out.lt k hk).2⟩
  rw [hZ]
  clear hb4 hz4 hb5 hO hbZ hZ HD3 HT3 hmk
  go_wp2_with fail
  go_loopw [7] (fun iv wr => ∃ i : Nat, iv = .int .i64 (i : Int) ∧ i ≤ x3 + 4 ∧ Hid (Ds wr base S rv ov l lim (a + 14 + 3 * i) o) ∧ Hid (wr.heap[Z]? = some (.cells (lensRow (clF l (a + 14) i) 19).toArray 5)) ∧ Hid (∀ k, k < 19 → wr.cell? ⟨gO, k, none⟩ = some (.int .i64 ((ordL.getD k 0 : Nat) : Int))) ∧ Hid (Turns (fun b => b = S ∨ b = Z) w5 wr)) (fun iv _ => x3 + 4 - (intOf iv).toNat)
  case atStart => exact ⟨0, rfl, Nat.zero_le _, HD5, HZ5, HO5, Lib.hid (Turns.refl _ _)⟩
  case round =>
    clear HD5 HZ5 HO5
    obtain ⟨i, rfl, hi, HD, HZ, HO, HTl⟩ := hrel
    have c4 := HD.out.c4
    by_cases hin : i < x3 + 4
    · have d0 : decide ((i : Int) < (x3 : Int) + 4) = true := by simp; omega
      have hx := ordL_at i (by omega)
      have cO' := HO.out i (by omega)
      obtain ⟨x, hxe⟩ : ∃ x, ordL.getD i 0 = x := ⟨_, rfl⟩
      rw [hxe] at hx cO'
      have i0 : (0 : Int) ≤ (i : Int) := by omega
      have i1 : (i : Int) < 19 := by omega
      have j0 : (0 : Int) ≤ (x : Int) := by omega
      have j1 : (x : Int) < 19 := by omega
      have hv8 : nb l (a + 14 + 3 * i) 3 < 8 := nb_lt _ _ _
      obtain ⟨v, hv⟩ : ∃ v, nb l (a + 14 + 3 * i) 3 = v := ⟨_, rfl⟩
      rw [hv] at hv8
      have hwv : IntKind.u8.wrap (v : Int) = (v : Int) := by rw [IntKind.wrap_u8]; omega
      have HN : Hid (∀ w', Below wr.heap.size wr w' → Calls Tryz.prog 31 #[.pointer (some ⟨S, 0, none⟩), .int .i64 3] w' fun e w'' => e = .returned (.int .i64 (v : Int)) ∧ w''.cell? ⟨gO, i, none⟩ = some (.int .i64 (x : Int)) ∧ w''.cell? ⟨Z, x, none⟩ = some (u8v (clF l (a + 14) i x)) ∧ w''.frozen? ⟨Z, x, none⟩ = false ∧ (w''.setCell ⟨Z, x, none⟩ (.int .u8 (v : Int))).cell? ⟨gO, i, none⟩ = some (.int .i64 (x : Int)) ∧
          Hid (Ds (w''.setCell ⟨Z, x, none⟩ (.int .u8 (v : Int))) base S rv ov l lim (a + 14 + 3 * (i + 1)) o ∧ (w''.setCell ⟨Z, x, none⟩ (.int .u8 (v : Int))).heap[Z]? = some (.cells (lensRow (clF l (a + 14) (i + 1)) 19).toArray 5) ∧ (∀ k, k < 19 → (w''.setCell ⟨Z, x, none⟩ (.int .u8 (v : Int))).cell? ⟨gO, k, none⟩ = some (.int .i64 ((ordL.getD k 0 : Nat) : Int))) ∧ Turns (fun b => b = S ∨ b = Z) w5 (w''.setCell ⟨Z, x, none⟩ (.int .u8 (v : Int))))) := Lib.hid fun w' hb => by
        refine Calls.mono (num_at (k := 3) w' (HD.out.below hb) Hby.out Hl.out (by decide) (by omega)) ?_
        rintro _ w'' ⟨rfl, hD2, ht2⟩
        rw [hv]
        have hT := (Turns.of_below' (T := fun b => b = S) hb).trans ht2
        have hz2 : w''.heap[Z]? = some (.cells (lensRow (clF l (a + 14) i) 19).toArray 5) := (hT.block _ (lt_heap HZ.out) (fun e => by omega)).trans HZ.out
        have hset := (Turns.refl (fun b => b = Z) w'').set (p := ⟨Z, x, none⟩) rfl (.int .u8 (v : Int))
        have hOk : ∀ k, k < 19 → w''.cell? ⟨gO, k, none⟩ = some (.int .i64 ((ordL.getD k 0 : Nat) : Int)) := fun k hk => hT.cell (HO.out k hk) (fun e => hOS e)
        have hrb : ∀ k, rv.ownBlock = some k → k ≠ Z := fun k hk e => by
          have := (HRo.out.1 k hk); omega
        have hob : ∀ k, ov.ownBlock = some k → k ≠ Z := fun k hk e => by
          have := (HRo.out.2 k hk); omega
        refine ⟨rfl, by rw [← hxe]; exact hOk i (by omega), cell_heap hz2 (by rw [List.getElem?_toArray, lensRow_at _ hx]), by simp [World.frozen?, hz2], by have h9 := hset.cell (hOk i (by omega)) (fun e => hOZ e); rw [hxe] at h9; exact h9, Lib.hid ⟨?_, ?_, fun k hk => hset.cell (hOk k hk) (fun e => hOZ e), ?_⟩⟩
        · rw [show a + 14 + 3 * (i + 1) = a + 14 + 3 * i + 3 by omega]
          exact hD2.turns hset (fun e => by omega) hrb hob
        · have e : (Value.int .u8 (v : Int)) = u8v v := rfl
          rw [e, setCell_eq_setRow w'' Z x _ _ _ _ hz2, setRow_heap w'' Z _ _ _ _ hz2, lensRow_setA _ _ hx]
          have : (fun k => if k = x then v else clF l (a + 14) i k) = clF l (a + 14) (i + 1) := by
            funext k
            show _ = if k = ordL.getD i 0 then nb l (a + 14 + 3 * i) 3 else clF l (a + 14) i k
            rw [hxe, hv]
          rw [this]
        · exact (HTl.out.trans ((hT.mono fun _ _ e => .inl e))).trans (hset.mono fun _ _ e => .inr e)
      clear hv hxe
      go_upto_region 9 with (fail)
      go_region_held3 (fun w' => w'.cell? ⟨gO, i, none⟩ = some (.int .i64 (x : Int))) (first | go_keep | exact k3)
        (first
          | (go_at_call 31; refine (HN.out _ (by exact Below.drew (Below.refl _ _))).mono ?_; rintro e w7 ⟨rfl, k0, k1, k2, k3, HK⟩))
      have HDn := Lib.hid HK.out.1
      have HZn := Lib.hid HK.out.2.1
      have HOn := Lib.hid HK.out.2.2.1
      have HTn := Lib.hid HK.out.2.2.2
      generalize w7.setCell ⟨Z, x, none⟩ (.int .u8 (v : Int)) = w8 at *
      clear HN HK k0 k1 k2 k3 cO' c4
      go_wp2
      go_roundw
      case rel => exact ⟨i + 1, by go_num, by omega, HDn, HZn, HOn, HTn⟩
      case measure => simp [intOf]; omega
    · obtain rfl : i = x3 + 4 := by omega
      have d0 : decide (((x3 + 4 : Nat) : Int) < (x3 : Int) + 4) = false := by simp
      have hcl : (clL l (a + 14) (x3 + 4)).length = 19 := by simp [clL]
      have hrow : Row enc8 1 wr (.slice (some ⟨Z, 0, none⟩) 19 19) (clL l (a + 14) (x3 + 4)) := by
        refine ⟨some ⟨Z, 0, none⟩, 19, by rw [hcl], by omega, by decide, .inr ⟨Z, 0, rfl, lt_heap HZ.out, fun k x hx j u hu => ?_⟩⟩
        cases j with
        | succ j => cases hu
        | zero =>
          cases hu
          have hk : k < 19 := by rw [← hcl]; exact (List.getElem?_eq_some_iff.1 hx).1
          rw [Nat.mul_one, Nat.zero_add, Nat.add_zero]
          refine cell_heap HZ.out ?_
          rw [List.getElem?_toArray, lensRow_at _ hk]
          unfold clL at hx
          rw [List.getElem?_map, List.getElem?_range hk] at hx
          have := Option.some.inj hx
          rw [← this]
      obtain ⟨C, hC⟩ : ∃ C, clL l (a + 14) (x3 + 4) = C := ⟨_, rfl⟩
      rw [hC] at hrow hcl
      have HCk : Hid (chk C = 0) := Lib.hid (by rw [← hC]; exact G5.out)
      obtain ⟨N, hN⟩ : ∃ N, x1 + 257 + (x2 + 1) = N := ⟨_, rfl⟩
      obtain ⟨A0, hA0⟩ : ∃ A0, a + 14 + 3 * (x3 + 4) = A0 := ⟨_, rfl⟩
      have HLs : Hid (InfLs C l N A0 [] (.go a1 ls)) := Lib.hid (by rw [← hC, ← hN, ← hA0]; exact G6.out)
      have HD' : Hid (Ds wr base S rv ov l lim A0 o) := Lib.hid (by rw [← hA0]; exact HD.out)
      have Hcd := Lib.hid (codes_at C _ wr HD'.out hrow HCk.out)
      have Hcl := Lib.hid hcl
      have hN1 : (x1 : Int) + 257 + ((x2 : Int) + 1) = (N : Int) := by omega
      have hNb : N ≤ 316 ∧ 258 ≤ N := by omega
      have HTw : Hid (Turns (fun b => b = S ∨ ov.ownBlock = some b) w wr) := Lib.hid ((HT5.out.mono fun _ _ e => .inl e).trans' HTl.out (fun i hi e => by
        rcases e with e | e
        · exact .inl e
        · have := HZe.out
          have := hZw0.out
          omega))
      have HZq0 : Z ≤ wr.heap.size := Nat.le_trans HZw.out HTl.out.size
      have HNe := Lib.hid (And.intro hN hA0)
      clear hC hrow hcl HZ HO HTl HD G5 G6 hN hA0
      go_wp2_with fail
      refine Calls.mono Hcd.out ?_
      rintro _ w9 ⟨oc, rfl, hoc, hD9, ht9⟩
      have HD9 := Lib.hid hD9
      have HTw9 := Lib.hid (HTw.out.trans (ht9.mono fun _ _ e => .inl e))
      have HOC := Lib.hid hoc
      have hSw : S < wr.heap.size := HD'.out.size
      have hSz9 : wr.heap.size ≤ w9.heap.size := ht9.size
      obtain ⟨Bq, hBq⟩ : ∃ B, w9.heap.size = B := ⟨_, rfl⟩
      have HBq := Lib.hid hBq
      obtain ⟨BC, hBC⟩ : ∃ B, wr.heap.size = B := ⟨_, rfl⟩
      rw [hBC] at HOC hSw hSz9
      obtain ⟨pc, qc, e⟩ : ∃ p c, oc = .slice p (tl (lq C) C.length 15 0).length c := by
        obtain ⟨xs, -, h2, -⟩ := hoc.ex
        exact owns_slice h2
      subst e
      have HZq : Hid (Z ≤ Bq) := Lib.hid (by rw [← hBq]; omega)
      clear hoc hD9 ht9 Hcd HD' HTw hBq hBC HZq0
      have hSB : S < Bq := by have := HBq.out; omega
      go_wp2_with fail
      go_loopw [9] (fun av wz => ∃ (aj : Nat) (L : List Nat), Hid (InfLs C l N aj L (.go a1 ls)) ∧ L.length ≤ N ∧ Hid (Ds wz base S rv ov l lim aj o) ∧ Hid (wz.ownsRow Bq 5 1 av L.length (L.map u8v)) ∧ Hid (Turns (fun b => b = S) w9 wz)) (fun _ wz => 8 * l.length - (intOf ((wz.cell? ⟨S, 1, none⟩).getD undef)).toNat)
      case atStart => exact ⟨A0, [], HLs, Nat.zero_le _, HD9, Lib.hid (World.ownsRow_nil _ _ _ _), Lib.hid (Turns.refl _ _)⟩
      case round =>
        clear HLs HD9
        obtain ⟨aj, L, HI, hLN, HDj, HA, HTj⟩ := hrel
        have c4 := HDj.out.c4
        have hmeas := HDj.out.c1
        obtain ⟨pa, qa, rfl⟩ := owns_slice HA.out
        obtain ⟨nL, hnL⟩ : ∃ n, L.length = n := ⟨_, rfl⟩
        have HnL := Lib.hid hnL
        rw [hnL] at hLN HA ⊢
        have hBz : Bq ≤ wr.heap.size := by rw [← HBq.out]; exact HTj.out.size
        rcases ls_next HI.out with ⟨hfin, ha1, hls⟩ | ⟨hlt, x, s, k, c, v, hy, hcase, hfit, hmax, hnext⟩
        · rw [hnL] at hfin
          obtain rfl : nL = N := by omega
          have dL : decide ((nL : Int) < (nL : Int)) = false := by simp
          have dL' : decide (nL < nL) = false := by simp
          obtain ⟨M, hM⟩ : ∃ M, x1 + 257 = M := ⟨_, rfl⟩
          have HT0 : Hid (InfToks (L.take M) (L.drop M) l lim aj o (.go a' o')) := Lib.hid (by rw [← hls, ← ha1, ← hM]; exact HTk.out)
          have H7 : Hid (lq L 256 ≠ 0 ∧ chk (L.take M) = 0 ∧ chk (L.drop M) = 0) := Lib.hid (by rw [← hls, ← hM]; exact G7.out)
          have hMI : (x1 : Int) + 257 = (M : Int) := by omega
          have hMb : M ≤ 286 ∧ M < nL := by omega
          obtain ⟨ga, qa', cur, e, hga, hcap, hz, hq⟩ := owns_block HA.out (by omega)
          cases e
          have hcu : ∀ i, i < L.length → cur[i]? = some (.int .u8 ((lq L i : Nat) : Int)) := fun i hi => hq i _ (by rw [List.getElem?_map, List.getElem?_eq_getElem hi, ← lq_at hi]; rfl)
          have x6 : wr.cell? ⟨ga, 256, none⟩ = some (.int .u8 ((lq L 256 : Nat) : Int)) := cell_heap hz (hcu 256 (by omega))
          obtain ⟨y6, hy6⟩ : ∃ y, lq L 256 = y := ⟨_, rfl⟩
          rw [hy6] at x6
          have d6 : ((y6 : Int) == 0) = false := by have := H7.out.1; simp; omega
          have hi0 : (256 : Int) < (nL : Int) := by omega
          have hsl1 : ∀ w : World, (Instr.slice 22 (.slice (some ⟨ga, 0, none⟩) nL qa) none (some (.int .i64 (M : Int))) none).run Tryz.prog w = .ok (.slice (some ⟨ga, 0, none⟩) M qa) w := slice_hiD _ nL qa M (by omega)
          have hsl2 : ∀ w : World, (Instr.slice 22 (.slice (some ⟨ga, 0, none⟩) nL qa) (some (.int .i64 (M : Int))) none none).run Tryz.prog w = .ok (.slice (some ⟨ga, M, none⟩) (nL - M) (qa - M)) w := by
            have := slice_loD ga 0 nL qa M (by omega) (by omega)
            simpa only [Nat.zero_add] using this
          have hgaS : ga ≠ S := by omega
          have HR1 : Hid (∀ w', Turns (fun b => b = S) wr w' → Row enc8 1 w' (.slice (some ⟨ga, 0, none⟩) M qa) (L.take M)) := Lib.hid fun w' ht => rw8_take (by omega) (by omega) hcap.2 ⟨cur, _, (ht.block _ (lt_heap hz) hgaS).trans hz, hcu⟩
          have HR2 : Hid (∀ w', Turns (fun b => b = S) wr w' → Row enc8 1 w' (.slice (some ⟨ga, M, none⟩) (nL - M) (qa - M)) (L.drop M)) := Lib.hid fun w' ht => by
            have hl : (L.drop M).length = nL - M := by rw [List.length_drop, hnL]
            refine ⟨_, _, by rw [hl], by rw [hl]; omega, by omega, .inr ⟨ga, M, rfl, by have := lt_heap hz; have := ht.size; omega, fun k x hx j u hu => ?_⟩⟩
            cases j with
            | succ j => cases hu
            | zero =>
              cases hu
              have hk : k < nL - M := by rw [← hl]; exact (List.getElem?_eq_some_iff.1 hx).1
              rw [Nat.mul_one, Nat.add_zero]
              refine cell_heap ((ht.block _ (lt_heap hz) hgaS).trans hz) ?_
              rw [hcu (M + k) (by omega)]
              have : lq L (M + k) = x := by
                unfold lq
                rw [List.getElem?_drop] at hx
                rw [List.getD_eq_getElem?_getD, hx]; rfl
              rw [this]; rfl
          have Hlt : Hid ((L.take M).length ≤ 320 ∧ (L.drop M).length ≤ 320) := Lib.hid (by rw [List.length_take, List.length_drop]; omega)
          obtain ⟨A, hA⟩ : ∃ A, L.take M = A := ⟨_, rfl⟩
          obtain ⟨D, hDD⟩ : ∃ D, L.drop M = D := ⟨_, rfl⟩
          rw [hA, hDD] at HT0 H7 Hlt
          rw [hA] at HR1
          rw [hDD] at HR2
          clear hz hq hcu hga hcap hy6 hA hDD ha1 hls HI hM
          go_wp2_with fail
          refine Calls.mono (wrong_no _ _ _) ?_
          rintro _ z1 ⟨rfl, hz1⟩
          obtain rfl := hz1.symm
          clear hz1
          go_wp2_with fail
          refine Calls.mono (codes_at A _ wr HDj.out (HR1.out _ (Turns.refl _ _)) H7.out.2.1) ?_
          rintro _ y1 ⟨oa, rfl, hoa, hD1, ht1⟩
          have HD1 := Lib.hid hD1
          have Ht1 := Lib.hid ht1
          have Hoa := Lib.hid hoa
          obtain ⟨po, qo, e⟩ : ∃ p c, oa = .slice p (tl (lq A) A.length 15 0).length c := by
            obtain ⟨xs, -, h2, -⟩ := hoa.ex
            exact owns_slice h2
          subst e
          clear hoa hD1 ht1
          go_wp2_with fail
          refine Calls.mono (codes_at D _ y1 HD1.out (HR2.out _ Ht1.out) H7.out.2.2) ?_
          rintro _ y2 ⟨od, rfl, hod, hD2, ht2⟩
          have HD2 := Lib.hid hD2
          have hsz1 := Ht1.out.size
          have hsz2 := ht2.size
          have Hoa2 := Lib.hid (Hoa.out.kept ht2 (fun i hi => .inl (by omega)))
          have Hod := Lib.hid hod
          have HTy : Hid (Turns (fun b => b = S ∨ ov.ownBlock = some b) w y2) := Lib.hid (HTw9.out.trans (((HTj.out.trans Ht1.out).trans ht2).mono fun _ _ e => .inl e))
          obtain ⟨pd, qd, e⟩ : ∃ p c, od = .slice p (tl (lq D) D.length 15 0).length c := by
            obtain ⟨xs, -, h2, -⟩ := hod.ex
            exact owns_slice h2
          subst e
          have Hsy := Lib.hid (symbols_at (G := fun b => wr.heap.size ≤ b ∧ b < y2.heap.size) (.slice po (tl (lq A) A.length 15 0).length qo) (.slice pd (tl (lq D) D.length 15 0).length qd) y2 HD2.out Hby.out Hl.out hlim H7.out.2.1 H7.out.2.2 Hlt.out.1 Hlt.out.2 (fun w' ht => Hoa2.out.kept ht (fun i hi => by omega)) (fun w' ht => Hod.out.kept ht (fun i hi => by omega)) (fun b hb => ⟨by omega, fun e => by have := HRo.out.2 b e; have := HZq.out; omega⟩) HT0.out)
          clear hod hD2 ht2
          go_wp2_with fail
          refine Calls.mono Hsy.out ?_
          rintro _ y3 ⟨rfl, ov3, hD3, hg3⟩
          have HD3 := Lib.hid hD3
          have HG3 : Hid (Dgo w S ov y3 ov3) := Lib.hid ((⟨HTy.out, fun _ h => .inl h⟩ : Dgo w S ov y2 ov).trans hg3)
          clear hD3 hg3 Hsy
          go_wp2
          go_end0
          exact ⟨rfl, ov3, HD3.out, HG3.out⟩
        · rw [hnL] at hlt hmax hcase
          have dL : decide ((nL : Int) < (N : Int)) = true := by simp; omega
          have dL' : decide (nL < N) = true := by simpa using hlt
          have hpos := hy.pos.1
          have hin := hy.in'
          have HOCj := Lib.hid (HOC.out.kept HTj.out (fun i hi => .inl (by omega)))
          have Hs := Lib.hid (sym_at (.slice pc (tl (lq C) C.length 15 0).length qc) wr HDj.out Hby.out Hl.out HCk.out (by rw [Hcl.out]; decide) HOCj.out hy hin)
          clear hnL hy
          rcases hcase with ⟨rfl, h0, rfl, rfl, hv⟩ | ⟨rfl, rfl, rfl, rfl⟩ | ⟨rfl, rfl, rfl, rfl⟩ | ⟨hx16, rfl, rfl, rfl⟩
          · obtain ⟨x, hx⟩ : ∃ x, 16 = x := ⟨_, rfl⟩
            rw [hx] at Hs
            have d1 : decide ((x : Int) < 16) = false := by simp; omega
            have d1' : decide (x < 16) = false := by simp; omega
            have q16 : ((x : Int) == 16) = true := by simp; omega
            have q17 : ((x : Int) == 17) = false := by simp; omega
            have q18 : ((x : Int) == 18) = false := by simp; omega
            clear hx
            have q0 : ((nL : Int) == 0) = false := by simp; omega
            obtain ⟨ga, qa', cur, e, -, -, hz, hq⟩ := owns_block HA.out h0
            cases e
            have xv : cur[nL - 1]? = some (.int .u8 (v : Int)) := hq _ _ (by
              have h1 : nL - 1 < L.length := by rw [HnL.out]; omega
              rw [List.getElem?_map, List.getElem?_eq_getElem h1, hv, List.getD_eq_getElem?_getD, List.getElem?_eq_getElem h1]; rfl)
            have Hz := Lib.hid (And.intro hz xv)
            clear hz hq xv hv
            have hv8 : nb l (aj + s) 2 < 256 := Nat.lt_of_lt_of_le (nb_lt _ _ _) (by decide)
            obtain ⟨m, hm⟩ : ∃ m, nb l (aj + s) 2 = m := ⟨_, rfl⟩
            rw [hm] at hv8 hmax hnext
            have Hm := Lib.hid hm
            obtain ⟨K, hK⟩ : ∃ K, 3 + m = K := ⟨_, rfl⟩
            rw [hK] at hmax hnext
            have hKI : (3 : Int) + (m : Int) = (K : Int) := by omega
            have Hnext := Lib.hid hnext
            have dK : decide ((nL : Int) + (K : Int) > (N : Int)) = false := by simp; omega
            clear hnext hm
            go_wp2_with fail
            refine Calls.mono Hs.out ?_
            rintro _ y1 ⟨rfl, hD1, ht1⟩
            have HD1 := Lib.hid hD1
            have c4 := hD1.c4
            have HT1 := Lib.hid (HTj.out.trans ht1)
            have HA1 : Hid (y1.ownsRow Bq 5 1 (.slice (some ⟨ga, 0, none⟩) nL qa) nL (L.map u8v)) := Lib.hid (ht1.owns HA.out (fun q hq e => by have := (HA.out.lt q hq).1; omega))
            have hs1 := ht1.size
            have xl : y1.cell? ⟨ga, nL - 1, none⟩ = some (.int .u8 (v : Int)) := cell_heap ((ht1.block _ (lt_heap Hz.out.1) (fun e => by have := (HA.out.lt ga rfl).1; omega)).trans Hz.out.1) Hz.out.2
            have hi1 : (nL : Int) - 1 = ((nL - 1 : Nat) : Int) := by omega
            obtain ⟨jj, hjj⟩ : ∃ j, nL - 1 = j := ⟨_, rfl⟩
            rw [hjj] at xl hi1
            have jj0 : (0 : Int) ≤ (jj : Int) := by omega
            have jj1 : (jj : Int) < (nL : Int) := by omega
            clear hD1 ht1 Hs HA HOCj
            go_wp2_with fail
            refine Calls.mono (wrong_no _ _ y1) ?_
            rintro _ z1 ⟨rfl, hz1⟩
            obtain rfl := hz1.symm
            clear hz1
            go_wp2_with fail
            refine Calls.mono (num_at (k := 2) y1 HD1.out Hby.out Hl.out (by decide) (by omega)) ?_
            rintro _ y2 ⟨rfl, hD2, ht2⟩
            rw [Hm.out]
            have HD2 := Lib.hid hD2
            have c4 := hD2.c4
            have HT2 := Lib.hid (HT1.out.trans ht2)
            have HA2 : Hid (y2.ownsRow Bq 5 1 (.slice (some ⟨ga, 0, none⟩) nL qa) nL (L.map u8v)) := Lib.hid (ht2.owns HA1.out (fun q hq e => by have := (HA1.out.lt q hq).1; omega))
            have hs2 := ht2.size
            clear hD2 ht2 HA1 HD1 HT1
            go_wp2_with fail
            refine Calls.mono (wrong_no _ _ y2) ?_
            rintro _ z1 ⟨rfl, hz1⟩
            obtain rfl := hz1.symm
            clear hz1
            go_wp2_with fail
            go_loopw [9, 13] (fun bv iv wy => ∃ i : Nat, iv = .int .i64 (i : Int) ∧ i ≤ K ∧ Hid (wy.ownsRow Bq 5 1 bv (nL + i) ((L ++ List.replicate i v).map u8v)) ∧ Hid (Ds wy base S rv ov l lim (aj + s + 2) o) ∧ Hid (Turns (fun b => b = S) w9 wy)) (fun _ iv _ => K - (intOf iv).toNat)
            case atStart => exact ⟨0, rfl, Nat.zero_le _, Lib.hid (by have := HA2.out; simpa using this), HD2, HT2⟩
            case round =>
              clear HA2 HD2 HT2 c4
              obtain ⟨i, rfl, hi, HAi, HDi, HTi⟩ := hrel
              obtain ⟨pi, qi, rfl⟩ := owns_slice HAi.out
              have hBi : Bq ≤ wr.heap.size := by rw [← HBq.out]; exact HTi.out.size
              by_cases hiK : i < K
              · have d6 : decide ((i : Int) < (K : Int)) = true := by simp; omega
                have d6' : decide (i < K) = true := by simpa using hiK
                go_wp2_with (at_builtin; refine wpList_append_one wr rfl (.tmp 132) (.tmp 134) 22 rfl Bq 5 _ 1 u8_info Tryz.underlying22 rfl (.slice pi (nL + i) qi) (nL + i) ((L ++ List.replicate i v).map u8v) rfl HAi.out (.int .u8 (v : Int)) _ rfl rfl ?n3 ?n4 hBi ?_)
                case n3 => simp only [maxLen]; omega
                case n4 => omega
                intro g cap w1 ho ht hg
                have HA3 : Hid (w1.ownsRow Bq 5 1 (.slice (some ⟨g, 0, none⟩) (nL + i + 1) cap) (nL + (i + 1)) ((L ++ List.replicate (i + 1) v).map u8v)) := Lib.hid (by
                  have e : (L ++ List.replicate (i + 1) v).map u8v = L.map u8v ++ (List.replicate i (u8v v) ++ [Value.int IntKind.u8 ((v : Nat) : Int)]) := by
                    rw [List.replicate_succ', List.map_append, List.map_append, List.map_replicate]; rfl
                  rw [e]
                  exact ho)
                have hob : ∀ q, (Value.slice pi (nL + i) qi).ownBlock = some q → Bq ≤ q := fun q hq => (HAi.out.lt q hq).1
                have HD3 := Lib.hid (HDi.out.turns ht (fun e => by have := hob _ e; omega) (fun q hq e => by have := hob _ e; have := HRo.out.1 q hq; have := HZq.out; omega) (fun q hq e => by have := hob _ e; have := HRo.out.2 q hq; have := HZq.out; omega))
                have HT3 : Hid (Turns (fun b => b = S) w9 w1) := Lib.hid (HTi.out.trans' ht (fun q hq e => by have := hob _ e; have := HBq.out; omega))
                clear ho ht hg hob
                go_wp2
                go_roundw
                case rel => exact ⟨i + 1, by go_num, by omega, HA3, HD3, HT3⟩
                case measure => simp [intOf]; omega
              · obtain rfl : i = K := by omega
                have d6 : decide ((i : Int) < (i : Int)) = false := by simp
                have d6' : decide (i < i) = false := by simp
                have hm2 := HDi.out.c1
                have HA4 : Hid (wr.ownsRow Bq 5 1 (.slice pi (nL + i) qi) (L ++ List.replicate i v).length ((L ++ List.replicate i v).map u8v)) := Lib.hid (by
                  rw [List.length_append, List.length_replicate, HnL.out]; exact HAi.out)
                have HlN : Hid ((L ++ List.replicate i v).length ≤ N) := Lib.hid (by rw [List.length_append, List.length_replicate, HnL.out]; exact hmax)
                go_wp2
                go_roundw
                case rel => exact ⟨_, _, Hnext, HlN.out, HDi, HA4, HTi⟩
                case measure => rw [hmeas, hm2]; simp [intOf]; omega
          · obtain ⟨x, hx⟩ : ∃ x, 17 = x := ⟨_, rfl⟩
            rw [hx] at Hs
            have d1 : decide ((x : Int) < 16) = false := by simp; omega
            have d1' : decide (x < 16) = false := by simp; omega
            have q16 : ((x : Int) == 16) = false := by simp; omega
            have q17 : ((x : Int) == 17) = true := by simp; omega
            have q18 : ((x : Int) == 18) = false := by simp; omega
            clear hx
            have hv8 : nb l (aj + s) 3 < 256 := Nat.lt_of_lt_of_le (nb_lt _ _ _) (by decide)
            obtain ⟨m, hm⟩ : ∃ m, nb l (aj + s) 3 = m := ⟨_, rfl⟩
            rw [hm] at hv8 hmax hnext
            have Hm := Lib.hid hm
            obtain ⟨K, hK⟩ : ∃ K, 3 + m = K := ⟨_, rfl⟩
            rw [hK] at hmax hnext
            have hKI : (3 : Int) + (m : Int) = (K : Int) := by omega
            have Hnext := Lib.hid hnext
            have dK : decide ((nL : Int) + (K : Int) > (N : Int)) = false := by simp; omega
            clear hnext hm
            go_wp2_with fail
            refine Calls.mono Hs.out ?_
            rintro _ y1 ⟨rfl, hD1, ht1⟩
            have HD1 := Lib.hid hD1
            have c4 := hD1.c4
            have HT1 := Lib.hid (HTj.out.trans ht1)
            have HA1 : Hid (y1.ownsRow Bq 5 1 (.slice pa nL qa) nL (L.map u8v)) := Lib.hid (ht1.owns HA.out (fun q hq e => by have := (HA.out.lt q hq).1; omega))
            have hs1 := ht1.size
            clear hD1 ht1 Hs HA HOCj
            go_wp2_with fail
            refine Calls.mono (wrong_no _ _ y1) ?_
            rintro _ z1 ⟨rfl, hz1⟩
            obtain rfl := hz1.symm
            clear hz1
            go_wp2_with fail
            refine Calls.mono (num_at (k := 3) y1 HD1.out Hby.out Hl.out (by decide) (by omega)) ?_
            rintro _ y2 ⟨rfl, hD2, ht2⟩
            rw [Hm.out]
            have HD2 := Lib.hid hD2
            have c4 := hD2.c4
            have HT2 := Lib.hid (HT1.out.trans ht2)
            have HA2 : Hid (y2.ownsRow Bq 5 1 (.slice pa nL qa) nL (L.map u8v)) := Lib.hid (ht2.owns HA1.out (fun q hq e => by have := (HA1.out.lt q hq).1; omega))
            have hs2 := ht2.size
            clear hD2 ht2 HA1 HD1 HT1
            go_wp2_with fail
            refine Calls.mono (wrong_no _ _ y2) ?_
            rintro _ z1 ⟨rfl, hz1⟩
            obtain rfl := hz1.symm
            clear hz1
            go_wp2_with fail
            go_loopw [9, 13] (fun bv iv wy => ∃ i : Nat, iv = .int .i64 (i : Int) ∧ i ≤ K ∧ Hid (wy.ownsRow Bq 5 1 bv (nL + i) ((L ++ List.replicate i 0).map u8v)) ∧ Hid (Ds wy base S rv ov l lim (aj + s + 3) o) ∧ Hid (Turns (fun b => b = S) w9 wy)) (fun _ iv _ => K - (intOf iv).toNat)
            case atStart => exact ⟨0, rfl, Nat.zero_le _, Lib.hid (by have := HA2.out; simpa using this), HD2, HT2⟩
            case round =>
              clear HA2 HD2 HT2 c4
              obtain ⟨i, rfl, hi, HAi, HDi, HTi⟩ := hrel
              obtain ⟨pi, qi, rfl⟩ := owns_slice HAi.out
              have hBi : Bq ≤ wr.heap.size := by rw [← HBq.out]; exact HTi.out.size
              by_cases hiK : i < K
              · have d6 : decide ((i : Int) < (K : Int)) = true := by simp; omega
                have d6' : decide (i < K) = true := by simpa using hiK
                go_wp2_with (at_builtin; refine wpList_append_one wr rfl (.tmp 132) (.tmp 134) 22 rfl Bq 5 _ 1 u8_info Tryz.underlying22 rfl (.slice pi (nL + i) qi) (nL + i) ((L ++ List.replicate i 0).map u8v) rfl HAi.out (.int .u8 ((0 : Nat) : Int)) _ rfl rfl ?n3 ?n4 hBi ?_)
                case n3 => simp only [maxLen]; omega
                case n4 => omega
                intro g cap w1 ho ht hg
                have HA3 : Hid (w1.ownsRow Bq 5 1 (.slice (some ⟨g, 0, none⟩) (nL + i + 1) cap) (nL + (i + 1)) ((L ++ List.replicate (i + 1) 0).map u8v)) := Lib.hid (by
                  have e : (L ++ List.replicate (i + 1) 0).map u8v = L.map u8v ++ (List.replicate i (u8v 0) ++ [Value.int IntKind.u8 ((0 : Nat) : Int)]) := by
                    rw [List.replicate_succ', List.map_append, List.map_append, List.map_replicate]; rfl
                  rw [e]
                  exact ho)
                have hob : ∀ q, (Value.slice pi (nL + i) qi).ownBlock = some q → Bq ≤ q := fun q hq => (HAi.out.lt q hq).1
                have HD3 := Lib.hid (HDi.out.turns ht (fun e => by have := hob _ e; omega) (fun q hq e => by have := hob _ e; have := HRo.out.1 q hq; have := HZq.out; omega) (fun q hq e => by have := hob _ e; have := HRo.out.2 q hq; have := HZq.out; omega))
                have HT3 : Hid (Turns (fun b => b = S) w9 w1) := Lib.hid (HTi.out.trans' ht (fun q hq e => by have := hob _ e; have := HBq.out; omega))
                clear ho ht hg hob
                go_wp2
                go_roundw
                case rel => exact ⟨i + 1, by go_num, by omega, HA3, HD3, HT3⟩
                case measure => simp [intOf]; omega
              · obtain rfl : i = K := by omega
                have d6 : decide ((i : Int) < (i : Int)) = false := by simp
                have d6' : decide (i < i) = false := by simp
                have hm2 := HDi.out.c1
                have HA4 : Hid (wr.ownsRow Bq 5 1 (.slice pi (nL + i) qi) (L ++ List.replicate i 0).length ((L ++ List.replicate i 0).map u8v)) := Lib.hid (by
                  rw [List.length_append, List.length_replicate, HnL.out]; exact HAi.out)
                have HlN : Hid ((L ++ List.replicate i 0).length ≤ N) := Lib.hid (by rw [List.length_append, List.length_replicate, HnL.out]; exact hmax)
                go_wp2
                go_roundw
                case rel => exact ⟨_, _, Hnext, HlN.out, HDi, HA4, HTi⟩
                case measure => rw [hmeas, hm2]; simp [intOf]; omega
          · obtain ⟨x, hx⟩ : ∃ x, 18 = x := ⟨_, rfl⟩
            rw [hx] at Hs
            have d1 : decide ((x : Int) < 16) = false := by simp; omega
            have d1' : decide (x < 16) = false := by simp; omega
            have q16 : ((x : Int) == 16) = false := by simp; omega
            have q17 : ((x : Int) == 17) = false := by simp; omega
            have q18 : ((x : Int) == 18) = true := by simp; omega
            clear hx
            have hv8 : nb l (aj + s) 7 < 256 := Nat.lt_of_lt_of_le (nb_lt _ _ _) (by decide)
            obtain ⟨m, hm⟩ : ∃ m, nb l (aj + s) 7 = m := ⟨_, rfl⟩
            rw [hm] at hv8 hmax hnext
            have Hm := Lib.hid hm
            obtain ⟨K, hK⟩ : ∃ K, 11 + m = K := ⟨_, rfl⟩
            rw [hK] at hmax hnext
            have hKI : (11 : Int) + (m : Int) = (K : Int) := by omega
            have Hnext := Lib.hid hnext
            have dK : decide ((nL : Int) + (K : Int) > (N : Int)) = false := by simp; omega
            clear hnext hm
            go_wp2_with fail
            refine Calls.mono Hs.out ?_
            rintro _ y1 ⟨rfl, hD1, ht1⟩
            have HD1 := Lib.hid hD1
            have c4 := hD1.c4
            have HT1 := Lib.hid (HTj.out.trans ht1)
            have HA1 : Hid (y1.ownsRow Bq 5 1 (.slice pa nL qa) nL (L.map u8v)) := Lib.hid (ht1.owns HA.out (fun q hq e => by have := (HA.out.lt q hq).1; omega))
            have hs1 := ht1.size
            clear hD1 ht1 Hs HA HOCj
            go_wp2_with fail
            refine Calls.mono (wrong_no _ _ y1) ?_
            rintro _ z1 ⟨rfl, hz1⟩
            obtain rfl := hz1.symm
            clear hz1
            go_wp2_with fail
            refine Calls.mono (num_at (k := 7) y1 HD1.out Hby.out Hl.out (by decide) (by omega)) ?_
            rintro _ y2 ⟨rfl, hD2, ht2⟩
            rw [Hm.out]
            have HD2 := Lib.hid hD2
            have c4 := hD2.c4
            have HT2 := Lib.hid (HT1.out.trans ht2)
            have HA2 : Hid (y2.ownsRow Bq 5 1 (.slice pa nL qa) nL (L.map u8v)) := Lib.hid (ht2.owns HA1.out (fun q hq e => by have := (HA1.out.lt q hq).1; omega))
            have hs2 := ht2.size
            clear hD2 ht2 HA1 HD1 HT1
            go_wp2_with fail
            refine Calls.mono (wrong_no _ _ y2) ?_
            rintro _ z1 ⟨rfl, hz1⟩
            obtain rfl := hz1.symm
            clear hz1
            go_wp2_with fail
            go_loopw [9, 13] (fun bv iv wy => ∃ i : Nat, iv = .int .i64 (i : Int) ∧ i ≤ K ∧ Hid (wy.ownsRow Bq 5 1 bv (nL + i) ((L ++ List.replicate i 0).map u8v)) ∧ Hid (Ds wy base S rv ov l lim (aj + s + 7) o) ∧ Hid (Turns (fun b => b = S) w9 wy)) (fun _ iv _ => K - (intOf iv).toNat)
            case atStart => exact ⟨0, rfl, Nat.zero_le _, Lib.hid (by have := HA2.out; simpa using this), HD2, HT2⟩
            case round =>
              clear HA2 HD2 HT2 c4
              obtain ⟨i, rfl, hi, HAi, HDi, HTi⟩ := hrel
              obtain ⟨pi, qi, rfl⟩ := owns_slice HAi.out
              have hBi : Bq ≤ wr.heap.size := by rw [← HBq.out]; exact HTi.out.size
              by_cases hiK : i < K
              · have d6 : decide ((i : Int) < (K : Int)) = true := by simp; omega
                have d6' : decide (i < K) = true := by simpa using hiK
                go_wp2_with (at_builtin; refine wpList_append_one wr rfl (.tmp 132) (.tmp 134) 22 rfl Bq 5 _ 1 u8_info Tryz.underlying22 rfl (.slice pi (nL + i) qi) (nL + i) ((L ++ List.replicate i 0).map u8v) rfl HAi.out (.int .u8 ((0 : Nat) : Int)) _ rfl rfl ?n3 ?n4 hBi ?_)
                case n3 => simp only [maxLen]; omega
                case n4 => omega
                intro g cap w1 ho ht hg
                have HA3 : Hid (w1.ownsRow Bq 5 1 (.slice (some ⟨g, 0, none⟩) (nL + i + 1) cap) (nL + (i + 1)) ((L ++ List.replicate (i + 1) 0).map u8v)) := Lib.hid (by
                  have e : (L ++ List.replicate (i + 1) 0).map u8v = L.map u8v ++ (List.replicate i (u8v 0) ++ [Value.int IntKind.u8 ((0 : Nat) : Int)]) := by
                    rw [List.replicate_succ', List.map_append, List.map_append, List.map_replicate]; rfl
                  rw [e]
                  exact ho)
                have hob : ∀ q, (Value.slice pi (nL + i) qi).ownBlock = some q → Bq ≤ q := fun q hq => (HAi.out.lt q hq).1
                have HD3 := Lib.hid (HDi.out.turns ht (fun e => by have := hob _ e; omega) (fun q hq e => by have := hob _ e; have := HRo.out.1 q hq; have := HZq.out; omega) (fun q hq e => by have := hob _ e; have := HRo.out.2 q hq; have := HZq.out; omega))
                have HT3 : Hid (Turns (fun b => b = S) w9 w1) := Lib.hid (HTi.out.trans' ht (fun q hq e => by have := hob _ e; have := HBq.out; omega))
                clear ho ht hg hob
                go_wp2
                go_roundw
                case rel => exact ⟨i + 1, by go_num, by omega, HA3, HD3, HT3⟩
                case measure => simp [intOf]; omega
              · obtain rfl : i = K := by omega
                have d6 : decide ((i : Int) < (i : Int)) = false := by simp
                have d6' : decide (i < i) = false := by simp
                have hm2 := HDi.out.c1
                have HA4 : Hid (wr.ownsRow Bq 5 1 (.slice pi (nL + i) qi) (L ++ List.replicate i 0).length ((L ++ List.replicate i 0).map u8v)) := Lib.hid (by
                  rw [List.length_append, List.length_replicate, HnL.out]; exact HAi.out)
                have HlN : Hid ((L ++ List.replicate i 0).length ≤ N) := Lib.hid (by rw [List.length_append, List.length_replicate, HnL.out]; exact hmax)
                go_wp2
                go_roundw
                case rel => exact ⟨_, _, Hnext, HlN.out, HDi, HA4, HTi⟩
                case measure => rw [hmeas, hm2]; simp [intOf]; omega
          · rw [nb_zero] at hmax hnext
            have Hnext := Lib.hid hnext
            have d1 : decide ((v : Int) < 16) = true := by simp; omega
            have d1' : decide (v < 16) = true := by simpa using hx16
            have hwx : IntKind.u8.wrap (v : Int) = (v : Int) := by rw [IntKind.wrap_u8]; omega
            clear hnext
            go_wp2_with fail
            refine Calls.mono Hs.out ?_
            rintro _ y1 ⟨rfl, hD1, ht1⟩
            have HD1 := Lib.hid hD1
            have c4 := hD1.c4
            have HT1 := Lib.hid (HTj.out.trans ht1)
            have HA1 : Hid (y1.ownsRow Bq 5 1 (.slice pa nL qa) nL (L.map u8v)) := Lib.hid (ht1.owns HA.out (fun q hq e => by have := (HA.out.lt q hq).1; omega))
            have hs1 : Bq ≤ y1.heap.size := Nat.le_trans hBz ht1.size
            clear hD1 ht1 Hs HA HOCj
            go_wp2_with (at_builtin; refine wpList_append_one y1 rfl (.tmp 75) (.tmp 78) 22 rfl Bq 5 _ 1 u8_info Tryz.underlying22 rfl (.slice pa nL qa) nL (L.map u8v) rfl HA1.out (.int .u8 (v : Int)) _ rfl rfl ?n3 ?n4 hs1 ?_)
            case n3 => simp only [maxLen]; omega
            case n4 => omega
            intro g cap w1 ho ht hg
            have HA3 : Hid (w1.ownsRow Bq 5 1 (.slice (some ⟨g, 0, none⟩) (nL + 1) cap) (L ++ List.replicate (1 + 0) v).length ((L ++ List.replicate (1 + 0) v).map u8v)) := Lib.hid (by
              rw [List.length_append, List.length_replicate, HnL.out, List.map_append]
              exact ho)
            have hob : ∀ q, (Value.slice pa nL qa).ownBlock = some q → Bq ≤ q := fun q hq => (HA1.out.lt q hq).1
            have HD3 := Lib.hid (HD1.out.turns ht (fun e => by have := hob _ e; omega) (fun q hq e => by have := hob _ e; have := HRo.out.1 q hq; have := HZq.out; omega) (fun q hq e => by have := hob _ e; have := HRo.out.2 q hq; have := HZq.out; omega))
            have HT3 : Hid (Turns (fun b => b = S) w9 w1) := Lib.hid (HT1.out.trans' ht (fun q hq e => by have := hob _ e; have := HBq.out; omega))
            have hm2 := HD3.out.c1
            have HlN : Hid ((L ++ List.replicate (1 + 0) v).length ≤ N) := Lib.hid (by rw [List.length_append, List.length_replicate, HnL.out]; exact hmax)
            clear ho ht hg hob
            go_wp2
            go_roundw
            case rel => exact ⟨_, _, Hnext, HlN.out, HD3, HA3, HT3⟩
            case measure => rw [hmeas, hm2]; simp [intOf]; omega
end

end Go.Proofs.YtebfdoipogjpnaaGreat

/- deflate: the document's own reader: a whole stream. -/
namespace Go.Proofs.YtebfdoipogjpnaaGreat
open Go.RowKit Go.Maps

theorem bl_next {l : List Nat} {lim a a1 : Nat} {b o1 : List Nat} (h : InfBl l lim a1 o1 (.go a b)) : ∃ last a2 o2, nb l a1 1 = last ∧ a1 + 1 ≤ 8 * l.length ∧ InfBk l lim (a1 + 1) o1 (.go a2 o2) ∧ (last = 0 ∧ InfBl l lim a2 o2 (.go a b) ∨ last = 1 ∧ a2 = a ∧ o2 = b) := by
  cases h with
  | last _ _ h1 h2 _ _ h3 => exact ⟨1, a, b, h2, h1, h3, .inr ⟨rfl, rfl, rfl⟩⟩
  | more _ _ h1 h2 a2 o2 h3 _ h4 =>
    have : nb l a1 1 < 2 := nb_lt _ _ _
    exact ⟨0, a2, o2, by omega, h1, h3, .inl ⟨rfl, h4⟩⟩
theorem bk_next {l : List Nat} {lim a a2 : Nat} {o o2 : List Nat} (h : InfBk l lim a o (.go a2 o2)) : a + 2 ≤ 8 * l.length ∧ ((nb l a 2 = 0 ∧ InfSd l lim (a + 2) o (.go a2 o2)) ∨ (nb l a 2 = 1 ∧ InfToks fixA fixD l lim (a + 2) o (.go a2 o2)) ∨ (nb l a 2 = 2 ∧ ∃ n a3 ls, InfDy l (a + 2) n (.go a3 ls) ∧ InfToks (ls.take n) (ls.drop n) l lim a3 o (.go a2 o2))) := by
  cases h with
  | stored h h1 _ h2 => exact ⟨h, .inl ⟨h1, h2⟩⟩
  | fixed h h1 _ h2 => exact ⟨h, .inr (.inl ⟨h1, h2⟩)⟩
  | dyn h h1 n a3 ls h2 _ h3 => exact ⟨h, .inr (.inr ⟨h1, n, a3, ls, h2, h3⟩)⟩
theorem bk_up {l : List Nat} {lim a a2 : Nat} {o o2 : List Nat} (h : InfBk l lim (a + 1) o (.go a2 o2)) : a < a2 := by
  have := (h.in' _ _ rfl).2
  omega
theorem Dgo.keepsW {w0 w w' : World} {S : Nat} {ov ov' : Value} (hb : Below w0.heap.size w0 w) (h : Dgo w S ov w' ov') (hS : w0.heap.size ≤ S) (ho : ∀ k, ov.ownBlock = some k → w0.heap.size ≤ k) : Below w0.heap.size w0 w' :=
  hb.trans (h.ht.below hb.size fun i hi => by
    rcases hi with rfl | hi
    · exact hS
    · exact ho i hi)

set_option maxRecDepth 20000 in
set_option maxHeartbeats 4000000 in
theorem refInflate_any {l b : List Nat} {lim a : Nat} (v : Value) (w : World) (hv : Rw8 w v l) (hby : ∀ x ∈ l, x < 256) (hl : l.length ≤ 1000) (hlim : lim ≤ 524288) (h : InfBl l lim 0 [] (.go a b)) :
    Calls Tryz.prog 10 #[v, .int .i64 (lim : Int)] w fun e w' => ∃ v' z, z = (a + 7) / 8 ∧ e = .returned (.tuple #[v', .int .i64 (z : Int), .int .i64 0]) ∧ w'.ownsRow w.heap.size 5 1 v' b.length (b.map u8v) ∧ Below w.heap.size w w' := by
  have Hof := Lib.hid (refOf_any v l w hv hby (by omega))
  have Hby := Lib.hid hby
  have Hl := Lib.hid hl
  have H0 := Lib.hid h
  obtain ⟨p, c, rfl, -⟩ := hv.cells
  have d0 : decide ((lim : Int) > 524288) = false := by simp; omega
  have d1 : decide ((lim : Int) < 0) = false := by simp
  clear hv hby hl h
  go_enter Tryz.func10, Tryz.ntmps10
  go_wp2_with fail
  refine Calls.mono Hof.out ?_
  rintro _ w1 ⟨rv, rfl, hr, hb1⟩
  obtain ⟨pr, cr, rfl⟩ := owns_slice hr
  rw [ofB_len]
  rw [ofB_len] at hr
  obtain ⟨L8, hL8⟩ : ∃ L8, 8 * l.length = L8 := ⟨_, rfl⟩
  have HL8 := Lib.hid hL8
  rw [hL8]
  rw [hL8] at hr
  have hr' : OwnB w1 w.heap.size (.slice pr L8 cr) (ofB l) := hr
  have Hr := Lib.hid hr'
  have Hb1 := Lib.hid hb1
  clear hr hr' hb1 Hof hL8
  go_wp2_with fail
  have hb2 := Below.al1 w1 (.cells #[.slice pr L8 cr, .int .i64 0, .slice none 0 0, .int .i64 (lim : Int), .int .i64 0] 66)
  have HD0 : Hid (Ds (w1.alloc (.cells #[.slice pr L8 cr, .int .i64 0, .slice none 0 0, .int .i64 (lim : Int), .int .i64 0] 66)) w.heap.size w1.heap.size (.slice pr L8 cr) (.slice none 0 0) l lim 0 []) := Lib.hid
    ⟨World.alloc_heap_new _ _, (Turns.of_below' (T := fun _ => False) hb2).owns Hr.out (fun _ _ h => h), World.ownsRow_nil _ _ _ _, ⟨fun e => by have := (Hr.out.lt _ e).2; omega, by simp [Value.ownBlock], fun k hk => by simp [Value.ownBlock]⟩, Hb1.out.size, ⟨Nat.zero_le _, Nat.zero_le _⟩⟩
  have Hb2 := Lib.hid (Below.thn Hb1.out hb2)
  have hSw : w.heap.size ≤ w1.heap.size := Hb1.out.size
  generalize w1.alloc (.cells #[.slice pr L8 cr, .int .i64 0, .slice none 0 0, .int .i64 (lim : Int), .int .i64 0] 66) = w2 at *
  obtain ⟨S, hS⟩ : ∃ S, w1.heap.size = S := ⟨_, rfl⟩
  rw [hS] at HD0 hSw ⊢
  clear hb2 hS Hr Hb1
  go_loopw [8] (fun lv wr => ∃ (last a1 : Nat) (o1 : List Nat) (ov1 : Value), lv = .int .i64 (last : Int) ∧ Hid (last = 0 ∧ InfBl l lim a1 o1 (.go a b) ∨ last = 1 ∧ a1 = a ∧ o1 = b) ∧ Hid (Ds wr w.heap.size S (.slice pr L8 cr) ov1 l lim a1 o1) ∧ Hid (Below w.heap.size w wr)) (fun _ wr => 8 * l.length - (intOf ((wr.cell? ⟨S, 1, none⟩).getD undef)).toNat)
  case atStart => exact ⟨0, 0, [], _, rfl, Lib.hid (.inl ⟨rfl, H0.out⟩), HD0, Hb2⟩
  case round =>
    clear H0 HD0 Hb2
    obtain ⟨last, a1, o1, ov1, rfl, HC, HD, HB⟩ := hrel
    have c4 := HD.out.c4
    have c1 := HD.out.c1
    have c2 := HD.out.c2
    by_cases hl0 : last = 0
    · subst hl0
      have HI : Hid (InfBl l lim a1 o1 (.go a b)) := Lib.hid (by
        rcases HC.out with ⟨-, h⟩ | ⟨h, -⟩
        · exact h
        · omega)
      obtain ⟨ln, a2, o2, hln, hfit1, hbk, hrest⟩ := bl_next HI.out
      obtain ⟨hfit2, hkind⟩ := bk_next hbk
      have hln2 : ln = 0 ∨ ln = 1 := by rcases hrest with ⟨h, -⟩ | ⟨h, -⟩ <;> omega
      have Hln := Lib.hid hln
      have HRest := Lib.hid hrest
      have ha2 : a1 < a2 := bk_up hbk
      clear hln hbk hrest HC HI
      go_wp2_with fail
      refine Calls.mono (num_at (k := 1) wr HD.out Hby.out Hl.out (by decide) (by omega)) ?_
      rintro _ w3 ⟨rfl, hD3, ht3⟩
      rw [Hln.out]
      have HD3 := Lib.hid hD3
      have HT3 := Lib.hid ht3
      clear hD3 ht3
      go_wp2_with fail
      refine Calls.mono (num_at (k := 2) w3 HD3.out Hby.out Hl.out (by decide) (by omega)) ?_
      rintro _ w4 ⟨rfl, hD4, ht4⟩
      have HD4 := Lib.hid hD4
      have c44 := hD4.c4
      have HB4 : Hid (Below w.heap.size w w4) := Lib.hid (HB.out.trans ((HT3.out.trans ht4).below HB.out.size fun i hi => by subst hi; exact hSw))
      have HGk := Lib.hid fun (w' : World) (ov' : Value) (h : Dgo w4 S ov1 w' ov') => Dgo.keepsW HB4.out h hSw (fun k hk => (HD4.out.out.lt k hk).1)
      clear hD4 ht4 HD3 HT3 c4 c2
      rcases hkind with ⟨hk, hr⟩ | ⟨hk, hr⟩ | ⟨hk, n, a3, ls, hr1, hr2⟩
      · rw [hk]
        clear hk
        have Hsd := Lib.hid (stored_at w4 HD4.out Hby.out Hl.out hlim hr)
        go_wp2_with fail
        refine Calls.mono Hsd.out ?_
        rintro _ w5 ⟨rfl, ov5, hD5, hg5⟩
        have HD5 := Lib.hid hD5
        have HB5 := Lib.hid (HGk.out _ _ hg5)
        have c5 := hD5.c1
        clear hD5 hg5 Hsd
        go_wp2
        go_roundw
        case rel => exact ⟨ln, a2, o2, ov5, rfl, HRest, HD5, HB5⟩
        case measure => rw [c1, c5]; simp [intOf]; omega
      · rw [hk]
        clear hk
        have HR := Lib.hid hr
        go_wp2_with fail
        refine Calls.mono (fixed_any w4) ?_
        rintro _ w5 ⟨va, vb, rfl, hva, hvb, hb5⟩
        have hva' : w5.ownsRow w4.heap.size 5 1 va fixA.length (fixA.map u8v) := by rw [fixA_len]; exact hva
        have hvb' : w5.ownsRow w4.heap.size 5 1 vb fixD.length (fixD.map u8v) := hvb
        have Hva := Lib.hid (Rw8.own hva' rfl).row
        have Hvb := Lib.hid (Rw8.own hvb' rfl).row
        have Hvlt := Lib.hid (And.intro hva'.lt hvb'.lt)
        obtain ⟨qa, ka, rfl⟩ := owns_slice hva
        obtain ⟨qb, kb, rfl⟩ := owns_slice hvb
        have HD5 := Lib.hid (HD4.out.below hb5)
        have HT5 := Lib.hid (Turns.of_below' (T := fun b => b = S) hb5)
        clear hva hvb hva' hvb' hb5 c44
        go_wp2_with fail
        refine Calls.mono (codes_at fixA _ w5 HD5.out Hva.out fixA_chk) ?_
        rintro _ y1 ⟨oa, rfl, hoa, hD1, ht1⟩
        have HD1 := Lib.hid hD1
        have Ht1 := Lib.hid ht1
        have Hoa := Lib.hid hoa
        have hs51 := HD5.out.size
        have hs45 := HT5.out.size
        have Hvb1 : Hid (Row enc8 1 y1 (.slice qb 32 kb) fixD) := Lib.hid (by
          obtain ⟨p', c', e, k1, k2, hra⟩ := Hvb.out
          cases e
          exact ⟨_, _, rfl, k1, k2, hra.turns ht1 (fun ad had e => by
            have h1 := (Hvlt.out.2 ad.block (by rw [had]; rfl)).1
            have h2 := HD4.out.size
            omega)⟩)
        obtain ⟨po, qo, e⟩ : ∃ p c, oa = .slice p (tl (lq fixA) fixA.length 15 0).length c := by
          obtain ⟨xs, -, h2, -⟩ := hoa.ex
          exact owns_slice h2
        subst e
        clear hoa hD1 ht1
        go_wp2_with fail
        refine Calls.mono (codes_at fixD _ y1 HD1.out Hvb1.out fixD_chk) ?_
        rintro _ y2 ⟨od, rfl, hod, hD2, ht2⟩
        have HD2 := Lib.hid hD2
        have hsz1 := Ht1.out.size
        have hsz2 := ht2.size
        have Hoa2 := Lib.hid (Hoa.out.kept ht2 (fun i hi => .inl (by omega)))
        have Hod := Lib.hid hod
        have HTy : Hid (Dgo w4 S ov1 y2 ov1) := Lib.hid (Dgo.of ((HT5.out.trans Ht1.out).trans ht2))
        have hovl := Lib.hid (fun k hk => (HD4.out.out.lt k hk).2)
        obtain ⟨pd, qd, e⟩ : ∃ p c, od = .slice p (tl (lq fixD) fixD.length 15 0).length c := by
          obtain ⟨xs, -, h2, -⟩ := hod.ex
          exact owns_slice h2
        subst e
        have Hsy := Lib.hid (symbols_at (G := fun b => w5.heap.size ≤ b ∧ b < y2.heap.size) (.slice po (tl (lq fixA) fixA.length 15 0).length qo) (.slice pd (tl (lq fixD) fixD.length 15 0).length qd) y2 HD2.out Hby.out Hl.out hlim fixA_chk fixD_chk (by rw [fixA_len]; decide) (by show 32 ≤ 320; decide) (fun w' ht => Hoa2.out.kept ht (fun i hi => by omega)) (fun w' ht => Hod.out.kept ht (fun i hi => by omega)) (fun b hb => ⟨by omega, fun e => by have := hovl.out b e; omega⟩) HR.out)
        clear hod hD2 ht2
        go_wp2_with fail
        refine Calls.mono Hsy.out ?_
        rintro _ y3 ⟨rfl, ov5, hD5', hg5⟩
        have HD5' := Lib.hid hD5'
        have HB5 := Lib.hid (HGk.out _ _ (HTy.out.trans hg5))
        have c5 := hD5'.c1
        clear hD5' hg5 Hsy
        go_wp2
        go_roundw
        case rel => exact ⟨ln, a2, o2, ov5, rfl, HRest, HD5', HB5⟩
        case measure => rw [c1, c5]; simp [intOf]; omega
      · rw [hk]
        clear hk
        have Hdy := Lib.hid (dynamic_at w4 HD4.out Hby.out Hl.out hlim hr1 hr2)
        go_wp2_with fail
        refine Calls.mono Hdy.out ?_
        rintro _ w5 ⟨rfl, ov5, hD5, hg5⟩
        have HD5 := Lib.hid hD5
        have HB5 := Lib.hid (HGk.out _ _ hg5)
        have c5 := hD5.c1
        clear hD5 hg5 Hdy
        go_wp2
        go_roundw
        case rel => exact ⟨ln, a2, o2, ov5, rfl, HRest, HD5, HB5⟩
        case measure => rw [c1, c5]; simp [intOf]; omega
    · have HE : Hid (last = 1 ∧ a1 = a ∧ o1 = b) := Lib.hid (by
        rcases HC.out with ⟨h, -⟩ | h
        · exact absurd h hl0
        · exact h)
      obtain ⟨rfl, rfl, rfl⟩ := HE.out
      obtain ⟨pz, qz, rfl⟩ := owns_slice HD.out.out
      obtain ⟨z, hz⟩ : ∃ z, (a1 + 7) / 8 = z := ⟨_, rfl⟩
      have Hz := Lib.hid hz
      have hb8 := HD.out.len.1
      have hl8 := Hl.out
      have e1 : ((a1 : Int) + 7) / 8 = (z : Int) := by omega
      have e3 : IntKind.i64.wrap ((a1 : Int) + 7) = (a1 : Int) + 7 := IntWalk.i64_in _ (by omega)
      have e4 : IntKind.i64.wrap (z : Int) = (z : Int) := IntWalk.i64_in _ (by omega)
      clear hz HC HE
      go_upto_region 20 with (fail)
      go_quiet (fail)
      rename_i nq
      have Hd := Lib.hid (Below.drewN' (Below.refl wr.heap.size wr) nq)
      have HDf := Lib.hid (HD.out.below Hd.out)
      have HBf := Lib.hid (Below.thn HB.out Hd.out)
      go_wp2
      go_ret3
      exact ⟨_, z, Hz.out.symm, by rw [← e1]; rfl, HDf.out.out, HBf.out⟩

end Go.Proofs.YtebfdoipogjpnaaGreat

/- The walk of the statement DeflateReads. -/
namespace Go.Proofs.YtebfdoipogjpnaaGreat
open Go.RowKit Go.Maps

theorem DefS.tells {b S : List Nat} (h : DefS b S) (hb : ∀ x ∈ b, x < 256) (hl : b.length ≤ 524288) : ∃ a, InfBl S b.length 0 [] (.go a b) ∧ alN a / 8 = S.length := by
  have hi := h.infl hb hl [] (lim := b.length) hl (Nat.le_refl _)
  rw [List.append_nil] at hi
  obtain ⟨lim, a, e, -, h2, h3, -, -, -⟩ := hi.ok
  have e' : b.length = lim := by omega
  subst e'
  exact ⟨a, h2, h3.symm⟩

set_option maxRecDepth 20000 in
set_option maxHeartbeats 4000000 in
theorem dreads_any (v0 : Value) (b : List Nat) (w : World) (hv0 : Rw8 w v0 b) (hb0 : ∀ x ∈ b, x < 256) :
    Makes Tryz.prog 3 #[v0] w (.bool true) := by
  unfold Makes
  have Hv0 := Lib.hid hv0
  have Hby := Lib.hid hb0
  obtain ⟨p0, c0, rfl, -⟩ := hv0.cells
  clear hv0 hb0
  obtain ⟨N, hN⟩ : ∃ N, b.length = N := ⟨_, rfl⟩
  have HN := Lib.hid hN
  rw [hN] at Hv0 ⊢
  clear hN
  go_enter Tryz.func3, Tryz.ntmps3
  by_cases hl : 400 < N
  · have d0 : decide (400 < N) = true := by simpa using hl
    have d0' : decide ((N : Int) > 400) = true := by simp only [decide_eq_true_eq]; omega
    go_wp2
    go_ret
    exact ⟨rfl, Below.refl _ _⟩
  have d0 : decide (400 < N) = false := by simpa using hl
  have d0' : decide ((N : Int) > 400) = false := by simp only [decide_eq_false_iff_not]; omega
  go_wp2_with fail
  refine Calls.mono (deflate_any _ b w Hv0.out Hby.out (by rw [HN.out]; omega)) ?_
  rintro _ w1 ⟨va, S, rfl, hS, hSl, ho1, hb1⟩
  have HS := Lib.hid hS
  have Hr1 := Lib.hid (Rw8.own ho1 rfl)
  have Hb1 := Lib.hid hb1
  obtain ⟨a, ha1, ha2⟩ := hS.tells Hby.out (by rw [HN.out]; omega)
  have Ha := Lib.hid (And.intro ha1 ha2)
  have h5 : S.length ≤ 1000 := by
    obtain ⟨ts, -, ht, -⟩ := hS.ex
    have := (hS.small ht).1
    rw [stB_sz, HN.out] at this
    have e : stJ N = 0 := by unfold stJ; omega
    rw [e] at this
    omega
  obtain ⟨pa, ca, rfl⟩ := owns_slice ho1
  obtain ⟨n, hn⟩ : ∃ n, S.length = n := ⟨_, rfl⟩
  have Hn := Lib.hid hn
  rw [hn] at h5 Hr1 hSl ⊢
  clear hS ho1 hb1 hn ha1 ha2
  have Hinf := Lib.hid (refInflate_any (l := S) (b := b) (lim := N) (a := a) _ w1 Hr1.out HS.out.lt (by rw [Hn.out]; exact h5) (by omega) (by rw [← HN.out]; exact Ha.out.1))
  go_wp2_with fail
  refine Calls.mono Hinf.out ?_
  rintro _ w2 ⟨v2, z, hz, rfl, ho2, hb2⟩
  have hzn : z = n := by
    have h1 := Ha.out.2
    rw [Hn.out] at h1
    unfold alN at h1
    omega
  subst hzn
  have hst2 := strI_row (Rw8.own ho2 rfl).row
  have hstb := strI_row (Hv0.out.below (Below.thn Hb1.out hb2)).row
  obtain ⟨p2, c2, rfl⟩ := owns_slice ho2
  obtain ⟨X, hX⟩ : ∃ X, strI b = X := ⟨_, rfl⟩
  rw [hX] at hst2 hstb
  rw [HN.out] at hst2 ⊢
  have d5 : ((z : Int) == (z : Int)) = true := by simp
  have Hb2 := Lib.hid (Below.thn Hb1.out hb2)
  clear ho2 hb2 hX hz Hinf
  go_wp2_with fail
  refine Calls.mono (dlays_law w2) ?_
  rintro _ w5 ⟨rfl, hb5⟩
  have Hb5 := Lib.hid (Below.thn Hb2.out hb5)
  clear hb5
  go_wp2
  go_ret
  exact ⟨rfl, Hb5.out⟩

end Go.Proofs.YtebfdoipogjpnaaGreat
