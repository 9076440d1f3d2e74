/- The walk of the statement InfLaid: tokens that are laid as blocks are told as their bytes. -/
import Derived.Test.YtdcmalbbijchiaaZq47
namespace Go.Proofs.Ytdcmalbbijchiaa
open Go.RowKit Go.Maps

theorem bk_at {w : World} {p : Option Addr} {l : List BkE} (h : RowAt encBk 2 w p l) {i : Nat} (hi : i < l.length) : ∃ b off, p = some ⟨b, off, none⟩ ∧ w.cell? ⟨b, off + i * 2, none⟩ = some (.int .u8 (l[i].k : Int)) ∧ w.cell? ⟨b, off + i * 2 + 1, none⟩ = some l[i].v := by
  rcases h with ⟨-, rfl⟩ | ⟨b, off, rfl, -, h4⟩
  · simp at hi
  · exact ⟨b, off, rfl, h4 i _ (List.getElem?_eq_getElem hi) 0 _ rfl, h4 i _ (List.getElem?_eq_getElem hi) 1 _ rfl⟩
theorem tok_infoI : (Try.prog.info? 40).map (fun i => (i.zero, i.size, i.bytes)) = some (some (.agg #[.int .u8 0, .int .i64 0, .int .i64 0]), 3, 24) := by kernel_rfl
theorem tok_src {W : World} {p : Option Addr} {n c : Nat} {ts : List Tk} (h : RowIn encT 3 W (.slice p n c) ts) (hz : ∀ n' c', Value.slice p n c = .slice none n' c' → c' = 0) : (p = none ∧ n = 0 ∧ c = 0) ∨ ∃ ad, p = some ad ∧ ∀ j u, (ts.flatMap encT)[j]? = some u → W.cell? (ad.add j) = some u := by
  obtain ⟨p', c', e, h1, h2, h3⟩ := h
  cases e
  cases p with
  | none =>
    refine .inl ⟨rfl, ?_, hz _ _ rfl⟩
    have := hz _ _ rfl
    omega
  | some ad =>
    rcases h3 with rfl | h3
    · exact .inr ⟨ad, rfl, fun j u hu => by simp at hu⟩
    · have hr : RwG encT 3 W (.slice (some ad) ts.length c) ts := ⟨⟨_, c, rfl, h1, h2, h3⟩, fun c h => by cases h⟩
      obtain ⟨p', c', e, -, -, hs⟩ := hr.src encT_len (by decide)
      cases e
      exact hs
theorem flatT_len : ∀ ts : List Tk, (ts.flatMap encT).length = ts.length * 3
  | [] => rfl
  | t :: r => by rw [List.flatMap_cons, List.length_append, flatT_len r, encT_len, List.length_cons]; omega
theorem slice_fromL (p : Option Addr) (n c m : Nat) (h : m ≤ n) (w : World) : (Instr.slice 23 (.slice p n c) (some (.int .i64 (m : Int))) none none).run Try.prog w = .ok (.slice (if c = m then p else p.map fun x => x.add m) (n - m) (c - m)) w := by
  obtain ⟨i, hi, hz, hs, hb⟩ := info_parts u8_info
  rw [run_slice_l w 23 p n c (by kernel_rfl) .i64 (m : Int) (by omega) (by omega), Int.toNat_natCast]
  simp [go_sem]
theorem bs_drop {w : World} {base : Nat} {p : Option Addr} {n c m : Nat} {o : List Nat} (h : w.ownsRow base 5 1 (.slice p n c) o.length (o.map u8v)) (hc : o.length ≤ c) : BsAt w (if c = m then p else p.map fun x => x.add m) (o.drop m) := by
  intro i hi
  rw [List.length_drop] at hi
  obtain ⟨g, c', e, -, -, hx⟩ := owns_ptr h (by omega)
  injection e with e _ _
  subst e
  rw [if_neg (by omega)]
  refine ⟨g, m, by simp [Addr.add]; omega, ?_⟩
  rw [hx (m + i) (.int .u8 (((o.drop m).getD i 0 : Nat) : Int)) (by rw [List.getElem?_map, List.getElem?_eq_getElem (by omega), List.getD_eq_getElem?_getD, List.getElem?_drop, List.getElem?_eq_getElem (by omega)]; rfl)]

theorem rw_empty {w w' : World} {p : Option Addr} {n c : Nat} (h : Rw8 w (.slice p n c) []) (hs : w.heap.size ≤ w'.heap.size) : Rw8 w' (.slice p n c) [] := by
  obtain ⟨⟨p', c', e, h1, h2, h3⟩, h4⟩ := h
  refine ⟨⟨p', c', e, h1, h2, ?_⟩, h4⟩
  rcases h3 with h3 | ⟨b, off, e2, h5, -⟩
  · exact .inl h3
  · exact .inr ⟨b, off, e2, Nat.lt_of_lt_of_le h5 hs, fun i x hx => by simp at hx⟩
theorem src_of8 {w : World} {p : Option Addr} {n c : Nat} {l : List Nat} (h : Rw8 w (.slice p n c) l) : (p = none ∧ n = 0 ∧ c = 0) ∨ ∃ ad, p = some ad ∧ ∀ j u, (l.map u8v)[j]? = some u → w.cell? (ad.add j) = some u := by
  obtain ⟨p', c', e, -, -, hs⟩ := h.src enc8_len (by decide)
  injection e with e1 e2 e3
  subst e1 e2 e3
  rwa [flat8] at hs
/-- What the loop over the blocks keeps. -/
structure LaidI (w : World) (B : Nat) (L i : Nat) (v : Value) (sz : Nat) (A : List Tk) (bs : List Bn) (wr : World) : Prop where
  own : wr.ownsRow (B + 1) 40 3 v A.length (A.flatMap encT)
  wy : WrY (Gq w.heap.size v) (B + 1) B (if i < L then putF 0 bs else putB 0 bs) wr wr
  bl : Below w.heap.size w wr
  la : A.length ≤ 300
  ok : (xp A []).2 = 0
  szo : (xp A []).1.length = sz
  small : sz ≤ 20000
  byte : ∀ t ∈ A, t.b < 256
  okb : okB bs []
  tell : tellB bs [] = (xp A []).1
  room : szP (putF 0 bs) ≤ 180000 * i
  lb : bs.length = i

set_option maxRecDepth 20000 in
set_option maxHeartbeats 16000000 in
theorem ilaid_any (v vb : Value) (l : List BkE) (bh : List Nat) (w : World) (hv : RwG encBk 2 w v l) (hg : ∀ b ∈ l, GoodBk w b) (hvb : Rw8 w vb bh) (hbh : ∀ x ∈ bh, x < 256) :
    Makes Try.prog 3 #[v, vb] w (.bool true) := by
  unfold Makes
  have Hvb := Lib.hid hvb
  have Hbh := Lib.hid hbh
  have Hg := Lib.hid hg
  obtain ⟨p, c, rfl, hc1, hc2, hrow⟩ := hv.row
  obtain ⟨pb, cb, rfl, -⟩ := hvb.cells
  have Hrow := Lib.hid hrow
  obtain ⟨L, hL⟩ : ∃ L, l.length = L := ⟨_, rfl⟩
  obtain ⟨M, hM⟩ : ∃ M, bh.length = M := ⟨_, rfl⟩
  have HL := Lib.hid hL
  have HM := Lib.hid hM
  simp only [hL, hM]
  clear hv hg hvb hbh hrow hL hM hc1 hc2
  go_enter Try.func3, Try.ntmps3
  by_cases h20 : 20 < L
  · have d0 : decide ((L : Int) > 20) = true := by simp; omega
    go_wp2
    go_ret
    exact ⟨rfl, Below.refl _ _⟩
  by_cases h100 : 100 < M
  · have d0 : decide ((L : Int) > 20) = false := by simp; omega
    have d1 : decide ((M : Int) > 100) = true := by simp; omega
    go_wp2
    go_ret
    exact ⟨rfl, Below.refl _ _⟩
  have d0 : decide ((L : Int) > 20) = false := by simp; omega
  have d1 : decide ((M : Int) > 100) = false := by simp; omega
  clear d0 d1
  go_upto_region 4 with (fail)
  obtain ⟨B, hB⟩ : ∃ B, w.heap.size = B := ⟨_, rfl⟩
  have hw1 : WrY (Gq w.heap.size (.slice none 0 0)) (w.heap.size + 1) w.heap.size [] (w.alloc (.cells #[.slice none 0 0, .int .i64 0] 25)) (w.alloc (.cells #[.slice none 0 0, .int .i64 0] 25)) := by
    obtain ⟨sv, h1, h2, h3, -, -⟩ := WrI.new w
    have e : sv = .slice none 0 0 := by
      have a := h1.box
      rw [World.alloc_heap_new] at a
      injection a with a
      injection a with a _ _
      have := congrArg (fun x => x[0]?) a
      simpa using this.symm
    subst e
    refine ⟨_, h1, h3, by decide, Turns.refl _ _, fun b hb => ?_⟩
    rcases hb with hb | hb
    · exact ⟨by omega, by simp [Value.ownBlock], by rw [World.size_alloc]; omega⟩
    · cases hb
  have hbl1 := Below.al1 w (.cells #[.slice none 0 0, .int .i64 0] 25)
  generalize w.alloc (.cells #[.slice none 0 0, .int .i64 0] 25) = w1 at *
  have HBs := Lib.hid hB
  rw [hB] at hw1 ⊢
  have H1 : Hid (LaidI w B L 0 (.slice none 0 0) 0 [] [] w1) := Lib.hid ⟨World.ownsRow_nil _ _ _ _, by rw [hB]; simpa [putF, putB] using hw1, hbl1, by simp, rfl, rfl, by omega, (fun t ht => by cases ht), trivial, rfl, Nat.le_refl _, rfl⟩
  clear hw1 hbl1 hB
  go_wp2_with fail
  go_loopw [6, 7, 8] (fun av zv iv wr => ∃ (i sz : Nat) (A : List Tk) (bs : List Bn), iv = .int .i64 (i : Int) ∧ zv = .int .i64 (sz : Int) ∧ i ≤ L ∧ Hid (LaidI w B L i av sz A bs wr)) (fun _ _ iv _ => L - (intOf iv).toNat)
  case atStart => exact ⟨0, 0, [], [], rfl, rfl, Nat.zero_le _, H1⟩
  case round =>
    clear H1
    obtain ⟨i, sz, A, bs, rfl, rfl, hi, HI⟩ := hrel
    obtain ⟨p6, c6, rfl⟩ := owns_slice HI.out.own
    by_cases hin : i < L
    · have d0 : decide ((i : Int) < (L : Int)) = true := by simp; omega
      have hin' : i < l.length := by rw [HL.out]; exact hin
      obtain ⟨gb, off, rfl, k0, k1⟩ := bk_at Hrow.out hin'
      have K0 := k0
      have K1 := k1
      have k0 := cell_later HI.out.bl k0
      have k1 := cell_later HI.out.bl k1
      obtain ⟨hk, hr, ht, hz⟩ := Hg.out _ (List.getElem_mem hin')
      generalize l[i] = be at *
      obtain ⟨k, tv, ts⟩ := be
      simp only at k0 k1 hk hr ht hz K0 K1
      obtain ⟨pt, ct, rfl, hct1, hct2, hrt⟩ := id hr
      have Hr := Lib.hid hr
      have Hz := Lib.hid hz
      have Ht := Lib.hid ht
      have Hrt := Lib.hid hrt
      obtain ⟨n, hn⟩ : ∃ n, ts.length = n := ⟨_, rfl⟩
      have Hn := Lib.hid hn
      have hla := HI.out.la
      obtain ⟨a, ha⟩ : ∃ a, A.length = a := ⟨_, rfl⟩
      have Ha := Lib.hid ha
      rw [ha] at hla
      rw [hn] at k1 hct1 Hr Hz K1
      try simp only [ha]
      have i0 : (0 : Int) ≤ (i : Int) := by omega
      have i1 : (i : Int) < (L : Int) := by omega
      clear hr hz ht hrt ha hin'
      by_cases h300 : 300 - a < n
      · have d1 : decide ((n : Int) > 300 - (a : Int)) = true := by simp; omega
        go_wp2
        go_ret
        exact ⟨rfl, HI.out.bl⟩
      · have d1 : decide ((n : Int) > 300 - (a : Int)) = false := by simp; omega
        obtain ⟨j0, hi0, hz0, hz1, hz2⟩ := info_parts tok_infoI
        have hown := HI.out.own
        rw [Ha.out] at hown
        have Hown := Lib.hid hown
        have Hsrc := Lib.hid (tok_src (Hr.out.below HI.out.bl) Hz.out)
        have hbase : B + 1 ≤ wr.heap.size := by obtain ⟨_, _, h2, _⟩ := HI.out.wy; exact h2
        clear hown
        go_wp2_with (at_builtin; refine wpList_append_mine wr rfl (.tmp 44) (.tmp 49) 26 rfl (B + 1) 40 j0 _ 3 24 Try.underlying26 hi0 hz0 hz1 hz2 rfl (by decide) (.slice p6 a c6) a (A.flatMap encT) rfl Hown.out pt n ct (ts.flatMap encT) rfl ?n2 Hsrc.out (encT_one _) ?n3 ?n4 hbase ?_)
        case n2 =>
          have := flatT_len ts
          rw [List.length_flatMap] at this
          rw [this, Hn.out]
        case n3 => simp only [maxLen]; omega
        case n4 => omega
        intro v2 w2 ho2 hg2 hp2
        have ht2 : Turns (fun b => (Value.slice p6 a c6).ownBlock = some b) wr w2 := Turns.of_grown hg2 (fun _ e => e)
        have hwy := HI.out.wy
        rw [Ha.out] at hwy
        rw [← List.flatMap_append] at ho2
        have hA2 : (A ++ ts).length = a + n := by rw [List.length_append, Ha.out, Hn.out]
        have hWy := hwy.grow ht2 hp2 (fun k hk => (ho2.lt k hk).2)
        have hbl2 : Below w.heap.size w w2 := HI.out.bl.trans (ht2.below HI.out.bl.size (fun i hi => by have := (Hown.out.lt i hi).1; rw [HBs.out]; omega))
        rw [← hA2] at ho2
        have hrow2 : Row encT 3 w2 v2 (A ++ ts) := owns_row' encT_len ho2
        have Hcall := Lib.hid (expand_any (A ++ ts) v2 w2 hrow2 (by rw [hA2]; omega))
        have HF0 : Hid (WrF (Gq w.heap.size v2) w2 (fun w' => Below w.heap.size w w' ∧ w'.ownsRow (B + 1) 40 3 v2 (A ++ ts).length ((A ++ ts).flatMap encT)) (B + 1) B (putF 0 bs) w2) := Lib.hid (WrF.start (by have := hWy; rwa [if_pos hin] at this) (fun w' ht => ⟨hbl2.trans (ht.below hbl2.size (fun i hi => by
          by_cases h : i < w.heap.size
          · exact absurd (Or.inl h) hi
          · omega)), ht.owns ho2 (fun k hk hn => hn (.inr hk))⟩))
        obtain ⟨p2, c2, rfl⟩ := owns_slice ho2
        have Hxa := Lib.hid (xp_append A ts [])
        rw [if_pos HI.out.ok] at Hxa
        rw [hA2] at ho2 HF0 Hcall ⊢
        have K0 := Lib.hid K0
        have K1 := Lib.hid K1
        clear ho2 hg2 hp2 ht2 hWy hwy hbl2 hrow2 Hsrc hi0 hz0 hz1 hz2 k0 k1 hbase
        go_wp2_with fail
        refine Calls.mono Hcall.out ?_
        rintro _ w3 ⟨v3, rfl, ho3, hb3⟩
        obtain ⟨R, hR⟩ : ∃ R, xp (A ++ ts) [] = R := ⟨_, rfl⟩
        have HR := Lib.hid hR
        rw [hR] at ho3 ⊢
        obtain ⟨o3, e3⟩ := R
        simp only at ho3 ⊢
        have H3 := Lib.hid (HF0.out.more hb3 (fun w' ht => new_owns ht ho3))
        obtain ⟨n3, hn3⟩ : ∃ n3, o3.length = n3 := ⟨_, rfl⟩
        have Hn3 := Lib.hid hn3
        have hc3 : ∃ p3 c3, v3 = .slice p3 o3.length c3 ∧ o3.length ≤ c3 := by
          obtain ⟨p', c', e, h, -⟩ := (Rw8.own ho3 rfl).cells
          exact ⟨p', c', e, h⟩
        obtain ⟨p3, c3, rfl, hc3⟩ := hc3
        rw [hn3] at ho3 hc3 ⊢
        clear HF0 Hcall hR hn3
        by_cases he : e3 = 0
        · subst he
          by_cases h2k : 20000 < n3
          · have d2 : decide ((n3 : Int) > 20000) = true := by simp; omega
            go_wp2_with fail
            refine Calls.mono (ireads_law w3) ?_
            rintro _ w9 ⟨rfl, hb9⟩
            have Hb9 := Lib.hid (Below.thn H3.out.now.1.1 hb9)
            clear hb9
            go_wp2
            go_ret
            exact ⟨rfl, Hb9.out⟩
          · have d2 : decide ((n3 : Int) > 20000) = false := by simp; omega
            have hxt : xp ts (xp A []).1 = (o3, 0) := by rw [← Hxa.out, HR.out]
            have hpre : sz ≤ n3 := by
              have h1 := xp_pre ts (xp A []).1 (by rw [hxt])
              rw [hxt] at h1
              have h2 := h1.length_le
              rwa [HI.out.szo, Hn3.out] at h2
            have h256 : ∀ t ∈ ts, t.b < 256 := fun t ht => (Ht.out t ht).1
            have hob : ∀ x ∈ (xp A []).1, x < 256 := xp_byte A [] (fun b hb => by cases hb) HI.out.byte
            have hok := Lib.hid (fun (b : Bn) (hb : LayB k ts ((xp ts (xp A []).1).1.drop (xp A []).1.length) b) => layB_ok hb (by rw [hxt]) h256 hob (by rw [hxt, Hn3.out]; omega) (by rw [Hn.out]; omega))
            have hxb : ∀ x ∈ o3, x < 256 := by
              have := xp_byte ts (xp A []).1 hob h256
              rwa [hxt] at this
            have Hby : Hid (∀ j, (o3.drop sz).getD j 0 < 256) := Lib.hid (fun j => by
              rw [List.getD_eq_getElem?_getD]
              cases e : (o3.drop sz)[j]? with
              | none => decide
              | some x => exact hxb x (List.mem_of_mem_drop (List.mem_of_getElem? e)))
            have Htk : Hid (∀ t ∈ ts, t.okB = true ∧ t.b < 256) := Lib.hid (fun t ht => ⟨xp_okB (by rw [hxt]) t ht, h256 t ht⟩)
            rw [hxt, HI.out.szo] at hok
            have hdl : (o3.drop sz).length = n3 - sz := by rw [List.length_drop, Hn3.out]
            have Hdl := Lib.hid hdl
            have Hxt := Lib.hid hxt
            have k0 := cell_later H3.out.now.1.1 K0.out
            have k1 := cell_later H3.out.now.1.1 K1.out
            have hsl := slice_fromL p3 n3 c3 sz hpre
            have hBd : ∀ w' : World, w'.ownsRow w2.heap.size 5 1 (.slice p3 n3 c3) n3 (o3.map u8v) → BsAt w' (if c3 = sz then p3 else p3.map fun x => x.add sz) (o3.drop sz) := fun w' h => bs_drop (base := w2.heap.size) (n := n3) (by rw [Hn3.out]; exact h) (by rw [Hn3.out]; exact hc3)
            obtain ⟨q, hq⟩ : ∃ q, (if c3 = sz then p3 else p3.map fun x => x.add sz) = q := ⟨_, rfl⟩
            simp only [hq] at hsl hBd
            have HBd := Lib.hid hBd
            clear hBd hq
            have d3 : decide ((n3 : Int) < (sz : Int)) = false := by simp; omega
            obtain ⟨lb, hlb⟩ : ∃ lb, ((i : Int) == (L : Int) - 1) = lb := ⟨_, rfl⟩
            have Hlb := Lib.hid hlb
            have s0 : (0 : Int) ≤ (sz : Int) := by omega
            have s1 : (sz : Int) ≤ (n3 : Int) := by omega
            have s2 : (sz : Int) ≤ (c3 : Int) := by omega
            have hroom := HI.out.room
            have Hroom : Hid (szP (putF 0 bs) ≤ 8000000) := Lib.hid (by omega)
            clear hxt h256 hob hxb hdl hroom
            go_upto_region 17 with (fail)
            have hqq := After.ne w3
            have C0 := After.rule k0
            have C1 := After.rule k1
            refine wp_region_head 12 (by kernel_rfl) (by kernel_rfl) (by kernel_rfl) ?_
            repeat (refine Lq_step (fun K hK => ?_); go_simp; (refine hK _ ?_; clear hK K))
            refine Lq_nil ?_
            intro w4 hb4
            simp only [List.drop_succ_cons, List.drop_zero]
            have H4 := Lib.hid (H3.out.below hb4)
            clear C0 C1 hqq hb4 k0 k1
            have hcall := layS_any k lb pt q ct (c3 - sz) ts (o3.drop sz) w4 hk H4.out (fun w' h => Hrt.out.imp id (fun hr => hr.below h.1.1)) (by rw [Hn.out]; exact ⟨hct1, hct2⟩) Htk.out (by rw [Hn.out]; omega)
              (fun w' h => HBd.out w' (by have := h.2; rwa [Hn3.out] at this)) Hby.out (by rw [Hdl.out]; omega) Hroom.out
            rw [Hn.out, Hdl.out] at hcall
            have Hcall := Lib.hid hcall
            clear hcall
            go_wp2_with fail
            refine Calls.mono Hcall.out ?_
            rintro _ w5 ⟨rfl, b, hLB, h5⟩
            obtain ⟨b1, b2, b3⟩ := hok.out b hLB
            obtain ⟨⟨f1, f2⟩, -⟩ := h5.now
            have hWy5 := h5.done.here
            have hin2 : i + 1 < L ∨ i + 1 = L := by omega
            have hbsz := bn_sz b1 b3
            have hoksn : okB (bs ++ [b]) [] := okB_snoc HI.out.okb (by rw [HI.out.tell]; exact b1)
            have htsn : tellB (bs ++ [b]) [] = o3 := by rw [tellB_snoc, HI.out.tell, b2]
            have H6 : Hid (LaidI w B L (i + 1) (.slice p2 (a + n) c2) n3 (A ++ ts) (bs ++ [b]) w5) := Lib.hid
              { own := by rw [List.length_append, Ha.out, Hn.out]; exact f2
                wy := by
                  rcases hin2 with h | h
                  · rw [if_pos h, putF_snoc, Nat.zero_add]
                    have e : lb = false := by rw [← Hlb.out]; simp; omega
                    rw [e] at hWy5
                    exact hWy5
                  · rw [if_neg (by omega), putB_snoc, Nat.zero_add]
                    have e : lb = true := by rw [← Hlb.out]; simp; omega
                    rw [e] at hWy5
                    exact hWy5
                bl := f1
                la := by rw [List.length_append, Ha.out, Hn.out]; omega
                ok := by rw [HR.out]
                szo := by rw [HR.out]; exact Hn3.out
                small := by omega
                byte := fun t ht => by
                  rcases List.mem_append.1 ht with h | h
                  · exact HI.out.byte t h
                  · exact (Htk.out t h).2
                okb := hoksn
                tell := by rw [htsn, HR.out]
                room := by
                  rw [putF_snoc, szP_app, Nat.zero_add]
                  have := HI.out.room
                  have := hbsz (szP (putF 0 bs)) false
                  omega
                lb := by rw [List.length_append, HI.out.lb]; rfl }
            clear h5 f1 f2 hWy5 hbsz hoksn htsn b1 b2 b3 hLB hin2
            go_wp2
            go_roundw
            case rel => exact ⟨i + 1, n3, A ++ ts, bs ++ [b], by go_num, rfl, by omega, H6⟩
            case measure => simp [intOf]; omega
        · have d2 : (e3 != 0) = true := by simpa using he
          go_wp2_with fail
          refine Calls.mono (ireads_law w3) ?_
          rintro _ w9 ⟨rfl, hb9⟩
          have Hb9 := Lib.hid (Below.thn H3.out.now.1.1 hb9)
          clear hb9
          go_wp2
          go_ret
          exact ⟨rfl, Hb9.out⟩
    · obtain rfl : i = L := by omega
      have Hcall := Lib.hid (expand_any A _ wr (owns_row' encT_len HI.out.own) (by have := HI.out.la; omega))
      obtain ⟨a, ha⟩ : ∃ a, A.length = a := ⟨_, rfl⟩
      have hsm := HI.out.small
      try simp only [ha]
      rw [ha] at Hcall
      clear ha
      go_wp2_with fail
      refine Calls.mono Hcall.out ?_
      rintro _ w3 ⟨v3, rfl, ho3, hb3⟩
      have HSZ := Lib.hid HI.out.szo
      have HWANT : Hid (Rw8 w3 v3 (xp A []).1) := Lib.hid (Rw8.own ho3 rfl)
      obtain ⟨p3, c3, rfl⟩ := owns_slice ho3
      rw [HI.out.ok]
      have HBL := Lib.hid (Below.thn HI.out.bl hb3)
      have hwy := (HI.out.wy.below hb3).here
      rw [if_neg (Nat.lt_irrefl _)] at hwy
      rw [HSZ.out] at HWANT ⊢
      clear Hcall ho3
      by_cases hL0 : i = 0
      · have d3 : ((i : Int) == 0) = true := by simp; omega
        have hbs : bs = [] := List.eq_nil_of_length_eq_zero (by rw [HI.out.lb]; exact hL0)
        have hx0 := HI.out.tell
        rw [hbs] at hwy hx0
        have hcall := layS_any 1 true none none 0 0 [] [] w3 (by decide) (WrF.start hwy (F := fun w' => Turns (fun b => ¬ Gq w.heap.size (.slice p6 A.length c6) b) w3 w') (fun _ h => h)) (fun _ _ => .inl rfl) ⟨Nat.le_refl _, Nat.zero_le _⟩ (fun t ht => by cases ht) (Nat.zero_le _) (fun _ _ i hi => absurd hi (Nat.not_lt_zero _)) (fun i => by simp) (Nat.zero_le _) (by decide)
        have Hcall := Lib.hid hcall
        clear hcall hwy
        go_wp2_with fail
        refine Calls.mono Hcall.out ?_
        rintro _ w2 ⟨rfl, b, hLB, h5⟩
        obtain rfl : b = .fx [] := by
          rcases hLB with ⟨h, -⟩ | ⟨-, h⟩ | ⟨h, -⟩
          · exact absurd h (by decide)
          · exact h
          · exact absurd h (by decide)
        have ht5 := h5.now
        have HBL2 := Lib.hid (HBL.out.trans (ht5.below HBL.out.size (fun q hq => by
          by_cases h : q < w.heap.size
          · exact absurd (Or.inl h) hq
          · omega)))
        have HWy := Lib.hid (h5.done.here.congr (show _ = putB 0 [.fx []] by simp [putB]; rfl))
        have HWANT2 : Hid (Rw8 w2 (.slice p3 sz c3) (xp A []).1) := Lib.hid (by
          have h := HWANT.out
          rw [← hx0] at h ⊢
          exact rw_empty h ht5.size)
        have HNE : ([.fx []] : List Bn) ≠ [] := by simp
        have HOK : Hid (okB [.fx []] []) := Lib.hid ⟨trivial, trivial⟩
        have HTL : Hid (tellB [.fx []] [] = (xp A []).1) := Lib.hid hx0
        clear HWANT HBL h5 hLB ht5 hx0 hbs HI Hcall hb3
        have HWANT := HWANT2
        have HBL := HBL2
        clear HWANT2 HBL2
        obtain ⟨sv, g1, -, g3, -⟩ := HWy.out
        have Hcb := Lib.hid (wbytes_any (B + 1) B (nmP (putB 0 [.fx []])) (szP (putB 0 [.fx []])) sv w2 g1 g3)
        have hSl : (bytP (putB 0 [.fx []])).length ≤ 1048577 := by rw [bytP_len]; omega
        have hSb : ∀ x ∈ bytP (putB 0 [.fx []]), x < 256 := byts_lt _ _
        have hl1 := (laid_infl HNE HOK.out bh (lim := sz) (by omega)).1 (by rw [HTL.out, HSZ.out]; exact Nat.le_refl _)
        have hl2 : 0 < sz → Infl (bytP (putB 0 [.fx []]) ++ []) ((sz - 1 : Nat) : Int) [] 0 81 := fun h => (laid_infl HNE HOK.out [] (lim := sz - 1) (by omega)).2 (by rw [HTL.out, HSZ.out]; omega)
        rw [HTL.out] at hl1
        obtain ⟨S, hS⟩ : ∃ S, bytP (putB 0 [.fx []]) = S := ⟨_, rfl⟩
        have hS' : byts (nmP (putB 0 [.fx []])) ((szP (putB 0 [.fx []]) + 7) / 8) = S := hS
        rw [hS'] at Hcb
        rw [hS] at hSl hSb hl1 hl2
        rw [List.append_nil] at hl2
        have HL1 := Lib.hid hl1
        have HL2 := Lib.hid hl2
        have HSb := Lib.hid hSb
        clear g1 g3 hl1 hl2 hS hS' hSb
        go_wp2_with fail
        refine Calls.mono Hcb.out ?_
        rintro _ w4 ⟨v4, rfl, ho4, hb4⟩
        have Hv4 := Lib.hid (Rw8.own ho4 rfl)
        obtain ⟨p4, c4, rfl⟩ := owns_slice ho4
        obtain ⟨s, hs⟩ : ∃ s, S.length = s := ⟨_, rfl⟩
        have Hs := Lib.hid hs
        rw [hs] at hSl
        rw [hs] at Hv4 ⊢
        have Hb4 := Lib.hid (Below.thn HBL.out hb4)
        have Hwant4 := Lib.hid (HWANT.out.below hb4)
        clear Hcb ho4 hb4 hs HWANT HBL HWy
        obtain ⟨i0', hi0, hz0, hz1, hz2⟩ := info_parts u8_info
        have Hbe := Lib.hid (Below.al1 w4 (.cells #[] 5))
        have Hown := Lib.hid (show (w4.alloc (.cells #[] 5)).ownsRow w4.heap.size 5 1 (.slice (some ⟨w4.heap.size, 0, none⟩) 0 0) 0 [] from by
          simpa using World.ownsRow_lit (base := w4.heap.size) (size := 1) (e := 5) w4 #[] 0 (Nat.le_refl _) (Nat.zero_le _) rfl)
        have Hsrc : Hid ((p4 = none ∧ s = 0 ∧ c4 = 0) ∨ ∃ ad, p4 = some ad ∧ ∀ j u, (S.map u8v)[j]? = some u → (w4.alloc (.cells #[] 5)).cell? (ad.add j) = some u) := Lib.hid (src_of8 (Hv4.out.below Hbe.out))
        go_wp2_with (at_builtin; refine wpList_append_mine _ rfl (.tmp 95) (.tmp 96) 23 rfl w4.heap.size 5 i0' _ 1 1 Try.underlying23 hi0 hz0 hz1 hz2 rfl (by decide) (.slice (some ⟨w4.heap.size, 0, none⟩) 0 0) 0 [] rfl Hown.out p4 s c4 (S.map u8v) rfl (by simp [Hs.out]) Hsrc.out (one8 _) ?n3 ?n4 ?n5 ?_)
        case n3 => simp only [maxLen]; omega
        case n4 => omega
        case n5 => simp
        intro v5 w5 ho5 hg5 _
        have ht5 := Turns.of_grown (T := fun q => q = w4.heap.size) hg5 (fun i h => by cases h; rfl)
        have hb5 : Below w4.heap.size w4 w5 := Hbe.out.trans (ht5.below Hbe.out.size (fun i h => by omega))
        replace ho5 : w5.ownsRow w4.heap.size 5 1 v5 s (S.map u8v) := by simpa using ho5
        obtain ⟨p5, c5, rfl⟩ := owns_slice ho5
        have Ho5 := Lib.hid ho5
        have Hb5 := Lib.hid hb5
        have hs5 : w4.heap.size ≤ w5.heap.size := hb5.size
        have Hsrcb : Hid ((pb = none ∧ M = 0 ∧ cb = 0) ∨ ∃ ad, pb = some ad ∧ ∀ j u, (bh.map u8v)[j]? = some u → w5.cell? (ad.add j) = some u) := Lib.hid (src_of8 (by have := Hvb.out.below (Below.thn Hb4.out hb5); rwa [HM.out] at this))
        clear ho5 hg5 ht5 hb5 Hsrc Hown Hbe
        go_wp2_with (at_builtin; refine wpList_append_mine _ rfl (.tmp 97) (.tmp 98) 23 rfl w4.heap.size 5 i0' _ 1 1 Try.underlying23 hi0 hz0 hz1 hz2 rfl (by decide) (.slice p5 s c5) s (S.map u8v) rfl Ho5.out pb M cb (bh.map u8v) rfl (by simp [HM.out]) Hsrcb.out (one8 _) ?m3 ?m4 hs5 ?_)
        case m3 => simp only [maxLen]; omega
        case m4 => omega
        intro v6' w6 ho6 hg6 _
        have hb6 : Below w4.heap.size w4 w6 := Hb5.out.trans ((Turns.of_grown (T := fun q => (Value.slice p5 s c5).ownBlock = some q) hg6 (fun i h => h)).below hs5 (fun i h => (Ho5.out.lt i h).1))
        rw [← List.map_append] at ho6
        have hl6 : (S ++ bh).length = s + M := by rw [List.length_append, Hs.out, HM.out]
        have HR6 : Hid (Rw8 w6 v6' (S ++ bh)) := Lib.hid (Rw8.own ho6 hl6.symm)
        obtain ⟨p6', c6', rfl⟩ := owns_slice ho6
        have Hb6 := Lib.hid hb6
        have Hby6 : Hid (∀ b ∈ S ++ bh, b < 256) := Lib.hid (fun b hb => by
          rcases List.mem_append.1 hb with hb | hb
          · exact HSb.out b hb
          · exact Hbh.out b hb)
        have Hl6 := Lib.hid (show (S ++ bh).length ≤ 1073741824 by rw [hl6]; omega)
        clear ho6 hg6 hb6 hl6 Ho5 Hsrcb Hb5 hi0 hz0 hz1 hz2
        go_wp2_with fail
        refine Calls.mono (infl_any _ (S ++ bh) sz w6 HR6.out Hby6.out Hl6.out) ?_
        rintro _ w7 ⟨o7, k7, er7, ov7, hi7, rfl, ho7, hb7⟩
        obtain ⟨rfl, rfl, rfl⟩ := hi7.det HL1.out
        have hst7 := strI_row (Rw8.own ho7 rfl).row
        have hstw := strI_row (Hwant4.out.below (Below.thn Hb6.out hb7)).row
        have Hv7 := Lib.hid (Hv4.out.below (Below.thn Hb6.out hb7))
        have Hb7 := Lib.hid (Below.thn Hb4.out (Below.thn Hb6.out hb7))
        obtain ⟨p7, c7, rfl⟩ := owns_slice ho7
        obtain ⟨X, hX⟩ : ∃ X, strI (xp A []).1 = X := ⟨_, rfl⟩
        rw [hX] at hst7 hstw
        have hs7 := Hs.out
        rw [HSZ.out] at hst7 ⊢
        rw [hs7]
        have d5 : ((s : Int) != (s : Int)) = false := by simp
        clear hi7 ho7 hb7 HL1 HR6 Hby6 Hl6 Hb6 Hwant4 Hv4 hX hs7
        by_cases hz : 0 < sz
        · have d4 : decide ((sz : Int) > 0) = true := by simp; omega
          have d4' : decide (0 < sz) = true := by simpa using hz
          have hk1 : IntKind.i64.wrap ((sz : Int) - 1) = ((sz - 1 : Nat) : Int) := by rw [IntWalk.i64_in _ (by omega)]; omega
          have hk2 : wrap64 ((sz : Int) - 1) = ((sz - 1 : Nat) : Int) := by rw [wrap64_in _ (by omega)]; omega
          have hk3 : (sz : Int) - 1 = ((sz - 1 : Nat) : Int) := by omega
          have Hi8 := Lib.hid (infl_any _ S ((sz - 1 : Nat) : Int) w7 (by have := Hv7.out; exact this) HSb.out (by rw [Hs.out]; omega))
          have HL3 := Lib.hid (HL2.out hz)
          go_wp2_with fail
          refine Calls.mono Hi8.out ?_
          rintro _ w8 ⟨o8, k8, er8, ov8, hi8, rfl, ho8, hb8⟩
          obtain ⟨rfl, rfl, rfl⟩ := hi8.det HL3.out
          obtain ⟨p8, c8, rfl⟩ := owns_slice ho8
          have Hb8 := Lib.hid (Below.thn Hb7.out hb8)
          clear hi8 ho8 hb8 Hi8 HL3
          simp only [List.length_nil]
          go_wp2_with fail
          refine Calls.mono (ireads_law w8) ?_
          rintro _ w9 ⟨rfl, hb9⟩
          have Hb9 := Lib.hid (Below.thn Hb8.out hb9)
          clear hb9
          go_wp2
          go_ret
          exact ⟨rfl, Hb9.out⟩
        · have d4 : decide ((sz : Int) > 0) = false := by simp; omega
          have d4' : decide (0 < sz) = false := by simp; omega
          go_wp2_with fail
          refine Calls.mono (ireads_law w7) ?_
          rintro _ w9 ⟨rfl, hb9⟩
          have Hb9 := Lib.hid (Below.thn Hb7.out hb9)
          clear hb9
          go_wp2
          go_ret
          exact ⟨rfl, Hb9.out⟩
      · have d3 : ((i : Int) == 0) = false := by simp; omega
        have HNE : bs ≠ [] := fun h => hL0 (by rw [← HI.out.lb, h]; rfl)
        have HWy := Lib.hid hwy
        have HOK := Lib.hid HI.out.okb
        have HTL := Lib.hid HI.out.tell
        clear hwy HI
        obtain ⟨sv, g1, -, g3, -⟩ := HWy.out
        have Hcb := Lib.hid (wbytes_any (B + 1) B (nmP (putB 0 bs)) (szP (putB 0 bs)) sv w3 g1 g3)
        have hSl : (bytP (putB 0 bs)).length ≤ 1048577 := by rw [bytP_len]; omega
        have hSb : ∀ x ∈ bytP (putB 0 bs), x < 256 := byts_lt _ _
        have hl1 := (laid_infl HNE HOK.out bh (lim := sz) (by omega)).1 (by rw [HTL.out, HSZ.out]; exact Nat.le_refl _)
        have hl2 : 0 < sz → Infl (bytP (putB 0 bs) ++ []) ((sz - 1 : Nat) : Int) [] 0 81 := fun h => (laid_infl HNE HOK.out [] (lim := sz - 1) (by omega)).2 (by rw [HTL.out, HSZ.out]; omega)
        rw [HTL.out] at hl1
        obtain ⟨S, hS⟩ : ∃ S, bytP (putB 0 bs) = S := ⟨_, rfl⟩
        have hS' : byts (nmP (putB 0 bs)) ((szP (putB 0 bs) + 7) / 8) = S := hS
        rw [hS'] at Hcb
        rw [hS] at hSl hSb hl1 hl2
        rw [List.append_nil] at hl2
        have HL1 := Lib.hid hl1
        have HL2 := Lib.hid hl2
        have HSb := Lib.hid hSb
        clear g1 g3 hl1 hl2 hS hS' hSb
        go_wp2_with fail
        refine Calls.mono Hcb.out ?_
        rintro _ w4 ⟨v4, rfl, ho4, hb4⟩
        have Hv4 := Lib.hid (Rw8.own ho4 rfl)
        obtain ⟨p4, c4, rfl⟩ := owns_slice ho4
        obtain ⟨s, hs⟩ : ∃ s, S.length = s := ⟨_, rfl⟩
        have Hs := Lib.hid hs
        rw [hs] at hSl
        rw [hs] at Hv4 ⊢
        have Hb4 := Lib.hid (Below.thn HBL.out hb4)
        have Hwant4 := Lib.hid (HWANT.out.below hb4)
        clear Hcb ho4 hb4 hs HWANT HBL HWy
        obtain ⟨i0', hi0, hz0, hz1, hz2⟩ := info_parts u8_info
        have Hbe := Lib.hid (Below.al1 w4 (.cells #[] 5))
        have Hown := Lib.hid (show (w4.alloc (.cells #[] 5)).ownsRow w4.heap.size 5 1 (.slice (some ⟨w4.heap.size, 0, none⟩) 0 0) 0 [] from by
          simpa using World.ownsRow_lit (base := w4.heap.size) (size := 1) (e := 5) w4 #[] 0 (Nat.le_refl _) (Nat.zero_le _) rfl)
        have Hsrc : Hid ((p4 = none ∧ s = 0 ∧ c4 = 0) ∨ ∃ ad, p4 = some ad ∧ ∀ j u, (S.map u8v)[j]? = some u → (w4.alloc (.cells #[] 5)).cell? (ad.add j) = some u) := Lib.hid (src_of8 (Hv4.out.below Hbe.out))
        go_wp2_with (at_builtin; refine wpList_append_mine _ rfl (.tmp 95) (.tmp 96) 23 rfl w4.heap.size 5 i0' _ 1 1 Try.underlying23 hi0 hz0 hz1 hz2 rfl (by decide) (.slice (some ⟨w4.heap.size, 0, none⟩) 0 0) 0 [] rfl Hown.out p4 s c4 (S.map u8v) rfl (by simp [Hs.out]) Hsrc.out (one8 _) ?n3 ?n4 ?n5 ?_)
        case n3 => simp only [maxLen]; omega
        case n4 => omega
        case n5 => simp
        intro v5 w5 ho5 hg5 _
        have ht5 := Turns.of_grown (T := fun q => q = w4.heap.size) hg5 (fun i h => by cases h; rfl)
        have hb5 : Below w4.heap.size w4 w5 := Hbe.out.trans (ht5.below Hbe.out.size (fun i h => by omega))
        replace ho5 : w5.ownsRow w4.heap.size 5 1 v5 s (S.map u8v) := by simpa using ho5
        obtain ⟨p5, c5, rfl⟩ := owns_slice ho5
        have Ho5 := Lib.hid ho5
        have Hb5 := Lib.hid hb5
        have hs5 : w4.heap.size ≤ w5.heap.size := hb5.size
        have Hsrcb : Hid ((pb = none ∧ M = 0 ∧ cb = 0) ∨ ∃ ad, pb = some ad ∧ ∀ j u, (bh.map u8v)[j]? = some u → w5.cell? (ad.add j) = some u) := Lib.hid (src_of8 (by have := Hvb.out.below (Below.thn Hb4.out hb5); rwa [HM.out] at this))
        clear ho5 hg5 ht5 hb5 Hsrc Hown Hbe
        go_wp2_with (at_builtin; refine wpList_append_mine _ rfl (.tmp 97) (.tmp 98) 23 rfl w4.heap.size 5 i0' _ 1 1 Try.underlying23 hi0 hz0 hz1 hz2 rfl (by decide) (.slice p5 s c5) s (S.map u8v) rfl Ho5.out pb M cb (bh.map u8v) rfl (by simp [HM.out]) Hsrcb.out (one8 _) ?m3 ?m4 hs5 ?_)
        case m3 => simp only [maxLen]; omega
        case m4 => omega
        intro v6' w6 ho6 hg6 _
        have hb6 : Below w4.heap.size w4 w6 := Hb5.out.trans ((Turns.of_grown (T := fun q => (Value.slice p5 s c5).ownBlock = some q) hg6 (fun i h => h)).below hs5 (fun i h => (Ho5.out.lt i h).1))
        rw [← List.map_append] at ho6
        have hl6 : (S ++ bh).length = s + M := by rw [List.length_append, Hs.out, HM.out]
        have HR6 : Hid (Rw8 w6 v6' (S ++ bh)) := Lib.hid (Rw8.own ho6 hl6.symm)
        obtain ⟨p6', c6', rfl⟩ := owns_slice ho6
        have Hb6 := Lib.hid hb6
        have Hby6 : Hid (∀ b ∈ S ++ bh, b < 256) := Lib.hid (fun b hb => by
          rcases List.mem_append.1 hb with hb | hb
          · exact HSb.out b hb
          · exact Hbh.out b hb)
        have Hl6 := Lib.hid (show (S ++ bh).length ≤ 1073741824 by rw [hl6]; omega)
        clear ho6 hg6 hb6 hl6 Ho5 Hsrcb Hb5 hi0 hz0 hz1 hz2
        go_wp2_with fail
        refine Calls.mono (infl_any _ (S ++ bh) sz w6 HR6.out Hby6.out Hl6.out) ?_
        rintro _ w7 ⟨o7, k7, er7, ov7, hi7, rfl, ho7, hb7⟩
        obtain ⟨rfl, rfl, rfl⟩ := hi7.det HL1.out
        have hst7 := strI_row (Rw8.own ho7 rfl).row
        have hstw := strI_row (Hwant4.out.below (Below.thn Hb6.out hb7)).row
        have Hv7 := Lib.hid (Hv4.out.below (Below.thn Hb6.out hb7))
        have Hb7 := Lib.hid (Below.thn Hb4.out (Below.thn Hb6.out hb7))
        obtain ⟨p7, c7, rfl⟩ := owns_slice ho7
        obtain ⟨X, hX⟩ : ∃ X, strI (xp A []).1 = X := ⟨_, rfl⟩
        rw [hX] at hst7 hstw
        have hs7 := Hs.out
        rw [HSZ.out] at hst7 ⊢
        rw [hs7]
        have d5 : ((s : Int) != (s : Int)) = false := by simp
        clear hi7 ho7 hb7 HL1 HR6 Hby6 Hl6 Hb6 Hwant4 Hv4 hX hs7
        by_cases hz : 0 < sz
        · have d4 : decide ((sz : Int) > 0) = true := by simp; omega
          have d4' : decide (0 < sz) = true := by simpa using hz
          have hk1 : IntKind.i64.wrap ((sz : Int) - 1) = ((sz - 1 : Nat) : Int) := by rw [IntWalk.i64_in _ (by omega)]; omega
          have hk2 : wrap64 ((sz : Int) - 1) = ((sz - 1 : Nat) : Int) := by rw [wrap64_in _ (by omega)]; omega
          have hk3 : (sz : Int) - 1 = ((sz - 1 : Nat) : Int) := by omega
          have Hi8 := Lib.hid (infl_any _ S ((sz - 1 : Nat) : Int) w7 (by have := Hv7.out; exact this) HSb.out (by rw [Hs.out]; omega))
          have HL3 := Lib.hid (HL2.out hz)
          go_wp2_with fail
          refine Calls.mono Hi8.out ?_
          rintro _ w8 ⟨o8, k8, er8, ov8, hi8, rfl, ho8, hb8⟩
          obtain ⟨rfl, rfl, rfl⟩ := hi8.det HL3.out
          obtain ⟨p8, c8, rfl⟩ := owns_slice ho8
          have Hb8 := Lib.hid (Below.thn Hb7.out hb8)
          clear hi8 ho8 hb8 Hi8 HL3
          simp only [List.length_nil]
          go_wp2_with fail
          refine Calls.mono (ireads_law w8) ?_
          rintro _ w9 ⟨rfl, hb9⟩
          have Hb9 := Lib.hid (Below.thn Hb8.out hb9)
          clear hb9
          go_wp2
          go_ret
          exact ⟨rfl, Hb9.out⟩
        · have d4 : decide ((sz : Int) > 0) = false := by simp; omega
          have d4' : decide (0 < sz) = false := by simp; omega
          go_wp2_with fail
          refine Calls.mono (ireads_law w7) ?_
          rintro _ w9 ⟨rfl, hb9⟩
          have Hb9 := Lib.hid (Below.thn Hb7.out hb9)
          clear hb9
          go_wp2
          go_ret
          exact ⟨rfl, Hb9.out⟩

end Go.Proofs.Ytdcmalbbijchiaa
