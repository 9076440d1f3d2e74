/- Several texts in one, each with its own head. -/
import Derived.Test.YtajoipmchgabfaaGreatT28
import Derived.Test.YtajoipmchgabfaaGreatT37
import Derived.Test.YtajoipmchgabfaaGreatT40
import Derived.Test.YtajoipmchgabfaaGreatT44
import Derived.Test.YtajoipmchgabfaaGreatT39
import Derived.Test.YtajoipmchgabfaaGreatT25
import Derived.Deep.QuietTactic
/- tiles: the document's Split. -/
namespace Go.Proofs.YtajoipmchgabfaaGreat
open Go.RowKit

/-- What the first tiles have of a list. -/
def spF (pw ph : Nat) (l : List Rc) (i : Nat) : List Rc := (List.range i).flatMap (fmN (pcsL pw ph (ptL pw ph l)))
theorem spF_all (pw ph : Nat) (l : List Rc) : spF pw ph l (tlN pw ph) = spL pw ph l := rfl
theorem spF_succ (pw ph : Nat) (l : List Rc) (i : Nat) : spF pw ph l (i + 1) = spF pw ph l i ++ fmN (pcsL pw ph (ptL pw ph l)) i := by
  unfold spF
  rw [List.range_succ, List.flatMap_append, List.flatMap_singleton]
theorem spF_len {pw ph : Nat} (hw : pw ≤ 256) (hh : ph ≤ 256) (l : List Rc) {i : Nat} (hi : i ≤ 256) : (spF pw ph l i).length ≤ 65536 := by
  have h1 := fm_total hw hh (ptL_in pw ph l) ((List.range i).map fun i => (i, zeroRc))
  rw [List.flatMap_map, List.length_map, List.length_range] at h1
  have h3 : i * 256 ≤ 256 * 256 := Nat.mul_le_mul_right _ hi
  unfold spF
  exact Nat.le_trans h1 h3
/-- A tile's pieces are what the document's own Of says. -/
theorem sp_of {pw ph : Nat} (hw : pw ≤ 256) (hh : ph ≤ 256) (l : List Rc) {i : Nat} (hi : i < tlN pw ph) : formL (howF 2) l [tlR pw ph i] = fmN (pcsL pw ph (ptL pw ph l)) i := by
  unfold fmN
  refine form_unique (how_none 2) rfl fun x y => ?_
  rw [pcs_pix hw hh (ptL_in pw ph l) hi, ptL_pix]
  have h1 : pix [tlR pw ph i] x y = hasR (tlR pw ph i) x y := by simp [pix]
  have h2 : hasR (tlR pw ph i) x y = true → hasR (pcR pw ph) x y = true := fun h => by
    unfold tlR til at h
    rw [has_and, Bool.and_eq_true] at h
    exact h.2
  rw [h1]
  cases ha : pix l x y <;> cases hb : hasR (tlR pw ph i) x y <;> simp [howF]
  exact h2 hb

theorem own_srcR {w : World} {base n c : Nat} {p : Option Addr} {E : List Rc} (h : w.ownsRow base 37 4 (.slice p n c) n (flatR E)) (hn : E.length = n) : (p = none ∧ n = 0 ∧ c = 0) ∨ ∃ ad, p = some ad ∧ ∀ j u, (flatR E)[j]? = some u → w.cell? (ad.add j) = some u := by
  subst hn
  obtain ⟨q3, e3, he, -, -, hsrc⟩ := RwG.src (enc := encR) (k := 4) (fun _ => rfl) (by decide) (RwG.owned (enc := encR) (k := 4) (fun _ => rfl) h)
  simp only [Value.slice.injEq, true_and] at he
  obtain ⟨rfl, rfl⟩ := he
  exact hsrc

set_option maxRecDepth 20000 in
set_option maxHeartbeats 4000000 in
theorem refSplit_any (v : Value) (l : List Rc) (w h : Int) (W : World) (hv : Row encR 4 W v l) (hf : ∀ r ∈ l, Fit r) (hl : l.length ≤ 24) :
    Calls Tryz.prog 12 #[v, .int .i64 w, .int .i64 h] W fun e w' => ∃ v', e = .returned v' ∧ w'.ownsRow W.heap.size 37 4 v' (spL (szW w h) (szH w h) l).length (flatR (spL (szW w h) (szH w h) l)) ∧ Below W.heap.size W w' := by
  obtain ⟨i0, hi0, hz0, hz1, hz2⟩ := info_parts rc_info
  have hpw := szW_le w h
  have hph := szH_le w h
  have hgr := fun W => refGrid_any w h W
  obtain ⟨pw, hpwe⟩ : ∃ p, szW w h = p := ⟨_, rfl⟩
  obtain ⟨ph, hphe⟩ : ∃ p, szH w h = p := ⟨_, rfl⟩
  rw [hpwe] at hpw hgr ⊢
  rw [hphe] at hph hgr ⊢
  clear hpwe hphe
  have hgl : (grL pw ph).length = tlN pw ph := by unfold grL; simp
  have hgf : ∀ i (hi : i < (grL pw ph).length), (grL pw ph)[i] = tlR pw ph i := fun i hi => by simp [grL]
  have hN256 := tlN_le hpw hph
  rw [← spF_all]
  obtain ⟨N, hN⟩ : ∃ N, tlN pw ph = N := ⟨_, rfl⟩
  rw [hN] at hgl hN256 ⊢
  rw [hgl] at hgr
  have Hgf : Hid ((grL pw ph).length = N ∧ ∀ i (hi : i < (grL pw ph).length), (grL pw ph)[i] = tlR pw ph i) := Lib.hid ⟨hgl, hgf⟩
  have Hsp : Hid (∀ i, i < N → formL (howF 2) l [tlR pw ph i] = fmN (pcsL pw ph (ptL pw ph l)) i ∧ (fmN (pcsL pw ph (ptL pw ph l)) i).length ≤ 256 ∧ (spF pw ph l i).length ≤ 65536) := Lib.hid (fun i hi => ⟨sp_of hpw hph l (by rw [hN]; exact hi), fmN_len hpw hph (ptL_in pw ph l) i, spF_len hpw hph l (by omega)⟩)
  have Hgr := Lib.hid hgr
  have Hv := Lib.hid hv
  clear hgl hgf hgr hN hv
  go_enter Tryz.func12, Tryz.ntmps12
  go_wp2_with fail
  refine Calls.mono (Hgr.out W) ?_
  rintro _ w1 ⟨v1, rfl, ho1, hb1⟩
  obtain ⟨p1, c1, rfl, hg1, hg1', hp1⟩ := owns_row' (enc := encR) (k := 4) (fun _ => rfl) (by rw [Hgf.out.1]; exact ho1)
  rw [Hgf.out.1] at hg1 ⊢
  have Hp1 := Lib.hid hp1
  have Hv1 := Lib.hid (Hv.out.below hb1)
  have Hb1 := Lib.hid hb1
  clear ho1 hb1 hp1
  go_wp2_with fail
  go_loopw [7, 9] (fun ov iv wr => ∃ (i n : Nat) (pv : Option Addr) (cv : Nat), i ≤ N ∧ iv = .int .i64 (i : Int) ∧ ov = .slice pv n cv ∧ Hid (n = (spF pw ph l i).length) ∧ Hid (wr.ownsRow w1.heap.size 37 4 (.slice pv n cv) n (flatR (spF pw ph l i))) ∧ Hid (Below w1.heap.size w1 wr)) (fun _ iv _ => N - (intOf iv).toNat)
  case atStart => exact ⟨0, 0, none, 0, Nat.zero_le _, rfl, rfl, Lib.hid rfl, Lib.hid (World.ownsRow_nil _ _ _ _), Lib.hid (Below.refl _ _)⟩
  case round =>
    obtain ⟨i, n, pv, cv, hi, rfl, rfl, Hn, Ho, Hb⟩ := hrel
    by_cases hin : i < N
    · have di : decide ((i : Int) < (N : Int)) = true := by simp; omega
      have hil : i < (grL pw ph).length := by rw [Hgf.out.1]; exact hin
      obtain ⟨bg, og, rfl, -, hat⟩ := Hp1.out.rc hil
      obtain ⟨g0, g1, g2, g3⟩ := (hat i hil).later Hb.out
      rw [Hgf.out.2 i hil] at g0 g1 g2 g3
      obtain ⟨hs1, hs2, hs3⟩ := Hsp.out i hin
      have hsucc := spF_succ pw ph l i
      have hn5 : n ≤ 65536 := by rw [Hn.out]; exact hs3
      obtain ⟨E, hE⟩ : ∃ E, fmN (pcsL pw ph (ptL pw ph l)) i = E := ⟨_, rfl⟩
      have hfit : Fit (tlR pw ph i) := and_fit _ _
      obtain ⟨T, hT⟩ : ∃ T, tlR pw ph i = T := ⟨_, rfl⟩
      rw [hT] at g0 g1 g2 g3 hs1 hfit
      rw [hE] at hs1 hs2 hsucc
      obtain ⟨m, hm⟩ : ∃ m, E.length = m := ⟨_, rfl⟩
      rw [hm] at hs2
      have Hm := Lib.hid hm
      have Hs1 := Lib.hid hs1
      have Hsucc := Lib.hid hsucc
      have j0 : (0 : Int) ≤ (i : Int) := by omega
      have j1 : (i : Int) < (N : Int) := by omega
      have hsz1 := Hb.out.size
      clear hat hil hE hT hs1 hs3 hsucc hm
      go_wp2_with fail
      have hrt : Row encR 4 (wr.alloc (.cells #[.int .i64 T.x, .int .i64 T.y, .int .i64 T.a, .int .i64 T.b] 37)) (.slice (some ⟨wr.heap.size, 0, none⟩) 1 1) [T] := litR rfl rfl (by simp [maxLen])
      have hb2 := Below.al1 wr (.cells #[.int .i64 T.x, .int .i64 T.y, .int .i64 T.a, .int .i64 T.b] 37)
      have hs2' : (wr.alloc (.cells #[.int .i64 T.x, .int .i64 T.y, .int .i64 T.a, .int .i64 T.b] 37)).heap.size = wr.heap.size + 1 := by simp
      have Ho2 := Lib.hid (Ho.out.alloc (.cells #[.int .i64 T.x, .int .i64 T.y, .int .i64 T.a, .int .i64 T.b] 37))
      generalize wr.alloc (.cells #[.int .i64 T.x, .int .i64 T.y, .int .i64 T.a, .int .i64 T.b] 37) = w2 at *
      have Hb2 := Lib.hid (Below.thn Hb.out hb2)
      refine Calls.mono (ofSpec v (.slice (some ⟨wr.heap.size, 0, none⟩) 1 1) l [T] 2 w2 (Hv1.out.below Hb2.out) hrt hf (fun r hr => by
        rcases List.mem_cons.1 hr with rfl | hr
        · exact hfit
        · cases hr) hl (by simp)) ?_
      rw [Hs1.out, Hm.out]
      rintro _ w3 ⟨u3, rfl, ho3, hb3⟩
      obtain ⟨p3, c3, rfl⟩ := owns_slice ho3
      have hsrc := own_srcR ho3 Hm.out
      have Hsrc := Lib.hid hsrc
      have Ho3 := Lib.hid ((Turns.of_below' (T := fun _ => False) hb3).owns Ho2.out (fun _ _ h => h))
      have Hb3 := Lib.hid (Below.thn Hb2.out hb3)
      have hsz3 := Hb3.out.size
      have Hln : Hid ((flatR E).length = m * 4) := Lib.hid (by rw [flatR_len, Hm.out])
      clear hrt hb2 hs2' ho3 hb3 hsrc Ho2 Hb2 g0 g1 g2 g3
      go_wp2_with (at_builtin; refine wpList_append_mine _ rfl (.tmp 19) (.tmp 26) 22 rfl w1.heap.size 37 i0 _ 4 32 Tryz.underlying22 hi0 hz0 hz1 hz2 rfl (by decide) (.slice pv n cv) n (flatR (spF pw ph l i)) rfl Ho3.out p3 m c3 (flatR E) rfl Hln.out Hsrc.out (encR_one _) ?n3 ?n4 ?n5 ?_)
      case n3 => simp only [maxLen]; omega
      case n4 => omega
      case n5 => omega
      intro v8 w9 r8 gr8 pl8
      have ht8 : Turns (fun q => (Value.slice pv n cv).ownBlock = some q) w3 w9 := Turns.of_grown gr8 (fun i h => h)
      have Hb8 := Lib.hid (show Below w1.heap.size w1 w9 from Hb3.out.trans (ht8.below hsz3 (fun q hq => (Ho3.out.lt q hq).1)))
      obtain ⟨p9, c9, rfl⟩ := owns_slice r8
      have Hr8 : Hid (w9.ownsRow w1.heap.size 37 4 (.slice p9 (n + m) c9) (n + m) (flatR (spF pw ph l (i + 1)))) := Lib.hid (by
        rw [Hsucc.out, show flatR (spF pw ph l i ++ E) = flatR (spF pw ph l i) ++ flatR E by simp [flatR]]
        exact r8)
      have Hn8 : Hid (n + m = (spF pw ph l (i + 1)).length) := Lib.hid (by rw [Hsucc.out, List.length_append, Hm.out, ← Hn.out])
      clear r8 gr8 pl8 ht8
      go_wp2
      go_roundw
      case rel => exact ⟨i + 1, n + m, _, _, by omega, by go_num, rfl, Hn8, Hr8, Hb8⟩
      case measure => simp [intOf]; omega
    · obtain rfl : N = i := by omega
      have di : decide ((N : Int) < (N : Int)) = false := by simp
      have hfin := own_less Ho.out Hb1.out.size
      have hbf := Below.thn Hb1.out Hb.out
      rw [Hn.out] at hfin
      have hn := Hn.out
      subst hn
      have Hfin := Lib.hid hfin
      have Hbf := Lib.hid hbf
      clear hfin hbf
      go_wp2
      go_ret
      exact ⟨_, rfl, Hfin.out, Hbf.out⟩

end Go.Proofs.YtajoipmchgabfaaGreat

/- tiles, plainly: a tile's sum hangs on the pixels' lower 24 bits alone, and on its own pixels alone. -/
namespace Go.Proofs.YtajoipmchgabfaaGreat
open Go.RowKit

theorem px3_low (s c : Int) : px3 s (c % 16777216) = px3 s c := by
  unfold px3
  rw [show c % 16777216 / 65536 % 256 = c / 65536 % 256 by omega, show c % 16777216 / 256 % 256 = c / 256 % 256 by omega, show c % 16777216 % 256 = c % 256 by omega]
def lowL (L : List Int) : List Int := L.map (· % 16777216)
theorem fold_low : ∀ (L : List Int) (s : Int), (lowL L).foldl px3 s = L.foldl px3 s
  | [], _ => rfl
  | c :: L, s => by
    unfold lowL
    rw [List.map_cons, List.foldl_cons, List.foldl_cons, px3_low]
    exact fold_low L _
theorem rwP_low (wd x a q : Nat) (L : List Int) : rwP wd x a q (lowL L) = lowL (rwP wd x a q L) := by
  unfold rwP lowL
  rw [List.map_take, List.map_drop]
theorem smF_low (wd x y a : Nat) (L : List Int) : ∀ j, smF wd x y a (lowL L) j = smF wd x y a L j
  | 0 => rfl
  | j + 1 => by
    unfold smF
    rw [rwP_low, fold_low, smF_low wd x y a L j]
theorem tlS_low (pw ph : Nat) (L : List Int) (i : Nat) : tlS pw ph (lowL L) i = tlS pw ph L i := by
  unfold tlS; rw [smF_low]
theorem rwP_set {wd x a q p : Nat} {v : Int} {L : List Int} (h : p < q * wd + x ∨ q * wd + x + a ≤ p) : rwP wd x a q (L.set p v) = rwP wd x a q L := by
  unfold rwP
  apply List.ext_getElem?
  intro k
  by_cases hk : k < a
  · rw [List.getElem?_take_of_lt hk, List.getElem?_take_of_lt hk, List.getElem?_drop, List.getElem?_drop, List.getElem?_set_ne (by omega)]
  · rw [List.getElem?_eq_none (by rw [List.length_take]; omega), List.getElem?_eq_none (by rw [List.length_take]; omega)]
theorem smF_set {wd x y a p : Nat} {v : Int} {L : List Int} : ∀ {j : Nat}, (∀ k, k < j → p < (y + k) * wd + x ∨ (y + k) * wd + x + a ≤ p) → smF wd x y a (L.set p v) j = smF wd x y a L j
  | 0, _ => rfl
  | j + 1, h => by
    unfold smF
    rw [rwP_set (h j (by omega)), smF_set (fun k hk => h k (by omega))]
/-- A pixel that a tile has not plays no part in its sum. -/
theorem tlS_set {pw ph i p : Nat} {v : Int} {L : List Int} (hw : pw ≤ 256) (hh : ph ≤ 256) (hi : i < tlN pw ph) (hp : hasR (tlR pw ph i) ((p % pw : Nat) : Int) ((p / pw : Nat) : Int) = false) : tlS pw ph (L.set p v) i = tlS pw ph L i := by
  obtain ⟨⟨h1, h2, h3, h4, h5, h6⟩, he⟩ := tl_in hw hh hi
  unfold tlS
  refine smF_set fun k hk => ?_
  generalize tlR pw ph i = r at *
  obtain ⟨X, hX⟩ : ∃ X, r.x.toNat = X := ⟨_, rfl⟩
  obtain ⟨Y, hY⟩ : ∃ X, r.y.toNat = X := ⟨_, rfl⟩
  obtain ⟨A, hA⟩ : ∃ X, r.a.toNat = X := ⟨_, rfl⟩
  rw [hX, hY, hA]
  by_cases hc : p < (Y + k) * pw + X ∨ (Y + k) * pw + X + A ≤ p
  · exact hc
  · exfalso
    have hXA : X + A ≤ pw := by omega
    obtain ⟨m, hm⟩ : ∃ m, p = (Y + k) * pw + m := ⟨p - (Y + k) * pw, by omega⟩
    have hmw : m < pw := by omega
    have e1 : p % pw = m := by rw [hm, Nat.mul_comm, Nat.mul_add_mod, Nat.mod_eq_of_lt hmw]
    have e2 : p / pw = Y + k := by rw [hm, Nat.mul_comm, Nat.mul_add_div (by omega), Nat.div_eq_of_lt hmw, Nat.add_zero]
    rw [e1, e2] at hp
    have : hasR r (m : Int) ((Y + k : Nat) : Int) = true := has_iff.2 ⟨he, by omega, by omega⟩
    rw [this] at hp
    cases hp

theorem xor32_nat (a b : Nat) (ha : a < 4294967296) (hb : b < 4294967296) : bits .xor .u32 (a : Int) (b : Int) = ((a ^^^ b : Nat) : Int) := by
  have hx : a ^^^ b < 2 ^ 32 := Nat.xor_lt_two_pow (by omega) (by omega)
  have h1 : (BitVec.ofInt 32 (a : Int)).toNat = a := by
    rw [BitVec.ofInt_natCast, BitVec.toNat_ofNat]; exact Nat.mod_eq_of_lt (by omega)
  have h2 : (BitVec.ofInt 32 (b : Int)).toNat = b := by
    rw [BitVec.ofInt_natCast, BitVec.toNat_ofNat]; exact Nat.mod_eq_of_lt (by omega)
  show IntKind.u32.wrap ((BitVec.ofInt 32 (a : Int) ^^^ BitVec.ofInt 32 (b : Int)).toNat : Int) = _
  rw [BitVec.toNat_xor, h1, h2, IntKind.wrap_u32]
  omega
theorem xor_low (z : Int) (h0 : 0 ≤ z) (h1 : z < 4294967296) : (bits .xor .u32 z 16777216) % 16777216 = z % 16777216 := by
  obtain ⟨n, rfl⟩ := Int.eq_ofNat_of_zero_le h0
  have h := xor32_nat n 16777216 (by omega) (by decide)
  rw [show ((16777216 : Nat) : Int) = 16777216 from rfl] at h
  rw [h]
  have h2 : (n ^^^ 16777216) % 2 ^ 24 = n % 2 ^ 24 := by
    rw [Nat.xor_mod_two_pow]; simp
  have h3 : ((n ^^^ 16777216 : Nat) : Int) % 16777216 = (((n ^^^ 16777216) % 2 ^ 24 : Nat) : Int) := by simp
  rw [h3, h2]
  simp

theorem tlN_pos {pw ph : Nat} (h1 : 0 < pw) (h2 : 0 < ph) : 0 < tlN pw ph := by
  unfold tlN clN
  exact Nat.mul_pos (by omega) (by omega)
/-- Where a picture has sums, and where not. -/
theorem smL_none {wd ht : Int} {L : List Int} (h : (smL wd ht L).length = 0) : ¬ (okS wd ht ∧ (L.length : Int) = wd * ht) := by
  intro hc
  have h3 := hc.1
  unfold okS at h3
  unfold smL at h
  rw [if_pos hc, List.length_map, List.length_range] at h
  have := tlN_pos (show 0 < wd.toNat by omega) (show 0 < ht.toNat by omega)
  omega
theorem smL_some {wd ht : Int} {L : List Int} (h : (smL wd ht L).length ≠ 0) : ∃ pw ph : Nat, wd = pw ∧ ht = ph ∧ 1 ≤ pw ∧ pw ≤ 256 ∧ 1 ≤ ph ∧ ph ≤ 256 ∧ L.length = pw * ph ∧ szW wd ht = pw ∧ szH wd ht = ph ∧ ∀ L' : List Int, L'.length = L.length → smL wd ht L' = (List.range (tlN pw ph)).map (tlS pw ph L') := by
  by_cases hc : okS wd ht ∧ (L.length : Int) = wd * ht
  · obtain ⟨h1, h2⟩ := hc
    have h3 := h1
    unfold okS at h3
    obtain ⟨a, rfl⟩ := Int.eq_ofNat_of_zero_le (show 0 ≤ wd by omega)
    obtain ⟨b, rfl⟩ := Int.eq_ofNat_of_zero_le (show 0 ≤ ht by omega)
    refine ⟨a, b, rfl, rfl, by omega, by omega, by omega, by omega, by exact_mod_cast h2, ?_, ?_, fun L' hl => ?_⟩
    · unfold szW; rw [if_pos h1]; simp
    · unfold szH; rw [if_pos h1]; simp
    · unfold smL; rw [if_pos ⟨h1, by rw [hl]; exact h2⟩]; simp
  · unfold smL at h
    rw [if_neg hc] at h
    exact absurd rfl h

end Go.Proofs.YtajoipmchgabfaaGreat

/- tiles: the document's Sums; two lists of sums. -/
namespace Go.Proofs.YtajoipmchgabfaaGreat
open Go.RowKit

set_option maxHeartbeats 2000000 in
theorem tlIs_any (wd ht : Int) (p : Option Addr) (n c : Nat) (w : World) : Makes Tryz.prog 25 #[.agg #[.int .i64 wd, .int .i64 ht, .slice p n c]] w (.bool (decide (okS wd ht ∧ (n : Int) = wd * ht))) := by
  unfold Makes
  by_cases hok : okS wd ht
  · have hok' := hok
    unfold okS at hok'
    have hm0 : 0 ≤ wd * ht := Int.mul_nonneg (by omega) (by omega)
    have hm1 : wd * ht ≤ 65536 := Int.le_trans (Int.mul_le_mul hok'.2.1 hok'.2.2.2 (by omega) (by omega)) (by decide)
    obtain ⟨q, hq⟩ : ∃ q, wd * ht = q := ⟨_, rfl⟩
    rw [hq] at hm0 hm1
    have hw : IntKind.i64.wrap (wd * ht) = q := by rw [hq]; exact IntWalk.i64_in _ (by omega)
    have d1 : decide (1 ≤ wd) = true := decide_eq_true hok'.1
    have d2 : decide (wd ≤ 256) = true := decide_eq_true hok'.2.1
    have d3 : decide (1 ≤ ht) = true := decide_eq_true hok'.2.2.1
    have d4 : decide (ht ≤ 256) = true := decide_eq_true hok'.2.2.2
    obtain ⟨Bv, hB⟩ : ∃ Bv, decide (okS wd ht ∧ (n : Int) = wd * ht) = Bv := ⟨_, rfl⟩
    have hz : ((n : Int) == q) = Bv := by
      rw [← hB, Bool.eq_iff_iff, decide_eq_true_iff, hq]
      simp [hok]
    rw [hB]
    clear hm0 hm1 hq hok hok' hB
    go_enter Tryz.func25, Tryz.ntmps25
    go_wp2
    go_ret
    exact ⟨rfl, Below.al1 _ _⟩
  · rw [decide_eq_false (show ¬ (okS wd ht ∧ (n : Int) = wd * ht) from fun h => hok h.1)]
    have hcase : (decide (1 ≤ wd) = false) ∨ (decide (1 ≤ wd) = true ∧ decide (wd ≤ 256) = false) ∨ (decide (1 ≤ wd) = true ∧ decide (wd ≤ 256) = true ∧ decide (1 ≤ ht) = false) ∨ (decide (1 ≤ wd) = true ∧ decide (wd ≤ 256) = true ∧ decide (1 ≤ ht) = true ∧ decide (ht ≤ 256) = false) := by
      by_cases h1 : 1 ≤ wd
      · by_cases h2 : wd ≤ 256
        · by_cases h3 : 1 ≤ ht
          · by_cases h4 : ht ≤ 256
            · exact absurd ⟨h1, h2, h3, h4⟩ hok
            · exact .inr (.inr (.inr ⟨decide_eq_true h1, decide_eq_true h2, decide_eq_true h3, decide_eq_false h4⟩))
          · exact .inr (.inr (.inl ⟨decide_eq_true h1, decide_eq_true h2, decide_eq_false h3⟩))
        · exact .inr (.inl ⟨decide_eq_true h1, decide_eq_false h2⟩)
      · exact .inl (decide_eq_false h1)
    clear hok
    rcases hcase with d1 | ⟨d1, d2⟩ | ⟨d1, d2, d3⟩ | ⟨d1, d2, d3, d4⟩
    all_goals
      go_enter Tryz.func25, Tryz.ntmps25
      go_wp2
      go_ret
      exact ⟨rfl, Below.al1 _ _⟩

theorem RowAt.sumZ {w : World} {p : Option Addr} {xs : List Int} (h : RowAt encW 1 w p xs) {k : Nat} (hk : k < xs.length) : ∃ b off, p = some ⟨b, off, none⟩ ∧ w.cell? ⟨b, off + k, none⟩ = some (.int .u32 xs[k]) := by
  obtain ⟨b, off, e, h1⟩ := h.w32_at hk
  exact ⟨b, off, e, h1 w (Below.refl _ _)⟩
theorem Row.ownZ {w : World} {base : Nat} {e : TypeId} {v : Value} {l : List Int} (h : w.ownsRow base e 1 v l.length (l.map u32V)) : Row encW 1 w v l := by
  have e : l.flatMap encW = l.map u32V := by
    clear h
    induction l with
    | nil => rfl
    | cons a l ih => rw [List.flatMap_cons, ih]; rfl
  exact owns_row' (enc := encW) (k := 1) (fun _ => rfl) (by rw [e]; exact h)

set_option maxHeartbeats 1000000 in
theorem sames_any (v u : Value) (xs ys : List Int) (w : World) (hv : Row encW 1 w v xs) (hu : Row encW 1 w u ys) :
    Makes Tryz.prog 13 #[v, u] w (.bool (decide (xs = ys))) := by
  unfold Makes
  have hn := hv.len
  have hm := hu.len
  obtain ⟨p, cap, rfl, -, -, hp⟩ := hv
  obtain ⟨q, cap2, rfl, -, -, hq⟩ := hu
  by_cases hl : xs.length = ys.length
  · have hl1 : ((xs.length : Int) != (ys.length : Int)) = false := by simp [hl]
    have Hl := Lib.hid hl
    clear hl
    go_enter Tryz.func13, Tryz.ntmps13
    go_wp2
    go_loopw [5] (fun i wr => ∃ k : Nat, k ≤ xs.length ∧ i = .int .i64 k ∧ Below w.heap.size w wr ∧ Hid (xs.take k = ys.take k)) (fun i _ => xs.length - (intOf i).toNat)
    case atStart => exact ⟨0, by omega, rfl, Below.refl _ _, Lib.hid rfl⟩
    case round =>
      obtain ⟨k, hk, rfl, hb, he⟩ := hrel
      by_cases hlt : k < xs.length
      · have hlt2 : k < ys.length := by rw [← Hl.out]; exact hlt
        obtain ⟨b, off, rfl, a0⟩ := (hp.below hb).sumZ hlt
        obtain ⟨b2, off2, rfl, d0⟩ := (hq.below hb).sumZ hlt2
        have Hx := Lib.hid (List.take_succ_eq_append_getElem hlt)
        have Hy := Lib.hid (List.take_succ_eq_append_getElem hlt2)
        have Hne : Hid (xs[k] ≠ ys[k] → xs ≠ ys) := Lib.hid (fun h e => h (by subst e; rfl))
        generalize xs[k] = r at *
        generalize ys[k] = s at *
        by_cases hr : r = s
        · have hr1 : (r != s) = false := by simp [hr]
          have Hr := Lib.hid hr
          clear hr
          go_wp2
          go_quiet (fail)
          go_wp2
          go_roundw
          case rel => exact ⟨k + 1, by omega, by go_num, Below.drewN' hb _, Lib.hid (by rw [Hx.out, Hy.out, he.out, Hr.out])⟩
          case measure => simp [intOf]; omega
        · have hr1 : (r != s) = true := by simp [hr]
          have Hr := Lib.hid hr
          clear hr
          go_wp2
          go_quiet (fail)
          go_wp2
          go_ret
          exact ⟨ret_bool (decide_eq_false (Hne.out Hr.out)).symm, Below.drewN' hb _⟩
      · go_wp2
        go_ret
        refine ⟨ret_bool (decide_eq_true ?_).symm, hb⟩
        have h1 := he.out
        rwa [List.take_of_length_le (by omega), List.take_of_length_le (by rw [← Hl.out]; omega)] at h1
  · have hl1 : ((xs.length : Int) != (ys.length : Int)) = true := by simp; omega
    have Hl := Lib.hid hl
    clear hl
    go_enter Tryz.func13, Tryz.ntmps13
    go_wp2
    go_ret
    exact ⟨ret_bool (decide_eq_false (fun e => Hl.out (by rw [e]))).symm, Below.refl _ _⟩

end Go.Proofs.YtajoipmchgabfaaGreat
