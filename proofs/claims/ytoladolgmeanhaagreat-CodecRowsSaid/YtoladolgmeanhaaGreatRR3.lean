/- Several texts in one, each with its own head. -/
import Derived.Test.YtoladolgmeanhaaGreatRR2
namespace Go.Proofs.YtoladolgmeanhaaGreat
open Go.RowKit
theorem BestOf.det {fs : List Int} {lim : Nat} {g g' : Nat → Nat} (h : BestOf fs lim g) (k : BestOf fs lim g') : gl g fs.length = gl g' fs.length := by
  by_cases h1 : many fs.length (fq fs) = 1
  · unfold gl
    refine List.map_congr_left fun i hi => ?_
    have hi' : i < fs.length := List.mem_range.1 hi
    have a1 := h.1.one h1 i hi'
    have a2 := k.1.one h1 i hi'
    have b1 := (h.1.le i hi').2
    have b2 := (k.1.le i hi').2
    by_cases h0 : 0 < fq fs i
    · have := b1.2 h0; have := b2.2 h0; omega
    · have c1 : ¬ 0 < g i := fun h => h0 (b1.1 h)
      have c2 : ¬ 0 < g' i := fun h => h0 (b2.1 h)
      omega
  · rw [(h.2 h1).det (k.2 h1)]
end Go.Proofs.YtoladolgmeanhaaGreat

namespace Go.Proofs.YtoladolgmeanhaaGreat
open Go.RowKit
def Tells (P : Pt) (b : List Nat) : Prop := ∃ Q, SameP P Q ∧ okP Q ∧ ∀ l q lim, AtP l 0 (Q ++ q) → b.length ≤ lim → InfBl l lim 0 [] (.go (szP Q) b)
theorem SameP.bytP {P Q : Pt} (h : SameP P Q) : bytP P = bytP Q := by unfold Proofs.YtoladolgmeanhaaGreat.bytP; rw [h.1, h.2]
theorem Tells.infl {P : Pt} {b : List Nat} (h : Tells P b) (m : List Nat) {lim : Nat} (hl : lim ≤ 524288) (hb : b.length ≤ lim) : Infl (bytP P ++ m) lim b (bytP P).length 0 := by
  obtain ⟨Q, h1, h2, h3⟩ := h
  rw [h1.bytP]
  have t := h3 (Proofs.YtoladolgmeanhaaGreat.bytP Q ++ m) [] lim (by rw [List.append_nil]; exact atP_all h2 m) hb
  have := Infl.go lim _ _ rfl hl t
  rw [bytP_len, show (szP Q + 7) / 8 = alN (szP Q) / 8 by unfold alN; omega]
  exact this
theorem stB_tells {b : List Nat} (hb : ∀ x ∈ b, x < 256) : Tells (putB 0 (stB b)) b :=
  ⟨_, SameP.refl _, bnB_okP (stB_ok hb) 0, fun l q lim h hl => by
    have := (bn_bl lim (stB_ne b) (stB_ok hb) h).1 (by rw [stB_tell]; exact hl)
    rw [stB_tell, Nat.zero_add] at this
    exact this⟩
theorem fix_tells {ts : List Tk} {b : List Nat} (hx : xp ts [] = (b, 0)) (h256 : ∀ t ∈ ts, t.b < 256) : Tells (fixP ts) b := by
  have h2 : (xp ts []).2 = 0 := by rw [hx]
  have hok := xp_okD h2
  have hB : okB [Bn.fx (ts.map tn)] [] := ⟨xp_may h2 fun t ht => fix_cod (hok t ht) (h256 t ht), trivial⟩
  have ht : tellB [Bn.fx (ts.map tn)] [] = b := by
    show toldT (ts.map tn) [] = b
    rw [← xp_told h2, hx]
  refine ⟨putB 0 [Bn.fx (ts.map tn)], ?_, bnB_okP hB 0, fun l q lim h hl => ?_⟩
  · show SameP (fixP ts) (((1, 1) :: (1, 2) :: (laidT fixA fixD (ts.map tn) ++ endP fixA)) ++ [])
    rw [List.append_nil]
    exact (SameP.refl [(1, 1), (1, 2)]).app (pas_laid hok)
  · have := (bn_bl lim (by simp) hB h).1 (by rw [ht]; exact hl)
    rw [ht, Nat.zero_add] at this
    exact this
theorem DynF.det {ts : List Tk} {P P' : Pt} (h : DynF ts P) (k : DynF ts P') : P = P' := by
  obtain ⟨gA, gD, gC, a1, a2, a3, rfl⟩ := h.ex
  obtain ⟨gA', gD', gC', b1, b2, b3, rfl⟩ := k.ex
  have e1 := a1.det b1
  have e2 := a2.det b2
  rw [ctZ_len] at e1 e2
  rw [← e1, ← e2] at b3
  have e3 := a3.det b3
  rw [ctZ_len] at e3
  rw [e1, e2, e3]
theorem pasT_c {ts : List Tk} {x : Pa} (h : x ∈ pasT ts) : x.c < 2 := by
  rcases List.mem_append.1 h with h | h
  · obtain ⟨t, -, hx⟩ := List.mem_flatMap.1 h
    unfold paT at hx
    split at hx
    · rw [List.mem_singleton] at hx; subst hx; exact Nat.zero_lt_two
    · rcases List.mem_cons.1 hx with rfl | hx
      · exact Nat.zero_lt_two
      · rw [List.mem_singleton] at hx; subst hx; exact Nat.one_lt_two
  · rw [List.mem_singleton] at h; subst h; exact Nat.zero_lt_two
theorem cut_flat {A D : List Nat} {m k : Nat} (hA : Cut A m) (hD : Cut D k) {xs : List Pa} (h : ∀ x ∈ xs, x.c < 2) : xs.flatMap (plP [A, D]) = xs.flatMap (plP [A.take m, D.take k]) := by
  induction xs with
  | nil => rfl
  | cons x r ih =>
    rw [List.flatMap_cons, List.flatMap_cons, ih fun y hy => h y (List.mem_cons_of_mem _ hy), cut_pl hA hD x (h x List.mem_cons_self)]
theorem rn_okP {C : List Nat} {xs : List Pa} (h : ∀ x ∈ xs, PaOk [C] x) : okP (xs.flatMap (plP [C])) := fun p hp => by
  obtain ⟨x, hx, hp⟩ := List.mem_flatMap.1 hp
  obtain ⟨-, -, -, h4, -⟩ := h x hx
  unfold plP at hp
  rcases List.mem_cons.1 hp with rfl | hp
  · exact cd_low _ _ _
  · rw [List.mem_singleton] at hp; subst hp; exact h4
theorem putR_ok {X Y C : List Nat} {k : Nat} (x1 : X.length ≤ 286) (y1 : Y.length ≤ 30) (k4 : k ≤ 19) (h8 : ∀ i, lq C i < 8) (h : ∀ x ∈ rnL (X ++ Y), PaOk [C] x) : okP (putR X Y C k) := by
  refine okP_cons (by show X.length - 257 < 32; omega) (okP_cons (by show Y.length - 1 < 32; omega) (okP_cons (by show k - 4 < 16; omega) (okP_app (fun p hp => ?_) (rn_okP h))))
  obtain ⟨i, -, rfl⟩ := List.mem_map.1 hp
  exact h8 i
theorem DynF.tells {ts : List Tk} {P : Pt} {b : List Nat} (h : DynF ts P) (hx : xp ts [] = (b, 0)) (h256 : ∀ t ∈ ts, t.b < 256) : Tells P b ∧ szP P ≤ 15 * b.length + 7100 := by
  have h2 : (xp ts []).2 = 0 := by rw [hx]
  have hok := xp_okD h2
  obtain ⟨gA, gD, gC, hA, hD, hC, rfl⟩ := h.ex
  obtain ⟨hcod, h0⟩ := best_ok (fun t ht => ⟨hok t ht, h256 t ht⟩) hA.1 hD.1
  have cA := best_chk hA.1 (by decide) (by decide)
  have cD := best_chk hD.1 (by decide) (by decide)
  have lA := gl_len gA 286
  have lD := gl_len gD 30
  have lC := gl_len gC 19
  have K := DynK.of (gl gC 19) lA lD cA cD
  have cutA : Cut (gl gA 286) (trN (gl gA 286) 257 286) := by have := Cut.of (gl gA 286) 257; rwa [lA] at this
  have cutD : Cut (gl gD 30) (trN (gl gD 30) 1 30) := by have := Cut.of (gl gD 30) 1; rwa [lD] at this
  obtain ⟨cC, r1, r2, r3, r4⟩ := rnL_best K.h16 hC.1
  have hfl := cut_flat cutA cutD (xs := pasT ts) fun x hx => pasT_c hx
  have hm : mayT (cutX (gl gA 286)) (cutY (gl gD 30)) (ts.map tn) [] := xp_may h2 fun t ht => cutA.codT cutD (hcod t ht)
  have h06 : 0 < lq (cutX (gl gA 286)) 256 := by show 0 < lq ((gl gA 286).take _) 256; rw [cutA.lq]; exact h0
  refine ⟨⟨(1, 1) :: ((2, 2) :: (putR (cutX (gl gA 286)) (cutY (gl gD 30)) (gl gC 19) (trN (ordO (gl gC 19)) 4 19) ++ (laidT (cutX (gl gA 286)) (cutY (gl gD 30)) (ts.map tn) ++ endP (cutX (gl gA 286))))), ?_, ?_, fun l q lim h hl => ?_⟩, ?_⟩
  · unfold dynP
    rw [hfl, List.append_assoc]
    exact (SameP.refl [(1, 1), (2, 2)]).app ((SameP.refl _).app (pas_laid hok))
  · exact okP_cons (by decide) (okP_cons (by decide) (okP_app (putR_ok K.x1.2 K.y1.2 K.k.2 r3 r2) (okP_app (tnT_okP hm) (okP_one (cd_low _ _ _)))))
  · obtain ⟨p1, q1, h⟩ := h
    have ht : toldT (ts.map tn) [] = b := by rw [← xp_told h2, hx]
    have := dyn_bk (lim := lim) K.x1.1 K.x1.2 K.y1.1 K.y1.2 K.k.1 K.k.2 lC cC K.hz K.h16 r1 K.cx K.cy h06 hm h (by rw [ht]; exact hl)
    rw [ht] at this
    have h3 := InfBl.last 0 [] q1 p1 _ _ this
    simp only [szP, Nat.zero_add] at h3 ⊢
    exact h3
  · have s1 := putR_sz K.x1.2 K.y1.2 K.k.2 r4
    have s2 := pas_sz (lq_15 cA) (lq_15 cD) (ts := ts) hok
    have s3 := xp_sizes h2
    rw [hx] at s3
    simp only [List.length_nil, Nat.zero_add] at s3
    rw [← s3] at s2
    unfold dynP
    simp only [szP_app, szP]
    omega
theorem pickP_tells {P Q : Pt} {b : List Nat} (h : Tells P b) (k : Tells Q b) : Tells (pickP P Q) b := by
  unfold pickP
  split
  · exact k
  · exact h
theorem DefS.det {b S S' : List Nat} (h : DefS b S) (k : DefS b S') : S = S' := by
  obtain ⟨ts, P, h1, -, h2, rfl⟩ := h.ex
  obtain ⟨ts', P', k1, -, k2, rfl⟩ := k.ex
  obtain rfl := h1.uniq k1
  obtain rfl := h2.det k2
  rfl
theorem DefS.infl {b S : List Nat} (h : DefS b S) (hb : ∀ x ∈ b, x < 256) (hl : b.length ≤ 524288) (m : List Nat) {lim : Nat} (h1 : lim ≤ 524288) (h2 : b.length ≤ lim) : Infl (S ++ m) lim b S.length 0 := by
  obtain ⟨ts, P, h3, h4, h5, rfl⟩ := h.ex
  have hx := h3.tell hl
  exact (pickP_tells (pickP_tells (stB_tells hb) (fix_tells hx h4)) (h5.tells hx h4).1).infl m h1 h2
theorem DefS.lt {b S : List Nat} (h : DefS b S) : ∀ x ∈ S, x < 256 := by
  obtain ⟨ts, P, -, -, -, rfl⟩ := h.ex
  exact byts_lt _ _
end Go.Proofs.YtoladolgmeanhaaGreat

namespace Go.Proofs.YtoladolgmeanhaaGreat
theorem cdE_reads {l S : List Nat} (hS : DefS (cdP l) S) (h2 : l.length ≤ 65536) : CdR (cdE l S).1 (cdE l S).2 l.length (some (l.map rlw)) := by
  obtain ⟨j, hj, e, his⟩ := cdE_is l S
  rw [e]
  obtain rfl | rfl | rfl | rfl : j = 0 ∨ j = 1 ∨ j = 2 ∨ j = 3 := by omega
  · refine .inl ⟨rfl, ?_⟩
    show _ = if (cdP l).length = 3 * l.length then some (plTri (cdP l)) else none
    rw [if_pos (cdP_len l), cdP_tri]
  · refine .inr (.inl ⟨rfl, ?_⟩)
    show _ = if (rlD (rlBs (rlO l)) l.length).2 = 0 then some (rlD (rlBs (rlO l)) l.length).1 else none
    rw [rlD_rl h2]; rfl
  · refine .inr (.inr (.inl ⟨rfl, ?_⟩))
    show _ = if (plD (plE l).1 l.length).2 = 0 then some (plD (plE l).1 l.length).1 else none
    have hc : ¬ ((plCol l).length < 1 ∨ 16 < (plCol l).length) := fun hc => by
      have h3 : (plE l).2 = true := his
      rw [plE_no hc] at h3
      cases h3
    rw [plD_plE hc h2]; rfl
  · refine .inr (.inr (.inr ⟨rfl, cdP l, S.length, 0, ?_, ?_⟩))
    · have := hS.infl (cdP_256 l) (by rw [cdP_len]; omega) [] (lim := 3 * l.length) (by omega) (by rw [cdP_len]; exact Nat.le_refl _)
      rwa [List.append_nil] at this
    · show _ = if (0 : Int) = 0 ∧ S.length = S.length ∧ (cdP l).length = 3 * l.length then some (plTri (cdP l)) else none
      rw [if_pos ⟨rfl, rfl, cdP_len l⟩, cdP_tri]
open Go.RowKit
attribute [local go_sem] Oper.semAt_some
attribute [local go_sem] run_store_funcC
instance (wd ht : Int) (n : Nat) : Decidable (cdM wd ht n) := by unfold cdM; infer_instance
end Go.Proofs.YtoladolgmeanhaaGreat

namespace Go.Proofs.YtoladolgmeanhaaGreat
open Go.RowKit
attribute [local go_sem] Oper.semAt_some
theorem results_ci {fn : Func} {p : Tmp} {tmps : Array Value} {w : World} {B : Nat} {wd ht : Int} {v : Value} (h : fn.results = #[.cell p 24]) (hp : tmps.getD p undef = .pointer (some ⟨B, 0, none⟩))
    (c0 : w.cell? ⟨B, 0, none⟩ = some (.int .i64 wd)) (c1 : w.cell? ⟨B, 1, none⟩ = some (.int .i64 ht)) (c2 : w.cell? ⟨B, 2, none⟩ = some v) (hv : ∃ a n c, v = .slice a n c) : (results fn tmps).run Tryz.prog w = .ok (ImgV wd ht v) w := by
  obtain ⟨a, n, c, rfl⟩ := hv
  have hp' : tmps[p]?.getD undef = .pointer (some ⟨B, 0, none⟩) := by simpa using hp
  simp [results, h, hp', go_sem, c0, c1, c2, ImgV]
set_option maxRecDepth 20000 in
set_option maxHeartbeats 4000000 in
theorem ccut_any (wd ht : Int) (p : Option Addr) (c : Nat) (l : List Nat) (w : World) (hp : RowAt encP 1 w p l) (hl : l.length ≤ 1048576) :
    Calls Tryz.prog 19 #[.agg #[.int .i64 wd, .int .i64 ht, .slice p l.length c]] w fun e w' => ∃ v, e = .returned (ImgV wd ht v) ∧ w'.ownsRow w.heap.size 41 1 v (l.map rlw).length ((l.map rlw).map pxv) ∧ Below w.heap.size w w' := by
  have h2 := Below.al2 w (.cells #[.int .i64 wd, .int .i64 ht, .slice p l.length c] 24) (.cells #[.int .i64 0, .int .i64 0, .slice none 0 0] 24)
  have H := rcut_any p c l _ (hp.below h2) hl
  have hg := heap_pushed [.cells #[.int .i64 wd, .int .i64 ht, .slice p l.length c] 24, .cells #[.int .i64 0, .int .i64 0, .slice none 0 0] 24] w
  have hs : ((w.alloc (.cells #[.int .i64 wd, .int .i64 ht, .slice p l.length c] 24)).alloc (.cells #[.int .i64 0, .int .i64 0, .slice none 0 0] 24)).heap.size = w.heap.size + 1 + 1 := by rw [World.size_alloc, World.size_alloc]
  simp only [List.foldl_cons, List.foldl_nil] at hg
  obtain ⟨n, hn⟩ : ∃ n, l.length = n := ⟨_, rfl⟩
  rw [hn] at H h2 hg hs ⊢
  clear hp hn hl
  go_enter Tryz.func19, Tryz.ntmps19
  go_upto_region 1 with (fail)
  generalize (w.alloc (.cells #[.int .i64 wd, .int .i64 ht, .slice p n c] 24)).alloc (.cells #[.int .i64 0, .int .i64 0, .slice none 0 0] 24) = W at *
  have g0 := (hg 0 _).2 rfl
  have g1 := (hg 1 _).2 rfl
  rw [Nat.add_zero] at g0
  have c0 : W.cell? ⟨w.heap.size, 0, none⟩ = some (.int .i64 wd) := cell_heap g0 rfl
  have c1 : W.cell? ⟨w.heap.size, 1, none⟩ = some (.int .i64 ht) := cell_heap g0 rfl
  have c2 : W.cell? ⟨w.heap.size, 2, none⟩ = some (.slice p n c) := cell_heap g0 rfl
  have f2 : W.frozen? ⟨w.heap.size, 2, none⟩ = false := by simp [World.frozen?, g0]
  have k0 : W.cell? ⟨w.heap.size + 1, 0, none⟩ = some (.int .i64 0) := cell_heap g1 rfl
  have k1 : W.cell? ⟨w.heap.size + 1, 1, none⟩ = some (.int .i64 0) := cell_heap g1 rfl
  have k2 : W.cell? ⟨w.heap.size + 1, 2, none⟩ = some (.slice none 0 0) := cell_heap g1 rfl
  have j0 : W.frozen? ⟨w.heap.size + 1, 0, none⟩ = false := by simp [World.frozen?, g1]
  have j1 : W.frozen? ⟨w.heap.size + 1, 1, none⟩ = false := by simp [World.frozen?, g1]
  have j2 : W.frozen? ⟨w.heap.size + 1, 2, none⟩ = false := by simp [World.frozen?, g1]
  have H2 := Lib.hid h2
  have Hs := Lib.hid hs
  clear hg g0 g1 h2 hs
  go_wp2_with fail
  refine Calls.mono H ?_
  rintro _ w1 ⟨v, rfl, ho, hb⟩
  rw [List.length_map] at ho
  obtain ⟨vp, vc, rfl⟩ := owns_slice ho
  have Ho := Lib.hid ho
  have Hb := Lib.hid (Below.thn H2.out hb)
  have q0 := cell_later hb c0
  have q1 := cell_later hb c1
  have q2 := cell_later hb c2
  have r2 := free_later hb c2 f2
  have m0 := cell_later hb k0
  have m1 := cell_later hb k1
  have m2 := cell_later hb k2
  have n0 := free_later hb k0 j0
  have n1 := free_later hb k1 j1
  have n2 := free_later hb k2 j2
  clear c0 c1 c2 f2 k0 k1 k2 j0 j1 j2 ho hb H
  go_upto_region 2 with (fail)
  have t1 : Turns (fun b => b = w.heap.size) w1 (w1.setCell ⟨w.heap.size, 2, none⟩ (.slice vp l.length vc)) := (Turns.refl (fun b => b = w.heap.size) w1).set (p := ⟨w.heap.size, 2, none⟩) rfl _
  have x0 : (w1.setCell ⟨w.heap.size, 2, none⟩ (.slice vp l.length vc)).cell? ⟨w.heap.size, 0, none⟩ = some (.int .i64 wd) := by simp [go_sem, q0]
  have x1 : (w1.setCell ⟨w.heap.size, 2, none⟩ (.slice vp l.length vc)).cell? ⟨w.heap.size, 1, none⟩ = some (.int .i64 ht) := by simp [go_sem, q1]
  have x2 : (w1.setCell ⟨w.heap.size, 2, none⟩ (.slice vp l.length vc)).cell? ⟨w.heap.size, 2, none⟩ = some (.slice vp l.length vc) := by simp [go_sem, q2]
  have hne : ¬ w.heap.size + 1 = w.heap.size := by omega
  have y0 := t1.cell m0 hne
  have y1 := t1.cell m1 hne
  have y2 := t1.cell m2 hne
  have z0 := t1.free m0 n0 hne
  have z1 := t1.free m1 n1 hne
  have z2 := t1.free m2 n2 hne
  have T1 := Lib.hid t1
  generalize w1.setCell ⟨w.heap.size, 2, none⟩ (.slice vp l.length vc) = w2 at *
  clear q0 q1 q2 r2 m0 m1 m2 n0 n1 n2 t1 hne
  go_wp2
  obtain ⟨u0, u1, u2, ut⟩ := img_set wd ht (.slice vp l.length vc) y0 y1 y2 _ rfl
  have hW := Hs.out
  refine bodyPost_ret (results_ci rfl rfl u0 u1 u2 ⟨_, _, _, rfl⟩) rfl ⟨_, rfl, ?_, ?_⟩
  · rw [List.length_map]
    refine ut.owns (T1.out.owns (owns_base Ho.out (by omega)) (fun i hi (h : i = w.heap.size) => ?_)) (fun i hi (h : i = w.heap.size + 1) => ?_)
    · have := (Ho.out.lt i hi).1; omega
    · have := (Ho.out.lt i hi).1; omega
  · have h1 : Below w.heap.size w w2 := Hb.out.trans (T1.out.below Hb.out.size fun i (hi : i = w.heap.size) => by omega)
    exact h1.trans (ut.below h1.size fun i (hi : i = w.heap.size + 1) => by omega)
end Go.Proofs.YtoladolgmeanhaaGreat

namespace Go.Proofs.YtoladolgmeanhaaGreat
open Go.RowKit
attribute [local go_sem] Oper.semAt_some
theorem DcE.yes {kd : Nat} {wd ht : Int} {b : List Nat} {base n : Nat} {L : List Nat} {e : Ending} {w' : World} (h : DcE kd wd ht b base e w') (hm : cdM wd ht n) (hk : 1 ≤ kd ∧ kd ≤ 4) (hC : CdR kd b n (some L)) :
    ∃ p c, e = .returned (.tuple #[.agg #[.int .i64 wd, .int .i64 ht, .slice p L.length c], .int .i64 0]) ∧ w'.ownsRow base 41 1 (.slice p L.length c) L.length (L.map pxv) := by
  rcases h with ⟨h, -⟩ | ⟨-, h, -⟩ | ⟨-, -, q, r, hq, hC', hr⟩
  · exact absurd ⟨hm.1, hm.2.1, hm.2.2.1, hm.2.2.2.1⟩ h
  · exact absurd hk h
  · obtain rfl : q = n := by have := hm.2.2.2.2; omega
    obtain rfl := hC.det hC'
    rcases hr with ⟨h, -⟩ | ⟨L', v, e', rfl, ho⟩
    · cases h
    · cases e'
      obtain ⟨p, c, rfl⟩ := owns_slice ho
      exact ⟨p, c, rfl, ho⟩
theorem tells_w {w0 : World} : ∀ W, Below w0.heap.size w0 W → Calls Tryz.prog 15 #[] W fun e w' => e = .returned (.bool true) ∧ Below w0.heap.size w0 w' := fun W hW =>
  Calls.mono (ctells_law W) (by
    rintro _ w' ⟨rfl, hb⟩
    exact ⟨rfl, Below.thn hW hb⟩)
theorem cut_w {w0 : World} {wd ht : Int} {p : Option Addr} {n c : Nat} {l : List Nat} (hv : Row encP 1 w0 (.slice p n c) l) (hl : n ≤ 1048576) : ∀ W, Below w0.heap.size w0 W →
    Calls Tryz.prog 19 #[.agg #[.int .i64 wd, .int .i64 ht, .slice p n c]] W fun e w' => ∃ p' c', e = .returned (.agg #[.int .i64 wd, .int .i64 ht, .slice p' n c']) ∧ Below w0.heap.size w0 w' ∧ Below W.heap.size W w' ∧ ∀ W', Below w'.heap.size w' W' → Row encP 1 W' (.slice p' n c') (l.map rlw) := fun W hW => by
  obtain rfl := hv.lenR
  refine Calls.mono (ccut_any wd ht p c l W (hv.below hW).at'.1 hl) ?_
  rintro _ w' ⟨v, rfl, ho, hb⟩
  rw [List.length_map] at ho
  obtain ⟨p', c', rfl⟩ := owns_slice ho
  exact ⟨p', c', rfl, Below.thn hW hb, hb, fun W' hW' => (own_rowP ho).below hW'⟩
end Go.Proofs.YtoladolgmeanhaaGreat

namespace Go.Proofs.YtoladolgmeanhaaGreat
open Go.RowKit
section
variable {P : Program} {ops : Array Oper} {md : Region.Mode}
structure ShapeG (md : Region.Mode) (ops : Array Oper) (M : Nat) : Prop where
  sel : ∀ (j : Nat) (o : Oper) cs b, ops[j]? = some o → o.op ≠ .select cs b
  pair : ∀ (i j : Nat) (oi oj : Oper), i < j → j < M → ops[i]? = some oi → ops[j]? = some oj → Region.waitsFor md ops j i = true ∨ oi.apart ops oj = true
  sink : ∀ i, i < M - 1 → ∃ j, i < j ∧ j < M ∧ Region.waitsFor md ops j i = true
  tail : ∀ t, M ≤ t → t < ops.size → ∃ k, M - 1 ≤ k ∧ k < t ∧ Region.waitsFor md ops t k = true
  back : ∀ (i : Nat) (o : Oper), i < M → ops[i]? = some o → ∀ e ∈ o.after, Region.binds md e = true → e.on < i
  lt : M < ops.size
def shapeG (md : Region.Mode) (ops : Array Oper) (N : Nat) : Bool :=
  Region.noSelect ops && (decide (N < ops.size) &&
  (((List.range N).all fun j => (List.range j).all fun i => Region.waitsFor md ops j i || (match ops[i]?, ops[j]? with | some oi, some oj => oi.apart ops oj | _, _ => false)) &&
  ((((List.range (N - 1)).all fun i => (List.range N).any fun j => decide (i < j) && Region.waitsFor md ops j i) &&
    ((List.range ops.size).all fun t => decide (t < N) || (List.range t).any fun k => decide (N - 1 ≤ k) && Region.waitsFor md ops t k)) &&
  ((List.range N).all fun i => match ops[i]? with | some o => o.after.all (fun e => !Region.binds md e || decide (e.on < i)) | none => false))))
theorem shapeG_of {N : Nat} (h : shapeG md ops N = true) : ShapeG md ops N := by
  simp only [shapeG, Bool.and_eq_true] at h
  obtain ⟨h1, h2, h3, ⟨h4, h4'⟩, h5⟩ := h
  refine ⟨fun j o cs b ho => Region.noSelect_spec h1 j o cs b ho, fun i j oi oj hij hj hi' hj' => ?_, fun i hi => ?_, fun t ht hs => ?_, fun i o hi ho e he hb => ?_, by simpa using h2⟩
  · have := List.all_eq_true.1 (List.all_eq_true.1 h3 j (List.mem_range.2 hj)) i (List.mem_range.2 hij)
    rw [hi', hj'] at this
    simpa using this
  · obtain ⟨j, hj, h⟩ := List.any_eq_true.1 (List.all_eq_true.1 h4 i (List.mem_range.2 hi))
    rw [Bool.and_eq_true, decide_eq_true_eq] at h
    exact ⟨j, h.1, List.mem_range.1 hj, h.2⟩
  · have := List.all_eq_true.1 h4' t (List.mem_range.2 hs)
    rw [Bool.or_eq_true, decide_eq_true_eq] at this
    rcases this with h | h
    · omega
    · obtain ⟨k, hk, h⟩ := List.any_eq_true.1 h
      rw [Bool.and_eq_true, decide_eq_true_eq] at h
      exact ⟨k, h.1, List.mem_range.1 hk, h.2⟩
  · have := List.all_eq_true.1 h5 i (List.mem_range.2 hi)
    rw [ho] at this
    have h6 := Array.all_eq_true'.1 this e he
    rw [hb] at h6
    simpa using h6
theorem ShapeG.waits {M : Nat} (S : ShapeG md ops M) {listed : Array Bool} (inv : HeadInv md ops M listed) {i : Nat} (hi : i < M) (hl : listed.getD i true = false) {t : Nat} (ht : t ∈ Region.ready md ops listed) : t < M := by
  rcases Nat.lt_or_ge t M with h | h
  · exact h
  exfalso
  obtain ⟨-, ot, hot, hall⟩ := mem_ready.1 ht
  have hts : t < ops.size := (Array.getElem?_eq_some_iff.1 hot).1
  obtain ⟨k, k1, k2, k3⟩ := S.tail t h hts
  obtain ⟨oj, hoj, e, he, hb, hon⟩ := Region.waitsFor_spec k3
  rw [hot] at hoj
  cases hoj
  have hkl := hall e he hb
  rw [hon] at hkl
  have hkM : k = M - 1 := by
    rcases Nat.lt_or_ge k M with h | h
    · omega
    · have := getD_both (inv.tail k h (by omega))
      rw [this] at hkl; cases hkl
  subst hkM
  have key : ∀ d i, i + d = M - 1 → listed.getD i false = true := by
    intro d
    induction d using Nat.strongRecOn with
    | _ d ih =>
      intro i hid
      rcases Nat.eq_zero_or_pos d with h0 | h0
      · obtain rfl : i = M - 1 := by omega
        exact hkl
      · obtain ⟨j, j1, j2, j3⟩ := S.sink i (by omega)
        have hj := ih (M - 1 - j) (by omega) j (by omega)
        obtain ⟨oj, hoj, e, he, hb, hon⟩ := Region.waitsFor_spec j3
        have := inv.closed j oj hoj hj e he hb
        rwa [hon] at this
  have := key (M - 1 - i) i (by omega)
  rw [getD_both hl] at this
  cases this
def ChG (P : Program) (ops : Array Oper) (C : World → Prop) (E : (World → Prop) → Act → Prop) : List Oper → (World → Prop) → Act → Prop
  | [], Kn, a => E Kn a
  | o :: rest, Kn, a => Region.wanted o (yielded ops a.tmps) = true ∧ ∃ Po : Value → World → Prop, (∀ v, StaysC (Po v)) ∧ (∀ w, C w → Kn w → spOut P C Po w ((execOp a.eval o).run P w)) ∧ ∀ v, ChG P ops C E rest (Po v) (a.put o.dst v)
theorem ChG.pick {C : World → Prop} {E : (World → Prop) → Act → Prop} (j : Oper) (post : List Oper) (hj : ∀ cs b, j.op ≠ .select cs b) : ∀ (pre : List Oper) (Kn : World → Prop) (a : Act), (∀ p ∈ pre, p.apart ops j = true ∧ ∀ cs b, p.op ≠ .select cs b) →
    LqC P ops C (fun a => ChG P ops C E (j :: post) Kn a) pre a → ∃ Po : Value → World → Prop, Region.wanted j (yielded ops a.tmps) = true ∧ (∀ v, StaysC (Po v)) ∧ (∀ w, C w → Kn w → spOut P C Po w ((execOp a.eval j).run P w)) ∧ ∀ v, LqC P ops C (fun a => ChG P ops C E post (Po v) a) pre (a.put j.dst v)
  | [], _, _, _, h => by
    obtain ⟨h0, Po, h1, h2, h3⟩ := h
    exact ⟨Po, h0, h1, h2, h3⟩
  | i :: pre, Kn, a, hap, h => by
    obtain ⟨vi, hyi, h'⟩ := h
    obtain ⟨Po, g0, g1, g2, g3⟩ := ChG.pick j post hj pre Kn (a.put i.dst vi) (fun p hp => hap p (by simp [hp])) h'
    obtain ⟨hi, hsi⟩ := hap i (by simp)
    obtain ⟨h1, h2, h3⟩ := Oper.apart_spec hi
    refine ⟨Po, (wanted_put j a i.dst vi h1) ▸ g0, g1, fun w hC hK => ?_, fun v => ⟨vi, hyi.of_same (execOp_put i hsi a j.dst v h3) (wanted_put i a j.dst v h3), ?_⟩⟩
    · have := g2 w hC hK
      rwa [execOp_put j hj a i.dst vi h1] at this
    · rw [← Act.put_comm a vi v h2]
      exact g3 v
theorem StandT.readyG {N M : Nat} {listed : Array Bool} {pq ps : List (Nat × Oper)} (S : ShapeG md ops M) (h : StandT ops N M listed pq ps) (hne : pq ≠ [] ∨ ps ≠ []) : Region.ready md ops listed ≠ [] := by
  have key : ∀ p : Nat × Oper, p.1 < M → listed.getD p.1 true = false → ops[p.1]? = some p.2 → (∀ i, i < p.1 → listed.getD i true = true) → Region.ready md ops listed ≠ [] := fun p h1 h2 h3 h4 e => by
    have : p.1 ∈ Region.ready md ops listed := mem_ready.2 ⟨h2, p.2, h3, fun e' he hb => by
      have hle := h.le
      have hlt := S.back p.1 p.2 h1 h3 e' he hb
      have := h4 _ hlt
      first
        | exact this
        | (rw [getD_any (by rw [h.size]; omega)] ; exact this)
        | (have hs : e'.on < listed.size := by (rw [h.size]; omega)
           simpa [hs] using this)⟩
    rw [e] at this
    cases this
  have low : ∀ k, (∀ p ∈ pq, k ≤ p.1) → (∀ p ∈ ps, k ≤ p.1) → k ≤ M → ∀ i, i < k → listed.getD i true = true := fun k h1 h2 hk i hi => by
    cases hl : listed.getD i true
    · rcases h.all i (by omega) hl with ⟨r, hr, e⟩ | ⟨r, hr, e⟩
      · have := h1 r hr; omega
      · have := h2 r hr; omega
    · rfl
  cases pq with
  | cons p rest =>
    obtain ⟨q1, q2, q3, q4⟩ := h.q p (by simp)
    refine key p q2 q3 q4 (low p.1 (fun r hr => ?_) (fun r hr => ?_) (by omega))
    · rcases List.mem_cons.1 hr with rfl | hr
      · exact Nat.le_refl _
      · exact Nat.le_of_lt ((List.pairwise_cons.1 h.sq).1 r hr)
    · have := (h.s r hr).1; omega
  | nil =>
    cases ps with
    | cons p rest =>
      obtain ⟨q1, q2, q3, q4⟩ := h.s p (by simp)
      refine key p q2 q3 q4 (low p.1 (fun r hr => by cases hr) (fun r hr => ?_) (by omega))
      rcases List.mem_cons.1 hr with rfl | hr
      · exact Nat.le_refl _
      · exact Nat.le_of_lt ((List.pairwise_cons.1 h.ss).1 r hr)
    | nil => rcases hne with h | h <;> exact absurd rfl h
theorem chainG_any {Q : Exit → Act → World → Prop} {C : World → Prop} {N M : Nat} (g : Nat) (S : ShapeG md ops M) (hsp : specB md ops N M = true) (hC : StaysC C) :
    ∀ (f : Nat) (listed : Array Bool) (a : Act) (w : World) (Kn : World → Prop) (pq ps : List (Nat × Oper)), pq.length + ps.length = f → HeadInv md ops M listed → StandT ops N M listed pq ps → C w → StaysC Kn → Kn w →
      LqC P ops C (fun a => ChG P ops C (fun Kn a => ∀ w, C w → Kn w → wpAny P md ops Q g (headDone ops.size M) a w) (ps.map Prod.snd) Kn a) (pq.map Prod.snd) a → wpAny P md ops Q (f + g) listed a w := by
  intro f
  induction f with
  | zero =>
    intro listed a w Kn pq ps hf inv st hw hst hk hL
    have e1 : pq = [] := List.length_eq_zero_iff.1 (by omega)
    have e2 : ps = [] := List.length_eq_zero_iff.1 (by omega)
    subst e1 e2
    rw [Nat.zero_add, st.done]
    exact hL w hw hk
  | succ f ih =>
    intro listed a w Kn pq ps hf inv st hw hst hk hL
    rw [show f + 1 + g = (f + g) + 1 by omega]
    refine ⟨fun h0 => absurd h0 (st.readyG S (by
      cases pq with
      | cons p _ => exact .inl (by simp)
      | nil =>
        cases ps with
        | cons p _ => exact .inr (by simp)
        | nil => simp at hf)), fun i hi => ?_⟩
    obtain ⟨hil, oi, hoi, hall⟩ := mem_ready.1 hi
    have hiN : i < M := by
      cases pq with
      | cons p _ => exact S.waits inv (st.q p (by simp)).2.1 (st.q p (by simp)).2.2.1 hi
      | nil =>
        cases ps with
        | cons p _ => exact S.waits inv (st.s p (by simp)).2.1 (st.s p (by simp)).2.2.1 hi
        | nil => simp at hf
    have hap : ∀ r : Nat × Oper, r.1 < i → listed.getD r.1 true = false → ops[r.1]? = some r.2 → r.1 < N ∧ r.2.apart ops oi = true := fun r hr hl ho => by
      refine ⟨?_, ?_⟩
      · rcases Nat.lt_or_ge r.1 N with h | h
        · exact h
        · have := spec_of hsp h hr hiN
          rw [not_waits hi hl] at this; cases this
      · rcases S.pair r.1 i r.2 oi hr hiN ho hoi with h | h
        · rw [not_waits hi hl] at h; cases h
        · exact h
    unfold wpOp
    simp only [hoi]
    rcases st.all i hiN hil with ⟨p, hp, rfl⟩ | ⟨p, hp, rfl⟩
    · obtain ⟨pre, post, rfl⟩ := split_at hp
      obtain ⟨_, _, _, hpo⟩ := st.q p hp
      have heq : oi = p.2 := Option.some.inj (hoi.symm.trans hpo)
      subst heq
      have m1 := (pair_mid st.sq).1
      rw [List.map_append, List.map_cons] at hL
      obtain ⟨v, hy, hR⟩ := LqC.pick p.2 (post.map Prod.snd) (fun cs b => S.sel p.1 p.2 cs b hoi) (pre.map Prod.snd) a (fun o ho => by
        obtain ⟨r, hr, rfl⟩ := List.mem_map.1 ho
        obtain ⟨_, _, r2, r3⟩ := st.q r (by simp [hr])
        exact ⟨(hap r (m1 r hr) r2 r3).2, fun cs b => S.sel r.1 r.2 cs b r3⟩) hL
      rw [← List.map_append] at hR
      have hlen : (pre ++ post).length + ps.length = f := by simp at hf ⊢; omega
      rcases hy with ⟨hwt, hm⟩ | ⟨hwt, rfl⟩
      · rw [if_pos hwt]
        refine Or.inl ?_
        have h3 := hm w hw
        unfold Oper.wp
        generalize (execOp a.eval p.2).run P w = res at *
        cases res with
        | ok nx w' =>
          cases nx <;> simp only [mkUpon] at h3 <;> simp only [Oper.upon]
          case value u =>
            obtain ⟨e1, e2⟩ := h3
            rw [e1, e2]
            exact ih _ _ _ _ _ _ hlen (inv.set hi hiN) st.quiet hw hst hk hR
          case skip =>
            obtain ⟨e1, e2⟩ := h3
            rw [e1, ← e2]
            exact ih _ _ _ _ _ _ hlen (inv.set hi hiN) st.quiet hw hst hk hR
          case enter g args =>
            obtain ⟨e1, hc⟩ := h3
            rw [e1]
            exact Calls.mono hc fun e w'' ⟨he, hb⟩ => by subst he; exact ih _ _ _ _ _ _ hlen (inv.set hi hiN) st.quiet (hC _ _ hw hb) hst (hst _ _ hk hb) hR
        | halt x w' => simp only [mkUpon] at h3
      · rw [if_neg (by rw [hwt]; exact Bool.false_ne_true)]
        exact ih _ _ _ _ _ _ hlen (inv.set hi hiN) st.quiet hw hst hk hR
    · obtain ⟨pre, post, rfl⟩ := split_at hp
      obtain ⟨_, _, _, hpo⟩ := st.s p hp
      have heq : oi = p.2 := Option.some.inj (hoi.symm.trans hpo)
      subst heq
      have hpre : pre = [] := by
        cases pre with
        | nil => rfl
        | cons r rest =>
          obtain ⟨r1, r2, r3, r4⟩ := st.s r (by simp)
          have h1 : r.1 < p.1 := (List.pairwise_cons.1 st.ss).1 p (by simp)
          have := (hap r h1 r3 r4).1
          omega
      subst hpre
      rw [List.nil_append] at hL st hf
      rw [List.map_cons] at hL
      obtain ⟨Po, g0, g1, g2, g3⟩ := ChG.pick p.2 (post.map Prod.snd) (fun cs b => S.sel p.1 p.2 cs b hoi) (pq.map Prod.snd) Kn a (fun o ho => by
        obtain ⟨r, hr, rfl⟩ := List.mem_map.1 ho
        obtain ⟨r1, _, r2, r3⟩ := st.q r hr
        have := (st.s p (by simp)).1
        exact ⟨(hap r (by omega) r2 r3).2, fun cs b => S.sel r.1 r.2 cs b r3⟩) hL
      have hlen : pq.length + post.length = f := by simp at hf ⊢; omega
      have hwt : Region.wanted p.2 (yielded ops a.tmps) = true := g0
      rw [if_pos hwt]
      refine Or.inl ?_
      have h3 := g2 w hw hk
      unfold Oper.wp
      generalize (execOp a.eval p.2).run P w = res at *
      cases res with
      | ok nx w' =>
        cases nx <;> simp only [spOut] at h3 <;> simp only [Oper.upon]
        case value u => exact ih _ _ _ _ _ _ hlen (inv.set hi hiN) st.special h3.1 (g1 u) h3.2 (g3 u)
        case skip => exact ih _ _ _ _ _ _ hlen (inv.set hi hiN) st.special h3.1 (g1 _) h3.2 (g3 _)
        case enter g args =>
          obtain ⟨e1, hc⟩ := h3
          rw [e1]
          exact Calls.mono hc fun e w'' ⟨v, he, hc, hp⟩ => by subst he; exact ih _ _ _ _ _ _ hlen (inv.set hi hiN) st.special hc (g1 v) hp (g3 v)
      | halt x w' => simp only [spOut] at h3
theorem ChG_call {C : World → Prop} {E : (World → Prop) → Act → Prop} {Kn : World → Prop} {a : Act} {o : Oper} {rest : List Oper} (hwt : Region.wanted o (yielded ops a.tmps) = true) (f : FuncId) (args : Array Value)
    (hrun : ∀ w, (execOp a.eval o).run P w = .ok (.enter f args) w) (Po : Value → World → Prop) (hst : ∀ v, StaysC (Po v))
    (hcall : ∀ w, C w → Kn w → Calls P f args w fun e w' => ∃ v, e = .returned v ∧ C w' ∧ Po v w')
    (h : ∀ v, ChG P ops C E rest (Po v) (a.put o.dst v)) : ChG P ops C E (o :: rest) Kn a := by
  refine ⟨hwt, Po, hst, fun w hw hk => ?_, h⟩
  rw [hrun w]
  exact ⟨rfl, hcall w hw hk⟩
end
theorem hd_true {s k j : Nat} (b : Bool) (hj : j < k) (_hk : k ≤ s) : (headDone s k).getD j b = true := by
  simp [headDone, hj, show j < k + (s - k) by omega]
theorem hd_false {s k j : Nat} (b : Bool) (hj : k ≤ j) (hs : j < s) : (headDone s k).getD j b = false := by
  simp [headDone, List.getElem_append, show ¬ j < k by omega, show j < k + (s - k) by omega]
theorem hd_size (s k : Nat) (h : k ≤ s) : (headDone s k).size = s := by simp [headDone]; omega
section
variable {P : Program}
theorem part_any {Q : Exit → Act → World → Prop} {a : Act} {w : World} {l : List Oper} (k n m : Nat) (C K0 : World → Prop) (hkn : decide (k ≤ n) = true) (hn : decide (n ≤ m) = true) (hS : shapeG .any l.toArray m = true) (hsp : specB .any l.toArray n m = true) (hC : StaysC C) (hw : C w) (hK : StaysC K0) (hk : K0 w)
    (h : LqC P l.toArray C (fun a => ChG P l.toArray C (fun Kn a => ∀ w, C w → Kn w → wpAny P .any l.toArray Q (l.length - m) (headDone l.length m) a w) ((l.take m).drop n) K0 a) ((l.take n).drop k) a) : wpAny P .any l.toArray Q (l.length - k) (headDone l.length k) a w := by
  have S := shapeG_of hS
  have hle : m < l.length := by simpa using S.lt
  have hkn := of_decide_eq_true hkn
  have hn := of_decide_eq_true hn
  have htake : ((l.take n).drop k).length = n - k := by simp; omega
  have hdrop : ((l.take m).drop n).length = m - n := by simp; omega
  have H := chainG_any (P := P) (Q := Q) (md := .any) (l.length - m) S hsp hC (m - k) (headDone l.length k) a w K0 (placed k ((l.take n).drop k)) (placed n ((l.take m).drop n)) (by rw [placed_len, placed_len, htake, hdrop]; omega)
    ⟨by rw [hd_size _ _ (by omega)]; simp, fun j oj hoj hl e he hb => by
      have hjk : j < k := by
        rcases Nat.lt_or_ge j k with h | h
        · exact h
        · have hj : j < l.length := by simpa using (Array.getElem?_eq_some_iff.1 hoj).1
          rw [hd_false _ h hj] at hl; cases hl
      have := S.back j oj (by omega) hoj e he hb
      exact hd_true _ (by omega) (by omega), fun t h1 h2 => hd_false _ (by omega) (by simpa using h2)⟩
    { size := by rw [hd_size _ _ (by omega)]; simp
      le := S.lt
      tail := fun t h1 h2 => hd_false _ (by omega) (by simpa using h2)
      all := fun i hi hl => by
        have hki : k ≤ i := by
          rcases Nat.lt_or_ge i k with h | h
          · rw [hd_true _ h (by omega)] at hl; cases hl
          · exact h
        by_cases e : i < n
        · exact Or.inl (placed_all _ k i (by omega) (by rw [htake]; omega))
        · exact Or.inr (placed_all _ n i (by omega) (by rw [hdrop]; omega))
      q := fun p hp => by
        obtain ⟨p1, p2, p3⟩ := placed_mem _ k p hp
        rw [htake] at p2
        refine ⟨by omega, by omega, hd_false _ (by omega) (by omega), ?_⟩
        rw [List.getElem?_drop, show k + (p.1 - k) = p.1 by omega, List.getElem?_take, if_pos (by omega)] at p3
        simpa using p3
      s := fun p hp => by
        obtain ⟨p1, p2, p3⟩ := placed_mem _ n p hp
        rw [hdrop] at p2
        refine ⟨p1, by omega, hd_false _ (by omega) (by omega), ?_⟩
        rw [List.getElem?_drop, show n + (p.1 - n) = p.1 by omega, List.getElem?_take, if_pos (by omega)] at p3
        simpa using p3
      sq := placed_sorted _ _
      ss := placed_sorted _ _ }
    hw hK hk
    (by
      rw [placed_snd, placed_snd]
      simpa using h)
  have hfuel : m - k + (l.length - m) = l.length - k := by omega
  rw [hfuel] at H
  exact H
theorem region_parts {id : Nat} {Q : Exit → Act → World → Prop} {a : Act} {w : World} {l : List Oper} (hm : P.follows .mixedOrders = true)
    (h : wpAny P .any l.toArray Q (l.length - 0) (headDone l.length 0) a { w with drawn := w.drawn + 1 }) : (Code.region id l.toArray true).wp P Q a w := by
  refine wp_region_any hm ?_
  have e : headDone l.length 0 = Array.replicate l.toArray.size false := by simp [headDone]
  rw [e] at h
  simpa using h
theorem part_quiet {Q : Exit → Act → World → Prop} {a : Act} {w : World} {l : List Oper} (m : Nat) (C : World → Prop) (hs : Region.noSelect l.toArray = true) (hB : Region.lexFrom .any l.toArray (l.length - m) m (headDone l.length m) = true) (hw : C w)
    (h : wpQuiet P l.toArray C (fun a' => ∀ w', C w' → Q .normal a' w') (l.drop m) a) : wpAny P .any l.toArray Q (l.length - m) (headDone l.length m) a w := by
  refine wpAny_of_quiet (C := C) (Q := fun a' => ∀ w', C w' → Q .normal a' w') (fun _ w' hw' h => h w' hw') _ _ _ _ hw ?_
  have := wpAnyQ_lex (P := P) (C := C) (md := .any) hs (l.drop m) m (headDone l.length m) a (by simp) (by simpa using hB) h
  simpa using this
end
end Go.Proofs.YtoladolgmeanhaaGreat
