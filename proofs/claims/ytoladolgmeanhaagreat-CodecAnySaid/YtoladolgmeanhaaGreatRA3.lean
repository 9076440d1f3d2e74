/- Several texts in one, each with its own head. -/
import Derived.Test.YtoladolgmeanhaaGreatRA2
namespace Go.Proofs.YtoladolgmeanhaaGreat
open Go.RowKit
def Tells (P : Pt) (b : List Nat) : Prop := ∃ Q, SameP P Q ∧ okP Q ∧ ∀ l q lim, AtP l 0 (Q ++ q) → b.length ≤ lim → InfBl l lim 0 [] (.go (szP Q) b)
theorem SameP.bytP {P Q : Pt} (h : SameP P Q) : bytP P = bytP Q := by unfold Proofs.YtoladolgmeanhaaGreat.bytP; rw [h.1, h.2]
theorem Tells.infl {P : Pt} {b : List Nat} (h : Tells P b) (m : List Nat) {lim : Nat} (hl : lim ≤ 524288) (hb : b.length ≤ lim) : Infl (bytP P ++ m) lim b (bytP P).length 0 := by
  obtain ⟨Q, h1, h2, h3⟩ := h
  rw [h1.bytP]
  have t := h3 (Proofs.YtoladolgmeanhaaGreat.bytP Q ++ m) [] lim (by rw [List.append_nil]; exact atP_all h2 m) hb
  have := Infl.go lim _ _ rfl hl t
  rw [bytP_len, show (szP Q + 7) / 8 = alN (szP Q) / 8 by unfold alN; omega]
  exact this
theorem stB_tells {b : List Nat} (hb : ∀ x ∈ b, x < 256) : Tells (putB 0 (stB b)) b :=
  ⟨_, SameP.refl _, bnB_okP (stB_ok hb) 0, fun l q lim h hl => by
    have := (bn_bl lim (stB_ne b) (stB_ok hb) h).1 (by rw [stB_tell]; exact hl)
    rw [stB_tell, Nat.zero_add] at this
    exact this⟩
theorem fix_tells {ts : List Tk} {b : List Nat} (hx : xp ts [] = (b, 0)) (h256 : ∀ t ∈ ts, t.b < 256) : Tells (fixP ts) b := by
  have h2 : (xp ts []).2 = 0 := by rw [hx]
  have hok := xp_okD h2
  have hB : okB [Bn.fx (ts.map tn)] [] := ⟨xp_may h2 fun t ht => fix_cod (hok t ht) (h256 t ht), trivial⟩
  have ht : tellB [Bn.fx (ts.map tn)] [] = b := by
    show toldT (ts.map tn) [] = b
    rw [← xp_told h2, hx]
  refine ⟨putB 0 [Bn.fx (ts.map tn)], ?_, bnB_okP hB 0, fun l q lim h hl => ?_⟩
  · show SameP (fixP ts) (((1, 1) :: (1, 2) :: (laidT fixA fixD (ts.map tn) ++ endP fixA)) ++ [])
    rw [List.append_nil]
    exact (SameP.refl [(1, 1), (1, 2)]).app (pas_laid hok)
  · have := (bn_bl lim (by simp) hB h).1 (by rw [ht]; exact hl)
    rw [ht, Nat.zero_add] at this
    exact this
theorem pasT_c {ts : List Tk} {x : Pa} (h : x ∈ pasT ts) : x.c < 2 := by
  rcases List.mem_append.1 h with h | h
  · obtain ⟨t, -, hx⟩ := List.mem_flatMap.1 h
    unfold paT at hx
    split at hx
    · rw [List.mem_singleton] at hx; subst hx; exact Nat.zero_lt_two
    · rcases List.mem_cons.1 hx with rfl | hx
      · exact Nat.zero_lt_two
      · rw [List.mem_singleton] at hx; subst hx; exact Nat.one_lt_two
  · rw [List.mem_singleton] at h; subst h; exact Nat.zero_lt_two
theorem cut_flat {A D : List Nat} {m k : Nat} (hA : Cut A m) (hD : Cut D k) {xs : List Pa} (h : ∀ x ∈ xs, x.c < 2) : xs.flatMap (plP [A, D]) = xs.flatMap (plP [A.take m, D.take k]) := by
  induction xs with
  | nil => rfl
  | cons x r ih =>
    rw [List.flatMap_cons, List.flatMap_cons, ih fun y hy => h y (List.mem_cons_of_mem _ hy), cut_pl hA hD x (h x List.mem_cons_self)]
theorem rn_okP {C : List Nat} {xs : List Pa} (h : ∀ x ∈ xs, PaOk [C] x) : okP (xs.flatMap (plP [C])) := fun p hp => by
  obtain ⟨x, hx, hp⟩ := List.mem_flatMap.1 hp
  obtain ⟨-, -, -, h4, -⟩ := h x hx
  unfold plP at hp
  rcases List.mem_cons.1 hp with rfl | hp
  · exact cd_low _ _ _
  · rw [List.mem_singleton] at hp; subst hp; exact h4
theorem putR_ok {X Y C : List Nat} {k : Nat} (x1 : X.length ≤ 286) (y1 : Y.length ≤ 30) (k4 : k ≤ 19) (h8 : ∀ i, lq C i < 8) (h : ∀ x ∈ rnL (X ++ Y), PaOk [C] x) : okP (putR X Y C k) := by
  refine okP_cons (by show X.length - 257 < 32; omega) (okP_cons (by show Y.length - 1 < 32; omega) (okP_cons (by show k - 4 < 16; omega) (okP_app (fun p hp => ?_) (rn_okP h))))
  obtain ⟨i, -, rfl⟩ := List.mem_map.1 hp
  exact h8 i
theorem DynF.tells {ts : List Tk} {P : Pt} {b : List Nat} (h : DynF ts P) (hx : xp ts [] = (b, 0)) (h256 : ∀ t ∈ ts, t.b < 256) : Tells P b ∧ szP P ≤ 15 * b.length + 7100 := by
  have h2 : (xp ts []).2 = 0 := by rw [hx]
  have hok := xp_okD h2
  obtain ⟨gA, gD, gC, hA, hD, hC, rfl⟩ := h.ex
  obtain ⟨hcod, h0⟩ := best_ok (fun t ht => ⟨hok t ht, h256 t ht⟩) hA.1 hD.1
  have cA := best_chk hA.1 (by decide) (by decide)
  have cD := best_chk hD.1 (by decide) (by decide)
  have lA := gl_len gA 286
  have lD := gl_len gD 30
  have lC := gl_len gC 19
  have K := DynK.of (gl gC 19) lA lD cA cD
  have cutA : Cut (gl gA 286) (trN (gl gA 286) 257 286) := by have := Cut.of (gl gA 286) 257; rwa [lA] at this
  have cutD : Cut (gl gD 30) (trN (gl gD 30) 1 30) := by have := Cut.of (gl gD 30) 1; rwa [lD] at this
  obtain ⟨cC, r1, r2, r3, r4⟩ := rnL_best K.h16 hC.1
  have hfl := cut_flat cutA cutD (xs := pasT ts) fun x hx => pasT_c hx
  have hm : mayT (cutX (gl gA 286)) (cutY (gl gD 30)) (ts.map tn) [] := xp_may h2 fun t ht => cutA.codT cutD (hcod t ht)
  have h06 : 0 < lq (cutX (gl gA 286)) 256 := by show 0 < lq ((gl gA 286).take _) 256; rw [cutA.lq]; exact h0
  refine ⟨⟨(1, 1) :: ((2, 2) :: (putR (cutX (gl gA 286)) (cutY (gl gD 30)) (gl gC 19) (trN (ordO (gl gC 19)) 4 19) ++ (laidT (cutX (gl gA 286)) (cutY (gl gD 30)) (ts.map tn) ++ endP (cutX (gl gA 286))))), ?_, ?_, fun l q lim h hl => ?_⟩, ?_⟩
  · unfold dynP
    rw [hfl, List.append_assoc]
    exact (SameP.refl [(1, 1), (2, 2)]).app ((SameP.refl _).app (pas_laid hok))
  · exact okP_cons (by decide) (okP_cons (by decide) (okP_app (putR_ok K.x1.2 K.y1.2 K.k.2 r3 r2) (okP_app (tnT_okP hm) (okP_one (cd_low _ _ _)))))
  · obtain ⟨p1, q1, h⟩ := h
    have ht : toldT (ts.map tn) [] = b := by rw [← xp_told h2, hx]
    have := dyn_bk (lim := lim) K.x1.1 K.x1.2 K.y1.1 K.y1.2 K.k.1 K.k.2 lC cC K.hz K.h16 r1 K.cx K.cy h06 hm h (by rw [ht]; exact hl)
    rw [ht] at this
    have h3 := InfBl.last 0 [] q1 p1 _ _ this
    simp only [szP, Nat.zero_add] at h3 ⊢
    exact h3
  · have s1 := putR_sz K.x1.2 K.y1.2 K.k.2 r4
    have s2 := pas_sz (lq_15 cA) (lq_15 cD) (ts := ts) hok
    have s3 := xp_sizes h2
    rw [hx] at s3
    simp only [List.length_nil, Nat.zero_add] at s3
    rw [← s3] at s2
    unfold dynP
    simp only [szP_app, szP]
    omega
theorem pickP_tells {P Q : Pt} {b : List Nat} (h : Tells P b) (k : Tells Q b) : Tells (pickP P Q) b := by
  unfold pickP
  split
  · exact k
  · exact h
theorem DefS.infl {b S : List Nat} (h : DefS b S) (hb : ∀ x ∈ b, x < 256) (hl : b.length ≤ 524288) (m : List Nat) {lim : Nat} (h1 : lim ≤ 524288) (h2 : b.length ≤ lim) : Infl (S ++ m) lim b S.length 0 := by
  obtain ⟨ts, P, h3, h4, h5, rfl⟩ := h.ex
  have hx := h3.tell hl
  exact (pickP_tells (pickP_tells (stB_tells hb) (fix_tells hx h4)) (h5.tells hx h4).1).infl m h1 h2
theorem DefS.lt {b S : List Nat} (h : DefS b S) : ∀ x ∈ S, x < 256 := by
  obtain ⟨ts, P, -, -, -, rfl⟩ := h.ex
  exact byts_lt _ _
end Go.Proofs.YtoladolgmeanhaaGreat

namespace Go.Proofs.YtoladolgmeanhaaGreat
theorem rlD_cases {b : List Nat} {n : Int} (h : (rlD b n).2 = 0) : b.length % 4 = 0 ∧ ((rlay (rlT b)).length : Int) = n ∧ (rlD b n).1 = rlay (rlT b) := by
  by_cases h1 : n < 0 ∨ 65536 < n
  · rw [rlD_arg h1] at h; exact absurd h (by decide)
  by_cases h2 : b.length % 4 = 0
  · by_cases h3 : ((rlay (rlT b)).length : Int) = n
    · exact ⟨h2, h3, by rw [rlD_yes h1 h2 h3]⟩
    · rw [rlD_no h1 h3] at h; exact absurd h (by decide)
  · rw [rlD_odd h1 h2] at h; exact absurd h (by decide)
theorem plPx_cases {cs r L : List Nat} {n : Nat} (h : plPx cs r n = some L) : r.length = (n * plZ cs.length + 7) / 8 ∧ (∀ v ∈ plG r (plZ cs.length) n, v < cs.length) ∧ L = (plG r (plZ cs.length) n).map fun v => cs.getD v 0 := by
  unfold plPx at h
  split at h
  · cases h
  rename_i h1
  split at h
  · cases h
  rename_i h2
  split at h
  · cases h
  · injection h with h
    exact ⟨Classical.not_not.1 h1, fun v hv => Nat.lt_of_not_le fun hle => h2 ⟨v, hv, hle⟩, h.symm⟩
theorem plD_cases {b : List Nat} {n : Nat} (h : (plD b n).2 = 0) : ∃ cs : List Nat, cs = plTri ((b.drop 1).take (3 * (b.getD 0 0 + 1))) ∧ 1 ≤ cs.length ∧ cs.length ≤ 16 ∧ b.length = 1 + 3 * cs.length + (n * plZ cs.length + 7) / 8 ∧ (plD b n).1.length = n ∧ ∀ c ∈ (plD b n).1, c ∈ cs := by
  by_cases h1 : (n : Int) < 1 ∨ 65536 < (n : Int)
  · rw [plD_arg h1] at h; exact absurd h (by decide)
  by_cases h2 : b.length = 0 ∨ 16 ≤ b.getD 0 0 ∨ b.length < 1 + 3 * (b.getD 0 0 + 1)
  · rw [plD_head h1 h2] at h; exact absurd h (by decide)
  rw [plD_of h1 h2, Int.toNat_natCast] at h ⊢
  have hcl : (plTri ((b.drop 1).take (3 * (b.getD 0 0 + 1)))).length = b.getD 0 0 + 1 := plTri_len _ _ (by rw [List.length_take, List.length_drop]; omega)
  generalize hcs : plTri ((b.drop 1).take (3 * (b.getD 0 0 + 1))) = cs at *
  cases hp : plPx cs (b.drop (1 + 3 * (b.getD 0 0 + 1))) n with
  | none => rw [hp] at h; exact absurd h (by decide)
  | some L =>
    obtain ⟨p1, p2, p3⟩ := plPx_cases hp
    rw [List.length_drop] at p1
    refine ⟨cs, rfl, by omega, by omega, by omega, ?_, fun c hc => ?_⟩
    · show L.length = n
      rw [p3, List.length_map, plG_len]
    · have hc' : c ∈ L := hc
      rw [p3] at hc'
      obtain ⟨v, hv, rfl⟩ := List.mem_map.1 hc'
      have := p2 v hv
      rw [List.getD_eq_getElem?_getD, List.getElem?_eq_getElem this]
      exact List.getElem_mem _
theorem CdR.some {k : Nat} {b : List Nat} {n : Nat} {L : List Nat} (h : CdR k b n (some L)) (hb : ∀ x ∈ b, x < 256) (ho : ∀ o m er, Infl b ((3 * n : Nat) : Int) o m er → ∀ x ∈ o, x < 256) : L.length = n ∧ ∀ x ∈ L, x < 16777216 := by
  rcases h with ⟨h, e⟩ | ⟨h, e⟩ | ⟨h, e⟩ | ⟨h, o, m, er, hi, e⟩
  · split at e
    · rename_i hl
      injection e with e
      rw [e]
      exact ⟨plTri_len _ _ hl, plTri_low b hb⟩
    · cases e
  · split at e
    · rename_i hl
      injection e with e
      obtain ⟨h1, h2, h3⟩ := rlD_cases hl
      rw [e, h3]
      refine ⟨by omega, fun x hx => ?_⟩
      obtain ⟨r, hr, hx⟩ := List.mem_flatMap.1 hx
      have := (rlT_ok b hb r hr).2.2
      rw [List.mem_replicate] at hx
      omega
    · cases e
  · split at e
    · rename_i hl
      injection e with e
      obtain ⟨cs, hcs, -, -, -, h5, h6⟩ := plD_cases hl
      rw [e]
      refine ⟨h5, fun x hx => ?_⟩
      have := h6 x hx
      rw [hcs] at this
      exact plTri_low _ (fun y hy => hb y (List.mem_of_mem_drop (List.mem_of_mem_take hy))) x this
    · cases e
  · split at e
    · rename_i hl
      injection e with e
      rw [e]
      exact ⟨plTri_len _ _ hl.2.2, plTri_low o (ho o m er hi)⟩
    · cases e
theorem cdE_reads {l S : List Nat} (hS : DefS (cdP l) S) (h2 : l.length ≤ 65536) : CdR (cdE l S).1 (cdE l S).2 l.length (some (l.map rlw)) := by
  obtain ⟨j, hj, e, his⟩ := cdE_is l S
  rw [e]
  obtain rfl | rfl | rfl | rfl : j = 0 ∨ j = 1 ∨ j = 2 ∨ j = 3 := by omega
  · refine .inl ⟨rfl, ?_⟩
    show _ = if (cdP l).length = 3 * l.length then some (plTri (cdP l)) else none
    rw [if_pos (cdP_len l), cdP_tri]
  · refine .inr (.inl ⟨rfl, ?_⟩)
    show _ = if (rlD (rlBs (rlO l)) l.length).2 = 0 then some (rlD (rlBs (rlO l)) l.length).1 else none
    rw [rlD_rl h2]; rfl
  · refine .inr (.inr (.inl ⟨rfl, ?_⟩))
    show _ = if (plD (plE l).1 l.length).2 = 0 then some (plD (plE l).1 l.length).1 else none
    have hc : ¬ ((plCol l).length < 1 ∨ 16 < (plCol l).length) := fun hc => by
      have h3 : (plE l).2 = true := his
      rw [plE_no hc] at h3
      cases h3
    rw [plD_plE hc h2]; rfl
  · refine .inr (.inr (.inr ⟨rfl, cdP l, S.length, 0, ?_, ?_⟩))
    · have := hS.infl (cdP_256 l) (by rw [cdP_len]; omega) [] (lim := 3 * l.length) (by omega) (by rw [cdP_len]; exact Nat.le_refl _)
      rwa [List.append_nil] at this
    · show _ = if (0 : Int) = 0 ∧ S.length = S.length ∧ (cdP l).length = 3 * l.length then some (plTri (cdP l)) else none
      rw [if_pos ⟨rfl, rfl, cdP_len l⟩, cdP_tri]
theorem plZ_mono {a b : Nat} (h : a ≤ b) : plZ a ≤ plZ b := by
  unfold plZ
  repeat' split
  all_goals omega
theorem cdE_least {k : Nat} {b : List Nat} {n : Nat} {L S : List Nat} (h : CdR k b n (some L)) (hk : k ≠ 4) (hn : 1 ≤ n) (hb : ∀ x ∈ b, x < 256) : (cdE L S).2.length ≤ b.length := by
  rcases h with ⟨h, e⟩ | ⟨h, e⟩ | ⟨h, e⟩ | ⟨h, -⟩
  · split at e
    · rename_i hl
      injection e with e
      have h1 := cdE_len L S
      have h2 := plTri_len _ _ hl
      rw [← e] at h2
      omega
    · cases e
  · split at e
    · rename_i hl
      injection e with e
      obtain ⟨h1, h2, h3⟩ := rlD_cases hl
      have h4 := cdE_short L S (j := 1) (by omega) rfl
      have h5 : (cdW L S 1).1.length = 4 * (rlO L).length := rlBs_len _
      have h6 := rl_lay (rlT b) (fun r hr => (rlT_ok b hb r hr).2.1)
      rw [← h3, ← e] at h6
      have h7 := rlT_len b
      omega
    · cases e
  · split at e
    · rename_i hl
      injection e with e
      obtain ⟨cs, hcs, h1, h2, h3, h4, h5⟩ := plD_cases hl
      rw [← e] at h4 h5
      have hlow : ∀ c ∈ cs, c < 16777216 := by
        rw [hcs]
        exact plTri_low _ (fun y hy => hb y (List.mem_of_mem_drop (List.mem_of_mem_take hy)))
      have hsub : (plCol L).length ≤ cs.length := (plC_nodup L [] List.nodup_nil).length_le_of_subset fun c hc => by
        rcases (plC_mem L [] c).1 hc with hc | ⟨x, hx, rfl⟩
        · cases hc
        · have := h5 x hx
          rwa [show rlw x = x from Nat.mod_eq_of_lt (hlow x this)]
      have hne : (plCol L).length ≠ 0 := fun h0 => by
        have := plCol_nil.1 h0
        rw [this] at h4
        simp at h4
        omega
      have hc : ¬ ((plCol L).length < 1 ∨ 16 < (plCol L).length) := by omega
      have h6 := cdE_short L S (j := 2) (by omega) (by show (plE L).2 = true; rw [plE_yes hc])
      have h7 : (cdW L S 2).1.length = _ := plE_length hc
      have h8 : n * plZ (plCol L).length ≤ n * plZ cs.length := Nat.mul_le_mul_left _ (plZ_mono hsub)
      rw [h4] at h7
      omega
    · cases e
  · exact absurd h hk
open Go.RowKit
attribute [local go_sem] Oper.semAt_some
attribute [local go_sem] run_store_funcC
instance (wd ht : Int) (n : Nat) : Decidable (cdM wd ht n) := by unfold cdM; infer_instance
end Go.Proofs.YtoladolgmeanhaaGreat

namespace Go.Proofs.YtoladolgmeanhaaGreat
open Go.RowKit
attribute [local go_sem] Oper.semAt_some
theorem results_ci {fn : Func} {p : Tmp} {tmps : Array Value} {w : World} {B : Nat} {wd ht : Int} {v : Value} (h : fn.results = #[.cell p 24]) (hp : tmps.getD p undef = .pointer (some ⟨B, 0, none⟩))
    (c0 : w.cell? ⟨B, 0, none⟩ = some (.int .i64 wd)) (c1 : w.cell? ⟨B, 1, none⟩ = some (.int .i64 ht)) (c2 : w.cell? ⟨B, 2, none⟩ = some v) (hv : ∃ a n c, v = .slice a n c) : (results fn tmps).run Tryz.prog w = .ok (ImgV wd ht v) w := by
  obtain ⟨a, n, c, rfl⟩ := hv
  have hp' : tmps[p]?.getD undef = .pointer (some ⟨B, 0, none⟩) := by simpa using hp
  simp [results, h, hp', go_sem, c0, c1, c2, ImgV]
set_option maxRecDepth 20000 in
set_option maxHeartbeats 4000000 in
theorem ccut_any (wd ht : Int) (p : Option Addr) (c : Nat) (l : List Nat) (w : World) (hp : RowAt encP 1 w p l) (hl : l.length ≤ 1048576) :
    Calls Tryz.prog 19 #[.agg #[.int .i64 wd, .int .i64 ht, .slice p l.length c]] w fun e w' => ∃ v, e = .returned (ImgV wd ht v) ∧ w'.ownsRow w.heap.size 41 1 v (l.map rlw).length ((l.map rlw).map pxv) ∧ Below w.heap.size w w' := by
  have h2 := Below.al2 w (.cells #[.int .i64 wd, .int .i64 ht, .slice p l.length c] 24) (.cells #[.int .i64 0, .int .i64 0, .slice none 0 0] 24)
  have H := rcut_any p c l _ (hp.below h2) hl
  have hg := heap_pushed [.cells #[.int .i64 wd, .int .i64 ht, .slice p l.length c] 24, .cells #[.int .i64 0, .int .i64 0, .slice none 0 0] 24] w
  have hs : ((w.alloc (.cells #[.int .i64 wd, .int .i64 ht, .slice p l.length c] 24)).alloc (.cells #[.int .i64 0, .int .i64 0, .slice none 0 0] 24)).heap.size = w.heap.size + 1 + 1 := by rw [World.size_alloc, World.size_alloc]
  simp only [List.foldl_cons, List.foldl_nil] at hg
  obtain ⟨n, hn⟩ : ∃ n, l.length = n := ⟨_, rfl⟩
  rw [hn] at H h2 hg hs ⊢
  clear hp hn hl
  go_enter Tryz.func19, Tryz.ntmps19
  go_upto_region 1 with (fail)
  generalize (w.alloc (.cells #[.int .i64 wd, .int .i64 ht, .slice p n c] 24)).alloc (.cells #[.int .i64 0, .int .i64 0, .slice none 0 0] 24) = W at *
  have g0 := (hg 0 _).2 rfl
  have g1 := (hg 1 _).2 rfl
  rw [Nat.add_zero] at g0
  have c0 : W.cell? ⟨w.heap.size, 0, none⟩ = some (.int .i64 wd) := cell_heap g0 rfl
  have c1 : W.cell? ⟨w.heap.size, 1, none⟩ = some (.int .i64 ht) := cell_heap g0 rfl
  have c2 : W.cell? ⟨w.heap.size, 2, none⟩ = some (.slice p n c) := cell_heap g0 rfl
  have f2 : W.frozen? ⟨w.heap.size, 2, none⟩ = false := by simp [World.frozen?, g0]
  have k0 : W.cell? ⟨w.heap.size + 1, 0, none⟩ = some (.int .i64 0) := cell_heap g1 rfl
  have k1 : W.cell? ⟨w.heap.size + 1, 1, none⟩ = some (.int .i64 0) := cell_heap g1 rfl
  have k2 : W.cell? ⟨w.heap.size + 1, 2, none⟩ = some (.slice none 0 0) := cell_heap g1 rfl
  have j0 : W.frozen? ⟨w.heap.size + 1, 0, none⟩ = false := by simp [World.frozen?, g1]
  have j1 : W.frozen? ⟨w.heap.size + 1, 1, none⟩ = false := by simp [World.frozen?, g1]
  have j2 : W.frozen? ⟨w.heap.size + 1, 2, none⟩ = false := by simp [World.frozen?, g1]
  have H2 := Lib.hid h2
  have Hs := Lib.hid hs
  clear hg g0 g1 h2 hs
  go_wp2_with fail
  refine Calls.mono H ?_
  rintro _ w1 ⟨v, rfl, ho, hb⟩
  rw [List.length_map] at ho
  obtain ⟨vp, vc, rfl⟩ := owns_slice ho
  have Ho := Lib.hid ho
  have Hb := Lib.hid (Below.thn H2.out hb)
  have q0 := cell_later hb c0
  have q1 := cell_later hb c1
  have q2 := cell_later hb c2
  have r2 := free_later hb c2 f2
  have m0 := cell_later hb k0
  have m1 := cell_later hb k1
  have m2 := cell_later hb k2
  have n0 := free_later hb k0 j0
  have n1 := free_later hb k1 j1
  have n2 := free_later hb k2 j2
  clear c0 c1 c2 f2 k0 k1 k2 j0 j1 j2 ho hb H
  go_upto_region 2 with (fail)
  have t1 : Turns (fun b => b = w.heap.size) w1 (w1.setCell ⟨w.heap.size, 2, none⟩ (.slice vp l.length vc)) := (Turns.refl (fun b => b = w.heap.size) w1).set (p := ⟨w.heap.size, 2, none⟩) rfl _
  have x0 : (w1.setCell ⟨w.heap.size, 2, none⟩ (.slice vp l.length vc)).cell? ⟨w.heap.size, 0, none⟩ = some (.int .i64 wd) := by simp [go_sem, q0]
  have x1 : (w1.setCell ⟨w.heap.size, 2, none⟩ (.slice vp l.length vc)).cell? ⟨w.heap.size, 1, none⟩ = some (.int .i64 ht) := by simp [go_sem, q1]
  have x2 : (w1.setCell ⟨w.heap.size, 2, none⟩ (.slice vp l.length vc)).cell? ⟨w.heap.size, 2, none⟩ = some (.slice vp l.length vc) := by simp [go_sem, q2]
  have hne : ¬ w.heap.size + 1 = w.heap.size := by omega
  have y0 := t1.cell m0 hne
  have y1 := t1.cell m1 hne
  have y2 := t1.cell m2 hne
  have z0 := t1.free m0 n0 hne
  have z1 := t1.free m1 n1 hne
  have z2 := t1.free m2 n2 hne
  have T1 := Lib.hid t1
  generalize w1.setCell ⟨w.heap.size, 2, none⟩ (.slice vp l.length vc) = w2 at *
  clear q0 q1 q2 r2 m0 m1 m2 n0 n1 n2 t1 hne
  go_wp2
  obtain ⟨u0, u1, u2, ut⟩ := img_set wd ht (.slice vp l.length vc) y0 y1 y2 _ rfl
  have hW := Hs.out
  refine bodyPost_ret (results_ci rfl rfl u0 u1 u2 ⟨_, _, _, rfl⟩) rfl ⟨_, rfl, ?_, ?_⟩
  · rw [List.length_map]
    refine ut.owns (T1.out.owns (owns_base Ho.out (by omega)) (fun i hi (h : i = w.heap.size) => ?_)) (fun i hi (h : i = w.heap.size + 1) => ?_)
    · have := (Ho.out.lt i hi).1; omega
    · have := (Ho.out.lt i hi).1; omega
  · have h1 : Below w.heap.size w w2 := Hb.out.trans (T1.out.below Hb.out.size fun i (hi : i = w.heap.size) => by omega)
    exact h1.trans (ut.below h1.size fun i (hi : i = w.heap.size + 1) => by omega)
end Go.Proofs.YtoladolgmeanhaaGreat

namespace Go.Proofs.YtoladolgmeanhaaGreat
open Go.RowKit
attribute [local go_sem] Oper.semAt_some
theorem DcE.yes {kd : Nat} {wd ht : Int} {b : List Nat} {base n : Nat} {L : List Nat} {e : Ending} {w' : World} (h : DcE kd wd ht b base e w') (hm : cdM wd ht n) (hk : 1 ≤ kd ∧ kd ≤ 4) (hC : CdR kd b n (some L)) :
    ∃ p c, e = .returned (.tuple #[.agg #[.int .i64 wd, .int .i64 ht, .slice p L.length c], .int .i64 0]) ∧ w'.ownsRow base 41 1 (.slice p L.length c) L.length (L.map pxv) := by
  rcases h with ⟨h, -⟩ | ⟨-, h, -⟩ | ⟨-, -, q, r, hq, hC', hr⟩
  · exact absurd ⟨hm.1, hm.2.1, hm.2.2.1, hm.2.2.2.1⟩ h
  · exact absurd hk h
  · obtain rfl : q = n := by have := hm.2.2.2.2; omega
    obtain rfl := hC.det hC'
    rcases hr with ⟨h, -⟩ | ⟨L', v, e', rfl, ho⟩
    · cases h
    · cases e'
      obtain ⟨p, c, rfl⟩ := owns_slice ho
      exact ⟨p, c, rfl, ho⟩
theorem cut_w {w0 : World} {wd ht : Int} {p : Option Addr} {n c : Nat} {l : List Nat} (hv : Row encP 1 w0 (.slice p n c) l) (hl : n ≤ 1048576) : ∀ W, Below w0.heap.size w0 W →
    Calls Tryz.prog 19 #[.agg #[.int .i64 wd, .int .i64 ht, .slice p n c]] W fun e w' => ∃ p' c', e = .returned (.agg #[.int .i64 wd, .int .i64 ht, .slice p' n c']) ∧ Below w0.heap.size w0 w' ∧ Below W.heap.size W w' ∧ ∀ W', Below w'.heap.size w' W' → Row encP 1 W' (.slice p' n c') (l.map rlw) := fun W hW => by
  obtain rfl := hv.lenR
  refine Calls.mono (ccut_any wd ht p c l W (hv.below hW).at'.1 hl) ?_
  rintro _ w' ⟨v, rfl, ho, hb⟩
  rw [List.length_map] at ho
  obtain ⟨p', c', rfl⟩ := owns_slice ho
  exact ⟨p', c', rfl, Below.thn hW hb, hb, fun W' hW' => (own_rowP ho).below hW'⟩
end Go.Proofs.YtoladolgmeanhaaGreat
