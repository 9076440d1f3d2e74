/- blend's Over: its closure, mixed, Over itself, and the document's own Over. -/
import Derived.Test.YtdofmobijkaofaaBlendA
import Derived.Test.YtdofmobijkaofaaHead
import Derived.Test.YtdofmobijkaofaaAfter
import Derived.Deep.DeepCutAuto
import Derived.Deep.QuietTactic
import Derived.BigQuiet
import Derived.Deep.RegionWith
namespace Go.Proofs.Ytdofmobijkaofaa
open Go.RowKit

set_option maxHeartbeats 1000000 in
theorem over1_any (d s a : Int) (B : Nat) (w : World) (hd0 : 0 ≤ d) (hd : d ≤ 255) (hs0 : 0 ≤ s) (hs : s ≤ 255) (ha0 : 0 ≤ a) (ha : a ≤ 255) (hc : w.cell? ⟨B, 0, none⟩ = some (.int .u32 a)) :
    Still Try.prog 15 #[.int .u32 d, .int .u32 s, .pointer (some ⟨B, 0, none⟩)] w (.int .u8 (mixI d s a)) := by
  unfold Still mixI
  have h1 := mix_lo hd0 hs0 ha0 ha
  have h2 := mix_hi hd hs ha0 ha
  have e1 : s * a % 4294967296 = s * a := by
    have := prod_lo hs0 ha0
    have := prod_hi hs ha0 ha
    omega
  have e2 : (255 - a) % 4294967296 = 255 - a := by omega
  have e3 : d * (255 - a) % 4294967296 = d * (255 - a) := by
    have := prod_lo hd0 (show 0 ≤ 255 - a by omega)
    have := prod_hi hd (show 0 ≤ 255 - a by omega) (by omega)
    omega
  have e4 : (s * a + d * (255 - a)) % 4294967296 = s * a + d * (255 - a) := by omega
  go_enter Try.func15, Try.ntmps15
  go_wp2_with fail
  refine Calls.mono (scaled_any _ _ h1 h2) ?_
  rintro e w1 ⟨rfl, rfl⟩
  go_wp2
  go_ret
  exact ⟨rfl, rfl⟩

/-- A block of three channels. -/
def Tri (w : World) (B : Nat) (x y z : Int) : Prop := w.heap[B]? = some (.cells #[.int .u8 x, .int .u8 y, .int .u8 z] 34)

theorem Tri.new {w : World} {n : Nat} {x y z : Int} (h : n = w.heap.size) : Tri (w.alloc (.cells #[.int .u8 x, .int .u8 y, .int .u8 z] 34)) n x y z := by
  subst h
  exact Array.getElem?_push_size
theorem Tri.lt {w : World} {B : Nat} {x y z : Int} (h : Tri w B x y z) : B < w.heap.size := (Array.getElem?_eq_some_iff.1 h).1
theorem Tri.c0 {w : World} {B : Nat} {x y z : Int} (h : Tri w B x y z) : w.cell? ⟨B, 0, none⟩ = some (.int .u8 x) := by unfold Tri at h; simp [World.cell?, h]
theorem Tri.c1 {w : World} {B : Nat} {x y z : Int} (h : Tri w B x y z) : w.cell? ⟨B, 1, none⟩ = some (.int .u8 y) := by unfold Tri at h; simp [World.cell?, h]
theorem Tri.c2 {w : World} {B : Nat} {x y z : Int} (h : Tri w B x y z) : w.cell? ⟨B, 2, none⟩ = some (.int .u8 z) := by unfold Tri at h; simp [World.cell?, h]
theorem Tri.free {w : World} {B : Nat} {x y z : Int} (h : Tri w B x y z) (i : Nat) : w.frozen? ⟨B, i, none⟩ = false := by unfold Tri at h; simp [World.frozen?, h]
theorem Tri.later {w w1 : World} {B : Nat} {x y z : Int} (h : Tri w B x y z) (hb : Below w.heap.size w w1) : Tri w1 B x y z := (hb.block B h.lt).trans h
theorem Tri.put0 {w : World} {B : Nat} {x y z : Int} (h : Tri w B x y z) (v : Int) : Tri (w.setCell ⟨B, 0, none⟩ (.int .u8 v)) B v y z := by
  unfold Tri at h ⊢
  obtain ⟨hlt, hk⟩ := Array.getElem?_eq_some_iff.1 h
  show (w.heap.modify B _)[B]? = _
  rw [Array.getElem?_eq_getElem (by rw [Array.size_modify]; exact hlt), Array.getElem_modify_self, hk]
  simp
theorem Tri.put1 {w : World} {B : Nat} {x y z : Int} (h : Tri w B x y z) (v : Int) : Tri (w.setCell ⟨B, 1, none⟩ (.int .u8 v)) B x v z := by
  unfold Tri at h ⊢
  obtain ⟨hlt, hk⟩ := Array.getElem?_eq_some_iff.1 h
  show (w.heap.modify B _)[B]? = _
  rw [Array.getElem?_eq_getElem (by rw [Array.size_modify]; exact hlt), Array.getElem_modify_self, hk]
  simp
theorem Tri.put2 {w : World} {B : Nat} {x y z : Int} (h : Tri w B x y z) (v : Int) : Tri (w.setCell ⟨B, 2, none⟩ (.int .u8 v)) B x y v := by
  unfold Tri at h ⊢
  obtain ⟨hlt, hk⟩ := Array.getElem?_eq_some_iff.1 h
  show (w.heap.modify B _)[B]? = _
  rw [Array.getElem?_eq_getElem (by rw [Array.size_modify]; exact hlt), Array.getElem_modify_self, hk]
  simp
theorem Tri.aside {w : World} {B : Nat} {x y z : Int} {p : Addr} {v : Value} (h : Tri w B x y z) (hne : B ≠ p.block) : Tri (w.setCell p v) B x y z := by
  unfold Tri at h ⊢
  show (w.heap.modify p.block _)[B]? = _
  rw [Array.getElem?_modify, if_neg (fun e => hne e.symm)]
  exact h

set_option maxRecDepth 100000 in
set_option maxHeartbeats 4000000 in
theorem mixed_any (d s a : Int) (B : Nat) (w : World) (ha0 : 0 ≤ a) (ha : a ≤ 255) (hc : w.cell? ⟨B, 0, none⟩ = some (.int .u32 a)) :
    Makes Try.prog 14 #[.int .u32 d, .int .u32 s, .func (.func 15) #[] #[.pointer (some ⟨B, 0, none⟩)]] w (.int .u32 (overI d s a)) := by
  unfold Makes
  go_enter Try.func14, Try.ntmps14
  go_wp2_with fail
  refine Calls.mono (split_any d _) ?_
  rintro e w1 ⟨rfl, hb1⟩
  go_wp2_with fail
  refine Calls.mono (split_any s _) ?_
  rintro e w2 ⟨rfl, hb2⟩
  have hc2 : w2.cell? ⟨B, 0, none⟩ = some (.int .u32 a) := cell_later (Below.thn hb1 hb2) hc
  have Hbw := Lib.hid (Below.thn hb1 hb2)
  have Hov : Hid (∀ (k : Int) (w3 : World), Below w2.heap.size w2 w3 → Still Try.prog 15 #[.int .u32 (chI d k), .int .u32 (chI s k), .pointer (some ⟨B, 0, none⟩)] w3 (.int .u8 (mixI (chI d k) (chI s k) a))) :=
    Lib.hid fun k w3 hb3 => over1_any _ _ a B w3 (chI_lo d k) (chI_hi d k) (chI_lo s k) (chI_hi s k) ha0 ha (cell_later hb3 hc2)
  clear hb1 hb2 hc2 hc
  have hwd : ∀ k, IntKind.u32.wrap (chI d k) = chI d k := fun k => IntWalk.u32_in _ (by have := chI_lo d k; have := chI_hi d k; omega)
  have hws : ∀ k, IntKind.u32.wrap (chI s k) = chI s k := fun k => IntWalk.u32_in _ (by have := chI_lo s k; have := chI_hi s k; omega)
  go_upto_region 3 with fail
  obtain ⟨W0, hW0⟩ : ∃ W0, (((w2.alloc (.cells #[.int .u8 (chI d 1), .int .u8 (chI d 256), .int .u8 (chI d 65536)] 34)).alloc (.cells #[.int .u8 (chI s 1), .int .u8 (chI s 256), .int .u8 (chI s 65536)] 34)).alloc (.cells #[.int .u8 0, .int .u8 0, .int .u8 0] 34)) = W0 := ⟨_, rfl⟩
  have hT1 : Tri W0 w2.heap.size (chI d 1) (chI d 256) (chI d 65536) := by
    rw [← hW0]; exact (Tri.new rfl).later (Below.al2 _ _ _)
  have hT2 : Tri W0 (w2.heap.size + 1) (chI s 1) (chI s 256) (chI s 65536) := by
    rw [← hW0]; exact (Tri.new (by simp)).later (Below.al1 _ _)
  have hT3 : Tri W0 (w2.heap.size + 1 + 1) 0 0 0 := by
    rw [← hW0]; exact Tri.new (by simp)
  have hb0 : Below w2.heap.size w2 W0 := by rw [← hW0]; exact Below.al3 _ _ _ _
  rw [hW0]
  have H1 := Lib.hid hT1
  have H2 := Lib.hid hT2
  have H3 := Lib.hid hT3
  have Hb0 := Lib.hid hb0
  clear hT1 hT2 hT3 hb0 hW0
  go_wp2_with fail
  refine wp_loop_rounds 4 ?_
  rw [rounds_succ]; go_upto_region 6 with fail
  have hq := After.ne W0
  have e0 := After.rule H1.out.c0
  have e1 := After.rule H2.out.c0
  refine wp_region_head 12 (by kernel_rfl) (by kernel_rfl) (by kernel_rfl) ?_
  repeat (refine Lq_step (fun K hK => ?_); go_simp; first | (refine hK _ ?_; clear hK K) | (apply Exists.intro; refine ⟨fun n => ?_, hK _ ?_⟩; (exact Still.makes (Hov.out 1 n.world (Hb0.out.trans (n.below.mono Hb0.out.size)))); clear hK K))
  refine Lq_nil ?_
  intro w3 hb3
  clear e0 e1 hq
  have f3 := (H3.out.later hb3).free 0
  have g3 := (H3.out.later hb3).c0
  have t3 := (H3.out.later hb3).put0 (mixI (chI d 1) (chI s 1) a)
  have b3 : Below w2.heap.size w2 (w3.setCell ⟨w2.heap.size + 1 + 1, 0, none⟩ (.int .u8 (mixI (chI d 1) (chI s 1) a))) := (Hb0.out.trans (hb3.mono Hb0.out.size)).setCell (show w2.heap.size ≤ w2.heap.size + 1 + 1 by omega) _
  have t1 := (H1.out.later hb3).aside (p := ⟨w2.heap.size + 1 + 1, 0, none⟩) (v := .int .u8 (mixI (chI d 1) (chI s 1) a)) (show w2.heap.size ≠ w2.heap.size + 1 + 1 by omega)
  have t2 := (H2.out.later hb3).aside (p := ⟨w2.heap.size + 1 + 1, 0, none⟩) (v := .int .u8 (mixI (chI d 1) (chI s 1) a)) (show w2.heap.size + 1 ≠ w2.heap.size + 1 + 1 by omega)
  clear H1 H2 H3 Hb0 hb3
  have H1 := Lib.hid t1
  have H2 := Lib.hid t2
  have H3 := Lib.hid t3
  have Hb0 := Lib.hid b3
  clear t1 t2 t3 b3
  obtain ⟨W1, hW⟩ : ∃ W', w3.setCell ⟨w2.heap.size + 1 + 1, 0, none⟩ (.int .u8 (mixI (chI d 1) (chI s 1) a)) = W' := ⟨_, rfl⟩
  rw [hW] at H1 H2 H3 Hb0
  go_upto_region 7 with fail
  clear f3 g3
  try rw [hW]
  clear hW
  go_wp2_with fail
  rw [rounds_succ]; go_upto_region 6 with fail
  have hq := After.ne W1
  have e0 := After.rule H1.out.c1
  have e1 := After.rule H2.out.c1
  refine wp_region_head 12 (by kernel_rfl) (by kernel_rfl) (by kernel_rfl) ?_
  repeat (refine Lq_step (fun K hK => ?_); go_simp; first | (refine hK _ ?_; clear hK K) | (apply Exists.intro; refine ⟨fun n => ?_, hK _ ?_⟩; (exact Still.makes (Hov.out 256 n.world (Hb0.out.trans (n.below.mono Hb0.out.size)))); clear hK K))
  refine Lq_nil ?_
  intro w4 hb4
  clear e0 e1 hq
  have f4 := (H3.out.later hb4).free 1
  have g4 := (H3.out.later hb4).c1
  have t3 := (H3.out.later hb4).put1 (mixI (chI d 256) (chI s 256) a)
  have b3 : Below w2.heap.size w2 (w4.setCell ⟨w2.heap.size + 1 + 1, 1, none⟩ (.int .u8 (mixI (chI d 256) (chI s 256) a))) := (Hb0.out.trans (hb4.mono Hb0.out.size)).setCell (show w2.heap.size ≤ w2.heap.size + 1 + 1 by omega) _
  have t1 := (H1.out.later hb4).aside (p := ⟨w2.heap.size + 1 + 1, 1, none⟩) (v := .int .u8 (mixI (chI d 256) (chI s 256) a)) (show w2.heap.size ≠ w2.heap.size + 1 + 1 by omega)
  have t2 := (H2.out.later hb4).aside (p := ⟨w2.heap.size + 1 + 1, 1, none⟩) (v := .int .u8 (mixI (chI d 256) (chI s 256) a)) (show w2.heap.size + 1 ≠ w2.heap.size + 1 + 1 by omega)
  clear H1 H2 H3 Hb0 hb4
  have H1 := Lib.hid t1
  have H2 := Lib.hid t2
  have H3 := Lib.hid t3
  have Hb0 := Lib.hid b3
  clear t1 t2 t3 b3
  obtain ⟨W2, hW⟩ : ∃ W', w4.setCell ⟨w2.heap.size + 1 + 1, 1, none⟩ (.int .u8 (mixI (chI d 256) (chI s 256) a)) = W' := ⟨_, rfl⟩
  rw [hW] at H1 H2 H3 Hb0
  go_upto_region 7 with fail
  clear f4 g4
  try rw [hW]
  clear hW
  go_wp2_with fail
  rw [rounds_succ]; go_upto_region 6 with fail
  have hq := After.ne W2
  have e0 := After.rule H1.out.c2
  have e1 := After.rule H2.out.c2
  refine wp_region_head 12 (by kernel_rfl) (by kernel_rfl) (by kernel_rfl) ?_
  repeat (refine Lq_step (fun K hK => ?_); go_simp; first | (refine hK _ ?_; clear hK K) | (apply Exists.intro; refine ⟨fun n => ?_, hK _ ?_⟩; (exact Still.makes (Hov.out 65536 n.world (Hb0.out.trans (n.below.mono Hb0.out.size)))); clear hK K))
  refine Lq_nil ?_
  intro w5 hb5
  clear e0 e1 hq
  have f5 := (H3.out.later hb5).free 2
  have g5 := (H3.out.later hb5).c2
  have t3 := (H3.out.later hb5).put2 (mixI (chI d 65536) (chI s 65536) a)
  have b3 : Below w2.heap.size w2 (w5.setCell ⟨w2.heap.size + 1 + 1, 2, none⟩ (.int .u8 (mixI (chI d 65536) (chI s 65536) a))) := (Hb0.out.trans (hb5.mono Hb0.out.size)).setCell (show w2.heap.size ≤ w2.heap.size + 1 + 1 by omega) _
  have t1 := (H1.out.later hb5).aside (p := ⟨w2.heap.size + 1 + 1, 2, none⟩) (v := .int .u8 (mixI (chI d 65536) (chI s 65536) a)) (show w2.heap.size ≠ w2.heap.size + 1 + 1 by omega)
  have t2 := (H2.out.later hb5).aside (p := ⟨w2.heap.size + 1 + 1, 2, none⟩) (v := .int .u8 (mixI (chI d 65536) (chI s 65536) a)) (show w2.heap.size + 1 ≠ w2.heap.size + 1 + 1 by omega)
  clear H1 H2 H3 Hb0 hb5
  have H1 := Lib.hid t1
  have H2 := Lib.hid t2
  have H3 := Lib.hid t3
  have Hb0 := Lib.hid b3
  clear t1 t2 t3 b3
  obtain ⟨W3, hW⟩ : ∃ W', w5.setCell ⟨w2.heap.size + 1 + 1, 2, none⟩ (.int .u8 (mixI (chI d 65536) (chI s 65536) a)) = W' := ⟨_, rfl⟩
  rw [hW] at H1 H2 H3 Hb0
  go_upto_region 7 with fail
  clear f5 g5
  try rw [hW]
  clear hW
  go_wp2_with fail
  obtain ⟨r0, r1, r2⟩ := (⟨H3.out.c0, H3.out.c1, H3.out.c2⟩ : _ ∧ _ ∧ _)
  rw [rounds_succ]; go_wp2_with fail
  refine Calls.mono (joined_any _ _ _ _ (mixI_lo (chI_lo _ _) (chI_lo _ _) ha0 ha) (mixI_hi (chI_hi _ _) (chI_hi _ _) ha0 ha) (mixI_lo (chI_lo _ _) (chI_lo _ _) ha0 ha) (mixI_hi (chI_hi _ _) (chI_hi _ _) ha0 ha) (mixI_lo (chI_lo _ _) (chI_lo _ _) ha0 ha) (mixI_hi (chI_hi _ _) (chI_hi _ _) ha0 ha)) ?_
  rintro e w9 ⟨rfl, hb9⟩
  go_wp2
  go_ret
  exact ⟨rfl, Below.thn Hbw.out (Hb0.out.trans (hb9.mono Hb0.out.size))⟩

theorem over_any (d s a : Int) (w : World) (ha0 : 0 ≤ a) (ha : a ≤ 255) : Makes Try.prog 9 #[.int .u32 d, .int .u32 s, .int .u8 a] w (.int .u32 (overI d s a)) := by
  unfold Makes
  have hwa : IntKind.u32.wrap a = a := IntWalk.u32_in _ (by omega)
  have hmf : ∀ (fn : Fn) (first cap : Array Value) (w : World), (Instr.makeFunc fn first cap).run Try.prog w = .ok (.func fn first cap) w := fun _ _ _ _ => rfl
  go_enter Try.func9, Try.ntmps9
  go_wp2_with fail
  refine Calls.mono (mixed_any d s a _ _ ha0 ha (cell_at rfl rfl)) ?_
  rintro e w1 ⟨rfl, hb1⟩
  go_wp2
  go_ret
  exact ⟨rfl, Below.thn (Below.al1 _ _) hb1⟩

end Go.Proofs.Ytdofmobijkaofaa
