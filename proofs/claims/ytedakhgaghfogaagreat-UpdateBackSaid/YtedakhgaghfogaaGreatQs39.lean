/- Several texts in one, each with its own head. -/
import Derived.Test.YtedakhgaghfogaaGreatQs37
import Derived.Test.YtedakhgaghfogaaGreatQs38
import Derived.Test.YtedakhgaghfogaaGreatQs28
import Derived.Test.YtedakhgaghfogaaGreatQs35
import Derived.Test.YtedakhgaghfogaaGreatQs36
namespace Go.Proofs.YtedakhgaghfogaaGreat
section
open Go.RowKit
attribute [local go_sem] Oper.semAt_some zaU
theorem zfw {α:Type} {enc:α→List Value} {k:Nat} {w:World} {p:Option Addr} {n c:Nat} {l:List α} (h:Row enc k w (.slice p n c) l):c≤maxLen:=by
 obtain ⟨p',c',e,-,h2,-⟩:=h
 cases e
 exact h2
def ImgV (wd ht:Int) (v:Value):Value:= .agg #[.int .i64 wd,.int .i64 ht,v]
theorem zaI {fn:Func} {p q:Tmp} {tmps:Array Value} {w:World} {B:Nat} {wd ht e:Int} {v:Value} (h:fn.results=#[.cell p 26,.tmp q]) (hp:tmps.getD p undef= .pointer (some ⟨B,0,none⟩)) (hq:tmps.getD q undef= .int .i64 e)
  (c0:w.cell? ⟨B,0,none⟩=some (.int .i64 wd)) (c1:w.cell? ⟨B,1,none⟩=some (.int .i64 ht)) (c2:w.cell? ⟨B,2,none⟩=some v) (hv:∃a n c,v= .slice a n c):(results fn tmps).run Tryz.prog w= .ok (.tuple #[ImgV wd ht v,.int .i64 e]) w:=by
 obtain ⟨a,n,c,rfl⟩:=hv
 have hp':tmps[p]?.getD undef= .pointer (some ⟨B,0,none⟩):=by simpa using hp
 have hq':tmps[q]?.getD undef= .int .i64 e:=by simpa using hq
 simp [results,h,hp',hq',go_sem,c0,c1,c2,ImgV]
theorem zaY {W:World} {B:Nat} {x y z:Value} (a b:Int) (v:Value) (c0:W.cell? ⟨B,0,none⟩=some x) (c1:W.cell? ⟨B,1,none⟩=some y) (c2:W.cell? ⟨B,2,none⟩=some z) (w':World)
  (hw:((W.setCell ⟨B,0,none⟩ (.int .i64 a)).setCell ⟨B,1,none⟩ (.int .i64 b)).setCell ⟨B,2,none⟩ v=w'):
  w'.cell? ⟨B,0,none⟩=some (.int .i64 a)∧w'.cell? ⟨B,1,none⟩=some (.int .i64 b)∧w'.cell? ⟨B,2,none⟩=some v∧Turns (fun q=>q=B) W w':=by
 subst hw
 exact ⟨by simp [go_sem,c0],by simp [go_sem,c1],by simp [go_sem,c2],(((Turns.refl (fun q=>q=B) W).set (p:=⟨B,0,none⟩) rfl _).set (p:=⟨B,1,none⟩) rfl _).set (p:=⟨B,2,none⟩) rfl _⟩
def RdE (k:Nat) (b:List Nat) (q:Nat) (W:World) (e:Ending) (w':World):Prop:=
 Below W.heap.size W w'∧∃r,CdR k b q r∧((r=none∧∃(v:Value) (er:Int),er≠0∧e= .returned (.tuple #[v,.int .i64 er]))∨∃L v,r=some L∧e= .returned (.tuple #[v,.int .i64 0])∧w'.ownsRow W.heap.size 51 1 v L.length (L.map pxv))
def DcE (kd:Nat) (wd ht:Int) (b:List Nat) (base:Nat) (e:Ending) (w':World):Prop:=
  (¬(1≤wd∧1≤ht∧wd≤256∧ht≤256)∧e= .returned (.tuple #[ImgV 0 0 (.slice none 0 0),.int .i64 1]))∨
  ((1≤wd∧1≤ht∧wd≤256∧ht≤256)∧¬(1≤kd∧kd≤4)∧e= .returned (.tuple #[ImgV 0 0 (.slice none 0 0),.int .i64 130]))∨
  ((1≤wd∧1≤ht∧wd≤256∧ht≤256)∧(1≤kd∧kd≤4)∧∃q r,wd*ht=((q:Nat):Int)∧CdR kd b q r∧
    ((r=none∧e= .returned (.tuple #[ImgV 0 0 (.slice none 0 0),.int .i64 131]))∨
     ∃L v,r=some L∧e= .returned (.tuple #[ImgV wd ht v,.int .i64 0])∧w'.ownsRow base 51 1 v L.length (L.map pxv)))
set_option maxRecDepth 20000 in
set_option maxHeartbeats 8000000 in
theorem zjH (kd:Nat) (wd ht:Int) (p:Option Addr) (c:Nat) (b:List Nat) (w:World) (hkd:kd<256) (hv:Rw8 w (.slice p b.length c) b) (h8:∀x∈b,x<256) (hl:b.length≤1048576):
  Calls Tryz.prog 29 #[.int .u8 (kd:Int),.int .i64 wd,.int .i64 ht,.slice p b.length c] w fun e w'=>Below w.heap.size w w'∧DcE kd wd ht b w.heap.size e w':=by
 have Hv:=Lib.hid hv
 have H8:=Lib.hid h8
 obtain ⟨n,hn⟩:∃n,b.length=n:=⟨_,rfl⟩
 have Hn:=Lib.hid hn
 rw [hn] at Hv ⊢
 clear hv h8 hn
 unfold DcE
 go_enter Tryz.func29,Tryz.ntmps29
 go_upto_region 1 with (fail)
 have hT:=World.alloc_heap_new w (.cells #[.int .i64 0,.int .i64 0,.slice none 0 0] 26)
 have hb0:=Below.al1 w (.cells #[.int .i64 0,.int .i64 0,.slice none 0 0] 26)
 have hs0:(w.alloc (.cells #[.int .i64 0,.int .i64 0,.slice none 0 0] 26)).heap.size=w.heap.size+1:=by simp
 generalize w.alloc (.cells #[.int .i64 0,.int .i64 0,.slice none 0 0] 26)=W0 at *
 have c0:W0.cell? ⟨w.heap.size,0,none⟩=some (.int .i64 0):=zaa hT rfl
 have c1:W0.cell? ⟨w.heap.size,1,none⟩=some (.int .i64 0):=zaa hT rfl
 have c2:W0.cell? ⟨w.heap.size,2,none⟩=some (.slice none 0 0):=zaa hT rfl
 have f0:∀i,W0.frozen? ⟨w.heap.size,i,none⟩=false:=fun i=>by simp [World.frozen?,hT]
 have Hb0:=Lib.hid hb0
 clear hb0
 obtain ⟨f,hf⟩:∃f,decide (1≤wd∧1≤ht∧wd≤256∧ht≤256)=f:=⟨_,rfl⟩
 have Hf:=Lib.hid hf
 have HF:Hid (∀w,Calls Tryz.prog 39 #[.int .i64 wd,.int .i64 ht] w fun e w'=>e= .returned (.bool f)∧w'=w):=Lib.hid (fun w=>by
  have:=zgW wd ht w
  rwa [hf] at this)
 clear hf
 have f00:=f0 0
 have f01:=f0 1
 have f02:=f0 2
 cases f
 case false=>
  go_wp2_with fail
  refine Calls.mono (HF.out _) ?_
  rintro _ u ⟨rfl,rfl⟩
  go_wp2
  obtain ⟨x0,x1,x2,xt⟩:=zaY 0 0 (.slice none 0 0) c0 c1 c2 _ rfl
  exact bodyPost_ret (zaI rfl rfl rfl x0 x1 x2 ⟨_,_,_,rfl⟩) rfl ⟨Hb0.out.trans (xt.below Hb0.out.size fun i hi=>by rw [hi];exact Nat.le_refl _),.inl ⟨of_decide_eq_false Hf.out,rfl⟩⟩
 have hfit:=of_decide_eq_true Hf.out
 obtain ⟨q,hq,hq1,hq2⟩:=zdg hfit
 have Hq:=Lib.hid hq
 have Hfit:=Lib.hid hfit
 have hwq:IntKind.i64.wrap (q:Int)=(q:Int):=IntWalk.i64_in _ (by omega)
 have hwm:IntKind.i64.wrap (wd*ht)=(q:Int):=by rw [hq];exact hwq
 have hsB:w.heap.size<W0.heap.size:=zab hT
 clear hfit hT
 go_wp2_with fail
 refine Calls.mono (HF.out _) ?_
 rintro _ u ⟨rfl,rfl⟩
 go_wp2_with fail
 refine Calls.mono (ziG _) ?_
 rintro _ u1 ⟨rfl,hb1⟩
 have Hb1:=Lib.hid hb1
 have k0:=cell_later hb1 c0
 have k1:=cell_later hb1 c1
 have k2:=cell_later hb1 c2
 have g00:=zaf hb1 c0 f00
 have g01:=zaf hb1 c1 f01
 have g02:=zaf hb1 c2 f02
 clear hb1 c0 c1 c2 f0 f00 f01 f02
 unfold wysL
 go_upto_region 4 with (fail)
 have hT2:=World.alloc_heap_new u1 (.cells #[.func (.func 61) #[] #[],.func (.func 62) #[] #[],.func (.func 63) #[] #[],.func (.func 64) #[] #[],.func (.func 65) #[] #[],.func (.func 66) #[] #[],.func (.func 67) #[] #[],.func (.func 68) #[] #[]] 72)
 have hb2:=Below.al1 u1 (.cells #[.func (.func 61) #[] #[],.func (.func 62) #[] #[],.func (.func 63) #[] #[],.func (.func 64) #[] #[],.func (.func 65) #[] #[],.func (.func 66) #[] #[],.func (.func 67) #[] #[],.func (.func 68) #[] #[]] 72)
 generalize u1.alloc (.cells #[.func (.func 61) #[] #[],.func (.func 62) #[] #[],.func (.func 63) #[] #[],.func (.func 64) #[] #[],.func (.func 65) #[] #[],.func (.func 66) #[] #[],.func (.func 67) #[] #[],.func (.func 68) #[] #[]] 72)=w2 at *
 have z1:w2.cell? ⟨u1.heap.size,1,none⟩=some (.func (.func 62) #[] #[]):=zaa hT2 rfl
 have z3:w2.cell? ⟨u1.heap.size,3,none⟩=some (.func (.func 64) #[] #[]):=zaa hT2 rfl
 have z5:w2.cell? ⟨u1.heap.size,5,none⟩=some (.func (.func 66) #[] #[]):=zaa hT2 rfl
 have z7:w2.cell? ⟨u1.heap.size,7,none⟩=some (.func (.func 68) #[] #[]):=zaa hT2 rfl
 have e0:=cell_later hb2 k0
 have e1:=cell_later hb2 k1
 have e2:=cell_later hb2 k2
 have h00:=zaf hb2 k0 g00
 have h01:=zaf hb2 k1 g01
 have h02:=zaf hb2 k2 g02
 have Hbw2:=Lib.hid (Below.thn Hb1.out hb2)
 have Hb02:=Lib.hid (Below.thn Hb0.out Hbw2.out)
 have Hlt2:Hid (w.heap.size<w2.heap.size):=Lib.hid (Nat.lt_of_lt_of_le hsB Hbw2.out.size)
 have hrow:∀W,Below u.heap.size u W→Rw8 W (.slice p n c) b:=fun W hW=>Hv.out.below (Below.thn Hb0.out hW)
 have R1:Hid (∀W,Below u.heap.size u W→Calls Tryz.prog 62 #[.slice p n c,.int .i64 (q:Int)] W (RdE 1 b q W)):=Lib.hid (fun W hW=>by
  have hr:=(hrow W hW).row
  have h:=zdc p c b q W hr.at'.1 H8.out hl hr.at'.2 hq1 hq2
  rw [Hn.out] at h
  refine Calls.mono h ?_
  rintro e w' ⟨hb,⟨h1,rfl⟩ | ⟨h1,v,rfl,ho⟩⟩
  ·exact ⟨hb,none,.inl ⟨rfl,by rw [if_neg (by rw [Hn.out];exact h1)]⟩,.inl ⟨rfl,_,131,by decide,rfl⟩⟩
  ·exact ⟨hb,some (zar b),.inl ⟨rfl,by rw [if_pos (by rw [Hn.out];exact h1)]⟩,.inr ⟨_,_,rfl,rfl,ho⟩⟩)
 have R2:Hid (∀W,Below u.heap.size u W→Calls Tryz.prog 64 #[.slice p n c,.int .i64 (q:Int)] W (RdE 2 b q W)):=Lib.hid (fun W hW=>by
  have hr:=(hrow W hW).row
  have h:=zja p c b (q:Int) W hr.at'.1 H8.out hl hr.at'.2 (by omega)
  rw [Hn.out] at h
  refine Calls.mono h ?_
  rintro e w' ⟨v,rfl,ho,hb⟩
  by_cases h0:(rlD b q).2=0
  ·exact ⟨hb,some (rlD b q).1,.inr (.inl ⟨rfl,by rw [if_pos h0]⟩),.inr ⟨_,v,rfl,by rw [h0],ho⟩⟩
  ·exact ⟨hb,none,.inr (.inl ⟨rfl,by rw [if_neg h0]⟩),.inl ⟨rfl,v,_,h0,rfl⟩⟩)
 have R3:Hid (∀W,Below u.heap.size u W→Calls Tryz.prog 66 #[.slice p n c,.int .i64 (q:Int)] W (RdE 3 b q W)):=Lib.hid (fun W hW=>by
  have hr:=(hrow W hW).row
  have h:=zi6 p c b (q:Int) W hr.at'.1 H8.out hl hr.at'.2 (zfw hr)
  rw [Hn.out] at h
  refine Calls.mono h ?_
  rintro e w' ⟨v,rfl,ho,hb⟩
  by_cases h0:(plD b q).2=0
  ·exact ⟨hb,some (plD b q).1,.inr (.inr (.inl ⟨rfl,by rw [if_pos h0]⟩)),.inr ⟨_,v,rfl,by rw [h0],ho⟩⟩
  ·exact ⟨hb,none,.inr (.inr (.inl ⟨rfl,by rw [if_neg h0]⟩)),.inl ⟨rfl,v,_,h0,rfl⟩⟩)
 have R4:Hid (∀W,Below u.heap.size u W→Calls Tryz.prog 68 #[.slice p n c,.int .i64 (q:Int)] W (RdE 4 b q W)):=Lib.hid (fun W hW=>by
  have h:=zf1 p c b q W (by rw [Hn.out];exact hrow W hW) H8.out hl hq1 hq2
  rw [Hn.out] at h
  refine Calls.mono h ?_
  rintro e w' ⟨hb,r,hC,⟨rfl,er,he,rfl⟩ | ⟨L,v,rfl,rfl,ho⟩⟩
  ·exact ⟨hb,none,hC,.inl ⟨rfl,_,er,he,rfl⟩⟩
  ·exact ⟨hb,some L,hC,.inr ⟨_,_,rfl,rfl,ho⟩⟩)
 clear hb2 hT2 k0 k1 k2 g00 g01 g02 hq hsB hrow hl
 by_cases hk0:kd=0
 ·subst hk0
  go_wp2
  obtain ⟨x0,x1,x2,xt⟩:=zaY 0 0 (.slice none 0 0) e0 e1 e2 _ rfl
  exact bodyPost_ret (zaI rfl rfl rfl x0 x1 x2 ⟨_,_,_,rfl⟩) rfl ⟨Hb02.out.trans (xt.below Hb02.out.size fun i hi=>by rw [hi];exact Nat.le_refl _),.inr (.inl ⟨Hfit.out,by omega,rfl⟩)⟩
 have d1:decide ((kd:Int)<1)=false:=by simp;omega
 have hwk:IntKind.i64.wrap (kd:Int)=(kd:Int):=IntWalk.i64_in _ (by omega)
 by_cases hk4:4<kd
 ·have d2:decide ((kd:Int)>4)=true:=by simp;omega
  have d2':decide (4<(kd:Int))=true:=by simp;omega
  go_wp2
  obtain ⟨x0,x1,x2,xt⟩:=zaY 0 0 (.slice none 0 0) e0 e1 e2 _ rfl
  exact bodyPost_ret (zaI rfl rfl rfl x0 x1 x2 ⟨_,_,_,rfl⟩) rfl ⟨Hb02.out.trans (xt.below Hb02.out.size fun i hi=>by rw [hi];exact Nat.le_refl _),.inr (.inl ⟨Hfit.out,by omega,rfl⟩)⟩
 clear d1 hwk
 obtain rfl | rfl | rfl | rfl:kd=1∨kd=2∨kd=3∨kd=4:=by omega
 ·rw [show ((1:Nat):Int)=1 from rfl]
  go_wp2_with fail
  refine Calls.mono (R1.out w2 Hbw2.out) ?_
  rintro _ w3 ⟨hb3,r,hC,⟨rfl,v,er,her,rfl⟩ | ⟨L,v,rfl,rfl,ho3⟩⟩
  ·have d3:(er !=0)=true:=by simpa using her
   have HC:=Lib.hid hC
   have m0:=cell_later hb3 e0
   have m1:=cell_later hb3 e1
   have m2:=cell_later hb3 e2
   have n0:=zaf hb3 e0 h00
   have n1:=zaf hb3 e1 h01
   have n2:=zaf hb3 e2 h02
   have Hb3:=Lib.hid (Below.thn Hb02.out hb3)
   clear e0 e1 e2 h00 h01 h02 hb3 hC z1 z3 z5 z7 her
   go_wp2
   obtain ⟨x0,x1,x2,xt⟩:=zaY 0 0 (.slice none 0 0) m0 m1 m2 _ rfl
   exact bodyPost_ret (zaI rfl rfl rfl x0 x1 x2 ⟨_,_,_,rfl⟩) rfl ⟨Hb3.out.trans (xt.below Hb3.out.size fun i hi=>by rw [hi];exact Nat.le_refl _),.inr (.inr ⟨Hfit.out,by decide,q,none,Hq.out,HC.out,.inl ⟨rfl,rfl⟩⟩)⟩
  ·have HC:=Lib.hid hC
   have m0:=cell_later hb3 e0
   have m1:=cell_later hb3 e1
   have m2:=cell_later hb3 e2
   have n0:=zaf hb3 e0 h00
   have n1:=zaf hb3 e1 h01
   have n2:=zaf hb3 e2 h02
   have Hb3:=Lib.hid (Below.thn Hb02.out hb3)
   obtain ⟨vp,vc,rfl⟩:=zac ho3
   have Ho3:=Lib.hid ho3
   clear e0 e1 e2 h00 h01 h02 hb3 hC z1 z3 z5 z7 ho3
   go_wp2
   obtain ⟨x0,x1,x2,xt⟩:=zaY wd ht (.slice vp L.length vc) m0 m1 m2 _ rfl
   refine bodyPost_ret (zaI rfl rfl rfl x0 x1 x2 ⟨_,_,_,rfl⟩) rfl ⟨Hb3.out.trans (xt.below Hb3.out.size fun i hi=>by rw [hi];exact Nat.le_refl _),.inr (.inr ⟨Hfit.out,by decide,q,some L,Hq.out,HC.out,.inr ⟨L,_,rfl,rfl,?_⟩⟩)⟩
   exact xt.owns (zao Ho3.out Hb02.out.size) (fun i hi (h:i=w.heap.size)=>by have h1:=(Ho3.out.lt i hi).1;have h2:=Hlt2.out;omega)
 ·rw [show ((2:Nat):Int)=2 from rfl]
  go_wp2_with fail
  refine Calls.mono (R2.out w2 Hbw2.out) ?_
  rintro _ w3 ⟨hb3,r,hC,⟨rfl,v,er,her,rfl⟩ | ⟨L,v,rfl,rfl,ho3⟩⟩
  ·have d3:(er !=0)=true:=by simpa using her
   have HC:=Lib.hid hC
   have m0:=cell_later hb3 e0
   have m1:=cell_later hb3 e1
   have m2:=cell_later hb3 e2
   have n0:=zaf hb3 e0 h00
   have n1:=zaf hb3 e1 h01
   have n2:=zaf hb3 e2 h02
   have Hb3:=Lib.hid (Below.thn Hb02.out hb3)
   clear e0 e1 e2 h00 h01 h02 hb3 hC z1 z3 z5 z7 her
   go_wp2
   obtain ⟨x0,x1,x2,xt⟩:=zaY 0 0 (.slice none 0 0) m0 m1 m2 _ rfl
   exact bodyPost_ret (zaI rfl rfl rfl x0 x1 x2 ⟨_,_,_,rfl⟩) rfl ⟨Hb3.out.trans (xt.below Hb3.out.size fun i hi=>by rw [hi];exact Nat.le_refl _),.inr (.inr ⟨Hfit.out,by decide,q,none,Hq.out,HC.out,.inl ⟨rfl,rfl⟩⟩)⟩
  ·have HC:=Lib.hid hC
   have m0:=cell_later hb3 e0
   have m1:=cell_later hb3 e1
   have m2:=cell_later hb3 e2
   have n0:=zaf hb3 e0 h00
   have n1:=zaf hb3 e1 h01
   have n2:=zaf hb3 e2 h02
   have Hb3:=Lib.hid (Below.thn Hb02.out hb3)
   obtain ⟨vp,vc,rfl⟩:=zac ho3
   have Ho3:=Lib.hid ho3
   clear e0 e1 e2 h00 h01 h02 hb3 hC z1 z3 z5 z7 ho3
   go_wp2
   obtain ⟨x0,x1,x2,xt⟩:=zaY wd ht (.slice vp L.length vc) m0 m1 m2 _ rfl
   refine bodyPost_ret (zaI rfl rfl rfl x0 x1 x2 ⟨_,_,_,rfl⟩) rfl ⟨Hb3.out.trans (xt.below Hb3.out.size fun i hi=>by rw [hi];exact Nat.le_refl _),.inr (.inr ⟨Hfit.out,by decide,q,some L,Hq.out,HC.out,.inr ⟨L,_,rfl,rfl,?_⟩⟩)⟩
   exact xt.owns (zao Ho3.out Hb02.out.size) (fun i hi (h:i=w.heap.size)=>by have h1:=(Ho3.out.lt i hi).1;have h2:=Hlt2.out;omega)
 ·rw [show ((3:Nat):Int)=3 from rfl]
  go_wp2_with fail
  refine Calls.mono (R3.out w2 Hbw2.out) ?_
  rintro _ w3 ⟨hb3,r,hC,⟨rfl,v,er,her,rfl⟩ | ⟨L,v,rfl,rfl,ho3⟩⟩
  ·have d3:(er !=0)=true:=by simpa using her
   have HC:=Lib.hid hC
   have m0:=cell_later hb3 e0
   have m1:=cell_later hb3 e1
   have m2:=cell_later hb3 e2
   have n0:=zaf hb3 e0 h00
   have n1:=zaf hb3 e1 h01
   have n2:=zaf hb3 e2 h02
   have Hb3:=Lib.hid (Below.thn Hb02.out hb3)
   clear e0 e1 e2 h00 h01 h02 hb3 hC z1 z3 z5 z7 her
   go_wp2
   obtain ⟨x0,x1,x2,xt⟩:=zaY 0 0 (.slice none 0 0) m0 m1 m2 _ rfl
   exact bodyPost_ret (zaI rfl rfl rfl x0 x1 x2 ⟨_,_,_,rfl⟩) rfl ⟨Hb3.out.trans (xt.below Hb3.out.size fun i hi=>by rw [hi];exact Nat.le_refl _),.inr (.inr ⟨Hfit.out,by decide,q,none,Hq.out,HC.out,.inl ⟨rfl,rfl⟩⟩)⟩
  ·have HC:=Lib.hid hC
   have m0:=cell_later hb3 e0
   have m1:=cell_later hb3 e1
   have m2:=cell_later hb3 e2
   have n0:=zaf hb3 e0 h00
   have n1:=zaf hb3 e1 h01
   have n2:=zaf hb3 e2 h02
   have Hb3:=Lib.hid (Below.thn Hb02.out hb3)
   obtain ⟨vp,vc,rfl⟩:=zac ho3
   have Ho3:=Lib.hid ho3
   clear e0 e1 e2 h00 h01 h02 hb3 hC z1 z3 z5 z7 ho3
   go_wp2
   obtain ⟨x0,x1,x2,xt⟩:=zaY wd ht (.slice vp L.length vc) m0 m1 m2 _ rfl
   refine bodyPost_ret (zaI rfl rfl rfl x0 x1 x2 ⟨_,_,_,rfl⟩) rfl ⟨Hb3.out.trans (xt.below Hb3.out.size fun i hi=>by rw [hi];exact Nat.le_refl _),.inr (.inr ⟨Hfit.out,by decide,q,some L,Hq.out,HC.out,.inr ⟨L,_,rfl,rfl,?_⟩⟩)⟩
   exact xt.owns (zao Ho3.out Hb02.out.size) (fun i hi (h:i=w.heap.size)=>by have h1:=(Ho3.out.lt i hi).1;have h2:=Hlt2.out;omega)
 ·rw [show ((4:Nat):Int)=4 from rfl]
  go_wp2_with fail
  refine Calls.mono (R4.out w2 Hbw2.out) ?_
  rintro _ w3 ⟨hb3,r,hC,⟨rfl,v,er,her,rfl⟩ | ⟨L,v,rfl,rfl,ho3⟩⟩
  ·have d3:(er !=0)=true:=by simpa using her
   have HC:=Lib.hid hC
   have m0:=cell_later hb3 e0
   have m1:=cell_later hb3 e1
   have m2:=cell_later hb3 e2
   have n0:=zaf hb3 e0 h00
   have n1:=zaf hb3 e1 h01
   have n2:=zaf hb3 e2 h02
   have Hb3:=Lib.hid (Below.thn Hb02.out hb3)
   clear e0 e1 e2 h00 h01 h02 hb3 hC z1 z3 z5 z7 her
   go_wp2
   obtain ⟨x0,x1,x2,xt⟩:=zaY 0 0 (.slice none 0 0) m0 m1 m2 _ rfl
   exact bodyPost_ret (zaI rfl rfl rfl x0 x1 x2 ⟨_,_,_,rfl⟩) rfl ⟨Hb3.out.trans (xt.below Hb3.out.size fun i hi=>by rw [hi];exact Nat.le_refl _),.inr (.inr ⟨Hfit.out,by decide,q,none,Hq.out,HC.out,.inl ⟨rfl,rfl⟩⟩)⟩
  ·have HC:=Lib.hid hC
   have m0:=cell_later hb3 e0
   have m1:=cell_later hb3 e1
   have m2:=cell_later hb3 e2
   have n0:=zaf hb3 e0 h00
   have n1:=zaf hb3 e1 h01
   have n2:=zaf hb3 e2 h02
   have Hb3:=Lib.hid (Below.thn Hb02.out hb3)
   obtain ⟨vp,vc,rfl⟩:=zac ho3
   have Ho3:=Lib.hid ho3
   clear e0 e1 e2 h00 h01 h02 hb3 hC z1 z3 z5 z7 ho3
   go_wp2
   obtain ⟨x0,x1,x2,xt⟩:=zaY wd ht (.slice vp L.length vc) m0 m1 m2 _ rfl
   refine bodyPost_ret (zaI rfl rfl rfl x0 x1 x2 ⟨_,_,_,rfl⟩) rfl ⟨Hb3.out.trans (xt.below Hb3.out.size fun i hi=>by rw [hi];exact Nat.le_refl _),.inr (.inr ⟨Hfit.out,by decide,q,some L,Hq.out,HC.out,.inr ⟨L,_,rfl,rfl,?_⟩⟩)⟩
   exact xt.owns (zao Ho3.out Hb02.out.size) (fun i hi (h:i=w.heap.size)=>by have h1:=(Ho3.out.lt i hi).1;have h2:=Hlt2.out;omega)
end
section
theorem zpE (f:Nat→Nat) {i:Nat}:∀{N:Nat},i<N→sm i f+f i≤sm N f
 | 0,h=>by omega
 | N+1,h=>by
  show _≤sm N f+f N
  by_cases e:i=N
  ·rw [e];exact Nat.le_refl _
  ·have:=zpE f (i:=i) (N:=N) (by omega)
   omega
theorem zkx (f:Nat→Nat):∀(r:List Nat) (N:Nat),(∀i∈r,i<N)→r.Pairwise (· > ·)→(r.map f).sum≤sm N f
 | [],_,_,_=>Nat.zero_le _
 | i::r,N,h,hp=>by
  have h1:=zpE f (h i (by simp))
  have h2:=zkx f r i (fun j hj=>List.rel_of_pairwise_cons hp hj) hp.of_cons
  simp only [List.map_cons,List.sum_cons]
  omega
theorem zqY:∀x,x<16→1≤x→16384≤2^(15 - x)+4096*x:=by decide
theorem znb {A:List Nat} (hc:chk A=0):∀(r:List Nat),(∀i∈r,i<A.length∧0<lq A i)→r.Pairwise (· > ·)→16384*r.length≤32768+4096*(r.map (lq A)).sum:=by
 intro r h hp
 obtain ⟨-,h15,hr⟩:=za6 hc
 have hroom:room A.length 15 (lq A)≤32768:=by
  rcases hr with hr | hr | hr
  ·have h1:=zfl A.length 15 (lq A)
   rw [hr,Nat.zero_mul] at h1
   omega
  ·omega
  ·omega
 have h1:=zkx (fun i=>if 0<lq A i then 2^(15 - lq A i) else 0) r A.length (fun i hi=>(h i hi).1) hp
 have h2:∀r:List Nat,(∀i∈r,i<A.length∧0<lq A i)→16384*r.length≤(r.map fun i=>if 0<lq A i then 2^(15 - lq A i) else 0).sum+4096*(r.map (lq A)).sum:=by
  intro r
  induction r with
  | nil=>intro _;exact Nat.zero_le _
  | cons i r ih=>
   intro h
   have hi:=h i (by simp)
   have h3:=ih fun j hj=>h j (by simp [hj])
   have h4:=zqY (lq A i) (by have:=h15 i hi.1;omega) hi.2
   simp only [List.map_cons,List.sum_cons,List.length_cons]
   rw [if_pos hi.2]
   omega
 have h3:=h2 r h
 have h4:(r.map fun i=>if 0<lq A i then 2^(15 - lq A i) else 0).sum≤room A.length 15 (lq A):=h1
 omega
theorem zpO {V:List Nat} (h:257≤V.length):2≤(rnL V).length:=by
 have hl:(rnP V 0).2≤138:=by
  unfold rnP
  unfold rnQ
  split
  ·simp only;omega
  ·split
   ·simp only;omega
   ·split
    ·simp only;omega
    ·simp only;omega
 unfold rnL
 obtain ⟨n,hn⟩:∃n,V.length=n+1:=⟨V.length - 1,by omega⟩
 rw [hn,zcg (by omega),zcg (by omega)]
 simp
theorem zqP {ts:List Tk} {P:Pt} {b:List Nat} (h:DynF ts P) (hx:xp ts []=(b,0)):
  ∃A D:List Nat,chk A=0∧A.length=286∧(∀x∈pasT ts,x.c=0→x.s<286→0<lq A x.s)∧(∀x∈pasT ts,x.c=1→x.s<30→0<lq D x.s)∧31+szP ((pasT ts).flatMap (plP [A,D]))≤szP P:=by
 have h2:(xp ts []).2=0:=by rw [hx]
 have hok:=zda h2
 obtain ⟨gA,gD,gC,hA,hD,hC,rfl⟩:=h.ex
 have cA:=zaZ hA.1 (by decide) (by decide)
 have cD:=zaZ hD.1 (by decide) (by decide)
 have lA:=zap gA 286
 have lD:=zap gD 30
 have K:=DynK.of (gl gC 19) lA lD cA cD
 obtain ⟨cC,r1,r2,r3,r4⟩:=zdp K.h16 hC.1
 refine ⟨gl gA 286,gl gD 30,cA,lA,fun x hx hc hs=>zbP hA.1 hx hc hs,fun x hx hc hs=>zbP hD.1 hx hc hs,?_⟩
 have two:=zpO (V:=cutX (gl gA 286)++cutY (gl gD 30)) (by rw [List.length_append];have:=K.x1.1;omega)
 have hone:∀xs:List Pa,(∀x∈xs,x.c=0∧x.s<(gl gC 19).length∧0<lq (gl gC 19) x.s)→xs.length≤szP (xs.flatMap (plP [gl gC 19])):=by
  intro xs
  induction xs with
  | nil=>intro _;exact Nat.zero_le _
  | cons x r ih=>
   intro h
   have h1:=ih fun y hy=>h y (by simp [hy])
   obtain ⟨e1,-,e3⟩:=h x (by simp)
   rw [List.flatMap_cons,zaj,List.length_cons]
   have:1≤szP (plP [gl gC 19] x):=by
    unfold plP
    rw [e1]
    simp only [szP]
    show 1≤lq (gl gC 19) x.s+_
    omega
   omega
 have h3:=hone _ r1
 have h4:=zgq (gl gC 19) (i:=trN (ordO (gl gC 19)) 4 19) K.k.2
 unfold dynP putR
 simp only [zaj,szP,List.cons_append,List.nil_append]
 have:=K.k.1
 omega
def t6:List Tk:=[⟨1,0,0⟩,⟨2,0,0⟩,⟨3,0,0⟩,⟨4,0,0⟩,⟨5,0,0⟩,⟨6,0,0⟩]
theorem p6:pasT t6=[⟨0,1,0,0⟩,⟨0,2,0,0⟩,⟨0,3,0,0⟩,⟨0,4,0,0⟩,⟨0,5,0,0⟩,⟨0,6,0,0⟩,⟨0,256,0,0⟩]:=rfl
theorem t6_toks:Toks (fb [1,2,3,4,5,6]) 6 0 t6:=by
 have h:=zhK (fb [1,2,3,4,5,6]) 6 6 0 (by decide) (by decide)
 have e:zhv (fb [1,2,3,4,5,6]) 6 6 0=t6:=by kernel_rfl
 rwa [e] at h
theorem zh9 {P Q:Pt} {n:Nat} (h:n≤szP P) (k:n≤szP Q):n≤szP (zbN P Q):=by
 unfold zbN
 split<;>assumption
theorem zqa {S:List Nat} (h:DefS [1,2,3,4,5,6] S):6≤S.length:=by
 obtain ⟨ts,P,h3,-,h5,rfl⟩:=h.ex
 have hx:=h3.tell (by decide)
 obtain rfl:=t6_toks.uniq h3
 obtain ⟨A,D,cA,lA,hA,-,hsz⟩:=zqP h5 hx
 have hk:=znb cA [256,6,5,4,3,2,1] (fun i hi=>by
  rw [lA]
  simp only [List.mem_cons,List.not_mem_nil,or_false] at hi
  rcases hi with rfl | rfl | rfl | rfl | rfl | rfl | rfl
  ·exact ⟨by decide,hA ⟨0,256,0,0⟩ (by rw [p6];simp) rfl (by decide)⟩
  ·exact ⟨by decide,hA ⟨0,6,0,0⟩ (by rw [p6];simp) rfl (by decide)⟩
  ·exact ⟨by decide,hA ⟨0,5,0,0⟩ (by rw [p6];simp) rfl (by decide)⟩
  ·exact ⟨by decide,hA ⟨0,4,0,0⟩ (by rw [p6];simp) rfl (by decide)⟩
  ·exact ⟨by decide,hA ⟨0,3,0,0⟩ (by rw [p6];simp) rfl (by decide)⟩
  ·exact ⟨by decide,hA ⟨0,2,0,0⟩ (by rw [p6];simp) rfl (by decide)⟩
  ·exact ⟨by decide,hA ⟨0,1,0,0⟩ (by rw [p6];simp) rfl (by decide)⟩) (by decide)
 have e:szP ((pasT t6).flatMap (plP [A,D]))=lq A 1+(0+(lq A 2+(0+(lq A 3+(0+(lq A 4+(0+(lq A 5+(0+(lq A 6+(0+(lq A 256+(0+0))))))))))))):=rfl
 rw [e] at hsz
 simp only [List.map_cons,List.map_nil,List.sum_cons,List.sum_nil,List.length_cons,List.length_nil] at hk
 have h1:41≤szP (putB 0 (stB [1,2,3,4,5,6])):=by decide +kernel
 have h2:41≤szP (fixP t6):=by decide +kernel
 have:=zh9 (zh9 h1 h2) (show 41≤szP P by omega)
 rw [zds]
 omega
end
section
open Go.RowKit
attribute [local go_sem] Oper.semAt_some
theorem zdY:cdP [66051,263430]=[1,2,3,4,5,6]:=by decide +kernel
theorem zoD:(rlBs (rlO [66051,263430])).length=8:=by decide +kernel
theorem zqk:(plE [66051,263430]).1.length=8:=by decide +kernel
theorem zqt {S:List Nat} (h:DefS (cdP [66051,263430]) S):cdE [66051,263430] S=(1,[1,2,3,4,5,6]):=by
 rw [zdY] at h
 have h6:=zqa h
 have e1:cdG [66051,263430] S 1=(1,[1,2,3,4,5,6]):=by rw [zjN,zdY]
 have e2:cdG [66051,263430] S 2=(1,[1,2,3,4,5,6]):=by
  show cdS (cdG _ S 1) 2 (rlBs (rlO [66051,263430])) true=_
  rw [e1]
  exact zat (by rw [zoD];simp)
 have e3:cdG [66051,263430] S 3=(1,[1,2,3,4,5,6]):=by
  show cdS (cdG _ S 2) 3 (plE [66051,263430]).1 (plE [66051,263430]).2=_
  rw [e2]
  exact zat (by rw [zqk];simp)
 show cdS (cdG _ S 3) 4 S true=_
 rw [e3]
 exact zat (by simp;omega)
theorem zpk (wd ht:Int) {w:World} {p:Option Addr} {n c:Nat} {l:List Nat} (h:Row encP 1 w (.slice p n c) l) (h32:∀x∈l,x<4294967296):
  Calls Tryz.prog 20 #[.agg #[.int .i64 wd,.int .i64 ht,.slice p n c]] w fun e w'=>Below w.heap.size w w'∧((¬cdM wd ht n∧e= .returned (.tuple #[.int .u8 0,.slice none 0 0,.int .i64 1]))∨
   (cdM wd ht n∧∃S p' c',DefS (cdP l) S∧e= .returned (.tuple #[.int .u8 ((cdE l S).1:Int),.slice p' (cdE l S).2.length c',.int .i64 0])∧w'.ownsRow w.heap.size 5 1 (.slice p' (cdE l S).2.length c') (cdE l S).2.length ((cdE l S).2.map u8v))):=by
 obtain rfl:=h.lenR
 refine Calls.mono (zjz wd ht p c l w h.at'.1 h32 h.at'.2) ?_
 rintro e w' ⟨hb,⟨h1,rfl⟩ | ⟨h1,S,v',hS,rfl,ho⟩⟩
 ·exact ⟨hb,.inl ⟨h1,rfl⟩⟩
 ·obtain ⟨p',c',rfl⟩:=zac ho
  exact ⟨hb,.inr ⟨h1,S,p',c',hS,rfl,ho⟩⟩
theorem zoi (kd:Nat) (wd ht:Int) {w:World} {p:Option Addr} {n c:Nat} {b:List Nat} (h:Rw8 w (.slice p n c) b) (hkd:kd<256) (h8:∀x∈b,x<256) (hl:n≤1048576):
  Calls Tryz.prog 29 #[.int .u8 (kd:Int),.int .i64 wd,.int .i64 ht,.slice p n c] w fun e w'=>Below w.heap.size w w'∧DcE kd wd ht b w.heap.size e w':=by
 obtain rfl:=h.row.lenR
 exact zjH kd wd ht p c b w hkd h h8 hl
end
section
open Go.RowKit
attribute [local go_sem] Oper.semAt_some
end
section
open Go.RowKit
attribute [local go_sem] Oper.semAt_some
theorem zfV {fn:Func} {p:Tmp} {tmps:Array Value} {w:World} {B:Nat} {wd ht:Int} {v:Value} (h:fn.results=#[.cell p 26]) (hp:tmps.getD p undef= .pointer (some ⟨B,0,none⟩))
  (c0:w.cell? ⟨B,0,none⟩=some (.int .i64 wd)) (c1:w.cell? ⟨B,1,none⟩=some (.int .i64 ht)) (c2:w.cell? ⟨B,2,none⟩=some v) (hv:∃a n c,v= .slice a n c):(results fn tmps).run Tryz.prog w= .ok (ImgV wd ht v) w:=by
 obtain ⟨a,n,c,rfl⟩:=hv
 have hp':tmps[p]?.getD undef= .pointer (some ⟨B,0,none⟩):=by simpa using hp
 simp [results,h,hp',go_sem,c0,c1,c2,ImgV]
set_option maxRecDepth 20000 in
set_option maxHeartbeats 4000000 in
theorem zlE (wa ha wb hb:Int) (p q:Option Addr) (c d:Nat) (a b:List Nat) (w:World) (hp:RowAt encP 1 w p a) (hq:RowAt encP 1 w q b) (la:a.length≤1048576) (lb:b.length≤1048576) (r:Bool) (hr:decide (wa=wb∧ha=hb∧a=b)=r):
  Makes Tryz.prog 14 #[.agg #[.int .i64 wa,.int .i64 ha,.slice p a.length c],.agg #[.int .i64 wb,.int .i64 hb,.slice q b.length d]] w (.bool r):=by
 unfold Makes
 have Hr:=Lib.hid hr
 have h2:=Below.al2 w (.cells #[.int .i64 wa,.int .i64 ha,.slice p a.length c] 26) (.cells #[.int .i64 wb,.int .i64 hb,.slice q b.length d] 26)
 have H:=zmm p q c d a b _ (hp.below h2) (hq.below h2) la lb
 have hg:=zag [.cells #[.int .i64 wa,.int .i64 ha,.slice p a.length c] 26,.cells #[.int .i64 wb,.int .i64 hb,.slice q b.length d] 26] w
 simp only [List.foldl_cons,List.foldl_nil] at hg
 obtain ⟨n,hn⟩:∃n,a.length=n:=⟨_,rfl⟩
 obtain ⟨m,hm⟩:∃n,b.length=n:=⟨_,rfl⟩
 rw [hn,hm] at H h2 hg ⊢
 clear hp hq hn hm la lb hr
 go_enter Tryz.func14,Tryz.ntmps14
 go_upto_region 1 with (fail)
 generalize (w.alloc (.cells #[.int .i64 wa,.int .i64 ha,.slice p n c] 26)).alloc (.cells #[.int .i64 wb,.int .i64 hb,.slice q m d] 26)=W at *
 have g0:=(hg 0 _).2 rfl
 have g1:=(hg 1 _).2 rfl
 rw [Nat.add_zero] at g0
 have c0:W.cell? ⟨w.heap.size,0,none⟩=some (.int .i64 wa):=zaa g0 rfl
 have c1:W.cell? ⟨w.heap.size,1,none⟩=some (.int .i64 ha):=zaa g0 rfl
 have c2:W.cell? ⟨w.heap.size,2,none⟩=some (.slice p n c):=zaa g0 rfl
 have k0:W.cell? ⟨w.heap.size+1,0,none⟩=some (.int .i64 wb):=zaa g1 rfl
 have k1:W.cell? ⟨w.heap.size+1,1,none⟩=some (.int .i64 hb):=zaa g1 rfl
 have k2:W.cell? ⟨w.heap.size+1,2,none⟩=some (.slice q m d):=zaa g1 rfl
 have H2:=Lib.hid h2
 clear hg g0 g1 h2
 by_cases e1:wa=wb
 case neg=>
  have d1:(wa==wb)=false:=by simpa using e1
  obtain rfl:r=false:=by rw [←Hr.out];exact decide_eq_false fun h=>e1 h.1
  go_wp2
  go_ret
  exact ⟨rfl,H2.out⟩
 have d1:(wa==wb)=true:=by simpa using e1
 by_cases e2:ha=hb
 case neg=>
  have d2:(ha==hb)=false:=by simpa using e2
  obtain rfl:r=false:=by rw [←Hr.out];exact decide_eq_false fun h=>e2 h.2.1
  go_wp2
  go_ret
  exact ⟨rfl,H2.out⟩
 have d2:(ha==hb)=true:=by simpa using e2
 have hrr:decide (a=b)=r:=by
  rw [←Hr.out]
  congr 1
  apply propext
  exact ⟨fun h=>⟨e1,e2,h⟩,fun h=>h.2.2⟩
 rw [hrr] at H
 clear e1 e2 hrr
 go_wp2_with fail
 refine Calls.mono H ?_
 rintro _ w1 ⟨rfl,hb1⟩
 go_wp2
 go_ret
 exact ⟨rfl,Below.thn H2.out hb1⟩
end
section
open Go.RowKit
attribute [local go_sem] Oper.semAt_some
structure ImB (w:World) (B:Nat) (wd ht:Int) (v:Value):Prop where
 at':w.heap[B]? =some (.cells #[.int .i64 wd,.int .i64 ht,v] 26)
theorem ImB.later {w w':World} {B:Nat} {wd ht:Int} {v:Value} (h:ImB w B wd ht v) (hb:Below w.heap.size w w'):ImB w' B wd ht v:=⟨(hb.block B (zab h.at')).trans h.at'⟩
theorem ImB.c {w:World} {B:Nat} {wd ht:Int} {v:Value} (h:ImB w B wd ht v):w.cell? ⟨B,0,none⟩=some (.int .i64 wd)∧w.cell? ⟨B,1,none⟩=some (.int .i64 ht)∧w.cell? ⟨B,2,none⟩=some v:=⟨zaa h.at' rfl,zaa h.at' rfl,zaa h.at' rfl⟩
theorem ImB.new (w:World) (wd ht:Int) (v:Value):ImB (w.alloc (.cells #[.int .i64 wd,.int .i64 ht,v] 26)) w.heap.size wd ht v:=⟨World.alloc_heap_new w _⟩
theorem zno {wd ht:Int} {n:Nat} (h:cdM wd ht n):1≤n∧n≤65536:=by
 obtain ⟨q,h1,h2,h3⟩:=zdg ⟨h.1,h.2.1,h.2.2.1,h.2.2.2.1⟩
 have:=h.2.2.2.2
 omega
end
end Go.Proofs.YtedakhgaghfogaaGreat
