/- update: a body's copies done. -/
import Derived.Test.YtedakhgaghfogaaGreatQs43
namespace Go.Proofs.YtedakhgaghfogaaGreat
section
open Go.RowKit
attribute [local go_sem] Oper.semAt_some
structure UpW (w:World) (R g off c:Nat) (b:List Nat) (a G:Nat) (L:List Nat) (N:Nat):Prop where
 rd:UrS w R g off c b a
 px:PxB w G L
 len:L.length=N
 ne1:G≠R
 ne2:G≠g
theorem UpW.turns {w w':World} {R g off c:Nat} {b:List Nat} {a G:Nat} {L:List Nat} {N:Nat} {T:Nat→Prop} (h:UpW w R g off c b a G L N) (ht:Turns T w w') (h1:¬T R) (h2:¬T g) (h3:¬T G):UpW w' R g off c b a G L N:=
 ⟨h.rd.turns ht h1 h2,h.px.turns ht h3,h.len,h.ne1,h.ne2⟩
theorem UpW.below {w w':World} {R g off c:Nat} {b:List Nat} {a G:Nat} {L:List Nat} {N:Nat} (h:UpW w R g off c b a G L N) (hb:Below w.heap.size w w'):UpW w' R g off c b a G L N:=
 h.turns (T:=fun _=>False) (Turns.of_below' hb) (fun h=>h) (fun h=>h) (fun h=>h)
theorem UpW.reads {w w':World} {R g off c:Nat} {b:List Nat} {a a' G:Nat} {L:List Nat} {N:Nat} (h:UpW w R g off c b a G L N) (hr:UrS w' R g off c b a') (ht:Turns (fun i=>i=R) w w'):UpW w' R g off c b a' G L N:=
 ⟨hr,h.px.turns ht h.ne1,h.len,h.ne1,h.ne2⟩
theorem UpW.paints {w w':World} {R g off c:Nat} {b:List Nat} {a G:Nat} {L L':List Nat} {N:Nat} (h:UpW w R g off c b a G L N) (hp:PxB w' G L') (hl:L'.length=L.length) (ht:Turns (fun i=>i=G) w w'):UpW w' R g off c b a G L' N:=
 ⟨h.rd.turns ht (fun e=>h.ne1 e.symm) (fun e=>h.ne2 e.symm),hp,hl.trans h.len,h.ne1,h.ne2⟩
theorem Turns.orL {T T':Nat→Prop} {w w':World} (h:Turns T w w'):Turns (fun i=>T i∨T' i) w w':=h.mono (fun _ _ h=> .inl h)
theorem Turns.orR {T T':Nat→Prop} {w w':World} (h:Turns T' w w'):Turns (fun i=>T i∨T' i) w w':=h.mono (fun _ _ h=> .inr h)
set_option maxRecDepth 20000 in
set_option maxHeartbeats 8000000 in
theorem zjl (R g off c:Nat) (b:List Nat) (a wd ht G N:Nat) (L:List Nat) (w:World) (h:UpW w R g off c b a G L N) (h8:∀x∈b,x<256) (hN:N=wd*ht) (hNm:N≤1048576) (hw:1≤wd∧wd≤256) (hh:1≤ht∧ht≤256):
  Calls Tryz.prog 43 #[.pointer (some ⟨R,0,none⟩),IgV wd ht (.slice (some ⟨G,0,none⟩) N N)] w fun e w'=>
   (a+2≤b.length∧∃L' a',upCp wd ht b (upQ2 b a) (a+2) L=some (L',a')∧e= .returned (.tuple #[])∧UpW w' R g off c b a' G L' N∧Turns (fun i=>i=R∨i=G) w w')∨
   ((b.length<a+2∨upCp wd ht b (upQ2 b a) (a+2) L=none)∧e=zak 140∧Turns (fun i=>i=R∨i=G) w w'):=by
 have hb0:=Below.al1 w (.cells #[.int .i64 (wd:Int),.int .i64 (ht:Int),.slice (some ⟨G,0,none⟩) N N] 26)
 have hz:=World.alloc_heap_new w (.cells #[.int .i64 (wd:Int),.int .i64 (ht:Int),.slice (some ⟨G,0,none⟩) N N] 26)
 have H0:=Lib.hid (h.below hb0)
 have HRw:=Lib.hid (And.intro h.rd.lt (And.intro h.rd.glt (zab h.px)))
 have H8:=Lib.hid h8
 have HNe:=Lib.hid hN
 have Hb0:=Lib.hid hb0
 have hB:∀i,upQ2 b i<65536:=zfb h8
 have HB:=Lib.hid hB
 clear h h8 hb0 hB hN
 go_enter Tryz.func43,Tryz.ntmps43
 go_upto_region 1 with (fail)
 generalize w.alloc (.cells #[.int .i64 (wd:Int),.int .i64 (ht:Int),.slice (some ⟨G,0,none⟩) N N] 26)=W at *
 obtain ⟨P,hP⟩:∃P,w.heap.size=P:=⟨_,rfl⟩
 rw [hP] at hz ⊢
 have HP:=Lib.hid hP
 have Hz:=Lib.hid hz
 have HPn:Hid (P≠R∧P≠g∧P≠G):=Lib.hid (by
  obtain ⟨h1,h2,h3⟩:=HRw.out
  rw [hP] at h1 h2 h3
  exact ⟨by omega,by omega,by omega⟩)
 clear hP hz
 go_wp2_with fail
 refine Calls.mono (zbC R g off c b a W H0.out.rd H8.out) ?_
 rintro _ w1 (⟨h1,rfl,hu1,ht1⟩ | ⟨h1,rfl,ht1⟩)
 case inr=>
  have Ht:=Lib.hid ht1
  clear ht1
  go_wp2
  exact ⟨rfl,.inr ⟨.inl h1,rfl,(Turns.of_below' Hb0.out).trans (Turns.orL Ht.out)⟩⟩
 have HU1:=Lib.hid (H0.out.reads hu1 ht1)
 have HT1:Hid (Turns (fun i=>i=R∨i=G) W w1):=Lib.hid (Turns.orL ht1)
 have hn:=HB.out a
 obtain ⟨n,hnn⟩:∃n,upQ2 b a=n:=⟨_,rfl⟩
 rw [hnn] at hn ⊢
 have Hnn:=Lib.hid hnn
 have hnR:¬(P=R∨P=G):=fun e=>e.elim HPn.out.1 HPn.out.2.2
 clear hu1 ht1 hnn H0
 go_wp2_with fail
 go_loopw [10] (fun iv wr=> ∃(i ai:Nat) (Li:List Nat),iv= .int .u16 (i:Int)∧i≤n∧Hid (upCp wd ht b n (a+2) L=upCp wd ht b (n - i) ai Li)∧Hid (UpW wr R g off c b ai G Li N)∧Hid (Turns (fun i=>i=R∨i=G) W wr)) (fun iv _=>n - (intOf iv).toNat)
 case atStart=>exact ⟨0,a+2,L,rfl,Nat.zero_le _,Lib.hid rfl,HU1,HT1⟩
 case round=>
  obtain ⟨i,ai,Li,rfl,hi,HC,HU,HT⟩:=hrel
  by_cases hin:i<n
  ·have d1:decide ((i:Int)<(n:Int))=true:=by simp;omega
   have hstep:upCp wd ht b (n - i) ai Li=if ai+12≤b.length∧upCk wd ht b ai then upCp wd ht b (n - (i+1)) (ai+12) (upCm wd b ai Li) else none:=by
    rw [show n - i=(n - (i+1))+1 by omega,upCp]
   have Hstep:=Lib.hid hstep
   clear hstep HU1 HT1
   go_wp2_with fail
   refine Calls.mono (zc0 R g off c b ai wr HU.out.rd H8.out) ?_
   rintro _ w3 (⟨h3,rfl,hu3,ht3⟩ | ⟨h3,rfl,ht3⟩)
   case inr=>
    have Ht:=Lib.hid (HT.out.trans (Turns.orL ht3))
    clear ht3
    go_wp2
    exact ⟨rfl,.inr ⟨.inr (by rw [Hnn.out,HC.out,Hstep.out,if_neg (fun h=>by omega)]),rfl,(Turns.of_below' Hb0.out).trans Ht.out⟩⟩
   have HU3:=Lib.hid (HU.out.reads hu3 ht3)
   have HT3:Hid (Turns (fun i=>i=R∨i=G) W w3):=Lib.hid (HT.out.trans (Turns.orL ht3))
   clear hu3 ht3
   go_wp2_with fail
   refine Calls.mono (zgU R g off c b (ai+8) w3 HU3.out.rd H8.out) ?_
   rintro _ w4 (⟨h4,rfl,hu4,ht4⟩ | ⟨h4,rfl,ht4⟩)
   case inr=>
    have Ht:=Lib.hid (HT3.out.trans (Turns.orL ht4))
    clear ht4
    go_wp2
    exact ⟨rfl,.inr ⟨.inr (by rw [Hnn.out,HC.out,Hstep.out,if_neg (fun h=>by omega)]),rfl,(Turns.of_below' Hb0.out).trans Ht.out⟩⟩
   have HU4:=Lib.hid (HU3.out.reads hu4 ht4)
   have HT4:Hid (Turns (fun i=>i=R∨i=G) W w4):=Lib.hid (HT3.out.trans (Turns.orL ht4))
   clear hu4 ht4
   go_wp2_with fail
   refine Calls.mono (zgU R g off c b (ai+8+2) w4 HU4.out.rd H8.out) ?_
   rintro _ w5 (⟨h5,rfl,hu5,ht5⟩ | ⟨h5,rfl,ht5⟩)
   case inr=>
    have Ht:=Lib.hid (HT4.out.trans (Turns.orL ht5))
    clear ht5
    go_wp2
    exact ⟨rfl,.inr ⟨.inr (by rw [Hnn.out,HC.out,Hstep.out,if_neg (fun h=>by omega)]),rfl,(Turns.of_below' Hb0.out).trans Ht.out⟩⟩
   have HU5:=Lib.hid (HU4.out.reads hu5 ht5)
   have HT5:Hid (Turns (fun i=>i=R∨i=G) W w5):=Lib.hid (HT4.out.trans (Turns.orL ht5))
   clear hu5 ht5
   have e1:=HB.out ai
   have e2:=HB.out (ai+2)
   have e3:=HB.out (ai+4)
   have e4:=HB.out (ai+6)
   have e5:=HB.out (ai+8)
   have e6:=HB.out (ai+10)
   have hck:upCk wd ht b ai=upCk wd ht b ai:=rfl
   have hcm:upCm wd b ai Li=upCm wd b ai Li:=rfl
   conv at hck=>rhs;unfold upCk
   conv at hcm=>rhs;unfold upCm
   rw [show ai+8+2=ai+10 from rfl]
   obtain ⟨x,hx⟩:∃q,upQ2 b ai=q:=⟨_,rfl⟩
   obtain ⟨y,hy⟩:∃q,upQ2 b (ai+2)=q:=⟨_,rfl⟩
   obtain ⟨p,hp⟩:∃q,upQ2 b (ai+4)=q:=⟨_,rfl⟩
   obtain ⟨q,hq⟩:∃q,upQ2 b (ai+6)=q:=⟨_,rfl⟩
   have f5: -32768≤upS (upQ2 b (ai+8))∧upS (upQ2 b (ai+8))≤32767:=by unfold upS;split<;>omega
   have f6: -32768≤upS (upQ2 b (ai+10))∧upS (upQ2 b (ai+10))≤32767:=by unfold upS;split<;>omega
   obtain ⟨dx,hdx⟩:∃q,upS (upQ2 b (ai+8))=q:=⟨_,rfl⟩
   obtain ⟨dy,hdy⟩:∃q,upS (upQ2 b (ai+10))=q:=⟨_,rfl⟩
   rw [hx,hy,hp,hq,hdx,hdy] at hck hcm
   rw [hdx] at f5
   rw [hdy] at f6
   rw [hx,hy,hp,hq,hdx,hdy]
   have v5:IntKind.i64.wrap dx=dx:=IntWalk.i64_in _ (by omega)
   have v6:IntKind.i64.wrap dy=dy:=IntWalk.i64_in _ (by omega)
   have wx:IntKind.i64.wrap ((x:Int) - dx)=(x:Int) - dx:=IntWalk.i64_in _ (by omega)
   have wy:IntKind.i64.wrap ((y:Int) - dy)=(y:Int) - dy:=IntWalk.i64_in _ (by omega)
   obtain ⟨f,hf⟩:∃f,decide (upCk wd ht b ai)=f:=⟨_,rfl⟩
   have hcopy:=fun W'=>zfO (x:Int) (y:Int) (p:Int) (q:Int) dx dy (wd:Int) (ht:Int) (some ⟨G,0,none⟩) N N W' (by omega) (by omega) (by omega) (by omega) f (by rw [wx,wy,←hf];congr 1;exact hck.symm)
   have HCk:=Lib.hid hck
   have HCm:=Lib.hid hcm
   have Hf:=Lib.hid hf
   have HCopy:=Lib.hid hcopy
   clear hx hy hp hq hdx hdy hck hcm e1 e2 e3 e4 e5 e6 hf hcopy wx wy
   go_upto_region 4 with (fail)
   have hk6:=World.alloc_heap_new w5 (.cells #[.int .i64 (x:Int),.int .i64 (y:Int),.int .i64 (p:Int),.int .i64 (q:Int)] 36)
   have hb6:=Below.al1 w5 (.cells #[.int .i64 (x:Int),.int .i64 (y:Int),.int .i64 (p:Int),.int .i64 (q:Int)] 36)
   generalize w5.alloc (.cells #[.int .i64 (x:Int),.int .i64 (y:Int),.int .i64 (p:Int),.int .i64 (q:Int)] 36)=w6 at *
   obtain ⟨Q,hQ⟩:∃Q,w5.heap.size=Q:=⟨_,rfl⟩
   have HU6:=Lib.hid (HU5.out.below hb6)
   have HT6:Hid (Turns (fun i=>i=R∨i=G) W w6):=Lib.hid (HT5.out.trans (Turns.of_below' hb6))
   rw [hQ] at hk6 ⊢
   obtain ⟨c0,c1,c2,c3,-⟩:=zau hk6
   clear hk6 hb6 hQ
   go_upto_region 5 with (fail)
   have hk7:=World.alloc_heap_new w6 (.cells #[.int .i64 (x:Int),.int .i64 (y:Int),.int .i64 (p:Int),.int .i64 (q:Int),.int .i64 dx,.int .i64 dy] 38)
   have hb7:=Below.al1 w6 (.cells #[.int .i64 (x:Int),.int .i64 (y:Int),.int .i64 (p:Int),.int .i64 (q:Int),.int .i64 dx,.int .i64 dy] 38)
   generalize w6.alloc (.cells #[.int .i64 (x:Int),.int .i64 (y:Int),.int .i64 (p:Int),.int .i64 (q:Int),.int .i64 dx,.int .i64 dy] 38)=w7 at *
   obtain ⟨C,hC⟩:∃C,w6.heap.size=C:=⟨_,rfl⟩
   have HU7:=Lib.hid (HU6.out.below hb7)
   have HT7:Hid (Turns (fun i=>i=R∨i=G) W w7):=Lib.hid (HT6.out.trans (Turns.of_below' hb7))
   rw [hC] at hk7 ⊢
   have hz7:=(HT7.out.block P (zab Hz.out) hnR).trans Hz.out
   obtain ⟨k0,k1,k2,k3,k4,k5⟩:=zbj hk7
   have m0:w7.cell? ⟨P,0,none⟩=some (.int .i64 (wd:Int)):=zaa hz7 rfl
   have m1:w7.cell? ⟨P,1,none⟩=some (.int .i64 (ht:Int)):=zaa hz7 rfl
   have m2:w7.cell? ⟨P,2,none⟩=some (.slice (some ⟨G,0,none⟩) N N):=zaa hz7 rfl
   clear hb7 hz7 hk7 hC c0 c1 c2 c3
   go_wp2_with fail
   refine Calls.mono (HCopy.out w7) ?_
   rintro _ w8 ⟨rfl,hb8⟩
   have n0:=cell_later hb8 k0
   have n1:=cell_later hb8 k1
   have n2:=cell_later hb8 k2
   have n3:=cell_later hb8 k3
   have n4:=cell_later hb8 k4
   have n5:=cell_later hb8 k5
   have l0:=cell_later hb8 m0
   have l1:=cell_later hb8 m1
   have l2:=cell_later hb8 m2
   have HU8:=Lib.hid (HU7.out.below hb8)
   have HT8:Hid (Turns (fun i=>i=R∨i=G) W w8):=Lib.hid (HT7.out.trans (Turns.of_below' hb8))
   clear k0 k1 k2 k3 k4 k5 m0 m1 m2 hb8
   cases f
   case false=>
    go_wp2_with fail
    refine Calls.mono (zbW _) ?_
    rintro _ w9 ⟨rfl,rfl⟩
    go_wp2
    exact ⟨rfl,.inr ⟨.inr (by rw [Hnn.out,HC.out,Hstep.out,if_neg (fun h=>of_decide_eq_false Hf.out h.2)]),rfl,(Turns.of_below' Hb0.out).trans HT8.out⟩⟩
   case true=>
    have hok:=of_decide_eq_true Hf.out
    have hok2:=hok
    rw [HCk.out] at hok2
    obtain ⟨⟨p1,p2,p3,p4,p5,p6⟩,⟨r1,r2,r3,r4,r5,r6⟩⟩:=hok2
    obtain ⟨fx,hfx⟩:∃z,((x:Int) - dx).toNat=z:=⟨_,rfl⟩
    obtain ⟨fy,hfy⟩:∃z,((y:Int) - dy).toNat=z:=⟨_,rfl⟩
    have hfx2:(x:Int) - dx=(fx:Int):=by omega
    have hfy2:(y:Int) - dy=(fy:Int):=by omega
    have hmv:=fun (W':World) (hp:PxB W' G Li)=>zlf wd ht x y p q fx fy G dx dy Li W' hp (by rw [HU5.out.len];exact HNe.out) (by rw [HU5.out.len];exact hNm) (by omega) (by omega) (by omega) (by omega) (by omega) (by omega) (by omega)
     (by rw [hfx2];exact IntWalk.i64_in _ (by omega)) (by rw [hfy2];exact IntWalk.i64_in _ (by omega)) (fun h=>by omega) (fun h=>by omega)
    rw [HU5.out.len] at hmv
    have hcm:=HCm.out
    rw [hfx,hfy] at hcm
    rw [←hcm] at hmv
    have HMv:=Lib.hid hmv
    have hst:upCp wd ht b n (a+2) L=upCp wd ht b (n - (i+1)) (ai+12) (upCm wd b ai Li):=by rw [HC.out,Hstep.out,if_pos ⟨by omega,hok⟩]
    have Hst:=Lib.hid hst
    clear hmv hcm hst hok p1 p2 p3 p4 p5 p6 r1 r2 r3 r4 r5 r6 hfx hfy hfx2 hfy2
    go_wp2_with fail
    refine Calls.mono (zcn _) ?_
    rintro _ w9 ⟨rfl,rfl⟩
    go_wp2_with fail
    refine Calls.mono (HMv.out _ HU8.out.px) ?_
    rintro _ w10 ⟨rfl,hp10,ht10⟩
    have HU10:=Lib.hid (HU8.out.paints hp10 (zoS ..) ht10)
    have HT10:Hid (Turns (fun i=>i=R∨i=G) W w10):=Lib.hid (HT8.out.trans (Turns.orR ht10))
    have wi:IntKind.u16.wrap ((i:Int)+1)=((i+1:Nat):Int):=by rw [IntKind.wrap_u16];omega
    clear hp10 ht10 n0 n1 n2 n3 n4 n5 l0 l1 l2
    go_wp2
    go_roundw
    case rel=>exact ⟨i+1,ai+12,upCm wd b ai Li,rfl,by omega,Hst,HU10,HT10⟩
    case measure=>simp [intOf];omega
  ·obtain rfl:i=n:=by omega
   have d1:decide ((i:Int)<(i:Int))=false:=by simp
   have hc:=HC.out
   rw [Nat.sub_self,upCp] at hc
   have HC2:=Lib.hid hc
   clear hc
   go_wp2
   go_end0
   exact .inl ⟨h1,Li,ai,by rw [Hnn.out];exact HC2.out,rfl,HU.out,(Turns.of_below' Hb0.out).trans HT.out⟩
end
end Go.Proofs.YtedakhgaghfogaaGreat
