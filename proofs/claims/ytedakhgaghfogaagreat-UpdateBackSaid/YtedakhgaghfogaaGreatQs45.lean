/- update: a body's parts laid. -/
import Derived.Test.YtedakhgaghfogaaGreatQs44
namespace Go.Proofs.YtedakhgaghfogaaGreat
section
open Go.RowKit
attribute [local go_sem] Oper.semAt_some
theorem Turns.cellEq {T:Nat→Prop} {w w':World} (h:Turns T w w') {b:Nat} (o:Nat) (hb:b<w.heap.size) (hn:¬T b):w'.cell? ⟨b,o,none⟩=w.cell? ⟨b,o,none⟩:=by
 simp [World.cell?,h.block b hb hn]
theorem Turns.freeEq {T:Nat→Prop} {w w':World} (h:Turns T w w') {b:Nat} (o:Nat) (hb:b<w.heap.size) (hn:¬T b):w'.frozen? ⟨b,o,none⟩=w.frozen? ⟨b,o,none⟩:=by
 simp [World.frozen?,h.block b hb hn]
theorem zoV {k:Nat} {b:List Nat} {n:Nat} (h:¬(1≤k∧k≤4)):cdF k b n=none:=by
 cases hc:cdF k b n with
 | none=>rfl
 | some P=>
  rcases zrH hc with ⟨e,-⟩ | ⟨e,-⟩ | ⟨e,-⟩ | ⟨e,-⟩<;>omega
theorem zfh {b:List Nat} {a:Nat} (h:a+13+upQ4 b (a+9)≤b.length):(upOw b a).length=upQ4 b (a+9):=by
 rw [upOw,List.length_take,List.length_drop];omega
theorem zql {b:List Nat} {a i:Nat} (h:i<(upOw b a).length):(upOw b a)[i]? =some (lq b (a+13+i)):=by
 have h2:=h
 rw [upOw,List.length_take,List.length_drop] at h2
 rw [upOw,List.getElem?_take,if_pos (by omega),List.getElem?_drop]
 unfold lq
 rw [List.getD_eq_getElem?_getD,List.getElem?_eq_getElem (by omega)]
 rfl
theorem ziq {b:List Nat} {a:Nat} (h:∀x∈b,x<256):∀x∈upOw b a,x<256:=fun x hx=>h x (List.mem_of_mem_drop (List.mem_of_mem_take hx))
theorem zo1 {w:World} {R g off c:Nat} {b:List Nat} {a z:Nat} {a':Nat} (h:UrS w R g off c b a') (hl:a+13+upQ4 b (a+9)≤b.length) (hz:1≤upQ4 b (a+9)→z=off+(a+13)):Rw8 w (.slice (some ⟨g,z,none⟩) (upQ4 b (a+9)) (c - (a+13))) (upOw b a):=by
 have hle:=h.le
 refine ⟨⟨some ⟨g,z,none⟩,c - (a+13),by rw [zfh hl],by rw [zfh hl];omega,by simp only [maxLen];omega,.inr ⟨g,z,rfl,h.glt,fun i x hx j u hu=>?_⟩⟩,fun c' e=>by cases e⟩
 have hi:=(List.getElem?_eq_some_iff.1 hx).1
 rw [zql hi] at hx
 cases hx
 rw [zfh hl] at hi
 obtain ⟨hj,hju⟩:=List.getElem?_eq_some_iff.1 hu
 have hj0:j=0:=by simp [enc8] at hj;omega
 subst hj0
 simp [enc8] at hju
 subst hju
 rw [hz (by omega)]
 have:=h.cel (a+13+i) (by omega)
 rw [show off+(a+13)+i*1+0=off+(a+13+i) by omega]
 exact this
theorem zrV {kd p q:Nat} {own:List Nat} {base:Nat} {e:Ending} {w':World} (h:DcE kd (p:Int) (q:Int) own base e w') (hp:1≤p∧p≤256) (hq:1≤q∧q≤256) (h8:∀x∈own,x<256):
  (∃er:Int,er≠0∧e= .returned (.tuple #[IgV 0 0 (.slice none 0 0),.int .i64 er])∧cdF kd own (p*q)=none)∨
  (∃(S:List Nat) (s cap:Nat),e= .returned (.tuple #[IgV p q (.slice (some ⟨s,0,none⟩) S.length cap),.int .i64 0])∧cdF kd own (p*q)=some S∧S.length=p*q∧(∀x∈S,x<16777216)∧S.length≤cap∧cap≤9223372036854775807∧base≤s∧s<w'.heap.size∧∀i,i<S.length→w'.cell? ⟨s,0+i,none⟩=some (pxv (S.getD i 0))):=by
 rcases h with ⟨h,-⟩ | ⟨-,h,rfl⟩ | ⟨-,h,n,r,hn,hC,hr⟩
 ·exact absurd ⟨by omega,by omega,by omega,by omega⟩ h
 ·exact .inl ⟨130,by decide,rfl,zoV h⟩
 ·obtain rfl:n=p*q:=by
   rw [←Int.natCast_mul] at hn
   omega
  rcases hr with ⟨rfl,rfl⟩ | ⟨S,v,rfl,rfl,ho⟩
  ·exact .inl ⟨131,by decide,rfl,hC.f⟩
  ·obtain ⟨hl,hlow⟩:=hC.some h8 (fun o m er h=>h.told.1)
   have hpos:0<p*q:=Nat.mul_pos hp.1 hq.1
   have hown:=ho
   obtain ⟨hx,⟨h0,h1⟩ | ⟨g,cap,cur,rfl,hb,hh,hc1,hc2,-,-⟩⟩:=ho
   ·omega
   ·refine .inr ⟨S,g,cap,rfl,hC.f,hl,hlow,hc1,hc2,hb,zab hh,fun i hi=>?_⟩
    rw [Nat.zero_add,hown.cellAt i (by omega),List.getElem?_map,List.getElem?_eq_getElem hi,List.getD_eq_getElem?_getD,List.getElem?_eq_getElem hi]
    rfl
def PrtE (W:World) (R g off c:Nat) (b:List Nat) (a G:Nat) (L:List Nat) (N kd x y p q:Nat) (s kv:Value) (wx:World):Prop:=
 ∃Q,s= .pointer (some ⟨Q,0,none⟩)∧kv= .int .u8 (kd:Int)∧Hid (wx.heap[Q]? =some (.cells #[.int .i64 (x:Int),.int .i64 (y:Int),.int .i64 (p:Int),.int .i64 (q:Int)] 36))∧Hid (Q≠R)∧Hid (UpW wx R g off c b (a+9) G L N)∧Hid (Turns (fun i=>i=R∨i=G) W wx)
theorem zqz {W wb:World} {R g off c:Nat} {b:List Nat} {a G:Nat} {L:List Nat} {N kd x y p q:Nat} (hu:UpW wb R g off c b (a+9) G L N) (ht:Turns (fun i=>i=R∨i=G) W wb):
  PrtE W R g off c b a G L N kd x y p q (.pointer (some ⟨wb.heap.size,0,none⟩)) (.int .u8 (kd:Int)) (wb.alloc (.cells #[.int .i64 (x:Int),.int .i64 (y:Int),.int .i64 (p:Int),.int .i64 (q:Int)] 36)):=
 ⟨_,rfl,rfl,Lib.hid (World.alloc_heap_new wb _),Lib.hid (fun e=>Nat.lt_irrefl R (by have:=hu.rd.lt;rw [e] at this;exact this)),Lib.hid (hu.below (Below.al1 wb _)),Lib.hid (ht.trans (Turns.of_below' (Below.al1 wb _)))⟩
theorem zjQ {W wr wb:World} {R g off c:Nat} {b:List Nat} {a G:Nat} {L:List Nat} {N kd x y p q Q:Nat} {L0:List Nat} {a0:Nat} (hu:UpW wb R g off c b (a+9) G L N) (h0:UpW wr R g off c b a0 G L0 N) (ht:Turns (fun i=>i=R∨i=G) W wb) (hW:W.heap.size≤wr.heap.size) (hQ:wr.heap.size≤Q)
  (hz:wb.heap[Q]? =some (.cells #[.int .i64 0,.int .i64 0,.int .i64 0,.int .i64 0] 36)):
  PrtE W R g off c b a G L N kd x y p q (.pointer (some ⟨Q,0,none⟩)) (.int .u8 (kd:Int)) ((((wb.setCell ⟨Q,0,none⟩ (.int .i64 (x:Int))).setCell ⟨Q,1,none⟩ (.int .i64 (y:Int))).setCell ⟨Q,2,none⟩ (.int .i64 (p:Int))).setCell ⟨Q,3,none⟩ (.int .i64 (q:Int))):=by
 obtain ⟨k,kt⟩:=zhI (.int .i64 (x:Int)) (.int .i64 (y:Int)) (.int .i64 (p:Int)) (.int .i64 (q:Int)) hz rfl
 have h1:=h0.rd.lt
 have h2:=h0.rd.glt
 have h3:=zab h0.px
 exact ⟨Q,rfl,rfl,Lib.hid k,Lib.hid (by omega),Lib.hid (hu.turns kt (by omega) (by omega) (by omega)),Lib.hid (ht.trans' kt (fun i hi e=>by omega))⟩
set_option maxRecDepth 20000 in
set_option maxHeartbeats 16000000 in
theorem zkU (R g off c:Nat) (b:List Nat) (a wd ht G N:Nat) (L:List Nat) (w:World) (h:UpW w R g off c b a G L N) (h8:∀x∈b,x<256) (hN:N=wd*ht) (hNm:N≤1048576) (hw:1≤wd∧wd≤256) (hh:1≤ht∧ht≤256):
  Calls Tryz.prog 44 #[.pointer (some ⟨R,0,none⟩),IgV wd ht (.slice (some ⟨G,0,none⟩) N N)] w fun e w'=>
   (a+2≤b.length∧∃L' a',upPt wd ht b (upQ2 b a) (a+2) L=some (L',a')∧e= .returned (.tuple #[])∧UpW w' R g off c b a' G L' N∧Turns (fun i=>i=R∨i=G) w w')∨
   ((b.length<a+2∨upPt wd ht b (upQ2 b a) (a+2) L=none)∧e=zak 140∧Turns (fun i=>i=R∨i=G) w w'):=by
 have hb0:=Below.al1 w (.cells #[.int .i64 (wd:Int),.int .i64 (ht:Int),.slice (some ⟨G,0,none⟩) N N] 26)
 have hz:=World.alloc_heap_new w (.cells #[.int .i64 (wd:Int),.int .i64 (ht:Int),.slice (some ⟨G,0,none⟩) N N] 26)
 have H0:=Lib.hid (h.below hb0)
 have HRw:=Lib.hid (And.intro h.rd.lt (And.intro h.rd.glt (zab h.px)))
 have H8:=Lib.hid h8
 have HNe:=Lib.hid hN
 have Hb0:=Lib.hid hb0
 have hB:∀i,upQ2 b i<65536:=zfb h8
 have HB:=Lib.hid hB
 clear h h8 hb0 hB hN
 go_enter Tryz.func44,Tryz.ntmps44
 go_upto_region 1 with (fail)
 generalize w.alloc (.cells #[.int .i64 (wd:Int),.int .i64 (ht:Int),.slice (some ⟨G,0,none⟩) N N] 26)=W at *
 obtain ⟨P,hP⟩:∃P,w.heap.size=P:=⟨_,rfl⟩
 rw [hP] at hz ⊢
 have HP:=Lib.hid hP
 have Hz:=Lib.hid hz
 have HPn:Hid (P≠R∧P≠g∧P≠G):=Lib.hid (by
  obtain ⟨h1,h2,h3⟩:=HRw.out
  rw [hP] at h1 h2 h3
  exact ⟨by omega,by omega,by omega⟩)
 clear hP hz
 go_wp2_with fail
 refine Calls.mono (zbC R g off c b a W H0.out.rd H8.out) ?_
 rintro _ w1 (⟨h1,rfl,hu1,ht1⟩ | ⟨h1,rfl,ht1⟩)
 case inr=>
  have Ht:=Lib.hid ht1
  clear ht1
  go_wp2
  exact ⟨rfl,.inr ⟨.inl h1,rfl,(Turns.of_below' Hb0.out).trans (Turns.orL Ht.out)⟩⟩
 have HU1:=Lib.hid (H0.out.reads hu1 ht1)
 have HT1:Hid (Turns (fun i=>i=R∨i=G) W w1):=Lib.hid (Turns.orL ht1)
 have hn:=HB.out a
 obtain ⟨n,hnn⟩:∃n,upQ2 b a=n:=⟨_,rfl⟩
 rw [hnn] at hn ⊢
 have Hnn:=Lib.hid hnn
 have hnR:¬(P=R∨P=G):=fun e=>e.elim HPn.out.1 HPn.out.2.2
 clear hu1 ht1 hnn H0
 go_wp2_with fail
 go_loopw [11] (fun iv wr=> ∃(i ai:Nat) (Li:List Nat),iv= .int .u16 (i:Int)∧i≤n∧Hid (upPt wd ht b n (a+2) L=upPt wd ht b (n - i) ai Li)∧Hid (UpW wr R g off c b ai G Li N)∧Hid (Turns (fun i=>i=R∨i=G) W wr)) (fun iv _=>n - (intOf iv).toNat)
 case atStart=>exact ⟨0,a+2,L,rfl,Nat.zero_le _,Lib.hid rfl,HU1,HT1⟩
 case round=>
  obtain ⟨i,ai,Li,rfl,hi,HC,HU,HT⟩:=hrel
  by_cases hin:i<n
  ·have d1:decide ((i:Int)<(n:Int))=true:=by simp;omega
   have hstep:upPt wd ht b (n - i) ai Li=upPt wd ht b ((n - (i+1))+1) ai Li:=by
    rw [show n - i=(n - (i+1))+1 by omega]
   have Hstep:=Lib.hid hstep
   clear hstep HU1 HT1
   go_upto_region 3 with (fail)
   by_cases hA:b.length<ai+8
   ·have HNo:Hid (∀W',UpW W' R g off c b ai G Li N→Calls Tryz.prog 70 #[.pointer (some ⟨R,0,none⟩)] W' fun e w'=>e=zak 140∧Turns (fun i=>i=R) W' w'):=Lib.hid (fun W' hW'=>by
     refine Calls.mono (zc0 R g off c b ai W' hW'.rd H8.out) ?_
     rintro _ w' (⟨h,-⟩ | ⟨-,rfl,ht⟩)
     ·omega
     ·exact ⟨rfl,ht⟩)
    refine wp_region_any (by kernel_rfl) ?_
    change wpAny _ _ _ _ _ _ _ (World.drew _)
    refine wpAny_take (i:=0) (v:=?_) rfl (by kernel_rfl) (by kernel_rfl) (by kernel_rfl) (fun _ _ _ h=>h) (Or.inl ⟨by rfl,?hy⟩) ?_
    case hy=>(intro w';go_simp;try with_reducible rfl)
    refine wpAny_take (i:=2) (v:=?_) rfl (by kernel_rfl) (by kernel_rfl) (by kernel_rfl) (fun _ _ _ h=>h) (Or.inl ⟨by rfl,?hy⟩) ?_
    case hy=>(intro w';go_simp;try with_reducible rfl)
    refine wpAny_ready (rs:=[1,6]) (by kernel_rfl) (by simp) ?_
    refine AllReady.cons rfl (fun K hK=>?_) (AllReady.cons rfl (fun K hK=>?_) AllReady.nil)
    ·go_simp
     refine (HNo.out _ (HU.out.below (by go_grown))).mono ?_
     rintro _ wz ⟨rfl,htz⟩
     exact ⟨rfl,.inr ⟨.inr (by rw [Hnn.out,HC.out,Hstep.out,upPt,if_neg (fun h=>by omega)]),rfl,(Turns.of_below' Hb0.out).trans ((HT.out.trans (Turns.of_below' (by go_grown))).trans (Turns.orL htz))⟩⟩
    ·go_simp
     refine hK _ _ ?_
     clear hK K
     refine wpAny_ready (rs:=[1]) (by kernel_rfl) (by simp) ?_
     refine AllReady.cons rfl (fun K hK=>?_) AllReady.nil
     go_simp
     refine (HNo.out _ (HU.out.below (by go_grown))).mono ?_
     rintro _ wz ⟨rfl,htz⟩
     exact ⟨rfl,.inr ⟨.inr (by rw [Hnn.out,HC.out,Hstep.out,upPt,if_neg (fun h=>by omega)]),rfl,(Turns.of_below' Hb0.out).trans ((HT.out.trans (Turns.of_below' (by go_grown))).trans (Turns.orL htz))⟩⟩
   by_cases hB:b.length<ai+9
   ·have HYes:Hid (∀W',UpW W' R g off c b ai G Li N→Calls Tryz.prog 70 #[.pointer (some ⟨R,0,none⟩)] W' fun e w'=>e= .returned (U4V (upQ2 b ai) (upQ2 b (ai+2)) (upQ2 b (ai+4)) (upQ2 b (ai+6)))∧UpW w' R g off c b (ai+8) G Li N∧Turns (fun i=>i=R) W' w'):=Lib.hid (fun W' hW'=>by
     refine Calls.mono (zc0 R g off c b ai W' hW'.rd H8.out) ?_
     rintro _ w' (⟨-,rfl,hu,ht⟩ | ⟨h,-⟩)
     ·exact ⟨rfl,hW'.reads hu ht,ht⟩
     ·exact absurd h hA)
    have HNo:Hid (∀W',UpW W' R g off c b (ai+8) G Li N→Calls Tryz.prog 74 #[.pointer (some ⟨R,0,none⟩),.int .u32 1] W' fun e w'=>e=zak 140∧w'=W'):=Lib.hid (fun W' hW'=>by
     refine Calls.mono (zaR R g off c b (ai+8) W' hW'.rd) ?_
     rintro _ w' (⟨h,-⟩ | ⟨-,rfl,rfl⟩)
     ·omega
     ·exact ⟨rfl,rfl⟩)
    refine wp_region_any (by kernel_rfl) ?_
    change wpAny _ _ _ _ _ _ _ (World.drew _)
    refine wpAny_take (i:=0) (v:=?_) rfl (by kernel_rfl) (by kernel_rfl) (by kernel_rfl) (fun _ _ _ h=>h) (Or.inl ⟨by rfl,?hy⟩) ?_
    case hy=>(intro w';go_simp;try with_reducible rfl)
    refine wpAny_take (i:=2) (v:=?_) rfl (by kernel_rfl) (by kernel_rfl) (by kernel_rfl) (fun _ _ _ h=>h) (Or.inl ⟨by rfl,?hy⟩) ?_
    case hy=>(intro w';go_simp;try with_reducible rfl)
    refine wpAny_ready (rs:=[1,6]) (by kernel_rfl) (by simp) ?_
    refine AllReady.cons rfl (fun K hK=>?_) (AllReady.cons rfl (fun K hK=>?_) AllReady.nil)
    ·go_simp
     go_wp2_with (go_at_call 70;refine Calls.mono (HYes.out _ (HU.out.below (by go_grown))) ?_;rintro _ wa ⟨rfl,hua,hta⟩)
     try (refine hK _ _ ?_)
     try (clear hK K)
     refine wpAny_ready (rs:=[3,6]) (by kernel_rfl) (by simp) ?_
     refine AllReady.cons rfl (fun K hK=>?_) (AllReady.cons rfl (fun K hK=>?_) AllReady.nil)
     ·go_simp
      refine (HNo.out _ (hua.below (by go_grown))).mono ?_
      rintro _ wz ⟨rfl,rfl⟩
      exact ⟨rfl,.inr ⟨.inr (by rw [Hnn.out,HC.out,Hstep.out,upPt,if_neg (fun h=>by omega)]),rfl,(Turns.of_below' Hb0.out).trans (((HT.out.trans (Turns.of_below' (by go_grown))).trans (Turns.orL hta)).trans (Turns.of_below' (by go_grown)))⟩⟩
     ·go_simp
      refine hK _ _ ?_
      clear hK K
      refine wpAny_ready (rs:=[3]) (by kernel_rfl) (by simp) ?_
      refine AllReady.cons rfl (fun K hK=>?_) AllReady.nil
      go_simp
      refine (HNo.out _ (hua.below (by go_grown))).mono ?_
      rintro _ wz ⟨rfl,rfl⟩
      exact ⟨rfl,.inr ⟨.inr (by rw [Hnn.out,HC.out,Hstep.out,upPt,if_neg (fun h=>by omega)]),rfl,(Turns.of_below' Hb0.out).trans (((HT.out.trans (Turns.of_below' (by go_grown))).trans (Turns.orL hta)).trans (Turns.of_below' (by go_grown)))⟩⟩
    ·go_simp
     refine hK _ _ ?_
     clear hK K
     refine wpAny_ready (rs:=[1]) (by kernel_rfl) (by simp) ?_
     refine AllReady.cons rfl (fun K hK=>?_) AllReady.nil
     go_simp
     go_wp2_with (go_at_call 70;refine Calls.mono (HYes.out _ (HU.out.below (by go_grown))) ?_;rintro _ wa ⟨rfl,hua,hta⟩)
     try (refine hK _ _ ?_)
     try (clear hK K)
     refine wpAny_ready (rs:=[3]) (by kernel_rfl) (by simp) ?_
     refine AllReady.cons rfl (fun K hK=>?_) AllReady.nil
     go_simp
     refine (HNo.out _ (hua.below (by go_grown))).mono ?_
     rintro _ wz ⟨rfl,rfl⟩
     exact ⟨rfl,.inr ⟨.inr (by rw [Hnn.out,HC.out,Hstep.out,upPt,if_neg (fun h=>by omega)]),rfl,(Turns.of_below' Hb0.out).trans (((HT.out.trans (Turns.of_below' (by go_grown))).trans (Turns.orL hta)).trans (Turns.of_below' (by go_grown)))⟩⟩
   have e1:=HB.out ai
   have e2:=HB.out (ai+2)
   have e3:=HB.out (ai+4)
   have e4:=HB.out (ai+6)
   obtain ⟨x,hx⟩:∃q,upQ2 b ai=q:=⟨_,rfl⟩
   obtain ⟨y,hy⟩:∃q,upQ2 b (ai+2)=q:=⟨_,rfl⟩
   obtain ⟨p,hp⟩:∃q,upQ2 b (ai+4)=q:=⟨_,rfl⟩
   obtain ⟨q,hq⟩:∃q,upQ2 b (ai+6)=q:=⟨_,rfl⟩
   obtain ⟨kd,hkd⟩:∃q,lq b (ai+8)=q:=⟨_,rfl⟩
   have HRect:Hid (∀W',UpW W' R g off c b ai G Li N→Calls Tryz.prog 70 #[.pointer (some ⟨R,0,none⟩)] W' fun e w'=>e= .returned (U4V x y p q)∧UpW w' R g off c b (ai+8) G Li N∧Turns (fun i=>i=R) W' w'):=Lib.hid (fun W' hW'=>by
    refine Calls.mono (zc0 R g off c b ai W' hW'.rd H8.out) ?_
    rintro _ w' (⟨-,rfl,hu,ht⟩ | ⟨h,-⟩)
    ·rw [hx,hy,hp,hq]
     exact ⟨rfl,hW'.reads hu ht,ht⟩
    ·exact absurd h hA)
   have HTake:Hid (∀W',UpW W' R g off c b (ai+8) G Li N→Calls Tryz.prog 74 #[.pointer (some ⟨R,0,none⟩),.int .u32 1] W' fun e w'=>e= .returned (.slice (some ⟨g,off+(ai+8),none⟩) 1 (c - (ai+8)))∧UpW w' R g off c b (ai+9) G Li N∧Turns (fun i=>i=R) W' w'∧∀w'',Below w'.heap.size w' w''→w''.cell? ⟨g,off+(ai+8),none⟩=some (.int .u8 (kd:Int))):=Lib.hid (fun W' hW'=>by
    refine Calls.mono (zaR R g off c b (ai+8) W' hW'.rd) ?_
    rintro _ w' (⟨-,rfl,hu,ht,hc,-,-⟩ | ⟨h,-⟩)
    ·rw [hkd] at hc
     exact ⟨rfl,hW'.reads hu ht,ht,fun w'' hb=>cell_later hb hc⟩
    ·exact absurd h (by omega))
   have hc9:1≤c - (ai+8)∧c - (ai+8)≤9223372036854775807:=by have:=HU.out.rd.le;omega
   obtain ⟨k8,hk8⟩:∃k,c - (ai+8)=k:=⟨_,rfl⟩
   rw [hk8] at hc9 HTake
   obtain ⟨o8,ho8⟩:∃k,off+(ai+8)=k:=⟨_,rfl⟩
   rw [ho8] at HTake
   obtain ⟨hc1,hc2⟩:=hc9
   have hneR:¬wr.heap.size=R:=fun e=>by have:=HU.out.rd.lt;omega
   go_cut [4,5] (fun s kv wx=>PrtE W R g off c b ai G Li N kd x y p q s kv wx)
   case first=>
    go_region_with (first | (go_at_call 70;refine Calls.mono (HRect.out _ (HU.out.below (by go_grown))) ?_;rintro _ wa ⟨rfl,hua,hta⟩;(try (have hsa:wr.heap.size<wa.heap.size:=by (have h9:=hta.size;simp at h9;omega)));have hnea:¬wa.heap.size=R:=(fun e=>Nat.lt_irrefl R (by have:=hua.rd.lt;rw [e] at this;exact this));have hka:=fun (j o:Nat) h (hn:¬j=R)=>hta.cellEq (b:=j) o h hn;have hfa:=fun (j o:Nat) h (hn:¬j=R)=>hta.freeEq (b:=j) o h hn) | (go_at_call 74;refine Calls.mono (HTake.out _ (hua.below (by go_grown))) ?_;rintro _ wb ⟨rfl,hub,htb,hcb⟩;have hkb:=fun (j o:Nat) h (hn:¬j=R)=>htb.cellEq (b:=j) o h hn;have hfb:=fun (j o:Nat) h (hn:¬j=R)=>htb.freeEq (b:=j) o h hn;have hcb0:=hcb _ (Below.refl _ _);have hcbA:=fun o=>hcb _ (Below.al1 wb o);clear hcb))
    all_goals go_wp2_with fail
    all_goals go_meet
    all_goals first
     | exact zqz hub ((HT.out.trans (Turns.of_below' (by go_grown))).trans (Turns.orL (hta.trans htb)))
     | exact zjQ hub HU.out ((HT.out.trans (Turns.of_below' (by go_grown))).trans (Turns.orL (hta.trans ((Turns.of_below' (Below.al1 wa _)).trans htb)))) HT.out.size (by have:=hta.size;simpa using this) ((htb.block wa.heap.size (by simp) hnea).trans (World.alloc_heap_new wa _))
     | exact zjQ hub HU.out ((HT.out.trans (Turns.of_below' (by go_grown))).trans (Turns.orL (hta.trans htb))) HT.out.size (Nat.le_refl _) ((htb.block wr.heap.size hsa hneR).trans ((hta.block wr.heap.size (by simp) hneR).trans (World.alloc_heap_new wr _)))
   case rest=>
   obtain ⟨Q,rfl,rfl,HQ,HQR,HU9,HT9⟩:=hcut
   have Hxy:Hid (upQ2 b ai=x∧upQ2 b (ai+2)=y∧upQ2 b (ai+4)=p∧upQ2 b (ai+6)=q∧lq b (ai+8)=kd):=Lib.hid ⟨hx,hy,hp,hq,hkd⟩
   have hk256:kd<256:=by rw [←hkd];exact zaE (by decide) H8.out _
   rw [hx] at e1
   rw [hy] at e2
   rw [hp] at e3
   rw [hq] at e4
   clear hx hy hp hq hkd hk8 ho8 HRect HTake hneR hA hB hc1 hc2
   have hs32:=zoI H8.out (ai+9)
   go_wp2_with fail
   refine Calls.mono (zlq R g off c b (ai+9) wc HU9.out.rd H8.out) ?_
   rintro _ w3 (⟨h3,rfl,hu3,ht3⟩ | ⟨h3,rfl,ht3⟩)
   case inr=>
    have Ht:=Lib.hid (HT9.out.trans (Turns.orL ht3))
    clear ht3
    go_wp2
    exact ⟨rfl,.inr ⟨.inr (by rw [Hnn.out,HC.out,Hstep.out,upPt,if_neg (fun h=>by omega)]),rfl,(Turns.of_below' Hb0.out).trans Ht.out⟩⟩
   have HQ3:=Lib.hid ((ht3.block Q (zab HQ.out) HQR.out).trans HQ.out)
   have HU3:=Lib.hid (HU9.out.reads hu3 ht3)
   have HT3:Hid (Turns (fun i=>i=R∨i=G) W w3):=Lib.hid (HT9.out.trans (Turns.orL ht3))
   have htk:=zhk R g off c (upQ4 b (ai+9)) b (ai+9+4) w3 HU3.out.rd hs32
   have hrow:=fun (w':World) (a' z:Nat) (h:UrS w' R g off c b a') hl hz=>zo1 (a:=ai) (z:=z) h hl hz
   obtain ⟨sz,hsz⟩:∃z,upQ4 b (ai+9)=z:=⟨_,rfl⟩
   rw [hsz] at htk hrow hs32 ⊢
   have Hsz:=Lib.hid hsz
   have Htk:=Lib.hid htk
   have Hrow:=Lib.hid hrow
   clear hu3 ht3 htk hrow hsz
   go_wp2_with fail
   refine Calls.mono Htk.out ?_
   rintro _ w4 (⟨h4,z,rfl,hz4,hu4,ht4⟩ | ⟨h4,rfl,rfl⟩)
   case inr=>
    go_wp2
    exact ⟨rfl,.inr ⟨.inr (by rw [Hnn.out,HC.out,Hstep.out,upPt,if_neg (fun h=>by have h1:=h.2.1;rw [Hsz.out] at h1;omega)]),rfl,(Turns.of_below' Hb0.out).trans HT3.out⟩⟩
   have HQ4:=Lib.hid ((ht4.block Q (zab HQ3.out) HQR.out).trans HQ3.out)
   have HU4:=Lib.hid (HU3.out.reads hu4 ht4)
   have HT4:Hid (Turns (fun i=>i=R∨i=G) W w4):=Lib.hid (HT3.out.trans (Turns.orL ht4))
   have HRow4:Hid (Rw8 w4 (.slice (some ⟨g,z,none⟩) sz (c - (ai+9+4))) (upOw b ai)):=Lib.hid (Hrow.out _ _ _ hu4 (by omega) (fun h=>hz4 h))
   have hz7:=(HT4.out.block P (zab Hz.out) hnR).trans Hz.out
   obtain ⟨k0,k1,k2,k3,-⟩:=zau HQ4.out
   have m0:w4.cell? ⟨P,0,none⟩=some (.int .i64 (wd:Int)):=zaa hz7 rfl
   have m1:w4.cell? ⟨P,1,none⟩=some (.int .i64 (ht:Int)):=zaa hz7 rfl
   have m2:w4.cell? ⟨P,2,none⟩=some (.slice (some ⟨G,0,none⟩) N N):=zaa hz7 rfl
   obtain ⟨c4,hc4⟩:∃z,c - (ai+9+4)=z:=⟨_,rfl⟩
   rw [hc4] at HRow4 ⊢
   have hszl:sz≤1048576:=by have:=HU4.out.rd.le;omega
   obtain ⟨f,hf⟩:∃f,decide (upIs wd ht x y p q)=f:=⟨_,rfl⟩
   have HPart:=Lib.hid (fun W'=>zcv (x:Int) (y:Int) (p:Int) (q:Int) (wd:Int) (ht:Int) (some ⟨G,0,none⟩) N N W' (by omega) (by omega) (by omega) (by omega) f hf)
   have Hf:=Lib.hid hf
   clear hz4 hu4 ht4 hz7 hc4 hf Htk Hrow e1 e2 e3 e4
   go_wp2_with fail
   refine Calls.mono (HPart.out w4) ?_
   rintro _ w5 ⟨rfl,hb5⟩
   have n0:=cell_later hb5 k0
   have n1:=cell_later hb5 k1
   have n2:=cell_later hb5 k2
   have n3:=cell_later hb5 k3
   have l0:=cell_later hb5 m0
   have l1:=cell_later hb5 m1
   have l2:=cell_later hb5 m2
   have HU5:=Lib.hid (HU4.out.below hb5)
   have HT5:Hid (Turns (fun i=>i=R∨i=G) W w5):=Lib.hid (HT4.out.trans (Turns.of_below' hb5))
   have HRow5:=Lib.hid (HRow4.out.below hb5)
   have Hstep2:Hid (upPt wd ht b ((n - (i+1))+1) ai Li=if upIs wd ht x y p q then (match cdF kd (upOw b ai) (p*q) with | some S=>upPt wd ht b (n - (i+1)) (ai+13+sz) (upLy wd x y p q S Li) | none=>none) else none):=Lib.hid (by
    obtain ⟨hx,hy,hp,hq,hkd⟩:=Hxy.out
    rw [upPt,hx,hy,hp,hq,hkd,Hsz.out]
    by_cases hIs:upIs wd ht x y p q
    ·rw [if_pos hIs,if_pos ⟨by omega,by omega,hIs⟩]
     cases cdF kd (upOw b ai) (p*q)<;>rfl
    ·rw [if_neg hIs,if_neg (fun h=>hIs h.2.2)])
   clear k0 k1 k2 k3 m0 m1 m2 hb5 HQ HQ3 HQ4 HU9 HT9 HU3 HT3 HRow4
   cases f
   case false=>
    go_wp2_with fail
    refine Calls.mono (zbW _) ?_
    rintro _ w9 ⟨rfl,rfl⟩
    go_wp2
    exact ⟨rfl,.inr ⟨.inr (by rw [Hnn.out,HC.out,Hstep.out,Hstep2.out,if_neg (of_decide_eq_false Hf.out)]),rfl,(Turns.of_below' Hb0.out).trans HT5.out⟩⟩
   case true=>
   have hIs:=of_decide_eq_true Hf.out
   have HIs:=Lib.hid hIs
   obtain ⟨p1,p2,p3,p4,p5,p6⟩:=hIs
   have q1:x+p≤wd:=by omega
   have q2:y+q≤ht:=by omega
   have q3:1≤p∧p≤256:=by omega
   have q4:1≤q∧q≤256:=by omega
   clear p1 p2 p3 p4 p5 p6
   go_wp2_with fail
   refine Calls.mono (zcn _) ?_
   rintro _ w6 ⟨rfl,rfl⟩
   go_wp2_with fail
   refine Calls.mono (zoi kd p q HRow5.out hk256 (ziq H8.out) hszl) ?_
   rintro e w7 ⟨hb7,hD⟩
   have hD2:=zrV hD q3 q4 (ziq H8.out)
   have j0:=cell_later hb7 n0
   have j1:=cell_later hb7 n1
   have j2:=cell_later hb7 n2
   have j3:=cell_later hb7 n3
   have i0:=cell_later hb7 l0
   have i1:=cell_later hb7 l1
   have i2:=cell_later hb7 l2
   have HU7:=Lib.hid (HU5.out.below hb7)
   have HT7:Hid (Turns (fun i=>i=R∨i=G) W w7):=Lib.hid (HT5.out.trans (Turns.of_below' hb7))
   have Hs7:=Lib.hid (zab HU5.out.px)
   clear n0 n1 n2 n3 l0 l1 l2 hb7 hD HRow5 HPart
   rcases hD2 with ⟨er,her,rfl,hcd⟩ | ⟨S,s,cap,rfl,hcd,hSl,hSlow,hcap,hmx,hbs,hss,hcell⟩
   ·have de:(er==0)=false:=by simpa using her
    have HCd:=Lib.hid hcd
    clear hcd her
    go_upto_region 7 with (fail)
    have hb8:=Below.al1 w7 (.cells #[.int .i64 0,.int .i64 0,.slice none 0 0] 26)
    generalize w7.alloc (.cells #[.int .i64 0,.int .i64 0,.slice none 0 0] 26)=w8 at *
    have HT8:Hid (Turns (fun i=>i=R∨i=G) W w8):=Lib.hid (HT7.out.trans (Turns.of_below' hb8))
    clear hb8 j0 j1 j2 j3 i0 i1 i2
    go_wp2_with fail
    refine Calls.mono (zbW _) ?_
    rintro _ w9 ⟨rfl,rfl⟩
    go_wp2
    exact ⟨rfl,.inr ⟨.inr (by rw [Hnn.out,HC.out,Hstep.out,Hstep2.out,if_pos HIs.out,HCd.out]),rfl,(Turns.of_below' Hb0.out).trans HT8.out⟩⟩
   ·have hly:=fun (W':World) (hpx:PxB W' G Li) hS=>zmG wd ht x y p q G s 0 cap Li S W' hpx hS (by have:=Hs7.out;omega) hSl hcap hmx (by rw [HU7.out.len];exact HNe.out) (by rw [HU7.out.len];exact hNm) q1 q2 q3.1 hw.2 hh.2
    rw [HU7.out.len] at hly
    have hst:upPt wd ht b n (a+2) L=upPt wd ht b (n - (i+1)) (ai+13+sz) (upLy wd x y p q S Li):=by rw [HC.out,Hstep.out,Hstep2.out,if_pos HIs.out,hcd]
    have Hst:=Lib.hid hst
    have HLy:=Lib.hid hly
    have Hcell:=Lib.hid hcell
    obtain ⟨M,hM⟩:∃M,S.length=M:=⟨_,rfl⟩
    have HM:=Lib.hid hM
    rw [hM] at HLy ⊢
    clear hst hly hcell hcd hSl hSlow hM hcap hmx hbs hss
    go_upto_region 7 with (fail)
    have hz8:=World.alloc_heap_new w7 (.cells #[.int .i64 (p:Int),.int .i64 (q:Int),.slice (some ⟨s,0,none⟩) M cap] 26)
    have hb8:=Below.al1 w7 (.cells #[.int .i64 (p:Int),.int .i64 (q:Int),.slice (some ⟨s,0,none⟩) M cap] 26)
    generalize w7.alloc (.cells #[.int .i64 (p:Int),.int .i64 (q:Int),.slice (some ⟨s,0,none⟩) M cap] 26)=w8 at *
    have HT8:Hid (Turns (fun i=>i=R∨i=G) W w8):=Lib.hid (HT7.out.trans (Turns.of_below' hb8))
    have HU8:=Lib.hid (HU7.out.below hb8)
    have Hc8:Hid (∀i,i<S.length→w8.cell? ⟨s,0+i,none⟩=some (pxv (S.getD i 0))):=Lib.hid (fun i hi=>cell_later hb8 (Hcell.out i hi))
    have a0:=cell_later hb8 j0
    have a1:=cell_later hb8 j1
    have a2:=cell_later hb8 j2
    have a3:=cell_later hb8 j3
    have g0:=cell_later hb8 i0
    have g1:=cell_later hb8 i1
    have g2:=cell_later hb8 i2
    obtain ⟨B,hB⟩:∃B,w7.heap.size=B:=⟨_,rfl⟩
    rw [hB] at hz8 ⊢
    have b0:w8.cell? ⟨B,0,none⟩=some (.int .i64 (p:Int)):=zaa hz8 rfl
    have b1:w8.cell? ⟨B,1,none⟩=some (.int .i64 (q:Int)):=zaa hz8 rfl
    have b2:w8.cell? ⟨B,2,none⟩=some (.slice (some ⟨s,0,none⟩) M cap):=zaa hz8 rfl
    clear hb8 hz8 hB j0 j1 j2 j3 i0 i1 i2
    go_wp2_with fail
    refine Calls.mono (zcn _) ?_
    rintro _ w9 ⟨rfl,rfl⟩
    go_wp2_with fail
    refine Calls.mono (HLy.out _ HU8.out.px (fun i hi=>Hc8.out i (by rw [HM.out];exact hi))) ?_
    rintro _ w10 ⟨rfl,hp10,ht10⟩
    have HU10:Hid (UpW w10 R g off c b (ai+13+sz) G (upLy wd x y p q S Li) N):=Lib.hid (HU8.out.paints hp10 (zhV ..) ht10)
    have HT10:Hid (Turns (fun i=>i=R∨i=G) W w10):=Lib.hid (HT8.out.trans (Turns.orR ht10))
    have wi:IntKind.u16.wrap ((i:Int)+1)=((i+1:Nat):Int):=by rw [IntKind.wrap_u16];omega
    clear hp10 ht10 a0 a1 a2 a3 g0 g1 g2 b0 b1 b2
    go_wp2
    go_roundw
    case rel=>exact ⟨i+1,ai+13+sz,upLy wd x y p q S Li,rfl,by omega,Hst,HU10,HT10⟩
    case measure=>simp [intOf];omega
  ·obtain rfl:i=n:=by omega
   have d1:decide ((i:Int)<(i:Int))=false:=by simp
   have hc:=HC.out
   rw [Nat.sub_self,upPt] at hc
   have HC2:=Lib.hid hc
   clear hc
   go_wp2
   go_end0
   exact .inl ⟨h1,Li,ai,by rw [Hnn.out];exact HC2.out,rfl,HU.out,(Turns.of_below' Hb0.out).trans HT.out⟩
end
end Go.Proofs.YtedakhgaghfogaaGreat
