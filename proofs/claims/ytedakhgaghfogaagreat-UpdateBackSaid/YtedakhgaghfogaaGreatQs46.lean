/- update: Apply. -/
import Derived.Test.YtedakhgaghfogaaGreatQs45
import Derived.Test.YtedakhgaghfogaaGreatQs41
import Derived.Defers
import Derived.Recover
import Derived.Laws.Pointers
namespace Go.Proofs.YtedakhgaghfogaaGreat
section
open Go.RowKit
attribute [local go_sem] Oper.semAt_some
def ApZ (T E:Nat) (w:World):World:=(((w.setCell ⟨T,0,none⟩ (.int .i64 0)).setCell ⟨T,1,none⟩ (.int .i64 0)).setCell ⟨T,2,none⟩ (.slice none 0 0)).setCell ⟨E,0,none⟩ (.int .i64 140)
set_option maxRecDepth 100000 in
set_option maxHeartbeats 4000000 in
theorem zjr (T E:Nat) (w:World):
  CallsD Tryz.prog 41 #[.pointer (some ⟨T,0,none⟩),.pointer (some ⟨E,0,none⟩)] .returning w fun e u' w'=>e= .returned (.tuple #[])∧u'= .returning∧w'=w:=by
 refine callsD_of_wpS Tryz.func41 rfl fun c₀ cs hu=>?_
 apply wpS_seq
 apply wpS_region
 simp [wpOpsS,go_sem,recoverD,hu,Tryz.ntmps41,Exit.thenS]
 refine wpS_of_wp ?_
 go_wp2
 cases c₀
 simp_all [bodyPostS,results,Tryz.results41]
set_option maxRecDepth 100000 in
set_option maxHeartbeats 4000000 in
theorem zbO (T E:Nat) (x y z v:Value) (er:Int) (older:List PanicEntry) (w:World) (hT:w.heap[T]? =some (.cells #[x,y,z] 26)) (hE:w.heap[E]? =some (.cells #[v] 29)) (hne:E≠T):
  CallsD Tryz.prog 41 #[.pointer (some ⟨T,0,none⟩),.pointer (some ⟨E,0,none⟩)] (.panicking ({ v:= .iface 29 (.int .i64 er),recovered:=false}::older)) w fun e u' w'=>
   e= .returned (.tuple #[])∧u'= .panicking ({ v:= .iface 29 (.int .i64 er),recovered:=true}::older)∧w'=ApZ T E w:=by
 refine callsD_of_wpS Tryz.func41 rfl fun c₀ cs hu=>?_
 apply wpS_seq
 apply wpS_region
 simp [wpOpsS,go_sem,recoverD,hu,Tryz.ntmps41,Exit.thenS]
 refine wpS_of_wp ?_
 rw [show (#[Value.pointer (some ⟨T,0,none⟩),Value.pointer (some ⟨E,0,none⟩)]++((Array.replicate 3 undef).setIfInBounds 0 (Value.iface 29 (.int .i64 er))).setIfInBounds 1 (Value.bool true))=#[.pointer (some ⟨T,0,none⟩),.pointer (some ⟨E,0,none⟩),.iface 29 (.int .i64 er),.bool true,undef] from rfl]
 generalize hc1:({ fn:=c₀.fn,tmps:=c₀.tmps,todo:=c₀.todo,defers:=c₀.defers,mode:=FrameMode.panicking ({ v:=Value.iface 29 (Value.int IntKind.i64 er),recovered:=true}::older),kind:=c₀.kind,roundOf:=c₀.roundOf}:Frame)=c1
 have t0:w.cell? ⟨T,0,none⟩=some x:=zaa hT rfl
 have t1:w.cell? ⟨T,1,none⟩=some y:=zaa hT rfl
 have t2:w.cell? ⟨T,2,none⟩=some z:=zaa hT rfl
 have g0:w.frozen? ⟨T,0,none⟩=false:=by simp [World.frozen?,hT]
 have g1:w.frozen? ⟨T,1,none⟩=false:=by simp [World.frozen?,hT]
 have g2:w.frozen? ⟨T,2,none⟩=false:=by simp [World.frozen?,hT]
 have e0:w.cell? ⟨E,0,none⟩=some v:=zaa hE rfl
 have k0:w.frozen? ⟨E,0,none⟩=false:=by simp [World.frozen?,hE]
 go_wp2
 subst hc1
 simp [bodyPostS,results,Tryz.results41,ApZ]
theorem zbf {fn:Func} {p q:Tmp} {tmps:Array Value} {w:World} {T E:Nat} {wd ht e:Int} {v:Value} (h:fn.results=#[.cell p 26,.cell q 29]) (hp:tmps.getD p undef= .pointer (some ⟨T,0,none⟩)) (hq:tmps.getD q undef= .pointer (some ⟨E,0,none⟩))
  (hT:w.heap[T]? =some (.cells #[.int .i64 wd,.int .i64 ht,v] 26)) (hE:w.heap[E]? =some (.cells #[.int .i64 e] 29)) (hv:∃a n c,v= .slice a n c):(results fn tmps).run Tryz.prog w= .ok (.tuple #[IgV wd ht v,.int .i64 e]) w:=by
 obtain ⟨a,n,c,rfl⟩:=hv
 have hp':tmps[p]?.getD undef= .pointer (some ⟨T,0,none⟩):=by simpa using hp
 have hq':tmps[q]?.getD undef= .pointer (some ⟨E,0,none⟩):=by simpa using hq
 have c0:w.cell? ⟨T,0,none⟩=some (.int .i64 wd):=zaa hT rfl
 have c1:w.cell? ⟨T,1,none⟩=some (.int .i64 ht):=zaa hT rfl
 have c2:w.cell? ⟨T,2,none⟩=some (.slice a n c):=zaa hT rfl
 have c3:w.cell? ⟨E,0,none⟩=some (.int .i64 e):=zaa hE rfl
 simp [results,h,hp',hq',go_sem,c0,c1,c2,c3]
theorem zcO {w w':World} {T E:Nat} {x y z q:Value} (a b v er:Value) (hT:w.heap[T]? =some (.cells #[x,y,z] 26)) (hE:w.heap[E]? =some (.cells #[q] 29)) (hne:E≠T)
  (hw:(((w.setCell ⟨T,0,none⟩ a).setCell ⟨T,1,none⟩ b).setCell ⟨T,2,none⟩ v).setCell ⟨E,0,none⟩ er=w'):
  w'.heap[T]? =some (.cells #[a,b,v] 26)∧w'.heap[E]? =some (.cells #[er] 29)∧Turns (fun i=>i=T∨i=E) w w':=by
 subst hw
 have h1:(((w.setCell ⟨T,0,none⟩ a).setCell ⟨T,1,none⟩ b).setCell ⟨T,2,none⟩ v).heap[T]? =some (.cells #[a,b,v] 26):=zaF v (zaF b (zaF a hT))
 have t1:Turns (fun i=>i=T) w (((w.setCell ⟨T,0,none⟩ a).setCell ⟨T,1,none⟩ b).setCell ⟨T,2,none⟩ v):=(((Turns.refl (fun q=>q=T) w).set (p:=⟨T,0,none⟩) rfl _).set (p:=⟨T,1,none⟩) rfl _).set (p:=⟨T,2,none⟩) rfl _
 have h2:=(t1.block E (zab hE) hne).trans hE
 generalize ((w.setCell ⟨T,0,none⟩ a).setCell ⟨T,1,none⟩ b).setCell ⟨T,2,none⟩ v=w3 at *
 have t2:Turns (fun i=>i=E) w3 (w3.setCell ⟨E,0,none⟩ er):=(Turns.refl (fun q=>q=E) w3).set (p:=⟨E,0,none⟩) rfl _
 exact ⟨(t2.block T (zab h1) (fun e=>hne e.symm)).trans h1,zaF er h2,(t1.mono (fun _ _ h=> .inl h)).trans (t2.mono (fun _ _ h=> .inr h))⟩
def ApE (wd ht:Int) (n nb:Nat) (l b:List Nat) (base:Nat) (e:Ending) (w':World):Prop:=
 (¬cdM wd ht n∧e= .returned (.tuple #[IgV 0 0 (.slice none 0 0),.int .i64 1]))∨
 (cdM wd ht n∧(524288<nb∨upAp wd.toNat ht.toNat b (l.map rlw)=none)∧e= .returned (.tuple #[IgV 0 0 (.slice none 0 0),.int .i64 140]))∨
 (cdM wd ht n∧nb≤524288∧∃L G,upAp wd.toNat ht.toNat b (l.map rlw)=some L∧L.length=n∧e= .returned (.tuple #[IgV wd ht (.slice (some ⟨G,0,none⟩) n n),.int .i64 0])∧PxB w' G L∧base≤G)
theorem zoQ {wd ht:Nat} {b L:List Nat} (h:b.length<0+2∨upCp wd ht b (upQ2 b 0) (0+2) L=none):upAp wd ht b L=none:=by
 unfold upAp
 rcases h with h | h
 ·rw [if_pos h]
 ·split
  ·rfl
  ·rw [Nat.zero_add] at h
   rw [h]
theorem zoz {wd ht:Nat} {b L L1:List Nat} {a1:Nat} (h0:0+2≤b.length) (h1:upCp wd ht b (upQ2 b 0) (0+2) L=some (L1,a1)) (h:b.length<a1+2∨upPt wd ht b (upQ2 b a1) (a1+2) L1=none):upAp wd ht b L=none:=by
 unfold upAp
 rw [Nat.zero_add] at h1 h0
 rw [if_neg (by omega),h1]
 dsimp only
 rcases h with h | h
 ·rw [if_pos h]
 ·split
  ·rfl
  ·rw [h]
theorem znY {wd ht:Nat} {b L L1 L2:List Nat} {a1 a2:Nat} (h0:0+2≤b.length) (h1:upCp wd ht b (upQ2 b 0) (0+2) L=some (L1,a1)) (h2:a1+2≤b.length) (h3:upPt wd ht b (upQ2 b a1) (a1+2) L1=some (L2,a2)):upAp wd ht b L=if a2=b.length then some L2 else none:=by
 unfold upAp
 rw [Nat.zero_add] at h1 h0
 rw [if_neg (by omega),h1]
 dsimp only
 rw [if_neg (by omega),h3]
theorem zkH (R:Nat) (w:World) (h:w.cell? ⟨R,0,none⟩=some (.slice none 0 0)):
  Calls Tryz.prog 69 #[.pointer (some ⟨R,0,none⟩)] w fun e w'=>e=zak 140∧w'=w:=by
 go_enter Tryz.func69,Tryz.ntmps69
 go_upto_region 3 with (fail)
 go_loopw [3,4] (fun vv lv wr=>vv= .int .u16 0∧lv= .int .u16 65535∧wr=w) (fun _ lv _=>((intOf lv)%4294967296).toNat)
 case atStart=>exact ⟨rfl,rfl,rfl⟩
 case round=>
  obtain ⟨rfl,rfl,rfl⟩:=hrel
  go_wp2_with fail
  refine Calls.mono (zmQ R wr h) ?_
  rintro _ w3 ⟨rfl,rfl⟩
  go_wp2
  exact ⟨rfl,rfl,rfl⟩
set_option maxRecDepth 20000 in
theorem zje (R:Nat) (v:Value) (wd ht:Int) (w:World) (h:w.cell? ⟨R,0,none⟩=some (.slice none 0 0)) (hv:∃p n c,v= .slice p n c):
  Calls Tryz.prog 43 #[.pointer (some ⟨R,0,none⟩),IgV wd ht v] w fun e w'=>e=zak 140∧Below w.heap.size w w':=by
 obtain ⟨p,n,c,rfl⟩:=hv
 have hb0:=Below.al1 w (.cells #[.int .i64 wd,.int .i64 ht,.slice p n c] 26)
 have h1:=cell_later hb0 h
 have Hb0:=Lib.hid hb0
 clear hb0
 go_enter Tryz.func43,Tryz.ntmps43
 go_upto_region 1 with (fail)
 generalize w.alloc (.cells #[.int .i64 wd,.int .i64 ht,.slice p n c] 26)=W at *
 go_wp2_with fail
 refine Calls.mono (zkH R W h1) ?_
 rintro _ w3 ⟨rfl,rfl⟩
 go_wp2
 exact ⟨rfl,rfl,Hb0.out⟩
set_option maxRecDepth 200000 in
set_option maxHeartbeats 16000000 in
theorem zeR (wd ht:Int) (p:Option Addr) (n c:Nat) (l:List Nat) (pb:Option Addr) (nb cb:Nat) (b:List Nat) (w:World) (hp:Row encP 1 w (.slice p n c) l) (h32:∀x∈l,x<4294967296) (hb:Rw8 w (.slice pb nb cb) b) (h8:∀x∈b,x<256) (hnb:nb≤9223372036854775807):
  Calls Tryz.prog 22 #[IgV wd ht (.slice p n c),.slice pb nb cb] w fun e w'=>Below w.heap.size w w'∧ApE wd ht n nb l b w.heap.size e w':=by
 unfold ApE
 have hmf:∀(fn:Fn) (first cap:Array Value) (w:World),(Instr.makeFunc fn first cap).run Tryz.prog w= .ok (.func fn first cap) w:=fun _ _ _ _=>rfl
 have hg:=zag [.cells #[.int .i64 wd,.int .i64 ht,.slice p n c] 26,.cells #[.int .i64 0,.int .i64 0,.slice none 0 0] 26,.cells #[.int .i64 0] 29] w
 have hb0:=Below.al3 w (.cells #[.int .i64 wd,.int .i64 ht,.slice p n c] 26) (.cells #[.int .i64 0,.int .i64 0,.slice none 0 0] 26) (.cells #[.int .i64 0] 29)
 have hsz:(((w.alloc (.cells #[.int .i64 wd,.int .i64 ht,.slice p n c] 26)).alloc (.cells #[.int .i64 0,.int .i64 0,.slice none 0 0] 26)).alloc (.cells #[.int .i64 0] 29)).heap.size=w.heap.size+3:=by simp
 simp only [List.foldl_cons,List.foldl_nil] at hg
 obtain ⟨f1,hf1⟩:∃f,decide (cdM wd ht n)=f:=⟨_,rfl⟩
 have Hf1:=Lib.hid hf1
 have HPx:=Lib.hid (hp.below hb0)
 have HBb:=Lib.hid (hb.below hb0)
 have HBw:=Lib.hid hb
 have H32:=Lib.hid h32
 have H8:=Lib.hid h8
 have Hlen:=Lib.hid hp.lenR
 have Hblen:=Lib.hid hb.row.lenR
 clear hp h32 hb h8 hf1
 go_enter_defers Tryz.func22,Tryz.ntmps22
 go_upto_region 1 with (fail)
 generalize ((w.alloc (.cells #[.int .i64 wd,.int .i64 ht,.slice p n c] 26)).alloc (.cells #[.int .i64 0,.int .i64 0,.slice none 0 0] 26)).alloc (.cells #[.int .i64 0] 29)=W at *
 obtain ⟨P,hP⟩:∃P,w.heap.size=P:=⟨_,rfl⟩
 have g0:=(hg 0 _).2 rfl
 have g1:=(hg 1 _).2 rfl
 have g2:=(hg 2 _).2 rfl
 rw [hP] at g0 g1 g2 hsz ⊢
 rw [Nat.add_zero] at g0
 have HP:=Lib.hid hP
 have HsP:=Lib.hid hsz
 have G0:=Lib.hid g0
 have G1:=Lib.hid g1
 have G2:=Lib.hid g2
 have Hb0:=Lib.hid hb0
 have i0:W.cell? ⟨P,0,none⟩=some (.int .i64 wd):=zaa g0 rfl
 have i1:W.cell? ⟨P,1,none⟩=some (.int .i64 ht):=zaa g0 rfl
 have i2:W.cell? ⟨P,2,none⟩=some (.slice p n c):=zaa g0 rfl
 clear hg hP hsz g0 g1 g2 hb0
 go_wp2_with fail
 refine Calls.mono (zg7 wd ht p n c W f1 Hf1.out) ?_
 rintro _ w1 ⟨rfl,hb1⟩
 have K0:=Lib.hid ((hb1.block P (zab G0.out)).trans G0.out)
 have K1:=Lib.hid ((hb1.block (P+1) (zab G1.out)).trans G1.out)
 have K2:=Lib.hid ((hb1.block (P+2) (zab G2.out)).trans G2.out)
 have Hb1:=Lib.hid (Below.thn Hb0.out hb1)
 have HPx1:=Lib.hid (HPx.out.below hb1)
 have HBb1:=Lib.hid (HBb.out.below hb1)
 have Hs1:Hid (P+3≤w1.heap.size):=Lib.hid (by have:=hb1.size;have:=HsP.out;omega)
 have j0:w1.cell? ⟨P,0,none⟩=some (.int .i64 wd):=zaa K0.out rfl
 have j1:w1.cell? ⟨P,1,none⟩=some (.int .i64 ht):=zaa K0.out rfl
 have j2:w1.cell? ⟨P,2,none⟩=some (.slice p n c):=zaa K0.out rfl
 have k0:w1.cell? ⟨P+1,0,none⟩=some (.int .i64 0):=zaa K1.out rfl
 have k1:w1.cell? ⟨P+1,1,none⟩=some (.int .i64 0):=zaa K1.out rfl
 have k2:w1.cell? ⟨P+1,2,none⟩=some (.slice none 0 0):=zaa K1.out rfl
 have m0:w1.frozen? ⟨P+1,0,none⟩=false:=by simp [World.frozen?,K1.out]
 have m1:w1.frozen? ⟨P+1,1,none⟩=false:=by simp [World.frozen?,K1.out]
 have m2:w1.frozen? ⟨P+1,2,none⟩=false:=by simp [World.frozen?,K1.out]
 have e0:w1.cell? ⟨P+1+1,0,none⟩=some (.int .i64 0):=zaa K2.out rfl
 have e1:w1.frozen? ⟨P+1+1,0,none⟩=false:=by simp [World.frozen?,K2.out]
 clear hb1 i0 i1 i2 G0 G1 G2
 cases f1
 case false=>
  go_wp2
  obtain ⟨qT,qE,qt⟩:=zcO (.int .i64 0) (.int .i64 0) (.slice none 0 0) (.int .i64 1) K1.out K2.out (by omega) rfl
  refine ⟨.tuple #[IgV 0 0 (.slice none 0 0),.int .i64 1],zbf rfl rfl rfl qT qE ⟨_,_,_,rfl⟩,?_,.inl ⟨of_decide_eq_false Hf1.out,rfl⟩⟩
  exact Hb1.out.trans (qt.below Hb1.out.size fun i hi=>by have:=HP.out;omega)
 case true=>
 have hM:=of_decide_eq_true Hf1.out
 have HM:=Lib.hid hM
 by_cases hl:524288<nb
 ·have d:decide ((nb:Int)>524288)=true:=by simp only [decide_eq_true_eq];omega
  go_wp2
  obtain ⟨qT,qE,qt⟩:=zcO (.int .i64 0) (.int .i64 0) (.slice none 0 0) (.int .i64 140) K1.out K2.out (by omega) rfl
  refine ⟨.tuple #[IgV 0 0 (.slice none 0 0),.int .i64 140],zbf rfl rfl rfl qT qE ⟨_,_,_,rfl⟩,?_,.inr (.inl ⟨HM.out,.inl hl,rfl⟩)⟩
  exact Hb1.out.trans (qt.below Hb1.out.size fun i hi=>by have:=HP.out;omega)
 have d:decide ((nb:Int)>524288)=false:=by simp only [decide_eq_false_iff_not];omega
 have hzR:=World.alloc_heap_new w1 (.cells #[.slice pb nb cb] 76)
 have hbR:=Below.al1 w1 (.cells #[.slice pb nb cb] 76)
 have HzR:=Lib.hid hzR
 have HbR:=Lib.hid hbR
 clear hzR hbR
 obtain ⟨wn,hwn⟩:∃z:Nat,wd=(z:Int):=⟨wd.toNat,by have:=hM.1;omega⟩
 obtain ⟨hn,hhn⟩:∃z:Nat,ht=(z:Int):=⟨ht.toNat,by have:=hM.2.1;omega⟩
 subst hwn
 subst hhn
 have hwl:n=wn*hn:=by
  have h1:=HM.out.2.2.2.2
  rw [←Int.natCast_mul] at h1
  omega
 have hn65:n≤65536:=(zno hM).2
 have hw:1≤wn∧wn≤256:=by have:=hM.1;have:=hM.2.2.1;omega
 have hh:1≤hn∧hn≤256:=by have:=hM.2.1;have:=hM.2.2.2.1;omega
 have Hwl:=Lib.hid hwl
 have hcl:=fun W' hW'=>zjv (wn:Int) (hn:Int) p c l W' ((HPx1.out.below hW').at'.1) H32.out (by rw [Hlen.out];omega)
 rw [Hlen.out] at hcl
 have HCl:=Lib.hid hcl
 clear hwl hM hcl
 go_upto_region 7 with (fail)
 have hzR:=HzR.out
 have hbR:=HbR.out
 generalize w1.alloc (.cells #[.slice pb nb cb] 76)=w2 at *
 obtain ⟨R,hR⟩:∃R,w1.heap.size=R:=⟨_,rfl⟩
 rw [hR] at hzR ⊢
 have HRP:Hid (P+3≤R):=Lib.hid (by rw [←hR];exact Hs1.out)
 have K0b:=Lib.hid ((hbR.block P (zab K0.out)).trans K0.out)
 have K1b:=Lib.hid ((hbR.block (P+1) (zab K1.out)).trans K1.out)
 have K2b:=Lib.hid ((hbR.block (P+2) (zab K2.out)).trans K2.out)
 have Hb2:=Lib.hid (Below.thn Hb1.out hbR)
 have Hb12:=Lib.hid hbR
 have HzR2:=Lib.hid hzR
 have i0:w2.cell? ⟨P,0,none⟩=some (.int .i64 (wn:Int)):=zaa K0b.out rfl
 have i1:w2.cell? ⟨P,1,none⟩=some (.int .i64 (hn:Int)):=zaa K0b.out rfl
 have i2:w2.cell? ⟨P,2,none⟩=some (.slice p n c):=zaa K0b.out rfl
 clear hzR hbR hR j0 j1 j2 k0 k1 k2 m0 m1 m2 e0 e1 K0 K1 K2 HzR HbR
 go_wp2_with fail
 refine Calls.mono (HCl.out w2 Hb12.out) ?_
 rintro _ w3 ⟨G,rfl,hpx3,hG3,hb3⟩
 have K1c:=Lib.hid ((hb3.block (P+1) (zab K1b.out)).trans K1b.out)
 have K2c:=Lib.hid ((hb3.block (P+2) (zab K2b.out)).trans K2b.out)
 have HzR3:=Lib.hid ((hb3.block R (zab HzR2.out)).trans HzR2.out)
 have Hb3:=Lib.hid (Below.thn Hb2.out hb3)
 have HBb3:=Lib.hid (HBb1.out.below (Below.thn Hb12.out hb3))
 have HGR:Hid (R<G):=Lib.hid (by have:=zab HzR2.out;omega)
 have Hpx3:=Lib.hid hpx3
 have k0:w3.cell? ⟨P+1,0,none⟩=some (.int .i64 0):=zaa K1c.out rfl
 have k1:w3.cell? ⟨P+1,1,none⟩=some (.int .i64 0):=zaa K1c.out rfl
 have k2:w3.cell? ⟨P+1,2,none⟩=some (.slice none 0 0):=zaa K1c.out rfl
 have m0:w3.frozen? ⟨P+1,0,none⟩=false:=by simp [World.frozen?,K1c.out]
 have m1:w3.frozen? ⟨P+1,1,none⟩=false:=by simp [World.frozen?,K1c.out]
 have m2:w3.frozen? ⟨P+1,2,none⟩=false:=by simp [World.frozen?,K1c.out]
 clear i0 i1 i2 hpx3 hG3 hb3 K0b K1b K2b HzR2 HCl Hb12
 go_upto_region 8 with (fail)
 have hT4:(((w3.setCell ⟨P+1,0,none⟩ (.int .i64 (wn:Int))).setCell ⟨P+1,1,none⟩ (.int .i64 (hn:Int))).setCell ⟨P+1,2,none⟩ (.slice (some ⟨G,0,none⟩) n n)).heap[P+1]? =some (.cells #[.int .i64 (wn:Int),.int .i64 (hn:Int),.slice (some ⟨G,0,none⟩) n n] 26):=zaF _ (zaF _ (zaF _ K1c.out))
 have ht4:Turns (fun i=>i=P+1) w3 (((w3.setCell ⟨P+1,0,none⟩ (.int .i64 (wn:Int))).setCell ⟨P+1,1,none⟩ (.int .i64 (hn:Int))).setCell ⟨P+1,2,none⟩ (.slice (some ⟨G,0,none⟩) n n)):=(((Turns.refl (fun q=>q=P+1) w3).set (p:=⟨P+1,0,none⟩) rfl _).set (p:=⟨P+1,1,none⟩) rfl _).set (p:=⟨P+1,2,none⟩) rfl _
 generalize ((w3.setCell ⟨P+1,0,none⟩ (.int .i64 (wn:Int))).setCell ⟨P+1,1,none⟩ (.int .i64 (hn:Int))).setCell ⟨P+1,2,none⟩ (.slice (some ⟨G,0,none⟩) n n)=w4 at *
 have HT4:=Lib.hid hT4
 have HE4:=Lib.hid ((ht4.block (P+2) (zab K2c.out) (by omega)).trans K2c.out)
 have HR4:=Lib.hid ((ht4.block R (zab HzR3.out) (by have:=HRP.out;omega)).trans HzR3.out)
 have Hpx4:=Lib.hid (Hpx3.out.turns ht4 (by have:=HRP.out;have:=HGR.out;omega))
 have Hb4:Hid (Below w.heap.size w w4):=Lib.hid (Hb3.out.trans (ht4.below Hb3.out.size fun i hi=>by have:=HP.out;omega))
 have Ht4:=Lib.hid ht4
 have t0:w4.cell? ⟨P+1,0,none⟩=some (.int .i64 (wn:Int)):=zaa hT4 rfl
 have t1:w4.cell? ⟨P+1,1,none⟩=some (.int .i64 (hn:Int)):=zaa hT4 rfl
 have t2:w4.cell? ⟨P+1,2,none⟩=some (.slice (some ⟨G,0,none⟩) n n):=zaa hT4 rfl
 clear hT4 ht4 k0 k1 k2 m0 m1 m2
 rcases HBw.out.row.at'.1 with ⟨hpn,hbn⟩ | ⟨g,off,hpb,hgl,hcells⟩
 ·have hnb0:nb=0:=by rw [←Hblen.out,hbn];rfl
  subst hpn
  subst hnb0
  have hcb:cb=0:=HBb1.out.2 cb rfl
  subst hcb
  have cR:w4.cell? ⟨R,0,none⟩=some (.slice none 0 0):=zaa HR4.out rfl
  have HBn:=Lib.hid hbn
  clear hbn
  go_wp2_with fail
  refine Calls.mono (zje R (.slice (some ⟨G,0,none⟩) n n) (wn:Int) (hn:Int) w4 cR ⟨_,_,_,rfl⟩) ?_
  rintro _ w5 ⟨rfl,hb5⟩
  have HT5:=Lib.hid ((hb5.block (P+1) (zab HT4.out)).trans HT4.out)
  have HE5:=Lib.hid ((hb5.block (P+2) (zab HE4.out)).trans HE4.out)
  have Hb5:=Lib.hid (Below.thn Hb4.out hb5)
  clear hb5 t0 t1 t2 cR
  go_wp2
  refine leaves_cons (f:=41) (args:=#[.pointer (some ⟨P+1,0,none⟩),.pointer (some ⟨P+1+1,0,none⟩)]) (by simp) (by simp [go_sem]) ?_
  refine (zbO (P+1) (P+1+1) _ _ _ _ 140 [] _ HT5.out HE5.out (by omega)).mono ?_
  rintro e u' w'' ⟨rfl,rfl,rfl⟩
  obtain ⟨qT,qE,qt⟩:=zcO (.int .i64 0) (.int .i64 0) (.slice none 0 0) (.int .i64 140) HT5.out HE5.out (by omega) rfl
  refine ⟨.tuple #[IgV 0 0 (.slice none 0 0),.int .i64 140],zbf rfl rfl rfl qT qE ⟨_,_,_,rfl⟩,?_,.inr (.inl ⟨HM.out,.inr (by rw [HBn.out];rfl),rfl⟩)⟩
  exact (Hb5.out).trans (qt.below (Hb5.out).size fun i hi=>by have:=HP.out;omega)
 ·subst hpb
  have hgP:g<P:=by rw [←HP.out];exact hgl
  have hne1:R≠g:=by have:=HRP.out;omega
  have hne2:G≠g:=by have:=HRP.out;have:=HGR.out;omega
  have hne3:G≠R:=by have:=HGR.out;omega
  have hrow:=HBw.out.row
  have HU4:Hid (UpW w4 R g off cb b 0 G (l.map rlw) n):=Lib.hid ⟨⟨⟨off,by rw [Nat.sub_zero,Nat.sub_zero,Hblen.out];exact HR4.out,fun _=>rfl⟩,fun i hi=>by
   have h1:=hcells i _ (List.getElem?_eq_getElem hi) 0 _ rfl
   have h2:lq b i=b[i]:=by
    unfold lq
    rw [List.getD_eq_getElem?_getD,List.getElem?_eq_getElem hi];rfl
   rw [Nat.mul_one,Nat.add_zero] at h1
   rw [h2]
   exact Ht4.out.cell (cell_later Hb3.out h1) (fun e=>by have e2:g=P+1:=e;omega),hne1,Nat.lt_of_lt_of_le hgl Hb4.out.size,⟨Nat.zero_le _,hrow.at'.2,zfw hrow,by rw [Hblen.out];omega⟩⟩,Hpx4.out,by rw [List.length_map,Hlen.out],hne3,hne2⟩
  have hTR:¬(P+1=R∨P+1=G):=by have:=HRP.out;have:=HGR.out;omega
  have hER:¬(P+2=R∨P+2=G):=by have:=HRP.out;have:=HGR.out;omega
  have HRG:Hid (w.heap.size≤R∧w.heap.size≤G):=Lib.hid (by have:=HP.out;have:=HRP.out;have:=HGR.out;omega)
  clear hrow hcells
  go_wp2_with fail
  refine Calls.mono (zjl R g off cb b 0 wn hn G n (l.map rlw) w4 HU4.out H8.out Hwl.out (by omega) hw hh) ?_
  rintro _ w5 (⟨h1,L1,a1,hc1,rfl,hu1,ht1⟩ | ⟨hno,rfl,ht1⟩)
  case inr=>
   have HNo:=Lib.hid (zoQ hno)
   have HT5:=Lib.hid ((ht1.block (P+1) (zab HT4.out) hTR).trans HT4.out)
   have HE5:=Lib.hid ((ht1.block (P+2) (zab HE4.out) hER).trans HE4.out)
   have Hb5:Hid (Below w.heap.size w w5):=Lib.hid (Hb4.out.trans (ht1.below Hb4.out.size fun i hi=>by have:=HRG.out;omega))
   clear ht1 hno t0 t1 t2
   go_wp2
   refine leaves_cons (f:=41) (args:=#[.pointer (some ⟨P+1,0,none⟩),.pointer (some ⟨P+1+1,0,none⟩)]) (by simp) (by simp [go_sem]) ?_
   refine (zbO (P+1) (P+1+1) _ _ _ _ 140 [] _ HT5.out HE5.out (by omega)).mono ?_
   rintro e u' w'' ⟨rfl,rfl,rfl⟩
   obtain ⟨qT,qE,qt⟩:=zcO (.int .i64 0) (.int .i64 0) (.slice none 0 0) (.int .i64 140) HT5.out HE5.out (by omega) rfl
   refine ⟨.tuple #[IgV 0 0 (.slice none 0 0),.int .i64 140],zbf rfl rfl rfl qT qE ⟨_,_,_,rfl⟩,?_,.inr (.inl ⟨HM.out,.inr HNo.out,rfl⟩)⟩
   exact (Hb5.out).trans (qt.below (Hb5.out).size fun i hi=>by have:=HP.out;omega)
  have HU5:=Lib.hid hu1
  have HC1:=Lib.hid hc1
  have HT5:=Lib.hid ((ht1.block (P+1) (zab HT4.out) hTR).trans HT4.out)
  have HE5:=Lib.hid ((ht1.block (P+2) (zab HE4.out) hER).trans HE4.out)
  have Hb5:Hid (Below w.heap.size w w5):=Lib.hid (Hb4.out.trans (ht1.below Hb4.out.size fun i hi=>by have:=HRG.out;omega))
  have s0:w5.cell? ⟨P+1,0,none⟩=some (.int .i64 (wn:Int)):=zaa HT5.out rfl
  have s1:w5.cell? ⟨P+1,1,none⟩=some (.int .i64 (hn:Int)):=zaa HT5.out rfl
  have s2:w5.cell? ⟨P+1,2,none⟩=some (.slice (some ⟨G,0,none⟩) n n):=zaa HT5.out rfl
  clear ht1 hu1 hc1 t0 t1 t2
  go_wp2_with fail
  refine Calls.mono (zkU R g off cb b a1 wn hn G n L1 w5 HU5.out H8.out Hwl.out (by omega) hw hh) ?_
  rintro _ w6 (⟨h2,L2,a2,hc2,rfl,hu2,ht2⟩ | ⟨hno,rfl,ht2⟩)
  case inr=>
   have HNo:=Lib.hid (zoz h1 HC1.out hno)
   have HT6:=Lib.hid ((ht2.block (P+1) (zab HT5.out) hTR).trans HT5.out)
   have HE6:=Lib.hid ((ht2.block (P+2) (zab HE5.out) hER).trans HE5.out)
   have Hb6:Hid (Below w.heap.size w w6):=Lib.hid (Hb5.out.trans (ht2.below Hb5.out.size fun i hi=>by have:=HRG.out;omega))
   clear ht2 hno s0 s1 s2
   go_wp2
   refine leaves_cons (f:=41) (args:=#[.pointer (some ⟨P+1,0,none⟩),.pointer (some ⟨P+1+1,0,none⟩)]) (by simp) (by simp [go_sem]) ?_
   refine (zbO (P+1) (P+1+1) _ _ _ _ 140 [] _ HT6.out HE6.out (by omega)).mono ?_
   rintro e u' w'' ⟨rfl,rfl,rfl⟩
   obtain ⟨qT,qE,qt⟩:=zcO (.int .i64 0) (.int .i64 0) (.slice none 0 0) (.int .i64 140) HT6.out HE6.out (by omega) rfl
   refine ⟨.tuple #[IgV 0 0 (.slice none 0 0),.int .i64 140],zbf rfl rfl rfl qT qE ⟨_,_,_,rfl⟩,?_,.inr (.inl ⟨HM.out,.inr HNo.out,rfl⟩)⟩
   exact (Hb6.out).trans (qt.below (Hb6.out).size fun i hi=>by have:=HP.out;omega)
  have HU6:=Lib.hid hu2
  have HEnd:=Lib.hid (znY h1 HC1.out h2 hc2)
  have HT6:=Lib.hid ((ht2.block (P+1) (zab HT5.out) hTR).trans HT5.out)
  have HE6:=Lib.hid ((ht2.block (P+2) (zab HE5.out) hER).trans HE5.out)
  have Hb6:Hid (Below w.heap.size w w6):=Lib.hid (Hb5.out.trans (ht2.below Hb5.out.size fun i hi=>by have:=HRG.out;omega))
  have z0:w6.cell? ⟨P+1,0,none⟩=some (.int .i64 (wn:Int)):=zaa HT6.out rfl
  have z1:w6.cell? ⟨P+1,1,none⟩=some (.int .i64 (hn:Int)):=zaa HT6.out rfl
  have z2:w6.cell? ⟨P+1,2,none⟩=some (.slice (some ⟨G,0,none⟩) n n):=zaa HT6.out rfl
  have y0:w6.frozen? ⟨P+1,0,none⟩=false:=by simp [World.frozen?,HT6.out]
  have y1:w6.frozen? ⟨P+1,1,none⟩=false:=by simp [World.frozen?,HT6.out]
  have y2:w6.frozen? ⟨P+1,2,none⟩=false:=by simp [World.frozen?,HT6.out]
  have x0:w6.cell? ⟨P+1+1,0,none⟩=some (.int .i64 0):=zaa HE6.out rfl
  have x1:w6.frozen? ⟨P+1+1,0,none⟩=false:=by simp [World.frozen?,HE6.out]
  clear ht2 hu2 hc2 s0 s1 s2 h1 h2
  go_wp2_with fail
  refine Calls.mono (zoh R g off cb b a2 w6 HU6.out.rd) ?_
  rintro _ w7 ⟨rfl,⟨he,rfl⟩ | ⟨he,rfl⟩⟩
  case inr=>
   have HNo:=Lib.hid (HEnd.out.trans (if_neg he))
   clear he z0 z1 z2 y0 y1 y2 x0 x1
   go_wp2
   refine leaves_cons (f:=41) (args:=#[.pointer (some ⟨P+1,0,none⟩),.pointer (some ⟨P+1+1,0,none⟩)]) (by simp) (by simp [go_sem]) ?_
   refine (zbO (P+1) (P+1+1) _ _ _ _ 140 [] _ HT6.out HE6.out (by omega)).mono ?_
   rintro e u' w'' ⟨rfl,rfl,rfl⟩
   obtain ⟨qT,qE,qt⟩:=zcO (.int .i64 0) (.int .i64 0) (.slice none 0 0) (.int .i64 140) HT6.out HE6.out (by omega) rfl
   refine ⟨.tuple #[IgV 0 0 (.slice none 0 0),.int .i64 140],zbf rfl rfl rfl qT qE ⟨_,_,_,rfl⟩,?_,.inr (.inl ⟨HM.out,.inr HNo.out,rfl⟩)⟩
   exact (Hb6.out).trans (qt.below (Hb6.out).size fun i hi=>by have:=HP.out;omega)
  have HYes:=Lib.hid (HEnd.out.trans (if_pos he))
  clear he
  go_wp2
  refine leaves_cons (f:=41) (args:=#[.pointer (some ⟨P+1,0,none⟩),.pointer (some ⟨P+1+1,0,none⟩)]) (by simp) (by simp [go_sem]) ?_
  refine (zjr (P+1) (P+1+1) _).mono ?_
  rintro e u' w'' ⟨rfl,rfl,rfl⟩
  obtain ⟨qT,qE,qt⟩:=zcO (.int .i64 (wn:Int)) (.int .i64 (hn:Int)) (.slice (some ⟨G,0,none⟩) n n) (.int .i64 0) HT6.out HE6.out (by omega) rfl
  refine ⟨.tuple #[IgV wn hn (.slice (some ⟨G,0,none⟩) n n),.int .i64 0],zbf rfl rfl rfl qT qE ⟨_,_,_,rfl⟩,?_,.inr (.inr ⟨HM.out,by omega,L2,G,HYes.out,HU6.out.len,rfl,HU6.out.px.turns qt (by have:=HRP.out;have:=HGR.out;omega),HRG.out.2⟩)⟩
  exact Hb6.out.trans (qt.below Hb6.out.size fun i hi=>by have:=HP.out;omega)
end
end Go.Proofs.YtedakhgaghfogaaGreat
