/- Several texts in one, each with its own head. -/
import Derived.Test.YtedakhgaghfogaaGreatQs10
import Derived.Test.YtedakhgaghfogaaGreatQs39
import Derived.Test.YtedakhgaghfogaaGreatQs1
import Derived.Test.YtedakhgaghfogaaGreatQs28
namespace Go.Proofs.YtedakhgaghfogaaGreat
section
open Go.RowKit
attribute [local go_sem] Oper.semAt_some
set_option maxRecDepth 20000 in
set_option maxHeartbeats 4000000 in
theorem zjv (wd ht:Int) (p:Option Addr) (c:Nat) (l:List Nat) (w:World) (hp:RowAt encP 1 w p l) (h32:∀x∈l,x<4294967296) (hl:l.length≤1048576):
  Calls Tryz.prog 42 #[IgV wd ht (.slice p l.length c)] w fun e w'=> ∃g,e= .returned (IgV wd ht (.slice (some ⟨g,0,none⟩) l.length l.length))∧PxB w' g (l.map rlw)∧w.heap.size≤g∧Below w.heap.size w w':=by
 have Hp:=Lib.hid hp
 have H32:Hid (∀i,l.getD i 0<4294967296):=Lib.hid (zaE (by decide) h32)
 obtain ⟨N,hN⟩:∃N,l.length=N:=⟨_,rfl⟩
 rw [hN] at hl ⊢
 have HN:=Lib.hid hN
 have hg:=zag [.cells #[.int .i64 wd,.int .i64 ht,.slice p N c] 26,.cells #[.int .i64 0,.int .i64 0,.slice none 0 0] 26] w
 have hb0:=Below.al2 w (.cells #[.int .i64 wd,.int .i64 ht,.slice p N c] 26) (.cells #[.int .i64 0,.int .i64 0,.slice none 0 0] 26)
 have hsz:((w.alloc (.cells #[.int .i64 wd,.int .i64 ht,.slice p N c] 26)).alloc (.cells #[.int .i64 0,.int .i64 0,.slice none 0 0] 26)).heap.size=w.heap.size+2:=by simp
 simp only [List.foldl_cons,List.foldl_nil] at hg
 obtain ⟨nf,hj0,hj1,hj2,hj3⟩:=info_parts zbg
 clear hp h32 hN
 go_enter Tryz.func42,Tryz.ntmps42
 go_upto_region 1 with (fail)
 generalize (w.alloc (.cells #[.int .i64 wd,.int .i64 ht,.slice p N c] 26)).alloc (.cells #[.int .i64 0,.int .i64 0,.slice none 0 0] 26)=W at *
 obtain ⟨P,hP⟩:∃P,w.heap.size=P:=⟨_,rfl⟩
 have g0:=(hg 0 _).2 rfl
 have g1:=(hg 1 _).2 rfl
 rw [hP] at g0 g1 hsz ⊢
 rw [Nat.add_zero] at g0
 have a0:W.cell? ⟨P,0,none⟩=some (.int .i64 wd):=zaa g0 rfl
 have a1:W.cell? ⟨P,1,none⟩=some (.int .i64 ht):=zaa g0 rfl
 have a2:W.cell? ⟨P,2,none⟩=some (.slice p N c):=zaa g0 rfl
 have HP:=Lib.hid hP
 have HsP:=Lib.hid hsz
 have G0:=Lib.hid g0
 have G1:=Lib.hid g1
 have Hb0:=Lib.hid hb0
 clear hg hP hsz g0 g1 hb0
 go_wp2_with (refine wpList_make_full W rfl (.tmp 8) (.tmp 8) 24 rfl W.heap.size 51 nf _ 1 Tryz.underlying24 hj0 hj1 hj2 .i64 .i64 (N:Int) (N:Int) N rfl rfl rfl rfl (by rw [hj3];omega) (by simp only [maxLen];omega) (Nat.le_refl _) ?_)
 intro W2 ho2 hg2
 have hb2:Below W.heap.size W W2:=(Turns.of_grown (T:=fun _=>False) hg2 (fun i e=>by cases e)).below (Nat.le_refl _) (fun i h=>h.elim)
 obtain ⟨g,hgg⟩:∃g,W.heap.size=g:=⟨_,rfl⟩
 obtain ⟨LL,hLL⟩:∃LL,l.map rlw=LL:=⟨_,rfl⟩
 have HLl:Hid (LL.length=N):=Lib.hid (by rw [←hLL,List.length_map,HN.out])
 have HLat:Hid (∀i,i<N→LL.getD i 0=rlw (l.getD i 0)):=Lib.hid (fun i hi=>by
  rw [←hLL,List.getD_eq_getElem?_getD,List.getElem?_map,List.getD_eq_getElem?_getD]
  rw [List.getElem?_eq_getElem (show i<l.length by rw [HN.out];exact hi)]
  rfl)
 rw [hgg] at hb2
 have k0:=(hb2.block P (by have:=HsP.out;omega)).trans G0.out
 have k1:=(hb2.block (P+1) (by have:=HsP.out;omega)).trans G1.out
 rw [zh6 LL,hgg] at ho2
 have HgP:Hid (g=P+2):=Lib.hid (by rw [←hgg];exact HsP.out)
 have Ho2:=Lib.hid ho2
 have K0:=Lib.hid k0
 have K1:=Lib.hid k1
 have Hb2:Hid (Below w.heap.size w W2):=Lib.hid (Hb0.out.trans ((by rw [←hgg] at hb2;exact hb2.mono (Hb0.out.size))))
 have b0:W2.cell? ⟨P,0,none⟩=some (.int .i64 wd):=zaa k0 rfl
 have b1:W2.cell? ⟨P,1,none⟩=some (.int .i64 ht):=zaa k0 rfl
 have b2:W2.cell? ⟨P,2,none⟩=some (.slice p N c):=zaa k0 rfl
 rw [hgg]
 have HLL:=Lib.hid hLL
 clear ho2 hg2 hb2 hgg k0 k1 a0 a1 a2 G0 G1 hLL
 go_wp2_with fail
 go_loopw [13] (fun iv wr=> ∃i:Nat,iv= .int .i64 (i:Int)∧i≤N∧Hid (wr.ownsRow g 51 1 (.slice (some ⟨g,0,none⟩) N N) N (plW LL i N))∧Hid (Turns (fun i=>i=g) W2 wr)) (fun iv _=>N - (intOf iv).toNat)
 case atStart=>exact ⟨0,rfl,Nat.zero_le _,Ho2,Lib.hid (Turns.refl _ _)⟩
 case round=>
  obtain ⟨i,rfl,hi,HO,HT⟩:=hrel
  by_cases hin:i<N
  ·have d1:decide ((i:Int)<(N:Int))=true:=by simp;omega
   obtain ⟨gc,offc,rfl,hcc⟩:=Hp.out.pxs (by rw [HN.out];omega)
   have hbw:Below w.heap.size w wr:=Hb2.out.trans (HT.out.below Hb2.out.size fun b (hb:b=g)=>by have:=HgP.out;have:=HP.out;omega)
   have x0:=cell_later hbw (hcc i (by rw [HN.out];omega))
   have hx32:=H32.out i
   have hat:=HLat.out i hin
   obtain ⟨v,hv⟩:∃v,l.getD i 0=v:=⟨_,rfl⟩
   rw [hv] at x0 hx32 hat
   have hmask:=zgc v hx32
   have hc0:=HO.out.cellAt i (by omega)
   rw [zmB LL hin] at hc0
   have hf0:=HO.out.frozenAt i
   have hst:=HO.out.stored i (.int .u32 ((rlw v:Nat):Int))
   have hset:(plW LL i N).set i (.int .u32 ((rlw v:Nat):Int))=plW LL (i+1) N:=by
    rw [←zjP,hat];rfl
   rw [hset] at hst
   have Ho3:=Lib.hid hst.1
   have HT3:Hid (Turns (fun b=>b=g) W2 (wr.setCell ⟨g,i,none⟩ (.int .u32 ((rlw v:Nat):Int)))):=Lib.hid (HT.out.set (p:=⟨g,i,none⟩) rfl _)
   have j0:(0:Int)≤(i:Int):=by omega
   have j1:(i:Int)<(N:Int):=by omega
   clear hcc hv hat hst hset hbw
   go_wp2
   go_roundw
   case rel=>exact ⟨i+1,by go_num,by omega,Ho3,HT3⟩
   case measure=>simp [intOf];omega
  ·obtain rfl:i=N:=by omega
   have d1:decide ((i:Int)<(i:Int))=false:=by simp
   have ho:=HO.out
   rw [ziw HLl.out,←HLL.out] at ho
   obtain ⟨hpx,-,-⟩:=PxB.of_own ho
   have m0:=(HT.out.block P (by have:=zab K0.out;omega) (by have:=HgP.out;omega)).trans K0.out
   have m1:=(HT.out.block (P+1) (by have:=zab K1.out;omega) (by have:=HgP.out;omega)).trans K1.out
   have c0:wr.cell? ⟨P,0,none⟩=some (.int .i64 wd):=zaa m0 rfl
   have c1:wr.cell? ⟨P,1,none⟩=some (.int .i64 ht):=zaa m0 rfl
   have e0:wr.cell? ⟨P+1,0,none⟩=some (.int .i64 0):=zaa m1 rfl
   have e1:wr.cell? ⟨P+1,1,none⟩=some (.int .i64 0):=zaa m1 rfl
   have e2:wr.cell? ⟨P+1,2,none⟩=some (.slice none 0 0):=zaa m1 rfl
   have f0:wr.frozen? ⟨P+1,0,none⟩=false:=by simp [World.frozen?,m1]
   have f1:wr.frozen? ⟨P+1,1,none⟩=false:=by simp [World.frozen?,m1]
   have f2:wr.frozen? ⟨P+1,2,none⟩=false:=by simp [World.frozen?,m1]
   have Hpx:=Lib.hid hpx
   have Hbw:Hid (Below w.heap.size w wr):=Lib.hid (Hb2.out.trans (HT.out.below Hb2.out.size fun b (hb:b=g)=>by have:=HgP.out;have:=HP.out;omega))
   clear ho hpx m0 m1
   go_wp2
   obtain ⟨u0,u1,u2,ut⟩:=zaY wd ht (.slice (some ⟨g,0,none⟩) i i) e0 e1 e2 _ rfl
   refine bodyPost_ret (zfV rfl rfl u0 u1 u2 ⟨_,_,_,rfl⟩) rfl ⟨g,rfl,?_,?_,?_⟩
   ·exact Hpx.out.turns ut (fun (h:g=P+1)=>by have:=HgP.out;omega)
   ·have:=HgP.out;have:=HP.out;omega
   ·exact Hbw.out.trans (ut.below Hbw.out.size fun b (hb:b=P+1)=>by have:=HP.out;omega)
set_option maxRecDepth 20000 in
set_option maxHeartbeats 4000000 in
theorem zmE (wd ht x y a b:Nat) (p:Option Addr) (c:Nat) (l:List Nat) (w:World) (hp:Row encP 1 w (.slice p l.length c) l) (hl:l.length=wd*ht) (hx:x+a≤wd) (hy:y+b≤ht) (ha:1≤a) (hw:wd≤256) (hh:ht≤256):
  Calls Tryz.prog 36 #[IgV wd ht (.slice p l.length c),U4V x y a b] w fun e w'=> ∃v,e= .returned (IgV a b v)∧w'.ownsRow w.heap.size 51 1 v (b*a) ((upC wd x y a b l).map pxv)∧Below w.heap.size w w':=by
 have hfit:∀j,j<b→(y+j)*wd+x+a≤l.length:=fun j hj=>by rw [hl];exact zd4 hx hy hj
 have Hfit:=Lib.hid hfit
 have Hp:=Lib.hid hp.at'.1
 have hcap:=hp.at'.2
 have hmx:=zfw hp
 obtain ⟨N,hN⟩:∃N,l.length=N:=⟨_,rfl⟩
 rw [hN] at hcap ⊢
 have HN:=Lib.hid hN
 have hab:b*a≤65536:=Nat.mul_le_mul (show b≤256 by omega) (show a≤256 by omega)
 obtain ⟨q,hq⟩:∃q,b*a=q:=⟨_,rfl⟩
 have hwq:IntKind.i64.wrap ((a:Int)*(b:Int))=(q:Int):=by rw [Int.mul_comm,←Int.natCast_mul,hq];exact IntWalk.i64_in _ (by omega)
 have Hq:=Lib.hid hq
 rw [hq] at hab ⊢
 have hg:=zag [.cells #[.int .i64 (wd:Int),.int .i64 (ht:Int),.slice p N c] 26,.cells #[.int .i64 (x:Int),.int .i64 (y:Int),.int .i64 (a:Int),.int .i64 (b:Int)] 36,.cells #[.int .i64 0,.int .i64 0,.slice none 0 0] 26] w
 have hb0:=Below.al3 w (.cells #[.int .i64 (wd:Int),.int .i64 (ht:Int),.slice p N c] 26) (.cells #[.int .i64 (x:Int),.int .i64 (y:Int),.int .i64 (a:Int),.int .i64 (b:Int)] 36) (.cells #[.int .i64 0,.int .i64 0,.slice none 0 0] 26)
 have hsz:(((w.alloc (.cells #[.int .i64 (wd:Int),.int .i64 (ht:Int),.slice p N c] 26)).alloc (.cells #[.int .i64 (x:Int),.int .i64 (y:Int),.int .i64 (a:Int),.int .i64 (b:Int)] 36)).alloc (.cells #[.int .i64 0,.int .i64 0,.slice none 0 0] 26)).heap.size=w.heap.size+3:=by simp
 simp only [List.foldl_cons,List.foldl_nil] at hg
 obtain ⟨nf,hj0,hj1,hj2,hj3⟩:=info_parts zbg
 clear hp hN hq hfit hl
 go_enter Tryz.func36,Tryz.ntmps36
 go_upto_region 1 with (fail)
 generalize ((w.alloc (.cells #[.int .i64 (wd:Int),.int .i64 (ht:Int),.slice p N c] 26)).alloc (.cells #[.int .i64 (x:Int),.int .i64 (y:Int),.int .i64 (a:Int),.int .i64 (b:Int)] 36)).alloc (.cells #[.int .i64 0,.int .i64 0,.slice none 0 0] 26)=W at *
 obtain ⟨P,hP⟩:∃P,w.heap.size=P:=⟨_,rfl⟩
 have g0:=(hg 0 _).2 rfl
 have g1:=(hg 1 _).2 rfl
 have g2:=(hg 2 _).2 rfl
 rw [hP] at g0 g1 g2 hsz ⊢
 rw [Nat.add_zero] at g0
 obtain ⟨r0,r1,r2,r3,-⟩:=zau g1
 have HP:=Lib.hid hP
 have HsP:=Lib.hid hsz
 have G0:=Lib.hid g0
 have G1:=Lib.hid g1
 have G2:=Lib.hid g2
 have Hb0:=Lib.hid hb0
 clear hg hP hsz g0 g1 g2 hb0
 go_wp2_with (at_make;refine wpList_make_own _ rfl _ _ 24 rfl W.heap.size 51 nf _ 1 Tryz.underlying24 hj0 hj1 hj2 _ _ _ q rfl rfl (by simp) ?m1 ?m2 ?m3 ?_)
 case m1=>rw [hj3];omega
 case m2=>simp only [maxLen];omega
 case m3=>exact Nat.le_refl _
 intro W2 ho2 hg2
 have hb2:Below W.heap.size W W2:=(Turns.of_grown (T:=fun _=>False) hg2 (fun i e=>by cases e)).below (Nat.le_refl _) (fun i h=>h.elim)
 obtain ⟨g,hgg⟩:∃g,W.heap.size=g:=⟨_,rfl⟩
 rw [hgg] at hb2 ho2
 have k0:=(hb2.block P (by have:=HsP.out;omega)).trans G0.out
 have k1:=(hb2.block (P+1) (by have:=HsP.out;omega)).trans G1.out
 have k2:=(hb2.block (P+2) (by have:=HsP.out;omega)).trans G2.out
 have HgP:Hid (g=P+3):=Lib.hid (by rw [←hgg];exact HsP.out)
 have Ho2:=Lib.hid ho2
 have K0:=Lib.hid k0
 have K1:=Lib.hid k1
 have K2:=Lib.hid k2
 have Hb2:Hid (Below w.heap.size w W2):=Lib.hid (Hb0.out.trans ((by rw [←hgg] at hb2;exact hb2.mono (Hb0.out.size))))
 obtain ⟨r0,r1,r2,r3,-⟩:=zau k1
 rw [hgg]
 clear ho2 hg2 hb2 hgg k0 k1 k2 G0 G1 G2
 go_wp2_with fail
 go_loopw [5,15] (fun ov iv wr=> ∃i:Nat,iv= .int .i64 (i:Int)∧ov= .slice (some ⟨g,0,none⟩) (i*a) q∧i≤b∧Hid (wr.ownsRow g 51 1 (.slice (some ⟨g,0,none⟩) (i*a) q) (i*a) ((upC wd x y a i l).map pxv))∧Hid (Turns (fun i=>i=g) W2 wr)) (fun _ iv _=>b - (intOf iv).toNat)
 case atStart=>exact ⟨0,rfl,by rw [Nat.zero_mul],Nat.zero_le _,by rw [Nat.zero_mul];exact Ho2,Lib.hid (Turns.refl _ _)⟩
 case round=>
  obtain ⟨i,rfl,rfl,hi,HO,HT⟩:=hrel
  by_cases hin:i<b
  ·have d1:decide ((i:Int)<(b:Int))=true:=by simp;omega
   have hf1:=Hfit.out i hin
   rw [HN.out] at hf1
   obtain ⟨gc,offc,rfl,hcc⟩:=Hp.out.pxs (by rw [HN.out];omega)
   have hbw:Below w.heap.size w wr:=Hb2.out.trans (HT.out.below Hb2.out.size fun b (hb:b=g)=>by have:=HgP.out;have:=HP.out;omega)
   have k0:=(HT.out.block P (by have:=zab K0.out;omega) (by have:=HgP.out;omega)).trans K0.out
   have k1:=(HT.out.block (P+1) (by have:=zab K1.out;omega) (by have:=HgP.out;omega)).trans K1.out
   have a0:wr.cell? ⟨P,0,none⟩=some (.int .i64 (wd:Int)):=zaa k0 rfl
   have a1:wr.cell? ⟨P,1,none⟩=some (.int .i64 (ht:Int)):=zaa k0 rfl
   have a2:wr.cell? ⟨P,2,none⟩=some (.slice (some ⟨gc,offc,none⟩) N c):=zaa k0 rfl
   obtain ⟨p0,p1,p2,p3,-⟩:=zau k1
   have h1:=zcl x y a b i N c wd ht b gc offc wd wr rfl hcap hmx ha hf1 (by omega) (by omega) rfl
   have hsrc:=fun (w':World) (hb':Below wr.heap.size wr w')=>zgF (w:=w') (s:=gc) (so:=offc) (S:=l) (o:=(y+i)*wd+x) (a:=a) (fun j hj=>cell_later (Below.thn hbw hb') (hcc j hj)) (by rw [HN.out];exact hf1)
   have hsucc:=zfr wd x y a i l
   obtain ⟨o1,ho1⟩:∃o,(y+i)*wd+x=o:=⟨_,rfl⟩
   rw [ho1] at h1 hsrc hsucc hf1
   have hle:i*a+a≤q:=by
    have:=Nat.mul_le_mul_right a (show i+1≤b by omega)
    rw [Nat.add_mul,Nat.one_mul,Hq.out] at this
    exact this
   have hcl:=zcK l o1 a
   obtain ⟨cs,hcs⟩:∃cs,upRw l o1 a=cs:=⟨_,rfl⟩
   rw [hcs] at hsrc hsucc hcl
   have HR:=Lib.hid h1
   have Hsrc:=Lib.hid hsrc
   have Hsucc:=Lib.hid hsucc
   have Hcl:=Lib.hid hcl
   have Hbw:=Lib.hid hbw
   obtain ⟨k,hk⟩:∃k,i*a=k:=⟨_,rfl⟩
   rw [hk] at HO hle ⊢
   have Hk:=Lib.hid hk
   clear h1 ho1 hcs hsrc hsucc hcl k0 k1 hcc hbw hk
   go_wp2_with fail
   refine Calls.mono HR.out ?_
   rintro _ w3 ⟨rfl,hb3⟩
   have ho3:=(Turns.of_below' (T:=fun _=>False) hb3).owns HO.out (fun _ _ h=>h)
   have Ho3:=Lib.hid ho3
   have Hb3:=Lib.hid hb3
   clear ho3 hb3
   go_wp2_with (at_builtin;refine wpList_append_fits w3 rfl (.tmp 18) (.tmp 22) 24 rfl g 51 nf 1 Tryz.underlying24 hj0 hj2 g k q ((upC wd x y a i l).map pxv) rfl Ho3.out ⟨gc,offc+o1,none⟩ a (c - o1) (cs.map pxv) rfl (by rw [List.length_map,Hcl.out,Nat.mul_one]) ?n1 ?n2 hle ?_)
   case n1=>
    intro j u hu
    rw [List.getElem?_map] at hu
    cases hc:cs[j]? with
    | none=>rw [hc] at hu;cases hu
    | some v=>rw [hc] at hu;cases hu;exact Hsrc.out _ Hb3.out j v hc
   case n2=>intro v hv;obtain ⟨z,_,rfl⟩:=List.mem_map.1 hv;rfl
   intro w4 ho4 hg4
   rw [←List.map_append,←Hsucc.out] at ho4
   have HT4:Hid (Turns (fun i=>i=g) W2 w4):=Lib.hid ((HT.out.trans (Turns.of_below' Hb3.out)).trans (Turns.of_grown hg4 (fun i h=>by cases h;rfl)))
   have hk1:k+a=(i+1)*a:=by rw [Nat.add_mul,Nat.one_mul,Hk.out]
   rw [hk1] at ho4 ⊢
   have Ho4:=Lib.hid ho4
   clear ho4 hg4 hk1
   go_wp2
   go_roundw
   case rel=>exact ⟨i+1,by go_num,rfl,by omega,Ho4,HT4⟩
   case measure=>simp [intOf];omega
  ·obtain rfl:i=b:=by omega
   have d1:decide ((i:Int)<(i:Int))=false:=by simp
   have m1:=(HT.out.block (P+1) (by have:=zab K1.out;omega) (by have:=HgP.out;omega)).trans K1.out
   have m2:=(HT.out.block (P+2) (by have:=zab K2.out;omega) (by have:=HgP.out;omega)).trans K2.out
   obtain ⟨c0,c1,c2,c3,-⟩:=zau m1
   have e0:wr.cell? ⟨P+1+1,0,none⟩=some (.int .i64 0):=zaa m2 rfl
   have e1:wr.cell? ⟨P+1+1,1,none⟩=some (.int .i64 0):=zaa m2 rfl
   have e2:wr.cell? ⟨P+1+1,2,none⟩=some (.slice none 0 0):=zaa m2 rfl
   have f0:wr.frozen? ⟨P+1+1,0,none⟩=false:=by simp [World.frozen?,m2]
   have f1:wr.frozen? ⟨P+1+1,1,none⟩=false:=by simp [World.frozen?,m2]
   have f2:wr.frozen? ⟨P+1+1,2,none⟩=false:=by simp [World.frozen?,m2]
   have Hbw:Hid (Below w.heap.size w wr):=Lib.hid (Hb2.out.trans (HT.out.below Hb2.out.size fun b (hb:b=g)=>by have:=HgP.out;have:=HP.out;omega))
   rw [Hq.out] at HO ⊢
   clear m1 m2
   go_wp2
   obtain ⟨u0,u1,u2,ut⟩:=zaY (a:Int) (i:Int) (.slice (some ⟨g,0,none⟩) q q) e0 e1 e2 _ rfl
   refine bodyPost_ret (zfV rfl rfl u0 u1 u2 ⟨_,_,_,rfl⟩) rfl ⟨_,rfl,?_,?_⟩
   ·exact ut.owns (zao HO.out (by have:=HgP.out;have:=HP.out;omega)) (fun j hj (h:j=P+2)=>by have h1:=HgP.out;have h2:g=j:=Option.some.inj hj;omega)
   ·exact Hbw.out.trans (ut.below Hbw.out.size fun j (hj:j=P+2)=>by have:=HP.out;omega)
end
section
open Classical in
noncomputable def cdF (k:Nat) (b:List Nat) (n:Nat):Option (List Nat):=if h:∃P,CdR k b n (some P) then some (Classical.choose h) else none
theorem CdR.f {k:Nat} {b:List Nat} {n:Nat} {r:Option (List Nat)} (h:CdR k b n r):cdF k b n=r:=by
 unfold cdF
 split
 ·rename_i hx
  exact (Classical.choose_spec hx).det h
 ·rename_i hx
  cases r with
  | none=>rfl
  | some P=>exact absurd ⟨P,h⟩ hx
theorem zrH {k:Nat} {b:List Nat} {n:Nat} {P:List Nat} (h:cdF k b n=some P):CdR k b n (some P):=by
 unfold cdF at h
 split at h
 ·rename_i hx
  injection h with h
  rw [←h]
  exact Classical.choose_spec hx
 ·cases h
def upQ2 (b:List Nat) (a:Nat):Nat:=lq b a*256+lq b (a+1)
def upQ4 (b:List Nat) (a:Nat):Nat:=((lq b a*256+lq b (a+1))*256+lq b (a+2))*256+lq b (a+3)
def upCk (wd ht:Nat) (b:List Nat) (a:Nat):Prop:=
 upIs wd ht (upQ2 b a) (upQ2 b (a+2)) (upQ2 b (a+4)) (upQ2 b (a+6))∧upIs wd ht ((upQ2 b a:Int) - upS (upQ2 b (a+8))) ((upQ2 b (a+2):Int) - upS (upQ2 b (a+10))) (upQ2 b (a+4)) (upQ2 b (a+6))
instance (wd ht:Nat) (b:List Nat) (a:Nat):Decidable (upCk wd ht b a):=by unfold upCk;infer_instance
def upCm (wd:Nat) (b:List Nat) (a:Nat) (L:List Nat):List Nat:=
 upMv wd (upQ2 b a) (upQ2 b (a+2)) (upQ2 b (a+4)) (upQ2 b (a+6)) ((upQ2 b a:Int) - upS (upQ2 b (a+8))).toNat ((upQ2 b (a+2):Int) - upS (upQ2 b (a+10))).toNat L
def upCp (wd ht:Nat) (b:List Nat):Nat→Nat→List Nat→Option (List Nat×Nat)
 | 0,a,L=>some (L,a)
 | n+1,a,L=>if a+12≤b.length∧upCk wd ht b a then upCp wd ht b n (a+12) (upCm wd b a L) else none
def upOw (b:List Nat) (a:Nat):List Nat:=(b.drop (a+13)).take (upQ4 b (a+9))
noncomputable def upPt (wd ht:Nat) (b:List Nat):Nat→Nat→List Nat→Option (List Nat×Nat)
 | 0,a,L=>some (L,a)
 | n+1,a,L=>if a+13≤b.length∧a+13+upQ4 b (a+9)≤b.length∧upIs wd ht (upQ2 b a) (upQ2 b (a+2)) (upQ2 b (a+4)) (upQ2 b (a+6)) then
   match cdF (lq b (a+8)) (upOw b a) (upQ2 b (a+4)*upQ2 b (a+6)) with
   | some S=>upPt wd ht b n (a+13+upQ4 b (a+9)) (upLy wd (upQ2 b a) (upQ2 b (a+2)) (upQ2 b (a+4)) (upQ2 b (a+6)) S L)
   | none=>none
  else none
noncomputable def upAp (wd ht:Nat) (b:List Nat) (L:List Nat):Option (List Nat):=
 if b.length<2 then none else
 match upCp wd ht b (upQ2 b 0) 2 L with
 | none=>none
 | some (L1,a)=>if b.length<a+2 then none else
  match upPt wd ht b (upQ2 b a) (a+2) L1 with
  | none=>none
  | some (L2,c)=>if c=b.length then some L2 else none
theorem zfb {b:List Nat} (hb:∀x∈b,x<256) (a:Nat):upQ2 b a<65536:=by
 have h1:lq b a<256:=zaE (by decide) hb a
 have h2:lq b (a+1)<256:=zaE (by decide) hb (a+1)
 unfold upQ2
 omega
theorem zoI {b:List Nat} (hb:∀x∈b,x<256) (a:Nat):upQ4 b a<4294967296:=by
 have h1:lq b a<256:=zaE (by decide) hb a
 have h2:lq b (a+1)<256:=zaE (by decide) hb (a+1)
 have h3:lq b (a+2)<256:=zaE (by decide) hb (a+2)
 have h4:lq b (a+3)<256:=zaE (by decide) hb (a+3)
 unfold upQ4
 omega
end
section
structure U4 where
 x:Int
 y:Int
 a:Int
 b:Int
structure U6 where
 x:Int
 y:Int
 a:Int
 b:Int
 dx:Int
 dy:Int
instance:Inhabited U4:=⟨⟨0,0,0,0⟩⟩
instance:Inhabited U6:=⟨⟨0,0,0,0,0,0⟩⟩
def U4.ok (wd ht:Int) (r:U4):Prop:=upIs wd ht r.x r.y r.a r.b
def U6.ok (wd ht:Int) (c:U6):Prop:=upIs wd ht c.x c.y c.a c.b∧upIs wd ht (c.x - c.dx) (c.y - c.dy) c.a c.b
instance (wd ht:Int) (r:U4):Decidable (r.ok wd ht):=by unfold U4.ok;infer_instance
instance (wd ht:Int) (c:U6):Decidable (c.ok wd ht):=by unfold U6.ok;infer_instance
open Classical in
noncomputable def cdK (l:List Nat):Nat×List Nat:=if h:∃S,DefS (cdP l) S then cdE l (Classical.choose h) else (1,cdP l)
theorem zdW {l S:List Nat} (h:DefS (cdP l) S):cdE l S=cdK l:=by
 unfold cdK
 rw [dif_pos ⟨S,h⟩,(Classical.choose_spec (p:=fun S=>DefS (cdP l) S) ⟨S,h⟩).det h]
def up4B (r:U4):List Nat:=up2 r.x++(up2 r.y++(up2 r.a++up2 r.b))
def up6B (c:U6):List Nat:=up2 c.x++(up2 c.y++(up2 c.a++(up2 c.b++(up2 c.dx++up2 c.dy))))
def zbk (wd:Nat) (L:List Nat) (r:U4):List Nat:=upC wd r.x.toNat r.y.toNat r.a.toNat r.b.toNat L
def upT (r:U4) (k:Nat×List Nat):List Nat:=up4B r++(k.1::(up4 k.2.length++k.2))
noncomputable def upPB (wd:Nat) (L:List Nat) (r:U4):List Nat:=upT r (cdK (zbk wd L r))
noncomputable def upBy (wd:Nat) (L:List Nat) (cs:List U6) (rs:List U4):List Nat:=
 up2 cs.length++(cs.flatMap up6B++(up2 rs.length++rs.flatMap (upPB wd L)))
theorem ze0 (c:U6):(up6B c).length=12:=rfl
theorem ze1 (r:U4):(up4B r).length=8:=rfl
theorem zeF (r:U4) (k:Nat×List Nat):(upT r k).length=13+k.2.length:=by
 rw [upT,List.length_append,ze1,List.length_cons,List.length_append]
 show 8+(4+k.2.length+1)=_
 omega
theorem zch (cs:List U6):(cs.flatMap up6B).length=12*cs.length:=by
 induction cs with
 | nil=>rfl
 | cons c r ih=>rw [List.flatMap_cons,List.length_append,ih,ze0,List.length_cons];omega
theorem zcL (p r:List Nat) (i:Nat):lq (p++r) (p.length+i)=lq r i:=by
 unfold lq
 rw [List.getD_eq_getElem?_getD,List.getD_eq_getElem?_getD,List.getElem?_append_right (by omega),Nat.add_sub_cancel_left]
theorem zbe (p r:List Nat) (i:Nat):upQ2 (p++r) (p.length+i)=upQ2 r i:=by
 unfold upQ2
 rw [zcL,Nat.add_assoc,zcL]
theorem zef (p r:List Nat):upQ2 (p++r) p.length=upQ2 r 0:=zbe p r 0
theorem zn2 (p r:List Nat) (i:Nat):upQ4 (p++r) (p.length+i)=upQ4 r i:=by
 unfold upQ4
 rw [zcL,Nat.add_assoc,Nat.add_assoc,Nat.add_assoc,zcL,zcL,zcL]
theorem za9 {v:Int} (h:0≤v∧v<65536) (r:List Nat):(upQ2 (up2 v++r) 0:Int)=v:=by
 show (((v/256%256).toNat*256+(v%256).toNat:Nat):Int)=v
 omega
theorem zko {v:Int} (h: -256<v∧v<256) (r:List Nat):upS (upQ2 (up2 v++r) 0)=v:=by
 show upS ((v/256%256).toNat*256+(v%256).toNat)=v
 unfold upS
 split<;>omega
theorem zl0 {v:Nat} (h:v<4294967296) (r:List Nat):upQ4 (up4 v++r) 0=v:=by
 show ((((v:Int)/16777216%256).toNat*256+((v:Int)/65536%256).toNat)*256+((v:Int)/256%256).toNat)*256+((v:Int)%256).toNat=v
 omega
def U6.mv (wd:Nat) (L:List Nat) (c:U6):List Nat:=upMv wd c.x.toNat c.y.toNat c.a.toNat c.b.toNat (c.x - c.dx).toNat (c.y - c.dy).toNat L
def U4.ly (wd:Nat) (r:U4) (S L:List Nat):List Nat:=upLy wd r.x.toNat r.y.toNat r.a.toNat r.b.toNat S L
theorem upIs.small {wd ht x y a b:Int} (h:upIs wd ht x y a b) (hw:wd≤256) (hh:ht≤256):(0≤x∧x<256)∧(0≤y∧y<256)∧(1≤a∧a≤256)∧(1≤b∧b≤256):=by
 obtain ⟨h1,h2,h3,h4,h5,h6⟩:=h
 omega
theorem zri {wd ht:Nat} (hw:wd≤256) (hh:ht≤256) (p r:List Nat) {c:U6} (h:c.ok wd ht) (L:List Nat):upCk wd ht (p++(up6B c++r)) p.length∧upCm wd (p++(up6B c++r)) p.length L=c.mv wd L:=by
 obtain ⟨s1,s2,s3,s4⟩:=h.1.small (by omega) (by omega)
 obtain ⟨t1,t2,-,-⟩:=h.2.small (by omega) (by omega)
 have e0:(upQ2 (p++(up6B c++r)) p.length:Int)=c.x:=by
  rw [zef];exact za9 ⟨by omega,by omega⟩ _
 have e1:(upQ2 (p++(up6B c++r)) (p.length+2):Int)=c.y:=by
  rw [zbe];exact za9 (v:=c.y) ⟨by omega,by omega⟩ (up2 c.a++(up2 c.b++(up2 c.dx++(up2 c.dy++r))))
 have e2:(upQ2 (p++(up6B c++r)) (p.length+4):Int)=c.a:=by
  rw [zbe];exact za9 (v:=c.a) ⟨by omega,by omega⟩ (up2 c.b++(up2 c.dx++(up2 c.dy++r)))
 have e3:(upQ2 (p++(up6B c++r)) (p.length+6):Int)=c.b:=by
  rw [zbe];exact za9 (v:=c.b) ⟨by omega,by omega⟩ (up2 c.dx++(up2 c.dy++r))
 have e4:upS (upQ2 (p++(up6B c++r)) (p.length+8))=c.dx:=by
  rw [zbe];exact zko (v:=c.dx) ⟨by omega,by omega⟩ (up2 c.dy++r)
 have e5:upS (upQ2 (p++(up6B c++r)) (p.length+10))=c.dy:=by
  rw [zbe];exact zko (v:=c.dy) ⟨by omega,by omega⟩ r
 refine ⟨?_,?_⟩
 ·unfold upCk
  rw [e0,e1,e2,e3,e4,e5]
  exact h
 ·unfold upCm U6.mv
  rw [e4,e5,e0,e1,←e0,←e1,←e2,←e3]
  simp only [Int.toNat_natCast]
theorem zha {wd ht:Nat} (hw:wd≤256) (hh:ht≤256):∀(cs:List U6) (p r L:List Nat),(∀c∈cs,c.ok wd ht)→upCp wd ht (p++(cs.flatMap up6B++r)) cs.length p.length L=some (cs.foldl (U6.mv wd) L,p.length+12*cs.length)
 | [],p,r,L,_=>rfl
 | c::cs,p,r,L,h=>by
  rw [List.flatMap_cons,List.append_assoc]
  obtain ⟨h1,h2⟩:=zri (wd:=wd) (ht:=ht) hw hh p (cs.flatMap up6B++r) (h c (List.mem_cons_self ..)) L
  rw [List.length_cons,upCp,if_pos ⟨by rw [List.length_append,List.length_append,ze0];omega,h1⟩,h2]
  have:=zha hw hh cs (p++up6B c) r (c.mv wd L) (fun c hc=>h c (List.mem_cons_of_mem _ hc))
  rw [List.length_append,ze0,List.append_assoc] at this
  rw [this,List.foldl_cons]
  congr 2
  omega
theorem zq5 {wd ht:Nat} (hw:wd≤256) (hh:ht≤256) (p q:List Nat) {r:U4} (h:r.ok wd ht) {k:Nat×List Nat} (hk:k.2.length<4294967296) {S:List Nat} (hS:CdR k.1 k.2 (r.a.toNat*r.b.toNat) (some S)) (n:Nat) (L:List Nat):
  upPt wd ht (p++(upT r k++q)) (n+1) p.length L=upPt wd ht (p++(upT r k++q)) n (p.length+(13+k.2.length)) (r.ly wd S L):=by
 obtain ⟨s1,s2,s3,s4⟩:=h.small (by omega) (by omega)
 have e0:(upQ2 (p++(upT r k++q)) p.length:Int)=r.x:=by
  rw [zef];exact za9 ⟨by omega,by omega⟩ _
 have e1:(upQ2 (p++(upT r k++q)) (p.length+2):Int)=r.y:=by
  rw [zbe];exact za9 (v:=r.y) ⟨by omega,by omega⟩ (up2 r.a++(up2 r.b++(k.1::(up4 k.2.length++(k.2++q)))))
 have e2:(upQ2 (p++(upT r k++q)) (p.length+4):Int)=r.a:=by
  rw [zbe];exact za9 (v:=r.a) ⟨by omega,by omega⟩ (up2 r.b++(k.1::(up4 k.2.length++(k.2++q))))
 have e3:(upQ2 (p++(upT r k++q)) (p.length+6):Int)=r.b:=by
  rw [zbe];exact za9 (v:=r.b) ⟨by omega,by omega⟩ (k.1::(up4 k.2.length++(k.2++q)))
 have e4:lq (p++(upT r k++q)) (p.length+8)=k.1:=by
  rw [zcL];rfl
 have e5:upQ4 (p++(upT r k++q)) (p.length+9)=k.2.length:=by
  rw [zn2];exact zl0 hk (k.2++q)
 have hd:(p++(upT r k++q)).drop (p.length+13)=k.2++q:=by
  rw [List.drop_append,List.drop_eq_nil_of_le (by omega),List.nil_append,Nat.add_sub_cancel_left];rfl
 have e6:upOw (p++(upT r k++q)) p.length=k.2:=by
  rw [upOw,e5,hd,List.take_left']
  rfl
 have hl:(p++(upT r k++q)).length=p.length+(13+k.2.length+q.length):=by
  rw [List.length_append,List.length_append,zeF]
 rw [upPt,if_pos ⟨by rw [hl];omega,by rw [hl,e5];omega,by rw [e0,e1,e2,e3];exact h⟩,e4,e6]
 rw [show upQ2 (p++(upT r k++q)) (p.length+4)=r.a.toNat by omega,show upQ2 (p++(upT r k++q)) (p.length+6)=r.b.toNat by omega,hS.f]
 dsimp only
 rw [e5,show upQ2 (p++(upT r k++q)) p.length=r.x.toNat by omega,show upQ2 (p++(upT r k++q)) (p.length+2)=r.y.toNat by omega,Nat.add_assoc]
 rfl
theorem zg2 {wd ht:Nat} (hw:wd≤256) (hh:ht≤256) (K:U4→Nat×List Nat) (S:U4→List Nat):∀(rs:List U4) (p q L:List Nat),(∀r∈rs,r.ok wd ht∧(K r).2.length<4294967296∧CdR (K r).1 (K r).2 (r.a.toNat*r.b.toNat) (some (S r)))→
  upPt wd ht (p++(rs.flatMap (fun r=>upT r (K r))++q)) rs.length p.length L=some (rs.foldl (fun L r=>r.ly wd (S r) L) L,p.length+(rs.flatMap (fun r=>upT r (K r))).length)
 | [],p,q,L,_=>rfl
 | r::rs,p,q,L,h=>by
  obtain ⟨h1,h2,h3⟩:=h r (List.mem_cons_self ..)
  rw [List.flatMap_cons,List.append_assoc,List.length_cons,zq5 hw hh p _ h1 h2 h3]
  have:=zg2 hw hh K S rs (p++upT r (K r)) q (r.ly wd (S r) L) (fun c hc=>h c (List.mem_cons_of_mem _ hc))
  rw [List.length_append,zeF,List.append_assoc] at this
  rw [this,List.foldl_cons,List.length_append,zeF,Nat.add_assoc]
theorem zgS {wd ht:Nat} (hw:wd≤256) (hh:ht≤256) {cs:List U6} {rs:List U4} (hc:∀c∈cs,c.ok wd ht) (nc:cs.length<65536) (nr:rs.length<65536) (K:U4→Nat×List Nat) (S:U4→List Nat) (hr:∀r∈rs,r.ok wd ht∧(K r).2.length<4294967296∧CdR (K r).1 (K r).2 (r.a.toNat*r.b.toNat) (some (S r))) (L:List Nat):
  upAp wd ht (up2 cs.length++(cs.flatMap up6B++(up2 rs.length++rs.flatMap fun r=>upT r (K r)))) L=some (rs.foldl (fun L r=>r.ly wd (S r) L) (cs.foldl (U6.mv wd) L)):=by
 have e0:upQ2 (up2 cs.length++(cs.flatMap up6B++(up2 rs.length++rs.flatMap fun r=>upT r (K r)))) 0=cs.length:=by
  have:=za9 (v:=(cs.length:Int)) ⟨by omega,by omega⟩ (cs.flatMap up6B++(up2 rs.length++rs.flatMap fun r=>upT r (K r)))
  omega
 have e1:=zha hw hh cs (up2 cs.length) (up2 rs.length++rs.flatMap fun r=>upT r (K r)) L hc
 have e2:=zg2 hw hh K S rs (up2 cs.length++(cs.flatMap up6B++up2 rs.length)) [] (cs.foldl (U6.mv wd) L) hr
 have l2:(up2 (cs.length:Int)).length=2:=rfl
 have l3:(up2 (rs.length:Int)).length=2:=rfl
 have e3:upQ2 (up2 cs.length++(cs.flatMap up6B++(up2 rs.length++rs.flatMap fun r=>upT r (K r)))) (2+12*cs.length)=rs.length:=by
  have h:=zef (up2 cs.length++cs.flatMap up6B) (up2 rs.length++rs.flatMap fun r=>upT r (K r))
  rw [List.length_append,zch,l2,List.append_assoc] at h
  rw [h]
  have:=za9 (v:=(rs.length:Int)) ⟨by omega,by omega⟩ (rs.flatMap fun r=>upT r (K r))
  omega
 unfold upAp
 rw [if_neg (by rw [List.length_append,l2];omega),e0]
 rw [l2] at e1
 rw [e1]
 dsimp only
 rw [if_neg (by rw [List.length_append,List.length_append,List.length_append,zch,l2,l3];omega),e3]
 rw [List.append_nil,List.append_assoc,List.append_assoc,List.length_append,List.length_append,zch,l2,l3] at e2
 rw [Nat.add_assoc,e2]
 dsimp only
 rw [if_pos]
 rw [List.length_append,List.length_append,List.length_append,zch,l2,l3]
 omega
end
end Go.Proofs.YtedakhgaghfogaaGreat
