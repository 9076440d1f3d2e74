/- Several texts in one, each with its own head. -/
import Derived.Test.YtedakhgaghfogaaGreatQs9
import Derived.Test.YtedakhgaghfogaaGreatQs3
import Derived.Test.YtedakhgaghfogaaGreatQs6
import Derived.Test.YtedakhgaghfogaaGreatQs8
namespace Go.Proofs.YtedakhgaghfogaaGreat
section
open Go.RowKit
attribute [local go_sem] Oper.semAt_some
theorem zgF {w:World} {s so:Nat} {S:List Nat} (hS:∀i,i<S.length→w.cell? ⟨s,so+i,none⟩=some (pxv (S.getD i 0))) {o a:Nat} (h:o+a≤S.length):∀j v,(upRw S o a)[j]? =some v→w.cell? ((⟨s,so+o,none⟩:Addr).add j)=some (pxv v):=by
 intro j v hj
 obtain ⟨hlt,hv⟩:=List.getElem?_eq_some_iff.1 hj
 rw [zcK] at hlt
 have h2:=zdz S o hlt
 rw [List.getD_eq_getElem?_getD,hj] at h2
 have h3:v=S.getD (o+j) 0:=h2
 rw [h3,Addr.add_lit,Nat.add_assoc]
 exact hS (o+j) (by omega)
theorem zfs:(Tryz.prog.info? 51).map (·.size)=some 1:=by kernel_rfl
set_option maxRecDepth 20000 in
set_option maxHeartbeats 4000000 in
theorem zmG (wd ht x y a b g s so cap:Nat) (L S:List Nat) (w:World) (hL:PxB w g L) (hS:∀i,i<S.length→w.cell? ⟨s,so+i,none⟩=some (pxv (S.getD i 0))) (hne:s≠g) (hSl:S.length=a*b) (hcap:S.length≤cap) (hmx:cap≤9223372036854775807)
  (hLl:L.length=wd*ht) (hLm:L.length≤1048576) (hx:x+a≤wd) (hy:y+b≤ht) (ha:1≤a) (hw:wd≤256) (hh:ht≤256):
  Calls Tryz.prog 76 #[IgV wd ht (.slice (some ⟨g,0,none⟩) L.length L.length),U4V x y a b,IgV a b (.slice (some ⟨s,so,none⟩) S.length cap)] w fun e w'=>
   e= .returned (.tuple #[])∧PxB w' g (upLy wd x y a b S L)∧Turns (fun i=>i=g) w w':=by
 have hfit:∀j,j<b→(y+j)*wd+x+a≤L.length:=fun j hj=>by rw [hLl];exact zd4 hx hy hj
 have hfit2:∀j,j<b→(0+j)*a+0+a≤S.length:=fun j hj=>by
  rw [hSl]
  exact zd4 (wd:=a) (ht:=b) (x:=0) (y:=0) (by omega) (by omega) hj
 have Hfit:=Lib.hid hfit
 have Hfit2:=Lib.hid hfit2
 have HL:=Lib.hid hL
 have HS:=Lib.hid hS
 obtain ⟨N,hN⟩:∃N,L.length=N:=⟨_,rfl⟩
 obtain ⟨M,hM⟩:∃M,S.length=M:=⟨_,rfl⟩
 rw [hN] at hLm ⊢
 rw [hM] at hcap ⊢
 have HN:=Lib.hid hN
 have HM:=Lib.hid hM
 have Hgl:Hid (g<w.heap.size):=Lib.hid (zab hL)
 have hg:=zag [.cells #[.int .i64 (wd:Int),.int .i64 (ht:Int),.slice (some ⟨g,0,none⟩) N N] 26,.cells #[.int .i64 (x:Int),.int .i64 (y:Int),.int .i64 (a:Int),.int .i64 (b:Int)] 36,.cells #[.int .i64 (a:Int),.int .i64 (b:Int),.slice (some ⟨s,so,none⟩) M cap] 26] w
 have hb0:=Below.al3 w (.cells #[.int .i64 (wd:Int),.int .i64 (ht:Int),.slice (some ⟨g,0,none⟩) N N] 26) (.cells #[.int .i64 (x:Int),.int .i64 (y:Int),.int .i64 (a:Int),.int .i64 (b:Int)] 36) (.cells #[.int .i64 (a:Int),.int .i64 (b:Int),.slice (some ⟨s,so,none⟩) M cap] 26)
 have hsz:(((w.alloc (.cells #[.int .i64 (wd:Int),.int .i64 (ht:Int),.slice (some ⟨g,0,none⟩) N N] 26)).alloc (.cells #[.int .i64 (x:Int),.int .i64 (y:Int),.int .i64 (a:Int),.int .i64 (b:Int)] 36)).alloc (.cells #[.int .i64 (a:Int),.int .i64 (b:Int),.slice (some ⟨s,so,none⟩) M cap] 26)).heap.size=w.heap.size+3:=by simp
 simp only [List.foldl_cons,List.foldl_nil] at hg
 clear hfit hfit2 hL hS hN hM
 go_enter Tryz.func76,Tryz.ntmps76
 go_upto_region 1 with (fail)
 generalize ((w.alloc (.cells #[.int .i64 (wd:Int),.int .i64 (ht:Int),.slice (some ⟨g,0,none⟩) N N] 26)).alloc (.cells #[.int .i64 (x:Int),.int .i64 (y:Int),.int .i64 (a:Int),.int .i64 (b:Int)] 36)).alloc (.cells #[.int .i64 (a:Int),.int .i64 (b:Int),.slice (some ⟨s,so,none⟩) M cap] 26)=W at *
 obtain ⟨P,hP⟩:∃P,w.heap.size=P:=⟨_,rfl⟩
 have g0:=(hg 0 _).2 rfl
 have g1:=(hg 1 _).2 rfl
 have g2:=(hg 2 _).2 rfl
 rw [hP] at g0 g1 g2 hsz ⊢
 rw [Nat.add_zero] at g0
 obtain ⟨r0,r1,r2,r3,-⟩:=zau g1
 have hz:=World.alloc_heap_new W (.cells #[.int .i64 0,.int .i64 0,.int .i64 (a:Int),.int .i64 (b:Int)] 36)
 have hbz:=Below.al1 W (.cells #[.int .i64 0,.int .i64 0,.int .i64 (a:Int),.int .i64 (b:Int)] 36)
 obtain ⟨Z,hZ⟩:∃Z,W.heap.size=Z:=⟨_,rfl⟩
 rw [hZ] at hsz hz
 have HP:=Lib.hid hP
 have HZ:=Lib.hid hZ
 have HsZ:=Lib.hid hsz
 have G0:=Lib.hid g0
 have G1:=Lib.hid g1
 have G2:=Lib.hid g2
 have Hz:=Lib.hid hz
 have Hbz:=Lib.hid hbz
 have Hb0:=Lib.hid hb0
 clear hg hP hsz g0 g1 g2 hz hbz hb0
 go_upto_region 2 with (fail)
 have kz:=Hz.out
 have hbz:=Hbz.out
 generalize W.alloc (.cells #[.int .i64 0,.int .i64 0,.int .i64 (a:Int),.int .i64 (b:Int)] 36)=W2 at *
 rw [hZ] at hbz
 have hPs:P<Z∧P+1<Z∧P+2<Z:=by have:=HsZ.out;omega
 have k0:=(hbz.block P hPs.1).trans G0.out
 have k1:=(hbz.block (P+1) hPs.2.1).trans G1.out
 have k2:=(hbz.block (P+2) hPs.2.2).trans G2.out
 have Hb2:Hid (Below w.heap.size w W2):=Lib.hid (Below.thn Hb0.out (by rw [HZ.out];exact hbz))
 obtain ⟨q0,q1,q2,q3,-⟩:=zau k1
 have K0:=Lib.hid k0
 have K1:=Lib.hid k1
 have K2:=Lib.hid k2
 have Kz:=Lib.hid kz
 have HL2:=Lib.hid (HL.out.below Hb2.out)
 have HS2:Hid (∀i,i<S.length→W2.cell? ⟨s,so+i,none⟩=some (pxv (S.getD i 0))):=Lib.hid (fun i hi=>cell_later Hb2.out (HS.out i hi))
 have hgP:g<P:=by rw [←HP.out];exact Hgl.out
 have hZ2:Z<W2.heap.size:=zab kz
 obtain ⟨f,hf⟩:∃f:Nat→Nat→Nat,f=fun x y=>S.getD (y*a+x) 0:=⟨_,rfl⟩
 have Hf:=Lib.hid hf
 clear r0 r1 r2 r3 hZ hbz k0 k1 k2 kz hPs Hz Hbz G0 G1 G2 hf
 go_wp2_with fail
 go_loopw [15] (fun iv wr=> ∃i:Nat,iv= .int .i64 (i:Int)∧i≤b∧Hid (PxB wr g (upM wd x y a (upUp i) f L))∧Hid (Turns (fun i=>i=g) W2 wr)) (fun iv _=>b - (intOf iv).toNat)
 case atStart=>exact ⟨0,rfl,Nat.zero_le _,Lib.hid (by rw [show upM wd x y a (upUp 0) f L=L from (zd3 (S':=fun _=>false) (zmC false b)).trans (ziQ ..)];exact HL2.out),Lib.hid (Turns.refl _ _)⟩
 case round=>
  obtain ⟨i,rfl,hi,HX,HT⟩:=hrel
  by_cases hib:i<b
  ·have d1:decide ((i:Int)<(b:Int))=true:=by simp;omega
   have t:=HT.out
   have n0:¬P=g:=by omega
   have n1:¬P+1=g:=by omega
   have n2:¬P+1+1=g:=by omega
   have nz:¬Z=g:=by have:=HsZ.out;omega
   have k0:=(t.block P (by have:=HsZ.out;omega) n0).trans K0.out
   have k1:=(t.block (P+1) (by have:=HsZ.out;omega) n1).trans K1.out
   have k2:wr.heap[P+1+1]? =_:=(t.block (P+1+1) (by have:=HsZ.out;omega) n2).trans K2.out
   have kz:=(t.block Z hZ2 nz).trans Kz.out
   obtain ⟨q0,q1,q2,q3,-⟩:=zau k1
   obtain ⟨z0,z1,z2,z3,-⟩:=zau kz
   have hq:=After.ne wr
   have a0:=After.rule (show wr.cell? ⟨P,0,none⟩=some _ from zaa k0 rfl)
   have a1:=After.rule (show wr.cell? ⟨P,1,none⟩=some _ from zaa k0 rfl)
   have a2:=After.rule (show wr.cell? ⟨P,2,none⟩=some _ from zaa k0 rfl)
   have e0:=After.rule (show wr.cell? ⟨P+1+1,0,none⟩=some _ from zaa k2 rfl)
   have e1:=After.rule (show wr.cell? ⟨P+1+1,1,none⟩=some _ from zaa k2 rfl)
   have e2:=After.rule (show wr.cell? ⟨P+1+1,2,none⟩=some _ from zaa k2 rfl)
   have r0:=After.rule q0
   have r1:=After.rule q1
   have r2:=After.rule q2
   have r3:=After.rule q3
   have y0:=After.rule z0
   have y1:=After.rule z1
   have y2:=After.rule z2
   have y3:=After.rule z3
   clear k0 k1 k2 kz z0 z1 z2 z3 q0 q1 q2 q3 t
   have hf1:=Hfit.out i hib
   have hf2:=Hfit2.out i hib
   rw [HN.out] at hf1
   rw [HM.out] at hf2
   have h1:=fun W=>zcl x y a b i N N wd ht b g 0 wd W rfl (Nat.le_refl _) (by omega) ha hf1 (by omega) (by omega) rfl
   have h2:=fun W=>zcl 0 0 a b i M cap a b b s so a W rfl hcap hmx ha hf2 (by omega) (by omega) rfl
   simp only [Nat.zero_add,Nat.add_zero,Int.natCast_zero] at h1 h2 hf2
   obtain ⟨o1,ho1⟩:∃o,(y+i)*wd+x=o:=⟨_,rfl⟩
   obtain ⟨o2,ho2⟩:∃o,i*a=o:=⟨_,rfl⟩
   rw [ho1] at hf1
   rw [ho2] at hf2
   simp only [ho1,ho2] at h1 h2
   have HR1:=Lib.hid h1
   have HR2:=Lib.hid h2
   have Ho1:=Lib.hid ho1
   have Ho2:=Lib.hid ho2
   have hsg:¬s=g:=hne
   have HSr:Hid (∀w',Below wr.heap.size wr w'→∀j v,(upRw S o2 a)[j]? =some v→w'.cell? ((⟨s,so+o2,none⟩:Addr).add j)=some (pxv v)):=Lib.hid (fun w' hb'=>zgF (fun i hi=>cell_later hb' (HT.out.cell (HS2.out i hi) hsg)) (by rw [HM.out];exact hf2))
   have hcl:=zcK S o2 a
   have hcg:∀x,x<a→(upRw S o2 a).getD x 0=f x i:=fun x hx=>by rw [zdz _ _ hx,Hf.out,←Ho2.out]
   obtain ⟨cs,hcs⟩:∃cs,upRw S o2 a=cs:=⟨_,rfl⟩
   obtain ⟨L1,hL1⟩:∃M,upM wd x y a (upUp i) f L=M:=⟨_,rfl⟩
   have hl1:L1.length=N:=by rw [←hL1,zgf,HN.out]
   have hst:=zj6 (wd:=wd) (tx:=x) (ty:=y) (aw:=a) (j:=i) (S:=upUp i) (S':=upUp (i+1)) (f:=f) (L:=L) hx (by rw [Ho1.out,HN.out];exact hf1) (by rw [hcs] at hcl;exact hcl) (by rw [hcs] at hcg;exact hcg) (zgK false hib)
   rw [Ho1.out,hL1] at hst
   rw [hcs] at HSr hcl
   rw [hL1] at HX
   have Hst:=Lib.hid hst
   have Hcl:=Lib.hid hcl
   have HX7:Hid (∀w',Below wr.heap.size wr w'→w'.heap[g]? =some (.cells (L1.map pxv).toArray 51)):=Lib.hid (fun w' hb'=>HX.out.below hb')
   clear h1 h2 ho1 ho2 hcg hcs hL1 hst hcl
   go_upto_region 5 with (fail)
   refine zaC 8 (by kernel_rfl) (by kernel_rfl) (by kernel_rfl) ?_
   iterate 4 (refine zaK (fun K hK=>?_);go_simp;first | (refine hK _ ?_;clear hK K) | (apply Exists.intro;refine ⟨fun n=>?_,hK _ ?_⟩;(go_at_call 60;exact HR1.out n.world);clear hK K))
   iterate 4 (refine zaK (fun K hK=>?_);go_simp;first | (refine hK _ ?_;clear hK K) | (apply Exists.intro;refine ⟨fun n=>?_,hK _ ?_⟩;(go_at_call 60;exact HR2.out n.world);clear hK K))
   refine zbd ?_
   intro w7 hb7
   have Hb7:=Lib.hid hb7
   clear a0 a1 a2 e0 e1 e2 r0 r1 r2 r3 y0 y1 y2 y3 hq hb7
   refine zci w7 rfl (.tmp 21) (.tmp 25) 24 rfl 51 Tryz.underlying24 zfs g o1 a (N - o1) ⟨s,so+o2,none⟩ a (cap - o2) rfl rfl L1 cs 51 (HX7.out _ Hb7.out) (by rw [Hcl.out];exact (Nat.min_self a).symm) (HSr.out _ Hb7.out) (by rw [Hcl.out];omega) ?_
   intro w8 hp8 ht8
   rw [Hst.out] at hp8
   have HP8:Hid (PxB w8 g (upM wd x y a (upUp (i+1)) f L)):=Lib.hid hp8
   have HT8:Hid (Turns (fun i=>i=g) W2 w8):=Lib.hid ((HT.out.trans (Turns.of_below' Hb7.out)).trans ht8)
   clear hp8 ht8
   go_wp2
   go_roundw
   case rel=>exact ⟨i+1,by go_num,by omega,HP8,HT8⟩
   case measure=>simp [intOf];omega
  ·obtain rfl:i=b:=by omega
   have d1:decide ((i:Int)<(i:Int))=false:=by simp
   have hX:=HX.out
   rw [show upM wd x y a (upUp i) f L=upLy wd x y a i S L from by unfold upLy;rw [←Hf.out];exact zj2 ..] at hX
   have HX2:=Lib.hid hX
   clear hX
   go_wp2
   go_end0
   exact ⟨rfl,HX2.out,(Turns.of_below' Hb2.out).trans HT.out⟩
end
section
open Go.RowKit
attribute [local go_sem] Oper.semAt_some
set_option maxRecDepth 20000 in
set_option maxHeartbeats 4000000 in
theorem zlf (wd ht x y a b fx fy g:Nat) (dx dy:Int) (L:List Nat) (w:World) (hL:PxB w g L) (hLl:L.length=wd*ht) (hLm:L.length≤1048576) (hx:x+a≤wd) (hy:y+b≤ht) (hfx:fx+a≤wd) (hfy:fy+b≤ht) (ha:1≤a) (hw:wd≤256) (hh:ht≤256)
  (hdx:IntKind.i64.wrap ((x:Int) - dx)=(fx:Int)) (hdy:IntKind.i64.wrap ((y:Int) - dy)=(fy:Int)) (hd:dy>0→fy<y) (hu:¬dy>0→y≤fy):
  Calls Tryz.prog 73 #[IgV wd ht (.slice (some ⟨g,0,none⟩) L.length L.length),U6V x y a b dx dy] w fun e w'=>
   e= .returned (.tuple #[])∧PxB w' g (upMv wd x y a b fx fy L)∧Turns (fun i=>i=g) w w':=by
 have hfit:∀j,j<b→(y+j)*wd+x+a≤L.length:=fun j hj=>by rw [hLl];exact zd4 hx hy hj
 have hfit2:∀j,j<b→(fy+j)*wd+fx+a≤L.length:=fun j hj=>by rw [hLl];exact zd4 hfx hfy hj
 have hsrc:=fun w=>zgQ x y a b dx dy w
 simp only [hdx,hdy] at hsrc
 have HS:=Lib.hid hsrc
 have Hfit:=Lib.hid hfit
 have Hfit2:=Lib.hid hfit2
 have HL:=Lib.hid hL
 obtain ⟨dn,hdn⟩:∃dn,decide (dy>0)=dn:=⟨_,rfl⟩
 have Hdir:Hid ((dn=true→fy<y)∧(dn=false→y≤fy)):=Lib.hid ⟨fun h=>hd (of_decide_eq_true (hdn.trans h)),fun h=>hu (of_decide_eq_false (hdn.trans h))⟩
 obtain ⟨N,hN⟩:∃N,L.length=N:=⟨_,rfl⟩
 rw [hN] at hLm ⊢
 have HN:=Lib.hid hN
 have Hgl:Hid (g<w.heap.size):=Lib.hid (zab hL)
 have hg:=zag [.cells #[.int .i64 (wd:Int),.int .i64 (ht:Int),.slice (some ⟨g,0,none⟩) N N] 26,.cells #[.int .i64 (x:Int),.int .i64 (y:Int),.int .i64 (a:Int),.int .i64 (b:Int),.int .i64 dx,.int .i64 dy] 38] w
 have hb0:=Below.al2 w (.cells #[.int .i64 (wd:Int),.int .i64 (ht:Int),.slice (some ⟨g,0,none⟩) N N] 26) (.cells #[.int .i64 (x:Int),.int .i64 (y:Int),.int .i64 (a:Int),.int .i64 (b:Int),.int .i64 dx,.int .i64 dy] 38)
 have hsz:((w.alloc (.cells #[.int .i64 (wd:Int),.int .i64 (ht:Int),.slice (some ⟨g,0,none⟩) N N] 26)).alloc (.cells #[.int .i64 (x:Int),.int .i64 (y:Int),.int .i64 (a:Int),.int .i64 (b:Int),.int .i64 dx,.int .i64 dy] 38)).heap.size=w.heap.size+2:=by simp
 simp only [List.foldl_cons,List.foldl_nil] at hg
 clear hfit hfit2 hL hN hsrc hd hu hdx hdy
 go_enter Tryz.func73,Tryz.ntmps73
 go_upto_region 1 with (fail)
 generalize (w.alloc (.cells #[.int .i64 (wd:Int),.int .i64 (ht:Int),.slice (some ⟨g,0,none⟩) N N] 26)).alloc (.cells #[.int .i64 (x:Int),.int .i64 (y:Int),.int .i64 (a:Int),.int .i64 (b:Int),.int .i64 dx,.int .i64 dy] 38)=W at *
 obtain ⟨P,hP⟩:∃P,w.heap.size=P:=⟨_,rfl⟩
 have g0:=(hg 0 _).2 rfl
 have g1:=(hg 1 _).2 rfl
 rw [hP] at g0 g1 hsz ⊢
 rw [Nat.add_zero] at g0
 obtain ⟨c0,c1,c2,c3,c4,c5⟩:=zbj g1
 have HP:=Lib.hid hP
 have HsP:=Lib.hid hsz
 have G0:=Lib.hid g0
 have G1:=Lib.hid g1
 have Hb0:=Lib.hid hb0
 clear hg hP hsz g0 g1 hb0
 go_wp2_with fail
 refine Calls.mono (HS.out W) ?_
 rintro _ W1 ⟨rfl,hb1⟩
 have kz:=World.alloc_heap_new W1 (.cells #[.int .i64 (fx:Int),.int .i64 (fy:Int),.int .i64 (a:Int),.int .i64 (b:Int)] 36)
 have hbz:=Below.al1 W1 (.cells #[.int .i64 (fx:Int),.int .i64 (fy:Int),.int .i64 (a:Int),.int .i64 (b:Int)] 36)
 have Hbz:=Lib.hid (Below.thn hb1 hbz)
 have Hb1:=Lib.hid hb1
 have Hkz:=Lib.hid kz
 clear hb1 hbz kz c0 c1 c2 c3 c4 c5
 go_upto_region 2 with (fail)
 have kz:=Hkz.out
 have hbz:=Hbz.out
 have hW1:=Hb1.out.size
 generalize W1.alloc (.cells #[.int .i64 (fx:Int),.int .i64 (fy:Int),.int .i64 (a:Int),.int .i64 (b:Int)] 36)=W2 at *
 obtain ⟨Z,hZ⟩:∃Z,W1.heap.size=Z:=⟨_,rfl⟩
 rw [hZ] at kz hW1 ⊢
 have HsZ:Hid (P+2≤Z):=Lib.hid (by have:=HsP.out;omega)
 have k0:=(hbz.block P (by have:=HsP.out;omega)).trans G0.out
 have k1:=(hbz.block (P+1) (by have:=HsP.out;omega)).trans G1.out
 have Hb2:Hid (Below w.heap.size w W2):=Lib.hid (Below.thn Hb0.out hbz)
 have K0:=Lib.hid k0
 have K1:=Lib.hid k1
 have Kz:=Lib.hid kz
 have HL2:=Lib.hid (HL.out.below Hb2.out)
 have hgP:g<P:=by rw [←HP.out];exact Hgl.out
 have hZ2:Z<W2.heap.size:=zab kz
 obtain ⟨q0,q1,q2,q3,q4,q5⟩:=zbj k1
 obtain ⟨f,hf⟩:∃f:Nat→Nat→Nat,f=fun x y=>L.getD ((fy+y)*wd+fx+x) 0:=⟨_,rfl⟩
 have Hf:=Lib.hid hf
 clear hZ hbz k0 k1 kz hW1 Hbz Hb1 Hkz G0 G1 hf
 go_wp2_with fail
 go_loopw [12] (fun iv wr=> ∃i:Nat,iv= .int .i64 (i:Int)∧i≤b∧Hid (PxB wr g (upM wd x y a (upSt dn b i) f L))∧Hid (Turns (fun i=>i=g) W2 wr)) (fun iv _=>b - (intOf iv).toNat)
 case atStart=>exact ⟨0,rfl,Nat.zero_le _,Lib.hid (by rw [show upM wd x y a (upSt dn b 0) f L=L from (zd3 (S':=fun _=>false) (zmC dn b)).trans (ziQ ..)];exact HL2.out),Lib.hid (Turns.refl _ _)⟩
 case round=>
  obtain ⟨i,rfl,hi,HX,HT⟩:=hrel
  by_cases hib:i<b
  ·have d1:decide ((i:Int)<(b:Int))=true:=by simp;omega
   have t:=HT.out
   have n0:¬P=g:=by omega
   have n1:¬P+1=g:=by omega
   have nz:¬Z=g:=by have:=HsZ.out;omega
   have k0:=(t.block P (by have:=HsZ.out;omega) n0).trans K0.out
   have k1:=(t.block (P+1) (by have:=HsZ.out;omega) n1).trans K1.out
   have kz:=(t.block Z hZ2 nz).trans Kz.out
   obtain ⟨p0,p1,p2,p3,p4,p5⟩:=zbj k1
   obtain ⟨z0,z1,z2,z3,-⟩:=zau kz
   have hq:=After.ne wr
   have a0:=After.rule (show wr.cell? ⟨P,0,none⟩=some _ from zaa k0 rfl)
   have a1:=After.rule (show wr.cell? ⟨P,1,none⟩=some _ from zaa k0 rfl)
   have a2:=After.rule (show wr.cell? ⟨P,2,none⟩=some _ from zaa k0 rfl)
   have r0:=After.rule p0
   have r1:=After.rule p1
   have r2:=After.rule p2
   have r3:=After.rule p3
   have y0:=After.rule z0
   have y1:=After.rule z1
   have y2:=After.rule z2
   have y3:=After.rule z3
   clear k0 k1 kz z0 z1 z2 z3 t
   have hAb:=zqi dn hib
   have hstp:=zgK dn hib
   have hfree:=znR (dn:=dn) (ty:=y) (fy:=fy) hib Hdir.out.1 Hdir.out.2
   have hAd:dn=true→b - 1 - i=upAt dn b i:=fun h=>by rw [h];rfl
   have hAu:dn=false→i=upAt dn b i:=fun h=>by rw [h];rfl
   obtain ⟨A,hA⟩:∃A,upAt dn b i=A:=⟨_,rfl⟩
   rw [hA] at hAb hfree hAd hAu
   simp only [hA] at hstp
   have hf1:=Hfit.out A hAb
   have hf2:=Hfit2.out A hAb
   rw [HN.out] at hf1 hf2
   have h1:=fun W=>zcl x y a b A N N wd ht b g 0 wd W rfl (Nat.le_refl _) (by omega) ha hf1 (by omega) (by omega) rfl
   have h2:=fun W=>zcl fx fy a b A N N wd ht b g 0 wd W rfl (Nat.le_refl _) (by omega) ha hf2 (by omega) (by omega) rfl
   simp only [Nat.zero_add] at h1 h2
   obtain ⟨L1,hL1⟩:∃M,upM wd x y a (upSt dn b i) f L=M:=⟨_,rfl⟩
   have hl1:L1.length=N:=by rw [←hL1,zgf,HN.out]
   have hkeep:∀z,z<a→L1.getD ((fy+A)*wd+fx+z) 0=f z A:=fun z hz=>by
    rw [←hL1,Nat.add_assoc,znU (by omega) hfree,Hf.out,←Nat.add_assoc]
   obtain ⟨o1,ho1⟩:∃o,(y+A)*wd+x=o:=⟨_,rfl⟩
   obtain ⟨o2,ho2⟩:∃o,(fy+A)*wd+fx=o:=⟨_,rfl⟩
   rw [ho1] at hf1
   rw [ho2] at hf2
   simp only [ho1] at h1
   simp only [ho2] at h2 hkeep
   have HR1:=Lib.hid h1
   have HR2:=Lib.hid h2
   rw [hL1] at HX
   have HSr:Hid (∀w',Below wr.heap.size wr w'→∀j v,(upRw L1 o2 a)[j]? =some v→w'.cell? ((⟨g,o2,none⟩:Addr).add j)=some (pxv v)):=Lib.hid (fun w' hb'=>by
    have:=zgF (s:=g) (so:=0) (S:=L1) (o:=o2) (a:=a) (fun i hi=>by rw [Nat.zero_add];exact (HX.out.below hb').cell hi) (by rw [hl1];exact hf2)
    rwa [Nat.zero_add] at this)
   have hcl:=zcK L1 o2 a
   have hcg:∀x,x<a→(upRw L1 o2 a).getD x 0=f x A:=fun x hx=>by rw [zdz _ _ hx,hkeep x hx]
   obtain ⟨cs,hcs⟩:∃cs,upRw L1 o2 a=cs:=⟨_,rfl⟩
   have hst:=zj6 (wd:=wd) (tx:=x) (ty:=y) (aw:=a) (j:=A) (S:=upSt dn b i) (S':=upSt dn b (i+1)) (f:=f) (L:=L) hx (by rw [ho1,HN.out];exact hf1) (by rw [hcs] at hcl;exact hcl) (by rw [hcs] at hcg;exact hcg) hstp
   rw [ho1,hL1] at hst
   rw [hcs] at HSr hcl
   have Hst:=Lib.hid hst
   have Hcl:=Lib.hid hcl
   have HX7:Hid (∀w',Below wr.heap.size wr w'→w'.heap[g]? =some (.cells (L1.map pxv).toArray 51)):=Lib.hid (fun w' hb'=>HX.out.below hb')
   have hAd2:dn=true→IntKind.i64.wrap (((b - 1:Nat):Int) - (i:Int))=(A:Int):=fun h=>by
    have h1:=hAd h
    have h2:(((b - 1:Nat):Int) - (i:Int))=(A:Int):=by omega
    rw [h2]
    exact IntWalk.i64_in _ (by omega)
   have hAd1:IntKind.i64.wrap ((b:Int) - 1)=((b - 1:Nat):Int):=by
    have:(b:Int) - 1=((b - 1:Nat):Int):=by omega
    rw [this];exact IntWalk.i64_in _ (by omega)
   clear h1 h2 ho1 ho2 hcg hcs hL1 hst hcl hkeep hstp hfree hA q0 q1 q2 q3 q4 q5
   cases dn
   case true=>
    have e1:=hAd2 rfl
    clear hAd hAu hAd2
    go_upto_region 8 with (fail)
    refine zaC 9 (by kernel_rfl) (by kernel_rfl) (by kernel_rfl) ?_
    iterate 5 (refine zaK (fun K hK=>?_);go_simp;first | (refine hK _ ?_;clear hK K) | (apply Exists.intro;refine ⟨fun n=>?_,hK _ ?_⟩;(go_at_call 60;exact HR1.out n.world);clear hK K))
    iterate 4 (refine zaK (fun K hK=>?_);go_simp;first | (refine hK _ ?_;clear hK K) | (apply Exists.intro;refine ⟨fun n=>?_,hK _ ?_⟩;(go_at_call 60;exact HR2.out n.world);clear hK K))
    refine zbd ?_
    intro w7 hb7
    have Hb7:=Lib.hid hb7
    clear a0 a1 a2 r0 r1 r2 r3 y0 y1 y2 y3 hq hb7
    refine zci w7 rfl (.tmp 29) (.tmp 33) 24 rfl 51 Tryz.underlying24 zfs g o1 a (N - o1) ⟨g,o2,none⟩ a (N - o2) rfl rfl L1 cs 51 (HX7.out _ Hb7.out) (by rw [Hcl.out];exact (Nat.min_self a).symm) (HSr.out _ Hb7.out) (by rw [Hcl.out];omega) ?_
    intro w8 hp8 ht8
    rw [Hst.out] at hp8
    have HP8:Hid (PxB w8 g (upM wd x y a (upSt true b (i+1)) f L)):=Lib.hid hp8
    have HT8:Hid (Turns (fun i=>i=g) W2 w8):=Lib.hid ((HT.out.trans (Turns.of_below' Hb7.out)).trans ht8)
    clear hp8 ht8
    go_wp2
    go_roundw
    case rel=>exact ⟨i+1,by go_num,by omega,HP8,HT8⟩
    case measure=>simp [intOf];omega
   case false=>
    obtain rfl:=hAu rfl
    clear hAd hAu hAd2
    go_upto_region 8 with (fail)
    refine zaC 9 (by kernel_rfl) (by kernel_rfl) (by kernel_rfl) ?_
    iterate 5 (refine zaK (fun K hK=>?_);go_simp;first | (refine hK _ ?_;clear hK K) | (apply Exists.intro;refine ⟨fun n=>?_,hK _ ?_⟩;(go_at_call 60;exact HR1.out n.world);clear hK K))
    iterate 4 (refine zaK (fun K hK=>?_);go_simp;first | (refine hK _ ?_;clear hK K) | (apply Exists.intro;refine ⟨fun n=>?_,hK _ ?_⟩;(go_at_call 60;exact HR2.out n.world);clear hK K))
    refine zbd ?_
    intro w7 hb7
    have Hb7:=Lib.hid hb7
    clear a0 a1 a2 r0 r1 r2 r3 y0 y1 y2 y3 hq hb7
    refine zci w7 rfl (.tmp 29) (.tmp 33) 24 rfl 51 Tryz.underlying24 zfs g o1 a (N - o1) ⟨g,o2,none⟩ a (N - o2) rfl rfl L1 cs 51 (HX7.out _ Hb7.out) (by rw [Hcl.out];exact (Nat.min_self a).symm) (HSr.out _ Hb7.out) (by rw [Hcl.out];omega) ?_
    intro w8 hp8 ht8
    rw [Hst.out] at hp8
    have HP8:Hid (PxB w8 g (upM wd x y a (upSt false b (i+1)) f L)):=Lib.hid hp8
    have HT8:Hid (Turns (fun i=>i=g) W2 w8):=Lib.hid ((HT.out.trans (Turns.of_below' Hb7.out)).trans ht8)
    clear hp8 ht8
    go_wp2
    go_roundw
    case rel=>exact ⟨i+1,by go_num,by omega,HP8,HT8⟩
    case measure=>simp [intOf];omega
  ·obtain rfl:i=b:=by omega
   have d1:decide ((i:Int)<(i:Int))=false:=by simp
   have hX:=HX.out
   rw [show upM wd x y a (upSt dn i i) f L=upMv wd x y a i fx fy L from by unfold upMv;rw [←Hf.out,zd3 (zpc dn i)];exact zj2 ..] at hX
   have HX2:=Lib.hid hX
   clear hX
   go_wp2
   go_end0
   exact ⟨rfl,HX2.out,(Turns.of_below' Hb2.out).trans HT.out⟩
end
section
def plS (acc:List Nat) (c:Nat):List Nat:=if c∈acc then acc else acc++[c]
def plC:List Nat→List Nat→List Nat
 | acc,[]=>acc
 | acc,x::r=>plC (plS acc (rlw x)) r
def zae (l:List Nat):List Nat:=plC [] l
theorem zpZ {acc:List Nat} {c:Nat} (h:c∈acc):plS acc c=acc:=if_pos h
theorem zpM {acc:List Nat} {c:Nat} (h:c ∉ acc):plS acc c=acc++[c]:=if_neg h
theorem zp9 (acc:List Nat) (c:Nat):∃t,plS acc c=acc++t:=by
 unfold plS;split
 ·exact ⟨[],by simp⟩
 ·exact ⟨[c],rfl⟩
theorem zqc {acc:List Nat} {c x:Nat}:x∈plS acc c↔x∈acc∨x=c:=by
 unfold plS;split
 ·rename_i h
  exact ⟨.inl,fun h'=>h'.elim id (fun e=>by rw [e];exact h)⟩
 ·simp
theorem zp1:∀(l acc:List Nat),∃t,plC acc l=acc++t
 | [],acc=>⟨[],by simp [plC]⟩
 | x::r,acc=>by
  obtain ⟨t,e⟩:=zp9 acc (rlw x)
  obtain ⟨u,e2⟩:=zp1 r (plS acc (rlw x))
  exact ⟨t++u,by show plC (plS acc (rlw x)) r=_;rw [e2,e,List.append_assoc]⟩
theorem zf8:∀(a b acc:List Nat),plC acc (a++b)=plC (plC acc a) b
 | [],_,_=>rfl
 | x::a,b,acc=>zf8 a b (plS acc (rlw x))
theorem zcE:∀(l acc:List Nat) (c:Nat),c∈plC acc l↔c∈acc∨∃x∈l,rlw x=c
 | [],acc,c=>by simp [plC]
 | x::r,acc,c=>by
  show c∈plC (plS acc (rlw x)) r↔_
  rw [zcE r,zqc]
  constructor
  ·rintro ((h | h) | ⟨y,hy,e⟩)
   ·exact .inl h
   ·exact .inr ⟨x,by simp,h.symm⟩
   ·exact .inr ⟨y,by simp [hy],e⟩
  ·rintro (h | ⟨y,hy,e⟩)
   ·exact .inl (.inl h)
   ·rcases List.mem_cons.1 hy with rfl | hy
    ·exact .inl (.inr e.symm)
    ·exact .inr ⟨y,hy,e⟩
theorem zgk:∀(l acc:List Nat),acc.length≤(plC acc l).length∧(plC acc l).length≤acc.length+l.length
 | [],acc=>by simp [plC]
 | x::r,acc=>by
  have:=zgk r (plS acc (rlw x))
  have h2:acc.length≤(plS acc (rlw x)).length∧(plS acc (rlw x)).length≤acc.length+1:=by
   unfold plS;split<;>simp
  show acc.length≤(plC (plS acc (rlw x)) r).length∧(plC (plS acc (rlw x)) r).length≤_
  rw [List.length_cons];omega
theorem zfj (l:List Nat):∀c∈zae l,c<16777216:=by
 intro c hc
 rcases (zcE l [] c).1 hc with h | ⟨x,_,rfl⟩
 ·cases h
 ·exact zcI x
theorem zlQ {l:List Nat}:(zae l).length=0↔l=[]:=by
 constructor
 ·intro h
  cases l with
  | nil=>rfl
  | cons x r=>
   have:rlw x∈zae (x::r):=(zcE _ _ _).2 (.inr ⟨x,by simp,rfl⟩)
   rw [List.length_eq_zero_iff.1 h] at this
   cases this
 ·rintro rfl;rfl
theorem zod {l:List Nat} {i:Nat} (h:i<l.length) (acc:List Nat):plC acc (l.take (i+1))=plS (plC acc (l.take i)) (rlw (l.getD i 0)):=by
 rw [List.take_succ_eq_append_getElem h,zf8,List.getD_eq_getElem?_getD,List.getElem?_eq_getElem h]
 rfl
theorem znC {l:List Nat} {i:Nat} (acc:List Nat):(plC acc (l.take i)).length≤(plC acc l).length:=by
 have e:=zf8 (l.take i) (l.drop i) acc
 rw [List.take_append_drop] at e
 rw [e]
 exact (zgk _ _).1
def plI (c:Nat):List Nat→Nat
 | []=>0
 | x::r=>if x=c then 0 else plI c r+1
theorem zrg (c:Nat):∀l:List Nat,plI c l≤l.length
 | []=>Nat.le_refl _
 | x::r=>by
  have:=zrg c r
  unfold plI;split<;>simp <;>omega
theorem zid {c:Nat}:∀{l:List Nat},plI c l<l.length↔c∈l
 | []=>by simp [plI]
 | x::r=>by
  unfold plI
  split
  ·rename_i h;simp [h]
  ·rename_i h
   have:=zid (c:=c) (l:=r)
   rw [List.length_cons,List.mem_cons,Nat.add_lt_add_iff_right,this]
   exact ⟨.inr,fun h'=>h'.elim (fun e=>absurd e.symm h) id⟩
theorem zkE {c:Nat}:∀{l:List Nat},c∈l→l.getD (plI c l) 0=c
 | [],h=>by cases h
 | x::r,h=>by
  unfold plI
  split
  ·rename_i e;simpa using e
  ·rename_i e
   rw [List.getD_cons_succ]
   exact zkE ((List.mem_cons.1 h).resolve_left fun e'=>e e'.symm)
theorem zj9 {c:Nat} {t:List Nat}:∀{l:List Nat},c∈l→plI c (l++t)=plI c l
 | [],h=>by cases h
 | x::r,h=>by
  show (if x=c then 0 else plI c (r++t)+1)=if x=c then 0 else plI c r+1
  split
  ·rfl
  ·rename_i e
   rw [zj9 ((List.mem_cons.1 h).resolve_left fun e'=>e e'.symm)]
theorem zg6 {c:Nat}:∀{l:List Nat} {i:Nat},i≤l.length→(∀j,j<i→l.getD j 0≠c)→(i=l.length∨l.getD i 0=c)→plI c l=i
 | [],i,h,_,_=>by simp at h;subst h;rfl
 | x::r,0,_,_,h2=>by
  rcases h2 with h2 | h2
  ·simp at h2
  ·unfold plI;rw [if_pos (by simpa using h2)]
 | x::r,i+1,h,h1,h2=>by
  unfold plI
  rw [if_neg (by simpa using h1 0 (by omega)),zg6 (by simpa using h) (fun j hj=>by simpa using h1 (j+1) (by omega)) (by simpa using h2)]
def plZ (k:Nat):Nat:=if k≤1 then 0 else if k≤2 then 1 else if k≤4 then 2 else 4
theorem zhW (k:Nat):plZ k≤4:=by unfold plZ;split<;>(try split)<;>(try split)<;>omega
theorem zgp {k:Nat} (h:k≤16):k≤2^plZ k:=by
 unfold plZ;split
 ·simpa using by assumption
 ·split
  ·simpa using by assumption
  ·split
   ·simpa using by assumption
   ·simpa using h
def plN (s:Nat):List Nat→Nat
 | []=>0
 | v::r=>v+2^s*plN s r
theorem zhE (s v:Nat):∀l:List Nat,plN s (l++[v])=plN s l+v*2^(s*l.length)
 | []=>by simp [plN]
 | x::r=>by
  show x+2^s*plN s (r++[v])=x+2^s*plN s r+v*2^(s*(r.length+1))
  rw [zhE s v r,Nat.mul_add,Nat.mul_add s,Nat.mul_one,Nat.pow_add,Nat.add_assoc]
  congr 2
  rw [←Nat.mul_assoc,Nat.mul_comm (2^s) v,Nat.mul_assoc,Nat.mul_comm (2^s)]
def plB (c:Nat):List Nat:=[c/65536,c/256%256,c%256]
def plH (cs:List Nat):List Nat:=(cs.length - 1)::cs.flatMap plB
def plV (cs l:List Nat):List Nat:=l.map fun x=>plI (rlw x) cs
def plT (cs l:List Nat):List Nat:=byts (plN (plZ cs.length) (plV cs l)) ((plZ cs.length*l.length+7)/8)
theorem zdd (cs:List Nat):(plH cs).length=1+3*cs.length:=by
 have:(cs.flatMap plB).length=3*cs.length:=by
  induction cs with
  | nil=>rfl
  | cons c r ih=>rw [List.flatMap_cons,List.length_append,ih];simp [plB];omega
 unfold plH;rw [List.length_cons,this];omega
theorem zgE (cs l:List Nat):(plT cs l).length=(plZ cs.length*l.length+7)/8:=zaH _ _
theorem zcD (cs l:List Nat):(plV cs l).length=l.length:=List.length_map _
def plE (l:List Nat):List Nat×Bool:=if (zae l).length<1∨16<(zae l).length then ([],false) else (plH (zae l)++plT (zae l) l,true)
theorem zl4 {l:List Nat} (h:(zae l).length<1∨16<(zae l).length):plE l=([],false):=if_pos h
theorem zkm {l:List Nat} (h:¬((zae l).length<1∨16<(zae l).length)):plE l=(plH (zae l)++plT (zae l) l,true):=if_neg h
theorem zjW {l:List Nat} (h:l.length≤1048576):(plE l).1.length≤1048576:=by
 unfold plE
 split
 ·simp
 ·rw [List.length_append,zdd,zgE]
  have:=zhW (zae l).length
  have h2:plZ (zae l).length*l.length≤4*1048576:=Nat.mul_le_mul this h
  omega
def zar:List Nat→List Nat
 | a::b::c::r=>(a*65536+b*256+c)::zar r
 | _=>[]
def plG (b:List Nat) (s n:Nat):List Nat:=(List.range n).map fun i=>numB b/2^(s*i)%2^s
def plPx (cs b:List Nat) (n:Nat):Option (List Nat):=
 if b.length≠(n*plZ cs.length+7)/8 then none else if ∃v∈plG b (plZ cs.length) n,cs.length≤v then none else if numB b/2^(n*plZ cs.length)≠0 then none else some ((plG b (plZ cs.length) n).map fun v=>cs.getD v 0)
def plD (b:List Nat) (n:Int):List Nat×Int:=
 if n<1∨65536<n then ([],1)
 else if b.length=0∨16≤b.getD 0 0∨b.length<1+3*(b.getD 0 0+1) then ([],131)
 else match plPx (zar ((b.drop 1).take (3*(b.getD 0 0+1)))) (b.drop (1+3*(b.getD 0 0+1))) n.toNat with
  | none=>([],131)
  | some l=>(l,0)
theorem zkz {b:List Nat} {n:Int} (h:n<1∨65536<n):plD b n=([],1):=if_pos h
theorem ziD {b:List Nat} {n:Int} (h:¬(n<1∨65536<n)) (h2:b.length=0∨16≤b.getD 0 0∨b.length<1+3*(b.getD 0 0+1)):plD b n=([],131):=by unfold plD;rw [if_neg h,if_pos h2]
theorem zf5 {b:List Nat} {n:Int} (h:¬(n<1∨65536<n)) (h2:¬(b.length=0∨16≤b.getD 0 0∨b.length<1+3*(b.getD 0 0+1))):plD b n=match plPx (zar ((b.drop 1).take (3*(b.getD 0 0+1)))) (b.drop (1+3*(b.getD 0 0+1))) n.toNat with | none=>([],131) | some l=>(l,0):=by unfold plD;rw [if_neg h,if_neg h2]
theorem zeu (b:List Nat) (s n:Nat):(plG b s n).length=n:=by simp [plG]
theorem zmU (b:List Nat) (s n i:Nat) (h:i<(plG b s n).length):(plG b s n)[i]=numB b/2^(s*i)%2^s:=by simp [plG]
theorem zbw:∀(k:Nat) (b:List Nat),b.length=3*k→(zar b).length=k
 | 0,b,h=>by rw [List.length_eq_zero_iff.1 (by omega:b.length=0)];rfl
 | k+1,[],h=>by simp at h
 | k+1,[_],h=>by simp at h;omega
 | k+1,[_,_],h=>by simp at h;omega
 | k+1,_::_::_::r,h=>by
  show (zar r).length+1=k+1
  rw [zbw k r (by simp at h;omega)]
end
section
def cdP (l:List Nat):List Nat:=(l.map rlw).flatMap plB
theorem zhy (x:Nat) (l:List Nat):cdP (x::l)=plB (rlw x)++cdP l:=rfl
theorem zj0 (a b:List Nat):cdP (a++b)=cdP a++cdP b:=by unfold cdP;rw [List.map_append,List.flatMap_append]
theorem zbc:∀l:List Nat,(cdP l).length=3*l.length
 | []=>rfl
 | x::l=>by rw [zhy,List.length_append,zbc l];simp [plB];omega
theorem zqA {c:Nat} (h:c<16777216):∀x∈plB c,x<256:=by
 intro x hx
 simp only [plB,List.mem_cons,List.not_mem_nil,or_false] at hx
 rcases hx with rfl | rfl | rfl<;>omega
theorem zet (l:List Nat):∀x∈cdP l,x<256:=by
 intro x hx
 obtain ⟨c,hc,hx⟩:=List.mem_flatMap.1 hx
 obtain ⟨y,-,rfl⟩:=List.mem_map.1 hc
 exact zqA (zcI y) x hx
theorem zcU:∀(b:List Nat),(∀x∈b,x<256)→∀c∈zar b,c<16777216
 | x::y::z::r,h,c,hc=>by
  rcases List.mem_cons.1 (show c∈(x*65536+y*256+z)::zar r from hc) with rfl | hc
  ·have h1:=h x (by simp);have h2:=h y (by simp);have h3:=h z (by simp);omega
  ·exact zcU r (fun q hq=>h q (by simp [hq])) c hc
 | [],_,c,hc=>by simp [zar] at hc
 | [_],_,c,hc=>by simp [zar] at hc
 | [_,_],_,c,hc=>by simp [zar] at hc
def cdS (acc:Nat×List Nat) (k:Nat) (b:List Nat) (is:Bool):Nat×List Nat:=if is=true∧(acc.1=0∨b.length<acc.2.length) then (k,b) else acc
theorem zas {acc:Nat×List Nat} {k:Nat} {b:List Nat} {is:Bool} (h:is=true∧(acc.1=0∨b.length<acc.2.length)):cdS acc k b is=(k,b):=if_pos h
theorem zat {acc:Nat×List Nat} {k:Nat} {b:List Nat} {is:Bool} (h:¬(is=true∧(acc.1=0∨b.length<acc.2.length))):cdS acc k b is=acc:=if_neg h
def cdW (l S:List Nat):Nat→List Nat×Bool
 | 0=>(cdP l,true)
 | 1=>(rlBs (rlO l),true)
 | 2=>plE l
 | _=>(S,true)
def cdG (l S:List Nat):Nat→Nat×List Nat
 | 0=>(0,[])
 | i+1=>cdS (cdG l S i) (i+1) (cdW l S i).1 (cdW l S i).2
def cdE (l S:List Nat):Nat×List Nat:=cdG l S 4
theorem zp7 {acc:Nat×List Nat} {k:Nat} {b:List Nat} {is:Bool} (h:acc.1≠0):(cdS acc k b is).2.length≤acc.2.length∧(is=true→(cdS acc k b is).2.length≤b.length):=by
 by_cases h1:is=true∧(acc.1=0∨b.length<acc.2.length)
 ·rw [zas h1]
  obtain ⟨e,h1⟩:=h1
  dsimp only
  omega
 ·rw [zat h1]
  exact ⟨Nat.le_refl _,fun e=>Nat.le_of_not_lt fun q=>h1 ⟨e,.inr q⟩⟩
theorem zjN (l S:List Nat):cdG l S 1=(1,cdP l):=rfl
theorem zdH (l S:List Nat):∀i,(cdG l S (i+1)).1≠0∧(cdG l S (i+1)).1≤i+1
 | 0=>by rw [zjN];simp
 | i+1=>by
  have ih:=zdH l S i
  show (cdS _ _ _ _).1≠0∧(cdS _ _ _ _).1≤_
  by_cases h:(cdW l S (i+1)).2=true∧((cdG l S (i+1)).1=0∨(cdW l S (i+1)).1.length<(cdG l S (i+1)).2.length)
  ·rw [zas h];simp
  ·rw [zat h];omega
theorem zgI (l S:List Nat):∀i j,j≤i→(cdW l S j).2=true→(cdG l S (i+1)).2.length≤(cdW l S j).1.length
  | 0, j, hj, _ => by obtain rfl : j = 0 := by omega
                      exact Nat.le_refl _
  | i+1,j,hj,h=>by
    have hk:=(zdH l S i).1
    have hl:=zp7 (k:=i+2) (b:=(cdW l S (i+1)).1) (is:=(cdW l S (i+1)).2) hk
    by_cases e:j=i+1
    · subst e
      exact hl.2 h
    · exact Nat.le_trans hl.1 (zgI l S i j (by omega) h)
theorem zmd (l S:List Nat) {j:Nat} (hj:j≤3) (h:(cdW l S j).2=true):(cdE l S).2.length≤(cdW l S j).1.length:=zgI l S 3 j hj h
theorem zku (l S:List Nat):(cdE l S).2.length≤3*l.length:=by
 have:=zmd l S (j:=0) (by omega) rfl
 rwa [show (cdW l S 0).1=cdP l from rfl,zbc] at this
end
section
open Go.RowKit
end
end Go.Proofs.YtedakhgaghfogaaGreat
