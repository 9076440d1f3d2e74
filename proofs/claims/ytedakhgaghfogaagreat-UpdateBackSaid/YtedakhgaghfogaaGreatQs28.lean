/- Several texts in one, each with its own head. -/
import Derived.Test.YtedakhgaghfogaaGreatQs27
import Derived.Test.YtedakhgaghfogaaGreatQs19
import Derived.Test.YtedakhgaghfogaaGreatQs10
import Derived.Test.YtedakhgaghfogaaGreatQs17
import Derived.Test.YtedakhgaghfogaaGreatQs8
namespace Go.Proofs.YtedakhgaghfogaaGreat
section
theorem zp3 (f:Nat→Nat) (n:Nat):ctZ f n=ctL f n:=rfl
theorem zh3 {xs:List Pa} {j n lim:Nat} (hn:n≤320) (hl:xs.length≤1000000) (h1:1≤lim) (h15:lim≤15) (hm:n≤2^lim):mayB (ctZ (cntP xs j) n) (lim:Int)=true∧many n (fq (ctZ (cntP xs j) n))≤2^lim:=by
 have h:=zpR (f:=cntP xs j) hn (fun i=>Nat.le_trans (zjS xs j i) hl)
 refine ⟨?_,Nat.le_trans (zgx _ _) hm⟩
 unfold mayB at h ⊢
 rw [Bool.and_eq_true] at h ⊢
 refine ⟨?_,h.2⟩
 rw [zaB]
 exact decide_eq_true ⟨by omega,by omega,hn⟩
theorem zbP {xs:List Pa} {j n lim:Nat} {g:Nat→Nat} (h:LensOk (ctZ (cntP xs j) n) lim g) {x:Pa} (hx:x∈xs) (hc:x.c=j) (hs:x.s<n):0<lq (gl g n) x.s:=by
 rw [zfE g hs]
 refine ((h.le x.s (by rw [zaB];exact hs)).2).2 ?_
 rw [zp3,zrr _ hs]
 unfold cntP
 exact List.countP_pos_iff.2 ⟨x,hx,by simp [hc]⟩
theorem zaZ {xs:List Pa} {j n lim:Nat} {g:Nat→Nat} (h:LensOk (ctZ (cntP xs j) n) lim g) (h15:lim≤15) (hn:n≤320):chk (gl g n)=0:=by
 have:=zhL h h15 (by rw [zaB];exact hn)
 rwa [zaB] at this
theorem zj7 {xs:List Pa} {j n lim:Nat} {g:Nat→Nat} (h:LensOk (ctZ (cntP xs j) n) lim g) (i:Nat):lq (gl g n) i≤lim:=by
 by_cases hi:i<n
 ·rw [zfE g hi]
  exact (h.le i (by rw [zaB];exact hi)).1
 ·unfold lq
  rw [List.getD_eq_getElem?_getD,List.getElem?_eq_none (by rw [zap];omega)]
  exact Nat.zero_le _
theorem zki {ts:List Tk} {g k:Nat→Nat} (hx:∀t∈ts,t.okB=true∧t.b<256) (h1:LensOk (ctZ (cntP (pasT ts) 0) 286) 15 g) (h2:LensOk (ctZ (cntP (pasT ts) 1) 30) 15 k):
  (∀t∈ts,codT (gl g 286) (gl k 30) t)∧0<lq (gl g 286) 256:=by
 refine ⟨fun t ht=>?_,zbP (x:=⟨0,256,0,0⟩) h1 (List.mem_append_right _ (List.mem_singleton.2 rfl)) rfl (by decide)⟩
 have hin:∀x∈paT t,x∈pasT ts:=fun x hxm=>List.mem_append_left _ (List.mem_flatMap.2 ⟨t,ht,hxm⟩)
 refine ⟨fun h0=>?_,fun h0=>?_⟩
 ·have hb:=(hx t ht).2
  rw [zap]
  exact ⟨hb,by omega,zbP (x:=⟨0,t.b,0,0⟩) h1 (hin _ (by unfold paT;rw [if_pos h0];exact List.mem_singleton.2 rfl)) rfl (by show t.b<286;omega)⟩
 ·rcases zcH (hx t ht).1 with e | ⟨n,d,e1,e2,n1,n2,n3,n4⟩
  ·exact absurd e h0
  ·have f1:t.n.toNat=n:=by omega
   have f2:t.d.toNat=d:=by omega
   obtain ⟨s1,s2,-⟩:=zbQ n (by omega) n1
   obtain ⟨r1,-⟩:=zbx n3 n4
   have hp:paT t=[lnP n,dsP d]:=by unfold paT;rw [if_neg h0,f1,f2]
   rw [f1,f2,zap,zap]
   refine ⟨by omega,zbP (x:=lnP n) h1 (hin _ (by rw [hp];exact List.mem_cons_self)) rfl (by show zal n<286;omega),by omega,zbP (x:=dsP d) h2 (hin _ (by rw [hp];exact List.mem_cons_of_mem _ (List.mem_singleton.2 rfl))) rfl (by show zaq d<30;omega)⟩
end
section
theorem zq4 {x k y a:Nat} (h:x<16):(rnQ x k y a).1.c=0∧(rnQ x k y a).1.s<19∧(rnQ x k y a).1.m<2^(rnQ x k y a).1.z∧(rnQ x k y a).1.z≤7:=by
 unfold rnQ
 by_cases h1:x=0∧11≤k
 ·rw [if_pos h1]
  exact ⟨rfl,by show 18<19;decide,by show min k 138 - 11<128;omega,by show 7≤7;decide⟩
 ·rw [if_neg h1]
  by_cases h2:x=0∧3≤k
  ·rw [if_pos h2]
   exact ⟨rfl,by show 17<19;decide,by show k - 3<8;omega,by show 3≤7;decide⟩
  ·rw [if_neg h2]
   by_cases h3:3≤k∧0<a∧x=y
   ·rw [if_pos h3]
    exact ⟨rfl,by show 16<19;decide,by show min k 6 - 3<4;omega,by show 2≤7;decide⟩
   ·rw [if_neg h3]
    exact ⟨rfl,by show x<19;omega,by show 0<1;decide,by show 0≤7;decide⟩
theorem zhR {V:List Nat} (h:∀i,lq V i<16):∀(f i:Nat),∀x∈rnF V f i,x.c=0∧x.s<19∧x.m<2^x.z∧x.z≤7
 | 0,i,x,hx=>by cases hx
 | f+1,i,x,hx=>by
  by_cases hi:i<V.length
  ·rw [zcg hi] at hx
   rcases List.mem_cons.1 hx with rfl | hx
   ·exact zq4 (h i)
   ·exact zhR h f _ x hx
  ·rw [zes (by omega)] at hx
   cases hx
theorem zgu (V:List Nat):∀(f i:Nat),i≤V.length→(rnF V f i).length≤V.length - i
 | 0,i,_=>Nat.zero_le _
 | f+1,i,h=>by
  by_cases hi:i<V.length
  ·obtain ⟨r1,r2⟩:=zil hi
   have:=zgu V f (i+(rnP V i).2) r2
   rw [zcg hi,List.length_cons]
   omega
  ·rw [zes (by omega)]
   exact Nat.zero_le _
theorem zdp {V:List Nat} {g:Nat→Nat} (h16:∀i,lq V i<16) (h:LensOk (ctZ (cntP (rnL V) 0) 19) 7 g):
  chk (gl g 19)=0∧(∀x∈rnL V,x.c=0∧x.s<(gl g 19).length∧0<lq (gl g 19) x.s)∧(∀x∈rnL V,PaOk [gl g 19] x)∧(∀i,lq (gl g 19) i<8)∧szP ((rnL V).flatMap (plP [gl g 19]))≤22*V.length:=by
 have hok:=zhR h16 (V.length+1) 0
 have hl:=zgu V (V.length+1) 0 (Nat.zero_le _)
 have hh:∀x∈rnL V,x.c=0∧x.s<(gl g 19).length∧0<lq (gl g 19) x.s:=fun x hx=>by
  obtain ⟨h1,h2,-⟩:=hok x hx
  rw [zap]
  exact ⟨h1,h2,zbP h hx h1 h2⟩
 refine ⟨zaZ h (by decide) (by decide),hh,fun x hx=>?_,fun i=>by have:=zj7 h i;omega,?_⟩
 ·obtain ⟨h1,-,h3,h4⟩:=hok x hx
  obtain ⟨-,k2,k3⟩:=hh x hx
  unfold PaOk
  rw [h1]
  exact ⟨by show 0<1;decide,k2,k3,h3,by omega⟩
 ·have:=zr2 (C:=gl g 19) (fun i=>by have:=zj7 h i;omega) (xs:=rnL V) (fun x hx=>⟨(hok x hx).1,(hok x hx).2.2.2⟩)
  have hl':(rnL V).length≤V.length:=by show (rnF V (V.length+1) 0).length≤V.length;omega
  omega
theorem zpU {V:List Nat} (h16:∀i,lq V i<16):(∀x∈rnL V,x.c<1∧x.s<19)∧(rnL V).length≤V.length:=by
 refine ⟨fun x hx=>?_,by have:=zgu V (V.length+1) 0 (Nat.zero_le _);show (rnF V (V.length+1) 0).length≤V.length;omega⟩
 obtain ⟨h1,h2,-⟩:=zhR h16 (V.length+1) 0 x hx
 exact ⟨by omega,h2⟩
end
section
end
section
open Go.RowKit
def BestOf (fs:List Int) (lim:Nat) (g:Nat→Nat):Prop:=LensOk fs lim g∧(many fs.length (fq fs)≠1→LensD fs lim g)
theorem BestOf.det {fs:List Int} {lim:Nat} {g g':Nat→Nat} (h:BestOf fs lim g) (k:BestOf fs lim g'):gl g fs.length=gl g' fs.length:=by
 by_cases h1:many fs.length (fq fs)=1
 ·unfold gl
  refine List.map_congr_left fun i hi=>?_
  have hi':i<fs.length:=List.mem_range.1 hi
  have a1:=h.1.one h1 i hi'
  have a2:=k.1.one h1 i hi'
  have b1:=(h.1.le i hi').2
  have b2:=(k.1.le i hi').2
  by_cases h0:0<fq fs i
  ·have:=b1.2 h0;have:=b2.2 h0;omega
  ·have c1:¬0<g i:=fun h=>h0 (b1.1 h)
   have c2:¬0<g' i:=fun h=>h0 (b2.1 h)
   omega
 ·rw [(h.2 h1).det (k.2 h1)]
theorem zeP {w:World} {base s:Nat} {e:TypeId} {v:Value} {n:Nat} {xs:List Value} (h:w.ownsRow base e s v n xs) (h0:0<n):∃g c cur,v= .slice (some ⟨g,0,none⟩) n c∧base≤g∧(n≤c∧c≤maxLen)∧w.heap[g]? =some (.cells cur e)∧∀(i:Nat) (x:Value),xs[i]? =some x→cur[i]? =some x:=by
 obtain ⟨hl,⟨-,h⟩ | ⟨g,c,cur,e1,e2,e3,e4,e5,e6,e7⟩⟩:=h
 ·omega
 ·refine ⟨g,c,cur,e1,e2,⟨e4,e5⟩,e3,fun i x hx=>?_⟩
  have hi:i<n*s:=by rw [←hl];exact (List.getElem?_eq_some_iff.1 hx).1
  rw [←e7,List.getElem?_take,if_pos hi,Array.getElem?_toList] at hx
  exact hx
theorem ziO {X Y:List Nat} (hx:∀i,lq X i≤15) (hy:∀i,lq Y i≤15) (i:Nat):lq (X++Y) i<16:=by
 unfold lq
 rw [List.getD_eq_getElem?_getD,List.getElem?_append]
 split
 ·have:=hx i
  unfold lq at this
  rw [List.getD_eq_getElem?_getD] at this
  omega
 ·have:=hy (i - X.length)
  unfold lq at this
  rw [List.getD_eq_getElem?_getD] at this
  omega
theorem zn5 (l:List Nat):(ordO l).length=19:=by unfold ordO;rw [List.length_map];rfl
theorem zgy (l:List Nat) {i:Nat} (hi:i<19):lq (ordO l) i=lq l (ordL.getD i 0):=by
 have hi':i<ordL.length:=hi
 show (ordO l).getD i 0=_
 unfold ordO
 rw [List.getD_eq_getElem?_getD,List.getElem?_map,List.getElem?_eq_getElem hi',List.getD_eq_getElem?_getD,List.getElem?_eq_getElem hi'];rfl
theorem zof (C:List Nat) {i:Nat} (hi:i<19):(ordL.take (i+1)).map (fun i=>((lq C i,3):Nat×Nat))=(ordL.take i).map (fun i=>(lq C i,3))++[(lq (ordO C) i,3)]:=by
 have hi':i<ordL.length:=hi
 rw [List.take_succ_eq_append_getElem hi',List.map_append,zgy C hi,List.getD_eq_getElem?_getD,List.getElem?_eq_getElem hi'];rfl
theorem zgq (C:List Nat) {i:Nat} (hi:i≤19):szP ((ordL.take i).map (fun i=>((lq C i,3):Nat×Nat)))=3*i:=by
 rw [zbi,List.length_take,show ordL.length=19 from rfl];omega
theorem zo6 {w:World} {base base':Nat} {v1 v2:Value} {A D:List Nat} {g ga ca gc cc ga' ca' gc' cc':Nat} {cur:Array Value} {t:TypeId} (h1:Cdr w base v1 A ga ca gc cc) (h2:Cdr w base' v2 D ga' ca' gc' cc')
  (hg:w.heap[g]? =some (.cells cur t)) (k0:cur[0]? =some (.slice (some ⟨ga,0,none⟩) A.length ca)) (k1:cur[1]? =some (.slice (some ⟨gc,0,none⟩) A.length cc)) (k2:cur[2]? =some (.slice (some ⟨ga',0,none⟩) D.length ca')) (k3:cur[3]? =some (.slice (some ⟨gc',0,none⟩) D.length cc')):CdF g (two ga ga') (two ca ca') (two gc gc') (two cc cc') [A,D] w:=by
 obtain ⟨cur1,t1,a1,a2⟩:=h1.oa
 obtain ⟨cur2,t2,b1,b2⟩:=h1.oc
 obtain ⟨cur3,t3,c1,c2⟩:=h2.oa
 obtain ⟨cur4,t4,d1,d2⟩:=h2.oc
 have h01:∀j,j<[A,D].length→j=0∨j=1:=fun j hj=>by simp at hj;omega
 refine ⟨fun j hj=>?_,fun j hj=>?_,fun j hj i hi=>?_,fun j hj i hi hp=>?_⟩
 all_goals rcases h01 j hj with rfl | rfl
 ·exact zaa hg k0
 ·exact zaa hg k2
 ·exact zaa hg k1
 ·exact zaa hg k3
 ·exact zaa a1 (a2 i hi)
 ·exact zaa c1 (c2 i hi)
 ·exact zaa b1 (b2 i hi hp)
 ·exact zaa d1 (d2 i hi hp)
theorem znT {w:World} {base:Nat} {v1:Value} {A:List Nat} {g ga ca gc cc:Nat} {cur:Array Value} {t:TypeId} (h1:Cdr w base v1 A ga ca gc cc)
  (hg:w.heap[g]? =some (.cells cur t)) (k0:cur[0]? =some (.slice (some ⟨ga,0,none⟩) A.length ca)) (k1:cur[1]? =some (.slice (some ⟨gc,0,none⟩) A.length cc)):CdF g (fun _=>ga) (fun _=>ca) (fun _=>gc) (fun _=>cc) [A] w:=by
 obtain ⟨cur1,t1,a1,a2⟩:=h1.oa
 obtain ⟨cur2,t2,b1,b2⟩:=h1.oc
 have h01:∀j,j<[A].length→j=0:=fun j hj=>by simp at hj;omega
 refine ⟨fun j hj=>?_,fun j hj=>?_,fun j hj i hi=>?_,fun j hj i hi hp=>?_⟩
 all_goals obtain rfl:=h01 j hj
 ·exact zaa hg k0
 ·exact zaa hg k1
 ·exact zaa a1 (a2 i hi)
 ·exact zaa b1 (b2 i hi hp)
theorem BsC.one {W w:World} {lim n0:Nat} {fs:Nat→List Int} {v:Value} {gg ga ca gc cc:Nat→Nat→Nat} (h:BsC W lim fs 1 v gg ga ca gc cc w) (e0:(fs 0).length=n0):
  ∃g cp cur xa ya xc yc,v= .slice (some ⟨g,0,none⟩) 1 cp∧W.heap.size≤g∧w.heap[g]? =some (.cells cur 234)∧cur[0]? =some (.slice (some ⟨xa,0,none⟩) n0 ya)∧cur[1]? =some (.slice (some ⟨xc,0,none⟩) n0 yc)∧
   Cdr w W.heap.size (.agg #[.slice (some ⟨xa,0,none⟩) n0 ya,.slice (some ⟨xc,0,none⟩) n0 yc]) (gl (gg 0) n0) xa ya xc yc∧BestOf (fs 0) lim (gg 0):=by
 obtain ⟨g,cp,cur,rfl,h1,-,h2,h3⟩:=zeP h.own (by decide)
 obtain ⟨cv,h4⟩:=h.cdr 0 (by decide)
 rw [e0] at h4
 have he:=h4.e
 rw [zap] at he
 subst he
 refine ⟨g,cp,cur,ga 0 0,ca 0 0,gc 0 0,cc 0 0,rfl,h1,h2,h3 0 _ ?_,h3 1 _ ?_,h4,h.ok 0 (by decide)⟩
 ·simp [cdrL,zap,e0]
 ·simp [cdrL,zap,e0]
theorem BsC.both {W w:World} {lim n0 n1:Nat} {fs:Nat→List Int} {v:Value} {gg ga ca gc cc:Nat→Nat→Nat} (h:BsC W lim fs 2 v gg ga ca gc cc w) (e0:(fs 0).length=n0) (e1:(fs 1).length=n1):
  ∃g cp cur xa ya xc yc xa' ya' xc' yc',v= .slice (some ⟨g,0,none⟩) 2 cp∧W.heap.size≤g∧w.heap[g]? =some (.cells cur 234)∧(cur[0]? =some (.slice (some ⟨xa,0,none⟩) n0 ya)∧cur[1]? =some (.slice (some ⟨xc,0,none⟩) n0 yc)∧cur[2]? =some (.slice (some ⟨xa',0,none⟩) n1 ya')∧cur[3]? =some (.slice (some ⟨xc',0,none⟩) n1 yc'))∧
   Cdr w W.heap.size (.agg #[.slice (some ⟨xa,0,none⟩) n0 ya,.slice (some ⟨xc,0,none⟩) n0 yc]) (gl (gg 0) n0) xa ya xc yc∧Cdr w W.heap.size (.agg #[.slice (some ⟨xa',0,none⟩) n1 ya',.slice (some ⟨xc',0,none⟩) n1 yc']) (gl (gg 1) n1) xa' ya' xc' yc'∧BestOf (fs 0) lim (gg 0)∧BestOf (fs 1) lim (gg 1):=by
 obtain ⟨g,cp,cur,rfl,h1,-,h2,h3⟩:=zeP h.own (by decide)
 obtain ⟨cv,h4⟩:=h.cdr 0 (by decide)
 obtain ⟨cv',h5⟩:=h.cdr 1 (by decide)
 rw [e0] at h4
 rw [e1] at h5
 have he:=h4.e
 have he':=h5.e
 rw [zap] at he he'
 subst he he'
 refine ⟨g,cp,cur,ga 0 0,ca 0 0,gc 0 0,cc 0 0,ga 0 1,ca 0 1,gc 0 1,cc 0 1,rfl,h1,h2,⟨h3 0 _ ?_,h3 1 _ ?_,h3 2 _ ?_,h3 3 _ ?_⟩,h4,h5,h.ok 0 (by decide),h.ok 1 (by decide)⟩
 all_goals simp [cdrL,zap,e0,e1,List.range_succ]
end
section
open Go.RowKit
theorem zda:∀{ts:List Tk} {o:List Nat},(xp ts o).2=0→∀t∈ts,t.okB=true
 | [],_,_,t,ht=>by cases ht
 | x::r,o,h,t,ht=>by
  by_cases e:zba x o.length=0
  ·rw [zbn e] at h
   rcases List.mem_cons.1 ht with rfl | ht
   ·exact (zdF e).1
   ·exact zda h t ht
  ·rw [zbr e] at h
   exact absurd h e
def fixP (ts:List Tk):Pt:=[(1,1),(1,2)]++(pasT ts).flatMap (plP [fixA,fixD])
def cutX (A:List Nat):List Nat:=A.take (trN A 257 286)
def cutY (D:List Nat):List Nat:=D.take (trN D 1 30)
def dynP (ts:List Tk) (A D C:List Nat):Pt:=[(1,1),(2,2)]++putR (cutX A) (cutY D) C (trN (ordO C) 4 19)++(pasT ts).flatMap (plP [A,D])
structure DynF (ts:List Tk) (P:Pt):Prop where
 ex:∃gA gD gC,BestOf (ctZ (cntP (pasT ts) 0) 286) 15 gA∧BestOf (ctZ (cntP (pasT ts) 1) 30) 15 gD∧BestOf (ctZ (cntP (rnL (cutX (gl gA 286)++cutY (gl gD 30))) 0) 19) 7 gC∧P=dynP ts (gl gA 286) (gl gD 30) (gl gC 19)
theorem DynF.det {ts:List Tk} {P P':Pt} (h:DynF ts P) (k:DynF ts P'):P=P':=by
 obtain ⟨gA,gD,gC,a1,a2,a3,rfl⟩:=h.ex
 obtain ⟨gA',gD',gC',b1,b2,b3,rfl⟩:=k.ex
 have e1:=a1.det b1
 have e2:=a2.det b2
 rw [zaB] at e1 e2
 rw [←e1,←e2] at b3
 have e3:=a3.det b3
 rw [zaB] at e3
 rw [e1,e2,e3]
structure DynK (A D C:List Nat):Prop where
 x1:257≤(cutX A).length∧(cutX A).length≤286
 y1:1≤(cutY D).length∧(cutY D).length≤30
 k:4≤trN (ordO C) 4 19∧trN (ordO C) 4 19≤19
 cx:chk (cutX A)=0
 cy:chk (cutY D)=0
 h16:∀i,lq (cutX A++cutY D) i<16
 hz:∀j,trN (ordO C) 4 19≤j→j<19→lq C (ordL.getD j 0)=0
theorem DynK.of {A D:List Nat} (C:List Nat) (hA:A.length=286) (hD:D.length=30) (cA:chk A=0) (cD:chk D=0):DynK A D C:=by
 have cutA:Cut A (trN A 257 286):=by have:=Cut.of A 257;rwa [hA] at this
 have cutD:Cut D (trN D 1 30):=by have:=Cut.of D 1;rwa [hD] at this
 have cx:chk (cutX A)=0:=cutA.chk cA
 have cy:chk (cutY D)=0:=cutD.chk cD
 refine ⟨?_,?_,⟨zbA _ _ _ (by decide),zcq _ _ _⟩,cx,cy,ziO (zb6 cx) (zb6 cy),fun j h1 h2=>?_⟩
 ·show 257≤(A.take _).length∧(A.take _).length≤286
  rw [cutA.len]
  exact ⟨zbA A 257 286 (by decide),zcq _ _ _⟩
 ·show 1≤(D.take _).length∧(D.take _).length≤30
  rw [cutD.len]
  exact ⟨zbA D 1 30 (by decide),zcq _ _ _⟩
 ·rw [←zgy C h2]
  exact zfi (ordO C) 4 19 j h1 h2
theorem zkd {X Y C:List Nat} {k:Nat} (x1:X.length≤286) (y1:Y.length≤30) (k4:k≤19) (h:szP ((rnL (X++Y)).flatMap (plP [C]))≤22*(X++Y).length):szP (putR X Y C k)≤7023:=by
 unfold putR
 rw [List.length_append] at h
 simp only [szP,zaj,zbi,List.length_take]
 have:min k ordL.length≤19:=by omega
 omega
theorem zre {ts:List Tk} {b:List Nat} (hx:xp ts []=(b,0)):szP ((pasT ts).flatMap (plP [fixA,fixD]))≤15*b.length+15:=by
 have h2:(xp ts []).2=0:=by rw [hx]
 have s2:=zfA (zb6 zcM) (zb6 zcP) (ts:=ts) (zda h2)
 have s3:=zdD h2
 rw [hx] at s3
 simp only [List.length_nil,Nat.zero_add] at s3
 rwa [←s3] at s2
def zbN (P Q:Pt):Pt:=if szP Q<szP P then Q else P
structure DefS (b S:List Nat):Prop where
 ex:∃ts P,Toks (fb b) b.length 0 ts∧(∀t∈ts,t.b<256)∧DynF ts P∧S=bytP (zbN (zbN (putB 0 (stB b)) (fixP ts)) P)
theorem DefS.det {b S S':List Nat} (h:DefS b S) (k:DefS b S'):S=S':=by
 obtain ⟨ts,P,h1,-,h2,rfl⟩:=h.ex
 obtain ⟨ts',P',k1,-,k2,rfl⟩:=k.ex
 obtain rfl:=h1.uniq k1
 obtain rfl:=h2.det k2
 rfl
end
section
theorem znn {b:List Nat} {n:Int} (h:(rlD b n).2=0):b.length%4=0∧((rlay (rlT b)).length:Int)=n∧(rlD b n).1=rlay (rlT b):=by
 by_cases h1:n<0∨65536<n
 ·rw [zgr h1] at h;exact absurd h (by decide)
 by_cases h2:b.length%4=0
 ·by_cases h3:((rlay (rlT b)).length:Int)=n
  ·exact ⟨h2,h3,by rw [zgj h1 h2 h3]⟩
  ·rw [zh8 h1 h3] at h;exact absurd h (by decide)
 ·rw [zjK h1 h2] at h;exact absurd h (by decide)
theorem zkM {cs r L:List Nat} {n:Nat} (h:plPx cs r n=some L):r.length=(n*plZ cs.length+7)/8∧(∀v∈plG r (plZ cs.length) n,v<cs.length)∧L=(plG r (plZ cs.length) n).map fun v=>cs.getD v 0:=by
 unfold plPx at h
 split at h
 ·cases h
 rename_i h1
 split at h
 ·cases h
 rename_i h2
 split at h
 ·cases h
 ·injection h with h
  exact ⟨Classical.not_not.1 h1,fun v hv=>Nat.lt_of_not_le fun hle=>h2 ⟨v,hv,hle⟩,h.symm⟩
theorem zlV {b:List Nat} {n:Nat} (h:(plD b n).2=0):∃cs:List Nat,cs=zar ((b.drop 1).take (3*(b.getD 0 0+1)))∧1≤cs.length∧cs.length≤16∧b.length=1+3*cs.length+(n*plZ cs.length+7)/8∧(plD b n).1.length=n∧∀c∈(plD b n).1,c∈cs:=by
 by_cases h1:(n:Int)<1∨65536<(n:Int)
 ·rw [zkz h1] at h;exact absurd h (by decide)
 by_cases h2:b.length=0∨16≤b.getD 0 0∨b.length<1+3*(b.getD 0 0+1)
 ·rw [ziD h1 h2] at h;exact absurd h (by decide)
 rw [zf5 h1 h2,Int.toNat_natCast] at h ⊢
 have hcl:(zar ((b.drop 1).take (3*(b.getD 0 0+1)))).length=b.getD 0 0+1:=zbw _ _ (by rw [List.length_take,List.length_drop];omega)
 generalize hcs:zar ((b.drop 1).take (3*(b.getD 0 0+1)))=cs at *
 cases hp:plPx cs (b.drop (1+3*(b.getD 0 0+1))) n with
 | none=>rw [hp] at h;exact absurd h (by decide)
 | some L=>
  obtain ⟨p1,p2,p3⟩:=zkM hp
  rw [List.length_drop] at p1
  refine ⟨cs,rfl,by omega,by omega,by omega,?_,fun c hc=>?_⟩
  ·show L.length=n
   rw [p3,List.length_map,zeu]
  ·have hc':c∈L:=hc
   rw [p3] at hc'
   obtain ⟨v,hv,rfl⟩:=List.mem_map.1 hc'
   have:=p2 v hv
   rw [List.getD_eq_getElem?_getD,List.getElem?_eq_getElem this]
   exact List.getElem_mem _
def CdR (k:Nat) (b:List Nat) (n:Nat) (r:Option (List Nat)):Prop:=
 (k=1∧r=if b.length=3*n then some (zar b) else none)∨
 (k=2∧r=if (rlD b n).2=0 then some (rlD b n).1 else none)∨
 (k=3∧r=if (plD b n).2=0 then some (plD b n).1 else none)∨
 (k=4∧∃o m er,Infl b ((3*n:Nat):Int) o m er∧r=if er=0∧m=b.length∧o.length=3*n then some (zar o) else none)
theorem CdR.det {k:Nat} {b:List Nat} {n:Nat} {r r':Option (List Nat)} (h:CdR k b n r) (h':CdR k b n r'):r=r':=by
 rcases h with ⟨h,e⟩ | ⟨h,e⟩ | ⟨h,e⟩ | ⟨h,o,m,er,hi,e⟩<;>rcases h' with ⟨h',e'⟩ | ⟨h',e'⟩ | ⟨h',e'⟩ | ⟨h',o',m',er',hi',e'⟩<;>first | (exfalso;omega) | (rw [e,e'];done) | skip
 obtain ⟨rfl,rfl,rfl⟩:=hi.det hi'
 rw [e,e']
theorem CdR.some {k:Nat} {b:List Nat} {n:Nat} {L:List Nat} (h:CdR k b n (some L)) (hb:∀x∈b,x<256) (ho:∀o m er,Infl b ((3*n:Nat):Int) o m er→∀x∈o,x<256):L.length=n∧∀x∈L,x<16777216:=by
 rcases h with ⟨h,e⟩ | ⟨h,e⟩ | ⟨h,e⟩ | ⟨h,o,m,er,hi,e⟩
 ·split at e
  ·rename_i hl
   injection e with e
   rw [e]
   exact ⟨zbw _ _ hl,zcU b hb⟩
  ·cases e
 ·split at e
  ·rename_i hl
   injection e with e
   obtain ⟨h1,h2,h3⟩:=znn hl
   rw [e,h3]
   refine ⟨by omega,fun x hx=>?_⟩
   obtain ⟨r,hr,hx⟩:=List.mem_flatMap.1 hx
   have:=(ziy b hb r hr).2.2
   rw [List.mem_replicate] at hx
   omega
  ·cases e
 ·split at e
  ·rename_i hl
   injection e with e
   obtain ⟨cs,hcs,-,-,-,h5,h6⟩:=zlV hl
   rw [e]
   refine ⟨h5,fun x hx=>?_⟩
   have:=h6 x hx
   rw [hcs] at this
   exact zcU _ (fun y hy=>hb y (List.mem_of_mem_drop (List.mem_of_mem_take hy))) x this
  ·cases e
 ·split at e
  ·rename_i hl
   injection e with e
   rw [e]
   exact ⟨zbw _ _ hl.2.2,zcU o (ho o m er hi)⟩
  ·cases e
end
section
open Go.RowKit
attribute [local go_sem] Oper.semAt_some
theorem zoF (k c:Nat) (o:List Nat):o++List.replicate (k+1) c=(o++List.replicate k c)++[c]:=by
 rw [List.replicate_succ',List.append_assoc]
set_option maxRecDepth 20000 in
set_option maxHeartbeats 4000000 in
theorem znB (n c:Nat) (hn:n≤256) (base:Nat) (vb:Value) (o:List Nat) (w:World) (hown:w.ownsRow base 51 1 vb o.length (o.map pxv)) (hlen:o.length≤1048576) (hbase:base≤w.heap.size):
  Calls Tryz.prog 95 #[RnV n c,vb] w fun e w'=> ∃v',e= .returned v'∧w'.ownsRow base 51 1 v' (o++List.replicate n c).length ((o++List.replicate n c).map pxv)∧Turns (fun k=>vb.ownBlock=some k) w w'∧(∀k,v'.ownBlock=some k→vb.ownBlock=some k∨w.heap.size≤k):=by
 obtain ⟨pb,cb,rfl⟩:=zac hown
 have Hglt:=Lib.hid hown.lt
 obtain ⟨W,hW⟩:∃W,w.alloc (.cells #[.int .i64 (n:Int),.int .u32 (c:Int)] 136)=W:=⟨_,rfl⟩
 have hbW:Below w.heap.size w W:=by rw [←hW];exact Below.al1 w _
 have hT:W.heap[w.heap.size]? =some (.cells #[.int .i64 (n:Int),.int .u32 (c:Int)] 136):=by
  rw [←hW];exact World.alloc_heap_new w _
 have c0:W.cell? ⟨w.heap.size,0,none⟩=some (.int .i64 (n:Int)):=zaa hT rfl
 have c1:W.cell? ⟨w.heap.size,1,none⟩=some (.int .u32 (c:Int)):=zaa hT rfl
 have HownW:=Lib.hid ((Turns.of_below' (T:=fun _=>False) hbW).owns hown (fun _ _ h=>h))
 have hsW:base≤W.heap.size:=Nat.le_trans hbase hbW.size
 have HbW:=Lib.hid hbW
 clear hown hbW hT
 go_enter Tryz.func95,Tryz.ntmps95
 go_upto_region 1 with (fail)
 clear hW
 go_wp2_with fail
 go_loopw [1,7] (fun bv kv wr=> ∃k:Nat,kv= .int .i64 (k:Int)∧k≤n∧Hid (wr.ownsRow base 51 1 bv (o.length+k) ((o++List.replicate k c).map pxv))∧Hid (Turns (fun b=>(Value.slice pb o.length cb).ownBlock=some b) W wr)∧Hid (∀b,bv.ownBlock=some b→(Value.slice pb o.length cb).ownBlock=some b∨W.heap.size≤b)) (fun _ kv _=>n - (intOf kv).toNat)
 case atStart=>exact ⟨0,rfl,Nat.zero_le _,Lib.hid (by simpa using HownW.out),Lib.hid (Turns.refl _ _),Lib.hid fun b h=> .inl h⟩
 case round=>
  obtain ⟨k,rfl,hk,HO,HTu,HBk⟩:=hrel
  obtain ⟨q,hq⟩:∃q,o.length+k=q:=⟨_,rfl⟩
  have hqb:q≤1048832:=by omega
  by_cases hlt:k<n
  ·have d0:decide ((k:Int)<(n:Int))=true:=by simp;omega
   have Hs:=Lib.hid (zoF k c o)
   obtain ⟨g,cg,e⟩:=zac HO.out
   subst e
   rw [hq] at HO HBk ⊢
   have hc2:wr.cell? ⟨w.heap.size,1,none⟩=some (.int .u32 (c:Int)):=HTu.out.cell c1 (fun e=>by have h:=(Hglt.out _ e).2;simp only at h;omega)
   have hs1:base≤wr.heap.size:=Nat.le_trans hsW HTu.out.size
   have Hq:=Lib.hid hq
   clear hq
   go_wp2_with (at_builtin;refine zaL wr rfl (.tmp 9) (.tmp 12) 24 rfl base 51 _ 4 zbg Tryz.underlying24 rfl (.slice g q cg) q ((o++List.replicate k c).map pxv) rfl HO.out (.int .u32 (c:Int)) _ rfl rfl ?m3 ?m4 hs1 ?_)
   case m3=>simp only [maxLen];omega
   case m4=>omega
   intro g1 cap1 w5 ho1 ht1 hg1
   have Ho1:Hid (w5.ownsRow base 51 1 (.slice (some ⟨g1,0,none⟩) (q+1) cap1) (o.length+(k+1)) ((o++List.replicate (k+1) c).map pxv)):=Lib.hid (by
    rw [Hs.out,show o.length+(k+1)=q+1 by have:=Hq.out;omega];simpa [pxv] using ho1)
   have Ht1:=Lib.hid (HTu.out.trans' ht1 (fun b hb h=>(HBk.out b h).elim id fun h2=>by omega))
   have Hg1:=Lib.hid (show ∀b,(Value.slice (some ⟨g1,0,none⟩) (q+1) cap1).ownBlock=some b→(Value.slice pb o.length cb).ownBlock=some b∨W.heap.size≤b from fun b hb=>by
    cases hb
    rcases hg1 with h | h
    ·exact HBk.out _ h
    ·exact .inr (Nat.le_trans HTu.out.size h))
   clear ho1 ht1 hg1
   go_wp2
   go_roundw
   case rel=>exact ⟨k+1,by go_num,by omega,Ho1,Ht1,Hg1⟩
   case measure=>simp [intOf];omega
  ·obtain rfl:k=n:=by omega
   have d0:decide ((k:Int)<(k:Int))=false:=by simp
   go_wp2
   go_ret
   refine ⟨_,rfl,?_,(Turns.of_below' HbW.out).trans HTu.out,fun b hb=>(HBk.out b hb).imp id fun h=>Nat.le_trans HbW.out.size h⟩
   rw [show (o++List.replicate k c).length=o.length+k by simp]
   exact HO.out
set_option maxRecDepth 20000 in
set_option maxHeartbeats 4000000 in
theorem zmN (a b c d:Nat) (w:World) (ha:a<256) (hb:b<256) (hc:c<256) (hd:d<256):
  Makes Tryz.prog 116 #[.agg #[u8v a,u8v b,u8v c,u8v d]] w (RnV (a+1) (b*65536+c*256+d)):=by
 unfold Makes u8v
 go_enter Tryz.func116,Tryz.ntmps116
 have o1:bits .or .u32 ((b:Int)*65536) ((c:Int)*256)=(b:Int)*65536+(c:Int)*256:=
  bits_join .u32 32 (by decide) (fun n h0 h1=>by rw [IntKind.wrap_u32];omega) 16 ((b:Int)*65536) ((c:Int)*256) (by omega) (by omega) (by omega) (by omega) (by omega) (by omega)
 have o2:bits .or .u32 ((b:Int)*65536+(c:Int)*256) (d:Int)=(b:Int)*65536+(c:Int)*256+(d:Int):=
  bits_join .u32 32 (by decide) (fun n h0 h1=>by rw [IntKind.wrap_u32];omega) 8 ((b:Int)*65536+(c:Int)*256) (d:Int) (by omega) (by omega) (by omega) (by omega) (by omega) (by omega)
 go_wp2
 go_returns
 exact ⟨by simp,Below.al2 _ _ _⟩
def RnAt (w:World) (B n c:Nat):Prop:=w.heap[B]? =some (.cells #[.int .i64 (n:Int),.int .u32 (c:Int)] 136)
theorem RnAt.c {w:World} {B n c:Nat} (h:RnAt w B n c):w.cell? ⟨B,0,none⟩=some (.int .i64 (n:Int))∧w.cell? ⟨B,1,none⟩=some (.int .u32 (c:Int)):=⟨zaa h rfl,zaa h rfl⟩
theorem RnAt.free {w:World} {B n c:Nat} (h:RnAt w B n c) (i:Nat):w.frozen? ⟨B,i,none⟩=false:=by
 unfold RnAt at h
 simp [World.frozen?,h]
theorem RnAt.later {w w1:World} {B n c:Nat} (h:RnAt w B n c) (hb:Below w.heap.size w w1):RnAt w1 B n c:=(hb.block B (zab h)).trans h
theorem RnAt.new (w:World) (n c:Nat):RnAt (w.alloc (.cells #[.int .i64 (n:Int),.int .u32 (c:Int)] 136)) w.heap.size n c:=World.alloc_heap_new w _
theorem RnAt.set0 {w:World} {B n n' c:Nat} (h:RnAt w B n c):RnAt (w.setCell ⟨B,0,none⟩ (.int .i64 (n':Int))) B n' c:=zcN _ h
theorem RnAt.set {w:World} {B n n' c c':Nat} (h:RnAt w B n c):RnAt ((w.setCell ⟨B,0,none⟩ (.int .i64 (n':Int))).setCell ⟨B,1,none⟩ (.int .u32 (c':Int))) B n' c':=zbS _ (zcN _ h)
theorem RnAt.other {w:World} {B C i n c:Nat} {u:Value} (h:RnAt w B n c) (hne:B≠C):RnAt (w.setCell ⟨C,i,none⟩ u) B n c:=(Below.heap_setCell _ _ _ B hne).trans h
theorem zfF {fn:Func} {p:Tmp} {tmps:Array Value} {w:World} {B n c:Nat} (h:fn.results=#[.cell p 136]) (hp:tmps.getD p undef= .pointer (some ⟨B,0,none⟩)) (hl:RnAt w B n c):(results fn tmps).run Tryz.prog w= .ok (RnV n c) w:=by
 obtain ⟨c0,c1⟩:=hl.c
 have hp':tmps[p]?.getD undef= .pointer (some ⟨B,0,none⟩):=by simpa using hp
 simp [results,h,hp',go_sem,c0,c1]
theorem zpz (ts:Array TypeId) (t:TypeId) (k k':IntKind) (x y:Int) (w:World):(Builtin.min_ ts t #[.int k x,.int k' y]).run Tryz.prog w= .ok (.int k (min x y)) w:=by
 rw [run_min_int2];congr 2;split<;>omega
set_option maxRecDepth 20000 in
set_option maxHeartbeats 4000000 in
theorem zl6 (g off c:Nat) (l:List Nat) (w:World) (h0:0<l.length) (hl:l.length≤1048576) (h32:∀i,l.getD i 0<4294967296) (hc:∀i,i<l.length→w.cell? ⟨g,off+i,none⟩=some (.int .u32 (l.getD i 0:Int))):
  Calls Tryz.prog 132 #[.slice (some ⟨g,off,none⟩) l.length c] w fun e w'=> ∃k,e= .returned (RnV k (rlw (l.getD 0 0)))∧1≤k∧k≤256∧k≤l.length∧rlO l=(k,rlw (l.getD 0 0))::rlO (l.drop k)∧Below w.heap.size w w':=by
 have Hc:=Lib.hid hc
 have H32:=Lib.hid h32
 have Hrun:=Lib.hid (fun k=>zrz (l:=l) (k:=k))
 obtain ⟨n,hn⟩:∃n,l.length=n:=⟨_,rfl⟩
 obtain ⟨m,hm⟩:∃m,min n 256=m:=⟨_,rfl⟩
 have hmn:(min (n:Int) 256)=(m:Int):=by omega
 rw [hn] at h0 hl Hc Hrun ⊢
 have hm0:0<m:=by omega
 have hm1:m≤n:=by omega
 have hm2:m≤256:=by omega
 have Hm:=Lib.hid hm
 have hq0:=h32 0
 have c0:=hc 0 (by omega)
 rw [Nat.add_zero] at c0
 obtain ⟨q,hq⟩:∃q,l.getD 0 0=q:=⟨_,rfl⟩
 have Hq:=Lib.hid hq
 rw [hq] at hq0 c0 Hrun ⊢
 have i0:(0:Int)<(n:Int):=by omega
 have hmin:=fun w=>(zpz #[3,3] 3 .i64 .i64 (n:Int) 256 w).trans (by rw [hmn])
 obtain ⟨z,hz⟩:∃z,rlw q=z:=⟨_,rfl⟩
 have Hz:=Lib.hid hz
 rw [hz] at Hrun ⊢
 clear hc hn hm hmn h32 hq
 go_enter Tryz.func132,Tryz.ntmps132
 have hal:=Below.al1 w (.cells #[.int .i64 0,.int .u32 0] 136)
 have c0':=cell_later hal c0
 have hR0:RnAt (w.alloc (.cells #[.int .i64 0,.int .u32 0] 136)) w.heap.size 0 0:=RnAt.new w 0 0
 go_wp2_with fail
 refine Calls.mono (zin q _ hq0) ?_
 rintro _ w1 ⟨rfl,rfl⟩
 rw [hz]
 clear hz
 go_wp2_with fail
 have hR1:RnAt ((w.alloc (.cells #[.int .i64 0,.int .u32 0] 136)).alloc (.cells #[.int .i64 0,.int .u32 (z:Int)] 136)) (w.heap.size+1) 0 z:=by
  have:=RnAt.new (w.alloc (.cells #[.int .i64 0,.int .u32 0] 136)) 0 z
  rwa [World.size_alloc] at this
 have hR0':=hR0.later (Below.al1 _ (.cells #[.int .i64 0,.int .u32 (z:Int)] 136))
 have hb2:=Below.al2 w (.cells #[.int .i64 0,.int .u32 0] 136) (.cells #[.int .i64 0,.int .u32 (z:Int)] 136)
 generalize (w.alloc (.cells #[.int .i64 0,.int .u32 0] 136)).alloc (.cells #[.int .i64 0,.int .u32 (z:Int)] 136)=W at *
 have HR0:=Lib.hid hR0'
 have HR1:=Lib.hid hR1
 have Hb2:=Lib.hid hb2
 clear hal c0' hR0 hR0' hR1 hb2 c0
 go_loopw [28] (fun _ wr=> ∃k:Nat,k≤m∧Hid (RnAt wr (w.heap.size+1) k z)∧Hid (RnAt wr w.heap.size 0 0)∧Hid (Below w.heap.size w wr)∧Hid (∀i,i<k→rlw (l.getD i 0)=z)) (fun _ wr=>m - (intOf ((wr.cell? ⟨w.heap.size+1,0,none⟩).getD undef)).toNat)
 case atStart=>exact ⟨0,Nat.zero_le _,HR1,HR0,Hb2,Lib.hid (fun i hi=>by omega)⟩
 case round=>
  obtain ⟨k,hk,HA,HB,HW,HL⟩:=hrel
  obtain ⟨a0,a1⟩:=HA.out.c
  have f0:=HA.out.free 0
  by_cases hkm:k<m
  ·have d0:decide ((k:Int)<(m:Int))=true:=by simp;omega
   obtain ⟨x,hx⟩:∃x,l.getD k 0=x:=⟨_,rfl⟩
   have x0:=cell_later HW.out (Hc.out k (by omega))
   have hx32:=H32.out k
   rw [hx] at x0 hx32
   have i1:(0:Int)≤(k:Int):=by omega
   have i2:(k:Int)<(n:Int):=by omega
   have Hx:=Lib.hid hx
   obtain ⟨y,hy⟩:∃y,rlw x=y:=⟨_,rfl⟩
   have hcall:=fun W=>zin x W hx32
   rw [hy] at hcall
   have Hcall:=Lib.hid hcall
   have Hy:=Lib.hid hy
   clear hx hy hcall
   by_cases hyz:y=z
   ·have d1:((y:Int)==(z:Int))=true:=by simp;omega
    go_upto_region 2 with (fail)
    go_quiet ((go_at_call 151;exact Calls.quiet_of_same (Hcall.out _)))
    rename_i nq
    have hd:=Below.drewN' (Below.refl wr.heap.size wr) nq
    have hA2:=HA.out.later hd
    obtain ⟨b0,b1⟩:=hA2.c
    have g0:=hA2.free 0
    have HA2:=Lib.hid hA2
    have HB2:=Lib.hid (HB.out.later hd)
    have HW2:=Lib.hid (Below.thn HW.out hd)
    generalize wr.drewN nq=W2 at *
    clear hd hA2 a0 a1 x0 f0
    go_wp2
    have hcell:(W2.setCell ⟨w.heap.size+1,0,none⟩ (.int .i64 ((k:Int)+1))).cell? ⟨w.heap.size+1,0,none⟩=some (.int .i64 ((k:Int)+1)):=(HA2.out.set0 (n':=k+1)).c.1
    go_roundw
    case rel=>exact ⟨k+1,by omega,Lib.hid (HA2.out.set0 (n':=k+1)),Lib.hid (HB2.out.other (by omega)),Lib.hid (Below.setCell HW2.out (by simp) _),Lib.hid (fun i hi=>by
     by_cases h:i<k
     ·exact HL.out i h
     ·rw [show i=k by omega,Hx.out,Hy.out,hyz])⟩
    case measure=>rw [hcell,HA.out.c.1];simp [intOf];omega
   ·have d1:((y:Int)==(z:Int))=false:=by simp;omega
    go_upto_region 2 with (fail)
    go_quiet ((go_at_call 151;exact Calls.quiet_of_same (Hcall.out _)))
    rename_i nq
    have hd:=Below.drewN' (Below.refl wr.heap.size wr) nq
    have hA2:=HA.out.later hd
    have hB2:=HB.out.later hd
    obtain ⟨b0,b1⟩:=hA2.c
    have g0:=hB2.free 0
    have g1:=hB2.free 1
    obtain ⟨e0,e1⟩:=hB2.c
    have HB2:=Lib.hid hB2
    have HW2:=Lib.hid (Below.thn HW.out hd)
    have HE:=Lib.hid (fun h1=>Hrun.out k h1 (by omega) (by omega) HL.out (.inr (.inr (by rw [Hx.out,Hy.out];exact hyz))))
    generalize wr.drewN nq=W2 at *
    clear hd hA2 hB2 a0 a1 x0 f0
    have Hk1:Hid (1≤k):=Lib.hid (by
     by_cases h:k=0
     ·subst h
      rw [Hq.out] at Hx
      exact absurd (by rw [←Hy.out,←Hx.out,Hz.out]) hyz
     ·omega)
    go_wp2
    have hk1:=Hk1.out
    exact bodyPost_ret (v:=RnV k z) (zfF Tryz.results132 rfl (HB2.out.set (n':=k) (c':=z))) rfl ⟨k,rfl,by omega,by omega,by omega,HE.out hk1,Below.setCell (Below.setCell HW2.out (Nat.le_refl _) _) (Nat.le_refl _) _⟩
  ·obtain rfl:k=m:=by omega
   have d0:decide ((k:Int)<(k:Int))=false:=by simp
   go_upto_region 2 with (fail)
   go_quiet (fail)
   rename_i nq
   have hd:=Below.drewN' (Below.refl wr.heap.size wr) nq
   have hA2:=HA.out.later hd
   have hB2:=HB.out.later hd
   obtain ⟨b0,b1⟩:=hA2.c
   have g0:=hB2.free 0
   have g1:=hB2.free 1
   obtain ⟨e0,e1⟩:=hB2.c
   have HB2:=Lib.hid hB2
   have HW2:=Lib.hid (Below.thn HW.out hd)
   have HE:=Lib.hid (Hrun.out k (by omega) (by omega) (by omega) HL.out (by have:=Hm.out;omega))
   generalize wr.drewN nq=W2 at *
   clear hd hA2 hB2 a0 a1 f0
   go_wp2
   exact bodyPost_ret (v:=RnV k z) (zfF Tryz.results132 rfl (HB2.out.set (n':=k) (c':=z))) rfl ⟨k,rfl,by omega,by omega,by omega,HE.out,Below.setCell (Below.setCell HW2.out (Nat.le_refl _) _) (Nat.le_refl _) _⟩
end
end Go.Proofs.YtedakhgaghfogaaGreat
