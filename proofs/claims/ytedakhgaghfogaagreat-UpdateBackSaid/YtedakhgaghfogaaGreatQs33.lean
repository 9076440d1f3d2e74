/- palette: readColors. -/
import Derived.Test.YtedakhgaghfogaaGreatQs32
import Derived.Deep.AppendLies
namespace Go.Proofs.YtedakhgaghfogaaGreat
section
open Go.RowKit
attribute [local go_sem] Oper.semAt_some
theorem zhg:∀(k a:Nat),chL 3 (3*a) (3*(a+k))=(List.range k).map fun j=>(3*(a+j),3)
 | 0,a=>by rw [zf2 (by omega)];rfl
 | k+1,a=>by
  rw [zen (by omega) (by omega),Nat.min_eq_left (by omega),show 3*a+3=3*(a+1) by omega,show 3*(a+(k+1))=3*(a+1+k) by omega,zhg k (a+1),List.range_succ_eq_map,List.map_cons,List.map_map]
  congr 1
  refine List.map_congr_left (fun j _=>?_)
  show (3*(a+1+j),3)=(3*(a+(j+1)),3)
  rw [show a+1+j=a+(j+1) by omega]
theorem zkD (k:Nat):chL 3 0 (3*k)=(List.range k).map fun j=>(3*j,3):=by
 have:=zhg k 0
 simpa using this
theorem zg9 {k:Nat} {pre rest:List (Nat×Nat)} {x:Nat×Nat} (h:(List.range k).map (fun j=>(3*j,3))=pre++x::rest):x=(3*pre.length,3)∧pre.length<k:=by
 have hl:pre.length<k:=by
  have:=congrArg List.length h
  simp at this;omega
 have h2:((List.range k).map (fun j=>((3*j,3):Nat×Nat)))[pre.length]? =some x:=by rw [h];simp
 rw [List.getElem?_map,List.getElem?_range hl] at h2
 simp at h2
 exact ⟨h2.symm,hl⟩
theorem zfg:∀(j:Nat) (b:List Nat),3*j+3≤b.length→(zar b)[j]? =some (lq b (3*j)*65536+lq b (3*j+1)*256+lq b (3*j+2))
 | 0,x::y::z::r,_=>rfl
 | j+1,x::y::z::r,h=>by
  show (zar r)[j]? =_
  rw [zfg j r (by simp at h;omega)]
  unfold lq
  rw [show 3*(j+1)=3*j+1+1+1 by omega,show 3*j+1+1+1+1=3*j+1+1+1+1 from rfl]
  simp [List.getD_eq_getElem?_getD]
 | _,[],h=>by simp at h
 | _,[_],h=>by simp at h
 | _,[_,_],h=>by simp at h
def plK (b:List Nat):List Nat:=zar ((b.drop 1).take (3*(lq b 0+1)))
theorem zgn {b:List Nat} (h:1+3*(lq b 0+1)≤b.length):(plK b).length=lq b 0+1:=zbw _ _ (by rw [List.length_take,List.length_drop];omega)
theorem zq9 {b:List Nat} (h:1+3*(lq b 0+1)≤b.length) {j:Nat} (hj:j<lq b 0+1):(plK b).take (j+1)=(plK b).take j++[lq b (1+3*j)*65536+lq b (1+3*j+1)*256+lq b (1+3*j+2)]:=by
 have e:∀i,i<3*(lq b 0+1)→lq ((b.drop 1).take (3*(lq b 0+1))) i=lq b (1+i):=fun i hi=>by
  generalize 3*(lq b 0+1)=q at hi ⊢
  unfold lq
  rw [List.getD_eq_getElem?_getD,List.getElem?_take,if_pos hi,List.getElem?_drop,List.getD_eq_getElem?_getD]
 have h2:(plK b)[j]? =_:=zfg j ((b.drop 1).take (3*(lq b 0+1))) (by rw [List.length_take,List.length_drop];omega)
 rw [e _ (by omega),e _ (by omega),e _ (by omega),←Nat.add_assoc,←Nat.add_assoc] at h2
 rw [List.take_add_one,h2]
 rfl
def plQ (b:List Nat):Prop:=¬(b.length=0∨16≤lq b 0∨b.length<1+3*(lq b 0+1))
theorem RowAt.bytes {W:World} {p:Option Addr} {xs:List Nat} (h:RowAt enc8 1 W p xs) (h0:0<xs.length):∃b off,p=some ⟨b,off,none⟩∧∀i,i<xs.length→W.cell? ⟨b,off+i,none⟩=some (.int .u8 (lq xs i:Int)):=by
 obtain ⟨b,off,e,-⟩:=h.byte h0
 refine ⟨b,off,e,fun i hi=>?_⟩
 obtain ⟨b',off',e',h'⟩:=h.byte hi
 rw [e] at e';cases e'
 exact h'
set_option maxRecDepth 100000 in
set_option maxHeartbeats 8000000 in
theorem zfX (p:Option Addr) (c:Nat) (l:List Nat) (w:World) (hp:RowAt enc8 1 w p l) (h8:∀x∈l,x<256) (hl:l.length≤1048576) (hlc:l.length≤c) (hc63:c≤9223372036854775807):
  Calls Tryz.prog 99 #[.slice p l.length c] w fun e w'=>Below w.heap.size w w'∧((¬plQ l∧∃v1 v2,e= .returned (.tuple #[v1,v2,.bool false]))∨(plQ l∧∃v1 p' c',e= .returned (.tuple #[v1,.slice p' (l.length - (1+3*(lq l 0+1))) c',.bool true])∧w'.ownsRow w.heap.size 51 1 v1 (plK l).length ((plK l).map pxv)∧RowAt enc8 1 w' p' (l.drop (1+3*(lq l 0+1)))∧l.length - (1+3*(lq l 0+1))≤c'∧c'≤c∧p'≠none)):=by
 have Hp:=Lib.hid hp
 have H8:Hid (∀i,lq l i<256):=Lib.hid (fun i=>by
  unfold lq
  rw [List.getD_eq_getElem?_getD]
  cases h:l[i]? with
  | none=>decide
  | some x=>exact h8 x (List.mem_of_getElem? h))
 obtain ⟨n,hn⟩:∃n,l.length=n:=⟨_,rfl⟩
 have Hn:=Lib.hid hn
 rw [hn] at hl hlc ⊢
 have HQ:Hid (plQ l↔¬(n=0∨16≤lq l 0∨n<1+3*(lq l 0+1))):=Lib.hid (by unfold plQ;rw [hn])
 clear hp h8 hn
 refine (callsIn_wide (n:=0)).1 ?_
 refine callsIn_of_wp_marks Tryz.func99 rfl trivial ?_ rfl
 simp only [Tryz.ntmps99,List.size_toArray,List.length_cons,List.length_nil,Nat.reduceAdd,Nat.reduceSub,Array.replicate_succ,Array.replicate_zero,List.push_toArray,List.append_toArray,List.nil_append,List.cons_append]
 refine wpIn_wide.2 ?_
 by_cases h0:n=0
 ·subst h0
  go_wp2
  refine ⟨_,results_tmp3 rfl _ _ _,Below.refl _ _,.inl ⟨by rw [HQ.out];simp,_,_,rfl⟩⟩
 have d0:((n:Int)==0)=false:=by simp;omega
 obtain ⟨g,off,rfl,hcell⟩:=Hp.out.bytes (by rw [Hn.out];omega)
 have Hcell:=Lib.hid hcell
 have x0:=hcell 0 (by rw [Hn.out];omega)
 rw [Nat.add_zero] at x0
 have hy8:=H8.out 0
 obtain ⟨y,hy⟩:∃y,lq l 0=y:=⟨_,rfl⟩
 have Hy:=Lib.hid hy
 rw [hy] at x0 hy8 HQ ⊢
 have i0:(0:Int)<(n:Int):=by omega
 clear hcell hy
 by_cases h1:16≤y
 ·have d1:decide ((y:Int)≥16)=true:=by simp;omega
  go_wp2
  refine ⟨_,results_tmp3 rfl _ _ _,Below.refl _ _,.inl ⟨by rw [HQ.out];simp;omega,_,_,rfl⟩⟩
 have d1:decide ((y:Int)≥16)=false:=by simp;omega
 by_cases h2:n<1+3*(y+1)
 ·have d2:decide ((n:Int)<1+((y:Int)+1)*3)=true:=by simp;omega
  go_wp2
  refine ⟨_,results_tmp3 rfl _ _ _,Below.refl _ _,.inl ⟨by rw [HQ.out];simp;omega,_,_,rfl⟩⟩
 have d2:decide ((n:Int)<1+((y:Int)+1)*3)=false:=by simp;omega
 obtain ⟨k,hk⟩:∃k,y+1=k:=⟨_,rfl⟩
 have HQ2:Hid (plQ l):=Lib.hid (by rw [HQ.out];omega)
 obtain ⟨S,hS⟩:∃S,1+3*k=S:=⟨_,rfl⟩
 have HS:=Lib.hid (show S=1+3*(lq l 0+1) by rw [Hy.out,hk,hS])
 have eS:1+((y:Int)+1)*3=(S:Int):=by omega
 rw [hk,hS]
 have hSn:S≤n:=by omega
 have hk16:k≤16:=by omega
 have hk1:S - 1=3*k:=by omega
 have Hk:Hid (S=1+3*k∧lq l 0+1=k):=Lib.hid ⟨hS.symm,by rw [Hy.out];exact hk⟩
 rw [eS] at d2
 have d2':decide (n<S)=false:=by simp;omega
 clear h1 h2 hk hS HQ
 go_upto_region 6 with (fail)
 clear eS
 go_upto_region 7 with (fail)
 have hz1:=World.alloc_heap_new w (.cells #[.slice none 0 0] 24)
 have hb2:=Below.al1 w (.cells #[.slice none 0 0] 24)
 have hs2:(w.alloc (.cells #[.slice none 0 0] 24)).heap.size=w.heap.size+1:=by simp
 generalize w.alloc (.cells #[.slice none 0 0] 24)=W1 at *
 have Hb1:=Lib.hid hb2
 have Hz1:=Lib.hid hz1
 have Hs1:=Lib.hid hs2
 have hk0:1≤k:=by have:=Hk.out.1;have:=Hk.out.2;omega
 have hS4:4≤S:=by omega
 have hc1:¬c=1:=by omega
 have j1:(1:Int)≤(S:Int):=by omega
 have j2:(S:Int)≤(c:Int):=by omega
 have j3:(0:Int)≤(S:Int):=by omega
 have j4:(1:Int)≤(c:Int):=by omega
 have HC:=zeN (some ⟨g,off+1,none⟩) (3*k) (c - 1) 3 W1 (by decide)
 rw [show ((3:Nat):Int)=3 from rfl] at HC
 have HC:=Lib.hid HC
 clear hz1 hb2 hs2
 go_wp2_with fail
 refine Calls.mono HC.out ?_
 rintro _ u4 ⟨rfl,rfl⟩
 obtain ⟨m0,hm0⟩:∃b,w.heap.size=b:=⟨_,rfl⟩
 have Hm0:=Lib.hid hm0
 have hs1:W1.heap.size=m0+1:=by rw [Hs1.out,hm0]
 have hal:=Below.al2 W1 (.cells #[.slice (some ⟨g,off+1,none⟩) (3*k) (c - 1)] 28) (.cells #[.int .i64 3] 3)
 have hg:=zag [.cells #[.slice (some ⟨g,off+1,none⟩) (3*k) (c - 1)] 28,.cells #[.int .i64 3] 3] W1
 simp only [List.foldl_cons,List.foldl_nil] at hg
 have hsz:((W1.alloc (.cells #[.slice (some ⟨g,off+1,none⟩) (3*k) (c - 1)] 28)).alloc (.cells #[.int .i64 3] 3)).heap.size=m0+3:=by simp [hs1]
 generalize (W1.alloc (.cells #[.slice (some ⟨g,off+1,none⟩) (3*k) (c - 1)] 28)).alloc (.cells #[.int .i64 3] 3)=W4 at *
 rw [hs1] at hg ⊢
 have k3:W4.cell? ⟨m0+1,0,none⟩=some (.slice (some ⟨g,off+1,none⟩) (3*k) (c - 1)):=zaa ((hg 0 _).2 rfl) rfl
 have k4:W4.cell? ⟨m0+1+1,0,none⟩=some (.int .i64 3):=zaa ((hg 1 _).2 rfl) rfl
 have hz1:=Hz1.out
 rw [hm0] at hz1 ⊢
 have hk2:=(hal.block m0 (by omega)).trans hz1
 have k2:W4.cell? ⟨m0,0,none⟩=some (.slice none 0 0):=zaa hk2 rfl
 have f2:W4.frozen? ⟨m0,0,none⟩=false:=by simp [World.frozen?,hk2]
 have hI0:OwnI 51 w m0 (m0+3) (fun _=>False) [] W4:=⟨⟨_,k2,World.ownsRow_nil _ _ _ _,fun _ _ h=>h⟩,f2,by omega,Below.thn Hb1.out hal⟩
 have HIt:=zeU (m0+1) (m0+1+1) (some ⟨g,off+1,none⟩) (3*k) 3 (c - 1) W4 (fun b=>b=m0+1∨b=m0+1+1) k3 k4 (fun _=>⟨g,off+1,rfl⟩) (by omega) (by decide) (by decide) (by omega) (fun b hb=>by rcases hb with rfl | rfl<;>omega) (.inl rfl) (.inr rfl)
 rw [zkD] at HIt
 have HIt:=Lib.hid HIt
 clear hg hal hk2 k2 k3 k4 f2 hz1 HC hm0 hs1
 go_wp2_with fail
 refine (wpIn_wide (n:=0)).1 ?_
 refine zaW (gf:=112) (El:=ElCh (some ⟨g,off+1,none⟩)) (xs:=(List.range k).map fun j=>(3*j,3)) (w0:=W4) ?hg ?eg HIt.out ?hs0 ?hRr ?hps
  (fun pre T W'=>OwnI 51 w m0 (m0+3) T (((plK l).take pre.length).map pxv) W') (fun _ _ _ _=>False) ?start
  (fun vs=>{ tmps:=#[.slice (some ⟨g,off,none⟩) n c,undef,.slice none 0 0,.slice none 0 0,.bool false,.int .i64 (S:Int),.pointer (some ⟨m0,0,none⟩),vs.getD 0 undef,.slice (some ⟨g,off,none⟩) n c,.int .i64 (n:Int),.bool false,.bool false,.slice (some ⟨g,off,none⟩) n c,.pointer (some ⟨g,off,none⟩),.int .u8 (y:Int),.bool false,.bool false,.slice (some ⟨g,off,none⟩) n c,.pointer (some ⟨g,off,none⟩),.int .u8 (y:Int),.int .i64 (y:Int),.int .i64 ((y:Int)+1),.int .i64 (((y:Int)+1)*3),.int .i64 (S:Int),.slice (some ⟨g,off,none⟩) n c,.int .i64 (n:Int),.int .i64 (S:Int),.bool false,.slice (some ⟨g,off,none⟩) n c,.int .i64 (S:Int),.slice (some ⟨g,off+1,none⟩) (3*k) (c - 1),.func (.func 112) #[] #[.pointer (some ⟨m0+1,0,none⟩),.pointer (some ⟨m0+1+1,0,none⟩)],vs.getD 0 undef,undef,undef,undef,undef,undef,undef,undef,undef,undef,undef,undef,undef,undef,undef,undef,undef,undef,undef,undef,undef,undef,undef,undef],defers:=[]}) ?assign ?body ?done ?stop
 case hg=>rfl
 case eg=>exact fun _ _=>rfl
 case hs0=>exact Nat.le_refl _
 case hRr=>exact fun q hq=>⟨by rcases hq with rfl | rfl<;>omega,rfl⟩
 case hps=>
  rintro _ _ _ x _ ⟨_,_,_,h⟩
  rw [h];rfl
 case start=>exact hI0
 case assign=>
  intro l vs W' K hvs hK
  obtain ⟨v0,rfl⟩:=zdP hvs
  gi_wp2
  first
   | exact hK
   | simpa using hK
   | simpa [Array.zip,Array.zipWith] using hK
 case stop=>exact fun _ _ _ _ _ _ h=>h.elim
 case body=>
  rintro pre x rest Tp T Wq Wp W1' W2 vs hxs hI htqp hsq ht2 hTp hT hT2 hR2 hEl h12 hs12 hLt hL1 hD2 hL2
  obtain ⟨rfl,hjk⟩:=zg9 hxs
  obtain ⟨g',off',e',rfl⟩:=hEl
  cases e'
  simp only [hsz] at ht2 hTp hT2 h12 hLt hL1 hD2 hL2 htqp ⊢
  have hO:=hI.turn ht2 (fun b hb=>hb) (fun b hb=>(hTp b hb).1) (by rw [Hm0.out];omega) hsq (T:=T) hT
  obtain ⟨⟨vb,v1,v2,v3⟩,v4,v5,v6⟩:=hO
  obtain ⟨j,hj⟩:∃j,pre.length=j:=⟨_,rfl⟩
  have Hj:=Lib.hid hj
  rw [hj] at v2 hjk ⊢
  have hQl:1+3*(lq l 0+1)≤l.length:=by rw [Hk.out.2,Hn.out];have:=Hk.out.1;omega
  have hKl:=zgn hQl
  rw [Hk.out.2] at hKl
  have hNl:(((plK l).take j).map pxv).length=j:=by rw [List.length_map,List.length_take,hKl];omega
  rw [hNl] at v2
  have Hat:Hid ((plK l).take (j+1)=(plK l).take j++[lq l (1+3*j)*65536+lq l (1+3*j+1)*256+lq l (1+3*j+2)]):=Lib.hid (zq9 hQl (by rw [Hk.out.2];exact hjk))
  obtain ⟨vp,vc,rfl⟩:=zac v2
  have hs2:m0+3+2≤W2.heap.size:=by omega
  have hT4:∀b,T b→m0+3+1<b:=fun b hb=>(hT2 b hb).1
  have hcl:∀i,i<l.length→W2.cell? ⟨g,off+i,none⟩=some (.int .u8 (lq l i:Int)):=fun i hi=>cell_later v6 (Hcell.out i hi)
  have hg0:g<w.heap.size:=World.block_lt_of_cell? _ _ (Hcell.out 0 (by rw [Hn.out];omega))
  have hlj:1+3*j+2<l.length:=by rw [Hn.out];have:=Hk.out.1;omega
  have x0:=hcl (1+3*j) (by omega)
  have x1:=hcl (1+3*j+1) (by omega)
  have x2:=hcl (1+3*j+2) (by omega)
  have y0b:=H8.out (1+3*j)
  have y1b:=H8.out (1+3*j+1)
  have y2b:=H8.out (1+3*j+2)
  generalize lq l (1+3*j)=y0 at *
  generalize lq l (1+3*j+1)=y1 at *
  generalize lq l (1+3*j+2)=y2 at *
  obtain ⟨a,ha⟩:∃a,off+1+3*j=a:=⟨_,rfl⟩
  rw [show off+(1+3*j)=a by omega] at x0
  rw [show off+(1+3*j+1)=a+1 by omega] at x1
  rw [show off+(1+3*j+2)=a+2 by omega] at x2
  have e0:(#[Value.slice (some ⟨g,off+1+(3*j,3).1,none⟩) (3*j,3).2 (3*j,3).2]:Array Value).getD 0 undef= .slice (some ⟨g,a,none⟩) 3 3:=by rw [←ha];rfl
  rw [e0]
  have o1:bits .or .u32 ((y0:Int)*65536) ((y1:Int)*256)=(y0:Int)*65536+(y1:Int)*256:=
   bits_join .u32 32 (by decide) (fun n h0 h1=>by rw [IntKind.wrap_u32];omega) 16 ((y0:Int)*65536) ((y1:Int)*256) (by omega) (by omega) (by omega) (by omega) (by omega) (by omega)
  have o2:bits .or .u32 ((y0:Int)*65536+(y1:Int)*256) (y2:Int)=(y0:Int)*65536+(y1:Int)*256+(y2:Int):=
   bits_join .u32 32 (by decide) (fun n h0 h1=>by rw [IntKind.wrap_u32];omega) 8 ((y0:Int)*65536+(y1:Int)*256) (y2:Int) (by omega) (by omega) (by omega) (by omega) (by omega) (by omega)
  obtain ⟨z,hz⟩:∃z,y0*65536+y1*256+y2=z:=⟨_,rfl⟩
  have hzz:(y0:Int)*65536+(y1:Int)*256+(y2:Int)=(z:Int):=by omega
  rw [hz] at Hat
  rw [hzz] at o2
  have ww1:IntKind.u32.wrap (y0:Int)=(y0:Int):=by rw [IntKind.wrap_u32];omega
  have ww2:IntKind.u32.wrap ((y0:Int)*65536)=(y0:Int)*65536:=by rw [IntKind.wrap_u32];omega
  have ww3:IntKind.u32.wrap (y1:Int)=(y1:Int):=by rw [IntKind.wrap_u32];omega
  have ww4:IntKind.u32.wrap ((y1:Int)*256)=(y1:Int)*256:=by rw [IntKind.wrap_u32];omega
  have ww5:IntKind.u32.wrap (y2:Int)=(y2:Int):=by rw [IntKind.wrap_u32];omega
  have Hv3:=Lib.hid v3
  have HV6:=Lib.hid v6
  have HT4:=Lib.hid hT4
  have HTs:Hid (∀b,T b→b<W2.heap.size):=Lib.hid (fun b hb=>(hT2 b hb).2)
  have Hg0:=Lib.hid hg0
  obtain ⟨nf,hj0,hj1,hj2,hj3⟩:=info_parts zbg
  obtain ⟨XS,hXS⟩:∃XS,((plK l).take j).map pxv=XS:=⟨_,rfl⟩
  rw [hXS] at v2
  have HXS:=Lib.hid hXS
  have Hv2:=Lib.hid v2
  have hj15:j<16:=by omega
  clear hI htqp hsq ht2 hTp hT hT2 hR2 h12 hs12 hLt hD2 hL2 hL1 hxs hT4 e0 hI0 hcl hQl hKl hNl ha hz hzz hlj v3 v6 hXS hg0 hj
  gi_wp2
  obtain ⟨C,hC⟩:∃C:World→Prop,C=fun w'=>Turns (fun b=>(Value.slice vp j vc).ownBlock=some b) W2 w':=⟨_,rfl⟩
  have hCst:zaT C:=by
   rw [hC]
   exact fun w w' h hb=>h.trans (Turns.of_below' hb)
  have hCi:∀w,C w→Turns (fun b=>(Value.slice vp j vc).ownBlock=some b) W2 w:=by
   rw [hC]
   exact fun _ h=>h
  have hown:∀b,(Value.slice vp j vc).ownBlock=some b→m0+3+2≤b:=fun b h=>(Hv2.out.lt b h).1
  have q1:∀n:InC C,n.world.cell? ⟨m0,0,none⟩=some (.slice vp j vc):=fun n=>(hCi _ n.ok).cell v1 (fun h=>by have h1:m0+3+2≤m0:=hown _ h;omega)
  have hgn:∀b,(Value.slice vp j vc).ownBlock=some b→b≠g:=fun b h e=>by have:=hown b h;have:=Hg0.out;have:=Hm0.out;omega
  have q2:∀n:InC C,n.world.cell? ⟨g,a,none⟩=some (.int .u8 (y0:Int)):=fun n=>(hCi _ n.ok).cell x0 (fun h=>hgn _ h rfl)
  have q3:∀n:InC C,n.world.cell? ⟨g,a+1,none⟩=some (.int .u8 (y1:Int)):=fun n=>(hCi _ n.ok).cell x1 (fun h=>hgn _ h rfl)
  have q4:∀n:InC C,n.world.cell? ⟨g,a+2,none⟩=some (.int .u8 (y2:Int)):=fun n=>(hCi _ n.ok).cell x2 (fun h=>hgn _ h rfl)
  have hC2:C W2:=by rw [hC];exact Turns.refl _ _
  have hK0:zaT (fun w=>Below W2.heap.size W2 w):=fun w w' h hb=>h.trans (hb.mono h.size)
  have hqq:Nonempty (InC C):=⟨⟨W2,hC2⟩⟩
  have HC:=Lib.hid hC
  have HCi:=Lib.hid hCi
  have Hown:=Lib.hid hown
  have Hv1:=Lib.hid v1
  have Hv4:=Lib.hid v4
  clear hC hCi hown hgn v1 v4 x0 x1 x2 v2
  refine zbu 17 19 C (fun w=>Below W2.heap.size W2 w) (by kernel_rfl) (by decide) (by kernel_rfl) (by kernel_rfl) (by kernel_rfl) (by kernel_rfl) (fun h=>by obtain ⟨_,_,h⟩:=h;exact h) hCst hC2 hK0 (Below.refl _ _) ?_
  repeat (refine ziC (fun K hK=>?_);go_simp;(refine hK _ ?_;clear hK K))
  refine zgm ?_
  simp only [List.take_succ_cons,List.take_zero,List.drop_succ_cons,List.drop_zero]
  refine zgR rfl 1 #[.int .u32 (z:Int)] 51 ?hrun hCst hK0 (fun sv=>?_)
  case hrun=>
   intro w'
   first
    | rfl
    | (go_simp;done)
    | kernel_rfl
  refine zdR rfl (.tmp 33) (.tmp 50) 24 rfl (m0+3+2) 51 nf _ 1 4 Tryz.underlying24 hj0 hj1 hj2 hj3 rfl (by decide) (.slice vp j vc) j XS rfl sv 1 [.int .u32 (z:Int)] rfl rfl ?c2 ?c3 ?c4 ?hin W2.heap.size ?hZ ?hCa (fun v'=>?_)
  case c2=>intro u hu;simp at hu;subst hu;rfl
  case c3=>simp only [maxLen];omega
  case c4=>omega
  case hin=>
   rintro w' - ⟨hk,B,e1,e2⟩
   refine ⟨(Turns.of_below' (T:=fun _=>False) hk).owns Hv2.out (fun _ _ h=>h),Nat.le_trans hs2 hk.size,_,_,e1,.inr ⟨_,rfl,World.news_of_block e2⟩⟩
  case hZ=>exact fun w' hw=>(HCi.out w' hw).size
  case hCa=>
   intro w' w'' hw _ hg
   rw [HC.out] at hw ⊢
   exact hw.trans (Turns.of_grown hg (fun _ h=>h))
  intro w4 hw4 hk4
  obtain ⟨ho4,hp4⟩:=hk4
  have ht4:=HCi.out w4 hw4
  obtain ⟨vp4,vc4,rfl⟩:=zac ho4
  have hb1:¬(Value.slice vp j vc).ownBlock=some m0:=fun e=>by have:=Hown.out _ e;omega
  have x1:=ht4.cell Hv1.out hb1
  have x4:=ht4.free Hv1.out Hv4.out hb1
  have Ho4:=Lib.hid ho4
  have Ht4:=Lib.hid ht4
  have Hg4:=Lib.hid hp4
  clear ho4 ht4 hp4 hw4 hCst hC2 hK0 hqq q1 q2 q3 q4
  go_simp
  go_wp2
  gi_wp2
  have y1:(w4.setCell ⟨m0,0,none⟩ (.slice vp4 (j+1) vc4)).cell? ⟨m0,0,none⟩=some (.slice vp4 (j+1) vc4):=by simp [go_sem,x1]
  have y4:(w4.setCell ⟨m0,0,none⟩ (.slice vp4 (j+1) vc4)).frozen? ⟨m0,0,none⟩=false:=by simp [go_sem,x4]
  have hts:=Turns.set1 m0 w4 (.slice vp4 (j+1) vc4)
  have hm0:=Hm0.out
  have hLn:(((plK l).take (pre++[(3*j,3)]).length).map pxv)=XS++[.int .u32 (z:Int)]:=by
   rw [List.length_append,Hj.out]
   show ((plK l).take (j+1)).map pxv=_
   rw [Hat.out,List.map_append,HXS.out];rfl
  have hXl:(XS++[Value.int .u32 (z:Int)]).length=j+1:=by have:=Ho4.out.1;omega
  refine ⟨⟨⟨_,y1,?_,fun b hb hT=>?_⟩,y4,by omega,?_⟩,?_,fun b hb=>?_⟩
  ·rw [hLn,hXl]
   exact hts.owns Ho4.out (fun b hb (h:b=m0)=>by have:=(Ho4.out.lt _ hb).1;omega)
  ·rcases Hg4.out b hb with h | h
   ·exact Hv3.out b h hT
   ·have:=HTs.out b hT;omega
  ·exact HV6.out.trans ((Ht4.out.below HV6.out.size (fun b hb=>by have:=Hown.out b hb;omega)).trans (hts.below (Nat.le_trans HV6.out.size Ht4.out.size) (fun b (hb:b=m0)=>by omega)))
  ·exact Nat.le_trans Ht4.out.size hts.size
  ·have hX:b<W2.heap.size∧b≠m0∧¬(Value.slice vp j vc).ownBlock=some b:=by
    rcases hb with hb | hb | hb | hb
    ·have h3:b=m0+1∨b=m0+1+1:=hb
     exact ⟨by omega,by omega,fun e=>by have:=Hown.out b e;omega⟩
    ·exact ⟨HTs.out b hb,by have:=HT4.out b hb;omega,fun e=>Hv3.out b e hb⟩
    ·exact ⟨by omega,by omega,fun e=>by have:=Hown.out b e;omega⟩
    ·exact ⟨by omega,by omega,fun e=>by have:=Hown.out b e;omega⟩
   have e2:=Ht4.out.block b hX.1 hX.2.2
   have e3:=hts.block b (Nat.lt_of_lt_of_le hX.1 Ht4.out.size) hX.2.1
   exact e3.trans e2
 case done=>
  intro Tp Wq W' hI htt hTp hlt hD
  rw [hsz] at htt hTp hlt hD
  have hO:=hI.turn (T:=fun _=>False) htt (fun b hb=>hb) hTp (by rw [Hm0.out];omega) (Nat.le_refl _) (fun _ h=>h.elim)
  rw [hsz]
  have HD:=Lib.hid hD
  obtain ⟨⟨vb,v1,v2,v3⟩,v4,v5,v6⟩:=hO
  have hQl:1+3*(lq l 0+1)≤l.length:=by rw [Hk.out.2,Hn.out];have:=Hk.out.1;omega
  have hKl:=zgn hQl
  rw [Hk.out.2] at hKl
  simp only [List.length_map,List.length_range] at v2
  rw [List.take_of_length_le (Nat.le_of_eq hKl)] at v2
  obtain ⟨vp,vc,rfl⟩:=zac v2
  have HV2:=Lib.hid v2
  have HV6:=Lib.hid v6
  have k0:(S:Int)≤(n:Int):=by omega
  clear hI htt hD hI0 v2 v6 hQl
  dsimp only
  by_cases hcS:c=S
  ·subst hcS
   have hd0:l.drop c=[]:=List.drop_of_length_le (by rw [Hn.out];omega)
   have Hd0:=Lib.hid hd0
   clear hd0
   go_upto_region 10 with (fail)
   go_quiet (fail)
   rename_i nq
   have HB2:=Lib.hid (Below.drewN' HV6.out nq)
   have HV3:Hid ((W'.drewN nq).ownsRow (m0+3+2) 51 1 (.slice vp (plK l).length vc) (plK l).length ((plK l).map pxv)):=Lib.hid HV2.out
   have HD2:Hid ((W'.drewN nq).heap[m0+3]? =some (.deferred (some []))):=Lib.hid HD.out
   generalize W'.drewN nq=W2 at *
   clear v1 v4
   go_wp2
   have htd:=Turns.put (T:=fun b=>b=m0+3) W2 (m0+3) (.deferred none) rfl
   have hB:Below w.heap.size w (W2.putObj (m0+3) (.deferred none)):=HB2.out.trans (htd.below HB2.out.size (fun b (hb:b=m0+3)=>by rw [Hm0.out];omega))
   have hO3:(W2.putObj (m0+3) (.deferred none)).ownsRow w.heap.size 51 1 (.slice vp k vc) (plK l).length ((plK l).map pxv):=by
    have:=htd.owns (zao HV3.out (show w.heap.size≤m0+3+2 by rw [Hm0.out];omega)) (fun b hb (h:b=m0+3)=>by have:=(HV3.out.lt _ hb).1;omega)
    rw [hKl] at this ⊢
    exact this
   have hR:=Hp.out.below hB
   refine ⟨by simp,.inl ⟨_,_,rfl,run_takeDeferred HD2.out,?_⟩⟩
   have hn0:n - c=0:=by omega
   rw [hn0]
   refine ⟨_,results_tmp3 rfl _ _ _,hB,.inr ⟨HQ2.out,_,_,_,rfl,hO3,?_,?_,by omega,by simp⟩⟩
   ·rw [Hd0.out]
    rcases hR with ⟨h,-⟩ | ⟨b,off',e,hb,-⟩
    ·cases h
    ·exact .inr ⟨b,off',e,hb,fun i x hi=>by simp at hi⟩
   ·omega
  ·have hcS2:S<c:=by omega
   go_upto_region 10 with (fail)
   go_quiet (fail)
   rename_i nq
   have HB2:=Lib.hid (Below.drewN' HV6.out nq)
   have HV3:Hid ((W'.drewN nq).ownsRow (m0+3+2) 51 1 (.slice vp (plK l).length vc) (plK l).length ((plK l).map pxv)):=Lib.hid HV2.out
   have HD2:Hid ((W'.drewN nq).heap[m0+3]? =some (.deferred (some []))):=Lib.hid HD.out
   generalize W'.drewN nq=W2 at *
   clear v1 v4
   go_wp2
   have htd:=Turns.put (T:=fun b=>b=m0+3) W2 (m0+3) (.deferred none) rfl
   have hB:Below w.heap.size w (W2.putObj (m0+3) (.deferred none)):=HB2.out.trans (htd.below HB2.out.size (fun b (hb:b=m0+3)=>by rw [Hm0.out];omega))
   have hO3:(W2.putObj (m0+3) (.deferred none)).ownsRow w.heap.size 51 1 (.slice vp k vc) (plK l).length ((plK l).map pxv):=by
    have:=htd.owns (zao HV3.out (show w.heap.size≤m0+3+2 by rw [Hm0.out];omega)) (fun b hb (h:b=m0+3)=>by have:=(HV3.out.lt _ hb).1;omega)
    rw [hKl] at this ⊢
    exact this
   have hR:=Hp.out.below hB
   refine ⟨by simp,.inl ⟨_,_,rfl,run_takeDeferred HD2.out,?_⟩⟩
   refine ⟨_,results_tmp3 rfl _ _ _,hB,.inr ⟨HQ2.out,_,_,_,rfl,hO3,?_,?_,by omega,by simp⟩⟩
   ·rcases hR with ⟨h,-⟩ | ⟨b,off',e,hb,hcl⟩
    ·cases h
    ·cases e
     refine .inr ⟨_,_,rfl,hb,fun i x hi j u hu=>?_⟩
     rw [List.getElem?_drop] at hi
     have:=hcl (S+i) x hi j u hu
     rw [Nat.mul_one] at this ⊢
     rw [←this]
     congr 2
     omega
   ·omega
end
end Go.Proofs.YtedakhgaghfogaaGreat
