/- Several texts in one, each with its own head. -/
import Derived.Test.YtedakhgaghfogaaGreatQs31
import Derived.Test.YtedakhgaghfogaaGreatQs4
import Derived.Test.YtedakhgaghfogaaGreatQs29
namespace Go.Proofs.YtedakhgaghfogaaGreat
section
open Go.RowKit
section
variable {P:Program} {ops:Array Oper} {C:World→Prop}
structure InC (C:World→Prop) where
 world:World
 ok:C world
theorem ziC {E:Act→Prop} {a:Act} {o:Oper} {rest:List Oper}
  (h:∀K:Act→Prop,(∀a,LqC P ops C E rest a→K a)→if Region.wanted o (yielded ops a.tmps) then ∃v,(∀n:InC C,zbJ P n.world v ((execOp a.eval o).run P n.world))∧K (a.put o.dst v) else K (a.put o.dst undef)):LqC P ops C E (o::rest) a:=
 zpd fun K hK=>by
  have h1:=h K hK
  by_cases hw:Region.wanted o (yielded ops a.tmps)=true
  ·rw [if_pos hw] at h1 ⊢
   obtain ⟨v,h2,h3⟩:=h1
   exact ⟨v,fun w hw=>h2 ⟨w,hw⟩,h3⟩
  ·rw [if_neg hw] at h1 ⊢
   exact h1
theorem zgR {E:(World→Prop)→Act→Prop} {Kn:World→Prop} {a:Act} {o:Oper} {rest:List Oper} (hgd:o.guard=none) (m:Nat) (cs:Array Value) (t:TypeId)
  (hrun:∀w,(execOp a.eval o).run P w= .ok (.value (.slice (some ⟨w.heap.size,0,none⟩) m m)) (w.alloc (.cells cs t))) (hC:zaT C) (hK:zaT Kn)
  (h:∀v,ChC P C E rest (fun w=>Kn w∧∃B,v= .slice (some ⟨B,0,none⟩) m m∧w.heap[B]? =some (.cells cs t)) (a.put o.dst v)):ChC P C E (o::rest) Kn a:=by
 refine ⟨hgd,fun v w=>Kn w∧∃B,v= .slice (some ⟨B,0,none⟩) m m∧w.heap[B]? =some (.cells cs t),fun v w w' hk hb=>?_,fun w hw hk=>?_,h⟩
 ·obtain ⟨k,B,e1,e2⟩:=hk
  exact ⟨hK _ _ k hb,B,e1,(hb.block B (((Array.getElem?_eq_some_iff.1 e2).1))).trans e2⟩
 ·rw [hrun w]
  exact ⟨hC _ _ hw (Below.al1 w _),hK _ _ hk (Below.al1 w _),_,rfl,World.alloc_heap_new w _⟩
theorem zdR {E:(World→Prop)→Act→Prop} {Kn:World→Prop} {a:Act} {o:Oper} {rest:List Oper} (hgd:o.guard=none) (s x:Operand) (t:TypeId)
  (ho:o.op= .call { callee:= .builtin .append,args:=#[s,x],argTypes:=#[t,t]})
  (base:Nat) (e:TypeId) (i:TypeInfo) (z:Value) (size bytes:Nat) (ht:P.underlying t=some (.slice e)) (hi:P.info? e=some i) (hz:i.zero=some z)
  (hsize:i.size=size) (hby:i.bytes=bytes) (hzs:z.cells.size=size) (hsz:0<size)
  (v:Value) (n:Nat) (xs:List Value) (hs:a.eval s=v) (vx:Value) (m:Nat) (news:List Value) (hx:a.eval x=vx) (hl:news.length=m*size) (h1:∀u∈news,u.oneCell'=true)
  (h63:n+m≤maxLen) (hbytes:(n+m)*bytes≤140737488355328)
  (hin:∀w,C w→Kn w→w.ownsRow base e size v n xs∧base≤w.heap.size∧∃p c,vx= .slice p m c∧((p=none∧m=0∧c=0)∨∃ad,p=some ad∧∀j u,news[j]? =some u→w.cell? (ad.add j)=some u))
  (Z:Nat) (hZ:∀w,C w→Z≤w.heap.size) (hC:∀w w',C w→Kn w→w.grownBy w' v.ownBlock→C w')
  (h:∀v',ChC P C E rest (fun w=>w.ownsRow base e size v' (n+m) (xs++news)∧∀k,v'.ownBlock=some k→v.ownBlock=some k∨Z≤k) (a.put o.dst v')):ChC P C E (o::rest) Kn a:=by
 refine ⟨hgd,fun v' w=>w.ownsRow base e size v' (n+m) (xs++news)∧∀k,v'.ownBlock=some k→v.ownBlock=some k∨Z≤k,fun v w w' hk hb=>⟨?_,hk.2⟩,fun w hw hk=>?_,h⟩
 ·exact (Turns.of_below' (T:=fun _=>False) hb).owns hk.1 (fun _ _ h=>h)
 ·obtain ⟨g1,g2,p,c,rfl,g3⟩:=hin w hw hk
  obtain ⟨v',w',hr,r2,r3,r4⟩:=zb5 (P:=P) w base t o.type e i z size bytes ht hi hz hsize hby hzs hsz v n xs g1 p m c news hl g3 h1 h63 hbytes g2
  unfold execOp
  simp only [ho,resolve,invoke,builtin,Sem.run_bind,Sem.run_pure,Result.andThen_ok,List.map_toArray,List.map_cons,List.map_nil,hs,hx,hr]
  exact ⟨hC w w' hw hk r3,r2,fun k hk=>(r4 k hk).imp id fun h=>Nat.le_trans (hZ w hw) h⟩
theorem znX {E:(World→Prop)→Act→Prop} {Kn:World→Prop} {a:Act} {o:Oper} {rest:List Oper} (hgd:o.guard=none) (f:FuncId) (args:Array Value)
  (hrun:∀w,(execOp a.eval o).run P w= .ok (.enter f args) w) (Po:Value→World→Prop) (hst:∀v,zaT (Po v))
  (hcall:∀w,C w→Kn w→Calls P f args w fun e w'=> ∃v,e= .returned v∧C w'∧Po v w')
  (h:∀v,ChC P C E rest (Po v) (a.put o.dst v)):ChC P C E (o::rest) Kn a:=by
 refine ⟨hgd,Po,hst,fun w hw hk=>?_,h⟩
 rw [hrun w]
 exact ⟨rfl,hcall w hw hk⟩
end
end
section
open Go.RowKit
attribute [local go_sem] Oper.semAt_some
theorem zqF {cs l:List Nat} (h:plZ cs.length=0):plT cs l=[]:=by
 unfold plT;rw [h,Nat.zero_mul];rfl
theorem zqC {k N:Nat} (h0:0<N) (hk:N≤k):chL k 0 N=[(0,N)]:=by
 rw [zen h0 (by omega),zf2 (by omega),Nat.sub_zero,Nat.min_eq_right hk]
theorem zh7 {w:World} {ops:Array Oper} {rest:List Oper} {o:Oper} {a:Act} {Q:Exit→Act→World→Prop} (hg:o.guard=none) (m:Operand) (hop:o.op=Op.call { callee:=Callee.builtin Builtin.len,args:=#[m],argTypes:=#[137]})
  (M:Nat) (cs:List Nat) (hm:a.eval m= .map (some M)) (hown:MapP w M cs) (k:Nat) (hk:cs.length=k) (hK:wpList Tryz.prog ops Q rest (a.put o.dst (.int .i64 (k:Int))) w):wpList Tryz.prog ops Q (o::rest) a w:=by
 obtain ⟨D,hD,hs,-⟩:=hown
 refine wpList_len_own w hg m _ hop 51 51 zcJ _ M _ D hm hD ?_
 rw [hs,hk]
 exact hK
set_option maxRecDepth 100000 in
set_option maxHeartbeats 8000000 in
theorem zfm (p:Option Addr) (c M:Nat) (l cs:List Nat) (w:World) (hp:RowAt encP 1 w p l) (h32:∀x∈l,x<4294967296) (hl:l.length≤1048576) (hlc:l.length≤c) (hm:MapP w M cs) (hcs:∀x∈l,rlw x∈cs) (h16:cs.length≤16) (h0:0<l.length):
  Calls Tryz.prog 98 #[.slice p l.length c,.map (some M)] w fun e w'=> ∃v',e= .returned v'∧w'.ownsRow w.heap.size 5 1 v' (plT cs l).length ((plT cs l).map u8v)∧Below w.heap.size w w':=by
 have Hp:=Lib.hid hp
 have Hm:=Lib.hid hm
 have Hcs:=Lib.hid hcs
 have H32:=Lib.hid h32
 obtain ⟨N,hN⟩:∃n,l.length=n:=⟨_,rfl⟩
 have HN:=Lib.hid hN
 obtain ⟨K,hK⟩:∃k,cs.length=k:=⟨_,rfl⟩
 have HK:=Lib.hid hK
 have hz4:=zhW cs.length
 have hzp:=zgp h16
 obtain ⟨s,hs⟩:∃s,plZ cs.length=s:=⟨_,rfl⟩
 have Hs:=Lib.hid hs
 have Hw:=Lib.hid (fun w=>zfQ cs.length w)
 rw [hs] at hz4 hzp Hw
 rw [hK] at h16 hzp Hw
 rw [hN] at hl hlc h0 ⊢
 have Hzp:=Lib.hid hzp
 clear hp hm hcs h32 hN hK hs hzp
 refine (callsIn_wide (n:=0)).1 ?_
 refine callsIn_of_wp_marks Tryz.func98 rfl trivial ?_ rfl
 simp only [Tryz.ntmps98,List.size_toArray,List.length_cons,List.length_nil,Nat.reduceAdd,Nat.reduceSub,Array.replicate_succ,Array.replicate_zero,List.push_toArray,List.append_toArray,List.nil_append,List.cons_append]
 refine wpIn_wide.2 ?_
 go_upto_region 1 with (fail)
 have hbx:=World.alloc_heap_new w (.cells #[.map (some M)] 137)
 have hb1:=Below.al1 w (.cells #[.map (some M)] 137)
 have hs1:(w.alloc (.cells #[.map (some M)] 137)).heap.size=w.heap.size+1:=by simp
 generalize w.alloc (.cells #[.map (some M)] 137)=W1 at *
 obtain ⟨m0,hm0⟩:∃b,w.heap.size=b:=⟨_,rfl⟩
 have Hm0:=Lib.hid hm0
 rw [hm0] at hbx hs1 ⊢
 have c0:W1.cell? ⟨m0,0,none⟩=some (.map (some M)):=zaa hbx rfl
 have Hm1:=Lib.hid (Hm.out.below hb1)
 have Hb1:=Lib.hid hb1
 have Hs1:=Lib.hid hs1
 have Hbx:=Lib.hid hbx
 clear hb1 hs1 hbx hm0
 go_wp2_with (at_len;refine zh7 rfl (.tmp 12) rfl M cs rfl Hm1.out K HK.out ?_)
 refine Calls.mono (Hw.out _) ?_
 rintro _ u ⟨rfl,rfl⟩
 clear c0
 by_cases hs0:s=0
 ·subst hs0
  go_wp2
  have hb2:=Below.al1 u (.cells #[.int .i64 0] 3)
  refine ⟨_,results_tmp rfl _ _ _,_,rfl,?_,Below.thn Hb1.out hb2⟩
  rw [zqF Hs.out]
  exact World.ownsRow_nil _ _ _ _
 have d0:((s:Int)==0)=false:=by simp;omega
 obtain ⟨q,hq⟩:∃q,8388608/s=q:=⟨_,rfl⟩
 have hqi:(8388608:Int)/(s:Int)=(q:Int):=by rw [←hq];simp
 have hq1:2097152≤q:=by
  rw [←hq,Nat.le_div_iff_mul_le (by omega)];omega
 have hq2:q≤8388608:=by rw [←hq];exact Nat.div_le_self _ _
 have Hq:=Lib.hid (show s*q≤8388608 by rw [←hq];exact Nat.mul_div_le _ _)
 clear hq
 go_upto_region 4 with (fail)
 have hsz:=Hs1.out
 rw [hsz]
 have hz1:=World.alloc_heap_new u (.cells #[.int .i64 (s:Int)] 3)
 have hb2:=Below.al1 u (.cells #[.int .i64 (s:Int)] 3)
 have hs2:(u.alloc (.cells #[.int .i64 (s:Int)] 3)).heap.size=m0+1+1:=by simp [hsz]
 generalize u.alloc (.cells #[.int .i64 (s:Int)] 3)=U2 at *
 rw [hsz] at hz1
 have HbU:=Lib.hid (Below.thn Hb1.out hb2)
 have HbM:=Lib.hid ((hb2.block m0 (by omega)).trans Hbx.out)
 have HbS:=Lib.hid hz1
 have HmU:=Lib.hid (Hm1.out.below hb2)
 have HszU:=Lib.hid hs2
 have c1:U2.cell? ⟨m0+1,0,none⟩=some (.int .i64 (s:Int)):=zaa hz1 rfl
 clear hz1 hb2 hsz hs2
 go_upto_region 5 with (fail)
 have hsz:=HszU.out
 rw [hsz]
 have hz1:=World.alloc_heap_new U2 (.cells #[.slice none 0 0] 28)
 have hb2:=Below.al1 U2 (.cells #[.slice none 0 0] 28)
 have hs2:(U2.alloc (.cells #[.slice none 0 0] 28)).heap.size=m0+3:=by simp [hsz]
 generalize U2.alloc (.cells #[.slice none 0 0] 28)=W3 at *
 rw [hsz] at hz1
 have Hb3:=Lib.hid hb2
 have Hz3:=Lib.hid hz1
 have Hs3:=Lib.hid hs2
 have c2:=cell_later hb2 c1
 clear hz1 hb2 hsz hs2 c1
 go_wp2_with fail
 refine Calls.mono (zjx p N c q W3 (by omega)) ?_
 rintro _ u4 ⟨rfl,rfl⟩
 have hal:=Below.al2 W3 (.cells #[.slice p N c] 24) (.cells #[.int .i64 (q:Int)] 3)
 have hg:=zag [.cells #[.slice p N c] 24,.cells #[.int .i64 (q:Int)] 3] W3
 simp only [List.foldl_cons,List.foldl_nil] at hg
 have hsz:((W3.alloc (.cells #[.slice p N c] 24)).alloc (.cells #[.int .i64 (q:Int)] 3)).heap.size=m0+5:=by simp [Hs3.out]
 generalize (W3.alloc (.cells #[.slice p N c] 24)).alloc (.cells #[.int .i64 (q:Int)] 3)=W4 at *
 rw [Hs3.out] at hg ⊢
 clear c2
 have k3:W4.cell? ⟨m0+3,0,none⟩=some (.slice p N c):=zaa ((hg 0 _).2 rfl) rfl
 have k4:W4.cell? ⟨m0+3+1,0,none⟩=some (.int .i64 (q:Int)):=zaa ((hg 1 _).2 rfl) rfl
 have hk2:=(hal.block (m0+1+1) (by rw [Hs3.out];omega)).trans Hz3.out
 have k2:W4.cell? ⟨m0+1+1,0,none⟩=some (.slice none 0 0):=zaa hk2 rfl
 have f2:W4.frozen? ⟨m0+1+1,0,none⟩=false:=by simp [World.frozen?,hk2]
 have hI0:OwnI 5 U2 (m0+1+1) (m0+5) (fun _=>False) [] W4:=⟨⟨_,k2,World.ownsRow_nil _ _ _ _,fun _ _ h=>h⟩,f2,by omega,Below.thn Hb3.out hal⟩
 have HIt:=Lib.hid (zi0 (m0+3) (m0+3+1) p N q c W4 (fun b=>b=m0+3∨b=m0+3+1) k3 k4 (fun h=>by
  obtain ⟨g,off,e,-⟩:=Hp.out.pxs (by rw [HN.out];exact h)
  exact ⟨g,off,e⟩) hl (by omega) (by omega) hlc (fun b hb=>by rcases hb with rfl | rfl<;>omega) (.inl rfl) (.inr rfl))
 rw [zqC h0 (by omega)] at HIt
 clear hg hal hk2 k2 k3 k4 f2
 go_wp2_with fail
 refine (wpIn_wide (n:=0)).1 ?_
 refine zaW (gf:=133) (El:=ElCh p) (xs:=[(0,N)]) (w0:=W4) ?hg ?eg HIt.out ?hs0 ?hRr ?hps
  (fun pre T W'=>OwnI 5 U2 (m0+1+1) (m0+5) T (match pre with | []=>[] | _::_=>(plT cs l).map u8v) W') (fun _ _ _ _=>False) ?start
  (fun vs=>{ tmps:=#[.slice p N c,.map (some M),undef,.pointer (some ⟨m0,0,none⟩),.slice none 0 0,.pointer (some ⟨m0+1,0,none⟩),.pointer (some ⟨m0+1+1,0,none⟩),vs.getD 0 undef,undef,undef,undef,undef,.map (some M),.int .i64 (K:Int),.int .i64 (s:Int),.int .i64 (s:Int),.bool false,.slice p N c,.int .i64 (s:Int),.int .i64 (q:Int),.func (.func 133) #[] #[.pointer (some ⟨m0+3,0,none⟩),.pointer (some ⟨m0+3+1,0,none⟩)],vs.getD 0 undef,undef,undef,undef,undef,undef,undef,undef,undef,undef,undef,undef,undef,undef,undef,undef,undef,undef,undef,undef],defers:=[]}) ?assign ?body ?done ?stop
 case hg=>rfl
 case eg=>exact fun _ _=>rfl
 case hs0=>exact Nat.le_refl _
 case hRr=>exact fun q hq=>⟨by rcases hq with rfl | rfl<;>omega,rfl⟩
 case hps=>
  rintro _ _ _ x _ ⟨_,_,_,h⟩
  rw [h];rfl
 case start=>exact hI0
 case assign=>
  intro l vs W' K hvs hK
  obtain ⟨v0,rfl⟩:=zdP hvs
  gi_wp2
  first
   | exact hK
   | simpa using hK
   | simpa [Array.zip,Array.zipWith] using hK
 case stop=>exact fun _ _ _ _ _ _ h=>h.elim
 case body=>
  rintro pre x rest Tp T Wq Wp W1' W2 vs hxs hI htqp hsq ht2 hTp hT hT2 hR2 hEl h12 hs12 hLt hL1 hD2 hL2
  obtain ⟨rfl,rfl,rfl⟩:pre=[]∧x=(0,N)∧rest=[]:=by
   cases pre with
   | nil=>injection hxs with h1 h2;exact ⟨rfl,h1.symm,h2.symm⟩
   | cons y r=>
    injection hxs with h1 h2
    cases r<;>cases h2
  obtain ⟨g,off,rfl,rfl⟩:=hEl
  simp only [hsz] at ht2 hTp hT2 h12 hLt hL1 hD2 hL2 htqp ⊢
  have hUs:=HszU.out
  have hO:=hI.turn ht2 (fun b hb=>hb) (fun b hb=>(hTp b hb).1) (by omega) hsq (T:=T) hT
  obtain ⟨⟨vb,v1,v2,v3⟩,v4,v5,v6⟩:=hO
  obtain ⟨vp,vc,rfl⟩:=zac v2
  simp only [List.length_nil] at v1 v2 v3
  have hs2:m0+5+2≤W2.heap.size:=by omega
  have hT4:∀b,T b→m0+5+1<b:=fun b hb=>(hT2 b hb).1
  have HV1:=Lib.hid v1
  have HV2:=Lib.hid v2
  have HV3:=Lib.hid v3
  have HV4:=Lib.hid v4
  have HV6:=Lib.hid v6
  have HT4:=Lib.hid hT4
  have HTs:Hid (∀b,T b→b<W2.heap.size):=Lib.hid (fun b hb=>(hT2 b hb).2)
  have e0:(#[Value.slice (some ⟨g,off+(0,N).1,none⟩) (0,N).2 (0,N).2]:Array Value).getD 0 undef= .slice (some ⟨g,off,none⟩) N N:=rfl
  rw [e0]
  have hmf:∀(fn:Fn) (first cap:Array Value) (w:World),(Instr.makeFunc fn first cap).run Tryz.prog w= .ok (.func fn first cap) w:=fun _ _ _ _=>rfl
  clear hI htqp hsq ht2 hTp hT hT2 hR2 h12 hs12 hLt hD2 hL2 hL1 hxs v1 v2 v3 v4 v6 hT4 e0 hI0 hUs
  gi_wp2
  have hwr:=Wr.new W2
  have hbw:=Below.al1 W2 (.cells #[.slice none 0 0,.int .i64 0] 169)
  generalize W2.alloc (.cells #[.slice none 0 0,.int .i64 0] 169)=W5 at *
  obtain ⟨B,hB⟩:∃b,W2.heap.size=b:=⟨_,rfl⟩
  have HBe:=Lib.hid hB
  rw [hB] at hwr hs2 ⊢
  have HUW:Hid (∀wr,Below W2.heap.size W2 wr→Below U2.heap.size U2 wr):=Lib.hid (fun wr hb=>Below.thn HV6.out hb)
  have HBm:Hid (m0+1+1<B):=Lib.hid (by omega)
  have Hwr0:Hid (Wr W5 (B+1) B (.slice none 0 0) (plN s ((plV cs l).take 0)) (s*0)):=Lib.hid hwr
  have Hbw0:=Lib.hid hbw
  have HVt:Hid (∀i,i<N→(plV cs l).take (i+1)=(plV cs l).take i++[plI (rlw (l.getD i 0)) cs]):=Lib.hid (fun i hi=>by
   rw [List.take_succ_eq_append_getElem (by rw [zcD,HN.out];exact hi)]
   congr 2
   unfold plV
   rw [List.getElem_map,List.getD_eq_getElem?_getD,List.getElem?_eq_getElem (by rw [HN.out];exact hi)]
   rfl)
  clear hwr hbw hB
  gi_loopw [25] (fun iv wr=> ∃(i:Nat) (sv:Value),iv= .int .i64 (i:Int)∧i≤N∧Hid (Wr wr (B+1) B sv (plN s ((plV cs l).take i)) (s*i))∧Hid (Below W2.heap.size W2 wr)) (fun iv _=>N - (intOf iv).toNat)
  case atStart=>exact ⟨0,_,rfl,Nat.zero_le _,Hwr0,Hbw0⟩
  case round=>
   obtain ⟨i,sv,rfl,hi,HW,HB⟩:=hrel
   by_cases hin:i<N
   ·have d1:decide ((i:Int)<(N:Int))=true:=by simp;omega
    have hUr:=HUW.out _ HB.out
    have hwr:=Below.thn HbU.out hUr
    obtain ⟨g',off',e,hc⟩:=Hp.out.pxs (by rw [HN.out];omega)
    cases e
    have x0:=cell_later hwr (hc i (by rw [HN.out];omega))
    have hmem:l.getD i 0∈l:=by
     rw [List.getD_eq_getElem?_getD,List.getElem?_eq_getElem (by rw [HN.out];exact hin)]
     exact List.getElem_mem _
    have hxb:=H32.out _ hmem
    have hyc:=Hcs.out _ hmem
    have HV2':=HVt.out i hin
    obtain ⟨x,hx⟩:∃x,l.getD i 0=x:=⟨_,rfl⟩
    rw [hx] at x0 hxb hyc HV2'
    have hyb:rlw x<4294967296:=Nat.lt_trans (zcI x) (by decide)
    have HL:Hid (∀w,Makes Tryz.prog 117 #[.int .u32 (x:Int)] w (.int .u32 ((rlw x:Nat):Int))):=Lib.hid (fun w=>Calls.mono (zhP x w hxb) (fun e w' ⟨he,hw⟩=>⟨he,by rw [hw];exact Below.refl _ _⟩))
    obtain ⟨y,hy⟩:∃y,rlw x=y:=⟨_,rfl⟩
    rw [hy] at HL hyb hyc HV2'
    have hvK:plI y cs<2^s:=Nat.lt_of_lt_of_le (by have:=zid.2 hyc;rwa [HK.out] at this) Hzp.out
    have hms:=HmU.out.below hUr
    have hlk:=fun (w':World) (h:MapP w' M cs)=>h.look hyb hyc
    have hbm:=(hUr.block m0 (by rw [HszU.out];omega)).trans HbM.out
    have hbs:=(hUr.block (m0+1) (by rw [HszU.out];omega)).trans HbS.out
    obtain ⟨v,hv⟩:∃v,plI y cs=v:=⟨_,rfl⟩
    rw [hv] at hvK hlk HV2'
    have HV3':=Lib.hid HV2'
    have HvK:=Lib.hid hvK
    have k0:(0:Int)≤(i:Int):=by omega
    have k1:(i:Int)<(N:Int):=by omega
    have k1':i<N:=hin
    have Hmt:Hid (∀w',Turns (fun b=>b=B∨sv.ownBlock=some b) wr w'→MapP w' M cs∧w'.cell? ⟨m0,0,none⟩=some (.map (some M))∧w'.cell? ⟨m0+1,0,none⟩=some (.int .i64 (s:Int))):=Lib.hid (fun w' ht=>by
     have hn:∀b,b<B→¬(b=B∨sv.ownBlock=some b):=fun b hb h=>by
      rcases h with h | h
      ·omega
      ·have:=(HW.out.own.lt b h).1;omega
     have:=HBm.out
     have hM:M<U2.heap.size:=HmU.out.lt
     rw [HszU.out] at hM
     exact ⟨hms.turned ht (hn M (by omega)),zaa ((ht.block m0 (zab hbm) (hn m0 (by omega))).trans hbm) rfl,zaa ((ht.block (m0+1) (zab hbs) (hn (m0+1) (by omega))).trans hbs) rfl⟩)
    clear hc hx hy hv hmem HV2' hxb hms hbm hbs hvK hwr hUr hyc
    gi_wp2
    have q3:∀n:After wr,n.world.cell? ⟨m0,0,none⟩=some (.map (some M)):=fun n=>(Hmt.out _ (Turns.of_below' n.below)).2.1
    have q5:∀n:After wr,n.world.cell? ⟨m0+1,0,none⟩=some (.int .i64 (s:Int)):=fun n=>(Hmt.out _ (Turns.of_below' n.below)).2.2
    have qL:∀n:After wr,(Instr.lookup 137 (.map (some M)) (.int .u32 (y:Int)) false).run Tryz.prog n.world= .ok (.int .u32 (v:Int)) n.world:=fun n=>hlk _ (Hmt.out _ (Turns.of_below' n.below)).1
    have hq:=After.ne wr
    clear hlk x0
    refine zbR 6 (by kernel_rfl) (by kernel_rfl) (by kernel_rfl) (by kernel_rfl) (fun h=>by obtain ⟨_,_,h⟩:=h;exact h) ?_
    repeat (refine zaK (fun K hK=>?_);go_simp;first | (refine hK _ ?_;clear hK K) | (apply Exists.intro;refine ⟨fun n=>?_,hK _ ?_⟩;(exact HL.out n.world);clear hK K))
    refine zbd ?_
    intro w' hk
    clear q3 q5 qL hq
    have hwb:=HW.out.below hk
    have hmx:s*i+s≤8388608:=by
     have h1:s*(i+1)≤s*q:=Nat.mul_le_mul_left _ (by omega)
     have h2:=Hq.out
     rw [Nat.mul_add,Nat.mul_one] at h1
     omega
    have Hcall:=Lib.hid (zlU (B+1) B _ (s*i) v s sv w' hwb HvK.out (by omega) hmx (Nat.le_trans HW.out.size hk.size))
    have Hk:=Lib.hid hk
    clear hwb hmx hk
    go_wp2_with fail
    refine Calls.mono Hcall.out ?_
    rintro _ w4 ⟨rfl,hk4⟩
    have hk4:WrTo (B+1) B sv (plN s ((plV cs l).take i)+v*2^(s*i)) (s*i+s) wr w4:=by
     obtain ⟨sv2,h1,h2,h3⟩:=hk4
     exact ⟨sv2,h1,(Turns.of_below' Hk.out).trans h2,fun k hk'=>(h3 k hk').imp id (fun h=>Nat.le_trans Hk.out.size h)⟩
    obtain ⟨sv2,g1,g2,g3⟩:=hk4
    have Hg1:Hid (Wr w4 (B+1) B sv2 (plN s ((plV cs l).take (i+1))) (s*(i+1))):=Lib.hid (by
     rw [HV3'.out,zhE,List.length_take,zcD,HN.out,Nat.min_eq_left hi,Nat.mul_add,Nat.mul_one]
     exact g1)
    have Hg2:Hid (Below W2.heap.size W2 w4):=Lib.hid (HB.out.trans (g2.below HB.out.size (fun b hb=>by
     have:=HBe.out
     rcases hb with h | h
     ·omega
     ·have:=(HW.out.own.lt b h).1;omega)))
    clear g1 g2 g3 HW HB Hcall Hk
    go_wp2
    gi_wp2
    go_roundw
    case rel=>exact ⟨i+1,sv2,by go_num,by omega,Hg1,Hg2⟩
    case measure=>simp [intOf];omega
   ·obtain rfl:i=N:=by omega
    have d1:decide ((i:Int)<(i:Int))=false:=by simp
    have HW2:Hid (Wr wr (B+1) B sv (plN (plZ cs.length) (plV cs l)) (s*i)):=Lib.hid (by
     have h:=HW.out
     rw [List.take_of_length_le (by rw [zcD,HN.out];exact Nat.le_refl _)] at h
     rw [Hs.out];exact h)
    have hTl:(plT cs l).length≤1048576:=by
     rw [zgE,Hs.out,HN.out]
     have:s*i≤4*1048576:=Nat.mul_le_mul hz4 hl
     omega
    have HTd:Hid (plT cs l=byts (plN (plZ cs.length) (plV cs l)) ((s*i+7)/8)):=Lib.hid (by unfold plT;rw [Hs.out,HN.out])
    have hsb:s*i≤8388608:=by
     have h1:s*i≤s*q:=Nat.mul_le_mul_left _ (by omega)
     have h2:=Hq.out
     omega
    have Hsb:=Lib.hid hsb
    obtain ⟨L,hL⟩:∃L,(plT cs l).length=L:=⟨_,rfl⟩
    have HL:=Lib.hid hL
    rw [hL] at hTl
    obtain ⟨nf,hj0,hj1,hj2,hj3⟩:=info_parts zaw
    clear hsb hL HW
    gi_wp2
    obtain ⟨C,hC⟩:∃C:World→Prop,C=fun w'=>Turns (fun b=>(Value.slice vp 0 vc).ownBlock=some b) wr w':=⟨_,rfl⟩
    have hCst:zaT C:=by
     rw [hC]
     exact fun w w' h hb=>h.trans (Turns.of_below' hb)
    have hCi:∀w,C w→Turns (fun b=>(Value.slice vp 0 vc).ownBlock=some b) wr w:=by
     rw [hC]
     exact fun _ h=>h
    have v1:=cell_later HB.out HV1.out
    have v4:wr.frozen? ⟨m0+1+1,0,none⟩=false:=zaf HB.out HV1.out HV4.out
    have HV2r:Hid (wr.ownsRow (m0+5+2) 5 1 (.slice vp 0 vc) 0 []):=Lib.hid ((Turns.of_below' (T:=fun _=>False) HB.out).owns HV2.out (fun _ _ h=>h))
    have hown:∀b,(Value.slice vp 0 vc).ownBlock=some b→m0+5+2≤b:=fun b h=>(HV2.out.lt b h).1
    have q2:∀n:InC C,n.world.cell? ⟨m0+1+1,0,none⟩=some (.slice vp 0 vc):=fun n=>(hCi _ n.ok).cell v1 (fun h=>by have h1:m0+5+2≤m0+1+1:=hown _ h;omega)
    have hC2:C wr:=by rw [hC];exact Turns.refl _ _
    have hK0:zaT (fun w=>Below wr.heap.size wr w):=fun w w' h hb=>h.trans (hb.mono h.size)
    have hqq:Nonempty (InC C):=⟨⟨wr,hC2⟩⟩
    have HC:=Lib.hid hC
    have HCi:=Lib.hid hCi
    have Hown:=Lib.hid hown
    have Hv1:=Lib.hid v1
    have Hv4:=Lib.hid v4
    have hrs:m0+5+2≤wr.heap.size:=Nat.le_trans (by rw [HBe.out];exact hs2) HB.out.size
    clear hC hCi hown v1 v4
    refine zbu 1 3 C (fun w=>Below wr.heap.size wr w) (by kernel_rfl) (by decide) (by kernel_rfl) (by kernel_rfl) (by kernel_rfl) (by kernel_rfl) (fun h=>by obtain ⟨_,_,h⟩:=h;exact h) hCst hC2 hK0 (Below.refl _ _) ?_
    repeat (refine ziC (fun K hK=>?_);go_simp;(refine hK _ ?_;clear hK K))
    refine zgm ?_
    simp only [List.take_succ_cons,List.take_zero,List.drop_succ_cons,List.drop_zero]
    refine znX rfl 121 #[.pointer (some ⟨B,0,none⟩)] (fun w'=>by first | rfl | (go_simp;done)) (fun v w=>Below wr.heap.size wr w∧RwG enc8 1 w v (plT cs l)) ?hst ?hcall (fun sv'=>?_)
    case hst=>exact fun v w w' h hb=>⟨hK0 _ _ h.1 hb,h.2.below hb⟩
    case hcall=>
     intro w' hw hk
     refine Calls.mono (zf7 (B+1) B _ (s*i) sv w' (HW2.out.below hk) Hsb.out) ?_
     rintro _ w'' ⟨v',rfl,ho⟩
     rw [←HTd.out] at ho
     exact ⟨v',rfl,hCst _ _ hw ho.2,hK0 _ _ hk ho.2,Rw8.own ho.1 rfl⟩
    refine zdR rfl (.tmp 37) (.tmp 38) 28 rfl (m0+5+2) 5 nf _ 1 1 Tryz.underlying28 hj0 hj1 hj2 hj3 rfl (by decide) (.slice vp 0 vc) 0 [] rfl sv' L ((plT cs l).map u8v) rfl (by rw [List.length_map,HL.out,Nat.mul_one]) (one8 _) ?c3 ?c4 ?hin wr.heap.size ?hZ ?hCa (fun v'=>?_)
    case c3=>simp only [maxLen];omega
    case c4=>omega
    case hin=>
     rintro w' - ⟨hk,hr⟩
     obtain ⟨p,c,e,-,-,hsrc⟩:=RwG.src (enc:=enc8) (k:=1) zca (by decide) hr
     rw [HL.out,zdr] at *
     exact ⟨(Turns.of_below' (T:=fun _=>False) hk).owns HV2r.out (fun _ _ h=>h),Nat.le_trans hrs hk.size,p,c,e,hsrc⟩
    case hZ=>exact fun w' hw=>(HCi.out w' hw).size
    case hCa=>
     intro w' w'' hw _ hg
     rw [HC.out] at hw ⊢
     exact hw.trans (Turns.of_grown hg (fun _ h=>h))
    intro w4 hw4 hk4
    obtain ⟨ho4,hp4⟩:=hk4
    have ht4:=HCi.out w4 hw4
    obtain ⟨vp4,vc4,rfl⟩:=zac ho4
    have hb1:¬(Value.slice vp 0 vc).ownBlock=some (m0+1+1):=fun e=>by have:=Hown.out _ e;omega
    have x1:=ht4.cell Hv1.out hb1
    have x4:=ht4.free Hv1.out Hv4.out hb1
    have Ho4:=Lib.hid ho4
    have Ht4:=Lib.hid ht4
    have Hg4:=Lib.hid hp4
    clear ho4 ht4 hp4 hw4 hCst hC2 hK0 hqq q2
    go_simp
    go_wp2
    gi_wp2
    rw [Nat.zero_add,List.nil_append] at Ho4
    rw [Nat.zero_add] at Hg4
    have y1:(w4.setCell ⟨m0+1+1,0,none⟩ (.slice vp4 L vc4)).cell? ⟨m0+1+1,0,none⟩=some (.slice vp4 L vc4):=by simp [go_sem,x1]
    have y4:(w4.setCell ⟨m0+1+1,0,none⟩ (.slice vp4 L vc4)).frozen? ⟨m0+1+1,0,none⟩=false:=by simp [go_sem,x4]
    have hts:=Turns.set1 (m0+1+1) w4 (.slice vp4 L vc4)
    have hBs:=HBe.out
    have hUs:=HszU.out
    refine ⟨⟨⟨_,y1,?_,fun b hb hT=>?_⟩,y4,by omega,?_⟩,?_,fun b hb=>?_⟩
    ·show (w4.setCell ⟨m0+1+1,0,none⟩ (.slice vp4 L vc4)).ownsRow (m0+5+2) 5 1 (.slice vp4 L vc4) ((plT cs l).map u8v).length ((plT cs l).map u8v)
     rw [List.length_map,HL.out]
     exact hts.owns Ho4.out (fun b hb (h:b=m0+1+1)=>by have:=(Ho4.out.lt _ hb).1;omega)
    ·rcases Hg4.out b hb with h | h
     ·exact HV3.out b h hT
     ·have:=HTs.out b hT;have:=HB.out.size;omega
    ·have hU:=HUW.out _ HB.out
     exact hU.trans ((Ht4.out.below hU.size (fun b hb=>by have:=Hown.out b hb;omega)).trans (hts.below (Nat.le_trans hU.size Ht4.out.size) (fun b (hb:b=m0+1+1)=>by omega)))
    ·exact Nat.le_trans HB.out.size (Nat.le_trans Ht4.out.size hts.size)
    ·have hX:b<W2.heap.size∧b≠m0+1+1∧¬(Value.slice vp 0 vc).ownBlock=some b:=by
      rcases hb with hb | hb | hb | hb
      ·have h3:b=m0+3∨b=m0+3+1:=hb
       exact ⟨by omega,by omega,fun e=>by have:=Hown.out b e;omega⟩
      ·exact ⟨HTs.out b hb,by have:=HT4.out b hb;omega,fun e=>HV3.out b e hb⟩
      ·exact ⟨by omega,by omega,fun e=>by have:=Hown.out b e;omega⟩
      ·exact ⟨by omega,by omega,fun e=>by have:=Hown.out b e;omega⟩
     have e1:=HB.out.block b hX.1
     have e2:=Ht4.out.block b (Nat.lt_of_lt_of_le hX.1 HB.out.size) hX.2.2
     have e3:=hts.block b (Nat.lt_of_lt_of_le hX.1 (Nat.le_trans HB.out.size Ht4.out.size)) hX.2.1
     exact e3.trans (e2.trans e1)
 case done=>
  intro Tp Wq W' hI htt hTp hlt hD
  rw [hsz] at htt hTp hlt hD
  have hUs:=HszU.out
  have hO:=hI.turn (T:=fun _=>False) htt (fun b hb=>hb) hTp (by omega) (Nat.le_refl _) (fun _ h=>h.elim)
  rw [hsz]
  have HD:=Lib.hid hD
  obtain ⟨⟨vb,v1,v2,v3⟩,v4,v5,v6⟩:=hO
  rw [List.length_map] at v2
  obtain ⟨vp,vc,rfl⟩:=zac v2
  have HV2:=Lib.hid v2
  have HV6:=Lib.hid v6
  clear hI htt hD hI0 v2 v6
  dsimp only
  go_wp2
  refine ⟨by simp,.inl ⟨_,_,rfl,run_takeDeferred HD.out,?_⟩⟩
  have htd:=Turns.put (T:=fun b=>b=m0+5) W' (m0+5) (.deferred none) rfl
  have hm:=Hm0.out
  have hB:Below w.heap.size w W':=Below.thn HbU.out HV6.out
  refine ⟨_,results_tmp rfl _ _ _,_,rfl,?_,?_⟩
  ·exact htd.owns (zao HV2.out (by omega)) (fun b hb (h:b=m0+5)=>by have:=(HV2.out.lt _ hb).1;omega)
  ·exact hB.trans (htd.below hB.size (fun b (hb:b=m0+5)=>by omega))
end
end Go.Proofs.YtedakhgaghfogaaGreat
