/- Several texts in one, each with its own head. -/
import Derived.Test.YtedakhgaghfogaaGreatQs29
import Derived.Test.YtedakhgaghfogaaGreatQs8
import Derived.Test.YtedakhgaghfogaaGreatQs10
import Derived.Test.YtedakhgaghfogaaGreatQs9
import Derived.Laws.MakeOwn
import Derived.BigQuiet
import Derived.BigRegion
import Derived.Maps.OwnSet
import Derived.Maps.OwnOps
namespace Go.Proofs.YtedakhgaghfogaaGreat
section
open Go.RowKit
attribute [local go_sem] Oper.semAt_some
def ElBy (_ _:World) (_:Nat→Prop) (x:Nat) (vs:Array Value):Prop:=vs=#[u8v x]
theorem zjh (p:Option Addr) (n c:Nat) (w:World):Calls Tryz.prog 91 #[.slice p n c] w fun e w'=>e= .returned (.func (.func 111) #[] #[.pointer (some ⟨w.heap.size,0,none⟩)])∧w'=w.alloc (.cells #[.slice p n c] 24):=by
 have hmf:∀(fn:Fn) (first cap:Array Value) (w:World),(Instr.makeFunc fn first cap).run Tryz.prog w= .ok (.func fn first cap) w:=fun _ _ _ _=>rfl
 go_enter Tryz.func91,Tryz.ntmps91
 go_wp2
 go_ret
 exact ⟨rfl,rfl⟩
theorem znd (l:List Nat) {i:Nat} (h:i<l.length):cdP l=cdP (l.take i)++plB (rlw (l.getD i 0))++cdP (l.drop (i+1)):=by
 have e:l=l.take i++l.getD i 0::l.drop (i+1):=by
  rw [List.getD_eq_getElem?_getD,List.getElem?_eq_getElem h,Option.getD_some]
  simp
 have e2:=congrArg cdP e
 rw [zj0,zhy] at e2
 rw [List.append_assoc]
 exact e2
theorem zpo (l:List Nat) {i:Nat} (h:i<l.length):cdP (l.take (i+1))=cdP (l.take i)++plB (rlw (l.getD i 0)):=by
 rw [List.take_add_one,zj0,List.getElem?_eq_getElem h,List.getD_eq_getElem?_getD,List.getElem?_eq_getElem h]
 rfl
set_option maxRecDepth 20000 in
set_option maxHeartbeats 4000000 in
theorem zjm (Bl:Nat) (p:Option Addr) (c:Nat) (l:List Nat) (w:World) (R:Nat→Prop) (hBl:w.cell? ⟨Bl,0,none⟩=some (.slice p l.length c)) (hp:RowAt encP 1 w p l) (h32:∀x∈l,x<4294967296) (hl:l.length≤1048576)
  (hRlt:∀b,R b→b<w.heap.size) (hR1:R Bl) (hR3:∀a,p=some a→R a.block):
  Iter Tryz.prog 111 #[.pointer (some ⟨Bl,0,none⟩)] ElBy R (cdP l) w:=by
 intro ll J Jx W hsz hRW hJ0 hY
 refine callsIn_wide.2 ?_
 have HY:=Lib.hid hY
 have HRW:=Lib.hid hRW
 have Hp:=Lib.hid hp
 have HRlt:=Lib.hid hRlt
 have HBl:=Lib.hid hBl
 have H32:Hid (∀i,l.getD i 0<4294967296):=Lib.hid (fun i=>by
  rw [List.getD_eq_getElem?_getD]
  cases h:l[i]? with
  | none=>decide
  | some x=>exact h32 x (List.mem_of_getElem? h))
 obtain ⟨n,hn⟩:∃n,l.length=n:=⟨_,rfl⟩
 have Hn:=Lib.hid hn
 rw [hn] at hl HBl
 have xW:=(World.cell?_of_block (a:=⟨Bl,0,none⟩) (HRW.out Bl hR1)).trans HBl.out
 clear hY hRW hp hRlt hBl hn h32
 go_enter Tryz.func111,Tryz.ntmps111
 go_wp2
 clear xW
 go_loopw [7] (fun iv wr=> ∃(i:Nat) (Tp:Nat→Prop) (Wp:World),iv= .int .i64 (i:Int)∧i≤n∧Hid (J (cdP (l.take i)) Tp Wp)∧Hid (Turns Tp Wp wr)∧Hid (∀b,R b→wr.heap[b]? =w.heap[b]?)) (fun iv _=>n - (intOf iv).toNat)
 case atStart=>exact ⟨0,fun _=>False,W,rfl,Nat.zero_le _,Lib.hid hJ0,Lib.hid (Turns.refl _ _),HRW⟩
 case round=>
  obtain ⟨i,Tp,Wp,rfl,hi,HJ,HT,HR⟩:=hrel
  by_cases hin:i<n
  ·have d1:decide ((i:Int)<(n:Int))=true:=by simp;omega
   have hin':i<l.length:=by rw [Hn.out];exact hin
   obtain ⟨g,off,rfl,hcell⟩:=Hp.out.px hin'
   have x0:=(World.cell?_of_block (a:=⟨g,off+i,none⟩) (HR.out g (hR3 _ rfl))).trans hcell
   have hxb:=H32.out i
   have Hsp:=Lib.hid (znd l hin')
   have Htk:=Lib.hid (zpo l hin')
   obtain ⟨x,hx⟩:∃x,l.getD i 0=x:=⟨_,rfl⟩
   rw [hx] at x0 hxb Hsp Htk
   obtain ⟨a1,ha1⟩:∃a,x/65536%256=a:=⟨_,rfl⟩
   obtain ⟨a2,ha2⟩:∃a,x/256%256=a:=⟨_,rfl⟩
   obtain ⟨a3,ha3⟩:∃a,x%256=a:=⟨_,rfl⟩
   have e1:((x:Int)/65536)%256=(a1:Int):=by omega
   have e2:((x:Int)/256)%256=(a2:Int):=by omega
   have e3:(x:Int)%256=(a3:Int):=by omega
   have HpB:plB (rlw x)=[a1,a2,a3]:=by
    unfold plB rlw
    rw [←ha1,←ha2,←ha3,show x%16777216/65536=x/65536%256 by omega,show x%16777216/256%256=x/256%256 by omega,show x%16777216%256=x%256 by omega]
   rw [HpB] at Hsp Htk
   obtain ⟨pre,hpre⟩:∃pre,cdP (l.take i)=pre:=⟨_,rfl⟩
   obtain ⟨post,hpost⟩:∃post,cdP (l.drop (i+1))=post:=⟨_,rfl⟩
   rw [hpre] at HJ Hsp Htk
   rw [hpost] at Hsp
   have k0:(0:Int)≤(i:Int):=by omega
   have k1:(i:Int)<(n:Int):=by omega
   have y1:=HY.out pre a1 (a2::a3::post) Tp (fun _=>False) Wp wr #[.int .u8 (a1:Int)] (by rw [Hsp.out];simp) HJ.out HT.out (fun _ h=>h.elim) (fun _ h=>h.elim) HR.out rfl
   obtain ⟨fn1,tmps1,assign1,body1,hy1,hRd1⟩:=y1
   clear ha1 ha2 ha3 hx hcell HpB hpre hpost
   go_upto_region 3 with (fail)
   refine (wpIn_wide (n:=0)).1 ?_
   gi_wp2
   refine ⟨rfl,hRd1.mono ?_⟩
   clear hy1 hRd1 x0
   rintro e W3 (⟨rfl,hJ3,hs3,hk3⟩ | ⟨rfl,hJx3,-,-⟩)
   ·have HR3:Hid (∀b,R b→W3.heap[b]? =w.heap[b]?):=Lib.hid (fun b hb=>(hk3 b (Or.inl hb)).trans (HR.out b hb))
    have y2:=HY.out (pre++[a1]) a2 (a3::post) (fun _=>False) (fun _=>False) W3 W3 #[.int .u8 (a2:Int)] (by rw [Hsp.out];simp) hJ3 (Turns.refl _ _) (fun _ h=>h.elim) (fun _ h=>h.elim) HR3.out rfl
    obtain ⟨fn2,tmps2,assign2,body2,hy2,hRd2⟩:=y2
    clear hJ3 hs3 hk3
    gi_wp2
    refine ⟨rfl,hRd2.mono ?_⟩
    clear hy2 hRd2
    rintro e W4 (⟨rfl,hJ4,hs4,hk4⟩ | ⟨rfl,hJx4,-,-⟩)
    ·have HR4:Hid (∀b,R b→W4.heap[b]? =w.heap[b]?):=Lib.hid (fun b hb=>(hk4 b (Or.inl hb)).trans (HR3.out b hb))
     obtain ⟨fn3,tmps3,assign3,body3,hy3,hRd3⟩:=HY.out (pre++[a1]++[a2]) a3 post (fun _=>False) (fun _=>False) W4 W4 #[.int .u8 (a3:Int)] (by rw [Hsp.out];simp) hJ4 (Turns.refl _ _) (fun _ h=>h.elim) (fun _ h=>h.elim) HR4.out rfl
     clear hJ4 hs4 hk4
     gi_wp2
     refine ⟨rfl,hRd3.mono ?_⟩
     clear hy3 hRd3
     rintro e W5 (⟨rfl,hJ5,hs5,hk5⟩ | ⟨rfl,hJx5,-,-⟩)
     ·have HR5:Hid (∀b,R b→W5.heap[b]? =w.heap[b]?):=Lib.hid (fun b hb=>(hk5 b (Or.inl hb)).trans (HR4.out b hb))
      have HJ5:Hid (J (cdP (l.take (i+1))) (fun _=>False) W5):=Lib.hid (by rw [Htk.out];simpa using hJ5)
      clear hJ5 hs5 hk5 e1 e2 e3
      gi_wp2
      go_wp2
      go_roundw
      case rel=>exact ⟨i+1,fun _=>False,W5,by go_num,by omega,HJ5,Lib.hid (Turns.refl _ _),HR5⟩
      case measure=>simp [intOf];omega
     ·have HP:pre++[a1]++[a2]++[a3] <+:cdP l:=⟨post,by rw [Hsp.out];simp⟩
      gi_wp2
      go_wp2
      refine bodyPost_ret (results_none rfl _ _ _) rfl ?_
      exact ⟨⟨_,rfl⟩,.inr ⟨_,_,_,HP,hJx5,Turns.refl _ _⟩⟩
    ·have HP:pre++[a1]++[a2] <+:cdP l:=⟨a3::post,by rw [Hsp.out];simp⟩
     gi_wp2
     refine ⟨fun _ h=>(by cases h),?_⟩
     gi_wp2
     go_wp2
     refine bodyPost_ret (results_none rfl _ _ _) rfl ?_
     exact ⟨⟨_,rfl⟩,.inr ⟨_,_,_,HP,hJx4,Turns.refl _ _⟩⟩
   ·have HP:pre++[a1] <+:cdP l:=⟨a2::a3::post,by rw [Hsp.out];simp⟩
    gi_wp2
    refine ⟨fun _ h=>(by cases h),?_⟩
    gi_wp2
    go_wp2
    refine bodyPost_ret (results_none rfl _ _ _) rfl ?_
    exact ⟨⟨_,rfl⟩,.inr ⟨_,_,_,HP,hJx3,Turns.refl _ _⟩⟩
  ·obtain rfl:i=n:=by omega
   have d1:decide ((i:Int)<(i:Int))=false:=by simp
   have HX:Hid (cdP (l.take i)=cdP l):=Lib.hid (by rw [List.take_of_length_le (by rw [Hn.out];exact Nat.le_refl _)])
   go_wp2
   go_end0
   exact ⟨⟨_,rfl⟩,.inl ⟨_,_,by rw [←HX.out];exact HJ.out,HT.out⟩⟩
structure OwnL (e:TypeId) (w0:World) (b1 n base:Nat) (G K T:Nat→Prop) (xs:List Value) (w:World):Prop where
 vb:∃vb,w.cell? ⟨b1,0,none⟩=some vb∧w.ownsRow base e 1 vb xs.length xs∧∀k,vb.ownBlock=some k→¬T k∧¬K k∧(G k∨w0.heap.size≤k)
 free:w.frozen? ⟨b1,0,none⟩=false
 lt:b1<n
 tr:Turns G w0 w
theorem OwnL.turn {e:TypeId} {w0:World} {b1 n base:Nat} {G K Tp T S:Nat→Prop} {xs:List Value} {w w':World} {m:Nat} (h:OwnL e w0 b1 n base G K Tp xs w) (ht:Turns S w w') (hS:∀b,S b→Tp b∨b=n+1∨b=n) (hTp:∀b,Tp b→n+1<b) (hK:K n∧K (n+1)) (hn:w0.heap.size≤n) (hm:w.heap.size≤m) (hT:∀b,T b→Tp b∨m≤b):OwnL e w0 b1 n base G K T xs w':=by
 obtain ⟨⟨vb,h1,h2,h3⟩,h4,h5,h6⟩:=h
 have hSn:∀b,S b→n≤b:=fun b hb=>by
  rcases hS _ hb with h | h | h
  ·have:=hTp _ h;omega
  ·omega
  ·omega
 have hSb:¬S b1:=fun hb=>by have:=hSn _ hb;omega
 refine ⟨⟨vb,ht.cell h1 hSb,ht.owns h2 (fun k hk hb=>?_),fun k hk=>⟨fun hb=>?_,(h3 k hk).2⟩⟩,ht.free h1 h4 hSb,h5,h6.trans' ht (fun i hi hb=>by have:=hSn _ hb;omega)⟩
 ·rcases hS _ hb with h | h | h
  ·exact (h3 k hk).1 h
  ·exact (h3 k hk).2.1 (h ▸ hK.2)
  ·exact (h3 k hk).2.1 (h ▸ hK.1)
 ·have:=(h2.lt k hk).2
  rcases hT _ hb with h | h
  ·exact (h3 k hk).1 h
  ·omega
set_option maxRecDepth 100000 in
set_option maxHeartbeats 4000000 in
theorem zht (v0:Value) (base B:Nat) (p:Option Addr) (c:Nat) (l:List Nat) (w:World) (hv:w.ownsRow base 5 1 v0 0 []) (hbase:base≤w.heap.size) (hB:w.cell? ⟨B,0,none⟩=some (.slice p l.length c)) (hp:RowAt encP 1 w p l) (h32:∀x∈l,x<4294967296) (hl:l.length≤1048576)
  (hvB:∀k,v0.ownBlock=some k→k≠B∧∀a,p=some a→k≠a.block):
  Calls Tryz.prog 90 #[v0,.func (.func 111) #[] #[.pointer (some ⟨B,0,none⟩)]] w fun e w'=> ∃v',e= .returned v'∧w'.ownsRow base 5 1 v' (cdP l).length ((cdP l).map u8v)∧Turns (fun k=>v0.ownBlock=some k) w w'∧∀k,v'.ownBlock=some k→v0.ownBlock=some k∨w.heap.size≤k:=by
 obtain ⟨i0,hi0,hz0,hz1,hz2⟩:=info_parts zaw
 have HpR:Hid (∀a,p=some a→a.block<w.heap.size):=Lib.hid (fun a ha=>by
  rcases hp with ⟨h,-⟩ | ⟨b,off,e,hb,-⟩
  ·rw [h] at ha;cases ha
  ·rw [e] at ha;cases ha;exact hb)
 have HBlt:Hid (B<w.heap.size):=Lib.hid (World.block_lt_of_cell? _ _ hB)
 have HvB:=Lib.hid hvB
 have Hv:=Lib.hid hv
 have Hp:=Lib.hid hp
 have HB:=Lib.hid hB
 have H32:=Lib.hid h32
 have HL:Hid ((cdP l).length≤3145728):=Lib.hid (by rw [zbc];omega)
 obtain ⟨pv,cv,rfl⟩:=zac hv
 clear hvB hv hp hB h32
 refine (callsIn_wide (n:=0)).1 ?_
 refine callsIn_of_wp_marks Tryz.func90 rfl trivial ?_ rfl
 simp only [Tryz.ntmps90,List.size_toArray,List.length_cons,List.length_nil,Nat.reduceAdd,Nat.reduceSub,Array.replicate_succ,Array.replicate_zero,List.push_toArray,List.append_toArray,List.nil_append,List.cons_append]
 refine wpIn_wide.2 ?_
 go_wp2_with fail
 have hz1:=World.alloc_heap_new w (.cells #[.slice pv 0 cv] 28)
 have hal:=Below.al1 w (.cells #[.slice pv 0 cv] 28)
 have hsz:(w.alloc (.cells #[.slice pv 0 cv] 28)).heap.size=w.heap.size+1:=by simp
 generalize w.alloc (.cells #[.slice pv 0 cv] 28)=W1 at *
 obtain ⟨m0,hm0⟩:∃b,w.heap.size=b:=⟨_,rfl⟩
 have Hm0:=Lib.hid hm0
 rw [hm0] at hz1 hsz hbase HBlt HpR ⊢
 have k2:W1.cell? ⟨m0,0,none⟩=some (.slice pv 0 cv):=zaa hz1 rfl
 have f2:W1.frozen? ⟨m0,0,none⟩=false:=by simp [World.frozen?,hz1]
 have ht0:Turns (fun k=>(Value.slice pv 0 cv).ownBlock=some k) w W1:=Turns.of_below' hal
 obtain ⟨K,hK⟩:∃K:Nat→Prop,K=fun b=>b=m0∨b=m0+1∨b=m0+1+1∨b=B∨∃a,p=some a∧b=a.block:=⟨_,rfl⟩
 have HK:=Lib.hid hK
 have hKn:K (m0+1)∧K (m0+1+1):=by rw [hK];exact ⟨.inr (.inl rfl),.inr (.inr (.inl rfl))⟩
 have HKn:=Lib.hid hKn
 have hI0:OwnL 5 w m0 (m0+1) base (fun k=>(Value.slice pv 0 cv).ownBlock=some k) K (fun _=>False) (([]:List Nat).map u8v) W1:=⟨⟨_,k2,(Turns.of_below' (T:=fun _=>False) hal).owns Hv.out (fun _ _ h=>h),fun k hk=>⟨fun h=>h,fun h=>by
  have h1:=(Hv.out.lt k hk).2
  have h2:=HvB.out k hk
  rw [hK] at h
  rcases h with h | h | h | h | ⟨a,ha,h⟩
  ·omega
  ·omega
  ·omega
  ·exact h2.1 h
  ·exact h2.2 a ha h,.inl hk⟩⟩,f2,by omega,ht0⟩
 have HIt:=Lib.hid (zjm B p c l W1 (fun b=>b=B∨∃a,p=some a∧b=a.block) (cell_later hal HB.out) (Hp.out.below hal) H32.out hl (fun b hb=>by
  rcases hb with rfl | ⟨a,ha,rfl⟩
  ·have:=HBlt.out;omega
  ·have:=HpR.out a ha;omega) (.inl rfl) (fun a ha=> .inr ⟨a,ha,rfl⟩))
 clear hz1 hal k2 f2 ht0 hK hKn hm0
 refine (wpIn_wide (n:=0)).1 ?_
 refine zaW (gf:=111) (El:=ElBy) (xs:=cdP l) (w0:=W1) ?hg ?eg HIt.out ?hs0 ?hRr ?hps
  (fun pre T W'=>OwnL 5 w m0 (m0+1) base (fun k=>(Value.slice pv 0 cv).ownBlock=some k) K T (pre.map u8v) W') (fun _ _ _ _=>False) ?start
  (fun vs=>{ tmps:=#[.slice pv 0 cv,.func (.func 111) #[] #[.pointer (some ⟨B,0,none⟩)],.pointer (some ⟨m0,0,none⟩),undef,.slice none 0 0,vs.getD 0 undef,.func (.func 111) #[] #[.pointer (some ⟨B,0,none⟩)],vs.getD 0 undef,undef,undef,undef,undef,undef],defers:=[]}) ?assign ?body ?done ?stop
 case hg=>rfl
 case eg=>exact fun _ _=>rfl
 case hs0=>exact Nat.le_refl _
 case hRr=>exact fun q hq=>⟨by
  rcases hq with rfl | ⟨a,ha,rfl⟩
  ·have:=HBlt.out;omega
  ·have:=HpR.out a ha;omega,rfl⟩
 case hps=>
  rintro _ _ _ x _ h
  rw [h];rfl
 case start=>exact hI0
 case assign=>
  intro l vs W' K hvs hK
  obtain ⟨v0,rfl⟩:=zdP hvs
  gi_wp2
  first
   | exact hK
   | simpa using hK
   | simpa [Array.zip,Array.zipWith] using hK
 case stop=>exact fun _ _ _ _ _ _ h=>h.elim
 case body=>
  rintro pre x rest Tp T Wq Wp W1' W2 vs hxs hI htqp hsq ht2 hTp hT hT2 hR2 hEl h12 hs12 hLt hL1 hD2 hL2
  simp only [hsz] at ht2 hTp hT2 h12 hLt hL1 hD2 hL2 htqp ⊢
  obtain rfl:vs=#[u8v x]:=hEl
  obtain ⟨⟨vb,v1,v2,v3⟩,v4,v5,v6⟩:=hI.turn ht2 (fun b hb=>hb) (fun b hb=>(hTp b hb).1) HKn.out (by rw [Hm0.out];omega) hsq (T:=T) hT
  have hlen:pre.length≤3145728:=by
   have h1:=HL.out
   rw [hxs,List.length_append] at h1
   omega
  rw [List.length_map] at v2
  obtain ⟨vp,vc,rfl⟩:=zac v2
  have hs2:base≤W2.heap.size:=by omega
  have hT4:∀b,T b→m0+1+1<b:=fun b hb=>(hT2 b hb).1
  have HV2:=Lib.hid v2
  have HV3:=Lib.hid v3
  have HV6:=Lib.hid v6
  have HT4:=Lib.hid hT4
  have HTs:Hid (∀b,T b→b<W2.heap.size):=Lib.hid (fun b hb=>(hT2 b hb).2)
  have hm2:m0+1+1<W2.heap.size:=by omega
  have e0:(#[u8v x]:Array Value).getD 0 undef= .int .u8 (x:Int):=rfl
  rw [e0]
  obtain ⟨N,hN⟩:∃N,pre.length=N:=⟨_,rfl⟩
  have HN:=Lib.hid hN
  rw [hN] at HV2 HV3 hlen v1
  clear hI htqp hsq ht2 hTp hT hT2 hR2 h12 hs12 hLt hD2 hL2 hL1 hxs v2 v3 v6 hT4 e0 hI0 hN
  gi_wp2_with (gi_at_builtin;refine zdN _ rfl _ _ 28 rfl base 5 i0 _ 1 1 Tryz.underlying28 hi0 hz0 hz1 hz2 rfl (by decide) _ _ _ rfl (HV2.out.alloc _) (some ⟨W2.heap.size,0,none⟩) 1 1 [.int .u8 (x:Int)] rfl rfl (.inr ⟨_,rfl,?c1⟩) ?c2 ?c3 ?c4 ?c5 ?_)
  case c1=>intro j u hu;exact zbm j u hu
  case c2=>intro u hu;simp at hu;subst hu;rfl
  case c3=>simp only [maxLen];omega
  case c4=>omega
  case c5=>first | omega | (simp;omega)
  intro v' w4 ho4 hg4 hp4
  have ht4:Turns (fun b=>(Value.slice vp N vc).ownBlock=some b) W2 w4:=(Turns.of_below' (Below.al1 W2 _)).trans (Turns.of_grown hg4 (fun _ h=>h))
  obtain ⟨vp4,vc4,rfl⟩:=zac ho4
  have hKm:K m0:=by rw [HK.out];exact .inl rfl
  have hb1:¬(Value.slice vp N vc).ownBlock=some m0:=fun e=>(HV3.out _ e).2.1 hKm
  have x1:=ht4.cell v1 hb1
  have x4:=ht4.free v1 v4 hb1
  have Ho4:=Lib.hid ho4
  have Ht4:=Lib.hid ht4
  have Hg4:=Lib.hid hp4
  clear ho4 ht4 hg4 hp4 v1 v4
  gi_wp2
  have y1:(w4.setCell ⟨m0,0,none⟩ (.slice vp4 (N+1) vc4)).cell? ⟨m0,0,none⟩=some (.slice vp4 (N+1) vc4):=by simp [go_sem,x1]
  have y4:(w4.setCell ⟨m0,0,none⟩ (.slice vp4 (N+1) vc4)).frozen? ⟨m0,0,none⟩=false:=by simp [go_sem,x4]
  have hts:=Turns.set1 m0 w4 (.slice vp4 (N+1) vc4)
  have hm0:=Hm0.out
  refine ⟨⟨⟨_,y1,?_,fun b hb=>⟨fun hT=>?_,fun hb2=>?_,?_⟩⟩,y4,by omega,?_⟩,?_,fun b hb=>?_⟩
  ·rw [List.map_append,List.length_append,List.length_map,HN.out]
   exact hts.owns Ho4.out (fun b hb (h:b=m0)=>by
    rcases Hg4.out b hb with h1 | h1
    ·exact hb1 (h ▸ h1)
    ·omega)
  ·rcases Hg4.out b hb with h | h
   ·exact (HV3.out b h).1 hT
   ·have:=HTs.out b hT;omega
  ·rcases Hg4.out b hb with h | h
   ·exact (HV3.out b h).2.1 hb2
   ·rw [HK.out] at hb2
    rcases hb2 with h2 | h2 | h2 | h2 | ⟨a,ha,h2⟩
    ·omega
    ·omega
    ·omega
    ·have:=HBlt.out;omega
    ·have:=HpR.out a ha;omega
  ·rcases Hg4.out b hb with h | h
   ·exact (HV3.out b h).2.2
   ·exact .inr (by omega)
  ·exact (HV6.out.trans' Ht4.out (fun i hi h=>((HV3.out i h).2.2).elim id fun h2=>by omega)).trans' hts (fun i hi (h:i=m0)=>by omega)
  ·exact Nat.le_trans Ht4.out.size hts.size
  ·have hX:b<W2.heap.size∧b≠m0∧¬(Value.slice vp N vc).ownBlock=some b:=by
    rcases hb with hb | hb | hb | hb
    ·have h3:K b:=by rw [HK.out];exact .inr (.inr (.inr hb))
     have h4:b<m0:=by
      rcases hb with rfl | ⟨a,ha,rfl⟩
      ·exact HBlt.out
      ·exact HpR.out a ha
     exact ⟨by omega,by omega,fun e=>(HV3.out _ e).2.1 h3⟩
    ·exact ⟨HTs.out b hb,by have:=HT4.out b hb;omega,fun e=>(HV3.out b e).1 hb⟩
    ·have h3:K b:=by rw [hb];exact HKn.out.2
     exact ⟨by omega,by omega,fun e=>(HV3.out _ e).2.1 h3⟩
    ·have h3:K b:=by rw [hb];exact HKn.out.1
     exact ⟨by omega,by omega,fun e=>(HV3.out _ e).2.1 h3⟩
   exact (hts.block b (Nat.lt_of_lt_of_le hX.1 Ht4.out.size) hX.2.1).trans (Ht4.out.block b hX.1 hX.2.2)
 case done=>
  intro Tp Wq W' hI htt hTp hlt hD
  rw [hsz] at htt hTp hlt hD
  obtain ⟨⟨vb,v1,v2,v3⟩,v4,v5,v6⟩:=hI.turn (T:=fun _=>False) htt (fun b hb=>hb) hTp HKn.out (by rw [Hm0.out];omega) (Nat.le_refl _) (fun _ h=>h.elim)
  rw [hsz]
  have HD:=Lib.hid hD
  rw [List.length_map] at v2
  obtain ⟨vp,vc,rfl⟩:=zac v2
  have HV2:=Lib.hid v2
  have HV3:=Lib.hid v3
  have HV6:=Lib.hid v6
  clear hI htt hD hI0 v2 v3 v6
  dsimp only
  go_wp2
  refine ⟨by simp,.inl ⟨_,_,rfl,run_takeDeferred HD.out,?_⟩⟩
  have htd:=Turns.put (T:=fun b=>b=m0+1) W' (m0+1) (.deferred none) rfl
  refine ⟨_,results_tmp rfl _ _ _,_,rfl,?_,?_,?_⟩
  ·exact htd.owns HV2.out (fun b hb (h:b=m0+1)=>(HV3.out b hb).2.1 (h ▸ HKn.out.1))
  ·exact HV6.out.trans' htd (fun i hi (h:i=m0+1)=>by have:=Hm0.out;omega)
  ·intro k hk
   exact (HV3.out k hk).2.2
end
section
open Go.RowKit
attribute [local go_sem] Oper.semAt_some
theorem zqj (n:Nat) (hn:n≤3145728) (w:World):(Instr.makeSlice 28 (.int .i64 0) (.int .i64 (n:Int))).run Tryz.prog w= .ok (.slice (some ⟨w.heap.size,0,none⟩) 0 n) (w.alloc (.cells (madeCells #[.int .u8 0] n) 5)):=by
 obtain ⟨i,hi,hz,hs,hb⟩:=info_parts zaw
 have h:=run_make (P:=Tryz.prog) w 28 5 i _ Tryz.underlying28 hi hz .i64 .i64 0 (n:Int) (by omega) (by omega) (by rw [hb];omega) (by omega)
 rw [h]
 simp only [Int.toNat_natCast,Int.toNat_zero,hs,Nat.mul_one]
 rfl
set_option maxRecDepth 20000 in
set_option maxHeartbeats 4000000 in
theorem zdi (p:Option Addr) (c:Nat) (l:List Nat) (w:World) (hp:RowAt encP 1 w p l) (h32:∀x∈l,x<4294967296) (hl:l.length≤1048576):
  Calls Tryz.prog 61 #[.slice p l.length c] w fun e w'=> ∃v',e= .returned (.tuple #[v',.bool true])∧w'.ownsRow w.heap.size 5 1 v' (cdP l).length ((cdP l).map u8v)∧Below w.heap.size w w':=by
 have Hseq:Hid (∀(W:World) (g B c3:Nat),Below w.heap.size w W→W.ownsRow w.heap.size 5 1 (.slice (some ⟨g,0,none⟩) 0 c3) 0 []→W.cell? ⟨B,0,none⟩=some (.slice p l.length c)→g≠B→
   Calls Tryz.prog 90 #[.slice (some ⟨g,0,none⟩) 0 c3,.func (.func 111) #[] #[.pointer (some ⟨B,0,none⟩)]] W fun e w'=> ∃v',e= .returned v'∧w'.ownsRow w.heap.size 5 1 v' (cdP l).length ((cdP l).map u8v)∧Below w.heap.size w w'):=
  Lib.hid (fun W g B c3 hb ho hB hg=>Calls.mono (zht _ w.heap.size B p c l W ho hb.size hB (hp.below hb) h32 hl (fun k hk=>⟨by cases hk;exact hg,fun a ha e=>by
   have h1:=(ho.lt k hk).1
   have h2:a.block<w.heap.size:=by
    rcases hp with ⟨h,-⟩ | ⟨b,off,e,hb,-⟩
    ·rw [h] at ha;cases ha
    ·rw [e] at ha;cases ha;exact hb
   omega⟩)) (by
    rintro _ w' ⟨v',rfl,h1,h2,h3⟩
    exact ⟨v',rfl,h1,hb.trans (h2.below hb.size fun i hi=>(ho.lt i hi).1)⟩))
 obtain ⟨n,hn⟩:∃n,l.length=n:=⟨_,rfl⟩
 rw [hn] at Hseq hl ⊢
 obtain ⟨n3,hn3⟩:∃m,n*3=m:=⟨_,rfl⟩
 have e3:(n:Int)*3=(n3:Int):=by omega
 have hmk:=fun w=>zqj n3 (by omega) w
 have hw3:IntKind.i64.wrap (n3:Int)=(n3:Int):=IntWalk.i64_in _ (by omega)
 have H1:=Lib.hid (Hseq.out ((w.alloc (.cells (madeCells #[.int .u8 0] n3) 5)).alloc (.cells #[.slice p n c] 24)).drew w.heap.size (w.heap.size+1) n3 (Below.drew (Below.al2 w _ _))
  (show ((w.alloc (.cells (madeCells #[.int .u8 0] n3) 5)).alloc (.cells #[.slice p n c] 24)).ownsRow w.heap.size 5 1 (.slice (some ⟨w.heap.size,0,none⟩) 0 n3) 0 [] from (World.ownsRow_made w _ n3 (Nat.le_refl _) (by simp only [maxLen];omega) (by simp [size_madeCells])).alloc _)
  (show ((w.alloc (.cells (madeCells #[.int .u8 0] n3) 5)).alloc (.cells #[.slice p n c] 24)).cell? ⟨w.heap.size+1,0,none⟩=some (.slice p n c) from by
   have:=World.alloc_heap_new (w.alloc (.cells (madeCells #[.int .u8 0] n3) 5)) (.cells #[.slice p n c] 24)
   rw [World.size_alloc] at this
   exact zaa this rfl) (by omega))
 have H2:=Lib.hid (Hseq.out ((w.alloc (.cells #[.slice p n c] 24)).alloc (.cells (madeCells #[.int .u8 0] n3) 5)).drew (w.heap.size+1) w.heap.size n3 (Below.drew (Below.al2 w _ _))
  (show ((w.alloc (.cells #[.slice p n c] 24)).alloc (.cells (madeCells #[.int .u8 0] n3) 5)).ownsRow w.heap.size 5 1 (.slice (some ⟨w.heap.size+1,0,none⟩) 0 n3) 0 [] from by
   have:=World.ownsRow_made (base:=w.heap.size) (e:=5) (size:=1) (w.alloc (.cells #[.slice p n c] 24)) (madeCells #[.int .u8 0] n3) n3 (by rw [World.size_alloc];omega) (by simp only [maxLen];omega) (by simp [size_madeCells])
   rwa [World.size_alloc] at this)
  (show ((w.alloc (.cells #[.slice p n c] 24)).alloc (.cells (madeCells #[.int .u8 0] n3) 5)).cell? ⟨w.heap.size,0,none⟩=some (.slice p n c) from cell_later (Below.al1 _ _) (zaa (World.alloc_heap_new w _) rfl)) (by omega))
 clear hp h32 hn hn3 Hseq
 go_enter Tryz.func61,Tryz.ntmps61
 go_upto_region 1 with (fail)
 go_region_with (first
  | (go_at_call 91;refine Calls.mono (zjh p n c _) ?_;rintro _ we ⟨rfl,rfl⟩)
  | (go_at_call 90;(first | with_reducible refine Calls.mono H1.out ?_ | with_reducible refine Calls.mono H2.out ?_);rintro _ wq ⟨v',rfl,ho,hb⟩))
 all_goals
  go_wp2
  go_ret2
  exact ⟨_,rfl,ho,hb⟩
theorem zhs (p:Option Addr) (c:Nat) (l:List Nat) (w:World) (hp:RowAt encP 1 w p l) (h32:∀x∈l,x<4294967296) (hl:l.length≤1048576) (hlc:l.length≤c):
  Calls Tryz.prog 63 #[.slice p l.length c] w fun e w'=> ∃v',e= .returned (.tuple #[v',.bool true])∧w'.ownsRow w.heap.size 5 1 v' (rlBs (rlO l)).length ((rlBs (rlO l)).map u8v)∧Below w.heap.size w w':=by
 have H:=zjF p c l w hp h32 hl hlc
 clear hp h32 hlc
 go_enter Tryz.func63,Tryz.ntmps63
 go_wp2_with fail
 refine Calls.mono H ?_
 rintro _ w1 ⟨v',rfl,ho,hb⟩
 go_wp2
 go_ret2
 exact ⟨_,rfl,ho,hb⟩
end
section
open Go.RowKit Go.Maps
attribute [local go_sem] Oper.semAt_some
def relP (v:Value):Option (DataW Value×List MemPlace):=some (.held v,[])
theorem ziN:Tryz.prog.underlying 51=some (.int .u32):=by kernel_rfl
theorem zcJ:Tryz.prog.underlying 137=some (.map 51 51):=by kernel_rfl
theorem zr3 {x:Nat} (h:x<4294967296):(Lit.int .u32 (x:Int)).wf=true:=by
 have hm:IntKind.u32.min=0:=by decide
 have hx:IntKind.u32.max=4294967295:=by decide
 simp [Lit.wf,hm,hx];omega
theorem zd6 {x:Nat} (h:x<4294967296):keyOf Tryz.prog 51 (.int .u32 (x:Int))=some (.int .u32 (x:Int)):=keyOf_int_mk ziN (zr3 h)
theorem pk_keyed:Maps.Keyed Tryz.prog 51:=int_keyed ziN
theorem zgG (w:World):(zeroValue 51).run Tryz.prog w= .ok (.int .u32 0) w:=by kernel_rfl
def MapP (w:World) (M:Nat) (cs:List Nat):Prop:=
 ∃D:DataW Value,w.ownsMap Tryz.prog 51 relP M cs.length D∧Maps.size D=cs.length∧∀c:Nat,c<4294967296→Maps.has D (.int .u32 (c:Int))=decide (c∈cs)∧(c∈cs→∀z,D.atKey (.int .u32 (c:Int)) z= .held (pxv (plI c cs)))
theorem MapP.made (w:World):MapP (w.alloc (.map #[] 0)) w.heap.size []:=
 ⟨_,World.ownsMap_made w _ _ _,rfl,fun c _=>⟨rfl,fun h=>by cases h⟩⟩
theorem MapP.lt {w:World} {M:Nat} {cs:List Nat} (h:MapP w M cs):M<w.heap.size:=by
 obtain ⟨D,hD,_⟩:=h
 exact hD.lt
theorem MapP.turned {w w':World} {M:Nat} {cs:List Nat} (h:MapP w M cs) {T:Nat→Prop} (ht:Turns T w w') (hT:¬T M):MapP w' M cs:=by
 have hlt:=h.lt
 obtain ⟨D,⟨es,clock,hb,r⟩,hF⟩:=h
 exact ⟨D,⟨es,clock,(ht.block M hlt hT).trans hb,r⟩,hF⟩
theorem MapP.below {w w':World} {M:Nat} {cs:List Nat} (h:MapP w M cs) (hb:Below w.heap.size w w'):MapP w' M cs:=h.turned (T:=fun _=>False) (Turns.of_below' hb) (fun h=>h)
set_option maxRecDepth 20000 in
theorem MapP.put {w:World} {M:Nat} {cs:List Nat} (h:MapP w M cs) (hn:cs.length≤1000) {c:Nat} (hc:c<4294967296) (hnew:c ∉ cs):
  ∃w',(Instr.mapUpdate 137 (.map (some M)) (.int .u32 (c:Int)) (.int .u32 (cs.length:Int))).run Tryz.prog w= .ok () w'∧MapP w' M (cs++[c])∧Turns (fun i=>i=M) w w':=by
 obtain ⟨D,hD,hs,hF⟩:=h
 obtain ⟨w',hr,ho,ht⟩:=hD.store pk_keyed zcJ (by simp only [maxLen];omega) (zd6 hc) (val:= .int .u32 (cs.length:Int)) (d:= .held (pxv cs.length)) (ps:=[]) rfl
 have hk:WideAt.IsKeyLit (.int .u32 (c:Int)):=pk_keyed.key (zd6 hc)
 refine ⟨w',hr,⟨_,by rw [List.length_append];exact ho,?_,fun k hk'=>?_⟩,Turns.of_grown ht.grown (fun i e=>by cases e;rfl)⟩
 ·rw [Maps.size_put (hD.tidy pk_keyed),(hF c hc).1,if_neg (by simpa using hnew),hs,List.length_append];rfl
 ·by_cases e:k=c
  ·subst e
   refine ⟨by rw [Maps.has_put_same hD.isMap hk];simp,fun _ z=>?_⟩
   rw [Maps.atKey_put_same hD.isMap hk]
   have:plI k (cs++[k])=cs.length:=by
    refine zg6 (by simp) (fun j hj=>?_) (.inr ?_)
    ·rw [List.getD_eq_getElem?_getD,List.getElem?_append_left hj,List.getElem?_eq_getElem hj]
     intro e;exact hnew (by rw [←e];exact List.getElem_mem hj)
    ·simp [List.getD_eq_getElem?_getD]
   rw [this]
  ·have hne:(Lit.int .u32 (k:Int))≠(Lit.int .u32 (c:Int)):=fun he=>e (by injection he with _ he;omega)
   refine ⟨by rw [Maps.has_put_other hne,(hF k hk').1];simp [e],fun hm z=>?_⟩
   have hm':k∈cs:=by simpa [e] using hm
   rw [Maps.atKey_put_other hne,(hF k hk').2 hm',zj9 hm']
theorem MapP.look {w:World} {M:Nat} {cs:List Nat} (h:MapP w M cs) {c:Nat} (hc:c<4294967296) (hm:c∈cs):
  (Instr.lookup 137 (.map (some M)) (.int .u32 (c:Int)) false).run Tryz.prog w= .ok (.int .u32 (plI c cs:Int)) w:=by
 obtain ⟨D,hD,hs,hF⟩:=h
 obtain ⟨v,ps,hr,hv⟩:=hD.lookup pk_keyed zcJ (zgG w) (zd:= .held (.int .u32 0)) (zp:=[]) rfl (zd6 hc)
 rw [hr]
 have hv2:DataW.held v=D.atKey (.int .u32 (c:Int)) (.held (.int .u32 0)):=(by simpa [relP] using hv:DataW.held v=D.atKey (.int .u32 (c:Int)) (.held (.int .u32 0))∧ps=[]).1
 rw [(hF c hc).2 hm] at hv2
 cases hv2;rfl
theorem MapP.look_yes {w:World} {M:Nat} {cs:List Nat} (h:MapP w M cs) {c:Nat} (hc:c<4294967296) (hm:c∈cs):
  (Instr.lookup 137 (.map (some M)) (.int .u32 (c:Int)) true).run Tryz.prog w= .ok (.tuple #[.int .u32 (plI c cs:Int),.bool true]) w:=by
 obtain ⟨D,hD,hs,hF⟩:=h
 obtain ⟨v,ps,hr,hv⟩:=hD.look_ok pk_keyed zcJ (zgG w) (zd:= .held (.int .u32 0)) (zp:=[]) rfl (zd6 hc)
 rw [hr,(hF c hc).1]
 have hv2:DataW.held v=D.atKey (.int .u32 (c:Int)) (.held (.int .u32 0)):=(by simpa [relP] using hv:DataW.held v=D.atKey (.int .u32 (c:Int)) (.held (.int .u32 0))∧ps=[]).1
 rw [(hF c hc).2 hm] at hv2
 cases hv2;simp [hm,pxv]
theorem MapP.look_no {w:World} {M:Nat} {cs:List Nat} (h:MapP w M cs) {c:Nat} (hc:c<4294967296) (hm:c ∉ cs):
  (Instr.lookup 137 (.map (some M)) (.int .u32 (c:Int)) true).run Tryz.prog w= .ok (.tuple #[.int .u32 0,.bool false]) w:=by
 obtain ⟨D,hD,hs,hF⟩:=h
 obtain ⟨v,ps,hr,hv⟩:=hD.look_ok pk_keyed zcJ (zgG w) (zd:= .held (.int .u32 0)) (zp:=[]) rfl (zd6 hc)
 rw [hr,(hF c hc).1]
 have hv2:DataW.held v=D.atKey (.int .u32 (c:Int)) (.held (.int .u32 0)):=(by simpa [relP] using hv:DataW.held v=D.atKey (.int .u32 (c:Int)) (.held (.int .u32 0))∧ps=[]).1
 rw [Maps.atKey_of_not_has (by rw [(hF c hc).1];simpa using hm)] at hv2
 cases hv2;simp [hm]
theorem zhP (x:Nat) (w:World) (h:x<4294967296):zc8 117 #[.int .u32 (x:Int)] w (.int .u32 ((rlw x:Nat):Int)):=by
 unfold zc8
 have e:=zgc x h
 go_enter Tryz.func117,Tryz.ntmps117
 go_wp2
 go_ret
 exact ⟨by first | rfl | rw [e] | simp [e],rfl⟩
theorem zfQ (k:Nat) (w:World):zc8 118 #[.int .i64 (k:Int)] w (.int .i64 ((plZ k:Nat):Int)):=by
 unfold zc8
 go_enter Tryz.func118,Tryz.ntmps118
 by_cases h1:k≤1
 ·have d1:decide ((k:Int)≤1)=true:=by simp;omega
  have e:plZ k=0:=if_pos h1
  rw [e]
  go_wp2
  go_ret
  exact ⟨rfl,rfl⟩
 have d1:decide ((k:Int)≤1)=false:=by simp;omega
 by_cases h2:k≤2
 ·have d2:decide ((k:Int)≤2)=true:=by simp;omega
  have e:plZ k=1:=by unfold plZ;rw [if_neg h1,if_pos h2]
  rw [e]
  go_wp2
  go_ret
  exact ⟨rfl,rfl⟩
 have d2:decide ((k:Int)≤2)=false:=by simp;omega
 by_cases h3:k≤4
 ·have d3:decide ((k:Int)≤4)=true:=by simp;omega
  have e:plZ k=2:=by unfold plZ;rw [if_neg h1,if_neg h2,if_pos h3]
  rw [e]
  go_wp2
  go_ret
  exact ⟨rfl,rfl⟩
 have d3:decide ((k:Int)≤4)=false:=by simp;omega
 have e:plZ k=4:=by unfold plZ;rw [if_neg h1,if_neg h2,if_neg h3]
 rw [e]
 go_wp2
 go_ret
 exact ⟨rfl,rfl⟩
set_option maxRecDepth 20000 in
set_option maxHeartbeats 4000000 in
theorem zk9 (p:Option Addr) (c:Nat) (l:List Nat) (w:World) (hp:RowAt encP 1 w p l) (h32:∀x∈l,x<4294967296) (hl:l.length≤1048576):
  Calls Tryz.prog 96 #[.slice p l.length c] w fun e w'=> ∃(cs:List Nat) (v':Value) (M:Nat),e= .returned (.tuple #[v',.map (some M)])∧w'.ownsRow w.heap.size 51 1 v' cs.length (cs.map pxv)∧MapP w' M cs∧w.heap.size≤M∧Below w.heap.size w w'∧(cs=zae l∧cs.length≤16∨16<cs.length∧cs.length≤17∧16<(zae l).length):=by
 have Hp:=Lib.hid hp
 have H32:Hid (∀i,l.getD i 0<4294967296):=Lib.hid (fun i=>by
  rw [List.getD_eq_getElem?_getD]
  cases h:l[i]? with
  | none=>decide
  | some x=>exact h32 x (List.mem_of_getElem? h))
 obtain ⟨n,hn⟩:∃n,l.length=n:=⟨_,rfl⟩
 have Hn:=Lib.hid hn
 rw [hn] at hl ⊢
 clear hp hn h32
 go_enter Tryz.func96,Tryz.ntmps96
 have hmk:=run_makeMap (P:=Tryz.prog) 137 w
 go_wp2_with fail
 clear hmk
 have Hm0:=Lib.hid (MapP.made w)
 have Hb0:=Lib.hid (Below.al1 w (.map #[] 0))
 generalize w.alloc (.map #[] 0)=W1 at *
 go_loopw [4,14] (fun ov iv wr=> ∃(i k:Nat) (cs:List Nat),iv= .int .i64 (i:Int)∧i≤n∧k≤16∧Hid (cs.length=k)∧Hid (cs=plC [] (l.take i))∧Hid (wr.ownsRow (w.heap.size+1) 51 1 ov k (cs.map pxv))∧Hid (MapP wr w.heap.size cs)∧Hid (Below w.heap.size w wr)) (fun _ iv _=>n - (intOf iv).toNat)
 case atStart=>exact ⟨0,0,[],rfl,Nat.zero_le _,Nat.zero_le _,Lib.hid rfl,Lib.hid rfl,Lib.hid (World.ownsRow_nil _ _ _ _),Hm0,Hb0⟩
 case round=>
  obtain ⟨i,k,cs,rfl,hi,hk,HK,HC,HO,HM,HB⟩:=hrel
  obtain ⟨vp,vc,rfl⟩:=zac HO.out
  by_cases hin:i<n
  ·have d1:decide ((i:Int)<(n:Int))=true:=by simp;omega
   obtain ⟨g,off,rfl,hc⟩:=Hp.out.pxs (by rw [Hn.out];omega)
   have x0:=cell_later HB.out (hc i (by rw [Hn.out];omega))
   have HS:Hid (plC [] (l.take (i+1))=plS cs (rlw (l.getD i 0))):=Lib.hid (by rw [zod (by rw [Hn.out];exact hin),←HC.out])
   have hxb:=H32.out i
   obtain ⟨x,hx⟩:∃x,l.getD i 0=x:=⟨_,rfl⟩
   rw [hx] at x0 HS hxb
   have hyb:rlw x<4294967296:=Nat.lt_trans (zcI x) (by decide)
   have i0:(0:Int)≤(i:Int):=by omega
   have i1:(i:Int)<(n:Int):=by omega
   have hs1:w.heap.size+1≤wr.heap.size:=HM.out.lt
   have HL:=Lib.hid (zhP x wr hxb)
   obtain ⟨y,hy⟩:∃y,rlw x=y:=⟨_,rfl⟩
   rw [hy] at HS HL hyb
   clear hc hx hy
   go_wp2_with fail
   refine Calls.mono HL.out ?_
   rintro _ u1 ⟨rfl,rfl⟩
   by_cases hmem:y∈cs
   ·have hlook:=HM.out.look_yes hyb hmem
    have HC2:Hid (cs=plC [] (l.take (i+1))):=Lib.hid (by rw [HS.out,zpZ hmem])
    clear hmem HS HC x0
    go_wp2
    go_roundw
    case rel=>exact ⟨i+1,k,cs,by go_num,by omega,hk,HK,HC2,HO,HM,HB⟩
    case measure=>simp [intOf];omega
   ·have hlook:=HM.out.look_no hyb hmem
    obtain ⟨u2,hr2,hm2,ht2⟩:=HM.out.put (by rw [HK.out];omega) hyb hmem
    rw [HK.out] at hr2
    have HC2:Hid (cs++[y]=plC [] (l.take (i+1))):=Lib.hid (by rw [HS.out,zpM hmem])
    have hs2:w.heap.size+1≤u2.heap.size:=Nat.le_trans hs1 ht2.size
    have Hm2:=Lib.hid hm2
    have HO2:Hid (u2.ownsRow (w.heap.size+1) 51 1 (.slice vp k vc) k (cs.map pxv)):=Lib.hid (ht2.owns HO.out (fun b hb (e:b=w.heap.size)=>by have:=(HO.out.lt b hb).1;omega))
    have HB2:Hid (Below w.heap.size w u2):=Lib.hid (HB.out.trans (ht2.below (by omega) (fun b (hb:b=w.heap.size)=>by omega)))
    have wk:IntKind.u32.wrap (k:Int)=(k:Int):=by rw [IntKind.wrap_u32];omega
    clear hmem hm2 ht2 HS HC
    go_wp2_with (at_builtin;refine zaL u2 rfl (.tmp 32) (.tmp 34) 24 rfl (w.heap.size+1) 51 _ 4 zbg Tryz.underlying24 rfl (.slice vp k vc) k (cs.map pxv) rfl HO2.out (.int .u32 (y:Int)) _ rfl rfl ?m3 ?m4 hs2 ?_)
    case m3=>simp only [maxLen];omega
    case m4=>omega
    intro g1 cap1 w5 ho1 ht1 hg1
    have Ho1:Hid (w5.ownsRow (w.heap.size+1) 51 1 (.slice (some ⟨g1,0,none⟩) (k+1) cap1) (k+1) ((cs++[y]).map pxv)):=Lib.hid (by
     rw [List.map_append]
     simpa [pxv] using ho1)
    have Hm5:Hid (MapP w5 w.heap.size (cs++[y])):=Lib.hid (Hm2.out.turned ht1 (fun e=>by have:=(HO2.out.lt _ e).1;omega))
    have HB5:=Lib.hid (HB2.out.trans (ht1.below HB2.out.size (fun b hb=>Nat.le_trans (Nat.le_succ _) (HO2.out.lt b hb).1)))
    have HK5:Hid ((cs++[y]).length=k+1):=Lib.hid (by rw [List.length_append,HK.out];rfl)
    clear ho1 ht1 hg1 hr2 hlook x0
    by_cases hbig:k=16
    ·subst hbig
     go_wp2
     go_ret2
     refine ⟨_,_,w.heap.size,rfl,?_,Hm5.out,Nat.le_refl _,HB5.out,.inr ⟨by rw [HK5.out];omega,by rw [HK5.out];omega,?_⟩⟩
     ·rw [HK5.out];exact zao Ho1.out (by omega)
     ·have:=znC (l:=l) (i:=i+1) []
      rw [←HC2.out,HK5.out] at this
      exact Nat.lt_of_lt_of_le (by omega) this
    ·have d2:decide ((k:Int)+1>16)=false:=by simp;omega
     go_wp2
     go_roundw
     case rel=>exact ⟨i+1,k+1,cs++[y],by go_num,by omega,by omega,HK5,HC2,Ho1,Hm5,HB5⟩
     case measure=>simp [intOf];omega
  ·obtain rfl:i=n:=by omega
   have d1:decide ((i:Int)<(i:Int))=false:=by simp
   go_wp2
   go_ret2
   have e:cs=zae l:=by rw [HC.out,List.take_of_length_le (by rw [Hn.out];exact Nat.le_refl _)];rfl
   refine ⟨cs,_,w.heap.size,rfl,?_,HM.out,Nat.le_refl _,HB.out,.inl ⟨e,by rw [HK.out];exact hk⟩⟩
   rw [HK.out];exact zao HO.out (by omega)
end
end Go.Proofs.YtedakhgaghfogaaGreat
