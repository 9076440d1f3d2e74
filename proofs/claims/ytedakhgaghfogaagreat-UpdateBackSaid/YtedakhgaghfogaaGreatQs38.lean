/- rle: Decode. -/
import Derived.Test.YtedakhgaghfogaaGreatQs29
namespace Go.Proofs.YtedakhgaghfogaaGreat
section
open Go.RowKit
attribute [local go_sem] Oper.semAt_some
theorem zhf (a:List (Nat×Nat)) (k z:Nat):rlay (a++[(k,z)])=rlay a++List.replicate k z:=by
 rw [zhY,zdZ];simp [rlay]
theorem zbD {fn:Func} {p q:Tmp} {tmps:Array Value} {w:World} {B C:Nat} {v:Value} {e:Int} (h:fn.results=#[.cell p 24,.cell q 29]) (hp:tmps.getD p undef= .pointer (some ⟨B,0,none⟩)) (hq:tmps.getD q undef= .pointer (some ⟨C,0,none⟩)) (c0:w.cell? ⟨B,0,none⟩=some v) (c1:w.cell? ⟨C,0,none⟩=some (.int .i64 e)) (hv:∃a n c,v= .slice a n c):(results fn tmps).run Tryz.prog w= .ok (.tuple #[v,.int .i64 e]) w:=by
 obtain ⟨a,n,c,rfl⟩:=hv
 have hp':tmps[p]?.getD undef= .pointer (some ⟨B,0,none⟩):=by simpa using hp
 have hq':tmps[q]?.getD undef= .pointer (some ⟨C,0,none⟩):=by simpa using hq
 simp [results,h,hp',hq',go_sem,c0,c1]
set_option maxRecDepth 100000 in
set_option maxHeartbeats 8000000 in
theorem zja (p:Option Addr) (c:Nat) (l:List Nat) (N:Int) (w:World) (hp:RowAt enc8 1 w p l) (h8:∀x∈l,x<256) (hl:l.length≤1048576) (hlc:l.length≤c) (hN: -9223372036854775808≤N∧N≤9223372036854775807):
  Calls Tryz.prog 64 #[.slice p l.length c,.int .i64 N] w fun e w'=> ∃v',e= .returned (.tuple #[v',.int .i64 (rlD l N).2])∧w'.ownsRow w.heap.size 51 1 v' (rlD l N).1.length ((rlD l N).1.map pxv)∧Below w.heap.size w w':=by
 have Hp:=Lib.hid hp
 have H8:=Lib.hid h8
 have HpR:Hid (∀a,p=some a→a.block<w.heap.size):=Lib.hid (fun a ha=>by
  rcases hp with ⟨h,-⟩ | ⟨b,off,e,hb,-⟩
  ·rw [h] at ha;cases ha
  ·rw [e] at ha;cases ha;exact hb)
 obtain ⟨n,hn⟩:∃n,l.length=n:=⟨_,rfl⟩
 have Hn:=Lib.hid hn
 rw [hn] at hl hlc ⊢
 obtain ⟨r,hr⟩:∃r,n%4=r:=⟨_,rfl⟩
 have hr1:(n:Int)%4=(r:Int):=by omega
 have hr4:r<4:=by omega
 have Hr:=Lib.hid hr
 obtain ⟨A,hA⟩:∃A,rlD l N=A:=⟨_,rfl⟩
 have HA:=Lib.hid hA
 rw [hA]
 clear hp h8 hn hr hA
 refine (callsIn_wide (n:=0)).1 ?_
 refine callsIn_of_wp_marks Tryz.func64 rfl trivial ?_ rfl
 simp only [Tryz.ntmps64,List.size_toArray,List.length_cons,List.length_nil,Nat.reduceAdd,Nat.reduceSub,Array.replicate_succ,Array.replicate_zero,List.push_toArray,List.append_toArray,List.nil_append,List.cons_append]
 refine wpIn_wide.2 ?_
 by_cases h1:N<0
 ·have d1:decide (N<0)=true:=by simpa using h1
  obtain rfl:A=([],1):=by rw [←HA.out];exact zgr (.inl h1)
  go_wp2
  have hb3:=Below.al3 w (.cells #[.int .i64 N] 3) (.cells #[.slice none 0 0] 24) (.cells #[.int .i64 1] 29)
  refine ⟨_,zbD Tryz.results64 rfl rfl (v:= .slice none 0 0) (e:=1) ?_ ?_ ⟨_,_,_,rfl⟩,_,rfl,World.ownsRow_nil _ _ _ _,hb3⟩
  ·simp [go_sem]
  ·simp [go_sem]
 have d1:decide (N<0)=false:=by simp;omega
 by_cases h2:65536<N
 ·have d2:decide (N>65536)=true:=by simp;omega
  obtain rfl:A=([],1):=by rw [←HA.out];exact zgr (.inr h2)
  go_wp2
  have hb3:=Below.al3 w (.cells #[.int .i64 N] 3) (.cells #[.slice none 0 0] 24) (.cells #[.int .i64 1] 29)
  refine ⟨_,zbD Tryz.results64 rfl rfl (v:= .slice none 0 0) (e:=1) ?_ ?_ ⟨_,_,_,rfl⟩,_,rfl,World.ownsRow_nil _ _ _ _,hb3⟩
  ·simp [go_sem]
  ·simp [go_sem]
 have d2:decide (N>65536)=false:=by simp;omega
 by_cases h3:r=0
 ·subst h3
  have d3:(((0:Nat):Int) !=0)=false:=by simp
  have hr1':(n:Int)%4=0:=hr1
  go_wp2_with fail
  refine Calls.mono (zlh p n c _) ?_
  rintro _ u1 ⟨rfl,rfl⟩
  go_wp2_with fail
  clear hr1 hr1' d3 hr4 d1 d2
  have hN0:0≤N:=by omega
  have hN1:N≤65536:=by omega
  clear h1 h2 hN
  have hal:Below w.heap.size w (([.cells #[.int .i64 N] 3,.cells #[.slice none 0 0] 24,.cells #[.int .i64 0] 29,.cells #[.slice none 0 0] 24,.cells #[.slice p n c] 28]:List Obj).foldl World.alloc w):=by
   simp only [List.foldl_cons,List.foldl_nil]
   exact Below.al (Below.al4 w _ _ _ _) _
  have hg:=zag [.cells #[.int .i64 N] 3,.cells #[.slice none 0 0] 24,.cells #[.int .i64 0] 29,.cells #[.slice none 0 0] 24,.cells #[.slice p n c] 28] w
  simp only [List.foldl_cons,List.foldl_nil] at hg hal
  have hsz:(((((w.alloc (.cells #[.int .i64 N] 3)).alloc (.cells #[.slice none 0 0] 24)).alloc (.cells #[.int .i64 0] 29)).alloc (.cells #[.slice none 0 0] 24)).alloc (.cells #[.slice p n c] 28)).heap.size=w.heap.size+5:=by simp
  generalize ((((w.alloc (.cells #[.int .i64 N] 3)).alloc (.cells #[.slice none 0 0] 24)).alloc (.cells #[.int .i64 0] 29)).alloc (.cells #[.slice none 0 0] 24)).alloc (.cells #[.slice p n c] 28)=W1 at *
  have hk0:=(hg 0 _).2 rfl
  have hk1:=(hg 1 _).2 rfl
  have hk2:=(hg 2 _).2 rfl
  have hk3:=(hg 3 _).2 rfl
  have hk4:=(hg 4 _).2 rfl
  have hc3:W1.cell? ⟨w.heap.size+1+1+1,0,none⟩=some (.slice none 0 0):=zaa hk3 rfl
  have hf3:W1.frozen? ⟨w.heap.size+1+1+1,0,none⟩=false:=by
   have h:=hk3
   simp [World.frozen?,h]
  have hc4:W1.cell? ⟨w.heap.size+1+1+1+1,0,none⟩=some (.slice p n c):=zaa hk4 rfl
  have HK:=Lib.hid (And.intro hk0 (And.intro hk1 hk2))
  have hI0:OwnI 51 w (w.heap.size+1+1+1) (w.heap.size+5) (fun _=>False) ((rlay []).map pxv) W1:=⟨⟨_,hc3,World.ownsRow_nil _ _ _ _,fun _ _ h=>h⟩,hf3,by omega,hal⟩
  have HIt:=Lib.hid (zlm (w.heap.size+1+1+1+1) p c l W1 (fun b=>b=w.heap.size+4∨∃a,p=some a∧b=a.block) (by rw [Hn.out];exact hc4) (Hp.out.turns (Turns.of_below' (T:=fun _=>False) hal) (fun _ _ h=>h)) H8.out (by rw [Hn.out];exact Hr.out) (by rw [Hn.out];exact hl) (by rw [Hn.out];exact hlc) (fun b hb=>by
   rcases hb with rfl | ⟨a,ha,rfl⟩
   ·omega
   ·have:=HpR.out a ha;omega) (.inl rfl) (fun a ha=> .inr ⟨a,ha,rfl⟩))
  clear hg hc3 hc4 hf3 hk0 hk1 hk2 hk3 hk4
  refine (wpIn_wide (n:=0)).1 ?_
  refine za0 (gf:=115) (El:=ElRn) (xs:=rlT l) (w0:=W1) ?hg ?eg HIt.out ?hs0 ?hRr VsRn zhu ?hps ?hasg
   (fun pre T W'=>OwnI 51 w (w.heap.size+1+1+1) (w.heap.size+5) T ((rlay pre).map pxv) W'∧(∀b,b<w.heap.size+3→W'.heap[b]? =W1.heap[b]?)∧((rlay pre).length:Int)≤N)
   (fun cd pre T W'=>cd= .ret∧Below w.heap.size w W'∧W'.cell? ⟨w.heap.size+1,0,none⟩=some (.slice none 0 0)∧W'.cell? ⟨w.heap.size+1+1,0,none⟩=some (.int .i64 131)∧A=([],131)) ?start
   (fun vs W'=>{ tmps:=#[.slice p n c,.int .i64 N,undef,.pointer (some ⟨w.heap.size,0,none⟩),.pointer (some ⟨w.heap.size+1,0,none⟩),.pointer (some ⟨w.heap.size+1+1,0,none⟩),.pointer (some ⟨w.heap.size+1+1+1,0,none⟩),.pointer (some ⟨W'.heap.size,0,none⟩),.int .i64 N,.bool false,.bool false,.int .i64 N,.bool false,.bool false,.slice p n c,.int .i64 (n:Int),.int .i64 0,.bool false,.slice p n c,.func (.func 115) #[] #[.pointer (some ⟨w.heap.size+1+1+1+1,0,none⟩)],vs.getD 0 undef,undef,undef,undef,undef,undef,undef,undef,undef,undef,undef,undef,undef,undef,undef,undef],defers:=[]}) ?assign ?body ?done ?stop
  case hg=>rfl
  case eg=>exact fun _ _=>rfl
  case hs0=>exact Nat.le_refl _
  case hRr=>exact fun q hq=>⟨by
   rcases hq with rfl | ⟨a,ha,rfl⟩
   ·omega
   ·have:=HpR.out a ha;omega,rfl⟩
  case hps=>
   rintro _ _ _ x _ h
   rw [h];exact ⟨rfl,x,rfl⟩
  case hasg=>
   rintro _ W' ⟨x,rfl⟩
   exact Below.al1 W' _
  case start=>exact ⟨hI0,fun _ _=>rfl,by simpa [rlay] using hN0⟩
  case assign=>
   rintro l _ W' K ⟨x,rfl⟩ hK
   gi_wp2
   first
    | exact hK
    | simpa using hK
    | simpa [Array.zip,Array.zipWith,zhu] using hK
  case body=>
   rintro pre ⟨k,z⟩ rest Tp T Wq Wp W1' W2 vs hxs ⟨hI,hI2,hI3⟩ htqp hsq hsq1 ht2 hTp hT hT2 hR2 hEl h12 hs12 h1a hLt hL1 hD2 hL2
   simp only [hsz] at ht2 hTp hT2 h12 hLt hL1 hD2 hL2 htqp h1a ⊢
   obtain rfl:vs=#[RnV k z]:=hEl
   obtain ⟨r0,hr0⟩:=hL1
   have hnlt:w.heap.size+5+1<W1'.heap.size:=zab hr0
   have hpa:RnAt W2 W1'.heap.size k z:=(h1a.block _ (by show W1'.heap.size<(W1'.alloc _).heap.size;rw [World.size_alloc];omega) (by omega)).trans (RnAt.new W1' k z)
   have hO:=hI.turn ht2 (fun b hb=>hb) (fun b hb=>(hTp b hb).1) (by omega) hsq (T:=T) hT
   have hlow:∀b,b<w.heap.size+3→W2.heap[b]? =W1.heap[b]? :=fun b hb=>(ht2.block b (by have:=zbI (by omega:b<W1.heap.size) (hI2 b hb);exact this) (fun h=>by
    rcases h with h | h | h
    ·have:=(hTp _ h).1;omega
    ·omega
    ·omega)).trans (hI2 b hb)
   obtain ⟨⟨vb,v1,v2,v3⟩,v4,v5,v6⟩:=hO
   rw [List.length_map] at v2
   have hk256:k≤256:=(ziy l H8.out (k,z) (by rw [hxs];simp)).2.1
   obtain ⟨q,hq⟩:∃q,(rlay pre).length=q:=⟨_,rfl⟩
   rw [hq] at hI3 v2
   have hs2:w.heap.size+5+2≤W2.heap.size:=by omega
   have hT4:∀b,T b→w.heap.size+5+1<b:=fun b hb=>(hT2 b hb).1
   obtain ⟨pb,hpb⟩:∃pb,W1'.heap.size=pb:=⟨_,rfl⟩
   rw [hpb] at hpa ⊢
   obtain ⟨q0,q1⟩:=hpa.c
   obtain ⟨vp,vc,rfl⟩:=zac v2
   have Hcall:=Lib.hid (znB k z hk256 (w.heap.size+5+2) (.slice vp q vc) (rlay pre) W2 (by rw [hq];exact v2) (by rw [hq];omega) hs2)
   have HV2:=Lib.hid v2
   have HV3:=Lib.hid v3
   have HV6:=Lib.hid v6
   have HT4:=Lib.hid hT4
   have Hlow:=Lib.hid hlow
   have Hq:=Lib.hid hq
   have HR:Hid (∀b,(b=w.heap.size+4∨∃a,p=some a∧b=a.block)→b<w.heap.size∨b=w.heap.size+4):=Lib.hid (fun b hb=>by
    rcases hb with rfl | ⟨a,ha,rfl⟩
    ·exact .inr rfl
    ·exact .inl (HpR.out a ha))
   have HTs:Hid (∀b,T b→b<W2.heap.size):=Lib.hid (fun b hb=>(hT2 b hb).2)
   have Hxs:=Lib.hid hxs
   have cN:W2.cell? ⟨w.heap.size,0,none⟩=some (.int .i64 N):=(World.cell?_of_block (a:=⟨w.heap.size,0,none⟩) (hlow w.heap.size (by omega))).trans (zaa HK.out.1 rfl)
   have k1:=(hlow (w.heap.size+1) (by omega)).trans HK.out.2.1
   have k2:=(hlow (w.heap.size+1+1) (by omega)).trans HK.out.2.2
   have c1:W2.cell? ⟨w.heap.size+1,0,none⟩=some (.slice none 0 0):=zaa k1 rfl
   have c2:W2.cell? ⟨w.heap.size+1+1,0,none⟩=some (.int .i64 0):=zaa k2 rfl
   have f1:W2.frozen? ⟨w.heap.size+1,0,none⟩=false:=by simp [World.frozen?,k1]
   have f2:W2.frozen? ⟨w.heap.size+1+1,0,none⟩=false:=by simp [World.frozen?,k2]
   have e0:(#[RnV k z]:Array Value).getD 0 undef=RnV k z:=rfl
   rw [e0]
   clear hI htqp hsq hsq1 ht2 hTp hT hT2 hR2 h12 hs12 h1a hLt hD2 hL2 hxs hr0 hnlt hpb hpa v2 v3 v6 hT4 e0 hI0 hal hlow k1 k2 hI2 hq
   by_cases hbig:N<(q:Int)+(k:Int)
   ·have d1:decide ((k:Int)>N - (q:Int))=true:=by simp;omega
    gi_wp2
    have hA1:A=([],131):=by
     rw [←HA.out]
     refine zh8 (by omega) ?_
     rw [Hxs.out,zhY,zdZ,List.length_append,List.length_append,List.length_replicate,Hq.out]
     simp only
     omega
    obtain ⟨X,hX⟩:∃X,(W2.setCell ⟨w.heap.size+1,0,none⟩ (.slice none 0 0)).setCell ⟨w.heap.size+1+1,0,none⟩ (.int .i64 131)=X:=⟨_,rfl⟩
    have x1:X.cell? ⟨w.heap.size+1,0,none⟩=some (.slice none 0 0):=by rw [←hX];simp [go_sem,c1]
    have x2:X.cell? ⟨w.heap.size+1+1,0,none⟩=some (.int .i64 131):=by rw [←hX];simp [go_sem,c2]
    have hX2:Turns (fun b=>b=w.heap.size+1∨b=w.heap.size+1+1) W2 X:=by
     rw [←hX]
     exact Turns.set (Turns.set (Turns.refl _ _) (.inl rfl) _) (.inr rfl) _
    rw [hX]
    refine ⟨⟨rfl,HV6.out.trans (hX2.below HV6.out.size (fun b hb=>by rcases hb with h | h<;>omega)),x1,x2,hA1⟩,hX2.size,fun b hb=>hX2.block b ?_ ?_⟩
    ·rcases hb with hb | hb | hb | hb
     ·have:=HR.out b hb;omega
     ·exact HTs.out b hb
     ·omega
     ·omega
    ·rcases hb with hb | hb | hb | hb
     ·have:=HR.out b hb;intro h;rcases h with h | h<;>omega
     ·have:=HT4.out b hb;intro h;rcases h with h | h<;>omega
     ·intro h;rcases h with h | h<;>omega
     ·intro h;rcases h with h | h<;>omega
   ·have d1:decide ((k:Int)>N - (q:Int))=false:=by simp;omega
    gi_wp2
    refine ⟨trivial,rfl,(CallsIn.inRound _ (callsIn_wide.2 Hcall.out)).mono ?_⟩
    rintro _ w4 ⟨v',rfl,ho4,ht4,hg4⟩
    rw [List.length_append,List.length_replicate,Hq.out] at ho4
    obtain ⟨vp4,vc4,rfl⟩:=zac ho4
    have hb1:¬(Value.slice vp q vc).ownBlock=some (w.heap.size+1+1+1):=fun e=>by have:=(HV2.out.lt _ e).1;omega
    have x1:=ht4.cell v1 hb1
    have x4:=ht4.free v1 v4 hb1
    have Ho4:=Lib.hid ho4
    have Ht4:=Lib.hid ht4
    have Hg4:=Lib.hid hg4
    clear ho4 ht4 hg4 q0 q1 Hcall v1 v4 cN c1 c2 f1 f2
    gi_wp2
    have y1:(w4.setCell ⟨w.heap.size+1+1+1,0,none⟩ (.slice vp4 (q+k) vc4)).cell? ⟨w.heap.size+1+1+1,0,none⟩=some (.slice vp4 (q+k) vc4):=by simp [go_sem,x1]
    have y4:(w4.setCell ⟨w.heap.size+1+1+1,0,none⟩ (.slice vp4 (q+k) vc4)).frozen? ⟨w.heap.size+1+1+1,0,none⟩=false:=by simp [go_sem,x4]
    have hts:=Turns.set1 (w.heap.size+1+1+1) w4 (.slice vp4 (q+k) vc4)
    have hkeep:∀b,b<w.heap.size+5+2∨T b→¬(Value.slice vp q vc).ownBlock=some b:=fun b hb e=>by
     rcases hb with h | h
     ·have:=(HV2.out.lt _ e).1;omega
     ·exact HV3.out _ e h
    have hall:∀b,b<W2.heap.size→b≠w.heap.size+1+1+1→(b<w.heap.size+5+2∨T b)→(w4.setCell ⟨w.heap.size+1+1+1,0,none⟩ (.slice vp4 (q+k) vc4)).heap[b]? =W2.heap[b]? :=fun b h1 h2 h3=>
     (hts.block b (Nat.lt_of_lt_of_le h1 Ht4.out.size) h2).trans (Ht4.out.block b h1 (hkeep b h3))
    refine ⟨⟨⟨⟨_,y1,?_,fun b hb hT=>?_⟩,y4,by omega,?_⟩,fun b hb=>?_,?_⟩,?_,fun b hb=>?_⟩
    ·rw [zhf,List.length_map,List.length_append,List.length_replicate,Hq.out]
     exact hts.owns Ho4.out (fun b hb h=>by have:=(Ho4.out.lt _ hb).1;omega)
    ·rcases Hg4.out b hb with h | h
     ·exact HV3.out b h hT
     ·have:=HTs.out b hT;omega
    ·exact HV6.out.trans ((Ht4.out.below HV6.out.size (fun b hb=>by have:=(HV2.out.lt _ hb).1;omega)).trans (hts.below (Nat.le_trans HV6.out.size Ht4.out.size) (fun b hb=>by omega)))
    ·exact (hall b (by omega) (by omega) (.inl (by omega))).trans (Hlow.out b hb)
    ·rw [zhf,List.length_append,List.length_replicate,Hq.out];omega
    ·exact Nat.le_trans Ht4.out.size hts.size
    ·have hb':b<W2.heap.size∧b≠w.heap.size+1+1+1∧(b<w.heap.size+5+2∨T b):=by
      rcases hb with hb | hb | hb | hb
      ·have:=HR.out b hb;exact ⟨by omega,by omega,.inl (by omega)⟩
      ·exact ⟨HTs.out b hb,by have:=HT4.out b hb;omega,.inr hb⟩
      ·exact ⟨by omega,by omega,.inl (by omega)⟩
      ·exact ⟨by omega,by omega,.inl (by omega)⟩
     exact hall b hb'.1 hb'.2.1 hb'.2.2
  case stop=>
   rintro cd pre Tp Wq W' - ⟨rfl,hB,x1,x2,hA1⟩ htt hTp hlt hD
   subst hA1
   rw [hsz] at htt hTp hlt hD
   have hn:∀b,b<w.heap.size+5→¬(Tp b∨b=w.heap.size+5+1∨b=w.heap.size+5):=fun b hb h=>by
    rcases h with h | h | h
    ·have:=hTp _ h;omega
    ·omega
    ·omega
   have y1:=htt.cell x1 (hn _ (by show w.heap.size+1<_;omega))
   have y2:=htt.cell x2 (hn _ (by show w.heap.size+1+1<_;omega))
   have HB:=Lib.hid (hB.trans (htt.below hB.size (fun b hb=>by
    rcases hb with h | h | h
    ·have:=hTp _ h;omega
    ·omega
    ·omega)))
   have HD:=Lib.hid hD
   rw [hsz]
   clear htt hD hB x1 x2 hn hI0
   dsimp only
   gi_wp2
   have htd:=Turns.put (T:=fun b=>b=w.heap.size+5) W' (w.heap.size+5) (.deferred none) rfl
   refine ⟨by simp,.inl ⟨_,_,rfl,run_takeDeferred HD.out,?_⟩⟩
   refine ⟨_,zbD Tryz.results64 rfl rfl (htd.cell y1 (by show ¬w.heap.size+1=w.heap.size+5;omega)) (htd.cell y2 (by show ¬w.heap.size+1+1=w.heap.size+5;omega)) ⟨_,_,_,rfl⟩,_,rfl,World.ownsRow_nil _ _ _ _,HB.out.trans (htd.below HB.out.size (fun b hb=>by omega))⟩
  case done=>
   intro Tp Wq W' ⟨hI,hI2,hI3⟩ htt hTp hlt hD
   rw [hsz] at htt hTp hlt hD
   have hO:=hI.turn (T:=fun _=>False) htt (fun b hb=>hb) hTp (by omega) (Nat.le_refl _) (fun _ h=>h.elim)
   have hlow:∀b,b<w.heap.size+3→W'.heap[b]? =W1.heap[b]? :=fun b hb=>(htt.block b (zbI (by omega:b<W1.heap.size) (hI2 b hb)) (fun h=>by
    rcases h with h | h | h
    ·have:=hTp _ h;omega
    ·omega
    ·omega)).trans (hI2 b hb)
   rw [hsz]
   have HD:=Lib.hid hD
   obtain ⟨⟨vb,v1,v2,v3⟩,v4,v5,v6⟩:=hO
   rw [List.length_map] at v2
   obtain ⟨q,hq⟩:∃q,(rlay (rlT l)).length=q:=⟨_,rfl⟩
   rw [hq] at v2 hI3
   have Hq:=Lib.hid hq
   obtain ⟨vp,vc,rfl⟩:=zac v2
   have HV2:=Lib.hid v2
   have HV6:=Lib.hid v6
   have cN:W'.cell? ⟨w.heap.size,0,none⟩=some (.int .i64 N):=(World.cell?_of_block (a:=⟨w.heap.size,0,none⟩) (hlow w.heap.size (by omega))).trans (zaa HK.out.1 rfl)
   have k1:=(hlow (w.heap.size+1) (by omega)).trans HK.out.2.1
   have k2:=(hlow (w.heap.size+1+1) (by omega)).trans HK.out.2.2
   have c1:W'.cell? ⟨w.heap.size+1,0,none⟩=some (.slice none 0 0):=zaa k1 rfl
   have c2:W'.cell? ⟨w.heap.size+1+1,0,none⟩=some (.int .i64 0):=zaa k2 rfl
   have f1:W'.frozen? ⟨w.heap.size+1,0,none⟩=false:=by simp [World.frozen?,k1]
   have f2:W'.frozen? ⟨w.heap.size+1+1,0,none⟩=false:=by simp [World.frozen?,k2]
   clear hI htt hD hI0 v2 v6 hI2 hlow k1 k2 hq v3
   dsimp only
   by_cases hqN:(q:Int)<N
   ·have d1:decide ((q:Int)<N)=true:=by simpa using hqN
    obtain rfl:A=([],131):=by
     rw [←HA.out]
     exact zh8 (by omega) (by rw [Hq.out];omega)
    go_wp2
    obtain ⟨X,hX⟩:∃X,(W'.setCell ⟨w.heap.size+1,0,none⟩ (.slice none 0 0)).setCell ⟨w.heap.size+1+1,0,none⟩ (.int .i64 131)=X:=⟨_,rfl⟩
    have x1:X.cell? ⟨w.heap.size+1,0,none⟩=some (.slice none 0 0):=by rw [←hX];simp [go_sem,c1]
    have x2:X.cell? ⟨w.heap.size+1+1,0,none⟩=some (.int .i64 131):=by rw [←hX];simp [go_sem,c2]
    have hX2:Turns (fun b=>b=w.heap.size+1∨b=w.heap.size+1+1) W' X:=by
     rw [←hX]
     exact Turns.set (Turns.set (Turns.refl _ _) (.inl rfl) _) (.inr rfl) _
    rw [hX]
    have hDX:X.heap[w.heap.size+5]? =some (.deferred (some [])):=(hX2.block _ (by omega) (fun h=>by rcases h with h | h<;>omega)).trans HD.out
    have htd:=Turns.put (T:=fun b=>b=w.heap.size+5) X (w.heap.size+5) (.deferred none) rfl
    have hBX:Below w.heap.size w X:=HV6.out.trans (hX2.below HV6.out.size (fun b hb=>by rcases hb with h | h<;>omega))
    refine ⟨by simp,.inl ⟨_,_,rfl,run_takeDeferred hDX,?_⟩⟩
    refine ⟨_,zbD Tryz.results64 rfl rfl (htd.cell x1 (by show ¬w.heap.size+1=w.heap.size+5;omega)) (htd.cell x2 (by show ¬w.heap.size+1+1=w.heap.size+5;omega)) ⟨_,_,_,rfl⟩,_,rfl,?_,hBX.trans (htd.below hBX.size (fun b hb=>by omega))⟩
    exact World.ownsRow_nil _ _ _ _
   ·have d1:decide ((q:Int)<N)=false:=by simp;omega
    obtain rfl:A=(rlay (rlT l),0):=by
     rw [←HA.out]
     exact zgj (by omega) (by rw [Hn.out];exact Hr.out) (by rw [Hq.out];omega)
    go_wp2
    obtain ⟨X,hX⟩:∃X,(W'.setCell ⟨w.heap.size+1,0,none⟩ (.slice vp q vc)).setCell ⟨w.heap.size+1+1,0,none⟩ (.int .i64 0)=X:=⟨_,rfl⟩
    have x1:X.cell? ⟨w.heap.size+1,0,none⟩=some (.slice vp q vc):=by rw [←hX];simp [go_sem,c1]
    have x2:X.cell? ⟨w.heap.size+1+1,0,none⟩=some (.int .i64 0):=by rw [←hX];simp [go_sem,c2]
    have hX2:Turns (fun b=>b=w.heap.size+1∨b=w.heap.size+1+1) W' X:=by
     rw [←hX]
     exact Turns.set (Turns.set (Turns.refl _ _) (.inl rfl) _) (.inr rfl) _
    rw [hX]
    have hDX:X.heap[w.heap.size+5]? =some (.deferred (some [])):=(hX2.block _ (by omega) (fun h=>by rcases h with h | h<;>omega)).trans HD.out
    have htd:=Turns.put (T:=fun b=>b=w.heap.size+5) X (w.heap.size+5) (.deferred none) rfl
    have hBX:Below w.heap.size w X:=HV6.out.trans (hX2.below HV6.out.size (fun b hb=>by rcases hb with h | h<;>omega))
    refine ⟨by simp,.inl ⟨_,_,rfl,run_takeDeferred hDX,?_⟩⟩
    refine ⟨_,zbD Tryz.results64 rfl rfl (htd.cell x1 (by show ¬w.heap.size+1=w.heap.size+5;omega)) (htd.cell x2 (by show ¬w.heap.size+1+1=w.heap.size+5;omega)) ⟨_,_,_,rfl⟩,_,rfl,?_,hBX.trans (htd.below hBX.size (fun b hb=>by omega))⟩
    rw [Hq.out]
    refine htd.owns (hX2.owns (zao HV2.out (by omega)) (fun b hb h=>?_)) (fun b hb h=>?_)
    ·have:=(HV2.out.lt _ hb).1;rcases h with h | h<;>omega
    ·have:=(HV2.out.lt _ hb).1;omega
 ·have d3:((r:Int) !=0)=true:=by simp;omega
  obtain rfl:A=([],131):=by rw [←HA.out];exact zjK (by omega) (by rw [Hn.out,Hr.out];exact h3)
  go_wp2
  have hb3:=Below.al3 w (.cells #[.int .i64 N] 3) (.cells #[.slice none 0 0] 24) (.cells #[.int .i64 131] 29)
  refine ⟨_,zbD Tryz.results64 rfl rfl (v:= .slice none 0 0) (e:=131) ?_ ?_ ⟨_,_,_,rfl⟩,_,rfl,World.ownsRow_nil _ _ _ _,hb3⟩
  ·simp [go_sem]
  ·simp [go_sem]
end
end Go.Proofs.YtedakhgaghfogaaGreat
