/- Several texts in one, each with its own head. -/
import Derived.Test.YtedakhgaghfogaaGreatQs30
import Derived.Test.YtedakhgaghfogaaGreatQs33
import Derived.Test.YtedakhgaghfogaaGreatQs28
import Derived.BigQuiet
namespace Go.Proofs.YtedakhgaghfogaaGreat
section
open Go.RowKit
attribute [local go_sem] Oper.semAt_some
theorem zqn (n:Nat) (hn:n≤1048576) (w:World):(Instr.makeSlice 24 (.int .i64 0) (.int .i64 (n:Int))).run Tryz.prog w= .ok (.slice (some ⟨w.heap.size,0,none⟩) 0 n) (w.alloc (.cells (madeCells #[.int .u32 0] n) 51)):=by
 obtain ⟨i,hi,hz,hs,hb⟩:=info_parts zbg
 have h:=run_make (P:=Tryz.prog) w 24 51 i _ Tryz.underlying24 hi hz .i64 .i64 0 (n:Int) (by omega) (by omega) (by rw [hb];omega) (by omega)
 rw [h]
 simp only [Int.toNat_natCast,Int.toNat_zero,hs,Nat.mul_one]
 rfl
theorem zkQ {b:List Nat} {k j:Nat} (hb:b.length=3*k) (hj:j<k):(zar b).take (j+1)=(zar b).take j++[lq b (3*j)*65536+lq b (3*j+1)*256+lq b (3*j+2)]:=by
 rw [List.take_add_one,zfg j b (by omega)]
 rfl
set_option maxRecDepth 100000 in
set_option maxHeartbeats 8000000 in
theorem zdc (p:Option Addr) (c:Nat) (l:List Nat) (k:Nat) (w:World) (hp:RowAt enc8 1 w p l) (h8:∀x∈l,x<256) (hl:l.length≤1048576) (hlc:l.length≤c) (hk1:1≤k) (hk:k≤65536):
  Calls Tryz.prog 62 #[.slice p l.length c,.int .i64 (k:Int)] w fun e w'=>Below w.heap.size w w'∧((l.length≠3*k∧e= .returned (.tuple #[.slice none 0 0,.int .i64 131]))∨(l.length=3*k∧∃v,e= .returned (.tuple #[v,.int .i64 0])∧w'.ownsRow w.heap.size 51 1 v (zar l).length ((zar l).map pxv))):=by
 have Hp:=Lib.hid hp
 have H8:Hid (∀i,lq l i<256):=Lib.hid (fun i=>by
  unfold lq
  rw [List.getD_eq_getElem?_getD]
  cases h:l[i]? with
  | none=>decide
  | some x=>exact h8 x (List.mem_of_getElem? h))
 obtain ⟨n,hn⟩:∃n,l.length=n:=⟨_,rfl⟩
 have Hn:=Lib.hid hn
 rw [hn] at hl hlc ⊢
 clear hp h8 hn
 refine (callsIn_wide (n:=0)).1 ?_
 refine callsIn_of_wp_marks Tryz.func62 rfl trivial ?_ rfl
 simp only [Tryz.ntmps62,List.size_toArray,List.length_cons,List.length_nil,Nat.reduceAdd,Nat.reduceSub,Array.replicate_succ,Array.replicate_zero,List.push_toArray,List.append_toArray,List.nil_append,List.cons_append]
 refine wpIn_wide.2 ?_
 by_cases h3:n=3*k
 case neg=>
  have hw0:IntKind.i64.wrap ((k:Int)*3)=(k:Int)*3:=IntWalk.i64_in _ (by omega)
  have d0:((n:Int) !=(k:Int)*3)=true:=by simp;omega
  go_wp2
  refine ⟨_,results_tmp2 rfl _ _ _,Below.refl _ _,.inl ⟨h3,rfl⟩⟩
 have hw0:IntKind.i64.wrap ((k:Int)*3)=(n:Int):=by rw [h3];exact (IntWalk.i64_in _ (by omega)).trans (by omega)
 have he3:(k:Int)*3=(n:Int):=by omega
 have d0:((n:Int) !=(n:Int))=false:=by simp
 obtain ⟨g,off,rfl,hcell⟩:=Hp.out.bytes (by rw [Hn.out];omega)
 have Hcell:=Lib.hid hcell
 have Hg0:=Lib.hid (World.block_lt_of_cell? _ _ (hcell 0 (by rw [Hn.out];omega)))
 have hmk:=fun w=>zqn k (by omega) w
 have hwk:IntKind.i64.wrap (k:Int)=(k:Int):=IntWalk.i64_in _ (by omega)
 have HC:=Lib.hid (fun W=>zeN (some ⟨g,off,none⟩) n c 3 W (by decide))
 have H3:=Lib.hid h3
 clear hcell h3
 go_wp2_with fail
 have hz1:=World.alloc_heap_new (w.alloc (.cells (madeCells #[.int .u32 0] k) 51)) (.cells #[.slice (some ⟨w.heap.size,0,none⟩) 0 k] 24)
 rw [World.size_alloc] at hz1
 have hb2:=Below.al2 w (.cells (madeCells #[.int .u32 0] k) 51) (.cells #[.slice (some ⟨w.heap.size,0,none⟩) 0 k] 24)
 have hs2:((w.alloc (.cells (madeCells #[.int .u32 0] k) 51)).alloc (.cells #[.slice (some ⟨w.heap.size,0,none⟩) 0 k] 24)).heap.size=w.heap.size+1+1:=by simp
 have ho2:((w.alloc (.cells (madeCells #[.int .u32 0] k) 51)).alloc (.cells #[.slice (some ⟨w.heap.size,0,none⟩) 0 k] 24)).ownsRow w.heap.size 51 1 (.slice (some ⟨w.heap.size,0,none⟩) 0 k) 0 []:=(World.ownsRow_made w _ k (Nat.le_refl _) (by simp only [maxLen];omega) (by simp [size_madeCells])).alloc _
 generalize (w.alloc (.cells (madeCells #[.int .u32 0] k) 51)).alloc (.cells #[.slice (some ⟨w.heap.size,0,none⟩) 0 k] 24)=W1 at *
 have Hb1:=Lib.hid hb2
 obtain ⟨Z,hZ⟩:∃b,w.heap.size=b:=⟨_,rfl⟩
 have HZ:=Lib.hid hZ
 rw [hZ] at hz1 hs2 Hg0 ⊢
 have Hz1:=Lib.hid hz1
 have Ho2:Hid (W1.ownsRow Z 51 1 (.slice (some ⟨Z,0,none⟩) 0 k) 0 []):=Lib.hid (by rw [←hZ];exact ho2)
 clear hz1 hb2 ho2 hmk hwk hw0
 refine Calls.mono (HC.out W1) ?_
 rintro _ u4 ⟨rfl,rfl⟩
 obtain ⟨m0,hm0⟩:∃b,Z+1=b:=⟨_,rfl⟩
 have hs1:W1.heap.size=m0+1:=by rw [hs2,hm0]
 have hal:=Below.al2 W1 (.cells #[.slice (some ⟨g,off,none⟩) n c] 28) (.cells #[.int .i64 ((3:Nat):Int)] 3)
 have hg:=zag [.cells #[.slice (some ⟨g,off,none⟩) n c] 28,.cells #[.int .i64 ((3:Nat):Int)] 3] W1
 simp only [List.foldl_cons,List.foldl_nil] at hg
 have hsz:((W1.alloc (.cells #[.slice (some ⟨g,off,none⟩) n c] 28)).alloc (.cells #[.int .i64 ((3:Nat):Int)] 3)).heap.size=m0+3:=by simp [hs1]
 generalize (W1.alloc (.cells #[.slice (some ⟨g,off,none⟩) n c] 28)).alloc (.cells #[.int .i64 ((3:Nat):Int)] 3)=W4 at *
 rw [hs1] at hg ⊢
 have k3:W4.cell? ⟨m0+1,0,none⟩=some (.slice (some ⟨g,off,none⟩) n c):=zaa ((hg 0 _).2 rfl) rfl
 have k4:W4.cell? ⟨m0+1+1,0,none⟩=some (.int .i64 ((3:Nat):Int)):=zaa ((hg 1 _).2 rfl) rfl
 have hz1:=Hz1.out
 rw [hm0] at hz1 ⊢
 have hk2:=(hal.block m0 (by omega)).trans hz1
 have k2:W4.cell? ⟨m0,0,none⟩=some (.slice (some ⟨Z,0,none⟩) 0 k):=zaa hk2 rfl
 have f2:W4.frozen? ⟨m0,0,none⟩=false:=by simp [World.frozen?,hk2]
 have Hm0:=Lib.hid hm0
 obtain ⟨K,hK⟩:∃K:Nat→Prop,K=fun b=>b≠Z∧b<m0+5:=⟨_,rfl⟩
 have HK:=Lib.hid hK
 have HKn:Hid (K (m0+3)∧K (m0+3+1)):=Lib.hid (by rw [hK];constructor<;>constructor<;>omega)
 have hBw:=Below.thn Hb1.out hal
 have HBw:Hid (Below Z w W4):=Lib.hid (by rw [←HZ.out];exact hBw)
 have hI0:OwnL 51 w m0 (m0+3) Z (fun _=>False) K (fun _=>False) [] W4:=⟨⟨_,k2,(Turns.of_below' (T:=fun _=>False) hal).owns Ho2.out (fun _ _ h=>h),fun b hb=>by
  cases hb
  exact ⟨fun h=>h,fun h=>by rw [hK] at h;exact h.1 rfl,.inr (by rw [HZ.out];exact Nat.le_refl _)⟩⟩,f2,by omega,Turns.of_below' hBw⟩
 have HIt:=zeU (m0+1) (m0+1+1) (some ⟨g,off,none⟩) n 3 c W4 (fun b=>b=m0+1∨b=m0+1+1) k3 k4 (fun _=>⟨g,off,rfl⟩) (by omega) (by decide) (by decide) (by omega) (fun b hb=>by rcases hb with rfl | rfl<;>omega) (.inl rfl) (.inr rfl)
 rw [H3.out,zkD] at HIt
 have HIt:=Lib.hid HIt
 clear hg hal hk2 k2 k3 k4 f2 hz1 HC hs1 hK hBw
 go_wp2_with fail
 refine (wpIn_wide (n:=0)).1 ?_
 refine zaW (gf:=112) (El:=ElCh (some ⟨g,off,none⟩)) (xs:=(List.range k).map fun j=>(3*j,3)) (w0:=W4) ?hg ?eg HIt.out ?hs0 ?hRr ?hps
  (fun pre T W'=>OwnL 51 w m0 (m0+3) Z (fun _=>False) K T (((zar l).take pre.length).map pxv) W') (fun _ _ _ _=>False) ?start
  (fun vs=>{ tmps:=#[.slice (some ⟨g,off,none⟩) n c,.int .i64 (k:Int),undef,undef,.slice none 0 0,.int .i64 0,.pointer (some ⟨m0,0,none⟩),vs.getD 0 undef,.slice (some ⟨g,off,none⟩) n c,.int .i64 (n:Int),.int .i64 (k:Int),.int .i64 (n:Int),.bool false,.int .i64 (k:Int),.slice (some ⟨Z,0,none⟩) 0 k,.slice (some ⟨g,off,none⟩) n c,.func (.func 112) #[] #[.pointer (some ⟨m0+1,0,none⟩),.pointer (some ⟨m0+1+1,0,none⟩)],vs.getD 0 undef,undef,undef,undef,undef,undef,undef,undef,undef,undef,undef,undef,undef,undef,undef,undef,undef,undef,undef,undef,undef],defers:=[]}) ?assign ?body ?done ?stop
 case hg=>rfl
 case eg=>exact fun _ _=>rfl
 case hs0=>exact Nat.le_refl _
 case hRr=>exact fun q hq=>⟨by rcases hq with rfl | rfl<;>omega,rfl⟩
 case hps=>
  rintro _ _ _ x _ ⟨_,_,_,h⟩
  rw [h];rfl
 case start=>exact hI0
 case assign=>
  intro l vs W' K hvs hK
  obtain ⟨v0,rfl⟩:=zdP hvs
  gi_wp2
  first
   | exact hK
   | simpa using hK
   | simpa [Array.zip,Array.zipWith] using hK
 case stop=>exact fun _ _ _ _ _ _ h=>h.elim
 case body=>
  rintro pre x rest Tp T Wq Wp W1' W2 vs hxs hI htqp hsq ht2 hTp hT hT2 hR2 hEl h12 hs12 hLt hL1 hD2 hL2
  obtain ⟨rfl,hjk⟩:=zg9 hxs
  obtain ⟨g',off',e',rfl⟩:=hEl
  cases e'
  simp only [hsz] at ht2 hTp hT2 h12 hLt hL1 hD2 hL2 htqp ⊢
  obtain ⟨⟨vb,v1,v2,v3⟩,v4,v5,v6⟩:=hI.turn ht2 (fun b hb=>hb) (fun b hb=>(hTp b hb).1) HKn.out (by rw [HZ.out];omega) hsq (T:=T) hT
  obtain ⟨j,hj⟩:∃j,pre.length=j:=⟨_,rfl⟩
  have Hj:=Lib.hid hj
  rw [hj] at v2 hjk ⊢
  have hl3:l.length=3*k:=by rw [Hn.out];exact H3.out
  have hKl:=zbw k l hl3
  have hNl:(((zar l).take j).map pxv).length=j:=by rw [List.length_map,List.length_take,hKl];omega
  rw [hNl] at v2
  have Hat:Hid ((zar l).take (j+1)=(zar l).take j++[lq l (3*j)*65536+lq l (3*j+1)*256+lq l (3*j+2)]):=Lib.hid (zkQ hl3 hjk)
  obtain ⟨vp,vc,rfl⟩:=zac v2
  have hs2:m0+3+2≤W2.heap.size:=by omega
  have hT4:∀b,T b→m0+3+1<b:=fun b hb=>(hT2 b hb).1
  have hBw2:Below Z w W2:=v6.below (by rw [HZ.out];exact Nat.le_refl _) (fun _ h=>h.elim)
  have hcl:∀i,i<l.length→W2.cell? ⟨g,off+i,none⟩=some (.int .u8 (lq l i:Int)):=fun i hi=>cell_later (by rw [HZ.out];exact hBw2) (Hcell.out i hi)
  have hlj:3*j+2<l.length:=by rw [hl3];omega
  have x0:=hcl (3*j) (by omega)
  have x1:=hcl (3*j+1) (by omega)
  have x2:=hcl (3*j+2) (by omega)
  have y0b:=H8.out (3*j)
  have y1b:=H8.out (3*j+1)
  have y2b:=H8.out (3*j+2)
  generalize lq l (3*j)=y0 at *
  generalize lq l (3*j+1)=y1 at *
  generalize lq l (3*j+2)=y2 at *
  obtain ⟨a,ha⟩:∃a,off+3*j=a:=⟨_,rfl⟩
  rw [ha] at x0
  rw [show off+(3*j+1)=a+1 by omega] at x1
  rw [show off+(3*j+2)=a+2 by omega] at x2
  have e0:(#[Value.slice (some ⟨g,off+(3*j,3).1,none⟩) (3*j,3).2 (3*j,3).2]:Array Value).getD 0 undef= .slice (some ⟨g,a,none⟩) 3 3:=by rw [←ha];rfl
  rw [e0]
  have o1:bits .or .u32 ((y0:Int)*65536) ((y1:Int)*256)=(y0:Int)*65536+(y1:Int)*256:=
   bits_join .u32 32 (by decide) (fun n h0 h1=>by rw [IntKind.wrap_u32];omega) 16 ((y0:Int)*65536) ((y1:Int)*256) (by omega) (by omega) (by omega) (by omega) (by omega) (by omega)
  have o2:bits .or .u32 ((y0:Int)*65536+(y1:Int)*256) (y2:Int)=(y0:Int)*65536+(y1:Int)*256+(y2:Int):=
   bits_join .u32 32 (by decide) (fun n h0 h1=>by rw [IntKind.wrap_u32];omega) 8 ((y0:Int)*65536+(y1:Int)*256) (y2:Int) (by omega) (by omega) (by omega) (by omega) (by omega) (by omega)
  obtain ⟨z,hz⟩:∃z,y0*65536+y1*256+y2=z:=⟨_,rfl⟩
  have hzz:(y0:Int)*65536+(y1:Int)*256+(y2:Int)=(z:Int):=by omega
  rw [hz] at Hat
  rw [hzz] at o2
  have ww1:IntKind.u32.wrap (y0:Int)=(y0:Int):=by rw [IntKind.wrap_u32];omega
  have ww2:IntKind.u32.wrap ((y0:Int)*65536)=(y0:Int)*65536:=by rw [IntKind.wrap_u32];omega
  have ww3:IntKind.u32.wrap (y1:Int)=(y1:Int):=by rw [IntKind.wrap_u32];omega
  have ww4:IntKind.u32.wrap ((y1:Int)*256)=(y1:Int)*256:=by rw [IntKind.wrap_u32];omega
  have ww5:IntKind.u32.wrap (y2:Int)=(y2:Int):=by rw [IntKind.wrap_u32];omega
  have Hv3:=Lib.hid v3
  have HV6:=Lib.hid v6
  have HT4:=Lib.hid hT4
  have HTs:Hid (∀b,T b→b<W2.heap.size):=Lib.hid (fun b hb=>(hT2 b hb).2)
  obtain ⟨nf,hj0,hj1,hj2,hj3⟩:=info_parts zbg
  obtain ⟨XS,hXS⟩:∃XS,((zar l).take j).map pxv=XS:=⟨_,rfl⟩
  rw [hXS] at v2
  have HXS:=Lib.hid hXS
  have Hv2:=Lib.hid v2
  have hj15:j<65536:=by omega
  have hZs:Z≤W2.heap.size:=by omega
  have hKm:∀b,(Value.slice vp j vc).ownBlock=some b→b=Z∨m0+5≤b:=fun b hb=>by
   have h1:=(Hv3.out b hb).2.1
   rw [HK.out] at h1
   omega
  have HKm:=Lib.hid hKm
  clear hI htqp hsq ht2 hTp hT hT2 hR2 h12 hs12 hLt hD2 hL2 hL1 hxs hT4 e0 hI0 hcl hKl hNl ha hz hzz hlj v3 v6 hXS hj hl3 hBw2
  gi_wp2
  obtain ⟨C,hC⟩:∃C:World→Prop,C=fun w'=>Turns (fun b=>(Value.slice vp j vc).ownBlock=some b) W2 w':=⟨_,rfl⟩
  have hCst:zaT C:=by
   rw [hC]
   exact fun w w' h hb=>h.trans (Turns.of_below' hb)
  have hCi:∀w,C w→Turns (fun b=>(Value.slice vp j vc).ownBlock=some b) W2 w:=by
   rw [hC]
   exact fun _ h=>h
  have q1:∀n:InC C,n.world.cell? ⟨m0,0,none⟩=some (.slice vp j vc):=fun n=>(hCi _ n.ok).cell v1 (fun h=>by have h1:=HKm.out _ h;have:=Hm0.out;simp only at h1;omega)
  have hgn:∀b,(Value.slice vp j vc).ownBlock=some b→b≠g:=fun b h e=>by have:=HKm.out b h;have:=Hg0.out;have:=Hm0.out;omega
  have q2:∀n:InC C,n.world.cell? ⟨g,a,none⟩=some (.int .u8 (y0:Int)):=fun n=>(hCi _ n.ok).cell x0 (fun h=>hgn _ h rfl)
  have q3:∀n:InC C,n.world.cell? ⟨g,a+1,none⟩=some (.int .u8 (y1:Int)):=fun n=>(hCi _ n.ok).cell x1 (fun h=>hgn _ h rfl)
  have q4:∀n:InC C,n.world.cell? ⟨g,a+2,none⟩=some (.int .u8 (y2:Int)):=fun n=>(hCi _ n.ok).cell x2 (fun h=>hgn _ h rfl)
  have hC2:C W2:=by rw [hC];exact Turns.refl _ _
  have hK0:zaT (fun w=>Below W2.heap.size W2 w):=fun w w' h hb=>h.trans (hb.mono h.size)
  have hqq:Nonempty (InC C):=⟨⟨W2,hC2⟩⟩
  have HC:=Lib.hid hC
  have HCi:=Lib.hid hCi
  have Hv1:=Lib.hid v1
  have Hv4:=Lib.hid v4
  clear hC hCi hgn v1 v4 x0 x1 x2 v2 hKm
  refine zbu 17 19 C (fun w=>Below W2.heap.size W2 w) (by kernel_rfl) (by decide) (by kernel_rfl) (by kernel_rfl) (by kernel_rfl) (by kernel_rfl) (fun h=>by obtain ⟨_,_,h⟩:=h;exact h) hCst hC2 hK0 (Below.refl _ _) ?_
  repeat (refine ziC (fun K hK=>?_);go_simp;(refine hK _ ?_;clear hK K))
  refine zgm ?_
  simp only [List.take_succ_cons,List.take_zero,List.drop_succ_cons,List.drop_zero]
  refine zgR rfl 1 #[.int .u32 (z:Int)] 51 ?hrun hCst hK0 (fun sv=>?_)
  case hrun=>
   intro w'
   first
    | rfl
    | (go_simp;done)
    | kernel_rfl
  refine zdR rfl (.tmp 18) (.tmp 35) 24 rfl Z 51 nf _ 1 4 Tryz.underlying24 hj0 hj1 hj2 hj3 rfl (by decide) (.slice vp j vc) j XS rfl sv 1 [.int .u32 (z:Int)] rfl rfl ?c2 ?c3 ?c4 ?hin W2.heap.size ?hZ ?hCa (fun v'=>?_)
  case c2=>intro u hu;simp at hu;subst hu;rfl
  case c3=>simp only [maxLen];omega
  case c4=>omega
  case hin=>
   rintro w' - ⟨hk,B,e1,e2⟩
   refine ⟨(Turns.of_below' (T:=fun _=>False) hk).owns Hv2.out (fun _ _ h=>h),Nat.le_trans hZs hk.size,_,_,e1,.inr ⟨_,rfl,World.news_of_block e2⟩⟩
  case hZ=>exact fun w' hw=>(HCi.out w' hw).size
  case hCa=>
   intro w' w'' hw _ hg
   rw [HC.out] at hw ⊢
   exact hw.trans (Turns.of_grown hg (fun _ h=>h))
  intro w4 hw4 hk4
  obtain ⟨ho4,hp4⟩:=hk4
  have ht4:=HCi.out w4 hw4
  obtain ⟨vp4,vc4,rfl⟩:=zac ho4
  have hb1:¬(Value.slice vp j vc).ownBlock=some m0:=fun e=>by have:=HKm.out _ e;have:=Hm0.out;omega
  have x1:=ht4.cell Hv1.out hb1
  have x4:=ht4.free Hv1.out Hv4.out hb1
  have Ho4:=Lib.hid ho4
  have Ht4:=Lib.hid ht4
  have Hg4:=Lib.hid hp4
  clear ho4 ht4 hp4 hw4 hCst hC2 hK0 hqq q1 q2 q3 q4
  go_simp
  go_wp2
  gi_wp2
  have y1:(w4.setCell ⟨m0,0,none⟩ (.slice vp4 (j+1) vc4)).cell? ⟨m0,0,none⟩=some (.slice vp4 (j+1) vc4):=by simp [go_sem,x1]
  have y4:(w4.setCell ⟨m0,0,none⟩ (.slice vp4 (j+1) vc4)).frozen? ⟨m0,0,none⟩=false:=by simp [go_sem,x4]
  have hts:=Turns.set1 m0 w4 (.slice vp4 (j+1) vc4)
  have hm0:=Hm0.out
  have hLn:(((zar l).take (pre++[(3*j,3)]).length).map pxv)=XS++[.int .u32 (z:Int)]:=by
   rw [List.length_append,Hj.out]
   show ((zar l).take (j+1)).map pxv=_
   rw [Hat.out,List.map_append,HXS.out];rfl
  have hXl:(XS++[Value.int .u32 (z:Int)]).length=j+1:=by have:=Ho4.out.1;omega
  refine ⟨⟨⟨_,y1,?_,fun b hb=>⟨fun hT=>?_,fun hb2=>?_,?_⟩⟩,y4,by omega,?_⟩,?_,fun b hb=>?_⟩
  ·rw [hLn,hXl]
   exact hts.owns Ho4.out (fun b hb (h:b=m0)=>by
    rcases Hg4.out b hb with h1 | h1
    ·exact hb1 (h ▸ h1)
    ·omega)
  ·rcases Hg4.out b hb with h | h
   ·exact (Hv3.out b h).1 hT
   ·have:=HTs.out b hT;omega
  ·rcases Hg4.out b hb with h | h
   ·exact (Hv3.out b h).2.1 hb2
   ·rw [HK.out] at hb2;omega
  ·rcases Hg4.out b hb with h | h
   ·exact (Hv3.out b h).2.2
   ·exact .inr (by rw [HZ.out];omega)
  ·exact (HV6.out.trans' Ht4.out (fun i hi h=>((Hv3.out i h).2.2).elim id fun h2=>by omega)).trans' hts (fun i hi (h:i=m0)=>by have:=HZ.out;omega)
  ·exact Nat.le_trans Ht4.out.size hts.size
  ·have hX:b<W2.heap.size∧b≠m0∧¬(Value.slice vp j vc).ownBlock=some b:=by
    rcases hb with hb | hb | hb | hb
    ·have h3:b=m0+1∨b=m0+1+1:=hb
     exact ⟨by omega,by omega,fun e=>by have:=HKm.out b e;omega⟩
    ·exact ⟨HTs.out b hb,by have:=HT4.out b hb;omega,fun e=>(Hv3.out b e).1 hb⟩
    ·exact ⟨by omega,by omega,fun e=>by have:=HKm.out b e;omega⟩
    ·exact ⟨by omega,by omega,fun e=>by have:=HKm.out b e;omega⟩
   exact (hts.block b (Nat.lt_of_lt_of_le hX.1 Ht4.out.size) hX.2.1).trans (Ht4.out.block b hX.1 hX.2.2)
 case done=>
  intro Tp Wq W' hI htt hTp hlt hD
  rw [hsz] at htt hTp hlt hD
  obtain ⟨⟨vb,v1,v2,v3⟩,v4,v5,v6⟩:=hI.turn (T:=fun _=>False) htt (fun b hb=>hb) hTp HKn.out (by rw [HZ.out];omega) (Nat.le_refl _) (fun _ h=>h.elim)
  rw [hsz]
  have HD:=Lib.hid hD
  have hl3:l.length=3*k:=by rw [Hn.out];exact H3.out
  have hKl:=zbw k l hl3
  simp only [List.length_map,List.length_range] at v2
  rw [List.take_of_length_le (Nat.le_of_eq hKl)] at v2
  obtain ⟨vp,vc,rfl⟩:=zac v2
  have HV2:=Lib.hid v2
  have HV3:=Lib.hid v3
  have HV6:=Lib.hid v6
  clear hI htt hD hI0 v2 v3 v6 hl3 hKl
  dsimp only
  go_wp2
  refine ⟨by simp,.inl ⟨_,_,rfl,run_takeDeferred HD.out,?_⟩⟩
  have htd:=Turns.put (T:=fun b=>b=m0+3) W' (m0+3) (.deferred none) rfl
  refine ⟨_,results_tmp2 rfl _ _ _,?_,.inr ⟨H3.out,_,rfl,?_⟩⟩
  ·have h1:=HV6.out.trans' htd (fun i hi (h:i=m0+3)=>by have:=HZ.out;have:=Hm0.out;omega)
   exact h1.below (Nat.le_refl _) (fun _ h=>h.elim)
  ·rw [HZ.out]
   exact htd.owns HV2.out (fun b hb (h:b=m0+3)=>(HV3.out b hb).2.1 (h ▸ HKn.out.1))
end
section
open Go.RowKit Go.Maps
set_option maxRecDepth 20000 in
set_option maxHeartbeats 4000000 in
theorem zlS {G:Nat→Prop} {W:World} {base B:Nat} {P:Pt} {A D:List Nat} {v1 v2:Value} {ga ca gc cc ga' ca' gc' cc' b0:Nat} (w:World) (h:WrY G base B P W w) (h1:Cdr W b0 v1 A ga ca gc cc) (h2:Cdr W b0 v2 D ga' ca' gc' cc') (hG:G ga∧G ga'∧G gc∧G gc') (hA:A.length=286) (hD:D.length=30) (hcA:chk A=0) (hcD:chk D=0) (hm:szP P+8000≤8388608):
  Calls Tryz.prog 165 #[.pointer (some ⟨B,0,none⟩),v1,v2] w fun e w'=> ∃gC,e= .returned (.tuple #[])∧BestOf (ctZ (cntP (rnL (A.take (trN A 257 286)++D.take (trN D 1 30))) 0) 19) 7 gC∧WrY G base B (P++putR (A.take (trN A 257 286)) (D.take (trN D 1 30)) (gl gC 19) (trN (ordO (gl gC 19)) 4 19)) W w':=by
 have HGW:Hid (∀b,G b→b<W.heap.size):=Lib.hid fun b hb=>by obtain ⟨_,_,_,_,_,h5⟩:=h;exact (h5 b hb).2.2
 have Hm:=Lib.hid hm
 obtain rfl:=h1.e
 obtain rfl:=h2.e
 have HW1:=h1.turns h.turns (fun hn=>hn hG.1) (fun hn=>hn hG.2.2.1)
 have HW2:=h2.turns h.turns (fun hn=>hn hG.2.1) (fun hn=>hn hG.2.2.2)
 have H:=Lib.hid h
 have H1:=Lib.hid HW1
 have H2:=Lib.hid HW2
 have hcm:ca≤maxLen∧ca'≤maxLen:=⟨HW1.km,HW2.km⟩
 have hka:=HW1.ka
 have hka':=HW2.ka
 rw [hA,hD]
 rw [hA] at hka
 rw [hD] at hka'
 have HA:=Lib.hid (And.intro hA (And.intro hD (And.intro hcA hcD)))
 clear h h1 h2 HW1 HW2 hA hD hcA hcD hm
 go_enter Tryz.func165,Tryz.ntmps165
 have hal:=Below.al (Below.al1 w (.cells #[.slice (some ⟨ga,0,none⟩) 286 ca,.slice (some ⟨gc,0,none⟩) 286 cc] 234)) (.cells #[.slice (some ⟨ga',0,none⟩) 30 ca',.slice (some ⟨gc',0,none⟩) 30 cc'] 234)
 have hg:=zag [.cells #[.slice (some ⟨ga,0,none⟩) 286 ca,.slice (some ⟨gc,0,none⟩) 286 cc] 234,.cells #[.slice (some ⟨ga',0,none⟩) 30 ca',.slice (some ⟨gc',0,none⟩) 30 cc'] 234] w
 simp only [List.foldl_cons,List.foldl_nil] at hg
 go_upto_region 1 with (fail)
 generalize (w.alloc (.cells #[.slice (some ⟨ga,0,none⟩) 286 ca,.slice (some ⟨gc,0,none⟩) 286 cc] 234)).alloc (.cells #[.slice (some ⟨ga',0,none⟩) 30 ca',.slice (some ⟨gc',0,none⟩) 30 cc'] 234)=w1 at *
 have y1:w1.cell? ⟨w.heap.size,0,none⟩=some (.slice (some ⟨ga,0,none⟩) 286 ca):=zaa ((hg 0 _).2 rfl) rfl
 have y2:w1.cell? ⟨w.heap.size+1,0,none⟩=some (.slice (some ⟨ga',0,none⟩) 30 ca'):=zaa ((hg 1 _).2 rfl) rfl
 have Hal:=Lib.hid hal
 have HT1:Hid (∀n,Calls Tryz.prog 181 #[.slice (some ⟨ga,0,none⟩) 286 ca,.int .i64 257] (w1.drewN n) fun e w'=>e= .returned (.slice (some ⟨ga,0,none⟩) (trN A 257 286) ca)∧w'=w1.drewN n):=Lib.hid fun n=>by
  obtain ⟨a1,-,-,-⟩:=HA.out
  obtain ⟨cur,t,b1,b2⟩:=H1.out.oa
  have:=zc2 ga 0 ca 257 A (w1.drewN n) (by omega) (by omega) (by decide) (fun i hi=>by
   rw [Nat.zero_add]
   exact zaa (((Below.drewN' hal n).block ga (zab b1)).trans b1) (b2 i hi))
  rwa [a1] at this
 have HT2:Hid (∀n,Calls Tryz.prog 181 #[.slice (some ⟨ga',0,none⟩) 30 ca',.int .i64 1] (w1.drewN n) fun e w'=>e= .returned (.slice (some ⟨ga',0,none⟩) (trN D 1 30) ca')∧w'=w1.drewN n):=Lib.hid fun n=>by
  obtain ⟨-,a1,-,-⟩:=HA.out
  obtain ⟨cur,t,b1,b2⟩:=H2.out.oa
  have:=zc2 ga' 0 ca' 1 D (w1.drewN n) (by omega) (by omega) (by decide) (fun i hi=>by
   rw [Nat.zero_add]
   exact zaa (((Below.drewN' hal n).block ga' (zab b1)).trans b1) (b2 i hi))
  rwa [a1] at this
 clear hal hg
 go_quiet ((go_at_call 181;first | with_reducible exact Calls.quiet_of_same (HT1.out _) | with_reducible exact Calls.quiet_of_same (HT2.out _)))
 rename_i nq
 have Hq:=Lib.hid (Below.drewN' Hal.out nq)
 generalize w1.drewN nq=u1 at *
 obtain ⟨X,hX⟩:∃X,A.take (trN A 257 286)=X:=⟨_,rfl⟩
 obtain ⟨Y,hY⟩:∃Y,D.take (trN D 1 30)=Y:=⟨_,rfl⟩
 have cutA:Cut A (trN A 257 286):=by have:=Cut.of A 257;rwa [HA.out.1] at this
 have cutD:Cut D (trN D 1 30):=by have:=Cut.of D 1;rwa [HA.out.2.1] at this
 have hlX:X.length=trN A 257 286:=by rw [←hX];exact cutA.len
 have hlY:Y.length=trN D 1 30:=by rw [←hY];exact cutD.len
 have R1:Rw8 u1 (.slice (some ⟨ga,0,none⟩) (trN A 257 286) ca) X:=by
  rw [←hX]
  exact ⟨zig cutA.le (by rw [HA.out.1];exact hka) hcm.1 (H1.out.below Hq.out).oa,fun c h=>by cases h⟩
 have R2:Rw8 u1 (.slice (some ⟨ga',0,none⟩) (trN D 1 30) ca') Y:=by
  rw [←hY]
  exact ⟨zig cutD.le (by rw [HA.out.2.1];exact hka') hcm.2 (H2.out.below Hq.out).oa,fun c h=>by cases h⟩
 have x1:257≤X.length∧X.length≤286:=by rw [hlX];exact ⟨zbA A 257 286 (by decide),zcq _ _ _⟩
 have y1':1≤Y.length∧Y.length≤30:=by rw [hlY];exact ⟨zbA D 1 30 (by decide),zcq _ _ _⟩
 have HX:=Lib.hid (And.intro hX (And.intro cutA (And.intro hY cutD)))
 have HR:=Lib.hid (And.intro R1 R2)
 rw [←hlX,←hlY] at HR
 have hHR:=HR
 rw [←hlX,←hlY]
 clear hX hY cutA cutD R1 R2 hlX hlY y1 y2 hHR HT1 HT2
 go_wp2_with fail
 refine Calls.mono (zi2 HR.out.1 HR.out.2 (by omega) (by omega)) ?_
 rintro _ u2 ⟨vr,rfl,hor,hbr⟩
 obtain ⟨gr,cr,cur,rfl,hgr,hcr,hzr,hcl⟩:=zcy hor (by rw [List.length_append];omega)
 have hck:chk X=0∧chk Y=0:=⟨by rw [←HX.out.1];exact HX.out.2.1.chk HA.out.2.2.1,by rw [←HX.out.2.2.1];exact HX.out.2.2.2.chk HA.out.2.2.2⟩
 have H16:Hid (∀i,lq (X++Y) i<16):=Lib.hid (ziO (zb6 hck.1) (zb6 hck.2))
 obtain ⟨nx,hnx⟩:∃n,X.length=n:=⟨_,rfl⟩
 obtain ⟨ny,hny⟩:∃n,Y.length=n:=⟨_,rfl⟩
 obtain ⟨V,hV⟩:∃V,X++Y=V:=⟨_,rfl⟩
 have hVl:V.length=nx+ny:=by rw [←hV,List.length_append,hnx,hny]
 rw [hV] at hcl H16 hcr
 rw [hnx] at x1
 rw [hny] at y1'
 rw [hVl] at hcr
 have HN:=Lib.hid (And.intro hnx (And.intro hny (And.intro hV hVl)))
 rw [hV,hVl,hnx,hny]
 have Hcl:Hid (∀i,i<V.length→u2.cell? ⟨gr,i,none⟩=some (.int .u8 ((lq V i:Nat):Int))):=Lib.hid fun i hi=>zaa hzr (hcl i _ (by rw [List.getElem?_map,List.getElem?_eq_getElem hi,←zdn hi];rfl))
 have Hb2:=Lib.hid (Below.thn Hq.out hbr)
 have hrl:=zab hzr
 have hgrw:w.heap.size≤gr:=Nat.le_trans Hq.out.size hgr
 clear hnx hny hV hVl hck hor hbr hgr hzr hcl H1 H2 HA HR Hal Hq
 go_wp2_with fail
 refine Calls.mono (zgJ (some ⟨gr,0,none⟩) (nx+ny) cr u2) ?_
 rintro _ u3 ⟨rfl,rfl⟩
 have Hb3:=Lib.hid (Below.al1 u2 (.cells #[.slice (some ⟨gr,0,none⟩) (nx+ny) cr] 28))
 have Hz3:=Lib.hid (World.alloc_heap_new u2 (.cells #[.slice (some ⟨gr,0,none⟩) (nx+ny) cr] 28))
 have Hs3:Hid ((u2.alloc (.cells #[.slice (some ⟨gr,0,none⟩) (nx+ny) cr] 28)).heap.size=u2.heap.size+1):=Lib.hid (World.size_alloc _ _)
 generalize u2.alloc (.cells #[.slice (some ⟨gr,0,none⟩) (nx+ny) cr] 28)=u3 at *
 obtain ⟨Z,hZ⟩:∃Z,u2.heap.size=Z:=⟨_,rfl⟩
 have hu3:u3.heap.size=Z+1:=by have:=Hs3.out;omega
 rw [hZ] at Hz3 hrl
 rw [hZ]
 have hZw:w.heap.size≤Z:=by have:=Hb2.out.size;omega
 have HZ2:=Lib.hid hZ
 clear hZ Hs3
 go_wp2_with fail
 have hb4:=Below.al1 u3 (.cells #[.int .i64 19] 3)
 have hc4:(u3.alloc (.cells #[.int .i64 19] 3)).cell? ⟨u3.heap.size,0,none⟩=some (.int .i64 ((19:Nat):Int)):=zaa (World.alloc_heap_new _ _) rfl
 have hs4:(u3.alloc (.cells #[.int .i64 19] 3)).heap.size=u3.heap.size+1:=World.size_alloc _ _
 have hBl4:=cell_later hb4 (zaa (i:=0) Hz3.out rfl)
 have hcl4:∀i,i<V.length→(u3.alloc (.cells #[.int .i64 19] 3)).cell? ⟨gr,0+i,none⟩=some (.int .u8 ((lq V i:Nat):Int)):=fun i hi=>by
  rw [Nat.zero_add]
  exact cell_later hb4 (cell_later Hb3.out (Hcl.out i hi))
 have hVl:=HN.out.2.2.2
 have hit:=zg3 Z gr 0 cr V (u3.alloc (.cells #[.int .i64 19] 3)) (fun b=>b=Z∨b=gr) (by rw [hVl];exact hBl4) hcl4 (fun i=>by have:=H16.out i;omega) (by omega) (by omega) (fun b hb=>by rcases hb with rfl | rfl<;>omega) (.inl rfl) (.inr rfl)
 obtain ⟨c1,c2⟩:=zpU H16.out
 have hbc:=zg5 196 #[.pointer (some ⟨Z,0,none⟩)] (rnL V) 7 u3.heap.size 1 1 (fun _=>19) (u3.alloc (.cells #[.int .i64 19] 3)) (enters_of Tryz.func196 (by kernel_rfl) rfl) hit (fun b hb=>by rcases hb with rfl | rfl<;>omega) (by decide) (fun j hj=>by have e:j=0:=(by omega);subst e;exact hc4) (fun _ _=>by decide) c1 (by omega) (by decide) (fun _ _=>by decide) (fun j _=>zh3 (by decide) (by omega) (by decide) (by decide) (by decide))
 rw [hu3] at hbc
 have Hbc:=Lib.hid hbc
 have Hb4:=Lib.hid (Below.thn Hb2.out (Below.thn Hb3.out hb4))
 have Hb34:=Lib.hid (Below.thn Hb3.out hb4)
 generalize u3.alloc (.cells #[.int .i64 19] 3)=u4 at *
 clear hb4 hc4 hBl4 hcl4 hit hbc c1 c2
 refine Calls.mono Hbc.out ?_
 rintro _ u5 ⟨vc,gg,fga,fca,fgc,fcc,rfl,hB,hb5⟩
 obtain ⟨g,cp,cur5,xa,ya,xc,yc,rfl,hg5,hz5,k0,k1,hC,hBest⟩:=hB.one (n0:=19) (by rw [zaB])
 have HBest:=Lib.hid hBest
 obtain ⟨C,hCe⟩:∃C,gl (gg 0) 19=C:=⟨_,rfl⟩
 have hlC:C.length=19:=by rw [←hCe,zap]
 obtain ⟨r0,r1,r2,r3,r4⟩:=zdp H16.out hBest.1
 rw [hCe] at hC r0 r1 r2 r3 r4
 have HCe:=Lib.hid hCe
 have HC:=Lib.hid hC
 have HR:=Lib.hid (And.intro r0 (And.intro r1 (And.intro r2 (And.intro r3 r4))))
 have Hz5:=Lib.hid (And.intro hz5 (And.intro k0 (And.intro k1 hlC)))
 have x0:u5.cell? ⟨g,0,none⟩=some (.slice (some ⟨xa,0,none⟩) 19 ya):=zaa hz5 k0
 have Hb5:=Lib.hid (Below.thn Hb4.out hb5)
 have Hb35:=Lib.hid (Below.thn Hb34.out hb5)
 have hg5w:w.heap.size≤g:=Nat.le_trans Hb4.out.size hg5
 have hxaw:w.heap.size≤xa:=Nat.le_trans Hb4.out.size hC.a
 have hord:=zjs xa 0 ya C u5 hlC (fun i=>by have:=r3 i;omega) (fun i hi=>by
  obtain ⟨cur',t',a1,a2⟩:=hC.oa
  rw [Nat.zero_add]
  exact zaa a1 (a2 i hi))
 have Hord:=Lib.hid hord
 clear hB hb5 hBest hCe hC r0 r1 r2 r3 r4 hz5 k0 k1 hlC hord Hbc Hb34
 go_wp2_with fail
 refine Calls.mono Hord.out ?_
 rintro _ u6 ⟨v6,rfl,ho6,hb6⟩
 obtain ⟨g6,c6,cur6,rfl,hg6,hc6,hz6,hq6⟩:=zcy ho6 (by decide)
 have hol:=zn5 C
 have hc6':∀i,i<(ordO C).length→u6.cell? ⟨g6,i,none⟩=some (.int .u8 ((lq (ordO C) i:Nat):Int)):=fun i hi=>zaa hz6 (hq6 i _ (by rw [List.getElem?_map,List.getElem?_eq_getElem hi,←zdn hi];rfl))
 have htr:=zc2 g6 0 c6 4 (ordO C) u6 (by rw [hol];exact hc6.1) (by rw [hol];decide) (by decide) (fun i hi=>by rw [Nat.zero_add];exact hc6' i hi)
 rw [hol] at htr hc6'
 have Htr:=Lib.hid htr
 have Hc6:=Lib.hid hc6'
 have Hb6:=Lib.hid (Below.thn Hb5.out hb6)
 have Hb36:=Lib.hid (Below.thn Hb35.out hb6)
 have Hb56:=Lib.hid hb6
 have hg6w:w.heap.size≤g6:=Nat.le_trans Hb5.out.size hg6
 have hg6l:=zab hz6
 obtain ⟨kk,hkk⟩:∃k,trN (ordO C) 4 19=k:=⟨_,rfl⟩
 have hk19:kk≤19:=by rw [←hkk];exact zcq _ _ _
 have hk4:4≤kk:=by rw [←hkk];exact zbA _ _ _ (by decide)
 rw [hkk] at Htr
 have Hkk:=Lib.hid hkk
 clear ho6 hb6 hz6 hq6 hol hc6' htr hkk Hord Hb35 x0
 go_wp2_with fail
 refine Calls.mono Htr.out ?_
 rintro _ u7 ⟨rfl,rfl⟩
 clear Htr
 have hWs:W.heap.size≤w.heap.size:=H.out.turns.size
 have hC7:=HC.out.below Hb56.out
 have hz7:=(Hb56.out.block _ (zab Hz5.out.1)).trans Hz5.out.1
 have hxcw:w.heap.size≤xc:=Nat.le_trans Hb4.out.size HC.out.c
 have hgl:=zab hz7
 have hCl:=hC7.lt
 have hc7':=Hcl.out
 obtain ⟨G1,hG1⟩:∃G1:Nat→Prop,G1=fun b=>G b∨w.heap.size≤b∧b<u7.heap.size:=⟨_,rfl⟩
 have hin:∀b,w.heap.size≤b→b<u7.heap.size→G1 b:=fun b h1 h2=>by rw [hG1];exact .inr ⟨h1,h2⟩
 have hY7:WrY G1 base B P u7 u7:=by rw [hG1];exact H.out.more Hb6.out
 have HT7:Hid (Turns (fun b=> ¬G b) W u7):=Lib.hid (H.out.turns.trans (Turns.of_below' Hb6.out))
 have HGG:Hid (∀b,G b→G1 b):=Lib.hid fun b hb=>by rw [hG1];exact .inl hb
 have HF:Hid (WrF G1 u7 (fun w'=>Turns (fun b=> ¬G1 b) u7 w') base B P u7):=Lib.hid (WrF.start hY7 fun _ ht=>ht)
 have HCd:Hid (∀w',Turns (fun b=> ¬G1 b) u7 w'→CdF g (fun _=>xa) (fun _=>ya) (fun _=>xc) (fun _=>yc) [C] w'):=Lib.hid fun w' ht=>by
  refine znT (t:=234) (hC7.turns ht (fun h=>h (hin _ hxaw hCl.1)) (fun h=>h (hin _ hxcw hCl.2))) ((ht.block _ hgl (fun h=>h (hin _ hg5w hgl))).trans hz7) ?_ ?_
  ·rw [Hz5.out.2.2.2];exact Hz5.out.2.1
  ·rw [Hz5.out.2.2.2];exact Hz5.out.2.2.1
 have HRun:Hid (∀w',Turns (fun b=> ¬G1 b) u7 w'→∀i,i<V.length→w'.cell? ⟨gr,i,none⟩=some (.int .u8 ((lq V i:Nat):Int))):=Lib.hid fun w' ht i hi=>by
  have hc:=cell_later Hb36.out (Hcl.out i hi)
  exact ht.cell hc (fun h=>h (hin _ hgrw (World.block_lt_of_cell? _ _ hc)))
 have HSz:Hid (∀w',Turns (fun b=> ¬G1 b) u7 w'→∀i,i<19→w'.cell? ⟨g6,i,none⟩=some (.int .u8 ((lq (ordO C) i:Nat):Int))):=Lib.hid fun w' ht i hi=>ht.cell (Hc6.out i hi) (fun h=>h (hin _ hg6w hg6l))
 have Hgr:Hid (G1 gr):=Lib.hid (hin _ hgrw (Nat.lt_of_lt_of_le hrl (by have:=Hb36.out.size;have:=HZ2.out;omega)))
 have HlC:=Lib.hid Hz5.out.2.2.2
 have e1:(nx:Int) - 257=((nx - 257:Nat):Int):=by omega
 have e2:(ny:Int) - 1=((ny - 1:Nat):Int):=by omega
 have e3:(kk:Int) - 4=((kk - 4:Nat):Int):=by omega
 clear hC7 hz7 hxcw hgl hCl hc7' hY7 hin hG1 hxaw hg5w hgrw hg6w hg6l hrl hZw hu3 Hcl Hc6 Hz5 HC Hb2 Hb3 Hz3 Hb4 Hb5 Hb6 Hb36 Hb56
 go_wp2_with fail
 refine Calls.mono (zay (v:=nx - 257) (k:=5) HF.out (by show _<32;omega) (by decide) (by have:=Hm.out;omega)) ?_
 rintro _ z1 ⟨rfl,h1⟩
 have HF1:=Lib.hid h1
 clear h1 HF
 go_wp2_with fail
 refine Calls.mono (zay (v:=ny - 1) (k:=5) HF1.out (by show _<32;omega) (by decide) (by have:=Hm.out;simp only [zaj,szP];omega)) ?_
 rintro _ z2 ⟨rfl,h2⟩
 have HF2:=Lib.hid h2
 clear h2 HF1
 go_wp2_with fail
 refine Calls.mono (zay (v:=kk - 4) (k:=4) HF2.out (by show _<16;omega) (by decide) (by have:=Hm.out;simp only [zaj,szP];omega)) ?_
 rintro _ z3 ⟨rfl,h3⟩
 have HF3:=Lib.hid h3
 clear h3 HF2 e1 e2 e3
 go_wp2_with fail
 go_loopw [50] (fun iv wr=> ∃i:Nat,iv= .int .i64 (i:Int)∧i≤kk∧Hid (WrF G1 u7 (fun w'=>Turns (fun b=> ¬G1 b) u7 w') base B (P++[(nx - 257,5)]++[(ny - 1,5)]++[(kk - 4,4)]++(ordL.take i).map (fun i=>(lq C i,3))) wr)) (fun iv _=>kk - (intOf iv).toNat)
 case atStart=>exact ⟨0,rfl,Nat.zero_le _,Lib.hid (HF3.out.congr (by simp))⟩
 case round=>
  clear HF3
  obtain ⟨i,rfl,hi,HW⟩:=hrel
  by_cases hin:i<kk
  ·have d1:decide ((i:Int)<(kk:Int))=true:=by simp;omega
   have cx:=HSz.out _ HW.out.now i (by omega)
   have hx:lq (ordO C) i<8:=by rw [zgy C (by omega)];exact HR.out.2.2.2.1 _
   have Ht:=Lib.hid (zof C (i:=i) (by omega))
   have Hsz:=Lib.hid (zgq C (i:=i) (by omega))
   obtain ⟨x,hxx⟩:∃x,lq (ordO C) i=x:=⟨_,rfl⟩
   rw [hxx] at cx hx Ht
   have i0:(0:Int)≤(i:Int):=by omega
   have i1:(i:Int)<(kk:Int):=by omega
   have hw1:IntKind.i64.wrap (x:Int)=(x:Int):=IntWalk.i64_in _ (by omega)
   clear hxx
   go_wp2_with fail
   refine Calls.mono (zay (v:=x) (k:=3) HW.out hx (by decide) (by have:=Hm.out;have:=Hsz.out;simp only [zaj,szP];omega)) ?_
   rintro _ w6 ⟨rfl,h6⟩
   have H6:=Lib.hid (h6.congr (List.append_assoc _ _ _))
   rw [←Ht.out] at H6
   clear h6
   go_wp2
   go_roundw
   case rel=>exact ⟨i+1,by go_num,by omega,H6⟩
   case measure=>simp [intOf];omega
  ·obtain rfl:i=kk:=by omega
   have Hsz:=Lib.hid (zgq C (i:=i) (by omega))
   go_wp2_with fail
   refine Calls.mono (zgJ (some ⟨gr,0,none⟩) (nx+ny) cr wr) ?_
   rintro _ z4 ⟨rfl,rfl⟩
   have hb9:=Below.al1 wr (.cells #[.slice (some ⟨gr,0,none⟩) (nx+ny) cr] 28)
   have hBl9:(wr.alloc (.cells #[.slice (some ⟨gr,0,none⟩) (nx+ny) cr] 28)).cell? ⟨wr.heap.size,0,none⟩=some (.slice (some ⟨gr,0,none⟩) (nx+ny) cr):=zaa (World.alloc_heap_new _ _) rfl
   have hs9:(wr.alloc (.cells #[.slice (some ⟨gr,0,none⟩) (nx+ny) cr] 28)).heap.size=wr.heap.size+1:=World.size_alloc _ _
   have hY9:=HW.out.done.more hb9
   have hT9:=HW.out.now.trans (Turns.of_below' (T:=fun b=> ¬G1 b) hb9)
   have hTW:=HT7.out.trans (hT9.mono fun b _ hb hg=>hb (HGG.out b hg))
   have hVl:=HN.out.2.2.2
   have hcl9:=HRun.out _ hT9
   generalize wr.alloc (.cells #[.slice (some ⟨gr,0,none⟩) (nx+ny) cr] 28)=w9 at *
   have hit:=zg3 wr.heap.size gr 0 cr V w9 (fun b=>b=wr.heap.size∨b=gr) (by rw [hVl];exact hBl9) (fun i hi=>by rw [Nat.zero_add];exact hcl9 i hi) (fun i=>by have:=H16.out i;omega) (by omega) (by omega) (fun b hb=>by
    rcases hb with rfl | rfl
    ·omega
    ·exact World.block_lt_of_cell? _ _ (hcl9 0 (by omega))) (.inl rfl) (.inr rfl)
   have hsl:=ze7 (P:=P++[(nx - 257,5)]++[(ny - 1,5)]++[(i - 4,4)]++(ordL.take i).map (fun i=>(lq C i,3))) 196 #[.pointer (some ⟨wr.heap.size,0,none⟩)] (rnL V) g cp (fun _=>xa) (fun _=>ya) (fun _=>xc) (fun _=>yc) [C] w9 (enters_of Tryz.func196 (by kernel_rfl) rfl) hit (Nat.le_refl _) (fun b hb=>⟨by
    rcases hb with rfl | rfl
    ·exact .inr ⟨Nat.le_refl _,by omega⟩
    ·exact .inl Hgr.out,rfl⟩) hY9 (fun w' ht=>HCd.out w' (hT9.trans (ht.mono fun b _ hb hg=>hb (.inl hg)))) (fun j hj=>by
     have e:j=0:=by simp at hj;omega
     subst e
     exact ⟨HR.out.1,by show C.length≤320;rw [HlC.out];decide⟩) HR.out.2.2.1 (by
     have:=Hm.out
     have:=Hsz.out
     have:=HR.out.2.2.2.2
     simp only [zaj,szP];omega)
   have Hsl:=Lib.hid hsl
   have HTW:=Lib.hid hTW
   clear hb9 hBl9 hs9 hY9 hT9 hTW hcl9 hit hsl
   go_wp2_with fail
   refine Calls.mono Hsl.out ?_
   rintro _ w10 ⟨rfl,hY10⟩
   have HY10:=Lib.hid (hY10.less (G:=G) (W:=W) (fun b hb=>⟨.inl (HGG.out b hb),HGW.out b hb⟩) HTW.out)
   clear hY10 Hsl
   go_wp2
   go_end0
   obtain ⟨n1,n2,n3,n4⟩:=HN.out
   refine ⟨gg 0,rfl,?_,?_⟩
   ·rw [HX.out.1,HX.out.2.2.1,n3]
    exact HBest.out
   ·rw [HX.out.1,HX.out.2.2.1,HCe.out,Hkk.out]
    refine HY10.out.congr ?_
    unfold putR
    rw [n1,n2,n3]
    simp only [List.append_assoc,List.cons_append,List.nil_append]
end
end Go.Proofs.YtedakhgaghfogaaGreat
