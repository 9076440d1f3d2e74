/- Several texts in one, each with its own head. -/
import Derived.Test.YtedakhgaghfogaaGreatQs28
import Derived.Test.YtedakhgaghfogaaGreatQs4
import Derived.OwnWalkIn
import Derived.TacticsInMore
import Derived.LoopNIn
import Derived.LoopIn
import Derived.Laws.Cover3
import Derived.Test.YtedakhgaghfogaaGreatQs9
namespace Go.Proofs.YtedakhgaghfogaaGreat
section
open Go.RowKit
attribute [local go_sem] Oper.semAt_some
def ElRn (_ _:World) (_:Nat→Prop) (x:Nat×Nat) (vs:Array Value):Prop:=vs=#[RnV x.1 x.2]
theorem zbI {w w':World} {b:Nat} (h:b<w.heap.size) (e:w'.heap[b]? =w.heap[b]?):b<w'.heap.size:=by
 rw [Array.getElem?_eq_getElem h] at e
 exact zab e
theorem getD_drop (l:List Nat) (a i:Nat):(l.drop a).getD i 0=l.getD (a+i) 0:=by
 rw [List.getD_eq_getElem?_getD,List.getD_eq_getElem?_getD,List.getElem?_drop]
set_option maxRecDepth 20000 in
set_option maxHeartbeats 4000000 in
theorem zlp (Bl:Nat) (p:Option Addr) (c:Nat) (l:List Nat) (w:World) (R:Nat→Prop) (hBl:w.cell? ⟨Bl,0,none⟩=some (.slice p l.length c)) (hp:RowAt encP 1 w p l) (h32:∀x∈l,x<4294967296) (hl:l.length≤1048576) (hlc:l.length≤c)
  (hRlt:∀b,R b→b<w.heap.size) (hR1:R Bl) (hR3:∀a,p=some a→R a.block):
  Iter Tryz.prog 131 #[.pointer (some ⟨Bl,0,none⟩)] ElRn R (rlO l) w:=by
 intro ll J Jx W hsz hRW hJ0 hY
 refine callsIn_wide.2 ?_
 have HY:=Lib.hid hY
 have HRW:=Lib.hid hRW
 have Hp:=Lib.hid hp
 have HRlt:=Lib.hid hRlt
 have HBl:=Lib.hid hBl
 have H32:Hid (∀i,l.getD i 0<4294967296):=Lib.hid (fun i=>by
  rw [List.getD_eq_getElem?_getD]
  cases h:l[i]? with
  | none=>decide
  | some x=>exact h32 x (List.mem_of_getElem? h))
 obtain ⟨n,hn⟩:∃n,l.length=n:=⟨_,rfl⟩
 have Hn:=Lib.hid hn
 rw [hn] at hlc hl HBl
 clear hY hRW hp hRlt hBl hn h32
 go_enter Tryz.func131,Tryz.ntmps131
 go_wp2
 go_loopw [3] (fun av wr=> ∃(a:Nat) (pre:List (Nat×Nat)) (Tp:Nat→Prop) (Wp:World),av= .int .i64 (a:Int)∧a≤n∧Hid (rlO l=pre++rlO (l.drop a))∧Hid (J pre Tp Wp)∧Hid (Turns Tp Wp wr)∧Hid (∀b,R b→wr.heap[b]? =w.heap[b]?)) (fun av _=>n - (intOf av).toNat)
 case atStart=>exact ⟨0,[],fun _=>False,W,rfl,Nat.zero_le _,Lib.hid rfl,Lib.hid hJ0,Lib.hid (Turns.refl _ _),HRW⟩
 case round=>
  obtain ⟨a,pre,Tp,Wp,rfl,ha,HE,HJ,HT,HR⟩:=hrel
  have xb:=(World.cell?_of_block (a:=⟨Bl,0,none⟩) (HR.out Bl hR1)).trans HBl.out
  by_cases han:a<n
  ·have d1:decide ((a:Int)<(n:Int))=true:=by simp;omega
   have han':a<l.length:=by rw [Hn.out];exact han
   obtain ⟨g,off,rfl,hcell⟩:∃g off,p=some ⟨g,off,none⟩∧∀i,i<l.length→w.cell? ⟨g,off+i,none⟩=some (.int .u32 (l.getD i 0:Int)):=by
    obtain ⟨g,off,e,-⟩:=Hp.out.px han'
    refine ⟨g,off,e,fun i hi=>?_⟩
    obtain ⟨g',off',e',h⟩:=Hp.out.px hi
    rw [e] at e';cases e'
    exact h
   have hRg:=HR.out g (hR3 _ rfl)
   have hdl:(l.drop a).length=n - a:=by rw [List.length_drop,Hn.out]
   have hrun:=zl6 g (off+a) (c - a) (l.drop a) wr (by rw [hdl];omega) (by rw [hdl];omega) (fun i=>by rw [getD_drop];exact H32.out _) (fun i hi=>by
    rw [getD_drop,Nat.add_assoc]
    exact (World.cell?_of_block (a:=⟨g,off+(a+i),none⟩) hRg).trans (hcell (a+i) (by have:=Hn.out;rw [hdl] at hi;omega)))
   rw [hdl,getD_drop,Nat.add_zero] at hrun
   have Hrun:=Lib.hid hrun
   clear hrun hcell hRg hdl
   have i0:(0:Int)≤(a:Int):=by omega
   have i1:(a:Int)≤(n:Int):=by omega
   have i2:(a:Int)≤(c:Int):=by omega
   go_wp2_with fail
   refine Calls.mono Hrun.out ?_
   rintro _ u1 ⟨k,rfl,k1,k2,k3,k4,hb1⟩
   obtain ⟨z,hz⟩:∃z,rlw (l.getD a 0)=z:=⟨_,rfl⟩
   rw [hz] at k4 ⊢
   have HE3:Hid (rlO l=pre++(k,z)::rlO (l.drop (a+k))):=Lib.hid (by rw [HE.out,k4,List.drop_drop])
   have HR1:Hid (∀b,R b→u1.heap[b]? =w.heap[b]?):=Lib.hid (fun b hb=>(hb1.block b (zbI (HRlt.out b hb) (HR.out b hb))).trans (HR.out b hb))
   have HT1:=Lib.hid (HT.out.trans (Turns.of_below' hb1))
   have xb1:=(World.cell?_of_block (a:=⟨Bl,0,none⟩) (HR1.out Bl hR1)).trans HBl.out
   clear hb1 Hrun xb hz k4
   go_upto_region 3 with (fail)
   have hp:=RnAt.new u1 k z
   have hbp:=Below.al1 u1 (.cells #[.int .i64 (k:Int),.int .u32 (z:Int)] 136)
   have hps:u1.heap.size<(u1.alloc (.cells #[.int .i64 (k:Int),.int .u32 (z:Int)] 136)).heap.size:=by rw [World.size_alloc];omega
   generalize u1.alloc (.cells #[.int .i64 (k:Int),.int .u32 (z:Int)] 136)=u2 at *
   obtain ⟨p0,p1⟩:=hp.c
   have Hp0:=Lib.hid p0
   have HR2:Hid (∀b,R b→u2.heap[b]? =w.heap[b]?):=Lib.hid (fun b hb=>(hbp.block b (zbI (HRlt.out b hb) (HR1.out b hb))).trans (HR1.out b hb))
   have HT2:=Lib.hid (HT1.out.trans (Turns.of_below' hbp))
   have hpW:Wp.heap.size≤u1.heap.size:=HT1.out.size
   generalize u1.heap.size=pb at *
   clear hp hbp xb1
   obtain ⟨fn,tmps,assign,body,hy,hRd⟩:=HY.out pre (k,z) (rlO (l.drop (a+k))) Tp (fun b=>b=pb) Wp u2 #[RnV k z] HE3.out HJ.out HT2.out (fun b h=> .inr (by omega)) (fun b h=>by omega) HR2.out rfl
   refine (wpIn_wide (n:=0)).1 ?_
   gi_wp2
   refine ⟨rfl,hRd.mono ?_⟩
   rintro e W3 (⟨rfl,hJ3,hsz3,hk3⟩ | ⟨rfl,hJx3,-,-⟩)
   ·have HR3:Hid (∀b,R b→W3.heap[b]? =w.heap[b]?):=Lib.hid (fun b hb=>(hk3 b (Or.inl hb)).trans (HR2.out b hb))
    have HJ3:=Lib.hid hJ3
    have q0:=(World.cell?_of_block (a:=⟨pb,0,none⟩) (hk3 pb (.inr rfl))).trans Hp0.out
    clear hk3 hJ3 hy hRd p0 p1
    gi_wp2
    go_wp2
    go_roundw
    case rel=>exact ⟨a+k,pre++[(k,z)],fun b=>b=pb,W3,by go_num,by omega,Lib.hid (by rw [HE3.out];simp),HJ3,Lib.hid (Turns.refl _ _),HR3⟩
    case measure=>simp [intOf];omega
   ·have HP:pre++[(k,z)] <+:rlO l:=⟨rlO (l.drop (a+k)),by rw [HE3.out];simp⟩
    gi_wp2
    go_wp2
    refine bodyPost_ret (results_none rfl _ _ _) rfl ?_
    exact ⟨⟨_,rfl⟩,.inr ⟨_,_,_,HP,hJx3,Turns.refl _ _⟩⟩
  ·obtain rfl:a=n:=by omega
   have d1:decide ((a:Int)<(a:Int))=false:=by simp
   have HX:Hid (rlO l=pre):=Lib.hid (by rw [HE.out,←Hn.out,List.drop_length];simp [rlO])
   go_wp2
   go_end0
   exact ⟨⟨_,rfl⟩,.inl ⟨_,_,by rw [HX.out];exact HJ.out,HT.out⟩⟩
theorem zo0 {b:List Nat} {a:Nat} (h:a+4≤b.length):rlT (b.drop a)=(b.getD a 0+1,b.getD (a+1) 0*65536+b.getD (a+2) 0*256+b.getD (a+3) 0)::rlT (b.drop (a+4)):=by
 have e:b.drop a=b.getD a 0::b.getD (a+1) 0::b.getD (a+2) 0::b.getD (a+3) 0::b.drop (a+4):=by
  have k:∀i (hi:i<b.length),b.drop i=b.getD i 0::b.drop (i+1):=fun i hi=>by
   rw [List.drop_eq_getElem_cons hi,List.getD_eq_getElem?_getD,List.getElem?_eq_getElem hi];rfl
  rw [k a (by omega),k (a+1) (by omega),k (a+1+1) (by omega),k (a+1+1+1) (by omega)]
 rw [e];rfl
set_option maxRecDepth 20000 in
set_option maxHeartbeats 4000000 in
theorem zlm (Bl:Nat) (p:Option Addr) (c:Nat) (l:List Nat) (w:World) (R:Nat→Prop) (hBl:w.cell? ⟨Bl,0,none⟩=some (.slice p l.length c)) (hp:RowAt enc8 1 w p l) (h8:∀x∈l,x<256) (h4:l.length%4=0) (hl:l.length≤1048576) (hlc:l.length≤c)
  (hRlt:∀b,R b→b<w.heap.size) (hR1:R Bl) (hR3:∀a,p=some a→R a.block):
  Iter Tryz.prog 115 #[.pointer (some ⟨Bl,0,none⟩)] ElRn R (rlT l) w:=by
 intro ll J Jx W hsz hRW hJ0 hY
 refine callsIn_wide.2 ?_
 have HY:=Lib.hid hY
 have HRW:=Lib.hid hRW
 have Hp:=Lib.hid hp
 have HRlt:=Lib.hid hRlt
 have HBl:=Lib.hid hBl
 have H8:Hid (∀i,lq l i<256):=Lib.hid (fun i=>by
  unfold lq
  rw [List.getD_eq_getElem?_getD]
  cases h:l[i]? with
  | none=>decide
  | some x=>exact h8 x (List.mem_of_getElem? h))
 obtain ⟨n,hn⟩:∃n,l.length=n:=⟨_,rfl⟩
 have Hn:=Lib.hid hn
 rw [hn] at hlc hl HBl h4
 clear hY hRW hp hRlt hBl hn h8
 go_enter Tryz.func115,Tryz.ntmps115
 go_wp2
 go_loopw [3] (fun av wr=> ∃(a:Nat) (pre:List (Nat×Nat)) (Tp:Nat→Prop) (Wp:World),av= .int .i64 (a:Int)∧a≤n∧a%4=0∧Hid (rlT l=pre++rlT (l.drop a))∧Hid (J pre Tp Wp)∧Hid (Turns Tp Wp wr)∧Hid (∀b,R b→wr.heap[b]? =w.heap[b]?)) (fun av _=>n - (intOf av).toNat)
 case atStart=>exact ⟨0,[],fun _=>False,W,rfl,Nat.zero_le _,rfl,Lib.hid rfl,Lib.hid hJ0,Lib.hid (Turns.refl _ _),HRW⟩
 case round=>
  obtain ⟨a,pre,Tp,Wp,rfl,ha,ha4,HE,HJ,HT,HR⟩:=hrel
  have xb:=(World.cell?_of_block (a:=⟨Bl,0,none⟩) (HR.out Bl hR1)).trans HBl.out
  by_cases han:a<n
  ·have d1:decide ((a:Int)<(n:Int))=true:=by simp;omega
   have han':a<l.length:=by rw [Hn.out];exact han
   have ha3:a+4≤n:=by omega
   obtain ⟨g,off,rfl,hcell⟩:∃g off,p=some ⟨g,off,none⟩∧∀i,i<l.length→w.cell? ⟨g,off+i,none⟩=some (.int .u8 ((lq l i:Nat):Int)):=by
    obtain ⟨g,off,e,-⟩:=Hp.out.byte han'
    refine ⟨g,off,e,fun i hi=>?_⟩
    obtain ⟨g',off',e',h⟩:=Hp.out.byte hi
    rw [e] at e';cases e'
    exact h
   have hRg:=HR.out g (hR3 _ rfl)
   have x0:=(World.cell?_of_block (a:=⟨g,off+a,none⟩) hRg).trans (hcell a han')
   have x1:=(World.cell?_of_block (a:=⟨g,off+(a+1),none⟩) hRg).trans (hcell (a+1) (by rw [Hn.out];omega))
   have x2:=(World.cell?_of_block (a:=⟨g,off+(a+2),none⟩) hRg).trans (hcell (a+2) (by rw [Hn.out];omega))
   have x3:=(World.cell?_of_block (a:=⟨g,off+(a+3),none⟩) hRg).trans (hcell (a+3) (by rw [Hn.out];omega))
   rw [←Nat.add_assoc] at x1 x2 x3
   have hd:=zo0 (b:=l) (a:=a) (by rw [Hn.out];exact ha3)
   have b0:=H8.out a
   have b1:=H8.out (a+1)
   have b2:=H8.out (a+2)
   have b3:=H8.out (a+3)
   change rlT (l.drop a)=(lq l a+1,lq l (a+1)*65536+lq l (a+2)*256+lq l (a+3))::rlT (l.drop (a+4)) at hd
   generalize lq l a=y0 at *
   generalize lq l (a+1)=y1 at *
   generalize lq l (a+2)=y2 at *
   generalize lq l (a+3)=y3 at *
   have Hread:=Lib.hid (fun W=>zmN y0 y1 y2 y3 W b0 b1 b2 b3)
   have HE3:Hid (rlT l=pre++(y0+1,y1*65536+y2*256+y3)::rlT (l.drop (a+4))):=Lib.hid (by rw [HE.out,hd])
   have i0:(0:Int)≤(a:Int):=by omega
   have i1:(a:Int)≤(n:Int):=by omega
   have i2:(a:Int)≤(c:Int):=by omega
   have i4:(4:Int)≤(n:Int) - (a:Int):=by omega
   have i5:4≤n - a:=by omega
   clear hcell hRg hd b0 b1 b2 b3
   have hat:∀w,(Instr.arrayAt 162 (.slice (some ⟨g,off+a,none⟩) (n - a) (c - a))).run Tryz.prog w= .ok (.pointer (some ⟨g,off+a,none⟩)) w:=fun w=>run_arrayAt w 162 _ 4 _ (n - a) (c - a) Tryz.underlying162 i5
   go_upto_region 3 with (fail)
   refine (wpIn_wide (n:=0)).1 ?_
   gi_wp2
   refine ⟨trivial,rfl,(callsIn_wide.2 (Hread.out _)).mono ?_⟩
   rintro _ u1 ⟨rfl,hb1⟩
   have HR1:Hid (∀b,R b→u1.heap[b]? =w.heap[b]?):=Lib.hid (fun b hb=>(hb1.block b (zbI (HRlt.out b hb) (HR.out b hb))).trans (HR.out b hb))
   have HT1:=Lib.hid (HT.out.trans (Turns.of_below' hb1))
   clear hb1 Hread x0 x1 x2 x3 xb
   generalize y0+1=k0 at *
   generalize y1*65536+y2*256+y3=z at *
   obtain ⟨fn,tmps,assign,body,hy,hRd⟩:=HY.out pre (k0,z) (rlT (l.drop (a+4))) Tp (fun _=>False) Wp u1 #[RnV k0 z] HE3.out HJ.out HT1.out (fun _ h=>h.elim) (fun _ h=>h.elim) HR1.out rfl
   gi_wp2
   refine ⟨rfl,hRd.mono ?_⟩
   rintro e W3 (⟨rfl,hJ3,hsz3,hk3⟩ | ⟨rfl,hJx3,-,-⟩)
   ·have HR3:Hid (∀b,R b→W3.heap[b]? =w.heap[b]?):=Lib.hid (fun b hb=>(hk3 b (Or.inl hb)).trans (HR1.out b hb))
    have HJ3:=Lib.hid hJ3
    clear hk3 hJ3 hy hRd
    gi_wp2
    go_wp2
    go_roundw
    case rel=>exact ⟨a+4,pre++[(k0,z)],fun _=>False,W3,by go_num,by omega,by omega,Lib.hid (by rw [HE3.out];simp),HJ3,Lib.hid (Turns.refl _ _),HR3⟩
    case measure=>simp [intOf];omega
   ·have HP:pre++[(k0,z)] <+:rlT l:=⟨rlT (l.drop (a+4)),by rw [HE3.out];simp⟩
    gi_wp2
    go_wp2
    refine bodyPost_ret (results_none rfl _ _ _) rfl ?_
    exact ⟨⟨_,rfl⟩,.inr ⟨_,_,_,HP,hJx3,Turns.refl _ _⟩⟩
  ·obtain rfl:a=n:=by omega
   have d1:decide ((a:Int)<(a:Int))=false:=by simp
   have HX:Hid (rlT l=pre):=Lib.hid (by rw [HE.out,←Hn.out,List.drop_length];simp [rlT])
   go_wp2
   go_end0
   exact ⟨⟨_,rfl⟩,.inl ⟨_,_,by rw [HX.out];exact HJ.out,HT.out⟩⟩
end
section
open Go.RowKit
structure OwnI (e:TypeId) (w0:World) (b1 n:Nat) (T:Nat→Prop) (xs:List Value) (w:World):Prop where
 vb:∃vb,w.cell? ⟨b1,0,none⟩=some vb∧w.ownsRow (n+2) e 1 vb xs.length xs∧∀k,vb.ownBlock=some k→¬T k
 free:w.frozen? ⟨b1,0,none⟩=false
 lt:b1<n
 bel:Below w0.heap.size w0 w
theorem OwnI.turn {e:TypeId} {w0:World} {b1 n:Nat} {Tp T S:Nat→Prop} {xs:List Value} {w w':World} {m:Nat} (h:OwnI e w0 b1 n Tp xs w) (ht:Turns S w w') (hS:∀b,S b→Tp b∨b=n+1∨b=n) (hTp:∀b,Tp b→n+1<b) (hn:w0.heap.size≤n) (hm:w.heap.size≤m) (hT:∀b,T b→Tp b∨m≤b):OwnI e w0 b1 n T xs w':=by
 obtain ⟨⟨vb,h1,h2,h3⟩,h4,h5,h6⟩:=h
 have hSb:¬S b1:=fun hb=>by
  rcases hS _ hb with h | h | h
  ·have:=hTp _ h;omega
  ·omega
  ·omega
 refine ⟨⟨vb,ht.cell h1 hSb,ht.owns h2 (fun k hk hb=>?_),fun k hk hb=>?_⟩,ht.free h1 h4 hSb,h5,?_⟩
 ·have:=(h2.lt k hk).1
  rcases hS _ hb with h | h | h
  ·exact h3 k hk h
  ·omega
  ·omega
 ·have:=(h2.lt k hk).2
  rcases hT _ hb with h | h
  ·exact h3 k hk h
  ·omega
 ·exact h6.trans (ht.below h6.size (fun i hi=>by
   rcases hS _ hi with h | h | h
   ·have:=hTp _ h;omega
   ·omega
   ·omega))
end
section
open Go.RowKit
attribute [local go_sem] Oper.semAt_some
theorem zkK (p:Option Addr) (n c:Nat) (w:World):Calls Tryz.prog 113 #[.slice p n c] w fun e w'=>e= .returned (.func (.func 131) #[] #[.pointer (some ⟨w.heap.size,0,none⟩)])∧w'=w.alloc (.cells #[.slice p n c] 24):=by
 have hmf:∀(fn:Fn) (first cap:Array Value) (w:World),(Instr.makeFunc fn first cap).run Tryz.prog w= .ok (.func fn first cap) w:=fun _ _ _ _=>rfl
 go_enter Tryz.func113,Tryz.ntmps113
 go_wp2
 go_ret
 exact ⟨rfl,rfl⟩
theorem zlh (p:Option Addr) (n c:Nat) (w:World):Calls Tryz.prog 94 #[.slice p n c] w fun e w'=>e= .returned (.func (.func 115) #[] #[.pointer (some ⟨w.heap.size,0,none⟩)])∧w'=w.alloc (.cells #[.slice p n c] 28):=by
 have hmf:∀(fn:Fn) (first cap:Array Value) (w:World),(Instr.makeFunc fn first cap).run Tryz.prog w= .ok (.func fn first cap) w:=fun _ _ _ _=>rfl
 go_enter Tryz.func94,Tryz.ntmps94
 go_wp2
 go_ret
 exact ⟨rfl,rfl⟩
def VsRn (vs:Array Value):Prop:= ∃x:Nat×Nat,vs=#[RnV x.1 x.2]
def zhu (vs:Array Value) (W:World):World:=match vs.getD 0 undef with
 | .agg cs=>W.alloc (.cells cs 136)
 | _=>W
set_option maxRecDepth 100000 in
set_option maxHeartbeats 4000000 in
theorem zjF (p:Option Addr) (c:Nat) (l:List Nat) (w:World) (hp:RowAt encP 1 w p l) (h32:∀x∈l,x<4294967296) (hl:l.length≤1048576) (hlc:l.length≤c):
  Calls Tryz.prog 93 #[.slice p l.length c] w fun e w'=> ∃v',e= .returned v'∧w'.ownsRow w.heap.size 5 1 v' (rlBs (rlO l)).length ((rlBs (rlO l)).map u8v)∧Below w.heap.size w w':=by
 have Hp:=Lib.hid hp
 have H32:=Lib.hid h32
 have HpR:Hid (∀a,p=some a→a.block<w.heap.size):=Lib.hid (fun a ha=>by
  rcases hp with ⟨h,-⟩ | ⟨b,off,e,hb,-⟩
  ·rw [h] at ha;cases ha
  ·rw [e] at ha;cases ha;exact hb)
 obtain ⟨n,hn⟩:∃n,l.length=n:=⟨_,rfl⟩
 have Hn:=Lib.hid hn
 rw [hn] at hl hlc ⊢
 clear hp h32 hn
 refine (callsIn_wide (n:=0)).1 ?_
 refine callsIn_of_wp_marks Tryz.func93 rfl trivial ?_ rfl
 simp only [Tryz.ntmps93,List.size_toArray,List.length_cons,List.length_nil,Nat.reduceAdd,Nat.reduceSub,Array.replicate_succ,Array.replicate_zero,List.push_toArray,List.append_toArray,List.nil_append,List.cons_append]
 refine wpIn_wide.2 ?_
 go_wp2_with fail
 refine Calls.mono (zkK p n c _) ?_
 rintro _ u1 ⟨rfl,rfl⟩
 go_wp2_with fail
 have hal:=Below.al2 w (.cells #[.slice none 0 0] 28) (.cells #[.slice p n c] 24)
 have hg:=zag [.cells #[.slice none 0 0] 28,.cells #[.slice p n c] 24] w
 simp only [List.foldl_cons,List.foldl_nil] at hg
 have hsz:((w.alloc (.cells #[.slice none 0 0] 28)).alloc (.cells #[.slice p n c] 24)).heap.size=w.heap.size+2:=by simp
 generalize (w.alloc (.cells #[.slice none 0 0] 28)).alloc (.cells #[.slice p n c] 24)=W1 at *
 have hc1:W1.cell? ⟨w.heap.size,0,none⟩=some (.slice none 0 0):=zaa ((hg 0 _).2 rfl) rfl
 have hf1:W1.frozen? ⟨w.heap.size,0,none⟩=false:=by
  have h:=(hg 0 _).2 rfl
  rw [Nat.add_zero] at h
  simp [World.frozen?,h]
 have hc2:W1.cell? ⟨w.heap.size+1,0,none⟩=some (.slice p n c):=zaa ((hg 1 _).2 rfl) rfl
 have hI0:OwnI 5 w w.heap.size (w.heap.size+2) (fun _=>False) ((rlBs []).map u8v) W1:=⟨⟨_,hc1,World.ownsRow_nil _ _ _ _,fun _ _ h=>h⟩,hf1,by omega,hal⟩
 have HIt:=Lib.hid (zlp (w.heap.size+1) p c l W1 (fun b=>b=w.heap.size+1∨∃a,p=some a∧b=a.block) (by rw [Hn.out];exact hc2) (Hp.out.turns (Turns.of_below' (T:=fun _=>False) hal) (fun _ _ h=>h)) H32.out (by rw [Hn.out];exact hl) (by rw [Hn.out];exact hlc) (fun b hb=>by
  rcases hb with rfl | ⟨a,ha,rfl⟩
  ·omega
  ·have:=HpR.out a ha;omega) (.inl rfl) (fun a ha=> .inr ⟨a,ha,rfl⟩))
 have Hlen:Hid ((rlO l).length≤n):=Lib.hid (by rw [←Hn.out];exact zmy l)
 clear hg hc1 hc2 hf1
 refine (wpIn_wide (n:=0)).1 ?_
 refine za0 (gf:=131) (El:=ElRn) (xs:=rlO l) (w0:=W1) ?hg ?eg HIt.out ?hs0 ?hRr VsRn zhu ?hps ?hasg
  (fun pre T W'=>OwnI 5 w w.heap.size (w.heap.size+2) T ((rlBs pre).map u8v) W') (fun _ _ _ _=>False) ?start
  (fun vs W'=>{ tmps:=#[.slice p n c,undef,.slice none 0 0,.pointer (some ⟨w.heap.size,0,none⟩),.pointer (some ⟨W'.heap.size,0,none⟩),.slice p n c,.func (.func 131) #[] #[.pointer (some ⟨w.heap.size+1,0,none⟩)],vs.getD 0 undef,undef,undef,undef,undef],defers:=[]}) ?assign ?body ?done ?stop
 case hg=>rfl
 case eg=>exact fun _ _=>rfl
 case hs0=>exact Nat.le_refl _
 case hRr=>exact fun q hq=>⟨by
  rcases hq with rfl | ⟨a,ha,rfl⟩
  ·omega
  ·have:=HpR.out a ha;omega,rfl⟩
 case hps=>
  rintro _ _ _ x _ h
  rw [h];exact ⟨rfl,x,rfl⟩
 case hasg=>
  rintro _ W' ⟨x,rfl⟩
  exact Below.al1 W' _
 case start=>exact hI0
 case assign=>
  rintro l _ W' K ⟨x,rfl⟩ hK
  gi_wp2
  first
   | exact hK
   | simpa using hK
   | simpa [Array.zip,Array.zipWith,zhu] using hK
 case stop=>exact fun _ _ _ _ _ _ h=>h.elim
 case body=>
  rintro pre ⟨k,z⟩ rest Tp T Wq Wp W1' W2 vs hxs hI htqp hsq hsq1 ht2 hTp hT hT2 hR2 hEl h12 hs12 h1a hLt hL1 hD2 hL2
  simp only [hsz] at ht2 hTp hT2 h12 hLt hL1 hD2 hL2 htqp h1a ⊢
  obtain rfl:vs=#[RnV k z]:=hEl
  obtain ⟨r0,hr0⟩:=hL1
  have hnlt:w.heap.size+2+1<W1'.heap.size:=zab hr0
  have hpa:RnAt W2 W1'.heap.size k z:=(h1a.block _ (by show W1'.heap.size<(W1'.alloc _).heap.size;rw [World.size_alloc];omega) (by omega)).trans (RnAt.new W1' k z)
  have hO:=hI.turn ht2 (fun b hb=>hb) (fun b hb=>(hTp b hb).1) (by omega) hsq (T:=T) hT
  obtain ⟨⟨vb,v1,v2,v3⟩,v4,v5,v6⟩:=hO
  rw [List.length_map] at v2
  have hok:RlOk (k,z):=zkI l _ (by rw [hxs];simp)
  have hpl:(rlBs pre).length≤8388608:=by
   have h1:=Hlen.out
   rw [hxs,List.length_append] at h1
   rw [zdA];omega
  have hs2:w.heap.size+2+2≤W2.heap.size:=by omega
  have hT4:∀b,T b→w.heap.size+2+1<b:=fun b hb=>(hT2 b hb).1
  obtain ⟨pb,hpb⟩:∃pb,W1'.heap.size=pb:=⟨_,rfl⟩
  rw [hpb] at hpa ⊢
  obtain ⟨q0,q1⟩:=hpa.c
  obtain ⟨vp,vc,rfl⟩:=zac v2
  have Hcall:=Lib.hid (zmv k z hok (w.heap.size+2+2) _ (rlBs pre) W2 v2 hpl hs2)
  have HV2:=Lib.hid v2
  have HV3:=Lib.hid v3
  have HV6:=Lib.hid v6
  have HT4:=Lib.hid hT4
  have HR:Hid (∀b,(b=w.heap.size+1∨∃a,p=some a∧b=a.block)→b<w.heap.size+2∧b≠w.heap.size):=Lib.hid (fun b hb=>by
   rcases hb with rfl | ⟨a,ha,rfl⟩
   ·omega
   ·have:=HpR.out a ha;omega)
  have HTs:Hid (∀b,T b→b<W2.heap.size):=Lib.hid (fun b hb=>(hT2 b hb).2)
  have e0:(#[RnV k z]:Array Value).getD 0 undef=RnV k z:=rfl
  rw [e0]
  clear hI htqp hsq hsq1 ht2 hTp hT hT2 hR2 h12 hs12 h1a hLt hD2 hL2 hxs hr0 hnlt hpb hpa hok hpl v2 v3 v6 hT4 e0 hI0 hal
  gi_wp2
  refine ⟨trivial,rfl,(CallsIn.inRound _ (callsIn_wide.2 Hcall.out)).mono ?_⟩
  rintro _ w4 ⟨v',rfl,ho4,ht4,hg4⟩
  obtain ⟨vp4,vc4,rfl⟩:=zac ho4
  have hb1:¬(Value.slice vp (rlBs pre).length vc).ownBlock=some w.heap.size:=fun e=>by have:=(HV2.out.lt _ e).1;omega
  have x1:=ht4.cell v1 hb1
  have x4:=ht4.free v1 v4 hb1
  rw [List.length_append] at ho4 hg4
  have Ho4:=Lib.hid ho4
  have Ht4:=Lib.hid ht4
  have Hg4:=Lib.hid hg4
  clear ho4 ht4 hg4 q0 q1 Hcall v1 v4
  gi_wp2
  have y1:(w4.setCell ⟨w.heap.size,0,none⟩ (.slice vp4 ((rlBs pre).length+(rlB (k,z)).length) vc4)).cell? ⟨w.heap.size,0,none⟩=some (.slice vp4 ((rlBs pre).length+(rlB (k,z)).length) vc4):=by simp [go_sem,x1]
  have y4:(w4.setCell ⟨w.heap.size,0,none⟩ (.slice vp4 ((rlBs pre).length+(rlB (k,z)).length) vc4)).frozen? ⟨w.heap.size,0,none⟩=false:=by simp [go_sem,x4]
  have hts:=Turns.set1 w.heap.size w4 (.slice vp4 ((rlBs pre).length+(rlB (k,z)).length) vc4)
  have hkeep:∀b,b<w.heap.size+2+2∨T b→b<W2.heap.size→¬(Value.slice vp (rlBs pre).length vc).ownBlock=some b:=fun b hb _ e=>by
   rcases hb with h | h
   ·have:=(HV2.out.lt _ e).1;omega
   ·exact HV3.out _ e h
  refine ⟨⟨⟨_,y1,?_,fun b hb hT=>?_⟩,y4,by omega,?_⟩,?_,fun b hb=>?_⟩
  ·have e:rlBs (pre++[(k,z)])=rlBs pre++rlB (k,z):=by simp [rlBs]
   rw [e,List.length_map]
   refine hts.owns ?_ (fun b hb h=>by have:=(Ho4.out.lt _ hb).1;omega)
   rw [List.length_append]
   exact Ho4.out
  ·rcases Hg4.out b hb with h | h
   ·exact HV3.out b h hT
   ·have:=HTs.out b hT;omega
  ·exact HV6.out.trans ((Ht4.out.below HV6.out.size (fun b hb=>by have:=(HV2.out.lt _ hb).1;omega)).trans (hts.below (Nat.le_trans HV6.out.size Ht4.out.size) (fun b hb=>by omega)))
  ·exact Nat.le_trans Ht4.out.size hts.size
  ·have hb':b<W2.heap.size∧b≠w.heap.size∧(b<w.heap.size+2+2∨T b):=by
    rcases hb with hb | hb | hb | hb
    ·have:=HR.out b hb;exact ⟨by omega,this.2,.inl (by omega)⟩
    ·exact ⟨HTs.out b hb,by have:=HT4.out b hb;omega,.inr hb⟩
    ·exact ⟨by omega,by omega,.inl (by omega)⟩
    ·exact ⟨by omega,by omega,.inl (by omega)⟩
   have h1:=Ht4.out.block b hb'.1 (hkeep b hb'.2.2 hb'.1)
   exact (hts.block b (Nat.lt_of_lt_of_le hb'.1 Ht4.out.size) hb'.2.1).trans h1
 case done=>
  intro Tp Wq W' hI htt hTp hlt hD
  rw [hsz] at htt hTp hlt hD
  have hO:=hI.turn (T:=fun _=>False) htt (fun b hb=>hb) hTp (by omega) (Nat.le_refl _) (fun _ h=>h.elim)
  rw [hsz]
  have HD:=Lib.hid hD
  obtain ⟨⟨vb,v1,v2,v3⟩,v4,v5,v6⟩:=hO
  rw [List.length_map] at v2
  obtain ⟨vp,vc,rfl⟩:=zac v2
  have HV2:=Lib.hid v2
  have HV6:=Lib.hid v6
  clear hI htt hD hI0 v2 v6
  dsimp only
  go_wp2
  refine ⟨by simp,.inl ⟨_,_,rfl,run_takeDeferred HD.out,?_⟩⟩
  have htd:=Turns.put (T:=fun b=>b=w.heap.size+2) W' (w.heap.size+2) (.deferred none) rfl
  refine ⟨_,results_tmp rfl _ _ _,_,rfl,?_,?_⟩
  ·exact htd.owns (zao HV2.out (by omega)) (fun b hb h=>by have:=(HV2.out.lt _ hb).1;omega)
  ·exact HV6.out.trans (htd.below HV6.out.size (fun b hb=>by omega))
end
end Go.Proofs.YtedakhgaghfogaaGreat
