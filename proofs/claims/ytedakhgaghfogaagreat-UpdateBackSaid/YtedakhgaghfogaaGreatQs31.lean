/- Several texts in one, each with its own head. -/
import Derived.Test.YtedakhgaghfogaaGreatQs30
import Derived.Test.YtedakhgaghfogaaGreatQs4
import Derived.OwnWalkIn
import Derived.TacticsInMore
import Derived.LoopNIn
import Derived.LoopIn
import Derived.Laws.Cover3
import Derived.Test.YtedakhgaghfogaaGreatQs11
import Derived.Test.YtedakhgaghfogaaGreatQs7
import Derived.Test.YtedakhgaghfogaaGreatQs22
import Derived.Test.YtedakhgaghfogaaGreatQs3
namespace Go.Proofs.YtedakhgaghfogaaGreat
section
open Go.RowKit
attribute [local go_sem] Oper.semAt_some
theorem zmY (cs:List Nat) {i:Nat} (h:i<cs.length):(cs.take (i+1)).flatMap plB=(cs.take i).flatMap plB++plB (cs.getD i 0):=by
 rw [List.take_succ_eq_append_getElem h,List.flatMap_append,List.getD_eq_getElem?_getD,List.getElem?_eq_getElem h]
 simp
set_option maxRecDepth 20000 in
set_option maxHeartbeats 4000000 in
theorem zfT (p:Option Addr) (c:Nat) (cs:List Nat) (w:World) (hp:RowAt encP 1 w p cs) (h24:∀x∈cs,x<16777216) (h1:1≤cs.length) (h16:cs.length≤16):
  Calls Tryz.prog 97 #[.slice p cs.length c] w fun e w'=> ∃v',e= .returned v'∧w'.ownsRow w.heap.size 5 1 v' (plH cs).length ((plH cs).map u8v)∧Below w.heap.size w w':=by
 have Hp:=Lib.hid hp
 obtain ⟨i0,hi0,hz0,hz1,hz2⟩:=info_parts zaw
 have H24:Hid (∀i,cs.getD i 0<16777216):=Lib.hid (fun i=>by
  rw [List.getD_eq_getElem?_getD]
  cases h:cs[i]? with
  | none=>decide
  | some x=>exact h24 x (List.mem_of_getElem? h))
 have HS:=Lib.hid (fun (i:Nat) (h:i<cs.length)=>zmY cs h)
 obtain ⟨n,hn⟩:∃n,cs.length=n:=⟨_,rfl⟩
 have Hn:=Lib.hid hn
 rw [hn] at h1 h16 ⊢
 obtain ⟨m,rfl⟩:∃m,n=m+1:=⟨n - 1,by omega⟩
 have HH:Hid (plH cs=m::cs.flatMap plB):=Lib.hid (by unfold plH;rw [hn];rfl)
 obtain ⟨n,hnm⟩:∃n,m+1=n:=⟨_,rfl⟩
 have e0:(n:Int) - 1=(m:Int):=by omega
 rw [hnm] at Hn h1 h16 ⊢
 have hm:m≤15:=by omega
 have w0:IntKind.u8.wrap (m:Int)=(m:Int):=by rw [IntKind.wrap_u8];omega
 clear hp hn h24 hnm
 go_enter Tryz.func97,Tryz.ntmps97
 go_wp2_with fail
 have Ho0:Hid ((w.alloc (.cells #[.int .u8 (m:Int)] 5)).ownsRow w.heap.size 5 1 (.slice (some ⟨w.heap.size,0,none⟩) 1 1) 1 ([m].map u8v)):=Lib.hid (World.ownsRow_lit w #[.int .u8 (m:Int)] 1 (Nat.le_refl _) (by decide) rfl)
 have Hb0:=Lib.hid (Below.al1 w (.cells #[.int .u8 (m:Int)] 5))
 generalize w.alloc (.cells #[.int .u8 (m:Int)] 5)=W1 at *
 clear w0 e0
 go_loopw [3,13] (fun ov iv wr=> ∃(i:Nat) (o:List Nat),iv= .int .i64 (i:Int)∧i≤n∧o.length≤1+3*i∧Hid (o=m::(cs.take i).flatMap plB)∧Hid (wr.ownsRow w.heap.size 5 1 ov o.length (o.map u8v))∧Hid (Below w.heap.size w wr)) (fun _ iv _=>n - (intOf iv).toNat)
 case atStart=>exact ⟨0,[m],rfl,Nat.zero_le _,by simp,Lib.hid (by simp),Ho0,Hb0⟩
 case round=>
  obtain ⟨i,o,rfl,hi,hol,HE,HO,HB⟩:=hrel
  obtain ⟨vp,vc,rfl⟩:=zac HO.out
  by_cases hin:i<n
  ·have d1:decide ((i:Int)<(n:Int))=true:=by simp;omega
   obtain ⟨g,off,rfl,hc⟩:=Hp.out.pxs (by rw [Hn.out];omega)
   have x0:=cell_later HB.out (hc i (by rw [Hn.out];omega))
   have hs:=HS.out i (by rw [Hn.out];exact hin)
   have hxb:=H24.out i
   obtain ⟨x,hx⟩:∃x,cs.getD i 0=x:=⟨_,rfl⟩
   rw [hx] at x0 hs hxb
   obtain ⟨a1,ha1⟩:∃a,x/65536=a:=⟨_,rfl⟩
   obtain ⟨a2,ha2⟩:∃a,x/256%256=a:=⟨_,rfl⟩
   obtain ⟨a3,ha3⟩:∃a,x%256=a:=⟨_,rfl⟩
   have e1:(x:Int)/65536=(a1:Int):=by omega
   have e2:((x:Int)/256)%256=(a2:Int):=by omega
   have e3:(x:Int)%256=(a3:Int):=by omega
   have b1:a1≤255:=by omega
   have HE2:Hid (o++[a1,a2,a3]=m::(cs.take (i+1)).flatMap plB):=Lib.hid (by
    rw [hs,HE.out]
    show _=m::(_++[x/65536,x/256%256,x%256])
    rw [ha1,ha2,ha3];rfl)
   have k0:(0:Int)≤(i:Int):=by omega
   have k1:(i:Int)<(n:Int):=by omega
   have hs1:=HB.out.size
   clear ha1 ha2 ha3 hs hx hc
   go_wp2_with (at_builtin;refine zai _ rfl (.tmp 17) (.tmp 26) 28 rfl w.heap.size 5 i0 _ 1 1 Tryz.underlying28 hi0 hz0 hz1 hz2 rfl (by decide) (.slice vp o.length vc) o.length (o.map u8v) rfl (HO.out.alloc _) (some ⟨wr.heap.size,0,none⟩) 3 3 [.int .u8 a1,.int .u8 a2,.int .u8 a3] rfl rfl (.inr ⟨_,rfl,?c2⟩) ?c3 ?c4 ?c5 ?c6 ?_)
   case c2=>exact zbm (w:=wr) (c:=[.int .u8 (a1:Int),.int .u8 (a2:Int),.int .u8 (a3:Int)]) (t:=5)
   case c3=>
    intro u hu
    simp only [List.mem_cons,List.not_mem_nil,or_false] at hu
    rcases hu with rfl | rfl | rfl<;>rfl
   case c4=>simp only [maxLen];omega
   case c5=>omega
   case c6=>simp only [World.size_alloc];omega
   intro v' w5 ho1 ht1 hg1
   have Ho1:Hid (w5.ownsRow w.heap.size 5 1 v' (o++[a1,a2,a3]).length ((o++[a1,a2,a3]).map u8v)):=Lib.hid (by
    rw [List.length_append,List.map_append]
    exact ho1)
   have hT:Turns (fun k=>(Value.slice vp o.length vc).ownBlock=some k) wr w5:=(Turns.of_below' (Below.al1 wr _)).trans (Turns.of_grown ht1 (fun _ h=>h))
   have Hb5:Hid (Below w.heap.size w w5):=Lib.hid (HB.out.trans (hT.below hs1 (fun b hb=>(HO.out.lt b hb).1)))
   have hlen:(o++[a1,a2,a3]).length≤1+3*(i+1):=by rw [List.length_append];simp only [List.length_cons,List.length_nil];omega
   clear ho1 ht1 hg1 hT e1 e2 e3 x0
   go_wp2
   go_roundw
   case rel=>exact ⟨i+1,_,by go_num,by omega,hlen,HE2,Ho1,Hb5⟩
   case measure=>simp [intOf];omega
  ·obtain rfl:i=n:=by omega
   have d1:decide ((i:Int)<(i:Int))=false:=by simp
   have HX:Hid (plH cs=o):=Lib.hid (by rw [HH.out,HE.out,List.take_of_length_le (by rw [Hn.out];exact Nat.le_refl _)])
   go_wp2
   go_ret
   rw [HX.out]
   exact ⟨_,rfl,HO.out,HB.out⟩
def chL (n a N:Nat):List (Nat×Nat):=if _h:a<N∧0<n then (a,min n (N - a))::chL n (a+n) N else []
termination_by N - a
theorem zen {n a N:Nat} (h:a<N) (h0:0<n):chL n a N=(a,min n (N - a))::chL n (a+n) N:=by rw [chL,dif_pos ⟨h,h0⟩]
theorem zf2 {n a N:Nat} (h:¬a<N):chL n a N=[]:=by rw [chL,dif_neg (fun h'=>h h'.1)]
def ElCh (p:Option Addr) (_ _:World) (_:Nat→Prop) (x:Nat×Nat) (vs:Array Value):Prop:= ∃g off,p=some ⟨g,off,none⟩∧vs=#[.slice (some ⟨g,off+x.1,none⟩) x.2 x.2]
set_option maxRecDepth 20000 in
set_option maxHeartbeats 4000000 in
theorem zeU (Bl Bn:Nat) (p:Option Addr) (N k c:Nat) (w:World) (R:Nat→Prop) (hBl:w.cell? ⟨Bl,0,none⟩=some (.slice p N c)) (hBn:w.cell? ⟨Bn,0,none⟩=some (.int .i64 (k:Int))) (hp:0<N→∃g off,p=some ⟨g,off,none⟩) (hl:N≤1048576) (hk:k≤1073741824) (hk0:0<k) (hlc:N≤c)
  (hRlt:∀b,R b→b<w.heap.size) (hR1:R Bl) (hR2:R Bn):
  Iter Tryz.prog 112 #[.pointer (some ⟨Bl,0,none⟩),.pointer (some ⟨Bn,0,none⟩)] (ElCh p) R (chL k 0 N) w:=by
 intro ll J Jx W hsz hRW hJ0 hY
 refine callsIn_wide.2 ?_
 have HY:=Lib.hid hY
 have HRW:=Lib.hid hRW
 have Hp:=Lib.hid hp
 have HRlt:=Lib.hid hRlt
 have HBl:=Lib.hid hBl
 have HBn:=Lib.hid hBn
 clear hY hRW hp hRlt hBl hBn
 go_enter Tryz.func112,Tryz.ntmps112
 go_wp2
 go_loopw [4] (fun av wr=> ∃(a:Nat) (pre:List (Nat×Nat)) (Tp:Nat→Prop) (Wp:World),av= .int .i64 (a:Int)∧a≤N+k∧Hid (chL k 0 N=pre++chL k a N)∧Hid (J pre Tp Wp)∧Hid (Turns Tp Wp wr)∧Hid (∀b,R b→wr.heap[b]? =w.heap[b]?)) (fun av _=>N+k - (intOf av).toNat)
 case atStart=>exact ⟨0,[],fun _=>False,W,rfl,Nat.zero_le _,Lib.hid rfl,Lib.hid hJ0,Lib.hid (Turns.refl _ _),HRW⟩
 case round=>
  obtain ⟨a,pre,Tp,Wp,rfl,ha,HE,HJ,HT,HR⟩:=hrel
  have xb:=(World.cell?_of_block (a:=⟨Bl,0,none⟩) (HR.out Bl hR1)).trans HBl.out
  have xn:=(World.cell?_of_block (a:=⟨Bn,0,none⟩) (HR.out Bn hR2)).trans HBn.out
  by_cases han:a<N
  ·have d1:decide ((a:Int)<(N:Int))=true:=by simp;omega
   obtain ⟨g,off,rfl⟩:=Hp.out (by omega)
   obtain ⟨z,hz⟩:∃z,min k (N - a)=z:=⟨_,rfl⟩
   have hzi:min (k:Int) ((N - a:Nat):Int)=(z:Int):=by omega
   have hzi2:min (k:Int) ((N:Int) - (a:Int))=(z:Int):=by omega
   have hz0:0<z:=by omega
   have hzN:a+z≤N:=by omega
   have HE3:Hid (chL k 0 N=pre++(a,z)::chL k (a+k) N):=Lib.hid (by rw [HE.out,zen han hk0,hz])
   have i0:(0:Int)≤(a:Int):=by omega
   have i1:(a:Int)≤(N:Int):=by omega
   have i2:(a:Int)≤(c:Int):=by omega
   have hm:(if N - a<k then ((N - a:Nat):Int) else (k:Int))=(z:Int):=by split<;>omega
   have Hm:=Lib.hid hm
   clear hz hm hzi hzi2
   go_upto_region 3 with (fail)
   go_quiet (fail)
   rename_i nq
   rw [Hm.out]
   have HR1:Hid (∀b,R b→(wr.drewN nq).heap[b]? =w.heap[b]?):=HR
   have HT1:Hid (Turns Tp Wp (wr.drewN nq)):=Lib.hid (HT.out.drewN nq)
   generalize wr.drewN nq=u1 at *
   have xb1:=(World.cell?_of_block (a:=⟨Bl,0,none⟩) (HR1.out Bl hR1)).trans HBl.out
   have xn1:=(World.cell?_of_block (a:=⟨Bn,0,none⟩) (HR1.out Bn hR2)).trans HBn.out
   clear xb xn
   obtain ⟨fn,tmps,assign,body,hy,hRd⟩:=HY.out pre (a,z) (chL k (a+k) N) Tp (fun _=>False) Wp u1 #[.slice (some ⟨g,off+a,none⟩) z z] HE3.out HJ.out HT1.out (fun _ h=>h.elim) (fun _ h=>h.elim) HR1.out ⟨g,off,rfl,rfl⟩
   obtain ⟨q,hq⟩:∃q,a+z=q:=⟨_,rfl⟩
   have j1:(a:Int)+(z:Int)=(q:Int):=by omega
   have j2:(a:Int)≤(q:Int):=by omega
   have j3:(q:Int)≤(c:Int):=by omega
   have j4:q - a=z:=by omega
   have j5:(0:Int)≤(q:Int):=by omega
   clear hq
   go_upto_region 4 with (fail)
   refine (wpIn_wide (n:=0)).1 ?_
   gi_wp2
   refine ⟨rfl,hRd.mono ?_⟩
   rintro e W3 (⟨rfl,hJ3,hsz3,hk3⟩ | ⟨rfl,hJx3,-,-⟩)
   ·have HR3:Hid (∀b,R b→W3.heap[b]? =w.heap[b]?):=Lib.hid (fun b hb=>(hk3 b (Or.inl hb)).trans (HR1.out b hb))
    have HJ3:=Lib.hid hJ3
    have xn3:=(World.cell?_of_block (a:=⟨Bn,0,none⟩) (HR3.out Bn hR2)).trans HBn.out
    clear hk3 hJ3 hy hRd xb1 xn1
    gi_wp2
    go_wp2
    go_roundw
    case rel=>exact ⟨a+k,pre++[(a,z)],fun _=>False,W3,by go_num,by omega,Lib.hid (by rw [HE3.out];simp),HJ3,Lib.hid (Turns.refl _ _),HR3⟩
    case measure=>simp [intOf];omega
   ·have HP:pre++[(a,z)] <+:chL k 0 N:=⟨chL k (a+k) N,by rw [HE3.out];simp⟩
    gi_wp2
    go_wp2
    refine bodyPost_ret (results_none rfl _ _ _) rfl ?_
    exact ⟨⟨_,rfl⟩,.inr ⟨_,_,_,HP,hJx3,Turns.refl _ _⟩⟩
  ·have d1:decide ((a:Int)<(N:Int))=false:=by simp;omega
   have HX:Hid (chL k 0 N=pre):=Lib.hid (by rw [HE.out,zf2 han];simp)
   go_wp2
   go_end0
   exact ⟨⟨_,rfl⟩,.inl ⟨_,_,by rw [HX.out];exact HJ.out,HT.out⟩⟩
theorem zeN (p:Option Addr) (n c k:Nat) (w:World) (hk:0<k):Calls Tryz.prog 92 #[.slice p n c,.int .i64 (k:Int)] w fun e w'=>e= .returned (.func (.func 112) #[] #[.pointer (some ⟨w.heap.size,0,none⟩),.pointer (some ⟨w.heap.size+1,0,none⟩)])∧w'=(w.alloc (.cells #[.slice p n c] 28)).alloc (.cells #[.int .i64 (k:Int)] 3):=by
 have hmf:∀(fn:Fn) (first cap:Array Value) (w:World),(Instr.makeFunc fn first cap).run Tryz.prog w= .ok (.func fn first cap) w:=fun _ _ _ _=>rfl
 have d1:decide ((k:Int)<1)=false:=by simp;omega
 go_enter Tryz.func92,Tryz.ntmps92
 go_wp2
 go_ret
 exact ⟨rfl,rfl⟩
set_option maxRecDepth 20000 in
set_option maxHeartbeats 4000000 in
theorem zi0 (Bl Bn:Nat) (p:Option Addr) (N k c:Nat) (w:World) (R:Nat→Prop) (hBl:w.cell? ⟨Bl,0,none⟩=some (.slice p N c)) (hBn:w.cell? ⟨Bn,0,none⟩=some (.int .i64 (k:Int))) (hp:0<N→∃g off,p=some ⟨g,off,none⟩) (hl:N≤1048576) (hk:k≤1073741824) (hk0:0<k) (hlc:N≤c)
  (hRlt:∀b,R b→b<w.heap.size) (hR1:R Bl) (hR2:R Bn):
  Iter Tryz.prog 133 #[.pointer (some ⟨Bl,0,none⟩),.pointer (some ⟨Bn,0,none⟩)] (ElCh p) R (chL k 0 N) w:=by
 intro ll J Jx W hsz hRW hJ0 hY
 refine callsIn_wide.2 ?_
 have HY:=Lib.hid hY
 have HRW:=Lib.hid hRW
 have Hp:=Lib.hid hp
 have HRlt:=Lib.hid hRlt
 have HBl:=Lib.hid hBl
 have HBn:=Lib.hid hBn
 clear hY hRW hp hRlt hBl hBn
 go_enter Tryz.func133,Tryz.ntmps133
 go_wp2
 go_loopw [4] (fun av wr=> ∃(a:Nat) (pre:List (Nat×Nat)) (Tp:Nat→Prop) (Wp:World),av= .int .i64 (a:Int)∧a≤N+k∧Hid (chL k 0 N=pre++chL k a N)∧Hid (J pre Tp Wp)∧Hid (Turns Tp Wp wr)∧Hid (∀b,R b→wr.heap[b]? =w.heap[b]?)) (fun av _=>N+k - (intOf av).toNat)
 case atStart=>exact ⟨0,[],fun _=>False,W,rfl,Nat.zero_le _,Lib.hid rfl,Lib.hid hJ0,Lib.hid (Turns.refl _ _),HRW⟩
 case round=>
  obtain ⟨a,pre,Tp,Wp,rfl,ha,HE,HJ,HT,HR⟩:=hrel
  have xb:=(World.cell?_of_block (a:=⟨Bl,0,none⟩) (HR.out Bl hR1)).trans HBl.out
  have xn:=(World.cell?_of_block (a:=⟨Bn,0,none⟩) (HR.out Bn hR2)).trans HBn.out
  by_cases han:a<N
  ·have d1:decide ((a:Int)<(N:Int))=true:=by simp;omega
   obtain ⟨g,off,rfl⟩:=Hp.out (by omega)
   obtain ⟨z,hz⟩:∃z,min k (N - a)=z:=⟨_,rfl⟩
   have hzi:min (k:Int) ((N - a:Nat):Int)=(z:Int):=by omega
   have hzi2:min (k:Int) ((N:Int) - (a:Int))=(z:Int):=by omega
   have hz0:0<z:=by omega
   have hzN:a+z≤N:=by omega
   have HE3:Hid (chL k 0 N=pre++(a,z)::chL k (a+k) N):=Lib.hid (by rw [HE.out,zen han hk0,hz])
   have i0:(0:Int)≤(a:Int):=by omega
   have i1:(a:Int)≤(N:Int):=by omega
   have i2:(a:Int)≤(c:Int):=by omega
   have hm:(if N - a<k then ((N - a:Nat):Int) else (k:Int))=(z:Int):=by split<;>omega
   have Hm:=Lib.hid hm
   clear hz hm hzi hzi2
   go_upto_region 3 with (fail)
   go_quiet (fail)
   rename_i nq
   rw [Hm.out]
   have HR1:Hid (∀b,R b→(wr.drewN nq).heap[b]? =w.heap[b]?):=HR
   have HT1:Hid (Turns Tp Wp (wr.drewN nq)):=Lib.hid (HT.out.drewN nq)
   generalize wr.drewN nq=u1 at *
   have xb1:=(World.cell?_of_block (a:=⟨Bl,0,none⟩) (HR1.out Bl hR1)).trans HBl.out
   have xn1:=(World.cell?_of_block (a:=⟨Bn,0,none⟩) (HR1.out Bn hR2)).trans HBn.out
   clear xb xn
   obtain ⟨fn,tmps,assign,body,hy,hRd⟩:=HY.out pre (a,z) (chL k (a+k) N) Tp (fun _=>False) Wp u1 #[.slice (some ⟨g,off+a,none⟩) z z] HE3.out HJ.out HT1.out (fun _ h=>h.elim) (fun _ h=>h.elim) HR1.out ⟨g,off,rfl,rfl⟩
   obtain ⟨q,hq⟩:∃q,a+z=q:=⟨_,rfl⟩
   have j1:(a:Int)+(z:Int)=(q:Int):=by omega
   have j2:(a:Int)≤(q:Int):=by omega
   have j3:(q:Int)≤(c:Int):=by omega
   have j4:q - a=z:=by omega
   have j5:(0:Int)≤(q:Int):=by omega
   clear hq
   go_upto_region 4 with (fail)
   refine (wpIn_wide (n:=0)).1 ?_
   gi_wp2
   refine ⟨rfl,hRd.mono ?_⟩
   rintro e W3 (⟨rfl,hJ3,hsz3,hk3⟩ | ⟨rfl,hJx3,-,-⟩)
   ·have HR3:Hid (∀b,R b→W3.heap[b]? =w.heap[b]?):=Lib.hid (fun b hb=>(hk3 b (Or.inl hb)).trans (HR1.out b hb))
    have HJ3:=Lib.hid hJ3
    have xn3:=(World.cell?_of_block (a:=⟨Bn,0,none⟩) (HR3.out Bn hR2)).trans HBn.out
    clear hk3 hJ3 hy hRd xb1 xn1
    gi_wp2
    go_wp2
    go_roundw
    case rel=>exact ⟨a+k,pre++[(a,z)],fun _=>False,W3,by go_num,by omega,Lib.hid (by rw [HE3.out];simp),HJ3,Lib.hid (Turns.refl _ _),HR3⟩
    case measure=>simp [intOf];omega
   ·have HP:pre++[(a,z)] <+:chL k 0 N:=⟨chL k (a+k) N,by rw [HE3.out];simp⟩
    gi_wp2
    go_wp2
    refine bodyPost_ret (results_none rfl _ _ _) rfl ?_
    exact ⟨⟨_,rfl⟩,.inr ⟨_,_,_,HP,hJx3,Turns.refl _ _⟩⟩
  ·have d1:decide ((a:Int)<(N:Int))=false:=by simp;omega
   have HX:Hid (chL k 0 N=pre):=Lib.hid (by rw [HE.out,zf2 han];simp)
   go_wp2
   go_end0
   exact ⟨⟨_,rfl⟩,.inl ⟨_,_,by rw [HX.out];exact HJ.out,HT.out⟩⟩
theorem zjx (p:Option Addr) (n c k:Nat) (w:World) (hk:0<k):Calls Tryz.prog 119 #[.slice p n c,.int .i64 (k:Int)] w fun e w'=>e= .returned (.func (.func 133) #[] #[.pointer (some ⟨w.heap.size,0,none⟩),.pointer (some ⟨w.heap.size+1,0,none⟩)])∧w'=(w.alloc (.cells #[.slice p n c] 24)).alloc (.cells #[.int .i64 (k:Int)] 3):=by
 have hmf:∀(fn:Fn) (first cap:Array Value) (w:World),(Instr.makeFunc fn first cap).run Tryz.prog w= .ok (.func fn first cap) w:=fun _ _ _ _=>rfl
 have d1:decide ((k:Int)<1)=false:=by simp;omega
 go_enter Tryz.func119,Tryz.ntmps119
 go_wp2
 go_ret
 exact ⟨rfl,rfl⟩
end
section
open Go.RowKit
end
section
open Go.RowKit
theorem Wr.new (w:World):Wr (w.alloc (.cells #[.slice none 0 0,.int .i64 0] 169)) (w.heap.size+1) w.heap.size (.slice none 0 0) 0 0:=
 ⟨by omega,⟨_,World.alloc_heap_new w _⟩,World.ownsRow_nil _ _ _ _,by decide⟩
end
section
open Go.RowKit
section
variable {P:Program} {ops:Array Oper} {md:Region.Mode}
def YieldsC (P:Program) (ops:Array Oper) (C:World→Prop) (o:Oper) (v:Value) (a:Act):Prop:=
 (Region.wanted o (yielded ops a.tmps)=true∧∀w,C w→zbJ P w v ((execOp a.eval o).run P w))∨(Region.wanted o (yielded ops a.tmps)=false∧v=undef)
theorem YieldsC.of_same {C:World→Prop} {o:Oper} {v:Value} {a a':Act} (hy:YieldsC P ops C o v a) (he:execOp a'.eval o=execOp a.eval o)
  (hw:Region.wanted o (yielded ops a'.tmps)=Region.wanted o (yielded ops a.tmps)):YieldsC P ops C o v a':=by
 unfold YieldsC at *
 rw [he,hw]
 exact hy
def LqC (P:Program) (ops:Array Oper) (C:World→Prop) (E:Act→Prop):List Oper→Act→Prop
 | [],a=>E a
 | o::rest,a=> ∃v,YieldsC P ops C o v a∧LqC P ops C E rest (a.put o.dst v)
theorem zgm {C:World→Prop} {E:Act→Prop} {a:Act} (h:E a):LqC P ops C E [] a:=h
theorem zpd {C:World→Prop} {E:Act→Prop} {a:Act} {o:Oper} {rest:List Oper}
  (h:∀K:Act→Prop,(∀a,LqC P ops C E rest a→K a)→if Region.wanted o (yielded ops a.tmps) then ∃v,(∀w,C w→zbJ P w v ((execOp a.eval o).run P w))∧K (a.put o.dst v) else K (a.put o.dst undef)):LqC P ops C E (o::rest) a:=by
 have h1:=h _ (fun _ h=>h)
 by_cases hw:Region.wanted o (yielded ops a.tmps)=true
 ·rw [if_pos hw] at h1
  obtain ⟨v,h2,h3⟩:=h1
  exact ⟨v,Or.inl ⟨hw,h2⟩,h3⟩
 ·rw [if_neg hw] at h1
  exact ⟨undef,Or.inr ⟨by simpa using hw,rfl⟩,h1⟩
theorem LqC.pick {C:World→Prop} {E:Act→Prop} (j:Oper) (post:List Oper) (hj:∀cs b,j.op≠.select cs b):∀(pre:List Oper) (a:Act),(∀p∈pre,p.apart ops j=true∧∀cs b,p.op≠.select cs b)→LqC P ops C E (pre++j::post) a→
  ∃v,YieldsC P ops C j v a∧LqC P ops C E (pre++post) (a.put j.dst v)
 | [],_,_,h=>h
 | i::pre,a,hap,h=>by
  obtain ⟨vi,hyi,h'⟩:=h
  obtain ⟨v,hy,hL⟩:=LqC.pick j post hj pre (a.put i.dst vi) (fun p hp=>hap p (by simp [hp])) h'
  obtain ⟨hi,hsi⟩:=hap i (by simp)
  obtain ⟨h1,h2,h3⟩:=Oper.apart_spec hi
  refine ⟨v,hy.of_same (execOp_put j hj a i.dst vi h1).symm (wanted_put j a i.dst vi h1).symm,vi,hyi.of_same (execOp_put i hsi a j.dst v h3) (wanted_put i a j.dst v h3),?_⟩
  rw [←Act.put_comm a vi v h2]
  exact hL
def zaT (K:World→Prop):Prop:= ∀w w',K w→Below w.heap.size w w'→K w'
def zfH (P:Program) (C:World→Prop) (Po:Value→World→Prop) (w:World):Result Next→Prop
 | .ok (.value v) w'=>C w'∧Po v w'
 | .ok .skip w'=>C w'∧Po undef w'
 | .ok (.enter f args) w'=>w'=w∧Calls P f args w (fun e w''=> ∃v,e= .returned v∧C w''∧Po v w'')
 | _=>False
attribute [go_sem] zfH
def ChC (P:Program) (C:World→Prop) (E:(World→Prop)→Act→Prop):List Oper→(World→Prop)→Act→Prop
 | [],Kn,a=>E Kn a
 | o::rest,Kn,a=>o.guard=none∧∃Po:Value→World→Prop,(∀v,zaT (Po v))∧(∀w,C w→Kn w→zfH P C Po w ((execOp a.eval o).run P w))∧∀v,ChC P C E rest (Po v) (a.put o.dst v)
theorem ChC.pick {C:World→Prop} {E:(World→Prop)→Act→Prop} (j:Oper) (post:List Oper) (hj:∀cs b,j.op≠.select cs b):∀(pre:List Oper) (Kn:World→Prop) (a:Act),(∀p∈pre,p.apart ops j=true∧∀cs b,p.op≠.select cs b)→
  LqC P ops C (fun a=>ChC P C E (j::post) Kn a) pre a→∃Po:Value→World→Prop,j.guard=none∧(∀v,zaT (Po v))∧(∀w,C w→Kn w→zfH P C Po w ((execOp a.eval j).run P w))∧∀v,LqC P ops C (fun a=>ChC P C E post (Po v) a) pre (a.put j.dst v)
 | [],_,_,_,h=>by
  obtain ⟨h0,Po,h1,h2,h3⟩:=h
  exact ⟨Po,h0,h1,h2,h3⟩
 | i::pre,Kn,a,hap,h=>by
  obtain ⟨vi,hyi,h'⟩:=h
  obtain ⟨Po,g0,g1,g2,g3⟩:=ChC.pick j post hj pre Kn (a.put i.dst vi) (fun p hp=>hap p (by simp [hp])) h'
  obtain ⟨hi,hsi⟩:=hap i (by simp)
  obtain ⟨h1,h2,h3⟩:=Oper.apart_spec hi
  refine ⟨Po,g0,g1,fun w hC hK=>?_,fun v=>⟨vi,hyi.of_same (execOp_put i hsi a j.dst v h3) (wanted_put i a j.dst v h3),?_⟩⟩
  ·have:=g2 w hC hK
   rwa [execOp_put j hj a i.dst vi h1] at this
  ·rw [←Act.put_comm a vi v h2]
   exact g3 v
end
end
section
open Go.RowKit
section
variable {P:Program} {ops:Array Oper} {md:Region.Mode}
def zhw (md:Region.Mode) (ops:Array Oper) (N M:Nat):Bool:=(List.range M).all fun j=>(List.range j).all fun i=>decide (i<N) || Region.waitsFor md ops j i
theorem zpW {N M:Nat} (h:zhw md ops N M=true) {i j:Nat} (hi:N≤i) (hij:i<j) (hj:j<M):Region.waitsFor md ops j i=true:=by
 have:=List.all_eq_true.1 (List.all_eq_true.1 h j (List.mem_range.2 hj)) i (List.mem_range.2 hij)
 simpa [show ¬i<N by omega] using this
structure StandT (ops:Array Oper) (N M:Nat) (listed:Array Bool) (pq ps:List (Nat×Oper)):Prop where
 size:listed.size=ops.size
 all:∀i,i<M→listed.getD i true=false→(∃p∈pq,p.1=i)∨(∃p∈ps,p.1=i)
 q:∀p∈pq,p.1<N∧p.1<M∧listed.getD p.1 true=false∧ops[p.1]? =some p.2
 s:∀p∈ps,N≤p.1∧p.1<M∧listed.getD p.1 true=false∧ops[p.1]? =some p.2
 sq:pq.Pairwise (fun x y=>x.1<y.1)
 ss:ps.Pairwise (fun x y=>x.1<y.1)
 tail:∀t,M≤t→t<ops.size→listed.getD t true=false
 le:M<ops.size
theorem StandT.listed_of {N M:Nat} {listed:Array Bool} {pq ps:List (Nat×Oper)} (h:StandT ops N M listed pq ps) {k:Nat} (hk:k<ops.size) {i:Nat} (hl:(listed.setIfInBounds k true).getD i true=false):i≠k∧listed.getD i true=false:=by
 have hks:k<listed.size:=by rw [h.size];exact hk
 by_cases e:k=i
 ·subst e;rw [zct hks] at hl;cases hl
 ·rw [getD_set_ne true e] at hl;exact ⟨Ne.symm e,hl⟩
theorem StandT.quiet {N M:Nat} {listed:Array Bool} {pre post ps:List (Nat×Oper)} {p:Nat×Oper} (h:StandT ops N M listed (pre++p::post) ps):StandT ops N M (listed.setIfInBounds p.1 true) (pre++post) ps:=by
 obtain ⟨hpN,hps,hpl,hpo⟩:=h.q p (by simp)
 obtain ⟨m1,m2⟩:=zcf h.sq
 have hother:∀r∈pre++post,r.1≠p.1:=fun r hr e=>by
  have hsq:=h.sq
  rw [List.pairwise_append] at hsq
  obtain ⟨_,s2,s3⟩:=hsq
  rw [List.pairwise_cons] at s2
  rcases List.mem_append.1 hr with hr | hr
  ·have:=m1 r hr;omega
  ·have:=s2.1 r hr;omega
 refine ⟨by simp [h.size],fun i hi hl=>?_,fun r hr=>?_,fun r hr=>?_,m2,h.ss,fun t ht hs=>by rw [getD_set_ne true (by omega)];exact h.tail t ht hs,h.le⟩
 ·obtain ⟨e,hl'⟩:=h.listed_of (Nat.lt_trans hps h.le) hl
  rcases h.all i hi hl' with ⟨r,hr,hri⟩ | ⟨r,hr,hri⟩
  ·rcases zbV hr with rfl | hr
   ·exact absurd hri.symm e
   ·exact .inl ⟨r,hr,hri⟩
  ·exact .inr ⟨r,hr,hri⟩
 ·obtain ⟨r1,r2,r3,r4⟩:=h.q r (zde hr)
  exact ⟨r1,r2,by rw [getD_set_ne true (Ne.symm (hother r hr))];exact r3,r4⟩
 ·obtain ⟨r1,r2,r3,r4⟩:=h.s r hr
  exact ⟨r1,r2,by rw [getD_set_ne true (by omega)];exact r3,r4⟩
theorem StandT.special {N M:Nat} {listed:Array Bool} {post pq:List (Nat×Oper)} {p:Nat×Oper} (h:StandT ops N M listed pq (p::post)):StandT ops N M (listed.setIfInBounds p.1 true) pq post:=by
 obtain ⟨hpN,hps,hpl,hpo⟩:=h.s p (by simp)
 have m1:=(List.pairwise_cons.1 h.ss).1
 refine ⟨by simp [h.size],fun i hi hl=>?_,fun r hr=>?_,fun r hr=>?_,h.sq,(List.pairwise_cons.1 h.ss).2,fun t ht hs=>by rw [getD_set_ne true (by omega)];exact h.tail t ht hs,h.le⟩
 ·obtain ⟨e,hl'⟩:=h.listed_of (Nat.lt_trans hps h.le) hl
  rcases h.all i hi hl' with ⟨r,hr,hri⟩ | ⟨r,hr,hri⟩
  ·exact .inl ⟨r,hr,hri⟩
  ·rcases List.mem_cons.1 hr with rfl | hr
   ·exact absurd hri.symm e
   ·exact .inr ⟨r,hr,hri⟩
 ·obtain ⟨r1,r2,r3,r4⟩:=h.q r hr
  exact ⟨r1,r2,by rw [getD_set_ne true (by omega)];exact r3,r4⟩
 ·obtain ⟨r1,r2,r3,r4⟩:=h.s r (by simp [hr])
  have:=m1 r hr
  exact ⟨r1,r2,by rw [getD_set_ne true (by omega)];exact r3,r4⟩
theorem StandT.ready {N M:Nat} {listed:Array Bool} {pq ps:List (Nat×Oper)} (S:Shape md ops M) (h:StandT ops N M listed pq ps) (hne:pq≠[]∨ps≠[]):Region.ready md ops listed≠[]:=by
  have key:∀p:Nat×Oper,p.1<M→listed.getD p.1 true=false→ops[p.1]? =some p.2→(∀i,i<p.1→listed.getD i true=true)→Region.ready md ops listed≠[]:=fun p h1 h2 h3 h4 e=>by
    have:p.1∈Region.ready md ops listed:=mem_ready.2 ⟨h2,p.2,h3,fun e' he hb=>by
      have hle:=h.le
      have hlt:=S.back p.1 p.2 h1 h3 e' he hb
      have:=h4 _ hlt
      first
        | exact this
        | (rw [getD_any (by rw [h.size];omega)];exact this)
        | (have hs:e'.on<listed.size:=by (rw [h.size];omega)
           simpa [hs] using this)⟩
    rw [e] at this
    cases this
  have low:∀k,(∀p∈pq,k≤p.1)→(∀p∈ps,k≤p.1)→k≤M→∀i,i<k→listed.getD i true=true:=fun k h1 h2 hk i hi=>by
    cases hl:listed.getD i true
    · rcases h.all i (by omega) hl with ⟨r,hr,e⟩ | ⟨r,hr,e⟩
      · have:=h1 r hr;omega
      · have:=h2 r hr;omega
    · rfl
  cases pq with
  | cons p rest=>
    obtain ⟨q1,q2,q3,q4⟩:=h.q p (by simp)
    refine key p q2 q3 q4 (low p.1 (fun r hr=>?_) (fun r hr=>?_) (by omega))
    · rcases List.mem_cons.1 hr with rfl | hr
      · exact Nat.le_refl _
      · exact Nat.le_of_lt ((List.pairwise_cons.1 h.sq).1 r hr)
    · have:=(h.s r hr).1;omega
  | nil=>
    cases ps with
    | cons p rest=>
      obtain ⟨q1,q2,q3,q4⟩:=h.s p (by simp)
      refine key p q2 q3 q4 (low p.1 (fun r hr=>by cases hr) (fun r hr=>?_) (by omega))
      rcases List.mem_cons.1 hr with rfl | hr
      · exact Nat.le_refl _
      · exact Nat.le_of_lt ((List.pairwise_cons.1 h.ss).1 r hr)
    | nil=>rcases hne with h | h<;>exact absurd rfl h
theorem StandT.done {N M:Nat} {listed:Array Bool} (h:StandT ops N M listed [] []):listed=zaD ops.size M:=by
 have hle:=h.le
 apply Array.ext
 ·rw [h.size];simp [zaD];omega
 ·intro i h1 h2
  rw [h.size] at h1
  by_cases hi:i<M
  ·have:listed.getD i true=true:=by
    cases hl:listed.getD i true
    ·rcases h.all i hi hl with ⟨r,hr,_⟩ | ⟨r,hr,_⟩<;>cases hr
    ·rfl
   have hs:i<listed.size:=by rw [h.size];exact h1
   have e1:listed[i]=true:=by simpa [hs] using this
   rw [e1]
   simp [zaD,hi]
  ·have:=h.tail i (by omega) h1
   have hs:i<listed.size:=by rw [h.size];exact h1
   have e1:listed[i]=false:=by simpa [hs] using this
   rw [e1]
   simp [zaD,List.getElem_append,hi]
theorem zkR {Q:Exit→Act→World→Prop} {C:World→Prop} {N M:Nat} (tl:List Oper) (S:Shape md ops M) (hsp:zhw md ops N M=true) (htl:∀j,tl[j]? =ops[M+j]?) (hseq:Region.seqB md ops tl.length M (zaD ops.size M)=true) (hC:zaT C):
  ∀(f:Nat) (listed:Array Bool) (a:Act) (w:World) (Kn:World→Prop) (pq ps:List (Nat×Oper)),pq.length+ps.length=f→HeadInv md ops M listed→StandT ops N M listed pq ps→C w→zaT Kn→Kn w→
   LqC P ops C (fun a=>ChC P C (fun Kn a=> ∀w,C w→Kn w→wpList P ops Q tl a w) (ps.map Prod.snd) Kn a) (pq.map Prod.snd) a→wpAny P md ops Q (f+tl.length) listed a w:=by
 intro f
 induction f with
 | zero=>
  intro listed a w Kn pq ps hf inv st hw hst hk hL
  have e1:pq=[]:=List.length_eq_zero_iff.1 (by omega)
  have e2:ps=[]:=List.length_eq_zero_iff.1 (by omega)
  subst e1 e2
  rw [Nat.zero_add,st.done]
  exact wpAny_of_seq tl M _ a w htl hseq (hL w hw hk)
 | succ f ih=>
  intro listed a w Kn pq ps hf inv st hw hst hk hL
  rw [show f+1+tl.length=(f+tl.length)+1 by omega]
  refine ⟨fun h0=>absurd h0 (st.ready S (by
   cases pq with
   | cons p _=>exact .inl (by simp)
   | nil=>
    cases ps with
    | cons p _=>exact .inr (by simp)
    | nil=>simp at hf)),fun i hi=>?_⟩
  obtain ⟨hil,oi,hoi,hall⟩:=mem_ready.1 hi
  have hiN:i<M:=by
   rcases Nat.lt_or_ge i M with h | h
   ·exact h
   ·have key:∀k,k<M→listed.getD k true=false→i<M:=fun k hk1 hk2=>absurd hi (tail_waits S.sink S.chain S.lt inv _ k rfl hk1 hk2 i h)
    cases pq with
    | cons p _=>exact key p.1 (st.q p (by simp)).2.1 (st.q p (by simp)).2.2.1
    | nil=>
     cases ps with
     | cons p _=>exact key p.1 (st.s p (by simp)).2.1 (st.s p (by simp)).2.2.1
     | nil=>simp at hf
  have hap:∀r:Nat×Oper,r.1<i→listed.getD r.1 true=false→ops[r.1]? =some r.2→r.1<N∧r.2.apart ops oi=true:=fun r hr hl ho=>by
   refine ⟨?_,?_⟩
   ·rcases Nat.lt_or_ge r.1 N with h | h
    ·exact h
    ·have:=zpW hsp h hr hiN
     rw [zeh hi hl] at this;cases this
   ·rcases S.pair r.1 i r.2 oi hr hiN ho hoi with h | h
    ·rw [zeh hi hl] at h;cases h
    ·exact h
  unfold wpOp
  simp only [hoi]
  rcases st.all i hiN hil with ⟨p,hp,rfl⟩ | ⟨p,hp,rfl⟩
  ·obtain ⟨pre,post,rfl⟩:=zdm hp
   obtain ⟨_,_,_,hpo⟩:=st.q p hp
   have heq:oi=p.2:=Option.some.inj (hoi.symm.trans hpo)
   subst heq
   have m1:=(zcf st.sq).1
   rw [List.map_append,List.map_cons] at hL
   obtain ⟨v,hy,hR⟩:=LqC.pick p.2 (post.map Prod.snd) (fun cs b=>S.sel p.1 p.2 cs b hoi) (pre.map Prod.snd) a (fun o ho=>by
    obtain ⟨r,hr,rfl⟩:=List.mem_map.1 ho
    obtain ⟨_,_,r2,r3⟩:=st.q r (by simp [hr])
    exact ⟨(hap r (m1 r hr) r2 r3).2,fun cs b=>S.sel r.1 r.2 cs b r3⟩) hL
   rw [←List.map_append] at hR
   have hlen:(pre++post).length+ps.length=f:=by simp at hf ⊢;omega
   rcases hy with ⟨hwt,hm⟩ | ⟨hwt,rfl⟩
   ·rw [if_pos hwt]
    refine Or.inl ?_
    have h3:=hm w hw
    unfold Oper.wp
    generalize (execOp a.eval p.2).run P w=res at *
    cases res with
    | ok nx w'=>
     cases nx<;>simp only [zbJ] at h3<;>simp only [Oper.upon]
     case value u=>
      obtain ⟨e1,e2⟩:=h3
      rw [e1,e2]
      exact ih _ _ _ _ _ _ hlen (inv.set hi hiN) st.quiet hw hst hk hR
     case skip=>
      obtain ⟨e1,e2⟩:=h3
      rw [e1,←e2]
      exact ih _ _ _ _ _ _ hlen (inv.set hi hiN) st.quiet hw hst hk hR
     case enter g args=>
      obtain ⟨e1,hc⟩:=h3
      rw [e1]
      exact Calls.mono hc fun e w'' ⟨he,hb⟩=>by subst he;exact ih _ _ _ _ _ _ hlen (inv.set hi hiN) st.quiet (hC _ _ hw hb) hst (hst _ _ hk hb) hR
    | halt x w'=>simp only [zbJ] at h3
   ·rw [if_neg (by rw [hwt];exact Bool.false_ne_true)]
    exact ih _ _ _ _ _ _ hlen (inv.set hi hiN) st.quiet hw hst hk hR
  ·obtain ⟨pre,post,rfl⟩:=zdm hp
   obtain ⟨_,_,_,hpo⟩:=st.s p hp
   have heq:oi=p.2:=Option.some.inj (hoi.symm.trans hpo)
   subst heq
   have hpre:pre=[]:=by
    cases pre with
    | nil=>rfl
    | cons r rest=>
     obtain ⟨r1,r2,r3,r4⟩:=st.s r (by simp)
     have h1:r.1<p.1:=(List.pairwise_cons.1 st.ss).1 p (by simp)
     have:=(hap r h1 r3 r4).1
     omega
   subst hpre
   rw [List.nil_append] at hL st hf
   rw [List.map_cons] at hL
   obtain ⟨Po,g0,g1,g2,g3⟩:=ChC.pick p.2 (post.map Prod.snd) (fun cs b=>S.sel p.1 p.2 cs b hoi) (pq.map Prod.snd) Kn a (fun o ho=>by
    obtain ⟨r,hr,rfl⟩:=List.mem_map.1 ho
    obtain ⟨r1,_,r2,r3⟩:=st.q r hr
    have:=(st.s p (by simp)).1
    exact ⟨(hap r (by omega) r2 r3).2,fun cs b=>S.sel r.1 r.2 cs b r3⟩) hL
   have hlen:pq.length+post.length=f:=by simp at hf ⊢;omega
   have hwt:Region.wanted p.2 (yielded ops a.tmps)=true:=by simp [Region.wanted,g0]
   rw [if_pos hwt]
   refine Or.inl ?_
   have h3:=g2 w hw hk
   unfold Oper.wp
   generalize (execOp a.eval p.2).run P w=res at *
   cases res with
   | ok nx w'=>
    cases nx<;>simp only [zfH] at h3<;>simp only [Oper.upon]
    case value u=>exact ih _ _ _ _ _ _ hlen (inv.set hi hiN) st.special h3.1 (g1 u) h3.2 (g3 u)
    case skip=>exact ih _ _ _ _ _ _ hlen (inv.set hi hiN) st.special h3.1 (g1 _) h3.2 (g3 _)
    case enter g args=>
     obtain ⟨e1,hc⟩:=h3
     rw [e1]
     exact Calls.mono hc fun e w'' ⟨v,he,hc,hp⟩=>by subst he;exact ih _ _ _ _ _ _ hlen (inv.set hi hiN) st.special hc (g1 v) hp (g3 v)
   | halt x w'=>simp only [zfH] at h3
end
section
variable {P:Program}
theorem zeI {Q:Exit→Act→World→Prop} {a:Act} {w:World} {l:List Oper} (n m:Nat) (C K0:World→Prop) (hn:n≤m) (hS:zcs .any l.toArray m=true) (hsp:zhw .any l.toArray n m=true) (hseq:Region.seqB .any l.toArray (l.drop m).length m (zaD l.toArray.size m)=true) (hC:zaT C) (hw:C w) (hK:zaT K0) (hk:K0 w)
    (h:LqC P l.toArray C (fun a=>ChC P C (fun Kn a=> ∀w,C w→Kn w→wpList P l.toArray Q (l.drop m) a w) ((l.take m).drop n) K0 a) (l.take n) a):wpAny P .any l.toArray Q l.toArray.size (Array.replicate l.toArray.size false) a { w with drawn:=w.drawn+1}:=by
  have S:=zfc hS
  have hle:m<l.length:=by simpa using S.lt
  have htake:(l.take n).length=n:=by simp;omega
  have hdrop:((l.take m).drop n).length=m - n:=by simp;omega
  have H:=zkR (P:=P) (Q:=Q) (md:= .any) (l.drop m) S hsp (fun j=>by simp [List.getElem?_drop]) hseq hC m (Array.replicate l.toArray.size false) a { w with drawn:=w.drawn+1} K0 (za4 0 (l.take n)) (za4 n ((l.take m).drop n)) (by rw [zb2,zb2,htake,hdrop];omega)
    ⟨by simp,fun j oj _ hl=>(by rw [getD_replicate_false] at hl;cases hl),fun t _ ht=>getD_in (by simpa using ht) (getD_replicate_false _ _)⟩
    { size:=by simp
      le:=S.lt
      tail:=fun t _ ht=>getD_in (by simpa using ht) (getD_replicate_false _ _)
      all:=fun i hi _=>by
        by_cases e:i<n
        · exact Or.inl (zb1 _ 0 i (by omega) (by rw [htake];omega))
        · exact Or.inr (zb1 _ n i (by omega) (by rw [hdrop];omega))
      q:=fun p hp=>by
        obtain ⟨p1,p2,p3⟩:=zbh _ 0 p hp
        rw [htake] at p2
        refine ⟨by omega,by omega,getD_in (by simp;omega) (getD_replicate_false _ _),?_⟩
        rw [Nat.sub_zero,List.getElem?_take,if_pos (by omega)] at p3
        simpa using p3
      s:=fun p hp=>by
        obtain ⟨p1,p2,p3⟩:=zbh _ n p hp
        rw [hdrop] at p2
        refine ⟨p1,by omega,getD_in (by simp;omega) (getD_replicate_false _ _),?_⟩
        rw [List.getElem?_drop,show n+(p.1 - n)=p.1 by omega,List.getElem?_take,if_pos (by omega)] at p3
        simpa using p3
      sq:=zbo _ _
      ss:=zbo _ _}
    (hC _ _ hw ⟨rfl,rfl,rfl,Nat.le_refl _,fun _ _=>rfl⟩) hK (hK _ _ hk ⟨rfl,rfl,rfl,Nat.le_refl _,fun _ _=>rfl⟩)
    (by
      rw [zb7,zb7]
      exact h)
  have hfuel:m+(l.drop m).length=l.toArray.size:=by simp;omega
  rw [hfuel] at H
  exact H
theorem zbu {L id:Nat} {Q:Exit→Act→World→Prop} {a:Act} {w:World} {l:List Oper} (n m:Nat) (C K0:World→Prop) (hm:P.follows .mixedOrders=true) (hn:decide (n≤m)=true) (hS:zcs .any l.toArray m=true) (hsp:zhw .any l.toArray n m=true) (hseq:Region.seqB .any l.toArray (l.drop m).length m (zaD l.toArray.size m)=true) (hd:zeG l=true) (hQ:¬LetsOut Q) (hC:zaT C) (hw:C w) (hK:zaT K0) (hk:K0 w)
  (h:LqC P l.toArray C (fun a=>ChC P C (fun Kn a=> ∀w,C w→Kn w→wpList P l.toArray Q (l.drop m) a w) ((l.take m).drop n) K0 a) (l.take n) a):(Code.region id l.toArray true).wpIn (Fence.wide.inRound L) 0 P Q a w:=by
 refine wpIn_region_any hm (ziu (fun i o hi c hc=>?_) hQ _ _ _ _ (zeI n m C K0 (of_decide_eq_true hn) hS hsp hseq hC hw hK hk h))
 unfold zeG at hd
 have:=List.all_eq_true.1 hd o (by
  rw [List.getElem?_toArray] at hi
  exact List.mem_of_getElem? hi)
 rw [hc] at this
 cases this
end
end
end Go.Proofs.YtedakhgaghfogaaGreat
