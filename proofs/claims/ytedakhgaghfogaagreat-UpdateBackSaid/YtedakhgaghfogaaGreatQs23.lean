/- Several texts in one, each with its own head. -/
import Derived.Test.YtedakhgaghfogaaGreatQs19
import Derived.Test.YtedakhgaghfogaaGreatQs8
import Derived.Test.YtedakhgaghfogaaGreatQs15
import Derived.Test.YtedakhgaghfogaaGreatQs22
import Derived.Test.YtedakhgaghfogaaGreatQs10
namespace Go.Proofs.YtedakhgaghfogaaGreat
section
open Go.RowKit Go.Maps
def trN (l:List Nat) (least:Nat):Nat→Nat
 | 0=>0
 | m+1=>if least<m+1∧lq l m=0 then trN l least m else m+1
theorem zcq (l:List Nat) (least:Nat):∀m,trN l least m≤m
 | 0=>Nat.le_refl _
 | m+1=>by
  have:=zcq l least m
  rw [trN]
  split<;>omega
theorem zbA (l:List Nat) (least:Nat):∀m,least≤m→least≤trN l least m
 | 0,h=>h
 | m+1,h=>by
  rw [trN]
  split
  ·rename_i h1
   exact zbA l least m (by omega)
  ·exact h
theorem zfi (l:List Nat) (least:Nat):∀m i,trN l least m≤i→i<m→lq l i=0
 | 0,_,_,h=>by omega
 | m+1,i,h,hi=>by
  rw [trN] at h
  split at h
  ·rename_i h1
   by_cases e:i=m
   ·rw [e];exact h1.2
   ·exact zfi l least m i h (by omega)
  ·omega
set_option maxRecDepth 20000 in
set_option maxHeartbeats 4000000 in
theorem zc2 (g off c least:Nat) (l:List Nat) (w:World) (hlc:l.length≤c) (hl:l.length≤1048576) (hle:least≤1048576) (hc:∀i,i<l.length→w.cell? ⟨g,off+i,none⟩=some (.int .u8 ((lq l i:Nat):Int))):
  Calls Tryz.prog 181 #[.slice (some ⟨g,off,none⟩) l.length c,.int .i64 (least:Int)] w fun e w'=>e= .returned (.slice (some ⟨g,off,none⟩) (trN l least l.length) c)∧w'=w:=by
 have Hc:=Lib.hid hc
 obtain ⟨n,hn⟩:∃n,l.length=n:=⟨_,rfl⟩
 rw [hn] at hlc hl Hc ⊢
 obtain ⟨T,hT⟩:∃T,trN l least n=T:=⟨_,rfl⟩
 have HT:=Lib.hid hT
 rw [hT]
 clear hc hn hT
 go_enter Tryz.func181,Tryz.ntmps181
 go_wp2
 go_loopw [0] (fun sv wr=> ∃m:Nat,sv= .slice (some ⟨g,off,none⟩) m c∧m≤n∧Hid (trN l least m=T)∧wr=w) (fun sv _=>match sv with | .slice _ m _=>m | _=>0)
 case atStart=>exact ⟨n,rfl,Nat.le_refl _,HT,rfl⟩
 case round=>
  obtain ⟨m,rfl,hm,HM,rfl⟩:=hrel
  have hM:=HM.out
  by_cases hlm:least<m
  ·have d1:decide ((m:Int)>(least:Int))=true:=by simp;omega
   obtain ⟨j,rfl⟩:∃j,m=j+1:=⟨m - 1,by omega⟩
   have c0:=Hc.out j (by omega)
   have hw1:IntKind.i64.wrap (((j+1:Nat):Int) - 1)=(j:Int):=by rw [IntWalk.i64_in _ (by omega)];omega
   have hw2:((j+1:Nat):Int) - 1=(j:Int):=by omega
   have i0:(0:Int)≤(j:Int):=by omega
   have i1:(j:Int)<((j+1:Nat):Int):=by omega
   have hsl:=zg8 (some ⟨g,off,none⟩) (j+1) c j (by omega)
   obtain ⟨x,hx⟩:∃x,lq l j=x:=⟨_,rfl⟩
   rw [hx] at c0
   by_cases hx0:x=0
   ·have d2:((x:Int)==0)=true:=by simp;omega
    have HM2:Hid (trN l least j=T):=Lib.hid (by
     rw [trN,if_pos ⟨hlm,by rw [hx];exact hx0⟩] at hM
     exact hM)
    clear hM hx hx0
    go_wp2
    go_roundw
    case rel=>exact ⟨j,rfl,by omega,HM2,trivial⟩
    case measure=>simp
   ·have d2:((x:Int)==0)=false:=by simp;omega
    have e:Hid (j+1=T):=Lib.hid (by
     rw [trN,if_neg (fun h=>hx0 (by rw [←hx];exact h.2))] at hM
     exact hM)
    clear hM hx hx0
    go_wp2
    go_ret
    exact ⟨by rw [←e.out];rfl,rfl⟩
  ·have d1:decide ((m:Int)>(least:Int))=false:=by simp;omega
   have e:Hid (m=T):=Lib.hid (by
    cases m with
    | zero=>exact hM
    | succ j=>
     rw [trN,if_neg (fun h=>hlm h.1)] at hM
     exact hM)
   clear hM
   go_wp2
   go_ret
   exact ⟨by rw [←e.out];rfl,rfl⟩
theorem zjq {fn:Func} {p:Tmp} {tmps:Array Value} {w:World} {B:Nat} {p1 p2:Option Addr} {n1 n2 c1 c2:Nat} (h:fn.results=#[.cell p 234]) (hp:tmps.getD p undef= .pointer (some ⟨B,0,none⟩)) (hl:w.heap[B]? =some (.cells #[.slice p1 n1 c1,.slice p2 n2 c2] 234)):(results fn tmps).run Tryz.prog w= .ok (.agg #[.slice p1 n1 c1,.slice p2 n2 c2]) w:=by
 have x0:w.cell? ⟨B,0,none⟩=some (.slice p1 n1 c1):=zaa hl rfl
 have x1:w.cell? ⟨B,1,none⟩=some (.slice p2 n2 c2):=zaa hl rfl
 have hp':tmps[p]?.getD undef= .pointer (some ⟨B,0,none⟩):=by simpa using hp
 simp [results,h,hp',go_sem,x0,x1]
set_option maxRecDepth 20000 in
set_option maxHeartbeats 4000000 in
theorem zji (ls:List Nat) (v:Value) (w:World) (hv:Row enc8 1 w v ls) (hc:chk ls=0):
  Calls Tryz.prog 179 #[v] w fun e w'=> ∃v',e= .returned (.agg #[v,v'])∧w'.ownsRow w.heap.size 97 1 v' ls.length (cRow (fun i=>if 0<lq ls i then cd (lq ls) ls.length i else 0) ls.length)∧Below w.heap.size w w':=by
 have hb0:=Below.al1 w (.cells #[.slice none 0 0,.slice none 0 0] 234)
 have Hcall:=Lib.hid (zoX ls v _ (hv.below hb0) hc)
 obtain ⟨p,c,rfl,-,-,-⟩:=hv
 go_enter Tryz.func179,Tryz.ntmps179
 have hz0:=World.alloc_heap_new w (.cells #[.slice none 0 0,.slice none 0 0] 234)
 have hs1:w.heap.size<(w.alloc (.cells #[.slice none 0 0,.slice none 0 0] 234)).heap.size:=by rw [World.size_alloc];omega
 go_upto_region 1 with (fail)
 generalize w.alloc (.cells #[.slice none 0 0,.slice none 0 0] 234)=w1 at *
 go_wp2_with fail
 refine Calls.mono Hcall.out ?_
 rintro _ w2 ⟨v2,rfl,ho2,hb2⟩
 have hz2:=(hb2.block _ hs1).trans hz0
 obtain ⟨p2,c2,rfl⟩:=zac ho2
 have HB:=Lib.hid (Below.thn hb0 hb2)
 have x0:w2.cell? ⟨w.heap.size,0,none⟩=some (.slice none 0 0):=zaa hz2 rfl
 have x1:w2.cell? ⟨w.heap.size,1,none⟩=some (.slice none 0 0):=zaa hz2 rfl
 have y0:w2.frozen? ⟨w.heap.size,0,none⟩=false:=by simp [World.frozen?,hz2]
 have y1:w2.frozen? ⟨w.heap.size,1,none⟩=false:=by simp [World.frozen?,hz2]
 have HZ:=Lib.hid (zbS (.slice p2 ls.length c2) (zcN (.slice p ls.length c) hz2))
 have HO:Hid (((w2.setCell ⟨w.heap.size,0,none⟩ (.slice p ls.length c)).setCell ⟨w.heap.size,1,none⟩ (.slice p2 ls.length c2)).ownsRow w.heap.size 97 1 (.slice p2 ls.length c2) ls.length (cRow (fun i=>if 0<lq ls i then cd (lq ls) ls.length i else 0) ls.length)):=Lib.hid (by
  have h1:=((Turns.refl (fun b=>b=w.heap.size) w2).set (p:=⟨w.heap.size,0,none⟩) rfl (.slice p ls.length c)).set (p:=⟨w.heap.size,1,none⟩) rfl (.slice p2 ls.length c2)
  have h2:=h1.owns ho2 (fun k hk e=>by have:=(ho2.lt k hk).1;omega)
  exact ⟨h2.1,h2.2.imp id fun ⟨g,cap,cur,a,b,d⟩=>⟨g,cap,cur,a,by omega,d⟩⟩)
 have HBS:=Lib.hid ((HB.out.setCell (p:=⟨w.heap.size,0,none⟩) (Nat.le_refl _) (.slice p ls.length c)).setCell (p:=⟨w.heap.size,1,none⟩) (Nat.le_refl _) (.slice p2 ls.length c2))
 clear ho2 hb2 hz2 hz0 hb0
 go_wp2
 exact bodyPost_ret (v:= .agg #[.slice p ls.length c,.slice p2 ls.length c2]) (zjq Tryz.results179 rfl HZ.out) rfl ⟨_,rfl,HO.out,HBS.out⟩
end
section
open Go.RowKit Go.Maps
set_option maxHeartbeats 1000000 in
theorem zb8 (x n:Nat) (hx:x<256) (h1:1≤n) (hn:n≤1000) (w:World):
  Calls Tryz.prog 178 #[.int .u8 (x:Int),.int .i64 (n:Int)] w fun e w'=> ∃v,e= .returned v∧w'.ownsRow w.heap.size 5 1 v n (List.replicate n (u8v x))∧Below w.heap.size w w':=by
 go_enter Tryz.func178,Tryz.ntmps178
 go_wp2_with fail
 refine Calls.mono (ziK w.heap.size x n hx h1 hn _ (by simp [go_sem])) ?_
 rintro e w1 ⟨v,rfl,ho,hb⟩
 have Hb:=Lib.hid (Below.thn (Below.al1 w _) hb)
 have Ho:=Lib.hid (za3 ho (Below.al1 w (.cells #[.int .u8 (x:Int)] 5)).size)
 clear ho hb
 go_wp2
 go_ret
 exact ⟨_,rfl,Ho.out,Hb.out⟩
structure Cdr (w:World) (base:Nat) (cv:Value) (ls:List Nat) (ga ca gc cc:Nat):Prop where
 e:cv= .agg #[.slice (some ⟨ga,0,none⟩) ls.length ca,.slice (some ⟨gc,0,none⟩) ls.length cc]
 a:base≤ga
 c:base≤gc
 ka:ls.length≤ca
 km:ca≤maxLen
 oa:∃cur t,w.heap[ga]? =some (.cells cur t)∧∀i,i<ls.length→cur[i]? =some (.int .u8 ((lq ls i:Nat):Int))
 oc:∃cur t,w.heap[gc]? =some (.cells cur t)∧∀i,i<ls.length→0<lq ls i→cur[i]? =some (.int .u16 ((cd (lq ls) ls.length i:Nat):Int))
theorem Cdr.turns {T:Nat→Prop} {w w':World} {base:Nat} {cv:Value} {ls:List Nat} {ga ca gc cc:Nat} (h:Cdr w base cv ls ga ca gc cc) (ht:Turns T w w') (na:¬T ga) (nc:¬T gc):Cdr w' base cv ls ga ca gc cc:=by
 obtain ⟨cur,t,h1,h2⟩:=h.oa
 obtain ⟨cur',t',h3,h4⟩:=h.oc
 exact ⟨h.e,h.a,h.c,h.ka,h.km,⟨cur,t,(ht.block _ (zab h1) na).trans h1,h2⟩,⟨cur',t',(ht.block _ (zab h3) nc).trans h3,h4⟩⟩
theorem Cdr.below {w w':World} {base:Nat} {cv:Value} {ls:List Nat} {ga ca gc cc:Nat} (h:Cdr w base cv ls ga ca gc cc) (hb:Below w.heap.size w w'):Cdr w' base cv ls ga ca gc cc:=h.turns (T:=fun _=>False) (Turns.of_below' hb) id id
theorem Cdr.lower {w:World} {base base':Nat} {cv:Value} {ls:List Nat} {ga ca gc cc:Nat} (h:Cdr w base cv ls ga ca gc cc) (hb:base'≤base):Cdr w base' cv ls ga ca gc cc:=⟨h.e,Nat.le_trans hb h.a,Nat.le_trans hb h.c,h.ka,h.km,h.oa,h.oc⟩
theorem Cdr.lt {w:World} {base:Nat} {cv:Value} {ls:List Nat} {ga ca gc cc:Nat} (h:Cdr w base cv ls ga ca gc cc):ga<w.heap.size∧gc<w.heap.size:=by
 obtain ⟨cur,t,h1,h2⟩:=h.oa
 obtain ⟨cur',t',h3,h4⟩:=h.oc
 exact ⟨zab h1,zab h3⟩
theorem zcy {w:World} {base:Nat} {e:TypeId} {v:Value} {n:Nat} {xs:List Value} (h:w.ownsRow base e 1 v n xs) (h0:0<n):∃g c cur,v= .slice (some ⟨g,0,none⟩) n c∧base≤g∧(n≤c∧c≤maxLen)∧w.heap[g]? =some (.cells cur e)∧∀(i:Nat) (x:Value),xs[i]? =some x→cur[i]? =some x:=by
 obtain ⟨hl,⟨-,h⟩ | ⟨g,c,cur,e1,e2,e3,e4,e5,e6,e7⟩⟩:=h
 ·omega
 ·refine ⟨g,c,cur,e1,e2,⟨e4,e5⟩,e3,fun i x hx=>?_⟩
  have hi:i<n*1:=by rw [←hl];exact (List.getElem?_eq_some_iff.1 hx).1
  rw [←e7,List.getElem?_take,if_pos hi,Array.getElem?_toList] at hx
  exact hx
theorem zc5 (base:Nat) (ls:List Nat) (v:Value) (w:World) (hv:w.ownsRow base 5 1 v ls.length (ls.map u8v)) (hc:chk ls=0) (h0:0<ls.length) (hs:base≤w.heap.size):
  Calls Tryz.prog 179 #[v] w fun e w'=> ∃cv ga ca gc cc,e= .returned cv∧Cdr w' base cv ls ga ca gc cc∧Below w.heap.size w w':=by
 refine Calls.mono (zji ls v w (Rw8.own hv rfl).row hc) ?_
 rintro e w1 ⟨v',rfl,ho,hb⟩
 obtain ⟨ga,ca,cur,rfl,a1,a2,a3,a4⟩:=zcy hv h0
 obtain ⟨gc,cc,cur',rfl,c1,c2,c3,c4⟩:=zcy ho h0
 refine ⟨_,ga,ca,gc,cc,rfl,⟨rfl,a1,Nat.le_trans hs c1,a2.1,a2.2,⟨cur,_,(hb.block ga (zab a3)).trans a3,fun i hi=>?_⟩,⟨cur',_,c3,fun i hi hp=>?_⟩⟩,hb⟩
 ·exact a4 i _ (by rw [List.getElem?_map,List.getElem?_eq_getElem hi,←zdn hi];rfl)
 ·refine c4 i _ ?_
  rw [zeo _ hi,if_pos hp];rfl
theorem ziM {w4:World} {v1 v2 v3 v4:Value} (H1:Rw8 w4 v1 (List.replicate 144 8)) (H2:Rw8 w4 v2 (List.replicate 112 9)) (H3:Rw8 w4 v3 (List.replicate 24 7)) (H4:Rw8 w4 v4 (List.replicate 8 8)):
  Calls Tryz.prog 177 #[.slice (some ⟨w4.heap.size,0,none⟩) 4 4] (w4.alloc (.cells #[v1,v2,v3,v4] 28)) fun e w'=> ∃v,e= .returned v∧w'.ownsRow w4.heap.size 5 1 v fixA.length (fixA.map u8v)∧Below w4.heap.size w4 w':=by
 obtain ⟨r1,h1⟩:∃r,List.replicate 144 8=r:=⟨_,rfl⟩
 obtain ⟨r2,h2⟩:∃r,List.replicate 112 9=r:=⟨_,rfl⟩
 obtain ⟨r3,h3⟩:∃r,List.replicate 24 7=r:=⟨_,rfl⟩
 obtain ⟨r4,h4⟩:∃r,List.replicate 8 8=r:=⟨_,rfl⟩
 have hfix:fixA=r1++(r2++(r3++r4)):=by unfold fixA;rw [h1,h2,h3,h4,List.append_assoc,List.append_assoc]
 have l1:r1.length=144:=by rw [←h1,List.length_replicate]
 have l2:r2.length=112:=by rw [←h2,List.length_replicate]
 have l3:r3.length=24:=by rw [←h3,List.length_replicate]
 have l4:r4.length=8:=by rw [←h4,List.length_replicate]
 rw [h1] at H1;rw [h2] at H2;rw [h3] at H3;rw [h4] at H4
 clear h1 h2 h3 h4
 obtain ⟨R,hR⟩:∃R,R=[(v1,r1),(v2,r2),(v3,r3),(v4,r4)]:=⟨_,rfl⟩
 have hlen:R.length=4:=by rw [hR];rfl
 have htot:tot R 4=288:=by rw [hR];simp [tot,l1,l2,l3,l4]
 have hcat:cat R 4=fixA:=by rw [hR,hfix];simp [cat]
 have hcells:=zfP (w:=w4) (a:=v1) (b:=v2) (c:=v3) (d:=v4) (t:=28)
 have hb:=Below.al1 w4 (.cells #[v1,v2,v3,v4] 28)
 have hcc:=zc3 w4.heap.size 4 R (w4.alloc (.cells #[v1,v2,v3,v4] 28)) (fun i hi=>by
  subst hR
  have hi:i<4:=hi
  have:i=0∨i=1∨i=2∨i=3:=by omega
  rcases this with rfl | rfl | rfl | rfl
  ·exact ⟨hcells 0 _ rfl,H1.below hb⟩
  ·exact ⟨hcells 1 _ rfl,H2.below hb⟩
  ·exact ⟨hcells 2 _ rfl,H3.below hb⟩
  ·exact ⟨hcells 3 _ rfl,H4.below hb⟩) (by rw [hlen,htot];decide) (by rw [hlen,htot];decide) (by omega)
 rw [hlen,htot,hcat] at hcc
 refine Calls.mono hcc ?_
 rintro e w' ⟨v,rfl,ho,hb2⟩
 exact ⟨v,rfl,by rw [fixA_len];exact za3 ho hb.size,Below.thn hb hb2⟩
set_option maxRecDepth 20000 in
set_option maxHeartbeats 2000000 in
theorem zkN (w:World):
  Calls Tryz.prog 163 #[] w fun e w'=> ∃g v1 v2 ga ca gc cc ga' ca' gc' cc',e= .returned (.slice (some ⟨g,0,none⟩) 2 2)∧w.heap.size≤g∧Cdr w' w.heap.size v1 fixA ga ca gc cc∧Cdr w' w.heap.size v2 fixD ga' ca' gc' cc'∧w'.heap[g]? =some (.cells #[.slice (some ⟨ga,0,none⟩) 288 ca,.slice (some ⟨gc,0,none⟩) 288 cc,.slice (some ⟨ga',0,none⟩) 32 ca',.slice (some ⟨gc',0,none⟩) 32 cc'] 234)∧Below w.heap.size w w':=by
 go_enter Tryz.func163,Tryz.ntmps163
 go_wp2_with fail
 refine Calls.mono (zb8 8 144 (by decide) (by decide) (by decide) _) ?_
 rintro e w1 ⟨v1,rfl,ho,hb⟩
 rw [zbb] at ho
 obtain ⟨q1,k1,rfl⟩:=zac ho
 have H1:=Lib.hid (Rw8.own ho (by simp))
 have Hb1:=Lib.hid hb
 clear ho hb
 go_wp2_with fail
 refine Calls.mono (zb8 9 112 (by decide) (by decide) (by decide) _) ?_
 rintro e w2 ⟨v2,rfl,ho,hb⟩
 rw [zbb] at ho
 obtain ⟨q2,k2,rfl⟩:=zac ho
 have H2:=Lib.hid (Rw8.own ho (by simp))
 have H1:=Lib.hid (H1.out.below hb)
 have Hb2:=Lib.hid (Below.thn Hb1.out hb)
 clear ho hb Hb1
 go_wp2_with fail
 refine Calls.mono (zb8 7 24 (by decide) (by decide) (by decide) _) ?_
 rintro e w3 ⟨v3,rfl,ho,hb⟩
 rw [zbb] at ho
 obtain ⟨q3,k3,rfl⟩:=zac ho
 have H3:=Lib.hid (Rw8.own ho (by simp))
 have H1:=Lib.hid (H1.out.below hb)
 have H2:=Lib.hid (H2.out.below hb)
 have Hb3:=Lib.hid (Below.thn Hb2.out hb)
 clear ho hb Hb2
 go_wp2_with fail
 refine Calls.mono (zb8 8 8 (by decide) (by decide) (by decide) _) ?_
 rintro e w4 ⟨v4,rfl,ho,hb⟩
 rw [zbb] at ho
 obtain ⟨q4,k4,rfl⟩:=zac ho
 have H4:=Lib.hid (Rw8.own ho (by simp))
 have H1:=Lib.hid (H1.out.below hb)
 have H2:=Lib.hid (H2.out.below hb)
 have H3:=Lib.hid (H3.out.below hb)
 have Hb4:=Lib.hid (Below.thn Hb3.out hb)
 clear ho hb Hb3
 go_wp2_with fail
 refine Calls.mono (ziM H1.out H2.out H3.out H4.out) ?_
 rintro e w5 ⟨v5,rfl,hR,hb⟩
 have H5:=Lib.hid (za3 hR Hb4.out.size)
 have Hb5:=Lib.hid (Below.thn Hb4.out hb)
 obtain ⟨q5,k5,rfl⟩:=zac hR
 clear hb hR H1 H2 H3 H4 Hb4
 go_wp2_with fail
 refine Calls.mono (zc5 w.heap.size fixA _ w5 H5.out zcM (by rw [fixA_len];decide) Hb5.out.size) ?_
 rintro e w6 ⟨cv,ga,ca,gc,cc,rfl,hC,hb⟩
 have HC:=Lib.hid hC
 have Hb6:=Lib.hid (Below.thn Hb5.out hb)
 obtain rfl:=hC.e
 rw [fixA_len]
 clear hC hb H5 Hb5
 go_wp2_with fail
 refine Calls.mono (zb8 5 32 (by decide) (by decide) (by decide) _) ?_
 rintro e w7 ⟨v7,rfl,ho,hb⟩
 rw [zbb] at ho
 obtain ⟨q7,k7,rfl⟩:=zac ho
 have H7:=Lib.hid (za3 ho Hb6.out.size)
 have HC:=Lib.hid (HC.out.below hb)
 have Hb7:=Lib.hid (Below.thn Hb6.out hb)
 clear ho hb Hb6
 go_wp2_with fail
 refine Calls.mono (zc5 w.heap.size fixD _ w7 H7.out zcP (by decide) Hb7.out.size) ?_
 rintro e w8 ⟨cv',ga',ca',gc',cc',rfl,hC,hb⟩
 have HD:=Lib.hid hC
 have HC:=Lib.hid (HC.out.below hb)
 have Hb8:=Lib.hid (Below.thn Hb7.out hb)
 obtain rfl:=hC.e
 rw [show fixD.length=32 from rfl]
 clear hC hb H7 Hb7
 go_wp2
 go_ret
 have hb9:=Below.al1 w8 (.cells #[.slice (some ⟨ga,0,none⟩) 288 ca,.slice (some ⟨gc,0,none⟩) 288 cc,.slice (some ⟨ga',0,none⟩) 32 ca',.slice (some ⟨gc',0,none⟩) 32 cc'] 234)
 exact ⟨w8.heap.size,_,_,ga,ca,gc,cc,ga',ca',gc',cc',rfl,Hb8.out.size,HC.out.below hb9,HD.out.below hb9,World.alloc_heap_new _ _,Below.thn Hb8.out hb9⟩
end
section
open Go.RowKit Go.Maps
set_option maxHeartbeats 400000 in
theorem zd2 (p:Option Addr) (n c:Nat) (w:World):Calls Tryz.prog 162 #[.slice p n c] w fun e w'=>
  e= .returned (.func (.func 174) #[] #[.pointer (some ⟨w.heap.size,0,none⟩)])∧w'=w.alloc (.cells #[.slice p n c] 177):=by
 have hmf:∀(fn:Fn) (first cap:Array Value) (w:World),(Instr.makeFunc fn first cap).run Tryz.prog w= .ok (.func fn first cap) w:=fun _ _ _ _=>rfl
 go_enter Tryz.func162,Tryz.ntmps162
 go_wp2
 go_ret
 exact ⟨rfl,rfl⟩
set_option maxHeartbeats 400000 in
theorem zgJ (p:Option Addr) (n c:Nat) (w:World):Calls Tryz.prog 182 #[.slice p n c] w fun e w'=>
  e= .returned (.func (.func 196) #[] #[.pointer (some ⟨w.heap.size,0,none⟩)])∧w'=w.alloc (.cells #[.slice p n c] 28):=by
 have hmf:∀(fn:Fn) (first cap:Array Value) (w:World),(Instr.makeFunc fn first cap).run Tryz.prog w= .ok (.func fn first cap) w:=fun _ _ _ _=>rfl
 go_enter Tryz.func182,Tryz.ntmps182
 go_wp2
 go_ret
 exact ⟨rfl,rfl⟩
def two (a b j:Nat):Nat:=if j=0 then a else b
theorem zqs {w:World} {base:Nat} {v1 v2:Value} {A D:List Nat} {g ga ca gc cc ga' ca' gc' cc':Nat} {t:TypeId} (h1:Cdr w base v1 A ga ca gc cc) (h2:Cdr w base v2 D ga' ca' gc' cc')
  (hg:w.heap[g]? =some (.cells #[.slice (some ⟨ga,0,none⟩) A.length ca,.slice (some ⟨gc,0,none⟩) A.length cc,.slice (some ⟨ga',0,none⟩) D.length ca',.slice (some ⟨gc',0,none⟩) D.length cc'] t)):CdF g (two ga ga') (two ca ca') (two gc gc') (two cc cc') [A,D] w:=by
 obtain ⟨cur1,t1,a1,a2⟩:=h1.oa
 obtain ⟨cur2,t2,b1,b2⟩:=h1.oc
 obtain ⟨cur3,t3,c1,c2⟩:=h2.oa
 obtain ⟨cur4,t4,d1,d2⟩:=h2.oc
 have h01:∀j,j<[A,D].length→j=0∨j=1:=fun j hj=>by simp at hj;omega
 refine ⟨fun j hj=>?_,fun j hj=>?_,fun j hj i hi=>?_,fun j hj i hi hp=>?_⟩
 all_goals rcases h01 j hj with rfl | rfl
 ·exact zaa hg rfl
 ·exact zaa hg rfl
 ·exact zaa hg rfl
 ·exact zaa hg rfl
 ·exact zaa a1 (a2 i hi)
 ·exact zaa c1 (c2 i hi)
 ·exact zaa b1 (b2 i hi hp)
 ·exact zaa d1 (d2 i hi hp)
set_option maxRecDepth 20000 in
set_option maxHeartbeats 4000000 in
theorem zkO {G:Nat→Prop} {W:World} {base B:Nat} (vb:Value) (p:Option Addr) (c:Nat) (ts:List Tk) (w:World) (h:WrY G base B [] W w) (hp:RowAt encT 3 W p ts) (hG:∀a,p=some a→G a.block) (hx:∀t∈ts,t.okB=true∧t.b<256) (hl:ts.length≤1048576) (hm:szP ((pasT ts).flatMap (plP [fixA,fixD]))≤8388600):
  Calls Tryz.prog 143 #[.agg #[vb,.slice p ts.length c],.pointer (some ⟨B,0,none⟩)] w fun e w'=>e= .returned (.tuple #[])∧WrY G base B ([(1,1),(1,2)]++(pasT ts).flatMap (plP [fixA,fixD])) W w':=by
 have HGW:Hid (∀b,G b→b<W.heap.size):=Lib.hid fun b hb=>by obtain ⟨_,_,_,_,_,h5⟩:=h;exact (h5 b hb).2.2
 have H:=Lib.hid h
 have Hp:=Lib.hid hp
 have HG:=Lib.hid hG
 have Hx:=Lib.hid hx
 have Hm:=Lib.hid hm
 obtain ⟨n,hn⟩:∃n,ts.length=n:=⟨_,rfl⟩
 have Hn:=Lib.hid hn
 rw [hn] at hl ⊢
 clear h hp hG hx hm hn
 go_enter Tryz.func143,Tryz.ntmps143
 go_wp2_with fail
 have hb0:=Below.al1 w (.cells #[vb,.slice p n c] 180)
 have hz0:=World.alloc_heap_new w (.cells #[vb,.slice p n c] 180)
 have hs0:(w.alloc (.cells #[vb,.slice p n c] 180)).heap.size=w.heap.size+1:=World.size_alloc _ _
 have hY:=H.out.more hb0
 have hWw:W.heap.size≤w.heap.size:=H.out.turns.size
 generalize w.alloc (.cells #[vb,.slice p n c] 180)=w1 at *
 obtain ⟨Z,hZ⟩:∃Z,w.heap.size=Z:=⟨_,rfl⟩
 rw [hZ] at hz0 hs0 hY hWw ⊢
 have HF:Hid (WrF (fun b=>G b∨Z≤b∧b<w1.heap.size) w1 (fun w'=>w'.heap[Z]? =some (.cells #[vb,.slice p n c] 180)) base B [] w1):=Lib.hid (WrF.start hY fun w' ht=>(ht.block Z (by omega) (fun h=>h (.inr ⟨Nat.le_refl _,by omega⟩))).trans hz0)
 have HT1:Hid (Turns (fun b=> ¬G b) W w1):=Lib.hid (H.out.turns.trans (Turns.of_below' hb0))
 have Hs1:=Lib.hid hs0
 clear hb0 hz0 hs0 hY
 refine Calls.mono (zd9 (kind:=1) true HF.out (by decide) (by decide)) ?_
 rintro _ w2 ⟨rfl,hF2⟩
 have hz2:w2.heap[Z]? =some (.cells #[vb,.slice p n c] 180):=hF2.now
 have HY2:=Lib.hid hF2.done
 have x1:w2.cell? ⟨Z,1,none⟩=some (.slice p n c):=zaa hz2 rfl
 have hs2:Z<w2.heap.size:=zab hz2
 clear hF2 HF
 go_wp2_with fail
 refine Calls.mono (zd2 p n c w2) ?_
 rintro _ w3 ⟨rfl,rfl⟩
 have Hb3:=Lib.hid (Below.al1 w2 (.cells #[.slice p n c] 177))
 have Hz3:=Lib.hid (World.alloc_heap_new w2 (.cells #[.slice p n c] 177))
 generalize w2.alloc (.cells #[.slice p n c] 177)=w3 at *
 go_wp2_with fail
 refine Calls.mono (zkN w3) ?_
 rintro _ w4 ⟨g,v1,v2,ga,ca,gc,cc,ga',ca',gc',cc',rfl,hg1,hC,hD,hg,hb4⟩
 have Hz4:=Lib.hid (zaa (i:=0) ((hb4.block _ (zab Hz3.out)).trans Hz3.out) rfl)
 have HB4:=Lib.hid (Below.thn Hb3.out hb4)
 have Hg:=Lib.hid (And.intro hC (And.intro hD (And.intro hg hg1)))
 have Hs3:=Lib.hid (And.intro Hb3.out.size (And.intro (zab Hz3.out) hb4.size))
 clear hC hD hg hg1 hb4 hz2 x1
 go_wp2_with fail
 have HY3:Hid (WrY (fun b=>G b∨Z≤b∧b<w1.heap.size) base B [(1,1),(1,2)] w1 w2):=Lib.hid (HY2.out.congr (by simp))
 have HT4:Hid (Turns (fun b=> ¬G b) W w4):=Lib.hid ((HT1.out.trans (HY3.out.turns.mono fun i _ hi hg=>hi (.inl hg))).trans (Turns.of_below' HB4.out))
 have HY4:=Lib.hid (HY3.out.more HB4.out)
 obtain ⟨hC,hD,hg,hg1⟩:=Hg.out
 obtain ⟨hs3,hs4,hs5⟩:=Hs3.out
 have hlC:=hC.lt
 have hlD:=hD.lt
 have hlg:=zab hg
 have hCd:∀w',Turns (fun b=> ¬((G b∨Z≤b∧b<w1.heap.size)∨w2.heap.size≤b∧b<w4.heap.size)) w4 w'→CdF g (two ga ga') (two ca ca') (two gc gc') (two cc cc') [fixA,fixD] w':=fun w' ht=>by
  have a1:=hC.a;have a2:=hC.c;have a3:=hD.a;have a4:=hD.c
  refine zqs (hC.turns ht (fun h=>h (.inr ⟨by omega,hlC.1⟩)) (fun h=>h (.inr ⟨by omega,hlC.2⟩))) (hD.turns ht (fun h=>h (.inr ⟨by omega,hlD.1⟩)) (fun h=>h (.inr ⟨by omega,hlD.2⟩))) (t:=234) ?_
  rw [fixA_len,show fixD.length=32 from rfl]
  exact (ht.block g hlg (fun h=>h (.inr ⟨by omega,hlg⟩))).trans hg
 have hRow:RowAt encT 3 w4 p ts:=Hp.out.turns HT4.out fun a ha h=>h (HG.out a ha)
 have hpl:∀a,p=some a→a.block<w4.heap.size:=fun a ha=>Nat.lt_of_lt_of_le (HGW.out _ (HG.out a ha)) HT4.out.size
 have hit:=zel w2.heap.size p c ts w4 (fun b=>b=w2.heap.size∨∃a,p=some a∧a.block=b) (by rw [Hn.out];exact Hz4.out) hRow Hx.out (by rw [Hn.out];exact hl) (fun b hb=>by
  rcases hb with rfl | ⟨a,ha,rfl⟩
  ·omega
  ·exact hpl a ha) (.inl rfl) (fun a ha=> .inr ⟨a,ha,rfl⟩)
 have h01:∀j,j<[fixA,fixD].length→j=0∨j=1:=fun j hj=>by simp at hj;omega
 have hsl:=ze7 (P:=[(1,1),(1,2)]) _ _ (pasT ts) g 2 (two ga ga') (two ca ca') (two gc gc') (two cc cc') [fixA,fixD] w4 (enters_of Tryz.func174 (by kernel_rfl) rfl) hit (Nat.le_refl _) (fun b hb=>⟨by
  rcases hb with rfl | ⟨a,ha,rfl⟩
  ·exact .inr ⟨Nat.le_refl _,by omega⟩
  ·exact .inl (.inl (HG.out a ha)),rfl⟩) HY4.out hCd (fun j hj=>by
   rcases h01 j hj with rfl | rfl
   ·exact ⟨zcM,by show fixA.length≤320;rw [fixA_len];decide⟩
   ·exact ⟨zcP,by show (32:Nat)≤320;decide⟩) (zmR (fun t ht=>(Hx.out t ht).1) (fun t ht=>zj8 (Hx.out t ht).1 (Hx.out t ht).2) (by rw [fixA_len];exact ⟨by decide,by decide +kernel⟩)) (by
   have:=Hm.out
   simp only [szP];omega)
 refine Calls.mono hsl ?_
 rintro _ w5 ⟨rfl,hY5⟩
 have HY5:=Lib.hid (hY5.less (G:=G) (W:=W) (fun b hb=>⟨.inl (.inl hb),HGW.out b hb⟩) HT4.out)
 clear hsl hit hCd hRow hC hD hg hg1 hlC hlD hlg hY5 HY4 h01 hpl
 go_wp2
 go_end0
 exact ⟨rfl,HY5.out⟩
end
section
open Go.RowKit Go.Maps
def ctW (f:Nat→Nat) (n:Nat):List Value:=(List.range n).map fun i=> .int .i64 ((f i:Nat):Int)
theorem zl8 (f:Nat→Nat) {n i:Nat} (h:i<n):(ctW f n)[i]? =some (.int .i64 ((f i:Nat):Int)):=by
 unfold ctW
 rw [List.getElem?_map,List.getElem?_range h];rfl
theorem zp0 (f:Nat→Nat) {n i:Nat} (v:Nat):(ctW f n).toArray.setIfInBounds i (.int .i64 ((v:Nat):Int))=(ctW (fun j=>if j=i then v else f j) n).toArray:=by
 apply Array.ext
 ·simp [ctW]
 ·intro k h1 h2
  have hk:k<n:=by simpa [ctW] using h2
  rw [Array.getElem_setIfInBounds (by simpa [ctW] using hk)]
  by_cases e:i=k
  ·subst e;simp [ctW]
  ·have e':¬k=i:=fun h=>e h.symm
   simp [ctW,e,e']
def fqR (fb ns:Nat→Nat) (i k:Nat):List Value:=(List.range k).map fun j=>if j<i then .slice (some ⟨fb j,0,none⟩) (ns j) (ns j) else .slice none 0 0
theorem zm8 (fb ns:Nat→Nat) {i k j:Nat} (h:j<i) (hk:j<k):(fqR fb ns i k)[j]? =some (.slice (some ⟨fb j,0,none⟩) (ns j) (ns j)):=by
 unfold fqR
 rw [List.getElem?_map,List.getElem?_range hk]
 show some (if j<i then _ else _)=_
 rw [if_pos h]
theorem zqJ (fb ns:Nat→Nat) {i k:Nat} (g:Nat):(fqR fb ns i k).toArray.setIfInBounds i (.slice (some ⟨g,0,none⟩) (ns i) (ns i))=(fqR (fun j=>if j=i then g else fb j) ns (i+1) k).toArray:=by
 apply Array.ext
 ·simp [fqR]
 ·intro j h1 h2
  have hk:j<k:=by simpa [fqR] using h2
  rw [Array.getElem_setIfInBounds (by simpa [fqR] using hk)]
  by_cases e:i=j
  ·subst e;simp [fqR]
  ·have e':¬j=i:=fun h=>e h.symm
   by_cases hj:j<i
   ·have:j<i+1:=by omega
    simp [fqR,e,e',hj,this]
   ·have:¬j<i+1:=by omega
    simp [fqR,e,hj,this]
theorem zl2:(Tryz.prog.info? 3).map (fun i=>(i.zero,i.size,i.bytes))=some (some (.int .i64 0),1,8):=by kernel_rfl
theorem zk7:(Tryz.prog.info? 42).map (fun i=>(i.zero,i.size,i.bytes))=some (some (.slice none 0 0),1,24):=by kernel_rfl
theorem zqM (n:Nat):madeCells #[Value.int .i64 0] n=(ctW (fun _=>0) n).toArray:=by
 refine Array.ext (by simp [ctW,size_madeCells]) (fun i h1 h2=>?_)
 simp [madeCells,ctW,Nat.mod_one]
theorem zpP (fb ns:Nat→Nat) (n:Nat):madeCells #[Value.slice none 0 0] n=(fqR fb ns 0 n).toArray:=by
 refine Array.ext (by simp [fqR,size_madeCells]) (fun i h1 h2=>?_)
 simp [madeCells,fqR,Nat.mod_one]
theorem zp2 (n:Nat) (hn:n≤1048576) (w:World):(Instr.makeSlice 42 (.int .i64 (n:Int)) (.int .i64 (n:Int))).run Tryz.prog w= .ok (.slice (some ⟨w.heap.size,0,none⟩) n n) (w.alloc (.cells (ctW (fun _=>0) n).toArray 3)):=by
 obtain ⟨i,hi,hz,hs,hb⟩:=info_parts zl2
 have h:=run_make (P:=Tryz.prog) w 42 3 i _ Tryz.underlying42 hi hz .i64 .i64 (n:Int) (n:Int) (by omega) (Int.le_refl _) (by rw [hb];omega) (by omega)
 rw [h]
 simp only [Int.toNat_natCast,hs,Nat.mul_one]
 rw [show (Value.int IntKind.i64 0).cells=#[Value.int .i64 0] from rfl,zqM]
theorem zpL (fb ns:Nat→Nat) (n:Nat) (hn:n≤1048576) (w:World):(Instr.makeSlice 245 (.int .i64 (n:Int)) (.int .i64 (n:Int))).run Tryz.prog w= .ok (.slice (some ⟨w.heap.size,0,none⟩) n n) (w.alloc (.cells (fqR fb ns 0 n).toArray 42)):=by
 obtain ⟨i,hi,hz,hs,hb⟩:=info_parts zk7
 have h:=run_make (P:=Tryz.prog) w 245 42 i _ Tryz.underlying245 hi hz .i64 .i64 (n:Int) (n:Int) (by omega) (Int.le_refl _) (by rw [hb];omega) (by omega)
 rw [h]
 simp only [Int.toNat_natCast,hs,Nat.mul_one]
 rw [show (Value.slice none 0 0).cells=#[Value.slice none 0 0] from rfl,zpP fb ns]
structure FqI (W:World) (bx F k i:Nat) (fb ns:Nat→Nat) (cnt:Nat→Nat→Nat) (w:World):Prop where
 bw:Below W.heap.size W w
 box:w.heap[bx]? =some (.cells #[.slice (some ⟨F,0,none⟩) k k] 245)
 tab:w.heap[F]? =some (.cells (fqR fb ns i k).toArray 42)
 row:∀j,j<i→w.heap[fb j]? =some (.cells (ctW (cnt j) (ns j)).toArray 3)
 lo:W.heap.size≤bx∧W.heap.size≤F∧bx≠F
 ne:∀j,j<i→W.heap.size≤fb j∧fb j≠bx∧fb j≠F
 inj:∀j j',j<i→j'<i→fb j=fb j'→j=j'
section
variable {W w w':World} {bx F k i:Nat} {fb ns:Nat→Nat} {cnt:Nat→Nat→Nat}
theorem FqI.turns {T:Nat→Prop} (h:FqI W bx F k i fb ns cnt w) (ht:Turns T w w') (hb:Below W.heap.size W w') (h1:¬T bx) (h2:¬T F) (h3:∀j,j<i→¬T (fb j)):FqI W bx F k i fb ns cnt w':=
 ⟨hb,(ht.block _ (zab h.box) h1).trans h.box,(ht.block _ (zab h.tab) h2).trans h.tab,fun j hj=>(ht.block _ (zab (h.row j hj)) (h3 j hj)).trans (h.row j hj),h.lo,h.ne,h.inj⟩
theorem FqI.below (h:FqI W bx F k i fb ns cnt w) (hb:Below w.heap.size w w'):FqI W bx F k i fb ns cnt w':=
 h.turns (T:=fun _=>False) (Turns.of_below' hb) (Below.thn h.bw hb) id id fun _ _=>id
theorem FqI.pushW (h:FqI W bx F k i fb ns cnt w) (hc:∀s,cnt i s=0) (hw':w'=(w.setCell ⟨F,i,none⟩ (.slice (some ⟨w.heap.size,0,none⟩) (ns i) (ns i))).alloc (.cells (ctW (fun _=>0) (ns i)).toArray 3)):
  FqI W bx F k (i+1) (fun j=>if j=i then w.heap.size else fb j) ns cnt w'.drew:=by
 have hsz:(w.setCell ⟨F,i,none⟩ (.slice (some ⟨w.heap.size,0,none⟩) (ns i) (ns i))).heap.size=w.heap.size:=by simp
 have hs:w'.drew.heap[w.heap.size]? =some (.cells (ctW (fun _=>0) (ns i)).toArray 3):=by
  have h0:=World.alloc_heap_new (w.setCell ⟨F,i,none⟩ (.slice (some ⟨w.heap.size,0,none⟩) (ns i) (ns i))) (.cells (ctW (fun _=>0) (ns i)).toArray 3)
  rw [hsz] at h0
  rw [hw']
  exact h0
 have hb:Below w.heap.size (w.setCell ⟨F,i,none⟩ (.slice (some ⟨w.heap.size,0,none⟩) (ns i) (ns i))) w'.drew:=by
  rw [hw']
  have:=Below.drew (Below.al1 (w.setCell ⟨F,i,none⟩ (.slice (some ⟨w.heap.size,0,none⟩) (ns i) (ns i))) (.cells (ctW (fun _=>0) (ns i)).toArray 3))
  rw [hsz] at this
  exact this
 have l1:=zab h.box
 have l2:=zab h.tab
 have hset:(w.setCell ⟨F,i,none⟩ (.slice (some ⟨w.heap.size,0,none⟩) (ns i) (ns i))).heap[F]? =some (.cells (fqR (fun j=>if j=i then w.heap.size else fb j) ns (i+1) k).toArray 42):=by
  rw [setCell_eq_setRow w F i _ _ _ _ h.tab,setRow_heap w F _ _ _ _ h.tab,zqJ]
 have hoth:∀b,b≠F→b<w.heap.size→w'.drew.heap[b]? =w.heap[b]? :=fun b hb' hlt=>(hb.block b hlt).trans (Below.heap_setCell _ _ _ b (fun e=>hb' (by simpa using e)))
 have hlt:∀x,x<i→fb x<w.heap.size:=fun x hx=>zab (h.row x hx)
 refine ⟨Below.trans (h.bw.setCell (p:=⟨F,i,none⟩) h.lo.2.1 _) (hb.mono h.bw.size),(hoth bx h.lo.2.2 l1).trans h.box,(hb.block F l2).trans hset,fun j hj=>?_,h.lo,fun j hj=>?_,fun j j' hj hj' e=>?_⟩
 ·by_cases e:j=i
  ·subst e
   rw [if_pos rfl,hs,show cnt j=fun _=>0 from funext hc]
  ·rw [if_neg e,hoth _ (h.ne j (by omega)).2.2 (hlt j (by omega))]
   exact h.row j (by omega)
 ·by_cases e:j=i
  ·rw [if_pos e]
   exact ⟨h.bw.size,by omega,by omega⟩
  ·rw [if_neg e];exact h.ne j (by omega)
 ·by_cases e1:j=i
  ·by_cases e2:j'=i
   ·omega
   ·simp only [if_pos e1,if_neg e2] at e
    have:=hlt j' (by omega);omega
  ·by_cases e2:j'=i
   ·simp only [if_neg e1,if_pos e2] at e
    have:=hlt j (by omega);omega
   ·simp only [if_neg e1,if_neg e2] at e
    exact h.inj j j' (by omega) (by omega) e
theorem FqI.count (h:FqI W bx F k i fb ns cnt w) {j s v:Nat} (hj:j<i) (cnt':Nat→Nat→Nat) (hc:∀a b,cnt' a b=if a=j∧b=s then v else cnt a b):FqI W bx F k i fb ns cnt' (w.setCell ⟨fb j,s,none⟩ (.int .i64 ((v:Nat):Int))):=by
 have hn:=h.ne j hj
 have hset:(w.setCell ⟨fb j,s,none⟩ (.int .i64 ((v:Nat):Int))).heap[fb j]? =some (.cells (ctW (cnt' j) (ns j)).toArray 3):=by
  rw [setCell_eq_setRow w (fb j) s _ _ _ _ (h.row j hj),setRow_heap w (fb j) _ _ _ _ (h.row j hj),zp0]
  have:(fun x=>if x=s then v else cnt j x)=cnt' j:=by
   funext x
   rw [hc]
   by_cases e:x=s<;>simp [e]
  rw [this]
 have hoth:∀b,b≠fb j→(w.setCell ⟨fb j,s,none⟩ (.int .i64 ((v:Nat):Int))).heap[b]? =w.heap[b]? :=fun b hb'=>Below.heap_setCell _ _ _ b (fun e=>hb' (by simpa using e))
 refine ⟨h.bw.setCell (p:=⟨fb j,s,none⟩) hn.1 _,(hoth bx (Ne.symm hn.2.1)).trans h.box,(hoth F (Ne.symm hn.2.2)).trans h.tab,fun a ha=>?_,h.lo,h.ne,h.inj⟩
 by_cases e:a=j
 ·rw [e];exact hset
 ·rw [hoth _ (fun e'=>e (h.inj a j ha hj e'))]
  rw [h.row a ha]
  have:cnt' a=cnt a:=by
   funext x
   rw [hc,if_neg (fun h=>e h.1)]
  rw [this]
end
end
section
open Go.RowKit Go.Maps
theorem zok:(Tryz.prog.info? 234).map (fun i=>(i.zero,i.size,i.bytes))=some (some (.agg #[.slice none 0 0,.slice none 0 0]),2,48):=by kernel_rfl
theorem zeK {P:Program} (w:World) {ops:Array Oper} {rest:List Oper} {o:Oper} {a:Act} {Q:Exit→Act→World→Prop} (hgd:o.guard=none) (s x:Operand) (t:TypeId)
  (ho:o.op= .call { callee:= .builtin .append,args:=#[s,x],argTypes:=#[t,t]})
  (base:Nat) (e:TypeId) (z:Value) (bytes:Nat) (hinfo:(P.info? e).map (fun i=>(i.zero,i.size,i.bytes))=some (some z,2,bytes)) (ht:P.underlying t=some (.slice e)) (hzs:z.cells.size=2)
  (v:Value) (n:Nat) (xs:List Value) (hs:a.eval s=v) (hown:w.ownsRow base e 2 v n xs) (u u2:Value) (te:TypeId) (hx:a.eval x= .slice (some ⟨w.heap.size,0,none⟩) 1 1) (hu:u.oneCell'=true) (hu2:u2.oneCell'=true)
  (h63:n+1≤maxLen) (hbytes:(n+1)*bytes≤140737488355328) (hbase:base≤w.heap.size)
  (h:∀g cap w',w'.ownsRow base e 2 (.slice (some ⟨g,0,none⟩) (n+1) cap) (n+1) (xs++[u,u2])→Turns (fun b=>v.ownBlock=some b) w w'→(v.ownBlock=some g∨w.heap.size≤g)→wpList P ops Q rest (a.put o.dst (.slice (some ⟨g,0,none⟩) (n+1) cap)) w'):
  wpList P ops Q (o::rest) a (w.alloc (.cells #[u,u2] te)):=by
 obtain ⟨i,hi,hz,hsz,hby⟩:=info_parts hinfo
 refine zai (P:=P) (w.alloc (.cells #[u,u2] te)) hgd s x t ho base e i z 2 bytes ht hi hz hsz hby hzs (by decide) v n xs hs (hown.alloc _) (some ⟨w.heap.size,0,none⟩) 1 1 [u,u2] hx rfl (.inr ⟨_,rfl,zbm (c:=[u,u2])⟩)
  (fun q hq=>by
   rcases List.mem_cons.1 hq with rfl | hq
   ·exact hu
   ·rcases List.mem_singleton.1 hq with rfl;exact hu2) h63 hbytes (by rw [World.size_alloc];omega) ?_
 intro v' w' h2 h3 h4
 rcases h2.2 with ⟨-,h0⟩ | ⟨g,cap,cur,rfl,-⟩
 ·omega
 ·refine h g cap w' h2 ?_ ?_
  ·exact (Turns.of_below' (Below.al1 w _)).trans (Turns.of_grown h3 (fun _ h=>h))
  ·rcases h4 g rfl with h | h
   ·exact .inl h
   ·rw [World.size_alloc] at h
    exact .inr (by omega)
def ctZ (f:Nat→Nat) (n:Nat):List Int:=(List.range n).map fun i=>((f i:Nat):Int)
theorem zaB (f:Nat→Nat) (n:Nat):(ctZ f n).length=n:=by simp [ctZ]
theorem zqo {W:World} {b n:Nat} {f:Nat→Nat} (h:W.heap[b]? =some (.cells (ctW f n).toArray 3)) (hn:n≤1048576):Row encZ 1 W (.slice (some ⟨b,0,none⟩) n n) (ctZ f n):=by
 refine ⟨some ⟨b,0,none⟩,n,by rw [zaB],by rw [zaB];exact Nat.le_refl _,by simp only [maxLen];omega,.inr ⟨b,0,rfl,zab h,fun k x hx j u hu=>?_⟩⟩
 cases j with
 | succ j=>cases hu
 | zero=>
  cases hu
  have hk:k<n:=by rw [←zaB f n];exact (List.getElem?_eq_some_iff.1 hx).1
  rw [Nat.mul_one,Nat.zero_add,Nat.add_zero]
  refine zaa h ?_
  rw [List.getElem?_toArray,zl8 _ hk]
  unfold ctZ at hx
  rw [List.getElem?_map,List.getElem?_range hk] at hx
  have:((f k:Nat):Int)=x:=by simpa using hx
  rw [this]
end
end Go.Proofs.YtedakhgaghfogaaGreat
