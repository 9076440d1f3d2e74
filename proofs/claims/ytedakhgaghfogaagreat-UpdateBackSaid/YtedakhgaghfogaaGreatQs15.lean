/- Several texts in one, each with its own head. -/
import Derived.Test.YtedakhgaghfogaaGreatQs14
import Derived.Great.BuildSlice
namespace Go.Proofs.YtedakhgaghfogaaGreat
section
open Go.RowKit Go.Maps
theorem zcM:chk fixA=0:=by decide +kernel
theorem zcP:chk fixD=0:=by decide +kernel
theorem fixA_len:fixA.length=288:=by decide +kernel
theorem zbb (x n:Nat):List.replicate n (u8v x)=(List.replicate n x).map u8v:=by rw [List.map_replicate]
theorem zfP {w:World} {a b c d:Value} {t:TypeId}:∀i v,[a,b,c,d][i]? =some v→(w.alloc (.cells #[a,b,c,d] t)).cell? ⟨w.heap.size,i,none⟩=some v:=fun i v h=>by
 have hb:=World.alloc_heap_new w (.cells #[a,b,c,d] t)
 simp only [World.cell?,hb]
 have:(#[a,b,c,d]:Array Value)[i]? =some v:=by rw [←h];simp
 rw [this];rfl
theorem zjc {w4:World} {v1 v2 v3 v4:Value} (H1:Rw8 w4 v1 (List.replicate 144 8)) (H2:Rw8 w4 v2 (List.replicate 112 9)) (H3:Rw8 w4 v3 (List.replicate 24 7)) (H4:Rw8 w4 v4 (List.replicate 8 8)):
  Calls Tryz.prog 177 #[.slice (some ⟨w4.heap.size,0,none⟩) 4 4] (w4.alloc (.cells #[v1,v2,v3,v4] 28)) fun e w'=> ∃v,e= .returned v∧Rw8 w' v fixA∧Below w4.heap.size w4 w':=by
 obtain ⟨r1,h1⟩:∃r,List.replicate 144 8=r:=⟨_,rfl⟩
 obtain ⟨r2,h2⟩:∃r,List.replicate 112 9=r:=⟨_,rfl⟩
 obtain ⟨r3,h3⟩:∃r,List.replicate 24 7=r:=⟨_,rfl⟩
 obtain ⟨r4,h4⟩:∃r,List.replicate 8 8=r:=⟨_,rfl⟩
 have hfix:fixA=r1++(r2++(r3++r4)):=by unfold fixA;rw [h1,h2,h3,h4,List.append_assoc,List.append_assoc]
 have l1:r1.length=144:=by rw [←h1,List.length_replicate]
 have l2:r2.length=112:=by rw [←h2,List.length_replicate]
 have l3:r3.length=24:=by rw [←h3,List.length_replicate]
 have l4:r4.length=8:=by rw [←h4,List.length_replicate]
 rw [h1] at H1;rw [h2] at H2;rw [h3] at H3;rw [h4] at H4
 clear h1 h2 h3 h4
 obtain ⟨R,hR⟩:∃R,R=[(v1,r1),(v2,r2),(v3,r3),(v4,r4)]:=⟨_,rfl⟩
 have hlen:R.length=4:=by rw [hR];rfl
 have htot:tot R 4=288:=by rw [hR];simp [tot,l1,l2,l3,l4]
 have hcat:cat R 4=fixA:=by rw [hR,hfix];simp [cat]
 have hcells:=zfP (w:=w4) (a:=v1) (b:=v2) (c:=v3) (d:=v4) (t:=28)
 have hb:=Below.al1 w4 (.cells #[v1,v2,v3,v4] 28)
 have hcc:=zc3 w4.heap.size 4 R (w4.alloc (.cells #[v1,v2,v3,v4] 28)) (fun i hi=>by
  subst hR
  have hi:i<4:=hi
  have:i=0∨i=1∨i=2∨i=3:=by omega
  rcases this with rfl | rfl | rfl | rfl
  ·exact ⟨hcells 0 _ rfl,H1.below hb⟩
  ·exact ⟨hcells 1 _ rfl,H2.below hb⟩
  ·exact ⟨hcells 2 _ rfl,H3.below hb⟩
  ·exact ⟨hcells 3 _ rfl,H4.below hb⟩) (by rw [hlen,htot];decide) (by rw [hlen,htot];decide) (by omega)
 rw [hlen,htot,hcat] at hcc
 refine Calls.mono hcc ?_
 rintro e w' ⟨v,rfl,ho,hb2⟩
 exact ⟨v,rfl,Rw8.own (za3 ho hb.size) fixA_len.symm,Below.thn hb hb2⟩
set_option maxRecDepth 20000 in
set_option maxHeartbeats 2000000 in
theorem zkT (w:World):
  Calls Tryz.prog 185 #[] w fun e w'=> ∃cv,e= .returned cv∧Codn w' (fun i=>i<w.heap.size) cv fixA fixD∧Below w.heap.size w w':=by
 go_enter Tryz.func185,Tryz.ntmps185
 go_wp2_with fail
 refine Calls.mono (zce 8 144 (by decide) (by decide) (by decide) _) ?_
 rintro e w1 ⟨v1,rfl,ho,hb⟩
 rw [zbb] at ho
 obtain ⟨q1,k1,rfl⟩:=zac ho
 have H1:=Lib.hid (Rw8.own ho (by simp))
 have Hb1:=Lib.hid hb
 clear ho hb
 go_wp2_with fail
 refine Calls.mono (zce 9 112 (by decide) (by decide) (by decide) _) ?_
 rintro e w2 ⟨v2,rfl,ho,hb⟩
 rw [zbb] at ho
 obtain ⟨q2,k2,rfl⟩:=zac ho
 have H2:=Lib.hid (Rw8.own ho (by simp))
 have H1:=Lib.hid (H1.out.below hb)
 have Hb2:=Lib.hid (Below.thn Hb1.out hb)
 clear ho hb Hb1
 go_wp2_with fail
 refine Calls.mono (zce 7 24 (by decide) (by decide) (by decide) _) ?_
 rintro e w3 ⟨v3,rfl,ho,hb⟩
 rw [zbb] at ho
 obtain ⟨q3,k3,rfl⟩:=zac ho
 have H3:=Lib.hid (Rw8.own ho (by simp))
 have H1:=Lib.hid (H1.out.below hb)
 have H2:=Lib.hid (H2.out.below hb)
 have Hb3:=Lib.hid (Below.thn Hb2.out hb)
 clear ho hb Hb2
 go_wp2_with fail
 refine Calls.mono (zce 8 8 (by decide) (by decide) (by decide) _) ?_
 rintro e w4 ⟨v4,rfl,ho,hb⟩
 rw [zbb] at ho
 obtain ⟨q4,k4,rfl⟩:=zac ho
 have H4:=Lib.hid (Rw8.own ho (by simp))
 have H1:=Lib.hid (H1.out.below hb)
 have H2:=Lib.hid (H2.out.below hb)
 have H3:=Lib.hid (H3.out.below hb)
 have Hb4:=Lib.hid (Below.thn Hb3.out hb)
 clear ho hb Hb3
 go_wp2_with fail
 refine Calls.mono (zjc H1.out H2.out H3.out H4.out) ?_
 rintro e w5 ⟨v5,rfl,hR,hb⟩
 have H5:=Lib.hid hR.row
 have Hb5:=Lib.hid (Below.thn Hb4.out hb)
 clear hb hR H1 H2 H3 H4 Hb4
 go_wp2_with fail
 refine Calls.mono (zbY fixA v5 w5 H5.out zcM) ?_
 rintro e w6 ⟨ta,rfl,ht,hb⟩
 have Hta:=Lib.hid ht
 have Hb6:=Lib.hid (Below.thn Hb5.out hb)
 have Hs5:=Lib.hid Hb5.out.size
 obtain ⟨T1,M1,n1,L1,F1,rfl,-⟩:=ht
 clear hb H5 Hb5
 go_wp2_with fail
 refine Calls.mono (zce 5 32 (by decide) (by decide) (by decide) _) ?_
 rintro e w7 ⟨v7,rfl,ho,hb⟩
 rw [zbb] at ho
 have H7:=Lib.hid (Rw8.own ho (by simp)).row
 have Hta:=Lib.hid (Hta.out.go (K':=fun i=>i<w5.heap.size) (Turns.of_below' hb) (fun _ _ h=>h))
 have Hb7:=Lib.hid (Below.thn Hb6.out hb)
 clear ho hb Hb6
 go_wp2_with fail
 refine Calls.mono (zbY fixD v7 w7 H7.out zcP) ?_
 rintro e w8 ⟨td,rfl,ht,hb⟩
 have Htd:=Lib.hid ht
 have Hta:=Lib.hid (Hta.out.go (K':=fun i=>i<w5.heap.size) (Turns.of_below' hb) (fun _ _ h=>h))
 have Hb8:=Lib.hid (Below.thn Hb7.out hb)
 have Hs7:=Lib.hid Hb7.out.size
 obtain ⟨T2,M2,n2,L2,F2,rfl,-⟩:=ht
 clear hb H7 Hb7
 go_wp2
 go_ret
 have hb9:=Below.al1 w8 (.cells #[.pointer (some ⟨T1,0,none⟩),.pointer (some ⟨T2,0,none⟩)] 269)
 exact ⟨_,rfl,⟨w8.heap.size,_,_,rfl,World.alloc_heap_new _ _,fun h=>by have:=Hb8.out.size;omega,Hta.out.go (Turns.of_below' hb9) (fun i _ h=>Nat.lt_of_lt_of_le h Hs5.out),Htd.out.go (Turns.of_below' hb9) (fun i _ h=>Nat.lt_of_lt_of_le h Hs7.out)⟩,Below.thn Hb8.out hb9⟩
section
variable {base S B:Nat} {sv ov uv:Value} {l:List Nat} {lim a:Nat} {o:List Nat}
def EndsU (base S B:Nat) (sv ov:Value) (l:List Nat) (lim:Nat) (w:World) (R:InfSt→Prop) (e:Ending) (w':World):Prop:=
 (∃(a':Nat) (o':List Nat) (ov' uv':Value),R (.go a' o')∧e= .returned (.tuple #[])∧Sm w' base S B sv ov' uv' l lim a' o'∧Fr S B ov w ov' w')∨(∃er,R (.no er)∧e=zak er∧Turns (KS S B ov) w w')
theorem Ends.u {w:World} {R:InfSt→Prop} {e:Ending} {w':World} (h:Ends base S B sv ov uv l lim w R e w'):EndsU base S B sv ov l lim w R e w':=by
 rcases h with ⟨a',o',ov',h⟩ | h
 ·exact .inl ⟨a',o',ov',uv,h⟩
 ·exact .inr h
theorem EndsU.from {ov1:Value} {w w1:World} {R:InfSt→Prop} {e:Ending} {w':World} (h:EndsU base S B sv ov1 l lim w1 R e w') (hf:Fr S B ov w ov1 w1):EndsU base S B sv ov l lim w R e w':=by
 rcases h with ⟨a',o',ov',uv',h1,h2,h3,h4⟩ | ⟨er,h1,h2,h3⟩
 ·exact .inl ⟨a',o',ov',uv',h1,h2,h3,hf.trans h4⟩
 ·exact .inr ⟨er,h1,h2,hf.throws h3⟩
theorem EndsU.of {w:World} {R R':InfSt→Prop} {e:Ending} {w':World} (h:EndsU base S B sv ov l lim w R e w') (hR:∀r,R r→R' r):EndsU base S B sv ov l lim w R' e w':=by
 rcases h with ⟨a',o',ov',uv',h1,h2,h3,h4⟩ | ⟨er,h1,h2,h3⟩
 ·exact .inl ⟨a',o',ov',uv',hR _ h1,h2,h3,h4⟩
 ·exact .inr ⟨er,hR _ h1,h2,h3⟩
theorem Sm.keeps {w:World} {cv:Value} (h:Sm w base S B sv ov uv l lim a o) (hc:Codn w (KS S B ov) cv fixA fixD):Sm (w.setCell ⟨S,3,none⟩ cv) base S B sv ov cv l lim a o∧Fr S B ov w ov (w.setCell ⟨S,3,none⟩ cv):=by
 obtain ⟨n1,n2,n3,n4,n5⟩:=h.ne
 have ht:Turns (fun i=>i=S) w (w.setCell ⟨S,3,none⟩ cv):=Turns.set (T:=fun i=>i=S) (p:=⟨S,3,none⟩) (Turns.refl _ w) rfl _
 have hf:Fr S B ov w ov (w.setCell ⟨S,3,none⟩ cv):=⟨ht.mono (fun i _ e=> .inl e),fun _ h=> .inl h⟩
 exact ⟨⟨zmf _ h.box,h.rd.turns ht (fun e=>n1 e.symm) (fun k hk e=>n2 (by rw [hk,e])),ht.owns h.out (fun k hk e=>n3 (by rw [hk,e])),.inr (hf.codn hc),h.ne,h.lo,h.le,h.by'⟩,hf⟩
set_option maxRecDepth 20000 in
set_option maxHeartbeats 2000000 in
theorem zkJ (w:World) (h:Sm w base S B sv ov uv l lim a o):
  Calls Tryz.prog 167 #[.pointer (some ⟨S,0,none⟩)] w (EndsU base S B sv ov l lim w (InfToks fixA fixD l lim a o)):=by
 have c3:=h.c3
 have H:=Lib.hid h
 have hA:fixA.length≤320∧fixD.length≤320:=by rw [fixA_len];decide
 rcases h.us with rfl | hc
 ·clear h
  go_enter Tryz.func167,Tryz.ntmps167
  go_wp2_with fail
  refine Calls.mono (zkT w) ?_
  rintro e w1 ⟨cv,rfl,hc,hb⟩
  have H1:=Lib.hid (H.out.below hb)
  have hk:∀i,i<w1.heap.size→KS S B ov i→i<w.heap.size:=fun i _ hi=>by
   rcases hi with rfl | rfl | hi
   ·exact H.out.size
   ·exact H.out.rd.size
   ·exact (H.out.out.lt _ hi).2
  have Hc:=Lib.hid (hc.go (K':=KS S B ov) (Turns.refl _ _) hk)
  have Hk:=Lib.hid (H1.out.1.keeps Hc.out)
  have f3:=H1.out.1.free 3
  have d3:=H1.out.1.c3
  obtain ⟨C,ta,td,rfl,-⟩:=hc
  obtain ⟨w2,hw2⟩:∃w2,w1.setCell ⟨S,3,none⟩ (.pointer (some ⟨C,0,none⟩))=w2:=⟨_,rfl⟩
  rw [hw2] at Hk
  have e3:=Hk.out.1.c3
  have Hw2:=Lib.hid hw2
  clear hb hk c3 hw2
  go_upto_region 2 with (fail)
  rw [Hw2.out]
  clear f3 d3
  go_wp2_with fail
  refine Calls.mono (zfk _ fixA fixD w2 Hk.out.1 (Hk.out.2.codn Hc.out) hA) ?_
  intro e w3 he
  have he:=he.u.from (H1.out.2.trans Hk.out.2)
  have He:=Lib.hid he
  rcases he with ⟨a',o',ov',uv',-,rfl,-⟩ | ⟨er,-,rfl,-⟩
  ·go_wp2
   go_end0
   exact He.out
  ·go_wp2
   exact ⟨rfl,He.out⟩
 ·have Hc:=Lib.hid hc
  obtain ⟨C,ta,td,rfl,-⟩:=hc
  clear h
  go_enter Tryz.func167,Tryz.ntmps167
  go_wp2_with fail
  refine Calls.mono (zfk _ fixA fixD w H.out Hc.out hA) ?_
  intro e w1 he
  have he:=he.u
  have He:=Lib.hid he
  rcases he with ⟨a',o',ov',uv',-,rfl,-⟩ | ⟨er,-,rfl,-⟩
  ·go_wp2
   go_end0
   exact He.out
  ·go_wp2
   exact ⟨rfl,He.out⟩
end
end
section
open Go.RowKit Go.Maps
abbrev SvC (x k c v:Nat) (ls:List Nat):Prop:=
 x=16∧0<ls.length∧k=2∧c=3∧v=ls.getD (ls.length - 1) 0∨x=17∧k=3∧c=3∧v=0∨x=18∧k=7∧c=11∧v=0∨x<16∧k=0∧c=1∧v=x
theorem zmH {ls:List Nat} {j:Nat} (h:ls.length=j+1):ls[j]'(by omega)=ls.getD (ls.length - 1) 0:=by
 have e:ls.length - 1=j:=by omega
 rw [e,List.getD_eq_getElem?_getD,List.getElem?_eq_getElem (by omega)]
 rfl
section
variable {base S B:Nat} {sv ov uv:Value} {l:List Nat} {lim a:Nat} {o:List Nat}
def zqy (base S B:Nat) (sv ov uv:Value) (l:List Nat) (lim a:Nat) (o C ls:List Nat) (w:World) (e:Ending) (w':World):Prop:=
 (∃(x s k c v:Nat),Sy C l a x 0 s∧SvC x k c v ls∧a+s+k≤8*l.length∧e= .returned (.tuple #[.int .u8 (v:Int),.int .i64 ((c+nb l (a+s) k:Nat):Int)])∧Sm w' base S B sv ov uv l lim (a+s+k) o∧Fr S B ov w ov w')∨
 (∃er,(∀n,InfSv C l n a ls (.no er))∧e=zak er∧Turns (KS S B ov) w w')
set_option maxRecDepth 20000 in
set_option maxHeartbeats 4000000 in
theorem zpj (tv av:Value) (C ls:List Nat) (w:World) (h:Sm w base S B sv ov uv l lim a o) (ht:TblV w (KS S B ov) tv C) (hC:C.length=19) (ha:Rw8 w av ls) (hap:∀k,av.ownBlock=some k→¬KS S B ov k) (hls:ls.length≤1000):
  Calls Tryz.prog 215 #[.pointer (some ⟨S,0,none⟩),tv,av] w (zqy base S B sv ov uv l lim a o C ls w):=by
 have H:=Lib.hid h
 have Ht:=Lib.hid ht
 have Ha:=Lib.hid ha
 have Hap:=Lib.hid hap
 obtain ⟨p,c,rfl,hlc,-,hac⟩:=ha.cells
 have Hac:=Lib.hid hac
 obtain ⟨T,M,n,L,F,rfl,-⟩:=ht
 clear h ha hap hac
 go_enter Tryz.func215,Tryz.ntmps215
 go_wp2_with fail
 refine Calls.mono (zff _ C w H.out Ht.out) ?_
 rintro e w1 ⟨x,er,s,hsy,(⟨rfl,rfl,hs⟩ | ⟨her,rfl,hs⟩)⟩
 case inr=>
  have Hs:=Lib.hid hs
  have Hsy:=Lib.hid hsy
  clear hs hsy
  go_wp2
  exact ⟨rfl,.inr ⟨er,fun _=> .bad x s er Hsy.out her,rfl,Hs.out⟩⟩
 have hpos:=hsy.pos
 have Hsy:=Lib.hid hsy
 have H1:=Lib.hid hs
 have Ha1:=Lib.hid (Ha.out.turns hs.2.turns (fun k hk e=>Hap.out k hk e))
 clear hs hsy Ht H Ha
 by_cases h16:x=16
 ·subst h16
  by_cases hn:ls.length=0
  ·have d0:(((ls.length:Nat):Int)==0)=true:=by rw [beq_iff_eq];omega
   go_wp2
   exact ⟨rfl,.inr ⟨80,fun _=> .first s Hsy.out hn,rfl,H1.out.2.turns⟩⟩
  have d0:(((ls.length:Nat):Int)==0)=false:=by rw [beq_eq_false_iff_ne];omega
  have hd:=Below.drew (Below.refl w1.heap.size w1)
  obtain ⟨p',c',e',-,-,hac'⟩:=Rw8.cells Ha1.out
  cases e'
  obtain ⟨j,hj⟩:∃j,ls.length=j+1:=⟨ls.length - 1,by omega⟩
  obtain ⟨g,off,rfl,hg⟩:=hac' j (by omega)
  have hv:ls[j]'(by omega)=ls.getD (ls.length - 1) 0:=zmH hj
  rw [hv] at hg
  obtain ⟨v,hv2⟩:∃v,ls.getD (ls.length - 1) 0=v:=⟨_,rfl⟩
  rw [hv2] at hg
  have Hv:=Lib.hid hv2
  have hw1:IntKind.i64.wrap (((ls.length:Nat):Int) - 1)=(j:Int):=by rw [IntWalk.i64_in _ (by omega)];omega
  have j0:(0:Int)≤(j:Int):=by omega
  have j1:(j:Int)<((ls.length:Nat):Int):=by omega
  have hgk:¬KS S B ov g:=Hap.out g rfl
  have Hj:=Lib.hid hj
  clear hv hv2 hac' hj
  by_cases hfit:a+s+2≤8*l.length
  ·obtain ⟨z,hz⟩:∃z,nb l (a+s) 2=z:=⟨_,rfl⟩
   have hz4:z<4:=by rw [←hz];exact zaS _ _ _
   have Hz:=Lib.hid hz
   have hw2:IntKind.i64.wrap (3+(z:Int))=((3+z:Nat):Int):=by rw [IntWalk.i64_in _ (by omega)];omega
   clear hz
   go_upto_region 7 with (fail)
   go_region_with (go_at_call 170;refine (zgz 2 (by decide) _ H1.out.1.drew.1 hfit).mono ?_;rintro e w2 ⟨rfl,hs⟩;rw [Hz.out];have hg2:=(H1.out.1.drew.2.trans hs.2).turns.cell hg hgk;have Hs:=Lib.hid hs;clear hs)
   all_goals go_wp2
   all_goals go_ret2
   all_goals exact .inl ⟨16,s,2,3,v,Hsy.out,.inl ⟨rfl,by omega,rfl,rfl,Hv.out.symm⟩,hfit,by rw [Hz.out];rfl,Hs.out.1,H1.out.2.trans (H1.out.1.drew.2.trans Hs.out.2)⟩
  ·go_upto_region 7 with (fail)
   refine wp_region_any (by kernel_rfl) ?_
   change wpAny _ _ _ _ _ _ _ (World.drew _)
   refine wpAny_take (i:=0) (v:=?_) rfl (by kernel_rfl) (by kernel_rfl) (by kernel_rfl) (fun _ _ _ h=>h) (Or.inl ⟨by rfl,?hy⟩) ?_
   case hy=>(intro w';go_simp;try with_reducible rfl)
   refine wpAny_take (i:=1) (v:=?_) rfl (by kernel_rfl) (by kernel_rfl) (by kernel_rfl) (fun _ _ _ h=>h) (Or.inl ⟨by rfl,?hy⟩) ?_
   case hy=>(intro w';go_simp;try with_reducible rfl)
   refine wpAny_take (i:=2) (v:=?_) rfl (by kernel_rfl) (by kernel_rfl) (by kernel_rfl) (fun _ _ _ h=>h) (Or.inl ⟨by rfl,?hy⟩) ?_
   case hy=>(intro w';go_simp;try with_reducible rfl)
   refine wpAny_take (i:=3) (v:=?_) rfl (by kernel_rfl) (by kernel_rfl) (by kernel_rfl) (fun _ _ _ h=>h) (Or.inl ⟨by rfl,?hy⟩) ?_
   case hy=>(intro w';go_simp;try with_reducible rfl)
   refine wpAny_take (i:=4) (v:=?_) rfl (by kernel_rfl) (by kernel_rfl) (by kernel_rfl) (fun _ _ _ h=>h) (Or.inl ⟨by rfl,?hy⟩) ?_
   case hy=>(intro w';go_simp;try with_reducible rfl)
   refine wpAny_take (i:=6) (v:=?_) rfl (by kernel_rfl) (by kernel_rfl) (by kernel_rfl) (fun _ _ _ h=>h) (Or.inl ⟨by rfl,?hy⟩) ?_
   case hy=>(intro w';go_simp;try with_reducible rfl)
   refine wpAny_ready (rs:=[5,7]) (by kernel_rfl) (by simp) ?_
   refine AllReady.cons rfl (fun K hK=>?_) (AllReady.cons rfl (fun K hK=>?_) AllReady.nil)
   ·go_simp
    refine hK _ _ ?_
    clear hK K
    refine wpAny_ready (rs:=[7]) (by kernel_rfl) (by simp) ?_
    refine AllReady.cons rfl (fun K hK=>?_) AllReady.nil
    go_simp
    refine (zdw 2 (by decide) _ H1.out.1.drew.1 (by omega)).mono ?_
    rintro e w2 ⟨rfl,hs⟩
    exact ⟨rfl,.inr ⟨50,fun _=> .few 16 s 2 3 v Hsy.out (.inl ⟨rfl,by omega,rfl,rfl,Hv.out.symm⟩) (by omega),rfl,H1.out.2.throws (H1.out.1.drew.2.throws hs)⟩⟩
   ·go_simp
    refine (zdw 2 (by decide) _ H1.out.1.drew.1 (by omega)).mono ?_
    rintro e w2 ⟨rfl,hs⟩
    exact ⟨rfl,.inr ⟨50,fun _=> .few 16 s 2 3 v Hsy.out (.inl ⟨rfl,by omega,rfl,rfl,Hv.out.symm⟩) (by omega),rfl,H1.out.2.throws (H1.out.1.drew.2.throws hs)⟩⟩
 have d16:((x:Int)==16)=false:=by rw [beq_eq_false_iff_ne];omega
 by_cases h17:x=17
 ·subst h17
  go_wp2_with fail
  refine Calls.mono (zaQ 3 (by decide) w1 H1.out.1) ?_
  have hz128:nb l (a+s) 3<128:=Nat.lt_of_lt_of_le (zaS _ _ _) (by decide)
  obtain ⟨z,hz⟩:∃z,nb l (a+s) 3=z:=⟨_,rfl⟩
  rw [hz] at hz128 ⊢
  have Hz:=Lib.hid hz
  have hw2:IntKind.i64.wrap (3+(z:Int))=((3+z:Nat):Int):=by rw [IntWalk.i64_in _ (by omega)];omega
  clear hz
  rintro e w2 (⟨h1,rfl,hs⟩ | ⟨h1,rfl,hs⟩)
  ·have Hs:=Lib.hid hs
   clear hs
   go_wp2
   go_ret2
   exact .inl ⟨17,s,3,3,0,Hsy.out,.inr (.inl ⟨rfl,rfl,rfl,rfl⟩),h1,by rw [Hz.out];rfl,Hs.out.1,H1.out.2.trans Hs.out.2⟩
  ·have Hs:=Lib.hid hs
   clear hs
   go_wp2
   exact ⟨rfl,.inr ⟨50,fun _=> .few 17 s 3 3 0 Hsy.out (.inr (.inl ⟨rfl,rfl,rfl,rfl⟩)) h1,rfl,H1.out.2.throws Hs.out⟩⟩
 have d17:((x:Int)==17)=false:=by rw [beq_eq_false_iff_ne];omega
 by_cases h18:x=18
 ·subst h18
  go_wp2_with fail
  refine Calls.mono (zaQ 7 (by decide) w1 H1.out.1) ?_
  have hz128:nb l (a+s) 7<128:=Nat.lt_of_lt_of_le (zaS _ _ _) (by decide)
  obtain ⟨z,hz⟩:∃z,nb l (a+s) 7=z:=⟨_,rfl⟩
  rw [hz] at hz128 ⊢
  have Hz:=Lib.hid hz
  have hw2:IntKind.i64.wrap (11+(z:Int))=((11+z:Nat):Int):=by rw [IntWalk.i64_in _ (by omega)];omega
  clear hz
  rintro e w2 (⟨h1,rfl,hs⟩ | ⟨h1,rfl,hs⟩)
  ·have Hs:=Lib.hid hs
   clear hs
   go_wp2
   go_ret2
   exact .inl ⟨18,s,7,11,0,Hsy.out,.inr (.inr (.inl ⟨rfl,rfl,rfl,rfl⟩)),h1,by rw [Hz.out];rfl,Hs.out.1,H1.out.2.trans Hs.out.2⟩
  ·have Hs:=Lib.hid hs
   clear hs
   go_wp2
   exact ⟨rfl,.inr ⟨50,fun _=> .few 18 s 7 11 0 Hsy.out (.inr (.inr (.inl ⟨rfl,rfl,rfl,rfl⟩))) h1,rfl,H1.out.2.throws Hs.out⟩⟩
 have d3:((x:Int)==18)=false:=by rw [beq_eq_false_iff_ne];omega
 have hw:IntKind.u8.wrap (x:Int)=(x:Int):=IntWalk.u8_in _ (by omega)
 go_wp2
 go_ret2
 refine .inl ⟨x,s,0,1,x,Hsy.out,.inr (.inr (.inr ⟨by omega,rfl,rfl,rfl⟩)),H1.out.1.rd.pos,by rw [zcF];rfl,H1.out⟩
end
end
section
open Go.RowKit Go.Maps
def lenV (v:Value):Nat:=match v with
 | .slice _ k _=>k
 | _=>0
theorem SvC.v_lt {x k c v:Nat} {ls:List Nat} (h:SvC x k c v ls) (hl:∀b∈ls,b<256):v<256∧1≤c∧c≤11∧k≤7:=by
 rcases h with ⟨-,-,rfl,rfl,rfl⟩ | ⟨-,rfl,rfl,rfl⟩ | ⟨-,rfl,rfl,rfl⟩ | ⟨h,rfl,rfl,rfl⟩
 ·exact ⟨getD_lt hl _,by decide,by decide,by decide⟩
 ·exact ⟨by decide,by decide,by decide,by decide⟩
 ·exact ⟨by decide,by decide,by decide,by decide⟩
 ·exact ⟨by omega,by decide,by decide,by decide⟩
section
variable {base S B:Nat} {sv ov uv:Value} {l:List Nat} {lim a a0:Nat} {o o0:List Nat}
theorem Sm.k {w:World} (h:Sm w base S B sv ov uv l lim a o):∀i,KS S B ov i→i<w.heap.size:=fun i hi=>by
 rcases hi with rfl | rfl | hi
 ·exact h.size
 ·exact h.rd.size
 ·exact (h.out.lt _ hi).2
theorem Sm.apart {w0 w w':World} {T:Nat→Prop} (h0:Sm w0 base S B sv ov uv l lim a0 o0) (h:Sm w base S B sv ov uv l lim a o) (hf:Turns (KS S B ov) w0 w) (ht:Turns T w w') (hT:∀i,T i→w0.heap.size≤i):
  Sm w' base S B sv ov uv l lim a o∧Turns (KS S B ov) w0 w':=by
 have hS:=h0.size
 have hB:=h0.rd.size
 have ht':Turns (KS S B ov) w0 w':=hf.trans' ht (fun i hi h=>absurd (hT i h) (by omega))
 refine ⟨⟨(ht.block S h.size (fun h=>by have:=hT _ h;omega)).trans h.box,h.rd.turns ht (fun h=>by have:=hT _ h;omega) (fun k hk h=>by have:=hT _ h;have:=h0.rd.row.lt k hk;omega),
  ht.owns h.out (fun k hk h=>by have:=hT _ h;have:=(h0.out.lt k hk).2;omega),h0.us.imp id (fun hu=>hu.go ht' (fun _ _ h=>h)),h.ne,h.lo,h.le,h.by'⟩,ht'⟩
set_option maxRecDepth 20000 in
set_option maxHeartbeats 4000000 in
theorem zlX (tv:Value) (C:List Nat) (n:Nat) (hn:n≤1000) (w:World) (h:Sm w base S B sv ov uv l lim a o) (ht:TblV w (KS S B ov) tv C) (hC:C.length=19):
  Calls Tryz.prog 204 #[.pointer (some ⟨S,0,none⟩),tv,.int .i64 (n:Int)] w fun e w'=>
   (∃(a':Nat) (ls:List Nat) (v:Value),InfLs C l n a [] (.go a' ls)∧e= .returned v∧w'.ownsRow w.heap.size 5 1 v ls.length (ls.map u8v)∧ls.length=n∧Sm w' base S B sv ov uv l lim a' o∧Turns (KS S B ov) w w')∨
   (∃er,InfLs C l n a [] (.no er)∧e=zak er∧Turns (KS S B ov) w w'):=by
 have H:=Lib.hid h
 have Ht:=Lib.hid ht
 obtain ⟨T,M,nn,L,F,rfl,-⟩:=ht
 obtain ⟨i0,hi0,hz0,hz1,hz2⟩:=info_parts zaw
 clear h
 go_enter Tryz.func204,Tryz.ntmps204
 go_wp2_with fail
 go_loopw [7] (fun lv wr=> ∃(a1:Nat) (ls:List Nat),Hid (wr.ownsRow w.heap.size 5 1 lv ls.length (ls.map u8v))∧ls.length≤n∧Hid (Sm wr base S B sv ov uv l lim a1 o)∧Hid (Turns (KS S B ov) w wr)∧Hid (∀b∈ls,b<256)∧Hid (∀r,InfLs C l n a1 ls r→InfLs C l n a [] r))
  (fun lv _=>n - lenV lv)
 case atStart=>exact ⟨a,[],Lib.hid (World.ownsRow_nil _ _ _ _),Nat.zero_le _,H,Lib.hid (Turns.refl _ _),Lib.hid (fun _ h=>by cases h),Lib.hid (fun _ h=>h)⟩
 case round=>
  obtain ⟨a1,ls,HO,hle,HS,HT,HB,HR⟩:=hrel
  have hk:=H.out.k
  have hw:=HT.out.size
  obtain ⟨p,c,rfl⟩:=zac HO.out
  have Hap:Hid (∀k,(Value.slice p ls.length c).ownBlock=some k→¬KS S B ov k):=Lib.hid (fun k hk' h=>by have:=(HO.out.lt k hk').1;have:=hk k h;omega)
  have Htb:=Lib.hid (Ht.out.go HT.out (fun _ _ h=>h))
  by_cases hlt:ls.length<n
  ·have d0:decide (((ls.length:Nat):Int)<(n:Int))=true:=by simp only [decide_eq_true_eq];omega
   go_wp2_with fail
   refine Calls.mono (zpj _ _ C ls wr HS.out Htb.out hC (Rw8.own HO.out rfl) Hap.out (by omega)) ?_
   rintro e w1 (⟨x,s,k,cc,v,hsy,hsv,hfit,rfl,hs⟩ | ⟨er,her,rfl,hs⟩)
   case inr=>
    have Hs:=Lib.hid hs
    have Her:=Lib.hid (HR.out _ (.no a1 ls er hlt (her n)))
    clear hs her
    go_wp2
    exact ⟨rfl,.inr ⟨er,Her.out,rfl,HT.out.trans Hs.out⟩⟩
   have hv:=hsv.v_lt HB.out
   have hnb:nb l (a1+s) k<128:=Nat.lt_of_lt_of_le (zaS _ _ _) (Nat.pow_le_pow_right (n:=2) (j:=7) (by decide) hv.2.2.2)
   obtain ⟨t,htm⟩:∃t,cc+nb l (a1+s) k=t:=⟨_,rfl⟩
   rw [htm]
   have htb:1≤t∧t≤1000:=by omega
   have Htm:=Lib.hid htm
   have Hsy:=Lib.hid (And.intro hsy hsv)
   have HS1:=Lib.hid hs.1
   have HT1:=Lib.hid (HT.out.trans hs.2.turns)
   have HO1:=Lib.hid (hs.2.turns.owns HO.out (fun k hk e=>Hap.out k hk e))
   have hw1:IntKind.i64.wrap ((n:Int) - ((ls.length:Nat):Int))=(n:Int) - ((ls.length:Nat):Int):=IntWalk.i64_in _ (by omega)
   clear hs hsy hsv htm hnb hk
   by_cases hmany:n<ls.length+t
   ·have d1:decide ((n:Int) - ((ls.length:Nat):Int)<(t:Int))=true:=by simp only [decide_eq_true_eq];omega
    go_wp2
    exact ⟨rfl,.inr ⟨80,HR.out _ (.no a1 ls 80 hlt (.many x s k cc v Hsy.out.1 Hsy.out.2 hfit (by rw [Htm.out];exact hmany))),rfl,HT1.out⟩⟩
   have d1:decide ((n:Int) - ((ls.length:Nat):Int)<(t:Int))=false:=by simp only [decide_eq_false_iff_not];omega
   go_wp2_with fail
   refine Calls.mono (zce v t hv.1 htb.1 htb.2 w1) ?_
   rintro e w2 ⟨rv,rfl,ho,hb⟩
   rw [zbb] at ho
   have hrv:Rw8 w2 rv (List.replicate t v):=Rw8.own ho (by simp)
   obtain ⟨p2,c2,rfl,-,-,hsrc⟩:=hrv.src zca (by decide)
   rw [zdr,List.length_replicate] at *
   have HO2:=Lib.hid ((Turns.of_below' (T:=fun _=>False) hb).owns HO1.out (fun _ _ h=>h))
   have HS2:=Lib.hid (HS1.out.below hb).1
   have HT2:=Lib.hid (HT1.out.trans (Turns.of_below' hb))
   have Hsrc:=Lib.hid hsrc
   have hws:w.heap.size≤w2.heap.size:=HT2.out.size
   clear ho hrv hsrc hb
   go_wp2_with (at_builtin;refine zai w2 rfl (.tmp 28) (.tmp 31) 28 rfl _ 5 i0 _ 1 1 Tryz.underlying28 hi0 hz0 hz1 hz2 rfl (by decide) (.slice p ls.length c) ls.length (ls.map u8v) rfl HO2.out p2 t c2 ((List.replicate t v).map u8v) rfl (by simp) Hsrc.out (one8 _) ?n3 ?n4 hws ?_)
   case n3=>simp only [maxLen];omega
   case n4=>omega
   intro v3 w3 ho3 hg3 _
   have hgt:Turns (fun k=>(Value.slice p ls.length c).ownBlock=some k) w2 w3:=Turns.of_grown hg3 (fun _ h=>h)
   have hap:=Sm.apart H.out HS2.out HT2.out hgt (fun k hk=>(HO2.out.lt k hk).1)
   have hll:(ls++List.replicate t v).length=ls.length+t:=by simp
   have Hll:=Lib.hid hll
   have HO3:Hid (w3.ownsRow w.heap.size 5 1 v3 (ls++List.replicate t v).length ((ls++List.replicate t v).map u8v)):=Lib.hid (by rw [hll,List.map_append,List.map_replicate];exact ho3)
   have HS3:=Lib.hid hap.1
   have HT3:=Lib.hid hap.2
   have HB3:Hid (∀b∈ls++List.replicate t v,b<256):=Lib.hid (fun b hb=>by
    rcases List.mem_append.1 hb with hb | hb
    ·exact HB.out b hb
    ·rcases List.mem_replicate.1 hb with ⟨-,rfl⟩;exact hv.1)
   have HR3:Hid (∀r,InfLs C l n (a1+s+k) (ls++List.replicate t v) r→InfLs C l n a [] r):=Lib.hid (fun r hr=>HR.out r (.more a1 _ ls _ r hlt (by
    have:=InfSv.go (n:=n) x s k cc v Hsy.out.1 Hsy.out.2 hfit (by rw [Htm.out];omega)
    rw [Htm.out] at this
    exact this) hr))
   have hv3:lenV v3=ls.length+t:=by obtain ⟨q,cq,rfl⟩:=zac ho3;rfl
   have Hv3:=Lib.hid hv3
   clear ho3 hg3 hgt hap hll hv3
   go_wp2
   go_roundw
   case rel=>exact ⟨a1+s+k,_,HO3,by rw [Hll.out];omega,HS3,HT3,HB3,HR3⟩
   case measure=>
    show n - lenV v3<n - ls.length
    rw [Hv3.out];omega
  ·have d0:decide (((ls.length:Nat):Int)<(n:Int))=false:=by simp only [decide_eq_false_iff_not];omega
   go_wp2
   go_ret
   exact .inl ⟨a1,ls,_,HR.out _ (.fin a1 ls (by omega)),rfl,HO.out,by omega,HS.out,HT.out⟩
end
end
section
open Go.RowKit Go.Maps
section
variable {base S B:Nat} {sv ov uv:Value} {l:List Nat} {lim a a0:Nat} {o o0:List Nat}
theorem zkj:∀i,i<19→ordL.getD i 0<19:=by decide
theorem ziJ (f:Nat→Nat) {n x:Nat} (v:Nat) (_hx:x<n):(zah f n).toArray.setIfInBounds x (u8v v)=(zah (fun i=>if i=x then v else f i) n).toArray:=by
 apply Array.ext
 ·simp [zah]
 ·intro i h1 h2
  have hi:i<n:=by simpa [zah] using h2
  rw [Array.getElem_setIfInBounds (by simpa [zah] using hi)]
  by_cases e:x=i
  ·subst e
   simp [zah]
  ·have e':¬i=x:=fun h=>e h.symm
   simp [zah,e,e']
def zqV (base S B:Nat) (sv ov uv:Value) (l:List Nat) (lim a':Nat) (o ls:List Nat) (w:World) (few:Prop) (e:Ending) (w':World):Prop:=
 (∃tv,¬few∧chk ls=0∧e= .returned tv∧TblV w' (KS S B ov) tv ls∧Sm w' base S B sv ov uv l lim a' o∧Turns (KS S B ov) w w')∨
 (few∧e=zak 50∧Turns (KS S B ov) w w')∨(¬few∧chk ls≠0∧e=zak (chk ls)∧Turns (KS S B ov) w w')
set_option maxRecDepth 20000 in
set_option maxHeartbeats 4000000 in
theorem zln (n:Nat) (hn:n≤19) (w:World) (h:Sm w base S B sv ov uv l lim a o):
  Calls Tryz.prog 205 #[.pointer (some ⟨S,0,none⟩),.int .i64 (n:Int)] w (zqV base S B sv ov uv l lim (a+3*n) o (clL l a n) w (8*l.length<a+3*n)):=by
 have H:=Lib.hid h
 clear h
 go_enter Tryz.func205,Tryz.ntmps205
 go_upto_region 1 with (fail)
 refine wp_region_lit ?_
 refine wpList_buildTo rfl 286 _ rfl (some 9) rfl ((ordL.map u8v).toArray) (by kernel_rfl) ?_
 refine wpList_plain rfl fun K hK=>?_
 go_simp
 refine hK _ _ ?_
 clear hK K
 have hz:=World.alloc_heap_new w (.cells #[.int .u8 0,.int .u8 0,.int .u8 0,.int .u8 0,.int .u8 0,.int .u8 0,.int .u8 0,.int .u8 0,.int .u8 0,.int .u8 0,.int .u8 0,.int .u8 0,.int .u8 0,.int .u8 0,.int .u8 0,.int .u8 0,.int .u8 0,.int .u8 0,.int .u8 0] 286)
 refine wpList_store_rowTo rfl 286 _ _ rfl rfl w.heap.size ((ordL.map u8v).toArray) rfl rfl 286 _ hz (by kernel_rfl) (by kernel_rfl) (by kernel_rfl) ?_
 generalize hw1:World.setRow _ w.heap.size _=w1
 have ho1:w1.heap[w.heap.size]? =some (.cells (ordL.map u8v).toArray 286):=by rw [←hw1];exact setRow_heap _ _ _ _ _ _ hz
 have hb1:Below w.heap.size w w1:=by rw [←hw1];exact below_setRow (Below.al1 _ _) (Nat.le_refl _) _
 clear hw1 hz
 go_upto_region 3 with (fail)
 have hz2:(w1.alloc (.cells (zah (clF l a 0) 19).toArray 286)).heap[w1.heap.size]? =some (.cells (zah (clF l a 0) 19).toArray 286):=World.alloc_heap_new _ _
 have hb2:Below w.heap.size w (w1.alloc (.cells (zah (clF l a 0) 19).toArray 286)):=Below.thn hb1 (Below.al1 _ _)
 have hoz:w.heap.size<w1.heap.size:=zab ho1
 have ho2:(w1.alloc (.cells (zah (clF l a 0) 19).toArray 286)).heap[w.heap.size]? =some (.cells (ordL.map u8v).toArray 286):=((Below.al1 w1 _).block _ hoz).trans ho1
 change Code.wp _ _ _ _ (w1.alloc (.cells (zah (clF l a 0) 19).toArray 286))
 generalize w1.alloc _=W at *
 obtain ⟨Z,hZ⟩:∃Z,w1.heap.size=Z:=⟨_,rfl⟩
 obtain ⟨O,hO⟩:∃O,w.heap.size=O:=⟨_,rfl⟩
 rw [hZ] at hz2 hoz ⊢
 rw [hO] at ho2 hoz ⊢
 have HK:Hid (∀i,KS S B ov i→i<O):=Lib.hid (by rw [←hO];exact H.out.k)
 have HO:=Lib.hid hO
 have H1:=Lib.hid (And.intro (H.out.below hb2).1 (Turns.of_below' (T:=KS S B ov) hb2))
 have Hz:=Lib.hid hz2
 have Ho:=Lib.hid ho2
 have hn1:(n:Int)≤19:=by omega
 have hn0:(0:Int)≤(n:Int):=by omega
 clear hz2 hb2 ho2 hb1 ho1 hZ hO
 go_wp2_with fail
 go_loopw [13] (fun iv wr=> ∃i:Nat,iv= .int .i64 (i:Int)∧i≤n∧Hid (Sm wr base S B sv ov uv l lim (a+3*i) o∧Turns (KS S B ov) w wr)∧Hid (wr.heap[Z]? =some (.cells (zah (clF l a i) 19).toArray 286))∧Hid (wr.heap[O]? =some (.cells (ordL.map u8v).toArray 286))) (fun iv _=>n - (intOf iv).toNat)
 case atStart=>exact ⟨0,rfl,Nat.zero_le _,H1,Hz,Ho⟩
 case round=>
  obtain ⟨i,rfl,hi,HS,HZ,HOr⟩:=hrel
  by_cases hin:i<n
  ·have d0:decide ((i:Int)<(n:Int))=true:=by simp;omega
   have hx:=zkj i (by omega)
   have hcell:wr.cell? ⟨O,i,none⟩=some (.int .u8 ((ordL.getD i 0:Nat):Int)):=by
    have hl:i<ordL.length:=by show i<19;omega
    rw [zaa HOr.out (i:=i) (v:=u8v (ordL.getD i 0)) (by rw [List.getElem?_toArray,List.getElem?_map,List.getD_eq_getElem?_getD,List.getElem?_eq_getElem hl];rfl)]
    rfl
   obtain ⟨x,hxe⟩:∃x,ordL.getD i 0=x:=⟨_,rfl⟩
   rw [hxe] at hcell hx
   have Hx:=Lib.hid hxe
   have j0:(0:Int)≤(i:Int):=by omega
   have j1:(i:Int)<(n:Int):=by omega
   clear hxe
   go_wp2_with fail
   refine Calls.mono (zaQ 3 (by decide) wr HS.out.1) ?_
   rintro e w2 (⟨h1,rfl,hs⟩ | ⟨h1,rfl,hs⟩)
   case inr=>
    have Hs:=Lib.hid hs
    clear hs
    go_wp2
    exact ⟨rfl,.inr (.inl ⟨by omega,rfl,HS.out.2.trans Hs.out⟩)⟩
   have hz8:nb l (a+3*i) 3<8:=zaS _ _ _
   obtain ⟨z,hz⟩:∃z,nb l (a+3*i) 3=z:=⟨_,rfl⟩
   rw [hz] at hz8 ⊢
   have Hze:=Lib.hid hz
   have hwz:IntKind.u8.wrap (z:Int)=(z:Int):=IntWalk.u8_in _ (by omega)
   have HS2:=Lib.hid (And.intro hs.1 (HS.out.2.trans hs.2.turns))
   have hZ2:w2.heap[Z]? =some (.cells (zah (clF l a i) 19).toArray 286):=(hs.2.turns.block Z (zab HZ.out) (fun h=>by have:=HK.out Z h;omega)).trans HZ.out
   have HO2:Hid (w2.heap[O]? =some (.cells (ordL.map u8v).toArray 286)):=Lib.hid ((hs.2.turns.block O (zab HOr.out) (fun h=>by have:=HK.out O h;omega)).trans HOr.out)
   have hc2:w2.cell? ⟨Z,x,none⟩=some (u8v (clF l a i x)):=zaa hZ2 (by rw [List.getElem?_toArray,zbE _ hx])
   have hf2:w2.frozen? ⟨Z,x,none⟩=false:=by simp [World.frozen?,hZ2]
   have hset:(w2.setCell ⟨Z,x,none⟩ (u8v z)).heap[Z]? =some (.cells (zah (clF l a (i+1)) 19).toArray 286):=by
    rw [setCell_eq_setRow w2 Z x _ _ _ _ hZ2,setRow_heap w2 Z _ _ _ _ hZ2,ziJ _ _ hx]
    have:(fun k=>if k=x then z else clF l a i k)=clF l a (i+1):=by
     funext k
     show _=if k=ordL.getD i 0 then nb l (a+3*i) 3 else clF l a i k
     rw [Hx.out,Hze.out]
    rw [this]
   have hset2:(w2.setCell ⟨Z,x,none⟩ (u8v z)).heap[O]? =some (.cells (ordL.map u8v).toArray 286):=(Below.heap_setCell _ _ _ O (fun h=>by simp only at h;omega)).trans HO2.out
   have hap:=Sm.apart H.out HS2.out.1 HS2.out.2 (T:=fun k=>k=Z) (Turns.set (T:=fun k=>k=Z) (p:=⟨Z,x,none⟩) (Turns.refl _ w2) rfl (u8v z)) (fun k hk=>by cases hk;have:=HO.out;omega)
   have x0:(0:Int)≤(x:Int):=by omega
   have x1:(x:Int)<19:=by omega
   unfold u8v at hc2 hset hset2 hap
   have Hset:=Lib.hid (And.intro hset (And.intro hset2 hap))
   clear hs hz hZ2 hset hset2 hap
   go_wp2
   go_roundw
   case rel=>exact ⟨i+1,by go_num,by omega,Lib.hid ⟨by rw [show a+3*(i+1)=a+3*i+3 by omega];exact Hset.out.2.2.1,Hset.out.2.2.2⟩,Lib.hid Hset.out.1,Lib.hid Hset.out.2.1⟩
   case measure=>simp [intOf];omega
  ·obtain rfl:i=n:=by omega
   have hpos:=HS.out.1.rd.pos
   have hcl:(clL l a i).length=19:=by simp [clL]
   have hrow:Row enc8 1 wr (.slice (some ⟨Z,0,none⟩) 19 19) (clL l a i):=by
    refine ⟨some ⟨Z,0,none⟩,19,by rw [hcl],by omega,by decide,.inr ⟨Z,0,rfl,zab HZ.out,fun k x hx j u hu=>?_⟩⟩
    cases j with
    | succ j=>cases hu
    | zero=>
     cases hu
     have hk:k<19:=by rw [←hcl];exact (List.getElem?_eq_some_iff.1 hx).1
     rw [Nat.mul_one,Nat.zero_add,Nat.add_zero]
     refine zaa HZ.out ?_
     rw [List.getElem?_toArray,zbE _ hk]
     have:clF l a i k=x:=by
      unfold clL at hx
      rw [List.getElem?_map,List.getElem?_range hk] at hx
      simpa using hx
     rw [this]
   have Hrow:=Lib.hid hrow
   clear hrow hcl
   by_cases hc:chk (clL l a i)=0
   ·have Hc:=Lib.hid hc
    clear hc
    go_wp2_with fail
    refine Calls.mono (zbY _ _ wr Hrow.out Hc.out) ?_
    rintro e w2 ⟨tv,rfl,ht,hb⟩
    have Ht:=Lib.hid (ht.go (K':=KS S B ov) (Turns.refl _ _) (fun k _ hk=>by have:=HK.out k hk;have:=HS.out.2.size;have:=HO.out;omega))
    have Hb:=Lib.hid hb
    clear ht hb
    go_wp2
    go_ret
    exact .inl ⟨_,by omega,Hc.out,rfl,Ht.out,(HS.out.1.below Hb.out).1,HS.out.2.trans (Turns.of_below' Hb.out)⟩
   ·have Hc:=Lib.hid hc
    clear hc
    go_wp2_with fail
    refine Calls.mono (zdC _ _ wr Hrow.out Hc.out) ?_
    rintro e w2 ⟨rfl,rfl⟩
    go_wp2
    exact ⟨rfl,.inr (.inr ⟨by omega,Hc.out,rfl,HS.out.2⟩)⟩
end
end
end Go.Proofs.YtedakhgaghfogaaGreat
