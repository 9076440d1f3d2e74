/- Several texts in one, each with its own head. -/
import Derived.Test.YtedakhgaghfogaaGreatQs15
namespace Go.Proofs.YtedakhgaghfogaaGreat
section
open Go.RowKit Go.Maps
theorem zi5 (G n c m:Nat) (h:m≤n) (hc:m<c) (w:World):(Instr.slice 28 (.slice (some ⟨G,0,none⟩) n c) (some (.int .i64 (m:Int))) none none).run Tryz.prog w= .ok (.slice (some ⟨G,m,none⟩) (n - m) (c - m)) w:=by
 obtain ⟨i,hi,hz,hs,hb⟩:=info_parts zaw
 rw [run_slice_l w 28 (some ⟨G,0,none⟩) n c (by kernel_rfl) .i64 (m:Int) (by omega) (by omega),Int.toNat_natCast]
 have:¬c=m:=by omega
 simp [go_sem,this]
theorem zi3 (G n c m:Nat) (h:m≤c) (w:World):(Instr.slice 28 (.slice (some ⟨G,0,none⟩) n c) none (some (.int .i64 (m:Int))) none).run Tryz.prog w= .ok (.slice (some ⟨G,0,none⟩) m c) w:=by
 obtain ⟨i,hi,hz,hs,hb⟩:=info_parts zaw
 rw [run_slice_h w 28 (some ⟨G,0,none⟩) n c (by kernel_rfl) .i64 (m:Int) (by omega) (by omega),Int.toNat_natCast]
 simp [go_sem]
theorem zed {w:World} {g off c:Nat} {xs:List Nat} (hg:g<w.heap.size) (hx:∀i (h:i<xs.length),w.cell? ⟨g,off+i,none⟩=some (u8v xs[i])) (hc:xs.length≤c) (hm:c≤maxLen):Row enc8 1 w (.slice (some ⟨g,off,none⟩) xs.length c) xs:=by
 refine ⟨_,c,rfl,hc,hm,.inr ⟨g,off,rfl,hg,fun i x hxi j u hu=>?_⟩⟩
 cases j with
 | succ j=>cases hu
 | zero=>
  cases hu
  obtain ⟨h1,rfl⟩:=List.getElem?_eq_some_iff.1 hxi
  rw [Nat.mul_one,Nat.add_zero]
  exact hx i h1
section
variable {base S B:Nat} {sv ov uv:Value} {l:List Nat} {lim a a0:Nat} {o o0:List Nat}
def zqr (base S B:Nat) (sv ov uv:Value) (l:List Nat) (lim a:Nat) (o:List Nat) (w:World) (e:Ending) (w':World):Prop:=
 (∃(n a':Nat) (ls:List Nat) (cv:Value),InfDy l a n (.go a' ls)∧ls.length≤316∧e= .returned cv∧Codn w' (KS S B ov) cv (ls.take n) (ls.drop n)∧Sm w' base S B sv ov uv l lim a' o∧Turns (KS S B ov) w w')∨
 (∃er,InfDy l a 0 (.no er)∧e=zak er∧Turns (KS S B ov) w w')
set_option maxRecDepth 20000 in
set_option maxHeartbeats 4000000 in
theorem zpi (w:World) (h:Sm w base S B sv ov uv l lim a o):
  Calls Tryz.prog 187 #[.pointer (some ⟨S,0,none⟩)] w (zqr base S B sv ov uv l lim a o w):=by
 have H:=Lib.hid h
 clear h
 go_enter Tryz.func187,Tryz.ntmps187
 go_wp2_with fail
 refine Calls.mono (zaQ 5 (by decide) w H.out) ?_
 have h32:nb l a 5<32:=zaS _ _ _
 obtain ⟨x,hx⟩:∃x,nb l a 5=x:=⟨_,rfl⟩
 rw [hx] at h32 ⊢
 have Hx:=Lib.hid hx
 clear hx
 rintro e w1 (⟨f1,rfl,hs⟩ | ⟨f1,rfl,hs⟩)
 case inr=>
  have Hs:=Lib.hid hs
  clear hs
  go_wp2
  exact ⟨rfl,.inr ⟨50,.few (by omega),rfl,Hs.out⟩⟩
 have H1:=Lib.hid hs
 obtain ⟨X,hX⟩:∃X,x+257=X:=⟨_,rfl⟩
 have HX:=Lib.hid hX
 have hw1:IntKind.i64.wrap ((x:Int)+257)=(X:Int):=by rw [IntWalk.i64_in _ (by omega)];omega
 clear hX
 clear hs
 go_wp2_with fail
 refine Calls.mono (zaQ 5 (by decide) w1 H1.out.1) ?_
 have h32y:nb l (a+5) 5<32:=zaS _ _ _
 obtain ⟨y,hy⟩:∃y,nb l (a+5) 5=y:=⟨_,rfl⟩
 rw [hy] at h32y ⊢
 have Hy:=Lib.hid hy
 clear hy
 rintro e w2 (⟨f2,rfl,hs⟩ | ⟨f2,rfl,hs⟩)
 case inr=>
  have Hs:=Lib.hid hs
  clear hs
  go_wp2
  exact ⟨rfl,.inr ⟨50,.few (by omega),rfl,H1.out.2.throws Hs.out⟩⟩
 have H2:=Lib.hid (And.intro hs.1 (H1.out.2.trans hs.2))
 obtain ⟨Y,hY⟩:∃Y,y+1=Y:=⟨_,rfl⟩
 have HY:=Lib.hid hY
 have hw2:IntKind.i64.wrap ((y:Int)+1)=(Y:Int):=by rw [IntWalk.i64_in _ (by omega)];omega
 clear hY
 clear hs H1
 go_wp2_with fail
 refine Calls.mono (zaQ 4 (by decide) w2 H2.out.1) ?_
 have h16:nb l (a+5+5) 4<16:=zaS _ _ _
 obtain ⟨z,hz⟩:∃z,nb l (a+5+5) 4=z:=⟨_,rfl⟩
 rw [hz] at h16 ⊢
 have Hz:=Lib.hid (show nb l (a+10) 4=z from hz)
 clear hz
 rintro e w3 (⟨f3,rfl,hs⟩ | ⟨f3,rfl,hs⟩)
 case inr=>
  have Hs:=Lib.hid hs
  clear hs
  go_wp2
  exact ⟨rfl,.inr ⟨50,.few (by omega),rfl,H2.out.2.throws Hs.out⟩⟩
 have H3:=Lib.hid (show Sm w3 base S B sv ov uv l lim (a+14) o∧Fr S B ov w ov w3 from ⟨hs.1,H2.out.2.trans hs.2⟩)
 obtain ⟨Z,hZ⟩:∃Z,z+4=Z:=⟨_,rfl⟩
 have HZ:=Lib.hid hZ
 have hw3:IntKind.i64.wrap ((z:Int)+4)=(Z:Int):=by rw [IntWalk.i64_in _ (by omega)];omega
 have hZ19:Z≤19:=by omega
 clear hZ
 have hfit:a+14≤8*l.length:=by omega
 clear hs H2 f1 f2 f3
 have hX31:257≤X∧X≤288:=by have:=HX.out;omega
 have hY31:1≤Y∧Y≤32:=by have:=HY.out;omega
 by_cases hm1:286<X
 ·have Hm:=Lib.hid (InfDy.many (l:=l) (a:=a) hfit (.inl (by rw [Hx.out,HX.out];exact hm1)))
  have d1:decide (286<X)=true:=by simpa using hm1
  have d1':decide ((X:Int)>286)=true:=by simp only [decide_eq_true_eq];omega
  go_wp2
  exact ⟨rfl,.inr ⟨80,Hm.out,rfl,H3.out.2.turns⟩⟩
 have d1:decide (286<X)=false:=by simpa using hm1
 have d1':decide ((X:Int)>286)=false:=by simp only [decide_eq_false_iff_not];omega
 by_cases hm2:30<Y
 ·have Hm:=Lib.hid (InfDy.many (l:=l) (a:=a) hfit (.inr (by rw [Hy.out,HY.out];exact hm2)))
  have d2:decide (30<Y)=true:=by simpa using hm2
  have d2':decide ((Y:Int)>30)=true:=by simp only [decide_eq_true_eq];omega
  go_wp2
  exact ⟨rfl,.inr ⟨80,Hm.out,rfl,H3.out.2.turns⟩⟩
 have d2:decide (30<Y)=false:=by simpa using hm2
 have d2':decide ((Y:Int)>30)=false:=by simp only [decide_eq_false_iff_not];omega
 have Hno:=Lib.hid (show nb l a 5+257≤286∧nb l (a+5) 5+1≤30 by rw [Hx.out,Hy.out,HX.out,HY.out];omega)
 have hwN:IntKind.i64.wrap ((X:Int)+(Y:Int))=((X+Y:Nat):Int):=by rw [IntWalk.i64_in _ (by omega)];omega
 obtain ⟨N,hN⟩:∃N,X+Y=N:=⟨_,rfl⟩
 rw [hN] at hwN
 have HN:=Lib.hid hN
 have hN':258≤N∧N≤316∧X<N:=by omega
 clear hN
 have eZ:nb l (a+10) 4+4=Z:=by rw [Hz.out,HZ.out]
 have eX:nb l a 5+257=X:=by rw [Hx.out,HX.out]
 have eN:nb l a 5+257+(nb l (a+5) 5+1)=N:=by rw [Hx.out,HX.out,Hy.out,HY.out,HN.out]
 have HE:=Lib.hid (And.intro eZ (And.intro eX eN))
 clear eZ eX eN
 go_wp2_with fail
 refine Calls.mono (zln Z hZ19 w3 H3.out.1) ?_
 rintro e w4 (⟨tv,f4,hc4,rfl,ht4,hs4⟩ | ⟨f4,rfl,hs4⟩ | ⟨f4,hc4,rfl,hs4⟩)
 case inr.inl=>
  have Hs:=Lib.hid hs4
  clear hs4
  go_wp2
  exact ⟨rfl,.inr ⟨50,.few2 hfit Hno.out (by rw [HE.out.1];exact f4),rfl,H3.out.2.throws Hs.out⟩⟩
 case inr.inr=>
  have Hs:=Lib.hid hs4
  have Hc4:=Lib.hid hc4
  clear hs4 hc4
  go_wp2
  have:=InfDy.code (l:=l) (a:=a) hfit Hno.out (by rw [HE.out.1];omega) (by rw [HE.out.1];exact Hc4.out)
  rw [HE.out.1] at this
  exact ⟨rfl,.inr ⟨_,this,rfl,H3.out.2.throws Hs.out⟩⟩
 have Hc4:=Lib.hid hc4
 have Ht4:=Lib.hid ht4
 have H4:=Lib.hid (And.intro hs4.1 (H3.out.2.throws hs4.2))
 have hcl:(clL l (a+14) Z).length=19:=by simp [clL]
 have hf4:a+14+3*Z≤8*l.length:=by omega
 obtain ⟨T4,M4,n4,L4,F4,rfl,-⟩:=ht4
 clear hs4 hc4 f4 H3
 go_wp2_with fail
 refine Calls.mono (zlX _ (clL l (a+14) Z) N (by omega) w4 H4.out.1 Ht4.out hcl) ?_
 rintro e w5 (⟨a',ls,v,hls,rfl,ho,hln,hs5⟩ | ⟨er,hls,rfl,hs5⟩)
 case inr=>
  have Hs:=Lib.hid hs5
  have Hls:=Lib.hid hls
  clear hs5 hls
  go_wp2
  have:=InfDy.lens (l:=l) (a:=a) hfit Hno.out (by rw [HE.out.1];exact hf4) (by rw [HE.out.1];exact Hc4.out) er (by rw [HE.out.1,HE.out.2.2];exact Hls.out)
  exact ⟨rfl,.inr ⟨_,this,rfl,H4.out.2.trans Hs.out⟩⟩
 have Hls:=Lib.hid hls
 have H5:=Lib.hid (And.intro hs5.1 (H4.out.2.trans hs5.2))
 have hw45:=H4.out.2.size
 obtain ⟨g,c,rfl,hgb,hglt,hcell⟩:=ziX ho (by omega)
 obtain ⟨p',c',e',hc1,hc2,-⟩:=(Rw8.own ho rfl).cells
 cases e'
 have hget:∀i (h:i<ls.length),w5.cell? ⟨g,i,none⟩=some (u8v ls[i]):=fun i h=>hcell i _ (by rw [List.getElem?_map,List.getElem?_eq_getElem h];rfl)
 have c256:w5.cell? ⟨g,256,none⟩=some (.int .u8 ((lq ls 256:Nat):Int)):=by
  have:=hget 256 (by omega)
  rw [zdn] at this
  exact this
 have rowA:Row enc8 1 w5 (.slice (some ⟨g,0,none⟩) X c) (ls.take X):=by
  have h:=zed (c:=c) (xs:=ls.take X) (off:=0) hglt (fun i hi=>by
   have hi':i<ls.length:=by simp at hi;omega
   rw [Nat.zero_add,hget i hi',List.getElem_take]) (by simp;omega) hc2
  rw [List.length_take,Nat.min_eq_left (by omega)] at h
  exact h
 have rowD:Row enc8 1 w5 (.slice (some ⟨g,X,none⟩) (N - X) (c - X)) (ls.drop X):=by
  have h:=zed (c:=c - X) (xs:=ls.drop X) (off:=X) hglt (fun i hi=>by
   have hi':X+i<ls.length:=by simp at hi;omega
   rw [hget (X+i) hi',List.getElem_drop]) (by simp;omega) (by omega)
  rw [List.length_drop,hln] at h
  exact h
 rw [hln]
 have hsA:=zi3 g N c X (by omega)
 have hsD:=zi5 g N c X (by omega) (by omega)
 have RA:=Lib.hid (rowA.below (Below.drew (Below.refl w5.heap.size w5)))
 have RD:=Lib.hid (rowD.below (Below.drew (Below.refl w5.heap.size w5)))
 have Hln:=Lib.hid hln
 obtain ⟨L,hL⟩:∃L,lq ls 256=L:=⟨_,rfl⟩
 rw [hL] at c256
 have HL:=Lib.hid hL
 have hw5:w4.heap.size≤w5.heap.size:=hs5.2.size
 clear hls hs5 ho hget hcell rowA rowD hL hln hc1 hc2 hgb H4
 have hlast:∀er,(lq ls 256=0∧er=80∨lq ls 256≠0∧chk (ls.take X)≠0∧er=chk (ls.take X)∨lq ls 256≠0∧chk (ls.take X)=0∧chk (ls.drop X)≠0∧er=chk (ls.drop X))→InfDy l a 0 (.no er):=fun er h=>
  InfDy.last (l:=l) (a:=a) hfit Hno.out (by rw [HE.out.1];exact hf4) (by rw [HE.out.1];exact Hc4.out) a' ls (by rw [HE.out.1,HE.out.2.2];exact Hls.out) er (by rw [HE.out.2.1];exact h)
 have Hlast:=Lib.hid hlast
 have hdone:(lq ls 256≠0∧chk (ls.take X)=0∧chk (ls.drop X)=0)→InfDy l a X (.go a' ls):=fun h=>by
  have:=InfDy.done (l:=l) (a:=a) hfit Hno.out (by rw [HE.out.1];exact hf4) (by rw [HE.out.1];exact Hc4.out) a' ls (by rw [HE.out.1,HE.out.2.2];exact Hls.out) (by rw [HE.out.2.1];exact h)
  rw [HE.out.2.1] at this
  exact this
 have Hdone:=Lib.hid hdone
 clear hlast hdone
 by_cases hL0:L=0
 ·have d0:(((L:Nat):Int)==0)=true:=by rw [beq_iff_eq];omega
  go_wp2
  exact ⟨rfl,.inr ⟨80,Hlast.out 80 (.inl ⟨by rw [HL.out];exact hL0,rfl⟩),rfl,H5.out.2⟩⟩
 have d0:(((L:Nat):Int)==0)=false:=by rw [beq_eq_false_iff_ne];omega
 have HL0:=Lib.hid (show lq ls 256≠0 by rw [HL.out];exact hL0)
 have hk:Hid (∀i,KS S B ov i→i<w5.heap.size):=Lib.hid H5.out.1.k
 go_upto_region 7 with (fail)
 have hdr:Below w5.heap.size w5 w5.drew:=Below.drew (Below.refl _ _)
 have H6:=Lib.hid (And.intro (H5.out.1.below hdr).1 (H5.out.2.trans (Turns.of_below' hdr)))
 by_cases hA:chk (ls.take X)=0
 case neg=>
  have HA:=Lib.hid hA
  clear hA
  refine wp_region_any (by kernel_rfl) ?_
  change wpAny _ _ _ _ _ _ _ (World.drew _)
  refine wpAny_take (i:=0) (v:=?_) rfl (by kernel_rfl) (by kernel_rfl) (by kernel_rfl) (fun _ _ _ h=>h) (Or.inl ⟨by rfl,?hy⟩) ?_
  case hy=>(intro w';go_simp;try with_reducible rfl)
  refine wpAny_take (i:=1) (v:=?_) rfl (by kernel_rfl) (by kernel_rfl) (by kernel_rfl) (fun _ _ _ h=>h) (Or.inl ⟨by rfl,?hy⟩) ?_
  case hy=>(intro w';go_simp;try with_reducible rfl)
  refine wpAny_take (i:=2) (v:=?_) rfl (by kernel_rfl) (by kernel_rfl) (by kernel_rfl) (fun _ _ _ h=>h) (Or.inl ⟨by rfl,?hy⟩) ?_
  case hy=>(intro w';go_simp;try with_reducible rfl)
  refine wpAny_take (i:=4) (v:=?_) rfl (by kernel_rfl) (by kernel_rfl) (by kernel_rfl) (fun _ _ _ h=>h) (Or.inl ⟨by rfl,?hy⟩) ?_
  case hy=>(intro w';go_simp;try with_reducible rfl)
  refine wpAny_take (i:=5) (v:=?_) rfl (by kernel_rfl) (by kernel_rfl) (by kernel_rfl) (fun _ _ _ h=>h) (Or.inl ⟨by rfl,?hy⟩) ?_
  case hy=>(intro w';go_simp;try with_reducible rfl)
  refine wpAny_take (i:=6) (v:=?_) rfl (by kernel_rfl) (by kernel_rfl) (by kernel_rfl) (fun _ _ _ h=>h) (Or.inl ⟨by rfl,?hy⟩) ?_
  case hy=>(intro w';go_simp;try with_reducible rfl)
  refine wpAny_ready (rs:=[3]) (by kernel_rfl) (by simp) ?_
  refine AllReady.cons rfl (fun K hK=>?_) AllReady.nil
  go_simp
  refine (zdC _ _ _ RA.out HA.out).mono ?_
  rintro e w6 ⟨rfl,rfl⟩
  exact ⟨rfl,.inr ⟨_,Hlast.out _ (.inr (.inl ⟨HL0.out,HA.out,rfl⟩)),rfl,H6.out.2⟩⟩
 have HA:=Lib.hid hA
 clear hA
 by_cases hD:chk (ls.drop X)=0
 case neg=>
  have HD:=Lib.hid hD
  clear hD
  refine wp_region_any (by kernel_rfl) ?_
  change wpAny _ _ _ _ _ _ _ (World.drew _)
  refine wpAny_take (i:=0) (v:=?_) rfl (by kernel_rfl) (by kernel_rfl) (by kernel_rfl) (fun _ _ _ h=>h) (Or.inl ⟨by rfl,?hy⟩) ?_
  case hy=>(intro w';go_simp;try with_reducible rfl)
  refine wpAny_take (i:=1) (v:=?_) rfl (by kernel_rfl) (by kernel_rfl) (by kernel_rfl) (fun _ _ _ h=>h) (Or.inl ⟨by rfl,?hy⟩) ?_
  case hy=>(intro w';go_simp;try with_reducible rfl)
  refine wpAny_take (i:=2) (v:=?_) rfl (by kernel_rfl) (by kernel_rfl) (by kernel_rfl) (fun _ _ _ h=>h) (Or.inl ⟨by rfl,?hy⟩) ?_
  case hy=>(intro w';go_simp;try with_reducible rfl)
  refine wpAny_take (i:=4) (v:=?_) rfl (by kernel_rfl) (by kernel_rfl) (by kernel_rfl) (fun _ _ _ h=>h) (Or.inl ⟨by rfl,?hy⟩) ?_
  case hy=>(intro w';go_simp;try with_reducible rfl)
  refine wpAny_take (i:=5) (v:=?_) rfl (by kernel_rfl) (by kernel_rfl) (by kernel_rfl) (fun _ _ _ h=>h) (Or.inl ⟨by rfl,?hy⟩) ?_
  case hy=>(intro w';go_simp;try with_reducible rfl)
  refine wpAny_take (i:=6) (v:=?_) rfl (by kernel_rfl) (by kernel_rfl) (by kernel_rfl) (fun _ _ _ h=>h) (Or.inl ⟨by rfl,?hy⟩) ?_
  case hy=>(intro w';go_simp;try with_reducible rfl)
  refine wpAny_ready (rs:=[3]) (by kernel_rfl) (by simp) ?_
  refine AllReady.cons rfl (fun K hK=>?_) AllReady.nil
  go_simp
  refine (zbY _ _ _ RA.out HA.out).mono ?_
  rintro e w6 ⟨ta,rfl,hta,hb6⟩
  refine hK _ _ ?_
  clear hK K
  refine wpAny_ready (rs:=[7]) (by kernel_rfl) (by simp) ?_
  refine AllReady.cons rfl (fun K hK=>?_) AllReady.nil
  go_simp
  refine (zdC _ _ _ (RD.out.below hb6) HD.out).mono ?_
  rintro e w7 ⟨rfl,rfl⟩
  exact ⟨rfl,.inr ⟨_,Hlast.out _ (.inr (.inr ⟨HL0.out,HA.out,HD.out,rfl⟩)),rfl,H6.out.2.trans (Turns.of_below' hb6)⟩⟩
 have HD:=Lib.hid hD
 clear hD
 refine wp_region_any (by kernel_rfl) ?_
 change wpAny _ _ _ _ _ _ _ (World.drew _)
 refine wpAny_take (i:=0) (v:=?_) rfl (by kernel_rfl) (by kernel_rfl) (by kernel_rfl) (fun _ _ _ h=>h) (Or.inl ⟨by rfl,?hy⟩) ?_
 case hy=>(intro w';go_simp;try with_reducible rfl)
 refine wpAny_take (i:=1) (v:=?_) rfl (by kernel_rfl) (by kernel_rfl) (by kernel_rfl) (fun _ _ _ h=>h) (Or.inl ⟨by rfl,?hy⟩) ?_
 case hy=>(intro w';go_simp;try with_reducible rfl)
 refine wpAny_take (i:=2) (v:=?_) rfl (by kernel_rfl) (by kernel_rfl) (by kernel_rfl) (fun _ _ _ h=>h) (Or.inl ⟨by rfl,?hy⟩) ?_
 case hy=>(intro w';go_simp;try with_reducible rfl)
 refine wpAny_take (i:=4) (v:=?_) rfl (by kernel_rfl) (by kernel_rfl) (by kernel_rfl) (fun _ _ _ h=>h) (Or.inl ⟨by rfl,?hy⟩) ?_
 case hy=>(intro w';go_simp;try with_reducible rfl)
 refine wpAny_take (i:=5) (v:=?_) rfl (by kernel_rfl) (by kernel_rfl) (by kernel_rfl) (fun _ _ _ h=>h) (Or.inl ⟨by rfl,?hy⟩) ?_
 case hy=>(intro w';go_simp;try with_reducible rfl)
 refine wpAny_take (i:=6) (v:=?_) rfl (by kernel_rfl) (by kernel_rfl) (by kernel_rfl) (fun _ _ _ h=>h) (Or.inl ⟨by rfl,?hy⟩) ?_
 case hy=>(intro w';go_simp;try with_reducible rfl)
 refine wpAny_ready (rs:=[3]) (by kernel_rfl) (by simp) ?_
 refine AllReady.cons rfl (fun K hK=>?_) AllReady.nil
 go_simp
 refine (zbY _ _ _ RA.out HA.out).mono ?_
 rintro e w6 ⟨ta,rfl,hta,hb6⟩
 have Hta:=Lib.hid hta
 have Hb6:=Lib.hid hb6
 obtain ⟨T6,M6,n6,L6,F6,rfl,-⟩:=hta
 refine hK _ _ ?_
 clear hK K
 refine wpAny_ready (rs:=[7]) (by kernel_rfl) (by simp) ?_
 refine AllReady.cons rfl (fun K hK=>?_) AllReady.nil
 go_simp
 refine (zbY _ _ _ (RD.out.below hb6) HD.out).mono ?_
 rintro e w7 ⟨td,rfl,htd,hb7⟩
 have Htd:=Lib.hid htd
 have Hb7:=Lib.hid hb7
 obtain ⟨T7,M7,n7,L7,F7,rfl,-⟩:=htd
 clear hb6 hb7
 refine hK _ _ ?_
 clear hK K
 refine wpAny_ready (rs:=[8]) (by kernel_rfl) (by simp) ?_
 refine AllReady.cons rfl (fun K hK=>?_) AllReady.nil
 go_simp
 refine hK _ _ ?_
 clear hK K
 refine wpAny_ready (rs:=[9]) (by kernel_rfl) (by simp) ?_
 refine AllReady.cons rfl (fun K hK=>?_) AllReady.nil
 go_simp
 refine hK _ _ ?_
 clear hK K
 refine wpAny_ready (rs:=[10]) (by kernel_rfl) (by simp) ?_
 refine AllReady.cons rfl (fun K hK=>?_) AllReady.nil
 go_simp
 refine hK _ _ ?_
 clear hK K
 refine ⟨by kernel_rfl,?_⟩
 go_wp2
 go_ret
 have hb8:=Below.al1 w7 (.cells #[.pointer (some ⟨T6,0,none⟩),.pointer (some ⟨T7,0,none⟩)] 269)
 have hb78:=Below.thn Hb7.out hb8
 have hb68:=Below.thn Hb6.out hb78
 have hs67:w5.heap.size≤w7.heap.size:=Nat.le_trans (show w5.heap.size≤w6.heap.size from Hb6.out.size) Hb7.out.size
 have hln:=Hln.out
 refine .inl ⟨X,a',ls,_,Hdone.out ⟨HL0.out,HA.out,HD.out⟩,by omega,rfl,⟨w7.heap.size,_,_,rfl,World.alloc_heap_new _ _,fun h=>by have:=hk.out _ h;omega,?_,?_⟩,(H6.out.1.below hb68).1,H6.out.2.trans (Turns.of_below' hb68)⟩
 ·exact Hta.out.go (Turns.of_below' hb78) (fun i _ h=>hk.out i h)
 ·exact Htd.out.go (Turns.of_below' hb8) (fun i _ h=>Nat.lt_of_lt_of_le (hk.out i h) (show w5.heap.size≤w6.heap.size from Hb6.out.size))
theorem Ends.from {ov1:Value} {w w1:World} {R R':InfSt→Prop} {e:Ending} {w':World} (h:Ends base S B sv ov1 uv l lim w1 R e w') (hf:Fr S B ov w ov1 w1) (hR:∀r,R r→R' r):Ends base S B sv ov uv l lim w R' e w':=by
 rcases h with ⟨a',o',ov',h1,h2,h3,h4⟩ | ⟨er,h1,h2,h3⟩
 ·exact .inl ⟨a',o',ov',hR _ h1,h2,h3,hf.trans h4⟩
 ·exact .inr ⟨er,hR _ h1,h2,hf.throws h3⟩
inductive InfDyn (l:List Nat) (lim a:Nat) (o:List Nat):InfSt→Prop where
 | bad (e:Int) (h2:InfDy l a 0 (.no e)):InfDyn l lim a o (.no e)
 | dyn (n a':Nat) (ls:List Nat) (h2:InfDy l a n (.go a' ls)) (r:InfSt) (h3:InfToks (ls.take n) (ls.drop n) l lim a' o r):InfDyn l lim a o r
set_option maxRecDepth 20000 in
set_option maxHeartbeats 2000000 in
theorem zo5 (w:World) (h:Sm w base S B sv ov uv l lim a o):
  Calls Tryz.prog 168 #[.pointer (some ⟨S,0,none⟩)] w (Ends base S B sv ov uv l lim w (InfDyn l lim a o)):=by
 have H:=Lib.hid h
 clear h
 go_enter Tryz.func168,Tryz.ntmps168
 go_wp2_with fail
 refine Calls.mono (zpi w H.out) ?_
 rintro e w1 (⟨n,a',ls,cv,hdy,hle,rfl,hc,hs⟩ | ⟨er,hdy,rfl,hs⟩)
 case inr=>
  have Hs:=Lib.hid hs
  have Hdy:=Lib.hid hdy
  clear hs hdy
  go_wp2
  exact ⟨rfl,.inr ⟨er,.bad er Hdy.out,rfl,Hs.out⟩⟩
 have Hs:=Lib.hid hs
 have Hdy:=Lib.hid hdy
 have Hc:=Lib.hid hc
 obtain ⟨C,ta,td,rfl,-⟩:=hc
 clear hs hdy
 go_wp2_with fail
 refine Calls.mono (zfk _ (ls.take n) (ls.drop n) w1 Hs.out.1 Hc.out (by simp;omega)) ?_
 intro e w2 he
 have he:=he.from ⟨Hs.out.2,fun _ h=> .inl h⟩ (R':=InfDyn l lim a o) (fun r hr=> .dyn n a' ls Hdy.out r hr)
 have He:=Lib.hid he
 rcases he with ⟨a2,o2,ov2,-,rfl,-⟩ | ⟨er,-,rfl,-⟩
 ·go_wp2
  go_end0
  exact He.out
 ·go_wp2
  exact ⟨rfl,He.out⟩
end
end
section
open Go.RowKit Go.Maps
theorem InfRp.up {D l:List Nat} {lim a x:Nat} {o:List Nat} {r:InfSt} (h:InfRp D l lim a x o r):∀a' o',r= .go a' o'→a≤a':=by
 intro a' o' e
 cases h<;>cases e
 omega
theorem InfTk.up {A D l:List Nat} {lim a:Nat} {o:List Nat} {r:InfSt} (h:InfTk A D l lim a o r):(∀a' o',r= .go a' o'→a≤a')∧∀a',r= .fin a'→a≤a':=by
 refine ⟨fun a' o' e=>?_,fun a' e=>?_⟩
 ·cases h with
  | bad=>cases e
  | fin=>cases e
  | byte=>cases e;omega
  | full=>cases e
  | rep x s r h h1 h2=>have:=h2.up a' o' e;omega
 ·cases h with
  | bad=>cases e
  | fin=>cases e;omega
  | byte=>cases e
  | full=>cases e
  | rep x s r h h1 h2=>subst e;cases h2
theorem InfToks.up {A D l:List Nat} {lim a:Nat} {o:List Nat} {r:InfSt} (h:InfToks A D l lim a o r):∀a' o',r= .go a' o'→a≤a':=by
 induction h with
 | fin a a' o h=>intro x y e;cases e;exact h.up.2 _ rfl
 | no=>intro x y e;cases e
 | more a a' o o' r h h1 ih=>intro x y e;have:=ih x y e;have:=h.up.1 _ _ rfl;omega
theorem InfSv.up {C l:List Nat} {n a:Nat} {ls:List Nat} {r:InfSt} (h:InfSv C l n a ls r):∀a' o',r= .go a' o'→a≤a':=by
 intro a' o' e
 cases h<;>cases e
 omega
theorem InfLs.up {C l:List Nat} {n a:Nat} {ls:List Nat} {r:InfSt} (h:InfLs C l n a ls r):∀a' o',r= .go a' o'→a≤a':=by
 induction h with
 | fin=>intro x y e;cases e;omega
 | no=>intro x y e;cases e
 | more a a' o o' r h0 h h1 ih=>intro x y e;have:=ih x y e;have:=h.up _ _ rfl;omega
theorem InfDy.up {l:List Nat} {a n a':Nat} {ls:List Nat} (h:InfDy l a n (.go a' ls)):a≤a':=by
 cases h with
 | done h h1 h2 h3 a' ls h4 h5=>have:=h4.up _ _ rfl;omega
theorem InfBk.up {l:List Nat} {lim a:Nat} {o:List Nat} {r:InfSt} (h:InfBk l lim a o r):∀a' o',r= .go a' o'→a≤a':=by
 intro a' o' e
 cases h with
 | few=>cases e
 | stored h h1 r h2=>
  subst e
  cases h2
  unfold alN;omega
 | fixed h h1 r h2=>have:=h2.up _ _ e;omega
 | bad=>cases e
 | dyn h h1 n a1 ls h2 r h3=>have:=h3.up _ _ e;have:=h2.up;omega
 | unknown=>cases e
section
variable {base S B:Nat} {sv ov uv:Value} {l:List Nat} {lim a a0:Nat} {o o0:List Nat}
theorem ziS (v:Value) (w:World):Calls Tryz.prog 169 #[v] w fun e w'=>e=zak 80∧w'=w:=by
 go_enter Tryz.func169,Tryz.ntmps169
 go_wp2
 exact ⟨rfl,rfl,rfl⟩
def BlSo (l:List Nat) (lim a:Nat) (o:List Nat) (b:Bool) (a1:Nat) (o1:List Nat):Prop:=if b then InfBl l lim a o (.go a1 o1) else ∀r,InfBl l lim a1 o1 r→InfBl l lim a o r
set_option maxRecDepth 20000 in
set_option maxHeartbeats 4000000 in
theorem zjw (w:World) (h:Sm w base S B sv ov uv l lim a o):
  Calls Tryz.prog 147 #[.pointer (some ⟨S,0,none⟩)] w (EndsU base S B sv ov l lim w (InfBl l lim a o)):=by
 have H:=Lib.hid h
 clear h
 go_enter Tryz.func147,Tryz.ntmps147
 go_upto_region 0 with (fail)
 refine wp_region_lit ?_
 refine wpList_buildTo rfl 236 _ rfl (some 4) rfl #[.func (.func 166) #[] #[],.func (.func 167) #[] #[],.func (.func 168) #[] #[],.func (.func 169) #[] #[]] (by kernel_rfl) ?_
 refine wpList_plain rfl fun K hK=>?_
 go_simp
 refine hK _ _ ?_
 clear hK K
 have hz:=World.alloc_heap_new w (.cells #[.nilFunc,.nilFunc,.nilFunc,.nilFunc] 236)
 refine wpList_store_rowTo rfl 236 _ _ rfl rfl w.heap.size #[.func (.func 166) #[] #[],.func (.func 167) #[] #[],.func (.func 168) #[] #[],.func (.func 169) #[] #[]] rfl rfl 236 _ hz (by kernel_rfl) (by kernel_rfl) (by kernel_rfl) ?_
 generalize hw1:World.setRow _ w.heap.size _=w1
 have ho1:w1.heap[w.heap.size]? =some (.cells #[.func (.func 166) #[] #[],.func (.func 167) #[] #[],.func (.func 168) #[] #[],.func (.func 169) #[] #[]] 236):=by rw [←hw1];exact setRow_heap _ _ _ _ _ _ hz
 have hb1:Below w.heap.size w w1:=by rw [←hw1];exact below_setRow (Below.al1 _ _) (Nat.le_refl _) _
 have H1:=Lib.hid (H.out.below hb1)
 have hKn:¬KS S B ov w.heap.size:=fun h=>by have:=H.out.k _ h;omega
 obtain ⟨Q,hQ⟩:∃Q,w.heap.size=Q:=⟨_,rfl⟩
 rw [hQ] at ho1 hKn ⊢
 have Ho1:=Lib.hid ho1
 have HKn:=Lib.hid hKn
 clear hw1 hz ho1 hb1 hKn hQ
 go_wp2_with fail
 go_loopw [3] (fun bv wr=> ∃(b:Bool) (a1:Nat) (o1:List Nat) (ov1 uv1:Value),bv= .bool b∧Hid (Sm wr base S B sv ov1 uv1 l lim a1 o1∧Fr S B ov w ov1 wr)∧Hid (¬KS S B ov1 Q∧wr.heap[Q]? =some (.cells #[.func (.func 166) #[] #[],.func (.func 167) #[] #[],.func (.func 168) #[] #[],.func (.func 169) #[] #[]] 236))∧Hid (BlSo l lim a o b a1 o1))
  (fun bv wr=>8*l.length+1 - (intOf ((wr.cell? ⟨B,1,none⟩).getD undef)).toNat)
 case atStart=>exact ⟨false,a,o,ov,uv,rfl,H1,Lib.hid ⟨HKn.out,Ho1.out⟩,Lib.hid (fun r h=>h)⟩
 case round=>
  obtain ⟨b,a1,o1,ov1,uv1,rfl,HS,HQ,HB⟩:=hrel
  cases b with
  | true=>
   go_wp2
   go_end0
   exact .inl ⟨a1,o1,ov1,uv1,HB.out,rfl,HS.out.1,HS.out.2⟩
  | false=>
   go_wp2_with fail
   refine Calls.mono (zaQ 1 (by decide) wr HS.out.1) ?_
   have h2:nb l a1 1<2:=zaS _ _ _
   obtain ⟨x,hx⟩:∃x,nb l a1 1=x:=⟨_,rfl⟩
   rw [hx] at h2 ⊢
   have Hx:=Lib.hid hx
   clear hx
   rintro e w2 (⟨f1,rfl,hs⟩ | ⟨f1,rfl,hs⟩)
   case inr=>
    have Hs:=Lib.hid hs
    clear hs
    go_wp2
    exact ⟨rfl,.inr ⟨50,HB.out _ (.few a1 o1 f1),rfl,HS.out.2.throws Hs.out⟩⟩
   have hm0:(intOf ((wr.cell? ⟨B,1,none⟩).getD undef)).toNat=a1:=by rw [HS.out.1.rd.c1];simp [intOf]
   have Hm0:=Lib.hid hm0
   have H2:=Lib.hid (And.intro hs.1 (HS.out.2.trans hs.2))
   have HQ2:Hid (¬KS S B ov1 Q∧w2.heap[Q]? =some (.cells #[.func (.func 166) #[] #[],.func (.func 167) #[] #[],.func (.func 168) #[] #[],.func (.func 169) #[] #[]] 236)):=Lib.hid ⟨HQ.out.1,(hs.2.turns.block Q (zab HQ.out.2) HQ.out.1).trans HQ.out.2⟩
   clear hs hm0 HQ HS
   obtain ⟨b,hb⟩:∃b,((x:Int)==1)=b:=⟨_,rfl⟩
   have Hb:=Lib.hid hb
   go_wp2_with fail
   refine Calls.mono (zaQ 2 (by decide) w2 H2.out.1) ?_
   have h4:nb l (a1+1) 2<4:=zaS _ _ _
   obtain ⟨y,hy⟩:∃y,nb l (a1+1) 2=y:=⟨_,rfl⟩
   rw [hy] at h4 ⊢
   have Hy:=Lib.hid hy
   clear hy
   rintro e w3 (⟨f2,rfl,hs⟩ | ⟨f2,rfl,hs⟩)
   case inr=>
    have Hs:=Lib.hid hs
    clear hs
    go_wp2
    exact ⟨rfl,.inr ⟨50,HB.out _ (.no a1 o1 f1 50 (.few f2)),rfl,H2.out.2.throws Hs.out⟩⟩
   have H3:=Lib.hid (And.intro hs.1 (H2.out.2.trans hs.2))
   have HQ3:Hid (¬KS S B ov1 Q∧w3.heap[Q]? =some (.cells #[.func (.func 166) #[] #[],.func (.func 167) #[] #[],.func (.func 168) #[] #[],.func (.func 169) #[] #[]] 236)):=Lib.hid ⟨HQ2.out.1,(hs.2.turns.block Q (zab HQ2.out.2) HQ2.out.1).trans HQ2.out.2⟩
   clear hs H2 HQ2
   have hend:∀(e:Ending) (w4:World),EndsU base S B sv ov1 l lim w3 (InfBk l lim (a1+1) o1) e w4→(∃(a2:Nat) (o2:List Nat) (ov2 uv2:Value),e= .returned (.tuple #[])∧a1<a2∧Sm w4 base S B sv ov2 uv2 l lim a2 o2∧Fr S B ov w ov2 w4∧(¬KS S B ov2 Q∧w4.heap[Q]? =some (.cells #[.func (.func 166) #[] #[],.func (.func 167) #[] #[],.func (.func 168) #[] #[],.func (.func 169) #[] #[]] 236))∧BlSo l lim a o b a2 o2)∨
     (∃er,e=zak er∧EndsU base S B sv ov l lim w (InfBl l lim a o) (zak er) w4):=fun e w4 h=>by
    rcases h with ⟨a2,o2,ov2,uv2,h1,rfl,h3,h4⟩ | ⟨er,h1,rfl,h3⟩
    ·refine .inl ⟨a2,o2,ov2,uv2,rfl,by have:=h1.up _ _ rfl;omega,h3,H3.out.2.trans h4,⟨fun h=>HQ3.out.1 (h4.k Q (zab HQ3.out.2) h),(h4.turns.block Q (zab HQ3.out.2) HQ3.out.1).trans HQ3.out.2⟩,?_⟩
     cases b with
     | true=>
      have hx1:x=1:=by have:=Hb.out;rw [beq_iff_eq] at this;omega
      exact HB.out _ (.last a1 o1 f1 (by rw [Hx.out];exact hx1) a2 o2 h1)
     | false=>
      have hx1:x≠1:=by have:=Hb.out;rw [beq_eq_false_iff_ne] at this;omega
      exact fun r hr=>HB.out r (.more a1 o1 f1 (by rw [Hx.out];exact hx1) a2 o2 h1 r hr)
    ·exact .inr ⟨er,rfl,.inr ⟨er,HB.out _ (.no a1 o1 f1 er h1),rfl,H3.out.2.throws h3⟩⟩
   have Hend:=Lib.hid hend
   clear hend hb
   have hy4:y=0∨y=1∨y=2∨y=3:=by omega
   rcases hy4 with rfl | rfl | rfl | rfl
   ·have c0:w3.cell? ⟨Q,0,none⟩=some (.func (.func 166) #[] #[]):=zaa HQ3.out.2 rfl
    go_wp2_with fail
    refine Calls.mono (zjf w3 H3.out.1) ?_
    intro e w4 he
    rcases Hend.out e w4 (he.u.of (fun r hr=>InfBk.stored f2 Hy.out r hr)) with ⟨a2,o2,ov2,uv2,rfl,hlt,hs⟩ | ⟨er,rfl,hE⟩
    ·have Hs:=Lib.hid hs
     clear hs he c0
     go_wp2
     go_roundw
     case rel=>exact ⟨b,a2,o2,ov2,uv2,rfl,Lib.hid ⟨Hs.out.1,Hs.out.2.1⟩,Lib.hid Hs.out.2.2.1,Lib.hid Hs.out.2.2.2⟩
     case measure=>
      rw [Hs.out.1.rd.c1,Hm0.out]
      have:=Hs.out.1.rd.pos
      simp [intOf];omega
    ·have HE:=Lib.hid hE
     clear hE he c0
     go_wp2
     exact ⟨rfl,HE.out⟩
   ·have c0:w3.cell? ⟨Q,1,none⟩=some (.func (.func 167) #[] #[]):=zaa HQ3.out.2 rfl
    go_wp2_with fail
    refine Calls.mono (zkJ w3 H3.out.1) ?_
    intro e w4 he
    rcases Hend.out e w4 (he.of (fun r hr=>InfBk.fixed f2 Hy.out r hr)) with ⟨a2,o2,ov2,uv2,rfl,hlt,hs⟩ | ⟨er,rfl,hE⟩
    ·have Hs:=Lib.hid hs
     clear hs he c0
     go_wp2
     go_roundw
     case rel=>exact ⟨b,a2,o2,ov2,uv2,rfl,Lib.hid ⟨Hs.out.1,Hs.out.2.1⟩,Lib.hid Hs.out.2.2.1,Lib.hid Hs.out.2.2.2⟩
     case measure=>
      rw [Hs.out.1.rd.c1,Hm0.out]
      have:=Hs.out.1.rd.pos
      simp [intOf];omega
    ·have HE:=Lib.hid hE
     clear hE he c0
     go_wp2
     exact ⟨rfl,HE.out⟩
   ·have c0:w3.cell? ⟨Q,2,none⟩=some (.func (.func 168) #[] #[]):=zaa HQ3.out.2 rfl
    go_wp2_with fail
    refine Calls.mono (zo5 w3 H3.out.1) ?_
    intro e w4 he
    rcases Hend.out e w4 (he.u.of (fun r hr=>by cases hr with | bad e h=>exact InfBk.bad f2 Hy.out e h | dyn n a' ls h r h3=>exact InfBk.dyn f2 Hy.out n a' ls h r h3)) with ⟨a2,o2,ov2,uv2,rfl,hlt,hs⟩ | ⟨er,rfl,hE⟩
    ·have Hs:=Lib.hid hs
     clear hs he c0
     go_wp2
     go_roundw
     case rel=>exact ⟨b,a2,o2,ov2,uv2,rfl,Lib.hid ⟨Hs.out.1,Hs.out.2.1⟩,Lib.hid Hs.out.2.2.1,Lib.hid Hs.out.2.2.2⟩
     case measure=>
      rw [Hs.out.1.rd.c1,Hm0.out]
      have:=Hs.out.1.rd.pos
      simp [intOf];omega
    ·have HE:=Lib.hid hE
     clear hE he c0
     go_wp2
     exact ⟨rfl,HE.out⟩
   ·have c0:w3.cell? ⟨Q,3,none⟩=some (.func (.func 169) #[] #[]):=zaa HQ3.out.2 rfl
    go_wp2_with fail
    refine Calls.mono (ziS _ w3) ?_
    intro e w4 he
    rcases Hend.out e w4 (.inr ⟨80,InfBk.unknown f2 Hy.out,he.1,by rw [he.2];exact Turns.refl _ _⟩) with ⟨a2,o2,ov2,uv2,rfl,hlt,hs⟩ | ⟨er,rfl,hE⟩
    ·have Hs:=Lib.hid hs
     clear hs he c0
     go_wp2
     go_roundw
     case rel=>exact ⟨b,a2,o2,ov2,uv2,rfl,Lib.hid ⟨Hs.out.1,Hs.out.2.1⟩,Lib.hid Hs.out.2.2.1,Lib.hid Hs.out.2.2.2⟩
     case measure=>
      rw [Hs.out.1.rd.c1,Hm0.out]
      have:=Hs.out.1.rd.pos
      simp [intOf];omega
    ·have HE:=Lib.hid hE
     clear hE he c0
     go_wp2
     exact ⟨rfl,HE.out⟩
end
end
end Go.Proofs.YtedakhgaghfogaaGreat
