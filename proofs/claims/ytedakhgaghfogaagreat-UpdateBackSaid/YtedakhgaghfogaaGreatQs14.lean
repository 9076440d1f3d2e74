/- Several texts in one, each with its own head. -/
import Derived.Test.YtedakhgaghfogaaGreatQs13
import Derived.Laws.CopyOwn
import Derived.Laws.Bits64b
import Derived.Deep.RegionLaw
import Derived.Lib.AppendZeros
namespace Go.Proofs.YtedakhgaghfogaaGreat
section
open Go.RowKit Go.Maps
theorem Sy.in' {ls l:List Nat} {a x:Nat} {e:Int} {s:Nat} (h:Sy ls l a x e s):a+s≤8*l.length:=by
 obtain ⟨F,L,-,-,h⟩:=h
 exact h.le.2
theorem Sy.pos {ls l:List Nat} {a x s:Nat} (h:Sy ls l a x 0 s):1≤s∧x<ls.length:=by
 obtain ⟨F,L,h1,-,h⟩:=h
 rcases h.ans with ⟨-,h2,h3⟩ | ⟨h2,-⟩ | ⟨h2,-⟩
 ·exact ⟨h2,(h1.out _ _ h3).1⟩
 ·exact absurd h2 (by decide)
 ·exact absurd h2 (by decide)
theorem zmg:∀x,x<286→zad x≤24:=by decide +kernel
theorem zhn:∀x,x<286→zax x≤1000:=by decide +kernel
theorem znW:∀x,x<286→zad x≤5:=by decide +kernel
theorem zon (l:List Nat) (a x:Nat) (_h0:256<x) (h:x<286) (n:Nat) (hn:zax x+nb l a (zad x)=n):n≤1000000:=by
 have h1:=zhn x h
 have h2:nb l a (zad x)<32:=Nat.lt_of_lt_of_le (zaS _ _ _) (Nat.pow_le_pow_right (n:=2) (j:=5) (by decide) (znW x h))
 omega
section
variable {base S B:Nat} {sv ov uv:Value} {l:List Nat} {lim a:Nat} {o:List Nat}
def Ends (base S B:Nat) (sv ov uv:Value) (l:List Nat) (lim:Nat) (w:World) (R:InfSt→Prop) (e:Ending) (w':World):Prop:=
 (∃(a':Nat) (o':List Nat) (ov':Value),R (.go a' o')∧e= .returned (.tuple #[])∧Sm w' base S B sv ov' uv l lim a' o'∧Fr S B ov w ov' w')∨(∃er,R (.no er)∧e=zak er∧Turns (KS S B ov) w w')
set_option maxHeartbeats 1000000 in
theorem znD (n d:Nat) (w:World) (h:Sm w base S B sv ov uv l lim a o) (hdo:o.length<d):
  Calls Tryz.prog 202 #[.pointer (some ⟨S,0,none⟩),.int .i64 (n:Int),.int .i64 (d:Int)] w fun e w'=>e=zak 70∧w'=w:=by
 have c1:=h.c1
 obtain ⟨p,c,rfl⟩:=zac h.out
 have d0:decide (o.length<d)=true:=by simpa using hdo
 clear h
 go_enter Tryz.func202,Tryz.ntmps202
 go_wp2
 exact ⟨rfl,rfl,rfl⟩
set_option maxRecDepth 20000 in
set_option maxHeartbeats 4000000 in
theorem zfk (cv:Value) (A D:List Nat) (w:World) (h:Sm w base S B sv ov uv l lim a o) (hc:Codn w (KS S B ov) cv A D) (hA:A.length≤320∧D.length≤320):
  Calls Tryz.prog 186 #[.pointer (some ⟨S,0,none⟩),cv] w (Ends base S B sv ov uv l lim w (InfToks A D l lim a o)):=by
 have H:=Lib.hid h
 have Hc:=Lib.hid hc
 obtain ⟨C,ta,td,rfl,-⟩:=hc
 clear h
 go_enter Tryz.func186,Tryz.ntmps186
 go_wp2_with fail
 go_loopw [4] (fun _ wr=> ∃(a1:Nat) (o1:List Nat) (ov1:Value),Hid (Sm wr base S B sv ov1 uv l lim a1 o1∧Fr S B ov w ov1 wr∧Codn wr (KS S B ov1) (.pointer (some ⟨C,0,none⟩)) A D∧∀r,InfToks A D l lim a1 o1 r→InfToks A D l lim a o r))
  (fun _ wr=>8*l.length - (intOf ((wr.cell? ⟨B,1,none⟩).getD undef)).toNat)
 case atStart=>exact ⟨a,o,ov,Lib.hid ⟨H.out,Fr.refl _ _ _ _,Hc.out,fun r h=>h⟩⟩
 case round=>
  obtain ⟨a1,o1,ov1,HW⟩:=hrel
  obtain ⟨C',ta',td',e',hC,-,hta,htd⟩:=HW.out.2.2.1
  cases e'
  have c0:wr.cell? ⟨C,0,none⟩=some ta':=by simp [World.cell?,hC]
  have Hta:=Lib.hid hta
  clear hC hta htd
  go_wp2_with fail
  refine Calls.mono (zff ta' A wr HW.out.1 Hta.out) ?_
  rintro e w1 ⟨x,er,s,hsy,(⟨rfl,rfl,hs⟩ | ⟨her,rfl,hs⟩)⟩
  case inr=>
   have Hs:=Lib.hid hs
   have Hsy:=Lib.hid hsy
   clear hs hsy
   go_wp2
   exact ⟨rfl,.inr ⟨er,HW.out.2.2.2 _ (.no _ _ _ (.bad x s er Hsy.out her)),rfl,HW.out.2.1.throws Hs.out⟩⟩
  have hpos:=hsy.pos
  have hin:=hsy.in'
  have Hsy:=Lib.hid hsy
  have HS:=Lib.hid hs.1
  have HF:=Lib.hid (HW.out.2.1.trans hs.2)
  have HC:=Lib.hid (hs.2.codn HW.out.2.2.1)
  have HR:=Lib.hid HW.out.2.2.2
  have hm0:(intOf ((wr.cell? ⟨B,1,none⟩).getD undef)).toNat=a1:=by rw [HW.out.1.rd.c1];simp [intOf]
  have Hm0:=Lib.hid hm0
  clear hsy hs hm0 Hta c0 HW
  by_cases hx:x<256
  ·have d0:decide ((x:Int)<256)=true:=by simp;omega
   have hw:IntKind.u8.wrap (x:Int)=(x:Int):=IntWalk.u8_in _ (by omega)
   go_wp2_with fail
   refine Calls.mono (zee x hx w1 HS.out) ?_
   rintro e w2 (⟨h1,rfl,ov2,hs⟩ | ⟨h1,rfl,hs⟩)
   ·have Hs:=Lib.hid hs
    clear hs
    go_wp2
    go_roundw
    case rel=>exact ⟨a1+s,o1++[x],ov2,Lib.hid ⟨Hs.out.1,HF.out.trans Hs.out.2,Hs.out.2.codn HC.out,fun r hr=>HR.out r (.more _ _ _ _ _ (.byte x s Hsy.out hx h1) hr)⟩⟩
    case measure=>rw [Hs.out.1.rd.c1,Hm0.out];simp [intOf];omega
   ·have Hs:=Lib.hid hs
    clear hs
    go_wp2
    exact ⟨rfl,.inr ⟨81,HR.out _ (.no _ _ _ (.full x s Hsy.out hx h1)),rfl,HF.out.throws Hs.out⟩⟩
  have d0:decide ((x:Int)<256)=false:=by simp;omega
  by_cases hx6:x=256
  ·subst hx6
   go_wp2
   go_end0
   exact .inl ⟨a1+s,o1,ov1,HR.out _ (.fin _ _ _ (.fin s Hsy.out)),rfl,HS.out,HF.out⟩
  have d1:((x:Int)==256)=false:=by simp;omega
  by_cases hfar:285<x
  ·go_wp2_with fail
   refine Calls.mono (zoJ x w1 hfar (by omega)) ?_
   rintro e w2 ⟨rfl,rfl⟩
   go_wp2
   exact ⟨rfl,.inr ⟨80,HR.out _ (.no _ _ _ (.rep x s _ Hsy.out (by omega) (.far hfar))),rfl,HF.out.turns⟩⟩
  go_wp2_with fail
  refine Calls.mono (zn8 x w1 (by omega) (by omega) HS.out) ?_
  rintro e w2 (⟨h1,rfl,hs⟩ | ⟨h1,rfl,hs⟩)
  case inr=>
   have Hs:=Lib.hid hs
   clear hs
   go_wp2
   exact ⟨rfl,.inr ⟨50,HR.out _ (.no _ _ _ (.rep x s _ Hsy.out (by omega) (.few (by omega) h1))),rfl,HF.out.throws Hs.out⟩⟩
  have hs2:=hs
  obtain ⟨C',ta',td',e',hC,-,-,htd⟩:=hs.2.codn HC.out
  cases e'
  have c1:w2.cell? ⟨C,1,none⟩=some td':=by simp [World.cell?,hC]
  have Htd:=Lib.hid htd
  have HS2:=Lib.hid hs.1
  have HF2:=Lib.hid (HF.out.trans hs.2)
  have HC2:=Lib.hid (hs.2.codn HC.out)
  have hnb:nb l (a1+s) (zad x)<16777216:=Nat.lt_of_lt_of_le (zaS _ _ _) (Nat.pow_le_pow_right (n:=2) (j:=24) (by decide) (zmg x (by omega)))
  have hlb:zax x≤1000:=zhn x (by omega)
  obtain ⟨n,hn⟩:∃n,zax x+nb l (a1+s) (zad x)=n:=⟨_,rfl⟩
  rw [hn]
  have Hn:=Lib.hid hn
  have hnl:n≤1000000:=zon l (a1+s) x (by omega) (by omega) n hn
  clear hC htd hs hs2 HS HF HC hn hnb hlb
  go_wp2_with fail
  refine Calls.mono (zff td' D w2 HS2.out Htd.out) ?_
  rintro e w3 ⟨y,er,t,hsy,(⟨rfl,rfl,hs⟩ | ⟨her,rfl,hs⟩)⟩
  case inr=>
   have Hs:=Lib.hid hs
   have Hsy2:=Lib.hid hsy
   clear hs hsy
   go_wp2
   exact ⟨rfl,.inr ⟨er,HR.out _ (.no _ _ _ (.rep x s _ Hsy.out (by omega) (.bad (by omega) h1 y t er Hsy2.out her))),rfl,HF2.out.throws Hs.out⟩⟩
  have hpos2:=hsy.pos
  have Hsy2:=Lib.hid hsy
  have HS3:=Lib.hid hs.1
  have HF3:=Lib.hid (HF2.out.trans hs.2)
  have HC3:=Lib.hid (hs.2.codn HC2.out)
  clear hs hsy HS2 HF2 HC2 Htd c1
  by_cases hy:29<y
  ·go_wp2_with fail
   refine Calls.mono (zl9 y w3 hy (by omega)) ?_
   rintro e w4 ⟨rfl,rfl⟩
   go_wp2
   exact ⟨rfl,.inr ⟨80,HR.out _ (.no _ _ _ (.rep x s _ Hsy.out (by omega) (.wide (by omega) h1 y t Hsy2.out hy))),rfl,HF3.out.turns⟩⟩
  go_wp2_with fail
  refine Calls.mono (zmh y w3 (by omega) HS3.out) ?_
  rintro e w4 (⟨h2,rfl,hs⟩ | ⟨h2,rfl,hs⟩)
  case inr=>
   have Hs:=Lib.hid hs
   clear hs
   go_wp2
   exact ⟨rfl,.inr ⟨50,HR.out _ (.no _ _ _ (.rep x s _ Hsy.out (by omega) (.few2 (by omega) h1 y t Hsy2.out (by omega) h2))),rfl,HF3.out.throws Hs.out⟩⟩
  have HS4:=Lib.hid hs.1
  have HF4:=Lib.hid (HF3.out.trans hs.2)
  have HC4:=Lib.hid (hs.2.codn HC3.out)
  have hd1:1≤zan y:=by unfold zan;omega
  obtain ⟨d,hd⟩:∃d,zan y+nb l (a1+s+zad x+t) (zam y)=d:=⟨_,rfl⟩
  rw [hd]
  have Hd:=Lib.hid hd
  have hd1':1≤d:=by omega
  clear hs HS3 HF3 HC3 hd hd1
  by_cases hdo:o1.length<d
  ·go_wp2_with fail
   refine Calls.mono (znD n d w4 HS4.out hdo) ?_
   rintro e w5 ⟨rfl,rfl⟩
   go_wp2
   exact ⟨rfl,.inr ⟨70,HR.out _ (.no _ _ _ (.rep x s _ Hsy.out (by omega) (.dist (by omega) h1 y t Hsy2.out (by omega) h2 (by rw [Hd.out];exact hdo)))),rfl,HF4.out.turns⟩⟩
  go_wp2_with fail
  refine Calls.mono (zoT n d w4 HS4.out hd1' (by omega) hnl) ?_
  rintro e w5 (⟨h3,rfl,ov5,hs⟩ | ⟨h3,rfl,hs⟩)
  ·have Hs:=Lib.hid hs
   clear hs
   go_wp2
   go_roundw
   case rel=>
    refine ⟨_,_,ov5,Lib.hid ⟨Hs.out.1,HF4.out.trans Hs.out.2,Hs.out.2.codn HC4.out,fun r hr=>HR.out r (.more _ _ _ _ _ (.rep x s _ Hsy.out (by omega) (.done (by omega) h1 y t Hsy2.out (by omega) h2 (by rw [Hd.out];omega) (by rw [Hn.out];exact h3))) ?_)⟩⟩
    rw [Hd.out,Hn.out]
    exact hr
   case measure=>rw [Hs.out.1.rd.c1,Hm0.out];simp [intOf];omega
  ·have Hs:=Lib.hid hs
   clear hs
   go_wp2
   exact ⟨rfl,.inr ⟨81,HR.out _ (.no _ _ _ (.rep x s _ Hsy.out (by omega) (.over (by omega) h1 y t Hsy2.out (by omega) h2 (by rw [Hd.out];omega) (by rw [Hn.out];exact h3)))),rfl,HF4.out.throws Hs.out⟩⟩
end
end
section
open Go.RowKit Go.Maps
theorem zpm (l:List Nat) (a n:Nat):bys l a (n+1)=bys l a n++[nb l (a+8*n) 8]:=by simp [bys,List.range_succ]
theorem zjV (l:List Nat) (a n:Nat):(bys l a n).length=n:=by simp [bys]
section
variable {base S B:Nat} {sv ov uv:Value} {l:List Nat} {lim a:Nat} {o:List Nat}
theorem zf0 (w:World) (h:Rd w B sv l a):
  Calls Tryz.prog 149 #[.pointer (some ⟨B,0,none⟩)] w fun e w'=>e= .returned (.int .i64 0)∧Rd w' B sv l (alN a)∧Turns (fun b=>b=B) w w':=by
 have hp:=h.pos
 have hl:=h.len
 have H:=Lib.hid h
 have c1:=h.c1
 have hpa:alN a≤8*l.length:=by unfold alN;omega
 obtain ⟨m,hm⟩:∃m,(8 - a%8)%8=m:=⟨_,rfl⟩
 have hwm:IntKind.i64.wrap ((a:Int)+(m:Int))=((alN a:Nat):Int):=by unfold alN;rw [hm,IntWalk.i64_in _ (by omega)];omega
 have Hm:=Lib.hid hm
 have ha63:a≤9223372036854775807:=by omega
 clear h hp hm
 go_enter Tryz.func149,Tryz.ntmps149
 go_upto_region 3 with (fail)
 have hq:=After.ne w
 have e1:=After.rule c1
 refine zaC 10 (by kernel_rfl) (by kernel_rfl) (by kernel_rfl) ?_
 repeat (refine zaK (fun K hK=>?_);go_simp;first | (refine hK _ ?_;clear hK K) | (apply Exists.intro;refine ⟨fun n=>?_,hK _ ?_⟩;(exact Calls.mono (zeQ a n.world ha63) (fun e w' ⟨he,hw⟩=>⟨he,by rw [hw];exact Below.refl _ _⟩));rw [Hm.out];clear hK K))
 refine zbd ?_
 intro w2 hb2
 clear e1 hq
 have h2:=H.out.below hb2
 have Hto2:=Lib.hid (h2.to (a':=alN a) hpa)
 have Htr:=Lib.hid (show Turns (fun b=>b=B) w (w2.setCell ⟨B,1,none⟩ (.int .i64 ((alN a:Nat):Int))) from (Turns.of_below' (T:=fun b=>b=B) hb2).set (p:=⟨B,1,none⟩) rfl _)
 have d1:=h2.c1
 have g1:=h2.free 1
 clear c1 h2 hb2
 go_wp2
 go_ret
 exact ⟨rfl,Hto2.out,Htr.out⟩
set_option maxRecDepth 20000 in
set_option maxHeartbeats 4000000 in
theorem zjf (w:World) (h:Sm w base S B sv ov uv l lim a o):
  Calls Tryz.prog 166 #[.pointer (some ⟨S,0,none⟩)] w (Ends base S B sv ov uv l lim w (InfSd l lim a o)):=by
 have c0:=h.c0
 have H:=Lib.hid h
 clear h
 go_enter Tryz.func166,Tryz.ntmps166
 go_wp2_with fail
 refine Calls.mono (zf0 w H.out.rd) ?_
 rintro e w1 ⟨rfl,hr,ht⟩
 have H1:=Lib.hid (H.out.reads hr ht)
 obtain ⟨a1,ha1⟩:∃a1,alN a=a1:=⟨_,rfl⟩
 rw [ha1] at H1
 have Ha:=Lib.hid ha1
 clear hr ht c0 ha1
 go_wp2_with fail
 refine Calls.mono (zcr _) ?_
 rintro e w2 ⟨rfl,rfl⟩
 go_wp2_with fail
 refine Calls.mono (zaQ 16 (by decide) w2 H1.out.1) ?_
 rintro e w3 (⟨h1,rfl,hs⟩ | ⟨h1,rfl,hs⟩)
 case inr=>
  have Hs:=Lib.hid hs
  clear hs
  go_wp2
  exact ⟨rfl,.inr ⟨50,.few (by rw [Ha.out];omega),rfl,H1.out.2.throws Hs.out⟩⟩
 have H3:=Lib.hid (And.intro hs.1 (H1.out.2.trans hs.2))
 have hn16:nb l a1 16<65536:=zaS l a1 16
 obtain ⟨n,hn⟩:∃n,nb l a1 16=n:=⟨_,rfl⟩
 rw [hn] at hn16 ⊢
 have Hn:=Lib.hid hn
 clear hs hn H1
 go_wp2_with fail
 refine Calls.mono (zaQ 16 (by decide) w3 H3.out.1) ?_
 rintro e w4 (⟨h2,rfl,hs⟩ | ⟨h2,rfl,hs⟩)
 case inr=>
  have Hs:=Lib.hid hs
  clear hs
  go_wp2
  exact ⟨rfl,.inr ⟨50,.few (by rw [Ha.out];omega),rfl,H3.out.2.throws Hs.out⟩⟩
 have H4:=Lib.hid (And.intro hs.1 (H3.out.2.trans hs.2))
 have hm16:nb l (a1+16) 16<65536:=zaS l (a1+16) 16
 obtain ⟨m,hm⟩:∃m,nb l (a1+16) 16=m:=⟨_,rfl⟩
 rw [hm] at hm16 ⊢
 have Hm:=Lib.hid hm
 have hw1:IntKind.i64.wrap (65535 - (n:Int))=65535 - (n:Int):=IntWalk.i64_in _ (by omega)
 clear hs hm H3
 by_cases hmn:m+n=65535
 case neg=>
  have d0:((m:Int) !=65535 - (n:Int))=true:=by simp;omega
  go_wp2
  exact ⟨rfl,.inr ⟨80,.bad (by rw [Ha.out];omega) (by rw [Ha.out,Hm.out,Hn.out];exact hmn),rfl,H4.out.2.turns⟩⟩
 have d0:((m:Int) !=65535 - (n:Int))=false:=by simp;omega
 have c1:=H4.out.1.c1
 have c2:=H4.out.1.c2
 have hle:=H4.out.1.le
 obtain ⟨p,c,rfl⟩:=zac H4.out.1.out
 have hw2:IntKind.i64.wrap ((lim:Int) - (o.length:Int))=(lim:Int) - (o.length:Int):=IntWalk.i64_in _ (by omega)
 go_upto_region 4 with (fail)
 go_quiet (fail)
 rename_i nq
 have hd:Below w4.heap.size w4 (w4.drewN nq):=Below.drewN' (Below.refl _ _) nq
 have H5:=Lib.hid (And.intro (H4.out.1.below hd).1 (H4.out.2.trans (H4.out.1.below hd).2))
 generalize w4.drewN nq=W5 at *
 clear hd c1 c2 H4
 by_cases hov:lim<o.length+n
 ·have d1:decide ((n:Int)>(lim:Int) - (o.length:Int))=true:=by simp;omega
  go_wp2
  exact ⟨rfl,.inr ⟨81,.over (by rw [Ha.out];omega) (by rw [Ha.out,Hm.out,Hn.out];exact hmn) (by rw [Ha.out,Hn.out];exact hov),rfl,H5.out.2.turns⟩⟩
 have d1:decide ((n:Int)>(lim:Int) - (o.length:Int))=false:=by simp;omega
 have d1':decide ((lim:Int) - (o.length:Int)<(n:Int))=false:=by simp;omega
 simp only [d1']
 go_wp2_with fail
 go_loopw [33] (fun iv wr=> ∃(i:Nat) (ov':Value),iv= .int .i64 (i:Int)∧i≤n∧Hid (Sm wr base S B sv ov' uv l lim (a1+32+8*i) (o++bys l (a1+32) i)∧Fr S B (.slice p o.length c) w ov' wr)) (fun iv _=>n - (intOf iv).toNat)
 case atStart=>exact ⟨0,_,rfl,Nat.zero_le _,Lib.hid ⟨by have:=H5.out.1;simpa [bys] using this,H5.out.2⟩⟩
 case round=>
  obtain ⟨i,ov',rfl,hi,HW⟩:=hrel
  by_cases hin:i<n
  ·have d2:decide ((i:Int)<(n:Int))=true:=by simp;omega
   go_wp2_with fail
   refine Calls.mono (zaQ 8 (by decide) wr HW.out.1) ?_
   rintro e w6 (⟨h3,rfl,hs⟩ | ⟨h3,rfl,hs⟩)
   case inr=>
    have Hs:=Lib.hid hs
    clear hs
    go_wp2
    exact ⟨rfl,.inr ⟨50,.few2 (by rw [Ha.out];omega) (by rw [Ha.out,Hm.out,Hn.out];exact hmn) (by rw [Ha.out,Hn.out];omega) (by rw [Ha.out,Hn.out];omega),rfl,HW.out.2.throws Hs.out⟩⟩
   have H6:=Lib.hid (And.intro hs.1 (HW.out.2.trans hs.2))
   have hx8:nb l (a1+32+8*i) 8<256:=zaS l _ 8
   obtain ⟨x,hx⟩:∃x,nb l (a1+32+8*i) 8=x:=⟨_,rfl⟩
   rw [hx] at hx8 ⊢
   have hsn:=zpm l (a1+32) i
   rw [hx] at hsn
   have Hsn:=Lib.hid hsn
   have hlen:=zjV l (a1+32) i
   have Hlen:=Lib.hid hlen
   have hwx:IntKind.u8.wrap (x:Int)=(x:Int):=IntWalk.u8_in _ (by omega)
   clear hs hx hsn hlen HW
   go_wp2_with fail
   refine Calls.mono (zee x hx8 w6 H6.out.1) ?_
   rintro e w7 (⟨h4,rfl,ov7,hs⟩ | ⟨h4,-,-⟩)
   case inr=>
    have:=Hlen.out
    rw [List.length_append,this] at h4
    omega
   have Hs:=Lib.hid hs
   clear hs
   go_wp2
   go_roundw
   case rel=>exact ⟨i+1,ov7,by go_num,by omega,Lib.hid ⟨by rw [Hsn.out,←List.append_assoc,show a1+32+8*(i+1)=a1+32+8*i+8 by omega];exact Hs.out.1,H6.out.2.trans Hs.out.2⟩⟩
   case measure=>simp [intOf];omega
  ·obtain rfl:i=n:=by omega
   have hpos:=HW.out.1.rd.pos
   go_wp2
   go_end0
   refine .inl ⟨_,_,ov',.done (by rw [Ha.out];omega) (by rw [Ha.out,Hm.out,Hn.out];exact hmn) (by rw [Ha.out,Hn.out];omega) (by rw [Ha.out,Hn.out];exact hpos),rfl,?_,HW.out.2⟩
   rw [Ha.out,Hn.out]
   exact HW.out.1
end
end
section
open Go.RowKit Go.Maps
set_option maxHeartbeats 1000000 in
theorem zbY (ls:List Nat) (v:Value) (w:World) (hv:Row enc8 1 w v ls) (hc:chk ls=0):
  Calls Tryz.prog 199 #[v] w fun e w'=> ∃tv,e= .returned tv∧TblV w' (fun i=>i<w.heap.size) tv ls∧Below w.heap.size w w':=by
 have Hv:=Lib.hid hv
 have Hc:=Lib.hid hc
 obtain ⟨p,c,rfl,-⟩:=hv
 clear hc
 go_enter Tryz.func199,Tryz.ntmps199
 go_wp2_with fail
 refine Calls.mono (zrk ls _ w Hv.out Hc.out (zkc Hc.out)) ?_
 rintro e w1 ⟨T,rfl,ht,hb⟩
 have Ht:=Lib.hid ht
 have Hb:=Lib.hid hb
 clear ht hb
 go_wp2_with fail
 refine Calls.mono (zcr _) ?_
 rintro e w2 ⟨rfl,rfl⟩
 go_wp2
 go_ret
 obtain ⟨M,n,L,F,t1,t2,t3,t4,t5⟩:=Ht.out.ex
 refine ⟨_,rfl,⟨T,M,n,L,F,rfl,⟨⟨t1,t2⟩,t3,t4,?_,fun h=>absurd h (by have:=Ht.out.ge;omega),fun h=>absurd h (by omega)⟩⟩,Hb.out⟩
 rcases t4.le with h | ⟨i,i1,i2,i3⟩
 ·omega
 ·rw [←i3];exact (za6 Hc.out).2.1 i i1
set_option maxHeartbeats 1000000 in
theorem zdC (ls:List Nat) (v:Value) (w:World) (hv:Row enc8 1 w v ls) (hc:chk ls≠0):
  Calls Tryz.prog 199 #[v] w fun e w'=>e=zak (chk ls)∧w'=w:=by
 have Hv:=Lib.hid hv
 have Hc:=Lib.hid hc
 obtain ⟨p,c,rfl,-⟩:=hv
 clear hc
 go_enter Tryz.func199,Tryz.ntmps199
 go_wp2_with fail
 refine Calls.mono (zqu ls _ w Hv.out Hc.out) ?_
 rintro e w1 ⟨rfl,rfl⟩
 obtain ⟨r,hr⟩:∃r,chk ls=r:=⟨_,rfl⟩
 have Hr:=Lib.hid (hr ▸ Hc.out:r≠0)
 have Hrr:=Lib.hid hr
 rw [hr]
 clear hr
 go_wp2_with fail
 refine Calls.mono (zec r Hr.out _) ?_
 rintro e w2 ⟨rfl,rfl⟩
 go_wp2
 exact ⟨rfl,by rw [Hrr.out],rfl⟩
set_option maxHeartbeats 1000000 in
theorem zrb (n:Nat) (hn:n<4294967296) (w:World):
  Calls Tryz.prog 217 #[.int .u64 1,.int .u64 (n:Int)] w fun e w'=>e= .returned (.tuple #[.int .u64 0,.int .u64 (n:Int)])∧w'=w:=by
 have h1:bits .and .u64 1 4294967295=1:=by decide
 have h0:bits .and .u64 0 4294967295=0:=by decide
 have h2:bits .and .u64 (n:Int) 4294967295=(n:Int):=by
  have h:=bits_and_u64_nat n 4294967295 (by omega) (by omega)
  have e:n &&& 4294967295=n%4294967296:=Nat.and_two_pow_sub_one_eq_mod n 32
  rw [e] at h
  rw [show ((4294967295:Nat):Int)=4294967295 from rfl] at h
  rw [h];omega
 have h3:(n:Int)/4294967296=0:=by omega
 have h4:IntKind.u64.wrap (n:Int)=(n:Int):=by rw [IntKind.wrap_u64];omega
 go_enter Tryz.func217,Tryz.ntmps217
 go_wp2
 go_ret2
 exact ⟨rfl,rfl⟩
set_option maxHeartbeats 1000000 in
theorem imul (n:Nat) (hn:n<4294967296) (w:World):
  Calls Tryz.prog 206 #[.int .u64 1,.int .u64 (n:Int)] w fun e w'=>e= .returned (.tuple #[.int .u64 0,.int .u64 (n:Int)])∧w'=w:=by
 go_enter Tryz.func206,Tryz.ntmps206
 go_wp2_with fail
 refine Calls.mono (zrb n hn _) ?_
 rintro e w2 ⟨rfl,rfl⟩
 go_wp2
 go_ret2
 exact ⟨rfl,rfl⟩
def filled (x m n:Nat):List Value:=List.replicate m (u8v x)++List.replicate (n - m) (u8v 0)
theorem zfY {x m n:Nat} (h:m≤n):(filled x m n).length=n:=by simp [filled];omega
theorem zkY (x n:Nat):filled x n n=List.replicate n (u8v x):=by simp [filled]
theorem zjA (x n:Nat):filled x 0 n=zah (fun _=>0) n:=by
 simp only [filled,List.replicate_zero,List.nil_append,Nat.sub_zero,zah]
 rw [List.map_const',List.length_range]
theorem zlK {x m n i:Nat} (h:i<m):(filled x m n)[i]? =some (u8v x):=by
 rw [filled,List.getElem?_append_left (by simpa using h),List.getElem?_replicate,if_pos h]
theorem zho {x m n k:Nat} (h:m+k≤n):splice (filled x m n) m (List.replicate k (u8v x))=filled x (m+k) n:=by
 have h1:(filled x m n).take m=List.replicate m (u8v x):=by
  rw [filled,List.take_append_of_le_length (by simp)];simp
 have h2:(filled x m n).drop (m+k)=List.replicate (n - (m+k)) (u8v 0):=by
  rw [filled,List.drop_append,List.drop_eq_nil_of_le (by simp),List.nil_append,List.drop_replicate,List.length_replicate]
  congr 1;omega
 rw [splice,List.length_replicate,h1,h2,←List.append_assoc,List.replicate_append_replicate]
 rfl
theorem zeW {w w0:World} {G x m k n:Nat} {ad:Addr} {sLen sCap dLen dCap:Nat} (hg:w.heap[G]? =some (.cells (filled x m n).toArray 5 (0,0))) (hb:Below w0.heap.size w0 w) (hG:w0.heap.size≤G)
  (hk:k=Nat.min sLen dLen) (hmk:m+k≤n) (hsrc:∀j,j<k→w.cell? (ad.add j)=some (u8v x)):
  ∃w',(Builtin.copy_ #[28,28] 3 #[.slice (some ⟨G,m,none⟩) dLen dCap,.slice (some ad) sLen sCap]).run Tryz.prog w= .ok (goInt k) w'∧w'.heap[G]? =some (.cells (filled x (m+k) n).toArray 5 (0,0))∧Below w0.heap.size w0 w':=by
 have h:=run_copy_row (P:=Tryz.prog) w 28 28 3 5 G m dLen dCap ad sLen sCap (filled x m n).toArray 5 (List.replicate k (u8v x)) Tryz.underlying28 (by kernel_rfl) hg (by rw [List.length_replicate];exact hk)
  (fun j v hj=>by
   rw [List.getElem?_replicate] at hj
   split at hj
   ·cases hj;exact hsrc j (by assumption)
   ·cases hj) (by rw [List.length_replicate,List.size_toArray,zfY (by omega)];exact hmk) (fun v hv=>by rcases List.mem_replicate.1 hv with ⟨-,rfl⟩;rfl)
 rw [List.length_replicate] at h
 refine ⟨_,h,?_,below_setRow hb hG _⟩
 rw [setRow_heap w G _ _ 5 _ hg,←zho hmk,splice,List.length_replicate,List.append_assoc]
theorem zi1 (G n m:Nat) (h:m<n) (w:World):(Instr.slice 28 (.slice (some ⟨G,0,none⟩) n n) (some (.int .i64 (m:Int))) none none).run Tryz.prog w= .ok (.slice (some ⟨G,m,none⟩) (n - m) (n - m)) w:=by
 obtain ⟨i,hi,hz,hs,hb⟩:=info_parts zaw
 rw [run_slice_l w 28 (some ⟨G,0,none⟩) n n (by kernel_rfl) .i64 (m:Int) (by omega) (by omega),Int.toNat_natCast]
 have:¬n=m:=by omega
 simp [go_sem,this]
theorem zjC (G n m:Nat) (h:m≤n) (w:World):(Instr.slice 28 (.slice (some ⟨G,0,none⟩) n n) none (some (.int .i64 (m:Int))) none).run Tryz.prog w= .ok (.slice (some ⟨G,0,none⟩) m n) w:=by
 obtain ⟨i,hi,hz,hs,hb⟩:=info_parts zaw
 rw [run_slice_h w 28 (some ⟨G,0,none⟩) n n (by kernel_rfl) .i64 (m:Int) (by omega) (by omega),Int.toNat_natCast]
 simp [go_sem]
set_option maxRecDepth 20000 in
set_option maxHeartbeats 2000000 in
theorem ziK (b x n:Nat) (_hx:x<256) (h1:1≤n) (hn:n≤1000) (w:World) (hb:w.cell? ⟨b,0,none⟩=some (.int .u8 (x:Int))):
  Calls Tryz.prog 190 #[.slice (some ⟨b,0,none⟩) 1 1,.int .i64 (n:Int)] w fun e w'=> ∃v,e= .returned v∧w'.ownsRow w.heap.size 5 1 v n (List.replicate n (u8v x))∧Below w.heap.size w w':=by
 have hm:=fun w:World=>zkg n (by omega) w
 have d0:decide ((n:Int)<0)=false:=by simp
 have d1:decide ((n:Int)>9223372036854775807)=false:=by simp;omega
 have hw1:IntKind.u64.wrap (n:Int)=(n:Int):=by rw [IntKind.wrap_u64];omega
 have hw2:IntKind.i64.wrap (n:Int)=(n:Int):=IntWalk.i64_in _ (by omega)
 go_enter Tryz.func190,Tryz.ntmps190
 go_wp2_with fail
 refine Calls.mono (imul n (by omega) _) ?_
 rintro e w2 ⟨rfl,rfl⟩
 have hbG:b<w2.heap.size:=World.block_lt_of_cell? _ _ hb
 have hsrc0:∀j,j<1→(w2.alloc (.cells (zah (fun _=>0) n).toArray 5)).cell? (Addr.add ⟨b,0,none⟩ j)=some (u8v x):=fun j hj=>by
  obtain rfl:j=0:=by omega
  exact cell_later (Below.al1 _ _) hb
 obtain ⟨w3,hcp,hg3,hb3⟩:=zeW (w:=w2.alloc (.cells (zah (fun _=>0) n).toArray 5)) (w0:=w2) (G:=w2.heap.size) (x:=x) (m:=0) (k:=1) (n:=n) (ad:=⟨b,0,none⟩) (sLen:=1) (sCap:=1) (dLen:=n) (dCap:=n)
  (by rw [zjA];exact World.alloc_heap_new _ _) (Below.al1 _ _) (Nat.le_refl _) (by simp [Nat.min_def];omega) (by omega) hsrc0
 rw [Nat.zero_add] at hg3
 have Hg3:=Lib.hid hg3
 have Hb3:=Lib.hid hb3
 clear hg3 hb3 hb hbG hsrc0
 go_wp2_with fail
 go_loopw [8] (fun nv wr=> ∃m:Nat,nv= .int .i64 (m:Int)∧1≤m∧m≤n∧Hid (wr.heap[w2.heap.size]? =some (.cells (filled x m n).toArray 5 (0,0)))∧Hid (Below w2.heap.size w2 wr)) (fun nv _=>n - (intOf nv).toNat)
 case atStart=>exact ⟨1,rfl,Nat.le_refl _,h1,Hg3,Hb3⟩
 case round=>
  obtain ⟨m,rfl,hm1,hmn,HG,HB⟩:=hrel
  clear hcp
  by_cases hlt:m<n
  ·have e0:decide ((m:Int)<(n:Int))=true:=by simp;omega
   have hs1:=zi1 w2.heap.size n m hlt
   have hs2:=zjC w2.heap.size n m hmn
   obtain ⟨k,hk⟩:∃k,Nat.min m (n - m)=k:=⟨_,rfl⟩
   have hk':min m (n - m)=k:=hk
   have hk1:1≤k∧k≤n - m∧k≤m:=by omega
   clear hk'
   have hdr:Below wr.heap.size wr wr.drew:=Below.drew (Below.refl _ _)
   obtain ⟨w4,hcp,hg4,hb4⟩:=zeW (w:=wr.drew) (w0:=w2) (G:=w2.heap.size) (x:=x) (m:=m) (k:=k) (n:=n) (ad:=⟨w2.heap.size,0,none⟩) (sLen:=m) (sCap:=n) (dLen:=n - m) (dCap:=n - m)
    HG.out (Below.thn HB.out hdr) (Nat.le_refl _) hk.symm (by omega) (fun j hj=>by
     have ha:Addr.add ⟨w2.heap.size,0,none⟩ j=⟨w2.heap.size,j,none⟩:=by
      unfold Addr.add;split
      ·rename_i h;rw [h]
      ·simp
     rw [ha]
     have:wr.drew.heap[w2.heap.size]? =some (.cells (filled x m n).toArray 5 (0,0)):=HG.out
     simp only [World.cell?,this]
     rw [List.getElem?_toArray,zlK (by omega)]
     rfl)
   have hw:IntKind.i64.wrap ((m:Int)+(k:Int))=((m+k:Nat):Int):=IntWalk.i64_in _ (by omega)
   have Hg4:=Lib.hid hg4
   have Hb4:=Lib.hid hb4
   clear hg4 hb4 hdr hk
   go_wp2_with fail
   go_region
   all_goals go_wp2
   all_goals go_roundw
   case rel=>exact ⟨m+k,by go_num,by omega,by omega,Hg4,Hb4⟩
   case measure=>simp [intOf];omega
  ·obtain rfl:m=n:=by omega
   go_wp2
   go_ret
   refine ⟨_,rfl,⟨by simp,.inr ⟨w2.heap.size,m,_,rfl,Nat.le_refl _,HG.out,Nat.le_refl _,by simp only [maxLen];omega,?_,?_⟩⟩,HB.out⟩
   ·rw [List.size_toArray,zfY (Nat.le_refl _),Nat.mul_one]
   ·rw [Nat.mul_one,zkY]
    simp
theorem za3 {w:World} {B B':Nat} {e:TypeId} {size:Nat} {v:Value} {n:Nat} {xs:List Value} (h:w.ownsRow B e size v n xs) (hb:B'≤B):w.ownsRow B' e size v n xs:=
 ⟨h.1,h.2.imp id fun ⟨g,cap,cur,a,b,c⟩=>⟨g,cap,cur,a,Nat.le_trans hb b,c⟩⟩
set_option maxHeartbeats 1000000 in
theorem zce (x n:Nat) (hx:x<256) (h1:1≤n) (hn:n≤1000) (w:World):
  Calls Tryz.prog 198 #[.int .u8 (x:Int),.int .i64 (n:Int)] w fun e w'=> ∃v,e= .returned v∧w'.ownsRow w.heap.size 5 1 v n (List.replicate n (u8v x))∧Below w.heap.size w w':=by
 go_enter Tryz.func198,Tryz.ntmps198
 go_wp2_with fail
 refine Calls.mono (ziK w.heap.size x n hx h1 hn _ (by simp [go_sem])) ?_
 rintro e w1 ⟨v,rfl,ho,hb⟩
 have Hb:=Lib.hid (Below.thn (Below.al1 w _) hb)
 have Ho:=Lib.hid (za3 ho (Below.al1 w (.cells #[.int .u8 (x:Int)] 5)).size)
 clear ho hb
 go_wp2
 go_ret
 exact ⟨_,rfl,Ho.out,Hb.out⟩
end
section
open Go.RowKit Go.Maps
set_option maxHeartbeats 1000000 in
theorem zmj (n:Nat) (h0:0<n) (hn:n≤10000) (w:World):
  Calls Tryz.prog 189 #[.slice none 0 0,.int .i64 (n:Int)] w fun e w'=> ∃v,e= .returned v∧w'.ownsRow w.heap.size 5 1 v 0 []∧Below w.heap.size w w':=by
 obtain ⟨i,hi,hz,hs,hb⟩:=info_parts zaw
 have d0:decide ((n:Int)<0)=false:=by simp
 have d1:decide ((n:Int)>0)=true:=by simp;omega
 have hw:IntKind.i64.wrap (n:Int)=(n:Int):=IntWalk.i64_in _ (by omega)
 have hw2:wrap64 (n:Int)=(n:Int):=wrap64_in _ (by omega)
 have hap:=Lib.run_append_nil_zeros (P:=Tryz.prog) w 28 3 28 5 i _ .i64 .i64 Tryz.underlying28 Tryz.underlying3 hi hz n h0 (by rw [hs];decide) (by omega) (by rw [hb];omega)
 have hcap:n≤grownCap w n 0 5:=grownCap_ge w _ _ _
 have hcap2:grownCap w n 0 5≤maxLen:=grownCap_le_maxLen w n 0 _ (by simp only [maxLen];omega)
 obtain ⟨G,hG⟩:∃G,grownCap w n 0 5=G:=⟨_,rfl⟩
 rw [hG] at hap hcap hcap2
 obtain ⟨cs,hcs⟩:∃cs,Builtin.zeroCells (Value.int IntKind.u8 0).cells n++Builtin.zeroCells (Value.int IntKind.u8 0).cells (G - n)=cs:=⟨_,rfl⟩
 rw [hcs] at hap
 have hsz:cs.size=G:=by rw [←hcs];simp only [Array.size_append,size_zeroCells,show (Value.int IntKind.u8 0).cells.size=1 from rfl];omega
 have hown:((w.drew.alloc (.cells cs 5))).ownsRow w.heap.size 5 1 (.slice (some ⟨w.heap.size,0,none⟩) 0 G) 0 []:=
  ⟨rfl,.inr ⟨w.heap.size,G,cs,rfl,Nat.le_refl _,World.alloc_heap_new w.drew _,Nat.zero_le _,hcap2,by omega,by simp⟩⟩
 have hbl:Below w.heap.size w (w.drew.alloc (.cells cs 5)):=Below.thn (Below.drew (Below.refl _ _)) (Below.al1 _ _)
 obtain ⟨w1,hw1⟩:∃w1,w.drew.alloc (.cells cs 5)=w1:=⟨_,rfl⟩
 rw [hw1] at hap hown hbl
 have Hap:=Lib.hid hap
 clear hap hcs hsz hw1 hi hz hs hb hG
 go_enter Tryz.func189,Tryz.ntmps189
 go_wp2_with (at_builtin;refine Lib.wpList_append_run _ rfl _ _ _ _ rfl _ _ rfl rfl _ _ Hap.out ?_)
 go_ret
 exact ⟨_,rfl,hown,hbl⟩
def tot (R:List (Value×List Nat)) (i:Nat):Nat:=((R.take i).map fun r=>r.2.length).sum
def cat (R:List (Value×List Nat)) (i:Nat):List Nat:=(R.take i).flatMap fun r=>r.2
theorem ze9 {R:List (Value×List Nat)} {i:Nat} (h:i<R.length):tot R (i+1)=tot R i+R[i].2.length:=by
 unfold tot
 rw [List.take_succ_eq_append_getElem h,List.map_append,List.sum_append]
 simp only [List.map_cons,List.map_nil,List.sum_cons,List.sum_nil,Nat.add_zero]
theorem zol {R:List (Value×List Nat)} {i:Nat} (h:i<R.length):cat R (i+1)=cat R i++R[i].2:=by
 unfold cat
 rw [List.take_succ_eq_append_getElem h,List.flatMap_append]
 simp only [List.flatMap_cons,List.flatMap_nil,List.append_nil]
theorem zm2 (R:List (Value×List Nat)) (i:Nat):∀k,i+k≤R.length→tot R i≤tot R (i+k)
 | 0,_=>Nat.le_refl _
 | k+1,h=>by
  have h1:=zm2 R i k (by omega)
  have h2:=ze9 (R:=R) (i:=i+k) (by omega)
  rw [Nat.add_assoc] at h2
  omega
theorem zlR (R:List (Value×List Nat)) {i:Nat} (h:i≤R.length):tot R i≤tot R R.length:=by
 have:=zm2 R i (R.length - i) (by omega)
 rw [show i+(R.length - i)=R.length by omega] at this
 exact this
set_option maxRecDepth 20000 in
set_option maxHeartbeats 2000000 in
theorem zc3 (g c:Nat) (R:List (Value×List Nat)) (w:World) (hc:∀i (h:i<R.length),w.cell? ⟨g,i,none⟩=some R[i].1∧Rw8 w R[i].1 R[i].2) (h0:0<tot R R.length) (hn:tot R R.length≤10000) (hR:R.length≤1000):
  Calls Tryz.prog 177 #[.slice (some ⟨g,0,none⟩) R.length c] w fun e w'=> ∃v,e= .returned v∧w'.ownsRow w.heap.size 5 1 v (tot R R.length) ((cat R R.length).map u8v)∧Below w.heap.size w w':=by
 have Hc:=Lib.hid hc
 obtain ⟨i0,hi0,hz0,hz1,hz2⟩:=info_parts zaw
 clear hc
 go_enter Tryz.func177,Tryz.ntmps177
 go_wp2_with fail
 go_loopw [3,11] (fun sv iv wr=> ∃i:Nat,iv= .int .i64 (i:Int)∧sv= .int .i64 (tot R i:Int)∧i≤R.length∧wr=w) (fun _ iv _=>R.length - (intOf iv).toNat)
 case atStart=>exact ⟨0,rfl,rfl,Nat.zero_le _,rfl⟩
 case round=>
  obtain ⟨i,rfl,rfl,hi,rfl⟩:=hrel
  by_cases hin:i<R.length
  ·have d1:decide ((i:Int)<(R.length:Int))=true:=by simp;omega
   obtain ⟨hcell,hrw⟩:=Hc.out i hin
   obtain ⟨p',c',e',-,-,-⟩:=hrw.cells
   have hts:=ze9 hin
   have hle:=zlR R (i:=i+1) (by omega)
   rw [e'] at hcell
   obtain ⟨q,hq⟩:∃q,R[i].2.length=q:=⟨_,rfl⟩
   rw [hq] at hcell hts
   obtain ⟨t,ht⟩:∃t,tot R i=t:=⟨_,rfl⟩
   rw [ht] at hts ⊢
   have hw:IntKind.i64.wrap ((t:Int)+(q:Int))=((t+q:Nat):Int):=IntWalk.i64_in _ (by omega)
   have d2:decide (((t+q:Nat):Int)<0)=false:=by simp only [decide_eq_false_iff_not];omega
   have d3:decide ((t:Int)+(q:Int)<0)=false:=by simp only [decide_eq_false_iff_not];omega
   have j0:(0:Int)≤(i:Int):=by omega
   have j1:(i:Int)<(R.length:Int):=by omega
   have Hts:=Lib.hid hts
   clear hts hle hrw e' hq ht
   go_wp2
   go_roundw
   case rel=>exact ⟨i+1,by go_num,by rw [Hts.out,Int.natCast_add],by omega,by first | rfl | trivial⟩
   case measure=>simp [intOf];omega
  ·obtain rfl:i=R.length:=by omega
   have hcat:(cat R 0).map u8v=[]:=rfl
   go_wp2_with fail
   refine Calls.mono (zmj (tot R R.length) h0 hn _) ?_
   rintro e w1 ⟨v1,rfl,ho,hb⟩
   have Hb:=Lib.hid hb
   have Ho:=Lib.hid ho
   obtain ⟨p1,c1,rfl⟩:=zac ho
   clear ho hb
   go_wp2_with fail
   go_loopw [6,27] (fun nv iv w2=> ∃i:Nat,iv= .int .i64 (i:Int)∧i≤R.length∧Hid (w2.ownsRow wr.heap.size 5 1 nv (tot R i) ((cat R i).map u8v))∧Hid (Below wr.heap.size wr w2)) (fun _ iv _=>R.length - (intOf iv).toNat)
   case atStart=>exact ⟨0,rfl,Nat.zero_le _,Ho,Hb⟩
   case round=>
    obtain ⟨i,rfl,hi,HO,HB⟩:=hrel
    by_cases hin:i<R.length
    ·have d1:decide ((i:Int)<(R.length:Int))=true:=by simp;omega
     obtain ⟨hcell,hrw⟩:=Hc.out i hin
     obtain ⟨p',c',e',hc1,hc2,hsrc⟩:=(hrw.below HB.out).src zca (by decide)
     have hcell:=cell_later HB.out hcell
     rw [zdr] at hsrc
     rw [e'] at hcell
     have hts:=ze9 hin
     have hcs:=zol hin
     have hle:=zlR R (i:=i+1) (by omega)
     have Hx:=Lib.hid (And.intro hts (And.intro hcs hsrc))
     have Hle:=Lib.hid (show tot R i+R[i].2.length≤10000 by omega)
     have hbl:=HB.out.size
     obtain ⟨p2,c2,rfl⟩:=zac HO.out
     have j0:(0:Int)≤(i:Int):=by omega
     have j1:(i:Int)<(R.length:Int):=by omega
     clear hts hcs hle hrw hsrc e'
     go_wp2_with (at_builtin;refine zai wr rfl (.tmp 31) (.tmp 32) 28 rfl _ 5 i0 _ 1 1 Tryz.underlying28 hi0 hz0 hz1 hz2 rfl (by decide) (.slice p2 (tot R i) c2) (tot R i) ((cat R i).map u8v) rfl HO.out p' R[i].2.length c' (R[i].2.map u8v) rfl (by simp) Hx.out.2.2 (one8 _) ?n3 ?n4 hbl ?_)
     case n3=>have:=Hle.out;simp only [maxLen];omega
     case n4=>have:=Hle.out;omega
     intro v2 w2 ho2 hg2 _
     have HO2:=Lib.hid ho2
     have HB2:=Lib.hid (HB.out.trans ((Turns.of_grown (T:=fun k=>(Value.slice p2 (tot R i) c2).ownBlock=some k) hg2 (fun _ h=>h)).below hbl (fun k hk=>(HO.out.lt k hk).1)))
     clear ho2 hg2
     go_wp2
     go_roundw
     case rel=>exact ⟨i+1,by go_num,by omega,Lib.hid (by rw [Hx.out.1,Hx.out.2.1,List.map_append];exact HO2.out),HB2⟩
     case measure=>simp [intOf];omega
    ·obtain rfl:i=R.length:=by omega
     obtain ⟨p2,c2,rfl⟩:=zac HO.out
     go_wp2
     go_ret
     exact ⟨_,rfl,HO.out,HB.out⟩
end
end Go.Proofs.YtedakhgaghfogaaGreat
