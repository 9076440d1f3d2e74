/- Several texts in one, each with its own head. -/
import Derived.Test.YtedakhgaghfogaaGreatQs18
import Derived.Test.YtedakhgaghfogaaGreatQs8
namespace Go.Proofs.YtedakhgaghfogaaGreat
section
open Go.RowKit Go.Maps
set_option maxHeartbeats 2000000 in
theorem zay {G:Nat→Prop} {W:World} {F:World→Prop} {base B v k:Nat} {P:Pt} {w:World} (h:WrF G W F base B P w) (hv:v<2^k) (hk:k≤24) (hmax:szP P+k≤8388608):
  Calls Tryz.prog 173 #[.pointer (some ⟨B,0,none⟩),.int .i64 (v:Int),.int .i64 (k:Int)] w fun e w'=>e= .returned (.tuple #[])∧WrF G W F base B (P++[(v,k)]) w':=by
 have hv24:v<16777216:=Nat.lt_of_lt_of_le hv (Nat.le_trans (Nat.pow_le_pow_right (n:=2) (by omega) hk) (by decide))
 have hw:IntKind.u32.wrap (v:Int)=(v:Int):=IntWalk.u32_in _ (by omega)
 have H:=Lib.hid (h.put hv hk hmax)
 clear h hv
 go_enter Tryz.func173,Tryz.ntmps173
 go_wp2_with fail
 refine Calls.mono H.out ?_
 rintro _ w1 ⟨rfl,h1⟩
 have H1:=Lib.hid h1
 clear h1 H
 go_wp2
 go_end0
 exact ⟨rfl,H1.out⟩
set_option maxHeartbeats 2000000 in
theorem zd9 {G:Nat→Prop} {W:World} {F:World→Prop} {base B kind:Nat} {P:Pt} {w:World} (last:Bool) (h:WrF G W F base B P w) (hk:kind<4) (hmax:szP P+3≤8388608):
  Calls Tryz.prog 160 #[.pointer (some ⟨B,0,none⟩),.bool last,.int .i64 (kind:Int)] w fun e w'=>e= .returned (.tuple #[])∧WrF G W F base B (P++[(if last then 1 else 0,1)]++[(kind,2)]) w':=by
 have H:=Lib.hid h
 have Hm:=Lib.hid hmax
 have Hk:=Lib.hid hk
 clear h hmax hk
 cases last
 ·go_enter Tryz.func160,Tryz.ntmps160
  go_wp2_with fail
  refine Calls.mono (zay (v:=0) (k:=1) H.out (by decide) (by decide) (by have:=Hm.out;omega)) ?_
  rintro _ w1 ⟨rfl,h1⟩
  have H1:=Lib.hid h1
  clear h1 H
  go_wp2_with fail
  refine Calls.mono (zay (v:=kind) (k:=2) H1.out (by have:=Hk.out;omega) (by decide) (by have:=Hm.out;simp only [zaj,szP];omega)) ?_
  rintro _ w2 ⟨rfl,h2⟩
  have H2:=Lib.hid h2
  clear h2 H1
  go_wp2
  go_end0
  exact ⟨rfl,H2.out.congr (by simp)⟩
 ·go_enter Tryz.func160,Tryz.ntmps160
  go_wp2_with fail
  refine Calls.mono (zay (v:=1) (k:=1) H.out (by decide) (by decide) (by have:=Hm.out;omega)) ?_
  rintro _ w1 ⟨rfl,h1⟩
  have H1:=Lib.hid h1
  clear h1 H
  go_wp2_with fail
  refine Calls.mono (zay (v:=kind) (k:=2) H1.out (by have:=Hk.out;omega) (by decide) (by have:=Hm.out;simp only [zaj,szP];omega)) ?_
  rintro _ w2 ⟨rfl,h2⟩
  have H2:=Lib.hid h2
  clear h2 H1
  go_wp2
  go_end0
  exact ⟨rfl,H2.out.congr (by simp)⟩
def BsAt (w:World) (p:Option Addr) (bs:List Nat):Prop:= ∀i (_:i<bs.length),∃g off,p=some ⟨g,off,none⟩∧w.cell? ⟨g,off+i,none⟩=some (.int .u8 ((bs.getD i 0:Nat):Int))
theorem zm7 (bs:List Nat) {i:Nat} (hi:i<bs.length):(bs.take (i+1)).map (fun b=>((b,8):Nat×Nat))=(bs.take i).map (fun b=>(b,8))++[(bs.getD i 0,8)]:=by
 rw [List.take_succ_eq_append_getElem hi,List.map_append,List.getD_eq_getElem?_getD,List.getElem?_eq_getElem hi];rfl
theorem zmV (bs:List Nat) {i:Nat} (hi:i≤bs.length):szP ((bs.take i).map (fun b=>((b,8):Nat×Nat)))=8*i:=by
 rw [zeE,List.length_take,Nat.min_eq_left hi]
set_option maxRecDepth 20000 in
set_option maxHeartbeats 8000000 in
theorem zeb {G:Nat→Prop} {W:World} {F:World→Prop} {base B:Nat} {P:Pt} (last:Bool) (p:Option Addr) (c:Nat) (bs:List Nat) (w:World) (h:WrF G W F base B P w) (hB:∀w,F w→BsAt w p bs) (hby:∀i,bs.getD i 0<256) (hl:bs.length≤65535) (hm:szP P+8*bs.length+50≤8388608):
  Calls Tryz.prog 159 #[.pointer (some ⟨B,0,none⟩),.bool last,.slice p bs.length c] w fun e w'=>e= .returned (.tuple #[])∧WrF G W F base B (P++(Bn.st bs).put (szP P) last) w':=by
 have H:=Lib.hid h
 have HB:=Lib.hid hB
 have Hby:=Lib.hid hby
 obtain ⟨n,hn⟩:∃n,bs.length=n:=⟨_,rfl⟩
 have Hn:=Lib.hid hn
 rw [hn] at hl hm ⊢
 have Hm:=Lib.hid hm
 obtain ⟨la,hla⟩:∃la,(if last then 1 else 0:Nat)=la:=⟨_,rfl⟩
 have Hla:=Lib.hid hla
 have hh:=zd9 (kind:=0) last h (by decide) (by omega)
 rw [hla] at hh
 have Hh:=Lib.hid hh
 clear h hB hby hm hn hh hla
 go_enter Tryz.func159,Tryz.ntmps159
 go_wp2_with fail
 refine Calls.mono Hh.out ?_
 rintro _ w2 ⟨rfl,h2⟩
 have H2:=Lib.hid h2
 clear h2 H Hh
 go_wp2_with fail
 refine Calls.mono (H2.out.align (by have:=Hm.out;simp only [zaj,szP];omega)) ?_
 rintro _ w3 ⟨rfl,h3⟩
 have H3:=Lib.hid h3
 clear h3 H2
 have hw3:(65535:Int) - (n:Int)=((65535 - n:Nat):Int):=by omega
 go_wp2_with fail
 refine Calls.mono (zay (v:=n) (k:=16) H3.out (by omega) (by decide) (by have:=Hm.out;simp only [zaj,szP];omega)) ?_
 rintro _ w4 ⟨rfl,h4⟩
 have H4:=Lib.hid h4
 clear h4 H3
 go_wp2_with fail
 refine Calls.mono (zay (v:=65535 - n) (k:=16) H4.out (by omega) (by decide) (by have:=Hm.out;simp only [zaj,szP];omega)) ?_
 rintro _ w5 ⟨rfl,h5⟩
 have H5:=Lib.hid h5
 clear h5 H4 hw3
 go_wp2_with fail
 go_loopw [26] (fun iv wr=> ∃i:Nat,iv= .int .i64 (i:Int)∧i≤n∧Hid (WrF G W F base B (P++[(la,1)]++[(0,2)]++[(0,(8 - szP (P++[(la,1)]++[(0,2)])%8)%8)]++[(n,16)]++[(65535 - n,16)]++(bs.take i).map (fun b=>(b,8))) wr)) (fun iv _=>n - (intOf iv).toNat)
 case atStart=>exact ⟨0,rfl,Nat.zero_le _,Lib.hid (H5.out.congr (by simp))⟩
 case round=>
  clear H5
  obtain ⟨i,rfl,hi,HW⟩:=hrel
  by_cases hin:i<n
  ·have d1:decide ((i:Int)<(n:Int))=true:=by simp;omega
   have hin':i<bs.length:=by rw [Hn.out];exact hin
   obtain ⟨g,off,rfl,cx⟩:=HB.out _ HW.out.now i hin'
   have hx:=Hby.out i
   have Ht:=Lib.hid (zm7 bs hin')
   have Hsz:=Lib.hid (zmV bs (Nat.le_of_lt hin'))
   obtain ⟨x,hxx⟩:∃x,bs.getD i 0=x:=⟨_,rfl⟩
   rw [hxx] at cx hx Ht
   have i0:(0:Int)≤(i:Int):=by omega
   have i1:(i:Int)<(n:Int):=by omega
   have hw1:IntKind.i64.wrap (x:Int)=(x:Int):=IntWalk.i64_in _ (by omega)
   clear hxx hin'
   go_wp2_with fail
   refine Calls.mono (zay (v:=x) (k:=8) HW.out hx (by decide) (by have:=Hm.out;have:=Hsz.out;simp only [zaj,szP];omega)) ?_
   rintro _ w6 ⟨rfl,h6⟩
   have H6:=Lib.hid (h6.congr (List.append_assoc _ _ _))
   rw [←Ht.out] at H6
   clear h6
   go_wp2
   go_roundw
   case rel=>exact ⟨i+1,by go_num,by omega,H6⟩
   case measure=>simp [intOf];omega
  ·obtain rfl:i=n:=by omega
   have hE:bs.take i=bs:=List.take_of_length_le (by rw [Hn.out];exact Nat.le_refl _)
   rw [hE] at HW
   clear hE
   go_wp2
   go_end0
   refine ⟨rfl,HW.out.congr ?_⟩
   have e:=Hn.out
   have e2:=Hla.out
   simp only [List.append_assoc,zaj,szP,Bn.put,Bn.body,putS,Bn.kind,e,←e2]
   rfl
end
section
open Go.RowKit Go.Maps
def stD (b:List Nat) (j:Nat):List Bn:=(List.range j).map fun i=> .st ((b.drop (65535*i)).take 65535)
theorem zdK (b:List Nat) (j:Nat):stD b (j+1)=stD b j++[.st ((b.drop (65535*j)).take 65535)]:=by
 unfold stD
 rw [List.range_succ,List.map_append];rfl
def stJ (n:Nat):Nat:=(n - 1)/65535
def stB (b:List Nat):List Bn:=stD b (stJ b.length)++[.st (b.drop (65535*stJ b.length))]
theorem zor (bs:List Nat) (a:Nat) (last:Bool) (h:a%8=0):szP ((Bn.st bs).put a last)=8*bs.length+40:=by
 have e:szP ((Bn.st bs).put a last)=3+szP ((Bn.st bs).body (a+3)):=by unfold Bn.put;simp only [szP];omega
 rw [e]
 show 3+szP (putS (a+3) bs)=_
 unfold putS;simp only [szP,zeE];omega
theorem zmM (b:List Nat):∀j,65535*j≤b.length→szP (putF 0 (stD b j))=524320*j
 | 0,_=>rfl
 | j+1,h=>by
  have ih:=zmM b j (by omega)
  rw [zdK,zea,zaj,ih,Nat.zero_add,zor _ _ _ (by omega),List.length_take,List.length_drop]
  omega
theorem zqS (b:List Nat) (j:Nat):putF 0 (stD b (j+1))=putF 0 (stD b j)++(Bn.st ((b.drop (65535*j)).take 65535)).put (szP (putF 0 (stD b j))) false:=by
 rw [zdK,zea,Nat.zero_add]
theorem zn9 {n m d j:Nat} (h1:m+65535*j≤n) (h2:n≤m+65535*j) (h3:m≤d) (h4:65535<m):m - 65535+65535*(j+1)≤n∧n≤m - 65535+65535*(j+1)∧m - 65535≤d - 65535∧j+1≤stJ n:=by
 unfold stJ
 refine ⟨by omega,by omega,by omega,by omega⟩
theorem zg8 (p:Option Addr) (n c m:Nat) (h:m≤c) (w:World):(Instr.slice 28 (.slice p n c) none (some (.int .i64 (m:Int))) none).run Tryz.prog w= .ok (.slice p m c) w:=by
 obtain ⟨i,hi,hz,hs,hb⟩:=info_parts zaw
 rw [run_slice_h w 28 p n c (by kernel_rfl) .i64 (m:Int) (by omega) (by omega),Int.toNat_natCast]
 simp [go_sem]
theorem zgN (g:Nat) (off n c m:Nat) (h:m≤n) (hc:m<c) (w:World):(Instr.slice 28 (.slice (some ⟨g,off,none⟩) n c) (some (.int .i64 (m:Int))) none none).run Tryz.prog w= .ok (.slice (some ⟨g,off+m,none⟩) (n - m) (c - m)) w:=by
 obtain ⟨i,hi,hz,hs,hb⟩:=info_parts zaw
 rw [run_slice_l w 28 (some ⟨g,off,none⟩) n c (by kernel_rfl) .i64 (m:Int) (by omega) (by omega),Int.toNat_natCast]
 have:¬c=m:=by omega
 simp [go_sem,this,Addr.add]
theorem BsAt.take {w:World} {p:Option Addr} {bs:List Nat} (h:BsAt w p bs) (m:Nat):BsAt w p (bs.take m):=fun i hi=>by
 rw [List.length_take] at hi
 obtain ⟨g,off,e,hc⟩:=h i (by omega)
 refine ⟨g,off,e,?_⟩
 rw [hc,List.getD_eq_getElem?_getD,List.getD_eq_getElem?_getD,List.getElem?_take,if_pos (by omega)]
theorem BsAt.drop {w:World} {g off m:Nat} {bs:List Nat} (h:BsAt w (some ⟨g,off,none⟩) bs):BsAt w (some ⟨g,off+m,none⟩) (bs.drop m):=fun i hi=>by
 rw [List.length_drop] at hi
 obtain ⟨g',off',e,hc⟩:=h (m+i) (by omega)
 injection e with e
 injection e with e1 e2 _
 subst e1 e2
 refine ⟨g,off+m,rfl,?_⟩
 rw [Nat.add_assoc,hc,List.getD_eq_getElem?_getD,List.getD_eq_getElem?_getD,List.getElem?_drop]
set_option maxRecDepth 20000 in
set_option maxHeartbeats 8000000 in
theorem zjo {G:Nat→Prop} {W:World} {F:World→Prop} {base B:Nat} (p:Option Addr) (c:Nat) (vt:Value) (b:List Nat) (w:World) (h:WrF G W F base B [] w) (hB:∀w,F w→BsAt w p b) (hby:∀x∈b,x<256) (hl:b.length≤524288) (hc:b.length≤c):
  Calls Tryz.prog 142 #[.agg #[.slice p b.length c,vt],.pointer (some ⟨B,0,none⟩)] w fun e w'=>e= .returned (.tuple #[])∧WrF G W F base B (putB 0 (stB b)) w':=by
 have H:=Lib.hid h
 have HB:=Lib.hid hB
 have Hby:Hid (∀i,b.getD i 0<256):=Lib.hid (fun i=>by
  rw [List.getD_eq_getElem?_getD]
  cases e:b[i]? with
  | none=>decide
  | some x=>exact hby x (List.mem_of_getElem? e))
 obtain ⟨n,hn⟩:∃n,b.length=n:=⟨_,rfl⟩
 have Hn:=Lib.hid hn
 rw [hn] at hl hc ⊢
 clear h hB hby hn
 go_enter Tryz.func142,Tryz.ntmps142
 have H0:=Lib.hid (H.out.below (Below.al1 w (.cells #[.slice p n c,vt] 180)))
 clear H
 go_upto_region 1 with (fail)
 have hx0:(w.alloc (.cells #[.slice p n c,vt] 180)).cell? ⟨w.heap.size,0,none⟩=some (.slice p n c):=zaa (World.alloc_heap_new w _) rfl
 generalize w.alloc (.cells #[.slice p n c,vt] 180)=w1 at *
 generalize w.heap.size=b0 at *
 go_wp2_with fail
 go_loopw [4] (fun rv wr=> ∃(j m d:Nat) (q:Option Addr),rv= .slice q m d∧m+65535*j≤n∧n≤m+65535*j∧m≤d∧Hid (∀w,F w→BsAt w q (b.drop (65535*j)))∧Hid (j≤stJ n)∧Hid (WrF G W F base B (putF 0 (stD b j)) wr)) (fun rv _=>match rv with | .slice _ m _=>m | _=>0)
 case atStart=>exact ⟨0,n,c,p,rfl,by omega,by omega,hc,Lib.hid (by simpa using HB.out),Lib.hid (Nat.zero_le _),Lib.hid (H0.out.congr rfl)⟩
 case round=>
  clear H0 hx0 hc
  obtain ⟨j,m,d,q,rfl,hj,hm',hd,HQ,HJ,HW⟩:=hrel
  have hlen:(b.drop (65535*j)).length=m:=by rw [List.length_drop,Hn.out];omega
  have hbd:∀k i,((b.drop k).take 65535).getD i 0<256∧(b.drop k).getD i 0<256:=fun k i=>by
   have h1:(b.drop k).getD i 0<256:=by
    rw [List.getD_eq_getElem?_getD,List.getElem?_drop,←List.getD_eq_getElem?_getD]
    exact Hby.out _
   refine ⟨?_,h1⟩
   rw [List.getD_eq_getElem?_getD,List.getElem?_take]
   split
   ·rwa [List.getD_eq_getElem?_getD] at h1
   ·decide
  have hsz:=zmM b j (by rw [Hn.out];omega)
  by_cases hgt:65535<m
  ·have FF:=Lib.hid (zn9 hj hm' hd hgt)
   have d1:decide ((m:Int)>65535)=true:=by simp;omega
   obtain ⟨g,off,rfl,-⟩:=HQ.out _ HW.out.now 0 (by rw [hlen];omega)
   have hsl1:∀w:World,(Instr.slice 28 (.slice (some ⟨g,off,none⟩) m d) none (some (.int .i64 65535)) none).run Tryz.prog w= .ok (.slice (some ⟨g,off,none⟩) 65535 d) w:=zg8 _ m d 65535 (by omega)
   have hsl2:∀w:World,(Instr.slice 28 (.slice (some ⟨g,off,none⟩) m d) (some (.int .i64 65535)) none none).run Tryz.prog w= .ok (.slice (some ⟨g,off+65535,none⟩) (m - 65535) (d - 65535)) w:=zgN g off m d 65535 (by omega) (by omega)
   have hlt:((b.drop (65535*j)).take 65535).length=65535:=by rw [List.length_take,hlen];omega
   have hcall:=zeb false (some ⟨g,off,none⟩) d ((b.drop (65535*j)).take 65535) wr HW.out (fun w h=>(HQ.out w h).take _) (fun i=>(hbd _ i).1) (by rw [hlt];exact Nat.le_refl _) (by rw [hlt,hsz];omega)
   rw [hlt] at hcall
   have Hcall:=Lib.hid hcall
   have hJ:=HJ.out
   clear hcall hlen hbd hsz hlt
   go_wp2_with fail
   refine Calls.mono Hcall.out ?_
   rintro _ w2 ⟨rfl,h2⟩
   have H2:=Lib.hid (h2.congr (zqS b j).symm)
   clear h2 Hcall
   go_wp2
   go_roundw
   case rel=>exact ⟨j+1,m - 65535,d - 65535,some ⟨g,off+65535,none⟩,rfl,FF.out.1,FF.out.2.1,FF.out.2.2.1,Lib.hid (fun w h=>by
    have:=(HQ.out w h).drop (m:=65535)
    rwa [List.drop_drop] at this),Lib.hid FF.out.2.2.2,H2⟩
   case measure=>simp;omega
  ·have d1:decide ((m:Int)>65535)=false:=by simp;omega
   have hjJ:j=stJ n:=by have:=HJ.out;unfold stJ at this ⊢;omega
   have hcall:=zeb true q d (b.drop (65535*j)) wr HW.out HQ.out (fun i=>(hbd _ i).2) (by rw [hlen];omega) (by rw [hlen,hsz];omega)
   rw [hlen] at hcall
   have Hcall:=Lib.hid hcall
   have Hj:=Lib.hid hjJ
   clear hcall hlen hbd hsz hjJ
   go_wp2_with fail
   refine Calls.mono Hcall.out ?_
   rintro _ w2 ⟨rfl,h2⟩
   have H2:=Lib.hid (h2.congr (show _=putB 0 (stB b) by unfold stB;rw [Hn.out,←Hj.out,zgY,Nat.zero_add]))
   clear h2 Hcall
   go_wp2
   go_end0
   exact ⟨rfl,H2.out⟩
end
section
open Go.RowKit Go.Maps
structure Pa where
 c:Nat
 s:Nat
 m:Nat
 z:Nat
abbrev PaV (p:Pa):Value:= .agg #[.int .i64 (p.c:Int),.int .i64 (p.s:Int),.int .i64 (p.m:Int),.int .i64 (p.z:Int)]
def paC (p:Pa):Array Value:=#[.int .i64 (p.c:Int),.int .i64 (p.s:Int),.int .i64 (p.m:Int),.int .i64 (p.z:Int)]
def PaAt (W:World) (B:Nat) (p:Pa):Prop:=W.heap[B]? =some (.cells (paC p) 239)
theorem zcx {W:World} {B:Nat} {t:TypeId} {cs:Array Value} (i:Nat) (u:Value) (h:W.heap[B]? =some (.cells cs t)):(W.setCell ⟨B,i,none⟩ u).heap[B]? =some (.cells (cs.setIfInBounds i u) t):=by
 obtain ⟨hlt,hk⟩:=Array.getElem?_eq_some_iff.1 h
 show (W.heap.modify B _)[B]? =_
 rw [Array.getElem?_eq_getElem (by rw [Array.size_modify];exact hlt),Array.getElem_modify_self,hk]
 rfl
theorem zlJ {W:World} {B:Nat} {t:TypeId} {a b c d:Value} (x y z u:Value) (h:W.heap[B]? =some (.cells #[a,b,c,d] t)):((((W.setCell ⟨B,0,none⟩ x).setCell ⟨B,1,none⟩ y).setCell ⟨B,2,none⟩ z).setCell ⟨B,3,none⟩ u).heap[B]? =some (.cells #[x,y,z,u] t):=by
 simpa using zcx 3 u (zcx 2 z (zcx 1 y (zcx 0 x h)))
theorem PaAt.c {W:World} {B:Nat} {p:Pa} (h:PaAt W B p):W.cell? ⟨B,0,none⟩=some (.int .i64 (p.c:Int))∧W.cell? ⟨B,1,none⟩=some (.int .i64 (p.s:Int))∧W.cell? ⟨B,2,none⟩=some (.int .i64 (p.m:Int))∧W.cell? ⟨B,3,none⟩=some (.int .i64 (p.z:Int)):=
 ⟨zaa h rfl,zaa h rfl,zaa h rfl,zaa h rfl⟩
theorem PaAt.f {W:World} {B:Nat} {p:Pa} (h:PaAt W B p) (i:Nat):W.frozen? ⟨B,i,none⟩=false:=by unfold PaAt at h;simp [World.frozen?,h]
theorem PaAt.below {W W':World} {B:Nat} {p:Pa} (h:PaAt W B p) (hb:Below W.heap.size W W'):PaAt W' B p:=(hb.block B (zab h)).trans h
theorem zbH (W:World) (p:Pa):PaAt (W.alloc (.cells (paC p) 239)) W.heap.size p:=World.alloc_heap_new W _
theorem PaAt.set {W:World} {B:Nat} {p:Pa} (h:PaAt W B p) (r:Pa):PaAt ((((W.setCell ⟨B,0,none⟩ (.int .i64 (r.c:Int))).setCell ⟨B,1,none⟩ (.int .i64 (r.s:Int))).setCell ⟨B,2,none⟩ (.int .i64 (r.m:Int))).setCell ⟨B,3,none⟩ (.int .i64 (r.z:Int))) B r:=zlJ _ _ _ _ h
theorem zcw {fn:Func} {p:Tmp} {tmps:Array Value} {w:World} {B:Nat} {r:Pa} (h:fn.results=#[.cell p 239]) (hp:tmps.getD p undef= .pointer (some ⟨B,0,none⟩)) (hl:PaAt w B r):(results fn tmps).run Tryz.prog w= .ok (PaV r) w:=by
 obtain ⟨c0,c1,c2,c3⟩:=hl.c
 have hp':tmps[p]?.getD undef= .pointer (some ⟨B,0,none⟩):=by simpa using hp
 simp [results,h,hp',go_sem,c0,c1,c2,c3]
theorem zqO (v k:Nat) (hv:v<32768) (hk:k≤14):bits .and .i64 (v:Int) (((2^k:Nat):Int) - 1)=((v%2^k:Nat):Int):=by
 have hz:(2:Nat)^k≤16384:=Nat.pow_le_pow_right (n:=2) (j:=14) (by decide) hk
 have hz0:0<(2:Nat)^k:=Nat.two_pow_pos _
 rw [show ((((2^k:Nat):Int)) - 1)=2^k - 1 by simp,bits_mask .i64 62 (by decide) (fun m h0 h1=>IntWalk.i64_in _ (by omega)) k (by omega) v (by omega) (by omega)]
 simp
set_option maxRecDepth 20000 in
set_option maxHeartbeats 4000000 in
theorem zeO (n each:Nat) (w:World) (hn:n<32768) (he:2≤each∧each≤4):
  Calls Tryz.prog 188 #[.int .i64 (n:Int),.int .i64 (each:Int)] w fun e w'=>(∃k:Nat,k≤14∧n/2^k<2*each∧(k=0∨2*each≤n/2^(k - 1))∧e= .returned (PaV ⟨0,n/2^k+each*k,n%2^k,k⟩))∧Below w.heap.size w w':=by
 go_enter Tryz.func188,Tryz.ntmps188
 go_wp2_with fail
 go_loopw [5] (fun kv wr=> ∃k:Nat,kv= .int .i64 (k:Int)∧k≤14∧(k=0∨Hid (2*each≤n/2^(k - 1)))∧wr=w.alloc (.cells #[.int .i64 0,.int .i64 0,.int .i64 0,.int .i64 0] 239)) (fun kv _=>14 - (intOf kv).toNat)
 case atStart=>exact ⟨0,rfl,by omega,.inl rfl,rfl⟩
 case round=>
  obtain ⟨k,rfl,hk,hk0,rfl⟩:=hrel
  obtain ⟨q,hq0⟩:∃q,n/2^k=q:=⟨_,rfl⟩
  have hq:(n:Int)/2^k=(q:Int):=by rw [←hq0];simp
  obtain ⟨z,hz0⟩:∃z,2^k=z:=⟨_,rfl⟩
  have hz:(2:Int)^k=(z:Int):=by rw [←hz0];simp
  have hz1:1≤z∧z≤16384:=by rw [←hz0];exact ⟨Nat.two_pow_pos _,Nat.pow_le_pow_right (n:=2) (j:=14) (by decide) hk⟩
  have hqn:q≤n:=by rw [←hq0];exact Nat.div_le_self _ _
  have Hq:=Lib.hid hq0
  have Hz:=Lib.hid hz0
  clear hq0 hz0
  by_cases hge:2*each≤q
  ·have d1:decide ((q:Int)≥2*(each:Int))=true:=by simp;omega
   have d1':decide (2*(each:Int)≤(q:Int))=true:=by simp;omega
   have hk14:k+1≤14:=by
    by_cases h:k=14
    ·exfalso
     have h1:=Hq.out
     rw [h] at h1
     have:n/2^14<2:=by omega
     omega
    ·omega
   rw [hz] at hq
   go_wp2
   go_roundw
   case rel=>exact ⟨k+1,by go_num,hk14,.inr (Lib.hid (by rw [Nat.add_sub_cancel,Hq.out];exact hge)),trivial⟩
   case measure=>simp [intOf];omega
  ·have d1:decide ((q:Int)≥2*(each:Int))=false:=by simp;omega
   have d1':decide (2*(each:Int)≤(q:Int))=false:=by simp;omega
   rw [hz] at hq
   have hek:each*k≤4*14:=Nat.mul_le_mul he.2 hk
   have hw1:IntKind.i64.wrap ((each:Int)*(k:Int))=((each*k:Nat):Int):=by
    have e:((each:Int)*(k:Int))=((each*k:Nat):Int):=by simp
    rw [e]
    exact IntWalk.i64_in _ (by omega)
   have hw2:IntKind.i64.wrap ((q:Int)+((each*k:Nat):Int))=((q+each*k:Nat):Int):=by rw [IntWalk.i64_in _ (by omega)];simp
   have hw3:IntKind.i64.wrap (z:Int)=(z:Int):=IntWalk.i64_in _ (by omega)
   have hw4:IntKind.i64.wrap ((z:Int) - 1)=(z:Int) - 1:=IntWalk.i64_in _ (by omega)
   have hw5:bits .and .i64 (n:Int) ((z:Int) - 1)=((n%z:Nat):Int):=by
    have:=zqO n k hn hk
    rwa [Hz.out] at this
   obtain ⟨ek,hek0⟩:∃ek,each*k=ek:=⟨_,rfl⟩
   obtain ⟨mz,hmz0⟩:∃mz,n%z=mz:=⟨_,rfl⟩
   have Hek:=Lib.hid hek0
   have Hmz:=Lib.hid hmz0
   rw [hek0] at hek hw1 hw2
   rw [hmz0] at hw5
   have hmz1:mz≤n:=by rw [←hmz0];exact Nat.mod_le _ _
   clear hek0 hmz0
   go_upto_region 4 with (fail)
   have hp0:=zbH w ⟨0,0,0,0⟩
   have hb0:=Below.al1 w (.cells (paC ⟨0,0,0,0⟩) 239)
   simp only [paC,Int.natCast_zero] at hp0 hb0
   generalize w.alloc (.cells #[.int .i64 0,.int .i64 0,.int .i64 0,.int .i64 0] 239)=w1 at *
   have hqq:=After.ne w1
   refine zaC 14 (by kernel_rfl) (by kernel_rfl) (by kernel_rfl) ?_
   repeat (refine zaK (fun K hK=>?_);go_simp;(refine hK _ ?_;clear hK K))
   refine zbd ?_
   intro w2 hb2
   simp only [List.drop_succ_cons,List.drop_zero]
   have hp2:=hp0.below hb2
   have y0:=hp2.f 0
   have y1:=hp2.f 1
   have y2:=hp2.f 2
   have y3:=hp2.f 3
   obtain ⟨x0,x1,x2,x3⟩:=hp2.c
   have hset:=hp2.set ⟨0,q+ek,mz,k⟩
   have hbw:=Below.thn hb0 hb2
   have hbw2:Below w.heap.size w ((((w2.setCell ⟨w.heap.size,0,none⟩ (.int .i64 ((0:Nat):Int))).setCell ⟨w.heap.size,1,none⟩ (.int .i64 ((q+ek:Nat):Int))).setCell ⟨w.heap.size,2,none⟩ (.int .i64 (mz:Int))).setCell ⟨w.heap.size,3,none⟩ (.int .i64 (k:Int))):=
    (((hbw.setCell (Nat.le_refl _) _).setCell (Nat.le_refl _) _).setCell (Nat.le_refl _) _).setCell (Nat.le_refl _) _
   have Hset:=Lib.hid hset
   have Hbw2:=Lib.hid hbw2
   have Hk0:=Lib.hid hk0
   clear hp0 hb0 hb2 hqq hset hbw hbw2 hp2 hk0
   go_wp2
   refine bodyPost_ret (v:=PaV ⟨0,q+ek,mz,k⟩) (zcw Tryz.results188 rfl Hset.out) rfl ⟨⟨k,hk,by rw [Hq.out];omega,Hk0.out.imp id fun h=>h.out,by rw [Hq.out,Hek.out,Hz.out,Hmz.out]⟩,Hbw2.out⟩
theorem zni:∀y z:Fin 30,y.1<z.1→zan y.1+2^zam y.1≤zan z.1:=by decide +kernel
theorem zhT (y z:Nat) (hy:y<30) (hz:z<30):y<z→zan y+2^zam y≤zan z:=zni ⟨y,hy⟩ ⟨z,hz⟩
theorem zqx:∀(n:Fin 258) (k:Fin 6),3≤n.1→(n.1 - 3)/2^k.1<8→(k.1=0∨8≤(n.1 - 3)/2^(k.1 - 1))→(n.1 - 3)/2^k.1+4*k.1+257=zal n.1∧(n.1 - 3)%2^k.1=n.1 - zax (zal n.1)∧k.1=zad (zal n.1):=by decide +kernel
theorem zrJ {n each k:Nat} (he:0<each) (h1:n/2^k<2*each) (h2:k=0∨2*each≤n/2^(k - 1)):zaz (n/2^k+each*k) each+n%2^k=n∧zav (n/2^k+each*k) each=k:=by
 have hd:=Nat.div_add_mod n (2^k)
 rcases h2 with rfl | h2
 ·simp only [Nat.pow_zero,Nat.div_one,Nat.mul_zero,Nat.add_zero,Nat.mod_one] at *
  unfold zaz zav
  rw [if_pos h1,if_pos h1]
  exact ⟨rfl,rfl⟩
 ·by_cases hk:k=0
  ·subst hk
   simp only [Nat.pow_zero,Nat.div_one,Nat.mul_zero,Nat.add_zero,Nat.mod_one] at *
   unfold zaz zav
   rw [if_pos h1,if_pos h1]
   exact ⟨rfl,rfl⟩
  ·obtain ⟨j,rfl⟩:∃j,k=j+1:=⟨k - 1,by omega⟩
   rw [Nat.add_sub_cancel] at h2
   have hq:each≤n/2^(j+1):=by
    rw [Nat.pow_succ,←Nat.div_div_eq_div_mul]
    omega
   obtain ⟨r,hr⟩:∃r,n/2^(j+1)=each+r:=⟨n/2^(j+1) - each,by omega⟩
   rw [hr] at h1 hd ⊢
   have hre:r<each:=by omega
   have e1:each+r+each*(j+1)=r+each*(j+2):=by rw [Nat.mul_add each j 1,Nat.mul_add each j 2];omega
   have hdiv:(r+each*(j+2))/each=j+2:=by rw [Nat.add_mul_div_left _ _ he,Nat.div_eq_of_lt hre,Nat.zero_add]
   have hmod:(r+each*(j+2))%each=r:=by rw [Nat.add_mul_mod_self_left,Nat.mod_eq_of_lt hre]
   have hge:¬(r+each*(j+2))<2*each:=by
    have:each*2≤each*(j+2):=Nat.mul_le_mul_left _ (by omega)
    omega
   rw [e1]
   unfold zaz zav
   rw [if_neg hge,if_neg hge,hdiv,hmod,show j+2 - 1=j+1 by omega]
   refine ⟨?_,rfl⟩
   rw [Nat.mul_comm (each+r)]
   exact hd
theorem zrW {d k:Nat} (h1:1≤d) (h2:d≤32768) (hk:k≤14) (ha:(d - 1)/2^k<2*2) (hb:k=0∨2*2≤(d - 1)/2^(k - 1)):(d - 1)/2^k+2*k=zaq d∧(d - 1)%2^k=d - zan (zaq d)∧k=zam (zaq d):=by
 obtain ⟨e1,e2⟩:=zrJ (by omega) ha hb
 obtain ⟨r1,r2,r3⟩:=zbx h1 h2
 have hz:=Nat.mod_lt (d - 1) (Nat.two_pow_pos k)
 obtain ⟨y,hy⟩:∃y,(d - 1)/2^k+2*k=y:=⟨_,rfl⟩
 rw [hy] at e1 e2 ⊢
 have b1:zan y+(d - 1)%2^k=d:=by unfold zan;omega
 have b2:zam y=k:=e2
 have hy32:y<32:=by omega
 have hy30:y<30:=by
  have:∀y,y<32→30≤y→32769≤zan y:=by decide +kernel
  by_cases h:y<30
  ·exact h
  ·have:=this y hy32 (by omega)
   omega
 have e:y=zaq d:=by
  rcases Nat.lt_trichotomy y (zaq d) with h | h | h
  ·have:=zhT _ _ hy30 (by omega) h
   rw [b2] at this
   omega
  ·exact h
  ·have:=zhT _ _ (by omega) hy30 h
   omega
 subst e
 exact ⟨rfl,by omega,b2.symm⟩
theorem zrS {n k:Nat} (h1:3≤n) (h2:n<258) (hk:k≤14) (ha:(n - 3)/2^k<2*4) (hb:k=0∨2*4≤(n - 3)/2^(k - 1)):(n - 3)/2^k+4*k+257=zal n∧(n - 3)%2^k=n - zax (zal n)∧k=zad (zal n):=by
 have hk5:k≤5:=by
  rcases hb with rfl | hb
  ·omega
  ·by_cases h:k≤5
   ·exact h
   ·exfalso
    have:(n - 3)/2^(k - 1)≤(n - 3)/2^5:=Nat.div_le_div_left (Nat.pow_le_pow_right (by omega) (by omega)) (by decide)
    omega
 exact zqx ⟨n,h2⟩ ⟨k,by omega⟩ h1 ha hb
theorem zrA:zal 258=285∧258 - zax 285=0∧zad 285=0:=by decide +kernel
end
section
open Go.RowKit Go.Maps
def lnP (n:Nat):Pa:=⟨0,zal n,n - zax (zal n),zad (zal n)⟩
def dsP (d:Nat):Pa:=⟨1,zaq d,d - zan (zaq d),zam (zaq d)⟩
set_option maxRecDepth 20000 in
set_option maxHeartbeats 4000000 in
theorem zjD (n:Nat) (w:World) (h1:3≤n) (h2:n≤258):
  Calls Tryz.prog 175 #[.int .i64 (n:Int)] w fun e w'=>e= .returned (PaV (lnP n))∧Below w.heap.size w w':=by
 go_enter Tryz.func175,Tryz.ntmps175
 by_cases h:n=258
 ·subst h
  have d0:(((258:Nat):Int)==258)=true:=by decide
  go_wp2
  have hp:=zbH w ⟨0,285,0,0⟩
  have e:lnP 258=⟨0,285,0,0⟩:=by unfold lnP;obtain ⟨a,b,c⟩:=zrA;rw [a,b,c]
  rw [e]
  exact bodyPost_ret (v:=PaV ⟨0,285,0,0⟩) (zcw Tryz.results175 rfl hp) rfl ⟨rfl,Below.al1 w _⟩
 ·have d0:((n:Int)==258)=false:=by simp;omega
  have hs:(n:Int) - 3=((n - 3:Nat):Int):=by omega
  have hp0:=zbH w ⟨0,0,0,0⟩
  have hb0:=Below.al1 w (.cells (paC ⟨0,0,0,0⟩) 239)
  simp only [paC,Int.natCast_zero] at hp0 hb0
  go_upto_region 1 with (fail)
  generalize w.alloc (.cells #[.int .i64 0,.int .i64 0,.int .i64 0,.int .i64 0] 239)=w1 at *
  have Hb0:=Lib.hid hb0
  have hlt:=zab hp0
  clear hb0
  go_wp2_with fail
  refine Calls.mono (zeO (n - 3) 4 w1 (by omega) (by omega)) ?_
  rintro _ w2 ⟨⟨k,hk,ha,hb,rfl⟩,hb2⟩
  obtain ⟨e1,e2,e3⟩:=zrS h1 (by omega) hk ha hb
  have HE:Hid (lnP n=⟨0,(n - 3)/2^k+4*k+257,(n - 3)%2^k,k⟩):=Lib.hid (by unfold lnP;rw [e1,e2,←e3])
  have hp2:=hp0.below hb2
  have Hb2:=Lib.hid (Below.thn Hb0.out hb2)
  obtain ⟨y,hy⟩:∃y,(n - 3)/2^k+4*k=y:=⟨_,rfl⟩
  obtain ⟨mm,hmm⟩:∃mm,(n - 3)%2^k=mm:=⟨_,rfl⟩
  rw [hy,hmm] at HE
  rw [hy,hmm]
  have hy285:y≤300:=by
   rw [hy] at e1
   have:=(zbQ n (by omega) h1).2.1
   omega
  have hlt2:w.heap.size<w2.heap.size:=Nat.lt_of_lt_of_le hlt hb2.size
  clear hy hmm e1 e2 e3 ha hb hb2 Hb0 hp0 hs
  go_upto_region 5 with (fail)
  have hq:PaAt (w2.alloc (.cells #[.int .i64 0,.int .i64 ((y:Int)+257),.int .i64 (mm:Int),.int .i64 (k:Int)] 239)) w2.heap.size ⟨0,y+257,mm,k⟩:=zbH w2 ⟨0,y+257,mm,k⟩
  have hbq:=Below.al1 w2 (.cells #[.int .i64 0,.int .i64 ((y:Int)+257),.int .i64 (mm:Int),.int .i64 (k:Int)] 239)
  generalize w2.alloc (.cells #[.int .i64 0,.int .i64 ((y:Int)+257),.int .i64 (mm:Int),.int .i64 (k:Int)] 239)=w3 at *
  have hp3:=hp2.below hbq
  have Hb3:=Lib.hid (Below.thn Hb2.out hbq)
  obtain ⟨x0,x1,x2,x3⟩:=hq.c
  obtain ⟨v0,v1,v2,v3⟩:=hp3.c
  have y0:=hp3.f 0
  have y1:=hp3.f 1
  have y2:=hp3.f 2
  have y3:=hp3.f 3
  have HS:=Lib.hid (hp3.set ⟨0,y+257,mm,k⟩)
  have HbS:=Lib.hid ((((Hb3.out.setCell (p:=⟨w.heap.size,0,none⟩) (Nat.le_refl _) (.int .i64 ((0:Nat):Int))).setCell (p:=⟨w.heap.size,1,none⟩) (Nat.le_refl _) (.int .i64 ((y+257:Nat):Int))).setCell (p:=⟨w.heap.size,2,none⟩) (Nat.le_refl _) (.int .i64 (mm:Int))).setCell (p:=⟨w.heap.size,3,none⟩) (Nat.le_refl _) (.int .i64 (k:Int)))
  generalize w2.heap.size=B3 at *
  clear hq hbq hp3 hp2 hlt hlt2
  go_wp2
  rw [HE.out]
  exact bodyPost_ret (v:=PaV ⟨0,y+257,mm,k⟩) (zcw Tryz.results175 rfl HS.out) rfl ⟨rfl,HbS.out⟩
set_option maxRecDepth 20000 in
set_option maxHeartbeats 4000000 in
theorem zhq (n:Nat) (w:World) (h1:1≤n) (h2:n≤32768):
  Calls Tryz.prog 176 #[.int .i64 (n:Int)] w fun e w'=>e= .returned (PaV (dsP n))∧Below w.heap.size w w':=by
 go_enter Tryz.func176,Tryz.ntmps176
 have hs:(n:Int) - 1=((n - 1:Nat):Int):=by omega
 have hp0:=zbH w ⟨0,0,0,0⟩
 have hb0:=Below.al1 w (.cells (paC ⟨0,0,0,0⟩) 239)
 simp only [paC,Int.natCast_zero] at hp0 hb0
 go_upto_region 1 with (fail)
 generalize w.alloc (.cells #[.int .i64 0,.int .i64 0,.int .i64 0,.int .i64 0] 239)=w1 at *
 have Hb0:=Lib.hid hb0
 clear hb0
 go_wp2_with fail
 refine Calls.mono (zeO (n - 1) 2 w1 (by omega) (by omega)) ?_
 rintro _ w2 ⟨⟨k,hk,ha,hb,rfl⟩,hb2⟩
 obtain ⟨e1,e2,e3⟩:=zrW h1 h2 hk ha hb
 have HE:Hid (dsP n=⟨1,(n - 1)/2^k+2*k,(n - 1)%2^k,k⟩):=Lib.hid (by unfold dsP;rw [e1,e2,←e3])
 have hp2:=hp0.below hb2
 have Hb2:=Lib.hid (Below.thn Hb0.out hb2)
 obtain ⟨y,hy⟩:∃y,(n - 1)/2^k+2*k=y:=⟨_,rfl⟩
 obtain ⟨mm,hmm⟩:∃mm,(n - 1)%2^k=mm:=⟨_,rfl⟩
 rw [hy,hmm] at HE
 rw [hy,hmm]
 clear hy hmm e1 e2 e3 ha hb hb2 Hb0 hp0 hs
 go_upto_region 3 with (fail)
 have hq:=zbH w2 ⟨1,y,mm,k⟩
 have hbq:=Below.al1 w2 (.cells (paC ⟨1,y,mm,k⟩) 239)
 simp only [paC,Int.natCast_one] at hq hbq
 generalize w2.alloc (.cells #[.int .i64 1,.int .i64 (y:Int),.int .i64 (mm:Int),.int .i64 (k:Int)] 239)=w3 at *
 have hp3:=hp2.below hbq
 have Hb3:=Lib.hid (Below.thn Hb2.out hbq)
 obtain ⟨x0,x1,x2,x3⟩:=hq.c
 obtain ⟨v0,v1,v2,v3⟩:=hp3.c
 have y0:=hp3.f 0
 have y1:=hp3.f 1
 have y2:=hp3.f 2
 have y3:=hp3.f 3
 have HS:=Lib.hid (hp3.set ⟨1,y,mm,k⟩)
 have HbS:=Lib.hid ((((Hb3.out.setCell (p:=⟨w.heap.size,0,none⟩) (Nat.le_refl _) (.int .i64 ((1:Nat):Int))).setCell (p:=⟨w.heap.size,1,none⟩) (Nat.le_refl _) (.int .i64 (y:Int))).setCell (p:=⟨w.heap.size,2,none⟩) (Nat.le_refl _) (.int .i64 (mm:Int))).setCell (p:=⟨w.heap.size,3,none⟩) (Nat.le_refl _) (.int .i64 (k:Int)))
 generalize w2.heap.size=B3 at *
 clear hq hbq hp3 hp2
 go_wp2
 rw [HE.out]
 exact bodyPost_ret (v:=PaV ⟨1,y,mm,k⟩) (zcw Tryz.results176 rfl HS.out) rfl ⟨rfl,HbS.out⟩
end
section
open Go.RowKit
def encH (x:Nat):List Value:=[.int .u16 (x:Int)]
theorem zo9 (x:Nat):(encH x).length=1:=rfl
theorem RowAt.half {W:World} {p:Option Addr} {xs:List Nat} (h:RowAt encH 1 W p xs) {k:Nat} (hk:k<xs.length):∃b off,p=some ⟨b,off,none⟩∧W.cell? ⟨b,off+k,none⟩=some (.int .u16 (fb xs k:Int)):=by
 rcases h with ⟨-,rfl⟩ | ⟨b,off,rfl,-,h⟩
 ·simp at hk
 ·refine ⟨b,off,rfl,?_⟩
  have:=h k xs[k] (List.getElem?_eq_getElem hk) 0 _ rfl
  rw [zfB hk]
  simpa using this
theorem RowAt.byteF {W:World} {p:Option Addr} {xs:List Nat} (h:RowAt enc8 1 W p xs) {k:Nat} (hk:k<xs.length):∃b off,p=some ⟨b,off,none⟩∧W.cell? ⟨b,off+k,none⟩=some (.int .u8 (fb xs k:Int)):=h.byte hk
set_option maxRecDepth 20000 in
set_option maxHeartbeats 1000000 in
theorem zjI (l:List Nat) (vb va:Value) (a d m:Nat) (w:World) (hv:Row enc8 1 w vb l) (hva:∃p n c,va= .slice p n c) (h1:1≤d) (hd:d≤a) (hm:a+m≤l.length) (hl:l.length≤1048576):
  Calls Tryz.prog 156 #[.agg #[vb,va],.int .i64 (a:Int),.int .i64 (d:Int),.int .i64 (m:Int)] w fun e w'=> ∃n:Nat,e= .returned (.int .i64 (n:Int))∧IsRun (fb l) a d m n∧Below w.heap.size w w':=by
 obtain ⟨p,c,rfl,-,-,hrow⟩:=hv
 obtain ⟨pa,na,ca,rfl⟩:=hva
 have Hrow:=Lib.hid hrow
 clear hrow
 obtain ⟨W,hW⟩:∃W,w.alloc (.cells #[.slice p l.length c,.slice pa na ca] 207)=W:=⟨_,rfl⟩
 have hb0:Below w.heap.size w W:=by rw [←hW];exact Below.al1 w _
 have hc0:W.cell? ⟨w.heap.size,0,none⟩=some (.slice p l.length c):=by rw [←hW];exact zdf rfl rfl
 have Hb0:=Lib.hid hb0
 have Hc0:=Lib.hid hc0
 have HW:=Lib.hid hW
 clear hb0 hc0 hW
 go_enter Tryz.func156,Tryz.ntmps156
 go_wp2
 rw [HW.out]
 go_loopw [9] (fun nv wr=> ∃n:Nat,nv= .int .i64 (n:Int)∧n≤m∧Hid (∀j,j<n→fb l (a+j)=fb l (a+j - d))∧Hid (Below W.heap.size W wr)) (fun nv _=>m - (intOf nv).toNat)
 case atStart=>exact ⟨0,rfl,Nat.zero_le _,Lib.hid fun j h=>by omega,Lib.hid (Below.refl _ _)⟩
 case round=>
  obtain ⟨n,rfl,hn,HN,HB⟩:=hrel
  have c0:=cell_later HB.out Hc0.out
  by_cases hlt:n<m
  ·have d0:decide ((n:Int)<(m:Int))=true:=by simp;omega
   have hBw:=Below.thn Hb0.out HB.out
   obtain ⟨s,hs⟩:∃s,a+n=s:=⟨_,rfl⟩
   obtain ⟨t,ht⟩:∃t,s - d=t:=⟨_,rfl⟩
   obtain ⟨g,off,rfl,hx⟩:=Hrow.out.byteF (k:=s) (by omega)
   obtain ⟨g',off',e,hy⟩:=Hrow.out.byteF (k:=t) (by omega)
   cases e
   have hx:=cell_later hBw hx
   have hy:=cell_later hBw hy
   have es:(a:Int)+(n:Int)=(s:Int):=by omega
   have et:(s:Int) - (d:Int)=(t:Int):=by omega
   have s0:(0:Int)≤(s:Int):=by omega
   have s1:(s:Int)<(l.length:Int):=by omega
   have t0:(0:Int)≤(t:Int):=by omega
   have t1:(t:Int)<(l.length:Int):=by omega
   have Hs:=Lib.hid (And.intro hs ht)
   obtain ⟨x,hxx⟩:∃x,fb l s=x:=⟨_,rfl⟩
   obtain ⟨y,hyy⟩:∃y,fb l t=y:=⟨_,rfl⟩
   rw [hxx] at hx
   rw [hyy] at hy
   have Hxy:=Lib.hid (And.intro hxx hyy)
   clear hBw hs ht hxx hyy
   by_cases hxy:x=y
   ·subst hxy
    have e0:((x:Int)==(x:Int))=true:=by simp
    go_wp2_with fail
    go_quiet (fail)
    have hdr:Below wr.heap.size wr (wr.drewN nq):=Below.drewN' (Below.refl _ _) nq
    have HB2:=Lib.hid (Below.thn HB.out hdr)
    generalize wr.drewN nq=W2 at *
    clear hdr c0 hx hy
    go_wp2
    go_roundw
    case rel=>exact ⟨n+1,by go_num,by omega,Lib.hid fun j hj=>by
     rcases Nat.lt_or_ge j n with h | h
     ·exact HN.out j h
     ·obtain rfl:j=n:=by omega
      rw [Hs.out.1,Hs.out.2,Hxy.out.1,Hxy.out.2],HB2⟩
    case measure=>simp [intOf];omega
   ·have e0:((x:Int)==(y:Int))=false:=by simp;omega
    go_wp2_with fail
    go_quiet (fail)
    have hdr:Below wr.heap.size wr (wr.drewN nq):=Below.drewN' (Below.refl _ _) nq
    have HB2:=Lib.hid (Below.thn (Below.thn Hb0.out HB.out) hdr)
    generalize wr.drewN nq=W2 at *
    clear hdr c0 hx hy
    go_wp2
    go_ret
    exact ⟨n,rfl,⟨hn,HN.out,fun _=>by rw [Hs.out.1,Hs.out.2,Hxy.out.1,Hxy.out.2];exact hxy⟩,HB2.out⟩
  ·obtain rfl:n=m:=by omega
   have d0:decide ((n:Int)<(n:Int))=false:=by simp
   go_wp2_with fail
   go_quiet (fail)
   have hdr:Below wr.heap.size wr (wr.drewN nq):=Below.drewN' (Below.refl _ _) nq
   have HB2:=Lib.hid (Below.thn (Below.thn Hb0.out HB.out) hdr)
   generalize wr.drewN nq=W2 at *
   clear hdr c0
   go_wp2
   go_ret
   exact ⟨n,rfl,⟨Nat.le_refl _,HN.out,fun h=>by omega⟩,HB2.out⟩
end
end Go.Proofs.YtedakhgaghfogaaGreat
