/- Several texts in one, each with its own head. -/
import Derived.Test.YtedakhgaghfogaaGreatQs19
namespace Go.Proofs.YtedakhgaghfogaaGreat
section
open Go.RowKit
def zaV (hop dist:Nat):Nat:=if hop=0∨32768<dist+hop then 0 else dist+hop
set_option maxRecDepth 20000 in
set_option maxHeartbeats 1000000 in
theorem zcA (A:List Nat) (vb va:Value) (fr dist:Nat) (w:World) (hva:Row encH 1 w va A) (hvb:∃p n c,vb= .slice p n c) (h1:dist≤fr) (h2:fr - dist<A.length) (hA:fb A (fr - dist)≤32768) (hd:dist≤32768) (hfr:fr≤1048576):
  Calls Tryz.prog 157 #[.agg #[vb,va],.int .i64 (fr:Int),.int .i64 (dist:Int)] w fun e w'=>e= .returned (.int .i64 ((zaV (fb A (fr - dist)) dist:Nat):Int))∧Below w.heap.size w w':=by
 obtain ⟨p,c,rfl,-,-,hrow⟩:=hva
 obtain ⟨pb,nb,cb,rfl⟩:=hvb
 obtain ⟨W,hW⟩:∃W,w.alloc (.cells #[.slice pb nb cb,.slice p A.length c] 207)=W:=⟨_,rfl⟩
 have hb0:Below w.heap.size w W:=by rw [←hW];exact Below.al1 w _
 have hc0:W.cell? ⟨w.heap.size,1,none⟩=some (.slice p A.length c):=by rw [←hW];exact zdf rfl rfl
 obtain ⟨t,ht⟩:∃t,fr - dist=t:=⟨_,rfl⟩
 rw [ht] at h2 hA ⊢
 obtain ⟨g,off,rfl,hx⟩:=hrow.half h2
 have hx:=cell_later hb0 hx
 obtain ⟨x,hxx⟩:∃x,fb A t=x:=⟨_,rfl⟩
 rw [hxx] at hx hA ⊢
 have et:(fr:Int) - (dist:Int)=(t:Int):=by omega
 have t0:(0:Int)≤(t:Int):=by omega
 have t1:(t:Int)<(A.length:Int):=by omega
 have Hb0:=Lib.hid hb0
 obtain ⟨z,hzz⟩:∃z,dist+x=z:=⟨_,rfl⟩
 have ed:(dist:Int)+(x:Int)=(z:Int):=by omega
 have Hzz:=Lib.hid hzz
 clear hb0 hrow hxx ht hzz
 subst hW
 by_cases hz:x=0
 ·have e0:((x:Int)==0)=true:=by simp;omega
  have hn:zaV x dist=0:=by unfold zaV;rw [if_pos (.inl hz)]
  rw [hn]
  clear hn hz
  go_enter Tryz.func157,Tryz.ntmps157
  go_wp2
  go_ret
  exact ⟨rfl,Hb0.out⟩
 ·have e0:((x:Int)==0)=false:=by simp;omega
  by_cases hf:32768<z
  ·have e1:decide ((z:Int)>32768)=true:=by simp;omega
   have hn:zaV x dist=0:=by unfold zaV;rw [Hzz.out,if_pos (.inr hf)]
   rw [hn]
   clear hn hz
   go_enter Tryz.func157,Tryz.ntmps157
   go_wp2
   go_ret
   exact ⟨rfl,Hb0.out⟩
  ·have e1:decide ((z:Int)>32768)=false:=by simp;omega
   have hn:zaV x dist=z:=by unfold zaV;rw [Hzz.out,if_neg (by omega)]
   rw [hn]
   clear hn hz
   go_enter Tryz.func157,Tryz.ntmps157
   go_wp2
   go_ret
   exact ⟨rfl,Hb0.out⟩
set_option maxRecDepth 20000 in
set_option maxHeartbeats 1000000 in
theorem zic (A:List Nat) (vb va:Value) (fr tt:Nat) (w:World) (hva:Row encH 1 w va A) (hvb:∃p n c,vb= .slice p n c) (h1:fr≤tt) (h2:tt<A.length) (hto:A.length≤1048576):
  Calls Tryz.prog 158 #[.agg #[vb,va],.int .i64 (fr:Int),.int .i64 (tt:Int)] w fun e w'=> ∃r:Nat,e= .returned (.int .i64 (r:Int))∧fr≤r∧r≤tt∧Below w.heap.size w w':=by
 obtain ⟨p,c,rfl,-,-,hrow⟩:=hva
 obtain ⟨pb,nb,cb,rfl⟩:=hvb
 obtain ⟨W,hW⟩:∃W,w.alloc (.cells #[.slice pb nb cb,.slice p A.length c] 207)=W:=⟨_,rfl⟩
 have hb0:Below w.heap.size w W:=by rw [←hW];exact Below.al1 w _
 have hc0:W.cell? ⟨w.heap.size,1,none⟩=some (.slice p A.length c):=by rw [←hW];exact zdf rfl rfl
 have Hb0:=Lib.hid hb0
 have Hc0:=Lib.hid hc0
 have HW:=Lib.hid hW
 have Hrow:=Lib.hid hrow
 clear hb0 hc0 hW hrow
 go_enter Tryz.func158,Tryz.ntmps158
 go_wp2
 rw [HW.out]
 go_loopw [7,8] (fun rv iv wr=> ∃r i:Nat,rv= .int .i64 (r:Int)∧iv= .int .i64 (i:Int)∧fr≤r∧r≤tt∧fr≤i∧i≤tt+1∧Hid (Below W.heap.size W wr)) (fun _ iv _=>tt+1 - (intOf iv).toNat)
 case atStart=>exact ⟨fr,fr,rfl,rfl,Nat.le_refl _,h1,Nat.le_refl _,by omega,Lib.hid (Below.refl _ _)⟩
 case round=>
  obtain ⟨r,i,rfl,rfl,hr1,hr2,hi1,hi2,HB⟩:=hrel
  have c0:=cell_later HB.out Hc0.out
  by_cases hlt:i≤tt
  ·have d0:decide ((i:Int)≤(tt:Int))=true:=by simp;omega
   have hBw:=Below.thn Hb0.out HB.out
   obtain ⟨g,off,rfl,hx⟩:=Hrow.out.half (k:=i) (by omega)
   obtain ⟨g',off',e,hy⟩:=Hrow.out.half (k:=r) (by omega)
   cases e
   have hx:=cell_later hBw hx
   have hy:=cell_later hBw hy
   have s0:(0:Int)≤(i:Int):=by omega
   have s1:(i:Int)<(A.length:Int):=by omega
   have t0:(0:Int)≤(r:Int):=by omega
   have t1:(r:Int)<(A.length:Int):=by omega
   generalize fb A i=x at *
   generalize fb A r=y at *
   clear hBw
   by_cases hz:x=0
   ·have e0:((x:Int)==0)=true:=by simp;omega
    clear hz
    go_wp2
    go_ret
    exact ⟨i,rfl,hi1,hlt,Below.thn Hb0.out HB.out⟩
   ·have e0:((x:Int)==0)=false:=by simp;omega
    by_cases hxy:y<x
    ·have e1:decide ((x:Int)>(y:Int))=true:=by simp;omega
     go_wp2_with fail
     go_quiet (fail)
     have hdr:Below wr.heap.size wr (wr.drewN nq):=Below.drewN' (Below.refl _ _) nq
     have HB2:=Lib.hid (Below.thn HB.out hdr)
     generalize wr.drewN nq=W2 at *
     clear hdr c0 hx hy
     go_wp2
     go_roundw
     case rel=>exact ⟨i,i+1,rfl,by go_num,hi1,hlt,by omega,by omega,HB2⟩
     case measure=>simp [intOf];omega
    ·have e1:decide ((x:Int)>(y:Int))=false:=by simp;omega
     go_wp2_with fail
     go_quiet (fail)
     have hdr:Below wr.heap.size wr (wr.drewN nq):=Below.drewN' (Below.refl _ _) nq
     have HB2:=Lib.hid (Below.thn HB.out hdr)
     generalize wr.drewN nq=W2 at *
     clear hdr c0 hx hy
     go_wp2
     go_roundw
     case rel=>exact ⟨r,i+1,rfl,by go_num,hr1,hr2,by omega,by omega,HB2⟩
     case measure=>simp [intOf];omega
  ·have d0:decide ((i:Int)≤(tt:Int))=false:=by simp;omega
   go_wp2
   go_ret
   exact ⟨r,rfl,hr1,hr2,Below.thn Hb0.out HB.out⟩
def tkV (t:Tk):Value:= .agg #[.int .u8 (t.b:Int),.int .i64 t.n,.int .i64 t.d]
def encT (t:Tk):List Value:=[.int .u8 (t.b:Int),.int .i64 t.n,.int .i64 t.d]
theorem znF (t:Tk):(encT t).length=3:=rfl
theorem zou (t:Tk) (w:World) (hn:t.n≤1000):
  Makes Tryz.prog 141 #[tkV t] w (.int .i64 ((t.size:Nat):Int)):=by
 unfold Makes
 obtain ⟨b,n,d⟩:=t
 unfold tkV
 simp only at hn ⊢
 have hs:((Tk.size ⟨b,n,d⟩:Nat):Int)=max n 1:=by unfold Tk.size;simp only;omega
 rw [hs]
 clear hs
 go_enter Tryz.func141,Tryz.ntmps141
 go_wp2
 all_goals
  go_ret
  exact ⟨zey (by omega),Below.al1 w _⟩
end
section
open Go.RowKit
theorem zco {W:World} {B:Nat} {t:TypeId} {a b c:Value} (x y z:Value) (h:W.heap[B]? =some (.cells #[a,b,c] t)):(((W.setCell ⟨B,0,none⟩ x).setCell ⟨B,1,none⟩ y).setCell ⟨B,2,none⟩ z).heap[B]? =some (.cells #[x,y,z] t):=by
 have key:∀{W:World} {cs:Array Value} (i:Nat) (u:Value),W.heap[B]? =some (.cells cs t)→(W.setCell ⟨B,i,none⟩ u).heap[B]? =some (.cells (cs.setIfInBounds i u) t):=by
  intro W cs i u h
  obtain ⟨hlt,hk⟩:=Array.getElem?_eq_some_iff.1 h
  show (W.heap.modify B _)[B]? =_
  rw [Array.getElem?_eq_getElem (by rw [Array.size_modify];exact hlt),Array.getElem_modify_self,hk]
  rfl
 have h1:=key 2 z (key 1 y (key 0 x h))
 simpa using h1
structure TkB (w:World) (S T B M:Nat) (vb va:Value) (a m bv L D:Nat):Prop where
 s:w.heap[S]? =some (.cells #[vb,va] 207)
 at':w.heap[T]? =some (.cells #[.int .i64 (a:Int)] 3)
 best:w.heap[B]? =some (.cells #[.int .u8 (bv:Int),.int .i64 (L:Int),.int .i64 (D:Int)] 209)
 most:w.heap[M]? =some (.cells #[.int .i64 (m:Int)] 3)
theorem TkB.turns {w w':World} {S T B M:Nat} {vb va:Value} {a m bv L D:Nat} (h:TkB w S T B M vb va a m bv L D) {N:Nat→Prop} (ht:Turns N w w') (hS:¬N S) (hT:¬N T) (hB:¬N B) (hM:¬N M):TkB w' S T B M vb va a m bv L D:=
 ⟨(ht.block S (zab h.s) hS).trans h.s,(ht.block T (zab h.at') hT).trans h.at',(ht.block B (zab h.best) hB).trans h.best,(ht.block M (zab h.most) hM).trans h.most⟩
theorem TkB.below {w w':World} {S T B M:Nat} {vb va:Value} {a m bv L D:Nat} (h:TkB w S T B M vb va a m bv L D) (hb:Below w.heap.size w w'):TkB w' S T B M vb va a m bv L D:=
 h.turns (N:=fun _=>False) (Turns.of_below' hb) (fun h=>h) (fun h=>h) (fun h=>h) (fun h=>h)
set_option maxRecDepth 20000 in
set_option maxHeartbeats 1000000 in
theorem zls (l:List Nat) (vb va:Value) (S T B M a m bv L D d:Nat) (w:World) (hw:TkB w S T B M vb va a m bv L D) (hv:Row enc8 1 w vb l) (hva:∃p n c,va= .slice p n c) (hb:∀g,vb.ownBlock=some g→g≠B)
  (h1:1≤d) (hd:d≤a) (hm:a+m≤l.length) (hL:L<m) (hl:l.length≤1048576) (hSB:S≠B) (hTB:T≠B) (hMB:M≠B):
  Calls Tryz.prog 155 #[.int .i64 (d:Int),.pointer (some ⟨S,0,none⟩),.pointer (some ⟨T,0,none⟩),.pointer (some ⟨B,0,none⟩),.pointer (some ⟨M,0,none⟩)] w fun e w'=> ∃(r:Bool) (bv' L' D':Nat),e= .returned (.bool r)∧TkB w' S T B M vb va a m bv' L' D'∧Turns (fun i=>i=B) w w'∧
   ((r=false∧bv'=bv∧L'=L∧D'=D∧∀n,IsRun (fb l) a d m n→n≤L)∨(r=true∧bv'=0∧D'=d∧L<L'∧IsRun (fb l) a d m L')):=by
 have Hv:=Lib.hid hv
 have Hva:=Lib.hid hva
 have Hw:=Lib.hid hw
 have Hb:=Lib.hid hb
 obtain ⟨p,c,rfl,-,-,hrow⟩:=hv
 obtain ⟨pa,na,ca,rfl⟩:=hva
 have c0:w.cell? ⟨S,0,none⟩=some (.slice p l.length c):=zaa hw.s rfl
 have c1:w.cell? ⟨T,0,none⟩=some (.int .i64 (a:Int)):=zaa hw.at' rfl
 have c2:w.cell? ⟨B,1,none⟩=some (.int .i64 (L:Int)):=zaa hw.best rfl
 obtain ⟨s,hs⟩:∃s,a+L=s:=⟨_,rfl⟩
 obtain ⟨t,ht⟩:∃t,s - d=t:=⟨_,rfl⟩
 obtain ⟨g,off,rfl,hx⟩:=hrow.byteF (k:=s) (by omega)
 obtain ⟨g',off',e,hy⟩:=hrow.byteF (k:=t) (by omega)
 cases e
 have es:(a:Int)+(L:Int)=(s:Int):=by omega
 have et:(s:Int) - (d:Int)=(t:Int):=by omega
 have s0:(0:Int)≤(s:Int):=by omega
 have s1:(s:Int)<(l.length:Int):=by omega
 have t0:(0:Int)≤(t:Int):=by omega
 have t1:(t:Int)<(l.length:Int):=by omega
 have Hs:=Lib.hid (And.intro hs ht)
 obtain ⟨x,hxx⟩:∃x,fb l s=x:=⟨_,rfl⟩
 obtain ⟨y,hyy⟩:∃y,fb l t=y:=⟨_,rfl⟩
 rw [hxx] at hx
 rw [hyy] at hy
 have Hxy:=Lib.hid (And.intro hxx hyy)
 clear hs ht hxx hyy hrow hw hb
 by_cases hxy:x=y
 ·subst hxy
  have e0:((x:Int) !=(x:Int))=false:=by simp
  go_enter Tryz.func155,Tryz.ntmps155
  go_wp2_with fail
  go_quiet (fail)
  have hdr:Below w.heap.size w (w.drewN nq):=Below.drewN' (Below.refl _ _) nq
  have Hw2:=Lib.hid (Hw.out.below hdr)
  have Hv2:=Lib.hid (Hv.out.below hdr)
  have Hdr:=Lib.hid hdr
  generalize w.drewN nq=W2 at *
  clear hdr c0 c1 c2 hx hy
  have c0:W2.cell? ⟨S,0,none⟩=some (.slice (some ⟨g,off,none⟩) l.length c):=zaa Hw2.out.s rfl
  have c01:W2.cell? ⟨S,1,none⟩=some (.slice pa na ca):=zaa Hw2.out.s rfl
  have c1:W2.cell? ⟨T,0,none⟩=some (.int .i64 (a:Int)):=zaa Hw2.out.at' rfl
  have c4:W2.cell? ⟨M,0,none⟩=some (.int .i64 (m:Int)):=zaa Hw2.out.most rfl
  go_wp2_with fail
  refine Calls.mono (zjI l _ _ a d m W2 Hv2.out ⟨_,_,_,rfl⟩ h1 hd hm hl) ?_
  rintro e w3 ⟨n,rfl,hrun,hb3⟩
  have Hrun:=Lib.hid hrun
  have Hw3:=Lib.hid (Hw2.out.below hb3)
  have Hb3:=Lib.hid (Below.thn Hdr.out hb3)
  clear hrun hb3 c0 c01 c1 c4
  have c2:w3.cell? ⟨B,1,none⟩=some (.int .i64 (L:Int)):=zaa Hw3.out.best rfl
  by_cases hn:n≤L
  ·have d0:decide ((n:Int)≤(L:Int))=true:=by simp;omega
   go_wp2
   go_ret
   exact ⟨false,bv,L,D,rfl,Hw3.out,Turns.of_below' Hb3.out,.inl ⟨rfl,rfl,rfl,rfl,fun n' h=>by rw [h.uniq Hrun.out];exact hn⟩⟩
  ·have d0:decide ((n:Int)≤(L:Int))=false:=by simp;omega
   have f0:w3.frozen? ⟨B,0,none⟩=false:=by simp [World.frozen?,Hw3.out.best]
   have f1:w3.frozen? ⟨B,1,none⟩=false:=by simp [World.frozen?,Hw3.out.best]
   have f2:w3.frozen? ⟨B,2,none⟩=false:=by simp [World.frozen?,Hw3.out.best]
   have c3:w3.cell? ⟨B,0,none⟩=some (.int .u8 (bv:Int)):=zaa Hw3.out.best rfl
   have c4:w3.cell? ⟨B,2,none⟩=some (.int .i64 (D:Int)):=zaa Hw3.out.best rfl
   go_wp2
   go_ret
   have hset:Turns (fun i=>i=B) w3 (((w3.setCell ⟨B,0,none⟩ (.int .u8 0)).setCell ⟨B,1,none⟩ (.int .i64 (n:Int))).setCell ⟨B,2,none⟩ (.int .i64 (d:Int))):=
    Turns.set (T:=fun i=>i=B) (Turns.set (T:=fun i=>i=B) (Turns.set (T:=fun i=>i=B) (Turns.refl _ _) (p:=⟨B,0,none⟩) rfl _) (p:=⟨B,1,none⟩) rfl _) (p:=⟨B,2,none⟩) rfl _
   refine ⟨true,0,n,d,rfl,⟨(hset.block S (zab Hw3.out.s) hSB).trans Hw3.out.s,(hset.block T (zab Hw3.out.at') hTB).trans Hw3.out.at',zco _ _ _ Hw3.out.best,(hset.block M (zab Hw3.out.most) hMB).trans Hw3.out.most⟩,(Turns.of_below' Hb3.out).trans hset,.inr ⟨rfl,rfl,rfl,by omega,Hrun.out⟩⟩
 ·have e0:((x:Int) !=(y:Int))=true:=by simp;omega
  go_enter Tryz.func155,Tryz.ntmps155
  go_wp2_with fail
  go_quiet (fail)
  have hdr:Below w.heap.size w (w.drewN nq):=Below.drewN' (Below.refl _ _) nq
  have Hw2:=Lib.hid (Hw.out.below hdr)
  have Hdr:=Lib.hid hdr
  generalize w.drewN nq=W2 at *
  clear hdr c0 c1 c2 hx hy
  go_wp2
  go_ret
  refine ⟨false,bv,L,D,rfl,Hw2.out,Turns.of_below' Hdr.out,.inl ⟨rfl,rfl,rfl,rfl,fun n h=>h.lt ?_⟩⟩
  rw [Hs.out.1,Hs.out.2,Hxy.out.1,Hxy.out.2];exact hxy
end
section
open Go.RowKit
def LJ (f:Nat→Nat) (a m L D fr dist:Nat):Prop:=(dist=0∧Sea f a m L D fr 32769)∨(1≤dist∧Hits f fr dist∧Sea f a m L D fr dist)
theorem LJ.next {f:Nat→Nat} {a m L D fr dist hop:Nat} (h:Sea f a m L D fr (dist+1)) (ht:Hits f fr dist) (hh:IsAhead f (fr - dist) hop):LJ f a m L D fr (zaV hop dist):=by
 by_cases h0:hop=0
 ·subst h0
  rw [show zaV 0 dist=0 from if_pos (.inl rfl)]
  exact .inl ⟨rfl,h.none ht hh⟩
 ·by_cases h1:32768<dist+hop
  ·rw [show zaV hop dist=0 from if_pos (.inr h1)]
   exact .inl ⟨rfl,(h.next ht hh).far (.inl h1)⟩
  ·rw [show zaV hop dist=dist+hop from if_neg (by omega)]
   exact .inr ⟨by omega,ht.next hh (by omega) (by omega),h.next ht hh⟩
theorem LJ.le {f:Nat→Nat} {a m L D fr dist:Nat} (h:LJ f a m L D fr dist):dist≤32768∧dist≤fr∧a≤fr∧fr+2≤a+max L 2:=by
 rcases h with ⟨rfl,h⟩ | ⟨h1,h2,h⟩
 ·exact ⟨by omega,by omega,h.fr⟩
 ·exact ⟨h2.1,h2.2.1,h.fr⟩
theorem Sea.more {f:Nat→Nat} {a m L D fr dist n:Nat} (h:Sea f a m L D fr dist) (ht:Hits f fr dist) (hr:IsRun f a dist m n) (hL:L<n) (hm:3≤m) (hd:dist≤a):max L 2<n:=by
 rcases h.is with ⟨e1,-⟩ | ⟨h1,-⟩
 ·have hfr:=h.fr
  obtain rfl:fr=a:=by omega
  have:=hr.ge hm (fun j hj=>by
   obtain ⟨t0,t1,t2⟩:=ht.2.2
   have:j=0∨j=1∨j=2:=by omega
   rcases this with rfl | rfl | rfl
   ·exact t0
   ·rw [t1];exact congrArg f (by omega)
   ·rw [t2];exact congrArg f (by omega))
  omega
 ·omega
theorem ze5 (hop dist:Nat):zaV hop dist=0∨(dist<zaV hop dist∧zaV hop dist≤32768):=by
 unfold zaV
 split
 ·exact .inl rfl
 ·exact .inr (by omega)
theorem zkF {x y d nd:Nat} (h:x≤y) (h1:1≤d) (h2:d≤32768) (h3:nd=0∨(d<nd∧nd≤32768)):x*40000+(if nd=0 then 0 else 40000 - nd)<y*40000+(if d=0 then 0 else 40000 - d):=by
 split<;>split<;>omega
theorem zoL {x y d nd:Nat} (h:x<y) (h3:nd≤32768):x*40000+(if nd=0 then 0 else 40000 - nd)<y*40000+(if d=0 then 0 else 40000 - d):=by
 have:x*40000+40000≤y*40000:=by omega
 split<;>split<;>omega
theorem zq1 (ts:Array TypeId) (t:TypeId) (k k':IntKind) (x y:Int) (w:World):(Builtin.min_ ts t #[.int k x,.int k' y]).run Tryz.prog w= .ok (.int k (min x y)) w:=by
 rw [run_min_int2];congr 2;split<;>omega
theorem zcz {fn:Func} {p:Tmp} {tmps:Array Value} {w:World} {B:Nat} {t:Tk} (h:fn.results=#[.cell p 209]) (hp:tmps.getD p undef= .pointer (some ⟨B,0,none⟩))
  (hl:w.heap[B]? =some (.cells #[.int .u8 (t.b:Int),.int .i64 t.n,.int .i64 t.d] 209)):(results fn tmps).run Tryz.prog w= .ok (tkV t) w:=by
 have c0:w.cell? ⟨B,0,none⟩=some (.int .u8 (t.b:Int)):=zaa hl rfl
 have c1:w.cell? ⟨B,1,none⟩=some (.int .i64 t.n):=zaa hl rfl
 have c2:w.cell? ⟨B,2,none⟩=some (.int .i64 t.d):=zaa hl rfl
 have hp':tmps[p]?.getD undef= .pointer (some ⟨B,0,none⟩):=by simpa using hp
 simp [results,h,hp',go_sem,c0,c1,c2,tkV]
set_option maxRecDepth 20000 in
set_option maxHeartbeats 40000000 in
theorem znv (l A:List Nat) (vb va:Value) (a:Nat) (w:World) (hv:Row enc8 1 w vb l) (hva:Row encH 1 w va A) (hA:A.length=l.length - 2) (hAh:∀p,p<A.length→IsAhead (fb l) p (fb A p)) (ha:a<l.length) (hl:l.length≤1048576):
  Calls Tryz.prog 140 #[.agg #[vb,va],.int .i64 (a:Int)] w fun e w'=> ∃t,e= .returned (tkV t)∧IsTok (fb l) l.length a t∧Below w.heap.size w w':=by
 have Hv:=Lib.hid hv
 have Hva:=Lib.hid hva
 have Hah:=Lib.hid hAh
 have HA:=Lib.hid hA
 have HvB:Hid (∀g,vb.ownBlock=some g→g<w.heap.size):=Lib.hid (fun g hg=>by
  obtain ⟨p,c,rfl,-,-,h⟩:=hv
  rcases h with ⟨rfl,-⟩ | ⟨b,off,rfl,h,-⟩
  ·cases hg
  ·cases hg;exact h)
 obtain ⟨p,c,rfl,-,-,hrow⟩:=hv
 obtain ⟨pa,ca,rfl,-,-,-⟩:=hva
 obtain ⟨g,off,rfl,hx⟩:=hrow.byteF ha
 obtain ⟨x,hxx⟩:∃x,fb l a=x:=⟨_,rfl⟩
 rw [hxx] at hx
 have Hxx:=Lib.hid hxx
 have a0:(0:Int)≤(a:Int):=by omega
 have a1:(a:Int)<(l.length:Int):=by omega
 obtain ⟨r,hr⟩:∃r,l.length - a=r:=⟨_,rfl⟩
 have er:(l.length:Int) - (a:Int)=(r:Int):=by omega
 obtain ⟨m,hm⟩:∃m,min 258 r=m:=⟨_,rfl⟩
 have hmo:mo l.length a=m:=by unfold mo;rw [hr,hm]
 have Hm:=Lib.hid hmo
 have em:∀(ts:Array TypeId) (t:TypeId) (w:World),(Builtin.min_ ts t #[.int .i64 258,.int .i64 (r:Int)]).run Tryz.prog w= .ok (.int .i64 (m:Int)) w:=fun ts t w=>by
  rw [zq1,show min (258:Int) (r:Int)=(m:Int) by omega]
 have hml:Hid (a+m≤l.length):=Lib.hid (by omega)
 have hx3:=cell_later (Below.al3 w (.cells #[.slice (some ⟨g,off,none⟩) l.length c,.slice pa A.length ca] 207) (.cells #[.int .i64 (a:Int)] 3) (.cells #[.int .u8 0,.int .i64 0,.int .i64 0] 209)) hx
 clear hrow hxx hAh hr hm hx hA hmo
 by_cases h3:m<3
 ·have d0:decide ((m:Int)<3)=true:=by simp;omega
  go_enter Tryz.func140,Tryz.ntmps140
  go_wp2_with fail
  have hp:=zag [.cells #[.slice (some ⟨g,off,none⟩) l.length c,.slice pa A.length ca] 207,.cells #[.int .i64 (a:Int)] 3,.cells #[.int .u8 (x:Int),.int .i64 0,.int .i64 0] 209,.cells #[.int .u8 (x:Int),.int .i64 0,.int .i64 0] 209,.cells #[.int .i64 (m:Int)] 3] w
  exact bodyPost_ret (v:=tkV ⟨x,0,0⟩) (zcz Tryz.results140 rfl ((hp 2 _).2 rfl)) rfl ⟨⟨x,0,0⟩,rfl,by rw [←Hxx.out];exact IsTok.short (by rw [Hm.out];exact h3),Below.thn (Below.al3 w _ _ _) (Below.al2 _ _ _)⟩
 have d0:decide ((m:Int)<3)=false:=by simp;omega
 obtain ⟨W,hW⟩:∃W,(((((w.alloc (.cells #[.slice (some ⟨g,off,none⟩) l.length c,.slice pa A.length ca] 207)).alloc (.cells #[.int .i64 (a:Int)] 3)).alloc (.cells #[.int .u8 0,.int .i64 0,.int .i64 0] 209)).alloc (.cells #[.int .u8 (x:Int),.int .i64 0,.int .i64 0] 209)).alloc (.cells #[.int .i64 (m:Int)] 3))=W:=⟨_,rfl⟩
 have hp:=zag [.cells #[.slice (some ⟨g,off,none⟩) l.length c,.slice pa A.length ca] 207,.cells #[.int .i64 (a:Int)] 3,.cells #[.int .u8 0,.int .i64 0,.int .i64 0] 209,.cells #[.int .u8 (x:Int),.int .i64 0,.int .i64 0] 209,.cells #[.int .i64 (m:Int)] 3] w
 have hbw:Below w.heap.size w W:=by rw [←hW];exact Below.thn (Below.al3 w _ _ _) (Below.al2 _ _ _)
 have htk:TkB W w.heap.size (w.heap.size+1) (w.heap.size+1+1+1) (w.heap.size+1+1+1+1) (.slice (some ⟨g,off,none⟩) l.length c) (.slice pa A.length ca) a m x 0 0:=by
  rw [←hW]
  exact ⟨(hp 0 _).2 rfl,(hp 1 _).2 rfl,(hp 3 _).2 rfl,(hp 4 _).2 rfl⟩
 have hres:W.heap[w.heap.size+1+1]? =some (.cells #[.int .u8 0,.int .i64 0,.int .i64 0] 209):=by rw [←hW];exact (hp 2 _).2 rfl
 have HW:=Lib.hid hW
 have Hbw:=Lib.hid hbw
 have Htk:=Lib.hid htk
 have Hres:=Lib.hid hres
 clear hp hbw htk hres hW
 go_enter Tryz.func140,Tryz.ntmps140
 go_wp2_with fail
 rw [HW.out]
 have hAlen:a<A.length:=by have:=HA.out;have:=hml.out;omega
 have hlt0:∀p,p<A.length→fb A p≤32768:=fun p hp=>(Hah.out p hp).le.1
 have Hlt0:=Lib.hid hlt0
 clear hx3 hlt0 HW
 refine Calls.mono (zcA A _ _ a 0 W (Hva.out.below Hbw.out) ⟨_,_,_,rfl⟩ (by omega) (by omega) (by have:=Hlt0.out a hAlen;simpa using this) (by omega) (by omega)) ?_
 rintro e w1 ⟨rfl,hb1⟩
 have HJ0:=Lib.hid (LJ.next (Sea.start (fb l) a m) (Hits.zero _ a) (Hah.out (a - 0) (by omega)))
 obtain ⟨dist0,hd0⟩:∃d,zaV (fb A (a - 0)) 0=d:=⟨_,rfl⟩
 rw [hd0] at HJ0 ⊢
 have Hbw1:=Lib.hid (Below.thn Hbw.out hb1)
 have Htk1:=Lib.hid (Htk.out.below hb1)
 have Hres1:=Lib.hid ((hb1.block _ (zab Hres.out)).trans Hres.out)
 clear hb1 hd0 Hbw Htk Hres
 have hBw:Hid (∀g',(Value.slice (some ⟨g,off,none⟩) l.length c).ownBlock=some g'→g'≠w.heap.size+1+1+1):=Lib.hid (fun g' h=>by have:=HvB.out g' h;omega)
 go_wp2_with fail
 go_loopw [8,9] (fun fv dv wr=> ∃fr dist bv L D:Nat,fv= .int .i64 (fr:Int)∧dv= .int .i64 (dist:Int)∧L<m∧Hid ((L=0→bv=x∧D=0)∧(0<L→bv=0))∧Hid (LJ (fb l) a m L D fr dist)∧
   Hid (TkB wr w.heap.size (w.heap.size+1) (w.heap.size+1+1+1) (w.heap.size+1+1+1+1) (.slice (some ⟨g,off,none⟩) l.length c) (.slice pa A.length ca) a m bv L D)∧
   Hid (wr.heap[w.heap.size+1+1]? =some (.cells #[.int .u8 0,.int .i64 0,.int .i64 0] 209))∧Hid (Below w.heap.size w wr))
  (fun _ dv wr=>(m - (intOf ((wr.cell? ⟨w.heap.size+1+1+1,1,none⟩).getD undef)).toNat)*40000+(if (intOf dv).toNat=0 then 0 else 40000 - (intOf dv).toNat))
 case atStart=>exact ⟨a,dist0,x,0,0,rfl,rfl,by omega,Lib.hid ⟨fun _=>⟨rfl,rfl⟩,fun h=>by omega⟩,HJ0,Htk1,Hres1,Hbw1⟩
 case round=>
  obtain ⟨fr,dist,bv,L,D,rfl,rfl,hLm,Hbv,HJ,HT,HR,HB⟩:=hrel
  have hms:(intOf ((wr.cell? ⟨w.heap.size+1+1+1,1,none⟩).getD undef)).toNat=L:=by rw [zaa HT.out.best rfl];simp [intOf]
  rw [hms]
  clear hms
  obtain ⟨j1,j2,j3,j4⟩:=HJ.out.le
  have c0:wr.cell? ⟨w.heap.size+1,0,none⟩=some (.int .i64 (a:Int)):=zaa HT.out.at' rfl
  have c1:wr.cell? ⟨w.heap.size+1+1+1,2,none⟩=some (.int .i64 (D:Int)):=zaa HT.out.best rfl
  have c2:wr.cell? ⟨w.heap.size,0,none⟩=some (.slice (some ⟨g,off,none⟩) l.length c):=zaa HT.out.s rfl
  have c3:wr.cell? ⟨w.heap.size,1,none⟩=some (.slice pa A.length ca):=zaa HT.out.s rfl
  by_cases hgo:1≤dist∧dist≤a
  ·have d1:decide ((0:Int)<(dist:Int))=true:=by simp;omega
   have d2:decide ((dist:Int)≤(a:Int))=true:=by simp;omega
   obtain ⟨hd1,hd2⟩:=hgo
   have hsea:Sea (fb l) a m L D fr dist∧Hits (fb l) fr dist:=by
    rcases HJ.out with ⟨h,-⟩ | ⟨-,h1,h2⟩
    ·omega
    ·exact ⟨h2,h1⟩
   have Hsea:=Lib.hid hsea
   clear hsea
   have hfm:fr+3≤a+m:=by omega
   have hfA:fr<A.length:=by have:=HA.out;have:=hml.out;omega
   have hfl:fr≤1048576:=by have:=HA.out;omega
   by_cases hold:dist≤D
   ·have d3:decide (dist≤D)=true:=by simp;omega
    have Hs:=Lib.hid (Hsea.out.1.old hd1 hold)
    go_wp2_with fail
    refine Calls.mono (zcA A _ _ fr dist wr (Hva.out.below HB.out) ⟨_,_,_,rfl⟩ (by omega) (by omega) (Hlt0.out _ (by omega)) (by omega) (by omega)) ?_
    rintro e w9 ⟨rfl,hb9⟩
    obtain ⟨nd,hnd⟩:∃nd,zaV (fb A (fr - dist)) dist=nd:=⟨_,rfl⟩
    have HJ9:Hid (LJ (fb l) a m L D fr nd):=Lib.hid (by rw [←hnd];exact LJ.next Hs.out Hsea.out.2 (Hah.out (fr - dist) (by omega)))
    have hnd2:nd=0∨(dist<nd∧nd≤32768):=by rw [←hnd];exact ze5 _ _
    rw [hnd]
    have HT9:=Lib.hid (HT.out.below hb9)
    have HR9:=Lib.hid ((hb9.block _ (zab HR.out)).trans HR.out)
    have HB9:=Lib.hid (Below.thn HB.out hb9)
    clear hb9 hnd c0 c1 c2 c3
    go_wp2_with fail
    go_roundw
    case rel=>exact ⟨fr,nd,bv,L,D,rfl,rfl,hLm,Hbv,HJ9,HT9,HR9,HB9⟩
    case measure=>
     rw [zaa HT9.out.best rfl]
     simp only [intOf,Int.toNat_natCast]
     exact zkF (Nat.le_refl _) hd1 j1 hnd2
   ·have d3:decide (dist≤D)=false:=by simp;omega
    have hvw:=Hv.out.below HB.out
    have Hvw:=Lib.hid hvw
    clear hvw
    go_wp2_with fail
    refine Calls.mono (zls l _ _ w.heap.size (w.heap.size+1) (w.heap.size+1+1+1) (w.heap.size+1+1+1+1) a m bv L D dist wr HT.out Hvw.out ⟨_,_,_,rfl⟩ hBw.out hd1 hd2 hml.out hLm hl (by omega) (by omega) (by omega)) ?_
    rintro e w2 ⟨rb,bv',L',D',rfl,hT2,ht2,hans⟩
    have HT2:=Lib.hid hT2
    have HR2:=Lib.hid ((ht2.block _ (zab HR.out) (by omega)).trans HR.out)
    have HB2:=Lib.hid (HB.out.trans (ht2.below HB.out.size (fun i hi=>by omega)))
    have c0:w2.cell? ⟨w.heap.size+1,0,none⟩=some (.int .i64 (a:Int)):=zaa hT2.at' rfl
    have c1:w2.cell? ⟨w.heap.size+1+1+1,1,none⟩=some (.int .i64 (L':Int)):=zaa hT2.best rfl
    have c2:w2.cell? ⟨w.heap.size,0,none⟩=some (.slice (some ⟨g,off,none⟩) l.length c):=zaa hT2.s rfl
    have c3:w2.cell? ⟨w.heap.size,1,none⟩=some (.slice pa A.length ca):=zaa hT2.s rfl
    have cM:w2.cell? ⟨w.heap.size+1+1+1+1,0,none⟩=some (.int .i64 (m:Int)):=zaa hT2.most rfl
    rcases hans with ⟨rfl,rfl,rfl,rfl,hno⟩ | ⟨rfl,rfl,hD',hLL,hrun⟩
    ·have Hs:=Lib.hid (Hsea.out.1.skip (fun n hn=>by have:=hno n hn;omega))
     clear hT2 ht2 hno HT HR HB hold
     go_wp2_with fail
     refine Calls.mono (zcA A _ _ fr dist w2 (Hva.out.below HB2.out) ⟨_,_,_,rfl⟩ (by omega) (by omega) (Hlt0.out _ (by omega)) (by omega) (by omega)) ?_
     rintro e w9 ⟨rfl,hb9⟩
     obtain ⟨nd,hnd⟩:∃nd,zaV (fb A (fr - dist)) dist=nd:=⟨_,rfl⟩
     have HJ9:Hid (LJ (fb l) a m L' D' fr nd):=Lib.hid (by rw [←hnd];exact LJ.next Hs.out Hsea.out.2 (Hah.out (fr - dist) (by omega)))
     have hnd2:nd=0∨(dist<nd∧nd≤32768):=by rw [←hnd];exact ze5 _ _
     rw [hnd]
     have HT9:=Lib.hid (HT2.out.below hb9)
     have HR9:=Lib.hid ((hb9.block _ (zab HR2.out)).trans HR2.out)
     have HB9:=Lib.hid (Below.thn HB2.out hb9)
     clear hb9 hnd c0 c1 c2 c3 cM
     go_wp2_with fail
     go_roundw
     case rel=>exact ⟨fr,nd,bv',L',D',rfl,rfl,hLm,Hbv,HJ9,HT9,HR9,HB9⟩
     case measure=>
      rw [zaa HT9.out.best rfl]
      simp only [intOf,Int.toNat_natCast]
      exact zkF (Nat.le_refl _) hd1 j1 hnd2
    ·have hD2:=hD'.symm
     subst hD2
     have hmore:=Hsea.out.1.more Hsea.out.2 hrun hLL (by omega) hd2
     have hle:=hrun.le
     have Hrun:=Lib.hid hrun
     clear hT2 ht2 hrun HT HR HB hold Hbv HJ
     by_cases hfull:L'=m
     ·have d4:((L':Int)==(m:Int))=true:=by simp;omega
      have HtkX:Hid (IsTok (fb l) l.length a ⟨0,L',dist⟩):=Lib.hid (by
       have h1:=Hsea.out.1.found (fr':=a) hd1 hd2 j1 Hrun.out hmore ⟨Nat.le_refl _,by omega⟩
       exact (show Sea (fb l) a (mo l.length a) L' dist a 1 by rw [Hm.out];exact h1).full (by omega) (by rw [Hm.out];exact hfull))
      clear hmore c1 hfull
      have c4:w2.cell? ⟨w.heap.size+1+1+1,0,none⟩=some (.int .u8 ((0:Nat):Int)):=zaa HT2.out.best rfl
      have c5:w2.cell? ⟨w.heap.size+1+1+1,1,none⟩=some (.int .i64 (L':Int)):=zaa HT2.out.best rfl
      have f0:w2.frozen? ⟨w.heap.size+1+1,0,none⟩=false:=by simp [World.frozen?,HR2.out]
      have f1:w2.frozen? ⟨w.heap.size+1+1,1,none⟩=false:=by simp [World.frozen?,HR2.out]
      have f2:w2.frozen? ⟨w.heap.size+1+1,2,none⟩=false:=by simp [World.frozen?,HR2.out]
      have r0:w2.cell? ⟨w.heap.size+1+1,0,none⟩=some (.int .u8 0):=zaa HR2.out rfl
      have r1:w2.cell? ⟨w.heap.size+1+1,1,none⟩=some (.int .i64 0):=zaa HR2.out rfl
      have r2:w2.cell? ⟨w.heap.size+1+1,2,none⟩=some (.int .i64 0):=zaa HR2.out rfl
      have c6:w2.cell? ⟨w.heap.size+1+1+1,2,none⟩=some (.int .i64 (dist:Int)):=zaa HT2.out.best rfl
      go_wp2_with fail
      exact bodyPost_ret (v:=tkV ⟨0,L',dist⟩) (zcz Tryz.results140 rfl (zco _ _ _ HR2.out)) rfl ⟨⟨0,L',dist⟩,rfl,HtkX.out,((HB2.out.setCell (show w.heap.size≤w.heap.size+1+1 by omega) _).setCell (show w.heap.size≤w.heap.size+1+1 by omega) _).setCell (show w.heap.size≤w.heap.size+1+1 by omega) _⟩
     ·have d4:((L':Int)==(m:Int))=false:=by simp;omega
      obtain ⟨q,hq⟩:∃q,a+L'=q:=⟨_,rfl⟩
      obtain ⟨q3,hq3'⟩:∃q3,q - 3=q3:=⟨_,rfl⟩
      obtain ⟨tt,htt⟩:∃tt,q3+1=tt:=⟨_,rfl⟩
      have e1:(a:Int)+(L':Int)=(q:Int):=by omega
      have e2:(q:Int) - 3=(q3:Int):=by omega
      have e3:(q3:Int)+1=(tt:Int):=by omega
      have hqb:q≤2097152:=by have:=hml.out;omega
      have hq3b:q3≤2097152:=by omega
      have hq3:3≤q:=by omega
      have hft:fr≤tt:=by omega
      have htA:tt<A.length:=by have:=HA.out;have:=hml.out;omega
      have Htt:=Lib.hid (show tt+2=a+L' by omega)
      have Hva2:=Lib.hid (Hva.out.below HB2.out)
      clear hq hq3' htt
      go_wp2_with fail
      refine Calls.mono (zic A _ _ fr tt w2 Hva2.out ⟨_,_,_,rfl⟩ hft htA (by have:=HA.out;omega)) ?_
      rintro e w3 ⟨fr',rfl,hr1,hr2,hb3⟩
      have HT3:=Lib.hid (HT2.out.below hb3)
      have HR3:=Lib.hid ((hb3.block _ (zab HR2.out)).trans HR2.out)
      have HB3:=Lib.hid (Below.thn HB2.out hb3)
      have Hs:=Lib.hid (Hsea.out.1.found (fr':=fr') hd1 hd2 j1 Hrun.out hmore ⟨by omega,by have:=Htt.out;omega⟩)
      have c2:w3.cell? ⟨w.heap.size,0,none⟩=some (.slice (some ⟨g,off,none⟩) l.length c):=zaa HT3.out.s rfl
      have c3:w3.cell? ⟨w.heap.size,1,none⟩=some (.slice pa A.length ca):=zaa HT3.out.s rfl
      clear hb3 c0 c1 cM HT2 HR2 e1 e2 e3 Hva2
      go_wp2_with fail
      refine Calls.mono (zcA A _ _ fr' 0 w3 (Hva.out.below HB3.out) ⟨_,_,_,rfl⟩ (by omega) (by omega) (Hlt0.out _ (by omega)) (by omega) (by have:=HA.out;omega)) ?_
      rintro e w9 ⟨rfl,hb9⟩
      obtain ⟨nd,hnd⟩:∃nd,zaV (fb A (fr' - 0)) 0=nd:=⟨_,rfl⟩
      have HJ9:Hid (LJ (fb l) a m L' dist fr' nd):=Lib.hid (by rw [←hnd];exact LJ.next Hs.out (Hits.zero _ _) (Hah.out (fr' - 0) (by omega)))
      have hnd2:nd≤32768:=by rw [←hnd];rcases ze5 (fb A (fr' - 0)) 0 with h | h<;>omega
      rw [hnd]
      have HT9:=Lib.hid (HT3.out.below hb9)
      have HR9:=Lib.hid ((hb9.block _ (zab HR3.out)).trans HR3.out)
      have HB9:=Lib.hid (Below.thn HB3.out hb9)
      clear hb9 hnd c2 c3
      go_wp2_with fail
      go_roundw
      case rel=>exact ⟨fr',nd,0,L',dist,rfl,rfl,by omega,Lib.hid ⟨fun h=>by omega,fun _=>rfl⟩,HJ9,HT9,HR9,HB9⟩
      case measure=>
       rw [zaa HT9.out.best rfl]
       simp only [intOf,Int.toNat_natCast]
       exact zoL (show m - L'<m - L by omega) hnd2
  ·have hsea:Sea (fb l) a m L D fr 32769:=by
    rcases HJ.out with ⟨-,h⟩ | ⟨h1,-,h⟩
    ·exact h
    ·exact h.far (.inr (by omega))
   have HtkX:Hid (IsTok (fb l) l.length a ⟨bv,L,D⟩):=Lib.hid (by
    have hdn:=(show Sea (fb l) a (mo l.length a) L D fr 32769 by rw [Hm.out];exact hsea).done
    by_cases h0:L=0
    ·obtain ⟨e1,e2⟩:=Hbv.out.1 h0
     have:=hdn.1 h0
     rw [h0,e1,e2,←Hxx.out];exact this
    ·rw [Hbv.out.2 (by omega)];exact hdn.2 (by omega))
   clear hsea HJ Hbv
   have c4:wr.cell? ⟨w.heap.size+1+1+1,0,none⟩=some (.int .u8 (bv:Int)):=zaa HT.out.best rfl
   have c5:wr.cell? ⟨w.heap.size+1+1+1,1,none⟩=some (.int .i64 (L:Int)):=zaa HT.out.best rfl
   have f0:wr.frozen? ⟨w.heap.size+1+1,0,none⟩=false:=by simp [World.frozen?,HR.out]
   have f1:wr.frozen? ⟨w.heap.size+1+1,1,none⟩=false:=by simp [World.frozen?,HR.out]
   have f2:wr.frozen? ⟨w.heap.size+1+1,2,none⟩=false:=by simp [World.frozen?,HR.out]
   have r0:wr.cell? ⟨w.heap.size+1+1,0,none⟩=some (.int .u8 0):=zaa HR.out rfl
   have r1:wr.cell? ⟨w.heap.size+1+1,1,none⟩=some (.int .i64 0):=zaa HR.out rfl
   have r2:wr.cell? ⟨w.heap.size+1+1,2,none⟩=some (.int .i64 0):=zaa HR.out rfl
   by_cases h0:dist=0
   ·subst h0
    go_wp2_with fail
    exact bodyPost_ret (v:=tkV ⟨bv,L,D⟩) (zcz Tryz.results140 rfl (zco _ _ _ HR.out)) rfl ⟨⟨bv,L,D⟩,rfl,HtkX.out,((HB.out.setCell (show w.heap.size≤w.heap.size+1+1 by omega) _).setCell (show w.heap.size≤w.heap.size+1+1 by omega) _).setCell (show w.heap.size≤w.heap.size+1+1 by omega) _⟩
   ·have d1:decide ((0:Int)<(dist:Int))=true:=by simp;omega
    have d2:decide ((dist:Int)≤(a:Int))=false:=by simp;omega
    go_wp2_with fail
    exact bodyPost_ret (v:=tkV ⟨bv,L,D⟩) (zcz Tryz.results140 rfl (zco _ _ _ HR.out)) rfl ⟨⟨bv,L,D⟩,rfl,HtkX.out,((HB.out.setCell (show w.heap.size≤w.heap.size+1+1 by omega) _).setCell (show w.heap.size≤w.heap.size+1+1 by omega) _).setCell (show w.heap.size≤w.heap.size+1+1 by omega) _⟩
end
end Go.Proofs.YtedakhgaghfogaaGreat
