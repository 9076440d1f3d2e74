/- Several texts in one, each with its own head. -/
import Derived.Test.YtedakhgaghfogaaGreatQs7
import Derived.Test.YtedakhgaghfogaaGreatQs25
import Derived.Test.YtedakhgaghfogaaGreatQs23
import Derived.Test.YtedakhgaghfogaaGreatQs18
namespace Go.Proofs.YtedakhgaghfogaaGreat
section
open Go.RowKit
def LensD (fs:List Int) (L:Nat) (g:Nat→Nat):Prop:= ∃P,RowD (leaves (fq fs) fs.length) L P∧∀i,g i=cntL i ((pairT P).take (many fs.length (fq fs) - 1))
theorem LensD.det {fs:List Int} {L:Nat} {g g':Nat→Nat} (h:LensD fs L g) (k:LensD fs L g'):g=g':=by
 obtain ⟨P,h1,h2⟩:=h
 obtain ⟨P',k1,k2⟩:=k
 obtain rfl:=h1.det k1
 exact funext fun i=>(h2 i).trans (k2 i).symm
set_option maxRecDepth 20000 in
set_option maxHeartbeats 2000000 in
theorem zjE (fs:List Int) (v:Value) (L:Nat) (w:World) (hv:Row encZ 1 w v fs) (hb:mayB fs (L:Int)=true) (hm:many fs.length (fq fs)≤2^L):
  Calls Tryz.prog 180 #[v,.int .i64 (L:Int)] w fun e w'=> ∃(v':Value) (g:Nat→Nat),e= .returned (.tuple #[v',.int .i64 0])∧w'.ownsRow w.heap.size 5 1 v' fs.length (zah g fs.length)∧LensOk fs L g∧(many fs.length (fq fs)≠1→LensD fs L g)∧Below w.heap.size w w':=by
 obtain ⟨h1,h2,h3,h4⟩:=zog hb
 have hvb:∀k,v.ownBlock=some k→k<w.heap.size:=fun k hk=>by
  obtain ⟨p,c,rfl,_,_,h⟩:=hv
  rcases h with ⟨rfl,-⟩ | ⟨bb,off,rfl,hbb,-⟩
  ·cases hk
  ·cases hk;exact hbb
 have Hv:=Lib.hid hv
 have Hb:=Lib.hid hb
 have Hm:=Lib.hid hm
 have H4:=Lib.hid h4
 obtain ⟨pf,cf,rfl,-,-,-⟩:=hv
 clear hb hm h4
 go_enter Tryz.func180,Tryz.ntmps180
 go_wp2_with fail
 refine Calls.mono (zmo fs _ L w Hv.out) ?_
 rintro e w1 ⟨rfl,rfl⟩
 rw [Hb.out]
 go_wp2_with fail
 refine Calls.mono (zi7 (fun _=>True) fs _ w1 (fun _ _=>trivial) Hv.out h3 (fun f hf=>(H4.out f hf).1)) ?_
 rintro e w2 ⟨vl,l,rfl,hs⟩
 have hl:=zrl hs
 have Hs:=Lib.hid hs
 obtain ⟨p,c,rfl⟩:=zac hs.own
 obtain ⟨q,hq,hwz⟩:=zoq h2
 have hgt:¬(q:Int)<(l.length:Int):=by
  have:=Hm.out
  rw [←hl,hq] at this
  omega
 have Hq:=Lib.hid (And.intro hl hq)
 clear hs hl hq
 have hL0:(0:Int)≤(L:Int):=by omega
 have hmk:=zkg fs.length (by omega)
 have Hnew:=Lib.hid (zoW fs.length (by omega) w2)
 have Hnb:=Lib.hid (Below.al1 w2 (.cells (zah (fun _=>0) fs.length).toArray 5))
 have Hg0:=Lib.hid (show (w2.alloc (.cells (zah (fun _=>0) fs.length).toArray 5)).heap.size=w2.heap.size+1 from World.size_alloc _ _)
 have Hrow:=Lib.hid ((ze4 Hs.out.own (by rw [List.length_map])).below Hnb.out)
 have Hblk:=Lib.hid (fun k (hk:(Value.slice p l.length c).ownBlock=some k)=>(Hs.out.own.lt k hk).2)
 have Htr:Hid (∀e∈l,TrAt (w2.alloc (.cells (zah (fun _=>0) fs.length).toArray 5)) (fun i=>i≠w2.heap.size) e.1 e.2):=Lib.hid (fun e he=>(Hs.out.at' e he).keep (fun i hi _=>⟨Hnb.out.block i hi,by omega⟩))
 by_cases h1l:l.length=1
 ·have e1:((l.length:Int)==1)=true:=by simp;omega
  obtain ⟨b0,s0,hl0,hs0,hfs⟩:∃b0 s0,l=[(b0,.leaf s0 (fq fs s0))]∧s0<fs.length∧syms (fq fs) fs.length=[s0]:=by
   match l,h1l,Hs.out.eq with
   | [(b0,t0)],_,he=>
    obtain ⟨_,_,s0,hs0,ht⟩:=za8 (fq fs) fs.length t0 (by rw [←he];simp)
    have h5:=zcQ (fq fs) fs.length
    rw [←he,ht] at h5
    refine ⟨b0,s0,by rw [ht],hs0,?_⟩
    simp only [List.map_cons,List.map_nil] at h5
    match hsy:syms (fq fs) fs.length,h5 with
    | [x],h5=>rw [h5.1]
    | x::y::r,h5=>exact h5.2.elim
  go_upto_region 8 with (fail)
  have Hok:Hid (LensOk fs L (fun i=>if i=s0 then 1 else 0)):=Lib.hid (by
   have hms:many fs.length (fq fs)=1:=by rw [←zdl,hfs];rfl
   refine ⟨fun i hi=>⟨?_,?_⟩,fun _ i _=>?_,(fun h=>by omega),(fun h=>by omega)⟩
   ·show (if i=s0 then 1 else 0)≤L
    split<;>omega
   ·constructor
    ·intro h
     have e:i=s0:=by
      by_cases e:i=s0
      ·exact e
      ·simp [e] at h
     subst e
     exact (zdq _ _ i (by rw [hfs];simp)).2
    ·intro h
     have:=zfn (fq fs) hi h
     rw [hfs] at this
     obtain rfl:i=s0:=by simpa using this
     simp
   ·show (if i=s0 then 1 else 0)≤1
    split<;>omega)
  obtain ⟨W,hW⟩:∃W,w2.alloc (.cells (zah (fun _=>0) fs.length).toArray 5)=W:=⟨_,rfl⟩
  rw [hW] at Hnew Hnb Hg0 Hrow Htr ⊢
  clear hW hmk
  have hrow:=Hrow.out
  obtain ⟨p',c',e',_,_,hrow⟩:=hrow
  rw [List.length_map] at e'
  cases e'
  obtain ⟨gl,off,rfl,hc0⟩:=hrow.ptr (k:=0) (by rw [hl0];simp)
  have ht0:=Htr.out (b0,.leaf s0 (fq fs s0)) (by rw [hl0];simp)
  unfold TrAt at ht0
  have hc1:W.cell? ⟨b0,1,none⟩=some (.int .i64 (s0:Int)):=zaa ht0.2 rfl
  have hc2:W.cell? ⟨gl,off,none⟩=some (.pointer (some ⟨b0,0,none⟩)):=by
   rw [List.getElem_map] at hc0
   have e:(l[0]'(by rw [hl0];simp))=(b0,.leaf s0 (fq fs s0)):=by simp [hl0]
   rw [e] at hc0
   exact hc0
  have hc3:W.cell? ⟨w2.heap.size,s0,none⟩=some (.int .u8 0):=by
   rw [World.ownsRow.cellAt Hnew.out s0 (by omega),zbE _ hs0];rfl
  have hf3:W.frozen? ⟨w2.heap.size,s0,none⟩=false:=World.ownsRow.frozenAt Hnew.out s0
  have HR:Hid ((W.setCell ⟨w2.heap.size,s0,none⟩ (.int .u8 1)).ownsRow w1.heap.size 5 1 (.slice (some ⟨w2.heap.size,0,none⟩) fs.length fs.length) fs.length (zah (fun i=>if i=s0 then 1 else 0) fs.length)∧Below w1.heap.size w1 (W.setCell ⟨w2.heap.size,s0,none⟩ (.int .u8 1))):=Lib.hid (by
   have h5:=(World.ownsRow.stored Hnew.out s0 (u8v 1)).1
   rw [zeY] at h5
   refine ⟨zeA h5 Hs.out.below.size,?_⟩
   exact (Below.thn Hs.out.below Hnb.out).setCell (p:=⟨w2.heap.size,s0,none⟩) Hs.out.below.size _)
  have k0:(0:Int)≤(s0:Int):=by omega
  have k1:(s0:Int)<(fs.length:Int):=by omega
  have k2:(0:Int)<(l.length:Int):=by omega
  clear hc0 ht0 hrow hl0
  go_wp2
  go_ret2
  exact ⟨_,_,rfl,HR.out.1,Hok.out,fun h=>absurd (Hq.out.1.symm.trans h1l) h,HR.out.2⟩
 ·have e1:((l.length:Int)==1)=false:=by simp;omega
  have hls:l.map Prod.snd=leaves (fq fs) fs.length:=Hs.out.eq
  have hm1:many fs.length (fq fs)≠1:=by rw [←Hq.out.1];exact h1l
  have Hfin:Hid (∀P,RowT (l.map Prod.snd) L P→l.length - 1≤(pairT P).length):=Lib.hid (fun P hP=>by
   rw [hls] at hP
   rw [Hq.out.1]
   exact (ziE hP Hm.out hm1).2)
  have Hls:=Lib.hid (And.intro hls hm1)
  have Hpre:Hid ((∀e∈l,TrAt (w2.alloc (.cells (zah (fun _=>0) fs.length).toArray 5)) (fun i=>i≠w2.heap.size) e.1 e.2∧e.2.cost≤1099511627776)∧l.length≤320):=Lib.hid ⟨fun e he=>⟨Htr.out e he,by
   obtain ⟨_,_,s,hs,ht⟩:=za8 (fq fs) fs.length e.2 (by rw [←hls];exact List.mem_map_of_mem he)
   rw [ht]
   show fq fs s≤_
   have h5:=(H4.out fs[s] (List.getElem_mem hs))
   have h6:=zps hs h5.1
   omega⟩,by
   have:many fs.length (fq fs)≤fs.length:=by
    rw [←zdl]
    have h5:∀k,(syms (fq fs) k).length≤k:=fun k=>by
     induction k with
     | zero=>exact Nat.le_refl _
     | succ k ih=>
      unfold syms
      rw [List.length_append]
      have:(if 0<fq fs k then [k] else []).length≤1:=by split<;>simp
      omega
    exact h5 _
   have:=Hq.out.1
   omega⟩
  clear hls hm1
  go_wp2_with fail
  refine Calls.mono (zih (fun i=>i≠w2.heap.size) l _ L _ (fun i hi=>by have:=Hg0.out;omega) Hrow.out Hpre.out.1 Hpre.out.2 h2 Hfin.out) ?_
  rintro e w3 ⟨v3,P,rt,rfl,hP,hrt,hrow3,hat,hb3,hbk⟩
  obtain ⟨W,hW⟩:∃W,w2.alloc (.cells (zah (fun _=>0) fs.length).toArray 5)=W:=⟨_,rfl⟩
  rw [hW] at Hnew Hnb Hg0 Hrow Htr Hpre hb3 hbk
  clear hW hmk Hfin Hrow Htr
  rw [Hls.out.1] at hP
  have HD:=Lib.hid hP
  have hP:=hP.rowT
  obtain ⟨ch,hch⟩:∃ch,rt.take (l.length - 1)=ch:=⟨_,rfl⟩
  rw [hch] at hrow3
  have hchl:ch.length≤320:=by
   have:=Hpre.out.2
   rw [←hch,List.length_take];omega
  have hcs:ch.map Prod.snd=(pairT P).take (many fs.length (fq fs) - 1):=by rw [←hch,List.map_take,hrt,Hq.out.1]
  have HD:Hid (LensD fs L (fun i=>cntL i (ch.map Prod.snd))):=Lib.hid ⟨P,HD.out,fun i=>by rw [hcs]⟩
  have Hok:Hid (LensOk fs L (fun i=>cntL i (ch.map Prod.snd))):=Lib.hid (by rw [hcs];exact (ziE hP Hm.out Hls.out.2).1)
  have Hch:Hid ((∀e∈ch,TrAt w3 (fun i=>i≠w2.heap.size) e.1 e.2∧e.2.Fits fs.length (fq fs))):=Lib.hid (fun e he=>⟨hat e (by rw [←hch] at he;exact List.mem_of_mem_take he),by
   have h5:e.2∈pairT P:=by
    have:e.2∈ch.map Prod.snd:=List.mem_map_of_mem he
    rw [hcs] at this
    exact List.mem_of_mem_take this
   obtain ⟨x,y,e1,hx,hy⟩:=zbl P _ h5
   have hf:=RowT.fits (N:=fs.length) (f:=fq fs) (fun t ht=>⟨(za8 _ _ t ht).1,(za8 _ _ t ht).2.1⟩) hP
   rw [e1]
   exact ⟨(hf x hx).1,(hf y hy).1⟩⟩)
  have Hl3:Hid (LensAt w3 w2.heap.size w2.heap.size fs.length fs.length (fun _=>0)):=Lib.hid ((Turns.of_below' (T:=fun _=>False) hb3).owns Hnew.out (fun _ _ h=>h))
  have Hb3:=Lib.hid (Below.thn (Below.thn Hs.out.below Hnb.out) hb3)
  obtain ⟨p3,c3,rfl,hle3,-,hrow3⟩:=hrow3
  have Hrow3:=Lib.hid (And.intro hrow3 (fun k hk=>hbk k hk))
  rw [List.length_map] at hle3 ⊢
  clear Hpre hP hrt hrow3 hat hb3 hbk hch hcs Hnew
  go_wp2
  go_loopw [40] (fun kv wr=> ∃(k:Nat),kv= .int .i64 (k:Int)∧k≤ch.length∧Hid (LenInv w2.heap.size w2.heap.size fs.length (ch.map Prod.snd) w3 wr k)) (fun kv _=>ch.length - (intOf kv).toNat)
  case atStart=>exact ⟨0,rfl,Nat.zero_le _,Lib.hid ⟨Hl3.out.congr (fun i _=>by simp [cntL]),Turns.refl _ _⟩⟩
  case round=>
   obtain ⟨k,rfl,hk,HI⟩:=hrel
   by_cases hlt:k<ch.length
   ·obtain ⟨g,off,rfl,hcell⟩:=Hrow3.out.1.ptr (k:=k) (by simpa using hlt)
    rw [List.getElem_map] at hcell
    have hgn:g≠w2.heap.size:=by
     have h5:=Hrow3.out.2 g rfl
     have h6:=Hg0.out
     omega
    have hx:wr.cell? ⟨g,off+k,none⟩=some (ptrV ch[k].1):=HI.out.turns.cell hcell hgn
    obtain ⟨ht,hF⟩:=Hch.out ch[k] (List.getElem_mem hlt)
    have hcnt:∀i,cntL i ((ch.map Prod.snd).take (k+1))=cntL i ((ch.map Prod.snd).take k)+(ch[k].2).cnt i:=fun i=>by
     rw [List.take_succ_eq_append_getElem (by simpa using hlt),zcj]
     simp [cntL]
    have Hp:Hid (TrAt wr (fun i=>i≠w2.heap.size) ch[k].1 ch[k].2∧ch[k].2.Fits fs.length (fq fs)∧∀i,i<fs.length→cntL i ((ch.map Prod.snd).take k)+(ch[k].2).cnt i≤255):=Lib.hid ⟨ht.keep (fun i hi hN=>⟨HI.out.turns.block i hi hN,hN⟩),hF,fun i hi=>by
     have h5:cntL i (ch.map Prod.snd)≤L:=(Hok.out.le i hi).1
     have h6:cntL i (ch.map Prod.snd)=cntL i ((ch.map Prod.snd).take (k+1))+cntL i ((ch.map Prod.snd).drop (k+1)):=by
      rw [←zcj,List.take_append_drop]
     rw [hcnt i] at h6
     omega⟩
    have Hcnt:=Lib.hid hcnt
    obtain ⟨b,hb⟩:∃b,ch[k].1=b:=⟨_,rfl⟩
    obtain ⟨t,htt⟩:∃t,ch[k].2=t:=⟨_,rfl⟩
    rw [hb] at hx Hp
    rw [htt] at Hp Hcnt
    unfold ptrV at hx
    have k0:(0:Int)≤(k:Int):=by omega
    have k1:(k:Int)<(ch.length:Int):=by omega
    clear hcell ht hF hcnt hb htt hgn
    go_wp2_with fail
    refine Calls.mono (zd8 (fun i=>i≠w2.heap.size) w2.heap.size w2.heap.size fs.length fs.length (fun h=>h rfl) (fq fs) t b _ wr Hp.out.1 HI.out.lens Hp.out.2.1 Hp.out.2.2) ?_
    rintro e w4 ⟨rfl,h5,h6⟩
    have HI4:Hid (LenInv w2.heap.size w2.heap.size fs.length (ch.map Prod.snd) w3 w4 (k+1)):=Lib.hid ⟨h5.congr (fun i _=>(Hcnt.out i).symm),HI.out.turns.trans h6⟩
    clear h5 h6
    go_wp2
    go_roundw
    case rel=>exact ⟨k+1,by go_num,by omega,HI4⟩
    case measure=>simp [intOf];omega
   ·obtain rfl:k=ch.length:=by omega
    go_wp2
    go_ret2
    have h5:=HI.out.lens.congr (f':=fun i=>cntL i (ch.map Prod.snd)) (fun i _=>by
     rw [List.take_of_length_le (by simp)])
    exact ⟨_,_,rfl,zeA h5 Hs.out.below.size,Hok.out,fun _=>HD.out,Hb3.out.trans (HI.out.turns.below Hb3.out.size (fun i e=>by subst e;exact Hs.out.below.size))⟩
end
section
open Go.RowKit Go.Shelf
attribute [local go_sem] Oper.semAt_some
def cntP (xs:List Pa) (a b:Nat):Nat:=xs.countP fun y=>decide (y.c=a∧y.s=b)
theorem zjS (xs:List Pa) (a b:Nat):cntP xs a b≤xs.length:=List.countP_le_length
theorem zng (xs:List Pa) (x:Pa) (a b:Nat):cntP (xs++[x]) a b=if a=x.c∧b=x.s then cntP xs x.c x.s+1 else cntP xs a b:=by
 unfold cntP
 rw [List.countP_append]
 by_cases h:a=x.c∧b=x.s
 ·rw [if_pos h,h.1,h.2];simp
 ·rw [if_neg h]
  have:¬(x.c=a∧x.s=b):=fun h'=>h ⟨h'.1.symm,h'.2.symm⟩
  simp [this]
def cdrL (ls:Nat→List Nat) (ga ca gc cc:Nat→Nat) (j:Nat):List Value:=(List.range j).flatMap fun a=>[.slice (some ⟨ga a,0,none⟩) (ls a).length (ca a),.slice (some ⟨gc a,0,none⟩) (ls a).length (cc a)]
structure BsC (W:World) (lim:Nat) (fs:Nat→List Int) (j:Nat) (v:Value) (gg ga ca gc cc:Nat→Nat→Nat) (w:World):Prop where
 own:w.ownsRow W.heap.size 234 2 v j (cdrL (fun a=>gl (gg a) (fs a).length) (ga 0) (ca 0) (gc 0) (cc 0) j)
 cdr:∀a,a<j→∃cv,Cdr w W.heap.size cv (gl (gg a) (fs a).length) (ga 0 a) (ca 0 a) (gc 0 a) (cc 0 a)
 ne:∀a,a<j→v.ownBlock≠some (ga 0 a)∧v.ownBlock≠some (gc 0 a)
 ok:∀a,a<j→LensOk (fs a) lim (gg a)∧(many (fs a).length (fq (fs a))≠1→LensD (fs a) lim (gg a))
def upd (f:Nat→Nat) (j x:Nat) (a:Nat):Nat:=if a=j then x else f a
theorem zek (L:Nat→List Nat) (ga ca gc cc:Nat→Nat) (j:Nat):cdrL L ga ca gc cc (j+1)=cdrL L ga ca gc cc j++[.slice (some ⟨ga j,0,none⟩) (L j).length (ca j),.slice (some ⟨gc j,0,none⟩) (L j).length (cc j)]:=by
 unfold cdrL
 rw [List.range_succ,List.flatMap_append,List.flatMap_singleton]
theorem zlA {L L':Nat→List Nat} {ga ca gc cc ga' ca' gc' cc':Nat→Nat} {j:Nat} (h:∀a,a<j→(L a).length=(L' a).length∧ga a=ga' a∧ca a=ca' a∧gc a=gc' a∧cc a=cc' a):cdrL L ga ca gc cc j=cdrL L' ga' ca' gc' cc' j:=by
 induction j with
 | zero=>rfl
 | succ j ih=>
  rw [zek,zek,ih fun a ha=>h a (by omega)]
  obtain ⟨e1,e2,e3,e4,e5⟩:=h j (by omega)
  rw [e1,e2,e3,e4,e5]
theorem BsC.push {W w w':World} {lim j:Nat} {fs:Nat→List Int} {v v':Value} {gg ga ca gc cc:Nat→Nat→Nat} (h:BsC W lim fs j v gg ga ca gc cc w) (ht:∀a g,a<j→(g=ga 0 a∨g=gc 0 a)→w'.heap[g]? =w.heap[g]?) {g:Nat→Nat} {xa ya xc yc:Nat} {cv:Value}
  (ho:w'.ownsRow W.heap.size 234 2 v' (j+1) (cdrL (fun a=>gl (gg a) (fs a).length) (ga 0) (ca 0) (gc 0) (cc 0) j++[.slice (some ⟨xa,0,none⟩) (fs j).length ya,.slice (some ⟨xc,0,none⟩) (fs j).length yc]))
  (hn:∀a,a<j→v'.ownBlock≠some (ga 0 a)∧v'.ownBlock≠some (gc 0 a)) (hn2:v'.ownBlock≠some xa∧v'.ownBlock≠some xc)
  (hc:Cdr w' W.heap.size cv (gl g (fs j).length) xa ya xc yc) (hok:LensOk (fs j) lim g∧(many (fs j).length (fq (fs j))≠1→LensD (fs j) lim g)):
  BsC W lim fs (j+1) v' (fun a=>if a=j then g else gg a) (fun _=>upd (ga 0) j xa) (fun _=>upd (ca 0) j ya) (fun _=>upd (gc 0) j xc) (fun _=>upd (cc 0) j yc) w':=by
 have hne:∀(f:Nat→Nat) (x a:Nat),a<j→upd f j x a=f a:=fun f x a ha=>if_neg (by omega)
 have heq:∀(f:Nat→Nat) (x:Nat),upd f j x j=x:=fun f x=>if_pos rfl
 refine ⟨?_,fun a ha=>?_,fun a ha=>?_,fun a ha=>?_⟩
 ·rw [zek,heq,heq,heq,heq]
  simp only [if_pos,zap]
  rw [zlA (L':=fun a=>gl (gg a) (fs a).length) (ga':=ga 0) (ca':=ca 0) (gc':=gc 0) (cc':=cc 0) fun a ha=>⟨by rw [zap,zap],hne _ _ a ha,hne _ _ a ha,hne _ _ a ha,hne _ _ a ha⟩]
  exact ho
 ·by_cases e:a=j
  ·subst e
   rw [heq,heq,heq,heq]
   simp only [if_pos]
   exact ⟨cv,hc⟩
  ·have ha':a<j:=by omega
   obtain ⟨cv',h1⟩:=h.cdr a ha'
   rw [hne _ _ a ha',hne _ _ a ha',hne _ _ a ha',hne _ _ a ha']
   simp only [if_neg e]
   obtain ⟨cur,t,a1,a2⟩:=h1.oa
   obtain ⟨cur',t',b1,b2⟩:=h1.oc
   exact ⟨cv',h1.e,h1.a,h1.c,h1.ka,h1.km,⟨cur,t,(ht a _ ha' (.inl rfl)).trans a1,a2⟩,⟨cur',t',(ht a _ ha' (.inr rfl)).trans b1,b2⟩⟩
 ·by_cases e:a=j
  ·subst e
   rw [heq,heq]
   exact hn2
  ·rw [hne _ _ a (by omega),hne _ _ a (by omega)]
   exact hn a (by omega)
 ·by_cases e:a=j
  ·subst e
   simp only [if_pos]
   exact hok
  ·simp only [if_neg e]
   exact h.ok a (by omega)
theorem BsC.keep {W w w':World} {lim j N:Nat} {fs:Nat→List Int} {v:Value} {gg ga ca gc cc:Nat→Nat→Nat} (h:BsC W lim fs j v gg ga ca gc cc w) (ht:Turns (fun b=>b=N) w w') (hv:v.ownBlock≠some N) (hN:w.heap[N]? =some (.deferred (some []))):BsC W lim fs j v gg ga ca gc cc w':=by
 refine ⟨ht.owns h.own (fun k hk e=>hv (e ▸ hk)),fun a ha=>?_,h.ne,h.ok⟩
 obtain ⟨cv,h1⟩:=h.cdr a ha
 refine ⟨cv,h1.turns ht (fun e=>?_) (fun e=>?_)⟩
 ·obtain ⟨cur,t,a1,-⟩:=h1.oa
  rw [e,hN] at a1
  cases a1
 ·obtain ⟨cur,t,a1,-⟩:=h1.oc
  rw [e,hN] at a1
  cases a1
set_option maxRecDepth 100000 in
set_option maxHeartbeats 4000000 in
theorem zg5 {R:Nat→Prop} (gf:Nat) (lb:Array Value) (xs:List Pa) (lim gs cs k:Nat) (ns:Nat→Nat) (W:World) (eg:∀args w,(callFunc gf args).run Tryz.prog w= .ok (.enter gf args) w)
    (hseq:Iter Tryz.prog gf lb ElPa R xs W) (hR:∀b,R b→b<W.heap.size) (hk:k≤16) (hs:∀j,j<k→W.cell? ⟨gs,j,none⟩=some (.int .i64 ((ns j:Nat):Int))) (hn:∀j,j<k→ns j≤320) (hx:∀x∈xs,x.c<k∧x.s<ns x.c) (hl:xs.length≤4194304) (h15:lim≤15) (h0:∀j,j<k→0<ns j)
    (hmb:∀j,j<k→mayB (ctZ (cntP xs j) (ns j)) (lim:Int)=true∧many (ns j) (fq (ctZ (cntP xs j) (ns j)))≤2^lim):
    Calls Tryz.prog 164 #[.func (.func gf) #[] lb,.int .i64 (lim:Int),.slice (some ⟨gs,0,none⟩) k cs] W fun e w'=> ∃v gg ga ca gc cc,e= .returned v∧BsC W lim (fun j=>ctZ (cntP xs j) (ns j)) k v gg ga ca gc cc w'∧Below W.heap.size W w':=by
  have Hmb:=Lib.hid hmb
  have Hn0:=Lib.hid h0
  have Hseq:=Lib.hid hseq
  have HR:=Lib.hid hR
  have Hs:=Lib.hid hs
  have Hn:=Lib.hid hn
  have Hx:=Lib.hid hx
  clear hseq hR hs hn hx h0 hmb
  refine (callsIn_wide (n:=0)).1 ?_
  refine callsIn_of_wp_marks Tryz.func164 rfl trivial ?_ rfl
  simp only [Tryz.ntmps164,List.size_toArray,List.length_cons,List.length_nil,Nat.reduceAdd,Nat.reduceSub,Array.replicate_succ,Array.replicate_zero,List.push_toArray,List.append_toArray,List.nil_append,List.cons_append]
  refine wpIn_wide.2 ?_
  have hmk:∀w:World,(Instr.makeSlice 245 (.int .i64 (k:Int)) (.int .i64 (k:Int))).run Tryz.prog w= .ok (.slice (some ⟨w.heap.size,0,none⟩) k k) (w.alloc (.cells (fqR (fun _=>0) ns 0 k).toArray 42)):=zpL _ _ _ (by omega)
  go_upto_region 3 with (fail)
  have hI0:FqI W (W.heap.size+1) W.heap.size k 0 (fun _=>0) ns (fun _ _=>0) ((W.alloc (.cells (fqR (fun _=>0) ns 0 k).toArray 42)).alloc (.cells #[.slice (some ⟨W.heap.size,0,none⟩) k k] 245)):=by
    have hg:=zag [.cells (fqR (fun _=>0) ns 0 k).toArray 42,.cells #[.slice (some ⟨W.heap.size,0,none⟩) k k] 245] W
    simp only [List.foldl_cons,List.foldl_nil] at hg
    exact ⟨Below.al (Below.al1 _ _) _,(hg 1 _).2 rfl,(hg 0 _).2 rfl,fun j hj=>absurd hj (Nat.not_lt_zero j),⟨by omega,Nat.le_refl _,by omega⟩,fun j hj=>absurd hj (Nat.not_lt_zero j),fun j _ hj=>absurd hj (Nat.not_lt_zero j)⟩
  generalize (W.alloc (.cells (fqR (fun _=>0) ns 0 k).toArray 42)).alloc (.cells #[.slice (some ⟨W.heap.size,0,none⟩) k k] 245)=W1 at *
  obtain ⟨bx,hbx⟩:∃b,W.heap.size+1=b:=⟨_,rfl⟩
  obtain ⟨F,hF⟩:∃b,W.heap.size=b:=⟨_,rfl⟩
  rw [hbx,hF] at hI0
  rw [hbx,hF]
  have HI0:=Lib.hid hI0
  have Hbx:=Lib.hid (And.intro hbx hF)
  clear hI0 hmk hbx hF
  go_loopw [21] (fun iv wr=> ∃(i:Nat) (fb:Nat→Nat),iv= .int .i64 (i:Int)∧i≤k∧Hid (FqI W bx F k i fb ns (fun _ _=>0) wr)) (fun iv _=>k - (intOf iv).toNat)
  case atStart=>exact ⟨0,fun _=>0,rfl,Nat.zero_le _,HI0⟩
  case round=>
    obtain ⟨i,fb,rfl,hi,HI⟩:=hrel
    by_cases hin:i<k
    · have d0:decide ((i:Int)<(k:Int))=true:=by simp;omega
      have j0:(0:Int)≤(i:Int):=by omega
      have j1:(i:Int)<(k:Int):=by omega
      have hc:=cell_later HI.out.bw (Hs.out i hin)
      have hni:=Hn.out i hin
      obtain ⟨n,hnn⟩:∃n,ns i=n:=⟨_,rfl⟩
      rw [hnn] at hc hni
      have Hnn:=Lib.hid hnn
      have cb:wr.cell? ⟨bx,0,none⟩=some (.slice (some ⟨F,0,none⟩) k k):=zaa HI.out.box rfl
      have ff:wr.frozen? ⟨F,i,none⟩=false:=by simp [World.frozen?,HI.out.tab]
      obtain ⟨vf,hvf⟩:∃v,wr.cell? ⟨F,i,none⟩=some v:=⟨.slice none 0 0,zaa HI.out.tab (by
        rw [List.getElem?_toArray]
        unfold fqR
        rw [List.getElem?_map,List.getElem?_range hin]
        show some (if i<i then _ else _)=_
        rw [if_neg (Nat.lt_irrefl i)])⟩
      have hmk:∀w:World,(Instr.makeSlice 42 (.int .i64 (n:Int)) (.int .i64 (n:Int))).run Tryz.prog w= .ok (.slice (some ⟨w.heap.size,0,none⟩) n n) (w.alloc (.cells (ctW (fun _=>0) n).toArray 3)):=zp2 _ (by omega)
      have hbl:=zab HI.out.box
      have hFl:=zab HI.out.tab
      have hbF:=HI.out.lo.2.2
      clear hnn
      go_upto_region 5 with (fail)
      go_region
      have HI2:=Lib.hid (HI.out.pushW (w':=(wr.setCell ⟨F,i,none⟩ (.slice (some ⟨wr.heap.size,0,none⟩) n n)).alloc (.cells (ctW (fun _=>0) n).toArray 3)) (fun _=>rfl) (by rw [Hnn.out]))
      generalize ((wr.setCell ⟨F,i,none⟩ (.slice (some ⟨wr.heap.size,0,none⟩) n n)).alloc (.cells (ctW (fun _=>0) n).toArray 3)).drew=w5 at *
      clear hc cb ff hvf
      go_wp2
      go_roundw
      case rel=>exact ⟨i+1,_,by go_num,by omega,HI2⟩
      case measure=>simp [intOf];omega
    · obtain rfl:i=k:=by omega
      have d0:decide ((i:Int)<(i:Int))=false:=by simp
      go_wp2_with fail
      have hwr:=HI.out.bw.size
      obtain ⟨N,hN⟩:∃N,wr.heap.size=N:=⟨_,rfl⟩
      refine (wpIn_wide (n:=0)).1 ?_
      refine za0 (gf:=gf) (El:=ElPa) (xs:=xs) (w0:=W) ?hg ?eg Hseq.out ?hs0 ?hRr VsPa zhx ?hps ?hasg
        (fun pre _ W'=>FqI W bx F i i fb ns (cntP pre) W') (fun _ _ _ _=>False) ?start
        (fun vs W'=>{ tmps:=#[.func (.func gf) #[] lb,.int .i64 (lim:Int),.slice (some ⟨gs,0,none⟩) i cs,undef,undef,undef,.slice none 0 0,.pointer (some ⟨bx,0,none⟩),u8,u9,.pointer (some ⟨W'.heap.size,0,none⟩),undef,undef,undef,undef,undef,.slice (some ⟨gs,0,none⟩) i cs,.int .i64 (i:Int),.slice (some ⟨F,0,none⟩) i i,.slice (some ⟨gs,0,none⟩) i cs,.int .i64 (i:Int),.int .i64 (i:Int),.bool false,u23,u24,u25,u26,u27,u28,u29,u30,u31,.func (.func gf) #[] lb,vs.getD 0 undef,undef,undef,undef,undef,undef,undef,undef,undef,undef,undef,undef,undef,undef,undef,undef,undef,undef,undef,undef,undef,undef,undef,undef,undef,undef,undef,undef,undef,undef,undef],defers:=[]}) ?assign ?body ?done ?stop
      case hg=>rfl
      case eg=>exact eg
      case hs0=>exact hwr
      case hRr=>exact fun q hq=>⟨Nat.lt_of_lt_of_le (HR.out q hq) hwr,HI.out.bw.block q (HR.out q hq)⟩
      case hps=>
        rintro _ _ _ x _ h
        rw [h];exact ⟨rfl,x,rfl⟩
      case hasg=>
        rintro _ W' ⟨x,rfl⟩
        exact Below.al1 W' _
      case start=>exact HI.out
      case assign=>
        rintro l _ W' K ⟨x,rfl⟩ hK
        gi_wp2
        first
          | exact hK
          | simpa using hK
          | simpa [Array.zip,Array.zipWith,zhx] using hK
      case stop=>exact fun _ _ _ _ _ _ h=>h.elim
      case body=>
        rintro pre x rest Tp T Wq Wp W1' W2 vs hxs hI htqp hsq hsq1 ht2 hTp hT hT2 hR2 hEl h12 hs12 h1a hLt hL1 hD2 hL2
        simp only [hN] at ht2 hTp hT2 h12 hLt hL1 hD2 hL2 htqp ⊢
        obtain rfl:vs=#[PaV x]:=hEl
        obtain ⟨r0,hr0⟩:=hL1
        have hnlt:N+1<W1'.heap.size:=zab hr0
        have hpa:PaAt W2 W1'.heap.size x:=(h1a.block _ (by show W1'.heap.size<(W1'.alloc _).heap.size;rw [World.size_alloc];omega) (by omega)).trans (zbH W1' x)
        obtain ⟨pb,hpb⟩:∃pb,W1'.heap.size=pb:=⟨_,rfl⟩
        rw [hpb] at hpa hnlt ⊢
        obtain ⟨o1,o2⟩:=Hx.out x (by rw [hxs];simp)
        have hbN:bx<N:=by rw [←hN];exact zab HI.out.box
        have hFN:F<N:=by rw [←hN];exact zab HI.out.tab
        have hfN:∀j,j<i→fb j<N:=fun j hj=>by rw [←hN];exact zab (HI.out.row j hj)
        have nT:∀b,b<N→¬(Tp b∨b=N+1∨b=N):=fun b hb h=>by
          rcases h with h | h | h
          · have:=(hTp b h).1;omega
          · omega
          · omega
        have hI2:FqI W bx F i i fb ns (cntP pre) W2:=hI.turns ht2 (hI.bw.trans (ht2.below hI.bw.size fun b hb=>by
          rcases hb with hb | hb | hb
          · have:=(hTp b hb).1;omega
          · omega
          · omega)) (nT _ hbN) (nT _ hFN) (fun j hj=>nT _ (hfN j hj))
        have HI2:=Lib.hid hI2
        have cbx:W2.cell? ⟨bx,0,none⟩=some (.slice (some ⟨F,0,none⟩) i i):=zaa hI2.box rfl
        have cF:W2.cell? ⟨F,x.c,none⟩=some (.slice (some ⟨fb x.c,0,none⟩) (ns x.c) (ns x.c)):=zaa hI2.tab (by rw [List.getElem?_toArray,zm8 fb ns o1 o1])
        have cR:W2.cell? ⟨fb x.c,x.s,none⟩=some (.int .i64 ((cntP pre x.c x.s:Nat):Int)):=zaa (hI2.row x.c o1) (by rw [List.getElem?_toArray,zl8 _ o2])
        have hcle:=zjS pre x.c x.s
        have hpre:pre.length≤4194304:=by
          have:=congrArg List.length hxs
          rw [List.length_append] at this;omega
        obtain ⟨p0,p1,p2,p3⟩:=hpa.c
        have Hxs:=Lib.hid hxs
        have HfN:=Lib.hid (hfN x.c o1)
        have hnx:=Hn.out x.c o1
        have hfW:W.heap.size≤fb x.c:=(hI2.ne x.c o1).1
        have Hk:=Lib.hid (And.intro o1 (And.intro hT2 (And.intro hLt (zab hpa))))
        obtain ⟨⟨xc0,xs0,xm0,xz0⟩,hxx⟩:∃q:Pa,q=x:=⟨x,rfl⟩
        subst hxx
        simp only at p0 p1 p2 p3 o1 o2 cF cR hcle hnx hfW HfN Hk
        obtain ⟨m,hm⟩:∃m,cntP pre xc0 xs0=m:=⟨_,rfl⟩
        rw [hm] at cR hcle
        have Hm:=Lib.hid hm
        obtain ⟨fc,hfc⟩:∃fc,fb xc0=fc:=⟨_,rfl⟩
        rw [hfc] at cF cR hfW HfN
        have Hfc:=Lib.hid hfc
        obtain ⟨nc,hnc⟩:∃nc,ns xc0=nc:=⟨_,rfl⟩
        rw [hnc] at cF o2 hnx
        have i0:(0:Int)≤(xc0:Int):=by omega
        have i1:(xc0:Int)<(i:Int):=by omega
        have i2:(0:Int)≤(xs0:Int):=by omega
        have i3:(xs0:Int)<(nc:Int):=by omega
        have hw1:IntKind.i64.wrap ((m:Int)+1)=((m+1:Nat):Int):=by rw [IntWalk.i64_in _ (by omega)];omega
        clear hI ht2 hTp hT h12 hs12 h1a hD2 hL2 htqp hsq hsq1 hpa hxs hr0 hnlt hI2 nT hfN hm hfc hnc
        have e0:(#[PaV ⟨xc0,xs0,xm0,xz0⟩]:Array Value).getD 0 undef=PaV ⟨xc0,xs0,xm0,xz0⟩:=rfl
        rw [e0]
        clear e0
        have hqq:=After.ne W2
        have C0:=After.rule cbx
        have C1:=After.rule cF
        have C2:=After.rule cR
        have C3:=After.rule p0
        have C4:=After.rule p1
        gi_wp2
        refine zbR 11 (by kernel_rfl) (by kernel_rfl) (by kernel_rfl) (by kernel_rfl) (fun h=>by obtain ⟨_,_,h⟩:=h;exact h) ?_
        repeat (refine zaK (fun K hK=>?_);go_simp;(refine hK _ ?_;clear hK K))
        refine zbd ?_
        intro w3 hb3
        simp only [List.drop_succ_cons,List.drop_zero]
        have HI3:=Lib.hid (HI2.out.below hb3)
        have c3:=cell_later hb3 cR
        have f3:w3.frozen? ⟨fc,xs0,none⟩=false:=by
          have:=HI3.out.row xc0 o1
          rw [Hfc.out] at this
          simp [World.frozen?,this]
        have Hb3:=Lib.hid hb3
        clear C0 C1 C2 C3 C4 hqq hb3 cbx cF cR p0 p1 p2 p3
        go_wp2
        gi_wp2
        have hI5:=HI3.out.count (j:=xc0) (s:=xs0) (v:=m+1) o1 (cntP (pre++[⟨xc0,xs0,xm0,xz0⟩])) (fun a b=>by rw [zng,Hm.out])
        rw [Hfc.out] at hI5
        have hoth:∀b,b≠fc→b<W2.heap.size→(w3.setCell ⟨fc,xs0,none⟩ (.int .i64 ((m+1:Nat):Int))).heap[b]? =W2.heap[b]? :=fun b hb hl=>(Below.heap_setCell _ _ _ b (fun e=>hb (by simpa using e))).trans (Hb3.out.block b hl)
        obtain ⟨-,k2,k3,k4⟩:=Hk.out
        have hfl:=HfN.out
        refine ⟨hI5,by have:=Hb3.out.size;simpa using this,fun b hb=>hoth b ?_ ?_⟩
        · rcases hb with hb | hb | hb | hb
          · have:=HR.out b hb;omega
          · have:=(k2 b hb).1;omega
          · omega
          · omega
        · rcases hb with hb | hb | hb | hb
          · have:=HR.out b hb;omega
          · exact (k2 b hb).2
          · omega
          · omega
      case done=>
        intro Tp Wq W' hI htt hTp hlt hD
        rw [hN] at htt hTp hlt hD
        have hbN:bx<N:=by rw [←hN];exact zab HI.out.box
        have hFN:F<N:=by rw [←hN];exact zab HI.out.tab
        have hfN:∀j,j<i→fb j<N:=fun j hj=>by rw [←hN];exact zab (HI.out.row j hj)
        have nT:∀b,b<N→¬(Tp b∨b=N+1∨b=N):=fun b hb h=>by
          rcases h with h | h | h
          · have:=hTp b h;omega
          · omega
          · omega
        have hI2:FqI W bx F i i fb ns (cntP xs) W':=hI.turns htt (hI.bw.trans (htt.below hI.bw.size fun b hb=>by
          rcases hb with hb | hb | hb
          · have:=hTp b hb;omega
          · omega
          · omega)) (nT _ hbN) (nT _ hFN) (fun j hj=>nT _ (hfN j hj))
        rw [hN]
        have HD:=Lib.hid hD
        have HI2:=Lib.hid hI2
        have HfN:=Lib.hid hfN
        have cbx:W'.cell? ⟨bx,0,none⟩=some (.slice (some ⟨F,0,none⟩) i i):=zaa hI2.box rfl
        clear hI htt hTp hD hI2 nT hfN
        dsimp only
        go_wp2_with fail
        have hB0:Hid (BsC W lim (fun j=>ctZ (cntP xs j) (ns j)) 0 (.slice none 0 0) (fun _ _=>0) (fun _ _=>0) (fun _ _=>0) (fun _ _=>0) (fun _ _=>0) W'):=Lib.hid ⟨⟨rfl,.inl ⟨rfl,rfl⟩⟩,fun a h=>absurd h (Nat.not_lt_zero a),fun a h=>absurd h (Nat.not_lt_zero a),fun a h=>absurd h (Nat.not_lt_zero a)⟩
        go_loopw [11,47] (fun lv jv w2=> ∃(j:Nat) (gg ga ca gc cc:Nat→Nat→Nat),jv= .int .i64 (j:Int)∧j≤i∧Hid (BsC W lim (fun j=>ctZ (cntP xs j) (ns j)) j lv gg ga ca gc cc w2)∧Hid (Below W'.heap.size W' w2)∧Hid (∀b,lv.ownBlock=some b→W'.heap.size≤b)) (fun _ jv _=>i - (intOf jv).toNat)
        case atStart=>exact ⟨0,_,_,_,_,_,rfl,Nat.zero_le _,hB0,Lib.hid (Below.refl _ _),Lib.hid (fun b h=>by cases h)⟩
        case round=>
          obtain ⟨j,gg,ga,ca,gc,cc,rfl,hj,HBs,HB,HOB⟩:=hrel
          obtain ⟨pl,cl,rfl⟩:=zac HBs.out.own
          by_cases hji:j<i
          · have d1:decide ((j:Int)<(i:Int))=true:=by simp;omega
            have j0:(0:Int)≤(j:Int):=by omega
            have j1:(j:Int)<(i:Int):=by omega
            have hI3:=HI2.out.below HB.out
            have hnj:=Hn.out j hji
            have cF:wr.cell? ⟨F,j,none⟩=some (.slice (some ⟨fb j,0,none⟩) (ns j) (ns j)):=zaa hI3.tab (by rw [List.getElem?_toArray,zm8 fb ns hji hji])
            have hrow:=zqo (hI3.row j hji) (by omega)
            obtain ⟨m1,m2⟩:=Hmb.out j hji
            have hcl:=Lib.hid (zjE (ctZ (cntP xs j) (ns j)) _ lim wr hrow m1 (by rw [zaB];exact m2))
            have hn0:=Hn0.out j hji
            obtain ⟨n,hnn⟩:∃n,ns j=n:=⟨_,rfl⟩
            obtain ⟨fj,hfj⟩:∃f,fb j=f:=⟨_,rfl⟩
            have Hfs:Hid (∃fs,fs=ctZ (cntP xs j) (ns j)∧fs.length=n):=Lib.hid ⟨_,rfl,by rw [zaB,hnn]⟩
            rw [hnn,hfj] at cF
            rw [hfj,hnn] at hcl
            rw [hnn] at hnj hn0
            have Hnn:=Lib.hid hnn
            clear hI3 hrow m1 m2 hnn hfj Hfs
            go_wp2_with fail
            refine Calls.mono hcl.out ?_
            rintro _ w1 ⟨v1,g,rfl,ho1,hk1,hd1,hb1⟩
            have hck:=zhL hk1 h15 (by rw [zaB];omega)
            rw [zaB] at ho1 hck hd1
            rw [zrm] at ho1
            have HC1:=Lib.hid (zc5 wr.heap.size (gl g n) v1 w1 (by rw [zap];exact ho1) hck (by rw [zap];omega) hb1.size)
            have Hk1:=Lib.hid (And.intro hk1 hd1)
            have Hb1:=Lib.hid hb1
            obtain ⟨p1,c1,rfl⟩:=zac ho1
            clear hcl ho1 hk1 hd1 hb1 hck cF
            go_wp2_with fail
            refine Calls.mono HC1.out ?_
            rintro _ w2 ⟨cv,xa,ya,xc,yc,rfl,hC,hb2⟩
            have hce:=hC.e
            rw [zap] at hce
            subst hce
            have HC2:=Lib.hid hC
            have Hb2:=Lib.hid (Below.thn Hb1.out hb2)
            have HO2:=Lib.hid ((Turns.of_below' (T:=fun _=>False) Hb2.out).owns HBs.out.own (fun _ _ h=>h))
            have hs2:W.heap.size≤w2.heap.size:=Nat.le_trans (Nat.le_trans HI2.out.bw.size HB.out.size) Hb2.out.size
            clear hC hb2 HC1
            go_wp2_with (at_builtin;refine zeK w2 rfl (.tmp 57) (.tmp 60) 229 rfl W.heap.size 234 _ 48 zok Tryz.underlying229 rfl (.slice pl j cl) j _ rfl HO2.out (.slice (some ⟨xa,0,none⟩) n ya) (.slice (some ⟨xc,0,none⟩) n yc) _ rfl rfl rfl ?n3 ?n4 hs2 ?_)
            case n3=>simp only [maxLen];omega
            case n4=>omega
            intro g5 cap5 w5 ho5 ht5 hg5
            have e:(ctZ (cntP xs j) (ns j)).length=n:=by rw [zaB,Hnn.out]
            have hsb:=Hb2.out.size
            have hlA:∀a,a<j→ga 0 a<wr.heap.size∧gc 0 a<wr.heap.size:=fun a ha=>by obtain ⟨cv',h1⟩:=HBs.out.cdr a ha;exact h1.lt
            have hownlt:∀b,(Value.slice pl j cl).ownBlock=some b→b<wr.heap.size:=fun b hb=>(HBs.out.own.lt b hb).2
            have hxa:=HC2.out.a
            have hxc:=HC2.out.c
            have hxl:=HC2.out.lt
            have hP:=HBs.out.push (w':=w5) (v':= .slice (some ⟨g5,0,none⟩) (j+1) cap5) (fun a b ha hb=>by
                have hb' : b < wr.heap.size := by rcases hb with rfl | rfl
                                                  · exact (hlA a ha).1
                                                  · exact (hlA a ha).2
                exact (ht5.block b (by omega) (fun h=>by
                  rcases hb with rfl | rfl
                  · exact (HBs.out.ne a ha).1 h
                  · exact (HBs.out.ne a ha).2 h)).trans (Hb2.out.block b hb')) (g:=g) (xa:=xa) (ya:=ya) (xc:=xc) (yc:=yc) (cv:= .agg #[.slice (some ⟨xa,0,none⟩) n ya,.slice (some ⟨xc,0,none⟩) n yc])
              (by simp only [e];exact ho5)
              (fun a ha=>by
                obtain ⟨l1,l2⟩:=hlA a ha
                refine ⟨fun h=>?_,fun h=>?_⟩<;>(have h':=Option.some.inj h;simp only at h';rcases hg5 with h5 | h5)
                · exact (HBs.out.ne a ha).1 (by rw [h5,h'])
                · omega
                · exact (HBs.out.ne a ha).2 (by rw [h5,h'])
                · omega)
              (by
                refine ⟨fun h=>?_,fun h=>?_⟩<;>(have h':=Option.some.inj h;simp only at h';rcases hg5 with h5 | h5)
                · have:=hownlt _ h5;omega
                · omega
                · have:=hownlt _ h5;omega
                · omega)
              (by
                simp only [e]
                exact (HC2.out.turns ht5 (fun h=>by have:=hownlt _ h;omega) (fun h=>by have:=hownlt _ h;omega)).lower (Nat.le_trans HI2.out.bw.size HB.out.size))
              (by
                have hk:=Hk1.out
                rw [←Hnn.out] at hk
                exact ⟨hk.1,fun h=>hk.2 (by simp only [zaB] at h;exact h)⟩)
            have HP:=Lib.hid hP
            have HB5:=Lib.hid ((HB.out.trans (Hb2.out.mono HB.out.size)).trans (ht5.below (Nat.le_trans HB.out.size hsb) (fun b hb=>HOB.out b hb)))
            have HOB5:Hid (∀b,(Value.slice (some ⟨g5,0,none⟩) (j+1) cap5).ownBlock=some b→W'.heap.size≤b):=Lib.hid (fun b hb=>by
              have h':=Option.some.inj hb
              simp only at h'
              rcases hg5 with h5 | h5
              · exact h' ▸ HOB.out _ h5
              · have:=HB.out.size;omega)
            clear hP ho5 ht5 hg5 hlA hownlt hxa hxc hxl e
            go_wp2
            go_roundw
            case rel=>exact ⟨j+1,_,_,_,_,_,by go_num,by omega,HP,HB5,HOB5⟩
            case measure=>simp [intOf];omega
          · obtain rfl:j=i:=by omega
            have d1:decide ((j:Int)<(j:Int))=false:=by simp
            have hz:wr.heap[N]? =some (.deferred (some [])):=(HB.out.block N (zab HD.out)).trans HD.out
            have HZ:=Lib.hid hz
            have hNW:=zab HD.out
            have hWN:W.heap.size≤N:=by omega
            clear hz
            go_wp2
            refine ⟨by simp,.inl ⟨_,_,rfl,run_takeDeferred HZ.out,?_⟩⟩
            refine ⟨_,results_tmp rfl _ _ _,_,rfl,⟨gg,ga,ca,gc,cc,?_⟩,?_⟩
            · exact HBs.out.keep (Turns.put wr N (.deferred none) rfl) (fun h=>by have:=HOB.out N h;omega) HZ.out
            · exact (HI2.out.bw.trans (HB.out.mono HI2.out.bw.size)).trans ((Turns.put wr N (.deferred none) (T:=fun b=>b=N) rfl).below (Nat.le_trans HI2.out.bw.size HB.out.size) (fun b hb=>by omega))
end
end Go.Proofs.YtedakhgaghfogaaGreat
