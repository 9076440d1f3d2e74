/- Several texts in one, each with its own head. -/
import Derived.Test.YtedakhgaghfogaaGreatQs6
namespace Go.Proofs.YtedakhgaghfogaaGreat
section
open Go.RowKit
def zah (f:Nat→Nat) (n:Nat):List Value:=(List.range n).map fun i=>u8v (f i)
theorem zbp (f:Nat→Nat) (n:Nat):(zah f n).length=n:=by simp [zah]
theorem zbE (f:Nat→Nat) {n s:Nat} (h:s<n):(zah f n)[s]? =some (u8v (f s)):=by
 unfold zah
 rw [List.getElem?_map,List.getElem?_eq_getElem (by simpa using h)]
 simp
theorem zhr {f g:Nat→Nat} {n:Nat} (h:∀i,i<n→f i=g i):zah f n=zah g n:=by
 unfold zah
 refine List.map_congr_left fun i hi=>?_
 rw [h i (List.mem_range.1 hi)]
theorem zeY (f:Nat→Nat) {n s:Nat} (x:Nat):(zah f n).set s (u8v x)=zah (fun i=>if i=s then x else f i) n:=by
 refine List.ext_getElem? (fun k=>?_)
 rw [List.getElem?_set,zbp]
 by_cases hk:k<n
 ·rw [zbE (fun i=>if i=s then x else f i) hk,zbE f hk]
  by_cases h:s=k
  ·subst h;simp [hk]
  ·simp [h,Ne.symm h]
 ·rw [List.getElem?_eq_none (by rw [zbp];omega),List.getElem?_eq_none (by rw [zbp];omega)]
  by_cases h:s=k
  ·subst h;simp [hk]
  ·simp [h]
def LensAt (w:World) (base g n c:Nat) (f:Nat→Nat):Prop:=w.ownsRow base 5 1 (.slice (some ⟨g,0,none⟩) n c) n (zah f n)
theorem LensAt.congr {w:World} {base g n c:Nat} {f f':Nat→Nat} (h:LensAt w base g n c f) (e:∀i,i<n→f i=f' i):LensAt w base g n c f':=by
 unfold LensAt at h ⊢
 rw [←zhr e];exact h
set_option maxHeartbeats 1000000 in
theorem zk2 (N:Nat→Prop) (base g n c b s cs:Nat) (f:Nat→Nat) (w:World) (ht:TrAt w N b (.leaf s cs)) (hL:LensAt w base g n c f) (hs:s<n) (hf:f s+1≤255) (hg:¬N g):
  Calls Tryz.prog 195 #[ptrV b,.slice (some ⟨g,0,none⟩) n c] w fun e w'=>e= .returned (.tuple #[])∧LensAt w' base g n c (fun i=>f i+(Tr.leaf s cs).cnt i)∧Turns (fun i=>i=g) w w':=by
 unfold TrAt at ht
 have hb:=ht.2
 have c1:w.cell? ⟨b,1,none⟩=some (.int .i64 (s:Int)):=by simp [World.cell?,hb]
 have c2:w.cell? ⟨b,2,none⟩=some (.slice none 0 0):=by simp [World.cell?,hb]
 have cl:w.cell? ⟨g,s,none⟩=some (.int .u8 (f s:Int)):=by
  rw [World.ownsRow.cellAt hL s (by omega),zbE f hs];rfl
 have fl:w.frozen? ⟨g,s,none⟩=false:=World.ownsRow.frozenAt hL s
 have hst:=(World.ownsRow.stored hL s (u8v (f s+1)))
 have HR:Hid (LensAt (w.setCell ⟨g,s,none⟩ (.int .u8 ((f s:Int)+1))) base g n c (fun i=>f i+(Tr.leaf s cs).cnt i)):=Lib.hid (by
  have h1:=hst.1
  rw [zeY] at h1
  refine LensAt.congr (f:=fun i=>if i=s then f s+1 else f i) h1 (fun i _=>?_)
  by_cases e:i=s
  ·subst e;simp [Tr.cnt]
  ·simp [Tr.cnt,e])
 have HT:Hid (Turns (fun i=>i=g) w (w.setCell ⟨g,s,none⟩ (.int .u8 ((f s:Int)+1)))):=Lib.hid ((Turns.refl _ w).set (T:=fun i=>i=g) (p:=⟨g,s,none⟩) rfl _)
 obtain ⟨x,hx⟩:∃x,f s=x:=⟨_,rfl⟩
 rw [hx] at cl HR HT hf
 have c3:(w.setCell ⟨g,s,none⟩ (.int .u8 ((x:Int)+1))).cell? ⟨b,2,none⟩=some (.slice none 0 0):=HT.out.cell c2 (fun e=>hg (e ▸ ht.1))
 have hn1:(s:Int)<(n:Int):=by omega
 have hn0:(0:Int)≤(s:Int):=by omega
 unfold ptrV
 clear ht hL hst hb hx
 go_enter Tryz.func195,Tryz.ntmps195
 go_wp2
 obtain ⟨W,hW⟩:∃W,w.setCell ⟨g,s,none⟩ (.int .u8 ((x:Int)+1))=W:=⟨_,rfl⟩
 rw [hW] at HR HT c3 ⊢
 clear hW
 go_loop [26] (fun kv=>kv= .int .i64 0) (fun _=>0)
 case atStart=>rfl
 case round=>
  obtain rfl:=hrel
  go_wp2
  go_end0
  exact ⟨rfl,HR.out,HT.out⟩
def zb4 (f:Nat→Nat) (x y:Tr) (k:Nat):Nat→Nat:=fun i=>f i+(if 1≤k then x.cnt i else 0)+(if 2≤k then y.cnt i else 0)
structure CntInv (base g n c:Nat) (f:Nat→Nat) (x y:Tr) (w wr:World) (k:Nat):Prop where
 lens:LensAt wr base g n c (zb4 f x y k)
 turns:Turns (fun i=>i=g) w wr
theorem zaa {w:World} {b i:Nat} {cs:Array Value} {t:TypeId} {v:Value} (h:w.heap[b]? =some (.cells cs t)) (hi:cs[i]? =some v):w.cell? ⟨b,i,none⟩=some v:=by
 simp [World.cell?,h,hi]
set_option maxHeartbeats 2000000 in
theorem zd8 (N:Nat→Prop) (base g n c:Nat) (hg:¬N g) (fr:Nat→Nat):∀(t:Tr) (b:Nat) (f:Nat→Nat) (w:World),TrAt w N b t→LensAt w base g n c f→t.Fits n fr→(∀i,i<n→f i+t.cnt i≤255)→
  Calls Tryz.prog 195 #[ptrV b,.slice (some ⟨g,0,none⟩) n c] w fun e w'=>e= .returned (.tuple #[])∧LensAt w' base g n c (fun i=>f i+t.cnt i)∧Turns (fun i=>i=g) w w'
 | .leaf s cs,b,f,w,ht,hL,hF,hf=>by
  have h1:=hf s hF.1
  rw [Tr.cnt,if_pos rfl] at h1
  exact zk2 N base g n c b s cs f w ht hL hF.1 h1 hg
 | .node x y,b,f,w,ht,hL,hF,hf=>by
  have ih1:=Lib.hid (zd8 N base g n c hg fr x)
  have ih2:=Lib.hid (zd8 N base g n c hg fr y)
  unfold TrAt at ht
  obtain ⟨hb,q,bx,by',hq,hh,hhq,hx,hy⟩:=ht
  have c2:w.cell? ⟨b,2,none⟩=some (.slice (some ⟨q,0,none⟩) 2 2):=zaa hh rfl
  have d0:w.cell? ⟨q,0,none⟩=some (ptrV bx):=zaa hhq rfl
  have d1:w.cell? ⟨q,1,none⟩=some (ptrV by'):=zaa hhq rfl
  have HX:=Lib.hid hx
  have HY:=Lib.hid hy
  have HL:=Lib.hid hL
  have HF:=Lib.hid hF
  have Hf:=Lib.hid hf
  have Hq:=Lib.hid (fun (e:q=g)=>hg (e ▸ hq))
  unfold ptrV at d0 d1
  unfold ptrV
  clear hb hh hhq hx hy hL hF hf hq
  go_enter Tryz.func195,Tryz.ntmps195
  go_wp2
  go_loopw [26] (fun kv wr=> ∃(k:Nat),kv= .int .i64 (k:Int)∧k≤2∧Hid (CntInv base g n c f x y w wr k)) (fun kv _=>2 - (intOf kv).toNat)
  case atStart=>exact ⟨0,rfl,by omega,Lib.hid ⟨HL.out.congr (fun i _=>by simp [zb4]),Turns.refl _ _⟩⟩
  case round=>
   obtain ⟨k,rfl,hk,HI⟩:=hrel
   have hcase:k=0∨k=1∨k=2:=by omega
   rcases hcase with rfl | rfl | rfl
   ·have e0:=HI.out.turns.cell d0 Hq.out
    have Hp:Hid (TrAt wr N bx x∧x.Fits n fr∧(∀i,i<n→zb4 f x y 0 i+x.cnt i≤255)):=Lib.hid ⟨HX.out.keep (fun i hi hN=>⟨HI.out.turns.block i hi (fun e=>hg (e ▸ hN)),hN⟩),HF.out.1,fun i hi=>by
     have:=Hf.out i hi
     simp [Tr.cnt,zb4] at this ⊢;omega⟩
    go_wp2_with fail
    refine Calls.mono (ih1.out bx (zb4 f x y 0) wr Hp.out.1 HI.out.lens Hp.out.2.1 Hp.out.2.2) ?_
    rintro e w1 ⟨rfl,h1,h2⟩
    have HI1:Hid (CntInv base g n c f x y w w1 1):=Lib.hid ⟨h1.congr (fun i _=>by simp [zb4]),HI.out.turns.trans h2⟩
    clear h1 h2
    go_wp2
    go_roundw
    case rel=>exact ⟨1,by go_num,by omega,HI1⟩
    case measure=>simp [intOf]
   ·have e0:=HI.out.turns.cell d1 Hq.out
    have Hp:Hid (TrAt wr N by' y∧y.Fits n fr∧(∀i,i<n→zb4 f x y 1 i+y.cnt i≤255)):=Lib.hid ⟨HY.out.keep (fun i hi hN=>⟨HI.out.turns.block i hi (fun e=>hg (e ▸ hN)),hN⟩),HF.out.2,fun i hi=>by
     have:=Hf.out i hi
     simp [Tr.cnt,zb4] at this ⊢;omega⟩
    go_wp2_with fail
    refine Calls.mono (ih2.out by' (zb4 f x y 1) wr Hp.out.1 HI.out.lens Hp.out.2.1 Hp.out.2.2) ?_
    rintro e w1 ⟨rfl,h1,h2⟩
    have HI1:Hid (CntInv base g n c f x y w w1 2):=Lib.hid ⟨h1.congr (fun i _=>by simp [zb4]),HI.out.turns.trans h2⟩
    clear h1 h2
    go_wp2
    go_roundw
    case rel=>exact ⟨2,by go_num,by omega,HI1⟩
    case measure=>simp [intOf]
   ·go_wp2
    go_end0
    exact ⟨rfl,HI.out.lens.congr (fun i _=>by simp only [zb4,Tr.cnt];simp;omega),HI.out.turns⟩
end
section
open Go.RowKit
theorem zg1 (i:Nat):∀l:List Tr,l.length%2=0→cntL i (pairT l)=cntL i l
 | [],_=>by simp [pairT]
 | [_],h=>by simp at h
 | a::b::r,h=>by
  have:=zg1 i r (by simp only [List.length_cons] at h;omega)
  simp only [cntL,pairT,List.map_cons,List.sum_cons,Tr.cnt] at this ⊢
  omega
theorem zfn (f:Nat→Nat):∀{k i:Nat},i<k→0<f i→i∈syms f k
 | 0,i,h,_=>by omega
 | k+1,i,h,h0=>by
  unfold syms
  rcases Nat.lt_or_ge i k with h1 | h1
  ·exact List.mem_append_left _ (zfn f h1 h0)
  ·obtain rfl:i=k:=by omega
   rw [if_pos h0]
   exact List.mem_append_right _ (by simp)
theorem zdl (f:Nat→Nat):∀k,(syms f k).length=many k f
 | 0=>rfl
 | k+1=>by
  unfold syms many
  rw [List.length_append,zdl f k,sm]
  unfold many
  by_cases h:0<f k<;>simp [h]
structure LensOk (fs:List Int) (L:Nat) (g:Nat→Nat):Prop where
 le:∀i,i<fs.length→g i≤L∧(0<g i↔0<fq fs i)
 one:many fs.length (fq fs)=1→∀i,i<fs.length→g i≤1
 code:2≤many fs.length (fq fs)→room fs.length L g=2^L
 least:2≤many fs.length (fq fs)→∃P,RowN (((List.range fs.length).map (fq fs)).filter fun c=>decide (0<c)) L P∧2*many fs.length (fq fs) - 2≤P.length∧cost fs.length (fq fs) g=(P.take (2*many fs.length (fq fs) - 2)).sum
theorem zpN {fs:List Int} {L:Nat} {P:List Tr} (hP:RowT (leaves (fq fs) fs.length) L P) (hm:2≤many fs.length (fq fs)) (hL:many fs.length (fq fs)≤2^L):
  LensOk fs L (fun i=>cntL i ((pairT P).take (many fs.length (fq fs) - 1)))∧many fs.length (fq fs) - 1≤(pairT P).length:=by
 obtain ⟨h1,h2,h3,h4⟩:=RowT.code (zcQ (fq fs) fs.length) (zj5 _ _) (fun t ht=>⟨(za8 _ _ t ht).1,(za8 _ _ t ht).2.1⟩) (fun i _ h0 hi=>by have:=(zdq _ _ i hi).2;omega) (zck _ _) hP hm hL
 have e:∀i,cntL i ((pairT P).take (many fs.length (fq fs) - 1))=cntL i (P.take (2*many fs.length (fq fs) - 2)):=fun i=>by
  rw [zfD,zg1 i _ (by rw [List.length_take];omega)]
  congr 2
  omega
 have e':(fun i=>cntL i ((pairT P).take (many fs.length (fq fs) - 1)))=fun i=>cntL i (P.take (2*many fs.length (fq fs) - 2)):=funext e
 rw [e']
 have hN:=hP.nums
 rw [zck] at hN
 exact ⟨⟨h2,(fun h=>by omega),fun _=>h3,fun _=>⟨_,hN,by rw [List.length_map];exact h1,h4⟩⟩,by rw [zd7];omega⟩
theorem zog {fs:List Int} {L:Nat} (h:mayB fs (L:Int)=true):1≤L∧L≤15∧fs.length≤320∧∀f∈fs,0≤f∧f≤1099511627776:=by
 unfold mayB at h
 rw [Bool.and_eq_true,decide_eq_true_iff,List.all_eq_true] at h
 obtain ⟨⟨h1,h2,h3⟩,h4⟩:=h
 refine ⟨by omega,by omega,h3,fun f hf=>?_⟩
 have:=h4 f hf
 unfold okF at this
 exact of_decide_eq_true this
theorem zrl {N:Nat→Prop} {fs:List Int} {w w':World} {v:Value} {l:List (Nat×Tr)} (h:SgInv N (fq fs) w w' fs.length v l):l.length=many fs.length (fq fs):=by
 have:=congrArg List.length h.eq
 rw [List.length_map,zfG] at this
 exact this
theorem zoq {L:Nat} (h:L≤15):∃q:Nat,2^L=q∧wrap64 ((2:Int)^L)=(q:Int):=by
 refine ⟨2^L,rfl,?_⟩
 have h1:2^L≤2^15:=Nat.pow_le_pow_right (by decide) h
 have h2:(2:Nat)^15=32768:=rfl
 obtain ⟨q,hq⟩:∃q,2^L=q:=⟨_,rfl⟩
 rw [zii,hq]
 exact IntWalk.wrap64_in (q:Int) (by omega)
theorem zqe (n:Nat):madeCells #[Value.int .u8 0] n=(zah (fun _=>0) n).toArray:=by
 refine Array.ext (by simp [zah,size_madeCells]) (fun i h1 h2=>?_)
 simp [madeCells,zah,Nat.mod_one,u8v]
theorem zkg (n:Nat) (hn:n≤1048576) (w:World):(Instr.makeSlice 28 (.int .i64 (n:Int)) (.int .i64 (n:Int))).run Tryz.prog w= .ok (.slice (some ⟨w.heap.size,0,none⟩) n n) (w.alloc (.cells (zah (fun _=>0) n).toArray 5)):=by
 obtain ⟨i,hi,hz,hs,hb⟩:=info_parts zaw
 have h:=run_make (P:=Tryz.prog) w 28 5 i _ Tryz.underlying28 hi hz .i64 .i64 (n:Int) (n:Int) (by omega) (Int.le_refl _) (by rw [hb];omega) (by omega)
 rw [h]
 simp only [Int.toNat_natCast,hs,Nat.mul_one]
 rw [show (Value.int IntKind.u8 0).cells=#[Value.int .u8 0] from rfl,zqe]
theorem zoW (n:Nat) (hn:n≤1048576) (w:World):LensAt (w.alloc (.cells (zah (fun _=>0) n).toArray 5)) w.heap.size w.heap.size n n (fun _=>0):=by
 refine ⟨by rw [zbp];omega,.inr ⟨w.heap.size,n,_,rfl,Nat.le_refl _,World.alloc_heap_new _ _,Nat.le_refl _,by simp only [maxLen];omega,by simp [zbp],?_⟩⟩
 rw [List.take_of_length_le (by simp [zbp])]
structure LenInv (base g n:Nat) (ts:List Tr) (w wr:World) (k:Nat):Prop where
 lens:LensAt wr base g n n (fun i=>cntL i (ts.take k))
 turns:Turns (fun i=>i=g) w wr
theorem ziE {fs:List Int} {L:Nat} {P:List Tr} (hP:RowT (leaves (fq fs) fs.length) L P) (hL:many fs.length (fq fs)≤2^L) (h1:many fs.length (fq fs)≠1):
  LensOk fs L (fun i=>cntL i ((pairT P).take (many fs.length (fq fs) - 1)))∧many fs.length (fq fs) - 1≤(pairT P).length:=by
 by_cases h2:2≤many fs.length (fq fs)
 ·exact zpN hP h2 hL
 ·have h0:many fs.length (fq fs)=0:=by omega
  have hs:syms (fq fs) fs.length=[]:=List.eq_nil_of_length_eq_zero (by rw [zdl,h0])
  refine ⟨⟨fun i hi=>?_,(fun h=>by omega),(fun h=>by omega),(fun h=>by omega)⟩,by omega⟩
  have e:cntL i ((pairT P).take (many fs.length (fq fs) - 1))=0:=by rw [h0];simp [cntL]
  show cntL i ((pairT P).take (many fs.length (fq fs) - 1))≤L∧(0<cntL i ((pairT P).take (many fs.length (fq fs) - 1))↔0<fq fs i)
  rw [e]
  refine ⟨Nat.zero_le _,fun h=>by omega,fun h=>?_⟩
  have:=zfn (fq fs) hi h
  rw [hs] at this
  cases this
end
section
open Go.RowKit
def enc8 (b:Nat):List Value:=[u8v b]
theorem zca (b:Nat):(enc8 b).length=1:=rfl
theorem zdr:∀l:List Nat,l.flatMap enc8=l.map u8v
 | []=>rfl
 | b::r=>by rw [List.flatMap_cons,zdr r];rfl
theorem one8 (l:List Nat):∀u∈l.map u8v,u.oneCell'=true:=by
 intro u hu
 obtain ⟨b,_,rfl⟩:=List.mem_map.1 hu
 rfl
abbrev Rw8 (w:World) (v:Value) (l:List Nat):Prop:=RwG enc8 1 w v l
theorem Rw8.own {w:World} {base:Nat} {v:Value} {l:List Nat} {n:Nat} (h:w.ownsRow base 5 1 v n (l.map u8v)) (hn:n=l.length):Rw8 w v l:=by
 subst hn
 rw [←zdr] at h
 exact RwG.owned zca h
def Own8 (base:Nat) (l:List Nat) (w w':World) (v:Value):Prop:=w'.ownsRow base 5 1 v l.length (l.map u8v)∧Below w.heap.size w w'
set_option maxHeartbeats 1000000 in
theorem zg0 (v:Value) (l:List Nat) (w:World) (hv:Rw8 w v l) (hlen:l.length≤1073741824):
  Calls Tryz.prog 137 #[v] w fun e w'=> ∃v',e= .returned v'∧Own8 w.heap.size l w w' v':=by
 obtain ⟨p,c,rfl,h1,h2,hsrc⟩:=hv.src zca (by decide)
 rw [zdr] at hsrc
 obtain ⟨i0,hi0,hz0,hz1,hz2⟩:=info_parts zaw
 have hb:∀(a:Option Addr) (n c n' c':Nat) (w:World),(binOp .eql 28 (.slice a n c) (.slice none n' c')).run Tryz.prog w= .ok (.bool a.isNone) w:=fun a n c n' c' w=>Lib.run_eql_slice_nil (P:=Tryz.prog) w 28 5 a n c n' c' Tryz.underlying28
 rcases hsrc with ⟨rfl,h0,rfl⟩ | ⟨ad,rfl,hc⟩
 ·have hl:l=[]:=List.eq_nil_of_length_eq_zero h0
  subst hl
  go_enter Tryz.func137,Tryz.ntmps137
  go_wp2
  go_ret
  exact ⟨_,rfl,World.ownsRow_nil _ _ _ _,Below.refl _ _⟩
 ·have hc':∀j u,(l.map u8v)[j]? =some u→(w.alloc (.cells #[] 5)).cell? (ad.add j)=some u:=fun j u hu=>cell_later (Below.al1 w _) (hc j u hu)
  have Hc:=Lib.hid hc'
  clear hc hc' hv h1 h2
  go_enter Tryz.func137,Tryz.ntmps137
  go_wp2_with (at_builtin;refine zai _ rfl (.tmp 5) (.tmp 6) 28 rfl w.heap.size 5 i0 _ 1 1 Tryz.underlying28 hi0 hz0 hz1 hz2 rfl (by decide) (.slice (some ⟨w.heap.size,0,none⟩) 0 0) 0 [] rfl (World.ownsRow_lit w #[] 0 (Nat.le_refl _) (Nat.zero_le _) rfl) (some ad) l.length c (l.map u8v) rfl (by simp) (.inr ⟨ad,rfl,Hc.out⟩) (one8 l) ?c3 ?c4 ?c5 ?_)
  case c3=>simp only [maxLen];omega
  case c4=>omega
  case c5=>simp
  intro v' w1 ho hg _
  have Ho:Hid (w1.ownsRow w.heap.size 5 1 v' l.length (l.map u8v)):=Lib.hid (by simpa using ho)
  have hb1:Below w.heap.size w w1:=(Below.al1 w _).trans ((Turns.of_grown (T:=fun b=>b=w.heap.size) hg (fun i h=>by cases h;rfl)).below (by simp) (fun i h=>by omega))
  clear ho hg
  go_wp2
  go_ret
  exact ⟨_,rfl,Ho.out,hb1⟩
set_option maxHeartbeats 1000000 in
theorem zlU (base B N n v k:Nat) (sv:Value) (w:World) (h:Wr w base B sv N n) (hv:v<2^k) (hk:k≤24) (hmax:n+k≤8388608) (hbase:base≤w.heap.size):
  Calls Tryz.prog 120 #[.pointer (some ⟨B,0,none⟩),.int .u32 (v:Int),.int .i64 (k:Int)] w fun e w'=>e= .returned (.int .i64 0)∧WrTo base B sv (N+v*2^n) (n+k) w w':=by
 have hc1:=h.c1
 have H:=Lib.hid h
 have hv32:v<4294967296:=by have:=zfa hk;omega
 have Hm:=Lib.hid (Nat.mod_eq_of_lt hv)
 clear h
 go_enter Tryz.func120,Tryz.ntmps120
 go_wp2_with fail
 refine Calls.mono (zdB _ _ (by omega) (by omega)) ?_
 rintro e w1 ⟨rfl,rfl⟩
 go_wp2_with fail
 refine Calls.mono (zgC v k _ hv32 hk) ?_
 rintro e w1 ⟨rfl,rfl⟩
 rw [Hm.out]
 have hlt:¬(8388608 - (n:Int)<(k:Int)):=by omega
 go_wp2_with fail
 refine Calls.mono (zjZ base B N n v k sv _ H.out hv hk hmax hbase) ?_
 rintro e w1 ⟨rfl,hto⟩
 have Hto:=Lib.hid hto
 clear hto
 go_wp2
 go_ret
 exact ⟨rfl,Hto.out⟩
def zrD (n:Nat):Nat:=n+(8 - n%8)%8
set_option maxHeartbeats 1000000 in
theorem zkV (base B N n:Nat) (sv:Value) (w:World) (h:Wr w base B sv N n) (hn:n≤8388608) (hbase:base≤w.heap.size):
  Calls Tryz.prog 172 #[.pointer (some ⟨B,0,none⟩)] w fun e w'=>e= .returned (.int .i64 0)∧WrTo base B sv N (zrD n) w w':=by
 have hc1:=h.c1
 have H:=Lib.hid h
 clear h
 go_enter Tryz.func172,Tryz.ntmps172
 go_wp2_with fail
 refine Calls.mono (zeQ n _ (by omega)) ?_
 rintro e w1 ⟨rfl,rfl⟩
 go_wp2_with fail
 refine Calls.mono (zjZ base B N n 0 ((8 - n%8)%8) sv _ H.out (zbz _) (by omega) (by omega) hbase) ?_
 rintro e w1 ⟨rfl,hto⟩
 rw [Nat.zero_mul,Nat.add_zero] at hto
 have Hto:=Lib.hid hto
 clear hto
 go_wp2
 go_ret
 exact ⟨rfl,Hto.out⟩
theorem zdL (base B N n:Nat) (sv:Value) (w:World) (h:Wr w base B sv N n):
  Calls Tryz.prog 145 #[.pointer (some ⟨B,0,none⟩)] w fun e w'=>e= .returned (.int .i64 (n:Int))∧w'=w:=by
 have hc1:=h.c1
 clear h
 go_enter Tryz.func145,Tryz.ntmps145
 go_wp2
 go_ret
 exact ⟨rfl,rfl⟩
theorem zf7 (base B N n:Nat) (sv:Value) (w:World) (h:Wr w base B sv N n) (hn:n≤8388608):
  Calls Tryz.prog 121 #[.pointer (some ⟨B,0,none⟩)] w fun e w'=> ∃v',e= .returned v'∧Own8 w.heap.size (byts N ((n+7)/8)) w w' v':=by
 have hc0:=h.c0
 have Hr:=Lib.hid (Rw8.own h.own (zaH _ _).symm)
 obtain ⟨sp,sc,rfl⟩:=zac h.own
 clear h
 go_enter Tryz.func121,Tryz.ntmps121
 go_wp2_with fail
 refine Calls.mono (zg0 _ _ _ Hr.out (by rw [zaH];omega)) ?_
 rintro e w1 ⟨v',rfl,ho⟩
 have Ho:=Lib.hid ho
 obtain ⟨p',c',rfl⟩:=zac ho.1
 clear ho
 go_wp2
 go_ret
 exact ⟨_,rfl,Ho.out⟩
end
section
open Go.RowKit
theorem Rw8.cells {W:World} {v:Value} {l:List Nat} (h:Rw8 W v l):∃p c,v= .slice p l.length c∧l.length≤c∧c≤maxLen∧∀i (hi:i<l.length),∃g off,p=some ⟨g,off,none⟩∧W.cell? ⟨g,off+i,none⟩=some (.int .u8 (l[i]:Int)):=by
 obtain ⟨⟨p,c,e,h1,h2,h3⟩,-⟩:=h
 refine ⟨p,c,e,h1,h2,fun i hi=>?_⟩
 rcases h3 with ⟨-,rfl⟩ | ⟨g,off,rfl,-,h4⟩
 ·simp at hi
 ·have:=h4 i l[i] (List.getElem?_eq_getElem hi) 0 _ rfl
  rw [Nat.mul_one,Nat.add_zero] at this
  exact ⟨g,off,rfl,this⟩
end
section
open Go.RowKit
def lq (ls:List Nat) (i:Nat):Nat:=ls.getD i 0
theorem zdn {ls:List Nat} {k:Nat} (h:k<ls.length):ls[k]=lq ls k:=by
 unfold lq
 rw [List.getD_eq_getElem?_getD,List.getElem?_eq_getElem h];rfl
theorem RowAt.byte {W:World} {p:Option Addr} {xs:List Nat} (h:RowAt enc8 1 W p xs) {k:Nat} (hk:k<xs.length):∃b off,p=some ⟨b,off,none⟩∧W.cell? ⟨b,off+k,none⟩=some (u8v (lq xs k)):=by
 rcases h with ⟨-,rfl⟩ | ⟨b,off,rfl,-,h⟩
 ·simp at hk
 ·refine ⟨b,off,rfl,?_⟩
  have:=h k xs[k] (List.getElem?_eq_getElem hk) 0 _ rfl
  rw [zdn hk] at this
  simpa using this
def chk (ls:List Nat):Int:=
 if 320<ls.length∨∃i,i<ls.length∧15<lq ls i then 1
 else if many ls.length (lq ls)=0∨room ls.length 15 (lq ls)=32768∨(many ls.length (lq ls)=1∧room ls.length 15 (lq ls)=16384) then 0 else 60
theorem zhQ {ls:List Nat} (h:320<ls.length):chk ls=1:=by unfold chk;rw [if_pos (.inl h)]
theorem ziB {ls:List Nat} {i:Nat} (h:i<ls.length) (h2:15<lq ls i):chk ls=1:=by unfold chk;rw [if_pos (.inr ⟨i,h,h2⟩)]
theorem zdE {ls:List Nat} (h:ls.length≤320) (h2:∀i,i<ls.length→lq ls i≤15):chk ls=if many ls.length (lq ls)=0∨room ls.length 15 (lq ls)=32768∨(many ls.length (lq ls)=1∧room ls.length 15 (lq ls)=16384) then 0 else 60:=by
 unfold chk
 rw [if_neg]
 rintro (h3 | ⟨i,h3,h4⟩)
 ·omega
 ·have:=h2 i h3;omega
theorem zbv (f:Nat→Nat) (k:Nat):many (k+1) f=many k f+(if 0<f k then 1 else 0):=rfl
theorem zaX (f:Nat→Nat) (L k:Nat):room (k+1) L f=room k L f+(if 0<f k then 2^(L - f k) else 0):=rfl
theorem zgx (f:Nat→Nat):∀k,many k f≤k
 | 0=>Nat.le_refl _
 | k+1=>by
  have:=zgx f k
  rw [zbv];split<;>omega
theorem room_le (f:Nat→Nat) (L:Nat):∀k,room k L f≤k*2^L
 | 0=>by simp [room,sm]
 | k+1=>by
  have h1:=room_le f L k
  have h2:2^(L - f k)≤2^L:=Nat.pow_le_pow_right (by decide) (by omega)
  rw [zaX,Nat.add_mul];split<;>omega
theorem zrq {n:Nat} (h:n≤15):(32768:Int)/2^n=((2^(15 - n):Nat):Int):=by
 have e:(32768:Nat)=2^(15 - n)*2^n:=by rw [←Nat.pow_add,show 15 - n+n=15 by omega]
 have:(32768:Nat)/2^n=2^(15 - n):=by
  rw [e];exact Nat.mul_div_cancel _ (zcd n)
 rw [←this]
 simp
set_option maxRecDepth 20000 in
set_option maxHeartbeats 1000000 in
theorem zdX (ls:List Nat) (v:Value) (w:World) (hv:Row enc8 1 w v ls):
  Calls Tryz.prog 207 #[v] w fun e w'=>e= .returned (.int .i64 (chk ls))∧w'=w:=by
 have hlen:=hv.len
 obtain ⟨p,c,rfl,-,-,hrow⟩:=hv
 have Hrow:=Lib.hid hrow
 obtain ⟨r,hr⟩:∃r,chk ls=r:=⟨_,rfl⟩
 rw [hr]
 have Hr:=Lib.hid hr
 clear hrow hr
 by_cases h320:320<ls.length
 ·have e0:(320:Int)<ls.length:=by omega
  obtain rfl:r=1:=by rw [←Hr.out];exact zhQ h320
  go_enter Tryz.func207,Tryz.ntmps207
  go_wp2
  go_ret
  exact ⟨rfl,rfl⟩
 ·have e0:¬(320:Int)<ls.length:=by omega
  go_enter Tryz.func207,Tryz.ntmps207
  go_wp2
  go_loop [3,4,12] (fun cv sv kv=> ∃(k m s:Nat),cv= .int .i64 (m:Int)∧sv= .int .i64 (s:Int)∧kv= .int .i64 (k:Int)∧k≤ls.length∧m≤320∧s≤320*32768∧Hid (m=many k (lq ls)∧s=room k 15 (lq ls)∧∀i,i<k→lq ls i≤15)) (fun _ _ kv=>ls.length - (intOf kv).toNat)
  case atStart=>exact ⟨0,0,0,rfl,rfl,rfl,Nat.zero_le _,by omega,by omega,Lib.hid ⟨rfl,rfl,fun i hi=>by omega⟩⟩
  case round=>
   obtain ⟨k,m,s,rfl,rfl,rfl,hk,hm,hs,HI⟩:=hrel
   by_cases hlt:k<ls.length
   ·obtain ⟨g,off,rfl,hcell⟩:=Hrow.out.byte hlt
    obtain ⟨x,hx⟩:∃x,lq ls k=x:=⟨_,rfl⟩
    rw [hx] at hcell
    unfold u8v at hcell
    have k0:(0:Int)≤(k:Int):=by omega
    have k1:(k:Int)<(ls.length:Int):=by omega
    have Hx:=Lib.hid hx
    clear hx
    by_cases hx15:15<x
    ·obtain rfl:r=1:=by rw [←Hr.out];exact ziB hlt (by rw [Hx.out];exact hx15)
     have e1:decide (15<x)=true:=by simpa using hx15
     go_wp2
     go_ret
     exact ⟨rfl,rfl⟩
    ·have e1:decide (15<x)=false:=by simpa using hx15
     by_cases hx0:0<x
     ·have e2:decide (0<x)=true:=by simpa using hx0
      have hsh:=zrq (n:=x) (by omega)
      obtain ⟨y,hy⟩:∃y,2^(15 - x)=y:=⟨_,rfl⟩
      rw [hy] at hsh
      have HI1:Hid (m+1=many (k+1) (lq ls)∧s+y=room (k+1) 15 (lq ls)∧∀i,i<k+1→lq ls i≤15):=Lib.hid (by
       obtain ⟨a1,a2,a3⟩:=HI.out
       rw [zbv,zaX,Hx.out,if_pos hx0,if_pos hx0,←a1,←a2,hy]
       refine ⟨rfl,rfl,fun i hi=>?_⟩
       rcases Nat.lt_or_ge i k with h | h
       ·exact a3 i h
       ·obtain rfl:i=k:=by omega
        rw [Hx.out];omega)
      have hb1:m+1≤320:=by rw [HI1.out.1];have:=zgx (lq ls) (k+1);omega
      have hb2:s+y≤320*32768:=by
       rw [HI1.out.2.1]
       have h5:=room_le (lq ls) 15 (k+1)
       have h6:(2:Nat)^15=32768:=rfl
       rw [h6] at h5
       exact Nat.le_trans h5 (Nat.mul_le_mul_right _ (by omega))
      clear hy
      go_wp2
      go_round
      case rel=>exact ⟨k+1,m+1,s+y,by go_num,by go_num,by go_num,by omega,hb1,hb2,HI1⟩
      case measure=>simp [intOf];omega
     ·have e2:decide (0<x)=false:=by simpa using hx0
      have HI1:Hid (m=many (k+1) (lq ls)∧s=room (k+1) 15 (lq ls)∧∀i,i<k+1→lq ls i≤15):=Lib.hid (by
       obtain ⟨a1,a2,a3⟩:=HI.out
       rw [zbv,zaX,Hx.out,if_neg hx0,if_neg hx0,←a1,←a2]
       refine ⟨rfl,rfl,fun i hi=>?_⟩
       rcases Nat.lt_or_ge i k with h | h
       ·exact a3 i h
       ·obtain rfl:i=k:=by omega
        rw [Hx.out];omega)
      go_wp2
      go_round
      case rel=>exact ⟨k+1,m,s,rfl,rfl,by go_num,by omega,hm,hs,HI1⟩
      case measure=>simp [intOf];omega
   ·obtain rfl:k=ls.length:=by omega
    obtain ⟨a1,a2,a3⟩:=HI.out
    have hr:=Hr.out
    rw [zdE (by omega) a3,←a1,←a2] at hr
    clear a1 a2 a3
    by_cases m0:m=0
    ·obtain rfl:r=0:=by rw [←hr,if_pos (.inl m0)]
     subst m0
     go_wp2
     go_ret
     exact ⟨rfl,rfl⟩
    ·have q0:((m:Int)==0)=false:=by simp;omega
     by_cases s0:s=32768
     ·obtain rfl:r=0:=by rw [←hr,if_pos (.inr (.inl s0))]
      subst s0
      go_wp2
      go_ret
      exact ⟨rfl,rfl⟩
     ·have q1:((s:Int)==32768)=false:=by simp;omega
      by_cases m1:m=1
      ·subst m1
       by_cases s1:s=16384
       ·obtain rfl:r=0:=by rw [←hr,if_pos (.inr (.inr ⟨rfl,s1⟩))]
        subst s1
        go_wp2
        go_ret
        exact ⟨rfl,rfl⟩
       ·have q2:((s:Int)==16384)=false:=by simp;omega
        obtain rfl:r=60:=by
         rw [←hr,if_neg]
         omega
        go_wp2
        go_ret
        exact ⟨rfl,rfl⟩
      ·have q2:((m:Int)==1)=false:=by simp;omega
       obtain rfl:r=60:=by
        rw [←hr,if_neg]
        omega
       go_wp2
       go_ret
       exact ⟨rfl,rfl⟩
end
section
open Go.RowKit
def trn:Nat→Nat→Nat→Nat
 | 0,acc,_=>acc
 | s+1,acc,x=>trn s (acc*2+x%2) (x/2)
theorem zi4 (x:Nat) (h:x<4294967296):bits .and .u32 (x:Int) 1=((x%2:Nat):Int):=by
 have:=bits_mask .u32 32 (by decide) (fun m h0 h1=>by rw [IntKind.wrap_u32];omega) 1 (by omega) x (by omega) (by omega)
 simpa using this
theorem zk4 (a b:Nat) (ha:a<32768) (hb:b<2):bits .or .u16 ((a:Int)*2) (b:Int)=((a*2+b:Nat):Int):=by
 have e:((a:Int)*2)=((a*2:Nat):Int):=by simp
 rw [e,(bits_nat .u16 16 (by decide) (fun m h0 h1=>by rw [IntKind.wrap_u16];omega) (a*2) b (by omega) (by omega)).2]
 have h:=Nat.two_pow_add_eq_or_of_lt (i:=1) (b:=b) (by omega) a
 rw [Nat.mul_comm a 2]
 simp only [Nat.pow_one] at h
 rw [h]
set_option maxHeartbeats 1000000 in
theorem zfL (x s:Nat) (w:World) (hx:x<4294967296) (hs:s≤15):
  Calls Tryz.prog 218 #[.int .u32 (x:Int),.int .u8 (s:Int)] w fun e w'=>e= .returned (.int .u16 ((trn s 0 x:Nat):Int))∧w'=w:=by
 obtain ⟨r,hr⟩:∃r,trn s 0 x=r:=⟨_,rfl⟩
 rw [hr]
 have Hr:=Lib.hid hr
 clear hr
 go_enter Tryz.func218,Tryz.ntmps218
 go_wp2
 go_loop [0,5,7] (fun xv av kv=> ∃(k y a:Nat),xv= .int .u32 (y:Int)∧av= .int .u16 (a:Int)∧kv= .int .u8 (k:Int)∧k≤s∧y<4294967296∧Hid (a<2^k∧trn (s - k) a y=r)) (fun _ _ kv=>s - (intOf kv).toNat)
 case atStart=>exact ⟨0,x,0,rfl,rfl,rfl,Nat.zero_le _,hx,Lib.hid ⟨by simp,Hr.out⟩⟩
 case round=>
  obtain ⟨k,y,a,rfl,rfl,rfl,hk,hy,HI⟩:=hrel
  by_cases hlt:k<s
  ·have d0:decide (k<s)=true:=by simpa using hlt
   have ha:a<32768:=by
    have h1:=HI.out.1
    have h2:2^k≤2^14:=Nat.pow_le_pow_right (by decide) (by omega)
    have h3:(2:Nat)^14=16384:=rfl
    omega
   have hand:=zi4 y hy
   obtain ⟨b,hb⟩:∃b,y%2=b:=⟨_,rfl⟩
   rw [hb] at hand
   have hb2:b<2:=by omega
   have hor:=zk4 a b ha hb2
   obtain ⟨c,hc⟩:∃c,a*2+b=c:=⟨_,rfl⟩
   rw [hc] at hor
   have HI1:Hid (c<2^(k+1)∧trn (s - (k+1)) c (y/2)=r):=Lib.hid (by
    obtain ⟨h1,h2⟩:=HI.out
    rw [show s - k=(s - (k+1))+1 by omega,trn,hb,hc] at h2
    refine ⟨?_,h2⟩
    rw [Nat.pow_succ];omega)
   have hc16:c<65536:=by omega
   clear hb hc
   go_wp2
   go_round
   case rel=>exact ⟨k+1,y/2,c,by go_num,by go_num,by go_num,by omega,by omega,HI1⟩
   case measure=>simp [intOf];omega
  ·obtain rfl:k=s:=by omega
   have d0:decide (k<k)=false:=by simp
   have h2:=HI.out.2
   rw [Nat.sub_self,trn] at h2
   subst h2
   go_wp2
   go_ret
   exact ⟨rfl,rfl⟩
end
end Go.Proofs.YtedakhgaghfogaaGreat
