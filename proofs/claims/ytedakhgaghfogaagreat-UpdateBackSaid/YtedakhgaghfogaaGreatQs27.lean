/- Several texts in one, each with its own head. -/
import Derived.Test.YtedakhgaghfogaaGreatQs23
import Derived.Test.YtedakhgaghfogaaGreatQs15
import Derived.Test.YtedakhgaghfogaaGreatQs19
import Derived.Test.YtedakhgaghfogaaGreatQs22
import Derived.Test.YtedakhgaghfogaaGreatQs18
import Derived.Test.YtedakhgaghfogaaGreatQs26
namespace Go.Proofs.YtedakhgaghfogaaGreat
section
open Go.RowKit Go.Maps
def ordO (l:List Nat):List Nat:=ordL.map (lq l)
def ordZ:Value:= .agg ((ordL.map fun x=>Value.int .i64 ((x:Nat):Int)).toArray)
set_option maxRecDepth 20000 in
theorem zmD (i:Nat) (hi:i<19) (w:World):(Instr.index 265 ordZ (.int .i64 (i:Int))).run Tryz.prog w= .ok (.int .i64 ((ordL.getD i 0:Nat):Int)) w:=by
 have h:i=0∨i=1∨i=2∨i=3∨i=4∨i=5∨i=6∨i=7∨i=8∨i=9∨i=10∨i=11∨i=12∨i=13∨i=14∨i=15∨i=16∨i=17∨i=18:=by omega
 rcases h with rfl | rfl | rfl | rfl | rfl | rfl | rfl | rfl | rfl | rfl | rfl | rfl | rfl | rfl | rfl | rfl | rfl | rfl | rfl<;>rfl
theorem zm5 (l:List Nat) {i:Nat} (hi:i<19):(ordO l).take (i+1)=(ordO l).take i++[lq l (ordL.getD i 0)]:=by
 have hl:i<ordL.length:=hi
 unfold ordO
 rw [←List.map_take,←List.map_take,List.take_succ_eq_append_getElem hl,List.map_append,List.getD_eq_getElem?_getD,List.getElem?_eq_getElem hl];rfl
set_option maxRecDepth 20000 in
set_option maxHeartbeats 2000000 in
theorem zjs (g off c:Nat) (l:List Nat) (w:World) (hn:l.length=19) (hl:∀i,lq l i<256) (hc:∀i,i<l.length→w.cell? ⟨g,off+i,none⟩=some (.int .u8 ((lq l i:Nat):Int))):
  Calls Tryz.prog 183 #[.slice (some ⟨g,off,none⟩) 19 c] w fun e w'=> ∃v,e= .returned v∧w'.ownsRow w.heap.size 5 1 v 19 ((ordO l).map u8v)∧Below w.heap.size w w':=by
 have Hc:=Lib.hid hc
 have Hl:=Lib.hid hl
 have Hn:=Lib.hid hn
 clear hc hl hn
 go_enter Tryz.func183,Tryz.ntmps183
 go_upto_region 3 with (fail)
 have hz:Value.agg #[.int .i64 16,.int .i64 17,.int .i64 18,.int .i64 0,.int .i64 8,.int .i64 7,.int .i64 9,.int .i64 6,.int .i64 10,.int .i64 5,.int .i64 11,.int .i64 4,.int .i64 12,.int .i64 3,.int .i64 13,.int .i64 2,.int .i64 14,.int .i64 1,.int .i64 15]=ordZ:=rfl
 rw [hz]
 have HI:=Lib.hid zmD
 have hol:(ordO l).length=19:=by unfold ordO;rw [List.length_map];rfl
 have Hol:=Lib.hid hol
 generalize ordZ=z at *
 clear hz hol
 have HO0:Hid (w.ownsRow w.heap.size 5 1 (.slice none 0 0) 0 (((ordO l).take 0).map u8v)):=Lib.hid ⟨rfl,.inl ⟨rfl,rfl⟩⟩
 go_loopw [3,7] (fun lv iv wr=> ∃i:Nat,iv= .int .i64 (i:Int)∧i≤19∧Hid (wr.ownsRow w.heap.size 5 1 lv i (((ordO l).take i).map u8v))∧Hid (Below w.heap.size w wr)) (fun _ iv _=>19 - (intOf iv).toNat)
 case atStart=>exact ⟨0,rfl,Nat.zero_le _,HO0,Lib.hid (Below.refl _ _)⟩
 case round=>
  obtain ⟨i,rfl,hi,HO,HB⟩:=hrel
  obtain ⟨p,cc,rfl⟩:=zac HO.out
  by_cases hin:i<19
  ·have d0:decide ((i:Int)<19)=true:=by simp;omega
   have hx:=zkj i hin
   have hix:=HI.out i hin
   have hc0:=cell_later HB.out (Hc.out (ordL.getD i 0) (by have:=Hn.out;omega))
   have hv:=Hl.out (ordL.getD i 0)
   have Hs:=Lib.hid (zm5 l hin)
   obtain ⟨x,hxe⟩:∃x,ordL.getD i 0=x:=⟨_,rfl⟩
   rw [hxe] at hx hix hc0 hv Hs
   obtain ⟨y,hye⟩:∃y,lq l x=y:=⟨_,rfl⟩
   rw [hye] at hc0 hv Hs
   clear hxe hye
   have hs:=HB.out.size
   have x0:(0:Int)≤(x:Int):=by omega
   have x1:(x:Int)<19:=by omega
   go_wp2_with (at_builtin;refine zaL wr rfl (.tmp 10) (.tmp 15) 28 rfl w.heap.size 5 _ 1 zaw Tryz.underlying28 rfl (.slice p i cc) i _ rfl HO.out (.int .u8 (y:Int)) _ rfl rfl ?n3 ?n4 hs ?_)
   case n3=>simp only [maxLen];omega
   case n4=>omega
   intro g1 cap1 w5 ho1 ht1 hg1
   have HO1:Hid (w5.ownsRow w.heap.size 5 1 (.slice (some ⟨g1,0,none⟩) (i+1) cap1) (i+1) (((ordO l).take (i+1)).map u8v)):=Lib.hid (by rw [Hs.out,List.map_append,List.map_take];exact ho1)
   have HB1:=Lib.hid (HB.out.trans (ht1.below hs (fun k hk=>(HO.out.lt k hk).1)))
   clear ho1 ht1 hg1
   go_wp2
   go_roundw
   case rel=>exact ⟨i+1,by go_num,by omega,HO1,HB1⟩
   case measure=>simp [intOf];omega
  ·obtain rfl:i=19:=by omega
   go_wp2
   go_ret
   have ho:=HO.out
   rw [←Hol.out,List.take_length,Hol.out] at ho
   exact ⟨_,rfl,ho,HB.out⟩
end
section
open Go.RowKit Go.Maps
def lk:List Nat→Nat
 | []=>0
 | v::r=>1+(r.takeWhile fun x=>decide (x=v)).length
theorem zmb (v:Nat):∀(r:List Nat) (k:Nat),k≤r.length→(∀i,i<k→lq r i=v)→(k<r.length→lq r k≠v)→(r.takeWhile fun x=>decide (x=v)).length=k
 | [],k,h,_,_=>by simp at h;subst h;rfl
 | x::r,0,_,_,h=>by
  have h1:x≠v:=h (by simp)
  simp [h1]
 | x::r,k+1,h,h1,h2=>by
  have e:x=v:=h1 0 (by omega)
  subst e
  rw [List.takeWhile_cons_of_pos (by simp),List.length_cons,zmb x r k (by simpa using h) (fun i hi=>h1 (i+1) (by omega)) (fun hk=>h2 (by simpa using hk))]
theorem zrU {l:List Nat} {k:Nat} (h0:1≤k) (h:k≤l.length) (h1:∀i,i<k→lq l i=lq l 0) (h2:k<l.length→lq l k≠lq l 0):lk l=k:=by
 cases l with
 | nil=>simp at h;omega
 | cons v r=>
  obtain ⟨j,rfl⟩:∃j,k=j+1:=⟨k - 1,by omega⟩
  show 1+(r.takeWhile fun x=>decide (x=v)).length=j+1
  rw [zmb v r j (by simpa using h) (fun i hi=>h1 (i+1) (by omega)) (fun hj=>h2 (by simpa using hj))]
  omega
set_option maxRecDepth 20000 in
set_option maxHeartbeats 4000000 in
theorem znZ (g off c:Nat) (l:List Nat) (w:World) (h0:0<l.length) (hl:l.length≤1048576) (hc:∀i,i<l.length→w.cell? ⟨g,off+i,none⟩=some (.int .u8 ((lq l i:Nat):Int))):
  Calls Tryz.prog 211 #[.slice (some ⟨g,off,none⟩) l.length c] w fun e w'=>e= .returned (.int .i64 (lk l:Int))∧Below w.heap.size w w':=by
 have Hc:=Lib.hid hc
 have Hlk:=Lib.hid (fun k=>zrU (l:=l) (k:=k))
 obtain ⟨n,hn⟩:∃n,l.length=n:=⟨_,rfl⟩
 rw [hn] at h0 hl Hc Hlk ⊢
 clear hc hn
 go_enter Tryz.func211,Tryz.ntmps211
 go_wp2
 go_loopw [3] (fun kv wr=> ∃k:Nat,kv= .int .i64 (k:Int)∧1≤k∧k≤n∧Hid (∀i,i<k→lq l i=lq l 0)∧Hid (Below w.heap.size w wr)) (fun kv _=>n - (intOf kv).toNat)
 case atStart=>exact ⟨1,rfl,by omega,by omega,Lib.hid (fun i hi=>by rw [show i=0 by omega]),Lib.hid (Below.refl _ _)⟩
 case round=>
  obtain ⟨k,rfl,hk1,hk,HA,HB⟩:=hrel
  by_cases hkn:k<n
  ·have d1:decide ((k:Int)<(n:Int))=true:=by simp;omega
   have c0:=cell_later HB.out (Hc.out k hkn)
   have c1:=cell_later HB.out (Hc.out 0 (by omega))
   rw [Nat.add_zero] at c1
   obtain ⟨x,hx⟩:∃x,lq l k=x:=⟨_,rfl⟩
   obtain ⟨y,hy⟩:∃y,lq l 0=y:=⟨_,rfl⟩
   rw [hx] at c0
   rw [hy] at c1
   have Hx:=Lib.hid hx
   have Hy:=Lib.hid hy
   have i0:(0:Int)≤(k:Int):=by omega
   have i1:(k:Int)<(n:Int):=by omega
   have i2:(0:Int)<(n:Int):=by omega
   clear hx hy
   by_cases hxy:x=y
   ·have d2:((x:Int)==(y:Int))=true:=by simp;omega
    go_upto_region 2 with (fail)
    go_quiet (fail)
    rename_i nq
    have HB2:=Lib.hid (Below.drewN' HB.out nq)
    generalize wr.drewN nq=W2 at *
    clear c0 c1
    go_wp2
    go_roundw
    case rel=>exact ⟨k+1,by go_num,by omega,by omega,Lib.hid (fun i hi=>by
     by_cases h:i<k
     ·exact HA.out i h
     ·rw [show i=k by omega,Hx.out,Hy.out,hxy]),HB2⟩
    case measure=>simp [intOf];omega
   ·have d2:((x:Int)==(y:Int))=false:=by simp;omega
    have he:=Lib.hid (Hlk.out k hk1 hk HA.out (fun _=>by rw [Hx.out,Hy.out];exact hxy))
    go_upto_region 2 with (fail)
    go_quiet (fail)
    rename_i nq
    have HB2:=Lib.hid (Below.drewN' HB.out nq)
    generalize wr.drewN nq=W2 at *
    clear c0 c1
    go_wp2
    go_ret
    exact ⟨by have:=he.out;simp [this],HB2.out⟩
  ·obtain rfl:k=n:=by omega
   have d1:decide ((k:Int)<(k:Int))=false:=by simp
   have he:=Lib.hid (Hlk.out k hk1 (Nat.le_refl _) HA.out (fun h=>absurd h (Nat.lt_irrefl _)))
   go_upto_region 2 with (fail)
   go_quiet (fail)
   rename_i nq
   have HB2:=Lib.hid (Below.drewN' HB.out nq)
   generalize wr.drewN nq=W2 at *
   go_wp2
   go_ret
   exact ⟨by have:=he.out;simp [this],HB2.out⟩
def rnQ (x k y a:Nat):Pa×Nat:=
 if x=0∧11≤k then (⟨0,18,min k 138 - 11,7⟩,min k 138)
 else if x=0∧3≤k then (⟨0,17,k - 3,3⟩,k)
 else if 3≤k∧0<a∧x=y then (⟨0,16,min k 6 - 3,2⟩,min k 6)
 else (⟨0,x,0,0⟩,1)
def rnP (l:List Nat) (a:Nat):Pa×Nat:=rnQ (lq l a) (lk (l.drop a)) (lq l (a - 1)) a
theorem zpF:∀l:List Nat,lk l≤l.length
 | []=>Nat.le_refl _
 | v::r=>by
  show 1+(r.takeWhile fun x=>decide (x=v)).length≤r.length+1
  have:(r.takeWhile fun x=>decide (x=v)).length≤r.length:=(List.takeWhile_sublist _).length_le
  omega
theorem za7 {fn:Func} {p q:Tmp} {tmps:Array Value} {w:World} {B:Nat} {r:Pa} {v:Value} (h:fn.results=#[.cell p 239,.tmp q]) (hp:tmps.getD p undef= .pointer (some ⟨B,0,none⟩)) (hq:tmps.getD q undef=v) (hl:PaAt w B r):(results fn tmps).run Tryz.prog w= .ok (.tuple #[PaV r,v]) w:=by
 obtain ⟨c0,c1,c2,c3⟩:=hl.c
 have hp':tmps[p]?.getD undef= .pointer (some ⟨B,0,none⟩):=by simpa using hp
 have hq':tmps[q]?.getD undef=v:=by simpa using hq
 simp [results,h,hp',hq',go_sem,c0,c1,c2,c3]
theorem zpv (ts:Array TypeId) (t:TypeId) (k k':IntKind) (x y:Int) (w:World):(Builtin.min_ ts t #[.int k x,.int k' y]).run Tryz.prog w= .ok (.int k (min x y)) w:=by
 rw [run_min_int2];congr 2;split<;>omega
theorem zgv (l:List Nat) (a i:Nat):lq (l.drop a) i=lq l (a+i):=by
 unfold lq
 rw [List.getD_eq_getElem?_getD,List.getD_eq_getElem?_getD,List.getElem?_drop]
set_option maxRecDepth 20000 in
set_option maxHeartbeats 8000000 in
theorem zqm (g off c a:Nat) (l:List Nat) (w:World) (ha:a<l.length) (hlc:l.length≤c) (hl:l.length≤1048576) (h8:∀i,lq l i<256) (hc:∀i,i<l.length→w.cell? ⟨g,off+i,none⟩=some (.int .u8 ((lq l i:Nat):Int))):
  Calls Tryz.prog 197 #[.slice (some ⟨g,off,none⟩) l.length c,.int .i64 (a:Int)] w fun e w'=>e= .returned (.tuple #[PaV (rnP l a).1,.int .i64 ((rnP l a).2:Int)])∧Below w.heap.size w w':=by
 have Hc:=Lib.hid hc
 have hcall:=fun (W:World) (hb:Below w.heap.size w W)=>znZ g (off+a) (c - a) (l.drop a) W (by rw [List.length_drop];omega) (by rw [List.length_drop];omega) (fun i hi=>by
  rw [List.length_drop] at hi
  rw [zgv,Nat.add_assoc]
  exact cell_later hb (hc (a+i) (by omega)))
 rw [List.length_drop] at hcall
 have Hcall:=Lib.hid hcall
 have hkl:lk (l.drop a)≤1048576:=by
  have:=zpF (l.drop a)
  rw [List.length_drop] at this
  omega
 have hR0:rnP l a=rnQ (lq l a) (lk (l.drop a)) (lq l (a - 1)) a:=rfl
 obtain ⟨k,hk⟩:∃k,lk (l.drop a)=k:=⟨_,rfl⟩
 obtain ⟨x,hx⟩:∃x,lq l a=x:=⟨_,rfl⟩
 obtain ⟨y,hy⟩:∃y,lq l (a - 1)=y:=⟨_,rfl⟩
 have hx8:=h8 a
 have hy8:=h8 (a - 1)
 rw [hk,hx,hy] at hR0
 rw [hk] at hkl
 rw [hk] at Hcall
 rw [hx] at hx8
 rw [hy] at hy8
 have c0:=hc a ha
 rw [hx] at c0
 have d0:=hc (a - 1) (by omega)
 rw [hy] at d0
 have hR:=Lib.hid hR0
 clear hR0
 obtain ⟨n,hn⟩:∃n,l.length=n:=⟨_,rfl⟩
 have Hn:=Lib.hid hn
 rw [hn] at ha hlc hl Hcall ⊢
 have hsl:=zgN g off n c a (by omega) (by omega)
 have s0:(0:Int)≤(a:Int):=by omega
 have s1:(a:Int)<(n:Int):=by omega
 clear hc hcall hk hx hy hn
 go_enter Tryz.func197,Tryz.ntmps197
 have hp0:=zbH w ⟨0,0,0,0⟩
 have hb0:=Below.al1 w (.cells (paC ⟨0,0,0,0⟩) 239)
 simp only [paC,Int.natCast_zero] at hp0 hb0
 go_upto_region 1 with (fail)
 generalize w.alloc (.cells #[.int .i64 0,.int .i64 0,.int .i64 0,.int .i64 0] 239)=w1 at *
 go_wp2_with fail
 refine Calls.mono (Hcall.out w1 hb0) ?_
 rintro _ w2 ⟨rfl,hb2⟩
 have hp2:=hp0.below hb2
 have hb3:=Below.thn hb0 hb2
 have c2:=cell_later hb3 c0
 have d2:=cell_later hb3 d0
 have HB:=Lib.hid hb3
 obtain ⟨v0,v1,v2,v3⟩:=hp2.c
 have y0:=hp2.f 0
 have y1:=hp2.f 1
 have y2:=hp2.f 2
 have y3:=hp2.f 3
 have HP:=Lib.hid hp2
 have hSet:Hid (∀r:Pa,Below w.heap.size w ((((w2.setCell ⟨w.heap.size,0,none⟩ (.int .i64 (r.c:Int))).setCell ⟨w.heap.size,1,none⟩ (.int .i64 (r.s:Int))).setCell ⟨w.heap.size,2,none⟩ (.int .i64 (r.m:Int))).setCell ⟨w.heap.size,3,none⟩ (.int .i64 (r.z:Int)))):=Lib.hid (fun r=>
  (((hb3.setCell (Nat.le_refl _) _).setCell (Nat.le_refl _) _).setCell (Nat.le_refl _) _).setCell (Nat.le_refl _) _)
 clear hp0 hb0 hb2 hb3 hp2 Hcall c0 d0
 by_cases hA:x=0∧11≤k
 ·have e:=hR.out
  unfold rnQ at e
  rw [if_pos hA] at e
  obtain ⟨h1,h2⟩:=hA
  have HE:=Lib.hid e
  obtain ⟨m,hm⟩:∃m,min k 138=m:=⟨_,rfl⟩
  rw [hm] at HE
  have em:∀(ts:Array TypeId) (t:TypeId) (w:World),(Builtin.min_ ts t #[.int .i64 (k:Int),.int .i64 138]).run Tryz.prog w= .ok (.int .i64 (m:Int)) w:=fun ts t w=>by
   rw [zpv,show min (k:Int) 138=(m:Int) by omega]
  have hm1:(m:Int) - 11=((m - 11:Nat):Int):=by omega
  have b1:((x:Int)==0)=true:=by simp;omega
  have b2:decide ((k:Int)≥11)=true:=by simp;omega
  have hm2:m≤138:=by omega
  subst h1
  clear e hR hm
  go_wp2_with fail
  rw [HE.out]
  exact bodyPost_ret (v:= .tuple #[PaV ⟨0,18,m - 11,7⟩,.int .i64 (m:Int)]) (za7 Tryz.results197 rfl rfl (HP.out.set ⟨0,18,m - 11,7⟩)) rfl ⟨rfl,hSet.out ⟨0,18,m - 11,7⟩⟩
 by_cases hB:x=0∧3≤k
 ·have e:=hR.out
  unfold rnQ at e
  rw [if_neg hA,if_pos hB] at e
  obtain ⟨h1,h2⟩:=hB
  have HE:=Lib.hid e
  have hm1:(k:Int) - 3=((k - 3:Nat):Int):=by omega
  have b1:((x:Int)==0)=true:=by simp;omega
  have b2:decide ((k:Int)≥11)=false:=by simp;omega
  have b3:decide ((k:Int)≥3)=true:=by simp;omega
  subst h1
  clear e hR
  go_wp2_with fail
  rw [HE.out]
  exact bodyPost_ret (v:= .tuple #[PaV ⟨0,17,k - 3,3⟩,.int .i64 (k:Int)]) (za7 Tryz.results197 rfl rfl (HP.out.set ⟨0,17,k - 3,3⟩)) rfl ⟨rfl,hSet.out ⟨0,17,k - 3,3⟩⟩
 have hN:x≠0∨k<3:=by omega
 by_cases hC:3≤k∧0<a∧x=y
 ·have e:=hR.out
  unfold rnQ at e
  rw [if_neg hA,if_neg hB,if_pos hC] at e
  obtain ⟨h1,h2,h3⟩:=hC
  have HE:=Lib.hid e
  obtain ⟨m,hm⟩:∃m,min k 6=m:=⟨_,rfl⟩
  rw [hm] at HE
  have em:∀(ts:Array TypeId) (t:TypeId) (w:World),(Builtin.min_ ts t #[.int .i64 (k:Int),.int .i64 6]).run Tryz.prog w= .ok (.int .i64 (m:Int)) w:=fun ts t w=>by
   rw [zpv,show min (k:Int) 6=(m:Int) by omega]
  have hm1:(m:Int) - 3=((m - 3:Nat):Int):=by omega
  have hm2:m≤6:=by omega
  have b1:((x:Int)==0)=false:=by simp;omega
  have b3:decide ((k:Int)≥3)=true:=by simp;omega
  have b4:decide ((a:Int)>0)=true:=by simp;omega
  have b5:((x:Int)==(y:Int))=true:=by simp;omega
  have ha1:IntKind.i64.wrap ((a:Int) - 1)=((a - 1:Nat):Int):=by rw [IntWalk.i64_in _ (by omega)];omega
  have ha2:(a:Int) - 1=((a - 1:Nat):Int):=by omega
  have t0:(0:Int)≤((a - 1:Nat):Int):=by omega
  have t1:((a - 1:Nat):Int)<(n:Int):=by omega
  clear e hR hm
  go_upto_region 7 with (fail)
  go_quiet (fail)
  rename_i nq
  have HP2:=HP.out.below (Below.drewN' (Below.refl _ w2) nq)
  have hS2:Hid (∀r:Pa,Below w.heap.size w (((((w2.drewN nq).setCell ⟨w.heap.size,0,none⟩ (.int .i64 (r.c:Int))).setCell ⟨w.heap.size,1,none⟩ (.int .i64 (r.s:Int))).setCell ⟨w.heap.size,2,none⟩ (.int .i64 (r.m:Int))).setCell ⟨w.heap.size,3,none⟩ (.int .i64 (r.z:Int)))):=Lib.hid (fun r=>
   ((((Below.drewN' HB.out nq).setCell (Nat.le_refl _) _).setCell (Nat.le_refl _) _).setCell (Nat.le_refl _) _).setCell (Nat.le_refl _) _)
  generalize w2.drewN nq=w3 at *
  obtain ⟨v0,v1,v2,v3⟩:=HP2.c
  have y0:=HP2.f 0
  have y1:=HP2.f 1
  have y2:=HP2.f 2
  have y3:=HP2.f 3
  have HP3:=Lib.hid HP2
  clear HP2
  go_wp2_with fail
  rw [HE.out]
  exact bodyPost_ret (v:= .tuple #[PaV ⟨0,16,m - 3,2⟩,.int .i64 (m:Int)]) (za7 Tryz.results197 rfl rfl (HP3.out.set ⟨0,16,m - 3,2⟩)) rfl ⟨rfl,hS2.out ⟨0,16,m - 3,2⟩⟩
 have e:=hR.out
 unfold rnQ at e
 rw [if_neg hA,if_neg hB,if_neg hC] at e
 have HE:=Lib.hid e
 have hwx:IntKind.i64.wrap (x:Int)=(x:Int):=IntWalk.i64_in _ (by omega)
 have hxy:¬(3≤k∧0<a)∨x≠y:=by
  by_cases h:3≤k∧0<a
  ·exact .inr fun h2=>hC ⟨h.1,h.2,h2⟩
  ·exact .inl h
 clear e hR hA hB hC
 by_cases h3:k<3
 ·have b3:decide ((k:Int)≥3)=false:=by simp;omega
  have b2:decide ((k:Int)≥11)=false:=by simp;omega
  by_cases hx0:x=0
  ·subst hx0
   have b1:(((0:Nat):Int)==0)=true:=by decide
   go_upto_region 7 with (fail)
   go_quiet (fail)
   rename_i nq
   have HP2:=HP.out.below (Below.drewN' (Below.refl _ w2) nq)
   have hS2:Hid (∀r:Pa,Below w.heap.size w (((((w2.drewN nq).setCell ⟨w.heap.size,0,none⟩ (.int .i64 (r.c:Int))).setCell ⟨w.heap.size,1,none⟩ (.int .i64 (r.s:Int))).setCell ⟨w.heap.size,2,none⟩ (.int .i64 (r.m:Int))).setCell ⟨w.heap.size,3,none⟩ (.int .i64 (r.z:Int)))):=Lib.hid (fun r=>
    ((((Below.drewN' HB.out nq).setCell (Nat.le_refl _) _).setCell (Nat.le_refl _) _).setCell (Nat.le_refl _) _).setCell (Nat.le_refl _) _)
   have c3:=cell_later (Below.drewN' (Below.refl _ w2) nq) c2
   generalize w2.drewN nq=w3 at *
   obtain ⟨v0,v1,v2,v3⟩:=HP2.c
   have y0:=HP2.f 0
   have y1:=HP2.f 1
   have y2:=HP2.f 2
   have y3:=HP2.f 3
   have HP3:=Lib.hid HP2
   clear HP2 c2 d2
   go_wp2_with fail
   rw [HE.out]
   exact bodyPost_ret (v:= .tuple #[PaV ⟨0,0,0,0⟩,.int .i64 1]) (za7 Tryz.results197 rfl rfl (HP3.out.set ⟨0,0,0,0⟩)) rfl ⟨rfl,hS2.out ⟨0,0,0,0⟩⟩
  ·have b1:((x:Int)==0)=false:=by simp;omega
   go_upto_region 7 with (fail)
   go_quiet (fail)
   rename_i nq
   have HP2:=HP.out.below (Below.drewN' (Below.refl _ w2) nq)
   have hS2:Hid (∀r:Pa,Below w.heap.size w (((((w2.drewN nq).setCell ⟨w.heap.size,0,none⟩ (.int .i64 (r.c:Int))).setCell ⟨w.heap.size,1,none⟩ (.int .i64 (r.s:Int))).setCell ⟨w.heap.size,2,none⟩ (.int .i64 (r.m:Int))).setCell ⟨w.heap.size,3,none⟩ (.int .i64 (r.z:Int)))):=Lib.hid (fun r=>
    ((((Below.drewN' HB.out nq).setCell (Nat.le_refl _) _).setCell (Nat.le_refl _) _).setCell (Nat.le_refl _) _).setCell (Nat.le_refl _) _)
   have c3:=cell_later (Below.drewN' (Below.refl _ w2) nq) c2
   generalize w2.drewN nq=w3 at *
   obtain ⟨v0,v1,v2,v3⟩:=HP2.c
   have y0:=HP2.f 0
   have y1:=HP2.f 1
   have y2:=HP2.f 2
   have y3:=HP2.f 3
   have HP3:=Lib.hid HP2
   clear HP2 c2 d2
   go_wp2_with fail
   rw [HE.out]
   exact bodyPost_ret (v:= .tuple #[PaV ⟨0,x,0,0⟩,.int .i64 1]) (za7 Tryz.results197 rfl rfl (HP3.out.set ⟨0,x,0,0⟩)) rfl ⟨rfl,hS2.out ⟨0,x,0,0⟩⟩
 ·have b3:decide ((k:Int)≥3)=true:=by simp;omega
  have b1:((x:Int)==0)=false:=by simp;omega
  by_cases ha0:a=0
  ·subst ha0
   have b4:decide ((0:Int)>0)=false:=by decide
   rw [Nat.add_zero] at c2
   simp only [Int.natCast_zero] at s0 s1 hsl ⊢
   go_upto_region 7 with (fail)
   go_quiet (fail)
   rename_i nq
   have HP2:=HP.out.below (Below.drewN' (Below.refl _ w2) nq)
   have hS2:Hid (∀r:Pa,Below w.heap.size w (((((w2.drewN nq).setCell ⟨w.heap.size,0,none⟩ (.int .i64 (r.c:Int))).setCell ⟨w.heap.size,1,none⟩ (.int .i64 (r.s:Int))).setCell ⟨w.heap.size,2,none⟩ (.int .i64 (r.m:Int))).setCell ⟨w.heap.size,3,none⟩ (.int .i64 (r.z:Int)))):=Lib.hid (fun r=>
    ((((Below.drewN' HB.out nq).setCell (Nat.le_refl _) _).setCell (Nat.le_refl _) _).setCell (Nat.le_refl _) _).setCell (Nat.le_refl _) _)
   have c3:=cell_later (Below.drewN' (Below.refl _ w2) nq) c2
   generalize w2.drewN nq=w3 at *
   obtain ⟨v0,v1,v2,v3⟩:=HP2.c
   have y0:=HP2.f 0
   have y1:=HP2.f 1
   have y2:=HP2.f 2
   have y3:=HP2.f 3
   have HP3:=Lib.hid HP2
   clear HP2 c2 d2
   go_wp2_with fail
   rw [HE.out]
   exact bodyPost_ret (v:= .tuple #[PaV ⟨0,x,0,0⟩,.int .i64 1]) (za7 Tryz.results197 rfl rfl (HP3.out.set ⟨0,x,0,0⟩)) rfl ⟨rfl,hS2.out ⟨0,x,0,0⟩⟩
  ·have b4:decide ((a:Int)>0)=true:=by simp;omega
   have b5:((x:Int)==(y:Int))=false:=by
    rcases hxy with h | h
    ·omega
    ·simp;omega
   have ha1:IntKind.i64.wrap ((a:Int) - 1)=((a - 1:Nat):Int):=by rw [IntWalk.i64_in _ (by omega)];omega
   have ha2:(a:Int) - 1=((a - 1:Nat):Int):=by omega
   have t0:(0:Int)≤((a - 1:Nat):Int):=by omega
   have t1:((a - 1:Nat):Int)<(n:Int):=by omega
   have ha3:0<a:=by omega
   clear ha0 h3 hN hxy
   go_upto_region 7 with (fail)
   go_quiet (fail)
   rename_i nq
   have HP2:=HP.out.below (Below.drewN' (Below.refl _ w2) nq)
   have hS2:Hid (∀r:Pa,Below w.heap.size w (((((w2.drewN nq).setCell ⟨w.heap.size,0,none⟩ (.int .i64 (r.c:Int))).setCell ⟨w.heap.size,1,none⟩ (.int .i64 (r.s:Int))).setCell ⟨w.heap.size,2,none⟩ (.int .i64 (r.m:Int))).setCell ⟨w.heap.size,3,none⟩ (.int .i64 (r.z:Int)))):=Lib.hid (fun r=>
    ((((Below.drewN' HB.out nq).setCell (Nat.le_refl _) _).setCell (Nat.le_refl _) _).setCell (Nat.le_refl _) _).setCell (Nat.le_refl _) _)
   have c3:=cell_later (Below.drewN' (Below.refl _ w2) nq) c2
   generalize w2.drewN nq=w3 at *
   obtain ⟨v0,v1,v2,v3⟩:=HP2.c
   have y0:=HP2.f 0
   have y1:=HP2.f 1
   have y2:=HP2.f 2
   have y3:=HP2.f 3
   have HP3:=Lib.hid HP2
   clear HP2 c2 d2
   go_wp2_with fail
   rw [HE.out]
   exact bodyPost_ret (v:= .tuple #[PaV ⟨0,x,0,0⟩,.int .i64 1]) (za7 Tryz.results197 rfl rfl (HP3.out.set ⟨0,x,0,0⟩)) rfl ⟨rfl,hS2.out ⟨0,x,0,0⟩⟩
end
section
open Go.RowKit Go.Shelf
attribute [local go_sem] Oper.semAt_some
theorem zil {l:List Nat} {a:Nat} (h:a<l.length):1≤(rnP l a).2∧a+(rnP l a).2≤l.length:=by
 have h1:=zpF (l.drop a)
 rw [List.length_drop] at h1
 unfold rnP rnQ
 split
 ·simp only;omega
 ·split
  ·simp only;omega
  ·split
   ·simp only;omega
   ·simp only;omega
def rnF (l:List Nat):Nat→Nat→List Pa
 | 0,_=>[]
 | f+1,a=>if a<l.length then (rnP l a).1::rnF l f (a+(rnP l a).2) else []
def rnL (l:List Nat):List Pa:=rnF l (l.length+1) 0
theorem zes {l:List Nat} {f a:Nat} (h:l.length≤a):rnF l f a=[]:=by
 cases f with
 | zero=>rfl
 | succ f=>exact if_neg (by omega)
theorem zcg {l:List Nat} {f a:Nat} (h:a<l.length):rnF l (f+1) a=(rnP l a).1::rnF l f (a+(rnP l a).2):=if_pos h
set_option maxRecDepth 20000 in
set_option maxHeartbeats 4000000 in
theorem zg3 (Bl:Nat) (g off c:Nat) (l:List Nat) (w:World) (R:Nat→Prop) (hBl:w.cell? ⟨Bl,0,none⟩=some (.slice (some ⟨g,off,none⟩) l.length c)) (hc:∀i,i<l.length→w.cell? ⟨g,off+i,none⟩=some (.int .u8 ((lq l i:Nat):Int))) (h8:∀i,lq l i<256) (hl:l.length≤1048576) (hlc:l.length≤c)
  (hRlt:∀b,R b→b<w.heap.size) (hR1:R Bl) (hR3:R g):
  Iter Tryz.prog 196 #[.pointer (some ⟨Bl,0,none⟩)] ElPa R (rnL l) w:=by
 intro ll J Jx W hsz hRW hJ0 hY
 refine callsIn_wide.2 ?_
 have HY:=Lib.hid hY
 have HRW:=Lib.hid hRW
 have Hc:=Lib.hid hc
 have HRlt:=Lib.hid hRlt
 have HBl:=Lib.hid hBl
 have H8:=Lib.hid h8
 obtain ⟨n,hn⟩:∃n,l.length=n:=⟨_,rfl⟩
 have Hn:=Lib.hid hn
 rw [hn] at hlc hl HBl
 clear hY hRW hc hRlt hBl hn h8
 go_enter Tryz.func196,Tryz.ntmps196
 go_wp2
 go_loopw [3] (fun av wr=> ∃(a f:Nat) (pre:List Pa) (Tp:Nat→Prop) (Wp:World),av= .int .i64 (a:Int)∧a≤n∧n<f+a∧Hid (rnL l=pre++rnF l f a)∧Hid (J pre Tp Wp)∧Hid (Turns Tp Wp wr)∧Hid (∀b,R b→wr.heap[b]? =w.heap[b]?)) (fun av _=>n - (intOf av).toNat)
 case atStart=>exact ⟨0,n+1,[],fun _=>False,W,rfl,Nat.zero_le _,by omega,Lib.hid (by rw [←Hn.out];rfl),Lib.hid hJ0,Lib.hid (Turns.refl _ _),HRW⟩
 case round=>
  obtain ⟨a,f,pre,Tp,Wp,rfl,ha,hf,HE,HJ,HT,HR⟩:=hrel
  have xb:=(World.cell?_of_block (a:=⟨Bl,0,none⟩) (HR.out Bl hR1)).trans HBl.out
  by_cases han:a<n
  ·have d1:decide ((a:Int)<(n:Int))=true:=by simp;omega
   have han':a<l.length:=by rw [Hn.out];exact han
   obtain ⟨r1,r2⟩:=zil han'
   rw [Hn.out] at r2
   obtain ⟨f',rfl⟩:∃f',f=f'+1:=⟨f - 1,by omega⟩
   have HE2:=HE.out
   rw [zcg han'] at HE2
   have hrun:=zqm g off c a l wr han' (by rw [Hn.out];exact hlc) (by rw [Hn.out];exact hl) H8.out (fun i hi=>(World.cell?_of_block (a:=⟨g,off+i,none⟩) (HR.out g hR3)).trans (Hc.out i hi))
   obtain ⟨⟨x,m⟩,hxm⟩:∃q,rnP l a=q:=⟨_,rfl⟩
   rw [hxm] at r1 r2 HE2 hrun
   rw [Hn.out] at hrun
   simp only at r1 r2 HE2 hrun
   have Hrun:=Lib.hid hrun
   have HE3:=Lib.hid HE2
   clear HE2 hrun hxm han'
   go_wp2_with fail
   refine Calls.mono Hrun.out ?_
   rintro _ u1 ⟨rfl,hb1⟩
   have HR1:Hid (∀b,R b→u1.heap[b]? =w.heap[b]?):=Lib.hid (fun b hb=>(hb1.block b (zbF (HRlt.out b hb) (HR.out b hb))).trans (HR.out b hb))
   have HT1:=Lib.hid (HT.out.trans (Turns.of_below' hb1))
   clear hb1 Hrun xb
   go_upto_region 3 with (fail)
   have hp:=zbH u1 x
   have hbp:=Below.al1 u1 (.cells (paC x) 239)
   simp only [paC] at hp hbp
   generalize u1.alloc (.cells #[.int .i64 (x.c:Int),.int .i64 (x.s:Int),.int .i64 (x.m:Int),.int .i64 (x.z:Int)] 239)=u2 at *
   obtain ⟨p0,p1,p2,p3⟩:=hp.c
   have HR2:Hid (∀b,R b→u2.heap[b]? =w.heap[b]?):=Lib.hid (fun b hb=>(hbp.block b (zbF (HRlt.out b hb) (HR1.out b hb))).trans (HR1.out b hb))
   have HT2:=Lib.hid (HT1.out.trans (Turns.of_below' hbp))
   generalize u1.heap.size=pb at *
   clear hp hbp
   obtain ⟨fn,tmps,assign,body,hy,hRd⟩:=HY.out pre x (rnF l f' (a+m)) Tp (fun _=>False) Wp u2 #[PaV x] HE3.out HJ.out HT2.out (fun _ h=>h.elim) (fun _ h=>h.elim) HR2.out rfl
   refine (wpIn_wide (n:=0)).1 ?_
   gi_wp2
   refine ⟨rfl,hRd.mono ?_⟩
   rintro e W3 (⟨rfl,hJ3,hsz3,hk3⟩ | ⟨rfl,hJx3,-,-⟩)
   ·have HR3:Hid (∀b,R b→W3.heap[b]? =w.heap[b]?):=Lib.hid (fun b hb=>(hk3 b (Or.inl hb)).trans (HR2.out b hb))
    have HJ3:=Lib.hid hJ3
    clear hk3 hJ3 hy hRd p0 p1 p2 p3
    gi_wp2
    go_wp2
    go_roundw
    case rel=>exact ⟨a+m,f',pre++[x],fun _=>False,W3,by go_num,by omega,by omega,Lib.hid (by rw [HE3.out];simp),HJ3,Lib.hid (Turns.refl _ _),HR3⟩
    case measure=>simp [intOf];omega
   ·have HP:pre++[x] <+:rnL l:=⟨rnF l f' (a+m),by rw [HE3.out];simp⟩
    gi_wp2
    go_wp2
    refine bodyPost_ret (results_none rfl _ _ _) rfl ?_
    exact ⟨⟨_,rfl⟩,.inr ⟨_,_,_,HP,hJx3,Turns.refl _ _⟩⟩
  ·obtain rfl:a=n:=by omega
   have d1:decide ((a:Int)<(a:Int))=false:=by simp
   have HX:Hid (rnL l=pre):=Lib.hid (by rw [HE.out,zes (by rw [Hn.out];exact Nat.le_refl _),List.append_nil])
   go_wp2
   go_end0
   exact ⟨⟨_,rfl⟩,.inl ⟨_,_,by rw [HX.out];exact HJ.out,HT.out⟩⟩
end
section
end
section
def putR (X Y C:List Nat) (k:Nat):Pt:=(X.length - 257,5)::(Y.length - 1,5)::(k - 4,4)::((ordL.take k).map (fun i=>(lq C i,3))++(rnL (X++Y)).flatMap (plP [C]))
end
section
theorem zez {f:Nat→Nat} {m:Nat}:∀{n:Nat},m≤n→(∀i,m≤i→i<n→f i=0)→sm n f=sm m f
  | 0, h, _ => by obtain rfl : m = 0 := by omega
                  rfl
  | n+1,h,hz=>by
    by_cases e:m=n+1
    · rw [e]
    · show sm n f+f n=sm m f
      rw [hz n (by omega) (by omega),Nat.add_zero]
      exact zez (by omega) fun i h1 h2=>hz i h1 (by omega)
structure Cut (l:List Nat) (m:Nat):Prop where
 le:m≤l.length
 z:∀i,m≤i→i<l.length→lq l i=0
theorem Cut.of (l:List Nat) (least:Nat):Cut l (trN l least l.length):=⟨zcq _ _ _,fun i h1 h2=>zfi l least l.length i h1 h2⟩
section
variable {l:List Nat} {m:Nat}
theorem Cut.len (h:Cut l m):(l.take m).length=m:=by rw [List.length_take];have:=h.le;omega
theorem Cut.lq (h:Cut l m):lq (l.take m)=lq l:=by
 funext i
 by_cases h1:i<m
 ·unfold Proofs.YtedakhgaghfogaaGreat.lq
  rw [List.getD_eq_getElem?_getD,List.getD_eq_getElem?_getD,List.getElem?_take,if_pos h1]
 ·have e1:Proofs.YtedakhgaghfogaaGreat.lq (l.take m) i=0:=by
   unfold Proofs.YtedakhgaghfogaaGreat.lq
   rw [List.getD_eq_getElem?_getD,List.getElem?_take,if_neg h1];rfl
  rw [e1]
  by_cases h2:i<l.length
  ·exact (h.z i (by omega) h2).symm
  ·unfold Proofs.YtedakhgaghfogaaGreat.lq
   rw [List.getD_eq_getElem?_getD,List.getElem?_eq_none (by omega)];rfl
theorem Cut.chk (h:Cut l m) (hc:chk l=0):chk (l.take m)=0:=by
 obtain ⟨h1,h2,h3⟩:=za6 hc
 have hm:=h.le
 have e1:many l.length (Proofs.YtedakhgaghfogaaGreat.lq l)=many m (Proofs.YtedakhgaghfogaaGreat.lq l):=zez hm fun i a b=>by rw [h.z i a b];rfl
 have e2:room l.length 15 (Proofs.YtedakhgaghfogaaGreat.lq l)=room m 15 (Proofs.YtedakhgaghfogaaGreat.lq l):=zez hm fun i a b=>by rw [h.z i a b];rfl
 rw [zdE (by rw [h.len];omega) (fun i hi=>by rw [h.lq];rw [h.len] at hi;exact h2 i (by omega)),h.lq,h.len,←e1,←e2]
 exact if_pos h3
end
end
section
theorem zrZ:∀n,n<259→3≤n→43+zad (zal n)≤15*n:=by decide +kernel
theorem zr7:∀s,s<30→zam s≤13:=by decide +kernel
theorem zr6 {A D:List Nat} (hA:∀i,lq A i≤15) (hD:∀i,lq D i≤15) {t:Tk} (h:t.okB=true):szP ((paT t).flatMap (plP [A,D]))≤15*t.size:=by
 rcases zcH h with h0 | ⟨n,d,e1,e2,n1,n2,n3,n4⟩
 ·unfold paT Tk.size
  rw [if_pos h0,h0]
  have:=hA t.b
  show lq A t.b+(0+0)≤15*_
  simp;omega
 ·have h0:t.n≠0:=by omega
  unfold paT Tk.size
  rw [if_neg h0]
  have f1:t.n.toNat=n:=by omega
  have f2:t.d.toNat=d:=by omega
  rw [f1,f2]
  obtain ⟨r1,-⟩:=zbx n3 n4
  have k1:=hA (zal n)
  have k2:=hD (zaq d)
  have k3:=zrZ n (by omega) n1
  have k4:=zr7 (zaq d) (by omega)
  show lq A (zal n)+(zad (zal n)+(lq D (zaq d)+(zam (zaq d)+0)))≤_
  first | (rw [if_neg h0];omega) | (simp;omega) | omega
theorem zfA {A D:List Nat} (hA:∀i,lq A i≤15) (hD:∀i,lq D i≤15):∀{ts:List Tk},(∀t∈ts,t.okB=true)→szP ((pasT ts).flatMap (plP [A,D]))≤15*(ts.map Tk.size).sum+15
 | [],_=>by
  have:=hA 256
  show lq A 256+(0+0)≤_
  simp;omega
 | t::r,h=>by
  have e:pasT (t::r)=paT t++pasT r:=by unfold pasT;rw [List.flatMap_cons,List.append_assoc]
  have h1:=zr6 hA hD (h t List.mem_cons_self)
  have h2:=zfA hA hD (ts:=r) fun x hx=>h x (List.mem_cons_of_mem _ hx)
  rw [e,List.flatMap_append,zaj,List.map_cons,List.sum_cons]
  omega
theorem zdD:∀{ts:List Tk} {o:List Nat},(xp ts o).2=0→(xp ts o).1.length=o.length+(ts.map Tk.size).sum
 | [],o,_=>rfl
 | t::r,o,h=>by
  by_cases e:zba t o.length=0
  ·rw [zbn e] at h ⊢
   rw [zdD h,zmL _ _ (zo4 e).1,List.map_cons,List.sum_cons]
   omega
  ·rw [zbr e] at h
   exact absurd h e
theorem zr2 {C:List Nat} (hC:∀i,lq C i≤15) {xs:List Pa} (h:∀x∈xs,x.c=0∧x.z≤7):szP (xs.flatMap (plP [C]))≤22*xs.length:=by
 induction xs with
 | nil=>simp [szP]
 | cons x r ih=>
  obtain ⟨h1,h2⟩:=h x List.mem_cons_self
  have h3:=ih fun y hy=>h y (List.mem_cons_of_mem _ hy)
  have h4:=hC x.s
  have e:szP (plP [C] x)=lq C x.s+x.z:=by
   unfold plP
   rw [h1];rfl
  rw [List.flatMap_cons,zaj,List.length_cons,e]
  omega
end
section
open Go.RowKit Go.Maps
theorem zlw {w:World} {a b:Value} {t:TypeId}:∀i v,[a,b][i]? =some v→(w.alloc (.cells #[a,b] t)).cell? ⟨w.heap.size,i,none⟩=some v:=fun i v h=>by
 have hb:=World.alloc_heap_new w (.cells #[a,b] t)
 simp only [World.cell?,hb]
 have:(#[a,b]:Array Value)[i]? =some v:=by rw [←h];simp
 rw [this];rfl
theorem zi2 {w4:World} {v1 v2:Value} {r1 r2:List Nat} (H1:Rw8 w4 v1 r1) (H2:Rw8 w4 v2 r2) (h0:0<r1.length) (hn:r1.length+r2.length≤10000):
  Calls Tryz.prog 177 #[.slice (some ⟨w4.heap.size,0,none⟩) 2 2] (w4.alloc (.cells #[v1,v2] 28)) fun e w'=> ∃v,e= .returned v∧w'.ownsRow w4.heap.size 5 1 v (r1++r2).length ((r1++r2).map u8v)∧Below w4.heap.size w4 w':=by
 obtain ⟨R,hR⟩:∃R,R=[(v1,r1),(v2,r2)]:=⟨_,rfl⟩
 have hlen:R.length=2:=by rw [hR];rfl
 have htot:tot R 2=(r1++r2).length:=by rw [hR];simp [tot]
 have hcat:cat R 2=r1++r2:=by rw [hR];simp [cat]
 have hl:(r1++r2).length=r1.length+r2.length:=List.length_append
 have hcells:=zlw (w:=w4) (a:=v1) (b:=v2) (t:=28)
 have hb:=Below.al1 w4 (.cells #[v1,v2] 28)
 have hcc:=zc3 w4.heap.size 2 R (w4.alloc (.cells #[v1,v2] 28)) (fun i hi=>by
  subst hR
  have hi:i<2:=hi
  have:i=0∨i=1:=by omega
  rcases this with rfl | rfl
  ·exact ⟨hcells 0 _ rfl,H1.below hb⟩
  ·exact ⟨hcells 1 _ rfl,H2.below hb⟩) (by rw [hlen,htot];omega) (by rw [hlen,htot];omega) (by omega)
 rw [hlen,htot,hcat] at hcc
 refine Calls.mono hcc ?_
 rintro e w' ⟨v,rfl,ho,hb2⟩
 exact ⟨v,rfl,za3 ho hb.size,Below.thn hb hb2⟩
theorem zig {w:World} {g c:Nat} {l:List Nat} {m:Nat} (h:m≤l.length) (hc:l.length≤c) (hm:c≤maxLen) (hg:∃cur t,w.heap[g]? =some (.cells cur t)∧∀i,i<l.length→cur[i]? =some (.int .u8 ((lq l i:Nat):Int))):Row enc8 1 w (.slice (some ⟨g,0,none⟩) m c) (l.take m):=by
 obtain ⟨cur,t,h1,h2⟩:=hg
 have hl:(l.take m).length=m:=by rw [List.length_take];omega
 refine ⟨some ⟨g,0,none⟩,c,by rw [hl],by rw [hl];omega,hm,.inr ⟨g,0,rfl,zab h1,fun k x hx j u hu=>?_⟩⟩
 cases j with
 | succ j=>cases hu
 | zero=>
  cases hu
  have hk:k<m:=by rw [←hl];exact (List.getElem?_eq_some_iff.1 hx).1
  rw [Nat.mul_one,Nat.zero_add,Nat.add_zero]
  refine zaa h1 ?_
  rw [h2 k (by omega)]
  have:lq l k=x:=by
   unfold lq
   rw [List.getElem?_take,if_pos hk] at hx
   rw [List.getD_eq_getElem?_getD,hx];rfl
  rw [this];rfl
end
end Go.Proofs.YtedakhgaghfogaaGreat
