/- Several texts in one, each with its own head. -/
import Derived.Test.YtedakhgaghfogaaGreatQs20
import Derived.Maps.OwnSet
import Derived.Maps.OwnOps
import Derived.DeepKeys4
namespace Go.Proofs.YtedakhgaghfogaaGreat
section
open Go.RowKit Go.Maps
set_option maxRecDepth 100000
def tv (k:Nat×Nat×Nat):Value:= .agg #[.int .u8 (k.1:Int),.int .u8 (k.2.1:Int),.int .u8 (k.2.2:Int)]
theorem zej:Tryz.prog.underlying 221=some (.array 3 5):=by kernel_rfl
theorem zgH:Tryz.prog.cellsOf 221=3:=by kernel_rfl
theorem zmz:Tryz.prog.cellsOf 5=1:=by kernel_rfl
theorem znJ:Tryz.prog.keyType 221=true:=by kernel_rfl
theorem zoH:Tryz.prog.types.size=Tryz.prog.types.size - 1+1:=by kernel_rfl
theorem zoE:laidOutB Tryz.prog=true:=by kernel_rfl
theorem zpQ:(221:TypeId)<Tryz.prog.types.size:=of_decide_eq_true (by kernel_rfl)
theorem zoy:(match Tryz.prog.underlying 221 with | some (.array _ _) | some (.struct _)=>true | _=>false)=true:=by rw [zej]
theorem znc:Tryz.prog.keyTypeAt 2 221=true:=by kernel_rfl
theorem zpY:WideMaps.KeyLaw Tryz.prog 221:=deep_law_laid zoE (m:=2) (by omega) zpQ znc zoy
theorem thr_keyed:Keyed Tryz.prog 221:=Keyed.of_law zpY
theorem zlv {c0 c1 c2:Value}:(Value.agg #[c0,c1,c2]).formed Tryz.prog 221=true:=by
 simp [Value.formed,zgH]
theorem zrO {a:Nat} (h:a<256):(Lit.int .u8 (a:Int)).wf=true:=by
 have hm:IntKind.u8.min=0:=by decide
 have hx:IntKind.u8.max=255:=by decide
 simp [Lit.wf,hm,hx];omega
theorem zgA {a:Nat} (h:a<256) (d:Nat):Tryz.prog.keyLits (d+1) 5 [.int .u8 (a:Int)]=some [.int .u8 (a:Int)]:=by
 have hu:Tryz.prog.underlying 5=some (.int .u8):=by kernel_rfl
 unfold Program.keyLits
 rw [hu]
 simp [zrO h]
def tl3 (k:Nat×Nat×Nat):Lit:= .string (keyBytes [.int .u8 (k.1:Int),.int .u8 (k.2.1:Int),.int .u8 (k.2.2:Int)])
def B3 (k:Nat×Nat×Nat):Prop:=k.1<256∧k.2.1<256∧k.2.2<256
theorem znI {k:Nat×Nat×Nat} (h:B3 k) (d:Nat):Tryz.prog.keyLits (d+2) 221 [.int .u8 (k.1:Int),.int .u8 (k.2.1:Int),.int .u8 (k.2.2:Int)]=some [.int .u8 (k.1:Int),.int .u8 (k.2.1:Int),.int .u8 (k.2.2:Int)]:=by
 unfold Program.keyLits
 rw [zej]
 simp only [List.length_cons,List.length_nil,zgH]
 have hr:List.range 3=[0,1,2]:=rfl
 rw [hr]
 simp [zmz,zgA h.1,zgA h.2.1,zgA h.2.2]
theorem zem {k:Nat×Nat×Nat} (h:B3 k):keyOf Tryz.prog 221 (tv k)=some (tl3 k):=by
 unfold keyOf
 rw [zej]
 simp only [znJ,tv,zlv,Bool.and_self,if_true]
 have hd:Tryz.prog.types.size+1=Tryz.prog.types.size - 1+2:=by have:=zoH;omega
 rw [hd]
 have:(Value.agg #[.int .u8 (k.1:Int),.int .u8 (k.2.1:Int),.int .u8 (k.2.2:Int)]).cells.toList=[.int .u8 (k.1:Int),.int .u8 (k.2.1:Int),.int .u8 (k.2.2:Int)]:=by simp [Value.cells]
 rw [this,znI h]
 rfl
theorem zqT {k k':Nat×Nat×Nat} (h1:B3 k) (h2:B3 k') (h:tl3 k=tl3 k'):k=k':=by
 have e:=thr_keyed.inj (zem h1) (by rw [h];exact zem h2)
 unfold tv at e
 simp only [Value.agg.injEq] at e
 simp at e
 obtain ⟨a,b,c⟩:=k
 obtain ⟨a',b',c'⟩:=k'
 simp only at e
 obtain ⟨e1,e2,e3⟩:=e
 have e1:a=a':=by omega
 have e2:b=b':=by omega
 have e3:c=c':=by omega
 rw [e1,e2,e3]
theorem zgO (k:Nat×Nat×Nat):WideAt.IsKeyLit (tl3 k):=trivial
noncomputable abbrev zq7:Value→Option (DataW Unit×List MemPlace):=plainElem Tryz.prog 3
def Map3 (w:World) (M n:Nat) (F:Nat×Nat×Nat→Option Nat):Prop:=
 ∃D:DataW Unit,w.ownsMap Tryz.prog 221 zq7 M n D∧∀k:Nat×Nat×Nat,B3 k→Maps.has D (tl3 k)=(F k).isSome∧∀x,F k=some x→∀z,D.atKey (tl3 k) z= .lit (.int .i64 (x:Int))
theorem zdG:Tryz.prog.underlying 3=some (.int .i64):=by kernel_rfl
theorem zfz:Tryz.prog.underlying 220=some (.map 221 3):=by kernel_rfl
theorem zlF {x:Nat} (h:x≤1048576):(Lit.int .i64 (x:Int)).wf=true:=by
 have hm:IntKind.i64.min= -9223372036854775808:=by decide
 have hx:IntKind.i64.max=9223372036854775807:=by decide
 simp [Lit.wf,hm,hx];omega
theorem Map3.made (w:World):Map3 (w.alloc (.map #[] 0)) w.heap.size 0 fun _=>none:=
 ⟨_,World.ownsMap_made w _ _ _,fun k _=>⟨rfl,fun x h=>by cases h⟩⟩
theorem Map3.put {w:World} {M n x:Nat} {F:Nat×Nat×Nat→Option Nat} {k:Nat×Nat×Nat} (h:Map3 w M n F) (hn:n<maxLen) (h1:B3 k) (hx:x≤1048576):
  ∃w',(Instr.mapUpdate 220 (.map (some M)) (tv k) (.int .i64 (x:Int))).run Tryz.prog w= .ok () w'∧Map3 w' M (n+1) (fun k'=>if k'=k then some x else F k')∧w.mapTurned w' M:=by
 obtain ⟨D,hD,hF⟩:=h
 obtain ⟨w',hr,ho,ht⟩:=hD.store thr_keyed zfz hn (zem h1) (plainElem_int zdG (zlF hx))
 refine ⟨w',hr,⟨_,ho,fun k' g1=>?_⟩,ht⟩
 by_cases e:k'=k
 ·subst e
  simp only [if_true,Option.isSome_some,Option.some.injEq]
  exact ⟨Maps.has_put_same hD.isMap (zgO _) _,fun y hy z=>by subst hy;exact Maps.atKey_put_same hD.isMap (zgO _) _ z⟩
 ·simp only [if_neg e]
  have hne:tl3 k'≠tl3 k:=fun he=>e (zqT g1 h1 he)
  exact ⟨by rw [Maps.has_put_other hne];exact (hF k' g1).1,fun y hy z=>by rw [Maps.atKey_put_other hne];exact (hF k' g1).2 y hy z⟩
theorem zny (w:World):(zeroValue 3).run Tryz.prog w= .ok (.int .i64 0) w:=by
 kernel_rfl
theorem Map3.look {w:World} {M n:Nat} {F:Nat×Nat×Nat→Option Nat} {k:Nat×Nat×Nat} (h:Map3 w M n F) (h1:B3 k):
  (Instr.lookup 220 (.map (some M)) (tv k) true).run Tryz.prog w= .ok (.tuple #[.int .i64 (((F k).getD 0:Nat):Int),.bool (F k).isSome]) w:=by
 obtain ⟨D,hD,hF⟩:=h
 obtain ⟨v,ps,hr,hv⟩:=hD.look_ok thr_keyed zfz (zny w) (plainElem_int zdG (zlF (x:=0) (by omega))) (zem h1)
 obtain ⟨a,rfl,hz,-⟩:=plainElem_int_inv zdG hv
 simp only [Prod.mk.injEq] at hz
 rw [hr,(hF k h1).1]
 cases hk:F k with
 | none=>
  rw [Maps.atKey_of_not_has (by rw [(hF k h1).1,hk];rfl)] at hz
  simp at hz
  simp [←hz.1]
 | some x=>
  rw [(hF k h1).2 x hk] at hz
  simp at hz
  simp [←hz.1]
theorem Map3.turned {w w':World} {M n:Nat} {F:Nat×Nat×Nat→Option Nat} (h:Map3 w M n F) {T:Nat→Prop} (ht:Turns T w w') (hT:¬T M):Map3 w' M n F:=by
 obtain ⟨D,⟨es,clock,hb,r⟩,hF⟩:=h
 exact ⟨D,⟨es,clock,(ht.block M (zab hb) hT).trans hb,r⟩,hF⟩
theorem zmp {w w':World} {M:Nat} (h:w.mapTurned w' M):Turns (fun i=>i=M) w w':=Turns.of_grown h.grown (fun i e=>by cases e;rfl)
theorem zc4 (w:World) {ops:Array Oper} {rest:List Oper} {o:Oper} {a:Act} {Q:Exit→Act→World→Prop} (hg:o.guard=none) (m x v:Operand) (hop:o.op=Op.mapUpdate 220 m x v)
  (M n s:Nat) (k:Nat×Nat×Nat) (F:Nat×Nat×Nat→Option Nat) (hm:a.eval m= .map (some M)) (hown:Map3 w M n F) (hn:n<maxLen) (h1:B3 k) (hs:s≤1048576)
  (hx:a.eval x=tv k) (hv:a.eval v= .int .i64 (s:Int))
  (hK:∀w',Map3 w' M (n+1) (fun k'=>if k'=k then some s else F k')→Turns (fun i=>i=M) w w'→wpList Tryz.prog ops Q rest (a.put o.dst undef) w'):wpList Tryz.prog ops Q (o::rest) a w:=by
 refine wpList_plain hg fun K' hK'=>?_
 obtain ⟨w',hrun,r1,r2⟩:=hown.put (k:=k) hn h1 hs
 unfold Oper.wp
 simp [execOp,hop,hm,hx,hv,hrun,Result.andThen]
 exact hK' _ _ (hK w' r1 (zmp r2))
end
section
open Go.RowKit Go.Maps
def hv (x:Nat):Value:= .int .u16 (x:Int)
theorem zpD:∀l:List Nat,l.flatMap encH=l.map hv
 | []=>rfl
 | b::r=>by rw [List.flatMap_cons,zpD r];rfl
theorem zns:(Tryz.prog.info? 97).map (fun i=>(i.zero,i.size,i.bytes))=some (some (.int .u16 0),1,2):=by kernel_rfl
def hZ (n:Nat):Array Value:=((List.replicate n 0).map hv).toArray
theorem zmZ (n:Nat):madeCells #[Value.int .u16 0] n=hZ n:=by
 unfold hZ
 refine Array.ext (by simp [size_madeCells]) (fun i h1 h2=>?_)
 simp [madeCells,Nat.mod_one,hv]
theorem zmX (n:Nat) (hn:n≤1048576) (w:World):(Instr.makeSlice 204 (.int .i64 (n:Int)) (.int .i64 (n:Int))).run Tryz.prog w= .ok (.slice (some ⟨w.heap.size,0,none⟩) n n) (w.alloc (.cells (hZ n) 97)):=by
 obtain ⟨i,hi,hz,hs,hb⟩:=info_parts zns
 have h:=run_make (P:=Tryz.prog) w 204 97 i _ Tryz.underlying204 hi hz .i64 .i64 (n:Int) (n:Int) (by omega) (Int.le_refl _) (by rw [hb];omega) (by omega)
 rw [h]
 simp only [Int.toNat_natCast,hs,Nat.mul_one]
 rw [show (Value.int IntKind.u16 0).cells=#[Value.int .u16 0] from rfl,zmZ]
theorem zrI (ts:Array TypeId) (t:TypeId) (k k':IntKind) (x y:Int) (w:World):(Builtin.max_ ts t #[.int k x,.int k' y]).run Tryz.prog w= .ok (.int k (max x y)) w:=by
 rw [run_max_int2];congr 2;split<;>omega
theorem zkW (A:List Nat) (k h:Nat):(A.map hv).set k (.int .u16 (h:Int))=(A.set k h).map hv:=(List.map_set (f:=hv)).symm
theorem zjG {A:List Nat} {k h:Nat} (hk:k<A.length):fb (A.set k h) k=h:=by simp [fb,List.getD_eq_getElem?_getD,hk]
theorem zgV {A:List Nat} {k h p:Nat} (hp:p≠k):fb (A.set k h) p=fb A p:=by
 simp [fb,List.getD_eq_getElem?_getD,List.getElem?_set_ne (Ne.symm hp)]
structure StJ (w0:World) (vb:Value) (l:List Nat) (N k:Nat) (w:World):Prop where
 ex:∃(A:List Nat) (F:Nat×Nat×Nat→Option Nat),A.length=N∧w.ownsRow (w0.heap.size+1) 97 1 (.slice (some ⟨w0.heap.size+1,0,none⟩) N N) N (A.map hv)∧(∀p,p<k→IsAhead (fb l) p (fb A p))∧(∀p,k≤p→fb A p=0)∧LastF (fb l) k F∧Map3 w w0.heap.size k F
 row:Row enc8 1 w vb l
 below:Below w0.heap.size w0 w
theorem StJ.step {w0:World} {vb:Value} {l:List Nat} {N k h:Nat} {w w1 w2 w3:World} {A:List Nat} {F:Nat×Nat×Nat→Option Nat} (hvb:∀b,vb.ownBlock=some b→b<w0.heap.size)
  (hA:A.length=N) (hk:k<N) (hown:w.ownsRow (w0.heap.size+1) 97 1 (.slice (some ⟨w0.heap.size+1,0,none⟩) N N) N (A.map hv)) (h1:∀p,p<k→IsAhead (fb l) p (fb A p)) (h2:∀p,k≤p→fb A p=0) (h3:LastF (fb l) k F)
  (hrow:Row enc8 1 w vb l) (hb:Below w0.heap.size w0 w) (hb1:Below w.heap.size w w1) (hst:(h=0∧w2=w1)∨w2=w1.setCell ⟨w0.heap.size+1,k,none⟩ (.int .u16 (h:Int))) (hh:h=zdk F (fb l) k)
  (hm:Map3 w3 w0.heap.size (k+1) (fun k'=>if k'=(fb l k,fb l (k+1),fb l (k+2)) then some k else F k')) (ht:Turns (fun i=>i=w0.heap.size) w2 w3):StJ w0 vb l N (k+1) w3:=by
 have ho1:=(Turns.of_below' (T:=fun _=>False) hb1).owns hown (fun _ _ h=>h)
 have ht1:Turns (fun i=>i=w0.heap.size+1) w1 w2:=by
  rcases hst with ⟨-,rfl⟩ | rfl
  ·exact Turns.refl _ _
  ·exact Turns.set (T:=fun i=>i=w0.heap.size+1) (Turns.refl _ _) (p:=⟨w0.heap.size+1,k,none⟩) rfl _
 have hset:A.set k h=A.set k (zdk F (fb l) k):=by rw [hh]
 have ho2:w2.ownsRow (w0.heap.size+1) 97 1 (.slice (some ⟨w0.heap.size+1,0,none⟩) N N) N ((A.set k h).map hv):=by
  rcases hst with ⟨e,rfl⟩ | rfl
  ·have:A.set k h=A:=by
    refine List.ext_getElem (by simp) (fun i i1 i2=>?_)
    by_cases e':i=k
    ·subst e'
     have:=h2 i (Nat.le_refl _)
     rw [zfB (by omega)] at this
     simp [e,this]
    ·rw [List.getElem_set_ne (fun h=>e' h.symm)]
   rw [this];exact ho1
  ·have:=ziW ho1 k (.int .u16 (h:Int))
   rwa [zkW] at this
 have ho3:=ht.owns ho2 (fun b hb e=>by cases hb;simp at e)
 have hbw1:=Below.thn hb hb1
 have hbw2:=hbw1.trans (ht1.below hbw1.size (fun i hi=>by omega))
 have hbw3:=hbw2.trans (ht.below hbw2.size (fun i hi=>by omega))
 refine ⟨⟨A.set k h,_,by simpa using hA,ho3,fun p hp=>?_,fun p hp=>?_,h3.put,hm⟩,?_,hbw3⟩
 ·by_cases e:p=k
  ·subst e
   rw [zjG (by omega),hh]
   exact h3.hop
  ·rw [zgV e];exact h1 p (by omega)
 ·rw [zgV (by omega)];exact h2 p (by omega)
 ·refine ((hrow.below hb1).turns ht1 (fun b hb e=>?_)).turns ht (fun b hb e=>?_)
  ·have:=hvb b hb;omega
  ·have:=hvb b hb;omega
end
section
open Go.RowKit Go.Maps
set_option maxRecDepth 20000 in
set_option maxHeartbeats 20000000 in
theorem zmO (l:List Nat) (vb:Value) (w:World) (hvr:Row enc8 1 w vb l) (hby:∀b∈l,b<256) (hl:l.length≤1048576):
  Calls Tryz.prog 139 #[vb] w fun e w'=> ∃(v':Value) (A:List Nat),e= .returned v'∧A.length=l.length - 2∧w'.ownsRow w.heap.size 97 1 v' A.length (A.map hv)∧(∀p,p<A.length→IsAhead (fb l) p (fb A p))∧Below w.heap.size w w':=by
 have Hv:=Lib.hid hvr
 have Hby:=Lib.hid (zpB hby)
 have HvB:Hid (∀g,vb.ownBlock=some g→g<w.heap.size):=Lib.hid (fun g hg=>by
  obtain ⟨p,c,rfl,-,-,h⟩:=hvr
  rcases h with ⟨rfl,-⟩ | ⟨b,off,rfl,h,-⟩
  ·cases hg
  ·cases hg;exact h)
 obtain ⟨p,c,rfl,-,-,-⟩:=hvr
 obtain ⟨N,hN⟩:∃N,l.length - 2=N:=⟨_,rfl⟩
 rw [hN]
 have HN:=Lib.hid hN
 have hN1:N≤1048576:=by omega
 have em:∀(ts:Array TypeId) (t:TypeId) (w:World),(Builtin.max_ ts t #[.int .i64 0,.int .i64 ((l.length:Int) - 3+1)]).run Tryz.prog w= .ok (.int .i64 (N:Int)) w:=fun ts t w=>by
  rw [zrI,show max (0:Int) ((l.length:Int) - 3+1)=(N:Int) by omega]
 have hmk:=zmX N hN1
 have hmm:=run_makeMap (P:=Tryz.prog) 220 w
 have HJ0:Hid (StJ w (.slice p l.length c) l N 0 ((w.alloc (.map #[] 0)).alloc (.cells (hZ N) 97))):=Lib.hid (by
  have hb:=Below.al2 w (.map #[] 0) (.cells (hZ N) 97)
  refine ⟨⟨List.replicate N 0,fun _=>none,by simp,?_,fun p h=>by omega,fun p _=>?_,LastF.start _,?_⟩,Hv.out.below hb,hb⟩
  ·have:=World.ownsRow_lit (base:=w.heap.size+1) (size:=1) (e:=97) (w.alloc (.map #[] 0)) (hZ N) N (by simp) (by simp only [maxLen];omega) (by simp [hZ])
   rw [show (hZ N).toList=(List.replicate N 0).map hv from rfl] at this
   simpa using this
  ·unfold fb
   rw [List.getD_eq_getElem?_getD,List.getElem?_replicate]
   split<;>rfl
  ·exact (Map3.made w).turned (T:=fun _=>False) ((Turns.refl _ _).alloc _) (fun h=>h))
 have Hlc:Hid (l.length≤c∧c≤maxLen):=Lib.hid (by
  obtain ⟨p',c',e,k1,k2,-⟩:=Hv.out
  cases e
  exact ⟨k1,k2⟩)
 clear hN
 go_enter Tryz.func139,Tryz.ntmps139
 go_wp2_with fail
 go_loopw [18] (fun kv wr=> ∃k:Nat,kv= .int .i64 (k:Int)∧k≤N∧Hid (StJ w (.slice p l.length c) l N k wr)) (fun kv _=>N - (intOf kv).toNat)
 case atStart=>exact ⟨0,rfl,Nat.zero_le _,HJ0⟩
 case round=>
  obtain ⟨k,rfl,hk,HJ⟩:=hrel
  by_cases hlt:k<N
  ·obtain ⟨A,F,hA,hown,h1,h2,h3,hm⟩:=HJ.out.ex
   have d0:decide ((k:Int)<(N:Int))=true:=by simp;omega
   have hvx:=HJ.out.row
   obtain ⟨pp,cc,e,-,-,hrow⟩:=hvx
   cases e
   obtain ⟨g,off,rfl,hx⟩:=hrow.byteF (k:=k) (by have:=HN.out;omega)
   obtain ⟨g',off',e,hy⟩:=hrow.byteF (k:=k+1) (by have:=HN.out;omega)
   cases e
   obtain ⟨g',off',e,hz⟩:=hrow.byteF (k:=k+2) (by have:=HN.out;omega)
   cases e
   have hb3:=Hby.out
   have hB3:B3 (fb l k,fb l (k+1),fb l (k+2)):=⟨hb3 _,hb3 _,hb3 _⟩
   have Hall:=Lib.hid (And.intro hA (And.intro hown (And.intro h1 (And.intro h2 (And.intro h3 (And.intro hrow hm))))))
   obtain ⟨o,ho⟩:∃o,F (fb l k,fb l (k+1),fb l (k+2))=o:=⟨_,rfl⟩
   obtain ⟨h,hh⟩:∃h,zdk F (fb l) k=h:=⟨_,rfl⟩
   have Ho:=Lib.hid (And.intro ho hh)
   obtain ⟨x,hxx⟩:∃x,fb l k=x:=⟨_,rfl⟩
   obtain ⟨y,hyy⟩:∃y,fb l (k+1)=y:=⟨_,rfl⟩
   obtain ⟨z,hzz⟩:∃z,fb l (k+2)=z:=⟨_,rfl⟩
   rw [hxx] at hx hB3
   rw [hyy] at hy hB3
   rw [hzz] at hz hB3
   have Hxyz:=Lib.hid (show (fb l k,fb l (k+1),fb l (k+2))=(x,y,z) by rw [hxx,hyy,hzz])
   have HB3:=Lib.hid hB3
   obtain ⟨k1,hk1⟩:∃k1,k+1=k1:=⟨_,rfl⟩
   obtain ⟨k2,hk2⟩:∃k2,k+2=k2:=⟨_,rfl⟩
   rw [hk1] at hy
   rw [hk2] at hz
   have hkb1:k1≤2097152:=by omega
   have hkb2:k2≤2097152:=by omega
   have hw1:IntKind.i64.wrap (k1:Int)=(k1:Int):=IntWalk.i64_in _ (by omega)
   have hw2:IntKind.i64.wrap (k2:Int)=(k2:Int):=IntWalk.i64_in _ (by omega)
   have e1:(k:Int)+1=(k1:Int):=by omega
   have e2:(k:Int)+2=(k2:Int):=by omega
   have i0:(0:Int)≤(k:Int):=by omega
   have i1:(k:Int)<(l.length:Int):=by have:=HN.out;omega
   have i2:(0:Int)≤(k1:Int):=by omega
   have i3:(k1:Int)<(l.length:Int):=by have:=HN.out;omega
   have i4:(0:Int)≤(k2:Int):=by omega
   have i5:(k2:Int)<(l.length:Int):=by have:=HN.out;omega
   have Hk12:=Lib.hid (And.intro hk1 hk2)
   clear hk1 hk2 hxx hyy hzz ho hh hA hown h1 h2 h3 hm hrow hB3 hb3
   go_upto_region 6 with (fail)
   have hq:=After.ne wr
   have r0:=After.rule hx
   have r1:=After.rule hy
   have r2:=After.rule hz
   refine zgg 15 _ (.cells #[.int .u8 0,.int .u8 0,.int .u8 0] 221) (by kernel_rfl) (by kernel_rfl) (by kernel_rfl) rfl rfl (by intro a w;go_simp) ?_
   repeat (refine zaK (fun K hK=>?_);go_simp;(refine hK _ ?_;clear hK K))
   refine zbd ?_
   intro B w5 hB hb5 hz5
   have Hw5:Hid (Below wr.heap.size wr (((w5.setCell ⟨B,0,none⟩ (.int .u8 (x:Int))).setCell ⟨B,1,none⟩ (.int .u8 (y:Int))).setCell ⟨B,2,none⟩ (.int .u8 (z:Int)))):=Lib.hid (((hb5.setCell hB _).setCell hB _).setCell hB _)
   have hs5:=zco (.int .u8 (x:Int)) (.int .u8 (y:Int)) (.int .u8 (z:Int)) hz5
   have f0:w5.frozen? ⟨B,0,none⟩=false:=by simp [World.frozen?,hz5]
   have f1:w5.frozen? ⟨B,1,none⟩=false:=by simp [World.frozen?,hz5]
   have f2:w5.frozen? ⟨B,2,none⟩=false:=by simp [World.frozen?,hz5]
   have g0:w5.cell? ⟨B,0,none⟩=some (.int .u8 0):=zaa hz5 rfl
   have g1:w5.cell? ⟨B,1,none⟩=some (.int .u8 0):=zaa hz5 rfl
   have g2:w5.cell? ⟨B,2,none⟩=some (.int .u8 0):=zaa hz5 rfl
   clear hq r0 r1 r2 hb5 hz5 hx hy hz
   go_upto_region 7 with (fail)
   obtain ⟨W5,hW5⟩:∃W5,(((w5.setCell ⟨B,0,none⟩ (.int .u8 (x:Int))).setCell ⟨B,1,none⟩ (.int .u8 (y:Int))).setCell ⟨B,2,none⟩ (.int .u8 (z:Int)))=W5:=⟨_,rfl⟩
   rw [hW5] at Hw5 hs5 ⊢
   have HW5:=Hw5
   have q0:W5.cell? ⟨B,0,none⟩=some (.int .u8 (x:Int)):=zaa hs5 rfl
   have q1:W5.cell? ⟨B,1,none⟩=some (.int .u8 (y:Int)):=zaa hs5 rfl
   have q2:W5.cell? ⟨B,2,none⟩=some (.int .u8 (z:Int)):=zaa hs5 rfl
   have Hs5:=Lib.hid (And.intro hs5 hB)
   have HM5:=Lib.hid (Hall.out.2.2.2.2.2.2.turned (T:=fun _=>False) (Turns.of_below' HW5.out) (fun h=>h))
   have Hown5:=Lib.hid ((Turns.of_below' (T:=fun _=>False) HW5.out).owns Hall.out.2.1 (fun _ _ h=>h))
   have hlook:=HM5.out.look HB3.out
   unfold tv at hlook
   rw [show F (x,y,z)=o by rw [←Hxyz.out];exact Ho.out.1] at hlook
   clear f0 f1 f2 g0 g1 g2 hW5 hs5 hB
   cases o with
   | none=>
    have h0:h=0:=by rw [←Ho.out.2];unfold zdk;rw [Ho.out.1]
    go_wp2_with (refine zc4 _ rfl _ _ _ rfl w.heap.size k k (x,y,z) F rfl HM5.out (by simp only [maxLen];omega) HB3.out (by omega) rfl rfl ?_)
    intro w8 hm8 ht8
    have HJ8:=Lib.hid (StJ.step (h:=h) HvB.out Hall.out.1 hlt Hall.out.2.1 Hall.out.2.2.1 Hall.out.2.2.2.1 Hall.out.2.2.2.2.1 ⟨_,_,rfl,Hlc.out.1,Hlc.out.2,Hall.out.2.2.2.2.2.1⟩ HJ.out.below HW5.out (.inl ⟨h0,rfl⟩) Ho.out.2.symm (by rw [Hxyz.out];exact hm8) ht8)
    clear hm8 ht8
    go_wp2
    go_roundw
    case rel=>exact ⟨k+1,by go_num,by omega,HJ8⟩
    case measure=>simp [intOf];omega
   | some u=>
    obtain ⟨hu,-,-⟩:=Hall.out.2.2.2.2.1.is _ u Ho.out.1
    obtain ⟨d,hd⟩:∃d,k - u=d:=⟨_,rfl⟩
    have ed:(k:Int) - (u:Int)=(d:Int):=by omega
    have hu0:u≤1048576:=by omega
    have hd0:d≤1048576:=by omega
    have hho:h=if d≤32768 then d else 0:=by
     rw [←Ho.out.2];unfold zdk;rw [Ho.out.1];simp only [hd]
    by_cases hdl:d≤32768
    ·rw [if_pos hdl] at hho
     subst hho
     have d1:decide ((h:Int)≤32768)=true:=by simp;omega
     have hw3:IntKind.u16.wrap (h:Int)=(h:Int):=by rw [IntKind.wrap_u16];omega
     obtain ⟨g3,c3,e3,-,-,hc3,hf3⟩:=zq8 Hown5.out (i:=k) (u:=hv (fb A k)) (by rw [List.getElem?_map,List.getElem?_eq_getElem (by have:=Hall.out.1;omega),zfB (by have:=Hall.out.1;omega)];rfl)
     cases e3
     have HM6:=Lib.hid (HM5.out.turned (Turns.set (T:=fun i=>i=w.heap.size+1) (Turns.refl _ W5) (p:=⟨w.heap.size+1,k,none⟩) rfl (.int .u16 (h:Int))) (by omega))
     have i6:(k:Int)<(N:Int):=by omega
     have p0:=zaa (b:=B) (i:=0) Hs5.out.1 rfl
     have Hq:Hid ((W5.setCell ⟨w.heap.size+1,k,none⟩ (.int .u16 (h:Int))).heap[B]? =some (.cells #[.int .u8 (x:Int),.int .u8 (y:Int),.int .u8 (z:Int)] 221)):=Lib.hid ((Below.heap_setCell _ _ _ _ (fun e=>by
      have h1:=(Hown5.out.lt (w.heap.size+1) rfl).2
      have h2:=(Hall.out.2.1.lt (w.heap.size+1) rfl).2
      have h3:=Hs5.out.2
      simp only at e
      omega)).trans Hs5.out.1)
     have s0:=zaa (i:=0) Hq.out rfl
     have s1:=zaa (i:=1) Hq.out rfl
     have s2:=zaa (i:=2) Hq.out rfl
     clear hd p0
     go_wp2_with (refine zc4 _ rfl _ _ _ rfl w.heap.size k k (x,y,z) F rfl HM6.out (by simp only [maxLen];omega) HB3.out (by omega) rfl rfl ?_)
     intro w8 hm8 ht8
     have HJ8:=Lib.hid (StJ.step (h:=h) HvB.out Hall.out.1 hlt Hall.out.2.1 Hall.out.2.2.1 Hall.out.2.2.2.1 Hall.out.2.2.2.2.1 ⟨_,_,rfl,Hlc.out.1,Hlc.out.2,Hall.out.2.2.2.2.2.1⟩ HJ.out.below HW5.out (.inr rfl) Ho.out.2.symm (by rw [Hxyz.out];exact hm8) ht8)
     clear hm8 ht8
     go_wp2
     go_roundw
     case rel=>exact ⟨k+1,by go_num,by omega,HJ8⟩
     case measure=>simp [intOf];omega
    ·rw [if_neg hdl] at hho
     have d1:decide ((d:Int)≤32768)=false:=by simp;omega
     clear hd
     go_wp2_with (refine zc4 _ rfl _ _ _ rfl w.heap.size k k (x,y,z) F rfl HM5.out (by simp only [maxLen];omega) HB3.out (by omega) rfl rfl ?_)
     intro w8 hm8 ht8
     have HJ8:=Lib.hid (StJ.step (h:=h) HvB.out Hall.out.1 hlt Hall.out.2.1 Hall.out.2.2.1 Hall.out.2.2.2.1 Hall.out.2.2.2.2.1 ⟨_,_,rfl,Hlc.out.1,Hlc.out.2,Hall.out.2.2.2.2.2.1⟩ HJ.out.below HW5.out (.inl ⟨hho,rfl⟩) Ho.out.2.symm (by rw [Hxyz.out];exact hm8) ht8)
     clear hm8 ht8
     go_wp2
     go_roundw
     case rel=>exact ⟨k+1,by go_num,by omega,HJ8⟩
     case measure=>simp [intOf];omega
  ·obtain rfl:k=N:=by omega
   have d0:decide ((k:Int)<(k:Int))=false:=by simp
   go_wp2_with fail
   go_ret
   obtain ⟨A,F,hA,hown,h1,h2,h3,hm⟩:=HJ.out.ex
   subst hA
   exact ⟨_,A,rfl,rfl,zao hown (show w.heap.size≤w.heap.size+1 by omega),h1,HJ.out.below⟩
end
section
open Go.RowKit Go.Maps
theorem znO:(Tryz.prog.info? 209).map (fun i=>(i.zero,i.size,i.bytes))=some (some (.agg #[.int .u8 0,.int .i64 0,.int .i64 0]),3,24):=by kernel_rfl
theorem zdV {P:Program} (w:World) {ops:Array Oper} {rest:List Oper} {o:Oper} {a:Act} {Q:Exit→Act→World→Prop} (hgd:o.guard=none) (s x:Operand) (t:TypeId)
  (ho:o.op= .call { callee:= .builtin .append,args:=#[s,x],argTypes:=#[t,t]})
  (base:Nat) (e:TypeId) (z:Value) (bytes:Nat) (hinfo:(P.info? e).map (fun i=>(i.zero,i.size,i.bytes))=some (some z,3,bytes)) (ht:P.underlying t=some (.slice e)) (hzs:z.cells.size=3)
  (v:Value) (n:Nat) (xs:List Value) (hs:a.eval s=v) (hown:w.ownsRow base e 3 v n xs) (u u2 u3:Value) (te:TypeId) (hx:a.eval x= .slice (some ⟨w.heap.size,0,none⟩) 1 1) (hu:u.oneCell'=true) (hu2:u2.oneCell'=true) (hu3:u3.oneCell'=true)
  (h63:n+1≤maxLen) (hbytes:(n+1)*bytes≤140737488355328) (hbase:base≤w.heap.size)
  (h:∀g cap w',w'.ownsRow base e 3 (.slice (some ⟨g,0,none⟩) (n+1) cap) (n+1) (xs++[u,u2,u3])→Turns (fun b=>v.ownBlock=some b) w w'→(v.ownBlock=some g∨w.heap.size≤g)→wpList P ops Q rest (a.put o.dst (.slice (some ⟨g,0,none⟩) (n+1) cap)) w'):
  wpList P ops Q (o::rest) a (w.alloc (.cells #[u,u2,u3] te)):=by
 obtain ⟨i,hi,hz,hsz,hby⟩:=info_parts hinfo
 refine zai (P:=P) (w.alloc (.cells #[u,u2,u3] te)) hgd s x t ho base e i z 3 bytes ht hi hz hsz hby hzs (by decide) v n xs hs (hown.alloc _) (some ⟨w.heap.size,0,none⟩) 1 1 [u,u2,u3] hx rfl (.inr ⟨_,rfl,zbm (c:=[u,u2,u3])⟩)
  (fun q hq=>by
   rcases List.mem_cons.1 hq with rfl | hq
   ·exact hu
   rcases List.mem_cons.1 hq with rfl | hq
   ·exact hu2
   ·rcases List.mem_singleton.1 hq with rfl;exact hu3) h63 hbytes (by rw [World.size_alloc];omega) ?_
 intro v' w' h2 h3 h4
 rcases h2.2 with ⟨-,h0⟩ | ⟨g,cap,cur,rfl,-⟩
 ·omega
 ·refine h g cap w' h2 ?_ ?_
  ·exact (Turns.of_below' (Below.al1 w _)).trans (Turns.of_grown h3 (fun _ h=>h))
  ·rcases h4 g rfl with h | h
   ·exact .inl h
   ·rw [World.size_alloc] at h
    exact .inr (by omega)
def OwnT (w:World) (base:Nat) (v:Value) (ts:List Tk):Prop:=w.ownsRow base 209 3 v ts.length (ts.flatMap encT)
theorem Row.ownH {w:World} {base:Nat} {v:Value} {A:List Nat} (h:w.ownsRow base 97 1 v A.length (A.map hv)):Row encH 1 w v A:=by
 rw [←zpD] at h
 exact zbT zo9 h
theorem IsTok.byte {f:Nat→Nat} {N a:Nat} {t:Tk} (h:IsTok f N a t) (hf:∀i,f i<256):t.b<256:=by
 rcases h with ⟨rfl,-⟩ | ⟨n,d,rfl,-⟩
 ·exact hf a
 ·show 0<256;omega
theorem IsTok.small {f:Nat→Nat} {N a:Nat} {t:Tk} (h:IsTok f N a t):t.n≤258:=by
 rcases h with ⟨rfl,-⟩ | ⟨n,d,rfl,h1,h2,h3,h4,h5,-⟩
 ·show (0:Int)≤258;omega
 ·have:=h5.le
  unfold mo at this
  show (n:Int)≤258;omega
set_option maxRecDepth 20000 in
set_option maxHeartbeats 8000000 in
theorem znx (l:List Nat) (vb:Value) (w:World) (hvr:Row enc8 1 w vb l) (hby:∀b∈l,b<256) (hl:l.length≤1048576):
  Calls Tryz.prog 125 #[vb] w fun e w'=> ∃(v':Value) (ts:List Tk),e= .returned v'∧OwnT w' w.heap.size v' ts∧Toks (fb l) l.length 0 ts∧Below w.heap.size w w':=by
 have Hv:=Lib.hid hvr
 obtain ⟨p,c,rfl,-,-,-⟩:=hvr
 go_enter Tryz.func125,Tryz.ntmps125
 go_wp2_with fail
 refine Calls.mono (zmO l _ w Hv.out hby hl) ?_
 rintro e w1 ⟨va,A,rfl,hA,hown,hah,hb1⟩
 obtain ⟨pa,ca,rfl⟩:=zac hown
 obtain ⟨W,hW⟩:∃W,w1.alloc (.cells #[.slice p l.length c,.slice pa A.length ca] 207)=W:=⟨_,rfl⟩
 have hbW:Below w1.heap.size w1 W:=by rw [←hW];exact Below.al1 w1 _
 have hS:W.heap[w1.heap.size]? =some (.cells #[.slice p l.length c,.slice pa A.length ca] 207):=by
  rw [←hW]
  exact (zag [.cells #[.slice p l.length c,.slice pa A.length ca] 207] w1 0 _).2 rfl
 have HvW:=Lib.hid (Hv.out.below (Below.thn hb1 hbW))
 have HaW:=Lib.hid ((Row.ownH hown).below hbW)
 have HS:=Lib.hid hS
 have HbW:=Lib.hid (Below.thn hb1 hbW)
 have HW:=Lib.hid hW
 have Hah:=Lib.hid (And.intro hA hah)
 have HsW:Hid (w1.heap.size<W.heap.size):=Lib.hid (zab hS)
 clear hb1 hbW hS hown hA hah hW
 go_wp2_with fail
 rw [HW.out]
 go_loopw [4,5] (fun lv av wr=> ∃(a:Nat) (ts:List Tk),av= .int .i64 (a:Int)∧a≤l.length∧ts.length≤a∧Hid (OwnT wr W.heap.size lv ts)∧Hid (ToksTo (fb l) l.length a ts)∧Hid (Below W.heap.size W wr)) (fun _ av _=>l.length - (intOf av).toNat)
 case atStart=>exact ⟨0,[],rfl,Nat.zero_le _,Nat.le_refl _,Lib.hid (World.ownsRow_nil _ _ _ _),Lib.hid .nil,Lib.hid (Below.refl _ _)⟩
 case round=>
  obtain ⟨a,ts,rfl,ha,hts,HO,HT,HB⟩:=hrel
  by_cases hlt:a<l.length
  ·have d0:decide ((a:Int)<(l.length:Int))=true:=by simp;omega
   have c0:=cell_later HB.out (zaa (i:=0) HS.out rfl)
   have c1:=cell_later HB.out (zaa (i:=1) HS.out rfl)
   obtain ⟨po,co,rfl⟩:=zac HO.out
   obtain ⟨q,hq⟩:∃q,ts.length=q:=⟨_,rfl⟩
   have HO2:Hid (wr.ownsRow W.heap.size 209 3 (.slice po q co) q (ts.flatMap encT)):=Lib.hid (by rw [←hq];exact HO.out)
   have Hq:=Lib.hid hq
   rw [hq] at hts ⊢
   clear HO hq
   go_wp2_with fail
   refine Calls.mono (znv l A _ _ a wr (HvW.out.below HB.out) (HaW.out.below HB.out) Hah.out.1 Hah.out.2 hlt hl) ?_
   rintro e w2 ⟨t,rfl,htok,hb2⟩
   have Htok:=Lib.hid htok
   have HB2:=Lib.hid (Below.thn HB.out hb2)
   have HO3:=Lib.hid ((Turns.of_below' (T:=fun _=>False) hb2).owns HO2.out (fun _ _ h=>h))
   have hs1:W.heap.size≤w2.heap.size:=HB2.out.size
   have hsml:=htok.small
   have hpos:=htok.size_pos
   have hfit:=htok.fits hlt
   obtain ⟨tb,tn,td⟩:=t
   obtain ⟨z,hz⟩:∃z,Tk.size ⟨tb,tn,td⟩=z:=⟨_,rfl⟩
   rw [hz] at hpos hfit
   have Hz:=Lib.hid hz
   simp only at hsml
   unfold tkV
   simp only
   clear htok hb2 hz HO2 c0 c1
   have hc:(w2.alloc (.cells #[.int .u8 (tb:Int),.int .i64 tn,.int .i64 td] 209)).heap[w2.heap.size]? =some (.cells #[.int .u8 (tb:Int),.int .i64 tn,.int .i64 td] 209):=(zag [.cells #[.int .u8 (tb:Int),.int .i64 tn,.int .i64 td] 209] w2 0 _).2 rfl
   have hb23:=Below.al1 w2 (.cells #[.int .u8 (tb:Int),.int .i64 tn,.int .i64 td] 209)
   go_upto_region 6 with (fail)
   generalize w2.alloc (.cells #[.int .u8 (tb:Int),.int .i64 tn,.int .i64 td] 209)=W3 at *
   have HO4:=Lib.hid ((Turns.of_below' (T:=fun _=>False) hb23).owns HO3.out (fun _ _ h=>h))
   have HB3:=Lib.hid (Below.thn HB2.out hb23)
   have hs2:W.heap.size≤W3.heap.size:=HB3.out.size
   have x0:W3.cell? ⟨w2.heap.size,0,none⟩=some (.int .u8 (tb:Int)):=zaa hc rfl
   have x1:W3.cell? ⟨w2.heap.size,1,none⟩=some (.int .i64 tn):=zaa hc rfl
   have x2:W3.cell? ⟨w2.heap.size,2,none⟩=some (.int .i64 td):=zaa hc rfl
   have Hc:=Lib.hid (And.intro hc hb23)
   clear hc hb23
   go_wp2_with (at_builtin;refine zdV W3 rfl (.tmp 18) (.tmp 20) 177 rfl W.heap.size 209 _ 24 znO Tryz.underlying177 rfl (.slice po q co) q (ts.flatMap encT) rfl HO4.out (.int .u8 (tb:Int)) (.int .i64 tn) (.int .i64 td) _ rfl rfl rfl rfl ?n3 ?n4 hs2 ?_)
   case n3=>simp only [maxLen];omega
   case n4=>omega
   intro g1 cap1 w5 ho1 ht1 hg1
   have HB5:=Lib.hid (HB3.out.trans (ht1.below hs2 (fun k hk=>(HO4.out.lt k hk).1)))
   have hc5:=(ht1.block w2.heap.size (zab Hc.out.1) (fun e=>by
    have:=(HO3.out.lt w2.heap.size e).2
    omega)).trans Hc.out.1
   have x0:w5.cell? ⟨w2.heap.size,0,none⟩=some (.int .u8 (tb:Int)):=zaa hc5 rfl
   have x1:w5.cell? ⟨w2.heap.size,1,none⟩=some (.int .i64 tn):=zaa hc5 rfl
   have x2:w5.cell? ⟨w2.heap.size,2,none⟩=some (.int .i64 td):=zaa hc5 rfl
   have HO5:Hid (OwnT w5 W.heap.size (.slice (some ⟨g1,0,none⟩) (q+1) cap1) (ts++[⟨tb,tn,td⟩])):=Lib.hid (by
    unfold OwnT
    rw [List.length_append,Hq.out,List.flatMap_append]
    exact ho1)
   have HT5:Hid (ToksTo (fb l) l.length (a+z) (ts++[⟨tb,tn,td⟩])):=Lib.hid (by rw [←Hz.out];exact .snoc HT.out hlt Htok.out)
   have Hlen:Hid ((ts++[(⟨tb,tn,td⟩:Tk)]).length=q+1):=Lib.hid (by rw [List.length_append,Hq.out];rfl)
   clear hc5 ho1 ht1 hg1 HO3 HO4 hs2 Hc HB3
   go_wp2_with fail
   refine Calls.mono (zou ⟨tb,tn,td⟩ w5 (by show tn≤1000;omega)) ?_
   rintro e w6 ⟨rfl,hb6⟩
   rw [Hz.out]
   have HB6:=Lib.hid (HB5.out.trans (hb6.mono HB5.out.size))
   have HO6:=Lib.hid (show OwnT w6 W.heap.size _ _ from (Turns.of_below' (T:=fun _=>False) hb6).owns HO5.out (fun _ _ h=>h))
   have ez:(a:Int)+(z:Int)=((a+z:Nat):Int):=by omega
   obtain ⟨az,haz⟩:∃az,a+z=az:=⟨_,rfl⟩
   rw [haz] at HT5 hfit ez
   have haz2:a<az:=by omega
   clear hb6 x0 x1 x2 haz HB5 HO5
   go_wp2_with fail
   go_roundw
   case rel=>exact ⟨az,ts++[⟨tb,tn,td⟩],rfl,hfit,by rw [Hlen.out];omega,HO6,HT5,HB6⟩
   case measure=>simp [intOf];omega
  ·obtain rfl:a=l.length:=by omega
   have d0:decide ((l.length:Int)<(l.length:Int))=false:=by simp
   go_wp2_with fail
   go_ret
   exact ⟨_,ts,rfl,zao HO.out HbW.out.size,HT.out.all,HbW.out.trans (HB.out.mono HbW.out.size)⟩
end
section
open Go.RowKit
end
end Go.Proofs.YtedakhgaghfogaaGreat
