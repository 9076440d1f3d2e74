/- Several texts in one, each with its own head. -/
import Derived.Test.YtedakhgaghfogaaGreatQs10
import Derived.Maps.OwnSet
import Derived.Maps.OwnOps
import Derived.DeepKeys4
import Derived.StillTailTactics
import Derived.Test.YtedakhgaghfogaaGreatQs7
namespace Go.Proofs.YtedakhgaghfogaaGreat
section
open Go.RowKit Go.Maps
set_option maxRecDepth 100000
def ck (k:Nat×Nat):Value:= .agg #[.int .u16 (k.1:Int),.int .u16 (k.2:Int)]
noncomputable def codeFields:Array Field:=match Tryz.prog.underlying 277 with | some (.struct fs)=>fs | _=>#[]
theorem zdt:Tryz.prog.underlying 277=some (.struct codeFields):=by kernel_rfl
theorem zjd:codeFields.toList.map (fun f=>(f.type,f.offset))=[(97,0),(97,1)]:=by kernel_rfl
theorem zk3:codeFields.all (·.name != "_")=true:=by kernel_rfl
theorem zfC:Tryz.prog.cellsOf 277=2:=by kernel_rfl
theorem zmq:Tryz.prog.cellsOf 97=1:=by kernel_rfl
theorem zmt:Tryz.prog.keyType 277=true:=by kernel_rfl
theorem zmK:Tryz.prog.types.size=Tryz.prog.types.size - 1+1:=by kernel_rfl
theorem zm4:laidOutB Tryz.prog=true:=by kernel_rfl
theorem zoc:(277:TypeId)<Tryz.prog.types.size:=of_decide_eq_true (by kernel_rfl)
theorem zmc:(match Tryz.prog.underlying 277 with | some (.array _ _) | some (.struct _)=>true | _=>false)=true:=by rw [zdt]
theorem zlk:Tryz.prog.keyTypeAt 2 277=true:=by kernel_rfl
theorem zoG:WideMaps.KeyLaw Tryz.prog 277:=deep_law_laid zm4 (m:=2) (by omega) zoc zlk zmc
theorem code_keyed:Keyed Tryz.prog 277:=Keyed.of_law zoG
theorem zjy {c0 c1:Value}:(Value.agg #[c0,c1]).formed Tryz.prog 277=true:=by
 simp [Value.formed,zfC]
theorem wf_u16 {a:Nat} (h:a<65536):(Lit.int .u16 (a:Int)).wf=true:=by
 have hm:IntKind.u16.min=0:=by decide
 have hx:IntKind.u16.max=65535:=by decide
 simp [Lit.wf,hm,hx];omega
theorem zkk {a:Nat} (h:a<65536) (d:Nat):Tryz.prog.keyLits (d+1) 97 [.int .u16 (a:Int)]=some [.int .u16 (a:Int)]:=by
 have hu:Tryz.prog.underlying 97=some (.int .u16):=by kernel_rfl
 unfold Program.keyLits
 rw [hu]
 simp [wf_u16 h]
def kl (k:Nat×Nat):Lit:= .string (keyBytes [.int .u16 (k.1:Int),.int .u16 (k.2:Int)])
theorem zlM {k:Nat×Nat} (h1:k.1<65536) (h2:k.2<65536) (d:Nat):Tryz.prog.keyLits (d+2) 277 [.int .u16 (k.1:Int),.int .u16 (k.2:Int)]=some [.int .u16 (k.1:Int),.int .u16 (k.2:Int)]:=by
 unfold Program.keyLits
 rw [zdt]
 have hm:codeFields.toList.mapM (fun f=>Tryz.prog.keyLits (d+1) f.type (([Value.int .u16 (k.1:Int),.int .u16 (k.2:Int)].drop f.offset).take (Tryz.prog.cellsOf f.type)))=some [[Lit.int .u16 (k.1:Int)],[.int .u16 (k.2:Int)]]:=by
  have:=List.mapM_map (m:=Option) (f:=fun f:Field=>(f.type,f.offset)) (g:=fun p:TypeId×Nat=>Tryz.prog.keyLits (d+1) p.1 (([Value.int .u16 (k.1:Int),.int .u16 (k.2:Int)].drop p.2).take (Tryz.prog.cellsOf p.1))) (l:=codeFields.toList)
  rw [zjd] at this
  refine this.symm.trans ?_
  simp [zmq,zkk h1,zkk h2]
 simp only [List.length_cons,List.length_nil,zfC,zk3,hm]
 simp
theorem zdv {k:Nat×Nat} (h1:k.1<65536) (h2:k.2<65536):keyOf Tryz.prog 277 (ck k)=some (kl k):=by
 unfold keyOf
 rw [zdt]
 simp only [zmt,ck,zjy,Bool.and_self,if_true]
 have hd:Tryz.prog.types.size+1=Tryz.prog.types.size - 1+2:=by have:=zmK;omega
 rw [hd]
 have:(Value.agg #[.int .u16 (k.1:Int),.int .u16 (k.2:Int)]).cells.toList=[.int .u16 (k.1:Int),.int .u16 (k.2:Int)]:=by simp [Value.cells]
 rw [this,zlM h1 h2]
 rfl
theorem zqZ {k k':Nat×Nat} (h1:k.1<65536) (h2:k.2<65536) (h1':k'.1<65536) (h2':k'.2<65536) (h:kl k=kl k'):k=k':=by
 have e:=code_keyed.inj (zdv h1 h2) (by rw [h];exact zdv h1' h2')
 unfold ck at e
 simp only [Value.agg.injEq] at e
 simp at e
 exact Prod.ext (by omega) (by omega)
theorem zh1 (k:Nat×Nat):WideAt.IsKeyLit (kl k):=trivial
noncomputable abbrev zr1:Value→Option (DataW Unit×List MemPlace):=plainElem Tryz.prog 3
def MapAt (w:World) (M n:Nat) (F:Nat×Nat→Option Nat):Prop:=
 ∃D:DataW Unit,w.ownsMap Tryz.prog 277 zr1 M n D∧∀k:Nat×Nat,k.1<65536→k.2<65536→Maps.has D (kl k)=(F k).isSome∧∀x,F k=some x→∀z,D.atKey (kl k) z= .lit (.int .i64 (x:Int))
theorem zei:Tryz.prog.underlying 3=some (.int .i64):=by kernel_rfl
theorem zhb:Tryz.prog.underlying 296=some (.map 277 3):=by kernel_rfl
theorem ziZ {x:Nat} (h:x≤1000000):(Lit.int .i64 (x:Int)).wf=true:=by
 have hm:IntKind.i64.min= -9223372036854775808:=by decide
 have hx:IntKind.i64.max=9223372036854775807:=by decide
 simp [Lit.wf,hm,hx];omega
theorem MapAt.made (w:World):MapAt (w.alloc (.map #[] 0)) w.heap.size 0 fun _=>none:=
 ⟨_,World.ownsMap_made w _ _ _,fun k _ _=>⟨rfl,fun x h=>by cases h⟩⟩
theorem MapAt.put {w:World} {M n x:Nat} {F:Nat×Nat→Option Nat} {k:Nat×Nat} (h:MapAt w M n F) (hn:n<maxLen) (h1:k.1<65536) (h2:k.2<65536) (hx:x≤1000000):
  ∃w',(Instr.mapUpdate 296 (.map (some M)) (ck k) (.int .i64 (x:Int))).run Tryz.prog w= .ok () w'∧MapAt w' M (n+1) (fun k'=>if k'=k then some x else F k')∧w.mapTurned w' M:=by
 obtain ⟨D,hD,hF⟩:=h
 obtain ⟨w',hr,ho,ht⟩:=hD.store code_keyed zhb hn (zdv h1 h2) (plainElem_int zei (ziZ hx))
 refine ⟨w',hr,⟨_,ho,fun k' g1 g2=>?_⟩,ht⟩
 by_cases e:k'=k
 ·subst e
  simp only [if_true,Option.isSome_some,Option.some.injEq]
  exact ⟨Maps.has_put_same hD.isMap (zh1 _) _,fun y hy z=>by subst hy;exact Maps.atKey_put_same hD.isMap (zh1 _) _ z⟩
 ·simp only [if_neg e]
  have hne:kl k'≠kl k:=fun he=>e (zqZ g1 g2 h1 h2 he)
  exact ⟨by rw [Maps.has_put_other hne];exact (hF k' g1 g2).1,fun y hy z=>by rw [Maps.atKey_put_other hne];exact (hF k' g1 g2).2 y hy z⟩
theorem zpf (w:World):(zeroValue 3).run Tryz.prog w= .ok (.int .i64 0) w:=by
 kernel_rfl
theorem MapAt.look {w:World} {M n:Nat} {F:Nat×Nat→Option Nat} {k:Nat×Nat} (h:MapAt w M n F) (h1:k.1<65536) (h2:k.2<65536):
  (Instr.lookup 296 (.map (some M)) (ck k) true).run Tryz.prog w= .ok (.tuple #[.int .i64 (((F k).getD 0:Nat):Int),.bool (F k).isSome]) w:=by
 obtain ⟨D,hD,hF⟩:=h
 obtain ⟨v,ps,hr,hv⟩:=hD.look_ok code_keyed zhb (zpf w) (plainElem_int zei (ziZ (x:=0) (by omega))) (zdv h1 h2)
 obtain ⟨a,rfl,hz,-⟩:=plainElem_int_inv zei hv
 simp only [Prod.mk.injEq] at hz
 rw [hr,(hF k h1 h2).1]
 cases hk:F k with
 | none=>
  rw [Maps.atKey_of_not_has (by rw [(hF k h1 h2).1,hk];rfl)] at hz
  simp at hz
  simp [←hz.1]
 | some x=>
  rw [(hF k h1 h2).2 x hk] at hz
  simp at hz
  simp [←hz.1]
end
section
open Go.RowKit Go.Maps
theorem MapAt.turned {w w':World} {M n:Nat} {F:Nat×Nat→Option Nat} (h:MapAt w M n F) {T:Nat→Prop} (ht:Turns T w w') (hT:¬T M):MapAt w' M n F:=by
 obtain ⟨D,⟨es,clock,hb,r⟩,hF⟩:=h
 exact ⟨D,⟨es,clock,(ht.block M (zab hb) hT).trans hb,r⟩,hF⟩
theorem znG {w w':World} {M:Nat} (h:w.mapTurned w' M):Turns (fun i=>i=M) w w':=Turns.of_grown h.grown (fun i e=>by cases e;rfl)
theorem zhp (w:World) {ops:Array Oper} {rest:List Oper} {o:Oper} {a:Act} {Q:Exit→Act→World→Prop} (hg:o.guard=none) (m x v:Operand) (hop:o.op=Op.mapUpdate 296 m x v)
  (M n s r z:Nat) (F:Nat×Nat→Option Nat) (hm:a.eval m= .map (some M)) (hown:MapAt w M n F) (hn:n<maxLen) (h1:r<65536) (h2:z<65536) (hs:s≤1000000)
  (hx:a.eval x= .agg #[.int .u16 (r:Int),.int .u16 (z:Int)]) (hv:a.eval v= .int .i64 (s:Int))
  (hK:∀w',MapAt w' M (n+1) (fun k'=>if k'=(r,z) then some s else F k')→Turns (fun i=>i=M) w w'→wpList Tryz.prog ops Q rest (a.put o.dst undef) w'):wpList Tryz.prog ops Q (o::rest) a w:=by
 refine wpList_plain hg fun K' hK'=>?_
 obtain ⟨w',hrun,r1,r2⟩:=hown.put (k:=(r,z)) hn h1 h2 hs
 unfold ck at hrun
 unfold Oper.wp
 simp [execOp,hop,hm,hx,hv,hrun,Result.andThen]
 exact hK' _ _ (hK w' r1 (znG r2))
structure TabAt (w:World) (M T X n L:Nat) (F:Nat×Nat→Option Nat):Prop where
 box:w.heap[X]? =some (.cells #[.pointer (some ⟨T,0,none⟩)] 266)
 tab:w.heap[T]? =some (.cells #[.map (some M),.int .u16 (L:Int)] 298)
 map:MapAt w M n F
set_option maxRecDepth 20000 in
set_option maxHeartbeats 1000000 in
theorem zoZ (M T X n L r z s:Nat) (F:Nat×Nat→Option Nat) (w:World) (h:TabAt w M T X n L F) (hn:n<maxLen) (hr:r<65536) (hz:z<65536) (hs:s≤1000000) (hMT:M≠T) (hMX:M≠X) (hTX:T≠X) (hMw:M<w.heap.size):
  Calls Tryz.prog 222 #[.int .i64 (s:Int),.agg #[.int .u16 (r:Int),.int .u16 (z:Int)],.pointer (some ⟨X,0,none⟩)] w fun e w'=>e= .returned (.tuple #[])∧TabAt w' M T X (n+1) (max L z) (fun k'=>if k'=(r,z) then some s else F k')∧Turns (fun i=>i=M∨i=T) w w':=by
 obtain ⟨W,hW⟩:∃W,w.alloc (.cells #[.int .u16 (r:Int),.int .u16 (z:Int)] 277)=W:=⟨_,rfl⟩
 have hbw:Below w.heap.size w W:=by rw [←hW];exact Below.al1 w _
 have hbox:W.heap[X]? =_:=(hbw.block X (zab h.box)).trans h.box
 have htab:W.heap[T]? =_:=(hbw.block T (zab h.tab)).trans h.tab
 have hmap:MapAt W M n F:=h.map.turned (T:=fun _=>False) (Turns.of_below' hbw) (fun h=>h)
 have hBc:W.heap[w.heap.size]? =some (.cells #[.int .u16 (r:Int),.int .u16 (z:Int)] 277):=by rw [←hW];exact (zag [.cells #[.int .u16 (r:Int),.int .u16 (z:Int)] 277] w 0 _).2 rfl
 have c0:W.cell? ⟨X,0,none⟩=some (.pointer (some ⟨T,0,none⟩)):=zaa hbox rfl
 have c1:W.cell? ⟨T,0,none⟩=some (.map (some M)):=zaa htab rfl
 have c2:W.cell? ⟨w.heap.size,0,none⟩=some (.int .u16 (r:Int)):=zaa hBc rfl
 have c3:W.cell? ⟨w.heap.size,1,none⟩=some (.int .u16 (z:Int)):=zaa hBc rfl
 have Hmap:=Lib.hid hmap
 subst hW
 go_enter Tryz.func222,Tryz.ntmps222
 go_wp2_with fail
 generalize w.alloc (.cells #[.int .u16 (r:Int),.int .u16 (z:Int)] 277)=W at *
 refine wp_region_still_tail 6 (by kernel_rfl) (by kernel_rfl) ?_
 simp only [List.take_succ_cons,List.take_zero,List.drop_succ_cons,List.drop_zero]
 have d0:W.drew.cell? ⟨X,0,none⟩=some (.pointer (some ⟨T,0,none⟩)):=c0
 have d1:W.drew.cell? ⟨T,0,none⟩=some (.map (some M)):=c1
 have d2:W.drew.cell? ⟨w.heap.size,0,none⟩=some (.int .u16 (r:Int)):=c2
 have d3:W.drew.cell? ⟨w.heap.size,1,none⟩=some (.int .u16 (z:Int)):=c3
 have Dmap:Hid (MapAt W.drew M n F):=Lib.hid hmap
 have Hww:Hid (Turns (fun _=>False) w W.drew):=Lib.hid ⟨hbw.os,hbw.tape,hbw.output,hbw.size,fun i hi _=>hbw.block i hi⟩
 have dbox:Hid (W.drew.heap[X]? =some (.cells #[.pointer (some ⟨T,0,none⟩)] 266)):=Lib.hid hbox
 have dtab:Hid (W.drew.heap[T]? =some (.cells #[.map (some M),.int .u16 (L:Int)] 298)):=Lib.hid htab
 change wpStill _ _ W.drew (fun a'=>wpList _ _ _ _ a' W.drew) _ _
 clear hbox htab hmap hBc hbw c0 c1 c2 c3 Hmap h
 generalize W.drew=W1 at *
 repeat still_step
 try refine wpStill_nil ?_
 refine zhp _ rfl _ _ _ rfl M n s r z F rfl Dmap.out hn hr hz hs rfl rfl ?_
 intro W2 hm2 ht2
 have Hm2:=Lib.hid hm2
 have Hw2:Hid (Turns (fun i=>i=M) w W2):=Lib.hid ((Hww.out.mono (T':=fun i=>i=M) (fun i _ h=>h.elim)).trans ht2)
 have e0:Hid (W2.drew.heap[X]? =some (.cells #[.pointer (some ⟨T,0,none⟩)] 266)):=Lib.hid ((ht2.block X (zab dbox.out) (fun e=>hMX e.symm)).trans dbox.out)
 have e1:Hid (W2.drew.heap[T]? =some (.cells #[.map (some M),.int .u16 (L:Int)] 298)):=Lib.hid ((ht2.block T (zab dtab.out) (fun e=>hMT e.symm)).trans dtab.out)
 have c0:W2.drew.cell? ⟨X,0,none⟩=some (.pointer (some ⟨T,0,none⟩)):=zaa e0.out rfl
 have c1:W2.drew.cell? ⟨T,1,none⟩=some (.int .u16 (L:Int)):=zaa e1.out rfl
 have c3:W2.drew.cell? ⟨w.heap.size,1,none⟩=some (.int .u16 (z:Int)):=ht2.cell d3 (fun e=>by simp at e;omega)
 have f1:W2.drew.frozen? ⟨T,1,none⟩=false:=by simp [World.frozen?,e1.out]
 clear hm2 ht2 d0 d1 d2 d3
 go_wp2_with fail
 refine wp_region_still_tail 10 (by kernel_rfl) (by kernel_rfl) ?_
 simp only [List.take_succ_cons,List.take_zero,List.drop_succ_cons,List.drop_zero]
 change wpStill _ _ W2.drew (fun a'=>wpList _ _ _ _ a' W2.drew) _ _
 have Hm3:Hid (MapAt W2.drew M (n+1) fun k'=>if k'=(r,z) then some s else F k'):=Lib.hid Hm2.out
 have Hw3:Hid (Turns (fun i=>i=M) w W2.drew):=Lib.hid ⟨Hw2.out.os,Hw2.out.tape,Hw2.out.output,Hw2.out.size,Hw2.out.block⟩
 clear Hm2 Hw2
 generalize W2.drew=W3 at *
 repeat still_step
 try refine wpStill_nil ?_
 have hmx:(if L<z then (z:Int) else (L:Int))=((max L z:Nat):Int):=by split<;>omega
 rw [hmx]
 clear hmx
 go_wp2
 go_end0
 have hset:=Turns.set (Turns.refl (fun i=>i=T) W3) (p:=⟨T,1,none⟩) rfl (.int .u16 ((max L z:Nat):Int))
 exact ⟨rfl,⟨(hset.block X (zab e0.out) (fun e=>hTX e.symm)).trans e0.out,zbS _ e1.out,Hm3.out.turned hset hMT⟩,
  (Hw3.out.mono (T':=fun i=>i=M∨i=T) (fun i _ h=> .inl h)).trans (hset.mono (fun i _ h=> .inr h))⟩
end
section
open Go.RowKit Go.Maps
theorem zhM:∀n r x,trn n r x<(r+1)*2^n
 | 0,r,x=>by simp [trn]
 | n+1,r,x=>by
  rw [trn]
  refine Nat.lt_of_lt_of_le (zhM n _ _) ?_
  rw [Nat.pow_succ,←Nat.mul_assoc,Nat.mul_right_comm]
  exact Nat.mul_le_mul_right _ (by omega)
theorem zmw {n x:Nat} (h:n≤15):trn n 0 x<65536:=by
 have h1:=zhM n 0 x
 have h2:2^n≤2^15:=Nat.pow_le_pow_right (by decide) h
 have h3:(2:Nat)^15=32768:=rfl
 omega
theorem MapAt.mono {w:World} {M n n':Nat} {F:Nat×Nat→Option Nat} (h:MapAt w M n F) (hn:n≤n'):MapAt w M n' F:=by
 obtain ⟨D,hD,hF⟩:=h
 exact ⟨D,hD.mono hn,hF⟩
theorem MapAt.lt {w:World} {M n:Nat} {F:Nat×Nat→Option Nat} (h:MapAt w M n F):M<w.heap.size:=by
 obtain ⟨D,hD,_⟩:=h
 exact hD.lt
def Tld (f:Nat→Nat) (n k i:Nat):Prop:=0<f i∧(f i≤n∨(f i=n+1∧i<k))
theorem Tld.next {f:Nat→Nat} {N n i:Nat} (hi:i<N):Tld f n N i↔Tld f (n+1) 0 i:=by unfold Tld;omega
theorem Tld.skip {f:Nat→Nat} {n k i:Nat} (h:f k≠n+1):Tld f n k i↔Tld f n (k+1) i:=by
 unfold Tld
 have:i=k→f i≠n+1:=fun e=>by subst e;exact h
 omega
theorem Tld.hand {f:Nat→Nat} {n k i:Nat} (h:f k=n+1):Tld f n (k+1) i↔Tld f n k i∨i=k:=by
 unfold Tld
 by_cases e:i=k
 ·subst e;simp [h]
 ·simp only [e,or_false];omega
def Apt (f:Nat→Nat) (N:Nat):Prop:= ∀i j,i<N→j<N→0<f i→f i=f j→cd f N i=cd f N j→i=j
structure ToldF (f:Nat→Nat) (N n k:Nat) (F:Nat×Nat→Option Nat):Prop where
 has:∀i,i<N→Tld f n k i→F (cd f N i,f i)=some i
 out:∀q x,F q=some x→x<N∧Tld f n k x∧q=(cd f N x,f x)
structure ToldM (f:Nat→Nat) (N n k L:Nat):Prop where
 ge:∀i,i<N→Tld f n k i→f i≤L
 le:L=0∨∃i,i<N∧Tld f n k i∧f i=L
theorem ToldF.congr {f:Nat→Nat} {N n k n' k':Nat} {F:Nat×Nat→Option Nat} (h:ToldF f N n k F) (e:∀i,i<N→(Tld f n k i↔Tld f n' k' i)):ToldF f N n' k' F:=
 ⟨fun i hi ht=>h.has i hi ((e i hi).2 ht),fun q x hx=>let ⟨a,b,c⟩:=h.out q x hx;⟨a,(e x a).1 b,c⟩⟩
theorem ToldM.congr {f:Nat→Nat} {N n k n' k' L:Nat} (h:ToldM f N n k L) (e:∀i,i<N→(Tld f n k i↔Tld f n' k' i)):ToldM f N n' k' L:=
 ⟨fun i hi ht=>h.ge i hi ((e i hi).2 ht),h.le.imp id fun ⟨i,a,b,c⟩=>⟨i,a,(e i a).1 b,c⟩⟩
theorem ToldF.hand {f:Nat→Nat} {N n k:Nat} {F:Nat×Nat→Option Nat} (h:ToldF f N n k F) (ha:Apt f N) (hk:k<N) (hl:f k=n+1):ToldF f N n (k+1) (fun q=>if q=(cd f N k,n+1) then some k else F q):=by
 refine ⟨fun i hi ht=>?_,fun q x hx=>?_⟩
 ·by_cases e:(cd f N i,f i)=(cd f N k,n+1)
  ·simp only [if_pos e,Option.some.injEq]
   simp only [Prod.mk.injEq] at e
   exact (ha i k hi hk ht.1 (by omega) e.1).symm
  ·simp only [if_neg e]
   rcases (Tld.hand hl).1 ht with h1 | rfl
   ·exact h.has i hi h1
   ·exact absurd (by rw [hl]) e
 ·by_cases e:q=(cd f N k,n+1)
  ·simp only [if_pos e,Option.some.injEq] at hx
   subst hx
   exact ⟨hk,(Tld.hand hl).2 (.inr rfl),by rw [hl];exact e⟩
  ·simp only [if_neg e] at hx
   obtain ⟨a,b,c⟩:=h.out q x hx
   exact ⟨a,(Tld.hand hl).2 (.inl b),c⟩
theorem ToldM.hand {f:Nat→Nat} {N n k L:Nat} (h:ToldM f N n k L) (hk:k<N) (hl:f k=n+1):ToldM f N n (k+1) (max L (n+1)):=by
 refine ⟨fun i hi ht=>?_,.inr ?_⟩
 ·have:=ht.2
  omega
 ·rcases Nat.lt_or_ge (n+1) L with h1 | h1
  ·rcases h.le with h2 | ⟨i,a,b,c⟩
   ·omega
   ·exact ⟨i,a,(Tld.hand hl).2 (.inl b),by omega⟩
  ·exact ⟨k,hk,(Tld.hand hl).2 (.inr rfl),by omega⟩
structure NJ (w0:World) (v:Value) (ls:List Nat) (M T X n k:Nat) (w:World):Prop where
 tab:∃L F,TabAt w M T X (n*ls.length+k) L F∧ToldF (lq ls) ls.length n k F∧ToldM (lq ls) ls.length n k L
 lens:Row enc8 1 w v ls
 below:Below w0.heap.size w0 w
 gM:w0.heap.size≤M
 gT:w0.heap.size≤T
theorem NJ.hand (w0:World) (v:Value) (ls:List Nat) (M T X n k:Nat) (w:World) (hN:ls.length≤320) (ha:Apt (lq ls) ls.length) (hv0:∀b,v.ownBlock=some b→b<w0.heap.size) (hMT:M≠T) (hMX:M≠X) (hTX:T≠X)
  (hn:n<15) (hk:k<ls.length) (hl:lq ls k=n+1) (h:NJ w0 v ls M T X n k w):
  Calls Tryz.prog 222 #[.int .i64 (k:Int),.agg #[.int .u16 ((trn (n+1) 0 (nx (lq ls) ls.length n k):Nat):Int),.int .u16 ((n+1:Nat):Int)],.pointer (some ⟨X,0,none⟩)] w fun e w'=>e= .returned (.tuple #[])∧NJ w0 v ls M T X n (k+1) w':=by
 obtain ⟨L,F,h1,h2,h3⟩:=h.tab
 have hb:n*ls.length≤14*320:=Nat.mul_le_mul (by omega) hN
 have e:trn (n+1) 0 (nx (lq ls) ls.length n k)=cd (lq ls) ls.length k:=by
  unfold cd
  rw [hl,Nat.add_sub_cancel]
 refine Calls.mono (zoZ M T X _ L _ (n+1) k F w h1 (by unfold maxLen;omega) (zmw (by omega)) (by omega) (by omega) hMT hMX hTX h1.map.lt) ?_
 rintro _ w' ⟨rfl,g1,ht⟩
 refine ⟨rfl,⟨_,_,g1,by rw [e];exact h2.hand ha hk hl,h3.hand hk hl⟩,h.lens.turns ht (fun b hb e=>?_),Below.trans h.below (ht.below h.below.size (fun i hi=>?_)),h.gM,h.gT⟩
 ·have:=hv0 b hb
  have:=h.gM
  have:=h.gT
  omega
 ·have:=h.gM
  have:=h.gT
  omega
theorem NJ.skip (w0:World) (v:Value) (ls:List Nat) (M T X n k:Nat) (w:World) (hl:lq ls k≠n+1) (h:NJ w0 v ls M T X n k w):NJ w0 v ls M T X n (k+1) w:=by
 obtain ⟨L,F,h1,h2,h3⟩:=h.tab
 exact ⟨⟨L,F,⟨h1.box,h1.tab,h1.map.mono (by omega)⟩,h2.congr fun i _=>Tld.skip hl,h3.congr fun i _=>Tld.skip hl⟩,h.lens,h.below,h.gM,h.gT⟩
theorem NJ.next (w0:World) (v:Value) (ls:List Nat) (M T X n:Nat) (w:World) (h:NJ w0 v ls M T X n ls.length w):NJ w0 v ls M T X (n+1) 0 w:=by
 obtain ⟨L,F,h1,h2,h3⟩:=h.tab
 exact ⟨⟨L,F,⟨h1.box,h1.tab,h1.map.mono (by rw [Nat.succ_mul];omega)⟩,h2.congr fun i hi=>Tld.next hi,h3.congr fun i hi=>Tld.next hi⟩,h.lens,h.below,h.gM,h.gT⟩
end
section
open Go.RowKit Go.Maps
theorem zqu (ls:List Nat) (v:Value) (w:World) (hv:Row enc8 1 w v ls) (hc:chk ls≠0):
  Calls Tryz.prog 212 #[v] w fun e w'=>e= .returned (.tuple #[.pointer none,.int .i64 (chk ls)])∧w'=w:=by
 have Hv:=Lib.hid hv
 obtain ⟨r,hr⟩:∃r,chk ls=r:=⟨_,rfl⟩
 have Hr:=Lib.hid hr
 rw [hr] at hc ⊢
 have e0:(r !=0)=true:=by simpa using hc
 clear hr hv
 go_enter Tryz.func212,Tryz.ntmps212
 go_wp2_with fail
 refine Calls.mono (zdX ls v w Hv.out) ?_
 rintro e w1 ⟨rfl,rfl⟩
 rw [Hr.out]
 go_wp2
 go_ret2
 exact ⟨rfl,rfl⟩
structure TabOk (w:World) (T B:Nat) (ls:List Nat):Prop where
 ex:∃(M n L:Nat) (F:Nat×Nat→Option Nat),w.heap[T]? =some (.cells #[.map (some M),.int .u16 (L:Int)] 298)∧MapAt w M n F∧ToldF (lq ls) ls.length 15 0 F∧ToldM (lq ls) ls.length 15 0 L∧B≤M
 ge:B≤T
theorem NJ.start (w:World) (v:Value) (ls:List Nat) (hv:Row enc8 1 w v ls):
  NJ w v ls w.heap.size (w.heap.size+1) (w.heap.size+1+1) 0 0 (((w.alloc (.map #[] 0)).alloc (.cells #[.map (some w.heap.size),.int .u16 0] 298)).alloc (.cells #[.pointer (some ⟨w.heap.size+1,0,none⟩)] 266)):=by
 have hp:=zag [.map #[] 0,.cells #[.map (some w.heap.size),.int .u16 0] 298,.cells #[.pointer (some ⟨w.heap.size+1,0,none⟩)] 266] w
 have hb:Below w.heap.size w (((w.alloc (.map #[] 0)).alloc (.cells #[.map (some w.heap.size),.int .u16 0] 298)).alloc (.cells #[.pointer (some ⟨w.heap.size+1,0,none⟩)] 266)):=Below.thn (Below.al2 w _ _) (Below.al1 _ _)
 have hm:MapAt (((w.alloc (.map #[] 0)).alloc (.cells #[.map (some w.heap.size),.int .u16 0] 298)).alloc (.cells #[.pointer (some ⟨w.heap.size+1,0,none⟩)] 266)) w.heap.size 0 fun _=>none:=
  (MapAt.made w).turned (T:=fun _=>False) (((Turns.refl _ _).alloc _).alloc _) (fun h=>h)
 refine ⟨⟨0,fun _=>none,⟨(hp 2 _).2 rfl,(hp 1 _).2 rfl,?_⟩,⟨fun i hi ht=>?_,fun q x hx=>by cases hx⟩,⟨fun i hi ht=>?_,.inl rfl⟩⟩,hv.below hb,hb,Nat.le_refl _,by omega⟩
 ·exact hm.mono (by omega)
 ·unfold Tld at ht;omega
 ·unfold Tld at ht;omega
set_option maxRecDepth 20000 in
set_option maxHeartbeats 1000000 in
theorem zrk (ls:List Nat) (v:Value) (w:World) (hv:Row enc8 1 w v ls) (hc:chk ls=0) (ha:Apt (lq ls) ls.length):
  Calls Tryz.prog 212 #[v] w fun e w'=> ∃T,e= .returned (.tuple #[.pointer (some ⟨T,0,none⟩),.int .i64 0])∧TabOk w' T w.heap.size ls∧Below w.heap.size w w':=by
 obtain ⟨h1,h2,-⟩:=za6 hc
 have hvb:∀k,v.ownBlock=some k→k<w.heap.size:=fun k hk=>by
  obtain ⟨p,c,rfl,_,_,h⟩:=hv
  rcases h with ⟨rfl,-⟩ | ⟨bb,off,rfl,hbb,-⟩
  ·cases hk
  ·cases hk;exact hbb
 have Hv:=Lib.hid hv
 have Hc:=Lib.hid hc
 have H2:=Lib.hid h2
 have Hvb:=Lib.hid hvb
 have Ha:=Lib.hid ha
 obtain ⟨p,c,rfl,-,-,-⟩:=hv
 have hmk:=run_makeMap (P:=Tryz.prog) 296 w
 clear hc h2 hvb ha
 go_enter Tryz.func212,Tryz.ntmps212
 go_wp2_with fail
 refine Calls.mono (zdX ls _ w Hv.out) ?_
 rintro e w1 ⟨rfl,rfl⟩
 rw [Hc.out]
 go_wp2_with fail
 refine Calls.mono (zmi ls _ (w1.heap.size+1+1) (fun n k w'=>NJ w1 (.slice p ls.length c) ls w1.heap.size (w1.heap.size+1) (w1.heap.size+1+1) n k w') _ h1 (fun n k w' h=>h.lens)
  (fun n k w' hn hk hl h=>NJ.hand w1 _ ls _ _ _ n k w' h1 Ha.out Hvb.out (by omega) (by omega) (by omega) hn hk hl h)
  (fun n k w' _ hl h=>NJ.skip w1 _ ls _ _ _ n k w' hl h) (fun n w' h=>NJ.next w1 _ ls _ _ _ n w' h) (NJ.start w1 _ ls Hv.out)) ?_
 rintro e w2 ⟨rfl,hj⟩
 have HJ:=Lib.hid hj
 obtain ⟨L,F,g1,-,-⟩:=hj.tab
 have c0:w2.cell? ⟨w1.heap.size+1+1,0,none⟩=some (.pointer (some ⟨w1.heap.size+1,0,none⟩)):=zaa g1.box rfl
 clear hj g1
 go_wp2
 go_ret2
 obtain ⟨L',F',g1,g2,g3⟩:=HJ.out.tab
 exact ⟨_,rfl,⟨⟨_,_,L',F',g1.tab,g1.map,g2,g3,HJ.out.gM⟩,HJ.out.gT⟩,HJ.out.below⟩
end
section
open Go.RowKit
structure Rd (W:World) (B:Nat) (sv:Value) (l:List Nat) (a:Nat):Prop where
 box:W.heap[B]? =some (.cells #[sv,.int .i64 (a:Int)] 201)
 row:Rw8 W sv l
 apart:sv.ownBlock≠some B
 byte:∀b∈l,b<256
 pos:a≤8*l.length
 len:l.length≤1073741824
theorem Rd.c0 {W:World} {B a:Nat} {sv:Value} {l:List Nat} (h:Rd W B sv l a):W.cell? ⟨B,0,none⟩=some sv:=by simp [World.cell?,h.box]
theorem Rd.c1 {W:World} {B a:Nat} {sv:Value} {l:List Nat} (h:Rd W B sv l a):W.cell? ⟨B,1,none⟩=some (.int .i64 (a:Int)):=by simp [World.cell?,h.box]
theorem Rd.free {W:World} {B a:Nat} {sv:Value} {l:List Nat} (h:Rd W B sv l a) (i:Nat):W.frozen? ⟨B,i,none⟩=false:=by simp [World.frozen?,h.box]
theorem Rd.size {W:World} {B a:Nat} {sv:Value} {l:List Nat} (h:Rd W B sv l a):B<W.heap.size:=(Array.getElem?_eq_some_iff.1 h.box).1
theorem Rd.turns {T:Nat→Prop} {W W':World} {B a:Nat} {sv:Value} {l:List Nat} (h:Rd W B sv l a) (ht:Turns T W W') (hB:¬T B) (hs:∀k,sv.ownBlock=some k→¬T k):Rd W' B sv l a:=
 ⟨(ht.block B h.size hB).trans h.box,h.row.turns ht hs,h.apart,h.byte,h.pos,h.len⟩
theorem Rd.below {W W':World} {B a:Nat} {sv:Value} {l:List Nat} (h:Rd W B sv l a) (hb:Below W.heap.size W W'):Rd W' B sv l a:=
 h.turns (T:=fun _=>False) (Turns.of_below' hb) (fun h=>h) (fun _ _ h=>h)
theorem Rd.to {W:World} {B a a':Nat} {sv:Value} {l:List Nat} (h:Rd W B sv l a) (ha:a'≤8*l.length):Rd (W.setCell ⟨B,1,none⟩ (.int .i64 (a':Int))) B sv l a':=
 ⟨zbS _ h.box,h.row.turns (Turns.set (T:=fun b=>b=B) (Turns.refl _ W) (p:=⟨B,1,none⟩) rfl _) (fun k hk e=>h.apart (by rw [hk,e])),h.apart,h.byte,ha,h.len⟩
theorem Rd.cells {W:World} {B a:Nat} {sv:Value} {l:List Nat} (h:Rd W B sv l a):∃p c,sv= .slice p l.length c∧l.length≤c∧∀i (hi:i<l.length),∃g off,p=some ⟨g,off,none⟩∧W.cell? ⟨g,off+i,none⟩=some (.int .u8 (l[i]:Int)):=by
 obtain ⟨⟨p,c,e,h1,-,h3⟩,-⟩:=h.row
 refine ⟨p,c,e,h1,fun i hi=>?_⟩
 rcases h3 with ⟨-,rfl⟩ | ⟨g,off,rfl,-,h4⟩
 ·simp at hi
 ·have:=h4 i l[i] (List.getElem?_eq_getElem hi) 0 _ rfl
  rw [Nat.mul_one,Nat.add_zero] at this
  exact ⟨g,off,rfl,this⟩
theorem znN (x p f s:Nat) (hx:x<2^f) (hp:p<2^s) (hfit:f+s≤32):bits .or .u32 (x:Int) ((p:Int)*2^f)=((x+p*2^f:Nat):Int)∧p*2^f<4294967296:=by
 have h6:2^f*2^s≤2^32:=by rw [←Nat.pow_add];exact Nat.pow_le_pow_right (by decide) hfit
 have h7:p*2^f+2^f≤2^f*2^s:=by
  have:(p+1)*2^f≤2^s*2^f:=Nat.mul_le_mul_right _ hp
  rw [Nat.mul_comm (2^f) (2^s)]
  rw [Nat.add_mul] at this
  omega
 have h8:(2:Nat)^32=4294967296:=rfl
 have e:((p:Int)*2^f)=((p*2^f:Nat):Int):=by simp
 rw [e,(bits_nat .u32 32 (by decide) (fun m h0 h1=>by rw [IntKind.wrap_u32];omega) x (p*2^f) (by omega) (by omega)).2]
 refine ⟨?_,by omega⟩
 rw [Nat.or_comm,Nat.mul_comm p,←Nat.two_pow_add_eq_or_of_lt hx p]
 congr 1
 omega
set_option maxHeartbeats 1000000 in
theorem zjT (v:Value) (l:List Nat) (w:World) (hv:Rw8 w v l) (hb:∀b∈l,b<256) (hlen:l.length≤1073741824):
  Calls Tryz.prog 122 #[v] w fun e w'=> ∃B sv,e= .returned (.pointer (some ⟨B,0,none⟩))∧Rd w' B sv l 0∧Below w.heap.size w w'∧w.heap.size≤B∧∀k,sv.ownBlock=some k→w.heap.size≤k:=by
 have Hv:=Lib.hid hv
 have Hb:=Lib.hid hb
 clear hv hb
 go_enter Tryz.func122,Tryz.ntmps122
 go_wp2_with fail
 refine Calls.mono (zg0 _ _ _ Hv.out hlen) ?_
 rintro e w1 ⟨v',rfl,ho⟩
 have Ho:=Lib.hid ho
 obtain ⟨p',c',rfl⟩:=zac ho.1
 clear ho
 go_wp2
 go_ret
 have hb1:=Ho.out.2
 refine ⟨w1.heap.size,_,rfl,⟨World.alloc_heap_new w1 _,(Rw8.own Ho.out.1 rfl).below (Below.al1 _ _),?_,Hb.out,Nat.zero_le _,hlen⟩,hb1.trans ((Below.al1 w1 _).mono hb1.size),hb1.size,fun k hk=>(Ho.out.1.lt k hk).1⟩
 intro e
 have:=(Ho.out.1.lt _ e).2
 omega
set_option maxRecDepth 100000 in
set_option maxHeartbeats 2000000 in
theorem zkX (B a n:Nat) (sv:Value) (l:List Nat) (w:World) (h:Rd w B sv l a) (hn:0<n) (hn24:n≤24) (ha:a<8*l.length):
  Calls Tryz.prog 138 #[.pointer (some ⟨B,0,none⟩),.int .i64 (n:Int)] w fun e w'=>e= .returned (.tuple #[.int .u8 ((numB l/2^a%2^(min n (8 - a%8)):Nat):Int),.int .i64 ((min n (8 - a%8):Nat):Int)])∧Rd w' B sv l (a+min n (8 - a%8))∧Turns (fun b=>b=B) w w':=by
 obtain ⟨z,hz⟩:∃z,min n (8 - a%8)=z:=⟨_,rfl⟩
 rw [hz]
 have hz0:0<z:=by omega
 have hz8:a%8+z≤8:=by omega
 have Hz:=Lib.hid hz
 have hlen:=h.len
 obtain ⟨q,hq⟩:∃q,a/8=q:=⟨_,rfl⟩
 obtain ⟨f,hf⟩:∃f,a%8=f:=⟨_,rfl⟩
 have hql:q<l.length:=by omega
 have hpn:=zme l h.byte a z hz8 (by omega)
 have hb256:=h.byte l[q] (List.getElem_mem hql)
 have Hto:=Lib.hid (h.to (a':=a+z) (by omega))
 obtain ⟨p,c,rfl,hc1,hcell⟩:=h.cells
 obtain ⟨g,off,rfl,hcx⟩:=hcell q hql
 have c0:=h.c0
 have c1:=h.c1
 have f1:=h.free 1
 have H:=Lib.hid h
 simp only [hq,hf] at hpn
 rw [hf] at hz8
 generalize l[q]=b at *
 have hqi:(a:Int)/8=(q:Int):=by omega
 have hfi:(a:Int)%8=(f:Int):=by omega
 obtain ⟨u,hu⟩:∃u,b/2^f=u:=⟨_,rfl⟩
 rw [hu] at hpn
 have hui:((b:Int)/2^f)=(u:Int):=by rw [←hu];simp
 have hu256:u≤255:=by
  rw [←hu]
  have:=Nat.div_le_self b (2^f)
  omega
 have Hpn:=Lib.hid hpn
 have hq0:(0:Int)≤(q:Int):=by omega
 have hq1:(q:Int)<(l.length:Int):=by omega
 have hp256:numB l/2^a%2^z<256:=by
  have h1:=Nat.mod_lt (numB l/2^a) (zbz z)
  have h2:2^z≤2^8:=Nat.pow_le_pow_right (by decide) (by omega)
  have h8:(2:Nat)^8=256:=rfl
  omega
 generalize numB l/2^a%2^z=y at *
 have hz24:z≤24:=by omega
 have hf8:f<8:=by omega
 clear hz hpn hcell h hq hf hu ha hn
 go_enter Tryz.func138,Tryz.ntmps138
 go_wp2_with fail
 refine Calls.mono (zeS n a _ (by omega)) ?_
 rintro e w1 ⟨rfl,rfl⟩
 rw [Hz.out]
 go_upto_region 2 with (fail)
 go_quiet (fail)
 rename_i nq
 have hd:Below w1.heap.size w1 (w1.drewN nq):=Below.drewN' (Below.refl _ _) nq
 generalize w1.drewN nq=w2 at *
 have h2:=H.out.below hd
 have Hto2:=Lib.hid (h2.to (a':=a+z) (by have:=Hto.out.pos;exact this))
 have Htr:=Lib.hid (show Turns (fun b=>b=B) w1 (w2.setCell ⟨B,1,none⟩ (.int .i64 ((a+z:Nat):Int))) from (Turns.of_below' (T:=fun b=>b=B) hd).set (p:=⟨B,1,none⟩) rfl _)
 have d1:=h2.c1
 have g1:=h2.free 1
 have hpos:=H.out.pos
 clear c0 c1 f1 hcx hd h2 Hto
 rw [Int.natCast_add] at Hto2 Htr
 go_wp2_with fail
 refine Calls.mono (zgC u z _ (by omega) hz24) ?_
 rintro e w3 ⟨rfl,rfl⟩
 rw [Hpn.out]
 go_wp2
 go_ret2
 exact ⟨rfl,Hto2.out,Htr.out⟩
theorem zrn (B a:Nat) (sv:Value) (l:List Nat) (w:World) (h:Rd w B sv l a):
  Calls Tryz.prog 128 #[.pointer (some ⟨B,0,none⟩)] w fun e w'=>e= .returned (.int .i64 (a:Int))∧w'=w:=by
 have c1:=h.c1
 clear h
 go_enter Tryz.func128,Tryz.ntmps128
 go_wp2
 go_ret
 exact ⟨rfl,rfl⟩
set_option maxHeartbeats 1000000 in
theorem zfe (B a:Nat) (sv:Value) (l:List Nat) (w:World) (h:Rd w B sv l a):
  Makes Tryz.prog 124 #[.pointer (some ⟨B,0,none⟩)] w (.int .i64 ((8*l.length - a:Nat):Int)):=by
 unfold Makes
 have hp:=h.pos
 have hl:=h.len
 obtain ⟨p,c,rfl,-,-⟩:=h.cells
 have c0:=h.c0
 have c1:=h.c1
 have hw1:IntKind.i64.wrap (8*(l.length:Int))=8*(l.length:Int):=IntWalk.i64_in _ (by omega)
 have hw2:IntKind.i64.wrap (8*(l.length:Int) - (a:Int))=((8*l.length - a:Nat):Int):=by rw [IntWalk.i64_in _ (by omega)];omega
 clear h hp hl
 generalize 8*l.length - a=r at *
 go_enter Tryz.func124,Tryz.ntmps124
 go_upto_region 3 with (fail)
 go_quiet (fail)
 go_wp2
 go_ret
 exact ⟨rfl,Below.drewN' (Below.refl _ _) _⟩
set_option maxRecDepth 100000 in
set_option maxHeartbeats 4000000 in
theorem zfS (B a k:Nat) (sv:Value) (l:List Nat) (w:World) (h:Rd w B sv l a) (hk:k≤24) (hfit:a+k≤8*l.length):
  Calls Tryz.prog 123 #[.pointer (some ⟨B,0,none⟩),.int .i64 (k:Int)] w fun e w'=>e= .returned (.tuple #[.int .u32 ((numB l/2^a%2^k:Nat):Int),.int .i64 0])∧Rd w' B sv l (a+k)∧Turns (fun b=>b=B) w w':=by
 have H:=Lib.hid h
 have hlt:decide (8*l.length - a<k)=false:=by simp;omega
 obtain ⟨r,hr⟩:∃r,8*l.length - a=r:=⟨_,rfl⟩
 rw [hr] at hlt
 have Hr:=Lib.hid hr
 clear h hr
 go_enter Tryz.func123,Tryz.ntmps123
 go_wp2_with fail
 refine Calls.mono (zdB _ _ (by omega) (by omega)) ?_
 rintro e w1 ⟨rfl,rfl⟩
 go_wp2_with fail
 refine Calls.mono (zfe B a sv l _ H.out) ?_
 rintro e w1 ⟨rfl,hb1⟩
 rw [Hr.out]
 have H1:=Lib.hid (H.out.below hb1)
 have Hb1:=Lib.hid (Turns.of_below' (T:=fun b=>b=B) hb1)
 clear hb1
 go_wp2
 go_loopw [6,7] (fun v g wr=> ∃g1:Nat,g= .int .i64 (g1:Int)∧g1≤k∧v= .int .u32 ((numB l/2^a%2^g1:Nat):Int)∧Hid (Rd wr B sv l (a+g1))∧Hid (Turns (fun b=>b=B) w1 wr)) (fun _ g _=>k - (intOf g).toNat)
 case atStart=>exact ⟨0,rfl,Nat.zero_le _,by rw [Nat.pow_zero,Nat.mod_one];rfl,H1,Lib.hid (Turns.refl _ _)⟩
 case round=>
  obtain ⟨g1,rfl,hg,rfl,Hrd,Htr⟩:=hrel
  by_cases hlt:g1<k
  ·obtain ⟨z,hz⟩:∃z,min (k - g1) (8 - (a+g1)%8)=z:=⟨_,rfl⟩
   have hz0:0<z:=by omega
   have hzk:z≤k - g1:=by omega
   have hz8:z≤8:=by omega
   obtain ⟨x,hx⟩:∃x,numB l/2^a%2^g1=x:=⟨_,rfl⟩
   obtain ⟨y,hy⟩:∃y,numB l/2^(a+g1)%2^z=y:=⟨_,rfl⟩
   have hxl:x<2^g1:=by rw [←hx];exact Nat.mod_lt _ (zbz _)
   have hyl:y<2^z:=by rw [←hy];exact Nat.mod_lt _ (zbz _)
   have hsum:numB l/2^a%2^(g1+z)=x+y*2^g1:=by
    rw [zjn,Nat.div_div_eq_div_mul,←Nat.pow_add,hx,hy]
   obtain ⟨hor,hor2⟩:=znN x y g1 z hxl hyl (by omega)
   have hmod:((y:Int)*2^g1)%4294967296=(y:Int)*2^g1:=by
    have e:((y:Int)*2^g1)=((y*2^g1:Nat):Int):=by simp
    rw [e];omega
   obtain ⟨s,hs⟩:∃s,x+y*2^g1=s:=⟨_,rfl⟩
   rw [hs] at hor hsum
   have hwy:IntKind.u32.wrap (y:Int)=(y:Int):=IntWalk.u32_in _ (by
    have:2^z≤2^8:=Nat.pow_le_pow_right (by decide) hz8
    have h8:(2:Nat)^8=256:=rfl
    omega)
   have hyb:y<256:=by
    have:2^z≤2^8:=Nat.pow_le_pow_right (by decide) hz8
    have h8:(2:Nat)^8=256:=rfl
    omega
   have Hor:=Lib.hid (And.intro hor hmod)
   have Hsum:=Lib.hid hsum
   have Hz:=Lib.hid hz
   have Hx:=Lib.hid hx
   have Hy:=Lib.hid hy
   have Hg:=Lib.hid (show ((k:Int) - (g1:Int))=((k - g1:Nat):Int) by omega)
   clear hor hmod hs hsum hz hx hy hxl hyl hor2
   rw [Hx.out]
   go_wp2_with fail
   rw [Hg.out]
   refine Calls.mono (zkX B (a+g1) (k - g1) sv l _ Hrd.out (by omega) (by omega) (by omega)) ?_
   rintro e w2 ⟨rfl,hrd2,htr2⟩
   rw [Hz.out,Hy.out]
   rw [Hz.out] at hrd2
   have Hrd2:Hid (Rd w2 B sv l (a+(g1+z))):=Lib.hid (by rw [←Nat.add_assoc];exact hrd2)
   have Htr2:=Lib.hid (Htr.out.trans htr2)
   have hor:=Hor.out.1
   have hmod:=Hor.out.2
   clear hrd2 htr2
   go_wp2
   go_roundw
   case rel=>exact ⟨g1+z,by go_num,by omega,by rw [Hsum.out],Hrd2,Htr2⟩
   case measure=>simp [intOf];omega
  ·obtain rfl:g1=k:=by omega
   go_wp2
   go_ret2
   exact ⟨rfl,Hrd.out,Hb1.out.trans Htr.out⟩
theorem zkp (B a k:Nat) (sv:Value) (l:List Nat) (w:World) (h:Rd w B sv l a) (hk:k≤24) (hfit:8*l.length<a+k):
  Makes Tryz.prog 123 #[.pointer (some ⟨B,0,none⟩),.int .i64 (k:Int)] w (.tuple #[.int .u32 0,.int .i64 50]):=by
 unfold Makes
 have H:=Lib.hid h
 have hlt:((8*l.length - a:Nat):Int)<(k:Int):=by have:=h.pos;omega
 obtain ⟨r,hr⟩:∃r,8*l.length - a=r:=⟨_,rfl⟩
 rw [hr] at hlt
 have Hr:=Lib.hid hr
 clear h hr
 go_enter Tryz.func123,Tryz.ntmps123
 go_wp2_with fail
 refine Calls.mono (zdB _ _ (by omega) (by omega)) ?_
 rintro e w1 ⟨rfl,rfl⟩
 go_wp2_with fail
 refine Calls.mono (zfe B a sv l _ H.out) ?_
 rintro e w1 ⟨rfl,hb1⟩
 rw [Hr.out]
 go_wp2
 go_ret2
 exact ⟨rfl,hb1⟩
end
end Go.Proofs.YtedakhgaghfogaaGreat
