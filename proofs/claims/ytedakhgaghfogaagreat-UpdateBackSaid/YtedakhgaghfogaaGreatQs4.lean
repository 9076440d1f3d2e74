/- Several texts in one, each with its own head. -/
import Derived.Test.YtedakhgaghfogaaGreatQs2
import Derived.RangeFuncNested
import Derived.RangeFuncBound
import Derived.RangeFuncLeaves
import Derived.OwnWalkIn
import Derived.Maps.AppendAt
import Derived.Deep.DeepCutAuto
import Derived.Sort.CutIn
namespace Go.Proofs.YtedakhgaghfogaaGreat
section
open Go.RowKit
structure Turns (T:Nat→Prop) (w w':World):Prop where
 os:w'.os=w.os
 tape:w'.tape=w.tape
 output:w'.output=w.output
 size:w.heap.size≤w'.heap.size
 block:∀k,k<w.heap.size→¬T k→w'.heap[k]? =w.heap[k]?
theorem Turns.refl (T:Nat→Prop) (w:World):Turns T w w:=⟨rfl,rfl,rfl,Nat.le_refl _,fun _ _ _=>rfl⟩
theorem Turns.trans {T:Nat→Prop} {a b c:World} (h:Turns T a b) (k:Turns T b c):Turns T a c:=
 ⟨k.os.trans h.os,k.tape.trans h.tape,k.output.trans h.output,Nat.le_trans h.size k.size,fun i hi hn=>(k.block i (Nat.lt_of_lt_of_le hi h.size) hn).trans (h.block i hi hn)⟩
theorem Turns.trans' {T T':Nat→Prop} {a b c:World} (h:Turns T a b) (k:Turns T' b c) (hT:∀i,i<a.heap.size→T' i→T i):Turns T a c:=
 ⟨k.os.trans h.os,k.tape.trans h.tape,k.output.trans h.output,Nat.le_trans h.size k.size,fun i hi hn=>(k.block i (Nat.lt_of_lt_of_le hi h.size) (fun ht=>hn (hT i hi ht))).trans (h.block i hi hn)⟩
theorem Turns.mono {T T':Nat→Prop} {a b:World} (h:Turns T a b) (hT:∀i,i<a.heap.size→T i→T' i):Turns T' a b:=
 ⟨h.os,h.tape,h.output,h.size,fun i hi hn=>h.block i hi (fun ht=>hn (hT i hi ht))⟩
theorem Turns.of_below' {T:Nat→Prop} {a b:World} (h:Below a.heap.size a b):Turns T a b:=⟨h.os,h.tape,h.output,h.size,fun i hi _=>h.block i hi⟩
theorem Turns.below {T:Nat→Prop} {a b:World} (h:Turns T a b) {B:Nat} (hB:B≤a.heap.size) (hT:∀i,T i→B≤i):Below B a b:=
 ⟨h.os,h.tape,h.output,h.size,fun i hi=>h.block i (by omega) (fun ht=>by have:=hT i ht;omega)⟩
theorem Turns.of_grown {T:Nat→Prop} {a b:World} {row:Option Nat} (h:a.grownBy b row) (hT:∀i,row=some i→T i):Turns T a b:=
 ⟨h.os,h.tape,h.output,h.size,fun i hi hn=>h.block i hi (fun e=>hn (hT i e.symm))⟩
theorem Turns.put {T:Nat→Prop} (w:World) (l:Nat) (o:Obj) (hl:T l):Turns T w (w.putObj l o):=
 ⟨rfl,rfl,rfl,by simp,fun i _ hn=>World.putObj_heap_other (fun e=>hn (e ▸ hl))⟩
theorem Turns.alloc {T:Nat→Prop} {a b:World} (h:Turns T a b) (o:Obj):Turns T a (b.alloc o):=
 h.trans (Turns.of_below' ((Below.refl _ b).alloc (Nat.le_refl _) o))
theorem Turns.cell {T:Nat→Prop} {a b:World} (h:Turns T a b) {p:Addr} {v:Value} (hc:a.cell? p=some v) (hn:¬T p.block):b.cell? p=some v:=
 (World.cell?_of_block (h.block p.block (World.block_lt_of_cell? a p hc) hn)).trans hc
theorem Turns.free {T:Nat→Prop} {a b:World} (h:Turns T a b) {p:Addr} {v:Value} (hc:a.cell? p=some v) (hf:a.frozen? p=false) (hn:¬T p.block):b.frozen? p=false:=
 (World.frozen?_of_block (h.block p.block (World.block_lt_of_cell? a p hc) hn)).trans hf
theorem Turns.owns {T:Nat→Prop} {a b:World} (h:Turns T a b) {base:Nat} {e:TypeId} {size:Nat} {v:Value} {n:Nat} {xs:List Value} (hc:a.ownsRow base e size v n xs) (hn:∀k,v.ownBlock=some k→¬T k):b.ownsRow base e size v n xs:=by
 refine ⟨hc.1,?_⟩
 rcases hc.2 with hn' | ⟨g,cap,cur,rfl,hb,hgg,rest⟩
 ·exact .inl hn'
 ·exact .inr ⟨g,cap,cur,rfl,hb,(h.block g (Array.getElem?_eq_some_iff.1 hgg).1 (hn g rfl)).trans hgg,rest⟩
def Iter {α:Type} (P:Program) (g:Nat) (lb:Array Value) (El:World→World→(Nat→Prop)→α→Array Value→Prop) (R:Nat→Prop) (xs:List α) (w:World):Prop:=
 ∀(l:Nat) (J Jx:List α→(Nat→Prop)→World→Prop) (W:World),w.heap.size≤W.heap.size→(∀b,R b→W.heap[b]? =w.heap[b]?)→J [] (fun _=>False) W→
  (∀pre x rest Tp T Wp W1 vs,xs=pre++x::rest→J pre Tp Wp→Turns Tp Wp W1→(∀b,T b→Tp b∨Wp.heap.size≤b)→(∀b,T b→b<W1.heap.size)→(∀b,R b→W1.heap[b]? =w.heap[b]?)→El Wp W1 T x vs→
   YieldAt Fence.wide 0 P l vs W1 fun e W'=>
    (e= .returned (.bool true)∧J (pre++[x]) T W'∧W1.heap.size≤W'.heap.size∧∀b,R b∨T b→W'.heap[b]? =W1.heap[b]?)∨(e= .returned (.bool false)∧Jx (pre++[x]) T W'∧W1.heap.size≤W'.heap.size∧∀b,R b∨T b→W'.heap[b]? =W1.heap[b]?))→
  CallsIn Fence.wide 0 P g (#[.func (.yield l) #[] #[]]++lb) W fun e W'=>(∃v,e= .returned v)∧
   ((∃Tp Wp,J xs Tp Wp∧Turns Tp Wp W')∨(∃pre Tp Wp,pre <+:xs∧Jx pre Tp Wp∧Turns Tp Wp W'))
def zhj {α:Type} (R:Nat→Prop) (I:List α→(Nat→Prop)→World→Prop) (Ix:Code→List α→(Nat→Prop)→World→Prop) (T:Nat→Prop) (L D:Nat) (xs:List α) (W:World):Exit→Act→World→Prop
 | .normal,_,W'=>I xs T W'∧W.heap.size≤W'.heap.size∧∀b,R b∨T b∨b=L∨b=D→W'.heap[b]? =W.heap[b]?
 | .ret,_,W'=>Ix .ret xs T W'∧W.heap.size≤W'.heap.size∧∀b,R b∨T b∨b=L∨b=D→W'.heap[b]? =W.heap[b]?
 | .exit id,_,W'=>Ix (.exit id) xs T W'∧W.heap.size≤W'.heap.size∧∀b,R b∨T b∨b=L∨b=D→W'.heap[b]? =W.heap[b]?
 | .goto t,_,W'=>Ix (.goto t) xs T W'∧W.heap.size≤W'.heap.size∧∀b,R b∨T b∨b=L∨b=D→W'.heap[b]? =W.heap[b]?
 | .panic _,_,_=>False
 | .outgrown,_,_=>False
theorem zaW {α:Type} {P:Program} {g:Operand} {ps:Array Tmp} {assign body:Code} {Q:Exit→Act→World→Prop} {a:Act} {w:World}
  {gf:Nat} {lb:Array Value} (hg:a.eval g= .func (.func gf) #[] lb) (eg:∀args w,(callFunc gf args).run P w= .ok (.enter gf args) w)
  {El:World→World→(Nat→Prop)→α→Array Value→Prop} {R:Nat→Prop} {xs:List α} {w0:World} (hseq:Iter P gf lb El R xs w0)
  (hs0:w0.heap.size≤w.heap.size) (hR:∀b,R b→b<w.heap.size∧w.heap[b]? =w0.heap[b]?) (hps:∀Wp W T x vs,El Wp W T x vs→vs.size=ps.size)
  (I:List α→(Nat→Prop)→World→Prop) (Ix:Code→List α→(Nat→Prop)→World→Prop) (h0:I [] (fun _=>False) w) (a₁:Array Value→Act)
  (hassign:∀(l:Nat) (vs:Array Value) (W:World) (K:Act→World→Prop),vs.size=ps.size→K (a₁ vs) W→
   assign.wpIn (Fence.wide.inRound l) 0 P (Exit.then K (fun _ _ _=>False)) { tmps:=(ps.zip vs).foldl (fun t (p,v)=>t.setIfInBounds p v) a.tmps,defers:=[]} W)
  (hbody:∀(pre:List α) (x:α) (rest:List α) (Tp T:Nat→Prop) (Wq Wp W1 W2:World) (vs:Array Value),xs=pre++x::rest→I pre Tp Wq→Turns (fun b=>b=w.heap.size+1∨b=w.heap.size) Wq Wp→Wq.heap.size≤Wp.heap.size→
   Turns (fun b=>Tp b∨b=w.heap.size+1∨b=w.heap.size) Wq W2→(∀b,Tp b→w.heap.size+1<b∧b<Wp.heap.size)→(∀b,T b→Tp b∨Wp.heap.size≤b)→(∀b,T b→w.heap.size+1<b∧b<W2.heap.size)→(∀b,R b→W2.heap[b]? =w0.heap[b]?)→El Wp W1 T x vs→
   Turns (fun b=>b=w.heap.size+1) W1 W2→W1.heap.size=W2.heap.size→w.heap.size+1<W2.heap.size→(∃r,W1.heap[w.heap.size+1]? =some (.loop r))→(W2.heap[w.heap.size]? =some (.deferred (some [])))→(∃r,W2.heap[w.heap.size+1]? =some (.loop r))→
   body.wpIn (Fence.wide.inRound (w.heap.size+1)) 0 P (zhj R I Ix T (w.heap.size+1) w.heap.size (pre++[x]) W2) (a₁ vs) W2)
  (hdone:∀(Tp:Nat→Prop) (Wq W:World),I xs Tp Wq→Turns (fun b=>Tp b∨b=w.heap.size+1∨b=w.heap.size) Wq W→(∀b,Tp b→w.heap.size+1<b)→w.heap.size+1<W.heap.size→W.heap[w.heap.size]? =some (.deferred (some []))→
   Q .normal { a with defers:={ target:= .collected w.heap.size,args:=#[]}::a.defers} W)
  (hstop:∀(c:Code) (pre:List α) (Tp:Nat→Prop) (Wq W:World),pre <+:xs→Ix c pre Tp Wq→Turns (fun b=>Tp b∨b=w.heap.size+1∨b=w.heap.size) Wq W→(∀b,Tp b→w.heap.size+1<b)→w.heap.size+1<W.heap.size→W.heap[w.heap.size]? =some (.deferred (some []))→
   c.wpIn Fence.wide 0 P Q { a with defers:={ target:= .collected w.heap.size,args:=#[]}::a.defers} W):
  (Code.rangeFunc g ps assign body).wpIn Fence.wide 0 P Q a w:=by
 refine wpIn_rangeFunc ?_
 intro fn hfn
 rw [show Fence.wide.round=none from rfl]
 obtain ⟨rec,hrec⟩:∃rec:LoopState→Option Code→Loop,rec=fun st pe=>{ state:=st,pending:=pe,fn,tmps:=a.tmps,params:=ps,assign,body,defers:=w.heap.size}:=⟨_,rfl⟩
 obtain ⟨W1,hW1⟩:∃W1,(w.alloc (.deferred (some []))).alloc (.loop (rec .ready none))=W1:=⟨_,rfl⟩
 have hL1:W1.heap[w.heap.size+1]? =some (.loop (rec .ready none)):=by
  rw [←hW1];have:=World.alloc_heap_new (w.alloc (.deferred (some []))) (.loop (rec .ready none));rwa [World.size_alloc] at this
 have hK1:W1.heap[w.heap.size]? =some (.deferred (some [])):=by
  rw [←hW1];exact (Below.heap_alloc _ _ _ (by simp)).trans (World.alloc_heap_new w _)
 have hb1:Below w.heap.size w W1:=by rw [←hW1];exact (((Below.refl _ w).alloc (Nat.le_refl _) _).alloc (by simp) _)
 refine ⟨w.heap.size+1,[{ target:= .collected w.heap.size,args:=#[]}],W1,{ target:= .fn (.func gf) lb,args:=#[.func (.yield (w.heap.size+1)) #[] #[]]},W1,gf,
  #[.func (.yield (w.heap.size+1)) #[] #[]]++lb,W1,?_,?_,?_,?_,fun h=>by simp [Fence.wide] at h,?_⟩
 ·rw [←hW1,hrec];exact run_enterLoop_outer _ _ _ _ _
 ·simp only [resolve,hg]
  simp [go_sem]
 ·intro f' _;trivial
 ·simp [invoke,go_sem,eg]
 ·refine (hseq (w.heap.size+1)
   (fun pre T W=> ∃Wq,I pre T Wq∧Turns (fun b=>b=w.heap.size+1∨b=w.heap.size) Wq W∧W.heap[w.heap.size+1]? =some (.loop (rec .ready none))∧W.heap[w.heap.size]? =some (.deferred (some []))∧(∀b,T b→w.heap.size+1<b∧b<W.heap.size)∧(∀b,R b→W.heap[b]? =w0.heap[b]?))
   (fun pre T W=> ∃Wq c,Ix c pre T Wq∧Turns (fun b=>b=w.heap.size+1∨b=w.heap.size) Wq W∧W.heap[w.heap.size+1]? =some (.loop (rec .done (some c)))∧W.heap[w.heap.size]? =some (.deferred (some []))∧(∀b,T b→w.heap.size+1<b))
   W1 (Nat.le_trans hs0 hb1.size) (fun b hb=>(hb1.block b (hR b hb).1).trans (hR b hb).2)
   ⟨w,h0,⟨hb1.os,hb1.tape,hb1.output,hb1.size,fun i hi _=>hb1.block i hi⟩,hL1,hK1,fun _ h=>h.elim,fun b hb=>(hb1.block b (hR b hb).1).trans (hR b hb).2⟩
   ?_).mono ?_
  ·
   rintro pre x rest Tp T Wp W vs hx ⟨Wq,hi,hqp,hl,hk,hTp,hRp⟩ hturn hT hTlt hRW hel
   have hlp:w.heap.size+1<Wp.heap.size:=(Array.getElem?_eq_some_iff.1 hl).1
   have nL:¬Tp (w.heap.size+1):=fun h=>by have:=(hTp _ h).1;omega
   have nD:¬Tp w.heap.size:=fun h=>by have:=(hTp _ h).1;omega
   have hlW:W.heap[w.heap.size+1]? =some (.loop (rec .ready none)):=(hturn.block _ hlp nL).trans hl
   have hkW:W.heap[w.heap.size]? =some (.deferred (some [])):=(hturn.block _ (by omega) nD).trans hk
   have hlt:w.heap.size+1<W.heap.size:=(Array.getElem?_eq_some_iff.1 hlW).1
   have hvs:=hps _ _ _ _ _ hel
   have hy:=run_yield (P:=P) (args:=vs) hlW (by rw [hrec];exact hvs)
   rw [hrec] at hy
   refine ⟨fn,_,assign,body,hy,roundIn_of_wpIn hfn (hassign _ vs W _ hvs ?_)⟩
   clear hy
   refine ⟨_,run_beginRound hlW (by rw [hrec]),?_⟩
   have hT':∀b,T b→w.heap.size+1<b∧b<W.heap.size:=fun b hb=>by
    refine ⟨?_,hTlt b hb⟩
    rcases hT b hb with h | h
    ·exact (hTp b h).1
    ·omega
   have hl2:(W.putObj (w.heap.size+1) (.loop { rec .ready none with state:= .busy})).heap[w.heap.size+1]? =some (.loop { rec .ready none with state:= .busy}):=World.putObj_heap_same hlt
   have hk2:(W.putObj (w.heap.size+1) (.loop { rec .ready none with state:= .busy})).heap[w.heap.size]? =some (.deferred (some [])):=(World.putObj_heap_other (by omega)).trans hkW
   have hR2:∀b,R b→(W.putObj (w.heap.size+1) (.loop { rec .ready none with state:= .busy})).heap[b]? =w0.heap[b]? :=fun b hb=>(World.putObj_heap_other (by have:=(hR b hb).1;omega)).trans (hRW b hb)
   refine wpIn_mono (hbody pre x rest Tp T Wq Wp W _ vs hx hi hqp hqp.size
    (((hqp.mono (fun i _ h=>Or.inr h)).trans (hturn.mono (fun i _ h=>Or.inl h))).trans (Turns.put _ _ _ (Or.inr (Or.inl rfl)))) hTp hT (fun b hb=>by simpa using hT' b hb)
    hR2 hel (Turns.put _ _ _ rfl) (by simp) (by simpa using hlt) ⟨_,hlW⟩ hk2 ⟨_,hl2⟩) ?_
   have fin:∀(jump:Option Code) (W3:World),(∀b,b=w.heap.size+1∨b=w.heap.size→W3.heap[b]? =(W.putObj (w.heap.size+1) (.loop { rec .ready none with state:= .busy})).heap[b]?)→
     (Instr.endRound (w.heap.size+1) jump).run P W3= .ok (.bool jump.isNone) (W3.putObj (w.heap.size+1) (.loop (rec (if jump.isNone then .ready else .done) jump)))∧
     (W3.putObj (w.heap.size+1) (.loop (rec (if jump.isNone then .ready else .done) jump))).heap[w.heap.size+1]? =some (.loop (rec (if jump.isNone then .ready else .done) jump))∧
     (W3.putObj (w.heap.size+1) (.loop (rec (if jump.isNone then .ready else .done) jump))).heap[w.heap.size]? =some (.deferred (some []))∧
     Turns (fun b=>b=w.heap.size+1∨b=w.heap.size) W3 (W3.putObj (w.heap.size+1) (.loop (rec (if jump.isNone then .ready else .done) jump))):=fun jump W3 hk3=>by
    have hl3:=(hk3 _ (Or.inl rfl)).trans hl2
    have:=run_endRound (P:=P) jump hl3
    rw [hrec] at this ⊢
    exact ⟨this,World.putObj_heap_same (Array.getElem?_eq_some_iff.1 hl3).1,(World.putObj_heap_other (by omega)).trans ((hk3 _ (Or.inr rfl)).trans hk2),Turns.put _ _ _ (Or.inl rfl)⟩
   have hkeep:∀(jump:Option Code) (W3:World),(∀b,R b∨T b∨b=w.heap.size+1∨b=w.heap.size→W3.heap[b]? =(W.putObj (w.heap.size+1) (.loop { rec .ready none with state:= .busy})).heap[b]?)→∀b,R b∨T b→(W3.putObj (w.heap.size+1) (.loop (rec (if jump.isNone then .ready else .done) jump))).heap[b]? =W.heap[b]? :=fun jump W3 hk3 b hb=>by
    have hne:b≠w.heap.size+1:=by
     rcases hb with hb | hb
     ·have:=(hR b hb).1;omega
     ·have:=(hT' b hb).1;omega
    exact (World.putObj_heap_other hne).trans ((hk3 b (hb.elim Or.inl (fun h=>Or.inr (Or.inl h)))).trans (World.putObj_heap_other hne))
   rintro e a3 W3 hp
   cases e with
   | normal=>
    obtain ⟨hi3,hsz3,hk3⟩:=hp
    obtain ⟨hr,hl4,hk4,ht4⟩:=fin none W3 (fun b hb=>hk3 b (Or.inr (Or.inr hb)))
    have hsz':W.heap.size≤W3.heap.size:=by simpa using hsz3
    have hkeep:=hkeep none W3 hk3
    exact ⟨_,_,hr,.inl ⟨rfl,⟨W3,hi3,ht4,hl4,hk4,fun b hb=>⟨(hT' b hb).1,by simp;have:=(hT' b hb).2;omega⟩,fun b hb=>(hkeep b (Or.inl hb)).trans (hRW b hb)⟩,by simpa using hsz',hkeep⟩⟩
   | ret=>
    obtain ⟨hi3,hsz3,hk3⟩:=hp
    obtain ⟨hr,hl4,hk4,ht4⟩:=fin (some .ret) W3 (fun b hb=>hk3 b (Or.inr (Or.inr hb)))
    exact ⟨_,_,hr,.inr ⟨rfl,⟨W3,.ret,hi3,ht4,hl4,hk4,fun b hb=>(hT' b hb).1⟩,by simpa using hsz3,hkeep (some .ret) W3 hk3⟩⟩
   | exit id=>
    obtain ⟨hi3,hsz3,hk3⟩:=hp
    obtain ⟨hr,hl4,hk4,ht4⟩:=fin (some (.exit id)) W3 (fun b hb=>hk3 b (Or.inr (Or.inr hb)))
    exact ⟨_,_,hr,.inr ⟨rfl,⟨W3,.exit id,hi3,ht4,hl4,hk4,fun b hb=>(hT' b hb).1⟩,by simpa using hsz3,hkeep (some (.exit id)) W3 hk3⟩⟩
   | goto t=>
    obtain ⟨hi3,hsz3,hk3⟩:=hp
    obtain ⟨hr,hl4,hk4,ht4⟩:=fin (some (.goto t)) W3 (fun b hb=>hk3 b (Or.inr (Or.inr hb)))
    exact ⟨_,_,hr,.inr ⟨rfl,⟨W3,.goto t,hi3,ht4,hl4,hk4,fun b hb=>(hT' b hb).1⟩,by simpa using hsz3,hkeep (some (.goto t)) W3 hk3⟩⟩
   | panic ch=>exact hp.elim
   | outgrown=>exact hp.elim
  ·
   rintro e W2 ⟨⟨v,rfl⟩,(⟨Tp,Wp,⟨Wq,hi,hqp,hl,hk,hTp,hRp⟩,hturn⟩ | ⟨pre,Tp,Wp,hpre,⟨Wq,c,hi,hqp,hl,hk,hTp⟩,hturn⟩)⟩
   ·have hlp:w.heap.size+1<Wp.heap.size:=(Array.getElem?_eq_some_iff.1 hl).1
    have hl2:=(hturn.block _ hlp (fun h=>by have:=(hTp _ h).1;omega)).trans hl
    have hk2:=(hturn.block w.heap.size (by omega) (fun h=>by have:=(hTp _ h).1;omega)).trans hk
    refine ⟨none,_,by have:=run_endLoop (P:=P) hl2 (by rw [hrec];simp);rw [hrec] at this;exact this,?_⟩
    refine hdone Tp Wq _ hi (((hqp.mono (fun i _ h=>Or.inr h)).trans (hturn.mono (fun i _ h=>Or.inl h))).trans (Turns.put _ _ _ (Or.inr (Or.inl rfl)))) (fun b hb=>(hTp b hb).1) ?_ ((World.putObj_heap_other (by omega)).trans hk2)
    simp;exact (Array.getElem?_eq_some_iff.1 hl2).1
   ·have hlp:w.heap.size+1<Wp.heap.size:=(Array.getElem?_eq_some_iff.1 hl).1
    have hl2:=(hturn.block _ hlp (fun h=>by have:=(hTp _ h);omega)).trans hl
    have hk2:=(hturn.block w.heap.size (by omega) (fun h=>by have:=(hTp _ h);omega)).trans hk
    refine ⟨some c,_,by have:=run_endLoop (P:=P) hl2 (by rw [hrec];simp);rw [hrec] at this;exact this,?_⟩
    refine hstop c pre Tp Wq _ hpre hi (((hqp.mono (fun i _ h=>Or.inr h)).trans (hturn.mono (fun i _ h=>Or.inl h))).trans (Turns.put _ _ _ (Or.inr (Or.inl rfl)))) (fun b hb=>(hTp b hb)) ?_ ((World.putObj_heap_other (by omega)).trans hk2)
    simp;exact (Array.getElem?_eq_some_iff.1 hl2).1
end
section
open Go.RowKit
section
variable {P:Program} (w:World)
theorem zb5 (base:Nat) (t ty e:TypeId) (i:TypeInfo) (z:Value) (size bytes:Nat) (ht:P.underlying t=some (.slice e)) (hi:P.info? e=some i) (hz:i.zero=some z)
  (hsize:i.size=size) (hby:i.bytes=bytes) (hzs:z.cells.size=size) (hsz:0<size)
  (v:Value) (n:Nat) (xs:List Value) (hown:w.ownsRow base e size v n xs)
  (p:Option Addr) (m c:Nat) (news:List Value) (hl:news.length=m*size) (hnews:(p=none∧m=0∧c=0)∨∃a,p=some a∧∀j u,news[j]? =some u→w.cell? (a.add j)=some u) (h1:∀u∈news,u.oneCell'=true)
  (h63:n+m≤maxLen) (hbytes:(n+m)*bytes≤140737488355328) (hbase:base≤w.heap.size):
  ∃v' w',(Builtin.append_ #[t,t] ty #[v,.slice p m c]).run P w= .ok v' w'∧w'.ownsRow base e size v' (n+m) (xs++news)∧w.grownBy w' v.ownBlock∧(∀k,v'.ownBlock=some k→v.ownBlock=some k∨w.heap.size≤k):=by
 rcases hnews with ⟨rfl,rfl,rfl⟩ | ⟨a,rfl,hnews⟩
 ·have hn:news=[]:=List.eq_nil_of_length_eq_zero (by simpa using hl)
  subst hn
  refine ⟨v,w,?_,by simpa using hown,⟨rfl,rfl,rfl,Nat.le_refl _,fun _ _ _=>rfl⟩,fun k hk=> .inl hk⟩
  rcases hown.2 with ⟨rfl,rfl⟩ | ⟨g,cap,cur,rfl,hbg,hg,hnc,hcm,hcs,htake⟩
  ·simp [Builtin.append_,run_underlying ht,sizeOf,typeInfo,hi,Builtin.lenOf,Builtin.firstCells]
  ·simp [Builtin.append_,run_underlying ht,sizeOf,typeInfo,hi,Builtin.lenOf,Builtin.firstCells,hnc,storeCells]
 ·obtain ⟨v',w',hr,h2,h3,h4⟩:=run_append_own (P:=P) w base t ty e i z size bytes ht hi hz hsize hby hzs hsz v n xs hown a m c news hl hnews h1 h63 hbytes hbase
  refine ⟨v',w',hr,h2,h3,?_⟩
  rcases hown.2 with ⟨rfl,rfl⟩ | ⟨g,cap,cur,rfl,hbg,hg,hnc,hcm,hcs,htake⟩
  ·obtain ⟨v2,w2,hr2,k2,_,_⟩:=run_append_own (P:=P) w w.heap.size t ty e i z size bytes ht hi hz hsize hby hzs hsz _ 0 [] (World.ownsRow_nil w _ e size) a m c news hl hnews h1 h63 hbytes (Nat.le_refl _)
   rw [hr] at hr2
   cases hr2
   exact fun k hk=> .inr (k2.lt k hk).1
  ·subst hsize
   subst hby
   by_cases hroom:n+m≤cap
   ·have hfit:n*i.size+news.length≤cur.size:=by rw [hl,hcs,←Nat.add_mul];exact Nat.mul_le_mul_right _ hroom
    have hr2:=run_append_room (P:=P) w t ty e i ht hi g n cap cur hg a m c news hl hnews h1 hroom hfit
    rw [hr] at hr2
    cases hr2
    exact fun k hk=> .inl hk
   ·have holds:∀j u,xs[j]? =some u→w.cell? ((⟨g,0,none⟩:Addr).add j)=some u:=hown.cells (g:=g) rfl
    have hr2:=run_append_grow (P:=P) w t ty e i z ht hi hz ⟨g,0,none⟩ n cap xs hown.1 holds a m c news hl hnews (by omega) (by simp only [maxLen] at h63;omega) (growslice_fits (by omega) hbytes)
    rw [hr] at hr2
    cases hr2
    exact fun k hk=> .inr (by cases hk;exact Nat.le_refl _)
end
theorem zai {P:Program} (w:World) {ops:Array Oper} {rest:List Oper} {o:Oper} {a:Act} {Q:Exit→Act→World→Prop} (hgd:o.guard=none) (s x:Operand) (t:TypeId)
  (ho:o.op= .call { callee:= .builtin .append,args:=#[s,x],argTypes:=#[t,t]})
  (base:Nat) (e:TypeId) (i:TypeInfo) (z:Value) (size bytes:Nat) (ht:P.underlying t=some (.slice e)) (hi:P.info? e=some i) (hz:i.zero=some z)
  (hsize:i.size=size) (hby:i.bytes=bytes) (hzs:z.cells.size=size) (hsz:0<size)
  (v:Value) (n:Nat) (xs:List Value) (hs:a.eval s=v) (hown:w.ownsRow base e size v n xs)
  (p:Option Addr) (m c:Nat) (news:List Value) (hx:a.eval x= .slice p m c) (hl:news.length=m*size) (hnews:(p=none∧m=0∧c=0)∨∃ad,p=some ad∧∀j u,news[j]? =some u→w.cell? (ad.add j)=some u) (h1:∀u∈news,u.oneCell'=true)
  (h63:n+m≤maxLen) (hbytes:(n+m)*bytes≤140737488355328) (hbase:base≤w.heap.size)
  (h:∀v' w',w'.ownsRow base e size v' (n+m) (xs++news)→w.grownBy w' v.ownBlock→(∀k,v'.ownBlock=some k→v.ownBlock=some k∨w.heap.size≤k)→wpList P ops Q rest (a.put o.dst v') w'):wpList P ops Q (o::rest) a w:=
 wpList_plain hgd fun _ hK=>by
  obtain ⟨v',w',hr,h2,h3,h4⟩:=zb5 (P:=P) w base t o.type e i z size bytes ht hi hz hsize hby hzs hsz v n xs hown p m c news hl hnews h1 h63 hbytes hbase
  unfold Oper.wp execOp
  simp only [ho,resolve,invoke,builtin,Sem.run_bind,Sem.run_pure,Result.andThen_ok,List.map_toArray,List.map_cons,List.map_nil,hs,hx,hr]
  exact hK _ _ (h v' w' h2 h3 h4)
theorem zdN {F:Fence} {n:Nat} {P:Program} (w:World) {ops:Array Oper} {rest:List Oper} {o:Oper} {a:Act} {Q:Exit→Act→World→Prop}
  (hg:o.guard=none) (s x:Operand) (t:TypeId) (hop:o.op=Op.call { callee:=Callee.builtin Builtin.append,args:=#[s,x],argTypes:=#[t,t]})
  (base:Nat) (e:TypeId) (i:TypeInfo) (z:Value) (size bytes:Nat) (h1:P.underlying t=some (.slice e)) (h2:P.info? e=some i) (h3:i.zero=some z) (h4:i.size=size) (h5:i.bytes=bytes) (h6:z.cells.size=size) (h7:0<size)
  (v:Value) (k:Nat) (xs:List Value) (hs:a.eval s=v) (hown:w.ownsRow base e size v k xs) (p:Option Addr) (m c:Nat) (news:List Value) (hx:a.eval x= .slice p m c) (hn:news.length=m*size)
  (hc:(p=none∧m=0∧c=0)∨∃ad,p=some ad∧∀j u,news[j]? =some u→w.cell? (ad.add j)=some u) (h1c:∀u∈news,u.oneCell'=true) (b1:k+m≤maxLen) (b2:(k+m)*bytes≤140737488355328) (b3:base≤w.heap.size)
  (hK:∀v' w',w'.ownsRow base e size v' (k+m) (xs++news)→w.grownBy w' v.ownBlock→(∀k,v'.ownBlock=some k→v.ownBlock=some k∨w.heap.size≤k)→wpListIn F n P ops Q rest (a.put o.dst v') w'):
  wpListIn F n P ops Q (o::rest) a w:=by
 refine wpListIn_plain hg fun K hK'=>?_
 obtain ⟨v',w',hrun,r1,r2,r3⟩:=zb5 (P:=P) w base t o.type e i z size bytes h1 h2 h3 h4 h5 h6 h7 v k xs hown p m c news hn hc h1c b1 b2 b3
 unfold Oper.wpIn
 refine ⟨?_,?_⟩
 ·simp [Oper.about,hop,resolve,Target.leads,Sem.run_pure]
 ·rw [Oper.semAt_plain F _ _ (by rw [hop];intro c hc';cases hc')]
  simp [execOp,hop,resolve,invoke,builtin,hs,hx,hrun,Result.andThen]
  exact hK' _ _ (hK v' w' r1 r2 r3)
theorem zbm {w:World} {c:List Value} {t:TypeId}:∀j u,c[j]? =some u→(w.alloc (.cells c.toArray t)).cell? ((⟨w.heap.size,0,none⟩:Addr).add j)=some u:=fun j u hj=>by
 rw [Addr.add_lit,Nat.zero_add,World.cell?_alloc_at _ _ _ _ rfl]
 simpa using hj
theorem zaL {P:Program} (w:World) {ops:Array Oper} {rest:List Oper} {o:Oper} {a:Act} {Q:Exit→Act→World→Prop} (hgd:o.guard=none) (s x:Operand) (t:TypeId)
  (ho:o.op= .call { callee:= .builtin .append,args:=#[s,x],argTypes:=#[t,t]})
  (base:Nat) (e:TypeId) (z:Value) (bytes:Nat) (hinfo:(P.info? e).map (fun i=>(i.zero,i.size,i.bytes))=some (some z,1,bytes)) (ht:P.underlying t=some (.slice e)) (hzs:z.cells.size=1)
  (v:Value) (n:Nat) (xs:List Value) (hs:a.eval s=v) (hown:w.ownsRow base e 1 v n xs) (u:Value) (te:TypeId) (hx:a.eval x= .slice (some ⟨w.heap.size,0,none⟩) 1 1) (hu:u.oneCell'=true)
  (h63:n+1≤maxLen) (hbytes:(n+1)*bytes≤140737488355328) (hbase:base≤w.heap.size)
  (h:∀g cap w',w'.ownsRow base e 1 (.slice (some ⟨g,0,none⟩) (n+1) cap) (n+1) (xs++[u])→Turns (fun b=>v.ownBlock=some b) w w'→(v.ownBlock=some g∨w.heap.size≤g)→wpList P ops Q rest (a.put o.dst (.slice (some ⟨g,0,none⟩) (n+1) cap)) w'):
  wpList P ops Q (o::rest) a (w.alloc (.cells #[u] te)):=by
 obtain ⟨i,hi,hz,hsz,hby⟩:=info_parts hinfo
 refine zai (P:=P) (w.alloc (.cells #[u] te)) hgd s x t ho base e i z 1 bytes ht hi hz hsz hby hzs (by decide) v n xs hs (hown.alloc _) (some ⟨w.heap.size,0,none⟩) 1 1 [u] hx rfl (.inr ⟨_,rfl,zbm (c:=[u])⟩)
  (fun q hq=>by rcases List.mem_singleton.1 hq with rfl;exact hu) h63 hbytes (by rw [World.size_alloc];omega) ?_
 intro v' w' h2 h3 h4
 rcases h2.2 with ⟨-,h0⟩ | ⟨g,cap,cur,rfl,-⟩
 ·omega
 ·refine h g cap w' h2 ?_ ?_
  ·exact (Turns.of_below' (Below.al1 w _)).trans (Turns.of_grown h3 (fun _ h=>h))
  ·rcases h4 g rfl with h | h
   ·exact .inl h
   ·rw [World.size_alloc] at h
    exact .inr (by omega)
end
section
open Go.RowKit
theorem ze2 (l:List Obj) (w:World) (k:Nat) (h:k<w.heap.size):(l.foldl World.alloc w).heap[k]? =w.heap[k]? :=by
 induction l generalizing w with
 | nil=>rfl
 | cons x l ih=>exact (ih (w.alloc x) (by simp;omega)).trans (Below.heap_alloc w x k h)
theorem zag (l:List Obj) (w:World) (i:Nat) (o:Obj):(l.foldl World.alloc w).heap[w.heap.size+i]? =some o↔l[i]? =some o:=by
 induction l generalizing w i with
 | nil=>simp
 | cons x l ih=>
  cases i with
  | zero=>
   rw [List.foldl_cons,Nat.add_zero,ze2 l (w.alloc x) w.heap.size (by simp),World.alloc_heap_new]
   simp
  | succ i=>
   have:=ih (w.alloc x) i
   rw [World.size_alloc,Nat.add_assoc,Nat.add_comm 1 i] at this
   simpa using this
theorem zcN {W:World} {B:Nat} {t:TypeId} {a b:Value} (c:Value) (h:W.heap[B]? =some (.cells #[a,b] t)):(W.setCell ⟨B,0,none⟩ c).heap[B]? =some (.cells #[c,b] t):=by
 obtain ⟨hlt,hk⟩:=Array.getElem?_eq_some_iff.1 h
 show (W.heap.modify B _)[B]? =_
 rw [Array.getElem?_eq_getElem (by rw [Array.size_modify];exact hlt),Array.getElem_modify_self,hk]
 rfl
theorem zbS {W:World} {B:Nat} {t:TypeId} {a b:Value} (c:Value) (h:W.heap[B]? =some (.cells #[a,b] t)):(W.setCell ⟨B,1,none⟩ c).heap[B]? =some (.cells #[a,c] t):=by
 obtain ⟨hlt,hk⟩:=Array.getElem?_eq_some_iff.1 h
 show (W.heap.modify B _)[B]? =_
 rw [Array.getElem?_eq_getElem (by rw [Array.size_modify];exact hlt),Array.getElem_modify_self,hk]
 rfl
theorem Turns.set {T:Nat→Prop} {a W:World} (h:Turns T a W) {p:Addr} (hp:T p.block) (u:Value):Turns T a (W.setCell p u):=
 h.trans ⟨rfl,rfl,rfl,(KeepsWalks.setCell W p u).size,fun k _ hk=>Below.heap_setCell _ _ _ k (fun e=>hk (e ▸ hp))⟩
theorem Turns.set1 (B:Nat) (W:World) (u:Value):Turns (fun b=>b=B) W (W.setCell ⟨B,0,none⟩ u):=Turns.set (T:=fun b=>b=B) (p:=⟨B,0,none⟩) (Turns.refl _ W) rfl u
theorem Turns.drew {T:Nat→Prop} {a W:World} (h:Turns T a W):Turns T a W.drew:=⟨h.os,h.tape,h.output,h.size,h.block⟩
theorem Turns.drewN {T:Nat→Prop} {a W:World} (h:Turns T a W) (n:Nat):Turns T a (W.drewN n):=⟨h.os,h.tape,h.output,h.size,h.block⟩
theorem zdP {vs:Array Value} (h:vs.size=1):∃a,vs=#[a]:=by
 obtain ⟨l⟩:=vs
 match l,h with
 | [a],_=>exact ⟨a,rfl⟩
def RowAt {α:Type} (enc:α→List Value) (k:Nat) (W:World) (p:Option Addr) (xs:List α):Prop:=
 (p=none∧xs=[])∨∃b off,p=some ⟨b,off,none⟩∧b<W.heap.size∧∀i x,xs[i]? =some x→∀j u,(enc x)[j]? =some u→W.cell? ⟨b,off+i*k+j,none⟩=some u
def Row {α:Type} (enc:α→List Value) (k:Nat) (W:World) (v:Value) (xs:List α):Prop:=
 ∃p cap,v= .slice p xs.length cap∧xs.length≤cap∧cap≤maxLen∧RowAt enc k W p xs
theorem RowAt.turns {α:Type} {enc:α→List Value} {k:Nat} {W W':World} {p:Option Addr} {xs:List α} {T:Nat→Prop} (h:RowAt enc k W p xs) (ht:Turns T W W') (hn:∀a,p=some a→¬T a.block):RowAt enc k W' p xs:=by
 rcases h with h | ⟨b,off,rfl,h3,h4⟩
 ·exact .inl h
 ·exact .inr ⟨b,off,rfl,Nat.lt_of_lt_of_le h3 ht.size,fun i x hi j u hj=>(World.cell?_of_block (ht.block b h3 (hn _ rfl))).trans (h4 i x hi j u hj)⟩
theorem Row.turns {α:Type} {enc:α→List Value} {k:Nat} {W W':World} {v:Value} {xs:List α} {T:Nat→Prop} (h:Row enc k W v xs) (ht:Turns T W W') (hn:∀b,v.ownBlock=some b→¬T b):Row enc k W' v xs:=by
 obtain ⟨p,cap,rfl,h1,h2,h3⟩:=h
 exact ⟨p,cap,rfl,h1,h2,h3.turns ht (fun a e=>hn a.block (by rw [e];rfl))⟩
theorem RowAt.below {α:Type} {enc:α→List Value} {k:Nat} {W W':World} {p:Option Addr} {xs:List α} (h:RowAt enc k W p xs) (hb:Below W.heap.size W W'):RowAt enc k W' p xs:=
 h.turns (T:=fun _=>False) (Turns.of_below' hb) (fun _ _ h=>h)
theorem Row.below {α:Type} {enc:α→List Value} {k:Nat} {W W':World} {v:Value} {xs:List α} (h:Row enc k W v xs) (hb:Below W.heap.size W W'):Row enc k W' v xs:=
 h.turns (T:=fun _=>False) (Turns.of_below' hb) (fun _ _ h=>h)
theorem Row.len {α:Type} {enc:α→List Value} {k:Nat} {W:World} {v:Value} {xs:List α} (h:Row enc k W v xs):xs.length≤9223372036854775807:=by
 obtain ⟨p,cap,rfl,h1,h2,h3⟩:=h;simp only [maxLen] at h2;omega
theorem zbF {w W:World} {b:Nat} (h:b<w.heap.size) (hs:W.heap[b]? =w.heap[b]?):b<W.heap.size:=by
 rw [Array.getElem?_eq_getElem h] at hs
 exact (Array.getElem?_eq_some_iff.1 hs).1
theorem RowAt.same {α:Type} {enc:α→List Value} {k:Nat} {w W:World} {p:Option Addr} {xs:List α} (h:RowAt enc k w p xs) (hs:∀a,p=some a→W.heap[a.block]? =w.heap[a.block]?):RowAt enc k W p xs:=by
 rcases h with h | ⟨b,off,rfl,h3,h4⟩
 ·exact .inl h
 ·exact .inr ⟨b,off,rfl,zbF h3 (hs _ rfl),fun i x hi j u hj=>(World.cell?_of_block (a:=⟨b,off+i*k+j,none⟩) (hs ⟨b,off,none⟩ rfl)).trans (h4 i x hi j u hj)⟩
theorem Row.same {α:Type} {enc:α→List Value} {k:Nat} {w W:World} {v:Value} {xs:List α} (h:Row enc k w v xs) (hs:∀b,v.ownBlock=some b→W.heap[b]? =w.heap[b]?):Row enc k W v xs:=by
 obtain ⟨p,cap,rfl,h1,h2,h3⟩:=h
 exact ⟨p,cap,rfl,h1,h2,h3.same (fun a e=>hs a.block (by rw [e];rfl))⟩
theorem ziz {α:Type} {enc:α→List Value} {k:Nat} (hk:∀x,(enc x).length=k) (l:List α) (i j:Nat) (hj:j<k):(l.flatMap enc)[i*k+j]? =l[i]?.bind (fun x=>(enc x)[j]?):=by
 induction l generalizing i with
 | nil=>simp
 | cons x l ih=>
  rw [List.flatMap_cons]
  cases i with
  | zero=>
   rw [Nat.zero_mul,Nat.zero_add,List.getElem?_append_left (by rw [hk];exact hj)]
   simp
  | succ i=>
   rw [List.getElem?_append_right (by rw [hk,Nat.add_mul];omega),hk,show (i+1)*k+j - k=i*k+j by rw [Nat.add_mul];omega,ih]
   simp
theorem zbT {α:Type} {enc:α→List Value} {k:Nat} (hk:∀x,(enc x).length=k) {W:World} {base:Nat} {e:TypeId} {v:Value} {xs:List α} (h:W.ownsRow base e k v xs.length (xs.flatMap enc)):Row enc k W v xs:=by
 rcases h.2 with ⟨rfl,h0⟩ | ⟨g,cap,cur,rfl,hb,hg,hn,hm,hs,ht⟩
 ·have hx:xs=[]:=List.eq_nil_of_length_eq_zero h0
  subst hx
  exact ⟨none,0,rfl,by simp,by simp [maxLen],.inl ⟨rfl,rfl⟩⟩
 ·refine ⟨some ⟨g,0,none⟩,cap,rfl,hn,hm,.inr ⟨g,0,rfl,(Array.getElem?_eq_some_iff.1 hg).1,fun i x hi j u hj=>?_⟩⟩
  have hjk:j<k:=by have:=(List.getElem?_eq_some_iff.1 hj).1;rw [hk] at this;exact this
  have h1:=ziz hk xs i j hjk
  rw [hi] at h1
  simp only [Option.bind_some] at h1
  rw [hj,←ht,List.getElem?_take] at h1
  split at h1
  ·simp only [Nat.zero_add]
   rw [cell_of_row W g (i*k+j) cur e (0,0) hg]
   simpa using h1
  ·cases h1
theorem zac {W:World} {base:Nat} {e:TypeId} {size:Nat} {v:Value} {n:Nat} {xs:List Value} (h:W.ownsRow base e size v n xs):∃p c,v= .slice p n c:=by
 rcases h.2 with ⟨rfl,rfl⟩ | ⟨g,cap,cur,rfl,_⟩
 ·exact ⟨_,_,rfl⟩
 ·exact ⟨_,_,rfl⟩
theorem zhz {W:World} {base:Nat} {e:TypeId} {size:Nat} {v:Value} {n:Nat} {xs:List Value} (h:W.ownsRow base e size v n xs):∀c,v= .slice none 0 c→c=0:=by
 rintro c rfl
 rcases h.2 with ⟨h0,_⟩ | ⟨g,cap,cur,h1,_⟩
 ·cases h0;rfl
 ·cases h1
structure RwG {α:Type} (enc:α→List Value) (k:Nat) (w:World) (v:Value) (xs:List α):Prop where
 row:Row enc k w v xs
 nil:∀c,v= .slice none 0 c→c=0
theorem RwG.below {α:Type} {enc:α→List Value} {k:Nat} {w w1:World} {v:Value} {xs:List α} (h:RwG enc k w v xs) (hb:Below w.heap.size w w1):RwG enc k w1 v xs:=⟨h.row.below hb,h.nil⟩
theorem RwG.turns {α:Type} {enc:α→List Value} {k:Nat} {w w1:World} {v:Value} {xs:List α} {T:Nat→Prop} (h:RwG enc k w v xs) (ht:Turns T w w1) (hn:∀b,v.ownBlock=some b→¬T b):RwG enc k w1 v xs:=⟨h.row.turns ht hn,h.nil⟩
theorem RwG.owned {α:Type} {enc:α→List Value} {k:Nat} (hk:∀x,(enc x).length=k) {w:World} {base:Nat} {e:TypeId} {v:Value} {xs:List α} (h:w.ownsRow base e k v xs.length (xs.flatMap enc)):RwG enc k w v xs:=⟨zbT hk h,zhz h⟩
theorem RwG.lt {α:Type} {enc:α→List Value} {k:Nat} {w:World} {v:Value} {xs:List α} (h:RwG enc k w v xs):∀b,v.ownBlock=some b→b<w.heap.size:=by
 obtain ⟨⟨p,cap,rfl,-,-,h3⟩,-⟩:=h
 rcases h3 with ⟨rfl,rfl⟩ | ⟨b,off,rfl,h3,h4⟩
 ·intro b h;cases h
 ·intro b' h;cases h;exact h3
theorem RwG.src {α:Type} {enc:α→List Value} {k:Nat} (hk:∀x,(enc x).length=k) (h0:0<k) {w:World} {v:Value} {xs:List α} (h:RwG enc k w v xs):∃p c,v= .slice p xs.length c∧xs.length≤c∧c≤maxLen∧((p=none∧xs.length=0∧c=0)∨∃ad,p=some ad∧∀j u,(xs.flatMap enc)[j]? =some u→w.cell? (ad.add j)=some u):=by
 obtain ⟨⟨p,c,rfl,h1,h2,h3⟩,hn⟩:=h
 refine ⟨p,c,rfl,h1,h2,?_⟩
 rcases h3 with ⟨rfl,rfl⟩ | ⟨b,off,rfl,h4,h5⟩
 ·exact .inl ⟨rfl,rfl,hn _ rfl⟩
 ·refine .inr ⟨_,rfl,fun j u hu=>?_⟩
  have hm:=Nat.mod_lt j h0
  have hj:j/k*k+j%k=j:=by rw [Nat.mul_comm];exact Nat.div_add_mod j k
  have h1:=ziz hk xs (j/k) (j%k) hm
  rw [hj,hu] at h1
  cases hx:xs[j/k]? with
  | none=>rw [hx] at h1;cases h1
  | some x=>
   rw [hx] at h1
   have h6:=h5 (j/k) x hx (j%k) u h1.symm
   rw [Nat.add_assoc,hj] at h6
   rw [Addr.add_lit]
   exact h6
theorem ziW {W:World} {base:Nat} {e:TypeId} {size g n cap:Nat} {xs:List Value} (h:W.ownsRow base e size (.slice (some ⟨g,0,none⟩) n cap) n xs) (j:Nat) (u:Value):
  (W.setCell ⟨g,j,none⟩ u).ownsRow base e size (.slice (some ⟨g,0,none⟩) n cap) n (xs.set j u):=by
 rcases h.2 with ⟨h0,_⟩ | ⟨g',cap',cur,h0,hb,hg,hn,hm,hs,ht⟩
 ·cases h0
 ·cases h0
  have hh:(W.setCell ⟨g,j,none⟩ u).heap[g]? =some (.cells (cur.setIfInBounds j u) e (0,0)):=by
   obtain ⟨hlt,hk⟩:=Array.getElem?_eq_some_iff.1 hg
   show (W.heap.modify g _)[g]? =_
   rw [Array.getElem?_eq_getElem (by rw [Array.size_modify];exact hlt),Array.getElem_modify_self,hk]
   simp
  exact ⟨by simpa using h.1,.inr ⟨g,cap,_,rfl,hb,hh,hn,hm,by simpa using hs,by rw [Array.toList_setIfInBounds,List.take_set,ht]⟩⟩
end
end Go.Proofs.YtedakhgaghfogaaGreat
