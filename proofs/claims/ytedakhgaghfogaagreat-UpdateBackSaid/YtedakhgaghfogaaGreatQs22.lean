/- Several texts in one, each with its own head. -/
import Derived.Test.YtedakhgaghfogaaGreatQs19
import Derived.Test.YtedakhgaghfogaaGreatQs4
import Derived.Test.YtedakhgaghfogaaGreatQs21
import Derived.OwnWalkIn
import Derived.TacticsInMore
import Derived.LoopNIn
import Derived.LoopIn
import Derived.Test.YtedakhgaghfogaaGreatQs3
import Derived.OrdersIn
import Derived.RangeFuncCalls
import Derived.Test.YtedakhgaghfogaaGreatQs9
import Derived.Test.YtedakhgaghfogaaGreatQs18
namespace Go.Proofs.YtedakhgaghfogaaGreat
section
open Go.RowKit Go.Shelf
attribute [local go_sem] Oper.semAt_some
def paT (t:Tk):List Pa:=if t.n=0 then [⟨0,t.b,0,0⟩] else [lnP t.n.toNat,dsP t.d.toNat]
def pasT (ts:List Tk):List Pa:=ts.flatMap paT++[⟨0,256,0,0⟩]
def ElPa (_ _:World) (_:Nat→Prop) (x:Pa) (vs:Array Value):Prop:=vs=#[PaV x]
theorem zcH {t:Tk} (h:t.okB=true):(t.n=0)∨(∃n d:Nat,t.n=(n:Int)∧t.d=(d:Int)∧3≤n∧n≤258∧1≤d∧d≤32768):=by
 by_cases h0:t.n=0
 ·exact .inl h0
 ·have hk:t.okB=decide (3≤t.n∧t.n≤258∧1≤t.d∧t.d≤32768∧t.b=0):=if_neg h0
  rw [h] at hk
  have hk:=of_decide_eq_true hk.symm
  exact .inr ⟨t.n.toNat,t.d.toNat,by omega,by omega,by omega,by omega,by omega,by omega⟩
theorem znL (ts:List Tk) {i:Nat} (hi:i<ts.length):pasT ts=(ts.take i).flatMap paT++(paT ts[i]++pasT (ts.drop (i+1))):=by
 unfold pasT
 have e:ts.flatMap paT=(ts.take i++ts[i]::ts.drop (i+1)).flatMap paT:=by rw [←List.drop_eq_getElem_cons hi,List.take_append_drop]
 rw [e]
 simp only [List.flatMap_append,List.flatMap_cons,List.append_assoc]
theorem zn7 (ts:List Tk) {i:Nat} (hi:i<ts.length):(ts.take (i+1)).flatMap paT=(ts.take i).flatMap paT++paT ts[i]:=by
 rw [List.take_succ_eq_append_getElem hi,List.flatMap_append];simp
theorem zlW {W:World} {p:Option Addr} {ts:List Tk} (h:RowAt encT 3 W p ts) {i:Nat} (hi:i<ts.length):∃b off,p=some ⟨b,off,none⟩∧W.cell? ⟨b,off+i*3,none⟩=some (.int .u8 (ts[i].b:Int))∧W.cell? ⟨b,off+i*3+1,none⟩=some (.int .i64 ts[i].n)∧W.cell? ⟨b,off+i*3+2,none⟩=some (.int .i64 ts[i].d):=by
 rcases h with ⟨-,rfl⟩ | ⟨b,off,rfl,-,h4⟩
 ·simp at hi
 ·exact ⟨b,off,rfl,h4 i _ (List.getElem?_eq_getElem hi) 0 _ rfl,h4 i _ (List.getElem?_eq_getElem hi) 1 _ rfl,h4 i _ (List.getElem?_eq_getElem hi) 2 _ rfl⟩
set_option maxRecDepth 20000 in
set_option maxHeartbeats 4000000 in
theorem zel (Bl:Nat) (p:Option Addr) (c:Nat) (ts:List Tk) (w:World) (R:Nat→Prop) (hBl:w.cell? ⟨Bl,0,none⟩=some (.slice p ts.length c)) (hp:RowAt encT 3 w p ts) (hx:∀t∈ts,t.okB=true∧t.b<256) (hl:ts.length≤1048576)
  (hRlt:∀b,R b→b<w.heap.size) (hR1:R Bl) (hR3:∀a,p=some a→R a.block):
  Iter Tryz.prog 174 #[.pointer (some ⟨Bl,0,none⟩)] ElPa R (pasT ts) w:=by
 intro l J Jx W hsz hRW hJ0 hY
 refine callsIn_wide.2 ?_
 have hcl:W.cell? ⟨Bl,0,none⟩=some (.slice p ts.length c):=(World.cell?_of_block (hRW Bl hR1)).trans hBl
 have HY:=Lib.hid hY
 have HRW:=Lib.hid hRW
 have Hp:=Lib.hid hp
 have Hx:=Lib.hid hx
 have HRlt:=Lib.hid hRlt
 obtain ⟨n,hn⟩:∃n,ts.length=n:=⟨_,rfl⟩
 have Hn:=Lib.hid hn
 rw [hn] at hcl hl
 clear hY hRW hp hx hRlt hBl hn
 go_enter Tryz.func174,Tryz.ntmps174
 go_wp2
 go_loopw [7] (fun iv wr=> ∃(i:Nat) (Tp:Nat→Prop) (Wp:World),iv= .int .i64 (i:Int)∧i≤n∧Hid (J ((ts.take i).flatMap paT) Tp Wp)∧Hid (Turns Tp Wp wr)∧Hid (∀b,R b→wr.heap[b]? =w.heap[b]?)∧Hid (∀b,Tp b→Wp.heap.size≤b∨True)) (fun iv _=>n - (intOf iv).toNat)
 case atStart=>exact ⟨0,fun _=>False,W,rfl,Nat.zero_le _,Lib.hid hJ0,Lib.hid (Turns.refl _ _),HRW,Lib.hid (fun _ h=>h.elim)⟩
 case round=>
  obtain ⟨i,Tp,Wp,rfl,hi,HJ,HT,HR,-⟩:=hrel
  by_cases hin:i<n
  ·have d1:decide ((i:Int)<(n:Int))=true:=by simp;omega
   have hin':i<ts.length:=by rw [Hn.out];exact hin
   obtain ⟨b,off,rfl,x0,x1,x2⟩:=zlW Hp.out hin'
   have hRb:=hR3 _ rfl
   have hsame:=HR.out b hRb
   have x0:=(World.cell?_of_block (a:=⟨b,off+i*3,none⟩) hsame).trans x0
   have x1:=(World.cell?_of_block (a:=⟨b,off+i*3+1,none⟩) hsame).trans x1
   have x2:=(World.cell?_of_block (a:=⟨b,off+i*3+2,none⟩) hsame).trans x2
   obtain ⟨hok,hb256⟩:=Hx.out _ (List.getElem_mem hin')
   have Hcut:=Lib.hid (znL ts hin')
   have Htk:=Lib.hid (zn7 ts hin')
   have i0:(0:Int)≤(i:Int):=by omega
   have i1:(i:Int)<(n:Int):=by omega
   generalize ts[i]=t at *
   clear hsame hin'
   go_upto_region 3 with (fail)
   have hb1:=Below.al1 wr (.cells #[.int .u8 (t.b:Int),.int .i64 t.n,.int .i64 t.d] 209)
   have y0:(wr.alloc (.cells #[.int .u8 (t.b:Int),.int .i64 t.n,.int .i64 t.d] 209)).cell? ⟨wr.heap.size,0,none⟩=some (.int .u8 (t.b:Int)):=zaa (World.alloc_heap_new wr _) rfl
   have y1:(wr.alloc (.cells #[.int .u8 (t.b:Int),.int .i64 t.n,.int .i64 t.d] 209)).cell? ⟨wr.heap.size,1,none⟩=some (.int .i64 t.n):=zaa (World.alloc_heap_new wr _) rfl
   have y2:(wr.alloc (.cells #[.int .u8 (t.b:Int),.int .i64 t.n,.int .i64 t.d] 209)).cell? ⟨wr.heap.size,2,none⟩=some (.int .i64 t.d):=zaa (World.alloc_heap_new wr _) rfl
   have hgs:wr.heap.size<(wr.alloc (.cells #[.int .u8 (t.b:Int),.int .i64 t.n,.int .i64 t.d] 209)).heap.size:=by rw [World.size_alloc];omega
   generalize wr.alloc (.cells #[.int .u8 (t.b:Int),.int .i64 t.n,.int .i64 t.d] 209)=u1 at *
   have HR1:Hid (∀b,R b→u1.heap[b]? =w.heap[b]?):=Lib.hid (fun b hb=>(hb1.block b (zbF (HRlt.out b hb) (HR.out b hb))).trans (HR.out b hb))
   have HT1:=Lib.hid (HT.out.trans (Turns.of_below' hb1))
   have hWp:Wp.heap.size≤wr.heap.size:=HT.out.size
   generalize wr.heap.size=gt at *
   clear x0 x1 x2 hb1
   rcases zcH hok with h0 | ⟨nn,dd,e1,e2,n1,n2,n3,n4⟩
   ·rw [h0] at y1
    have e0:paT t=[⟨0,t.b,0,0⟩]:=if_pos h0
    rw [e0] at Hcut Htk
    have hwb:IntKind.i64.wrap (t.b:Int)=(t.b:Int):=IntWalk.i64_in _ (by omega)
    go_upto_region 4 with (fail)
    obtain ⟨fn,tmps,assign,body,hy,hRd⟩:=HY.out ((ts.take i).flatMap paT) ⟨0,t.b,0,0⟩ (pasT (ts.drop (i+1))) Tp (fun _=>False) Wp u1 #[PaV ⟨0,t.b,0,0⟩] Hcut.out HJ.out HT1.out (fun _ h=>h.elim) (fun _ h=>h.elim) HR1.out rfl
    change Sem.run _ (Instr.yield l #[.agg #[.int .i64 0,.int .i64 (t.b:Int),.int .i64 0,.int .i64 0]]) u1=_ at hy
    refine (wpIn_wide (n:=0)).1 ?_
    gi_wp2
    refine ⟨rfl,hRd.mono ?_⟩
    rintro e W3 (⟨rfl,hJ3,hsz3,hk3⟩ | ⟨rfl,hJx3,-,-⟩)
    ·have HR3:Hid (∀b,R b→W3.heap[b]? =w.heap[b]?):=Lib.hid (fun b hb=>(hk3 b (Or.inl hb)).trans (HR1.out b hb))
     have HJ3:=Lib.hid hJ3
     clear hk3 hJ3
     gi_wp2
     go_wp2
     go_roundw
     case rel=>exact ⟨i+1,fun _=>False,W3,by go_num,by omega,by rw [Htk.out];exact HJ3,Lib.hid (Turns.refl _ _),HR3,Lib.hid (fun _ h=>h.elim)⟩
     case measure=>simp [intOf];omega
    ·have HP:(ts.take i).flatMap paT++[⟨0,t.b,0,0⟩] <+:pasT ts:=⟨pasT (ts.drop (i+1)),by rw [Hcut.out];simp⟩
     gi_wp2
     go_wp2
     refine bodyPost_ret (results_none rfl _ _ _) rfl ?_
     exact ⟨⟨_,rfl⟩,.inr ⟨_,_,_,HP,hJx3,Turns.refl _ _⟩⟩
   ·rw [e1] at y1
    rw [e2] at y2
    have h0:t.n≠0:=by omega
    have e0:paT t=[lnP nn,dsP dd]:=by
     unfold paT
     rw [if_neg h0,e1,e2];rfl
    rw [e0] at Hcut Htk
    have d2:((nn:Int)==0)=false:=by simp;omega
    go_upto_region 5 with (fail)
    refine (wpIn_wide (n:=0)).1 ?_
    gi_wp2
    refine ⟨trivial,rfl,(callsIn_wide.2 (zjD nn u1 n1 n2)).mono ?_⟩
    rintro _ u2 ⟨rfl,hb2⟩
    have HR2:Hid (∀b,R b→u2.heap[b]? =w.heap[b]?):=Lib.hid (fun b hb=>(hb2.block b (zbF (HRlt.out b hb) (HR1.out b hb))).trans (HR1.out b hb))
    have HT2:=Lib.hid (HT1.out.trans (Turns.of_below' hb2))
    have z2:=cell_later hb2 y2
    have hgs2:gt<u2.heap.size:=Nat.lt_of_lt_of_le hgs hb2.size
    obtain ⟨fn,tmps,assign,body,hy,hRd⟩:=HY.out ((ts.take i).flatMap paT) (lnP nn) (dsP dd::pasT (ts.drop (i+1))) Tp (fun b=>b=gt) Wp u2 #[PaV (lnP nn)] Hcut.out HJ.out HT2.out (fun b h=> .inr (by rw [h];exact hWp)) (fun b h=>by rw [h];exact hgs2) HR2.out rfl
    clear y0 y1 y2 hb2
    gi_wp2
    refine ⟨rfl,hRd.mono ?_⟩
    rintro e W3 (⟨rfl,hJ3,hsz3,hk3⟩ | ⟨rfl,hJx3,-,-⟩)
    ·have HR3:Hid (∀b,R b→W3.heap[b]? =w.heap[b]?):=Lib.hid (fun b hb=>(hk3 b (Or.inl hb)).trans (HR2.out b hb))
     have HJ3:=Lib.hid hJ3
     have z3:=(World.cell?_of_block (a:=⟨gt,2,none⟩) (hk3 gt (Or.inr rfl))).trans z2
     clear hk3 hJ3 hy hRd z2
     gi_wp2
     refine ⟨trivial,rfl,(callsIn_wide.2 (zhq dd W3 n3 n4)).mono ?_⟩
     rintro _ u4 ⟨rfl,hb4⟩
     have HR4:Hid (∀b,R b→u4.heap[b]? =w.heap[b]?):=Lib.hid (fun b hb=>(hb4.block b (zbF (HRlt.out b hb) (HR3.out b hb))).trans (HR3.out b hb))
     have HT4:=Lib.hid (Turns.of_below' (T:=fun b=>b=gt) hb4)
     obtain ⟨fn,tmps,assign,body,hy,hRd⟩:=HY.out ((ts.take i).flatMap paT++[lnP nn]) (dsP dd) (pasT (ts.drop (i+1))) (fun b=>b=gt) (fun _=>False) W3 u4 #[PaV (dsP dd)] (by rw [Hcut.out];simp) HJ3.out HT4.out (fun _ h=>h.elim) (fun _ h=>h.elim) HR4.out rfl
     clear hb4 z3
     gi_wp2
     refine ⟨rfl,hRd.mono ?_⟩
     rintro e W5 (⟨rfl,hJ5,hsz5,hk5⟩ | ⟨rfl,hJx5,-,-⟩)
     ·have HR5:Hid (∀b,R b→W5.heap[b]? =w.heap[b]?):=Lib.hid (fun b hb=>(hk5 b (Or.inl hb)).trans (HR4.out b hb))
      have HJ5:Hid (J ((ts.take (i+1)).flatMap paT) (fun _=>False) W5):=Lib.hid (by rw [Htk.out];simpa using hJ5)
      clear hk5 hJ5 hy hRd
      gi_wp2
      go_wp2
      go_roundw
      case rel=>exact ⟨i+1,fun _=>False,W5,by go_num,by omega,HJ5,Lib.hid (Turns.refl _ _),HR5,Lib.hid (fun _ h=>h.elim)⟩
      case measure=>simp [intOf];omega
     ·have HP:(ts.take i).flatMap paT++[lnP nn]++[dsP dd] <+:pasT ts:=⟨pasT (ts.drop (i+1)),by rw [Hcut.out];simp⟩
      gi_wp2
      go_wp2
      refine bodyPost_ret (results_none rfl _ _ _) rfl ?_
      exact ⟨⟨_,rfl⟩,.inr ⟨_,_,_,HP,hJx5,Turns.refl _ _⟩⟩
    ·have HP:(ts.take i).flatMap paT++[lnP nn] <+:pasT ts:=⟨dsP dd::pasT (ts.drop (i+1)),by rw [Hcut.out];simp⟩
     gi_wp2
     refine ⟨trivial,?_⟩
     gi_wp2
     refine ⟨fun _ h=>(by cases h),?_⟩
     gi_wp2
     go_wp2
     refine bodyPost_ret (results_none rfl _ _ _) rfl ?_
     exact ⟨⟨_,rfl⟩,.inr ⟨_,_,_,HP,hJx3,Turns.refl _ _⟩⟩
  ·obtain rfl:i=n:=by omega
   have hE:ts.take i=ts:=List.take_of_length_le (by rw [Hn.out];exact Nat.le_refl _)
   rw [hE] at HJ
   clear hE
   go_upto_region 7 with (fail)
   obtain ⟨fn,tmps,assign,body,hy,hRd⟩:=HY.out (ts.flatMap paT) ⟨0,256,0,0⟩ [] Tp (fun _=>False) Wp wr #[PaV ⟨0,256,0,0⟩] rfl HJ.out HT.out (fun _ h=>h.elim) (fun _ h=>h.elim) HR.out rfl
   change Sem.run _ (Instr.yield l #[.agg #[.int .i64 0,.int .i64 256,.int .i64 0,.int .i64 0]]) wr=_ at hy
   refine (wpIn_wide (n:=0)).1 ?_
   gi_wp2
   refine ⟨rfl,hRd.mono ?_⟩
   rintro e W3 (⟨rfl,hJ3,hsz3,hk3⟩ | ⟨rfl,hJx3,-,-⟩)
   ·gi_wp2
    go_wp2
    go_end0
    exact ⟨⟨_,rfl⟩,.inl ⟨_,_,hJ3,Turns.refl _ _⟩⟩
   ·have HP:ts.flatMap paT++[⟨0,256,0,0⟩] <+:pasT ts:=⟨[],by unfold pasT;simp⟩
    gi_wp2
    go_wp2
    go_end0
    exact ⟨⟨_,rfl⟩,.inr ⟨_,_,_,HP,hJx3,Turns.refl _ _⟩⟩
end
section
open Go.RowKit
def zeG (l:List Oper):Bool:=l.all fun o=>match o.op with | .defer _=>false | _=>true
theorem zqG {P:Program} {L:Nat} {o:Oper} {a:Act} {w:World} {K:Act→World→Prop} {Q:Exit→Act→World→Prop} (hd:∀c,o.op≠.defer c) (h:o.wp P a w K Q):o.wpIn (Fence.wide.inRound L) 0 P a w K Q:=by
 refine ⟨fun _ _=>trivial,?_⟩
 unfold Oper.wp at h
 rw [Oper.semAt_eq _ _ _ hd]
 cases e:(execOp a.eval o).run P w with
 | ok x w'=>
  rw [e] at h
  cases x with
  | value v=>exact h
  | skip=>exact h
  | defer d=>exact h
  | enter f args=>exact ⟨fun h=>by simp [Fence.wide] at h,CallsIn.inRound _ (callsIn_wide.2 h)⟩
  | row r args=>exact ⟨fun h=>by simp [Fence.wide] at h,fun c cs _=>let ⟨v,w',r,s⟩:=h c cs;⟨v,w',r,stepsIn_wide.2 s⟩⟩
  | round _ _ _ _ _=>exact h.elim
  | _=>exact h.elim
 | halt x w'=>
  rw [e] at h
  cases x<;>first | exact h | exact h.elim
theorem zr4 {P:Program} {L:Nat} {ops:Array Oper} {Q:Exit→Act→World→Prop} {i:Nat} {K K':Act→World→Prop} {a:Act} {w:World} (hK:∀a w,K a w→K' a w) (hd:∀o,ops[i]? =some o→∀c,o.op≠.defer c) (hQ:¬LetsOut Q) (h:wpOp P ops Q i K a w):wpOpIn (Fence.wide.inRound L) 0 P ops Q i K' a w:=by
 unfold wpOp at h
 unfold wpOpIn
 cases e:ops[i]? with
 | none=>rw [e] at h;exact hK _ _ h
 | some o=>
  rw [e] at h
  simp only at h ⊢
  split
  ·rename_i hw
   rw [if_pos hw] at h
   rcases h with h | h
   ·exact Oper.wpIn_mono hK (zqG (hd o e) h)
   ·exact absurd h.2 hQ
  ·rename_i hw
   rw [if_neg hw] at h
   exact ⟨fun _ _=>trivial,hK _ _ h⟩
theorem ziu {P:Program} {L:Nat} {md:Region.Mode} {ops:Array Oper} {Q:Exit→Act→World→Prop} (hd:∀(i:Nat) o,ops[i]? =some o→∀c,o.op≠.defer c) (hQ:¬LetsOut Q):∀(fuel:Nat) (listed:Array Bool) (a:Act) (w:World),wpAny P md ops Q fuel listed a w→wpAnyIn (Fence.wide.inRound L) 0 P md ops Q fuel listed a w
 | 0,_,_,_,h=>h
 | fuel+1,_,_,_,h=>⟨h.1,fun i hi=>zr4 (fun a w=>ziu hd hQ fuel _ a w) (hd i) hQ (h.2 i hi)⟩
theorem zbR {P:Program} {L id:Nat} {Q:Exit→Act→World→Prop} {a:Act} {w:World} {l:List Oper} (n:Nat) (hm:P.follows .mixedOrders=true) (hS:zcs .any l.toArray n=true)
  (hseq:Region.seqB .any l.toArray (l.drop n).length n (zaD l.toArray.size n)=true) (hd:zeG l=true) (hQ:¬LetsOut Q)
  (h:Lq P l.toArray w (fun a'=> ∀w':World,Below w.heap.size w w'→wpList P l.toArray Q (l.drop n) a' w') (l.take n) a):(Code.region id l.toArray true).wpIn (Fence.wide.inRound L) 0 P Q a w:=by
 refine wpIn_region_any hm (ziu (fun i o hi c hc=>?_) hQ _ _ _ _ (zcR n hS hseq h))
 unfold zeG at hd
 have:=List.all_eq_true.1 hd o (by
  rw [List.getElem?_toArray] at hi
  exact List.mem_of_getElem? hi)
 rw [hc] at this
 cases this
end
section
open Go.RowKit Go.Shelf
attribute [local go_sem] Oper.semAt_some
def WrL (G X:Nat→Prop) (base B:Nat) (P:Pt) (W w:World):Prop:=
 ∃sv,Wr w base B sv (nmP P) (szP P)∧base≤w.heap.size∧szP P≤8388608∧Turns (fun b=> ¬G b) W w∧(∀b,G b→b≠B∧sv.ownBlock≠some b∧b<W.heap.size)∧∀b,X b→b≠B∧sv.ownBlock≠some b
theorem WrL.of {G X:Nat→Prop} {base B:Nat} {P:Pt} {W w:World} (h:WrY G base B P W w) (hX:∀b,X b→w.heap.size≤b):WrL G X base B P W w:=by
 obtain ⟨sv,h1,h2,h3,h4,h5⟩:=h
 have hs:=h1.size
 exact ⟨sv,h1,h2,h3,h4,h5,fun b hb=>⟨by have:=hX b hb;omega,fun e=>by have:=hX b hb;have:=(h1.own.lt b e).2;omega⟩⟩
theorem WrL.y {G X:Nat→Prop} {base B:Nat} {P:Pt} {W w:World} (h:WrL G X base B P W w):WrY G base B P W w:=by
 obtain ⟨sv,h1,h2,h3,h4,h5,-⟩:=h
 exact ⟨sv,h1,h2,h3,h4,h5⟩
theorem WrL.both {G X:Nat→Prop} {base B:Nat} {P:Pt} {W w:World} (h:WrL G X base B P W w) (hX:∀b,X b→b<w.heap.size):WrY (fun b=>G b∨X b) base B P w w:=by
 obtain ⟨sv,h1,h2,h3,h4,h5,h6⟩:=h
 refine ⟨sv,h1,h2,h3,Turns.refl _ _,fun b hb=>?_⟩
 rcases hb with hb | hb
 ·exact ⟨(h5 b hb).1,(h5 b hb).2.1,Nat.lt_of_lt_of_le (h5 b hb).2.2 h4.size⟩
 ·exact ⟨(h6 b hb).1,(h6 b hb).2,hX b hb⟩
theorem WrL.back {G X:Nat→Prop} {base B:Nat} {P:Pt} {W w w':World} (h:WrY (fun b=>G b∨X b) base B P w w') (hG:∀b,G b→b<W.heap.size) (ht:Turns (fun b=> ¬G b) W w):WrL G X base B P W w':=by
 obtain ⟨sv,h1,h2,h3,h4,h5⟩:=h
 exact ⟨sv,h1,h2,h3,ht.trans (h4.mono fun i _ hi hg=>hi (.inl hg)),fun b hb=>⟨(h5 b (.inl hb)).1,(h5 b (.inl hb)).2.1,hG b hb⟩,fun b hb=>⟨(h5 b (.inr hb)).1,(h5 b (.inr hb)).2.1⟩⟩
theorem WrL.turn {G X X' S:Nat→Prop} {base B:Nat} {P:Pt} {W w w':World} (h:WrL G X base B P W w) (ht:Turns S w w') (hS:∀b,S b→X b∧¬G b) (hX:∀b,X' b→X b∨w.heap.size≤b):WrL G X' base B P W w':=by
 obtain ⟨sv,h1,h2,h3,h4,h5,h6⟩:=h
 have hs:=h1.size
 refine ⟨sv,h1.turns ht (fun e=>(h6 _ (hS _ e).1).1 rfl) (fun k hk e=>(h6 _ (hS _ e).1).2 hk),Nat.le_trans h2 ht.size,h3,h4.trans (ht.mono fun i _ hi hg=>(hS i hi).2 hg),h5,fun b hb=>?_⟩
 rcases hX b hb with h | h
 ·exact h6 b h
 ·exact ⟨by omega,fun e=>by have:=(h1.own.lt b e).2;omega⟩
structure CdF (g:Nat) (ga ca gc cc:Nat→Nat) (ls:List (List Nat)) (w:World):Prop where
 a:∀j (_:j<ls.length),w.cell? ⟨g,j*2,none⟩=some (.slice (some ⟨ga j,0,none⟩) ls[j].length (ca j))
 c:∀j (_:j<ls.length),w.cell? ⟨g,j*2+1,none⟩=some (.slice (some ⟨gc j,0,none⟩) ls[j].length (cc j))
 l:∀j (_:j<ls.length) i,i<ls[j].length→w.cell? ⟨ga j,i,none⟩=some (.int .u8 ((lq ls[j] i:Nat):Int))
 w:∀j (_:j<ls.length) i,i<ls[j].length→0<lq ls[j] i→w.cell? ⟨gc j,i,none⟩=some (.int .u16 ((cd (lq ls[j]) ls[j].length i:Nat):Int))
def plP (ls:List (List Nat)) (x:Pa):Pt:=[(cd (lq (ls.getD x.c [])) (ls.getD x.c []).length x.s,lq (ls.getD x.c []) x.s),(x.m,x.z)]
def PaOk (ls:List (List Nat)) (x:Pa):Prop:=x.c<ls.length∧x.s<(ls.getD x.c []).length∧0<lq (ls.getD x.c []) x.s∧x.m<2^x.z∧x.z≤24
structure LayI (G:Nat→Prop) (W:World) (base B b1 b2 n:Nat) (vc:Value) (P:Pt) (T:Nat→Prop) (w:World):Prop where
 wr:WrL G (fun b=>T b∨b=b1∨b=b2∨b=n∨b=n+1) base B P W w
 c1:w.cell? ⟨b1,0,none⟩=some (.pointer (some ⟨B,0,none⟩))
 c2:w.cell? ⟨b2,0,none⟩=some vc
 sz:n≤w.heap.size
def VsPa (vs:Array Value):Prop:= ∃x:Pa,vs=#[PaV x]
def zhx (vs:Array Value) (W:World):World:=match vs.getD 0 undef with
 | .agg cs=>W.alloc (.cells cs 239)
 | _=>W
set_option maxRecDepth 100000 in
set_option maxHeartbeats 4000000 in
theorem ze7 {G R:Nat→Prop} {W w0:World} {base B:Nat} {P:Pt} (gf:Nat) (lb:Array Value) (xs:List Pa) (g c:Nat) (ga ca gc cc:Nat→Nat) (ls:List (List Nat)) (w:World) (eg:∀args w,(callFunc gf args).run Tryz.prog w= .ok (.enter gf args) w)
  (hseq:Iter Tryz.prog gf lb ElPa R xs w0) (hw0:w0.heap.size≤W.heap.size) (hR:∀b,R b→G b∧W.heap[b]? =w0.heap[b]?) (h:WrY G base B P W w) (hC:∀w',Turns (fun b=> ¬G b) W w'→CdF g ga ca gc cc ls w')
  (hls:∀j (_:j<ls.length),chk ls[j]=0∧ls[j].length≤320) (hx:∀x∈xs,PaOk ls x) (hm:szP P+szP (xs.flatMap (plP ls))≤8388608):
  Calls Tryz.prog 161 #[.pointer (some ⟨B,0,none⟩),.func (.func gf) #[] lb,.slice (some ⟨g,0,none⟩) ls.length c] w fun e w'=>e= .returned (.tuple #[])∧WrY G base B (P++xs.flatMap (plP ls)) W w':=by
 have hGW:∀b,G b→b<W.heap.size:=fun b hb=>by obtain ⟨_,_,_,_,_,h5⟩:=h;exact (h5 b hb).2.2
 have hWw:W.heap.size≤w.heap.size:=h.turns.size
 have HC:=Lib.hid hC
 have Hx:=Lib.hid hx
 have Hls:=Lib.hid hls
 have Hm:=Lib.hid hm
 have H:=Lib.hid h
 have Hseq:=Lib.hid hseq
 have HR:=Lib.hid hR
 have HG:=Lib.hid hGW
 obtain ⟨nl,hnl⟩:∃nl,ls.length=nl:=⟨_,rfl⟩
 have Hnl:=Lib.hid hnl
 rw [hnl]
 clear hC hx hls hm h hseq hR hGW hnl
 refine (callsIn_wide (n:=0)).1 ?_
 refine callsIn_of_wp_marks Tryz.func161 rfl trivial ?_ rfl
 simp only [Tryz.ntmps161,List.size_toArray,List.length_cons,List.length_nil,Nat.reduceAdd,Nat.reduceSub,Array.replicate_succ,Array.replicate_zero,List.push_toArray,List.append_toArray,List.nil_append,List.cons_append]
 refine wpIn_wide.2 ?_
 go_wp2_with fail
 have hal:Below w.heap.size w ((w.alloc (.cells #[.pointer (some ⟨B,0,none⟩)] 181)).alloc (.cells #[.slice (some ⟨g,0,none⟩) nl c] 229)):=Below.al (Below.al1 _ _) _
 have hg:=zag [.cells #[.pointer (some ⟨B,0,none⟩)] 181,.cells #[.slice (some ⟨g,0,none⟩) nl c] 229] w
 simp only [List.foldl_cons,List.foldl_nil] at hg
 have hsz:((w.alloc (.cells #[.pointer (some ⟨B,0,none⟩)] 181)).alloc (.cells #[.slice (some ⟨g,0,none⟩) nl c] 229)).heap.size=w.heap.size+2:=by simp
 generalize (w.alloc (.cells #[.pointer (some ⟨B,0,none⟩)] 181)).alloc (.cells #[.slice (some ⟨g,0,none⟩) nl c] 229)=W1 at *
 have hc1:W1.cell? ⟨w.heap.size,0,none⟩=some (.pointer (some ⟨B,0,none⟩)):=zaa ((hg 0 _).2 rfl) rfl
 have hc2:W1.cell? ⟨w.heap.size+1,0,none⟩=some (.slice (some ⟨g,0,none⟩) nl c):=zaa ((hg 1 _).2 rfl) rfl
 have hI0:LayI G W base B w.heap.size (w.heap.size+1) (w.heap.size+2) (.slice (some ⟨g,0,none⟩) nl c) P (fun _=>False) W1:=by
  refine ⟨?_,hc1,hc2,by omega⟩
  have:=(WrL.of (X:=fun b=>w.heap.size≤b) H.out (fun b hb=>hb)).turn (X':=fun b=>False∨b=w.heap.size∨b=w.heap.size+1∨b=w.heap.size+2∨b=w.heap.size+2+1) (S:=fun _=>False) (Turns.of_below' hal) (fun _ h=>h.elim) (fun b hb=>by
   left
   show w.heap.size≤b
   rcases (show False∨b=w.heap.size∨b=w.heap.size+1∨b=w.heap.size+2∨b=w.heap.size+2+1 from hb) with h | h | h | h | h
   ·exact h.elim
   all_goals omega)
  exact this
 clear hg hc1 hc2
 refine (wpIn_wide (n:=0)).1 ?_
 refine za0 (gf:=gf) (El:=ElPa) (xs:=xs) (w0:=w0) ?hg ?eg Hseq.out ?hs0 ?hRr VsPa zhx ?hps ?hasg
  (fun pre T W'=>LayI G W base B w.heap.size (w.heap.size+1) (w.heap.size+2) (.slice (some ⟨g,0,none⟩) nl c) (P++pre.flatMap (plP ls)) T W') (fun _ _ _ _=>False) ?start
  (fun vs W'=>{ tmps:=#[.pointer (some ⟨B,0,none⟩),.func (.func gf) #[] lb,.slice (some ⟨g,0,none⟩) nl c,.pointer (some ⟨w.heap.size,0,none⟩),undef,.pointer (some ⟨w.heap.size+1,0,none⟩),.pointer (some ⟨W'.heap.size,0,none⟩),undef,.func (.func gf) #[] lb,vs.getD 0 undef,undef,undef,undef,undef,undef,undef,undef,undef,undef,undef,undef,undef,undef,undef,undef,undef,undef,undef,undef,undef,undef,undef,undef,undef,undef,undef,undef],defers:=[]}) ?assign ?body ?done ?stop
 case hg=>rfl
 case eg=>exact eg
 case hs0=>have:=hal.size;omega
 case hRr=>exact fun q hq=>⟨by have:=HG.out _ (HR.out q hq).1;omega,by
  have h1:=HG.out _ (HR.out q hq).1
  have h2:=H.out.turns.block q h1 (fun h=>h (HR.out q hq).1)
  rw [hal.block q (by omega),h2]
  exact (HR.out q hq).2⟩
 case hps=>
  rintro _ _ _ x _ h
  rw [h];exact ⟨rfl,x,rfl⟩
 case hasg=>
  rintro _ W' ⟨x,rfl⟩
  exact Below.al1 W' _
 case start=>simpa using hI0
 case assign=>
  rintro l _ W' K ⟨x,rfl⟩ hK
  gi_wp2
  first
   | exact hK
   | simpa using hK
   | simpa [Array.zip,Array.zipWith,zhx] using hK
 case stop=>exact fun _ _ _ _ _ _ h=>h.elim
 case body=>
  rintro pre x rest Tp T Wq Wp W1' W2 vs hxs hI htqp hsq hsq1 ht2 hTp hT hT2 hR2 hEl h12 hs12 h1a hLt hL1 hD2 hL2
  simp only [hsz] at ht2 hTp hT2 h12 hLt hL1 hD2 hL2 htqp ⊢
  obtain rfl:vs=#[PaV x]:=hEl
  obtain ⟨r0,hr0⟩:=hL1
  have hnlt:w.heap.size+2+1<W1'.heap.size:=zab hr0
  have hpa:PaAt W2 W1'.heap.size x:=(h1a.block _ (by show W1'.heap.size<(W1'.alloc _).heap.size;rw [World.size_alloc];omega) (by omega)).trans (zbH W1' x)
  obtain ⟨pb,hpb⟩:∃pb,W1'.heap.size=pb:=⟨_,rfl⟩
  have hpbq:Wq.heap.size≤pb:=by rw [←hpb];exact Nat.le_trans hsq hsq1
  rw [hpb] at hpa hnlt ⊢
  have hGn:∀b,G b→b<w.heap.size:=fun b hb=>Nat.lt_of_lt_of_le (HG.out b hb) hWw
  have hW2:WrL G (fun b=>T b∨b=w.heap.size∨b=w.heap.size+1∨b=w.heap.size+2∨b=w.heap.size+2+1∨b=pb) base B (P++pre.flatMap (plP ls)) W W2:=
   hI.wr.turn ht2 (fun b hb=>by
    refine ⟨?_,fun hg=>?_⟩
    ·rcases hb with hb | hb | hb
     ·exact .inl hb
     ·exact .inr (.inr (.inr (.inr hb)))
     ·exact .inr (.inr (.inr (.inl hb)))
    ·have:=hGn b hg
     rcases hb with hb | hb | hb
     ·have:=(hTp b hb).1;omega
     ·omega
     ·omega) (fun b hb=>by
    rcases hb with hb | hb | hb | hb | hb | hb
    ·rcases hT b hb with h | h
     ·exact .inl (.inl h)
     ·exact .inr (by omega)
    ·exact .inl (.inr (.inl hb))
    ·exact .inl (.inr (.inr (.inl hb)))
    ·exact .inl (.inr (.inr (.inr (.inl hb))))
    ·exact .inl (.inr (.inr (.inr (.inr hb))))
    ·exact .inr (by omega))
  have hc1:=ht2.cell hI.c1 (fun hb=>by
   rcases (show Tp (w.heap.size)∨w.heap.size=w.heap.size+2+1∨w.heap.size=w.heap.size+2 from hb) with hb | hb | hb
   ·have:=(hTp _ hb).1;omega
   ·omega
   ·omega)
  have hc2:=ht2.cell hI.c2 (fun hb=>by
   rcases (show Tp (w.heap.size+1)∨w.heap.size+1=w.heap.size+2+1∨w.heap.size+1=w.heap.size+2 from hb) with hb | hb | hb
   ·have:=(hTp _ hb).1;omega
   ·omega
   ·omega)
  have hbl:∀b,(T b∨b=w.heap.size∨b=w.heap.size+1∨b=w.heap.size+2∨b=w.heap.size+2+1∨b=pb)→b<W2.heap.size:=fun b hb=>by
   rcases hb with hb | hb | hb | hb | hb | hb
   ·exact (hT2 b hb).2
   all_goals (have:=zab hpa;omega)
  have HY:=Lib.hid (hW2.both hbl)
  have HtW:=Lib.hid hW2.y.turns
  obtain ⟨o1,o2,o3,o4,o5⟩:=Hx.out x (by rw [hxs];simp)
  have hcd:=HC.out W2 HtW.out
  have Hok:=Lib.hid (⟨o4,o5⟩:x.m<2^x.z∧x.z≤24)
  have Hsz:Hid (szP (P++pre.flatMap (plP ls))+lq (ls.getD x.c []) x.s+x.z≤8388608):=Lib.hid (by
   have h1:=Hm.out
   rw [hxs] at h1
   simp only [List.flatMap_append,List.flatMap_cons,zaj,plP,szP] at h1 ⊢
   omega)
  obtain ⟨l,hl0⟩:∃l,ls.getD x.c []=l:=⟨_,rfl⟩
  have hget:ls[x.c]=l:=by rw [←hl0,List.getD_eq_getElem?_getD,List.getElem?_eq_getElem o1];rfl
  have xa:=hcd.a x.c o1
  have xc:=hcd.c x.c o1
  have xl:=hcd.l x.c o1 x.s (by rw [hget,←hl0];exact o2)
  have xw:=hcd.w x.c o1 x.s (by rw [hget,←hl0];exact o2) (by rw [hget,←hl0];exact o3)
  obtain ⟨hk0,hk1⟩:=Hls.out x.c o1
  have Hpl:=Lib.hid (show plP ls x=[(cd (lq l) l.length x.s,lq l x.s),(x.m,x.z)] by unfold plP;rw [hl0])
  rw [hl0] at Hsz o2 o3
  rw [hget] at xa xc xl xw hk0 hk1
  have hK:=zb6 hk0 x.s
  have HX:=Lib.hid (zbL (lq l) l.length x.s)
  have hX16:cd (lq l) l.length x.s<65536:=Nat.lt_of_lt_of_le (zbL _ _ _) (Nat.le_trans (Nat.pow_le_pow_right (n:=2) (by omega) hK) (by decide))
  obtain ⟨NL,hNL⟩:∃NL,l.length=NL:=⟨_,rfl⟩
  obtain ⟨X,hXe⟩:∃X,cd (lq l) l.length x.s=X:=⟨_,rfl⟩
  obtain ⟨K,hKe⟩:∃K,lq l x.s=K:=⟨_,rfl⟩
  rw [hXe,hKe] at HX Hpl
  rw [hXe] at hX16 xw
  rw [hKe] at hK xl Hsz
  rw [hNL] at xa xc o2 hk1
  have hnl:=Hnl.out
  have o1':x.c<nl:=by rw [←hnl];exact o1
  obtain ⟨p0,p1,p2,p3⟩:=hpa.c
  have Hpa:=Lib.hid hpa
  have Hbl:=Lib.hid hbl
  have HGn:=Lib.hid hGn
  have hW2s:pb<W2.heap.size:=zab hpa
  have Hxs:=Lib.hid hxs
  obtain ⟨⟨xc0,xs0,xm0,xz0⟩,hxx⟩:∃q:Pa,q=x:=⟨x,rfl⟩
  subst hxx
  simp only at p0 p1 p2 p3 xa xc xl xw o1' o2 hK Hok Hsz
  have i0:(0:Int)≤(xc0:Int):=by omega
  have i1:(xc0:Int)<(nl:Int):=by omega
  have i2:(0:Int)≤(xs0:Int):=by omega
  have i3:(xs0:Int)<(NL:Int):=by omega
  have hwX:IntKind.i64.wrap (X:Int)=(X:Int):=IntWalk.i64_in _ (by omega)
  have hwK:IntKind.i64.wrap (K:Int)=(K:Int):=IntWalk.i64_in _ (by omega)
  generalize ga xc0=ga0 at *
  generalize ca xc0=ca0 at *
  generalize gc xc0=gc0 at *
  generalize cc xc0=cc0 at *
  clear hI ht2 hTp hT hR2 h12 hs12 h1a hLt hD2 hL2 htqp hsq hsq1 hW2 hcd hl0 hget hk0 hNL hXe hKe hpa hbl hGn hxs hr0 hnlt hpbq hI0 o1 o3 hnl
  have e0:(#[PaV ⟨xc0,xs0,xm0,xz0⟩]:Array Value).getD 0 undef=PaV ⟨xc0,xs0,xm0,xz0⟩:=rfl
  rw [e0]
  clear e0
  gi_wp2
  have hbu:=Below.al1 W2 (.cells #[.slice (some ⟨ga0,0,none⟩) NL ca0,.slice (some ⟨gc0,0,none⟩) NL cc0] 234)
  have z0:(W2.alloc (.cells #[.slice (some ⟨ga0,0,none⟩) NL ca0,.slice (some ⟨gc0,0,none⟩) NL cc0] 234)).cell? ⟨W2.heap.size,0,none⟩=some (.slice (some ⟨ga0,0,none⟩) NL ca0):=zaa (World.alloc_heap_new W2 _) rfl
  have z1:(W2.alloc (.cells #[.slice (some ⟨ga0,0,none⟩) NL ca0,.slice (some ⟨gc0,0,none⟩) NL cc0] 234)).cell? ⟨W2.heap.size,1,none⟩=some (.slice (some ⟨gc0,0,none⟩) NL cc0):=zaa (World.alloc_heap_new W2 _) rfl
  have HbU:=Lib.hid hbu
  have q1:=cell_later hbu p1
  have q3:=cell_later hbu hc1
  have q4:=cell_later hbu xl
  have q5:=cell_later hbu xw
  have HS2:=Lib.hid (Nat.le_refl W2.heap.size)
  generalize W2.alloc (.cells #[.slice (some ⟨ga0,0,none⟩) NL ca0,.slice (some ⟨gc0,0,none⟩) NL cc0] 234)=u1 at *
  obtain ⟨qb,hqb⟩:∃qb,W2.heap.size=qb:=⟨_,rfl⟩
  rw [hqb] at z0 z1 ⊢
  clear hqb xa xc hbu HS2
  have hqq:=After.ne u1
  have C0:=After.rule z0
  have C1:=After.rule z1
  have C2:=After.rule q1
  have C3:=After.rule q3
  have C4:=After.rule q4
  have C5:=After.rule q5
  refine zbR 15 (by kernel_rfl) (by kernel_rfl) (by kernel_rfl) (by kernel_rfl) (fun h=>by obtain ⟨_,_,h⟩:=h;exact h) ?_
  repeat (refine zaK (fun K hK=>?_);go_simp;(refine hK _ ?_;clear hK K))
  refine zbd ?_
  intro w3 hb3
  simp only [List.drop_succ_cons,List.drop_zero]
  have H4:=Lib.hid (WrF.start (F:=fun _=>True) ((HY.out.below HbU.out).below hb3) (fun _ _=>trivial))
  clear C0 C1 C2 C3 C4 C5 hqq hb3 z0 z1 q1 q3 q4 q5 xl xw
  go_wp2_with fail
  refine Calls.mono (zay (v:=X) (k:=K) H4.out HX.out (by omega) (by have:=Hsz.out;omega)) ?_
  rintro _ w4 ⟨rfl,h4⟩
  have H5:=Lib.hid h4.done
  have ht5:=h4.done.turns
  have r1:=ht5.cell hc1 (fun h=>h (.inr (.inr (.inl rfl))))
  have hguard:¬¬(G pb∨(T pb∨pb=w.heap.size∨pb=w.heap.size+1∨pb=w.heap.size+2∨pb=w.heap.size+2+1∨pb=pb)):=fun h=>h (.inr (.inr (.inr (.inr (.inr (.inr rfl))))))
  have r2:=ht5.cell p2 hguard
  have r3:=ht5.cell p3 hguard
  have Hc1:=Lib.hid hc1
  have Hc2:=Lib.hid hc2
  clear h4 H4 ht5 hguard p0 p1 p2 p3 hc1 hc2
  have H6:=Lib.hid (zay (v:=xm0) (k:=xz0) (WrF.start (F:=fun _=>True) H5.out (fun _ _=>trivial)) Hok.out.1 Hok.out.2 (by have:=Hsz.out;simp only [zaj,szP] at this ⊢;omega))
  go_wp2
  gi_wp2
  refine ⟨trivial,rfl,(CallsIn.inRound _ (callsIn_wide.2 H6.out)).mono ?_⟩
  rintro _ w5 ⟨rfl,h7⟩
  have H7:=Lib.hid h7.done
  clear h7 H6 H5 r1 r2 r3
  gi_wp2
  have hs7:=H7.out.turns
  have hn2:=Hbl.out (w.heap.size+2+1) (.inr (.inr (.inr (.inr (.inl rfl)))))
  refine ⟨⟨?_,hs7.cell Hc1.out (fun h=>h (.inr (.inr (.inl rfl)))),hs7.cell Hc2.out (fun h=>h (.inr (.inr (.inr (.inl rfl))))),by have:=hs7.size;omega⟩,hs7.size,fun b hb=>hs7.block b ?_ (fun h=>h ?_)⟩
  ·have:=(WrL.back H7.out HG.out HtW.out).turn (S:=fun _=>False) (X':=fun b=>T b∨b=w.heap.size∨b=w.heap.size+1∨b=w.heap.size+2∨b=w.heap.size+2+1) (Turns.refl _ _) (fun _ h=>h.elim) (fun b hb=> .inl (by
    rcases hb with hb | hb | hb | hb | hb
    ·exact .inl hb
    ·exact .inr (.inl hb)
    ·exact .inr (.inr (.inl hb))
    ·exact .inr (.inr (.inr (.inl hb)))
    ·exact .inr (.inr (.inr (.inr (.inl hb))))))
   have e:P++(pre++[(⟨xc0,xs0,xm0,xz0⟩:Pa)]).flatMap (plP ls)=P++pre.flatMap (plP ls)++[(X,K)]++[(xm0,xz0)]:=by
    rw [List.flatMap_append,List.flatMap_singleton,Hpl.out];simp
   rw [e]
   exact this
  ·rcases hb with hb | hb | hb | hb
   ·have:=HGn.out b (HR.out b hb).1;omega
   ·exact Hbl.out b (.inl hb)
   ·omega
   ·omega
  ·rcases hb with hb | hb | hb | hb
   ·exact .inl (HR.out b hb).1
   ·exact .inr (.inl hb)
   ·exact .inr (.inr (.inr (.inr (.inr (.inl hb)))))
   ·exact .inr (.inr (.inr (.inr (.inl hb))))
 case done=>
  intro Tp Wq W' hI htt hTp hlt hD
  rw [hsz] at htt hTp hlt hD
  have hGn:∀b,G b→b<w.heap.size:=fun b hb=>Nat.lt_of_lt_of_le (HG.out b hb) hWw
  have hW2:WrL G (fun b=>b=w.heap.size+2) base B (P++xs.flatMap (plP ls)) W W':=
   hI.wr.turn htt (fun b hb=>by
    refine ⟨?_,fun hg=>?_⟩
    ·rcases hb with hb | hb | hb
     ·exact .inl hb
     ·exact .inr (.inr (.inr (.inr hb)))
     ·exact .inr (.inr (.inr (.inl hb)))
    ·have:=hGn b hg
     rcases hb with hb | hb | hb
     ·have:=hTp b hb;omega
     ·omega
     ·omega) (fun b hb=> .inl (.inr (.inr (.inr (.inl hb)))))
  rw [hsz]
  have HD:=Lib.hid hD
  have HW2:=Lib.hid hW2
  have HGn:=Lib.hid hGn
  clear hI htt hD hI0 hW2 hGn
  dsimp only
  go_wp2
  refine ⟨by simp,.inl ⟨_,_,rfl,run_takeDeferred HD.out,?_⟩⟩
  refine ⟨_,results_none rfl _ _ _,rfl,?_⟩
  exact (HW2.out.turn (S:=fun b=>b=w.heap.size+2) (X':=fun _=>False) (Turns.put W' (w.heap.size+2) (.deferred none) rfl) (fun b hb=>⟨hb,fun hg=>by have:=HGn.out b hg;omega⟩) (fun _ h=>h.elim)).y
end
section
open Go.RowKit
theorem zmR {A D:List Nat} {ts:List Tk} (hx:∀t∈ts,t.okB=true) (hc:∀t∈ts,codT A D t) (h6:256<A.length∧0<lq A 256):∀x∈pasT ts,PaOk [A,D] x:=by
 intro x hxm
 rcases List.mem_append.1 hxm with hxm | hxm
 ·obtain ⟨t,ht,hxt⟩:=List.mem_flatMap.1 hxm
  obtain ⟨c1,c2⟩:=hc t ht
  unfold paT at hxt
  by_cases h0:t.n=0
  ·rw [if_pos h0,List.mem_singleton] at hxt
   subst hxt
   obtain ⟨-,b2,b3⟩:=c1 h0
   exact ⟨by simp,b2,b3,by simp,by simp⟩
  ·rw [if_neg h0] at hxt
   obtain ⟨b1,b2,b3,b4⟩:=c2 h0
   rcases zcH (hx t ht) with e | ⟨n,d,e1,e2,n1,n2,n3,n4⟩
   ·exact absurd e h0
   ·have f1:t.n.toNat=n:=by omega
    have f2:t.d.toNat=d:=by omega
    rw [f1] at hxt b1 b2
    rw [f2] at hxt b3 b4
    obtain ⟨-,s2,-,s4⟩:=zbQ n (by omega) n1
    obtain ⟨r1,-,r3⟩:=zbx n3 n4
    have k1:=zmu _ (show zal n<286 by omega)
    have k2:=zma _ (show zaq d<30 by omega)
    rcases List.mem_cons.1 hxt with rfl | hxt
    ·exact ⟨by show 0<2;omega,b1,b2,s4,by show zad (zal n)≤24;omega⟩
    ·rw [List.mem_singleton] at hxt
     subst hxt
     exact ⟨by show 1<2;omega,b3,b4,r3,by show zam (zaq d)≤24;omega⟩
 ·rw [List.mem_singleton] at hxm
  subst hxm
  exact ⟨by simp,h6.1,h6.2,by simp,by simp⟩
end
end Go.Proofs.YtedakhgaghfogaaGreat
