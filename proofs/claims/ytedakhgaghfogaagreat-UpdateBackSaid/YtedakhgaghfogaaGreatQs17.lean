/- Several texts in one, each with its own head. -/
import Derived.Test.YtedakhgaghfogaaGreatQs16
import Derived.Defers
import Derived.Recover
import Derived.Laws.Pointers
import Derived.Test.YtedakhgaghfogaaGreatQs12
namespace Go.Proofs.YtedakhgaghfogaaGreat
section
open Go.RowKit Go.Maps
theorem ziF (x:Int) (w:World):(Instr.typeAssert (.iface 29 (.int .i64 x)) 20 29 false).run Tryz.prog w= .ok (.int .i64 x) w:=by
 kernel_rfl
set_option maxRecDepth 100000 in
theorem zf3 (p:Addr) (x er:Int) (older:List PanicEntry) (w:World) (hc:w.cell? p=some (.int .i64 x)) (hz:w.frozen? p=false):
  CallsD Tryz.prog 146 #[.pointer (some p)] (.panicking ({ v:= .iface 29 (.int .i64 er),recovered:=false}::older)) w fun e u' w'=>
   e= .returned (.tuple #[])∧u'= .panicking ({ v:= .iface 29 (.int .i64 er),recovered:=true}::older)∧w'=w.setCell p (.int .i64 er):=by
 refine callsD_of_wpS Tryz.func146 rfl fun c₀ cs hu=>?_
 apply wpS_seq
 apply wpS_region
 simp [wpOpsS,go_sem,recoverD,hu,Tryz.ntmps146,Exit.thenS]
 refine wpS_of_wp ?_
 rw [show (#[Value.pointer (some p)]++((Array.replicate 6 undef).setIfInBounds 1 (Value.iface 29 (.int .i64 er))).setIfInBounds 0 (Value.iface 29 (.int .i64 er)))=#[.pointer (some p),.iface 29 (.int .i64 er),.iface 29 (.int .i64 er),undef,undef,undef,undef] from rfl]
 generalize hc1:({ fn:=c₀.fn,tmps:=c₀.tmps,todo:=c₀.todo,defers:=c₀.defers,mode:=FrameMode.panicking ({ v:=Value.iface 29 (Value.int IntKind.i64 er),recovered:=true}::older),kind:=c₀.kind,roundOf:=c₀.roundOf}:Frame)=c1
 have hta:=ziF er
 go_wp2
 subst hc1
 simp [bodyPostS,results,Tryz.results146]
set_option maxRecDepth 100000 in
theorem zlc (p:Addr) (w:World):
  CallsD Tryz.prog 146 #[.pointer (some p)] .returning w fun e u' w'=>e= .returned (.tuple #[])∧u'= .returning∧w'=w:=by
 refine callsD_of_wpS Tryz.func146 rfl fun c₀ cs hu=>?_
 apply wpS_seq
 apply wpS_region
 simp [wpOpsS,go_sem,recoverD,hu,Tryz.ntmps146,Exit.thenS]
 refine wpS_of_wp ?_
 rw [show (#[Value.pointer (some p)]++((Array.replicate 6 undef).setIfInBounds 1 Value.nilIface).setIfInBounds 0 Value.nilIface)=#[.pointer (some p),.nilIface,.nilIface,undef,undef,undef,undef] from rfl]
 go_wp2
 cases c₀
 simp_all [bodyPostS,results,Tryz.results146]
theorem InfRp.ne {D l:List Nat} {lim a x:Nat} {o:List Nat} {r:InfSt} (h:InfRp D l lim a x o r):∀e,r= .no e→e≠0:=by
 intro e he
 cases h<;>cases he<;>first | decide | assumption
theorem InfTk.ne {A D l:List Nat} {lim a:Nat} {o:List Nat} {r:InfSt} (h:InfTk A D l lim a o r):∀e,r= .no e→e≠0:=by
 intro e he
 cases h with
 | bad x s e h h1=>cases he;exact h1
 | fin=>cases he
 | byte=>cases he
 | full=>cases he;decide
 | rep x s r h h1 h2=>exact h2.ne e he
theorem InfToks.ne {A D l:List Nat} {lim a:Nat} {o:List Nat} {r:InfSt} (h:InfToks A D l lim a o r):∀e,r= .no e→e≠0:=by
 induction h with
 | fin=>intro e he;cases he
 | no a o e h=>intro e he;cases he;exact h.ne _ rfl
 | more a a' o o' r h h1 ih=>exact ih
theorem InfSv.ne {C l:List Nat} {n a:Nat} {ls:List Nat} {r:InfSt} (h:InfSv C l n a ls r):∀e,r= .no e→e≠0:=by
 intro e he
 cases h<;>cases he<;>first | decide | assumption
theorem InfLs.ne {C l:List Nat} {n a:Nat} {ls:List Nat} {r:InfSt} (h:InfLs C l n a ls r):∀e,r= .no e→e≠0:=by
 induction h with
 | fin=>intro e he;cases he
 | no a o e h0 h=>intro e he;cases he;exact h.ne _ rfl
 | more a a' o o' r h0 h h1 ih=>exact ih
theorem InfDy.ne {l:List Nat} {a n:Nat} {e:Int} (h:InfDy l a n (.no e)):e≠0:=by
 cases h with
 | few=>decide
 | many=>decide
 | few2=>decide
 | code h h1 h2 h3=>exact h3
 | lens h h1 h2 h3 e h4=>exact h4.ne _ rfl
 | last h h1 h2 h3 a' ls h4 e h5=>
  rcases h5 with ⟨-,rfl⟩ | ⟨-,h,rfl⟩ | ⟨-,-,h,rfl⟩
  ·decide
  ·exact h
  ·exact h
theorem InfBk.ne {l:List Nat} {lim a:Nat} {o:List Nat} {r:InfSt} (h:InfBk l lim a o r):∀e,r= .no e→e≠0:=by
 intro e he
 cases h with
 | few=>cases he;decide
 | stored h h1 r h2=>subst he;cases h2<;>decide
 | fixed h h1 r h2=>exact h2.ne e he
 | bad h h1 e h2=>cases he;exact h2.ne
 | dyn h h1 n a1 ls h2 r h3=>exact h3.ne e he
 | unknown=>cases he;decide
theorem InfBl.ne {l:List Nat} {lim a:Nat} {o:List Nat} {r:InfSt} (h:InfBl l lim a o r):∀e,r= .no e→e≠0:=by
 induction h with
 | few=>intro e he;cases he;decide
 | no a o h e h1=>intro e he;cases he;exact h1.ne _ rfl
 | last=>intro e he;cases he
 | more a o h h1 a' o' h2 r h3 ih=>exact ih
theorem ziL {w:World} {g i:Nat} {cur:Array Value} {t:TypeId} {v:Value} (hg:w.heap[g]? =some (.cells cur t (0,0))) (hv:cur[i]? =some v):w.setCell ⟨g,i,none⟩ v=w:=by
 rw [setCell_eq_setRow w g i cur t (0,0) v hg]
 have hlt:g<w.heap.size:=(Array.getElem?_eq_some_iff.1 hg).1
 have hw:w.heap[g]= .cells cur t (0,0):=(Array.getElem?_eq_some_iff.1 hg).2
 obtain ⟨hi,hv2⟩:=Array.getElem?_eq_some_iff.1 hv
 have hc:cur.setIfInBounds i v=cur:=by
  apply Array.ext
  ·simp
  ·intro k h1 h2
   rw [Array.getElem_setIfInBounds h2]
   split
   ·rename_i e;subst e;exact hv2.symm
   ·rfl
 rw [hc]
 unfold World.setRow
 cases w with
 | mk heap tape drawn os output=>
  congr 1
  apply Array.ext
  ·simp
  ·intro k h1 h2
   simp only [Array.getElem_modify]
   split
   ·rename_i e;subst e;simp only at hw;rw [hw]
   ·rfl
section
variable {base S B:Nat} {sv ov uv:Value} {l:List Nat} {lim a a0:Nat} {o o0:List Nat}
set_option maxRecDepth 100000 in
set_option maxHeartbeats 4000000 in
theorem zmI (w:World) (h:Sm w base S B sv ov uv l lim a o):
  Calls Tryz.prog 127 #[.pointer (some ⟨S,0,none⟩)] w fun e w'=>
   (∃(a':Nat) (o':List Nat) (ov' uv':Value),InfBl l lim a o (.go a' o')∧e= .returned (.int .i64 0)∧Sm w' base S B sv ov' uv' l lim (alN a') o'∧Turns (KS S B ov) w w')∨
   (∃er,InfBl l lim a o (.no er)∧er≠0∧e= .returned (.int .i64 er)∧Turns (KS S B ov) w w'):=by
 have hmf:∀(fn:Fn) (first cap:Array Value) (w:World),(Instr.makeFunc fn first cap).run Tryz.prog w= .ok (.func fn first cap) w:=fun _ _ _ _=>rfl
 have hb:=Below.al1 w (.cells #[.int .i64 0] 29)
 have H1:=Lib.hid (h.below hb)
 have hP:(w.alloc (.cells #[.int .i64 0] 29)).heap[w.heap.size]? =some (.cells #[.int .i64 0] 29):=World.alloc_heap_new _ _
 have hPn:¬KS S B ov w.heap.size:=fun k=>by have:=h.k _ k;omega
 have HP:=Lib.hid (And.intro hP hPn)
 clear h hb hP hPn
 go_enter_defers Tryz.func127,Tryz.ntmps127
 go_wp2_with fail
 refine Calls.mono (zjw _ H1.out.1) ?_
 rintro e w2 (⟨a',o',ov',uv',hbl,rfl,hs⟩ | ⟨er,hbl,rfl,hs⟩)
 ·have Hs:=Lib.hid hs
  have Hbl:=Lib.hid hbl
  have c0:=hs.1.c0
  clear hs hbl
  go_wp2_with fail
  refine Calls.mono (zf0 w2 Hs.out.1.rd) ?_
  rintro e w3 ⟨rfl,hr,ht⟩
  have H3:=Lib.hid (Hs.out.1.reads hr ht)
  clear hr ht c0
  go_wp2_with fail
  refine Calls.mono (zcr _) ?_
  rintro e w4 ⟨rfl,rfl⟩
  have hp2:=(Hs.out.2.turns.block w.heap.size (zab HP.out.1) HP.out.2).trans HP.out.1
  have hp4:w4.heap[w.heap.size]? =some (.cells #[.int .i64 0] 29):=(H3.out.2.turns.block w.heap.size (zab hp2) (fun k=>HP.out.2 (Hs.out.2.k _ (zab HP.out.1) k))).trans hp2
  have cp:w4.cell? ⟨w.heap.size,0,none⟩=some (.int .i64 0):=zaa hp4 rfl
  have fp:w4.frozen? ⟨w.heap.size,0,none⟩=false:=by simp [World.frozen?,hp4]
  have hself:w4.setCell ⟨w.heap.size,0,none⟩ (.int .i64 0)=w4:=ziL hp4 rfl
  have hT:Turns (KS S B ov) w w4:=(Turns.of_below' (Below.al1 w _)).trans (Hs.out.2.trans H3.out.2).turns
  have HT:=Lib.hid hT
  clear hp2 hp4 hT
  go_wp2
  refine leaves_cons (f:=146) (args:=#[.pointer (some ⟨w.heap.size,0,none⟩)]) (by simp) (by simp [go_sem]) ?_
  refine (zlc ⟨w.heap.size,0,none⟩ _).mono ?_
  rintro e u' w'' ⟨rfl,rfl,rfl⟩
  refine ⟨.int .i64 0,by simp [results,Tryz.results127,go_sem,cp],?_⟩
  exact .inl ⟨a',o',ov',uv',Hbl.out,rfl,H3.out.1,HT.out⟩
 ·have Hs:=Lib.hid hs
  have Hbl:=Lib.hid hbl
  have Hne:=Lib.hid (hbl.ne _ rfl)
  have hp2:=(hs.block w.heap.size (zab HP.out.1) HP.out.2).trans HP.out.1
  have cp:w2.cell? ⟨w.heap.size,0,none⟩=some (.int .i64 0):=zaa hp2 rfl
  have fp:w2.frozen? ⟨w.heap.size,0,none⟩=false:=by simp [World.frozen?,hp2]
  have cq:(w2.setCell ⟨w.heap.size,0,none⟩ (.int .i64 er)).cell? ⟨w.heap.size,0,none⟩=some (.int .i64 er):=World.cell?_setCell_same _ _ _ cp
  have hT:Turns (KS S B ov) w (w2.setCell ⟨w.heap.size,0,none⟩ (.int .i64 er)):=((Turns.of_below' (Below.al1 w _)).trans hs).trans' (Turns.set (T:=fun i=>i=w.heap.size) (p:=⟨w.heap.size,0,none⟩) (Turns.refl _ w2) rfl _) (fun i hi h=>by omega)
  have HT:=Lib.hid hT
  clear hs hbl hT hp2
  go_wp2
  refine leaves_cons (f:=146) (args:=#[.pointer (some ⟨w.heap.size,0,none⟩)]) (by simp) (by simp [go_sem]) ?_
  refine (zf3 ⟨w.heap.size,0,none⟩ 0 er [] _ cp fp).mono ?_
  rintro e u' w'' ⟨rfl,rfl,rfl⟩
  refine ⟨.int .i64 er,by simp [results,Tryz.results127,go_sem,cq],?_⟩
  exact .inr ⟨er,Hbl.out,Hne.out,rfl,HT.out⟩
end
end
section
open Go.RowKit Go.Maps
inductive Infl (l:List Nat) (limit:Int):List Nat→Nat→Int→Prop where
 | arg (h:limit<0∨524288<limit):Infl l limit [] 0 1
 | go (lim a:Nat) (o:List Nat) (h:limit=(lim:Int)) (h1:lim≤524288) (h2:InfBl l lim 0 [] (.go a o)):Infl l limit o (alN a/8) 0
 | no (lim:Nat) (er:Int) (h:limit=(lim:Int)) (h1:lim≤524288) (h2:InfBl l lim 0 [] (.no er)):Infl l limit [] 0 er
set_option maxRecDepth 200000 in
set_option maxHeartbeats 4000000 in
theorem zoo (v:Value) (l:List Nat) (limit:Int) (w:World) (hv:Rw8 w v l) (hb:∀b∈l,b<256) (hlen:l.length≤1073741824):
  Calls Tryz.prog 102 #[v,.int .i64 limit] w fun e w'=> ∃(o:List Nat) (k:Nat) (er:Int) (ov:Value),Infl l limit o k er∧e= .returned (.tuple #[ov,.int .i64 (k:Int),.int .i64 er])∧w'.ownsRow w.heap.size 5 1 ov o.length (o.map u8v)∧Below w.heap.size w w':=by
 have Hv:=Lib.hid hv
 have Hb:=Lib.hid hb
 obtain ⟨p,c,rfl,-⟩:=hv.cells
 clear hv hb
 by_cases hneg:limit<0
 ·have d0:decide (limit<0)=true:=by simpa using hneg
  go_enter Tryz.func102,Tryz.ntmps102
  go_wp2
  go_ret3
  refine ⟨[],0,1,.slice none 0 0,.arg (.inl hneg),rfl,World.ownsRow_nil _ _ _ _,Below.refl _ _⟩
 have d0:decide (limit<0)=false:=by simpa using hneg
 by_cases hbig:524288<limit
 ·have d1:decide (limit>524288)=true:=by simpa using hbig
  go_enter Tryz.func102,Tryz.ntmps102
  go_wp2
  go_ret3
  exact ⟨[],0,1,.arg (.inr hbig),.slice none 0 0,rfl,World.ownsRow_nil _ _ _ _,Below.refl _ _⟩
 have d1:decide (limit>524288)=false:=by simpa using hbig
 obtain ⟨lim,rfl⟩:=Int.eq_ofNat_of_zero_le (Int.not_lt.1 hneg)
 go_enter Tryz.func102,Tryz.ntmps102
 go_wp2_with fail
 refine Calls.mono (zjT _ l w Hv.out Hb.out hlen) ?_
 rintro e w1 ⟨B,sv,rfl,hrd,hbl,hB,hsv⟩
 have Hrd:=Lib.hid hrd
 have Hbl:=Lib.hid hbl
 have Hsv:=Lib.hid (And.intro hB hsv)
 clear hrd hbl hB hsv
 have hb1:=Below.al1 w1 (.cells #[.pointer (some ⟨B,0,none⟩),.slice none 0 0,.int .i64 (lim:Int),.pointer none] 187)
 have hBl:=Hrd.out.size
 have HS:Hid (Sm (w1.alloc (.cells #[.pointer (some ⟨B,0,none⟩),.slice none 0 0,.int .i64 (lim:Int),.pointer none] 187)) w.heap.size w1.heap.size B sv (.slice none 0 0) (.pointer none) l lim 0 []):=Lib.hid
  ⟨World.alloc_heap_new _ _,Hrd.out.below hb1,World.ownsRow_nil _ _ _ _,.inl rfl,⟨by omega,fun e=>by have:=Hrd.out.row.lt _ e;omega,fun e=>(by cases e),fun e=>(by cases e),fun k hk e=>(by cases e)⟩,⟨Hbl.out.size,Hsv.out.1⟩,⟨Nat.zero_le _,by omega⟩,fun _ h=>(by cases h)⟩
 have Hb2:=Lib.hid (Below.thn Hbl.out hb1)
 have HK:Hid (∀i,KS w1.heap.size B (.slice none 0 0) i→w.heap.size≤i):=Lib.hid (fun i hi=>by
  rcases hi with rfl | rfl | hi
  ·exact Hbl.out.size
  ·exact Hsv.out.1
  ·cases hi)
 clear hb1 hBl
 go_wp2_with fail
 refine Calls.mono (zmI _ HS.out) ?_
 rintro e w2 (⟨a',o,ov',uv',hbk,rfl,hs⟩ | ⟨er,hbk,hne,rfl,hs⟩)
 ·have Hs:=Lib.hid hs.1
  have Hbk:=Lib.hid hbk
  have Hb3:=Lib.hid (Hb2.out.trans (hs.2.below Hb2.out.size HK.out))
  have e0:=hs.1.c0
  have e1:=hs.1.c1
  obtain ⟨q,cq,rfl⟩:=zac hs.1.out
  clear hs hbk
  obtain ⟨A,hA⟩:∃A,alN a'=A:=⟨_,rfl⟩
  have HA:=Lib.hid hA
  rw [hA] at Hs
  have hpos:=Hs.out.rd.pos
  have hlen2:=Hs.out.rd.len
  obtain ⟨z,hz⟩:∃z,A/8=z:=⟨_,rfl⟩
  have hq1:(A:Int)/8=(z:Int):=by omega
  have hq1':(A:Int).tdiv 8=(z:Int):=by rw [←hz];rfl
  have hq2:wrap64 (z:Int)=(z:Int):=wrap64_in _ (by omega)
  have hq2':IntKind.i64.wrap (z:Int)=(z:Int):=IntWalk.i64_in _ (by omega)
  have Hz:=Lib.hid hz
  clear hz
  clear hA
  go_upto_region 7 with (fail)
  go_quiet ((go_at_call 128;exact Calls.quiet_of_same (zrn B A sv l _ (Hs.out.rd.below (Below.drewN' (Below.refl _ _) _)))))
  rename_i nq
  have hd:Below w2.heap.size w2 (w2.drewN nq):=Below.drewN' (Below.refl _ _) nq
  go_wp2
  go_ret3
  first
   | exact ⟨o,z,0,.slice q o.length cq,by rw [←Hz.out,←HA.out];exact .go lim a' o rfl (by omega) Hbk.out,rfl,(Hs.out.below hd).1.out,Hb3.out.trans (hd.mono Hb3.out.size)⟩
   | exact ⟨o,z,0,by rw [←Hz.out,←HA.out];exact .go lim a' o rfl (by omega) Hbk.out,.slice q o.length cq,rfl,(Hs.out.below hd).1.out,Hb3.out.trans (hd.mono Hb3.out.size)⟩
 ·have Hbk:=Lib.hid hbk
  have Hb3:=Lib.hid (Hb2.out.trans (hs.below Hb2.out.size HK.out))
  have d2:(er !=0)=true:=by simpa using hne
  clear hs hbk
  go_wp2
  go_ret3
  refine ⟨[],0,er,.slice none 0 0,.no lim er rfl (by omega) Hbk.out,rfl,World.ownsRow_nil _ _ _ _,Hb3.out⟩
end
section
theorem InfRp.view {D l:List Nat} {lim a x:Nat} {o:List Nat} {r:InfSt} (h:InfRp D l lim a x o r):
    (285<x∧r= .no 80)∨(x≤285∧8*l.length<a+zad x∧r= .no 50)∨(x≤285∧a+zad x≤8*l.length∧∃y e t,Sy D l (a+zad x) y e t∧
      ((e≠0∧r= .no e)∨(e=0∧29<y∧r= .no 80)∨(e=0∧y≤29∧8*l.length<a+zad x+t+zam y∧r= .no 50)∨
       (e=0∧y≤29∧a+zad x+t+zam y≤8*l.length∧
        ((o.length<zan y+nb l (a+zad x+t) (zam y)∧r= .no 70)∨
         (zan y+nb l (a+zad x+t) (zam y)≤o.length∧lim<o.length+(zax x+nb l a (zad x))∧r= .no 81)∨
         (zan y+nb l (a+zad x+t) (zam y)≤o.length∧o.length+(zax x+nb l a (zad x))≤lim∧
          r= .go (a+zad x+t+zam y) (ext (zan y+nb l (a+zad x+t) (zam y)) (zax x+nb l a (zad x)) o)))))):=by
  cases h with
  | far h=>exact .inl ⟨h,rfl⟩
  | few h h1=>exact .inr (.inl ⟨h,h1,rfl⟩)
  | bad h h1 y t e h2 h3=>exact .inr (.inr ⟨h,h1,y,e,t,h2,.inl ⟨h3,rfl⟩⟩)
  | wide h h1 y t h2 h3=>exact .inr (.inr ⟨h,h1,y,0,t,h2,.inr (.inl ⟨rfl,h3,rfl⟩)⟩)
  | few2 h h1 y t h2 h3 h4=>exact .inr (.inr ⟨h,h1,y,0,t,h2,.inr (.inr (.inl ⟨rfl,h3,h4,rfl⟩))⟩)
  | dist h h1 y t h2 h3 h4 h5=>exact .inr (.inr ⟨h,h1,y,0,t,h2,.inr (.inr (.inr ⟨rfl,h3,h4,.inl ⟨h5,rfl⟩⟩))⟩)
  | over h h1 y t h2 h3 h4 h5 h6=>exact .inr (.inr ⟨h,h1,y,0,t,h2,.inr (.inr (.inr ⟨rfl,h3,h4,.inr (.inl ⟨h5,h6,rfl⟩)⟩))⟩)
  | done h h1 y t h2 h3 h4 h5 h6=>exact .inr (.inr ⟨h,h1,y,0,t,h2,.inr (.inr (.inr ⟨rfl,h3,h4,.inr (.inr ⟨h5,h6,rfl⟩)⟩))⟩)
theorem InfRp.det {D l:List Nat} {lim a x:Nat} {o:List Nat} {r r':InfSt} (h:InfRp D l lim a x o r) (h':InfRp D l lim a x o r'):r=r':=by
 rcases h.view with ⟨p1,rfl⟩ | ⟨p1,p2,rfl⟩ | ⟨p1,p2,y,e,t,p3,p⟩<;>rcases h'.view with ⟨q1,rfl⟩ | ⟨q1,q2,rfl⟩ | ⟨q1,q2,y',e',t',q3,q⟩<;>first | rfl | (exfalso;omega) | skip
 obtain ⟨rfl,rfl,rfl⟩:=p3.only q3
 rcases p with ⟨p4,rfl⟩ | ⟨p4,p5,rfl⟩ | ⟨p4,p5,p6,rfl⟩ | ⟨p4,p5,p6,p7⟩<;>rcases q with ⟨q4,rfl⟩ | ⟨q4,q5,rfl⟩ | ⟨q4,q5,q6,rfl⟩ | ⟨q4,q5,q6,q7⟩<;>first | rfl | (exfalso;omega) | skip
 rcases p7 with ⟨p7,rfl⟩ | ⟨p7,p8,rfl⟩ | ⟨p7,p8,rfl⟩<;>rcases q7 with ⟨q7,rfl⟩ | ⟨q7,q8,rfl⟩ | ⟨q7,q8,rfl⟩<;>first | rfl | (exfalso;omega)
theorem InfTk.view {A D l:List Nat} {lim a:Nat} {o:List Nat} {r:InfSt} (h:InfTk A D l lim a o r):∃x e s,Sy A l a x e s∧
  ((e≠0∧r= .no e)∨(e=0∧x=256∧r= .fin (a+s))∨(e=0∧x<256∧o.length<lim∧r= .go (a+s) (o++[x]))∨(e=0∧x<256∧lim≤o.length∧r= .no 81)∨(e=0∧256<x∧InfRp D l lim (a+s) x o r)):=by
 cases h with
 | bad x s e h h1=>exact ⟨x,e,s,h,.inl ⟨h1,rfl⟩⟩
 | fin s h=>exact ⟨256,0,s,h,.inr (.inl ⟨rfl,rfl,rfl⟩)⟩
 | byte x s h h1 h2=>exact ⟨x,0,s,h,.inr (.inr (.inl ⟨rfl,h1,h2,rfl⟩))⟩
 | full x s h h1 h2=>exact ⟨x,0,s,h,.inr (.inr (.inr (.inl ⟨rfl,h1,h2,rfl⟩)))⟩
 | rep x s r h h1 h2=>exact ⟨x,0,s,h,.inr (.inr (.inr (.inr ⟨rfl,h1,h2⟩)))⟩
theorem InfTk.det {A D l:List Nat} {lim a:Nat} {o:List Nat} {r r':InfSt} (h:InfTk A D l lim a o r) (h':InfTk A D l lim a o r'):r=r':=by
 obtain ⟨x,e,s,p,p'⟩:=h.view
 obtain ⟨x',e',s',q,q'⟩:=h'.view
 obtain ⟨rfl,rfl,rfl⟩:=p.only q
 rcases p' with ⟨p1,rfl⟩ | ⟨p1,p2,rfl⟩ | ⟨p1,p2,p3,rfl⟩ | ⟨p1,p2,p3,rfl⟩ | ⟨p1,p2,p3⟩<;>rcases q' with ⟨q1,rfl⟩ | ⟨q1,q2,rfl⟩ | ⟨q1,q2,q3,rfl⟩ | ⟨q1,q2,q3,rfl⟩ | ⟨q1,q2,q3⟩<;>first | rfl | (exfalso;omega) | exact p3.det q3
theorem InfToks.det {A D l:List Nat} {lim a:Nat} {o:List Nat} {r:InfSt} (h:InfToks A D l lim a o r):∀r',InfToks A D l lim a o r'→r=r':=by
 induction h with
 | fin a a' o h=>
  intro r' h'
  cases h' with
  | fin _ a2 _ h2=>have:=h.det h2;injection this with this;rw [this]
  | no _ _ e h2=>have:=h.det h2;cases this
  | more _ a2 _ o2 _ h2 h3=>have:=h.det h2;cases this
 | no a o e h=>
  intro r' h'
  cases h' with
  | fin _ a2 _ h2=>have:=h.det h2;cases this
  | no _ _ e h2=>have:=h.det h2;injection this with this;rw [this]
  | more _ a2 _ o2 _ h2 h3=>have:=h.det h2;cases this
 | more a a' o o' r h h1 ih=>
  intro r' h'
  cases h' with
  | fin _ a2 _ h2=>have:=h.det h2;cases this
  | no _ _ e h2=>have:=h.det h2;cases this
  | more _ a2 _ o2 _ h2 h3=>
   have:=h.det h2
   injection this with e1 e2
   subst e1;subst e2
   exact ih r' h3
theorem InfSd.det {l:List Nat} {lim a:Nat} {o:List Nat} {r r':InfSt} (h:InfSd l lim a o r) (h':InfSd l lim a o r'):r=r':=by
 cases h<;>cases h'<;>first | rfl | (exfalso;omega)
theorem SvC.only {x k c v k' c' v':Nat} {ls:List Nat} (h:SvC x k c v ls) (h':SvC x k' c' v' ls):k=k'∧c=c'∧v=v':=by
 unfold SvC at h h'
 omega
theorem InfSv.det {C l:List Nat} {n a:Nat} {ls:List Nat} {r r':InfSt} (h:InfSv C l n a ls r) (h':InfSv C l n a ls r'):r=r':=by
 cases h with
 | bad x s e h h1=>
  cases h' with
  | bad _ _ _ k k1=>obtain ⟨rfl,rfl,rfl⟩:=h.only k;rfl
  | first _ k k1=>obtain ⟨rfl,rfl,rfl⟩:=h.only k;exact absurd rfl h1
  | few _ _ _ _ _ k=>obtain ⟨rfl,rfl,rfl⟩:=h.only k;exact absurd rfl h1
  | many _ _ _ _ _ k=>obtain ⟨rfl,rfl,rfl⟩:=h.only k;exact absurd rfl h1
  | go _ _ _ _ _ k=>obtain ⟨rfl,rfl,rfl⟩:=h.only k;exact absurd rfl h1
 | first s h h1=>
  cases h' with
  | bad _ _ _ k k1=>obtain ⟨rfl,rfl,rfl⟩:=h.only k;exact absurd rfl k1
  | first _ k k1=>rfl
  | few _ _ _ _ _ k k1=>obtain ⟨rfl,-,rfl⟩:=h.only k;exfalso;omega
  | many _ _ _ _ _ k k1=>obtain ⟨rfl,-,rfl⟩:=h.only k;exfalso;omega
  | go _ _ _ _ _ k k1=>obtain ⟨rfl,-,rfl⟩:=h.only k;exfalso;omega
 | few x s k c v h h1 h2=>
  cases h' with
  | bad _ _ _ k k1=>obtain ⟨rfl,rfl,rfl⟩:=h.only k;exact absurd rfl k1
  | first _ k k1=>obtain ⟨rfl,-,rfl⟩:=h.only k;exfalso;omega
  | few _ _ _ _ _ k k1=>rfl
  | many _ _ _ _ _ k k1 k2=>obtain ⟨rfl,-,rfl⟩:=h.only k;obtain ⟨rfl,rfl,rfl⟩:=SvC.only h1 k1;exfalso;omega
  | go _ _ _ _ _ k k1 k2=>obtain ⟨rfl,-,rfl⟩:=h.only k;obtain ⟨rfl,rfl,rfl⟩:=SvC.only h1 k1;exfalso;omega
 | many x s k c v h h1 h2 h3=>
  cases h' with
  | bad _ _ _ k k1=>obtain ⟨rfl,rfl,rfl⟩:=h.only k;exact absurd rfl k1
  | first _ k k1=>rfl
  | few _ _ _ _ _ k k1 k2=>obtain ⟨rfl,-,rfl⟩:=h.only k;obtain ⟨rfl,rfl,rfl⟩:=SvC.only h1 k1;exfalso;omega
  | many _ _ _ _ _ k k1 k2=>rfl
  | go _ _ _ _ _ k k1 k2 k3=>obtain ⟨rfl,-,rfl⟩:=h.only k;obtain ⟨rfl,rfl,rfl⟩:=SvC.only h1 k1;exfalso;omega
 | go x s k c v h h1 h2 h3=>
  cases h' with
  | bad _ _ _ k k1=>obtain ⟨rfl,rfl,rfl⟩:=h.only k;exact absurd rfl k1
  | first _ k k1=>obtain ⟨rfl,-,rfl⟩:=h.only k;exfalso;omega
  | few _ _ _ _ _ k k1 k2=>obtain ⟨rfl,-,rfl⟩:=h.only k;obtain ⟨rfl,rfl,rfl⟩:=SvC.only h1 k1;exfalso;omega
  | many _ _ _ _ _ k k1 k2 k3=>obtain ⟨rfl,-,rfl⟩:=h.only k;obtain ⟨rfl,rfl,rfl⟩:=SvC.only h1 k1;exfalso;omega
  | go _ _ _ _ _ k k1 k2 k3=>obtain ⟨rfl,-,rfl⟩:=h.only k;obtain ⟨rfl,rfl,rfl⟩:=SvC.only h1 k1;rfl
theorem InfLs.det {C l:List Nat} {n a:Nat} {ls:List Nat} {r:InfSt} (h:InfLs C l n a ls r):∀r',InfLs C l n a ls r'→r=r':=by
 induction h with
 | fin a ls h=>
  intro r' h'
  cases h' with
  | fin=>rfl
  | no=>exfalso;omega
  | more=>exfalso;omega
 | no a ls e h0 h=>
  intro r' h'
  cases h' with
  | fin=>exfalso;omega
  | no _ _ e' _ h2=>have:=h.det h2;injection this with this;rw [this]
  | more _ a2 _ o2 _ _ h2 h3=>have:=h.det h2;cases this
 | more a a' ls ls' r h0 h h1 ih=>
  intro r' h'
  cases h' with
  | fin=>exfalso;omega
  | no _ _ e' _ h2=>have:=h.det h2;cases this
  | more _ a2 _ o2 _ _ h2 h3=>
   have:=h.det h2
   injection this with e1 e2
   subst e1;subst e2
   exact ih r' h3
theorem InfDy.det {l:List Nat} {a n n':Nat} {r r':InfSt} (h:InfDy l a n r) (h':InfDy l a n' r'):n=n'∧r=r':=by
 cases h with
 | few h=>cases h'<;>first | exact ⟨rfl,rfl⟩ | (exfalso;omega)
 | many h h1=>cases h'<;>first | exact ⟨rfl,rfl⟩ | (exfalso;omega)
 | few2 h h1 h2=>cases h'<;>first | exact ⟨rfl,rfl⟩ | (exfalso;omega)
 | code h h1 h2 h3=>cases h'<;>first | exact ⟨rfl,rfl⟩ | (exfalso;omega) | (exact absurd (by assumption) h3)
 | lens h h1 h2 h3 e h4=>
  cases h' with
  | few=>exfalso;omega
  | many=>exfalso;omega
  | few2=>exfalso;omega
  | code _ _ _ k=>exact absurd h3 k
  | lens _ _ _ _ e' k4=>have:=h4.det _ k4;injection this with this;rw [this];exact ⟨rfl,rfl⟩
  | last _ _ _ _ a' ls k4=>have:=h4.det _ k4;cases this
  | done _ _ _ _ a' ls k4=>have:=h4.det _ k4;cases this
 | last h h1 h2 h3 a' ls h4 e h5=>
  cases h' with
  | few=>exfalso;omega
  | many=>exfalso;omega
  | few2=>exfalso;omega
  | code _ _ _ k=>exact absurd h3 k
  | lens _ _ _ _ e' k4=>have:=h4.det _ k4;cases this
  | last _ _ _ _ a2 ls2 k4 e2 k5=>
   have:=h4.det _ k4
   injection this with e1 e3
   subst e1;subst e3
   rcases h5 with ⟨p,rfl⟩ | ⟨p,p2,rfl⟩ | ⟨p,p2,p3,rfl⟩<;>rcases k5 with ⟨q,rfl⟩ | ⟨q,q2,rfl⟩ | ⟨q,q2,q3,rfl⟩<;>first | exact ⟨rfl,rfl⟩ | (exfalso;omega)
  | done _ _ _ _ a2 ls2 k4 k5=>
   have:=h4.det _ k4
   injection this with e1 e3
   subst e1;subst e3
   exfalso;omega
 | done h h1 h2 h3 a' ls h4 h5=>
  cases h' with
  | few=>exfalso;omega
  | many=>exfalso;omega
  | few2=>exfalso;omega
  | code _ _ _ k=>exact absurd h3 k
  | lens _ _ _ _ e' k4=>have:=h4.det _ k4;cases this
  | last _ _ _ _ a2 ls2 k4 e2 k5=>
   have:=h4.det _ k4
   injection this with e1 e3
   subst e1;subst e3
   exfalso;omega
  | done _ _ _ _ a2 ls2 k4 k5=>
   have:=h4.det _ k4
   injection this with e1 e3
   subst e1;subst e3
   exact ⟨rfl,rfl⟩
theorem InfBk.det {l:List Nat} {lim a:Nat} {o:List Nat} {r r':InfSt} (h:InfBk l lim a o r) (h':InfBk l lim a o r'):r=r':=by
 cases h with
 | few h=>cases h'<;>first | rfl | (exfalso;omega)
 | stored h h1 r h2=>
  cases h' with
  | stored _ _ _ k2=>exact h2.det k2
  | _=>exfalso;omega
 | fixed h h1 r h2=>
  cases h' with
  | fixed _ _ _ k2=>exact h2.det _ k2
  | _=>exfalso;omega
 | bad h h1 e h2=>
  cases h' with
  | bad _ _ _ k2=>have:=(h2.det k2).2;exact this
  | dyn _ _ n a' ls k2=>have:=(h2.det k2).2;cases this
  | _=>exfalso;omega
 | dyn h h1 n a' ls h2 r h3=>
  cases h' with
  | bad _ _ _ k2=>have:=(h2.det k2).2;cases this
  | dyn _ _ n2 a2 ls2 k2 _ k3=>
   obtain ⟨e0,e⟩:=h2.det k2
   injection e with e1 e2
   subst e0;subst e1;subst e2
   exact h3.det _ k3
  | _=>exfalso;omega
 | unknown h h1=>cases h'<;>first | rfl | (exfalso;omega)
theorem InfBl.det {l:List Nat} {lim a:Nat} {o:List Nat} {r:InfSt} (h:InfBl l lim a o r):∀r',InfBl l lim a o r'→r=r':=by
 induction h with
 | few a o h=>intro r' h';cases h'<;>first | rfl | (exfalso;omega)
 | no a o h e h1=>
  intro r' h'
  cases h' with
  | few=>exfalso;omega
  | no _ _ _ e' k=>have:=h1.det k;exact this
  | last _ _ _ _ a' o' k=>have:=h1.det k;cases this
  | more _ _ _ _ a' o' k=>have:=h1.det k;cases this
 | last a o h h1 a' o' h2=>
  intro r' h'
  cases h' with
  | few=>exfalso;omega
  | no _ _ _ e' k=>have:=h2.det k;cases this
  | last _ _ _ _ a2 o2 k=>exact h2.det k
  | more _ _ _ k1=>exact absurd h1 k1
 | more a o h h1 a' o' h2 r h3 ih=>
  intro r' h'
  cases h' with
  | few=>exfalso;omega
  | no _ _ _ e' k=>have:=h2.det k;cases this
  | last _ _ _ k1=>exact absurd k1 h1
  | more _ _ _ _ a2 o2 k _ k3=>
   have:=h2.det k
   injection this with e1 e2
   subst e1;subst e2
   exact ih r' k3
theorem Infl.det {l:List Nat} {limit:Int} {o o':List Nat} {k k':Nat} {e e':Int} (h:Infl l limit o k e) (h':Infl l limit o' k' e'):o=o'∧k=k'∧e=e':=by
 cases h with
 | arg h=>cases h'<;>first | exact ⟨rfl,rfl,rfl⟩ | (exfalso;omega)
 | go lim a o h h1 h2=>
  cases h' with
  | arg=>exfalso;omega
  | go lim' a' o' k k1 k2=>
   obtain rfl:lim=lim':=by omega
   have:=h2.det _ k2
   injection this with e1 e2
   subst e1;subst e2
   exact ⟨rfl,rfl,rfl⟩
  | no lim' er k k1 k2=>
   obtain rfl:lim=lim':=by omega
   have:=h2.det _ k2
   cases this
 | no lim er h h1 h2=>
  cases h' with
  | arg=>exfalso;omega
  | go lim' a' o' k k1 k2=>
   obtain rfl:lim=lim':=by omega
   have:=h2.det _ k2
   cases this
  | no lim' er k k1 k2=>
   obtain rfl:lim=lim':=by omega
   have:=h2.det _ k2
   injection this with e1
   subst e1
   exact ⟨rfl,rfl,rfl⟩
end
section
end
section
theorem InfRp.in' {D l:List Nat} {lim a x:Nat} {o:List Nat} {r:InfSt} (h:InfRp D l lim a x o r):∀a' o',r= .go a' o'→a'≤8*l.length:=by
 intro a' o' e
 cases h<;>cases e
 assumption
theorem InfTk.in' {A D l:List Nat} {lim a:Nat} {o:List Nat} {r:InfSt} (h:InfTk A D l lim a o r):(∀a' o',r= .go a' o'→a'≤8*l.length)∧∀a',r= .fin a'→a'≤8*l.length:=by
 refine ⟨fun a' o' e=>?_,fun a' e=>?_⟩
 ·cases h with
  | bad=>cases e
  | fin=>cases e
  | byte x s h=>cases e;exact h.in'
  | full=>cases e
  | rep x s r h h1 h2=>exact h2.in' a' o' e
 ·cases h with
  | bad=>cases e
  | fin s h=>cases e;exact h.in'
  | byte=>cases e
  | full=>cases e
  | rep x s r h h1 h2=>subst e;cases h2
theorem InfToks.in' {A D l:List Nat} {lim a:Nat} {o:List Nat} {r:InfSt} (h:InfToks A D l lim a o r):∀a' o',r= .go a' o'→a'≤8*l.length:=by
 induction h with
 | fin a a' o h=>intro x y e;cases e;exact h.in'.2 _ rfl
 | no=>intro x y e;cases e
 | more a a' o o' r h h1 ih=>exact ih
theorem InfBk.in' {l:List Nat} {lim a:Nat} {o:List Nat} {r:InfSt} (h:InfBk l lim a o r):∀a' o',r= .go a' o'→a'≤8*l.length∧a+2≤a':=by
 intro a' o' e
 cases h with
 | few=>cases e
 | stored h h1 r h2=>
  subst e
  cases h2
  refine ⟨by assumption,?_⟩
  unfold alN;omega
 | fixed h h1 r h2=>exact ⟨h2.in' _ _ e,h2.up _ _ e⟩
 | bad=>cases e
 | dyn h h1 n a1 ls h2 r h3=>exact ⟨h3.in' _ _ e,by have:=h3.up _ _ e;have:=h2.up;omega⟩
 | unknown=>cases e
theorem InfBl.in' {l:List Nat} {lim a:Nat} {o:List Nat} {r:InfSt} (h:InfBl l lim a o r):∀a' o',r= .go a' o'→a'≤8*l.length∧a+3≤a':=by
 induction h with
 | few=>intro a' o' e;cases e
 | no=>intro a' o' e;cases e
 | last a o h h1 a1 o1 h2=>intro a' o' e;injection e with e1 e2;have:=h2.in' _ _ rfl;omega
 | more a o h h1 a1 o1 h2 r h3 ih=>intro a' o' e;have:=ih a' o' e;have:=h2.in' _ _ rfl;omega
theorem InfRp.fits {D l:List Nat} {lim a x:Nat} {o:List Nat} {r:InfSt} (h:InfRp D l lim a x o r):∀a' o',r= .go a' o'→o'.length≤lim:=by
 intro a' o' e
 cases h<;>cases e
 rw [zdh];assumption
theorem InfToks.fits {A D l:List Nat} {lim a:Nat} {o:List Nat} {r:InfSt} (h:InfToks A D l lim a o r):o.length≤lim→∀a' o',r= .go a' o'→o'.length≤lim:=by
 induction h with
 | fin a a' o h=>intro h0 x y e;cases e;exact h0
 | no=>intro h0 x y e;cases e
 | more a a' o o' r h h1 ih=>
  intro h0 x y e
  refine ih ?_ x y e
  cases h with
  | byte x s h h1 h2=>simp;omega
  | rep x s r h h1 h2=>exact h2.fits _ _ rfl
theorem InfBk.fits {l:List Nat} {lim a:Nat} {o:List Nat} {r:InfSt} (h:InfBk l lim a o r) (h0:o.length≤lim):∀a' o',r= .go a' o'→o'.length≤lim:=by
 intro a' o' e
 cases h with
 | few=>cases e
 | stored h h1 r h2=>
  subst e
  cases h2
  rw [List.length_append,zjV];assumption
 | fixed h h1 r h2=>exact h2.fits h0 _ _ e
 | bad=>cases e
 | dyn h h1 n a1 ls h2 r h3=>exact h3.fits h0 _ _ e
 | unknown=>cases e
theorem InfBl.fits {l:List Nat} {lim a:Nat} {o:List Nat} {r:InfSt} (h:InfBl l lim a o r):o.length≤lim→∀a' o',r= .go a' o'→o'.length≤lim:=by
 induction h with
 | few=>intro h0 a' o' e;cases e
 | no=>intro h0 a' o' e;cases e
 | last a o h h1 a1 o1 h2=>intro h0 a' o' e;injection e with e1 e2;subst e2;exact h2.fits h0 _ _ rfl
 | more a o h h1 a1 o1 h2 r h3 ih=>intro h0 a' o' e;exact ih (h2.fits h0 _ _ rfl) a' o' e
theorem Infl.ok {l:List Nat} {limit:Int} {o:List Nat} {k:Nat} (h:Infl l limit o k 0):∃(lim a:Nat),limit=(lim:Int)∧lim≤524288∧InfBl l lim 0 [] (.go a o)∧k=alN a/8∧a≤8*l.length∧3≤a∧o.length≤lim:=by
 cases h with
 | go lim a _ h h1 h2=>exact ⟨lim,a,h,h1,h2,rfl,(h2.in' _ _ rfl).1,by have:=(h2.in' _ _ rfl).2;omega,h2.fits (Nat.zero_le _) _ _ rfl⟩
 | no lim _ h h1 h2=>exact absurd rfl (h2.ne _ rfl)
def hdr (k:Nat):List Nat:=[0,k%256,k/256,255 - k%256,255 - k/256]
end
section
end
section
end
section
def w6:List Nat:=[5,0,146,0]
def w7:List Nat:=[5,0,2,0]
def w8:List Nat:=[5,0,128,192,223,31]
def w9:List Nat:=[5,0,128,192,95,27]
def w10:List Nat:=[5,0,128,32]
end
section
theorem zkl (n x:Nat):trn n 0 x<2^n:=by
 have:=zhM n 0 x
 rwa [Nat.zero_add,Nat.one_mul] at this
end
section
abbrev Pt:=List (Nat×Nat)
def szP:Pt→Nat
 | []=>0
 | p::r=>p.2+szP r
def nmP:Pt→Nat
 | []=>0
 | p::r=>p.1+2^p.2*nmP r
theorem zaj:∀a b:Pt,szP (a++b)=szP a+szP b
 | [],b=>by simp [szP]
 | p::a,b=>by rw [List.cons_append,szP,szP,zaj a b];omega
theorem zc7:∀a b:Pt,nmP (a++b)=nmP a+2^szP a*nmP b
 | [],b=>by simp [nmP,szP]
 | p::a,b=>by
  rw [List.cons_append,nmP,nmP,zc7 a b,szP,Nat.pow_add,Nat.mul_add,Nat.add_assoc,Nat.mul_assoc]
theorem ze8 (P:Pt) (v k:Nat):nmP (P++[(v,k)])=nmP P+v*2^szP P∧szP (P++[(v,k)])=szP P+k:=by
 refine ⟨?_,by rw [zaj];simp [szP]⟩
 rw [zc7,nmP,nmP,Nat.mul_zero,Nat.add_zero,Nat.mul_comm]
def bytP (P:Pt):List Nat:=byts (nmP P) ((szP P+7)/8)
theorem zds (P:Pt):(bytP P).length=(szP P+7)/8:=zaH _ _
def lnF (n:Nat):Nat→Nat
 | 0=>0
 | k+1=>if zax (257+k)≤n∧(257+k≠285∨n=258) then 257+k else lnF n k
def zal (n:Nat):Nat:=lnF n 29
def dsF (d:Nat):Nat→Nat
 | 0=>0
 | k+1=>if zan k≤d then k else dsF d k
def zaq (d:Nat):Nat:=dsF d 30
theorem zbQ:∀n,n<259→3≤n→257≤zal n∧zal n≤285∧zax (zal n)≤n∧n - zax (zal n)<2^zad (zal n):=by decide +kernel
theorem zqq:∀y,y<30→zan (y+1)=zan y+2^zam y:=by decide +kernel
theorem zmW (d:Nat):∀k,k≤30→d<zan k→1≤d→dsF d k<30∧zan (dsF d k)≤d∧d - zan (dsF d k)<2^zam (dsF d k)
 | 0,_,h,h1=>by simp [zan,zaz] at h;omega
 | k+1,hk,h,h1=>by
  rw [dsF]
  by_cases hd:zan k≤d
  ·rw [if_pos hd]
   have:=zqq k (by omega)
   exact ⟨by omega,hd,by omega⟩
  ·rw [if_neg hd]
   exact zmW d k (by omega) (by omega) h1
theorem zbx {d:Nat} (h1:1≤d) (h:d≤32768):zaq d≤29∧zan (zaq d)≤d∧d - zan (zaq d)<2^zam (zaq d):=by
 have e:zan 30=32769:=by decide
 obtain ⟨a,b⟩:=zmW d 30 (Nat.le_refl _) (by omega) h1
 exact ⟨Nat.le_of_lt_succ a,b⟩
structure Tn where
 b:Nat
 n:Nat
 d:Nat
def Tn.put (A D:List Nat) (t:Tn):Pt:=
 if t.n=0 then [(cd (lq A) A.length t.b,lq A t.b)]
 else [(cd (lq A) A.length (zal t.n),lq A (zal t.n)),(t.n - zax (zal t.n),zad (zal t.n)),(cd (lq D) D.length (zaq t.d),lq D (zaq t.d)),(t.d - zan (zaq t.d),zam (zaq t.d))]
def Tn.tell (t:Tn) (o:List Nat):List Nat:=if t.n=0 then o++[t.b] else ext t.d t.n o
def Tn.ok (A D:List Nat) (t:Tn) (o:List Nat):Prop:=
 (t.n=0→t.b<256∧t.b<A.length∧0<lq A t.b)∧
 (t.n≠0→3≤t.n∧t.n≤258∧1≤t.d∧t.d≤32768∧t.d≤o.length∧zal t.n<A.length∧0<lq A (zal t.n)∧zaq t.d<D.length∧0<lq D (zaq t.d))
def zaJ (A D:List Nat):List Tn→Pt
 | []=>[]
 | t::r=>t.put A D++zaJ A D r
def za1:List Tn→List Nat→List Nat
 | [],o=>o
 | t::r,o=>za1 r (t.tell o)
def mayT (A D:List Nat):List Tn→List Nat→Prop
 | [],_=>True
 | t::r,o=>t.ok A D o∧mayT A D r (t.tell o)
end
end Go.Proofs.YtedakhgaghfogaaGreat
