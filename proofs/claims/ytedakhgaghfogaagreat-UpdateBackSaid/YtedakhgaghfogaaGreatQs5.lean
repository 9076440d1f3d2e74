/- Several texts in one, each with its own head. -/
import Derived.Test.YtedakhgaghfogaaGreatQs2
import Derived.Test.YtedakhgaghfogaaGreatQs3
import Derived.Test.YtedakhgaghfogaaGreatQs4
import Derived.BigQuiet
import Derived.BigRegion
import Derived.IntWalk
import Derived.Handy
import Derived.WalkSmall
import Derived.Deep.AppendLies
import Derived.Deep.RegionLaw
import Derived.Lib.Hide
namespace Go.Proofs.YtedakhgaghfogaaGreat
section
open Go.RowKit
def ptrV (b:Nat):Value:= .pointer (some ⟨b,0,none⟩)
theorem zfo:(Tryz.prog.info? 260).map (fun i=>(i.zero,i.size,i.bytes))=some (some (.pointer none),1,8):=by kernel_rfl
theorem zjg (k:Nat) (a:Addr) (w:World):(method (k+1) 300 (.pointer (some a)) "Push").run Tryz.prog w= .ok (248,.pointer (some a)) w:=by kernel_rfl
theorem zlz (k:Nat) (a:Addr) (w:World):(method (k+1) 300 (.pointer (some a)) "Pop").run Tryz.prog w= .ok (247,.pointer (some a)) w:=by kernel_rfl
theorem zlt (a:Addr) (v:Value) (w:World) (h:w.cell? a=some v):(loadVar 293 a).run Tryz.prog w= .ok v w:=by
 have ha:(isAgg 293).run Tryz.prog w= .ok false w:=by kernel_rfl
 simp [loadVar,Sem.run_bind,ha,h]
theorem zdQ (name:String) (g k:Nat) (a:Addr) (v:Value) (w:World) (hg:(Tryz.prog.info? 300).bind (fun i=>(i.methods.find? (·.name==name)).map fun m=>(m.path.toList,m.func))=some ([],some (g,false))) (h:w.cell? a=some v):
  (method (k+1) 300 (.pointer (some a)) name).run Tryz.prog w= .ok (g,v) w:=by
 have hl:=zlt a v w h
 have hu:Tryz.prog.underlying 300=some (.pointer 293):=by kernel_rfl
 revert hg hl hu
 generalize Tryz.prog=P
 intro hg hl hu
 obtain ⟨i,hi,hg⟩:=Option.bind_eq_some_iff.1 hg
 obtain ⟨m,hm,e⟩:=Option.map_eq_some_iff.1 hg
 have e1:m.path=#[]:=by
  have:=congrArg Prod.fst e
  simpa using this
 have e2:m.func=some (g,false):=congrArg Prod.snd e
 have hc:∀n:String,(Builtin.ssaWrapNilChk_ #[300] 300 #[.pointer (some a),strVal "",strVal n]).run P w= .ok (.pointer (some a)) w:=fun _=>rfl
 unfold method
 simp [typeInfo,Sem.run_bind,hi,hm,e1,e2,follow,receiverAt,underlying,hu,Place.get,hc,hl,asAddr]
theorem zf4 (k:Nat) (a:Addr) (v:Value) (w:World) (h:w.cell? a=some v):(method (k+1) 300 (.pointer (some a)) "Len").run Tryz.prog w= .ok (220,v) w:=zdQ _ _ k a v w (by kernel_rfl) h
theorem zbM (k:Nat) (a:Addr) (v:Value) (w:World) (h:w.cell? a=some v):(method (k+1) 300 (.pointer (some a)) "Less").run Tryz.prog w= .ok (245,v) w:=zdQ _ _ k a v w (by kernel_rfl) h
theorem zbK (k:Nat) (a:Addr) (v:Value) (w:World) (h:w.cell? a=some v):(method (k+1) 300 (.pointer (some a)) "Swap").run Tryz.prog w= .ok (246,v) w:=zdQ _ _ k a v w (by kernel_rfl) h
structure Qu (w:World) (base B:Nat) (sv:Value) (E:List (Nat×Nat)):Prop where
 lt:B<base
 box:w.heap[B]? =some (.cells #[sv] 293)
 own:w.ownsRow base 260 1 sv E.length (E.map fun e=>ptrV e.1)
 keys:∀e∈E,e.1≠B∧sv.ownBlock≠some e.1∧w.cell? ⟨e.1,0,none⟩=some (.int .i64 (e.2:Int))
theorem Qu.c0 {w:World} {base B:Nat} {sv:Value} {E:List (Nat×Nat)} (h:Qu w base B sv E):w.cell? ⟨B,0,none⟩=some sv:=by simp [World.cell?,h.box]
theorem Qu.size {w:World} {base B:Nat} {sv:Value} {E:List (Nat×Nat)} (h:Qu w base B sv E):B<w.heap.size:=(Array.getElem?_eq_some_iff.1 h.box).1
theorem Qu.apart {w:World} {base B:Nat} {sv:Value} {E:List (Nat×Nat)} (h:Qu w base B sv E):sv.ownBlock≠some B:=fun e=>by
 have h1:=h.own.lt B e
 have h2:=h.lt
 omega
theorem Qu.free {w:World} {base B:Nat} {sv:Value} {E:List (Nat×Nat)} (h:Qu w base B sv E):w.frozen? ⟨B,0,none⟩=false:=by simp [World.frozen?,h.box]
theorem Qu.at {w:World} {base B:Nat} {sv:Value} {E:List (Nat×Nat)} (h:Qu w base B sv E) {k:Nat} (hk:k<E.length):∃g c,sv= .slice (some ⟨g,0,none⟩) E.length c∧w.cell? ⟨g,k,none⟩=some (ptrV E[k].1)∧w.frozen? ⟨g,k,none⟩=false∧
  w.cell? ⟨E[k].1,0,none⟩=some (.int .i64 (E[k].2:Int))∧base≤g∧g<w.heap.size:=by
 have hk':=(h.keys E[k] (List.getElem_mem hk)).2.2
 have hl:=h.own.lt
 have ho:=h.own
 obtain ⟨p,c,rfl⟩:=zac ho
 rcases ho.2 with ⟨-,h0⟩ | ⟨g,cap,cur,e,_⟩
 ·omega
 ·cases e
  refine ⟨g,c,rfl,?_,ho.frozenAt k,hk',(hl g rfl).1,(hl g rfl).2⟩
  rw [ho.cellAt k (by simpa using hk)]
  rw [List.getElem?_map,List.getElem?_eq_getElem hk]
  rfl
theorem zdO (p:Option Addr) (n c:Nat) (w:World):Calls Tryz.prog 220 #[.slice p n c] w fun e w'=>e= .returned (.int .i64 (n:Int))∧w'=w:=by
 go_enter Tryz.func220,Tryz.ntmps220
 go_wp2
 go_ret
 exact ⟨rfl,rfl⟩
theorem zcm (base B:Nat) (sv:Value) (E:List (Nat×Nat)) (i j:Nat) (w:World) (h:Qu w base B sv E) (hi:i<E.length) (hj:j<E.length):
  Calls Tryz.prog 245 #[sv,.int .i64 (i:Int),.int .i64 (j:Int)] w fun e w'=>e= .returned (.bool (decide (E[i].2<E[j].2)))∧Below w.heap.size w w':=by
 obtain ⟨g,c,rfl,c1,-,c2,-,-⟩:=h.at hi
 obtain ⟨g',c',e,c3,-,c4,-,-⟩:=h.at hj
 cases e
 generalize hd:decide (E[i].2<E[j].2)=d
 generalize E[i].2=x at *
 generalize E[j].2=y at *
 generalize E[i].1=bi at *
 generalize E[j].1=bj at *
 unfold ptrV at c1 c3
 have hli:(i:Int)<E.length:=by omega
 have hlj:(j:Int)<E.length:=by omega
 have h0i:(0:Int)≤i:=by omega
 have h0j:(0:Int)≤j:=by omega
 generalize E.length=n at *
 clear h
 go_enter Tryz.func245,Tryz.ntmps245
 go_wp2
 go_quiet (fail)
 go_wp2
 go_ret
 exact ⟨rfl,Below.drewN' (Below.refl _ _) nq⟩
theorem zrp {α:Type} (E:List α) (i j:Nat) (hi:i<E.length) (hj:j<E.length):((E.set i E[j]).set j E[i]).length=E.length:=by simp
theorem Qu.put {w w':World} {base B:Nat} {sv:Value} {E E':List (Nat×Nat)} (h:Qu w base B sv E) (ht:Turns (fun b=>sv.ownBlock=some b) w w') (ho:w'.ownsRow base 260 1 sv E'.length (E'.map fun e=>ptrV e.1)) (hE:∀e∈E',e∈E):Qu w' base B sv E':=
 ⟨h.lt,(ht.block B h.size h.apart).trans h.box,ho,fun e he=>by
  obtain ⟨h1,h2,h3⟩:=h.keys e (hE e he)
  exact ⟨h1,h2,ht.cell h3 h2⟩⟩
theorem zhD {w:World} {base g c n i j:Nat} {e:TypeId} {xs:List Value} (h:w.ownsRow base e 1 (.slice (some ⟨g,0,none⟩) n c) n xs) (hj:j<n) (hij:i≠j) {b:Value} (hb:w.cell? ⟨g,j,none⟩=some b):
  (w.setCell ⟨g,i,none⟩ b).cell? ⟨g,j,none⟩=some b∧(w.setCell ⟨g,i,none⟩ b).frozen? ⟨g,j,none⟩=false:=by
 have h1:=(h.stored i b).1
 refine ⟨?_,h1.frozenAt j⟩
 rw [h1.cellAt j (by omega)]
 have:=h.cellAt j (by omega)
 rw [hb] at this
 rw [List.getElem?_set_ne hij]
 exact this.symm
theorem zcV (w:World) (g i j n c:Nat) (u v:Value):Turns (fun b=>(Value.slice (some ⟨g,0,none⟩) n c).ownBlock=some b) w ((w.setCell ⟨g,i,none⟩ u).setCell ⟨g,j,none⟩ v).drew:=
 Turns.drew (Turns.set (T:=fun b=>(Value.slice (some ⟨g,0,none⟩) n c).ownBlock=some b) (Turns.set (T:=fun b=>(Value.slice (some ⟨g,0,none⟩) n c).ownBlock=some b) (Turns.refl _ w) (p:=⟨g,i,none⟩) rfl u) (p:=⟨g,j,none⟩) rfl v)
set_option maxRecDepth 100000 in
theorem zcp (base B:Nat) (sv:Value) (E:List (Nat×Nat)) (i j:Nat) (w:World) (h:Qu w base B sv E) (hi:i<E.length) (hj:j<E.length) (hij:i≠j):
  Calls Tryz.prog 246 #[sv,.int .i64 (i:Int),.int .i64 (j:Int)] w fun e w'=>e= .returned (.tuple #[])∧Qu w' base B sv ((E.set i E[j]).set j E[i])∧Turns (fun b=>sv.ownBlock=some b) w w':=by
 obtain ⟨g,c,rfl,c1,f1,-,-,-⟩:=h.at hi
 obtain ⟨g',c',e,c3,f3,-,-,-⟩:=h.at hj
 cases e
 have H:=Lib.hid h
 obtain ⟨c5,f5⟩:=zhD h.own hj hij c3
 obtain ⟨c6,f6⟩:=zhD h.own hi (fun e=>hij e.symm) c1
 have hli:(i:Int)<E.length:=by omega
 have hlj:(j:Int)<E.length:=by omega
 have h0i:(0:Int)≤i:=by omega
 have h0j:(0:Int)≤j:=by omega
 have hl:=zrp E i j hi hj
 obtain ⟨n,hn⟩:∃n,E.length=n:=⟨_,rfl⟩
 obtain ⟨bi,hbi⟩:∃bi,E[i].1=bi:=⟨_,rfl⟩
 obtain ⟨bj,hbj⟩:∃bj,E[j].1=bj:=⟨_,rfl⟩
 rw [hbi] at c1 c6 f6
 rw [hbj] at c3 c5 f5
 unfold ptrV at c1 c3 c5 f5 c6 f6
 rw [hn] at hli hlj ⊢
 have Hn:=Lib.hid (And.intro hn (And.intro hbi hbj))
 have Hl:=Lib.hid hl
 clear h hn hbi hbj hl
 go_enter Tryz.func246,Tryz.ntmps246
 go_region
 go_end0
 refine ⟨rfl,?_,zcV w g i j n c _ _⟩
 obtain ⟨e1,e2,e3⟩:=Hn.out
 have ho:=H.out.own
 have h2:=((ho.stored i (ptrV bj)).1.stored j (ptrV bi)).1.drew
 rw [←e2,←e3] at h2 ⊢
 rw [e1] at h2
 refine (e1 ▸ H.out).put (zcV w g i j n c _ _) ?_ (fun e he=>?_)
 ·rw [Hl.out,e1,List.map_set,List.map_set]
  exact h2
 ·rcases List.mem_or_eq_of_mem_set he with he | rfl
  ·rcases List.mem_or_eq_of_mem_set he with he | rfl
   ·exact he
   ·exact List.getElem_mem _
  ·exact List.getElem_mem _
set_option maxRecDepth 100000 in
theorem zk6 (base B:Nat) (sv:Value) (E:List (Nat×Nat)) (i:Nat) (w:World) (h:Qu w base B sv E) (hi:i<E.length):
  Calls Tryz.prog 246 #[sv,.int .i64 (i:Int),.int .i64 (i:Int)] w fun e w'=>e= .returned (.tuple #[])∧Qu w' base B sv E∧Turns (fun b=>sv.ownBlock=some b) w w':=by
 obtain ⟨g,c,rfl,c1,f1,-,-,-⟩:=h.at hi
 have H:=Lib.hid h
 have h1:=(h.own.stored i (ptrV E[i].1)).1
 have c5:(w.setCell ⟨g,i,none⟩ (ptrV E[i].1)).cell? ⟨g,i,none⟩=some (ptrV E[i].1):=World.cell?_setCell_same' _ _ _ (by rw [c1];rfl)
 have f5:(w.setCell ⟨g,i,none⟩ (ptrV E[i].1)).frozen? ⟨g,i,none⟩=false:=h1.frozenAt i
 have hli:(i:Int)<E.length:=by omega
 have h0i:(0:Int)≤i:=by omega
 obtain ⟨n,hn⟩:∃n,E.length=n:=⟨_,rfl⟩
 obtain ⟨bi,hbi⟩:∃bi,E[i].1=bi:=⟨_,rfl⟩
 rw [hbi] at c1 c5 f5
 unfold ptrV at c1 c5 f5
 rw [hn] at hli ⊢
 have Hn:=Lib.hid (And.intro hn hbi)
 clear h hn hbi h1
 go_enter Tryz.func246,Tryz.ntmps246
 go_region
 go_end0
 refine ⟨rfl,?_,zcV w g i i n c _ _⟩
 obtain ⟨e1,e2⟩:=Hn.out
 have ho:=H.out.own
 have h2:=((ho.stored i (ptrV bi)).1.stored i (ptrV bi)).1.drew
 rw [←e2] at h2 ⊢
 rw [e1] at h2
 refine (e1 ▸ H.out).put (zcV w g i i n c _ _) ?_ (fun e he=>he)
 rw [List.set_set] at h2
 have e:(E.map fun e=>ptrV e.1).set i (ptrV E[i].1)=E.map fun e=>ptrV e.1:=by
  refine List.ext_getElem (by simp) (fun k _ h2=>?_)
  rw [List.getElem_set]
  split
  ·rename_i hk;subst hk;simp
  ·rfl
 rw [e] at h2
 rw [e1]
 exact h2
end
section
open Go.RowKit
theorem zks {W:World} {base:Nat} {e:TypeId} {size:Nat} {v:Value} {n:Nat} {xs:List Value} (h:W.ownsRow base e size v n xs):W.drew.ownsRow base e size v n xs:=h
theorem zkw (w:World) (t:TypeId) (cs:List Value):∀j u,cs[j]? =some u→(w.alloc (.cells cs.toArray t)).drew.cell? ((⟨w.heap.size,0,none⟩:Addr).add j)=some u:=fun j u hu=>zbm (w:=w) (t:=t) j u hu
theorem zp6 {w w':World} {row:Option Nat} (h:w.grownBy w' row) {p:Addr} {v:Value} (hc:w.cell? p=some v) (hn:row≠some p.block):w'.cell? p=some v:=
 (Turns.of_grown (T:=fun b=>row=some b) h (fun _ h=>h)).cell hc hn
theorem zqX {w w':World} {row:Option Nat} (h:w.grownBy w' row) {p:Addr} {v:Value} (hc:w.cell? p=some v) (hf:w.frozen? p=false) (hn:row≠some p.block):w'.frozen? p=false:=
 (Turns.of_grown (T:=fun b=>row=some b) h (fun _ h=>h)).free hc hf hn
theorem zie {W:World} {B:Nat} {t:TypeId} {a:Value} (c:Value) (h:W.heap[B]? =some (.cells #[a] t)):(W.setCell ⟨B,0,none⟩ c).heap[B]? =some (.cells #[c] t):=by
 obtain ⟨hlt,hk⟩:=Array.getElem?_eq_some_iff.1 h
 show (W.heap.modify B _)[B]? =_
 rw [Array.getElem?_eq_getElem (by rw [Array.size_modify];exact hlt),Array.getElem_modify_self,hk]
 rfl
theorem zoC {wr w5:World} {o:Obj} {row:Option Nat} {B:Nat} {u:Value} (h:(wr.alloc o).drew.grownBy w5 row):Turns (fun i=>i=B∨row=some i) wr (w5.setCell ⟨B,0,none⟩ u):=by
 have a1:Turns (fun i=>i=B∨row=some i) wr (wr.alloc o).drew:=(Turns.of_below' (Below.al1 wr o)).drew
 have a2:=(Turns.of_grown (T:=fun i=>row=some i) h (fun _ h=>h)).mono (T':=fun i=>i=B∨row=some i) (fun _ _ h=>Or.inr h)
 exact (a1.trans a2).set (p:=⟨B,0,none⟩) (Or.inl rfl) u
theorem zdS (v:Value) (w:World):(Instr.typeAssert (.iface 260 v) 20 260 false).run Tryz.prog w= .ok v w:=by kernel_rfl
def QuTo (base B:Nat) (sv:Value) (E:List (Nat×Nat)) (w w':World):Prop:=
 ∃sv',Qu w' base B sv' E∧Turns (fun b=>b=B∨sv.ownBlock=some b) w w'∧∀k,sv'.ownBlock=some k→sv.ownBlock=some k∨w.heap.size≤k
set_option maxRecDepth 100000 in
set_option maxHeartbeats 1000000 in
theorem zlG (base B:Nat) (sv:Value) (E:List (Nat×Nat)) (b c:Nat) (w:World) (h:Qu w base B sv E) (hc:w.cell? ⟨b,0,none⟩=some (.int .i64 (c:Int))) (hbB:b≠B) (hbs:sv.ownBlock≠some b) (hlen:E.length≤65536) (hbase:base≤w.heap.size):
  Calls Tryz.prog 248 #[.pointer (some ⟨B,0,none⟩),.iface 260 (ptrV b)] w fun e w'=>e= .returned (.tuple #[])∧QuTo base B sv (E++[(b,c)]) w w':=by
 have hc0:=h.c0
 have hf0:=h.free
 have H:=Lib.hid h
 have hown:=Lib.hid h.own
 have hap:=h.apart
 have hbs':=h.size
 obtain ⟨p,cp,rfl⟩:=zac h.own
 obtain ⟨i0,hi0,hz0,hz1,hz2⟩:=info_parts zfo
 have q1:=cell_later (Below.al1 w (.cells #[ptrV b] 260)) hc0
 have q2:=zaf (Below.al1 w (.cells #[ptrV b] 260)) hc0 hf0
 have Hc:=Lib.hid hc
 clear h hc
 unfold ptrV at *
 have hta:=zdS (.pointer (some ⟨b,0,none⟩))
 go_enter Tryz.func248,Tryz.ntmps248
 go_region_law (refine step_append_lies _ (by rfl) (.tmp 7) (.tmp 10) 293 (by rfl) base 260 i0 _ 1 8 Tryz.underlying293 hi0 hz0 hz1 hz2 rfl (by decide) (.slice p E.length cp) E.length (E.map fun e=>ptrV e.1) (by rfl) (zks (hown.out.alloc _)) _ 1 1 [ptrV b] (by rfl) rfl (fun j u hu=>zkw _ _ [ptrV b] j u hu) (by intro u hu;simp at hu;subst hu;rfl) (by decide) (by simp only [maxLen];omega) (by omega) (by simp;omega) (w.heap.size+1) (by simp) ?_;intro g5 cap5 w5 hown5 hgr5 hpl5 hlt5;have z1:=zp6 hgr5 q1 hap;have z4:=zqX hgr5 q1 q2 hap)
 all_goals
  go_end0
  have ht:Turns (fun i=>i=B∨(Value.slice p E.length cp).ownBlock=some i) w (w5.setCell ⟨B,0,none⟩ (.slice (some ⟨g5,0,none⟩) (E.length+1) cap5)):=zoC hgr5
  have hbx5:w5.heap[B]? =some (.cells #[.slice p E.length cp] 293):=
   ((Turns.of_grown (T:=fun i=>(Value.slice p E.length cp).ownBlock=some i) hgr5 (fun _ h=>h)).block B (by simp;omega) hap).trans ((Below.heap_alloc w _ B hbs').trans H.out.box)
  have hg5:∀k,(Value.slice (some ⟨g5,0,none⟩) (E.length+1) cap5).ownBlock=some k→(Value.slice p E.length cp).ownBlock=some k∨w.heap.size≤k:=fun k hk=>by
   cases hk
   rcases hpl5 with h | h
   ·exact .inl h
   ·exact .inr (by show w.heap.size≤g5;omega)
  have hgB:g5≠B:=fun e=>by
   rcases hg5 g5 rfl with h | h
   ·exact hap (e ▸ h)
   ·omega
  have key:∀x v,x≠B→(Value.slice p E.length cp).ownBlock≠some x→w.cell? ⟨x,0,none⟩=some v→(Value.slice (some ⟨g5,0,none⟩) (E.length+1) cap5).ownBlock≠some x∧(w5.setCell ⟨B,0,none⟩ (.slice (some ⟨g5,0,none⟩) (E.length+1) cap5)).cell? ⟨x,0,none⟩=some v:=fun x v h1 h2 h3=>
   ⟨fun e=>by
    have:=World.block_lt_of_cell? _ _ h3
    rcases hg5 x e with h | h
    ·exact h2 h
    ·simp only at this;omega,ht.cell h3 (fun e=>by
    rcases e with e | e
    ·exact h1 e
    ·exact h2 e)⟩
  refine ⟨rfl,.slice (some ⟨g5,0,none⟩) (E.length+1) cap5,⟨H.out.lt,zie _ hbx5,?_,fun e he=>?_⟩,ht,hg5⟩
  ·refine (Turns.set (T:=fun i=>i=B) (p:=⟨B,0,none⟩) (Turns.refl _ w5) rfl _).owns ?_ (fun i hi e=>hgB (by cases hi;exact e))
   rw [List.length_append,List.map_append]
   exact hown5
  ·rcases List.mem_append.1 he with he | he
   ·obtain ⟨h1,h2,h3⟩:=H.out.keys e he
    exact ⟨h1,key e.1 _ h1 h2 h3⟩
   ·obtain rfl:e=(b,c):=by simpa using he
    exact ⟨hbB,key b _ hbB hbs Hc.out⟩
set_option maxHeartbeats 1000000 in
theorem zn4 (base B:Nat) (sv:Value) (E:List (Nat×Nat)) (b c:Nat) (w:World) (h:Qu w base B sv (E++[(b,c)])) (hlen:E.length≤65536):
  Calls Tryz.prog 247 #[.pointer (some ⟨B,0,none⟩)] w fun e w'=>e= .returned (.iface 260 (ptrV b))∧QuTo base B sv E w w':=by
 have hl:(E++[(b,c)]).length=E.length+1:=by simp
 obtain ⟨g,cp,hs,c1,f1,-,-,-⟩:=h.at (k:=E.length) (by simp)
 rw [hl] at hs
 subst hs
 have e1:(E++[(b,c)])[E.length]'(by simp)=(b,c):=by simp
 rw [e1] at c1
 have hc0:=h.c0
 have hf0:=h.free
 have hcap:E.length+1≤cp:=by
  have ho:=h.own
  rw [hl] at ho
  rcases ho.2 with ⟨h0,_⟩ | ⟨g',cap',cur,hv,hg,hh,hn,hcap,hsz,htake⟩
  ·cases h0
  ·cases hv;exact hn
 have hown:w.ownsRow base 260 1 (.slice (some ⟨g,0,none⟩) E.length cp) E.length (E.map fun e=>ptrV e.1):=by
  have:=h.own
  rw [hl,List.map_append] at this
  exact ownsRow_pop (by simp) this
 have H:=Lib.hid h
 have Hown:=Lib.hid hown
 have hgB:g≠B:=fun e=>h.apart (by rw [e];rfl)
 clear h e1 hl hown
 unfold ptrV at *
 go_enter Tryz.func247,Tryz.ntmps247
 go_wp2
 go_ret
 have ht:Turns (fun i=>i=B∨(Value.slice (some ⟨g,0,none⟩) (E.length+1) cp).ownBlock=some i) w (w.setCell ⟨B,0,none⟩ (.slice (some ⟨g,0,none⟩) E.length cp)):=(Turns.refl _ w).set (p:=⟨B,0,none⟩) (.inl rfl) _
 refine ⟨rfl,.slice (some ⟨g,0,none⟩) E.length cp,⟨H.out.lt,zie _ H.out.box,?_,fun e he=>?_⟩,ht,fun k hk=> .inl hk⟩
 ·exact (Turns.set (T:=fun i=>i=B) (p:=⟨B,0,none⟩) (Turns.refl _ w) rfl _).owns Hown.out (fun i hi e=>hgB (by cases hi;exact e))
 ·obtain ⟨h1,h2,h3⟩:=H.out.keys e (List.mem_append_left _ he)
  exact ⟨h1,h2,ht.cell h3 (fun e=>by
   rcases e with e | e
   ·exact h1 e
   ·exact h2 e)⟩
end
section
def kk (E:List (Nat×Nat)) (k:Nat):Nat:=(E.getD k (0,0)).2
theorem zaN {E:List (Nat×Nat)} {k:Nat} (h:k<E.length):kk E k=E[k].2:=by
 unfold kk;rw [List.getD_eq_getElem?_getD,List.getElem?_eq_getElem h];rfl
def swp (E:List (Nat×Nat)) (i j:Nat):List (Nat×Nat):=(E.set i (E.getD j (0,0))).set j (E.getD i (0,0))
theorem zcG {E:List (Nat×Nat)} {i j:Nat} (hi:i<E.length) (hj:j<E.length):swp E i j=(E.set i E[j]).set j E[i]:=by
 unfold swp;simp [List.getD_eq_getElem?_getD,hi,hj]
theorem zcb (E:List (Nat×Nat)) (i j:Nat):(swp E i j).length=E.length:=by simp [swp]
theorem zoR {E:List (Nat×Nat)} {i:Nat} (hi:i<E.length):swp E i i=E:=by
 rw [zcG hi hi,List.set_set,List.set_getElem_self]
theorem ziV {E:List (Nat×Nat)} {i j:Nat} (hi:i<E.length) (hj:j<E.length) (k:Nat):kk (swp E i j) k=if k=j then kk E i else if k=i then kk E j else kk E k:=by
 unfold kk swp
 simp only [List.getD_eq_getElem?_getD,List.getElem?_set,List.length_set]
 by_cases h1:j=k
 ·subst h1;simp [hj]
 ·by_cases h2:i=k
  ·subst h2;simp [h1,hi,Ne.symm h1]
  ·simp [h1,h2,Ne.symm h1,Ne.symm h2]
def Hp (a:Nat→Nat) (n:Nat):Prop:= ∀k,0<k→k<n→a ((k - 1)/2)≤a k
def HpUp (a:Nat→Nat) (n j:Nat):Prop:=(∀k,0<k→k<n→k≠j→a ((k - 1)/2)≤a k)∧(∀k,0<k→k<n→(k - 1)/2=j→0<j→a ((j - 1)/2)≤a k)
def HpDn (a:Nat→Nat) (n i:Nat):Prop:=(∀k,0<k→k<n→(k - 1)/2≠i→a ((k - 1)/2)≤a k)∧(∀k,0<k→k<n→(k - 1)/2=i→0<i→a ((i - 1)/2)≤a k)
theorem HpUp.done {a:Nat→Nat} {n j:Nat} (h:HpUp a n j) (hj:j=0∨a ((j - 1)/2)≤a j):Hp a n:=fun k h0 hk=>by
 by_cases e:k=j
 ·subst e
  rcases hj with h | h
  ·omega
  ·exact h
 ·exact h.1 k h0 hk e
theorem HpUp.step {E:List (Nat×Nat)} {n j:Nat} (hn:n=E.length) (h:HpUp (kk E) n j) (h0:0<j) (hj:j<n) (hl:kk E j<kk E ((j - 1)/2)):HpUp (kk (swp E ((j - 1)/2) j)) n ((j - 1)/2):=by
 obtain ⟨i,hi⟩:∃i,(j - 1)/2=i:=⟨_,rfl⟩
 rw [hi] at hl ⊢
 have hij:i<j:=by omega
 have e:=ziV (E:=E) (i:=i) (j:=j) (by omega) (by omega)
 refine ⟨fun k k0 kn hk=>?_,fun k k0 kn hk i0=>?_⟩
 ·rw [e k,e ((k - 1)/2)]
  have hki:¬k=i:=hk
  by_cases k1:k=j
  ·subst k1
   rw [if_pos rfl,hi,if_neg (by omega),if_pos rfl]
   omega
  ·rw [if_neg k1,if_neg hki]
   have h1:=h.1 k k0 kn k1
   by_cases p1:(k - 1)/2=j
   ·rw [if_pos p1]
    have h2:=h.2 k k0 kn p1 h0
    rw [hi] at h2
    exact h2
   ·rw [if_neg p1]
    by_cases p2:(k - 1)/2=i
    ·rw [if_pos p2]
     rw [p2] at h1
     omega
    ·rw [if_neg p2];exact h1
 ·rw [e k,e ((i - 1)/2)]
  have h3:kk E ((i - 1)/2)≤kk E i:=h.1 i i0 (by omega) (by omega)
  rw [if_neg (show ¬(i - 1)/2=j by omega),if_neg (show ¬(i - 1)/2=i by omega)]
  by_cases k1:k=j
  ·rw [if_pos k1];exact h3
  ·rw [if_neg k1,if_neg (by omega)]
   have h1:=h.1 k k0 kn k1
   rw [hk] at h1
   omega
theorem HpDn.done {a:Nat→Nat} {n i:Nat} (h:HpDn a n i) (hi:∀k,0<k→k<n→(k - 1)/2=i→a i≤a k):Hp a n:=fun k h0 hk=>by
 by_cases e:(k - 1)/2=i
 ·rw [e];exact hi k h0 hk e
 ·exact h.1 k h0 hk e
theorem HpDn.step {E:List (Nat×Nat)} {n i j:Nat} (hn:n≤E.length) (h:HpDn (kk E) n i) (hj0:(j - 1)/2=i) (hj1:0<j) (hj:j<n) (hmin:∀k,0<k→k<n→(k - 1)/2=i→kk E j≤kk E k) (hl:kk E j<kk E i):HpDn (kk (swp E i j)) n j:=by
 have hij:i<j:=by omega
 have e:=ziV (E:=E) (i:=i) (j:=j) (by omega) (by omega)
 refine ⟨fun k k0 kn hk=>?_,fun k k0 kn hk i0=>?_⟩
 ·rw [e k,e ((k - 1)/2)]
  rw [if_neg hk]
  by_cases k1:k=j
  ·subst k1
   rw [if_pos rfl,if_pos hj0]
   omega
  ·rw [if_neg k1]
   by_cases k2:k=i
   ·subst k2
    rw [if_pos rfl,if_neg (by omega)]
    have h1:=h.2 j hj1 hj hj0 k0
    exact h1
   ·rw [if_neg k2]
    by_cases p2:(k - 1)/2=i
    ·rw [if_pos p2]
     exact hmin k k0 kn p2
    ·rw [if_neg p2];exact h.1 k k0 kn p2
 ·rw [e k,e ((j - 1)/2)]
  rw [if_neg (show ¬(j - 1)/2=j by omega),if_pos hj0,if_neg (show ¬k=j by omega),if_neg (show ¬k=i by omega)]
  have h1:=h.1 k k0 kn (by omega)
  rw [hk] at h1
  exact h1
theorem Hp.least {a:Nat→Nat} {n:Nat} (h:Hp a n):∀k,k<n→a 0≤a k:=by
 intro k
 induction k using Nat.strongRecOn with
 | _ k ih=>
  intro hk
  rcases Nat.eq_zero_or_pos k with h0 | h0
  ·subst h0;exact Nat.le_refl _
  ·exact Nat.le_trans (ih ((k - 1)/2) (by omega) (by omega)) (h k h0 hk)
theorem HpUp.push {E:List (Nat×Nat)} (x:Nat×Nat) (h:Hp (kk E) E.length):HpUp (kk (E++[x])) (E.length+1) E.length:=by
 have e:∀k,k<E.length→kk (E++[x]) k=kk E k:=fun k hk=>by
  unfold kk;rw [List.getD_eq_getElem?_getD,List.getD_eq_getElem?_getD,List.getElem?_append_left hk]
 refine ⟨fun k k0 kn hk=>?_,fun k k0 kn hk i0=>by omega⟩
 rw [e k (by omega),e _ (by omega)]
 exact h k k0 (by omega)
theorem HpDn.pop {E:List (Nat×Nat)} {n:Nat} (hn:E.length=n+1) (h:Hp (kk E) (n+1)):HpDn (kk (swp E 0 n)) n 0:=by
 have e:=ziV (E:=E) (i:=0) (j:=n) (by omega) (by omega)
 refine ⟨fun k k0 kn hk=>?_,fun k k0 kn hk i0=>by omega⟩
 rw [e k,e ((k - 1)/2),if_neg (show ¬(k - 1)/2=n by omega),if_neg hk,if_neg (show ¬k=n by omega),if_neg (show ¬k=0 by omega)]
 exact h k k0 (by omega)
theorem Hp.congr {a b:Nat→Nat} {n:Nat} (h:Hp a n) (e:∀k,k<n→b k=a k):Hp b n:=fun k h0 hk=>by
 rw [e k hk,e _ (by omega)];exact h k h0 hk
end
section
open Go.RowKit
theorem Qu.below {w w':World} {base B:Nat} {sv:Value} {E:List (Nat×Nat)} (h:Qu w base B sv E) (hb:Below w.heap.size w w'):Qu w' base B sv E:=
 h.put (Turns.of_below' hb) ((Turns.of_below' (T:=fun _=>False) hb).owns h.own (fun _ _ h=>h)) (fun _ he=>he)
end
section
open Go.RowKit
theorem zqR (D:List (Nat×Nat)) (n k:Nat) (h:k<n):kk (D.take n) k=kk D k:=by
 unfold kk
 rw [List.getD_eq_getElem?_getD,List.getD_eq_getElem?_getD,List.getElem?_take_of_lt h]
end
section
open Go.RowKit
def zbG (b:Nat):List Value:=[ptrV b]
theorem znt (b:Nat):(zbG b).length=1:=rfl
theorem zms:∀l:List Nat,l.flatMap zbG=l.map ptrV
 | []=>rfl
 | b::r=>by rw [List.flatMap_cons,zms r];rfl
theorem RowAt.ptr {W:World} {p:Option Addr} {xs:List Nat} (h:RowAt zbG 1 W p xs) {k:Nat} (hk:k<xs.length):∃b off,p=some ⟨b,off,none⟩∧W.cell? ⟨b,off+k,none⟩=some (ptrV xs[k]):=by
 rcases h with ⟨-,rfl⟩ | ⟨b,off,rfl,-,h⟩
 ·simp at hk
 ·refine ⟨b,off,rfl,?_⟩
  have:=h k xs[k] (List.getElem?_eq_getElem hk) 0 _ rfl
  simpa using this
end
section
open Go.RowKit
def NodeAt (w:World) (N:Nat→Prop) (r:Nat) (a b:Nat×Nat):Prop:=
 ∃g,N r∧N g∧w.heap[r]? =some (.cells #[.int .i64 ((a.2:Int)+(b.2:Int)),.int .i64 0,.slice (some ⟨g,0,none⟩) 2 2] 259)∧w.heap[g]? =some (.cells #[ptrV a.1,ptrV b.1] 260)
def Nodes (w:World) (N:Nat→Prop):List (Nat×Nat)→List Nat→Prop
 | [],[]=>True
 | a::b::P,r::rs=>NodeAt w N r a b∧Nodes w N P rs
 | _,_=>False
theorem zab {w:World} {i:Nat} {o:Obj} (h:w.heap[i]? =some o):i<w.heap.size:=(Array.getElem?_eq_some_iff.1 h).1
theorem NodeAt.keep {w w':World} {N N':Nat→Prop} {r:Nat} {a b:Nat×Nat} (h:NodeAt w N r a b) (hk:∀i,i<w.heap.size→N i→w'.heap[i]? =w.heap[i]?∧N' i):NodeAt w' N' r a b:=by
 obtain ⟨g,h1,h2,h3,h4⟩:=h
 have k1:=hk r (zab h3) h1
 have k2:=hk g (zab h4) h2
 exact ⟨g,k1.2,k2.2,k1.1.trans h3,k2.1.trans h4⟩
theorem Nodes.keep {w w':World} {N N':Nat→Prop} (hk:∀i,i<w.heap.size→N i→w'.heap[i]? =w.heap[i]?∧N' i):∀{P:List (Nat×Nat)} {rs:List Nat},Nodes w N P rs→Nodes w' N' P rs
 | [],[],_=>trivial
 | _::_::_,_::_,⟨h1,h2⟩=>⟨h1.keep hk,Nodes.keep hk h2⟩
 | [],_::_,h=>h.elim
 | [_],_,h=>by cases ‹List Nat› <;>exact h.elim
 | _::_::_,[],h=>h.elim
theorem Nodes.snoc {w:World} {N:Nat→Prop} {r:Nat} {a b:Nat×Nat} (hn:NodeAt w N r a b):∀{P:List (Nat×Nat)} {rs:List Nat},Nodes w N P rs→Nodes w N (P++[a,b]) (rs++[r])
 | [],[],_=>⟨hn,trivial⟩
 | _::_::_,_::_,⟨h1,h2⟩=>⟨h1,Nodes.snoc hn h2⟩
 | [],_::_,h=>h.elim
 | [_],_,h=>by cases ‹List Nat› <;>exact h.elim
 | _::_::_,[],h=>h.elim
theorem zkS (w:World) (t:TypeId) (cs:List Value) (n:Nat) (hn:n=w.heap.size):∀j u,cs[j]? =some u→(w.alloc (.cells cs.toArray t)).drew.cell? ((⟨n,0,none⟩:Addr).add j)=some u:=by
 subst hn;exact zkw w t cs
theorem zeA {W:World} {base base':Nat} {e:TypeId} {size:Nat} {v:Value} {n:Nat} {xs:List Value} (h:W.ownsRow base e size v n xs) (hb:base'≤base):W.ownsRow base' e size v n xs:=by
 refine ⟨h.1,?_⟩
 rcases h.2 with h0 | ⟨g,cap,cur,h1,h2,h3⟩
 ·exact .inl h0
 ·exact .inr ⟨g,cap,cur,h1,by omega,h3⟩
def lenP:Value→Nat
 | .slice _ n _=>n
 | _=>0
end
section
open Go.RowKit
def TrAt (w:World) (N:Nat→Prop):Nat→Tr→Prop
 | b,.leaf s c=>N b∧w.heap[b]? =some (.cells #[.int .i64 (c:Int),.int .i64 (s:Int),.slice none 0 0] 259)
 | b,.node x y=>N b∧∃g bx by',N g∧w.heap[b]? =some (.cells #[.int .i64 ((x.cost:Int)+(y.cost:Int)),.int .i64 0,.slice (some ⟨g,0,none⟩) 2 2] 259)∧
   w.heap[g]? =some (.cells #[ptrV bx,ptrV by'] 260)∧TrAt w N bx x∧TrAt w N by' y
theorem TrAt.keep {w w':World} {N N':Nat→Prop} (hk:∀i,i<w.heap.size→N i→w'.heap[i]? =w.heap[i]?∧N' i):∀{t:Tr} {b:Nat},TrAt w N b t→TrAt w' N' b t
 | .leaf _ _,b,h=>by
  unfold TrAt at h ⊢
  have k1:=hk b (zab h.2) h.1
  exact ⟨k1.2,k1.1.trans h.2⟩
 | .node _ _,b,h=>by
  unfold TrAt at h ⊢
  obtain ⟨h1,g,bx,by',h2,h3,h4,h5,h6⟩:=h
  have k1:=hk b (zab h3) h1
  have k2:=hk g (zab h4) h2
  exact ⟨k1.2,g,bx,by',k2.2,k1.1.trans h3,k2.1.trans h4,TrAt.keep hk h5,TrAt.keep hk h6⟩
theorem TrAt.below {w w':World} {N:Nat→Prop} {t:Tr} {b:Nat} (h:TrAt w N b t) (hb:Below w.heap.size w w'):TrAt w' N b t:=
 h.keep (fun i hi hN=>⟨hb.block i hi,hN⟩)
theorem TrAt.cost {w:World} {N:Nat→Prop}:∀{t:Tr} {b:Nat},TrAt w N b t→w.cell? ⟨b,0,none⟩=some (.int .i64 (t.cost:Int))
 | .leaf _ _,b,h=>by
  unfold TrAt at h
  simp [World.cell?,h.2,Tr.cost]
 | .node _ _,b,h=>by
  unfold TrAt at h
  obtain ⟨h1,g,bx,by',h2,h3,h4,h5,h6⟩:=h
  simp [World.cell?,h3,Tr.cost]
def ckey (e:Nat×Tr):Nat×Nat:=(e.1,e.2.cost)
theorem zeM {w:World} {N N0:Nat→Prop} (hN:∀i,N0 i→N i):∀{rs:List Nat} {P E:List (Nat×Nat)} {Q:List (Nat×Tr)},Q.map ckey=P++E→E.length≤1→Nodes w N0 P rs→(∀e∈Q,TrAt w N e.1 e.2)→
  ∃rt:List (Nat×Tr),rt.map Prod.fst=rs∧rt.map Prod.snd=pairT (Q.map Prod.snd)∧∀e∈rt,TrAt w N e.1 e.2
 | [],[],E,Q,hQ,hE,_,_=>by
  refine ⟨[],rfl,?_,fun e he=>by cases he⟩
  have hl:=congrArg List.length hQ
  simp at hl
  match Q,hl with
  | [],_=>simp [pairT]
  | [_],_=>simp [pairT]
  | _::_::_,hl=>simp at hl;omega
 | r::rs,a::b::P,E,Q,hQ,hE,hn,ht=>by
  obtain ⟨h1,h2⟩:=hn
  match Q,hQ with
  | [],hQ=>cases hQ
  | [_],hQ=>simp at hQ
  | qa::qb::Q,hQ=>
   simp only [List.map_cons,List.cons_append,List.cons.injEq] at hQ
   obtain ⟨ea,eb,hQ⟩:=hQ
   obtain ⟨rt,r1,r2,r3⟩:=zeM hN hQ hE h2 (fun e he=>ht e (List.mem_cons_of_mem _ (List.mem_cons_of_mem _ he)))
   obtain ⟨g,n1,n2,n3,n4⟩:=h1
   subst ea eb
   refine ⟨(r,.node qa.2 qb.2)::rt,by rw [List.map_cons,r1],by simp only [List.map_cons,pairT,r2],fun e he=>?_⟩
   rcases List.mem_cons.1 he with rfl | he
   ·unfold TrAt
    exact ⟨hN _ n1,g,qa.1,qb.1,hN _ n2,n3,n4,ht qa (by simp),ht qb (by simp)⟩
   ·exact r3 e he
 | [],[_],_,_,_,_,h,_=>h.elim
 | _::_,[_],_,_,_,_,h,_=>h.elim
 | [],_::_::_,_,_,_,_,h,_=>h.elim
 | _::_,[],_,_,_,_,h,_=>h.elim
theorem zd5 (l:List (Nat×Tr)):(l.map ckey).map Prod.fst=l.map Prod.fst:=by rw [List.map_map];rfl
theorem RowT.len_le {ls:List Tr}:∀{j:Nat} {P:List Tr},RowT ls j P→P.length≤2*ls.length
 | 0,_,h=>by subst h;simp
 | j+1,P,⟨Q,hQ,_,hp⟩=>by
  have h1:=RowT.len_le hQ
  have h2:=hp.length_eq
  rw [List.length_append,zd7] at h2
  omega
theorem RowT.cost_le {ls:List Tr} {C:Nat} (hc:∀t∈ls,t.cost≤C):∀{j:Nat} {P:List Tr},RowT ls j P→∀t∈P,t.cost≤C*2^j
 | 0,_,h,t,ht=>by subst h;cases ht
 | j+1,P,⟨Q,hQ,_,hp⟩,t,ht=>by
  have h2:C*2^(j+1)=C*2^j+C*2^j:=by rw [Nat.pow_succ,←Nat.mul_assoc];omega
  rcases List.mem_append.1 (hp.mem_iff.1 ht) with h | h
  ·have:=hc t h
   have h3:C*1≤C*2^(j+1):=Nat.mul_le_mul_left C (zcd _)
   omega
  ·obtain ⟨a,b,rfl,ha,hb⟩:=zbl _ t h
   have h3:=RowT.cost_le hc hQ a ha
   have h4:=RowT.cost_le hc hQ b hb
   simp only [Tr.cost]
   omega
end
section
open Go.RowKit
theorem RowAt.take {α:Type} {enc:α→List Value} {k:Nat} {W:World} {p:Option Addr} {xs:List α} (h:RowAt enc k W p xs) (m:Nat):RowAt enc k W p (xs.take m):=by
 rcases h with ⟨h1,rfl⟩ | ⟨b,off,rfl,h2,h3⟩
 ·exact .inl ⟨h1,by simp⟩
 ·refine .inr ⟨b,off,rfl,h2,fun i x hi j u hj=>h3 i x ?_ j u hj⟩
  rw [List.getElem?_take] at hi
  split at hi
  ·exact hi
  ·cases hi
theorem Row.take {α:Type} {enc:α→List Value} {k:Nat} {W:World} {p:Option Addr} {n c:Nat} {xs:List α} (h:Row enc k W (.slice p n c) xs) {m:Nat} (hm:m≤xs.length):Row enc k W (.slice p m c) (xs.take m):=by
 obtain ⟨p',c',e,h1,h2,h3⟩:=h
 cases e
 have hl:(xs.take m).length=m:=by rw [List.length_take];omega
 exact ⟨p,c,by rw [hl],by omega,h2,h3.take m⟩
theorem ze4 {W:World} {base:Nat} {v:Value} {n:Nat} {bs:List Nat} (h:W.ownsRow base 260 1 v n (bs.map ptrV)) (hn:n=bs.length):Row zbG 1 W v bs:=by
 subst hn
 rw [←zms] at h
 exact zbT znt h
end
end Go.Proofs.YtedakhgaghfogaaGreat
