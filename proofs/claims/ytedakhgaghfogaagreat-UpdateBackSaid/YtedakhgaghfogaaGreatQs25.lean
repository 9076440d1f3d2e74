/- Several texts in one, each with its own head. -/
import Derived.Test.YtedakhgaghfogaaGreatQs5
import Derived.Test.YtedakhgaghfogaaGreatQs24
import Derived.Test.YtedakhgaghfogaaGreatQs7
namespace Go.Proofs.YtedakhgaghfogaaGreat
section
open Go.RowKit
section
variable {α:Type} [Inhabited α]
theorem zpr {E:List (α×Nat)} {i j:Nat} (hi:i<E.length) (hj:j<E.length):gs E i j=(E.set i E[j]).set j E[i]:=by
 unfold gs;simp [List.getD_eq_getElem?_getD,hi,hj]
theorem zgh {E:List (α×Nat)} {i j:Nat} (hi:i<E.length) (hj:j<E.length):(gs E i j).Perm E:=by
 rw [zpr hi hj];exact List.set_set_perm hi hj
theorem UpR.perm {E R:List (α×Nat)} {j:Nat} (h:UpR E j R):j<E.length→R.Perm E:=by
 induction h with
 | stop h=>intro _;exact List.Perm.refl _
 | @step E R j h0 h hr ih=>
  intro hj
  exact (ih (by rw [zby];omega)).trans (zgh (E:=E) (i:=(j - 1)/2) (j:=j) (by omega) hj)
theorem ze6 {m i:Nat} {E:List (α×Nat)} (h:2*i+1<m):i<zaM m E i∧zaM m E i<m:=by
 unfold zaM
 split<;>omega
theorem DnR.perm {m:Nat} {E R:List (α×Nat)} {i:Nat} (h:DnR m E i R):m≤E.length→R.Perm E:=by
 induction h with
 | stop h=>intro _;exact List.Perm.refl _
 | @step E R i h0 h hr ih=>
  intro hm
  have hl:=ze6 (E:=E) h0
  exact (ih (by rw [zby];exact hm)).trans (zgh (E:=E) (i:=i) (j:=zaM m E i) (by omega) (by omega))
theorem DnR.keep {m:Nat} {E R:List (α×Nat)} {i:Nat} (h:DnR m E i R):∀k,m≤k→R[k]? =E[k]? :=by
 induction h with
 | stop h=>intro k _;rfl
 | @step E R i h0 h hr ih=>
  intro k hk
  have hl:=ze6 (E:=E) h0
  rw [ih k hk]
  unfold gs
  rw [List.getElem?_set_ne (by omega),List.getElem?_set_ne (by omega)]
theorem PopR.perm {F G:List (α×Nat)} {x:α×Nat} (h:PopR F x G) (h0:0<F.length):(x::G).Perm F:=by
 obtain ⟨h1,D,h2,rfl⟩:=h
 obtain ⟨n,hn⟩:∃n,F.length=n+1:=⟨F.length - 1,by omega⟩
 rw [show F.length - 1=n by omega] at h2 ⊢
 have hp:D.Perm F:=(h2.perm (by rw [zby];omega)).trans (zgh (E:=F) (i:=0) (j:=n) (by omega) (by omega))
 have hx:F[0]'h0=x:=by rw [List.getElem?_eq_getElem h0] at h1;injection h1
 have hD:D[n]? =some x:=by
  rw [h2.keep n (Nat.le_refl _),zpr h0 (by omega),List.getElem?_set_self (by simp;omega),hx]
 have hDl:D.length=n+1:=by rw [h2.len,zby,hn]
 have e:D=D.take n++[x]:=by
  obtain ⟨hlt,e2⟩:=List.getElem?_eq_some_iff.1 hD
  rw [←e2,←List.take_succ_eq_append_getElem hlt,List.take_of_length_le (by omega)]
 have h3:(D.take n++[x]).Perm F:=by rw [←e];exact hp
 exact (List.perm_append_singleton x _).symm.trans h3
theorem PutR.perm {F l G:List (α×Nat)} (h:PutR F l G):G.Perm (F++l):=by
 induction h with
 | nil=>simp
 | @cons F G H l x h hr ih=>
  have h1:G.Perm (F++[x]):=UpR.perm h (by simp)
  refine ih.trans ?_
  have:=h1.append_right l
  rwa [List.append_assoc] at this
theorem TakeR.perm {F P E:List (α×Nat)} (h:TakeR F P E):(P++E).Perm F:=by
 induction h with
 | nil=>exact List.Perm.refl _
 | cons h0 h hr ih=>exact (ih.cons _).trans (h.perm h0)
theorem OrdR.perm {X P E:List (α×Nat)} (h:OrdR X P E):(P++E).Perm X:=by
 obtain ⟨F,h1,h2,-⟩:=h
 exact h2.perm.trans (by simpa using h1.perm)
end
structure PairIvD (w wr:World) (base B:Nat) (L F0:List (Nat×Nat)) (v sv:Value) (E P:List (Nat×Nat)) (rs:List Nat):Prop where
 heap:Qu wr base B sv E
 perm:(P++E).Perm L
 take:TakeR F0 P E
 even:P.length=2*rs.length
 own:wr.ownsRow base 260 1 v rs.length (rs.map ptrV)
 nodes:Nodes wr (fun i=>base≤i∧sv.ownBlock≠some i∧v.ownBlock≠some i) P rs
 apart:∀k,v.ownBlock=some k→sv.ownBlock≠some k
 below:Below w.heap.size w wr
structure PairMdD (w wr:World) (base B:Nat) (L F0:List (Nat×Nat)) (v sv:Value) (E P:List (Nat×Nat)) (rs:List Nat) (x y:Nat×Nat):Prop where
 heap:Qu wr base B sv E
 perm:(P++[x,y]++E).Perm L
 take:TakeR F0 (P++[x,y]) E
 even:P.length=2*rs.length
 own:wr.ownsRow base 260 1 v rs.length (rs.map ptrV)
 nodes:Nodes wr (fun i=>base≤i∧sv.ownBlock≠some i∧v.ownBlock≠some i) P rs
 apart:∀k,v.ownBlock=some k→sv.ownBlock≠some k
 below:Below w.heap.size w wr
theorem PairIvD.mid {w wr w1 w2:World} {B:Nat} {L F0:List (Nat×Nat)} {v sv sv1:Value} {E E1 E2 P:List (Nat×Nat)} {rs:List Nat} {x y:Nat×Nat} (h:PairIvD w wr (w.heap.size+1) B L F0 v sv E P rs) (hB:B=w.heap.size) (hx0:0<E.length) (hxr:PopR E x E1) (hy0:0<E1.length) (hyr:PopR E1 y E2)
  (ht1:Turns (fun b=>b=B∨sv.ownBlock=some b) wr w1) (hs1:∀k,sv1.ownBlock=some k→sv.ownBlock=some k∨wr.heap.size≤k) (k:QuTd (w.heap.size+1) B sv1 E2 w1 w2):∃sv2,PairMdD w w2 (w.heap.size+1) B L F0 v sv2 E2 P rs x y:=by
 have hx:=hxr.perm hx0
 have hy:=hyr.perm hy0
 obtain ⟨sv2,k1,k2,k3⟩:=QuTd.step ht1 hs1 k
 have hown:=h.heap.own.lt
 have hn:∀i,w.heap.size+1≤i→i<wr.heap.size→sv.ownBlock≠some i→w2.heap[i]? =wr.heap[i]?∧sv2.ownBlock≠some i:=fun i h1 h2 h3=>⟨k2.block i h2 (fun e=>by
  rcases e with e | e
  ·omega
  ·exact h3 e),fun e=>by
  rcases k3 i e with e | e
  ·exact h3 e
  ·omega⟩
 refine ⟨sv2,k1,?_,?_,h.even,?_,?_,?_,?_⟩
 ·refine List.Perm.trans ?_ h.perm
  rw [List.append_assoc]
  exact (((hy.cons x).trans hx)).append_left P
 ·have h5:=(h.take.snoc hx0 hxr).snoc hy0 hyr
  rwa [List.append_assoc] at h5
 ·exact k2.owns h.own (fun i hi e=>by
   have:=h.own.lt i hi
   rcases e with e | e
   ·omega
   ·exact h.apart i hi e)
 ·exact h.nodes.keep (fun i hi hN=>by
   obtain ⟨q1,q2⟩:=hn i hN.1 hi hN.2.1
   exact ⟨q1,hN.1,q2,hN.2.2⟩)
 ·intro k hk
  have:=h.own.lt k hk
  exact (hn k this.1 this.2 (h.apart k hk)).2
 ·exact h.below.trans (k2.below h.below.size (fun i e=>by
   rcases e with e | e
   ·omega
   ·have:=hown i e;omega))
theorem PairMdD.bound {w w5 w6:World} {B:Nat} {L F0:List (Nat×Nat)} {pv:Option Addr} {cv g5 cap5:Nat} {sv:Value} {E P:List (Nat×Nat)} {rs:List Nat} {x y:Nat×Nat} (h:PairMdD w w5 (w.heap.size+1) B L F0 (.slice pv rs.length cv) sv E P rs x y) (hB:B=w.heap.size) (hL:∀e∈L,e.1<w.heap.size) (hsz:w.heap.size+1≤w5.heap.size)
  (ho:w6.ownsRow (w.heap.size+1) 260 1 (.slice (some ⟨g5,0,none⟩) (rs.length+1) cap5) (rs.length+1) (rs.map ptrV++[ptrV (w5.heap.size+1)]))
  (hg:(((w5.alloc (.cells #[ptrV x.1,ptrV y.1] 260)).alloc (.cells #[.int .i64 ((x.2:Int)+(y.2:Int)),.int .i64 0,.slice (some ⟨w5.heap.size,0,none⟩) 2 2] 259)).alloc (.cells #[ptrV (w5.heap.size+1)] 260)).drew.grownBy w6 (Value.slice pv rs.length cv).ownBlock)
  (hpl:(Value.slice pv rs.length cv).ownBlock=some g5∨g5=w5.heap.size+3):
  PairIvD w w6 (w.heap.size+1) B L F0 (.slice (some ⟨g5,0,none⟩) (rs.length+1) cap5) sv E (P++[x,y]) (rs++[w5.heap.size+1]):=by
 have hb3:Below w5.heap.size w5 (((w5.alloc (.cells #[ptrV x.1,ptrV y.1] 260)).alloc (.cells #[.int .i64 ((x.2:Int)+(y.2:Int)),.int .i64 0,.slice (some ⟨w5.heap.size,0,none⟩) 2 2] 259)).alloc (.cells #[ptrV (w5.heap.size+1)] 260)).drew:=(Below.al3 w5 _ _ _).drew
 have hg0:=Turns.of_grown (T:=fun i=>(Value.slice pv rs.length cv).ownBlock=some i) hg (fun _ h=>h)
 have hlt:=fun k hk=>h.own.lt k hk
 have ht:Turns (fun i=>(Value.slice pv rs.length cv).ownBlock=some i) w5 w6:=(Turns.of_below' (T:=fun i=>(Value.slice pv rs.length cv).ownBlock=some i) hb3).trans hg0
 have hg5:∀i,i<w5.heap.size+3→(Value.slice pv rs.length cv).ownBlock≠some i→(Value.slice (some ⟨g5,0,none⟩) (rs.length+1) cap5).ownBlock≠some i:=fun i h1 h2 e=>by
  cases e
  rcases hpl with h | h
  ·exact h2 h
  ·have h1':g5<w5.heap.size+3:=h1
   omega
 have e0:w6.heap[w5.heap.size]? =some (.cells #[ptrV x.1,ptrV y.1] 260):=by
  refine (hg0.block w5.heap.size (by simp;omega) (fun e=>by have:=(hlt _ e).2;omega)).trans ?_
  exact (zag [.cells #[ptrV x.1,ptrV y.1] 260,.cells #[.int .i64 ((x.2:Int)+(y.2:Int)),.int .i64 0,.slice (some ⟨w5.heap.size,0,none⟩) 2 2] 259,.cells #[ptrV (w5.heap.size+1)] 260] w5 0 _).2 rfl
 have e1:w6.heap[w5.heap.size+1]? =some (.cells #[.int .i64 ((x.2:Int)+(y.2:Int)),.int .i64 0,.slice (some ⟨w5.heap.size,0,none⟩) 2 2] 259):=by
  refine (hg0.block (w5.heap.size+1) (by simp) (fun e=>by have:=(hlt _ e).2;omega)).trans ?_
  exact (zag [.cells #[ptrV x.1,ptrV y.1] 260,.cells #[.int .i64 ((x.2:Int)+(y.2:Int)),.int .i64 0,.slice (some ⟨w5.heap.size,0,none⟩) 2 2] 259,.cells #[ptrV (w5.heap.size+1)] 260] w5 1 _).2 rfl
 have hso:=h.heap.own.lt
 have hvn:∀i,w5.heap.size≤i→(Value.slice pv rs.length cv).ownBlock≠some i:=fun i hi e=>by have:=(hlt i e).2;omega
 have hsn:∀i,w5.heap.size≤i→sv.ownBlock≠some i:=fun i hi e=>by have:=(hso i e).2;omega
 refine ⟨?_,h.perm,h.take,?_,?_,?_,?_,?_⟩
 ·have f3:=h.heap
  refine ⟨f3.lt,(ht.block B f3.size (fun e=>by have:=(hlt _ e).1;omega)).trans f3.box,ht.owns f3.own (fun k hk e=>h.apart k e hk),fun e he=>?_⟩
  obtain ⟨k1,k2,k3⟩:=f3.keys e he
  refine ⟨k1,k2,?_⟩
  refine ht.cell k3 (fun hv=>?_)
  have h1:=(hlt _ hv).1
  have h2:=hL e (h.perm.mem_iff.1 (List.mem_append_right _ he))
  simp only at h1
  omega
 ·rw [List.length_append,List.length_append,h.even]
  simp
  omega
 ·rw [List.length_append,List.map_append]
  exact ho
 ·refine Nodes.snoc ⟨w5.heap.size,⟨by omega,hsn _ (by omega),hg5 _ (by omega) (hvn _ (by omega))⟩,⟨by omega,hsn _ (by omega),hg5 _ (by omega) (hvn _ (by omega))⟩,e1,e0⟩ (h.nodes.keep (fun i hi hN=>⟨ht.block i hi hN.2.2,hN.1,hN.2.1,hg5 i (by omega) hN.2.2⟩))
 ·intro k hk e
  rcases hpl with hp | hp
  ·cases hk
   exact h.apart _ hp e
  ·cases hk
   exact hsn _ (by simp only;omega) e
 ·exact h.below.trans (ht.below h.below.size (fun i e=>by have:=(hlt i e).1;omega))
set_option maxRecDepth 100000 in
set_option maxHeartbeats 4000000 in
theorem zl7 (l b:List (Nat×Nat)) (vl vb:Value) (w:World) (hvl:Row zbG 1 w vl (l.map Prod.fst)) (hvb:Row zbG 1 w vb (b.map Prod.fst))
  (hl:∀e∈l++b,w.cell? ⟨e.1,0,none⟩=some (.int .i64 (e.2:Int))∧e.2≤1152921504606846976) (hlen:(l++b).length≤65536):
  Calls Tryz.prog 210 #[vl,vb] w fun e w'=> ∃v P E rs,e= .returned v∧OrdR (l++b) P E∧(P++E).Perm (l++b)∧P.length=2*rs.length∧E.length≤1∧
   w'.ownsRow w.heap.size 260 1 v rs.length (rs.map ptrV)∧Nodes w' (fun i=>w.heap.size≤i) P rs∧Below w.heap.size w w':=by
 obtain ⟨i0,hi0,hz0,hz1,hz2⟩:=info_parts zfo
 have Hl:=Lib.hid hl
 have hll:∀e∈l++b,e.1<w.heap.size:=fun e he=>World.block_lt_of_cell? _ _ (hl e he).1
 have hq1:Qu (w.alloc (.cells #[.slice none 0 0] 293)) (w.heap.size+1) w.heap.size (.slice none 0 0) []:=
  ⟨by omega,by rw [World.alloc_heap_new],World.ownsRow_nil _ _ _ _,fun e he=>by cases he⟩
 have hbw:=Below.al1 w (.cells #[.slice none 0 0] 293)
 have hblk:∀v:Value,∀xs:List Nat,Row zbG 1 w v xs→∀k,v.ownBlock=some k→k<w.heap.size:=fun v xs hv k hk=>by
  obtain ⟨p,c,rfl,h1,h2,h3⟩:=hv
  rcases h3 with ⟨rfl,-⟩ | ⟨bb,off,rfl,hbb,-⟩
  ·cases hk
  ·cases hk;exact hbb
 have Hq1:=Lib.hid hq1
 have Hbw:=Lib.hid hbw
 have Hvl:=Lib.hid (And.intro (hvl.below hbw) (hblk _ _ hvl))
 have Hvb:=Lib.hid (And.intro (hvb.below hbw) (hblk _ _ hvb))
 have Hll:=Lib.hid hll
 obtain ⟨pl,cl,rfl,-,-,-⟩:=hvl
 obtain ⟨pb,cb,rfl,-,-,-⟩:=hvb
 rw [List.length_append] at hlen
 rw [List.length_map] at Hvl Hvb
 rw [List.length_map,List.length_map]
 clear hl hll hq1 hbw hblk
 go_enter Tryz.func210,Tryz.ntmps210
 go_wp2_with fail
 refine Calls.mono (zjR (w.heap.size+1) w.heap.size _ [] l _ _ Hq1.out Hvl.out.1 (fun k hk=>⟨by have:=Hvl.out.2 k hk;omega,fun e=>by cases e⟩) (fun e he=>⟨by have:=Hll.out e (List.mem_append_left _ he);omega,(fun h=>by cases h),cell_later Hbw.out (Hl.out e (List.mem_append_left _ he)).1⟩) (by simp;omega) (by simp)) ?_
 rintro e w1 ⟨rfl,F1,hf1,sv1,hp1,ht1,hs1⟩
 have HF1:=Lib.hid hf1
 have hF1l:=hf1.len
 simp only [List.length_nil,Nat.zero_add] at hF1l
 have HF1l:=Lib.hid hF1l
 have hown1:=hp1.own.lt
 clear hf1 hF1l
 have hb01:Below w.heap.size w w1:=Hbw.out.trans (ht1.below (by simp) (fun i hi=>by
  rcases hi with hi | hi
  ·omega
  ·cases hi))
 have Hp1:=Lib.hid hp1
 have H01:=Lib.hid hb01
 have Hs1:=Lib.hid hown1
 have Hvb1:Hid (Row zbG 1 w1 (.slice pb b.length cb) (b.map Prod.fst)):=Lib.hid (Hvb.out.1.same (fun k hk=>ht1.block k (by have:=Hvb.out.2 k hk;simp;omega) (fun h=>by
  rcases h with h | h
  ·have:=Hvb.out.2 k hk;omega
  ·cases h)))
 have hbs1:w.heap.size+1≤w1.heap.size:=Nat.le_trans (by simp) ht1.size
 clear hp1 ht1 hs1 hown1 hb01
 go_wp2_with fail
 refine Calls.mono (zjR (w.heap.size+1) w.heap.size sv1 F1 b _ _ Hp1.out Hvb1.out (fun k hk=>⟨by have:=Hvb.out.2 k hk;omega,fun e=>by
  have h1:=Hvb.out.2 k hk
  have h2:=Hs1.out k e
  omega⟩) (fun e he=>⟨by have:=Hll.out e (List.mem_append_right _ he);omega,(fun h=>by
  have h1:=Hll.out e (List.mem_append_right _ he)
  have h2:=Hs1.out _ h
  omega),cell_later H01.out (Hl.out e (List.mem_append_right _ he)).1⟩) (by rw [HF1l.out];exact hlen) hbs1) ?_
 rintro e w2 ⟨rfl,F0,hf2,sv2,hp2,ht2,hs2⟩
 have hf0:=HF1.out.append hf2
 have HF0:=Lib.hid hf0
 have hfp:=hf0.perm
 rw [List.nil_append] at hfp
 have hb02:Below w.heap.size w w2:=H01.out.trans (ht2.below H01.out.size (fun i hi=>by
  rcases hi with hi | hi
  ·omega
  ·have:=Hs1.out i hi;omega))
 have Hi:Hid (PairIvD w w2 (w.heap.size+1) w.heap.size (l++b) F0 (.slice none 0 0) sv2 F0 [] []):=Lib.hid ⟨hp2,hfp,.nil,rfl,World.ownsRow_nil _ _ _ _,trivial,(fun k hk=>by cases hk),hb02⟩
 have hbs2:=Nat.le_trans hbs1 ht2.size
 clear hp2 ht2 hs2 hb02 hf2 hf0 hfp HF1 HF1l Hp1 H01 Hs1 Hvb1 hbs1 Hq1 Hbw Hvl Hvb
 go_wp2
 go_loopw [6] (fun v wr=> ∃(sv:Value) (E P:List (Nat×Nat)) (rs:List Nat),Hid (PairIvD w wr (w.heap.size+1) w.heap.size (l++b) F0 v sv E P rs)∧Hid (w.heap.size+1≤wr.heap.size)) (fun v _=>(l++b).length - 2*lenP v)
 case atStart=>exact ⟨sv2,F0,[],[],Hi,Lib.hid hbs2⟩
 case round=>
  obtain ⟨sv,E,P,rs,HI,Hsz⟩:=hrel
  have hc0:=HI.out.heap.c0
  obtain ⟨ps,cs,rfl⟩:=zac HI.out.heap.own
  by_cases hE:1<E.length
  ·have d1:decide (1<E.length)=true:=by simpa using hE
   go_wp2_with fail
   refine Calls.mono (zdO _ _ _ _) ?_
   rintro e w3 ⟨rfl,rfl⟩
   go_wp2_with fail
   refine Calls.mono (zhJ _ _ _ E w3 HI.out.heap (by omega) (by have:=HI.out.perm.length_eq;simp at this;omega)) ?_
   rintro e w4 ⟨x,E1,rfl,hx1,sv1,hh1,ht1,hs1⟩
   have Hx:=Lib.hid (And.intro hx1 (And.intro (show 0<E.length by omega) (And.intro ht1 hs1)))
   have Hh1:=Lib.hid hh1
   have hl1:=hx1.len
   have HE1:Hid (0<E1.length∧E1.length≤65536):=Lib.hid (by
    have:=HI.out.perm.length_eq
    simp at this
    omega)
   clear hx1 ht1 hs1 hh1 hl1 hc0
   go_wp2_with fail
   refine Calls.mono (zhJ _ _ _ E1 w4 Hh1.out HE1.out.1 HE1.out.2) ?_
   rintro e w5 ⟨y,E2,rfl,hy1,hto⟩
   obtain ⟨sv2,hmid⟩:=HI.out.mid rfl Hx.out.2.1 Hx.out.1 HE1.out.1 hy1 Hx.out.2.2.1 Hx.out.2.2.2 hto
   have Hm:=Lib.hid hmid
   have hbw5:=Nat.le_trans Hsz.out (Nat.le_trans Hx.out.2.2.1.size (by obtain ⟨_,_,h,_⟩:=hto;exact h.size))
   obtain ⟨hcx,hxb⟩:=Hl.out x (hmid.perm.mem_iff.1 (by simp))
   obtain ⟨hcy,hyb⟩:=Hl.out y (hmid.perm.mem_iff.1 (by simp))
   have hcx5:=cell_later hmid.below hcx
   have hcy5:=cell_later hmid.below hcy
   obtain ⟨bx,hbx⟩:∃bx,x.1=bx:=⟨_,rfl⟩
   obtain ⟨by',hby⟩:∃by',y.1=by':=⟨_,rfl⟩
   obtain ⟨cx,hcx0⟩:∃cx,x.2=cx:=⟨_,rfl⟩
   obtain ⟨cy,hcy0⟩:∃cy,y.2=cy:=⟨_,rfl⟩
   rw [hbx,hcx0] at hcx5
   rw [hby,hcy0] at hcy5
   rw [hcx0] at hxb
   rw [hcy0] at hyb
   have Hxy:=Lib.hid (And.intro hbx (And.intro hby (And.intro hcx0 hcy0)))
   obtain ⟨pv,cv,rfl⟩:=zac hmid.own
   have Hown:=Lib.hid hmid.own
   rw [hbx,hby]
   unfold ptrV
   clear hmid hy1 hto hcx hcy hbx hby hcx0 hcy0 HE1 Hh1 Hx
   go_upto_region 7 with (fail)
   have hrl:rs.length≤65536:=by
    have h1:=Hm.out.perm.length_eq
    have h2:=Hm.out.even
    simp at h1
    omega
   have q1:=fun o=>cell_later (Below.al1 w5 o) hcx5
   have q2:=fun o=>cell_later (Below.al1 w5 o) hcy5
   have hw:IntKind.i64.wrap ((cx:Int)+(cy:Int))=(cx:Int)+(cy:Int):=IntWalk.i64_in _ (by omega)
   go_region_law (refine step_append_lies _ (by rfl) (.tmp 18) (.tmp 33) 256 (by rfl) (w.heap.size+1) 260 i0 _ 1 8 Tryz.underlying256 hi0 hz0 hz1 hz2 rfl (by decide) (.slice pv rs.length cv) rs.length (rs.map ptrV) (by rfl) (zks (((Hown.out.alloc _).alloc _).alloc _)) _ 1 1 [ptrV (w5.heap.size+1)] (by rfl) rfl (fun j u hu=>zkS _ _ [ptrV (w5.heap.size+1)] _ (by simp) j u hu) (by intro u hu;simp at hu;subst hu;rfl) (by decide) (by simp only [maxLen];omega) (by omega) (by simp;omega) (w5.heap.size+3) (by simp) ?_;intro g5 cap5 w6 hown6 hgr6 hpl6 hlt6)
   all_goals
    have Hnext:Hid (PairIvD w w6 (w.heap.size+1) w.heap.size (l++b) F0 (.slice (some ⟨g5,0,none⟩) (rs.length+1) cap5) sv2 E2 (P++[x,y]) (rs++[w5.heap.size+1])):=Lib.hid (by
     obtain ⟨e1,e2,e3,e4⟩:=Hxy.out
     refine Hm.out.bound rfl Hll.out hbw5 hown6 ?_ hpl6
     rw [e1,e2,e3,e4]
     exact hgr6)
    have Hs6:Hid (w.heap.size+1≤w6.heap.size):=Lib.hid (Nat.le_trans hbw5 (Nat.le_trans (by simp;omega) hgr6.size))
    have Hms:Hid (2*(rs.length+1)≤(l++b).length):=Lib.hid (by
     have h1:=Hm.out.perm.length_eq
     have h2:=Hm.out.even
     simp at h1 ⊢
     omega)
    clear hown6 hgr6 hpl6 hlt6 q1 q2 Hown hcx5 hcy5
    go_wp2
    go_roundw
    case rel=>(repeat apply Exists.intro);exact ⟨⟨sv2,E2,P++[x,y],rs++[w5.heap.size+1],Hnext,Hs6⟩,rfl⟩
    case measure=>
     have:=Hms.out
     show (l++b).length - 2*(rs.length+1)<(l++b).length - 2*rs.length
     omega
  ·have d1:decide (1<E.length)=false:=by simpa using hE
   go_wp2_with fail
   refine Calls.mono (zdO _ _ _ _) ?_
   rintro e w3 ⟨rfl,rfl⟩
   go_wp2
   go_ret
   have hown:=HI.out.own
   exact ⟨_,P,E,rs,rfl,⟨F0,HF0.out,HI.out.take,by omega,_,HI.out.even⟩,HI.out.perm,HI.out.even,by omega,zeA hown (by omega),HI.out.nodes.keep (fun i _ hN=>⟨rfl,by have:=hN.1;omega⟩),HI.out.below⟩
end
section
open Go.RowKit
theorem UpR.hp {E R:List (Nat×Nat)} {j:Nat} (h:UpR E j R):j<E.length→HpUp (kk E) E.length j→Hp (kk R) R.length:=by
 induction h with
 | @stop E j h=>
  intro _ hu
  refine hu.done (h.imp id fun h=>?_)
  have h:¬kk E j<kk E ((j - 1)/2):=h
  omega
 | @step E R j h0 h hr ih=>
  intro hj hu
  refine ih (by rw [zby];omega) ?_
  rw [zby]
  exact HpUp.step rfl hu h0 hj h
theorem zgZ {m i:Nat} {E:List (Nat×Nat)} (_h:2*i+1<m):∀k,0<k→k<m→(k - 1)/2=i→kk E (zaM m E i)≤kk E k:=fun k k0 kn hk=>by
 have e:∀k,gk E k=kk E k:=fun _=>rfl
 have hk2:k=2*i+1∨k=2*i+2:=by omega
 unfold zaM
 rw [e,e]
 split
 ·rename_i h1
  rcases hk2 with rfl | rfl
  ·omega
  ·exact Nat.le_refl _
 ·rename_i h1
  rcases hk2 with rfl | rfl
  ·exact Nat.le_refl _
  ·have:¬kk E (2*i+2)<kk E (2*i+1):=fun h2=>h1 ⟨kn,h2⟩
   omega
theorem DnR.hp {m:Nat} {E R:List (Nat×Nat)} {i:Nat} (h:DnR m E i R):m≤E.length→HpDn (kk E) m i→Hp (kk R) m:=by
 induction h with
 | @stop E i h=>
  intro hm hd
  refine hd.done (fun k k0 kn hk=>?_)
  by_cases h2:2*i+1<m
  ·have h3:=zgZ (E:=E) h2 k k0 kn hk
   have h4:¬kk E (zaM m E i)<kk E i:=h.resolve_left (by omega)
   omega
  ·omega
 | @step E R i h0 h hr ih=>
  intro hm hd
  have hl:=ze6 (E:=E) h0
  have hpar:(zaM m E i - 1)/2=i:=by unfold zaM;split<;>omega
  exact ih (by rw [zby];exact hm) (HpDn.step hm hd hpar (by omega) hl.2 (zgZ h0) h)
theorem PushR.hp {F G:List (Nat×Nat)} {x:Nat×Nat} (h:PushR F x G) (hf:Hp (kk F) F.length):Hp (kk G) G.length:=by
 refine UpR.hp h (by simp) ?_
 have:=HpUp.push x hf
 rw [List.length_append]
 exact this
theorem PutR.hp {F l G:List (Nat×Nat)} (h:PutR F l G):Hp (kk F) F.length→Hp (kk G) G.length:=by
 induction h with
 | nil=>exact id
 | cons h hr ih=>intro hf;exact ih (PushR.hp h hf)
theorem PopR.hp {F G:List (Nat×Nat)} {x:Nat×Nat} (h:PopR F x G) (h0:0<F.length) (hf:Hp (kk F) F.length):(∀y∈F,x.2≤y.2)∧Hp (kk G) G.length:=by
 have hl:=h.len
 obtain ⟨h1,D,h2,rfl⟩:=h
 obtain ⟨n,hn⟩:∃n,F.length=n+1:=⟨F.length - 1,by omega⟩
 rw [show F.length - 1=n by omega] at h2 hl ⊢
 have hx:F[0]'h0=x:=by rw [List.getElem?_eq_getElem h0] at h1;injection h1
 refine ⟨fun y hy=>?_,?_⟩
 ·obtain ⟨k,hk,rfl⟩:=List.getElem_of_mem hy
  have:=hf.least k hk
  rw [zaN hk,zaN h0,hx] at this
  exact this
 ·have h3:=h2.hp (by rw [zby];omega) (HpDn.pop hn (by rw [←hn];exact hf))
  rw [hl]
  exact h3.congr (fun k hk=>zqR D n k hk)
theorem TakeR.up {F P E:List (Nat×Nat)} (h:TakeR F P E):Hp (kk F) F.length→P.Pairwise (fun a b=>a.2≤b.2)∧∀p∈P,∀e∈E,p.2≤e.2:=by
 induction h with
 | nil=>intro _;exact ⟨List.Pairwise.nil,fun p hp=>by cases hp⟩
 | @cons F G E P x h0 h hr ih=>
  intro hf
  obtain ⟨h1,h2⟩:=h.hp h0 hf
  obtain ⟨i1,i2⟩:=ih h2
  have hm:∀y∈P++E,x.2≤y.2:=fun y hy=>h1 y ((h.perm h0).mem_iff.1 (List.mem_cons_of_mem _ (hr.perm.mem_iff.1 hy)))
  refine ⟨List.pairwise_cons.2 ⟨fun y hy=>hm y (List.mem_append_left _ hy),i1⟩,fun p hp e he=>?_⟩
  rcases List.mem_cons.1 hp with rfl | hp
  ·exact hm e (List.mem_append_right _ he)
  ·exact i2 p hp e he
theorem OrdR.up {X P E:List (Nat×Nat)} (h:OrdR X P E):Up ((P++E).map Prod.snd):=by
 obtain ⟨F,h1,h2,h3,-⟩:=h
 obtain ⟨u1,u2⟩:=h2.up (h1.hp (fun k h0 hk=>by simp at hk))
 rw [List.map_append]
 unfold Up
 rw [List.pairwise_append]
 refine ⟨List.pairwise_map.2 u1,?_,fun a ha c hc=>?_⟩
 ·match E,h3 with
  | [],_=>exact List.Pairwise.nil
  | [_],_=>simp
  | _::_::_,h3=>simp at h3
 ·obtain ⟨x,hx,rfl⟩:=List.mem_map.1 ha
  obtain ⟨y,hy,rfl⟩:=List.mem_map.1 hc
  exact u2 x hx y hy
instance:Inhabited Tr:=⟨.leaf 0 0⟩
def tk2 (t:Tr):Tr×Nat:=(t,t.cost)
def OrdT (X Q:List Tr):Prop:= ∃P E,OrdR (X.map tk2) P E∧Q=(P++E).map Prod.fst
theorem OrdT.det {X Q Q':List Tr} (h:OrdT X Q) (k:OrdT X Q'):Q=Q':=by
 obtain ⟨P,E,h1,rfl⟩:=h
 obtain ⟨P',E',k1,rfl⟩:=k
 obtain ⟨rfl,rfl⟩:=h1.det k1
 rfl
def RowD (ls:List Tr):Nat→List Tr→Prop
 | 0,P=>P=[]
 | j+1,P=> ∃Q,RowD ls j Q∧OrdT (ls++pairT Q) P
theorem RowD.det {ls:List Tr}:∀{j:Nat} {P P':List Tr},RowD ls j P→RowD ls j P'→P=P'
 | 0,_,_,h,k=>h.trans k.symm
 | j+1,_,_,⟨Q,hQ,h⟩,⟨Q',hQ',k⟩=>by
  obtain rfl:=RowD.det hQ hQ'
  exact h.det k
end
section
open Go.RowKit
theorem OrdT.perm {X Q:List Tr} (h:OrdT X Q):Q.Perm X:=by
 obtain ⟨P,E,h1,rfl⟩:=h
 have:=h1.perm.map Prod.fst
 rw [List.map_map] at this
 have e:(Prod.fst ∘ tk2)=id:=rfl
 rwa [e,List.map_id] at this
theorem OrdT.up {X Q:List Tr} (h:OrdT X Q):Up (Q.map Tr.cost):=by
 obtain ⟨P,E,h1,rfl⟩:=h
 have h2:Up (((P.map (rl (fun _=>(0:Nat))))++(E.map (rl (fun _=>(0:Nat))))).map Prod.snd):=(h1.map (f:=fun _=>(0:Nat)) rfl).up
 have e:((P.map (rl (fun _:Tr=>(0:Nat))))++(E.map (rl (fun _=>(0:Nat))))).map Prod.snd=((P++E).map Prod.fst).map Tr.cost:=by
  rw [←List.map_append,List.map_map,List.map_map]
  refine List.map_congr_left (fun p hp=>?_)
  obtain ⟨t,-,rfl⟩:=List.mem_map.1 (h1.perm.mem_iff.1 hp)
  rfl
 rwa [e] at h2
theorem RowD.rowT {ls:List Tr}:∀{j:Nat} {P:List Tr},RowD ls j P→RowT ls j P
 | 0,_,h=>h
 | _+1,_,⟨Q,hQ,h⟩=>⟨Q,hQ.rowT,h.up,h.perm⟩
def dk (e:Nat×Tr):(Nat×Tr)×Nat:=(e,e.2.cost)
theorem zm9 {L:List (Nat×Tr)} {P E:List (Nat×Nat)} (h:OrdR (L.map ckey) P E):∃Q:List (Nat×Tr),Q.Perm L∧Q.map ckey=P++E∧OrdT (L.map Prod.snd) (Q.map Prod.snd):=by
 have e0:L.map ckey=(L.map dk).map (rl Prod.fst):=by rw [List.map_map];rfl
 rw [e0] at h
 obtain ⟨P',E',h1,rfl,rfl⟩:=h.lift (f:=(Prod.fst:Nat×Tr→Nat)) rfl
 have hm:∀p∈P'++E',p=dk p.1:=fun p hp=>by
  obtain ⟨t,-,rfl⟩:=List.mem_map.1 (h1.perm.mem_iff.1 hp)
  rfl
 refine ⟨(P'++E').map Prod.fst,?_,?_,P'.map (rl Prod.snd),E'.map (rl Prod.snd),?_,?_⟩
 ·have:=h1.perm.map Prod.fst
  rw [List.map_map] at this
  have e:(Prod.fst ∘ dk)=id:=rfl
  rwa [e,List.map_id] at this
 ·rw [List.map_map,←List.map_append]
  exact List.map_congr_left (fun p hp=>by
   show ckey p.1=rl Prod.fst p
   rw [hm p hp]
   rfl)
 ·have:=h1.map (f:=(Prod.snd:Nat×Tr→Tr)) rfl
  rw [List.map_map] at this ⊢
  exact this
 ·rw [List.map_map,←List.map_append,List.map_map]
  rfl
set_option maxHeartbeats 1000000 in
theorem zlb (N:Nat→Prop) (l b:List (Nat×Tr)) (vl vb:Value) (w:World) (hN:∀i,w.heap.size≤i→N i) (hvl:Row zbG 1 w vl (l.map Prod.fst)) (hvb:Row zbG 1 w vb (b.map Prod.fst))
  (hl:∀e∈l++b,TrAt w N e.1 e.2∧e.2.cost≤1152921504606846976) (hlen:(l++b).length≤65536):
  Calls Tryz.prog 210 #[vl,vb] w fun e w'=> ∃(v:Value) (Q rt:List (Nat×Tr)),e= .returned v∧OrdT ((l++b).map Prod.snd) (Q.map Prod.snd)∧rt.map Prod.snd=pairT (Q.map Prod.snd)∧
   w'.ownsRow w.heap.size 260 1 v rt.length ((rt.map Prod.fst).map ptrV)∧(∀e∈rt,TrAt w' N e.1 e.2)∧Below w.heap.size w w':=by
 have hmap:(l++b).map ckey=l.map ckey++b.map ckey:=List.map_append
 refine Calls.mono (zl7 (l.map ckey) (b.map ckey) vl vb w (by rw [zd5];exact hvl) (by rw [zd5];exact hvb) (fun e he=>?_) (by rw [←hmap,List.length_map];exact hlen)) ?_
 ·rw [←hmap] at he
  obtain ⟨q,hq,rfl⟩:=List.mem_map.1 he
  exact ⟨(hl q hq).1.cost,(hl q hq).2⟩
 ·rintro e w' ⟨v,P,E,rs,rfl,h1,h2,h3,h5,h6,h7,h8⟩
  rw [←hmap] at h1
  obtain ⟨Q,q1,q2,q3⟩:=zm9 h1
  obtain ⟨rt,r1,r2,r3⟩:=zeM (N:=N) hN q2 h5 h7 (fun e he=>(hl e (q1.mem_iff.1 he)).1.below h8)
  refine ⟨v,Q,rt,rfl,q3,r2,?_,r3,h8⟩
  rw [r1]
  have:rt.length=rs.length:=by rw [←r1,List.length_map]
  rw [this];exact h6
def zrw (N:Nat→Prop) (l:List (Nat×Tr)) (L:Nat) (w:World) (e:Ending) (w':World):Prop:=
 ∃(v:Value) (P:List Tr) (rt:List (Nat×Tr)),e= .returned v∧RowD (l.map Prod.snd) L P∧rt.map Prod.snd=pairT P∧Row zbG 1 w' v ((rt.take (l.length - 1)).map Prod.fst)∧
  (∀e∈rt,TrAt w' N e.1 e.2)∧Below w.heap.size w w'∧∀k,v.ownBlock=some k→w.heap.size≤k
structure ChInvD (N:Nat→Prop) (ls:List Tr) (w wr:World) (k:Nat) (v:Value) (P:List Tr) (rt:List (Nat×Tr)):Prop where
 row:RowD ls k P
 eq:rt.map Prod.snd=pairT P
 own:wr.ownsRow w.heap.size 260 1 v rt.length ((rt.map Prod.fst).map ptrV)
 at':∀e∈rt,TrAt wr N e.1 e.2
 below:Below w.heap.size w wr
set_option maxHeartbeats 1000000 in
theorem zih (N:Nat→Prop) (l:List (Nat×Tr)) (vl:Value) (L:Nat) (w:World) (hN:∀i,w.heap.size≤i→N i) (hvl:Row zbG 1 w vl (l.map Prod.fst)) (hl:∀e∈l,TrAt w N e.1 e.2∧e.2.cost≤1099511627776) (hlen:l.length≤320) (hL:L≤15)
  (hfin:∀P,RowT (l.map Prod.snd) L P→l.length - 1≤(pairT P).length):
  Calls Tryz.prog 194 #[vl,.int .i64 (L:Int)] w fun e w'=>zrw N l L w e w':=by
 have Hvl:=Lib.hid hvl
 have Hl:=Lib.hid hl
 have Hfin:=Lib.hid hfin
 have HN:=Lib.hid hN
 obtain ⟨pl,cl,rfl,-,-,-⟩:=hvl
 rw [List.length_map] at Hvl ⊢
 clear hl hfin hN
 go_enter Tryz.func194,Tryz.ntmps194
 go_wp2
 go_loopw [5,7] (fun v kv wr=> ∃(k:Nat) (P:List Tr) (rt:List (Nat×Tr)),kv= .int .i64 (k:Int)∧k≤L∧Hid (ChInvD N (l.map Prod.snd) w wr k v P rt)) (fun _ kv _=>L - (intOf kv).toNat)
 case atStart=>exact ⟨0,[],[],rfl,Nat.zero_le _,Lib.hid ⟨rfl,by simp [pairT],World.ownsRow_nil _ _ _ _,(fun e he=>by cases he),Below.refl _ _⟩⟩
 case round=>
  obtain ⟨k,P,rt,rfl,hk,HI⟩:=hrel
  obtain ⟨pb,cb,rfl⟩:=zac HI.out.own
  by_cases hlt:k<L
  ·have d1:(k:Int)<(L:Int):=by omega
   have hlsl:(l.map Prod.snd).length=l.length:=List.length_map _
   have Hpre:Hid ((∀e∈l++rt,TrAt wr N e.1 e.2∧e.2.cost≤1152921504606846976)∧(l++rt).length≤65536):=Lib.hid (by
    refine ⟨fun e he=>?_,?_⟩
    ·rcases List.mem_append.1 he with he | he
     ·obtain ⟨h1,h2⟩:=Hl.out e he
      exact ⟨h1.below HI.out.below,by omega⟩
     ·refine ⟨HI.out.at' e he,?_⟩
      have hm:e.2∈pairT P:=by rw [←HI.out.eq];exact List.mem_map_of_mem he
      obtain ⟨x,y,e1,hx,hy⟩:=zbl P _ hm
      have hc:∀t∈l.map Prod.snd,t.cost≤1099511627776:=fun t ht=>by
       obtain ⟨q,hq,rfl⟩:=List.mem_map.1 ht
       exact (Hl.out q hq).2
      have h1:=RowT.cost_le hc HI.out.row.rowT x hx
      have h2:=RowT.cost_le hc HI.out.row.rowT y hy
      have h3:2^k≤2^15:=Nat.pow_le_pow_right (by decide) (by omega)
      have h4:(2:Nat)^15=32768:=rfl
      rw [e1]
      simp only [Tr.cost]
      omega
    ·have h1:=RowT.len_le HI.out.row.rowT
     have h2:=congrArg List.length HI.out.eq
     rw [List.length_map,zd7] at h2
     rw [List.length_append]
     omega)
   have Hvl2:=Lib.hid (Hvl.out.below HI.out.below)
   have Hvb2:=Lib.hid (ze4 HI.out.own (by rw [List.length_map]))
   have HN2:Hid (∀i,wr.heap.size≤i→N i):=Lib.hid (fun i hi=>HN.out i (Nat.le_trans HI.out.below.size hi))
   clear hlsl
   go_wp2_with fail
   refine Calls.mono (zlb N l rt _ _ wr HN2.out Hvl2.out Hvb2.out Hpre.out.1 Hpre.out.2) ?_
   rintro e w1 ⟨v,Q,rt',rfl,h1,h3,h4,h5,h6⟩
   have HI1:Hid (ChInvD N (l.map Prod.snd) w w1 (k+1) v (Q.map Prod.snd) rt'):=Lib.hid ⟨⟨P,HI.out.row,by
    have:=h1
    rw [List.map_append,HI.out.eq] at this
    exact this⟩,h3,zeA h4 HI.out.below.size,h5,Below.thn HI.out.below h6⟩
   clear h1 h3 h4 h5 h6
   go_wp2
   go_roundw
   case rel=>exact ⟨k+1,_,rt',by go_num,by omega,HI1⟩
   case measure=>simp [intOf];omega
  ·obtain rfl:k=L:=by omega
   have hcap:rt.length≤cb∧l.length - 1≤rt.length:=by
    refine ⟨?_,?_⟩
    ·rcases HI.out.own.2 with ⟨h0,h1⟩ | ⟨g,cap,cur,hv,-,-,hn,-⟩
     ·omega
     ·injection hv with a1 a2 a3
      omega
    ·have h2:=congrArg List.length HI.out.eq
     have h3:=Hfin.out P HI.out.row.rowT
     rw [List.length_map] at h2
     omega
   have hrow:=ze4 HI.out.own (by rw [List.length_map])
   have Hrow:=Lib.hid (hrow.take (m:=l.length - 1) (by rw [List.length_map];omega))
   clear hrow
   obtain ⟨h1,h2⟩:=hcap
   go_wp2
   ·go_ret
    have e0:l.length - 1=0:=by omega
    have hr:=Hrow.out
    rw [e0] at hr
    exact ⟨_,P,rt,rfl,HI.out.row,HI.out.eq,by rw [e0,List.map_take];exact hr,HI.out.at',HI.out.below,fun k hk=>(HI.out.own.lt k (by cases pb<;>exact hk)).1⟩
   ·go_ret
    exact ⟨_,P,rt,rfl,HI.out.row,HI.out.eq,by rw [List.map_take];exact Hrow.out,HI.out.at',HI.out.below,fun k hk=>(HI.out.own.lt k (by cases pb<;>exact hk)).1⟩
end
end Go.Proofs.YtedakhgaghfogaaGreat
