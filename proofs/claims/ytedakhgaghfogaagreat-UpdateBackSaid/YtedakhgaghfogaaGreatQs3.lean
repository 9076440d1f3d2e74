/- Several texts in one, each with its own head. -/
import Derived.Test.YtedakhgaghfogaaGreatQs2
import Derived.StillTail
namespace Go.Proofs.YtedakhgaghfogaaGreat
section
open Go.RowKit
section
variable {P:Program} {ops:Array Oper} {W:World} {md:Region.Mode}
def zbJ (P:Program) (w:World) (v:Value):Result Next→Prop
 | .ok (.value u) w'=>w'=w∧u=v
 | .ok .skip w'=>w'=w∧v=undef
 | .ok (.enter f args) w'=>w'=w∧Calls P f args w (fun e w''=>e= .returned v∧Below w.heap.size w w'')
 | _=>False
attribute [go_sem] zbJ
def Yields (P:Program) (ops:Array Oper) (W:World) (o:Oper) (v:Value) (a:Act):Prop:=
 (Region.wanted o (yielded ops a.tmps)=true∧∀n:After W,zbJ P n.world v ((execOp a.eval o).run P n.world))∨(Region.wanted o (yielded ops a.tmps)=false∧v=undef)
theorem Yields.of_same {o:Oper} {v:Value} {a a':Act} (hy:Yields P ops W o v a) (he:execOp a'.eval o=execOp a.eval o)
  (hw:Region.wanted o (yielded ops a'.tmps)=Region.wanted o (yielded ops a.tmps)):Yields P ops W o v a':=by
 unfold Yields at *
 rw [he,hw]
 exact hy
def Lq (P:Program) (ops:Array Oper) (W:World) (E:Act→Prop):List Oper→Act→Prop
 | [],a=>E a
 | o::rest,a=> ∃v,Yields P ops W o v a∧Lq P ops W E rest (a.put o.dst v)
theorem zbd {E:Act→Prop} {a:Act} (h:E a):Lq P ops W E [] a:=h
theorem zaK {E:Act→Prop} {a:Act} {o:Oper} {rest:List Oper}
  (h:∀K:Act→Prop,(∀a,Lq P ops W E rest a→K a)→if Region.wanted o (yielded ops a.tmps) then ∃v,(∀n:After W,zbJ P n.world v ((execOp a.eval o).run P n.world))∧K (a.put o.dst v) else K (a.put o.dst undef)):Lq P ops W E (o::rest) a:=by
 have h1:=h _ (fun _ h=>h)
 by_cases hw:Region.wanted o (yielded ops a.tmps)=true
 ·rw [if_pos hw] at h1
  obtain ⟨v,h2,h3⟩:=h1
  exact ⟨v,Or.inl ⟨hw,h2⟩,h3⟩
 ·rw [if_neg hw] at h1
  exact ⟨undef,Or.inr ⟨by simpa using hw,rfl⟩,h1⟩
theorem Lq.mono {E E':Act→Prop} (hE:∀a,E a→E' a):∀(l:List Oper) (a:Act),Lq P ops W E l a→Lq P ops W E' l a
 | [],a,h=>hE a h
 | _::l,_,⟨v,hy,h⟩=>⟨v,hy,Lq.mono hE l _ h⟩
theorem Lq.pick {E:Act→Prop} (j:Oper) (post:List Oper) (hj:∀cs b,j.op≠.select cs b):∀(pre:List Oper) (a:Act),(∀p∈pre,p.apart ops j=true∧∀cs b,p.op≠.select cs b)→Lq P ops W E (pre++j::post) a→
  ∃v,Yields P ops W j v a∧Lq P ops W E (pre++post) (a.put j.dst v)
 | [],_,_,h=>h
 | i::pre,a,hap,h=>by
  obtain ⟨vi,hyi,h'⟩:=h
  obtain ⟨v,hy,hL⟩:=Lq.pick j post hj pre (a.put i.dst vi) (fun p hp=>hap p (by simp [hp])) h'
  obtain ⟨hi,hsi⟩:=hap i (by simp)
  obtain ⟨h1,h2,h3⟩:=Oper.apart_spec hi
  refine ⟨v,hy.of_same (execOp_put j hj a i.dst vi h1).symm (wanted_put j a i.dst vi h1).symm,vi,hyi.of_same (execOp_put i hsi a j.dst v h3) (wanted_put i a j.dst v h3),?_⟩
  rw [←Act.put_comm a vi v h2]
  exact hL
theorem Lq.put {E E':Act→Prop} (j:Oper) (x:Value) (hE:∀a,E a→E' (a.put j.dst x)):∀(l:List Oper) (a:Act),(∀p∈l,p.apart ops j=true∧∀cs b,p.op≠.select cs b)→Lq P ops W E l a→Lq P ops W E' l (a.put j.dst x)
 | [],a,_,h=>hE a h
 | i::l,a,hap,h=>by
  obtain ⟨vi,hyi,h'⟩:=h
  obtain ⟨hi,hsi⟩:=hap i (by simp)
  obtain ⟨h1,h2,h3⟩:=Oper.apart_spec hi
  refine ⟨vi,hyi.of_same (execOp_put i hsi a j.dst x h3) (wanted_put i a j.dst x h3),?_⟩
  rw [←Act.put_comm a vi x h2]
  exact Lq.put j x hE l (a.put i.dst vi) (fun p hp=>hap p (by simp [hp])) h'
def updB (β:Nat→Nat) (i B:Nat):Nat→Nat:=fun k=>if k=i then B else β k
theorem za5 (β:Nat→Nat) (i B:Nat):updB β i B i=B:=by simp [updB]
theorem za2 (β:Nat→Nat) {i k:Nat} (B:Nat) (h:k≠i):updB β i B k=β k:=by simp [updB,h]
theorem zmA (β:Nat→Nat) {i j:Nat} (h:i≠j) (B C:Nat):updB (updB β i B) j C=updB (updB β j C) i B:=by
 funext k
 by_cases h1:k=i
 ·subst h1
  rw [za2 _ _ h,za5,za5]
 ·by_cases h2:k=j
  ·subst h2
   rw [za5,za2 _ _ h1,za5]
  ·rw [za2 _ _ h2,za2 _ _ h1,za2 _ _ h1,za2 _ _ h2]
def La (W:World) (F:(Nat→Nat)→Act→Prop):List (Nat×Oper)→(Nat→Nat)→Act→Prop
 | [],β,a=>F β a
 | o::rest,β,a=> ∀B,W.heap.size≤B→La W F rest (updB β o.1 B) (a.put o.2.dst (.pointer (some ⟨B,0,none⟩)))
theorem La.pick {F:(Nat→Nat)→Act→Prop} (j:Nat×Oper) (post:List (Nat×Oper)):∀(pre:List (Nat×Oper)) (β:Nat→Nat) (a:Act),(∀p∈pre,p.1≠j.1∧∀d,p.2.dst=some d→j.2.dst≠some d)→La W F (pre++j::post) β a→
  ∀B,W.heap.size≤B→La W F (pre++post) (updB β j.1 B) (a.put j.2.dst (.pointer (some ⟨B,0,none⟩)))
 | [],_,_,_,h=>h
 | i::pre,β,a,hap,h=>fun B hB Bi hBi=>by
  have h2:=La.pick j post pre (updB β i.1 Bi) (a.put i.2.dst (.pointer (some ⟨Bi,0,none⟩))) (fun p hp=>hap p (by simp [hp])) (h Bi hBi) B hB
  have hi:=hap i (by simp)
  rw [zmA _ hi.1,Act.put_comm a _ _ hi.2] at h2
  exact h2
theorem zeh {i j:Nat} {listed:Array Bool} (hj:j∈Region.ready md ops listed) (hi:listed.getD i true=false):Region.waitsFor md ops j i=false:=by
 cases h:Region.waitsFor md ops j i
 ·rfl
 ·obtain ⟨oj,hoj,e,he,hb,hon⟩:=Region.waitsFor_spec h
  obtain ⟨_,o,ho,hall⟩:=mem_ready.1 hj
  have:oj=o:=Option.some.inj (hoj.symm.trans ho)
  subst this
  have h2:=hall e he hb
  rw [hon,getD_both hi] at h2
  cases h2
theorem zdm {α:Type} {x:α} {l:List α} (h:x∈l):∃pre post,l=pre++x::post:=List.append_of_mem h
end
end
section
open Go.RowKit
section
variable {P:Program} {ops:Array Oper} {W:World} {md:Region.Mode}
structure Shape (md:Region.Mode) (ops:Array Oper) (N:Nat):Prop where
 sel:∀(j:Nat) (o:Oper) cs b,ops[j]? =some o→o.op≠.select cs b
 pair:∀(i j:Nat) (oi oj:Oper),i<j→j<N→ops[i]? =some oi→ops[j]? =some oj→Region.waitsFor md ops j i=true∨oi.apart ops oj=true
 sink:Region.sinkB md ops N=true
 chain:Region.chainB md ops N=true
 back:∀(i:Nat) (o:Oper),i<N→ops[i]? =some o→∀e∈o.after,Region.binds md e=true→e.on<i
 lt:N<ops.size
theorem Shape.le {N:Nat} (S:Shape md ops N):N≤ops.size:=Nat.le_of_lt S.lt
structure Stands (P:Program) (ops:Array Oper) (N:Nat) (W:World) (al:List (Nat×Oper)) (ob:Nat→Obj) (listed:Array Bool) (w:World) (β:Nat→Nat) (pq pa:List (Nat×Oper)):Prop where
 size:listed.size=ops.size
 all:∀i,i<N→listed.getD i true=false→(∃p∈pq,p.1=i)∨(∃p∈pa,p.1=i)
 q:∀p∈pq,p.1<N∧listed.getD p.1 true=false∧ops[p.1]? =some p.2
 a:∀p∈pa,p∈al∧p.1<N∧listed.getD p.1 true=false∧ops[p.1]? =some p.2
 qa:∀p∈pq,∀r∈pa,p.1<r.1
 sq:pq.Pairwise (fun x y=>x.1<y.1)
 sa:pa.Pairwise (fun x y=>x.1<y.1)
 tail:∀t,N≤t→t<ops.size→listed.getD t true=false
 below:Below W.heap.size W w
 rooms:∀p∈al,p∈pa∨(W.heap.size≤β p.1∧w.heap[β p.1]? =some (ob p.1))
 apart:∀p∈al,∀r∈al,p ∉ pa→r ∉ pa→p.1≠r.1→β p.1≠β r.1
theorem zct {listed:Array Bool} {i:Nat} (h:i<listed.size) (d:Bool):(listed.setIfInBounds i true).getD i d=true:=by
 simp [h]
theorem zcf {l1 l2:List (Nat×Oper)} {x:Nat×Oper} (h:(l1++x::l2).Pairwise (fun a b=>a.1<b.1)):(∀p∈l1,p.1<x.1)∧(l1++l2).Pairwise (fun a b=>a.1<b.1):=by
 rw [List.pairwise_append] at h
 obtain ⟨h1,h2,h3⟩:=h
 rw [List.pairwise_cons] at h2
 exact ⟨fun p hp=>h3 p hp x (by simp),List.pairwise_append.2 ⟨h1,h2.2,fun a ha b hb=>h3 a ha b (by simp [hb])⟩⟩
theorem zbV {α:Type} {l1 l2:List α} {x y:α} (h:y∈l1++x::l2):y=x∨y∈l1++l2:=by
 simp only [List.mem_append,List.mem_cons] at *
 rcases h with h | h | h
 ·exact Or.inr (Or.inl h)
 ·exact Or.inl h
 ·exact Or.inr (Or.inr h)
theorem zde {α:Type} {l1 l2:List α} {x y:α} (h:y∈l1++l2):y∈l1++x::l2:=by
 simp only [List.mem_append,List.mem_cons] at *
 rcases h with h | h
 ·exact Or.inl h
 ·exact Or.inr (Or.inr h)
theorem Stands.quiet {N:Nat} {al:List (Nat×Oper)} {ob:Nat→Obj} {listed:Array Bool} {w w'':World} {β:Nat→Nat} {pre post pa:List (Nat×Oper)} {p:Nat×Oper} (h:Stands P ops N W al ob listed w β (pre++p::post) pa) (hle:N≤ops.size) (hb:Below w.heap.size w w''):
    Stands P ops N W al ob (listed.setIfInBounds p.1 true) w'' β (pre++post) pa:=by
  obtain ⟨hpN,hpl,hpo⟩:=h.q p (by simp)
  have hps:p.1<listed.size:=by rw [h.size];omega
  have hne:∀{k:Nat},(listed.setIfInBounds p.1 true).getD k true=false→p.1≠k∧listed.getD k true=false:=fun {k} hk=>by
    by_cases e:p.1=k
    · subst e;rw [zct hps] at hk;cases hk
    · rw [getD_set_ne true e] at hk;exact ⟨e,hk⟩
  obtain ⟨m1,m2⟩:=zcf h.sq
  have hother:∀r∈pre++post,r.1≠p.1:=fun r hr e=>by
    have hsq:=h.sq
    rw [List.pairwise_append] at hsq
    obtain ⟨_,s2,s3⟩:=hsq
    rw [List.pairwise_cons] at s2
    rcases List.mem_append.1 hr with hr | hr
    · have:=m1 r hr;omega
    · have:=s2.1 r hr;omega
  exact {
    size:=by simp [h.size]
    all:=fun i hi hl=>by
      obtain ⟨e,hl'⟩:=hne hl
      rcases h.all i hi hl' with ⟨r,hr,hri⟩ | ⟨r,hr,hri⟩
      · rcases zbV hr with rfl | hr
        · exact absurd hri e
        · exact Or.inl ⟨r,hr,hri⟩
      · exact Or.inr ⟨r,hr,hri⟩
    q:=fun r hr=>by
      obtain ⟨r1,r2,r3⟩:=h.q r (zde hr)
      exact ⟨r1,by rw [getD_set_ne true (Ne.symm (hother r hr))];exact r2,r3⟩
    a:=fun r hr=>by
      obtain ⟨r0,r1,r2,r3⟩:=h.a r hr
      have:=h.qa p (by simp) r hr
      exact ⟨r0,r1,by rw [getD_set_ne true (by omega)];exact r2,r3⟩
    qa:=fun x hx r hr=>h.qa x (zde hx) r hr
    sq:=m2
    sa:=h.sa
    tail:=fun t ht ht'=>by rw [getD_set_ne true (by omega)];exact h.tail t ht ht'
    below:=h.below.trans (hb.mono h.below.size)
    rooms:=fun r hr=>(h.rooms r hr).imp id fun ⟨x1,x2⟩=>⟨x1,by rw [hb.block _ (Array.getElem?_eq_some_iff.1 x2).1];exact x2⟩
    apart:=h.apart}
theorem Stands.made {N:Nat} {al:List (Nat×Oper)} {ob:Nat→Obj} {listed:Array Bool} {w:World} {β:Nat→Nat} {pq pre post:List (Nat×Oper)} {p:Nat×Oper} (h:Stands P ops N W al ob listed w β pq (pre++p::post)) (hle:N≤ops.size) (hal:∀r∈al,ops[r.1]? =some r.2):
    Stands P ops N W al ob (listed.setIfInBounds p.1 true) (w.alloc (ob p.1)) (updB β p.1 w.heap.size) pq (pre++post):=by
  obtain ⟨hpal,hpN,hpl,hpo⟩:=h.a p (by simp)
  have hps:p.1<listed.size:=by rw [h.size];omega
  have hne:∀{k:Nat},(listed.setIfInBounds p.1 true).getD k true=false→p.1≠k∧listed.getD k true=false:=fun {k} hk=>by
    by_cases e:p.1=k
    · subst e;rw [zct hps] at hk;cases hk
    · rw [getD_set_ne true e] at hk;exact ⟨e,hk⟩
  obtain ⟨m1,m2⟩:=zcf h.sa
  have hother:∀r∈pre++post,r.1≠p.1:=fun r hr e=>by
    have hsq:=h.sa
    rw [List.pairwise_append] at hsq
    obtain ⟨_,s2,s3⟩:=hsq
    rw [List.pairwise_cons] at s2
    rcases List.mem_append.1 hr with hr | hr
    · have:=m1 r hr;omega
    · have:=s2.1 r hr;omega
  have hsame:∀r∈al,r.1=p.1→r=p:=fun r hr e=>by
    have h1:=hal r hr
    rw [e,hpo] at h1
    exact Prod.ext e (Option.some.inj h1).symm
  have hnew:(w.alloc (ob p.1)).heap[w.heap.size]? =some (ob p.1):=heap_alloc_new w _
  have hold:∀k o,w.heap[k]? =some o→k<w.heap.size∧(w.alloc (ob p.1)).heap[k]? =some o:=fun k o hk=>by
    have hlt:=(Array.getElem?_eq_some_iff.1 hk).1
    exact ⟨hlt,(Below.heap_alloc w _ k hlt).trans hk⟩
  exact {
    size:=by simp [h.size]
    all:=fun i hi hl=>by
      obtain ⟨e,hl'⟩:=hne hl
      rcases h.all i hi hl' with ⟨r,hr,hri⟩ | ⟨r,hr,hri⟩
      · exact Or.inl ⟨r,hr,hri⟩
      · rcases zbV hr with rfl | hr
        · exact absurd hri e
        · exact Or.inr ⟨r,hr,hri⟩
    q:=fun r hr=>by
      obtain ⟨r1,r2,r3⟩:=h.q r hr
      have:=h.qa r hr p (by simp)
      exact ⟨r1,by rw [getD_set_ne true (by omega)];exact r2,r3⟩
    a:=fun r hr=>by
      obtain ⟨r0,r1,r2,r3⟩:=h.a r (zde hr)
      exact ⟨r0,r1,by rw [getD_set_ne true (Ne.symm (hother r hr))];exact r2,r3⟩
    qa:=fun x hx r hr=>h.qa x hx r (zde hr)
    sq:=h.sq
    sa:=m2
    tail:=fun t ht ht'=>by rw [getD_set_ne true (by omega)];exact h.tail t ht ht'
    below:=h.below.alloc h.below.size _
    rooms:=fun r hr=>by
      by_cases e:r.1=p.1
      · have:=hsame r hr e
        subst this
        exact Or.inr ⟨by rw [za5];exact h.below.size,by rw [za5];exact hnew⟩
      · rcases h.rooms r hr with h1 | ⟨h1,h2⟩
        · rcases zbV h1 with rfl | h1
          · exact absurd rfl e
          · exact Or.inl h1
        · exact Or.inr ⟨by rw [za2 _ _ e];exact h1,by rw [za2 _ _ e];exact (hold _ _ h2).2⟩
    apart:=fun r hr r' hr' hn hn' hrr=>by
      by_cases e:r.1=p.1
      · have:=hsame r hr e
        subst this
        have e':r'.1≠r.1:=Ne.symm hrr
        rw [za5,za2 _ _ e']
        rcases h.rooms r' hr' with h1 | ⟨h1,h2⟩
        · rcases zbV h1 with rfl | h1
          · exact absurd rfl hrr
          · exact absurd h1 hn'
        · have:=(hold _ _ h2).1;omega
      · by_cases e':r'.1=p.1
        · have:=hsame r' hr' e'
          subst this
          rw [za5,za2 _ _ e]
          rcases h.rooms r hr with h1 | ⟨h1,h2⟩
          · rcases zbV h1 with rfl | h1
            · exact absurd rfl e
            · exact absurd h1 hn
          · have:=(hold _ _ h2).1;omega
        · rw [za2 _ _ e,za2 _ _ e']
          refine h.apart r hr r' hr' (fun hh=>?_) (fun hh=>?_) hrr
          · rcases zbV hh with rfl | hh
            · exact e rfl
            · exact hn hh
          · rcases zbV hh with rfl | hh
            · exact e' rfl
            · exact hn' hh}
theorem Stands.ready {N:Nat} {al:List (Nat×Oper)} {ob:Nat→Obj} {listed:Array Bool} {w:World} {β:Nat→Nat} {pq pa:List (Nat×Oper)} (S:Shape md ops N) (h:Stands P ops N W al ob listed w β pq pa) (hne:0<pq.length+pa.length):Region.ready md ops listed≠[]:=by
 have key:∀p:Nat×Oper,p.1<N→listed.getD p.1 true=false→ops[p.1]? =some p.2→(∀r,(r∈pq∨r∈pa)→p.1≤r.1)→p.1∈Region.ready md ops listed:=fun p p1 p2 p3 hmin=>by
  refine mem_ready.2 ⟨p2,p.2,p3,fun e he hb=>?_⟩
  have hlt:=S.back p.1 p.2 p1 p3 e he hb
  cases hl:listed.getD e.on false
  ·have h1:listed.getD e.on true=false:=getD_in (by rw [h.size];have:=S.le;omega) hl
   rcases h.all e.on (by omega) h1 with ⟨r,hr,hri⟩ | ⟨r,hr,hri⟩
   ·have:=hmin r (Or.inl hr);omega
   ·have:=hmin r (Or.inr hr);omega
  ·rfl
 intro hnil
 cases pq with
 | cons p rest=>
  obtain ⟨p1,p2,p3⟩:=h.q p (by simp)
  have hk:=key p p1 p2 p3 (fun r hr=>by
   rcases hr with hr | hr
   ·rcases List.mem_cons.1 hr with rfl | hr
    ·exact Nat.le_refl _
    ·exact Nat.le_of_lt ((List.pairwise_cons.1 h.sq).1 r hr)
   ·exact Nat.le_of_lt (h.qa p (by simp) r hr))
  rw [hnil] at hk;cases hk
 | nil=>
  cases pa with
  | nil=>simp at hne
  | cons p rest=>
   obtain ⟨_,p1,p2,p3⟩:=h.a p (by simp)
   have hk:=key p p1 p2 p3 (fun r hr=>by
    rcases hr with hr | hr
    ·cases hr
    ·rcases List.mem_cons.1 hr with rfl | hr
     ·exact Nat.le_refl _
     ·exact Nat.le_of_lt ((List.pairwise_cons.1 h.sa).1 r hr))
   rw [hnil] at hk;cases hk
def zaD (size N:Nat):Array Bool:=(List.replicate N true++List.replicate (size - N) false).toArray
theorem Stands.done {N:Nat} {al:List (Nat×Oper)} {ob:Nat→Obj} {listed:Array Bool} {w:World} {β:Nat→Nat} (S:Shape md ops N) (h:Stands P ops N W al ob listed w β [] []):listed=zaD ops.size N:=by
 have hle:=S.le
 apply Array.ext
 ·rw [h.size];simp [zaD];omega
 ·intro i h1 h2
  rw [h.size] at h1
  by_cases hi:i<N
  ·have:listed.getD i true=true:=by
    cases hl:listed.getD i true
    ·rcases h.all i hi hl with ⟨r,hr,_⟩ | ⟨r,hr,_⟩<;>cases hr
    ·rfl
   have hs:i<listed.size:=by rw [h.size];exact h1
   have e1:listed[i]=true:=by simpa [hs] using this
   rw [e1]
   simp [zaD,hi]
  ·have:=h.tail i (by omega) h1
   have hs:i<listed.size:=by rw [h.size];exact h1
   have e1:listed[i]=false:=by simpa [hs] using this
   rw [e1]
   simp [zaD,List.getElem_append,hi]
theorem zhm {Q':Exit→Act→World→Prop} {F:(Nat→Nat)→Act→Prop} {N:Nat} (al:List (Nat×Oper)) (ob:Nat→Obj) (tl:List Oper) (S:Shape md ops N) (htl:∀j,tl[j]? =ops[N+j]?) (hseq:Region.seqB md ops tl.length N (zaD ops.size N)=true)
  (hal:∀p∈al,ops[p.1]? =some p.2∧p.2.guard=none∧∀(a:Act) (w:World),(execOp a.eval p.2).run P w= .ok (.value (.pointer (some ⟨w.heap.size,0,none⟩))) (w.alloc (ob p.1)))
  (hF:∀(β:Nat→Nat) (a:Act) (w:World),F β a→Below W.heap.size W w→(∀p∈al,W.heap.size≤β p.1∧w.heap[β p.1]? =some (ob p.1))→(∀p∈al,∀r∈al,p.1≠r.1→β p.1≠β r.1)→wpList P ops Q' tl a w):
  ∀(f:Nat) (listed:Array Bool) (a:Act) (w:World) (β:Nat→Nat) (pq pa:List (Nat×Oper)),pq.length+pa.length=f→HeadInv md ops N listed→Stands P ops N W al ob listed w β pq pa→
   Lq P ops W (La W F pa β) (pq.map Prod.snd) a→wpAny P md ops Q' (f+tl.length) listed a w:=by
 intro f
 induction f with
 | zero=>
  intro listed a w β pq pa hf inv st hL
  have e1:pq=[]:=List.length_eq_zero_iff.1 (by omega)
  have e2:pa=[]:=List.length_eq_zero_iff.1 (by omega)
  subst e1 e2
  rw [Nat.zero_add,st.done S]
  exact wpAny_of_seq tl N _ a w htl hseq (hF β a w hL st.below (fun p hp=>(st.rooms p hp).resolve_left (by simp)) (fun p hp r hr=>st.apart p hp r hr (by simp) (by simp)))
 | succ f ih=>
  intro listed a w β pq pa hf inv st hL
  rw [show f+1+tl.length=(f+tl.length)+1 by omega]
  refine ⟨fun h0=>absurd h0 (st.ready S (by omega)),fun i hi=>?_⟩
  obtain ⟨hil,oi,hoi,hall⟩:=mem_ready.1 hi
  have hpend:∃r:Nat×Oper,(r∈pq∨r∈pa):=by
   cases pq with
   | cons p _=>exact ⟨p,Or.inl (by simp)⟩
   | nil=>
    cases pa with
    | cons p _=>exact ⟨p,Or.inr (by simp)⟩
    | nil=>simp at hf
  have hiN:i<N:=by
   rcases Nat.lt_or_ge i N with h | h
   ·exact h
   ·obtain ⟨r,hr⟩:=hpend
    have hr':r.1<N∧listed.getD r.1 true=false:=by
     rcases hr with hr | hr
     ·exact ⟨(st.q r hr).1,(st.q r hr).2.1⟩
     ·exact ⟨(st.a r hr).2.1,(st.a r hr).2.2.1⟩
    exact absurd hi (tail_waits S.sink S.chain S.lt inv _ r.1 rfl hr'.1 hr'.2 i h)
  have hap:∀r:Nat×Oper,r.1<i→listed.getD r.1 true=false→ops[r.1]? =some r.2→r.2.apart ops oi=true:=fun r hr hl ho=>by
   rcases S.pair r.1 i r.2 oi hr hiN ho hoi with h | h
   ·rw [zeh hi hl] at h;cases h
   ·exact h
  unfold wpOp
  simp only [hoi]
  rcases st.all i hiN hil with ⟨p,hp,rfl⟩ | ⟨p,hp,rfl⟩
  ·obtain ⟨pre,post,rfl⟩:=zdm hp
   obtain ⟨_,_,hpo⟩:=st.q p hp
   have heq:oi=p.2:=Option.some.inj (hoi.symm.trans hpo)
   subst heq
   have m1:=(zcf st.sq).1
   have hL':Lq P ops W (La W F pa β) (pre.map Prod.snd++p.2::post.map Prod.snd) a:=by simpa using hL
   obtain ⟨v,hy,hR⟩:=Lq.pick p.2 (post.map Prod.snd) (fun cs b=>S.sel p.1 p.2 cs b hoi) (pre.map Prod.snd) a (fun o ho=>by
    obtain ⟨r,hr,rfl⟩:=List.mem_map.1 ho
    obtain ⟨_,r2,r3⟩:=st.q r (by simp [hr])
    exact ⟨hap r (m1 r hr) r2 r3,fun cs b=>S.sel r.1 r.2 cs b r3⟩) hL'
   have hR':Lq P ops W (La W F pa β) ((pre++post).map Prod.snd) (a.put p.2.dst v):=by simpa using hR
   have hlen:(pre++post).length+pa.length=f:=by simp at hf ⊢;omega
   rcases hy with ⟨hw,hm⟩ | ⟨hw,rfl⟩
   ·rw [if_pos hw]
    refine Or.inl ?_
    have h3:=hm ⟨w,st.below⟩
    unfold Oper.wp
    simp only at h3
    generalize (execOp a.eval p.2).run P w=res at *
    cases res with
    | ok nx w'=>
     cases nx<;>simp only [zbJ] at h3<;>simp only [Oper.upon]
     case value u=>
      obtain ⟨e1,e2⟩:=h3
      rw [e1,e2]
      exact ih _ _ _ _ _ _ hlen (inv.set hi hiN) (st.quiet S.le (Below.refl _ _)) hR'
     case skip=>
      obtain ⟨e1,e2⟩:=h3
      rw [e1,←e2]
      exact ih _ _ _ _ _ _ hlen (inv.set hi hiN) (st.quiet S.le (Below.refl _ _)) hR'
     case enter g args=>
      obtain ⟨e1,hc⟩:=h3
      rw [e1]
      exact Calls.mono hc fun e w'' ⟨he,hb⟩=>by subst he;exact ih _ _ _ _ _ _ hlen (inv.set hi hiN) (st.quiet S.le hb) hR'
    | halt x w'=>simp only [zbJ] at h3
   ·rw [if_neg (by rw [hw];exact Bool.false_ne_true)]
    exact ih _ _ _ _ _ _ hlen (inv.set hi hiN) (st.quiet S.le (Below.refl _ _)) hR'
  ·obtain ⟨pre,post,rfl⟩:=zdm hp
   obtain ⟨hpal,_,_,hpo⟩:=st.a p hp
   have heq:oi=p.2:=Option.some.inj (hoi.symm.trans hpo)
   subst heq
   obtain ⟨_,hg,hrun⟩:=hal p hpal
   have m1:=(zcf st.sa).1
   have hR:Lq P ops W (La W F (pre++post) (updB β p.1 w.heap.size)) (pq.map Prod.snd) (a.put p.2.dst (.pointer (some ⟨w.heap.size,0,none⟩))):=
    Lq.put p.2 _ (fun a' h=>La.pick p post pre β a' (fun r hr=>by
     obtain ⟨_,_,r2,r3⟩:=st.a r (by simp [hr])
     have:=m1 r hr
     exact ⟨by omega,(Oper.apart_spec (hap r this r2 r3)).2.1⟩) h w.heap.size st.below.size) _ _ (fun o ho=>by
      obtain ⟨r,hr,rfl⟩:=List.mem_map.1 ho
      obtain ⟨_,r2,r3⟩:=st.q r hr
      exact ⟨hap r (st.qa r hr p hp) r2 r3,fun cs b=>S.sel r.1 r.2 cs b r3⟩) hL
   have hlen:pq.length+(pre++post).length=f:=by simp at hf ⊢;omega
   have hw:Region.wanted p.2 (yielded ops a.tmps)=true:=by simp [Region.wanted,hg]
   rw [if_pos hw]
   refine Or.inl ?_
   unfold Oper.wp
   rw [hrun a w,Oper.upon_value]
   exact ih _ _ _ _ _ _ hlen (inv.set hi hiN) (st.made S.le (fun r hr=>(hal r hr).1)) hR
def zcs (md:Region.Mode) (ops:Array Oper) (N:Nat):Bool:=
 Region.noSelect ops && (decide (N<ops.size) &&
 (((List.range N).all fun j=>(List.range j).all fun i=>Region.waitsFor md ops j i || (match ops[i]?,ops[j]? with | some oi,some oj=>oi.apart ops oj | _,_=>false)) &&
 ((Region.sinkB md ops N && Region.chainB md ops N) &&
 ((List.range N).all fun i=>match ops[i]? with | some o=>o.after.all (fun e=>!Region.binds md e || decide (e.on<i)) | none=>false))))
theorem zfc {N:Nat} (h:zcs md ops N=true):Shape md ops N:=by
 simp only [zcs,Bool.and_eq_true] at h
 obtain ⟨h1,h2,h3,⟨h4,h4'⟩,h5⟩:=h
 refine ⟨fun j o cs b ho=>Region.noSelect_spec h1 j o cs b ho,fun i j oi oj hij hj hi' hj'=>?_,h4,h4',fun i o hi ho e he hb=>?_,by simpa using h2⟩
 ·have:=List.all_eq_true.1 (List.all_eq_true.1 h3 j (List.mem_range.2 hj)) i (List.mem_range.2 hij)
  rw [hi',hj'] at this
  simpa using this
 ·have:=List.all_eq_true.1 h5 i (List.mem_range.2 hi)
  rw [ho] at this
  have h6:=Array.all_eq_true'.1 this e he
  rw [hb] at h6
  simpa using h6
def za4:Nat→List Oper→List (Nat×Oper)
 | _,[]=>[]
 | k,o::r=>(k,o)::za4 (k+1) r
theorem zb7:∀(l:List Oper) (k:Nat),(za4 k l).map Prod.snd=l
 | [],_=>rfl
 | o::r,k=>by simp [za4,zb7 r (k+1)]
theorem zb2:∀(l:List Oper) (k:Nat),(za4 k l).length=l.length
 | [],_=>rfl
 | o::r,k=>by simp [za4,zb2 r (k+1)]
theorem zbh:∀(l:List Oper) (k:Nat) (p:Nat×Oper),p∈za4 k l→k≤p.1∧p.1<k+l.length∧l[p.1 - k]? =some p.2
 | [],_,_,h=>by cases h
 | o::r,k,p,h=>by
  rcases List.mem_cons.1 h with rfl | h
  ·simp
  ·obtain ⟨h1,h2,h3⟩:=zbh r (k+1) p h
   refine ⟨by omega,by simp;omega,?_⟩
   rw [show p.1 - k=(p.1 - (k+1))+1 by omega]
   simpa using h3
theorem zb1:∀(l:List Oper) (k i:Nat),k≤i→i<k+l.length→∃p∈za4 k l,p.1=i
 | [],k,i,h1,h2=>by simp at h2;omega
 | o::r,k,i,h1,h2=>by
  by_cases e:i=k
  ·exact ⟨(k,o),by simp [za4],e.symm⟩
  ·obtain ⟨p,hp,hpi⟩:=zb1 r (k+1) i (by omega) (by simp at h2;omega)
   exact ⟨p,by simp [za4,hp],hpi⟩
theorem zbo:∀(l:List Oper) (k:Nat),(za4 k l).Pairwise (fun x y=>x.1<y.1)
 | [],_=>List.Pairwise.nil
 | o::r,k=>List.pairwise_cons.2 ⟨fun p hp=>by have:=(zbh r (k+1) p hp).1;simp only;omega,zbo r (k+1)⟩
end
end
section
open Go.RowKit
section
variable {P:Program}
theorem zcR {Q:Exit→Act→World→Prop} {a:Act} {w:World} {l:List Oper} (n:Nat) (hS:zcs .any l.toArray n=true)
    (hseq:Region.seqB .any l.toArray (l.drop n).length n (zaD l.toArray.size n)=true)
    (h:Lq P l.toArray w (fun a'=> ∀w':World,Below w.heap.size w w'→wpList P l.toArray Q (l.drop n) a' w') (l.take n) a):wpAny P .any l.toArray Q l.toArray.size (Array.replicate l.toArray.size false) a { w with drawn:=w.drawn+1}:=by
  have S:=zfc hS
  have hle:n≤l.length:=by simpa using S.le
  have htake:(l.take n).length=n:=by simp;omega
  have H:=zhm (P:=P) (W:=w) (md:= .any) (Q':=Q) (F:=fun _ a'=> ∀w':World,Below w.heap.size w w'→wpList P l.toArray Q (l.drop n) a' w')
    [] (fun _=>default) (l.drop n) S (fun j=>by simp [List.getElem?_drop]) hseq
    (fun p hp=>by cases hp)
    (fun β a' w' hF hb _ _=>hF w' hb)
    n (Array.replicate l.toArray.size false) a { w with drawn:=w.drawn+1} (fun _=>0) (za4 0 (l.take n)) [] (by rw [zb2,htake];rfl)
    ⟨by simp,fun j oj _ hl=>(by rw [getD_replicate_false] at hl;cases hl),fun t _ ht=>getD_in (by simpa using ht) (getD_replicate_false _ _)⟩
    { size:=by simp
      all:=fun i hi _=>Or.inl (zb1 _ 0 i (by omega) (by rw [htake];omega))
      q:=fun p hp=>by
        obtain ⟨p1,p2,p3⟩:=zbh _ 0 p hp
        rw [htake] at p2
        refine ⟨by omega,?_,?_⟩
        · exact getD_in (by simp;omega) (getD_replicate_false _ _)
        · rw [Nat.sub_zero,List.getElem?_take,if_pos (by omega)] at p3
          simpa using p3
      a:=fun p hp=>by cases hp
      qa:=fun p hp r hr=>by cases hr
      sq:=zbo _ _
      sa:=List.Pairwise.nil
      tail:=fun t _ ht=>getD_in (by simpa using ht) (getD_replicate_false _ _)
      below:=⟨rfl,rfl,rfl,Nat.le_refl _,fun _ _=>rfl⟩
      rooms:=fun p hp=>by cases hp
      apart:=fun p hp _ _ _ _ _=>by cases hp}
    (by
      rw [zb7]
      exact h)
  have hfuel:n+(l.drop n).length=l.toArray.size:=by simp;omega
  rw [hfuel] at H
  exact H
theorem zaC {id:Nat} {Q:Exit→Act→World→Prop} {a:Act} {w:World} {l:List Oper} (n:Nat) (hm:P.follows .mixedOrders=true) (hS:zcs .any l.toArray n=true)
  (hseq:Region.seqB .any l.toArray (l.drop n).length n (zaD l.toArray.size n)=true)
  (h:Lq P l.toArray w (fun a'=> ∀w':World,Below w.heap.size w w'→wpList P l.toArray Q (l.drop n) a' w') (l.take n) a):(Code.region id l.toArray true).wp P Q a w:=
 wp_region_any hm (zcR n hS hseq h)
theorem zgg {id:Nat} {Q:Exit→Act→World→Prop} {a:Act} {w:World} {l:List Oper} (n:Nat) (o1:Oper) (b1:Obj) (hm:P.follows .mixedOrders=true) (hS:zcs .any l.toArray (n+1)=true)
    (hseq:Region.seqB .any l.toArray (l.drop (n+1)).length (n+1) (zaD l.toArray.size (n+1))=true) (h1:l[n]? =some o1) (hg1:o1.guard=none)
    (hr1:∀(a:Act) (w:World),(execOp a.eval o1).run P w= .ok (.value (.pointer (some ⟨w.heap.size,0,none⟩))) (w.alloc b1))
    (h:Lq P l.toArray w (fun a'=> ∀(B1:Nat) (w':World),w.heap.size≤B1→Below w.heap.size w w'→w'.heap[B1]? =some b1→
      wpList P l.toArray Q (l.drop (n+1)) (a'.put o1.dst (.pointer (some ⟨B1,0,none⟩))) w') (l.take n) a):(Code.region id l.toArray true).wp P Q a w:=by
  have S:=zfc hS
  have hle:n+1≤l.length:=by simpa using S.le
  have htake:(l.take n).length=n:=by simp;omega
  refine wp_region_any hm ?_
  have H:=zhm (P:=P) (W:=w) (md:= .any) (Q':=Q) (F:=fun β a'=> ∀w':World,w.heap.size≤β n→Below w.heap.size w w'→w'.heap[β n]? =some b1→wpList P l.toArray Q (l.drop (n+1)) a' w')
    [(n,o1)] (fun _=>b1) (l.drop (n+1)) S (fun j=>by simp [List.getElem?_drop]) hseq
    (fun p hp=>by
      rcases List.mem_cons.1 hp with rfl | hp
      · exact ⟨by simpa using h1,hg1,fun a w=>hr1 a w⟩
      · cases hp)
    (fun β a' w' hF hb hrm _=>by
      have r1:=hrm (n,o1) (by simp)
      exact hF w' r1.1 hb r1.2)
    (n+1) (Array.replicate l.toArray.size false) a { w with drawn:=w.drawn+1} (fun _=>0) (za4 0 (l.take n)) [(n,o1)] (by rw [zb2,htake];rfl)
    ⟨by simp,fun j oj _ hl=>(by rw [getD_replicate_false] at hl;cases hl),fun t _ ht=>getD_in (by simpa using ht) (getD_replicate_false _ _)⟩
    { size:=by simp
      all:=fun i hi _=>by
        by_cases e:i<n
        · exact Or.inl (zb1 _ 0 i (by omega) (by rw [htake];omega))
        · exact Or.inr ⟨(n,o1),by simp,by simp only;omega⟩
      q:=fun p hp=>by
        obtain ⟨p1,p2,p3⟩:=zbh _ 0 p hp
        rw [htake] at p2
        refine ⟨by omega,?_,?_⟩
        · exact getD_in (by simp;omega) (getD_replicate_false _ _)
        · rw [Nat.sub_zero,List.getElem?_take,if_pos (by omega)] at p3
          simpa using p3
      a:=fun p hp=>by
        refine ⟨hp,?_⟩
        rcases List.mem_cons.1 hp with rfl | hp
        · exact ⟨by simp,getD_in (by simp;omega) (getD_replicate_false _ _),by simpa using h1⟩
        · cases hp
      qa:=fun p hp r hr=>by
        have p2:=(zbh _ 0 p hp).2.1
        rw [htake] at p2
        rcases List.mem_cons.1 hr with rfl | hr
        · simp only;omega
        · cases hr
      sq:=zbo _ _
      sa:=by simp
      tail:=fun t _ ht=>getD_in (by simpa using ht) (getD_replicate_false _ _)
      below:=⟨rfl,rfl,rfl,Nat.le_refl _,fun _ _=>rfl⟩
      rooms:=fun p hp=>Or.inl hp
      apart:=fun p hp _ _ hn _ _=>absurd hp hn}
    (by
      rw [zb7]
      refine Lq.mono (fun a' h'=>?_) _ _ h
      intro B1 hB1 w' _ hb x1
      simp only [za5] at x1
      exact h' B1 w' hB1 hb x1)
  have hfuel:n+1+(l.drop (n+1)).length=l.toArray.size:=by simp;omega
  rw [hfuel] at H
  exact H
end
end
end Go.Proofs.YtedakhgaghfogaaGreat
