/- Several texts in one, each with its own head. -/
import Derived.Lib.Hide
import Derived.Test.YtedakhgaghfogaaGreatRows
import Derived.WalkKit
import Derived.WalkSpells
import Derived.WalkLawsBesides
import Derived.Deep.QuietTactic
import Derived.BigQuiet
import Derived.Shelf.Abstract
namespace Go.Proofs.YtedakhgaghfogaaGreat
section
def pairN:List Nat→List Nat
 | a::b::r=>(a+b)::pairN r
 | _=>[]
theorem zcZ:∀l:List Nat,(pairN l).length=l.length/2
 | []=>rfl
 | [_]=>by simp [pairN]
 | _::_::r=>by simp only [pairN,List.length_cons,zcZ r];omega
theorem zfN:∀(l:List Nat) (k:Nat),(pairN l).take k=pairN (l.take (2*k))
 | _,0=>by simp [pairN]
 | [],k+1=>by simp [pairN]
 | [_],k+1=>by
  rw [show 2*(k+1)=2*k+1+1 by omega];simp [pairN]
 | a::b::r,k+1=>by
  rw [show 2*(k+1)=2*k+1+1 by omega]
  simp only [pairN,List.take_succ_cons,zfN r k]
theorem zhi:∀l:List Nat,l.length%2=0→(pairN l).sum=l.sum
 | [],_=>rfl
 | [_],h=>by simp at h
 | a::b::r,h=>by
  have:=zhi r (by simp only [List.length_cons] at h;omega)
  simp only [pairN,List.sum_cons,this];omega
theorem zdu {l m:List Nat} (h:l.Perm m):l.sum=m.sum:=by
 induction h with
 | nil=>rfl
 | cons x _ ih=>simp only [List.sum_cons,ih]
 | swap x y l=>simp only [List.sum_cons];omega
 | trans _ _ h1 h2=>exact h1.trans h2
def Up (l:List Nat):Prop:=l.Pairwise (·≤·)
theorem zix:∀(l:List Nat) (a k:Nat),Up (a::l)→k≤l.length→((a::l).take k).sum≤(l.take k).sum
 | _,_,0,_,_=>by simp
 | [],_,k+1,_,h=>by simp at h
 | b::l,a,k+1,hu,h=>by
  have h1:a≤b:=(List.pairwise_cons.1 hu).1 b (List.mem_cons_self ..)
  have h2:=zix l b k (List.pairwise_cons.1 hu).2 (by simp only [List.length_cons] at h;omega)
  simp only [List.take_succ_cons,List.sum_cons]
  omega
theorem zhF {l m:List Nat} (hs:m.Sublist l):Up l→(l.take m.length).sum≤m.sum:=by
 induction hs with
 | slnil=>intro _;simp
 | @cons m l a hs ih=>
  intro hu
  exact Nat.le_trans (zix l a m.length hu hs.length_le) (ih (List.pairwise_cons.1 hu).2)
 | @cons_cons m l a hs ih=>
  intro hu
  have:=ih (List.pairwise_cons.1 hu).2
  simp only [List.length_cons,List.take_succ_cons,List.sum_cons]
  omega
def RowN (coins:List Nat):Nat→List Nat→Prop
 | 0,P=>P=[]
 | j+1,P=> ∃Q,RowN coins j Q∧Up P∧P.Perm (coins++pairN Q)
theorem RowN.pos {coins:List Nat} (h0:∀c∈coins,0<c):∀{j:Nat} {P:List Nat},RowN coins j P→∀c∈P,0<c
 | 0,_,h=>by subst h;intro c hc;cases hc
 | _+1,_,⟨Q,hQ,_,hp⟩=>by
  intro c hc
  rcases List.mem_append.1 (hp.mem_iff.1 hc) with h | h
  ·exact h0 c h
  ·have hq:=RowN.pos h0 hQ
   clear hp hQ hc
   have key:∀l:List Nat,(∀c∈l,0<c)→c∈pairN l→0<c:=by
    intro l
    induction l using pairN.induct with
    | case1 a b r ih=>
     intro hl hc
     rcases List.mem_cons.1 hc with rfl | hc
     ·have:=hl a (by simp)
      omega
     ·exact ih (fun c hc=>hl c (by simp [hc])) hc
    | case2 l hl=>
     intro _ hc
     match l,hl with
     | [],_=>simp [pairN] at hc
     | [_],_=>simp [pairN] at hc
     | a::b::r,hl=>exact absurd rfl (hl a b r)
   exact key Q hq h
theorem RowN.len {coins:List Nat}:∀{j:Nat} {P:List Nat},RowN coins (j+1) P→2*coins.length≤P.length+(coins.length+2^j - 1)/2^j
 | 0,P,⟨Q,hQ,_,hp⟩=>by
  subst hQ
  have:=hp.length_eq
  simp [pairN] at this
  simp
  omega
 | j+1,P,⟨Q,hQ,_,hp⟩=>by
  have h1:=RowN.len hQ
  have h2:=hp.length_eq
  rw [List.length_append,zcZ] at h2
  have h3:(coins.length+2^(j+1) - 1)/2^(j+1)=((coins.length+2^j - 1)/2^j+1)/2:=by
   have hpos:0<2^j:=Nat.pow_pos (by decide)
   rw [Nat.pow_succ,←Nat.div_div_eq_div_mul]
   congr 1
   rw [show coins.length+2^j*2 - 1=(coins.length+2^j - 1)+2^j by omega,Nat.add_div_right _ hpos]
  rw [h3]
  omega
theorem RowN.enough {coins:List Nat} {j:Nat} {P:List Nat} (h:RowN coins (j+1) P) (hn:coins.length≤2^(j+1)) (h1:1≤coins.length):2*coins.length - 2≤P.length:=by
 have h2:=h.len
 have hpos:0<2^j:=Nat.pow_pos (by decide)
 have h3:(coins.length+2^j - 1)/2^j≤2:=by
  rw [Nat.pow_succ] at hn
  have:(coins.length+2^j - 1)<3*2^j:=by omega
  have:=Nat.div_lt_of_lt_mul (by rw [Nat.mul_comm];exact this:coins.length+2^j - 1<2^j*3)
  omega
 omega
def Cst (j:Nat) (X:List (Nat×Nat)):Nat:=(X.map fun x=>x.1*(j - x.2)).sum
def Wgt (j:Nat) (X:List (Nat×Nat)):Nat:=(X.map fun x=>2^j - 2^(min x.2 j)).sum
def Has (j:Nat) (X:List (Nat×Nat)):List Nat:=(X.filter fun x=>decide (x.2<j)).map Prod.fst
theorem zft (j:Nat):∀X:List (Nat×Nat),Cst (j+1) X=(Has (j+1) X).sum+Cst j X
 | []=>rfl
 | x::X=>by
  have ih:=zft j X
  simp only [Cst,Has,List.map_cons,List.sum_cons] at ih ⊢
  by_cases h:x.2<j+1
  ·have e:j+1 - x.2=(j - x.2)+1:=by omega
   rw [List.filter_cons_of_pos (by simpa using h),List.map_cons,List.sum_cons,ih,e,Nat.mul_add]
   omega
  ·have e:j+1 - x.2=j - x.2:=by omega
   rw [List.filter_cons_of_neg (by simpa using h),ih,e]
   omega
theorem ze3 (j:Nat):∀X:List (Nat×Nat),Wgt (j+1) X=(Has (j+1) X).length*2^j+Wgt j X
 | []=>by simp [Wgt,Has]
 | x::X=>by
  have ih:=ze3 j X
  simp only [Wgt,Has,List.map_cons,List.sum_cons] at ih ⊢
  have hp:2^(j+1)=2^j+2^j:=by rw [Nat.pow_succ];omega
  by_cases h:x.2<j+1
  ·have e1:min x.2 (j+1)=x.2:=by omega
   have e2:min x.2 j=x.2:=by omega
   have h3:2^x.2≤2^j:=Nat.pow_le_pow_right (by decide) (by omega)
   rw [List.filter_cons_of_pos (by simpa using h),List.map_cons,List.length_cons,ih,e1,e2,hp,Nat.add_mul]
   omega
  ·have e1:min x.2 (j+1)=j+1:=by omega
   have e2:min x.2 j=j:=by omega
   rw [List.filter_cons_of_neg (by simpa using h),ih,e1,e2]
   omega
theorem zgL {X:List (Nat×Nat)} {J:Nat} (hz:∀x∈X,x.1=0→J≤x.2) {j:Nat} (hj:j≤J):(Has j X).Sublist ((X.map Prod.fst).filter fun f=>decide (0<f)):=by
 induction X with
 | nil=>exact List.Sublist.refl _
 | cons x X ih=>
  have ih:=ih (fun y hy=>hz y (List.mem_cons_of_mem _ hy))
  by_cases h:x.2<j
  ·have h0:0<x.1:=by
    rcases Nat.eq_zero_or_pos x.1 with h0 | h0
    ·have:=hz x (List.mem_cons_self ..) h0
     omega
    ·exact h0
   unfold Has
   rw [List.filter_cons_of_pos (by simpa using h),List.map_cons,List.map_cons,List.filter_cons_of_pos (by simpa using h0)]
   exact ih.cons_cons _
  ·unfold Has
   rw [List.filter_cons_of_neg (by simpa using h),List.map_cons]
   by_cases h0:0<x.1
   ·rw [List.filter_cons_of_pos (by simpa using h0)]
    exact ih.cons _
   ·rw [List.filter_cons_of_neg (by simpa using h0)]
    exact ih
theorem zpa (X:List (Nat×Nat)):Wgt 0 X=0:=by
 induction X with
 | nil=>rfl
 | cons x X ih=>simp [Wgt] at ih ⊢;exact ih
theorem zkv {P:List Nat} (hpos:∀c∈P,0<c) {a b:Nat} (h:a<b) (hb:b≤P.length):(P.take a).sum<(P.take b).sum:=by
 obtain ⟨d,rfl⟩:∃d,b=a+(d+1):=⟨b - a - 1,by omega⟩
 rw [List.take_add,List.sum_append]
 have hc:P[a]'(by omega)∈P:=List.getElem_mem _
 have:=hpos _ hc
 rw [List.drop_eq_getElem_cons (by omega:a<P.length),List.take_succ_cons,List.sum_cons]
 omega
theorem zgw (P:List Nat) {a b:Nat} (h:a≤b):(P.take a).sum≤(P.take b).sum:=by
 obtain ⟨d,rfl⟩:∃d,b=a+d:=⟨b - a,by omega⟩
 rw [List.take_add,List.sum_append]
 omega
theorem zfU {X:List (Nat×Nat)} {coins:List Nat} {J:Nat} (hz:∀x∈X,x.1=0→J≤x.2) (hc:coins=(X.map Prod.fst).filter fun f=>decide (0<f)):
  ∀{j:Nat} {P:List Nat},j+1≤J→RowN coins (j+1) P→Wgt (j+1) X/2^j≤P.length∧(P.take (Wgt (j+1) X/2^j)).sum≤Cst (j+1) X∧(Wgt (j+1) X%2^j≠0→(P.take (Wgt (j+1) X/2^j)).sum<Cst (j+1) X)
 | 0,P,hj,⟨Q,hQ,hu,hp⟩=>by
  subst hQ
  have hs:=zgL hz hj
  rw [←hc] at hs
  simp only [pairN,List.append_nil] at hp
  obtain ⟨M,hM,hMs⟩:=List.exists_perm_sublist hs hp.symm
  have h1:=zhF hMs hu
  rw [zdu hM,hM.length_eq] at h1
  have h2:=hMs.length_le
  rw [hM.length_eq] at h2
  rw [ze3,zft,zpa]
  simp only [Nat.pow_zero,Nat.mul_one,Nat.add_zero,Nat.div_one,Nat.mod_one]
  exact ⟨h2,by omega,fun h=>absurd rfl h⟩
 | j+1,P,hj,⟨Q,hQ,hu,hp⟩=>by
  obtain ⟨i1,i2,i3⟩:=zfU (j:=j) hz hc (by omega) hQ
  have hs:=zgL hz hj
  rw [←hc] at hs
  rw [ze3 (j+1),zft (j+1)]
  obtain ⟨W,hW⟩:∃W,Wgt (j+1) X=W:=⟨_,rfl⟩
  obtain ⟨C,hC⟩:∃C,Cst (j+1) X=C:=⟨_,rfl⟩
  obtain ⟨D,hD⟩:∃D,Has (j+1+1) X=D:=⟨_,rfl⟩
  rw [hW,hC] at i2 i3
  rw [hW] at i1
  rw [hD] at hs
  rw [hW,hC,hD]
  obtain ⟨q,hq⟩:∃q,W/2^j=q:=⟨_,rfl⟩
  rw [hq] at i1 i2 i3
  have hpos:0<2^j:=Nat.pow_pos (by decide)
  have e1:(D.length*2^(j+1)+W)/2^(j+1)=D.length+q/2:=by
   rw [Nat.mul_comm,Nat.mul_add_div (Nat.pow_pos (by decide)),Nat.pow_succ,←Nat.div_div_eq_div_mul,hq]
  have e2:(D.length*2^(j+1)+W)%2^(j+1)=W%2^(j+1):=by
   rw [Nat.mul_comm,Nat.mul_add_mod]
  rw [e1,e2]
  have hs2:(D++(pairN Q).take (q/2)).Sublist (coins++pairN Q):=hs.append (List.take_sublist _ _)
  obtain ⟨M,hM,hMs⟩:=List.exists_perm_sublist hs2 hp.symm
  have h1:=zhF hMs hu
  have h2:=hMs.length_le
  rw [hM.length_eq] at h1 h2
  have hlen:(D++(pairN Q).take (q/2)).length=D.length+q/2:=by rw [List.length_append,List.length_take,zcZ,Nat.min_eq_left (by omega)]
  rw [hlen] at h1 h2
  rw [zdu hM,List.sum_append,zfN,zhi _ (by rw [List.length_take];omega)] at h1
  have hQpos:∀c∈Q,0<c:=RowN.pos (fun c hc'=>by
   rw [hc] at hc'
   simpa using (List.mem_filter.1 hc').2) hQ
  have h3:=zgw Q (show 2*(q/2)≤q by omega)
  refine ⟨h2,by omega,fun hne=>?_⟩
  by_cases hodd:2*(q/2)<q
  ·have:=zkv hQpos hodd i1
   omega
  ·have:W%2^j≠0:=by
    intro h0
    apply hne
    have e:W=2^j*(2*(q/2)):=by
     have:=Nat.div_add_mod W (2^j)
     rw [h0,hq] at this
     rw [show 2*(q/2)=q by omega]
     omega
    rw [e,Nat.pow_succ,←Nat.mul_assoc]
    exact Nat.mul_mod_right _ _
   have:=i3 this
   omega
def sm:Nat→(Nat→Nat)→Nat
 | 0,_=>0
 | n+1,g=>sm n g+g n
theorem zaP {g h:Nat→Nat}:∀{n:Nat},(∀i,i<n→g i=h i)→sm n g=sm n h
 | 0,_=>rfl
 | n+1,e=>by rw [sm,sm,zaP (fun i hi=>e i (by omega)),e n (by omega)]
theorem zb9 (g h:Nat→Nat):∀n:Nat,sm n (fun i=>g i+h i)=sm n g+sm n h
 | 0=>rfl
 | n+1=>by rw [sm,sm,sm,zb9 g h n];omega
theorem zhN (k:Nat) (g:Nat→Nat):∀n:Nat,sm n (fun i=>k*g i)=k*sm n g
 | 0=>rfl
 | n+1=>by rw [sm,sm,zhN k g n,Nat.mul_add]
theorem zev {g h:Nat→Nat}:∀{n:Nat},(∀i,i<n→g i≤h i)→sm n g≤sm n h
 | 0,_=>Nat.le_refl _
 | n+1,e=>by
  have h1:=zev (n:=n) (fun i hi=>e i (by omega))
  have h2:=e n (by omega)
  simp only [sm];omega
theorem zrT {g h:Nat→Nat}:∀{n k:Nat},(∀i,i<n→g i≤h i)→k<n→g k<h k→sm n g<sm n h
 | 0,k,_,hk,_=>by omega
 | n+1,k,e,hk,hl=>by
  simp only [sm]
  have h2:=e n (by omega)
  rcases Nat.lt_or_ge k n with h1 | h1
  ·have:=zrT (n:=n) (fun i hi=>e i (by omega)) h1 hl
   omega
  ·obtain rfl:k=n:=by omega
   have:=zev (n:=k) (fun i hi=>e i (by omega))
   omega
theorem zc6:∀n:Nat,sm n (fun _=>0)=0
 | 0=>rfl
 | n+1=>by rw [sm,zc6 n]
theorem zfI {k c:Nat}:∀{n:Nat},k<n→sm n (fun i=>if i=k then c else 0)=c
 | 0,h=>by omega
 | n+1,h=>by
  rw [sm]
  rcases Nat.lt_or_ge k n with h1 | h1
  ·rw [zfI h1,if_neg (by omega)];omega
  ·obtain rfl:k=n:=by omega
   rw [zaP (h:=fun _=>0) (fun i hi=>by rw [if_neg (by omega)]),zc6];simp
theorem zfd (g:Nat→Nat):∀n:Nat,((List.range n).map g).sum=sm n g
 | 0=>rfl
 | n+1=>by rw [List.range_succ,List.map_append,List.sum_append,zfd g n];simp [sm]
def many (N:Nat) (f:Nat→Nat):Nat:=sm N fun i=>if 0<f i then 1 else 0
def room (N L:Nat) (l:Nat→Nat):Nat:=sm N fun i=>if 0<l i then 2^(L - l i) else 0
def cost (N:Nat) (f l:Nat→Nat):Nat:=sm N fun i=>f i*l i
theorem zcd (n:Nat):0<2^n:=Nat.pow_pos (by decide)
theorem zfl (N L:Nat) (l:Nat→Nat):sm N (fun i=>2^L - 2^(L - l i))+room N L l=many N l*2^L:=by
 unfold room many
 rw [←zb9,Nat.mul_comm,←zhN]
 refine zaP fun i hi=>?_
 have h1:2^(L - l i)≤2^L:=Nat.pow_le_pow_right (by decide) (by omega)
 by_cases h0:0<l i
 ·rw [if_pos h0,if_pos h0];omega
 ·obtain h0:l i=0:=by omega
  simp [h0]
theorem zc1 (N:Nat) (f:Nat→Nat):(((List.range N).map f).filter fun c=>decide (0<c)).length=many N f:=by
 induction N with
 | zero=>rfl
 | succ n ih=>
  rw [List.range_succ,List.map_append,List.filter_append,List.length_append,ih]
  unfold many
  rw [sm]
  by_cases h:0<f n
  ·simp [h]
  ·simp [h]
theorem zlB {N L:Nat} {f l:Nat→Nat} {P:List Nat} (hl:∀i,i<N→l i≤L) (hf:∀i,i<N→(0<l i↔0<f i)) (hP:RowN (((List.range N).map f).filter fun c=>decide (0<c)) L P) (hn:2≤many N f)
  (hr:room N L l≤2^L):(P.take (2*many N f - 2)).sum≤cost N f l∧(room N L l<2^L→(P.take (2*many N f - 2)).sum<cost N f l):=by
 obtain ⟨j,rfl⟩:∃j,L=j+1:=by
  rcases L with _ | j
  ·exfalso
   have h0:many N f=0:=by
    unfold many
    rw [zaP (h:=fun _=>0) (fun i hi=>by
     have h1:=hl i hi
     have h2:=hf i hi
     rw [if_neg (by omega)]),zc6]
   omega
  ·exact ⟨j,rfl⟩
 have hm:many N l=many N f:=by
  unfold many
  refine zaP fun i hi=>?_
  have:=hf i hi
  by_cases h:0<f i
  ·rw [if_pos h,if_pos (this.2 h)]
  ·rw [if_neg h,if_neg (fun h'=>h (this.1 h'))]
 have hw:=zfl N (j+1) l
 rw [hm] at hw
 obtain ⟨X,hX⟩:∃X,(List.range N).map (fun i=>(f i,j+1 - l i))=X:=⟨_,rfl⟩
 have hz:∀x∈X,x.1=0→j+1≤x.2:=by
  intro x hx h0
  rw [←hX] at hx
  obtain ⟨i,hi,rfl⟩:=List.mem_map.1 hx
  have:=hf i (List.mem_range.1 hi)
  simp only at h0 ⊢
  omega
 have hc:((List.range N).map f).filter (fun c=>decide (0<c))=(X.map Prod.fst).filter fun f=>decide (0<f):=by
  rw [←hX,List.map_map];rfl
 obtain ⟨h1,h2,h3⟩:=zfU hz hc (Nat.le_refl _) hP
 have e1:Wgt (j+1) X=sm N (fun i=>2^(j+1) - 2^(j+1 - l i)):=by
  unfold Wgt
  rw [←hX,List.map_map,zfd]
  refine zaP fun i hi=>?_
  have:=hl i hi
  simp only [Function.comp]
  rw [Nat.min_eq_left (by omega)]
 have e2:Cst (j+1) X=cost N f l:=by
  unfold Cst cost
  rw [←hX,List.map_map,zfd]
  refine zaP fun i hi=>?_
  have:=hl i hi
  simp only [Function.comp]
  rw [show j+1 - (j+1 - l i)=l i by omega]
 rw [←e1] at hw
 rw [e2] at h2 h3
 obtain ⟨W,hW⟩:∃W,Wgt (j+1) X=W:=⟨_,rfl⟩
 rw [hW] at h1 h2 h3 hw
 obtain ⟨n,hN⟩:∃n,many N f=n:=⟨_,rfl⟩
 rw [hN] at hw hn ⊢
 obtain ⟨m,rfl⟩:∃m,n=m+2:=⟨n - 2,by omega⟩
 have hp:=zcd j
 rw [Nat.pow_succ] at hw hr ⊢
 have hw2:(2*(m+2) - 2)*2^j+(2*2^j - room N (j+1) l)=W:=by
  rw [show 2*(m+2) - 2=2*m+2 by omega,Nat.add_mul]
  rw [Nat.add_mul,show m*(2^j*2)=2*m*2^j by rw [Nat.mul_comm (2^j),←Nat.mul_assoc,Nat.mul_comm m]] at hw
  omega
 have hq:2*(m+2) - 2≤W/2^j:=by
  rw [Nat.le_div_iff_mul_le hp];omega
 refine ⟨Nat.le_trans (zgw P hq) h2,fun hlt=>?_⟩
 by_cases hr:W%2^j=0
 ·have hlt2:2*(m+2) - 2<W/2^j:=by
   rcases Nat.lt_or_ge (2*(m+2) - 2) (W/2^j) with h | h
   ·exact h
   ·exfalso
    have e:=Nat.div_add_mod W (2^j)
    rw [hr,show W/2^j=2*(m+2) - 2 by omega,Nat.mul_comm] at e
    omega
  have hpos:∀c∈P,0<c:=RowN.pos (fun c hc'=>by simpa using (List.mem_filter.1 hc').2) hP
  exact Nat.lt_of_lt_of_le (zkv hpos hlt2 h1) h2
 ·exact Nat.lt_of_le_of_lt (zgw P hq) (h3 hr)
theorem zlY {N L:Nat} {f l w:Nat→Nat} {P:List Nat} (hP:RowN (((List.range N).map f).filter fun c=>decide (0<c)) L P) (hn:2≤many N f)
  (hl:∀i,i<N→l i≤L) (hz:∀i,i<N→f i=0→l i=0) (hw:∀i,i<N→w i+2^(L - l i)≤2^L) (hs:(many N f - 1)*2^L≤sm N w) (hc:cost N f l=(P.take (2*many N f - 2)).sum):
  (∀i,i<N→(0<l i↔0<f i))∧room N L l=2^L:=by
 obtain ⟨n,hN⟩:∃n,many N f=n:=⟨_,rfl⟩
 have hp:=zcd L
 have key:∀k,k<N→0<f k→0<l k:=by
  intro k hk hfk
  rcases Nat.eq_zero_or_pos (l k) with h0 | h0
  ·exfalso
   have h1:sm N w+many N f≤(sm N fun i=>if 0<f i then 2^L else 0):=by
    unfold many
    rw [←zb9]
    refine zev fun i hi=>?_
    have h2:=hw i hi
    have h3:=zcd (L - l i)
    by_cases h:0<f i
    ·rw [if_pos h,if_pos h];omega
    ·rw [if_neg h,if_neg h]
     have h4:=hz i hi (by omega)
     rw [h4] at h2
     simp at h2
     omega
   have h2:(sm N fun i=>if 0<f i then 2^L else 0)=many N f*2^L:=by
    unfold many
    rw [Nat.mul_comm,←zhN]
    refine zaP fun i hi=>?_
    by_cases h:0<f i
    ·rw [if_pos h,if_pos h];omega
    ·rw [if_neg h,if_neg h];omega
   have h3:sm N w+many N f+2^L≤many N f*2^L+1:=by
    have h4:sm N (fun i=>w i+(if 0<f i then 1 else 0)+(if i=k then 2^L - 1 else 0))≤sm N fun i=>if 0<f i then 2^L else 0:=by
     refine zev fun i hi=>?_
     have h2:=hw i hi
     have h3:=zcd (L - l i)
     by_cases hik:i=k
     ·subst hik
      rw [h0] at h2
      simp at h2
      rw [if_pos hfk,if_pos hfk,if_pos rfl]
      omega
     ·rw [if_neg hik]
      by_cases h:0<f i
      ·rw [if_pos h,if_pos h];omega
      ·rw [if_neg h,if_neg h]
       have h4:=hz i hi (by omega)
       rw [h4] at h2
       simp at h2
       omega
    rw [zb9,zb9,zfI hk,h2] at h4
    unfold many at h4 ⊢
    omega
   rw [hN] at h3 hs hn
   obtain ⟨m,rfl⟩:∃m,n=m+1:=⟨n - 1,by omega⟩
   rw [Nat.add_mul] at h3
   rw [Nat.add_sub_cancel] at hs
   omega
  ·exact h0
 have hf:∀i,i<N→(0<l i↔0<f i):=fun i hi=>⟨fun h=>by
  rcases Nat.eq_zero_or_pos (f i) with h0 | h0
  ·have:=hz i hi h0
   omega
  ·exact h0,key i hi⟩
 refine ⟨hf,?_⟩
 have hm:many N l=many N f:=by
  unfold many
  refine zaP fun i hi=>?_
  have:=hf i hi
  by_cases h:0<f i
  ·rw [if_pos h,if_pos (this.2 h)]
  ·rw [if_neg h,if_neg (fun h'=>h (this.1 h'))]
 have h1:=zfl N L l
 have h2:sm N w≤sm N (fun i=>2^L - 2^(L - l i)):=zev fun i hi=>by
  have:=hw i hi
  omega
 rw [hm] at h1
 have hr:room N L l≤2^L:=by
  rw [hN] at h1 hs hn
  obtain ⟨m,rfl⟩:∃m,n=m+1:=⟨n - 1,by omega⟩
  rw [Nat.add_mul] at h1
  rw [Nat.add_sub_cancel] at hs
  omega
 have h3:=(zlB hl hf hP hn hr).2
 rcases Nat.lt_or_ge (room N L l) (2^L) with h | h
 ·have:=h3 h
  omega
 ·omega
inductive Tr where
 | leaf (s c:Nat)
 | node (a b:Tr)
def Tr.cost:Tr→Nat
 | .leaf _ c=>c
 | .node a b=>a.cost+b.cost
def Tr.cnt (i:Nat):Tr→Nat
 | .leaf s _=>if i=s then 1 else 0
 | .node a b=>a.cnt i+b.cnt i
def Tr.wt (i:Nat):Nat→Tr→Nat
 | 0,_=>0
 | j+1,.leaf s _=>if i=s then 2^j else 0
 | j+1,.node a b=>a.wt i j+b.wt i j
def Tr.Fits (N:Nat) (f:Nat→Nat):Tr→Prop
 | .leaf s c=>s<N∧c=f s
 | .node a b=>a.Fits N f∧b.Fits N f
def Tr.isNode:Tr→Prop
 | .leaf _ _=>False
 | .node _ _=>True
def pairT:List Tr→List Tr
 | a::b::r=> .node a b::pairT r
 | _=>[]
theorem zdI:∀l:List Tr,(pairT l).map Tr.cost=pairN (l.map Tr.cost)
 | []=>by simp [pairT,pairN]
 | [_]=>by simp [pairT,pairN]
 | a::b::r=>by simp [pairT,pairN,Tr.cost,zdI r]
theorem zd7 (l:List Tr):(pairT l).length=l.length/2:=by
 have:=congrArg List.length (zdI l)
 rw [List.length_map,zcZ,List.length_map] at this
 exact this
theorem zfD:∀(l:List Tr) (k:Nat),(pairT l).take k=pairT (l.take (2*k))
 | _,0=>by simp [pairT]
 | [],k+1=>by simp [pairT]
 | [_],k+1=>by
  rw [show 2*(k+1)=2*k+1+1 by omega];simp [pairT]
 | a::b::r,k+1=>by
  rw [show 2*(k+1)=2*k+1+1 by omega]
  simp only [pairT,List.take_succ_cons,zfD r k]
theorem zbl:∀(l:List Tr),∀t∈pairT l,∃a b,t= .node a b∧a∈l∧b∈l
 | [],t,h=>by simp [pairT] at h
 | [_],t,h=>by simp [pairT] at h
 | a::b::r,t,h=>by
  rcases List.mem_cons.1 h with rfl | h
  ·exact ⟨a,b,rfl,by simp,by simp⟩
  ·obtain ⟨x,y,e,hx,hy⟩:=zbl r t h
   exact ⟨x,y,e,by simp [hx],by simp [hy]⟩
def unp:List Tr→List Tr
 | []=>[]
 | .leaf _ _::r=>unp r
 | .node a b::r=>a::b::unp r
theorem zep:∀{l M:List Tr},M.Sublist (pairT l)→(unp M).Sublist l
 | [],M,h=>by
  simp only [pairT] at h
  rw [List.sublist_nil.1 h];exact List.Sublist.refl _
 | [a],M,h=>by
  simp only [pairT] at h
  rw [List.sublist_nil.1 h];exact List.nil_sublist _
 | a::b::r,M,h=>by
  simp only [pairT] at h
  cases h with
  | cons _ h=>exact ((zep h).cons b).cons a
  | cons_cons _ h=>exact ((zep h).cons_cons b).cons_cons a
def cntL (i:Nat) (l:List Tr):Nat:=(l.map (Tr.cnt i)).sum
def wtL (i j:Nat) (l:List Tr):Nat:=(l.map (Tr.wt i j)).sum
theorem zgt (i:Nat):∀{M:List Tr},(∀t∈M,t.isNode)→cntL i M=cntL i (unp M)
 | [],_=>rfl
 | .leaf _ _::r,h=>(h _ (List.mem_cons_self ..)).elim
 | .node a b::r,h=>by
  have:=zgt i (M:=r) (fun t ht=>h t (List.mem_cons_of_mem _ ht))
  simp only [cntL,List.map_cons,List.sum_cons,unp,Tr.cnt] at this ⊢
  omega
theorem znw (i j:Nat):∀{M:List Tr},(∀t∈M,t.isNode)→wtL i (j+1) M=wtL i j (unp M)
 | [],_=>rfl
 | .leaf _ _::r,h=>(h _ (List.mem_cons_self ..)).elim
 | .node a b::r,h=>by
  have:=znw i j (M:=r) (fun t ht=>h t (List.mem_cons_of_mem _ ht))
  simp only [wtL,List.map_cons,List.sum_cons,unp,Tr.wt] at this ⊢
  omega
def Lv:List Tr→List Nat→Prop
 | [],[]=>True
 | .leaf s _::r,i::l=>s=i∧Lv r l
 | _,_=>False
theorem zew (i j:Nat):∀{ls M:List Tr} {ss:List Nat},Lv ls ss→ss.Pairwise (· < ·)→M.Sublist ls→cntL i M≤1∧wtL i (j+1) M=cntL i M*2^j∧(0<cntL i M→i∈ss)
 | [],M,[],_,_,h=>by
  rw [List.sublist_nil.1 h]
  simp [cntL,wtL]
 | .leaf s c::r,M,k::l,⟨e,hl⟩,hp,h=>by
  subst e
  cases h with
  | cons _ h=>
   obtain ⟨h1,h2,h3⟩:=zew i j hl (List.pairwise_cons.1 hp).2 h
   exact ⟨h1,h2,fun h=>List.mem_cons_of_mem _ (h3 h)⟩
  | @cons_cons M _ _ h=>
   obtain ⟨h1,h2,h3⟩:=zew i j hl (List.pairwise_cons.1 hp).2 h
   simp only [cntL,wtL,List.map_cons,List.sum_cons,Tr.cnt,Tr.wt] at h1 h2 h3 ⊢
   by_cases e:i=s
   ·subst e
    have h0:(M.map (Tr.cnt i)).sum=0:=by
     rcases Nat.eq_zero_or_pos ((M.map (Tr.cnt i)).sum) with h | h
     ·exact h
     ·have:=(List.pairwise_cons.1 hp).1 i (h3 h)
      omega
    rw [h0] at h2 ⊢
    simp [h2]
   ·simp only [if_neg e,Nat.zero_add]
    exact ⟨h1,h2,fun h=>List.mem_cons_of_mem _ (h3 h)⟩
 | [],_,_::_,h,_,_=>h.elim
 | .leaf _ _::_,_,[],h,_,_=>h.elim
 | .node _ _::_,_,_,h,_,_=>by cases h
def RowT (ls:List Tr):Nat→List Tr→Prop
 | 0,P=>P=[]
 | j+1,P=> ∃Q,RowT ls j Q∧Up (P.map Tr.cost)∧P.Perm (ls++pairT Q)
theorem RowT.nums {ls:List Tr}:∀{j:Nat} {P:List Tr},RowT ls j P→RowN (ls.map Tr.cost) j (P.map Tr.cost)
 | 0,_,h=>by subst h;rfl
 | _+1,_,⟨Q,hQ,hu,hp⟩=>⟨_,hQ.nums,hu,by
  have:=hp.map Tr.cost
  rw [List.map_append,zdI] at this
  exact this⟩
theorem zhC (i:Nat) {l m:List Tr} (h:l.Perm m):cntL i l=cntL i m:=zdu (h.map _)
theorem zpV (i j:Nat) {l m:List Tr} (h:l.Perm m):wtL i j l=wtL i j m:=zdu (h.map _)
theorem zcj (i:Nat) (l m:List Tr):cntL i (l++m)=cntL i l+cntL i m:=by simp [cntL]
theorem zll (i j:Nat) (l m:List Tr):wtL i j (l++m)=wtL i j l+wtL i j m:=by simp [wtL]
theorem RowT.each {ls:List Tr} {ss:List Nat} (hl:Lv ls ss) (hs:ss.Pairwise (· < ·)) (i:Nat):∀{j:Nat} {P M:List Tr},RowT ls j P→M.Sublist P→cntL i M≤j∧wtL i j M+2^(j - cntL i M)≤2^j
 | 0,_,M,h,hM=>by
  subst h
  rw [List.sublist_nil.1 hM]
  simp [cntL,wtL]
 | j+1,P,M,⟨Q,hQ,_,hp⟩,hM=>by
  obtain ⟨M',hM',hs'⟩:=List.exists_perm_sublist hM hp
  obtain ⟨M1,M2,rfl,h1,h2⟩:=List.sublist_append_iff.1 hs'
  have hn:∀t∈M2,t.isNode:=fun t ht=>by
   obtain ⟨a,b,rfl,_⟩:=zbl _ t (h2.mem ht)
   trivial
  rw [←zhC i hM',←zpV i _ hM',zcj,zll,zgt i hn,znw i j hn]
  obtain ⟨i1,i2⟩:=RowT.each hl hs i hQ (zep h2)
  obtain ⟨o1,o2,-⟩:=zew i j hl hs h1
  rw [o2]
  have e:2^(j+1)=2^j+2^j:=by rw [Nat.pow_succ];omega
  obtain ⟨c,hc⟩:∃c,cntL i (unp M2)=c:=⟨_,rfl⟩
  rw [hc] at i1 i2 ⊢
  rcases Nat.eq_zero_or_pos (cntL i M1) with h0 | h0
  ·rw [h0]
   refine ⟨by omega,?_⟩
   have e2:2^(j+1 - (0+c))=2^(j - c)+2^(j - c):=by
    rw [show j+1 - (0+c)=(j - c)+1 by omega,Nat.pow_succ];omega
   have e3:2^(j - c)≤2^j:=Nat.pow_le_pow_right (by decide) (by omega)
   rw [e2]
   omega
  ·obtain h0:cntL i M1=1:=by omega
   rw [h0]
   refine ⟨by omega,?_⟩
   rw [show j+1 - (1+c)=j - c by omega]
   omega
theorem RowT.fits {ls:List Tr} {N:Nat} {f:Nat→Nat} (hl:∀t∈ls,t.Fits N f∧¬t.isNode):∀{j:Nat} {P:List Tr},RowT ls j P→∀t∈P,t.Fits N f∧t.cost=sm N (fun i=>f i*t.cnt i)∧0<j∧sm N (fun i=>t.wt i j)=2^(j - 1)
 | 0,_,h,t,ht=>by subst h;cases ht
 | j+1,P,⟨Q,hQ,_,hp⟩,t,ht=>by
  rcases List.mem_append.1 (hp.mem_iff.1 ht) with h | h
  ·obtain ⟨h1,h2⟩:=hl t h
   cases t with
   | node a b=>exact absurd trivial h2
   | leaf s c=>
    obtain ⟨hs,rfl⟩:=h1
    refine ⟨⟨hs,rfl⟩,?_,by omega,?_⟩
    ·simp only [Tr.cost,Tr.cnt]
     rw [zaP (h:=fun i=>if i=s then f s else 0) (fun i _=>by by_cases e:i=s<;>simp [e]),zfI hs]
    ·simp only [Tr.wt]
     rw [zfI hs];rfl
  ·obtain ⟨a,b,rfl,ha,hb⟩:=zbl _ t h
   obtain ⟨a1,a2,a3,a4⟩:=RowT.fits hl hQ a ha
   obtain ⟨b1,b2,_,b4⟩:=RowT.fits hl hQ b hb
   refine ⟨⟨a1,b1⟩,?_,by omega,?_⟩
   ·simp only [Tr.cost,Tr.cnt,a2,b2]
    rw [←zb9]
    exact zaP fun i _=>by rw [Nat.mul_add]
   ·simp only [Tr.wt]
    rw [zb9,a4,b4,←Nat.two_mul,←Nat.pow_succ']
    congr 1
    omega
theorem zhe (N:Nat) (f:Nat→Nat):∀M:List Tr,(∀t∈M,t.cost=sm N (fun i=>f i*t.cnt i))→(M.map Tr.cost).sum=sm N (fun i=>f i*cntL i M)
 | [],_=>by simp [cntL,zc6]
 | t::M,h=>by
  rw [List.map_cons,List.sum_cons,h t (List.mem_cons_self ..),zhe N f M (fun t ht=>h t (List.mem_cons_of_mem _ ht)),←zb9]
  refine zaP fun i _=>?_
  simp [cntL,Nat.mul_add]
theorem zkt (N j:Nat):∀M:List Tr,(∀t∈M,sm N (fun i=>t.wt i (j+1))=2^j)→sm N (fun i=>wtL i (j+1) M)=M.length*2^j
 | [],_=>by simp [wtL,zc6]
 | t::M,h=>by
  have h1:=h t (List.mem_cons_self ..)
  have h2:=zkt N j M (fun t ht=>h t (List.mem_cons_of_mem _ ht))
  have e:sm N (fun i=>wtL i (j+1) (t::M))=sm N (fun i=>t.wt i (j+1))+sm N (fun i=>wtL i (j+1) M):=by
   rw [←zb9]
   exact zaP fun i _=>by simp only [wtL,List.map_cons,List.sum_cons]
  rw [e,h1,h2,List.length_cons,Nat.add_mul,Nat.one_mul,Nat.add_comm]
theorem RowT.code {ls:List Tr} {ss:List Nat} {N L:Nat} {f:Nat→Nat} {P:List Tr} (hl:Lv ls ss) (hs:ss.Pairwise (· < ·)) (hf:∀t∈ls,t.Fits N f∧¬t.isNode) (hss:∀i,i<N→f i=0→i ∉ ss)
  (hc:ls.map Tr.cost=((List.range N).map f).filter fun c=>decide (0<c)) (hP:RowT ls L P) (hn:2≤many N f) (hL:many N f≤2^L):
  2*many N f - 2≤P.length∧(∀i,i<N→cntL i (P.take (2*many N f - 2))≤L∧(0<cntL i (P.take (2*many N f - 2))↔0<f i))∧room N L (fun i=>cntL i (P.take (2*many N f - 2)))=2^L∧
   cost N f (fun i=>cntL i (P.take (2*many N f - 2)))=((P.map Tr.cost).take (2*many N f - 2)).sum:=by
 have hN:=hP.nums
 rw [hc] at hN
 obtain ⟨j,rfl⟩:∃j,L=j+1:=by
  rcases L with _ | j
  ·simp at hL;omega
  ·exact ⟨j,rfl⟩
 have hlen:2*many N f - 2≤P.length:=by
  have:=RowN.enough hN (by rw [zc1];exact hL) (by rw [zc1];omega)
  rw [zc1,List.length_map] at this
  exact this
 obtain ⟨M,hM⟩:∃M,P.take (2*many N f - 2)=M:=⟨_,rfl⟩
 have hMs:M.Sublist P:=by rw [←hM];exact List.take_sublist _ _
 have hML:M.length=2*many N f - 2:=by rw [←hM,List.length_take,Nat.min_eq_left hlen]
 have hfit:=RowT.fits hf hP
 have heach:=fun i=>RowT.each hl hs i hP hMs
 have hcost:cost N f (fun i=>cntL i M)=((P.map Tr.cost).take (2*many N f - 2)).sum:=by
  rw [←List.map_take,hM,zhe N f M (fun t ht=>(hfit t (hMs.mem ht)).2.1)]
  rfl
 have hwt:sm N (fun i=>wtL i (j+1) M)=(2*many N f - 2)*2^j:=by
  rw [←hML]
  exact zkt N j M (fun t ht=>(hfit t (hMs.mem ht)).2.2.2)
 have hzero:∀i,i<N→f i=0→cntL i M=0:=by
  intro i hi h0
  have hni:=hss i hi h0
  have key:∀{k:Nat} {Q M:List Tr},RowT ls k Q→M.Sublist Q→cntL i M=0:=by
   intro k
   induction k with
   | zero=>
    intro Q M hQ hM
    cases hQ
    rw [List.sublist_nil.1 hM];rfl
   | succ k ih=>
    rintro Q M ⟨Q',hQ',_,hp⟩ hM
    obtain ⟨M',hM',hs'⟩:=List.exists_perm_sublist hM hp
    obtain ⟨M1,M2,rfl,h1,h2⟩:=List.sublist_append_iff.1 hs'
    have hn:∀t∈M2,t.isNode:=fun t ht=>by
     obtain ⟨a,b,rfl,_⟩:=zbl _ t (h2.mem ht)
     trivial
    rw [←zhC i hM',zcj,zgt i hn,ih hQ' (zep h2)]
    rcases Nat.eq_zero_or_pos (cntL i M1) with h | h
    ·omega
    ·exact absurd ((zew i 0 hl hs h1).2.2 h) hni
  exact key hP hMs
 rw [hM]
 obtain ⟨h1,h2⟩:=zlY (l:=fun i=>cntL i M) (w:=fun i=>wtL i (j+1) M) hN hn (fun i _=>(heach i).1) hzero (fun i _=>(heach i).2) (by
  rw [hwt,Nat.pow_succ,←Nat.mul_assoc,Nat.mul_right_comm]
  exact Nat.mul_le_mul_right _ (by omega)) hcost
 exact ⟨hlen,fun i hi=>⟨(heach i).1,h1 i hi⟩,h2,hcost⟩
end
section
open Go.RowKit
theorem Below.drewN' {B:Nat} {a w:World} (h:Below B a w) (n:Nat):Below B a (w.drewN n):=⟨h.os,h.tape,h.output,h.size,h.block⟩
def Makes (P:Program) (f:FuncId) (args:Array Value) (w:World) (v:Value):Prop:=
 Calls P f args w fun e w'=>e= .returned v∧Below w.heap.size w w'
theorem Below.thn {a b c:World} (h:Below a.heap.size a b) (k:Below b.heap.size b c):Below a.heap.size a c:=h.trans (k.mono h.size)
theorem Below.al {a b:World} (h:Below a.heap.size a b) (o:Obj):Below a.heap.size a (b.alloc o):=h.alloc h.size o
theorem Below.al1 (w:World) (o:Obj):Below w.heap.size w (w.alloc o):=Below.al (Below.refl _ _) o
theorem Below.al2 (w:World) (o p:Obj):Below w.heap.size w ((w.alloc o).alloc p):=Below.al (Below.al1 w o) p
theorem Below.al3 (w:World) (o p q:Obj):Below w.heap.size w (((w.alloc o).alloc p).alloc q):=Below.al (Below.al2 w o p) q
theorem Below.al4 (w:World) (o p q r:Obj):Below w.heap.size w ((((w.alloc o).alloc p).alloc q).alloc r):=Below.al (Below.al3 w o p q) r
theorem zdf {w:World} {c:Array Value} {t:TypeId} {n i:Nat} {v:Value} (hn:n=w.heap.size) (hc:c[i]? =some v):(w.alloc (.cells c t)).cell? ⟨n,i,none⟩=some v:=by
 rw [World.cell?_alloc_at c t n i hn];exact hc
theorem zaf {w wx:World} {a:Addr} {v:Value} (hb:Below w.heap.size w wx) (h:w.cell? a=some v) (hf:w.frozen? a=false):wx.frozen? a=false:=
 (hb.frozen (World.block_lt_of_cell? _ _ h)).trans hf
theorem zey {k:IntKind} {a b:Int} (h:a=b):Ending.returned (.int k a)= .returned (.int k b):=by rw [h]
end
section
open Go.RowKit
structure After (w:World) where
 world:World
 below:Below w.heap.size w world
theorem After.ne (w:World):Nonempty (After w):=⟨⟨w,Below.refl _ _⟩⟩
theorem Makes.after {P:Program} {f:FuncId} {args:Array Value} {w:World} {v:Value} {n:After w} (h:Makes P f args n.world v):
  Calls P f args n.world fun e w''=>e= .returned v∧∃m:After w,w''=m.world:=
 Calls.mono h fun _ w'' ⟨he,hb⟩=>⟨he,⟨w'',Below.thn n.below hb⟩,rfl⟩
theorem After.rule {W:World} {a:Addr} {v:Value} (h:W.cell? a=some v):∀n:After W,n.world.cell? a=some v:=fun n=>cell_later n.below h
theorem zbZ {P:Program} {id:Nat} {Q:Exit→Act→World→Prop} {a:Act} {W:World} {l:List Oper} (n:After W) (hm:P.follows .mixedOrders=true) (hB:Region.lexB .any l.toArray=true)
  (h:wpQuiet P l.toArray (fun w'=> ∃m:After W,w'=m.world) (fun a'=> ∀w',(∃m:After W,w'=m.world)→Q .normal a' w') l a):(Code.region id l.toArray true).wp P Q a n.world:=
 wp_region_quiet (C:=fun w'=> ∃m:After W,w'=m.world) hm hB ⟨⟨n.world.drew,Below.drew n.below⟩,rfl⟩ (by simpa using h)
end
end Go.Proofs.YtedakhgaghfogaaGreat
