/- Several texts in one, each with its own head. -/
import Derived.Test.YtedakhgaghfogaaGreatQs7
import Derived.Test.YtedakhgaghfogaaGreatQs17
import Derived.Test.YtedakhgaghfogaaGreatQs2
import Derived.Test.YtedakhgaghfogaaGreatQs10
namespace Go.Proofs.YtedakhgaghfogaaGreat
section
open Go.RowKit Go.Maps
def WrY (G:Nat→Prop) (base B:Nat) (P:Pt) (W w:World):Prop:=
 ∃sv,Wr w base B sv (nmP P) (szP P)∧base≤w.heap.size∧szP P≤8388608∧Turns (fun b=> ¬G b) W w∧∀b,G b→b≠B∧sv.ownBlock≠some b∧b<W.heap.size
theorem WrY.turns {G:Nat→Prop} {base B:Nat} {P:Pt} {W w:World} (h:WrY G base B P W w):Turns (fun b=> ¬G b) W w:=by obtain ⟨_,_,_,_,h,_⟩:=h;exact h
theorem WrY.max {G:Nat→Prop} {base B:Nat} {P:Pt} {W w:World} (h:WrY G base B P W w):szP P≤8388608:=by obtain ⟨_,_,_,h,_⟩:=h;exact h
theorem WrY.of {G:Nat→Prop} {base B:Nat} {Q:Pt} {W w w':World} {sv:Value} (h2:base≤w.heap.size) (h4:Turns (fun b=> ¬G b) W w) (h5:∀b,G b→b≠B∧sv.ownBlock≠some b∧b<W.heap.size) (hQ:szP Q≤8388608)
  (hto:WrTo base B sv (nmP Q) (szP Q) w w'):WrY G base B Q W w':=by
 obtain ⟨sv',k1,k2,k3⟩:=hto
 refine ⟨sv',k1,Nat.le_trans h2 k2.size,hQ,h4.trans (k2.mono fun i _ hi hg=>?_),fun b hb=>?_⟩
 ·obtain ⟨a1,a2,-⟩:=h5 i hg
  rcases hi with hi | hi
  ·exact a1 hi
  ·exact a2 hi
 ·obtain ⟨a1,a2,a3⟩:=h5 b hb
  refine ⟨a1,fun hs=>?_,a3⟩
  rcases k3 b hs with hs | hs
  ·exact a2 hs
  ·have:=h4.size;omega
theorem putY {G:Nat→Prop} {base B v k:Nat} {P:Pt} {W w:World} (h:WrY G base B P W w) (hv:v<2^k) (hk:k≤24) (hmax:szP P+k≤8388608):
  Calls Tryz.prog 120 #[.pointer (some ⟨B,0,none⟩),.int .u32 (v:Int),.int .i64 (k:Int)] w fun e w'=>e= .returned (.int .i64 0)∧WrY G base B (P++[(v,k)]) W w':=by
 obtain ⟨e1,e2⟩:=ze8 P v k
 obtain ⟨sv,h1,h2,-,h4,h5⟩:=h
 exact (zlU base B (nmP P) (szP P) v k sv w h1 hv hk hmax h2).mono fun e w' ⟨he,hto⟩=>⟨he,WrY.of h2 h4 h5 (by rw [e2];exact hmax) (by rw [e1,e2];exact hto)⟩
theorem zru {G:Nat→Prop} {base B:Nat} {P:Pt} {W w:World} (h:WrY G base B P W w) (hmax:szP P+8≤8388608):
  Calls Tryz.prog 172 #[.pointer (some ⟨B,0,none⟩)] w fun e w'=>e= .returned (.int .i64 0)∧WrY G base B (P++[(0,(8 - szP P%8)%8)]) W w':=by
 obtain ⟨e1,e2⟩:=ze8 P 0 ((8 - szP P%8)%8)
 rw [Nat.zero_mul,Nat.add_zero] at e1
 obtain ⟨sv,h1,h2,h3,h4,h5⟩:=h
 exact (zkV base B (nmP P) (szP P) sv w h1 h3 h2).mono fun e w' ⟨he,hto⟩=>⟨he,WrY.of h2 h4 h5 (by rw [e2];omega) (by rw [e1,e2];exact hto)⟩
theorem WrY.below {G:Nat→Prop} {base B:Nat} {P:Pt} {W w w':World} (h:WrY G base B P W w) (hb:Below w.heap.size w w'):WrY G base B P W w':=by
 obtain ⟨sv,h1,h2,h3,h4,h5⟩:=h
 exact ⟨sv,h1.below hb,Nat.le_trans h2 hb.size,h3,h4.trans (Turns.of_below' hb),h5⟩
theorem WrY.more {G:Nat→Prop} {base B:Nat} {P:Pt} {W w w':World} (h:WrY G base B P W w) (hb:Below w.heap.size w w'):WrY (fun b=>G b∨(w.heap.size≤b∧b<w'.heap.size)) base B P w' w':=by
 obtain ⟨sv,h1,h2,h3,h4,h5⟩:=h
 refine ⟨sv,h1.below hb,Nat.le_trans h2 hb.size,h3,Turns.refl _ _,fun b hb'=>?_⟩
 have hs:=h1.size
 rcases hb' with hg | ⟨g1,g2⟩
 ·obtain ⟨a1,a2,a3⟩:=h5 b hg
  exact ⟨a1,a2,by have:=h4.size;have:=hb.size;omega⟩
 ·refine ⟨by omega,fun e=>?_,g2⟩
  have:=(h1.own.lt b e).2
  omega
theorem WrY.less {G G':Nat→Prop} {base B:Nat} {P:Pt} {W W' w:World} (h:WrY G' base B P W' w) (hG:∀b,G b→G' b∧b<W.heap.size) (ht:Turns (fun b=> ¬G b) W W'):WrY G base B P W w:=by
 obtain ⟨sv,h1,h2,h3,h4,h5⟩:=h
 refine ⟨sv,h1,h2,h3,ht.trans (h4.mono fun i _ hi hg=>hi (hG i hg).1),fun b hb=>?_⟩
 obtain ⟨a1,a2,-⟩:=h5 b (hG b hb).1
 exact ⟨a1,a2,(hG b hb).2⟩
theorem WrY.congr {G:Nat→Prop} {base B:Nat} {P Q:Pt} {W w:World} (h:WrY G base B P W w) (e:P=Q):WrY G base B Q W w:=e ▸ h
def WrF (G:Nat→Prop) (W:World) (F:World→Prop) (base B:Nat) (P:Pt) (w:World):Prop:=
 ∃(G':Nat→Prop) (W':World),WrY G' base B P W' w∧(∀b,G b→G' b∧b<W.heap.size)∧Turns (fun b=> ¬G b) W W'∧∀w',Turns (fun b=> ¬G' b) W' w'→F w'
theorem WrF.start {G:Nat→Prop} {W w:World} {F:World→Prop} {base B:Nat} {P:Pt} (h:WrY G base B P W w) (hF:∀w',Turns (fun b=> ¬G b) W w'→F w'):WrF G W F base B P w:=
 ⟨G,W,h,fun b hb=>⟨hb,by obtain ⟨_,_,_,_,_,h5⟩:=h;exact (h5 b hb).2.2⟩,Turns.refl _ _,hF⟩
theorem WrF.now {G:Nat→Prop} {W w:World} {F:World→Prop} {base B:Nat} {P:Pt} (h:WrF G W F base B P w):F w:=by
 obtain ⟨G',W',h1,-,-,h4⟩:=h;exact h4 w h1.turns
theorem WrF.done {G:Nat→Prop} {W w:World} {F:World→Prop} {base B:Nat} {P:Pt} (h:WrF G W F base B P w):WrY G base B P W w:=by
 obtain ⟨G',W',h1,h2,h3,-⟩:=h;exact h1.less h2 h3
theorem WrF.put {G:Nat→Prop} {W w:World} {F:World→Prop} {base B v k:Nat} {P:Pt} (h:WrF G W F base B P w) (hv:v<2^k) (hk:k≤24) (hmax:szP P+k≤8388608):
  Calls Tryz.prog 120 #[.pointer (some ⟨B,0,none⟩),.int .u32 (v:Int),.int .i64 (k:Int)] w fun e w'=>e= .returned (.int .i64 0)∧WrF G W F base B (P++[(v,k)]) w':=by
 obtain ⟨G',W',h1,h2,h3,h4⟩:=h
 exact (putY h1 hv hk hmax).mono fun e w' ⟨he,h5⟩=>⟨he,G',W',h5,h2,h3,h4⟩
theorem WrF.align {G:Nat→Prop} {W w:World} {F:World→Prop} {base B:Nat} {P:Pt} (h:WrF G W F base B P w) (hmax:szP P+8≤8388608):
  Calls Tryz.prog 172 #[.pointer (some ⟨B,0,none⟩)] w fun e w'=>e= .returned (.int .i64 0)∧WrF G W F base B (P++[(0,(8 - szP P%8)%8)]) w':=by
 obtain ⟨G',W',h1,h2,h3,h4⟩:=h
 exact (zru h1 hmax).mono fun e w' ⟨he,h5⟩=>⟨he,G',W',h5,h2,h3,h4⟩
theorem WrF.below {G:Nat→Prop} {W w w':World} {F:World→Prop} {base B:Nat} {P:Pt} (h:WrF G W F base B P w) (hb:Below w.heap.size w w'):WrF G W F base B P w':=by
 obtain ⟨G',W',h1,h2,h3,h4⟩:=h
 exact ⟨G',W',h1.below hb,h2,h3,h4⟩
theorem WrF.congr {G:Nat→Prop} {W w:World} {F:World→Prop} {base B:Nat} {P Q:Pt} (h:WrF G W F base B P w) (e:P=Q):WrF G W F base B Q w:=e ▸ h
end
section
def clens:List Nat:=List.replicate 13 4++List.replicate 6 5
theorem zbi (f:Nat→Nat):∀xs:List Nat,szP (xs.map fun i=>(f i,3))=3*xs.length
 | []=>rfl
 | x::xs=>by rw [List.map_cons,szP,zbi f xs,List.length_cons];omega
def putV (vs:List Nat):Pt:=vs.map fun v=>(cd (lq clens) clens.length v,lq clens v)
def putO (x y:List Nat):Pt:=(29,5)::(29,5)::(15,4)::(ordL.map (fun i=>(lq clens i,3))++putV (x++y))
theorem zeE:∀bs:List Nat,szP (bs.map fun b=>(b,8))=8*bs.length
 | []=>rfl
 | b::bs=>by rw [List.map_cons,szP,zeE bs,List.length_cons];omega
def putS (a:Nat) (bs:List Nat):Pt:=(0,(8 - a%8)%8)::(bs.length,16)::(65535 - bs.length,16)::bs.map fun b=>(b,8)
end
section
inductive Bn where
 | st (bs:List Nat)
 | fx (ts:List Tn)
 | dy (x y:List Nat) (ts:List Tn)
def Bn.kind:Bn→Nat
 | .st _=>0
 | .fx _=>1
 | .dy _ _ _=>2
def endP (A:List Nat):Pt:=[(cd (lq A) A.length 256,lq A 256)]
def Bn.body (a:Nat):Bn→Pt
 | .st bs=>putS a bs
 | .fx ts=>zaJ fixA fixD ts++endP fixA
 | .dy x y ts=>putO x y++(zaJ x y ts++endP x)
def Bn.put (a:Nat) (last:Bool) (b:Bn):Pt:=(if last then 1 else 0,1)::(b.kind,2)::b.body (a+3)
def Bn.tell (b:Bn) (o:List Nat):List Nat:=match b with
 | .st bs=>o++bs
 | .fx ts=>za1 ts o
 | .dy _ _ ts=>za1 ts o
def Bn.ok (b:Bn) (o:List Nat):Prop:=match b with
 | .st bs=>bs.length≤65535∧∀x∈bs,x<256
 | .fx ts=>mayT fixA fixD ts o
 | .dy x y ts=>x.length=286∧y.length=30∧(∀v∈x++y,v<16)∧chk x=0∧chk y=0∧0<lq x 256∧mayT x y ts o
def putB:Nat→List Bn→Pt
 | _,[]=>[]
 | a,b::r=>b.put a r.isEmpty++putB (a+szP (b.put a r.isEmpty)) r
def okB:List Bn→List Nat→Prop
 | [],_=>True
 | b::r,o=>b.ok o∧okB r (b.tell o)
theorem zbL (f:Nat→Nat) (N i:Nat):cd f N i<2^f i:=zkl _ _
end
section
structure IsRun (f:Nat→Nat) (at' d most n:Nat):Prop where
 le:n≤most
 eq:∀j,j<n→f (at'+j)=f (at'+j - d)
 ne:n<most→f (at'+n)≠f (at'+n - d)
theorem IsRun.uniq {f:Nat→Nat} {a d m n n':Nat} (h:IsRun f a d m n) (k:IsRun f a d m n'):n=n':=by
 rcases Nat.lt_trichotomy n n' with e | e | e
 ·exact absurd (k.eq n e) (h.ne (by have:=k.le;omega))
 ·exact e
 ·exact absurd (h.eq n' e) (k.ne (by have:=h.le;omega))
theorem IsRun.ex (f:Nat→Nat) (a d:Nat):∀m,∃n,IsRun f a d m n
 | 0=>⟨0,Nat.le_refl _,fun j h=>by omega,fun h=>by omega⟩
 | m+1=>by
  obtain ⟨n,h⟩:=IsRun.ex f a d m
  by_cases e:n<m
  ·exact ⟨n,by have:=h.le;omega,h.eq,fun _=>h.ne e⟩
  ·have e:n=m:=by have:=h.le;omega
   subst e
   by_cases g:f (a+n)=f (a+n - d)
   ·refine ⟨n+1,Nat.le_refl _,fun j hj=>?_,fun h=>by omega⟩
    by_cases hj':j=n
    ·rw [hj'];exact g
    ·exact h.eq j (by omega)
   ·exact ⟨n,by omega,h.eq,fun _=>g⟩
theorem IsRun.ge {f:Nat→Nat} {a d m n k:Nat} (h:IsRun f a d m n) (hk:k≤m) (he:∀j,j<k→f (a+j)=f (a+j - d)):k≤n:=by
 rcases Nat.lt_or_ge n k with e | e
 ·exact absurd (he n e) (h.ne (by omega))
 ·exact e
theorem IsRun.lt {f:Nat→Nat} {a d m n k:Nat} (h:IsRun f a d m n) (he:f (a+k)≠f (a+k - d)):n≤k:=by
 rcases Nat.lt_or_ge k n with e | e
 ·exact absurd (h.eq k e) he
 ·exact e
structure Tk where
 b:Nat
 n:Int
 d:Int
def Tk.size (t:Tk):Nat:=max t.n.toNat 1
def mo (N a:Nat):Nat:=min 258 (N - a)
def IsTok (f:Nat→Nat) (N a:Nat) (t:Tk):Prop:=
 (t=⟨f a,0,0⟩∧∀d n,1≤d→d≤32768→d≤a→IsRun f a d (mo N a) n→n<3)∨
 ∃n d:Nat,t=⟨0,n,d⟩∧3≤n∧1≤d∧d≤32768∧d≤a∧IsRun f a d (mo N a) n∧∀d' n',1≤d'→d'≤32768→d'≤a→IsRun f a d' (mo N a) n'→n'≤n∧(d'<d→n'<n)
theorem IsTok.uniq {f:Nat→Nat} {N a:Nat} {t t':Tk} (h:IsTok f N a t) (k:IsTok f N a t'):t=t':=by
 rcases h with ⟨rfl,h⟩ | ⟨n,d,rfl,h1,h2,h3,h4,h5,h6⟩<;>rcases k with ⟨rfl,k⟩ | ⟨n',d',rfl,k1,k2,k3,k4,k5,k6⟩
 ·rfl
 ·exact absurd (h d' n' k2 k3 k4 k5) (by omega)
 ·exact absurd (k d n h2 h3 h4 h5) (by omega)
 ·have e1:=h6 d' n' k2 k3 k4 k5
  have e2:=k6 d n h2 h3 h4 h5
  have en:n=n':=by omega
  have ed:d=d':=by omega
  rw [en,ed]
theorem IsTok.size_pos {f:Nat→Nat} {N a:Nat} {t:Tk} (_h:IsTok f N a t):1≤t.size:=by unfold Tk.size;omega
theorem IsTok.fits {f:Nat→Nat} {N a:Nat} {t:Tk} (h:IsTok f N a t) (ha:a<N):a+t.size≤N:=by
 rcases h with ⟨rfl,-⟩ | ⟨n,d,rfl,h1,-,-,-,h5,-⟩
 ·simp [Tk.size];omega
 ·have:=h5.le
  unfold mo at this
  simp [Tk.size];omega
inductive Toks (f:Nat→Nat) (N:Nat):Nat→List Tk→Prop
 | nil:Toks f N N []
 | cons {a:Nat} {t:Tk} {l:List Tk} (ha:a<N) (ht:IsTok f N a t) (hl:Toks f N (a+t.size) l):Toks f N a (t::l)
theorem Toks.uniq {f:Nat→Nat} {N a:Nat} {l l':List Tk} (h:Toks f N a l) (k:Toks f N a l'):l=l':=by
 induction h generalizing l' with
 | nil=>
  cases k with
  | nil=>rfl
  | cons ha=>omega
 | cons ha ht hl ih=>
  cases k with
  | nil=>omega
  | cons ha' ht' hl'=>
   obtain rfl:=ht.uniq ht'
   rw [ih hl']
theorem Toks.le {f:Nat→Nat} {N a:Nat} {l:List Tk} (h:Toks f N a l):a≤N∧l.length+a≤N:=by
 induction h with
 | nil=>simp
 | cons ha ht hl ih=>have:=ht.size_pos;simp;omega
inductive ToksTo (f:Nat→Nat) (N:Nat):Nat→List Tk→Prop
 | nil:ToksTo f N 0 []
 | snoc {a:Nat} {t:Tk} {l:List Tk} (hl:ToksTo f N a l) (ha:a<N) (ht:IsTok f N a t):ToksTo f N (a+t.size) (l++[t])
theorem ToksTo.join {f:Nat→Nat} {N a:Nat} {l:List Tk} (h:ToksTo f N a l):∀{r:List Tk},Toks f N a r→Toks f N 0 (l++r):=by
 induction h with
 | nil=>intro r hr;exact hr
 | snoc hl ha ht ih=>intro r hr;rw [List.append_assoc];exact ih (.cons ha ht hr)
theorem ToksTo.all {f:Nat→Nat} {N:Nat} {l:List Tk} (h:ToksTo f N N l):Toks f N 0 l:=by simpa using h.join .nil
theorem ToksTo.same {f:Nat→Nat} {N a:Nat} {l r:List Tk} (h:ToksTo f N a l) (k:Toks f N 0 (l++r)):Toks f N a r:=by
 induction h generalizing r with
 | nil=>exact k
 | snoc hl ha ht ih=>
  rw [List.append_assoc] at k
  have:=ih k
  cases this with
  | cons ha' ht' hl'=>exact hl'
theorem Toks.at {f:Nat→Nat} {N:Nat} {l:List Tk} (h:Toks f N 0 l) {i:Nat} (hi:i<l.length):∃a,ToksTo f N a (l.take i)∧a<N∧IsTok f N a l[i]∧ToksTo f N (a+l[i].size) (l.take (i+1)):=by
 have key:∀i,i≤l.length→∃a,ToksTo f N a (l.take i):=by
  intro i
  induction i with
  | zero=>intro _;exact ⟨0,.nil⟩
  | succ i ih=>
   intro hi
   obtain ⟨a,ha⟩:=ih (by omega)
   have hd:=ha.same (r:=l.drop i) (by rw [List.take_append_drop];exact h)
   rw [List.drop_eq_getElem_cons (by omega)] at hd
   cases hd with
   | cons h1 h2 h3=>
    refine ⟨a+l[i].size,?_⟩
    rw [List.take_succ_eq_append_getElem (by omega)]
    exact .snoc ha h1 h2
 obtain ⟨a,ha⟩:=key i (by omega)
 have hd:=ha.same (r:=l.drop i) (by rw [List.take_append_drop];exact h)
 rw [List.drop_eq_getElem_cons hi] at hd
 cases hd with
 | cons h1 h2 h3=>
  refine ⟨a,ha,h1,h2,?_⟩
  rw [List.take_succ_eq_append_getElem hi]
  exact .snoc ha h1 h2
theorem Toks.end {f:Nat→Nat} {N a:Nat} {l:List Tk} (h:Toks f N 0 l) (k:ToksTo f N a l):a=N:=by
 have:=k.same (r:=[]) (by simpa using h)
 cases this with
 | nil=>rfl
structure Scan (f:Nat→Nat) (a m d L D:Nat):Prop where
 all:∀d' n',1≤d'→d'<d→IsRun f a d' m n'→n'≤L∧(d'<D→n'<L)
 is:(L=0∧D=0)∨(1≤L∧1≤D∧D<d∧IsRun f a D m L)
theorem Scan.start (f:Nat→Nat) (a m:Nat):Scan f a m 1 0 0:=⟨fun d' n' h1 h2=>by omega,.inl ⟨rfl,rfl⟩⟩
theorem Scan.more {f:Nat→Nat} {a m d L D n:Nat} (h:Scan f a m d L D) (hd:1≤d) (hn:IsRun f a d m n) (hg:L<n):Scan f a m (d+1) n d:=
 ⟨fun d' n' h1 h2 h3=>by
  by_cases e:d'=d
  ·subst e
   have:=hn.uniq h3
   exact ⟨by omega,fun h=>by omega⟩
  ·have:=h.all d' n' h1 (by omega) h3
   exact ⟨by omega,fun h=>by omega⟩,.inr ⟨by omega,hd,by omega,hn⟩⟩
theorem Scan.less {f:Nat→Nat} {a m d L D n:Nat} (h:Scan f a m d L D) (hn:IsRun f a d m n) (hg:n≤L):Scan f a m (d+1) L D:=
 ⟨fun d' n' h1 h2 h3=>by
  by_cases e:d'=d
  ·subst e
   have:=hn.uniq h3
   exact ⟨by omega,fun _=>by rcases h.is with ⟨_,_⟩ | ⟨_,_,_,_⟩<;>omega⟩
  ·exact h.all d' n' h1 (by omega) h3,by
  rcases h.is with h' | ⟨h1,h2,h3,h4⟩
  ·exact .inl h'
  ·exact .inr ⟨h1,h2,by omega,h4⟩⟩
theorem Scan.rep {f:Nat→Nat} {N a d L D:Nat} (h:Scan f a (mo N a) d L D) (hd:∀d',d'≤32768→d'≤a→d'<d) (hda:d≤32769∧d≤a+1) (h3:3≤L):IsTok f N a ⟨0,L,D⟩:=by
 rcases h.is with ⟨h',-⟩ | ⟨h1,h2,h4,h5⟩
 ·omega
 ·exact .inr ⟨L,D,rfl,h3,h2,by omega,by omega,h5,fun d' n' k1 k2 k3 k4=>h.all d' n' k1 (hd d' k2 k3) k4⟩
theorem Scan.byte {f:Nat→Nat} {N a d L D:Nat} (h:Scan f a (mo N a) d L D) (hd:∀d',d'≤32768→d'≤a→d'<d) (h3:L<3):IsTok f N a ⟨f a,0,0⟩:=
 .inl ⟨rfl,fun d' n' k1 k2 k3 k4=>by have:=(h.all d' n' k1 (hd d' k2 k3) k4).1;omega⟩
def three (f:Nat→Nat) (p q:Nat):Prop:=f p=f q∧f (p+1)=f (q+1)∧f (p+2)=f (q+2)
theorem three.symm {f:Nat→Nat} {p q:Nat} (h:three f p q):three f q p:=⟨h.1.symm,h.2.1.symm,h.2.2.symm⟩
theorem three.trans {f:Nat→Nat} {p q r:Nat} (h:three f p q) (k:three f q r):three f p r:=⟨h.1.trans k.1,h.2.1.trans k.2.1,h.2.2.trans k.2.2⟩
structure IsAhead (f:Nat→Nat) (p a:Nat):Prop where
 le:a≤32768∧a≤p
 is:0<a→three f p (p - a)
 no:∀q,q<p→p - q≤32768→(0<a→p - a<q)→¬three f p q
theorem IsRun.three {f:Nat→Nat} {a d m n p:Nat} (h:IsRun f a d m n) (h1:a≤p) (h2:p+3≤a+n):three f p (p - d)∨p<d∨d=0:=by
 by_cases e:d=0∨p<d
 ·rcases e with e | e
  ·exact .inr (.inr e)
  ·exact .inr (.inl e)
 have k:∀i,i<3→f (p+i)=f (p+i - d):=fun i hi=>by
  have:=h.eq (p - a+i) (by omega)
  rwa [show a+(p - a+i)=p+i by omega] at this
 refine .inl ⟨k 0 (by omega),?_,?_⟩
 ·rw [k 1 (by omega)];exact congrArg f (by omega)
 ·rw [k 2 (by omega)];exact congrArg f (by omega)
structure Sea (f:Nat→Nat) (a m L D fr dist:Nat):Prop where
 is:(L=0∧D=0)∨(3≤L∧1≤D∧D≤a∧D≤32768∧IsRun f a D m L)
 fr:a≤fr∧fr+2≤a+max L 2
 best:∀d' n',1≤d'→d'≤D→IsRun f a d' m n'→n'≤L∧(d'<D→n'<L)
 seen:∀d' n',1≤d'→d'<dist→d'≤a→d'≤32768→IsRun f a d' m n'→n'≤max L 2
def Hits (f:Nat→Nat) (fr dist:Nat):Prop:=dist≤32768∧dist≤fr∧three f fr (fr - dist)
theorem Sea.start (f:Nat→Nat) (a m:Nat):Sea f a m 0 0 a 1:=⟨.inl ⟨rfl,rfl⟩,⟨Nat.le_refl _,by omega⟩,fun d' n' h1 h2=>by omega,fun d' n' h1 h2=>by omega⟩
theorem Hits.zero (f:Nat→Nat) (fr:Nat):Hits f fr 0:=⟨by omega,by omega,rfl,rfl,rfl⟩
theorem Sea.gap {f:Nat→Nat} {a m L D fr dist hop s d' n':Nat} (h:Sea f a m L D fr s) (ht:Hits f fr dist) (hh:IsAhead f (fr - dist) hop) (h1:dist<d') (h0:0<hop→d'<dist+hop) (h2:d'≤a) (h3:d'≤32768) (hr:IsRun f a d' m n'):n'≤max L 2:=by
 rcases Nat.lt_or_ge (max L 2) n' with e | e
 ·exfalso
  have hfr:=h.fr
  have hle:=hh.le.2
  rcases hr.three hfr.1 (by omega) with k | k | k
  ·exact hh.no (fr - d') (by omega) (by omega) (fun g=>by have:=h0 g;omega) (ht.2.2.symm.trans k)
  ·omega
  ·omega
 ·exact e
theorem Sea.next {f:Nat→Nat} {a m L D fr dist hop:Nat} (h:Sea f a m L D fr (dist+1)) (ht:Hits f fr dist) (hh:IsAhead f (fr - dist) hop):Sea f a m L D fr (dist+hop):=
 ⟨h.is,h.fr,h.best,fun d' n' k1 k2 k3 k4 k5=>by
  by_cases e:d'<dist+1
  ·exact h.seen d' n' k1 e k3 k4 k5
  ·exact h.gap ht hh (by omega) (fun _=>k2) k3 k4 k5⟩
theorem Hits.next {f:Nat→Nat} {fr dist hop:Nat} (ht:Hits f fr dist) (hh:IsAhead f (fr - dist) hop) (h0:0<hop) (h3:dist+hop≤32768):Hits f fr (dist+hop):=
 ⟨h3,by have:=hh.le.2;have:=ht.2.1;omega,ht.2.2.trans (by have:=hh.is h0;rwa [Nat.sub_sub] at this)⟩
theorem Sea.none {f:Nat→Nat} {a m L D fr dist:Nat} (h:Sea f a m L D fr (dist+1)) (ht:Hits f fr dist) (hh:IsAhead f (fr - dist) 0):Sea f a m L D fr 32769:=
 ⟨h.is,h.fr,h.best,fun d' n' k1 k2 k3 k4 k5=>by
  by_cases e:d'<dist+1
  ·exact h.seen d' n' k1 e k3 k4 k5
  ·exact h.gap ht hh (by omega) (fun h=>by omega) k3 k4 k5⟩
theorem Sea.far {f:Nat→Nat} {a m L D fr s:Nat} (h:Sea f a m L D fr s) (hs:32768<s∨a<s):Sea f a m L D fr 32769:=
 ⟨h.is,h.fr,h.best,fun d' n' k1 _ k3 k4 k5=>h.seen d' n' k1 (by omega) k3 k4 k5⟩
theorem Sea.skip {f:Nat→Nat} {a m L D fr dist:Nat} (h:Sea f a m L D fr dist) (hn:∀n,IsRun f a dist m n→n≤max L 2):Sea f a m L D fr (dist+1):=
 ⟨h.is,h.fr,h.best,fun d' n' k1 k2 k3 k4 k5=>by
  by_cases e:d'=dist
  ·subst e;exact hn n' k5
  ·exact h.seen d' n' k1 (by omega) k3 k4 k5⟩
theorem Sea.old {f:Nat→Nat} {a m L D fr dist:Nat} (h:Sea f a m L D fr dist) (h1:1≤dist) (hd:dist≤D):Sea f a m L D fr (dist+1):=
 h.skip fun n hn=>by have:=(h.best dist n h1 hd hn).1;omega
theorem Sea.found {f:Nat→Nat} {a m L D fr dist n fr':Nat} (h:Sea f a m L D fr dist) (h1:1≤dist) (h2:dist≤a) (h3:dist≤32768) (hn:IsRun f a dist m n) (hg:max L 2<n) (hf:a≤fr'∧fr'+2≤a+n):Sea f a m n dist fr' 1:=
 ⟨.inr ⟨by omega,h1,h2,h3,hn⟩,⟨hf.1,by omega⟩,fun d' n' k1 k2 k3=>by
  by_cases e:d'=dist
  ·subst e
   have:=hn.uniq k3
   exact ⟨by omega,fun h=>by omega⟩
  ·have:=h.seen d' n' k1 (by omega) (by omega) (by omega) k3
   exact ⟨by omega,fun _=>by omega⟩,fun d' n' h1 h2=>by omega⟩
theorem Sea.done {f:Nat→Nat} {N a L D fr:Nat} (h:Sea f a (mo N a) L D fr 32769):(L=0→IsTok f N a ⟨f a,0,0⟩)∧(0<L→IsTok f N a ⟨0,L,D⟩):=by
 rcases h.is with ⟨e1,e2⟩ | ⟨h1,h2,h3,h4,h5⟩
 ·refine ⟨fun _=> .inl ⟨rfl,fun d n k1 k2 k3 k4=>?_⟩,fun h=>by omega⟩
  have:=h.seen d n k1 (by omega) k3 k2 k4
  omega
 ·refine ⟨fun h=>by omega,fun _=> .inr ⟨L,D,rfl,h1,h2,h4,h3,h5,fun d' n' k1 k2 k3 k4=>⟨?_,fun e=>(h.best d' n' k1 (by omega) k4).2 e⟩⟩⟩
  have:=h.seen d' n' k1 (by omega) k3 k2 k4
  omega
theorem Sea.full {f:Nat→Nat} {N a L D fr s:Nat} (h:Sea f a (mo N a) L D fr s) (h0:0<L) (hL:L=mo N a):IsTok f N a ⟨0,L,D⟩:=by
 rcases h.is with ⟨e1,e2⟩ | ⟨h1,h2,h3,h4,h5⟩
 ·omega
 ·exact .inr ⟨L,D,rfl,h1,h2,h4,h3,h5,fun d' n' k1 k2 k3 k4=>⟨hL ▸ k4.le,fun e=>(h.best d' n' k1 (by omega) k4).2 e⟩⟩
theorem IsTok.short {f:Nat→Nat} {N a:Nat} (h:mo N a<3):IsTok f N a ⟨f a,0,0⟩:= .inl ⟨rfl,fun d n _ _ _ k=>by have:=k.le;omega⟩
structure LastF (f:Nat→Nat) (at':Nat) (F:Nat×Nat×Nat→Option Nat):Prop where
 is:∀k x,F k=some x→x<at'∧k=(f x,f (x+1),f (x+2))∧∀y,x<y→y<at'→(f y,f (y+1),f (y+2))≠k
 no:∀k,F k=none→∀y,y<at'→(f y,f (y+1),f (y+2))≠k
theorem zdy {f:Nat→Nat} {p q:Nat}:three f p q↔(f p,f (p+1),f (p+2))=(f q,f (q+1),f (q+2)):=by simp [three]
theorem LastF.start (f:Nat→Nat):LastF f 0 fun _=>none:=⟨fun k x h=>(by cases h),fun k _ y h=>by omega⟩
theorem LastF.put {f:Nat→Nat} {a:Nat} {F:Nat×Nat×Nat→Option Nat} (h:LastF f a F):LastF f (a+1) fun k=>if k=(f a,f (a+1),f (a+2)) then some a else F k:=by
 refine ⟨fun k x hx=>?_,fun k hk y hy=>?_⟩
 ·by_cases e:k=(f a,f (a+1),f (a+2))
  ·simp only [if_pos e,Option.some.injEq] at hx
   subst hx
   exact ⟨by omega,e,fun y h1 h2=>by omega⟩
  ·simp only [if_neg e] at hx
   obtain ⟨h1,h2,h3⟩:=h.is k x hx
   refine ⟨by omega,h2,fun y k1 k2=>?_⟩
   by_cases e':y=a
   ·subst e';exact fun h=>e h.symm
   ·exact h3 y k1 (by omega)
 ·by_cases e:k=(f a,f (a+1),f (a+2))
  ·simp only [if_pos e] at hk;cases hk
  ·simp only [if_neg e] at hk
   by_cases e':y=a
   ·subst e';exact fun h=>e h.symm
   ·exact h.no k hk y (by omega)
def zdk (F:Nat×Nat×Nat→Option Nat) (f:Nat→Nat) (a:Nat):Nat:=match F (f a,f (a+1),f (a+2)) with
 | some x=>if a - x≤32768 then a - x else 0
 | none=>0
theorem LastF.hop {f:Nat→Nat} {a:Nat} {F:Nat×Nat×Nat→Option Nat} (h:LastF f a F):IsAhead f a (zdk F f a):=by
 unfold zdk
 cases hF:F (f a,f (a+1),f (a+2)) with
 | none=>
  show IsAhead f a 0
  exact ⟨by omega,fun h=>by omega,fun q hq _ _ ht=>h.no _ hF q hq (zdy.1 ht).symm⟩
 | some x=>
  obtain ⟨h1,h2,h3⟩:=h.is _ x hF
  show IsAhead f a (if a - x≤32768 then a - x else 0)
  by_cases e:a - x≤32768
  ·simp only [if_pos e]
   refine ⟨by omega,fun _=>?_,fun q hq _ hg ht=>h3 q (by have:=hg (by omega);omega) hq (zdy.1 ht).symm⟩
   rw [show a - (a - x)=x by omega]
   exact zdy.2 h2
  ·simp only [if_neg e]
   refine ⟨by omega,fun h=>by omega,fun q hq hd _ ht=>?_⟩
   exact h3 q (by omega) hq (zdy.1 ht).symm
end
section
def Tk.okB (t:Tk):Bool:=if t.n=0 then decide (t.d=0) else decide (3≤t.n∧t.n≤258∧1≤t.d∧t.d≤32768∧t.b=0)
def rpt (d:Nat):Nat→List Nat→List Nat
 | 0,o=>o
 | k+1,o=>rpt d k (o++[o.getD (o.length - d) 0])
theorem zkA (d:Nat):∀k o,(rpt d k o).length=o.length+k
 | 0,o=>rfl
 | k+1,o=>by rw [rpt,zkA];simp;omega
def zcu (t:Tk) (o:List Nat):List Nat:=if t.n=0 then o++[t.b] else rpt t.d.toNat t.n.toNat o
def zba (t:Tk) (n:Nat):Int:=if ¬t.okB∨(n:Int)<t.d then 70 else if 524288<n+t.size then 2 else 0
theorem zmL (t:Tk) (o:List Nat) (h:t.okB):(zcu t o).length=o.length+t.size:=by
 unfold zcu Tk.size
 unfold Tk.okB at h
 split
 ·rename_i h0;rw [h0];simp
 ·rename_i h0;rw [zkA];simp [h0] at h;omega
def xp:List Tk→List Nat→List Nat×Int
 | [],o=>(o,0)
 | t::r,o=>if zba t o.length=0 then xp r (zcu t o) else ([],zba t o.length)
theorem zbn {t:Tk} {r:List Tk} {o:List Nat} (h:zba t o.length=0):xp (t::r) o=xp r (zcu t o):=by rw [xp,if_pos h]
theorem zbr {t:Tk} {r:List Tk} {o:List Nat} (h:zba t o.length≠0):xp (t::r) o=([],zba t o.length):=by rw [xp,if_neg h]
theorem zhc:∀(l r:List Tk) (o:List Nat),xp (l++r) o=if (xp l o).2=0 then xp r (xp l o).1 else xp l o
 | [],r,o=>by simp [xp]
 | t::l,r,o=>by
  rw [List.cons_append]
  by_cases h:zba t o.length=0
  ·rw [zbn h,zbn h,zhc l r]
  ·rw [zbr h,zbr h,if_neg h]
theorem zo4 {t:Tk} {n:Nat} (h:zba t n=0):t.okB=true∧t.d≤(n:Int)∧n+t.size≤524288:=by
 unfold zba at h
 split at h
 ·omega
 ·rename_i h1
  split at h
  ·omega
  ·simp at h1;exact ⟨h1.1,by omega,by omega⟩
def fb (l:List Nat):Nat→Nat:=fun i=>l.getD i 0
theorem zfB {l:List Nat} {i:Nat} (h:i<l.length):fb l i=l[i]:=by simp [fb,List.getD_eq_getElem?_getD,List.getElem?_eq_getElem h]
theorem zpB {l:List Nat} (h:∀b∈l,b<256) (i:Nat):fb l i<256:=by
 unfold fb
 rw [List.getD_eq_getElem?_getD]
 cases hq:l[i]? with
 | none=>simp
 | some x=>exact h x (List.mem_of_getElem? hq)
theorem zpJ {l:List Nat} {a d:Nat} (h1:1≤d) (h2:d≤a):∀{n:Nat},a+n≤l.length→(∀j,j<n→fb l (a+j)=fb l (a+j - d))→rpt d n (l.take a)=l.take (a+n):=by
 intro n
 induction n generalizing a with
 | zero=>intro _ _;rfl
 | succ n ih=>
  intro ha hr
  have hla:(l.take a).length=a:=by rw [List.length_take];omega
  have e:(l.take a).getD (a - d) 0=l[a]'(by omega):=by
   rw [List.getD_eq_getElem?_getD,List.getElem?_take,if_pos (by omega)]
   have:=hr 0 (by omega)
   rw [Nat.add_zero,zfB (by omega)] at this
   rw [this]
   simp [fb,List.getD_eq_getElem?_getD]
  rw [rpt,hla,e,←List.take_succ_eq_append_getElem (by omega)]
  rw [ih (a:=a+1) (by omega) (by omega) (fun j hj=>?_)]
  ·rw [show a+1+n=a+(n+1) by omega]
  ·have:=hr (j+1) (by omega)
   rw [show a+1+j=a+(j+1) by omega];exact this
theorem IsTok.okB {f:Nat→Nat} {N a:Nat} {t:Tk} (h:IsTok f N a t):t.okB=true∧t.d≤(a:Int):=by
 rcases h with ⟨rfl,-⟩ | ⟨n,d,rfl,h1,h2,h3,h4,h5,-⟩
 ·simp [Tk.okB]
 ·have:=h5.le
  unfold mo at this
  refine ⟨?_,by simpa using h4⟩
  unfold Tk.okB
  rw [if_neg (by simp;omega)]
  simp;omega
theorem IsTok.tell {l:List Nat} {a:Nat} {t:Tk} (h:IsTok (fb l) l.length a t) (ha:a<l.length):zcu t (l.take a)=l.take (a+t.size):=by
 have hf:=h.fits ha
 rcases h with ⟨rfl,-⟩ | ⟨n,d,rfl,h1,h2,h3,h4,h5,-⟩
 ·simp only [zcu,if_true]
  rw [zfB ha,←List.take_succ_eq_append_getElem ha]
  rfl
 ·have hs:Tk.size ⟨0,(n:Int),(d:Int)⟩=n:=by simp [Tk.size];omega
  rw [hs] at hf ⊢
  have:=zpJ (l:=l) h2 h4 hf h5.eq
  unfold zcu
  rw [if_neg (by simp;omega)]
  exact this
theorem ToksTo.tell {l:List Nat} (hl:l.length≤524288) {a:Nat} {ts:List Tk} (h:ToksTo (fb l) l.length a ts):xp ts []=(l.take a,0):=by
 induction h with
 | nil=>simp [xp]
 | @snoc a t ts h ha ht ih=>
  rw [zhc,ih,if_pos rfl]
  have hla:(l.take a).length=a:=by rw [List.length_take];omega
  have hf:=ht.fits ha
  have he:zba t (l.take a).length=0:=by
   rw [hla]
   unfold zba
   rw [if_neg (by simp [ht.okB.1];exact ht.okB.2),if_neg (by omega)]
  simp only
  rw [zbn he,ht.tell ha]
  rfl
theorem Toks.tell {l:List Nat} (hl:l.length≤524288) {ts:List Tk} (h:Toks (fb l) l.length 0 ts):xp ts []=(l,0):=by
 have key:∀n,n≤ts.length→∃a,ToksTo (fb l) l.length a (ts.take n):=by
  intro n
  induction n with
  | zero=>intro _;exact ⟨0,.nil⟩
  | succ n ih=>
   intro hn
   obtain ⟨a,h1,h2,h3,h4⟩:=h.at (i:=n) (by omega)
   exact ⟨_,h4⟩
 obtain ⟨a,ha⟩:=key ts.length (Nat.le_refl _)
 rw [List.take_length] at ha
 rw [ha.tell hl,h.end ha,List.take_length]
end
section
def tn (t:Tk):Tn:=⟨t.b,t.n.toNat,t.d.toNat⟩
theorem zhA {t:Tk} (h:t.okB=true):(t.n=0↔t.n.toNat=0):=by
 unfold Tk.okB at h
 split at h
 ·rename_i h0;simp [h0]
 ·rename_i h0;simp at h;omega
theorem zdF {t:Tk} {n:Nat} (h:zba t n=0):t.okB=true∧t.d≤(n:Int)∧n+t.size≤524288:=by
 unfold zba at h
 split at h
 ·cases h
 ·rename_i h1
  split at h
  ·cases h
  ·rename_i h2
   refine ⟨?_,by omega,by omega⟩
   cases e:t.okB with
   | true=>rfl
   | false=>exact absurd (Or.inl (by simp [e])) h1
def codT (A D:List Nat) (t:Tk):Prop:=
 (t.n=0→t.b<256∧t.b<A.length∧0<lq A t.b)∧
 (t.n≠0→zal t.n.toNat<A.length∧0<lq A (zal t.n.toNat)∧zaq t.d.toNat<D.length∧0<lq D (zaq t.d.toNat))
theorem zh4 {d:Nat}:∀{n:Nat} {o:List Nat},(∀b∈o,b<256)→∀b∈ext d n o,b<256
 | 0,_,h=>h
 | n+1,o,h=>zh4 (n:=n) (fun b hb=>by
   rcases List.mem_append.1 hb with hb | hb
   ·exact h b hb
   ·rw [List.mem_singleton.1 hb,List.getD_eq_getElem?_getD]
    cases e:o[o.length - d]? with
    | none=>decide
    | some x=>exact h x (List.mem_of_getElem? e))
end
section
open Go.RowKit
def gl (g:Nat→Nat) (N:Nat):List Nat:=(List.range N).map g
theorem zap (g:Nat→Nat) (N:Nat):(gl g N).length=N:=by simp [gl]
theorem zfE (g:Nat→Nat) {N i:Nat} (hi:i<N):lq (gl g N) i=g i:=by
 unfold lq gl
 rw [List.getD_eq_getElem?_getD,List.getElem?_map,List.getElem?_range hi];rfl
theorem zrm (g:Nat→Nat) (N:Nat):zah g N=(gl g N).map u8v:=by simp [zah,gl]
theorem zd0 {f g:Nat→Nat}:∀{n:Nat},(∀i,i<n→(0<f i↔0<g i))→many n f=many n g
 | 0,_=>rfl
 | n+1,h=>by
  rw [zbv,zbv,zd0 (fun i hi=>h i (by omega))]
  have:=h n (by omega)
  by_cases h0:0<f n
  ·rw [if_pos h0,if_pos (this.1 h0)]
  ·rw [if_neg h0,if_neg (fun h=>h0 (this.2 h))]
theorem zgX {L:Nat} {f g:Nat→Nat}:∀{n:Nat},(∀i,i<n→f i=g i)→room n L f=room n L g
 | 0,_=>rfl
 | n+1,h=>by rw [zaX,zaX,zgX (fun i hi=>h i (by omega)),h n (by omega)]
theorem zis {f:Nat→Nat}:∀{n:Nat},(∀i,i<n→f i≤1)→room n 15 f=many n f*16384
 | 0,_=>by simp [room,many,sm]
 | n+1,h=>by
  rw [zaX,zbv,zis (fun i hi=>h i (by omega)),Nat.add_mul]
  have:=h n (by omega)
  by_cases h0:0<f n
  ·have e:f n=1:=by omega
   have e2:2^(15 - f n)=16384:=by rw [e]
   rw [if_pos h0,if_pos h0,e2]
  ·rw [if_neg h0,if_neg h0,Nat.zero_mul]
theorem zjM {L:Nat} (hL:L≤15) {l:Nat→Nat}:∀{n:Nat},(∀i,i<n→l i≤L)→room n 15 l=room n L l*2^(15 - L)
 | 0,_=>by simp [sm,room]
 | n+1,h=>by
  have h1:=zjM hL (n:=n) (fun i hi=>h i (by omega))
  have h2:=h n (by omega)
  rw [zaX,zaX,h1,Nat.add_mul]
  by_cases h0:0<l n
  ·rw [if_pos h0,if_pos h0,←Nat.pow_add,show L - l n+(15 - L)=15 - l n by omega]
  ·rw [if_neg h0,if_neg h0,Nat.zero_mul]
theorem zhL {fs:List Int} {L:Nat} {g:Nat→Nat} (h:LensOk fs L g) (hL:L≤15) (hN:fs.length≤320):chk (gl g fs.length)=0:=by
 have hle:∀i,i<fs.length→g i≤L:=fun i hi=>(h.le i hi).1
 have hm:many fs.length (lq (gl g fs.length))=many fs.length (fq fs):=by
  refine zd0 fun i hi=>?_
  rw [zfE g hi];exact (h.le i hi).2
 have hr:room fs.length 15 (lq (gl g fs.length))=room fs.length 15 g:=zgX fun i hi=>zfE g hi
 rw [zdE (by rw [zap];exact hN) (fun i hi=>by rw [zap] at hi;rw [zfE g hi];have:=hle i hi;omega),zap,hm,hr,if_pos]
 by_cases h0:many fs.length (fq fs)=0
 ·exact .inl h0
 by_cases h1:many fs.length (fq fs)=1
 ·refine .inr (.inr ⟨h1,?_⟩)
  rw [zis (h.one h1),zd0 (f:=g) (g:=fq fs) (fun i hi=>(h.le i hi).2),h1]
 ·refine .inr (.inl ?_)
  rw [zjM hL hle,h.code (by omega),←Nat.pow_add,show L+(15 - L)=15 by omega]
end
section
open Go.RowKit
def symA (t:Tk):Nat:=if t.n=0 then t.b else zal t.n.toNat
def symD (t:Tk):Nat:=zaq t.d.toNat
def cA (ts:List Tk) (i:Nat):Nat:=(if i=256 then 1 else 0)+(ts.filter fun t=>decide (symA t=i)).length
def cD (ts:List Tk) (i:Nat):Nat:=(ts.filter fun t=>decide (t.n≠0∧symD t=i)).length
def ctL (f:Nat→Nat) (n:Nat):List Int:=(List.range n).map fun i=>(f i:Int)
theorem zqB (f:Nat→Nat) (n:Nat):(ctL f n).length=n:=by simp [ctL]
theorem zrr (f:Nat→Nat) {n i:Nat} (h:i<n):fq (ctL f n) i=f i:=by
 unfold fq ctL
 rw [List.getD_eq_getElem?_getD,List.getElem?_map,List.getElem?_range h]
 simp
theorem zpR {f:Nat→Nat} {n:Nat} (hn:n≤320) (h:∀i,f i≤1000000):mayB (ctL f n) 15=true:=by
 unfold mayB
 rw [Bool.and_eq_true]
 refine ⟨by rw [zqB];simp;omega,List.all_eq_true.2 fun x hx=>?_⟩
 obtain ⟨i,-,rfl⟩:=List.mem_map.1 hx
 have:=h i
 unfold okF
 simp;omega
theorem zj8 {t:Tk} (h1:t.okB=true) (h2:t.b<256):codT fixA fixD t:=by
 have en:=zhA h1
 have fa:∀i,i<288→i<fixA.length∧0<lq fixA i:=by decide +kernel
 have fd:∀i,i<32→i<fixD.length∧0<lq fixD i:=by decide +kernel
 refine ⟨fun h0=>⟨h2,fa _ (by omega)⟩,fun h0=>?_⟩
 have hk:t.okB=decide (3≤t.n∧t.n≤258∧1≤t.d∧t.d≤32768∧t.b=0):=if_neg h0
 rw [h1] at hk
 have hk:=of_decide_eq_true hk.symm
 obtain ⟨s1,s2,-⟩:=zbQ t.n.toNat (by omega) (by omega)
 obtain ⟨r1,-⟩:=zbx (d:=t.d.toNat) (by omega) (by omega)
 exact ⟨(fa _ (by omega)).1,(fa _ (by omega)).2,fd _ (by omega)⟩
def putF:Nat→List Bn→Pt
 | _,[]=>[]
 | a,b::r=>b.put a false++putF (a+szP (b.put a false)) r
theorem zea:∀(a:Nat) (bs:List Bn) (b:Bn),putF a (bs++[b])=putF a bs++b.put (a+szP (putF a bs)) false
 | a,[],b=>by simp [putF,szP]
 | a,x::r,b=>by
  rw [List.cons_append,putF,putF,zea,List.append_assoc,zaj,Nat.add_assoc]
theorem zgY:∀(a:Nat) (bs:List Bn) (b:Bn),putB a (bs++[b])=putF a bs++b.put (a+szP (putF a bs)) true
 | a,[],b=>by simp [putF,putB,szP]
 | a,x::r,b=>by
  have e:(r++[b]).isEmpty=false:=by cases r<;>rfl
  rw [List.cons_append,putB,putF,e,zgY,List.append_assoc,zaj,Nat.add_assoc]
theorem zmu:∀x,x<286→zad x≤5:=by decide +kernel
theorem zma:∀x,x<30→zam x≤13:=by decide +kernel
theorem zb6 {ls:List Nat} (h:chk ls=0) (i:Nat):lq ls i≤15:=by
 by_cases hi:i<ls.length
 ·exact (za6 h).2.1 i hi
 ·unfold lq
  rw [List.getD_eq_getElem?_getD,List.getElem?_eq_none (by omega)]
  decide
end
end Go.Proofs.YtedakhgaghfogaaGreat
