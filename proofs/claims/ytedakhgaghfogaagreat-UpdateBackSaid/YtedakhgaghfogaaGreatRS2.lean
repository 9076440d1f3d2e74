/- Several texts in one, each with its own head. -/
import Derived.Test.YtedakhgaghfogaaGreatRS1
namespace Go.Proofs.YtedakhgaghfogaaGreat
section
theorem zgP:chk clens=0:=by decide +kernel
theorem zna:∀v,v<16→v<clens.length∧0<lq clens v:=by decide +kernel
theorem zm0 {l:List Nat} {b:Nat} {f:Nat→Nat} (h:∀k,k<19→nb l (b+3*k) 3=f (ordL.getD k 0)):∀k,k≤19→∀i,i∈ordL.take k→clF l b k i=f i
 | 0,_,i,hi=>by simp at hi
 | k+1,hk,i,hi=>by
  show (if i=ordL.getD k 0 then nb l (b+3*k) 3 else clF l b k i)=f i
  have hk':k<ordL.length:=by show k<19;omega
  by_cases e:i=ordL.getD k 0
  ·rw [if_pos e,h k (by omega),e]
  ·rw [if_neg e]
   refine zm0 h k (by omega) i ?_
   rw [List.take_succ_eq_append_getElem hk',List.mem_append,List.mem_singleton] at hi
   rcases hi with hi | hi
   ·exact hi
   ·exact absurd (by rw [hi,List.getD_eq_getElem?_getD,List.getElem?_eq_getElem hk'];rfl) e
theorem zhU:∀i,i<19→i∈ordL:=by decide
theorem zrK {l:List Nat} {b:Nat} (h:∀k,k<19→nb l (b+3*k) 3=lq clens (ordL.getD k 0)):clL l b 19=clens:=by
 have e:clens=(List.range 19).map (lq clens):=by decide +kernel
 rw [e]
 unfold clL
 refine List.map_congr_left fun i hi=>?_
 exact zm0 (f:=lq clens) h 19 (Nat.le_refl _) i (zhU i (List.mem_range.1 hi))
theorem AtP.threes {l:List Nat} (f:Nat→Nat):∀{xs:List Nat} {b:Nat} {q:Pt},AtP l b (xs.map (fun i=>(f i,3))++q)→∀k,k<xs.length→nb l (b+3*k) 3=f (xs.getD k 0)
 | [],_,_,_,k,hk=>absurd hk (by simp)
 | x::xs,b,q,h,0,_=>h.1
 | x::xs,b,q,h,k+1,hk=>by
  have:=AtP.threes f (xs:=xs) h.2.2 k (by simpa using hk)
  rw [show b+3*(k+1)=b+3+3*k by omega]
  exact this
theorem zpq {l:List Nat} (n:Nat):∀{vs ls:List Nat} {a:Nat} {q:Pt},(∀v∈vs,v<16)→AtP l a (putV vs++q)→ls.length+vs.length=n→InfLs clens l n a ls (.go (a+szP (putV vs)) (ls++vs))
 | [],ls,a,q,_,_,hn=>by
  have:InfLs clens l n a ls (.go a ls):= .fin a ls (by simp at hn;omega)
  simpa [putV,szP] using this
 | v::vs,ls,a,q,hv,h,hn=>by
  have h16:=hv v List.mem_cons_self
  obtain ⟨c1,c2⟩:=zna v h16
  obtain ⟨s1,h2⟩:=AtP.sy zgP c1 c2 (q:=putV vs++q) h
  have hle:a+lq clens v≤8*l.length:=h.2.1
  have hg:=InfSv.go (C:=clens) (l:=l) (n:=n) (a:=a) (ls:=ls) v (lq clens v) 0 1 v s1 (.inr (.inr (.inr ⟨h16,rfl,rfl,rfl⟩))) (by omega) (by rw [zcF];rw [List.length_cons] at hn;omega)
  rw [zcF,Nat.add_zero,Nat.add_zero,List.replicate_one] at hg
  have hr:=zpq n (vs:=vs) (ls:=ls++[v]) (fun x hx=>hv x (List.mem_cons_of_mem _ hx)) h2 (by rw [List.length_cons] at hn;simp;omega)
  have h3:=InfLs.more _ _ _ _ _ (by rw [List.length_cons] at hn;omega) hg hr
  rw [List.append_assoc,List.singleton_append,Nat.add_assoc] at h3
  exact h3
theorem zrC {l x y:List Nat} (hx:x.length=286) (hy:y.length=30) (h15:∀v∈x++y,v<16) (cx:chk x=0) (cy:chk y=0) (h0:0<lq x 256) {a:Nat} {q:Pt} (h:AtP l a (putO x y++q)):InfDy l a 286 (.go (a+szP (putO x y)) (x++y)):=by
 obtain ⟨p1,q1,p2,q2,p3,q3,h⟩:=h
 simp only at p1 q1 p2 q2 p3 q3 h
 rw [show a+5+5=a+10 by omega] at p3 q3 h
 rw [show a+10+4=a+14 by omega] at q3 h
 change AtP l (a+14) ((ordL.map (fun i=>(lq clens i,3))++putV (x++y))++q) at h
 rw [List.append_assoc] at h
 have hcl:=zrK (AtP.threes (lq clens) (xs:=ordL) h)
 obtain ⟨-,h2⟩:=h.app
 rw [zbi,show ordL.length=19 from rfl] at h2
 have hls:=zpq 316 (ls:=[]) h15 h2 (by rw [List.length_nil,List.length_append];omega)
 have hend:a+14+57≤8*l.length:=by
  cases x with
  | nil=>simp at hx
  | cons v r=>exact Nat.le_trans (Nat.le_add_right _ _) h2.2.1
 have e1:nb l a 5+257=286:=by rw [p1]
 have e2:nb l (a+5) 5+1=30:=by rw [p2]
 have e3:nb l (a+10) 4+4=19:=by rw [p3]
 have ht:(x++y).take 286=x:=by rw [←hx,List.take_left]
 have hd:(x++y).drop 286=y:=by rw [←hx,List.drop_left]
 have hq:lq (x++y) 256=lq x 256:=by
  unfold lq
  rw [List.getD_eq_getElem?_getD,List.getD_eq_getElem?_getD,List.getElem?_append_left (by omega)]
 have:=InfDy.done (l:=l) (a:=a) q3 (by rw [e1,e2];omega) (by rw [e3];omega) (by rw [e3,hcl];exact zgP) _ (x++y) (by
  rw [e1,e2,e3,hcl]
  rw [List.nil_append] at hls
  exact hls) (by rw [e1,hq,ht,hd];exact ⟨by omega,cx,cy⟩)
 rw [e1] at this
 rw [show a+szP (putO x y)=a+14+3*19+szP (putV (x++y)) by
  unfold putO
  simp only [szP,zaj,zbi,show ordL.length=19 from rfl]
  omega]
 exact this
theorem AtP.bytes {l:List Nat}:∀{bs:List Nat} {a:Nat} {q:Pt},AtP l a (bs.map (fun b=>(b,8))++q)→bys l a bs.length=bs∧(bs=[]∨a+8*bs.length≤8*l.length)
 | [],a,q,_=>⟨rfl,.inl rfl⟩
 | b::bs,a,q,h=>by
  obtain ⟨h1,h2,h3⟩:=h
  simp only at h1 h2 h3
  obtain ⟨h4,h5⟩:=AtP.bytes (bs:=bs) h3
  refine ⟨?_,.inr ?_⟩
  ·unfold bys at h4 ⊢
   rw [List.length_cons,List.range_succ_eq_map,List.map_cons,List.map_map,Nat.mul_zero,Nat.add_zero,h1]
   congr 1
   conv=>rhs;rw [←h4]
   refine List.map_congr_left fun i _=>?_
   show nb l (a+8*(i+1)) 8=nb l (a+8+8*i) 8
   rw [show a+8*(i+1)=a+8+8*i by omega]
  ·rcases h5 with rfl | h5
   ·simp;omega
   ·rw [List.length_cons];omega
theorem znA (a:Nat) (bs:List Nat):a+szP (putS a bs)=alN a+32+8*bs.length:=by
 unfold putS alN
 simp only [szP,zeE]
 omega
theorem zlZ {l bs o:List Nat} {a lim:Nat} (hb:bs.length≤65535) {q:Pt} (h:AtP l a (putS a bs++q)):
  (o.length+bs.length≤lim→InfSd l lim a o (.go (a+szP (putS a bs)) (o++bs)))∧(lim<o.length+bs.length→InfSd l lim a o (.no 81)):=by
 obtain ⟨-,-,p2,q2,p3,q3,h⟩:=h
 simp only at p2 q2 p3 q3 h
 have e:a+(8 - a%8)%8=alN a:=rfl
 rw [e] at p2 q2 p3 q3 h
 rw [show alN a+16+16=alN a+32 by omega] at q3 h
 obtain ⟨h4,h5⟩:=AtP.bytes h
 have hs:nb l (alN a+16) 16+nb l (alN a) 16=65535:=by rw [p2,p3];omega
 refine ⟨fun hl=>?_,fun hl=> .over q3 hs (by rw [p2];exact hl)⟩
 have:=InfSd.done (l:=l) (lim:=lim) (a:=a) (o:=o) q3 hs (by rw [p2];exact hl) (by
  rw [p2]
  rcases h5 with rfl | h5
  ·simpa using q3
  ·exact h5)
 rw [p2,h4] at this
 rw [znA]
 exact this
theorem Bn.tell_len (b:Bn) (o:List Nat):o.length≤(b.tell o).length:=by
 cases b with
 | st bs=>show o.length≤(o++bs).length;simp
 | fx ts=>exact zcX ts o
 | dy x y ts=>exact zcX ts o
theorem zpK:256<fixA.length∧0<lq fixA 256:=by decide +kernel
theorem zpx {l o:List Nat} {b:Bn} (hb:b.ok o) {a lim:Nat} {last:Bool} {q:Pt} (h:AtP l a (b.put a last++q)):
  ((b.tell o).length≤lim→InfBk l lim (a+1) o (.go (a+szP (b.put a last)) (b.tell o)))∧(o.length≤lim→lim<(b.tell o).length→InfBk l lim (a+1) o (.no 81)):=by
 obtain ⟨-,-,p2,q2,h⟩:=h
 simp only at p2 q2 h
 change AtP l (a+1+2) (b.body (a+3)++q) at h
 have e:szP (b.put a last)=3+szP (b.body (a+3)):=by unfold Bn.put;simp only [szP];omega
 cases b with
 | st bs=>
  obtain ⟨s1,s2⟩:=zlZ (lim:=lim) (o:=o) hb.1 h
  have hl:((Bn.st bs).tell o).length=o.length+bs.length:=List.length_append
  rw [hl,e]
  refine ⟨fun h1=>?_,fun _ h1=> .stored q2 p2 _ (s2 h1)⟩
  rw [←Nat.add_assoc]
  exact .stored q2 p2 _ (s1 h1)
 | fx ts=>
  obtain ⟨c1,c2⟩:=zpK
  change AtP l (a+1+2) ((zaJ fixA fixD ts++endP fixA)++q) at h
  rw [List.append_assoc] at h
  obtain ⟨t1,t2⟩:=zeD zcM zcP c1 c2 lim (ts:=ts) hb h
  rw [e]
  refine ⟨fun h1=>?_,fun h0 h1=> .fixed q2 p2 _ (t2 h0 h1)⟩
  have h3:=InfBk.fixed q2 p2 _ (t1 h1)
  rw [show a+(3+szP ((Bn.fx ts).body (a+3)))=a+1+2+szP (zaJ fixA fixD ts)+lq fixA 256 by
   show a+(3+szP (zaJ fixA fixD ts++endP fixA))=_
   rw [zaj];simp only [endP,szP];omega]
  exact h3
 | dy x y ts=>
  obtain ⟨hx,hy,h15,cx,cy,h0,ht⟩:=hb
  change AtP l (a+1+2) ((putO x y++(zaJ x y ts++endP x))++q) at h
  rw [List.append_assoc] at h
  have hd:=zrC hx hy h15 cx cy h0 h
  obtain ⟨-,h⟩:=h.app
  rw [List.append_assoc] at h
  obtain ⟨t1,t2⟩:=zeD cx cy (by omega) h0 lim (ts:=ts) ht h
  have e1:(x++y).take 286=x:=by rw [←hx,List.take_left]
  have e2:(x++y).drop 286=y:=by rw [←hx,List.drop_left]
  have key:∀r,InfToks x y l lim (a+1+2+szP (putO x y)) o r→InfBk l lim (a+1) o r:=fun r hr=> .dyn q2 p2 286 _ _ hd r (by rw [e1,e2];exact hr)
  rw [e]
  refine ⟨fun h1=>?_,fun h0 h1=>key _ (t2 h0 h1)⟩
  have h3:=key _ (t1 h1)
  rw [show a+(3+szP ((Bn.dy x y ts).body (a+3)))=a+1+2+szP (putO x y)+szP (zaJ x y ts)+lq x 256 by
   show a+(3+szP (putO x y++(zaJ x y ts++endP x)))=_
   rw [zaj,zaj];simp only [endP,szP];omega]
  exact h3
def zbt:List Bn→List Nat→List Nat
 | [],o=>o
 | b::r,o=>zbt r (b.tell o)
theorem zgM:∀(bs:List Bn) (o:List Nat),o.length≤(zbt bs o).length
 | [],_=>Nat.le_refl _
 | b::r,o=>Nat.le_trans (b.tell_len o) (zgM r (b.tell o))
theorem zly {l:List Nat} (lim:Nat):∀{bs:List Bn} {o:List Nat},bs≠[]→okB bs o→∀{a:Nat} {q:Pt},AtP l a (putB a bs++q)→
  ((zbt bs o).length≤lim→InfBl l lim a o (.go (a+szP (putB a bs)) (zbt bs o)))∧(o.length≤lim→lim<(zbt bs o).length→InfBl l lim a o (.no 81))
 | [],_,h0,_,_,_,_=>absurd rfl h0
 | [b],o,_,hb,a,q,h=>by
  have e:putB a [b]=b.put a true:=by simp [putB]
  rw [e] at h ⊢
  obtain ⟨t1,t2⟩:=zpx (lim:=lim) hb.1 h
  have p1:nb l a 1=1:=h.1
  have q1:a+1≤8*l.length:=h.2.1
  exact ⟨fun h1=> .last _ _ q1 p1 _ _ (t1 h1),fun h0 h1=> .no _ _ q1 _ (t2 h0 h1)⟩
 | b::c::r,o,_,hb,a,q,h=>by
  have e:putB a (b::c::r)=b.put a false++putB (a+szP (b.put a false)) (c::r):=by rw [putB];rfl
  rw [e] at h ⊢
  rw [List.append_assoc] at h
  obtain ⟨t1,t2⟩:=zpx (lim:=lim) hb.1 h
  have p1:nb l a 1=0:=h.1
  have q1:a+1≤8*l.length:=h.2.1
  obtain ⟨-,h⟩:=h.app
  obtain ⟨r1,r2⟩:=zly lim (bs:=c::r) (o:=b.tell o) (by simp) hb.2 h
  have hle:=zgM (c::r) (b.tell o)
  have et:zbt (b::c::r) o=zbt (c::r) (b.tell o):=rfl
  rw [et,zaj,←Nat.add_assoc]
  refine ⟨fun h1=> .more _ _ q1 (by omega) _ _ (t1 (by omega)) _ (r1 h1),fun h0 h1=>?_⟩
  by_cases h5:(b.tell o).length≤lim
  ·exact .more _ _ q1 (by omega) _ _ (t1 h5) _ (r2 h5 h1)
  ·exact .no _ _ q1 _ (t2 h0 (by omega))
theorem zaA {p:Nat×Nat} {P:Pt} (h:p.1<2^p.2) (hP:okP P):okP (p::P):=fun x hx=>by
 rcases List.mem_cons.1 hx with rfl | hx
 ·exact h
 ·exact hP x hx
theorem zgD:okP []:=fun _ h=>by simp at h
theorem zrs {A D:List Nat} {t:Tn} {o:List Nat} (h:t.ok A D o):okP (t.put A D):=by
 unfold Tn.put
 split
 ·exact zex (zbL _ _ _)
 ·rename_i h0
  obtain ⟨n1,n2,d1,d2,-⟩:=h.2 h0
  obtain ⟨-,-,-,s4⟩:=zbQ t.n (by omega) n1
  obtain ⟨-,-,r3⟩:=zbx d1 d2
  exact zaA (zbL _ _ _) (zaA s4 (zaA (zbL _ _ _) (zaA r3 zgD)))
theorem zer {A D:List Nat}:∀{ts:List Tn} {o:List Nat},mayT A D ts o→okP (zaJ A D ts)
 | [],_,_=>zgD
 | _::r,_,h=>zbB (zrs h.1) (zer (ts:=r) h.2)
theorem zjk:∀i,lq clens i<2^3:=fun i=>by
 by_cases h:i<19
 ·have:∀i,i<19→lq clens i<2^3:=by decide +kernel
  exact this i h
 ·unfold lq
  rw [List.getD_eq_getElem?_getD,List.getElem?_eq_none (by show 19≤i;omega)]
  decide
theorem zn1 (x y:List Nat):okP (putO x y):=by
 refine zaA (by decide) (zaA (by decide) (zaA (by decide) (zbB (fun p hp=>?_) (fun p hp=>?_))))
 ·obtain ⟨i,-,rfl⟩:=List.mem_map.1 hp
  exact zjk i
 ·obtain ⟨v,-,rfl⟩:=List.mem_map.1 hp
  exact zbL _ _ _
theorem zra {b:Bn} {o:List Nat} (h:b.ok o) (a:Nat) (last:Bool):okP (b.put a last):=by
 refine zaA (by cases last<;>decide) (zaA (by show b.kind<4;cases b<;>(show _<4;simp [Bn.kind])) ?_)
 cases b with
 | st bs=>
  obtain ⟨h1,h2⟩:=h
  refine zaA (Nat.two_pow_pos _) (zaA (by show bs.length<65536;omega) (zaA (by show 65535 - bs.length<65536;omega) (fun p hp=>?_)))
  obtain ⟨x,hx,rfl⟩:=List.mem_map.1 hp
  exact h2 x hx
 | fx ts=>exact zbB (zer (o:=o) h) (zex (zbL _ _ _))
 | dy x y ts=>exact zbB (zn1 x y) (zbB (zer (o:=o) h.2.2.2.2.2.2) (zex (zbL _ _ _)))
theorem zgo:∀{bs:List Bn} {o:List Nat},okB bs o→∀a,okP (putB a bs)
 | [],_,_,_=>zgD
 | _::r,_,h,_=>zbB (zra h.1 _ _) (zgo (bs:=r) h.2 _)
theorem zjO (d:Nat):∀(k:Nat) (o:List Nat),rpt d k o=ext d k o
 | 0,_=>rfl
 | k+1,o=>by rw [rpt,ext,zjO d k]
theorem zj3 {t:Tk} (h:t.okB=true) (o:List Nat):(tn t).tell o=zcu t o:=by
 have e:=zhA h
 unfold Tn.tell zcu
 by_cases h0:t.n=0
 ·rw [if_pos h0,if_pos (show (tn t).n=0 from e.1 h0)];rfl
 ·rw [if_neg h0,if_neg (show ¬(tn t).n=0 from fun h=>h0 (e.2 h)),zjO];rfl
theorem zgs:∀{ts:List Tk} {o:List Nat},(xp ts o).2=0→(xp ts o).1=za1 (ts.map tn) o
 | [],_,_=>rfl
 | t::r,o,h=>by
  by_cases e:zba t o.length=0
  ·rw [zbn e] at h ⊢
   obtain ⟨h1,-⟩:=zdF e
   rw [List.map_cons,za1,zj3 h1]
   exact zgs h
  ·rw [zbr e] at h
   exact absurd h e
theorem zij {A D:List Nat}:∀{ts:List Tk} {o:List Nat},(xp ts o).2=0→(∀t∈ts,codT A D t)→mayT A D (ts.map tn) o
 | [],_,_,_=>trivial
 | t::r,o,h,hc=>by
  by_cases e:zba t o.length=0
  ·rw [zbn e] at h
   obtain ⟨h1,h2,-⟩:=zdF e
   have hr:=zij (A:=A) (D:=D) h (fun x hx=>hc x (List.mem_cons_of_mem _ hx))
   obtain ⟨c1,c2⟩:=hc t List.mem_cons_self
   have en:=zhA h1
   refine ⟨⟨fun h0=>c1 (en.2 h0),fun h0=>?_⟩,by rw [zj3 h1];exact hr⟩
   have hn:t.n≠0:=fun h=>h0 (en.1 h)
   have hk:t.okB=decide (3≤t.n∧t.n≤258∧1≤t.d∧t.d≤32768∧t.b=0):=if_neg hn
   rw [h1] at hk
   have hk:=of_decide_eq_true hk.symm
   obtain ⟨x1,x2,x3,x4⟩:=c2 hn
   refine ⟨?_,?_,?_,?_,?_,x1,x2,x3,x4⟩<;>simp only [tn]<;>omega
  ·rw [zbr e] at h
   exact absurd h e
open Go.RowKit
theorem zdJ:∀(bs:List Bn) (b:Bn) (o:List Nat),zbt (bs++[b]) o=b.tell (zbt bs o)
 | [],_,_=>rfl
 | _::r,b,_=>zdJ r b _
theorem zfv:∀{bs:List Bn} {b:Bn} {o:List Nat},okB bs o→b.ok (zbt bs o)→okB (bs++[b]) o
 | [],_,_,_,h=>⟨h,trivial⟩
 | _::r,_,_,h1,h2=>⟨h1.1,zfv (bs:=r) h1.2 h2⟩
end
section
open Go.RowKit Go.Maps
theorem zir (b:List Nat):∀j,zbt (stD b j) []=b.take (65535*j)
 | 0=>by simp [stD,zbt]
 | j+1=>by
  rw [zdK,zdJ,zir b j]
  show b.take (65535*j)++(b.drop (65535*j)).take 65535=_
  rw [Nat.mul_add,Nat.mul_one,List.take_add]
theorem zlN {b:List Nat} (hb:∀x∈b,x<256):∀j,okB (stD b j) []
 | 0=>trivial
 | j+1=>by
  rw [zdK]
  exact zfv (zlN hb j) ⟨by rw [List.length_take];omega,fun x hx=>hb x (List.mem_of_mem_drop (List.mem_of_mem_take hx))⟩
theorem zry (b:List Nat):stB b≠[]:=by unfold stB;simp
theorem zhS (b:List Nat):zbt (stB b) []=b:=by
 unfold stB
 rw [zdJ,zir]
 show b.take _++b.drop _=b
 rw [List.take_append_drop]
theorem zrG (n:Nat):65535*stJ n≤n∧n - 65535*stJ n≤65535:=by unfold stJ;omega
theorem zne {b:List Nat} (hb:∀x∈b,x<256):okB (stB b) []:=
 zfv (zlN hb _) ⟨by rw [List.length_drop];exact (zrG _).2,fun x hx=>hb x (List.mem_of_mem_drop hx)⟩
end
section
open Go.RowKit
def SameP (P Q:Pt):Prop:=nmP P=nmP Q∧szP P=szP Q
theorem SameP.refl (P:Pt):SameP P P:=⟨rfl,rfl⟩
theorem SameP.app {P P' Q Q':Pt} (h:SameP P P') (k:SameP Q Q'):SameP (P++Q) (P'++Q'):=by
 unfold SameP at *
 rw [zc7,zc7,zaj,zaj,h.1,h.2,k.1,k.2]
 exact ⟨rfl,rfl⟩
theorem SameP.zero (v k:Nat):SameP [(v,k),(0,0)] [(v,k)]:=by simp [SameP,nmP,szP]
theorem zr0 {A D:List Nat} {t:Tk} (h:t.okB=true):SameP ((paT t).flatMap (plP [A,D])) ((tn t).put A D):=by
 unfold paT Tn.put
 by_cases h0:t.n=0
 ·rw [if_pos h0,if_pos (show (tn t).n=0 by show t.n.toNat=0;omega)]
  exact SameP.zero _ _
 ·rw [if_neg h0,if_neg (show ¬(tn t).n=0 by rcases zcH h with e | ⟨n,d,e1,e2,n1,n2,n3,n4⟩;exact absurd e h0;show ¬t.n.toNat=0;omega)]
  exact SameP.refl _
theorem zfp {A D:List Nat}:∀{ts:List Tk},(∀t∈ts,t.okB=true)→SameP ((pasT ts).flatMap (plP [A,D])) (zaJ A D (ts.map tn)++endP A)
 | [],_=>SameP.zero _ _
 | t::r,h=>by
  have e:pasT (t::r)=paT t++pasT r:=by unfold pasT;rw [List.flatMap_cons,List.append_assoc]
  rw [e,List.flatMap_append,List.map_cons,zaJ,List.append_assoc]
  exact (zr0 (h t List.mem_cons_self)).app (zfp fun x hx=>h x (List.mem_cons_of_mem _ hx))
end
section
open Go.RowKit
instance:Inhabited Tr:=⟨.leaf 0 0⟩
end
section
theorem zh0 {V:List Nat} {i v:Nat}:∀{m:Nat},i+m≤V.length→(∀j,j<m→lq V (i+j)=v)→V.take i++List.replicate m v=V.take (i+m)
 | 0,_,_=>by simp
 | m+1,h,hv=>by
  have e:=zh0 (m:=m) (by omega) fun j hj=>hv j (by omega)
  have hi:i+m<V.length:=by omega
  rw [List.replicate_succ',←List.append_assoc,e,←Nat.add_assoc,List.take_succ_eq_append_getElem hi,zdn hi,hv m (by omega)]
theorem zmx {v:Nat}:∀{r:List Nat} {j:Nat},j<(r.takeWhile fun x=>decide (x=v)).length→lq r j=v
 | [],j,h=>by simp at h
 | y::r,j,h=>by
  by_cases e:y=v
  ·cases j with
   | zero=>exact e
   | succ j=>
    rw [List.takeWhile_cons,if_pos (by simpa using e),List.length_cons] at h
    exact zmx (v:=v) (r:=r) (j:=j) (by omega)
  ·rw [List.takeWhile_cons,if_neg (by simpa using e)] at h
   simp at h
theorem zq0:∀{l:List Nat} {j:Nat},j<lk l→lq l j=lq l 0
 | [],j,h=>absurd h (Nat.not_lt_zero j)
 | v::r,0,_=>rfl
 | v::r,j+1,h=>by
  have h1:j+1<1+(r.takeWhile fun x=>decide (x=v)).length:=h
  exact zmx (v:=v) (r:=r) (j:=j) (by omega)
theorem zjL {C l V:List Nat} (hC:chk C=0) (h16:∀i,lq V i<16):∀(f i:Nat) {a:Nat} {q:Pt},V.length<f+i→i≤V.length→(∀x∈rnF V f i,x.c=0∧x.s<C.length∧0<lq C x.s)→
  AtP l a ((rnF V f i).flatMap (plP [C])++q)→InfLs C l V.length a (V.take i) (.go (a+szP ((rnF V f i).flatMap (plP [C]))) V)
 | 0,i,a,q,hf,hi,_,_=>by omega
 | f+1,i,a,q,hf,hi,hx,h=>by
  by_cases hlt:i<V.length
  ·rw [zcg hlt] at h hx ⊢
   obtain ⟨r1,r2⟩:=zil hlt
   have hlk:∀j,j<lk (V.drop i)→lq V (i+j)=lq V i:=fun j hj=>by
    have:=zq0 hj
    rwa [zgv,zgv,Nat.add_zero] at this
   obtain ⟨x0,x1,x2⟩:=hx _ List.mem_cons_self
   have hx':=fun x h=>hx x (List.mem_cons_of_mem _ h)
   have hshape:∃k c v,((rnP V i).1.s=16∧0<(V.take i).length∧k=2∧c=3∧v=(V.take i).getD ((V.take i).length - 1) 0∨(rnP V i).1.s=17∧k=3∧c=3∧v=0∨(rnP V i).1.s=18∧k=7∧c=11∧v=0∨(rnP V i).1.s<16∧k=0∧c=1∧v=(rnP V i).1.s)∧
     (rnP V i).1.z=k∧c+(rnP V i).1.m=(rnP V i).2∧∀j,j<(rnP V i).2→lq V (i+j)=v:=by
    have hl:(V.take i).length=i:=by rw [List.length_take];omega
    have hgl:0<i→(V.take i).getD ((V.take i).length - 1) 0=lq V (i - 1):=fun h0=>by
     rw [hl,List.getD_eq_getElem?_getD,List.getElem?_take,if_pos (by omega)];unfold lq;rw [List.getD_eq_getElem?_getD]
    unfold rnP rnQ
    by_cases hA:lq V i=0∧11≤lk (V.drop i)
    ·rw [if_pos hA]
     exact ⟨7,11,0,.inr (.inr (.inl ⟨rfl,rfl,rfl,rfl⟩)),rfl,by simp only;omega,fun j hj=>by rw [hlk j (by simp only at hj;omega)];exact hA.1⟩
    ·rw [if_neg hA]
     by_cases hB:lq V i=0∧3≤lk (V.drop i)
     ·rw [if_pos hB]
      exact ⟨3,3,0,.inr (.inl ⟨rfl,rfl,rfl,rfl⟩),rfl,by simp only;omega,fun j hj=>by rw [hlk j (by simpa using hj)];exact hB.1⟩
     ·rw [if_neg hB]
      by_cases hD:3≤lk (V.drop i)∧0<i∧lq V i=lq V (i - 1)
      ·rw [if_pos hD]
       refine ⟨2,3,lq V (i - 1),.inl ⟨rfl,by omega,rfl,rfl,(hgl hD.2.1).symm⟩,rfl,by simp only;omega,fun j hj=>by rw [hlk j (by simp only at hj;omega)];exact hD.2.2⟩
      ·rw [if_neg hD]
       refine ⟨0,1,lq V i,.inr (.inr (.inr ⟨h16 i,rfl,rfl,rfl⟩)),rfl,rfl,fun j hj=>?_⟩
       obtain rfl:j=0:=by simp only at hj;omega
       rfl
   obtain ⟨k,c,v,hsh,hz,hcm,hall⟩:=hshape
   rw [List.flatMap_cons,List.append_assoc] at h
   have hpl:plP [C] (rnP V i).1=[(cd (lq C) C.length (rnP V i).1.s,lq C (rnP V i).1.s),((rnP V i).1.m,(rnP V i).1.z)]:=by
    unfold plP
    rw [x0];rfl
   rw [hpl] at h
   obtain ⟨s1,h⟩:=AtP.sy hC x1 x2 h
   obtain ⟨n1,n2,h⟩:=h
   simp only at n1 n2 h
   rw [hz] at n1 n2 h
   have hl:(V.take i).length=i:=by rw [List.length_take];omega
   have hgo:=InfSv.go (C:=C) (l:=l) (n:=V.length) (a:=a) (ls:=V.take i) _ _ k c v s1 hsh n2 (by rw [n1,hl,hcm];exact r2)
   rw [n1,hcm,zh0 r2 hall] at hgo
   have hr:=zjL hC h16 f (i+(rnP V i).2) (by omega) r2 hx' h
   have h3:=InfLs.more _ _ _ _ _ (by rw [hl];exact hlt) hgo hr
   rw [List.flatMap_cons,zaj,hpl]
   simp only [szP]
   rw [hz,show a+(lq C (rnP V i).1.s+(k+0)+szP ((rnF V f (i+(rnP V i).2)).flatMap (plP [C])))=a+lq C (rnP V i).1.s+k+szP ((rnF V f (i+(rnP V i).2)).flatMap (plP [C])) by omega]
   exact h3
  ·obtain rfl:i=V.length:=by omega
   rw [zes (Nat.le_refl _),List.take_length]
   exact .fin a V (Nat.le_refl _)
theorem zhB {l:List Nat} {b:Nat} {f:Nat→Nat}:∀k,k≤19→(∀j,j<k→nb l (b+3*j) 3=f (ordL.getD j 0))→∀i,clF l b k i=if i∈ordL.take k then f i else 0
 | 0,_,_,i=>by simp;rfl
 | k+1,hk,h,i=>by
  show (if i=ordL.getD k 0 then nb l (b+3*k) 3 else clF l b k i)=_
  have hk':k<ordL.length:=by show k<19;omega
  have hg:ordL.getD k 0=ordL[k]:=by rw [List.getD_eq_getElem?_getD,List.getElem?_eq_getElem hk'];rfl
  rw [List.take_succ_eq_append_getElem hk',←hg]
  by_cases e:i=ordL.getD k 0
  ·rw [if_pos e,h k (by omega),if_pos (by rw [e];exact List.mem_append_right _ (List.mem_singleton.2 rfl)),e]
  ·rw [if_neg e,zhB k (by omega) (fun j hj=>h j (by omega)) i]
   by_cases m:i∈ordL.take k
   ·rw [if_pos m,if_pos (List.mem_append_left _ m)]
   ·rw [if_neg m,if_neg fun m'=>?_]
    rcases List.mem_append.1 m' with m' | m'
    ·exact m m'
    ·exact e (List.mem_singleton.1 m')
theorem znQ {l C:List Nat} {b k:Nat} (hC:C.length=19) (hk:k≤19) (h:∀j,j<k→nb l (b+3*j) 3=lq C (ordL.getD j 0)) (hz:∀j,k≤j→j<19→lq C (ordL.getD j 0)=0):clL l b k=C:=by
 unfold clL
 refine List.ext_getElem (by simp [hC]) fun i h1 h2=>?_
 rw [List.getElem_map,List.getElem_range,zhB k hk h i,zdn h2]
 by_cases m:i∈ordL.take k
 ·rw [if_pos m]
 ·rw [if_neg m]
  obtain ⟨j,hj,e⟩:=List.getElem_of_mem (zhU i (by omega))
  have hg:ordL.getD j 0=i:=by rw [List.getD_eq_getElem?_getD,List.getElem?_eq_getElem hj,←e];rfl
  by_cases hjk:j<k
  ·exact absurd (List.mem_take_iff_getElem.2 ⟨j,by omega,e⟩) m
  ·rw [←hg,hz j (by omega) hj]
theorem AtP.threes_end {l:List Nat} {f:Nat→Nat}:∀{xs:List Nat} {b:Nat} {q:Pt},xs≠[]→AtP l b (xs.map (fun i=>(f i,3))++q)→b+3*xs.length≤8*l.length
 | [],_,_,h,_=>absurd rfl h
 | [x],b,q,_,h=>h.2.1
 | x::y::xs,b,q,_,h=>by
  have:=AtP.threes_end (f:=f) (xs:=y::xs) (by simp) h.2.2
  rw [List.length_cons]
  simp only at this
  omega
theorem zrv {l X Y C:List Nat} {k:Nat} (x1:257≤X.length) (x2:X.length≤286) (y1:1≤Y.length) (y2:Y.length≤30) (k4:4≤k) (k19:k≤19) (hC:C.length=19) (cC:chk C=0) (hz:∀j,k≤j→j<19→lq C (ordL.getD j 0)=0)
  (h16:∀i,lq (X++Y) i<16) (hx:∀x∈rnL (X++Y),x.c=0∧x.s<C.length∧0<lq C x.s) (cx:chk X=0) (cy:chk Y=0) (h0:0<lq X 256) {a:Nat} {q:Pt} (h:AtP l a (putR X Y C k++q)):InfDy l a X.length (.go (a+szP (putR X Y C k)) (X++Y)):=by
 obtain ⟨p1,q1,p2,q2,p3,q3,h⟩:=h
 simp only at p1 q1 p2 q2 p3 q3 h
 rw [show a+5+5=a+10 by omega] at p3 q3 h
 rw [show a+10+4=a+14 by omega] at q3 h
 change AtP l (a+14) (((ordL.take k).map (fun i=>(lq C i,3))++(rnL (X++Y)).flatMap (plP [C]))++q) at h
 rw [List.append_assoc] at h
 have hlk:(ordL.take k).length=k:=by rw [List.length_take,show ordL.length=19 from rfl];omega
 have hcl:clL l (a+14) k=C:=znQ hC k19 (fun j hj=>by
  have:=AtP.threes (lq C) (xs:=ordL.take k) h j (by omega)
  rw [this]
  congr 1
  rw [List.getD_eq_getElem?_getD,List.getD_eq_getElem?_getD,List.getElem?_take,if_pos hj]) hz
 have hend:=AtP.threes_end (fun e=>by rw [e] at hlk;simp at hlk;omega) h
 rw [hlk] at hend
 obtain ⟨-,h2⟩:=h.app
 rw [zbi,hlk] at h2
 have hls:=zjL cC h16 ((X++Y).length+1) 0 (by omega) (by omega) hx h2
 rw [List.take_zero] at hls
 change InfLs C l (X++Y).length (a+14+3*k) [] (.go (a+14+3*k+szP ((rnL (X++Y)).flatMap (plP [C]))) (X++Y)) at hls
 have e1:nb l a 5+257=X.length:=by rw [p1];omega
 have e2:nb l (a+5) 5+1=Y.length:=by rw [p2];omega
 have e3:nb l (a+10) 4+4=k:=by rw [p3];omega
 have ht:(X++Y).take X.length=X:=List.take_left
 have hd:(X++Y).drop X.length=Y:=List.drop_left
 have hq:lq (X++Y) 256=lq X 256:=by
  unfold lq
  rw [List.getD_eq_getElem?_getD,List.getD_eq_getElem?_getD,List.getElem?_append_left (by omega)]
 have:=InfDy.done (l:=l) (a:=a) q3 (by rw [e1,e2];omega) (by rw [e3];omega) (by rw [e3,hcl];exact cC) _ (X++Y) (by
  rw [e1,e2,e3,hcl,←List.length_append]
  exact hls) (by rw [e1,hq,ht,hd];exact ⟨by omega,cx,cy⟩)
 rw [e1] at this
 rw [show a+szP (putR X Y C k)=a+14+3*k+szP ((rnL (X++Y)).flatMap (plP [C])) by
  unfold putR
  simp only [szP,zaj,zbi,hlk]
  omega]
 exact this
section
variable {l:List Nat} {m:Nat}
theorem Cut.cn (h:Cut l m) (n:Nat):cn (Proofs.YtedakhgaghfogaaGreat.lq l) (n+1) l.length=cn (Proofs.YtedakhgaghfogaaGreat.lq l) (n+1) m:=zez h.le fun i h1 h2=>by rw [h.z i h1 h2];rfl
theorem Cut.en (h:Cut l m):∀n,en (Proofs.YtedakhgaghfogaaGreat.lq l) l.length n=en (Proofs.YtedakhgaghfogaaGreat.lq l) m n
 | 0=>rfl
 | n+1=>by rw [Proofs.YtedakhgaghfogaaGreat.en,Proofs.YtedakhgaghfogaaGreat.en,h.en n,h.cn n]
theorem Cut.cd (h:Cut l m) (i:Nat):cd (Proofs.YtedakhgaghfogaaGreat.lq (l.take m)) (l.take m).length i=cd (Proofs.YtedakhgaghfogaaGreat.lq l) l.length i:=by
 rw [h.lq,h.len]
 unfold Proofs.YtedakhgaghfogaaGreat.cd nx
 rw [h.en]
theorem Cut.has (h:Cut l m) {i:Nat} (hi:i<l.length) (hp:0<Proofs.YtedakhgaghfogaaGreat.lq l i):i<m:=by
 rcases Nat.lt_or_ge i m with h1 | h1
 ·exact h1
 ·have:=h.z i h1 hi;omega
end
theorem Cut.codT {A D:List Nat} {m k:Nat} (hA:Cut A m) (hD:Cut D k) {t:Tk} (h:codT A D t):codT (A.take m) (D.take k) t:=by
 obtain ⟨h1,h2⟩:=h
 refine ⟨fun h0=>?_,fun h0=>?_⟩
 ·obtain ⟨b1,b2,b3⟩:=h1 h0
  rw [hA.len,hA.lq]
  exact ⟨b1,hA.has b2 b3,b3⟩
 ·obtain ⟨b1,b2,b3,b4⟩:=h2 h0
  rw [hA.len,hA.lq,hD.len,hD.lq]
  exact ⟨hA.has b1 b2,b2,hD.has b3 b4,b4⟩
theorem zrL {A D:List Nat} {m k:Nat} (hA:Cut A m) (hD:Cut D k) (x:Pa) (hx:x.c<2):plP [A.take m,D.take k] x=plP [A,D] x:=by
 unfold plP
 rcases (show x.c=0∨x.c=1 by omega) with e | e
 ·rw [e]
  show [(cd (lq (A.take m)) (A.take m).length x.s,lq (A.take m) x.s),(x.m,x.z)]=[(cd (lq A) A.length x.s,lq A x.s),(x.m,x.z)]
  rw [hA.cd,hA.lq]
 ·rw [e]
  show [(cd (lq (D.take k)) (D.take k).length x.s,lq (D.take k) x.s),(x.m,x.z)]=[(cd (lq D) D.length x.s,lq D x.s),(x.m,x.z)]
  rw [hD.cd,hD.lq]
end
section
theorem zrM {l X Y C:List Nat} {k:Nat} (x1:257≤X.length) (x2:X.length≤286) (y1:1≤Y.length) (y2:Y.length≤30) (k4:4≤k) (k19:k≤19) (hC:C.length=19) (cC:chk C=0) (hz:∀j,k≤j→j<19→lq C (ordL.getD j 0)=0)
  (h16:∀i,lq (X++Y) i<16) (hx:∀x∈rnL (X++Y),x.c=0∧x.s<C.length∧0<lq C x.s) (cx:chk X=0) (cy:chk Y=0) (h0:0<lq X 256) {ts:List Tn} {o:List Nat} (hm:mayT X Y ts o) {lim a:Nat} {q:Pt}
  (h:AtP l a (((2,2)::(putR X Y C k++(zaJ X Y ts++endP X)))++q)) (hl:(za1 ts o).length≤lim):InfBk l lim a o (.go (a+szP ((2,2)::(putR X Y C k++(zaJ X Y ts++endP X)))) (za1 ts o)):=by
 obtain ⟨p2,q2,h⟩:=h
 simp only at p2 q2 h
 change AtP l (a+2) ((putR X Y C k++(zaJ X Y ts++endP X))++q) at h
 rw [List.append_assoc] at h
 have hd:=zrv x1 x2 y1 y2 k4 k19 hC cC hz h16 hx cx cy h0 h
 obtain ⟨-,h⟩:=h.app
 rw [List.append_assoc] at h
 obtain ⟨t1,-⟩:=zeD cx cy (by omega) h0 lim (ts:=ts) hm h
 have e1:(X++Y).take X.length=X:=List.take_left
 have e2:(X++Y).drop X.length=Y:=List.drop_left
 have h3:=InfBk.dyn q2 p2 X.length _ _ hd _ (by rw [e1,e2];exact t1 hl)
 rw [show a+szP ((2,2)::(putR X Y C k++(zaJ X Y ts++endP X)))=a+2+szP (putR X Y C k)+szP (zaJ X Y ts)+lq X 256 by
  simp only [szP,zaj,endP];omega]
 exact h3
open Go.RowKit
def Tells (P:Pt) (b:List Nat):Prop:= ∃Q,SameP P Q∧okP Q∧∀l q lim,AtP l 0 (Q++q)→b.length≤lim→InfBl l lim 0 [] (.go (szP Q) b)
theorem SameP.bytP {P Q:Pt} (h:SameP P Q):bytP P=bytP Q:=by unfold Proofs.YtedakhgaghfogaaGreat.bytP;rw [h.1,h.2]
theorem Tells.infl {P:Pt} {b:List Nat} (h:Tells P b) (m:List Nat) {lim:Nat} (hl:lim≤524288) (hb:b.length≤lim):Infl (bytP P++m) lim b (bytP P).length 0:=by
 obtain ⟨Q,h1,h2,h3⟩:=h
 rw [h1.bytP]
 have t:=h3 (Proofs.YtedakhgaghfogaaGreat.bytP Q++m) [] lim (by rw [List.append_nil];exact zqv h2 m) hb
 have:=Infl.go lim _ _ rfl hl t
 rw [zds,show (szP Q+7)/8=alN (szP Q)/8 by unfold alN;omega]
 exact this
theorem zm1 {b:List Nat} (hb:∀x∈b,x<256):Tells (putB 0 (stB b)) b:=
 ⟨_,SameP.refl _,zgo (zne hb) 0,fun l q lim h hl=>by
  have:=(zly lim (zry b) (zne hb) h).1 (by rw [zhS];exact hl)
  rw [zhS,Nat.zero_add] at this
  exact this⟩
theorem zmn {ts:List Tk} {b:List Nat} (hx:xp ts []=(b,0)) (h256:∀t∈ts,t.b<256):Tells (fixP ts) b:=by
 have h2:(xp ts []).2=0:=by rw [hx]
 have hok:=zda h2
 have hB:okB [Bn.fx (ts.map tn)] []:=⟨zij h2 fun t ht=>zj8 (hok t ht) (h256 t ht),trivial⟩
 have ht:zbt [Bn.fx (ts.map tn)] []=b:=by
  show za1 (ts.map tn) []=b
  rw [←zgs h2,hx]
 refine ⟨putB 0 [Bn.fx (ts.map tn)],?_,zgo hB 0,fun l q lim h hl=>?_⟩
 ·show SameP (fixP ts) (((1,1)::(1,2)::(zaJ fixA fixD (ts.map tn)++endP fixA))++[])
  rw [List.append_nil]
  exact (SameP.refl [(1,1),(1,2)]).app (zfp hok)
 ·have:=(zly lim (by simp) hB h).1 (by rw [ht];exact hl)
  rw [ht,Nat.zero_add] at this
  exact this
theorem zrc {ts:List Tk} {x:Pa} (h:x∈pasT ts):x.c<2:=by
 rcases List.mem_append.1 h with h | h
 ·obtain ⟨t,-,hx⟩:=List.mem_flatMap.1 h
  unfold paT at hx
  split at hx
  ·rw [List.mem_singleton] at hx;subst hx;exact Nat.zero_lt_two
  ·rcases List.mem_cons.1 hx with rfl | hx
   ·exact Nat.zero_lt_two
   ·rw [List.mem_singleton] at hx;subst hx;exact Nat.one_lt_two
 ·rw [List.mem_singleton] at h;subst h;exact Nat.zero_lt_two
theorem zpl {A D:List Nat} {m k:Nat} (hA:Cut A m) (hD:Cut D k) {xs:List Pa} (h:∀x∈xs,x.c<2):xs.flatMap (plP [A,D])=xs.flatMap (plP [A.take m,D.take k]):=by
 induction xs with
 | nil=>rfl
 | cons x r ih=>
  rw [List.flatMap_cons,List.flatMap_cons,ih fun y hy=>h y (List.mem_cons_of_mem _ hy),zrL hA hD x (h x List.mem_cons_self)]
theorem zrN {C:List Nat} {xs:List Pa} (h:∀x∈xs,PaOk [C] x):okP (xs.flatMap (plP [C])):=fun p hp=>by
 obtain ⟨x,hx,hp⟩:=List.mem_flatMap.1 hp
 obtain ⟨-,-,-,h4,-⟩:=h x hx
 unfold plP at hp
 rcases List.mem_cons.1 hp with rfl | hp
 ·exact zbL _ _ _
 ·rw [List.mem_singleton] at hp;subst hp;exact h4
theorem zqQ {X Y C:List Nat} {k:Nat} (x1:X.length≤286) (y1:Y.length≤30) (k4:k≤19) (h8:∀i,lq C i<8) (h:∀x∈rnL (X++Y),PaOk [C] x):okP (putR X Y C k):=by
 refine zaA (by show X.length - 257<32;omega) (zaA (by show Y.length - 1<32;omega) (zaA (by show k - 4<16;omega) (zbB (fun p hp=>?_) (zrN h))))
 obtain ⟨i,-,rfl⟩:=List.mem_map.1 hp
 exact h8 i
theorem DynF.tells {ts:List Tk} {P:Pt} {b:List Nat} (h:DynF ts P) (hx:xp ts []=(b,0)) (h256:∀t∈ts,t.b<256):Tells P b∧szP P≤15*b.length+7100:=by
 have h2:(xp ts []).2=0:=by rw [hx]
 have hok:=zda h2
 obtain ⟨gA,gD,gC,hA,hD,hC,rfl⟩:=h.ex
 obtain ⟨hcod,h0⟩:=zki (fun t ht=>⟨hok t ht,h256 t ht⟩) hA.1 hD.1
 have cA:=zaZ hA.1 (by decide) (by decide)
 have cD:=zaZ hD.1 (by decide) (by decide)
 have lA:=zap gA 286
 have lD:=zap gD 30
 have lC:=zap gC 19
 have K:=DynK.of (gl gC 19) lA lD cA cD
 have cutA:Cut (gl gA 286) (trN (gl gA 286) 257 286):=by have:=Cut.of (gl gA 286) 257;rwa [lA] at this
 have cutD:Cut (gl gD 30) (trN (gl gD 30) 1 30):=by have:=Cut.of (gl gD 30) 1;rwa [lD] at this
 obtain ⟨cC,r1,r2,r3,r4⟩:=zdp K.h16 hC.1
 have hfl:=zpl cutA cutD (xs:=pasT ts) fun x hx=>zrc hx
 have hm:mayT (cutX (gl gA 286)) (cutY (gl gD 30)) (ts.map tn) []:=zij h2 fun t ht=>cutA.codT cutD (hcod t ht)
 have h06:0<lq (cutX (gl gA 286)) 256:=by show 0<lq ((gl gA 286).take _) 256;rw [cutA.lq];exact h0
 refine ⟨⟨(1,1)::((2,2)::(putR (cutX (gl gA 286)) (cutY (gl gD 30)) (gl gC 19) (trN (ordO (gl gC 19)) 4 19)++(zaJ (cutX (gl gA 286)) (cutY (gl gD 30)) (ts.map tn)++endP (cutX (gl gA 286))))),?_,?_,fun l q lim h hl=>?_⟩,?_⟩
 ·unfold dynP
  rw [hfl,List.append_assoc]
  exact (SameP.refl [(1,1),(2,2)]).app ((SameP.refl _).app (zfp hok))
 ·exact zaA (by decide) (zaA (by decide) (zbB (zqQ K.x1.2 K.y1.2 K.k.2 r3 r2) (zbB (zer hm) (zex (zbL _ _ _)))))
 ·obtain ⟨p1,q1,h⟩:=h
  have ht:za1 (ts.map tn) []=b:=by rw [←zgs h2,hx]
  have:=zrM (lim:=lim) K.x1.1 K.x1.2 K.y1.1 K.y1.2 K.k.1 K.k.2 lC cC K.hz K.h16 r1 K.cx K.cy h06 hm h (by rw [ht];exact hl)
  rw [ht] at this
  have h3:=InfBl.last 0 [] q1 p1 _ _ this
  simp only [szP,Nat.zero_add] at h3 ⊢
  exact h3
 ·have s1:=zkd K.x1.2 K.y1.2 K.k.2 r4
  have s2:=zfA (zb6 cA) (zb6 cD) (ts:=ts) hok
  have s3:=zdD h2
  rw [hx] at s3
  simp only [List.length_nil,Nat.zero_add] at s3
  rw [←s3] at s2
  unfold dynP
  simp only [zaj,szP]
  omega
theorem zeT {P Q:Pt} {b:List Nat} (h:Tells P b) (k:Tells Q b):Tells (zbN P Q) b:=by
 unfold zbN
 split
 ·exact k
 ·exact h
theorem DefS.infl {b S:List Nat} (h:DefS b S) (hb:∀x∈b,x<256) (hl:b.length≤524288) (m:List Nat) {lim:Nat} (h1:lim≤524288) (h2:b.length≤lim):Infl (S++m) lim b S.length 0:=by
 obtain ⟨ts,P,h3,h4,h5,rfl⟩:=h.ex
 have hx:=h3.tell hl
 exact (zeT (zeT (zm1 hb) (zmn hx h4)) (h5.tells hx h4).1).infl m h1 h2
theorem DefS.lt {b S:List Nat} (h:DefS b S):∀x∈S,x<256:=by
 obtain ⟨ts,P,-,-,-,rfl⟩:=h.ex
 exact zgl _ _
end
section
theorem zm3 {l S:List Nat} (hS:DefS (cdP l) S) (h2:l.length≤65536):CdR (cdE l S).1 (cdE l S).2 l.length (some (l.map rlw)):=by
 obtain ⟨j,hj,e,his⟩:=znz l S
 rw [e]
 obtain rfl | rfl | rfl | rfl:j=0∨j=1∨j=2∨j=3:=by omega
 ·refine .inl ⟨rfl,?_⟩
  show _=if (cdP l).length=3*l.length then some (zar (cdP l)) else none
  rw [if_pos (zbc l),zf9]
 ·refine .inr (.inl ⟨rfl,?_⟩)
  show _=if (rlD (rlBs (rlO l)) l.length).2=0 then some (rlD (rlBs (rlO l)) l.length).1 else none
  rw [zq3 h2];rfl
 ·refine .inr (.inr (.inl ⟨rfl,?_⟩))
  show _=if (plD (plE l).1 l.length).2=0 then some (plD (plE l).1 l.length).1 else none
  have hc:¬((zae l).length<1∨16<(zae l).length):=fun hc=>by
   have h3:(plE l).2=true:=his
   rw [zl4 hc] at h3
   cases h3
  rw [zpX hc h2];rfl
 ·refine .inr (.inr (.inr ⟨rfl,cdP l,S.length,0,?_,?_⟩))
  ·have:=hS.infl (zet l) (by rw [zbc];omega) [] (lim:=3*l.length) (by omega) (by rw [zbc];exact Nat.le_refl _)
   rwa [List.append_nil] at this
  ·show _=if (0:Int)=0∧S.length=S.length∧(cdP l).length=3*l.length then some (zar (cdP l)) else none
   rw [if_pos ⟨rfl,rfl,zbc l⟩,zf9]
open Go.RowKit
attribute [local go_sem] Oper.semAt_some
attribute [local go_sem] zaU
instance (wd ht:Int) (n:Nat):Decidable (cdM wd ht n):=by unfold cdM;infer_instance
end
end Go.Proofs.YtedakhgaghfogaaGreat
