/- Several texts in one, each with its own head. -/
import Derived.Test.YtedakhgaghfogaaGreatQs42
import Derived.Test.YtedakhgaghfogaaGreatQs46
import Derived.ProofKit
import Derived.Lib.SmallJoins
import Derived.Deep.Slices
import Derived.WalkKit
namespace Go.Proofs.YtedakhgaghfogaaGreat
section
open Go.ChangeShapes Go.WideShapes Go.ChangeAt Go.RowKit Go.Joins
theorem Tryz.own:ownKnob Tryz.prog.godebug=none:=by kernel_rfl
theorem Tryz.laidOut:laidOutB Tryz.prog=true:=by kernel_rfl
theorem zdT {H:Type} {enc:TypeId×Value→H} {P:Program} (hl:laidOutB P=true) {W W':World} (hb:Below W.heap.size W W'):
  ∀(ts:List TypeId) (vs:List Value) (ds:List (DataW H)) (ps:List MemPlace),(∀t∈ts,P.readableRec t=true∧t<P.types.size)→DataW.TrodAll enc P W 0 (fun _=>true) true ts vs ds ps→(∀x∈ps,x.block<W.heap.size)→
   DataW.TrodAll enc P W' 0 (fun b=>decide (b<W.heap.size)) true ts vs ds ps
 | [],_,_,_,_,h,_=>by
  obtain ⟨rfl,rfl,rfl⟩:=trodAll_nil h
  exact trodAll_mk0
 | t::ts,_,_,_,hr,h,hlt=>by
  obtain ⟨v,vs',d,ds',p,q,rfl,rfl,rfl,h1,h2⟩:=trodAll_cons h
  have ht:=hr t (by simp)
  exact trodAll_cons_mk (Below.trod hl ht.1 ht.2 h1 hb (fun x hx=>hlt x (by simp [hx]))) (zdT hl hb ts vs' ds' q (fun t' h'=>hr t' (by simp [h'])) h2 (fun x hx=>hlt x (by simp [hx])))
theorem znS {H:Type} {enc:TypeId×Value→H} {f:Func} {s:ChangeSpec} (tb:TypeId) {W W':World} {args:Array Value} {ds gs:List (DataW H)} {before:List MemPlace}
  (hread:∀t∈f.params.toList,Tryz.prog.readableRec t=true∧t<Tryz.prog.types.size) (hrt:f.resultTypes=#[tb]) (hub:Tryz.prog.underlying tb=some .bool) (hv:s.vars=[])
  (hW:DataW.Whole enc Tryz.prog f.params.toList s.vars false W args.toList ds gs before) (hr:(s.fn H (ds++gs)).results=[.lit (.bool true)]) (ha:(s.fn H (ds++gs)).args=ds) (hvs:(s.fn H (ds++gs)).vars=[])
  (hb:Below W.heap.size W W'):s.post enc Tryz.prog f false true false false W args (.bool true) W':=by
 have hlt:=hW.lt
 have hW':=hW
 obtain ⟨p,q,hA,hV,rfl,hfz,hnd⟩:=hW
 rw [hv] at hV
 obtain ⟨rfl,rfl⟩:=trodVars_none hV
 refine ⟨_,_,_,[],p,[],hW',?_,?_,?_,hb.frame _,fun h=>by cases h⟩
 ·rw [hr,hrt]
  exact trodAll_mk1 (shut_bool hub true)
 ·rw [ha]
  exact zdT Tryz.laidOut hb _ _ _ _ hread hA (fun x hx=>by simpa using hlt x (by simp [hx]))
 ·rw [hvs,hv]
  rfl
theorem zcY {n:Int} (h:(Lit.int .i64 n).wf=true): -9223372036854775808≤n∧n≤9223372036854775807:=by
 have hm:IntKind.i64.min= -9223372036854775808:=by decide
 simpa [Lit.wf,hm] using h
theorem zkr {n:Int} (h:(Lit.int .u32 n).wf=true):0≤n∧n<4294967296:=by
 have hm:IntKind.u32.min=0:=by decide
 have hx:IntKind.u32.max=4294967295:=by decide
 have:=h
 simp [Lit.wf,hm,hx] at this
 omega
end
section
open Go.ChangeShapes Go.WideShapes Go.ChangeAt Go.RowKit Go.Joins Go.Deep
set_option maxRecDepth 100000 in
theorem zlL {α:Type} [Inhabited α] {ec:α→List Value} {k:Nat} {Good:α→Prop} {H:Type} {enc:TypeId×Value→H} {W:World} {base:Nat} {v:Value} {d:DataW H} {p:List MemPlace} {t e:TypeId}
  (ht:Tryz.prog.underlying t=some (.slice e)) (hk:Tryz.prog.cellsOf e=k)
  (hat:∀(n:Nat) (a:Addr) (D:DataW H) (Pl:List MemPlace) (cs:List Value),W.cells? 0 a k=some cs→DataW.trod enc Tryz.prog W 0 (fun _=>true) true n e cs=some (D,Pl)→∃x:α,Good x∧∀j u,(ec x)[j]? =some u→W.cell? (a.add j)=some u)
  (hv:Value.okWide Tryz.prog W .any base t v) (h:DataW.Trod enc Tryz.prog W 0 (fun _=>true) true t v d p):
  ∃xs:List α,RwG ec k W v xs∧∀x∈xs,Good x:=by
 obtain ⟨a0,len,cap,rfl⟩:=okWide_slice ht hv
 obtain ⟨fuel,hf⟩:=h
 rcases open_slice ht hf with ⟨hcs,-⟩ | ⟨a,len',cap',m,n,D,Pl,hcs,hb,hl,hm,hmm,hx,hi⟩
 ·simp [Value.cells] at hcs
  obtain ⟨rfl,rfl,rfl⟩:=hcs
  exact ⟨[],⟨⟨none,0,rfl,Nat.le_refl _,by simp [maxLen],.inl ⟨rfl,rfl⟩⟩,fun c h=>by cases h;rfl⟩,fun r h=>by cases h⟩
 ·simp [Value.cells] at hcs
  obtain ⟨rfl,rfl,rfl⟩:=hcs
  have hh:W.has Tryz.prog .any base a e cap:=by
   have h1:=hv
   unfold Value.okWide at h1
   rw [ht] at h1
   simp only [Cell.okWide,ht,Cell.ok] at h1
   exact h1.2.2
  obtain ⟨-,hspot,row,cells,hsh,-⟩:=hh
  have hlt:a.block<W.heap.size:=by
   unfold World.shape? at hsh
   cases hq:W.heap[a.block]? with
   | none=>rw [hq] at hsh;cases hsh
   | some o=>exact (Array.getElem?_eq_some_iff.1 hq).1
  obtain ⟨ab,ao,asp⟩:=a
  dsimp only at hspot hlt
  subst hspot
  rw [hk] at hi
  have H:∀i,i<len→∃r:α,Good r∧∀j u,(ec r)[j]? =some u→W.cell? ((⟨ab,ao,none⟩:Addr).add (i*k) |>.add j)=some u:=fun i him=>by
   obtain ⟨cs',hc,ht⟩:=hi i (by rw [hmm];simp;omega)
   exact hat _ _ _ _ _ hc ht
  obtain ⟨f,hf'⟩:∃f:Nat→α,∀i,i<len→Good (f i)∧∀j u,(ec (f i))[j]? =some u→W.cell? ((⟨ab,ao,none⟩:Addr).add (i*k) |>.add j)=some u:=by
   classical
   refine ⟨fun i=>if h:i<len then Classical.choose (H i h) else default,fun i him=>?_⟩
   simp only [him,dif_pos]
   exact Classical.choose_spec (H i him)
  have hln:((List.range len).map f).length=len:=by simp
  refine ⟨(List.range len).map f,⟨⟨_,cap,by rw [hln],by rw [hln];exact hl,hm,.inr ⟨_,_,rfl,hlt,fun i x hx j u hu=>?_⟩⟩,fun c h=>by cases h⟩,fun r hr=>?_⟩
  ·rw [List.getElem?_map] at hx
   cases hr:(List.range len)[i]? with
   | none=>rw [hr] at hx;cases hx
   | some q=>
    rw [hr] at hx
    obtain ⟨hlt2,hq⟩:=List.getElem?_eq_some_iff.1 hr
    rw [List.getElem_range] at hq
    subst hq
    cases hx
    have h4:=(hf' i (by simpa using hlt2)).2 j u hu
    rw [Addr.add_lit,Addr.add_lit] at h4
    exact h4
  ·obtain ⟨i,hi',rfl⟩:=List.mem_map.1 hr
   exact (hf' i (by simpa using hi')).1
end
section
theorem zgl:∀(N m:Nat),∀b∈byts N m,b<256
 | _,0,b,h=>by cases h
 | N,m+1,b,h=>by
  rcases List.mem_cons.1 h with rfl | h
  ·omega
  ·exact zgl _ m b h
theorem zcW:∀(N m:Nat),N<256^m→numB (byts N m)=N
 | N,0,h=>by simp at h;subst h;rfl
 | N,m+1,h=>by
  rw [byts,numB,zcW (N/256) m (by rw [Nat.pow_succ] at h;exact Nat.div_lt_of_lt_mul (by rwa [Nat.mul_comm]))]
  omega
theorem zp4 (l:List Nat):rlay (rlO l)=l.map rlw:=by
 cases l with
 | nil=>rfl
 | cons x r=>show rlay (rgo 1 (rlw x) r)=_;rw [zfq];rfl
theorem zif:∀rs:List (Nat×Nat),(∀r∈rs,RlOk r)→∀t,rlT (rlBs rs++t)=rs++rlT t
 | [],_,t=>rfl
 | (n,c)::rs,h,t=>by
  obtain ⟨h1,h2,h3⟩:=h (n,c) (by simp)
  show (n - 1+1,c/65536*65536+c/256%256*256+c%256)::rlT (rlBs rs++t)=_
  simp only at h1 h3
  rw [zif rs (fun r hr=>h r (by simp [hr])) t,show n - 1+1=n by omega,show c/65536*65536+c/256%256*256+c%256=c by omega]
  rfl
theorem zq3 {l:List Nat} (h:l.length≤65536):rlD (rlBs (rlO l)) l.length=(l.map rlw,0):=by
 have e:rlay (rlT (rlBs (rlO l)))=l.map rlw:=by
  have:=zif (rlO l) (zkI l) []
  rw [List.append_nil] at this
  rw [this,show rlT []=[] from rfl,List.append_nil,zp4]
 rw [zgj (by omega) (by rw [zdA];omega) (by rw [e];simp),e]
open Go.ChangeShapes Go.WideShapes Go.ChangeAt Go.RowKit Go.Joins Go.Deep
set_option maxRecDepth 100000 in
theorem zrB {H:Type} {enc:TypeId×Value→H} {W:World} (n:Nat) (a:Addr) (D:DataW H) (Pl:List MemPlace) (cs:List Value) (hc:W.cells? 0 a 1=some cs) (ht:DataW.trod enc Tryz.prog W 0 (fun _=>true) true n 51 cs=some (D,Pl)):
  ∃x:Nat,x<4294967296∧∀j u,(encP x)[j]? =some u→W.cell? (a.add j)=some u:=by
 obtain ⟨-,hl,hat⟩:=World.cells?_some hc
 match cs,hl with
 | [c0],_=>
  obtain ⟨x,e0,-,wf⟩:=DataW.trod_int Tryz.underlying51 ht
  simp at e0
  subst e0
  have hb:=zkr wf
  obtain ⟨m,rfl⟩:=Int.eq_ofNat_of_zero_le hb.1
  refine ⟨m,by omega,fun j u hu=>?_⟩
  have hj:j<1:=by
   have:=(List.getElem?_eq_some_iff.1 hu).1
   simpa [encP] using this
  rw [hat j hj]
  exact hu
set_option maxRecDepth 100000 in
theorem zqW {H:Type} {enc:TypeId×Value→H} {W:World} {base:Nat} {v:Value} {d:DataW H} {p:List MemPlace} (hv:Value.okWide Tryz.prog W .any base 24 v) (h:DataW.Trod enc Tryz.prog W 0 (fun _=>true) true 24 v d p):
  ∃xs:List Nat,RwP W v xs∧∀x∈xs,x<4294967296:=
 zlL Tryz.underlying24 (by kernel_rfl) zrB hv h
end
section
open Go.ChangeShapes Go.WideShapes Go.ChangeAt Go.RowKit Go.Joins Go.Deep
theorem zl3:Tryz.prog.cellsOf 26=3:=by kernel_rfl
set_option maxRecDepth 100000 in
theorem zlj {H:Type} {enc:TypeId×Value→H} {W:World} {base n:Nat} {v:Value} {y:DataW H×List MemPlace} (hv:Cell.okWide Tryz.prog W .any base 24 v) (h:DataW.trod enc Tryz.prog W 0 (fun _=>true) true n 24 [v]=some y):
  ∃(p:Option Addr) (c:Nat) (S:List Nat),v= .slice p S.length c∧RowAt encP 1 W p S∧(∀v∈S,v<4294967296)∧S.length≤c∧c≤9223372036854775807∧(p=none→c=0):=by
 rcases open_slice1 Tryz.underlying24 (by kernel_rfl) h with ⟨hcs,-⟩ | ⟨a,len,cap,m,n,V,D,Pl,hcs,hb,hl,hm,hmm,hx,hi⟩
 ·simp at hcs
  subst hcs
  exact ⟨none,0,[],rfl,.inl ⟨rfl,rfl⟩,fun v h=>(by cases h),Nat.le_refl _,by decide,fun _=>rfl⟩
 ·simp at hcs
  subst hcs
  have hh:W.has Tryz.prog .any base a 51 cap:=by
   have h1:=hv
   simp only [Cell.okWide,Tryz.underlying24,Cell.ok] at h1
   exact h1.2.2
  obtain ⟨-,hspot,row,cells,hsh,-⟩:=hh
  have hlt:a.block<W.heap.size:=by
   unfold World.shape? at hsh
   cases hq:W.heap[a.block]? with
   | none=>rw [hq] at hsh;cases hsh
   | some o=>exact (Array.getElem?_eq_some_iff.1 hq).1
  obtain ⟨ab,ao,asp⟩:=a
  dsimp only at hspot hlt
  subst hspot
  have H:∀i,i<len→∃x:Nat,x<4294967296∧W.cell? ⟨ab,ao+i,none⟩=some (.int .u32 (x:Int)):=fun i him=>by
   obtain ⟨hc,ht⟩:=hi i (by rw [hmm];simp;omega)
   obtain ⟨x,e,-,wx⟩:=DataW.trod_int Tryz.underlying51 ht
   simp at e
   rw [e] at hc
   rw [Addr.add_lit] at hc
   have hw:=zkr wx
   exact ⟨x.toNat,by omega,by rw [Int.toNat_of_nonneg hw.1];exact hc⟩
  obtain ⟨f,hf'⟩:∃f:Nat→Nat,∀i,i<len→f i<4294967296∧W.cell? ⟨ab,ao+i,none⟩=some (.int .u32 (f i:Int)):=by
   classical
   refine ⟨fun i=>if h:i<len then Classical.choose (H i h) else default,fun i him=>?_⟩
   simp only [him,dif_pos]
   exact Classical.choose_spec (H i him)
  have hln:((List.range len).map f).length=len:=by simp
  refine ⟨some ⟨ab,ao,none⟩,cap,(List.range len).map f,by rw [hln],.inr ⟨_,_,rfl,hlt,fun i x hx j u hu=>?_⟩,fun v hv=>?_,by rw [hln];exact hl,hm,fun h=>by cases h⟩
  ·rw [List.getElem?_map] at hx
   cases hr:(List.range len)[i]? with
   | none=>rw [hr] at hx;cases hx
   | some q=>
    rw [hr] at hx
    obtain ⟨hlt2,hq⟩:=List.getElem?_eq_some_iff.1 hr
    rw [List.getElem_range] at hq
    subst hq
    cases hx
    obtain ⟨hj,hju⟩:=List.getElem?_eq_some_iff.1 hu
    have hj0:j=0:=by simp [encP] at hj;omega
    subst hj0
    simp [encP] at hju
    subst hju
    have:=(hf' i (by simpa using hlt2)).2
    simpa [pxv] using this
  ·obtain ⟨i,hi',rfl⟩:=List.mem_map.1 hv
   exact (hf' i (by simpa using hi')).1
set_option maxRecDepth 100000 in
theorem zm6 {H:Type} {enc:TypeId×Value→H} {W:World} {base:Nat} {v:Value} {d:DataW H} {p:List MemPlace} (hv:Value.okWide Tryz.prog W .any base 26 v) (h:DataW.Trod enc Tryz.prog W 0 (fun _=>true) true 26 v d p):
  ∃(wd ht:Int) (q:Option Addr) (n c:Nat) (S:List Nat),v= .agg #[.int .i64 wd,.int .i64 ht,.slice q n c]∧RwP W (.slice q n c) S∧(∀x∈S,x<4294967296):=by
 obtain ⟨v0,v1,v2,y0,y1,y2,n,rfl,rfl,rfl,h0,h1,h2⟩:=open_agg3 Tryz.underlying26 (by kernel_rfl) zl3 hv h
 obtain ⟨a,e0,-,wa⟩:=DataW.trod_int Tryz.underlying3 h0
 obtain ⟨b,e1,-,wb⟩:=DataW.trod_int Tryz.underlying3 h1
 simp at e0 e1
 subst e0 e1
 have hc:Cell.okWide Tryz.prog W .any base 24 v2:=by
  have h3:=hv
  unfold Value.okWide at h3
  rw [Tryz.underlying26] at h3
  obtain ⟨cs,hcs,-,ts,hts,-,hall⟩:=h3
  cases hcs
  have ht:Tryz.prog.cellTypes Tryz.prog.depth 26=some [3,3,24]:=by kernel_rfl
  rw [ht] at hts
  cases hts
  obtain ⟨u,hu,hok⟩:=hall 2 v2 rfl
  cases hu
  exact hok
 obtain ⟨q,c,S,rfl,hr,hu,hl,hm,hz⟩:=zlj hc h2
 exact ⟨a,b,q,S.length,c,S,rfl,⟨⟨q,c,rfl,hl,by simp only [maxLen];exact hm,hr⟩,fun c' h=>by injection h with h1 _ h3;rw [←h3];exact hz h1⟩,hu⟩
end
section
theorem zkC (wd tx ty aw:Nat) (L:List Nat):∀(n x y:Nat),x<aw→y<n→(upC wd tx ty aw n L).getD (y*aw+x) 0=L.getD ((ty+y)*wd+tx+x) 0
 | 0,_,_,_,h=>by omega
 | n+1,x,y,hx,hy=>by
  rw [zfr,List.getD_eq_getElem?_getD]
  by_cases h:y<n
  ·have h2:y*aw+x<n*aw:=by
    have:=Nat.mul_le_mul_right aw (show y+1≤n by omega)
    rw [Nat.add_mul,Nat.one_mul] at this
    omega
   rw [List.getElem?_append_left (by rw [zcc];exact h2),←List.getD_eq_getElem?_getD,zkC wd tx ty aw L n x y hx h]
  ·obtain rfl:y=n:=by omega
   rw [List.getElem?_append_right (by rw [zcc];omega),zcc,Nat.add_sub_cancel_left,←List.getD_eq_getElem?_getD,zdz _ _ hx]
instance (wd ht x y a c:Int):Decidable (upIs wd ht x y a c):=by unfold upIs;infer_instance
theorem ziA (s:Nat):∀l:List Nat,(∀v∈l,v<2^s)→plN s l<2^(s*l.length)
 | [],_=>by simp [plN]
 | x::r,h=>by
  have h1:=h x (by simp)
  have h2:=ziA s r (fun v hv=>h v (by simp [hv]))
  show x+2^s*plN s r<2^(s*(r.length+1))
  rw [Nat.mul_add s,Nat.mul_one,Nat.pow_add,Nat.mul_comm (2^(s*r.length))]
  have h3:2^s*(plN s r+1)≤2^s*2^(s*r.length):=Nat.mul_le_mul_left _ h2
  rw [Nat.mul_add,Nat.mul_one] at h3
  omega
theorem zkn (s:Nat):∀(l:List Nat),(∀v∈l,v<2^s)→∀i,i<l.length→plN s l/2^(s*i)%2^s=l.getD i 0
 | [],_,i,h=>by simp at h
 | x::r,h,0,_=>by
  have h1:=h x (by simp)
  show (x+2^s*plN s r)/2^(s*0)%2^s=x
  rw [Nat.mul_zero,Nat.pow_zero,Nat.div_one,Nat.add_mul_mod_self_left,Nat.mod_eq_of_lt h1]
 | x::r,h,i+1,hi=>by
  have h1:=h x (by simp)
  show (x+2^s*plN s r)/2^(s*(i+1))%2^s=_
  rw [Nat.mul_add s,Nat.mul_one,Nat.pow_add,Nat.mul_comm (2^(s*i)),←Nat.div_div_eq_div_mul,Nat.add_mul_div_left _ _ (zbz s),Nat.div_eq_of_lt h1,Nat.zero_add,List.getD_cons_succ]
  exact zkn s r (fun v hv=>h v (by simp [hv])) i (by simpa using hi)
theorem zhZ {l:List Nat}:∀v∈plV (zae l) l,v<(zae l).length:=by
 intro v hv
 obtain ⟨x,hx,rfl⟩:=List.mem_map.1 hv
 exact zid.2 ((zcE l [] _).2 (.inr ⟨x,hx,rfl⟩))
theorem zqp (l:List Nat):∀x∈(plE l).1,x<256:=by
 unfold plE
 split
 ·intro x hx;cases hx
 ·rename_i h
  intro x hx
  rcases List.mem_append.1 hx with hx | hx
  ·rcases List.mem_cons.1 hx with rfl | hx
   ·omega
   ·obtain ⟨c,hc,hx⟩:=List.mem_flatMap.1 hx
    have:=zfj l c hc
    simp only [plB,List.mem_cons,List.not_mem_nil,or_false] at hx
    rcases hx with rfl | rfl | rfl<;>omega
  ·exact zgl _ _ x hx
theorem zdx:∀cs:List Nat,(∀c∈cs,c<16777216)→zar (cs.flatMap plB)=cs
 | [],_=>rfl
 | c::r,h=>by
  have:=h c (by simp)
  show (c/65536*65536+c/256%256*256+c%256)::zar (r.flatMap plB)=_
  rw [zdx r (fun x hx=>h x (by simp [hx])),show c/65536*65536+c/256%256*256+c%256=c by omega]
theorem zqL {l:List Nat} (h:(zae l).length≤16):plG (plT (zae l) l) (plZ (zae l).length) l.length=plV (zae l) l:=by
 have hv:∀v∈plV (zae l) l,v<2^plZ (zae l).length:=fun v hv=>Nat.lt_of_lt_of_le (zhZ v hv) (zgp h)
 have hN:=ziA _ _ hv
 rw [zcD] at hN
 have hB:numB (plT (zae l) l)=plN (plZ (zae l).length) (plV (zae l) l):=zcW _ _ (by
  rw [zd1]
  exact Nat.lt_of_lt_of_le hN (Nat.pow_le_pow_right (by decide) (by omega)))
 refine List.ext_getElem (by rw [zeu,zcD]) (fun i h1 h2=>?_)
 rw [zmU,hB,zkn _ _ hv i h2,List.getD_eq_getElem?_getD,List.getElem?_eq_getElem h2]
 rfl
theorem zoM {l:List Nat} (h:(zae l).length≤16):plPx (zae l) (plT (zae l) l) l.length=some (l.map rlw):=by
 have hv:∀v∈plV (zae l) l,v<2^plZ (zae l).length:=fun v hv=>Nat.lt_of_lt_of_le (zhZ v hv) (zgp h)
 have hN:=ziA _ _ hv
 rw [zcD] at hN
 have hB:numB (plT (zae l) l)=plN (plZ (zae l).length) (plV (zae l) l):=zcW _ _ (by
  rw [zd1]
  exact Nat.lt_of_lt_of_le hN (Nat.pow_le_pow_right (by decide) (by omega)))
 unfold plPx
 rw [if_neg (by rw [zgE,Nat.mul_comm];simp),zqL h,if_neg (by
  rintro ⟨v,h1,h2⟩
  have:=zhZ v h1
  omega),if_neg (by
  rw [hB,Nat.mul_comm,Nat.div_eq_of_lt hN];simp)]
 congr 1
 unfold plV
 rw [List.map_map]
 refine List.map_congr_left (fun x hx=>?_)
 exact zkE ((zcE l [] _).2 (.inr ⟨x,hx,rfl⟩))
theorem zpX {l:List Nat} (h:¬((zae l).length<1∨16<(zae l).length)) (hl:l.length≤65536):plD (plE l).1 l.length=(l.map rlw,0):=by
 have h0:1≤l.length:=by
  have:=(zgk l []).2
  have e:plC [] l=zae l:=rfl
  rw [e] at this
  simp at this;omega
 rw [zkm h]
 have hd:(plH (zae l)++plT (zae l) l).getD 0 0=(zae l).length - 1:=rfl
 rw [zf5 (by omega) (by
  simp only
  rw [hd,List.length_append,zdd];omega)]
 simp only
 rw [hd,show (zae l).length - 1+1=(zae l).length by omega]
 have e1:((plH (zae l)++plT (zae l) l).drop 1).take (3*(zae l).length)=(zae l).flatMap plB:=by
  show (((zae l).flatMap plB)++plT (zae l) l).take _=_
  rw [List.take_append_of_le_length (by have:=zdd (zae l);unfold plH at this;rw [List.length_cons] at this;omega),List.take_of_length_le (by have:=zdd (zae l);unfold plH at this;rw [List.length_cons] at this;omega)]
 have e2:(plH (zae l)++plT (zae l) l).drop (1+3*(zae l).length)=plT (zae l) l:=by
  rw [←zdd,List.drop_left]
 rw [e1,e2,zdx _ (zfj l),Int.toNat_natCast,zoM (by omega)]
theorem zf9 (l:List Nat):zar (cdP l)=l.map rlw:=zdx _ (fun c hc=>by
 obtain ⟨y,-,rfl⟩:=List.mem_map.1 hc
 exact zcI y)
theorem zmF (l S:List Nat):∀i,∃j,j≤i∧cdG l S (i+1)=(j+1,(cdW l S j).1)∧(cdW l S j).2=true
 | 0=>⟨0,Nat.le_refl _,rfl,rfl⟩
 | i+1=>by
  by_cases h:(cdW l S (i+1)).2=true∧((cdG l S (i+1)).1=0∨(cdW l S (i+1)).1.length<(cdG l S (i+1)).2.length)
  ·exact ⟨i+1,Nat.le_refl _,zas h,h.1⟩
  ·obtain ⟨j,h1,h2,h3⟩:=zmF l S i
   exact ⟨j,by omega,(zat h).trans h2,h3⟩
theorem znz (l S:List Nat):∃j,j≤3∧cdE l S=(j+1,(cdW l S j).1)∧(cdW l S j).2=true:=zmF l S 3
theorem zoN (l S:List Nat):1≤(cdE l S).1∧(cdE l S).1≤4:=by
 have:=zdH l S 3
 exact ⟨Nat.pos_of_ne_zero this.1,this.2⟩
theorem zqU {f:Nat→Nat} {N:Nat} (ha:Apt f N):∀n,(∃F L,ToldF f N n 0 F∧ToldM f N n 0 L)∧∀k,k≤N→∃F L,ToldF f N n k F∧ToldM f N n k L:=by
 have step:∀n,(∃F L,ToldF f N n 0 F∧ToldM f N n 0 L)→∀k,k≤N→∃F L,ToldF f N n k F∧ToldM f N n k L:=fun n h0 k=>by
  induction k with
  | zero=>exact fun _=>h0
  | succ k ih=>
   intro hk
   obtain ⟨F,L,h1,h2⟩:=ih (by omega)
   by_cases e:f k=n+1
   ·exact ⟨_,_,h1.hand ha (by omega) e,h2.hand (by omega) e⟩
   ·exact ⟨F,L,h1.congr (fun i _=>Tld.skip e),h2.congr (fun i _=>Tld.skip e)⟩
 intro n
 induction n with
 | zero=>
  have h0:∃F L,ToldF f N 0 0 F∧ToldM f N 0 0 L:=⟨fun _=>none,0,⟨fun i hi ht=>by unfold Tld at ht;omega,fun q x hx=>by cases hx⟩,⟨fun i hi ht=>by unfold Tld at ht;omega,.inl rfl⟩⟩
  exact ⟨h0,step 0 h0⟩
 | succ n ih=>
  obtain ⟨F,L,h1,h2⟩:=ih.2 N (Nat.le_refl _)
  have h0:∃F L,ToldF f N (n+1) 0 F∧ToldM f N (n+1) 0 L:=⟨F,L,h1.congr (fun i hi=>Tld.next hi),h2.congr (fun i hi=>Tld.next hi)⟩
  exact ⟨h0,step (n+1) h0⟩
theorem zjj {ls:List Nat} (h:chk ls=0):∃F L,ToldF (lq ls) ls.length 15 0 F∧ToldM (lq ls) ls.length 15 0 L:=(zqU (zkc h) 15).1
theorem zik:∀a b:List Nat,numB (a++b)=numB a+256^a.length*numB b
 | [],b=>by simp [numB]
 | x::a,b=>by
  rw [List.cons_append,numB,numB,zik a b,List.length_cons,Nat.pow_succ,Nat.mul_add]
  rw [←Nat.mul_assoc,Nat.mul_comm 256 (256^a.length)]
  omega
theorem p256 (n:Nat):256^n=2^(8*n):=by rw [Nat.pow_mul]
theorem zrP (l m:List Nat) (a k:Nat) (h:a+k≤8*l.length):nb (l++m) a k=nb l a k:=by
 unfold nb
 rw [zik,p256,show 8*l.length=a+(k+(8*l.length - a - k)) by omega,Nat.pow_add,Nat.pow_add,Nat.mul_assoc,Nat.add_mul_div_left _ _ (Nat.two_pow_pos a),Nat.mul_assoc,Nat.add_mul_mod_self_left]
theorem zrX {ls l:List Nat} {a x s:Nat} (hc:chk ls=0) (hx:x<ls.length) (h1:1≤s) (hs:lq ls x=s) (hb:nb l a s=cd (lq ls) ls.length x)
  (hn:∀t,t<s→1≤t→∀i,i<ls.length→¬(lq ls i=t∧nb l a t=cd (lq ls) ls.length i)) (hl:a+s≤8*l.length):Sy ls l a x 0 s:=by
 obtain ⟨F,L,hF,hM⟩:=zjj hc
 have h15:=(za6 hc).2.1 x hx
 have hL:lq ls x≤L:=hM.ge x hx ⟨by omega,.inl h15⟩
 refine ⟨F,L,hF,hM,⟨fun t t1 t2=>?_,⟨by omega,hl⟩,.inl ⟨rfl,h1,?_⟩⟩⟩
 ·cases e:F (bt l a t,t) with
  | none=>rfl
  | some i=>
   obtain ⟨i1,i2,i3⟩:=hF.out _ _ e
   simp only [Prod.mk.injEq] at i3
   exact absurd ⟨i3.2.symm,i3.1⟩ (hn t t2 t1 i i1)
 ·have:=hF.has x hx ⟨by omega,.inl h15⟩
  rw [hs] at this
  rw [show bt l a s=cd (lq ls) ls.length x from hb]
  exact this
theorem zge:∀n r x,trn n r x=r*2^n+trn n 0 x
 | 0,r,x=>by simp [trn]
 | n+1,r,x=>by
  rw [trn,trn,zge n (r*2+x%2),zge n (0*2+x%2),Nat.pow_succ,Nat.add_mul,Nat.zero_mul,Nat.zero_add,Nat.mul_assoc r,Nat.mul_comm 2,Nat.add_assoc]
def nu (f:Nat→Nat) (N i:Nat):Nat:=nx f N (f i - 1) i
theorem zkZ {f:Nat→Nat} {N n i:Nat} (h:f i=n+1):nu f N i=nx f N n i:=by unfold nu;rw [h,Nat.add_sub_cancel]
theorem zit {f:Nat→Nat} {N n k:Nat} (h:f k≠n+1):nx f N n (k+1)=nx f N n k:=by unfold nx;rw [zbq,if_neg h];omega
theorem zhH {f:Nat→Nat} {N n k:Nat} (h:f k=n+1):nx f N n (k+1)=nx f N n k+1:=by unfold nx;rw [zbq,if_pos h];omega
theorem zoK (f:Nat→Nat) (N n:Nat):nx f N (n+1) 0=nx f N n N*2:=by
 unfold nx
 rw [en]
 simp [cn,sm]
structure Tiled (f:Nat→Nat) (N n k:Nat):Prop where
 below:∀i,i<N→Tld f n k i→(nu f N i+1)*2^(15 - f i)≤nx f N n k*2^(14 - n)
 full:∀p,p<nx f N n k*2^(14 - n)→∃i,i<N∧Tld f n k i∧nu f N i*2^(15 - f i)≤p∧p<(nu f N i+1)*2^(15 - f i)
theorem Tiled.start (f:Nat→Nat) (N:Nat):Tiled f N 0 0:=by
 have h:nx f N 0 0=0:=by simp [nx,en,cn,sm]
 refine ⟨fun i _ ht=>?_,fun p hp=>?_⟩
 ·unfold Tld at ht;omega
 ·rw [h,Nat.zero_mul] at hp;omega
theorem Tiled.skip {f:Nat→Nat} {N n k:Nat} (h:Tiled f N n k) (hk:f k≠n+1):Tiled f N n (k+1):=by
 refine ⟨fun i hi ht=>?_,fun p hp=>?_⟩
 ·rw [zit hk];exact h.below i hi ((Tld.skip hk).2 ht)
 ·rw [zit hk] at hp
  obtain ⟨i,a,b,c⟩:=h.full p hp
  exact ⟨i,a,(Tld.skip hk).1 b,c⟩
theorem Tiled.hand {f:Nat→Nat} {N n k:Nat} (h:Tiled f N n k) (hkN:k<N) (hk:f k=n+1):Tiled f N n (k+1):=by
 have e1:15 - f k=14 - n:=by omega
 have e2:=zkZ (N:=N) hk
 refine ⟨fun i hi ht=>?_,fun p hp=>?_⟩
 ·rw [zhH hk]
  rcases (Tld.hand hk).1 ht with h1 | rfl
  ·refine Nat.le_trans (h.below i hi h1) (Nat.mul_le_mul_right _ (by omega))
  ·rw [e1,e2];exact Nat.le_refl _
 ·rw [zhH hk] at hp
  rcases Nat.lt_or_ge p (nx f N n k*2^(14 - n)) with h1 | h1
  ·obtain ⟨i,a,b,c⟩:=h.full p h1
   exact ⟨i,a,(Tld.hand hk).2 (.inl b),c⟩
  ·exact ⟨k,hkN,(Tld.hand hk).2 (.inr rfl),by rw [e1,e2];exact h1,by rw [e1,e2];exact hp⟩
theorem Tiled.next {f:Nat→Nat} {N n:Nat} (h:Tiled f N n N) (hn:n<14):Tiled f N (n+1) 0:=by
 have e:nx f N (n+1) 0*2^(14 - (n+1))=nx f N n N*2^(14 - n):=by
  rw [zoK,Nat.mul_assoc,show 14 - n=(14 - (n+1))+1 by omega,Nat.pow_succ,Nat.mul_comm 2]
 refine ⟨fun i hi ht=>?_,fun p hp=>?_⟩
 ·rw [e];exact h.below i hi ((Tld.next hi).2 ht)
 ·rw [e] at hp
  obtain ⟨i,a,b,c⟩:=h.full p hp
  exact ⟨i,a,(Tld.next a).1 b,c⟩
theorem zcS {f:Nat→Nat} {N n:Nat} (h:Tiled f N n 0):∀k,k≤N→Tiled f N n k
 | 0,_=>h
 | k+1,hk=>by
  by_cases e:f k=n+1
  ·exact (zcS h k (by omega)).hand (by omega) e
  ·exact (zcS h k (by omega)).skip e
theorem zeV (f:Nat→Nat) (N:Nat):∀n,n≤14→Tiled f N n 0
 | 0,_=>Tiled.start f N
 | n+1,hn=>(zcS (zeV f N n (by omega)) N (Nat.le_refl _)).next (by omega)
theorem zmr (f:Nat→Nat) (N:Nat) {n k:Nat} (hn:n≤14) (hk:k≤N):Tiled f N n k:=zcS (zeV f N n hn) k hk
theorem znp {a b:Nat} (h:a≤b) (hb:b≤15):2^(15 - a)=2^(b - a)*2^(15 - b):=by
 rw [←Nat.pow_add,show b - a+(15 - b)=15 - a by omega]
theorem zos {f:Nat→Nat} {N i j:Nat} (hi:i<N) (hj:j<N) (h0:0<f j) (hle:f j≤f i) (h15:f i≤15) (hne:i≠j):nu f N i/2^(f i - f j)≠nu f N j:=by
 have key:∀i j,i<N→j<N→0<f j→f j≤f i→f i≤15→(f j<f i∨j<i)→(nu f N j+1)*2^(f i - f j)≤nu f N i:=fun i j hi hj h0 hle h15 hlt=>by
  obtain ⟨n,hn⟩:∃n,f i=n+1:=⟨f i - 1,by omega⟩
  have h1:=(zmr f N (n:=n) (k:=i) (by omega) (by omega)).below j hj (by unfold Tld;omega)
  rw [←zkZ hn,znp hle h15,←Nat.mul_assoc,show 14 - n=15 - f i by omega] at h1
  exact Nat.le_of_mul_le_mul_right h1 (Nat.two_pow_pos _)
 by_cases hlt:f j<f i∨j<i
 ·have h1:=key i j hi hj h0 hle h15 hlt
  have h2:nu f N j+1≤nu f N i/2^(f i - f j):=(Nat.le_div_iff_mul_le (Nat.two_pow_pos _)).2 h1
  omega
 ·have e:f i=f j:=by omega
  have h1:=key j i hj hi (by omega) (by omega) (by omega) (.inr (by omega))
  rw [e,Nat.sub_self,Nat.pow_zero] at *
  omega
theorem zky {f:Nat→Nat} {N i:Nat} (hr:room N 15 f≤32768) (hi:i<N) (h0:0<f i) (h15:f i≤15):nu f N i<2^f i:=by
 obtain ⟨n,hn⟩:∃n,f i=n+1:=⟨f i - 1,by omega⟩
 rw [zkZ hn,hn]
 exact zgB hr (by omega) hi hn
theorem zkf:∀n t x,t≤n→trn n 0 x%2^t=trn t 0 (x/2^(n - t))
 | 0,t,x,h=>by
  obtain rfl:t=0:=by omega
  simp [trn]
 | n+1,t,x,h=>by
  by_cases e:t=n+1
  ·subst e
   rw [Nat.sub_self,Nat.pow_zero,Nat.div_one,Nat.mod_eq_of_lt (zkl _ _)]
  ·have h1:t≤n:=by omega
   rw [trn,zge,Nat.zero_mul,Nat.zero_add,show x%2*2^n=2^t*(x%2*2^(n - t)) by
    rw [Nat.mul_comm (2^t),Nat.mul_assoc,←Nat.pow_add,Nat.sub_add_cancel h1],Nat.mul_add_mod,zkf n t _ h1,Nat.div_div_eq_div_mul,←Nat.pow_succ',show (n - t).succ=n+1 - t by omega]
theorem znh {ls:List Nat} (hc:chk ls=0) {i k:Nat} (hi:i<ls.length) (hk:k<ls.length) (h0:0<lq ls i) (hle:lq ls i≤lq ls k) (hne:i≠k):cd (lq ls) ls.length k%2^lq ls i≠cd (lq ls) ls.length i:=by
 intro h
 have hr:=zeL hc
 have h15:=(za6 hc).2.1
 have f1:=zky hr hi h0 (h15 i hi)
 have f2:=zky hr hk (by omega) (h15 k hk)
 unfold cd at h
 rw [zkf _ _ _ hle] at h
 refine zos hk hi h0 hle (h15 k hk) (Ne.symm hne) ?_
 refine (zgi _ _ _ _ _ ?_ f1 h).2
 rw [Nat.div_lt_iff_lt_mul (Nat.two_pow_pos _),←Nat.pow_add,show lq ls i+(lq ls k - lq ls i)=lq ls k by omega]
 exact f2
def okP (P:Pt):Prop:= ∀p∈P,p.1<2^p.2
theorem okP.app {a b:Pt} (h:okP (a++b)):okP a∧okP b:=⟨fun p hp=>h p (List.mem_append_left _ hp),fun p hp=>h p (List.mem_append_right _ hp)⟩
theorem zbB {a b:Pt} (ha:okP a) (hb:okP b):okP (a++b):=fun p hp=>(List.mem_append.1 hp).elim (ha p) (hb p)
theorem zex {v k:Nat} (h:v<2^k):okP [(v,k)]:=fun p hp=>by rw [List.mem_singleton.1 hp];exact h
theorem zhG:∀{P:Pt},okP P→nmP P<2^szP P
 | [],_=>by simp [nmP,szP]
 | p::r,h=>by
  have h1:=h p List.mem_cons_self
  have h2:=zhG (P:=r) fun q hq=>h q (List.mem_cons_of_mem _ hq)
  rw [nmP,szP,Nat.pow_add]
  calc p.1+2^p.2*nmP r<2^p.2+2^p.2*nmP r:=by omega
   _=2^p.2*(nmP r+1):=by rw [Nat.mul_add,Nat.mul_one,Nat.add_comm]
   _≤2^p.2*2^szP r:=Nat.mul_le_mul_left _ h2
theorem zn3 {P:Pt} (h:okP P):numB (bytP P)=nmP P:=by
 refine zcW _ _ (Nat.lt_of_lt_of_le (zhG h) ?_)
 rw [p256]
 exact Nat.pow_le_pow_right (by omega) (by omega)
theorem zq6 {P p q:Pt} {v k:Nat} (h:okP P) (e:P=p++(v,k)::q) (m:List Nat):nb (bytP P++m) (szP p) k=v∧szP p+k≤8*(bytP P++m).length:=by
 have hs:szP P=szP p+(k+szP q):=by rw [e,zaj,szP]
 have hl:szP p+k≤8*(bytP P).length:=by rw [zds];omega
 refine ⟨?_,by rw [List.length_append];omega⟩
 rw [zrP _ _ _ _ hl]
 unfold nb
 rw [zn3 h]
 subst e
 have hp:=zhG h.app.1
 have hv:v<2^k:=h (v,k) (by simp)
 rw [zc7,nmP,Nat.add_mul_div_left _ _ (Nat.two_pow_pos _),Nat.div_eq_of_lt hp,Nat.zero_add,Nat.add_mul_mod_self_left,Nat.mod_eq_of_lt hv]
theorem zp5 (l:List Nat) (a:Nat) {t s:Nat} (h:t≤s):nb l a t=nb l a s%2^t:=by
 unfold nb
 rw [Nat.mod_mod_of_dvd _ (Nat.pow_dvd_pow 2 h)]
def AtP (l:List Nat):Nat→Pt→Prop
 | _,[]=>True
 | a,p::q=>nb l a p.2=p.1∧a+p.2≤8*l.length∧AtP l (a+p.2) q
theorem AtP.app {l:List Nat}:∀{a:Nat} {x y:Pt},AtP l a (x++y)→AtP l a x∧AtP l (a+szP x) y
 | _,[],_,h=>⟨trivial,h⟩
 | a,p::x,y,h=>by
  obtain ⟨h1,h2,h3⟩:=h
  obtain ⟨h4,h5⟩:=AtP.app (x:=x) h3
  exact ⟨⟨h1,h2,h4⟩,by rw [szP,←Nat.add_assoc];exact h5⟩
theorem zmP {P:Pt} (h:okP P) (m:List Nat):∀{p q:Pt},P=p++q→AtP (bytP P++m) (szP p) q
 | _,[],_=>trivial
 | p,(v,k)::q,e=>by
  obtain ⟨h1,h2⟩:=zq6 h e m
  refine ⟨h1,h2,?_⟩
  have:=zmP h m (p:=p++[(v,k)]) (q:=q) (by rw [e];simp)
  rwa [(ze8 p v k).2] at this
theorem zqv {P:Pt} (h:okP P) (m:List Nat):AtP (bytP P++m) 0 P:=zmP h m (p:=[]) rfl
theorem AtP.sy {ls l:List Nat} (hc:chk ls=0) {x a:Nat} (hx:x<ls.length) (h0:0<lq ls x) {q:Pt} (h:AtP l a ((cd (lq ls) ls.length x,lq ls x)::q)):Sy ls l a x 0 (lq ls x)∧AtP l (a+lq ls x) q:=by
 obtain ⟨h1,h2,h3⟩:=h
 refine ⟨zrX hc hx h0 rfl h1 (fun t t1 t2 i hi ⟨hi1,hi2⟩=>?_) h2,h3⟩
 rw [zp5 _ _ (Nat.le_of_lt t1),h1] at hi2
 subst hi1
 exact znh hc hi hx t2 (by omega) (fun e=>by subst e;omega) hi2
theorem Tn.tell_len (t:Tn) (o:List Nat):(t.tell o).length=o.length+(if t.n=0 then 1 else t.n):=by
 unfold Tn.tell
 split
 ·simp
 ·rw [zdh]
theorem zr5 {A D l:List Nat} (hA:chk A=0) (hD:chk D=0) {t:Tn} {o:List Nat} (ht:t.ok A D o) {a:Nat} {q:Pt} (h:AtP l a (t.put A D++q)) (lim:Nat):
  ((t.tell o).length≤lim→InfTk A D l lim a o (.go (a+szP (t.put A D)) (t.tell o)))∧(o.length≤lim→lim<(t.tell o).length→InfTk A D l lim a o (.no 81)):=by
 have hlen:=t.tell_len o
 by_cases h0:t.n=0
 ·obtain ⟨b1,b2,b3⟩:=ht.1 h0
  have e:t.put A D=[(cd (lq A) A.length t.b,lq A t.b)]:=if_pos h0
  have e2:t.tell o=o++[t.b]:=if_pos h0
  rw [if_pos h0] at hlen
  rw [e] at h ⊢
  rw [hlen,e2]
  obtain ⟨s1,-⟩:=AtP.sy hA b2 b3 h
  refine ⟨fun hl=>?_,fun h1 h2=> .full _ _ s1 b1 (by omega)⟩
  have:=InfTk.byte (A:=A) (D:=D) (l:=l) (lim:=lim) (a:=a) (o:=o) _ _ s1 b1 (by omega)
  simpa [szP] using this
 ·obtain ⟨n1,n2,d1,d2,d3,x1,x2,y1,y2⟩:=ht.2 h0
  obtain ⟨s1,s2,s3,s4⟩:=zbQ t.n (by omega) n1
  obtain ⟨r1,r2,r3⟩:=zbx d1 d2
  have e:t.put A D=[(cd (lq A) A.length (zal t.n),lq A (zal t.n)),(t.n - zax (zal t.n),zad (zal t.n)),(cd (lq D) D.length (zaq t.d),lq D (zaq t.d)),(t.d - zan (zaq t.d),zam (zaq t.d))]:=if_neg h0
  have e2:t.tell o=ext t.d t.n o:=if_neg h0
  rw [if_neg h0] at hlen
  rw [e] at h ⊢
  rw [hlen,e2]
  obtain ⟨p1,h⟩:=AtP.sy hA x1 x2 h
  obtain ⟨p2,p3,h⟩:=h
  obtain ⟨p4,h⟩:=AtP.sy hD y1 y2 h
  obtain ⟨p5,p6,-⟩:=h
  simp only at p2 p3 p4 p5 p6
  have hd:zan (zaq t.d)+nb l (a+lq A (zal t.n)+zad (zal t.n)+lq D (zaq t.d)) (zam (zaq t.d))=t.d:=by rw [p5];omega
  have hn:zax (zal t.n)+nb l (a+lq A (zal t.n)) (zad (zal t.n))=t.n:=by rw [p2];omega
  refine ⟨fun hl=>?_,fun h1 h2=>?_⟩
  ·have:=InfRp.done (D:=D) (l:=l) (lim:=lim) (a:=a+lq A (zal t.n)) (x:=zal t.n) (o:=o) (by omega) p3 _ _ p4 r1 p6 (by rw [hd];exact d3) (by rw [hn];exact hl)
   rw [hd,hn] at this
   have h2:=InfTk.rep (A:=A) (D:=D) (l:=l) (lim:=lim) (a:=a) (o:=o) _ _ _ p1 (by omega) this
   rw [show a+szP [(cd (lq A) A.length (zal t.n),lq A (zal t.n)),(t.n - zax (zal t.n),zad (zal t.n)),(cd (lq D) D.length (zaq t.d),lq D (zaq t.d)),(t.d - zan (zaq t.d),zam (zaq t.d))]=a+lq A (zal t.n)+zad (zal t.n)+lq D (zaq t.d)+zam (zaq t.d) by simp only [szP];omega]
   exact h2
  ·exact .rep _ _ _ p1 (by omega) (.over (by omega) p3 _ _ p4 r1 p6 (by rw [hd];exact d3) (by rw [hn];omega))
theorem zcX:∀(ts:List Tn) (o:List Nat),o.length≤(za1 ts o).length
 | [],_=>Nat.le_refl _
 | t::r,o=>by
  have:=zcX r (t.tell o)
  have:=t.tell_len o
  rw [za1];omega
theorem zeD {A D l:List Nat} (hA:chk A=0) (hD:chk D=0) (h6:256<A.length) (h7:0<lq A 256) (lim:Nat):∀{ts:List Tn} {o:List Nat},mayT A D ts o→∀{a:Nat} {q:Pt},AtP l a (zaJ A D ts++(cd (lq A) A.length 256,lq A 256)::q)→
  ((za1 ts o).length≤lim→InfToks A D l lim a o (.go (a+szP (zaJ A D ts)+lq A 256) (za1 ts o)))∧(o.length≤lim→lim<(za1 ts o).length→InfToks A D l lim a o (.no 81))
 | [],o,_,a,q,h=>by
  obtain ⟨s1,-⟩:=AtP.sy hA h6 h7 h
  refine ⟨fun _=>?_,fun h1 h2=>absurd h2 (by rw [za1];omega)⟩
  exact .fin _ _ _ (.fin _ s1)
 | t::r,o,ht,a,q,h=>by
  rw [zaJ,List.append_assoc] at h
  obtain ⟨t1,t2⟩:=zr5 hA hD ht.1 h lim
  obtain ⟨-,h3⟩:=h.app
  obtain ⟨r1,r2⟩:=zeD hA hD h6 h7 lim (ts:=r) ht.2 h3
  have hle:=zcX r (t.tell o)
  refine ⟨fun hl=>?_,fun h1 h2=>?_⟩
  ·rw [za1] at hl
   have h4:=InfToks.more _ _ _ _ _ (t1 (by omega)) (r1 hl)
   rw [zaJ,zaj,za1,←Nat.add_assoc a]
   exact h4
  ·rw [za1] at h2
   by_cases h5:(t.tell o).length≤lim
   ·exact .more _ _ _ _ _ (t1 h5) (r2 h5 h2)
   ·exact .no _ _ _ (t2 h1 (by omega))
end
end Go.Proofs.YtedakhgaghfogaaGreat
