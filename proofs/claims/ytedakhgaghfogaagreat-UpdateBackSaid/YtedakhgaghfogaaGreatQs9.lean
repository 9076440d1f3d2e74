/- Several texts in one, each with its own head. -/
import Derived.Test.YtedakhgaghfogaaGreatQs8
import Derived.Laws.BytesArg
import Derived.Lib.SlBytesConst
import Derived.Test.YtedakhgaghfogaaGreatQs1
import Derived.Test.YtedakhgaghfogaaGreatQs4
namespace Go.Proofs.YtedakhgaghfogaaGreat
section
open Go.RowKit
def strR (l:List Nat):ByteArray:=strOfNums (l.map fun (b:Nat)=>(b:Int))
theorem znE {w:World} {v:Value} {l:List Nat} (h:Row enc8 1 w v l):(convert 28 9 v).run Tryz.prog w= .ok (.string (strR l)) w:=by
 obtain ⟨p,c,rfl,-,-,hr⟩:=h
 rcases hr with ⟨rfl,rfl⟩ | ⟨b,off,rfl,-,hr⟩
 ·exact run_convert_bytes_nil w 28 5 Tryz.underlying28 Tryz.underlying5 _ _ 9 Tryz.underlying9
 ·refine run_convert_bytes_arg w 28 5 Tryz.underlying28 Tryz.underlying5 b off l.length c _ (by simp) (fun i hi=>?_) 9 Tryz.underlying9
  have:=hr i l[i] (List.getElem?_eq_getElem hi) 0 _ rfl
  rw [Nat.mul_one,Nat.add_zero] at this
  rw [this]
  simp [List.getD_eq_getElem?_getD,List.getElem?_eq_getElem hi]
  rfl
theorem zh5 (w:World) (ls:List Nat) (h:ls.length≤1048576):Row encP 1 (w.alloc (.cells (ls.map pxv).toArray 51)) (.slice (some ⟨w.heap.size,0,none⟩) ls.length ls.length) ls:=by
 have:=World.ownsRow_lit (base:=0) (size:=1) (e:=51) w (ls.map pxv).toArray ls.length (Nat.zero_le _) (by simp only [maxLen];omega) (by simp)
 rw [show (ls.map pxv).toArray.toList=ls.flatMap encP from (zlr ls).symm] at this
 exact zbT ziT this
theorem Row.at' {α:Type} {enc:α→List Value} {k:Nat} {w:World} {p:Option Addr} {n c:Nat} {l:List α} (h:Row enc k w (.slice p n c) l):RowAt enc k w p l∧l.length≤c:=by
 obtain ⟨p',c',e,h1,-,h2⟩:=h
 cases e
 exact ⟨h2,h1⟩
theorem Row.lenR {α:Type} {enc:α→List Value} {k:Nat} {w:World} {p:Option Addr} {n c:Nat} {l:List α} (h:Row enc k w (.slice p n c) l):l.length=n:=by
 obtain ⟨_,_,e,-⟩:=h
 cases e;rfl
theorem zfu {w:World} {base:Nat} {v:Value} {n:Nat} {l:List Nat} (h:w.ownsRow base 51 1 v n (l.map pxv)):Row encP 1 w v l:=by
 have e:n=l.length:=by have:=h.1;simp at this;exact this.symm
 subst e
 exact Row.ownP h
theorem zoP {w:World} {base:Nat} {v:Value} {n:Nat} {l:List Nat} (h:w.ownsRow base 5 1 v n (l.map u8v)):Row enc8 1 w v l:=by
 have e:n=l.length:=by have:=h.1;simp at this;exact this.symm
 subst e
 exact Row.own8' h
end
section
open Go.RowKit
attribute [local go_sem] Oper.semAt_some
theorem zla (ts:Array TypeId) (t:TypeId) (k k':IntKind) (x y:Int) (w:World):(Builtin.min_ ts t #[.int k x,.int k' y]).run Tryz.prog w= .ok (.int k (min x y)) w:=by
 rw [run_min_int2];congr 2;split<;>omega
abbrev IgV (wd ht:Int) (v:Value):Value:= .agg #[.int .i64 wd,.int .i64 ht,v]
abbrev U4V (x y a b:Int):Value:= .agg #[.int .i64 x,.int .i64 y,.int .i64 a,.int .i64 b]
abbrev U6V (x y a b dx dy:Int):Value:= .agg #[.int .i64 x,.int .i64 y,.int .i64 a,.int .i64 b,.int .i64 dx,.int .i64 dy]
set_option maxRecDepth 20000 in
set_option maxHeartbeats 1000000 in
theorem zcv (x y a b wd ht:Int) (p:Option Addr) (n c:Nat) (w:World) (hw:1≤wd∧wd≤256) (hh:1≤ht∧ht≤256) (ha:a≤9223372036854775807) (hb:b≤9223372036854775807) (f:Bool) (hf:decide (upIs wd ht x y a b)=f):
  Makes Tryz.prog 58 #[U4V x y a b,IgV wd ht (.slice p n c)] w (.bool f):=by
 unfold Makes
 have Hf:=Lib.hid hf
 have hmin:=fun w=>zla #[3,3] 3 .i64 .i64 x y w
 have hmin2:=fun w=>zla #[3,3] 3 .i64 .i64 a b w
 obtain ⟨m,hm⟩:∃m,min x y=m:=⟨_,rfl⟩
 obtain ⟨k,hk⟩:∃k,min a b=k:=⟨_,rfl⟩
 rw [hm] at hmin
 rw [hk] at hmin2
 have Hb:=Lib.hid (Below.al2 w (.cells #[.int .i64 x,.int .i64 y,.int .i64 a,.int .i64 b] 36) (.cells #[.int .i64 wd,.int .i64 ht,.slice p n c] 26))
 clear hf
 go_enter Tryz.func58,Tryz.ntmps58
 by_cases h1:0≤m
 case neg=>
  have d1:decide (m≥0)=false:=by simpa using h1
  obtain rfl:f=false:=by rw [←Hf.out];exact decide_eq_false fun h=>h1 (by have:=h.1;have:=h.2.1;omega)
  go_wp2
  go_ret
  exact ⟨rfl,Hb.out⟩
 have d1:decide (m≥0)=true:=by simpa using h1
 by_cases h2:1≤k
 case neg=>
  have d2:decide (k≥1)=false:=by simpa using h2
  obtain rfl:f=false:=by rw [←Hf.out];exact decide_eq_false fun h=>h2 (by have:=h.2.2.1;have:=h.2.2.2.1;omega)
  go_wp2
  go_ret
  exact ⟨rfl,Hb.out⟩
 have d2:decide (k≥1)=true:=by simpa using h2
 have w1:IntKind.i64.wrap (wd - a)=wd - a:=IntWalk.i64_in _ (by omega)
 have w2:IntKind.i64.wrap (ht - b)=ht - b:=IntWalk.i64_in _ (by omega)
 by_cases h3:x≤wd - a
 case neg=>
  have d3:decide (x≤wd - a)=false:=by simpa using h3
  obtain rfl:f=false:=by rw [←Hf.out];exact decide_eq_false fun h=>h3 (by have:=h.2.2.2.2.1;omega)
  go_wp2
  go_ret
  exact ⟨rfl,Hb.out⟩
 have d3:decide (x≤wd - a)=true:=by simpa using h3
 have d4:decide (y≤ht - b)=f:=by
  rw [←Hf.out]
  congr 1
  apply propext
  unfold upIs
  omega
 go_wp2
 go_ret
 exact ⟨by rw [←d4];rfl,Hb.out⟩
theorem zfK {fn:Func} {p:Tmp} {tmps:Array Value} {w:World} {B:Nat} {x y a b:Int} (h:fn.results=#[.cell p 36]) (hp:tmps.getD p undef= .pointer (some ⟨B,0,none⟩))
  (c0:w.cell? ⟨B,0,none⟩=some (.int .i64 x)) (c1:w.cell? ⟨B,1,none⟩=some (.int .i64 y)) (c2:w.cell? ⟨B,2,none⟩=some (.int .i64 a)) (c3:w.cell? ⟨B,3,none⟩=some (.int .i64 b)):
  (results fn tmps).run Tryz.prog w= .ok (U4V x y a b) w:=by
 have hp':tmps[p]?.getD undef= .pointer (some ⟨B,0,none⟩):=by simpa using hp
 simp [results,h,hp',go_sem,c0,c1,c2,c3]
theorem zaF {w:World} {B i:Nat} {cs:Array Value} {t:TypeId} (v:Value) (h:w.heap[B]? =some (.cells cs t)):(w.setCell ⟨B,i,none⟩ v).heap[B]? =some (.cells (cs.setIfInBounds i v) t):=by
 obtain ⟨hlt,hk⟩:=Array.getElem?_eq_some_iff.1 h
 show (w.heap.modify B _)[B]? =_
 rw [Array.getElem?_eq_getElem (by rw [Array.size_modify];exact hlt),Array.getElem_modify_self,hk]
 rfl
theorem zhI {w w':World} {B:Nat} {p q r s:Value} {t:TypeId} (x y a b:Value) (h:w.heap[B]? =some (.cells #[p,q,r,s] t)) (hw:(((w.setCell ⟨B,0,none⟩ x).setCell ⟨B,1,none⟩ y).setCell ⟨B,2,none⟩ a).setCell ⟨B,3,none⟩ b=w'):w'.heap[B]? =some (.cells #[x,y,a,b] t)∧Turns (fun i=>i=B) w w':=by
 subst hw
 exact ⟨zaF b (zaF a (zaF y (zaF x h))),((((Turns.refl (fun q=>q=B) w).set (p:=⟨B,0,none⟩) rfl _).set (p:=⟨B,1,none⟩) rfl _).set (p:=⟨B,2,none⟩) rfl _).set (p:=⟨B,3,none⟩) rfl _⟩
theorem zau {w:World} {B:Nat} {p q r s:Value} {t:TypeId} (h:w.heap[B]? =some (.cells #[p,q,r,s] t)):w.cell? ⟨B,0,none⟩=some p∧w.cell? ⟨B,1,none⟩=some q∧w.cell? ⟨B,2,none⟩=some r∧w.cell? ⟨B,3,none⟩=some s∧∀i,w.frozen? ⟨B,i,none⟩=false:=
 ⟨zaa h rfl,zaa h rfl,zaa h rfl,zaa h rfl,fun i=>by simp [World.frozen?,h]⟩
theorem zbj {w:World} {B:Nat} {p q r s u v:Value} {t:TypeId} (h:w.heap[B]? =some (.cells #[p,q,r,s,u,v] t)):w.cell? ⟨B,0,none⟩=some p∧w.cell? ⟨B,1,none⟩=some q∧w.cell? ⟨B,2,none⟩=some r∧w.cell? ⟨B,3,none⟩=some s∧w.cell? ⟨B,4,none⟩=some u∧w.cell? ⟨B,5,none⟩=some v:=
 ⟨zaa h rfl,zaa h rfl,zaa h rfl,zaa h rfl,zaa h rfl,zaa h rfl⟩
set_option maxRecDepth 20000 in
set_option maxHeartbeats 1000000 in
theorem zgQ (x y a b dx dy:Int) (w:World):Makes Tryz.prog 88 #[U6V x y a b dx dy] w (U4V (IntKind.i64.wrap (x - dx)) (IntKind.i64.wrap (y - dy)) a b):=by
 unfold Makes
 have hb0:=Below.al2 w (.cells #[.int .i64 x,.int .i64 y,.int .i64 a,.int .i64 b,.int .i64 dx,.int .i64 dy] 38) (.cells #[.int .i64 0,.int .i64 0,.int .i64 0,.int .i64 0] 36)
 have hg:=zag [.cells #[.int .i64 x,.int .i64 y,.int .i64 a,.int .i64 b,.int .i64 dx,.int .i64 dy] 38,.cells #[.int .i64 0,.int .i64 0,.int .i64 0,.int .i64 0] 36] w
 have hs:((w.alloc (.cells #[.int .i64 x,.int .i64 y,.int .i64 a,.int .i64 b,.int .i64 dx,.int .i64 dy] 38)).alloc (.cells #[.int .i64 0,.int .i64 0,.int .i64 0,.int .i64 0] 36)).heap.size=w.heap.size+1+1:=by rw [World.size_alloc,World.size_alloc]
 simp only [List.foldl_cons,List.foldl_nil] at hg
 obtain ⟨x',hx'⟩:∃z,IntKind.i64.wrap (x - dx)=z:=⟨_,rfl⟩
 obtain ⟨y',hy'⟩:∃z,IntKind.i64.wrap (y - dy)=z:=⟨_,rfl⟩
 rw [hx',hy']
 go_enter Tryz.func88,Tryz.ntmps88
 go_upto_region 1 with (fail)
 generalize (w.alloc (.cells #[.int .i64 x,.int .i64 y,.int .i64 a,.int .i64 b,.int .i64 dx,.int .i64 dy] 38)).alloc (.cells #[.int .i64 0,.int .i64 0,.int .i64 0,.int .i64 0] 36)=W at *
 have g0:=(hg 0 _).2 rfl
 have g1:=(hg 1 _).2 rfl
 rw [Nat.add_zero] at g0
 obtain ⟨c0,c1,c2,c3,c4,c5⟩:=zbj g0
 have hz:=World.alloc_heap_new W (.cells #[.int .i64 x,.int .i64 y,.int .i64 a,.int .i64 b] 36)
 have hbz:=Below.al1 W (.cells #[.int .i64 x,.int .i64 y,.int .i64 a,.int .i64 b] 36)
 obtain ⟨P,hP⟩:∃P,w.heap.size=P:=⟨_,rfl⟩
 obtain ⟨Z,hZ⟩:∃Z,W.heap.size=Z:=⟨_,rfl⟩
 have hZP:Z=P+1+1:=by omega
 have Hb0:=Lib.hid hb0
 have HP:=Lib.hid hP
 have HZ:=Lib.hid hZ
 have HZP:=Lib.hid hZP
 rw [hP] at g0 g1 c0 c1 c2 c3 c4 c5 ⊢
 rw [hZ] at hz
 have G0:=Lib.hid g0
 have G1:=Lib.hid g1
 have Hz:=Lib.hid hz
 have Hbz:=Lib.hid hbz
 clear hg hs hb0 g0 g1 hP hZP hz hbz
 go_upto_region 2 with (fail)
 have k1:=Hz.out
 have hb2z:=Hbz.out
 generalize W.alloc (.cells #[.int .i64 x,.int .i64 y,.int .i64 a,.int .i64 b] 36)=W2 at *
 have hPZ:P<W.heap.size∧P+1<W.heap.size:=by have:=HZ.out;have:=HZP.out;omega
 have a0:=(hb2z.block P hPZ.1).trans G0.out
 have a1:=(hb2z.block (P+1) hPZ.2).trans G1.out
 have hb2:Below w.heap.size w W2:=Below.thn Hb0.out (by rw [HZ.out] at hb2z ⊢;exact hb2z)
 have A1:=Lib.hid a1
 have Hb2:=Lib.hid hb2
 obtain ⟨e0,e1,e2,e3,e4,e5⟩:=zbj a0
 obtain ⟨f0,f1,f2,f3,ff⟩:=zau k1
 have ff0:=ff 0
 have ff1:=ff 1
 have K1:=Lib.hid k1
 have hP2:P+1<W2.heap.size:=zab a1
 have hZ2:Z<W2.heap.size:=zab k1
 clear a0 a1 hb2 hb2z c0 c1 c2 c3 c4 c5 ff k1 hPZ Hz Hbz G0 G1
 go_upto_region 4 with (fail)
 have K2:((W2.setCell ⟨Z,0,none⟩ (.int .i64 x')).setCell ⟨Z,1,none⟩ (.int .i64 y')).heap[Z]? =some (.cells #[.int .i64 x',.int .i64 y',.int .i64 a,.int .i64 b] 36):=zaF _ (zaF _ K1.out)
 have t3:Turns (fun i=>i=Z) W2 ((W2.setCell ⟨Z,0,none⟩ (.int .i64 x')).setCell ⟨Z,1,none⟩ (.int .i64 y')):=((Turns.refl (fun q=>q=Z) W2).set (p:=⟨Z,0,none⟩) rfl _).set (p:=⟨Z,1,none⟩) rfl _
 generalize (W2.setCell ⟨Z,0,none⟩ (.int .i64 x')).setCell ⟨Z,1,none⟩ (.int .i64 y')=W3 at *
 have a3:=(t3.block (P+1) hP2 (by have:=HZP.out;omega)).trans A1.out
 have Hb3:=Lib.hid (Hb2.out.trans (t3.below Hb2.out.size fun i (hi:i=Z)=>by have:=HZP.out;have:=HP.out;omega))
 obtain ⟨m0,m1,m2,m3,-⟩:=zau K2
 obtain ⟨n0,n1,n2,n3,nf⟩:=zau a3
 have nf0:=nf 0
 have nf1:=nf 1
 have nf2:=nf 2
 have nf3:=nf 3
 have A3:=Lib.hid a3
 clear e0 e1 e2 e3 e4 e5 f0 f1 f2 f3 ff0 ff1 t3 a3 K2 nf
 go_wp2
 obtain ⟨q,qt⟩:=zhI (.int .i64 x') (.int .i64 y') (.int .i64 a) (.int .i64 b) A3.out rfl
 obtain ⟨q0,q1,q2,q3,-⟩:=zau q
 refine bodyPost_ret (zfK rfl rfl q0 q1 q2 q3) rfl ⟨rfl,?_⟩
 exact Hb3.out.trans (qt.below Hb3.out.size fun i (hi:i=P+1)=>by have:=HP.out;omega)
set_option maxRecDepth 20000 in
set_option maxHeartbeats 2000000 in
theorem zfO (x y a b dx dy wd ht:Int) (p:Option Addr) (n c:Nat) (w:World) (hw:1≤wd∧wd≤256) (hh:1≤ht∧ht≤256) (ha:a≤9223372036854775807) (hb:b≤9223372036854775807) (f:Bool) (hf:decide (upIs wd ht x y a b∧upIs wd ht (IntKind.i64.wrap (x - dx)) (IntKind.i64.wrap (y - dy)) a b)=f):
  Makes Tryz.prog 55 #[U6V x y a b dx dy,IgV wd ht (.slice p n c)] w (.bool f):=by
 unfold Makes
 have hb0:=Below.al2 w (.cells #[.int .i64 x,.int .i64 y,.int .i64 a,.int .i64 b,.int .i64 dx,.int .i64 dy] 38) (.cells #[.int .i64 wd,.int .i64 ht,.slice p n c] 26)
 have hg:=zag [.cells #[.int .i64 x,.int .i64 y,.int .i64 a,.int .i64 b,.int .i64 dx,.int .i64 dy] 38,.cells #[.int .i64 wd,.int .i64 ht,.slice p n c] 26] w
 simp only [List.foldl_cons,List.foldl_nil] at hg
 obtain ⟨b1,h1⟩:∃f,decide (upIs wd ht x y a b)=f:=⟨_,rfl⟩
 obtain ⟨b2,h2⟩:∃f,decide (upIs wd ht (IntKind.i64.wrap (x - dx)) (IntKind.i64.wrap (y - dy)) a b)=f:=⟨_,rfl⟩
 rw [Bool.decide_and,h1,h2] at hf
 have hsrc:=fun w=>zgQ x y a b dx dy w
 obtain ⟨x',hx'⟩:∃z,IntKind.i64.wrap (x - dx)=z:=⟨_,rfl⟩
 obtain ⟨y',hy'⟩:∃z,IntKind.i64.wrap (y - dy)=z:=⟨_,rfl⟩
 simp only [hx',hy'] at hsrc
 rw [hx',hy'] at h2
 have HS:=Lib.hid hsrc
 clear hsrc hx' hy'
 have H1:=Lib.hid (fun w=>zcv x y a b wd ht p n c w hw hh ha hb b1 h1)
 have H2:=Lib.hid (fun w=>zcv x' y' a b wd ht p n c w hw hh ha hb b2 h2)
 clear h1 h2
 go_enter Tryz.func55,Tryz.ntmps55
 go_upto_region 1 with (fail)
 generalize (w.alloc (.cells #[.int .i64 x,.int .i64 y,.int .i64 a,.int .i64 b,.int .i64 dx,.int .i64 dy] 38)).alloc (.cells #[.int .i64 wd,.int .i64 ht,.slice p n c] 26)=W at *
 have g0:=(hg 0 _).2 rfl
 have g1:=(hg 1 _).2 rfl
 rw [Nat.add_zero] at g0
 obtain ⟨c0,c1,c2,c3,c4,c5⟩:=zbj g0
 have i0:W.cell? ⟨w.heap.size+1,0,none⟩=some (.int .i64 wd):=zaa g1 rfl
 have i1:W.cell? ⟨w.heap.size+1,1,none⟩=some (.int .i64 ht):=zaa g1 rfl
 have i2:W.cell? ⟨w.heap.size+1,2,none⟩=some (.slice p n c):=zaa g1 rfl
 have hq:=After.ne W
 have y0:=After.rule c0
 have y1:=After.rule c1
 have y2:=After.rule c2
 have y3:=After.rule c3
 have y4:=After.rule c4
 have y5:=After.rule c5
 have k0:=After.rule i0
 have k1:=After.rule i1
 have k2:=After.rule i2
 have Hb0:=Lib.hid hb0
 clear hg g0 g1 c0 c1 c2 c3 c4 c5 i0 i1 i2 hb0
 have hfb:f=(b1 && b2):=hf.symm
 have Hfb:=Lib.hid hfb
 clear hf hfb
 cases b1
 all_goals
  refine zbZ ⟨W,Below.refl _ _⟩ (by kernel_rfl) (by kernel_rfl) ?_
  iterate 5 (go_big_quiet_step ((go_at_call 58;exact Makes.after (H1.out _))))
  repeat (go_big_quiet_step (first | (go_at_call 88;exact Makes.after (HS.out _)) | (go_at_call 58;exact Makes.after (H2.out _))))
  refine wpQuiet_nil ?_
  rintro _ ⟨n1,rfl⟩
  go_wp2
  go_ret
  exact ⟨by rw [Hfb.out];rfl,Below.thn Hb0.out n1.below⟩
end
section
open Go.RowKit
attribute [local go_sem] Oper.semAt_some
def PxB (w:World) (g:Nat) (L:List Nat):Prop:=w.heap[g]? =some (.cells (L.map pxv).toArray 51)
theorem PxB.turns {w w':World} {g:Nat} {L:List Nat} {T:Nat→Prop} (h:PxB w g L) (ht:Turns T w w') (hn:¬T g):PxB w' g L:=(ht.block g (zab h) hn).trans h
theorem PxB.below {w w':World} {g:Nat} {L:List Nat} (h:PxB w g L) (hb:Below w.heap.size w w'):PxB w' g L:=(hb.block g (zab h)).trans h
theorem PxB.cell {w:World} {g:Nat} {L:List Nat} (h:PxB w g L) {i:Nat} (hi:i<L.length):w.cell? ⟨g,i,none⟩=some (pxv (L.getD i 0)):=by
 refine zaa h ?_
 rw [List.getElem?_toArray,List.getElem?_map,List.getElem?_eq_getElem hi,List.getD_eq_getElem?_getD,List.getElem?_eq_getElem hi]
 rfl
theorem PxB.of_own {w:World} {base g n:Nat} {L:List Nat} (h:w.ownsRow base 51 1 (.slice (some ⟨g,0,none⟩) n n) n (L.map pxv)):PxB w g L∧base≤g∧L.length=n:=by
 obtain ⟨hl,⟨h,-⟩ | ⟨g',cap,cur,e,hb,hh,-,-,hs,ht⟩⟩:=h
 ·cases h
 ·cases e
  rw [List.length_map,Nat.mul_one] at hl
  rw [Nat.mul_one] at hs ht
  rw [List.take_of_length_le (by rw [Array.length_toList,hs];exact Nat.le_refl _)] at ht
  refine ⟨?_,hb,hl⟩
  show w.heap[g]? =_
  rw [hh,←ht]
theorem PxB.owns {w:World} {base g:Nat} {L:List Nat} (h:PxB w g L) (hb:base≤g) (hm:L.length≤1048576):w.ownsRow base 51 1 (.slice (some ⟨g,0,none⟩) L.length L.length) L.length (L.map pxv):=by
 refine ⟨by rw [List.length_map,Nat.mul_one],.inr ⟨g,L.length,(L.map pxv).toArray,rfl,hb,h,Nat.le_refl _,by simp only [maxLen];omega,?_,?_⟩⟩
 ·rw [List.size_toArray,List.length_map,Nat.mul_one]
 ·rw [Nat.mul_one,List.take_of_length_le (by simp)]
theorem PxB.row {w:World} {g:Nat} {L:List Nat} (h:PxB w g L) (hm:L.length≤1048576):Row encP 1 w (.slice (some ⟨g,0,none⟩) L.length L.length) L:=zfu (h.owns (Nat.zero_le _) hm)
theorem zci {P:Program} (w:World) {ops:Array Oper} {rest:List Oper} {o:Oper} {a:Act} {Q:Exit→Act→World→Prop}
  (hg:o.guard=none) (s x:Operand) (t:TypeId) (hop:o.op=Op.call { callee:=Callee.builtin Builtin.copy,args:=#[s,x],argTypes:=#[t,t]})
  (e:TypeId) (h1:P.underlying t=some (.slice e)) (h2:(P.info? e).map (·.size)=some 1) (g off dLen dCap:Nat) (ad:Addr) (sLen sCap:Nat) (hs:a.eval s= .slice (some ⟨g,off,none⟩) dLen dCap) (hx:a.eval x= .slice (some ad) sLen sCap)
  (L cs:List Nat) (t':TypeId) (hL:w.heap[g]? =some (.cells (L.map pxv).toArray t')) (hn:cs.length=Nat.min sLen dLen) (hsrc:∀j v,cs[j]? =some v→w.cell? (ad.add j)=some (pxv v)) (hfit:off+cs.length≤L.length)
  (hK:∀w',w'.heap[g]? =some (.cells ((L.take off++cs++L.drop (off+cs.length)).map pxv).toArray t')→Turns (fun b=>b=g) w w'→wpList P ops Q rest (a.put o.dst (goInt cs.length)) w'):
  wpList P ops Q (o::rest) a w:=by
 refine wpList_plain hg fun K hK'=>?_
 have hrun:=run_copy_row (P:=P) w t t o.type e g off dLen dCap ad sLen sCap (L.map pxv).toArray t' (cs.map pxv) h1 h2 hL (by simpa using hn) (fun j v hj=>by
  rw [List.getElem?_map] at hj
  cases hc:cs[j]? with
  | none=>rw [hc] at hj;cases hj
  | some q=>rw [hc] at hj;cases hj;exact hsrc j q hc) (by simpa using hfit) (by intro v hv;obtain ⟨q,_,rfl⟩:=List.mem_map.1 hv;rfl)
 have he:((L.map pxv).toArray.toList.take off++cs.map pxv++(L.map pxv).toArray.toList.drop (off+(cs.map pxv).length)).toArray=((L.take off++cs++L.drop (off+cs.length)).map pxv).toArray:=by
  simp [List.map_append,List.map_take,List.map_drop]
 rw [he,List.length_map] at hrun
 obtain ⟨R,hR⟩:∃R,((L.take off++cs++L.drop (off+cs.length)).map pxv).toArray=R:=⟨_,rfl⟩
 rw [hR] at hrun hK
 unfold Oper.wp
 simp [execOp,hop,resolve,invoke,builtin,hs,hx,hrun,Result.andThen]
 have hz:=setRow_heap w g (L.map pxv).toArray R t' _ hL
 refine hK' _ _ (hK _ hz ⟨rfl,rfl,rfl,by simp [World.setRow],fun k _ hk=>setRow_other w g k _ hk⟩)
theorem zcl (x y a b i n cap:Nat) (wd ht h:Int) (g off q:Nat) (W:World) (hwq:wd=(q:Int)) (hcap:n≤cap) (hmx:cap≤9223372036854775807) (ha:1≤a) (hfit:(y+i)*q+x+a≤n) (hq:q≤1048576) (hyk:y+i≤1048576) (hb:h=(b:Int)):
  Makes Tryz.prog 60 #[IgV wd ht (.slice (some ⟨g,off,none⟩) n cap),U4V x y a h,.int .i64 i] W (.slice (some ⟨g,off+((y+i)*q+x),none⟩) a (cap - ((y+i)*q+x))):=by
 unfold Makes
 subst hwq
 subst hb
 obtain ⟨s,hs⟩:∃s,y+i=s:=⟨_,rfl⟩
 obtain ⟨r,hr⟩:∃r,s*q=r:=⟨_,rfl⟩
 obtain ⟨F,hF⟩:∃F,r+x=F:=⟨_,rfl⟩
 rw [hs,hr,hF] at hfit ⊢
 have hrb:r≤1099511627776:=by rw [←hr];exact Nat.mul_le_mul (show s≤1048576 by omega) hq
 have h1:IntKind.i64.wrap ((y:Int)+(i:Int))=(s:Int):=by rw [←hs,Int.natCast_add];exact IntWalk.i64_in _ (by omega)
 have h2:IntKind.i64.wrap ((s:Int)*(q:Int))=(r:Int):=by rw [←hr,Int.natCast_mul];exact IntWalk.i64_in _ (by rw [←Int.natCast_mul,hr];omega)
 have h3:IntKind.i64.wrap ((r:Int)+(x:Int))=(F:Int):=by rw [←hF,Int.natCast_add];exact IntWalk.i64_in _ (by omega)
 have hFn:F<n:=by omega
 have hFa:a≤cap - F:=by omega
 have hFa2:a≤n - F:=by omega
 have hg:=zag [.cells #[.int .i64 (q:Int),.int .i64 ht,.slice (some ⟨g,off,none⟩) n cap] 26,.cells #[.int .i64 (x:Int),.int .i64 (y:Int),.int .i64 (a:Int),.int .i64 (b:Int)] 36] W
 have hb0:=Below.al2 W (.cells #[.int .i64 (q:Int),.int .i64 ht,.slice (some ⟨g,off,none⟩) n cap] 26) (.cells #[.int .i64 (x:Int),.int .i64 (y:Int),.int .i64 (a:Int),.int .i64 (b:Int)] 36)
 simp only [List.foldl_cons,List.foldl_nil] at hg
 clear hs hr hF hfit hrb
 go_enter Tryz.func60,Tryz.ntmps60
 go_upto_region 1 with (fail)
 generalize (W.alloc (.cells #[.int .i64 (q:Int),.int .i64 ht,.slice (some ⟨g,off,none⟩) n cap] 26)).alloc (.cells #[.int .i64 (x:Int),.int .i64 (y:Int),.int .i64 (a:Int),.int .i64 (b:Int)] 36)=W1 at *
 have g0:=(hg 0 _).2 rfl
 have g1:=(hg 1 _).2 rfl
 rw [Nat.add_zero] at g0
 obtain ⟨c0,c1,c2,c3,-⟩:=zau g1
 have i0:W1.cell? ⟨W.heap.size,0,none⟩=some (.int .i64 (q:Int)):=zaa g0 rfl
 have i2:W1.cell? ⟨W.heap.size,2,none⟩=some (.slice (some ⟨g,off,none⟩) n cap):=zaa g0 rfl
 have Hb0:=Lib.hid hb0
 clear hg g0 g1 hb0
 go_quiet (fail)
 rename_i nq
 go_wp2
 go_ret
 exact ⟨rfl,Below.drewN' Hb0.out nq⟩
end
section
open Go.RowKit
theorem za0 {α:Type} {P:Program} {g:Operand} {ps:Array Tmp} {assign body:Code} {Q:Exit→Act→World→Prop} {a:Act} {w:World}
  {gf:Nat} {lb:Array Value} (hg:a.eval g= .func (.func gf) #[] lb) (eg:∀args w,(callFunc gf args).run P w= .ok (.enter gf args) w)
  {El:World→World→(Nat→Prop)→α→Array Value→Prop} {R:Nat→Prop} {xs:List α} {w0:World} (hseq:Iter P gf lb El R xs w0)
  (hs0:w0.heap.size≤w.heap.size) (hR:∀b,R b→b<w.heap.size∧w.heap[b]? =w0.heap[b]?) (Vs:Array Value→Prop) (asg:Array Value→World→World) (hps:∀Wp W T x vs,El Wp W T x vs→vs.size=ps.size∧Vs vs) (hasg:∀vs W,Vs vs→Below W.heap.size W (asg vs W))
  (I:List α→(Nat→Prop)→World→Prop) (Ix:Code→List α→(Nat→Prop)→World→Prop) (h0:I [] (fun _=>False) w) (a₁:Array Value→World→Act)
  (hassign:∀(l:Nat) (vs:Array Value) (W:World) (K:Act→World→Prop),Vs vs→K (a₁ vs W) (asg vs W)→
   assign.wpIn (Fence.wide.inRound l) 0 P (Exit.then K (fun _ _ _=>False)) { tmps:=(ps.zip vs).foldl (fun t (p,v)=>t.setIfInBounds p v) a.tmps,defers:=[]} W)
  (hbody:∀(pre:List α) (x:α) (rest:List α) (Tp T:Nat→Prop) (Wq Wp W1 W2:World) (vs:Array Value),xs=pre++x::rest→I pre Tp Wq→Turns (fun b=>b=w.heap.size+1∨b=w.heap.size) Wq Wp→Wq.heap.size≤Wp.heap.size→Wp.heap.size≤W1.heap.size→
   Turns (fun b=>Tp b∨b=w.heap.size+1∨b=w.heap.size) Wq W2→(∀b,Tp b→w.heap.size+1<b∧b<Wp.heap.size)→(∀b,T b→Tp b∨Wp.heap.size≤b)→(∀b,T b→w.heap.size+1<b∧b<W2.heap.size)→(∀b,R b→W2.heap[b]? =w0.heap[b]?)→El Wp W1 T x vs→
   Turns (fun b=>b=w.heap.size+1) W1 W2→W1.heap.size≤W2.heap.size→Turns (fun b=>b=w.heap.size+1) (asg vs W1) W2→w.heap.size+1<W2.heap.size→(∃r,W1.heap[w.heap.size+1]? =some (.loop r))→(W2.heap[w.heap.size]? =some (.deferred (some [])))→(∃r,W2.heap[w.heap.size+1]? =some (.loop r))→
   body.wpIn (Fence.wide.inRound (w.heap.size+1)) 0 P (zhj R I Ix T (w.heap.size+1) w.heap.size (pre++[x]) W2) (a₁ vs W1) W2)
  (hdone:∀(Tp:Nat→Prop) (Wq W:World),I xs Tp Wq→Turns (fun b=>Tp b∨b=w.heap.size+1∨b=w.heap.size) Wq W→(∀b,Tp b→w.heap.size+1<b)→w.heap.size+1<W.heap.size→W.heap[w.heap.size]? =some (.deferred (some []))→
   Q .normal { a with defers:={ target:= .collected w.heap.size,args:=#[]}::a.defers} W)
  (hstop:∀(c:Code) (pre:List α) (Tp:Nat→Prop) (Wq W:World),pre <+:xs→Ix c pre Tp Wq→Turns (fun b=>Tp b∨b=w.heap.size+1∨b=w.heap.size) Wq W→(∀b,Tp b→w.heap.size+1<b)→w.heap.size+1<W.heap.size→W.heap[w.heap.size]? =some (.deferred (some []))→
   c.wpIn Fence.wide 0 P Q { a with defers:={ target:= .collected w.heap.size,args:=#[]}::a.defers} W):
  (Code.rangeFunc g ps assign body).wpIn Fence.wide 0 P Q a w:=by
 refine wpIn_rangeFunc ?_
 intro fn hfn
 rw [show Fence.wide.round=none from rfl]
 obtain ⟨rec,hrec⟩:∃rec:LoopState→Option Code→Loop,rec=fun st pe=>{ state:=st,pending:=pe,fn,tmps:=a.tmps,params:=ps,assign,body,defers:=w.heap.size}:=⟨_,rfl⟩
 obtain ⟨W1,hW1⟩:∃W1,(w.alloc (.deferred (some []))).alloc (.loop (rec .ready none))=W1:=⟨_,rfl⟩
 have hL1:W1.heap[w.heap.size+1]? =some (.loop (rec .ready none)):=by
  rw [←hW1];have:=World.alloc_heap_new (w.alloc (.deferred (some []))) (.loop (rec .ready none));rwa [World.size_alloc] at this
 have hK1:W1.heap[w.heap.size]? =some (.deferred (some [])):=by
  rw [←hW1];exact (Below.heap_alloc _ _ _ (by simp)).trans (World.alloc_heap_new w _)
 have hb1:Below w.heap.size w W1:=by rw [←hW1];exact (((Below.refl _ w).alloc (Nat.le_refl _) _).alloc (by simp) _)
 refine ⟨w.heap.size+1,[{ target:= .collected w.heap.size,args:=#[]}],W1,{ target:= .fn (.func gf) lb,args:=#[.func (.yield (w.heap.size+1)) #[] #[]]},W1,gf,
  #[.func (.yield (w.heap.size+1)) #[] #[]]++lb,W1,?_,?_,?_,?_,fun h=>by simp [Fence.wide] at h,?_⟩
 ·rw [←hW1,hrec];exact run_enterLoop_outer _ _ _ _ _
 ·simp only [resolve,hg]
  simp [go_sem]
 ·intro f' _;trivial
 ·simp [invoke,go_sem,eg]
 ·refine (hseq (w.heap.size+1)
   (fun pre T W=> ∃Wq,I pre T Wq∧Turns (fun b=>b=w.heap.size+1∨b=w.heap.size) Wq W∧W.heap[w.heap.size+1]? =some (.loop (rec .ready none))∧W.heap[w.heap.size]? =some (.deferred (some []))∧(∀b,T b→w.heap.size+1<b∧b<W.heap.size)∧(∀b,R b→W.heap[b]? =w0.heap[b]?))
   (fun pre T W=> ∃Wq c,Ix c pre T Wq∧Turns (fun b=>b=w.heap.size+1∨b=w.heap.size) Wq W∧W.heap[w.heap.size+1]? =some (.loop (rec .done (some c)))∧W.heap[w.heap.size]? =some (.deferred (some []))∧(∀b,T b→w.heap.size+1<b))
   W1 (Nat.le_trans hs0 hb1.size) (fun b hb=>(hb1.block b (hR b hb).1).trans (hR b hb).2)
   ⟨w,h0,⟨hb1.os,hb1.tape,hb1.output,hb1.size,fun i hi _=>hb1.block i hi⟩,hL1,hK1,fun _ h=>h.elim,fun b hb=>(hb1.block b (hR b hb).1).trans (hR b hb).2⟩
   ?_).mono ?_
  ·
   rintro pre x rest Tp T Wp W vs hx ⟨Wq,hi,hqp,hl,hk,hTp,hRp⟩ hturn hT hTlt hRW hel
   have hlp:w.heap.size+1<Wp.heap.size:=(Array.getElem?_eq_some_iff.1 hl).1
   have nL:¬Tp (w.heap.size+1):=fun h=>by have:=(hTp _ h).1;omega
   have nD:¬Tp w.heap.size:=fun h=>by have:=(hTp _ h).1;omega
   have hlW:W.heap[w.heap.size+1]? =some (.loop (rec .ready none)):=(hturn.block _ hlp nL).trans hl
   have hkW:W.heap[w.heap.size]? =some (.deferred (some [])):=(hturn.block _ (by omega) nD).trans hk
   have hlt:w.heap.size+1<W.heap.size:=(Array.getElem?_eq_some_iff.1 hlW).1
   obtain ⟨hvs,hVs⟩:=hps _ _ _ _ _ hel
   have hy:=run_yield (P:=P) (args:=vs) hlW (by rw [hrec];exact hvs)
   rw [hrec] at hy
   refine ⟨fn,_,assign,body,hy,roundIn_of_wpIn hfn (hassign _ vs W _ hVs ?_)⟩
   clear hy
   have hba:=hasg vs W hVs
   obtain ⟨Wa,hWa⟩:∃Wa,asg vs W=Wa:=⟨_,rfl⟩
   have hbody':=hbody pre x rest Tp T Wq Wp W
   rw [hWa] at hba ⊢
   have hlA:Wa.heap[w.heap.size+1]? =some (.loop (rec .ready none)):=(hba.block _ hlt).trans hlW
   have hkA:Wa.heap[w.heap.size]? =some (.deferred (some [])):=(hba.block _ (by omega)).trans hkW
   have hltA:w.heap.size+1<Wa.heap.size:=Nat.lt_of_lt_of_le hlt hba.size
   refine ⟨_,run_beginRound hlA (by rw [hrec]),?_⟩
   have hT':∀b,T b→w.heap.size+1<b∧b<W.heap.size:=fun b hb=>by
    refine ⟨?_,hTlt b hb⟩
    rcases hT b hb with h | h
    ·exact (hTp b h).1
    ·omega
   have hl2:(Wa.putObj (w.heap.size+1) (.loop { rec .ready none with state:= .busy})).heap[w.heap.size+1]? =some (.loop { rec .ready none with state:= .busy}):=World.putObj_heap_same hltA
   have hk2:(Wa.putObj (w.heap.size+1) (.loop { rec .ready none with state:= .busy})).heap[w.heap.size]? =some (.deferred (some [])):=(World.putObj_heap_other (by omega)).trans hkA
   have hR2:∀b,R b→(Wa.putObj (w.heap.size+1) (.loop { rec .ready none with state:= .busy})).heap[b]? =w0.heap[b]? :=fun b hb=>(World.putObj_heap_other (by have:=(hR b hb).1;omega)).trans ((hba.block b (by have:=(hR b hb).1;omega)).trans (hRW b hb))
   refine wpIn_mono (hbody' _ vs hx hi hqp hqp.size hturn.size
    ((((hqp.mono (fun i _ h=>Or.inr h)).trans (hturn.mono (fun i _ h=>Or.inl h))).trans (Turns.of_below' hba)).trans (Turns.put _ _ _ (Or.inr (Or.inl rfl)))) hTp hT (fun b hb=>by have h1:=hT' b hb;have h2:=hba.size;exact ⟨h1.1,by simp;omega⟩)
    hR2 hel ((Turns.of_below' hba).trans (Turns.put _ _ _ rfl)) (by simpa using hba.size) (by rw [hWa];exact Turns.put _ _ _ rfl) (by simpa using hltA) ⟨_,hlW⟩ hk2 ⟨_,hl2⟩) ?_
   have fin:∀(jump:Option Code) (W3:World),(∀b,b=w.heap.size+1∨b=w.heap.size→W3.heap[b]? =(Wa.putObj (w.heap.size+1) (.loop { rec .ready none with state:= .busy})).heap[b]?)→
     (Instr.endRound (w.heap.size+1) jump).run P W3= .ok (.bool jump.isNone) (W3.putObj (w.heap.size+1) (.loop (rec (if jump.isNone then .ready else .done) jump)))∧
     (W3.putObj (w.heap.size+1) (.loop (rec (if jump.isNone then .ready else .done) jump))).heap[w.heap.size+1]? =some (.loop (rec (if jump.isNone then .ready else .done) jump))∧
     (W3.putObj (w.heap.size+1) (.loop (rec (if jump.isNone then .ready else .done) jump))).heap[w.heap.size]? =some (.deferred (some []))∧
     Turns (fun b=>b=w.heap.size+1∨b=w.heap.size) W3 (W3.putObj (w.heap.size+1) (.loop (rec (if jump.isNone then .ready else .done) jump))):=fun jump W3 hk3=>by
    have hl3:=(hk3 _ (Or.inl rfl)).trans hl2
    have:=run_endRound (P:=P) jump hl3
    rw [hrec] at this ⊢
    exact ⟨this,World.putObj_heap_same (Array.getElem?_eq_some_iff.1 hl3).1,(World.putObj_heap_other (by omega)).trans ((hk3 _ (Or.inr rfl)).trans hk2),Turns.put _ _ _ (Or.inl rfl)⟩
   have hkeep:∀(jump:Option Code) (W3:World),(∀b,R b∨T b∨b=w.heap.size+1∨b=w.heap.size→W3.heap[b]? =(Wa.putObj (w.heap.size+1) (.loop { rec .ready none with state:= .busy})).heap[b]?)→∀b,R b∨T b→(W3.putObj (w.heap.size+1) (.loop (rec (if jump.isNone then .ready else .done) jump))).heap[b]? =W.heap[b]? :=fun jump W3 hk3 b hb=>by
    have hne:b≠w.heap.size+1:=by
     rcases hb with hb | hb
     ·have:=(hR b hb).1;omega
     ·have:=(hT' b hb).1;omega
    exact (World.putObj_heap_other hne).trans ((hk3 b (hb.elim Or.inl (fun h=>Or.inr (Or.inl h)))).trans ((World.putObj_heap_other hne).trans (hba.block b (by
     rcases hb with hb | hb
     ·have:=(hR b hb).1;omega
     ·exact (hT' b hb).2))))
   rintro e a3 W3 hp
   cases e with
   | normal=>
    obtain ⟨hi3,hsz3,hk3⟩:=hp
    obtain ⟨hr,hl4,hk4,ht4⟩:=fin none W3 (fun b hb=>hk3 b (Or.inr (Or.inr hb)))
    have hsz':W.heap.size≤W3.heap.size:=Nat.le_trans hba.size (by simpa using hsz3)
    have hkeep:=hkeep none W3 hk3
    exact ⟨_,_,hr,.inl ⟨rfl,⟨W3,hi3,ht4,hl4,hk4,fun b hb=>⟨(hT' b hb).1,by simp;have:=(hT' b hb).2;omega⟩,fun b hb=>(hkeep b (Or.inl hb)).trans (hRW b hb)⟩,by simpa using hsz',hkeep⟩⟩
   | ret=>
    obtain ⟨hi3,hsz3,hk3⟩:=hp
    obtain ⟨hr,hl4,hk4,ht4⟩:=fin (some .ret) W3 (fun b hb=>hk3 b (Or.inr (Or.inr hb)))
    exact ⟨_,_,hr,.inr ⟨rfl,⟨W3,.ret,hi3,ht4,hl4,hk4,fun b hb=>(hT' b hb).1⟩,Nat.le_trans hba.size (by simpa using hsz3),hkeep (some .ret) W3 hk3⟩⟩
   | exit id=>
    obtain ⟨hi3,hsz3,hk3⟩:=hp
    obtain ⟨hr,hl4,hk4,ht4⟩:=fin (some (.exit id)) W3 (fun b hb=>hk3 b (Or.inr (Or.inr hb)))
    exact ⟨_,_,hr,.inr ⟨rfl,⟨W3,.exit id,hi3,ht4,hl4,hk4,fun b hb=>(hT' b hb).1⟩,Nat.le_trans hba.size (by simpa using hsz3),hkeep (some (.exit id)) W3 hk3⟩⟩
   | goto t=>
    obtain ⟨hi3,hsz3,hk3⟩:=hp
    obtain ⟨hr,hl4,hk4,ht4⟩:=fin (some (.goto t)) W3 (fun b hb=>hk3 b (Or.inr (Or.inr hb)))
    exact ⟨_,_,hr,.inr ⟨rfl,⟨W3,.goto t,hi3,ht4,hl4,hk4,fun b hb=>(hT' b hb).1⟩,Nat.le_trans hba.size (by simpa using hsz3),hkeep (some (.goto t)) W3 hk3⟩⟩
   | panic ch=>exact hp.elim
   | outgrown=>exact hp.elim
  ·
   rintro e W2 ⟨⟨v,rfl⟩,(⟨Tp,Wp,⟨Wq,hi,hqp,hl,hk,hTp,hRp⟩,hturn⟩ | ⟨pre,Tp,Wp,hpre,⟨Wq,c,hi,hqp,hl,hk,hTp⟩,hturn⟩)⟩
   ·have hlp:w.heap.size+1<Wp.heap.size:=(Array.getElem?_eq_some_iff.1 hl).1
    have hl2:=(hturn.block _ hlp (fun h=>by have:=(hTp _ h).1;omega)).trans hl
    have hk2:=(hturn.block w.heap.size (by omega) (fun h=>by have:=(hTp _ h).1;omega)).trans hk
    refine ⟨none,_,by have:=run_endLoop (P:=P) hl2 (by rw [hrec];simp);rw [hrec] at this;exact this,?_⟩
    refine hdone Tp Wq _ hi (((hqp.mono (fun i _ h=>Or.inr h)).trans (hturn.mono (fun i _ h=>Or.inl h))).trans (Turns.put _ _ _ (Or.inr (Or.inl rfl)))) (fun b hb=>(hTp b hb).1) ?_ ((World.putObj_heap_other (by omega)).trans hk2)
    simp;exact (Array.getElem?_eq_some_iff.1 hl2).1
   ·have hlp:w.heap.size+1<Wp.heap.size:=(Array.getElem?_eq_some_iff.1 hl).1
    have hl2:=(hturn.block _ hlp (fun h=>by have:=(hTp _ h);omega)).trans hl
    have hk2:=(hturn.block w.heap.size (by omega) (fun h=>by have:=(hTp _ h);omega)).trans hk
    refine ⟨some c,_,by have:=run_endLoop (P:=P) hl2 (by rw [hrec];simp);rw [hrec] at this;exact this,?_⟩
    refine hstop c pre Tp Wq _ hpre hi (((hqp.mono (fun i _ h=>Or.inr h)).trans (hturn.mono (fun i _ h=>Or.inl h))).trans (Turns.put _ _ _ (Or.inr (Or.inl rfl)))) (fun b hb=>(hTp b hb)) ?_ ((World.putObj_heap_other (by omega)).trans hk2)
    simp;exact (Array.getElem?_eq_some_iff.1 hl2).1
end
end Go.Proofs.YtedakhgaghfogaaGreat
