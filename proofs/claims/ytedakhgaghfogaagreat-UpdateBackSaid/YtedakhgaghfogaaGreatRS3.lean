/- Several texts in one, each with its own head. -/
import Derived.Test.YtedakhgaghfogaaGreatRS2
namespace Go.Proofs.YtedakhgaghfogaaGreat
section
open Go.RowKit
attribute [local go_sem] Oper.semAt_some
set_option maxRecDepth 20000 in
set_option maxHeartbeats 4000000 in
theorem zlx (wd ht:Int) (p:Option Addr) (n c:Nat) (w:World) (f:Bool) (hf:decide (cdM wd ht n)=f):
  Makes Tryz.prog 15 #[.agg #[.int .i64 wd,.int .i64 ht,.slice p n c]] w (.bool f):=by
 unfold Makes
 have Hf:=Lib.hid hf
 have hb:=Below.al1 w (.cells #[.int .i64 wd,.int .i64 ht,.slice p n c] 26)
 have Hb:=Lib.hid hb
 clear hb hf
 go_enter Tryz.func15,Tryz.ntmps15
 by_cases h1:1≤wd
 case neg=>
  have d1:decide (wd≥1)=false:=by simpa using h1
  obtain rfl:f=false:=by rw [←Hf.out];exact decide_eq_false fun h=>h1 h.1
  go_wp2
  go_ret
  exact ⟨rfl,Hb.out⟩
 have d1:decide (wd≥1)=true:=by simpa using h1
 by_cases h2:1≤ht
 case neg=>
  have d2:decide (ht≥1)=false:=by simpa using h2
  obtain rfl:f=false:=by rw [←Hf.out];exact decide_eq_false fun h=>h2 h.2.1
  go_wp2
  go_ret
  exact ⟨rfl,Hb.out⟩
 have d2:decide (ht≥1)=true:=by simpa using h2
 by_cases h3:wd≤256
 case neg=>
  have d3:decide (wd≤256)=false:=by simpa using h3
  obtain rfl:f=false:=by rw [←Hf.out];exact decide_eq_false fun h=>h3 h.2.2.1
  go_wp2
  go_ret
  exact ⟨rfl,Hb.out⟩
 have d3:decide (wd≤256)=true:=by simpa using h3
 by_cases h4:ht≤256
 case neg=>
  have d4:decide (ht≤256)=false:=by simpa using h4
  obtain rfl:f=false:=by rw [←Hf.out];exact decide_eq_false fun h=>h4 h.2.2.2.1
  go_wp2
  go_ret
  exact ⟨rfl,Hb.out⟩
 have d4:decide (ht≤256)=true:=by simpa using h4
 obtain ⟨q,hq,hq1,hq2⟩:=zdg ⟨h1,h2,h3,h4⟩
 have Hh:=Lib.hid (show 1≤wd∧1≤ht∧wd≤256∧ht≤256 from ⟨h1,h2,h3,h4⟩)
 have Hq:=Lib.hid hq
 have hwm:IntKind.i64.wrap (wd*ht)=(q:Int):=by rw [hq];exact IntWalk.i64_in _ (by omega)
 clear h1 h2 h3 h4
 have hd:((n:Int)==(q:Int))=f:=by
  rw [←Hf.out]
  by_cases h:n=q
  ·subst h
   rw [decide_eq_true (show cdM wd ht n from ⟨Hh.out.1,Hh.out.2.1,Hh.out.2.2.1,Hh.out.2.2.2,hq.symm⟩)]
   simp
  ·rw [decide_eq_false fun hm=>h (by have:=hm.2.2.2.2;rw [hq] at this;omega)]
   simp;omega
 go_wp2
 go_ret
 exact ⟨by rw [←hd];rfl,Hb.out⟩
end
section
instance (wd ht:Nat) (b:List Nat) (a:Nat):Decidable (upCk wd ht b a):=by unfold upCk;infer_instance
instance:Inhabited U4:=⟨⟨0,0,0,0⟩⟩
instance:Inhabited U6:=⟨⟨0,0,0,0,0,0⟩⟩
instance (wd ht:Int) (r:U4):Decidable (r.ok wd ht):=by unfold U4.ok;infer_instance
instance (wd ht:Int) (c:U6):Decidable (c.ok wd ht):=by unfold U6.ok;infer_instance
theorem zeB (v:Int):∀x∈up2 v,x<256:=by
 intro x hx
 simp only [up2,List.mem_cons,List.not_mem_nil,or_false] at hx
 omega
theorem zqd (v:Int):∀x∈up4 v,x<256:=by
 intro x hx
 simp only [up4,List.mem_cons,List.not_mem_nil,or_false] at hx
 omega
theorem znV (c:U6):∀x∈up6B c,x<256:=by
 intro x hx
 simp only [up6B,List.mem_append] at hx
 rcases hx with h | h | h | h | h | h<;>exact zeB _ x h
theorem zot (c:U4):∀x∈up4B c,x<256:=by
 intro x hx
 simp only [up4B,List.mem_append] at hx
 rcases hx with h | h | h | h<;>exact zeB _ x h
open Go.RowKit
attribute [local go_sem] Oper.semAt_some
theorem zrh {w:World} {wa ha wb hb:Int} {p q:Option Addr} {n m c d:Nat} {a b:List Nat} (hp:Row encP 1 w (.slice p n c) a) (hq:Row encP 1 w (.slice q m d) b) (la:n≤1048576) (lb:m≤1048576) (r:Bool) (hr:decide (wa=wb∧ha=hb∧a=b)=r):
  Makes Tryz.prog 14 #[.agg #[.int .i64 wa,.int .i64 ha,.slice p n c],.agg #[.int .i64 wb,.int .i64 hb,.slice q m d]] w (.bool r):=by
 obtain rfl:=hp.lenR
 obtain rfl:=hq.lenR
 exact zlE wa ha wb hb p q c d a b w hp.at'.1 hq.at'.1 la lb r hr
def uexB:List Nat:=[0,0,0,1,0,0,0,0,0,2,0,1,1,0,0,0,6,1,2,3,4,5,6]
theorem zsa:cdK [66051,263430]=(1,[1,2,3,4,5,6]):=by
 by_cases h:∃S,DefS (cdP [66051,263430]) S
 ·obtain ⟨S,hS⟩:=h
  rw [←zdW hS]
  exact zqt hS
 ·unfold cdK
  rw [dif_neg h,zdY]
theorem zqb:zbk 2 [66051,263430] ⟨0,0,2,1⟩=[66051,263430]:=by decide +kernel
theorem znq:upBy 2 [66051,263430] [] [⟨0,0,2,1⟩]=uexB:=by
 unfold upBy
 rw [List.flatMap_singleton,upPB,zqb,zsa]
 decide +kernel
theorem znj:upAp 2 1 uexB [0,0]=some [66051,263430]:=by
 have h:=zgS (wd:=2) (ht:=1) (by decide) (by decide) (cs:=[]) (rs:=[⟨0,0,2,1⟩]) (fun c hc=>by cases hc) (by decide) (by decide) (fun _=>(1,[1,2,3,4,5,6])) (fun _=>[66051,263430]) (fun r hr=>by
  obtain rfl:=List.mem_singleton.1 hr
  exact ⟨by decide,by decide,.inl ⟨rfl,by decide +kernel⟩⟩) [0,0]
 rw [show up2 ((([]:List U6).length:Nat):Int)++([].flatMap up6B++(up2 (([⟨0,0,2,1⟩]:List U4).length:Nat)++[⟨0,0,2,1⟩].flatMap fun r=>upT r ((fun _=>(1,[1,2,3,4,5,6])) r)))=uexB from by decide +kernel] at h
 rw [h]
 decide +kernel
theorem zqN:strR uexB={ data:=#[0,0,0,1,0,0,0,0,0,2,0,1,1,0,0,0,6,1,2,3,4,5,6]}:=by decide +kernel
theorem zrY:MkOk 2 1 2 [] [⟨0,0,2,1⟩]:=by
 refine ⟨by decide,by decide,?_,?_⟩
 ·intro c hc
  cases hc
 ·intro r hr
  obtain rfl:=List.mem_singleton.1 hr
  decide
theorem zq2:¬zfW 2 [66051,263430] [] [⟨0,0,2,1⟩]:=by
 rintro (h | h)
 ·exact absurd h (by decide)
 ·rw [show ((2:Int)).toNat=2 from rfl,znq] at h
  exact absurd h (by decide)
set_option maxRecDepth 20000 in
set_option maxHeartbeats 4000000 in
theorem zcB (w:World):Makes Tryz.prog 18 #[] w (.bool true):=by
 unfold Makes
 have h1:=zh5 w [66051,263430] (by decide)
 have hb1:=Below.al1 w (.cells #[.int .u32 66051,.int .u32 263430] 51)
 go_enter Tryz.func18,Tryz.ntmps18
 go_upto_region 2 with (fail)
 have hsz:(w.alloc (.cells #[.int .u32 66051,.int .u32 263430] 51)).heap.size=w.heap.size+1:=by simp
 generalize hw1:w.alloc (.cells #[.int .u32 66051,.int .u32 263430] 51)=w1 at *
 have h1':Row encP 1 w1 (.slice (some ⟨w.heap.size,0,none⟩) 2 2) [66051,263430]:=by rw [←hw1];exact h1
 have hI:=ImB.new w1 2 1 (.slice (some ⟨w.heap.size,0,none⟩) 2 2)
 have hb2:=Below.al1 w1 (.cells #[.int .i64 2,.int .i64 1,.slice (some ⟨w.heap.size,0,none⟩) 2 2] 26)
 generalize w1.alloc (.cells #[.int .i64 2,.int .i64 1,.slice (some ⟨w.heap.size,0,none⟩) 2 2] 26)=w2 at *
 obtain ⟨A,hA⟩:∃A,w.heap.size=A:=⟨_,rfl⟩
 have HA:=Lib.hid hA
 rw [hA] at h1' hI hsz ⊢
 obtain ⟨B,hB⟩:∃B,A+1=B:=⟨_,rfl⟩
 rw [hsz,hB] at hI
 rw [hB]
 have Hr2:=Lib.hid (h1'.below hb2)
 have HI2:=Lib.hid hI
 have Hb2:=Lib.hid (Below.thn hb1 hb2)
 obtain ⟨c0,c1,c2⟩:=hI.c
 clear h1 h1' hb1 hb2 hI hw1 hA hB hsz
 have hrr:RowAt zaG 4 (w2.alloc (.cells #[.int .i64 0,.int .i64 0,.int .i64 2,.int .i64 1] 36)) (some ⟨w2.heap.size,0,none⟩) [⟨0,0,2,1⟩]:= .inr ⟨_,_,rfl,by simp,fun i x hx j u hu=>by
  cases i with
  | zero=>
   cases hx
   rw [Nat.zero_mul,Nat.add_zero,Nat.zero_add]
   exact zaa (World.alloc_heap_new w2 _) (by simpa [zaG] using hu)
  | succ i=>cases hx⟩
 have hb3:=Below.al1 w2 (.cells #[.int .i64 0,.int .i64 0,.int .i64 2,.int .i64 1] 36)
 have Hrr:=Lib.hid hrr
 have Hb3:=Lib.hid hb3
 clear hrr hb3
 have d0:=cell_later Hb3.out c0
 have d1:=cell_later Hb3.out c1
 have d2:=cell_later Hb3.out c2
 clear c0 c1 c2
 have hmk:=(zfy 2 1 (some ⟨A,0,none⟩) 2 2 [66051,263430] [] [⟨0,0,2,1⟩] none (some ⟨w2.heap.size,0,none⟩) 0 1 _ (Hr2.out.below Hb3.out) (by decide) (.inl ⟨rfl,rfl⟩) Hrr.out (by decide) (by decide) (by decide) (by decide) (fun c hc=>by cases hc) (fun r hr=>by
  obtain rfl:=List.mem_singleton.1 hr
  exact ⟨⟨by decide,by decide⟩,⟨by decide,by decide⟩,⟨by decide,by decide⟩,⟨by decide,by decide⟩⟩))
 simp only [List.length_nil,List.length_singleton] at hmk
 have HMk:=Lib.hid hmk
 clear hmk
 go_wp2_with fail
 refine Calls.mono HMk.out ?_
 rintro _ w4 ⟨hb4,⟨h,-⟩ | ⟨-,h,-⟩ | ⟨-,-,v,rfl,ho4⟩⟩
 ·exact absurd zrY h
 ·exact absurd h zq2
 rw [show ((2:Int)).toNat=2 from rfl,znq] at ho4
 obtain ⟨p4,c4,rfl⟩:=zac ho4
 rw [show uexB.length=23 from rfl] at ho4 ⊢
 have Hrb:=Lib.hid (zoP ho4)
 have hR8:Rw8 w4 (.slice p4 23 c4) uexB:=Rw8.own (by exact ho4) rfl
 have HR8:=Lib.hid hR8
 have Hb4:=Lib.hid (Below.thn Hb2.out (Below.thn Hb3.out hb4))
 have HI4:=Lib.hid (HI2.out.later (Below.thn Hb3.out hb4))
 have Hr4:=Lib.hid (Hr2.out.below (Below.thn Hb3.out hb4))
 clear ho4 hR8 hb4 d0 d1 d2 HMk Hrr Hb3 HI2 Hr2 Hb2
 have h5:=zh5 w4 [0,0] (by decide)
 have hb5:=Below.al1 w4 (.cells #[.int .u32 0,.int .u32 0] 51)
 have HAp:=Lib.hid (zeR 2 1 (some ⟨w4.heap.size,0,none⟩) 2 2 [0,0] p4 23 c4 uexB _ h5 (by decide) (HR8.out.below hb5) (by decide) (by decide))
 have Hb5:=Lib.hid hb5
 clear h5 hb5
 go_wp2_with fail
 refine Calls.mono HAp.out ?_
 rintro _ w6 ⟨hb6,⟨h,-⟩ | ⟨-,h,-⟩ | ⟨-,-,L,G,hL,-,rfl,hpx,hG⟩⟩
 ·exact absurd (show cdM 2 1 2 by decide) h
 ·rcases h with h | h
  ·exact absurd h (by decide)
  ·rw [show ([0,0]:List Nat).map rlw=[0,0] from rfl,show ((2:Int)).toNat=2 from rfl,show ((1:Int)).toNat=1 from rfl,znj] at h
   cases h
 rw [show ([0,0]:List Nat).map rlw=[0,0] from rfl,show ((2:Int)).toNat=2 from rfl,show ((1:Int)).toNat=1 from rfl,znj] at hL
 injection hL with hL
 subst hL
 have hbb:=Below.thn Hb5.out hb6
 have Hb6:=Lib.hid (Below.thn Hb4.out hbb)
 have HI6:=Lib.hid (HI4.out.later hbb)
 have Hr6:=Lib.hid (Hr4.out.below hbb)
 have Hx6:=Lib.hid (hpx.row (by decide))
 have hs:=fun W (hW:Below w6.heap.size w6 W)=>znE ((Hrb.out.below hbb).below hW)
 rw [zqN] at hs
 have Hs:=Lib.hid hs
 clear hb6 hbb hs hpx hG HAp Hb5
 go_upto_region 4 with (fail)
 have hI7:=ImB.new w6 2 1 (.slice (some ⟨G,0,none⟩) 2 2)
 have hb7:=Below.al1 w6 (.cells #[.int .i64 2,.int .i64 1,.slice (some ⟨G,0,none⟩) 2 2] 26)
 generalize w6.alloc (.cells #[.int .i64 2,.int .i64 1,.slice (some ⟨G,0,none⟩) 2 2] 26)=w7 at *
 obtain ⟨C,hC⟩:∃C,w6.heap.size=C:=⟨_,rfl⟩
 rw [hC] at hI7 ⊢
 have Hb7:=Lib.hid (Below.thn Hb6.out hb7)
 have hs7:=Hs.out w7 hb7
 obtain ⟨i0,i1,i2⟩:=(HI6.out.later hb7).c
 obtain ⟨j0,j1,j2⟩:=hI7.c
 have Hr7:=Lib.hid (Hr6.out.below hb7)
 have Hx7:Hid (Row encP 1 w7 (.slice (some ⟨G,0,none⟩) 2 2) [66051,263430]):=Lib.hid (Hx6.out.below hb7)
 clear hI7 hb7 hC Hs Hr6 Hx6 HI6
 go_wp2_with fail
 refine Calls.mono (zrh Hx7.out Hr7.out (by decide) (by decide) true (by decide)) ?_
 rintro _ w8 ⟨rfl,hb8⟩
 have Hb8:=Lib.hid (Below.thn Hb7.out hb8)
 clear hb8
 go_wp2
 go_ret
 exact ⟨rfl,Hb8.out⟩
end
section
open Go.RowKit
attribute [local go_sem] Oper.semAt_some
set_option maxRecDepth 20000 in
set_option maxHeartbeats 4000000 in
theorem zle (x y a b wd ht:Int) (p:Option Addr) (n c:Nat) (w:World) (hw:1≤wd∧wd≤256) (hh:1≤ht∧ht≤256) (f:Bool) (hf:decide (upIs wd ht x y a b)=f):
  Makes Tryz.prog 17 #[IgV wd ht (.slice p n c),U4V x y a b] w (.bool f):=by
 unfold Makes
 have Hf:=Lib.hid hf
 have Hb:=Lib.hid (Below.al2 w (.cells #[.int .i64 wd,.int .i64 ht,.slice p n c] 26) (.cells #[.int .i64 x,.int .i64 y,.int .i64 a,.int .i64 b] 36))
 clear hf
 go_enter Tryz.func17,Tryz.ntmps17
 by_cases h1:0<a
 case neg=>
  have d1:decide (a>0)=false:=by simp only [decide_eq_false_iff_not];omega
  obtain rfl:f=false:=by rw [←Hf.out];exact decide_eq_false fun h=>h1 (by have:=h.2.2.1;omega)
  go_wp2
  go_ret
  exact ⟨rfl,Hb.out⟩
 have d1:decide (a>0)=true:=by simp only [decide_eq_true_eq];omega
 by_cases h2:0<b
 case neg=>
  have d2:decide (b>0)=false:=by simp only [decide_eq_false_iff_not];omega
  obtain rfl:f=false:=by rw [←Hf.out];exact decide_eq_false fun h=>h2 (by have:=h.2.2.2.1;omega)
  go_wp2
  go_ret
  exact ⟨rfl,Hb.out⟩
 have d2:decide (b>0)=true:=by simp only [decide_eq_true_eq];omega
 by_cases h3:0≤x
 case neg=>
  have d3:decide (x≥0)=false:=by simp only [decide_eq_false_iff_not];omega
  obtain rfl:f=false:=by rw [←Hf.out];exact decide_eq_false fun h=>h3 h.1
  go_wp2
  go_ret
  exact ⟨rfl,Hb.out⟩
 have d3:decide (x≥0)=true:=by simp only [decide_eq_true_eq];omega
 by_cases h4:0≤y
 case neg=>
  have d4:decide (y≥0)=false:=by simp only [decide_eq_false_iff_not];omega
  obtain rfl:f=false:=by rw [←Hf.out];exact decide_eq_false fun h=>h4 h.2.1
  go_wp2
  go_ret
  exact ⟨rfl,Hb.out⟩
 have d4:decide (y≥0)=true:=by simp only [decide_eq_true_eq];omega
 by_cases h5:x<wd
 case neg=>
  have d5:decide (x<wd)=false:=by simp only [decide_eq_false_iff_not];omega
  obtain rfl:f=false:=by rw [←Hf.out];exact decide_eq_false fun h=>h5 (by have:=h.2.2.1;have:=h.2.2.2.2.1;omega)
  go_wp2
  go_ret
  exact ⟨rfl,Hb.out⟩
 have d5:decide (x<wd)=true:=by simp only [decide_eq_true_eq];omega
 by_cases h6:y<ht
 case neg=>
  have d6:decide (y<ht)=false:=by simp only [decide_eq_false_iff_not];omega
  obtain rfl:f=false:=by rw [←Hf.out];exact decide_eq_false fun h=>h6 (by have:=h.2.2.2.1;have:=h.2.2.2.2.2;omega)
  go_wp2
  go_ret
  exact ⟨rfl,Hb.out⟩
 have d6:decide (y<ht)=true:=by simp only [decide_eq_true_eq];omega
 have w1:IntKind.i64.wrap (wd - x)=wd - x:=IntWalk.i64_in _ (by omega)
 have w2:IntKind.i64.wrap (ht - y)=ht - y:=IntWalk.i64_in _ (by omega)
 by_cases h7:a≤wd - x
 case neg=>
  have d7:decide (a≤wd - x)=false:=by simp only [decide_eq_false_iff_not];omega
  obtain rfl:f=false:=by rw [←Hf.out];exact decide_eq_false fun h=>h7 (by have:=h.2.2.2.2.1;omega)
  go_wp2
  go_ret
  exact ⟨rfl,Hb.out⟩
 have d7:decide (a≤wd - x)=true:=by simp only [decide_eq_true_eq];omega
 have d8:decide (b≤ht - y)=f:=by
  rw [←Hf.out]
  congr 1
  apply propext
  unfold upIs
  omega
 go_wp2
 go_ret
 exact ⟨by rw [←d8];rfl,Hb.out⟩
set_option maxRecDepth 20000 in
theorem znu (wd ht:Int) (p:Option Addr) (n c:Nat) (a b:Int) (w:World) (f:Bool) (hf:decide (n>1000∨a>30∨b>30)=f):
  Makes Tryz.prog 12 #[IgV wd ht (.slice p n c),.int .i64 a,.int .i64 b] w (.bool f):=by
 unfold Makes
 have Hf:=Lib.hid hf
 have Hb:=Lib.hid (Below.al1 w (.cells #[.int .i64 wd,.int .i64 ht,.slice p n c] 26))
 clear hf
 go_enter Tryz.func12,Tryz.ntmps12
 by_cases h1:n>1000
 ·have d1:decide ((n:Int)>1000)=true:=by simp only [decide_eq_true_eq];omega
  obtain rfl:f=true:=by rw [←Hf.out];exact decide_eq_true (.inl h1)
  go_wp2
  go_ret
  exact ⟨rfl,Hb.out⟩
 have d1:decide ((n:Int)>1000)=false:=by simp only [decide_eq_false_iff_not];omega
 by_cases h2:a>30
 ·have d2:decide (a>30)=true:=by simp only [decide_eq_true_eq];omega
  obtain rfl:f=true:=by rw [←Hf.out];exact decide_eq_true (.inr (.inl h2))
  go_wp2
  go_ret
  exact ⟨rfl,Hb.out⟩
 have d2:decide (a>30)=false:=by simp only [decide_eq_false_iff_not];omega
 have d3:decide (b>30)=f:=by
  rw [←Hf.out]
  congr 1
  apply propext
  omega
 go_wp2
 go_ret
 exact ⟨by rw [←d3];rfl,Hb.out⟩
def inU (x y a b i j:Int):Prop:=x≤i∧y≤j∧i<x+a∧j<y+b
instance (x y a b i j:Int):Decidable (inU x y a b i j):=by unfold inU;infer_instance
set_option maxRecDepth 20000 in
set_option maxHeartbeats 2000000 in
theorem zml (x y a b i j:Int) (w:World) (hx: -1000000≤x∧x≤1000000) (hy: -1000000≤y∧y≤1000000) (ha: -1000000≤a∧a≤1000000) (hb: -1000000≤b∧b≤1000000) (f:Bool) (hf:decide (inU x y a b i j)=f):
  Makes Tryz.prog 25 #[U4V x y a b,.int .i64 i,.int .i64 j] w (.bool f):=by
 unfold Makes
 have Hf:=Lib.hid hf
 have Hb:=Lib.hid (Below.al1 w (.cells #[.int .i64 x,.int .i64 y,.int .i64 a,.int .i64 b] 36))
 have w1:IntKind.i64.wrap (x+a)=x+a:=IntWalk.i64_in _ (by omega)
 have w2:IntKind.i64.wrap (y+b)=y+b:=IntWalk.i64_in _ (by omega)
 clear hf
 go_enter Tryz.func25,Tryz.ntmps25
 by_cases h1:x≤i
 case neg=>
  have d1:decide (i≥x)=false:=by simp only [decide_eq_false_iff_not];omega
  obtain rfl:f=false:=by rw [←Hf.out];exact decide_eq_false fun h=>h1 h.1
  go_wp2
  go_ret
  exact ⟨rfl,Hb.out⟩
 have d1:decide (i≥x)=true:=by simp only [decide_eq_true_eq];omega
 by_cases h2:y≤j
 case neg=>
  have d2:decide (j≥y)=false:=by simp only [decide_eq_false_iff_not];omega
  obtain rfl:f=false:=by rw [←Hf.out];exact decide_eq_false fun h=>h2 h.2.1
  go_wp2
  go_ret
  exact ⟨rfl,Hb.out⟩
 have d2:decide (j≥y)=true:=by simp only [decide_eq_true_eq];omega
 by_cases h3:i<x+a
 case neg=>
  have d3:decide (i<x+a)=false:=by simp only [decide_eq_false_iff_not];omega
  obtain rfl:f=false:=by rw [←Hf.out];exact decide_eq_false fun h=>h3 h.2.2.1
  go_wp2
  go_ret
  exact ⟨rfl,Hb.out⟩
 have d3:decide (i<x+a)=true:=by simp only [decide_eq_true_eq];omega
 have d4:decide (j<y+b)=f:=by
  rw [←Hf.out]
  congr 1
  apply propext
  unfold inU
  omega
 go_wp2
 go_ret
 exact ⟨by rw [←d4];rfl,Hb.out⟩
end
section
open Go.RowKit
attribute [local go_sem] Oper.semAt_some
theorem zom:(Tryz.prog.info? 36).map (fun i=>(i.zero,i.size,i.bytes))=some (some (.agg #[.int .i64 0,.int .i64 0,.int .i64 0,.int .i64 0]),4,32):=by kernel_rfl
def zUp (q l:List Nat) (i:Nat):List Nat:=(List.range i).map fun j=>if j<q.length then q.getD j 0 else l.getD j 0
theorem zow (q l:List Nat) (i:Nat):zUp q l (i+1)=zUp q l i++[if i<q.length then q.getD i 0 else l.getD i 0]:=by
 simp [zUp,List.range_succ]
theorem zjY (q l:List Nat) (i:Nat):(zUp q l i).length=i:=by simp [zUp]
theorem zro {q l:List Nat} {N:Nat} (hN:0<N) (hq:∀x∈q,x<N) (hl:∀x∈l,x<N) (i:Nat):∀x∈zUp q l i,x<N:=fun x hx=>by
 obtain ⟨j,-,rfl⟩:=List.mem_map.1 hx
 split
 ·exact zaE hN hq j
 ·exact zaE hN hl j
theorem zg4 {T:List Nat} (h:T.length≤65536):CdR (cdK T).1 (cdK T).2 T.length (some (T.map rlw))∧(cdK T).2.length≤3*T.length:=by
 by_cases hS:∃S,DefS (cdP T) S
 ·obtain ⟨S,hS⟩:=hS
  rw [←zdW hS]
  exact ⟨zm3 hS h,zku T S⟩
 ·have e:cdK T=(1,cdP T):=by unfold cdK;rw [dif_neg hS]
  rw [e]
  exact ⟨.inl ⟨rfl,by rw [if_pos (zbc T),zf9]⟩,by rw [zbc];exact Nat.le_refl _⟩
theorem zrR {wd ht:Nat} {r:U4} (h:r.ok wd ht) {Z L:List Nat} {k:Nat} (hw:1≤wd) (hk:k<L.length):
  (r.ly wd ((zbk wd Z r).map rlw) L).getD k 0=if inU r.x r.y r.a r.b ((k%wd:Nat):Int) ((k/wd:Nat):Int) then rlw (Z.getD k 0) else L.getD k 0:=by
 obtain ⟨h1,h2,h3,h4,h5,h6⟩:=h
 have hm:=Nat.mod_lt k (show 0<wd by omega)
 have hq:=zpt wd k
 unfold U4.ly upLy upL
 rw [zc9 _ _ _ _ _ hk]
 by_cases hin:inU r.x r.y r.a r.b ((k%wd:Nat):Int) ((k/wd:Nat):Int)
 ·rw [if_pos hin]
  obtain ⟨g1,g2,g3,g4⟩:=hin
  rw [if_pos ⟨by omega,by omega,decide_eq_true ⟨by omega,by omega⟩⟩]
  have hxa:k%wd - r.x.toNat<r.a.toNat:=by omega
  have hyb:k/wd - r.y.toNat<r.b.toNat:=by omega
  have hget:=zkC wd r.x.toNat r.y.toNat r.a.toNat Z r.b.toNat (k%wd - r.x.toNat) (k/wd - r.y.toNat) hxa hyb
  have hlt:(k/wd - r.y.toNat)*r.a.toNat+(k%wd - r.x.toNat)<(upC wd r.x.toNat r.y.toNat r.a.toNat r.b.toNat Z).length:=by
   rw [zcc]
   have:=Nat.mul_le_mul_right r.a.toNat (show k/wd - r.y.toNat+1≤r.b.toNat by omega)
   rw [Nat.add_mul,Nat.one_mul] at this
   omega
  have hidx:(r.y.toNat+(k/wd - r.y.toNat))*wd+r.x.toNat+(k%wd - r.x.toNat)=k:=by
   rw [show r.y.toNat+(k/wd - r.y.toNat)=k/wd by omega]
   omega
  rw [hidx] at hget
  rw [zbk,List.getD_eq_getElem?_getD,List.getElem?_map,List.getElem?_eq_getElem hlt]
  rw [List.getD_eq_getElem?_getD,List.getElem?_eq_getElem hlt] at hget
  show rlw _=rlw _
  rw [←hget]
  rfl
 ·rw [if_neg hin,if_neg]
  rintro ⟨g1,g2,g3⟩
  obtain ⟨g4,g5⟩:=of_decide_eq_true g3
  exact hin ⟨by omega,by omega,by omega,by omega⟩
theorem znf {wd ht:Nat} {Z:List Nat} {k:Nat} (hw:1≤wd):∀(rs:List U4) (L:List Nat),(∀r∈rs,r.ok wd ht)→k<L.length→
  (rs.foldl (fun L r=>r.ly wd ((zbk wd Z r).map rlw) L) L).getD k 0=if ∃r∈rs,inU r.x r.y r.a r.b ((k%wd:Nat):Int) ((k/wd:Nat):Int) then rlw (Z.getD k 0) else L.getD k 0
 | [],L,_,_=>by rw [if_neg (fun ⟨r,h,_⟩=>by cases h)];rfl
 | r::rs,L,h,hk=>by
  have hl2:(r.ly wd ((zbk wd Z r).map rlw) L).length=L.length:=zhV ..
  rw [List.foldl_cons,znf hw rs _ (fun s hs=>h s (List.mem_cons_of_mem _ hs)) (by rw [hl2];exact hk),zrR (h r (List.mem_cons_self ..)) hw hk]
  by_cases h1:∃s∈rs,inU s.x s.y s.a s.b ((k%wd:Nat):Int) ((k/wd:Nat):Int)
  ·obtain ⟨s,hs,hi⟩:=h1
   rw [if_pos ⟨s,hs,hi⟩,if_pos ⟨s,List.mem_cons_of_mem _ hs,hi⟩]
  ·rw [if_neg h1]
   by_cases h2:inU r.x r.y r.a r.b ((k%wd:Nat):Int) ((k/wd:Nat):Int)
   ·rw [if_pos h2,if_pos ⟨r,List.mem_cons_self ..,h2⟩]
   ·rw [if_neg h2,if_neg]
    rintro ⟨s,hs,hi⟩
    rcases List.mem_cons.1 hs with rfl | hs
    ·exact h2 hi
    ·exact h1 ⟨s,hs,hi⟩
theorem zjX {α:Type} (f:α→List Nat) (m:Nat):∀l:List α,(∀x∈l,(f x).length≤m)→(l.flatMap f).length≤l.length*m
 | [],_=>Nat.zero_le _
 | x::l,h=>by
  have h1:=h x (List.mem_cons_self ..)
  have h2:=zjX f m l (fun y hy=>h y (List.mem_cons_of_mem _ hy))
  rw [List.flatMap_cons,List.length_append,List.length_cons,Nat.add_mul,Nat.one_mul]
  omega
theorem zmT {wd ht:Nat} {r:U4} (h:r.ok wd ht) (Z:List Nat):(zbk wd Z r).length=r.a.toNat*r.b.toNat∧(zbk wd Z r).length≤wd*ht:=by
 obtain ⟨h1,h2,h3,h4,h5,h6⟩:=h
 have e:(zbk wd Z r).length=r.b.toNat*r.a.toNat:=zcc ..
 refine ⟨by rw [e,Nat.mul_comm],?_⟩
 rw [e,Nat.mul_comm wd ht]
 exact Nat.mul_le_mul (by omega) (by omega)
theorem zlT {wd ht n:Nat} (hw:wd≤256) (hh:ht≤256) (hn:n=wd*ht) (h1000:n≤1000) {rs:List U4} (hr:∀r∈rs,r.ok wd ht) (h30:rs.length≤30) (Z L:List Nat):
  ¬zfW wd Z [] rs∧upAp wd ht (upBy wd Z [] rs) L=some (rs.foldl (fun L r=>r.ly wd ((zbk wd Z r).map rlw) L) L):=by
 have hK:∀r∈rs,(cdK (zbk wd Z r)).2.length≤3000:=fun r h=>by
  have h1:=zmT (hr r h) Z
  have h2:=(zg4 (T:=zbk wd Z r) (by omega)).2
  omega
 constructor
 ·have hf:=zjX (upPB wd Z) 3013 rs (fun r h=>by
   rw [upPB,zeF]
   have:=hK r h
   omega)
  have hl:(upBy wd Z [] rs).length≤100000:=by
   rw [upBy,List.length_append,List.length_append,List.length_append]
   show 2+(0+(2+_))≤_
   have:=Nat.mul_le_mul_right 3013 h30
   omega
  rintro (h | h)
  ·rw [List.length_nil] at h
   omega
  ·have h2:524288<(upBy wd Z [] rs).length:=h
   omega
 ·exact zgS hw hh (cs:=[]) (rs:=rs) (fun c hc=>by cases hc) (by decide) (by omega) (fun r=>cdK (zbk wd Z r)) (fun r=>(zbk wd Z r).map rlw) (fun r h=>by
   have h1:=zmT (hr r h) Z
   have h2:=zg4 (T:=zbk wd Z r) (by omega)
   have h3:=hK r h
   rw [h1.1] at h2
   exact ⟨hr r h,by omega,h2.1⟩) L
end
end Go.Proofs.YtedakhgaghfogaaGreat
