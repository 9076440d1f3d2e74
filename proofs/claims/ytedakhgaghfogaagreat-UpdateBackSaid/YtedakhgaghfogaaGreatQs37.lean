/- codec: Encode. -/
import Derived.Test.YtedakhgaghfogaaGreatQs36
namespace Go.Proofs.YtedakhgaghfogaaGreat
section
open Go.RowKit
attribute [local go_sem] Oper.semAt_some
theorem zaU {P:Program} {w:World} {a:Addr} {m:Mode} (fn:Fn) (x y:Array Value):(store a (.func fn x y) m).run P w=stored P w a (.func fn x y) m:=run_store P w a _ m rfl
attribute [local go_sem] zaU
def cdM (wd ht:Int) (n:Nat):Prop:=1≤wd∧1≤ht∧wd≤256∧ht≤256∧(n:Int)=wd*ht
instance (wd ht:Int) (n:Nat):Decidable (cdM wd ht n):=by unfold cdM;infer_instance
theorem zdg {wd ht:Int} (h:1≤wd∧1≤ht∧wd≤256∧ht≤256):∃q:Nat,wd*ht=(q:Int)∧1≤q∧q≤65536:=by
 obtain ⟨a,rfl⟩:∃a:Nat,wd=(a:Int):=⟨wd.toNat,by omega⟩
 obtain ⟨b,rfl⟩:∃b:Nat,ht=(b:Int):=⟨ht.toNat,by omega⟩
 have h1:a*b≤256*256:=Nat.mul_le_mul (by omega) (by omega)
 have h2:1*1≤a*b:=Nat.mul_le_mul (by omega) (by omega)
 exact ⟨a*b,by simp,by omega,by omega⟩
theorem zeq (l S S':List Nat):∀i,i≤3→cdG l S i=cdG l S' i
 | 0,_=>rfl
 | 1,_=>rfl
 | 2,_=>rfl
 | 3,_=>rfl
 | i+4,h=>by omega
theorem zcC (w:World):
  (Instr.index 72 (.agg wysL.toArray) (.int .i64 0)).run Tryz.prog w= .ok (.agg #[.func (.func 61) #[] #[],.func (.func 62) #[] #[]]) w∧
  (Instr.index 72 (.agg wysL.toArray) (.int .i64 1)).run Tryz.prog w= .ok (.agg #[.func (.func 63) #[] #[],.func (.func 64) #[] #[]]) w∧
  (Instr.index 72 (.agg wysL.toArray) (.int .i64 2)).run Tryz.prog w= .ok (.agg #[.func (.func 65) #[] #[],.func (.func 66) #[] #[]]) w∧
  (Instr.index 72 (.agg wysL.toArray) (.int .i64 3)).run Tryz.prog w= .ok (.agg #[.func (.func 67) #[] #[],.func (.func 68) #[] #[]]) w:=by
 refine ⟨?_,?_,?_,?_⟩<;>kernel_rfl
def TlE (l:List Nat) (i base:Nat) (W:World) (e:Ending) (w':World):Prop:=
 ∃v' S',e= .returned (.tuple #[v',.bool (cdW l S' i).2])∧(i<3→S'=[])∧(i=3→DefS (cdP l) S')∧(cdW l S' i).1.length≤4194304∧w'.ownsRow base 5 1 v' (cdW l S' i).1.length ((cdW l S' i).1.map u8v)∧Below W.heap.size W w'
set_option maxRecDepth 20000 in
set_option maxHeartbeats 8000000 in
theorem zjz (wd ht:Int) (p:Option Addr) (c:Nat) (l:List Nat) (w:World) (hp:RowAt encP 1 w p l) (h32:∀x∈l,x<4294967296) (hlc:l.length≤c):
  Calls Tryz.prog 20 #[.agg #[.int .i64 wd,.int .i64 ht,.slice p l.length c]] w fun e w'=>Below w.heap.size w w'∧((¬cdM wd ht l.length∧e= .returned (.tuple #[.int .u8 0,.slice none 0 0,.int .i64 1]))∨
   (cdM wd ht l.length∧∃S v',DefS (cdP l) S∧e= .returned (.tuple #[.int .u8 ((cdE l S).1:Int),v',.int .i64 0])∧w'.ownsRow w.heap.size 5 1 v' (cdE l S).2.length ((cdE l S).2.map u8v))):=by
 have Hp:=Lib.hid hp
 have H32:=Lib.hid h32
 obtain ⟨n,hn⟩:∃n,l.length=n:=⟨_,rfl⟩
 have Hn:=Lib.hid hn
 rw [hn] at hlc ⊢
 clear hp h32 hn
 go_enter Tryz.func20,Tryz.ntmps20
 go_upto_region 1 with (fail)
 have hT:=World.alloc_heap_new w (.cells #[.int .i64 wd,.int .i64 ht,.slice p n c] 26)
 have hb0:=Below.al1 w (.cells #[.int .i64 wd,.int .i64 ht,.slice p n c] 26)
 have hs0:(w.alloc (.cells #[.int .i64 wd,.int .i64 ht,.slice p n c] 26)).heap.size=w.heap.size+1:=by simp
 generalize w.alloc (.cells #[.int .i64 wd,.int .i64 ht,.slice p n c] 26)=W0 at *
 have c0:W0.cell? ⟨w.heap.size,0,none⟩=some (.int .i64 wd):=zaa hT rfl
 have c1:W0.cell? ⟨w.heap.size,1,none⟩=some (.int .i64 ht):=zaa hT rfl
 have c2:W0.cell? ⟨w.heap.size,2,none⟩=some (.slice p n c):=zaa hT rfl
 have Hb0:=Lib.hid hb0
 clear hb0 hT
 obtain ⟨f,hf⟩:∃f,decide (1≤wd∧1≤ht∧wd≤256∧ht≤256)=f:=⟨_,rfl⟩
 have Hf:=Lib.hid hf
 have HF:Hid (∀w,Calls Tryz.prog 39 #[.int .i64 wd,.int .i64 ht] w fun e w'=>e= .returned (.bool f)∧w'=w):=Lib.hid (fun w=>by
  have:=zgW wd ht w
  rwa [hf] at this)
 clear hf
 cases f
 case false=>
  go_wp2_with fail
  refine Calls.mono (HF.out _) ?_
  rintro _ u ⟨rfl,rfl⟩
  go_wp2
  go_ret3
  exact ⟨Hb0.out,.inl ⟨fun h=>by have h2:=of_decide_eq_false Hf.out;exact h2 ⟨h.1,h.2.1,h.2.2.1,h.2.2.2.1⟩,rfl⟩⟩
 have hfit:=of_decide_eq_true Hf.out
 obtain ⟨q,hq,hq1,hq2⟩:=zdg hfit
 have Hq:=Lib.hid hq
 have Hfit:=Lib.hid hfit
 have hwq:IntKind.i64.wrap (q:Int)=(q:Int):=IntWalk.i64_in _ (by omega)
 have hwm:IntKind.i64.wrap (wd*ht)=(q:Int):=by rw [hq];exact hwq
 clear hfit
 by_cases hnq:n=q
 case neg=>
  have d1:((n:Int) !=(q:Int))=true:=by simp;omega
  go_wp2_with fail
  refine Calls.mono (HF.out _) ?_
  rintro _ u ⟨rfl,rfl⟩
  go_wp2
  go_ret3
  exact ⟨Hb0.out,.inl ⟨fun h=>by have h2:=h.2.2.2.2;rw [Hq.out] at h2;omega,rfl⟩⟩
 subst hnq
 have d1:((n:Int) !=(n:Int))=false:=by simp
 have HM:Hid (cdM wd ht n):=Lib.hid ⟨Hfit.out.1,Hfit.out.2.1,Hfit.out.2.2.1,Hfit.out.2.2.2,Hq.out.symm⟩
 have H0:Hid (∀W,Below W0.heap.size W0 W→Calls Tryz.prog 61 #[.slice p n c] W (TlE l 0 W0.heap.size W)):=Lib.hid (fun W hW=>by
  have h:=zdi p c l W (Hp.out.below (Below.thn Hb0.out hW)) H32.out (by rw [Hn.out];omega)
  rw [Hn.out] at h
  refine Calls.mono h ?_
  rintro _ w' ⟨v',rfl,ho,hb⟩
  exact ⟨v',[],rfl,fun _=>rfl,fun h=>by omega,by show (cdP l).length≤_;rw [zbc,Hn.out];omega,zao ho hW.size,hb⟩)
 have H1:Hid (∀W,Below W0.heap.size W0 W→Calls Tryz.prog 63 #[.slice p n c] W (TlE l 1 W0.heap.size W)):=Lib.hid (fun W hW=>by
  have h:=zhs p c l W (Hp.out.below (Below.thn Hb0.out hW)) H32.out (by rw [Hn.out];omega) (by rw [Hn.out];exact hlc)
  rw [Hn.out] at h
  refine Calls.mono h ?_
  rintro _ w' ⟨v',rfl,ho,hb⟩
  exact ⟨v',[],rfl,fun _=>rfl,fun h=>by omega,by show (rlBs (rlO l)).length≤_;rw [zdA];have:=zmy l;rw [Hn.out] at this;omega,zao ho hW.size,hb⟩)
 have H2:Hid (∀W,Below W0.heap.size W0 W→Calls Tryz.prog 65 #[.slice p n c] W (TlE l 2 W0.heap.size W)):=Lib.hid (fun W hW=>by
  have h:=zju p c l W (Hp.out.below (Below.thn Hb0.out hW)) H32.out (by rw [Hn.out];omega) (by rw [Hn.out];exact hlc)
  rw [Hn.out] at h
  refine Calls.mono h ?_
  rintro _ w' ⟨v',rfl,ho,hb⟩
  exact ⟨v',[],rfl,fun _=>rfl,fun h=>by omega,by have:=zjW (l:=l) (by rw [Hn.out];omega);show (plE l).1.length≤_;omega,zao ho hW.size,hb⟩)
 have H3:Hid (∀W,Below W0.heap.size W0 W→Calls Tryz.prog 67 #[.slice p n c] W (TlE l 3 W0.heap.size W)):=Lib.hid (fun W hW=>by
  have h:=zfM p c l W (Hp.out.below (Below.thn Hb0.out hW)) H32.out (by rw [Hn.out];omega)
  rw [Hn.out] at h
  refine Calls.mono h ?_
  rintro _ w' ⟨v',S,rfl,hS,hl,ho,hb⟩
  exact ⟨v',S,rfl,fun h=>by omega,fun _=>hS,by show S.length≤_;omega,zao ho hW.size,hb⟩)
 go_wp2_with fail
 refine Calls.mono (HF.out _) ?_
 rintro _ u ⟨rfl,rfl⟩
 go_wp2_with fail
 refine Calls.mono (ziG _) ?_
 rintro _ u1 ⟨rfl,hb1⟩
 have Hb1:=Lib.hid hb1
 have Hsz:=Lib.hid hs0
 clear hb1 hwq hwm hq hs0 d1
 unfold wysL
 have C2:=Lib.hid c2
 have hsB:Hid (w.heap.size<u.heap.size):=Lib.hid (by have:=Hsz.out;omega)
 clear c0 c1 c2
 go_wp2_with fail
 go_loopw [5,6,29] (fun kv bv iv wr=> ∃(i:Nat) (S:List Nat),kv= .int .u8 ((cdG l S i).1:Int)∧iv= .int .i64 (i:Int)∧i≤4∧Hid ((i<4→S=[])∧(i=4→DefS (cdP l) S)∧(cdG l S i).2.length≤4194304)∧Hid (wr.ownsRow u.heap.size 5 1 bv (cdG l S i).2.length ((cdG l S i).2.map u8v))∧Hid (Below u.heap.size u wr)) (fun _ _ iv _=>4 - (intOf iv).toNat)
 case atStart=>exact ⟨0,[],rfl,rfl,by omega,Lib.hid ⟨fun _=>rfl,fun h=>by omega,by show 0≤_;omega⟩,Lib.hid (World.ownsRow_nil _ _ _ _),Hb1⟩
 case round=>
  obtain ⟨i,S,rfl,rfl,hi4,HS,HO,HB⟩:=hrel
  have c2:=cell_later HB.out C2.out
  by_cases hi:i<4
  case neg=>
   obtain rfl:i=4:=by omega
   obtain ⟨bp,bc,rfl⟩:=zac HO.out
   go_wp2
   go_ret3
   exact ⟨Below.thn Hb0.out HB.out,.inr ⟨HM.out,S,HS.out.2.1 (by trivial),_,rfl,zao HO.out Hb0.out.size⟩⟩
  obtain rfl:=HS.out.1 hi
  have HK:=Lib.hid (zdH l [])
  obtain ⟨A,hA⟩:∃A,cdG l [] i=A:=⟨_,rfl⟩
  have HA:=Lib.hid hA
  have hAl:=HS.out.2.2
  rw [hA] at HO hAl ⊢
  obtain ⟨K,B⟩:=A
  dsimp only at HO hAl ⊢
  obtain ⟨bp,bc,rfl⟩:=zac HO.out
  have HAl:=Lib.hid hAl
  have hcase:i=0∨i=1∨i=2∨i=3:=by omega
  have Hbx:=Lib.hid (Below.al1 wr (.cells #[.nilFunc,.nilFunc] 71))
  clear hA hi hi4 hAl HS
  rcases hcase with rfl | rfl | rfl | rfl
  ·have hix:=(zcC wr).1
   unfold wysL at hix
   go_upto_region 8 with (fail)
   have hT8:=World.alloc_heap_new wr (.cells #[.func (.func 61) #[] #[],.func (.func 62) #[] #[]] 71)
   have hbw:=Below.al1 wr (.cells #[.func (.func 61) #[] #[],.func (.func 62) #[] #[]] 71)
   have hb8:=HB.out.trans (hbw.mono HB.out.size)
   have c8:=cell_later hbw c2
   have ho8:=(Turns.of_below' (T:=fun _=>False) hbw).owns HO.out (fun _ _ h=>h)
   generalize wr.alloc (.cells #[.func (.func 61) #[] #[],.func (.func 62) #[] #[]] 71)=w8 at *
   have f8:w8.cell? ⟨wr.heap.size,0,none⟩=some (.func (.func 61) #[] #[]):=zaa hT8 rfl
   have Hb8:=Lib.hid hb8
   have Ho8:=Lib.hid ho8
   clear hT8 hb8 c2 hix hbw ho8
   go_wp2_with fail
   refine Calls.mono (H0.out w8 Hb8.out) ?_
   rintro _ w9 ⟨v9,S9,rfl,s1,s2,hl9,ho9,hb9⟩
   have HOB:=Lib.hid ((Turns.of_below' (T:=fun _=>False) hb9).owns Ho8.out (fun _ _ h=>h))
   have Hb9:=Lib.hid (Hb8.out.trans (hb9.mono Hb8.out.size))
   have HE:Hid (cdG l S9 1=cdS (K,B) 1 (cdW l S9 0).1 (cdW l S9 0).2):=Lib.hid (by
    rw [←HA.out,←zeq l S9 [] 0 (by omega)];rfl)
   have HS9:Hid ((1<4→S9=[])∧(1=4→DefS (cdP l) S9)):=Lib.hid ⟨fun h=>s1 (by omega),fun h=>s2 (by omega)⟩
   obtain ⟨X,hX⟩:∃X,cdW l S9 0=X:=⟨_,rfl⟩
   rw [hX] at hl9 ho9 HE ⊢
   obtain ⟨xb,is⟩:=X
   dsimp only at hl9 ho9 HE ⊢
   obtain ⟨p9,c9,rfl⟩:=zac ho9
   have Ho9:=Lib.hid ho9
   have Hl9:=Lib.hid hl9
   clear hX hl9 ho9 hb9 s1 s2 f8 c8
   cases is
   case false=>
    go_wp2
    go_roundw
    case rel=>exact ⟨1,S9,by (rw [HE.out,zat (by simp)];try rfl),by go_num,by omega,Lib.hid ⟨HS9.out.1,HS9.out.2,by rw [HE.out,zat (by simp)];exact HAl.out⟩,Lib.hid (by rw [HE.out,zat (by simp)];exact HOB.out),Hb9⟩
    case measure=>simp [intOf]
   by_cases hK:K=0
   case pos=>
    have dk:((K:Int)==0)=true:=by simp;omega
    go_wp2
    go_roundw
    case rel=>exact ⟨1,S9,by (rw [HE.out,zas ⟨rfl,.inl hK⟩];try rfl),by go_num,by omega,Lib.hid ⟨HS9.out.1,HS9.out.2,by rw [HE.out,zas ⟨rfl,.inl hK⟩];exact Hl9.out⟩,Lib.hid (by rw [HE.out,zas ⟨rfl,.inl hK⟩];exact Ho9.out),Hb9⟩
    case measure=>simp [intOf]
   have dk:((K:Int)==0)=false:=by simp;omega
   by_cases hlt:xb.length<B.length
   case pos=>
    have dl:decide ((xb.length:Int)<(B.length:Int))=true:=by simp;omega
    go_wp2
    go_roundw
    case rel=>exact ⟨1,S9,by (rw [HE.out,zas ⟨rfl,.inr hlt⟩];try rfl),by go_num,by omega,Lib.hid ⟨HS9.out.1,HS9.out.2,by rw [HE.out,zas ⟨rfl,.inr hlt⟩];exact Hl9.out⟩,Lib.hid (by rw [HE.out,zas ⟨rfl,.inr hlt⟩];exact Ho9.out),Hb9⟩
    case measure=>simp [intOf]
   case neg=>
    have dl:decide ((xb.length:Int)<(B.length:Int))=false:=by simp;omega
    go_wp2
    go_roundw
    case rel=>exact ⟨1,S9,by (rw [HE.out,zat (fun h=>h.2.elim hK hlt)];try rfl),by go_num,by omega,Lib.hid ⟨HS9.out.1,HS9.out.2,by rw [HE.out,zat (fun h=>h.2.elim hK hlt)];exact HAl.out⟩,Lib.hid (by rw [HE.out,zat (fun h=>h.2.elim hK hlt)];exact HOB.out),Hb9⟩
    case measure=>simp [intOf]
  ·have hix:=(zcC wr).2.1
   unfold wysL at hix
   go_upto_region 8 with (fail)
   have hT8:=World.alloc_heap_new wr (.cells #[.func (.func 63) #[] #[],.func (.func 64) #[] #[]] 71)
   have hbw:=Below.al1 wr (.cells #[.func (.func 63) #[] #[],.func (.func 64) #[] #[]] 71)
   have hb8:=HB.out.trans (hbw.mono HB.out.size)
   have c8:=cell_later hbw c2
   have ho8:=(Turns.of_below' (T:=fun _=>False) hbw).owns HO.out (fun _ _ h=>h)
   generalize wr.alloc (.cells #[.func (.func 63) #[] #[],.func (.func 64) #[] #[]] 71)=w8 at *
   have f8:w8.cell? ⟨wr.heap.size,0,none⟩=some (.func (.func 63) #[] #[]):=zaa hT8 rfl
   have Hb8:=Lib.hid hb8
   have Ho8:=Lib.hid ho8
   clear hT8 hb8 c2 hix hbw ho8
   go_wp2_with fail
   refine Calls.mono (H1.out w8 Hb8.out) ?_
   rintro _ w9 ⟨v9,S9,rfl,s1,s2,hl9,ho9,hb9⟩
   have HOB:=Lib.hid ((Turns.of_below' (T:=fun _=>False) hb9).owns Ho8.out (fun _ _ h=>h))
   have Hb9:=Lib.hid (Hb8.out.trans (hb9.mono Hb8.out.size))
   have HE:Hid (cdG l S9 2=cdS (K,B) 2 (cdW l S9 1).1 (cdW l S9 1).2):=Lib.hid (by
    rw [←HA.out,←zeq l S9 [] 1 (by omega)];rfl)
   have HS9:Hid ((2<4→S9=[])∧(2=4→DefS (cdP l) S9)):=Lib.hid ⟨fun h=>s1 (by omega),fun h=>s2 (by omega)⟩
   obtain ⟨X,hX⟩:∃X,cdW l S9 1=X:=⟨_,rfl⟩
   rw [hX] at hl9 ho9 HE ⊢
   obtain ⟨xb,is⟩:=X
   dsimp only at hl9 ho9 HE ⊢
   obtain ⟨p9,c9,rfl⟩:=zac ho9
   have Ho9:=Lib.hid ho9
   have Hl9:=Lib.hid hl9
   clear hX hl9 ho9 hb9 s1 s2 f8 c8
   cases is
   case false=>
    go_wp2
    go_roundw
    case rel=>exact ⟨2,S9,by (rw [HE.out,zat (by simp)];try rfl),by go_num,by omega,Lib.hid ⟨HS9.out.1,HS9.out.2,by rw [HE.out,zat (by simp)];exact HAl.out⟩,Lib.hid (by rw [HE.out,zat (by simp)];exact HOB.out),Hb9⟩
    case measure=>simp [intOf]
   by_cases hK:K=0
   case pos=>
    have dk:((K:Int)==0)=true:=by simp;omega
    go_wp2
    go_roundw
    case rel=>exact ⟨2,S9,by (rw [HE.out,zas ⟨rfl,.inl hK⟩];try rfl),by go_num,by omega,Lib.hid ⟨HS9.out.1,HS9.out.2,by rw [HE.out,zas ⟨rfl,.inl hK⟩];exact Hl9.out⟩,Lib.hid (by rw [HE.out,zas ⟨rfl,.inl hK⟩];exact Ho9.out),Hb9⟩
    case measure=>simp [intOf]
   have dk:((K:Int)==0)=false:=by simp;omega
   by_cases hlt:xb.length<B.length
   case pos=>
    have dl:decide ((xb.length:Int)<(B.length:Int))=true:=by simp;omega
    go_wp2
    go_roundw
    case rel=>exact ⟨2,S9,by (rw [HE.out,zas ⟨rfl,.inr hlt⟩];try rfl),by go_num,by omega,Lib.hid ⟨HS9.out.1,HS9.out.2,by rw [HE.out,zas ⟨rfl,.inr hlt⟩];exact Hl9.out⟩,Lib.hid (by rw [HE.out,zas ⟨rfl,.inr hlt⟩];exact Ho9.out),Hb9⟩
    case measure=>simp [intOf]
   case neg=>
    have dl:decide ((xb.length:Int)<(B.length:Int))=false:=by simp;omega
    go_wp2
    go_roundw
    case rel=>exact ⟨2,S9,by (rw [HE.out,zat (fun h=>h.2.elim hK hlt)];try rfl),by go_num,by omega,Lib.hid ⟨HS9.out.1,HS9.out.2,by rw [HE.out,zat (fun h=>h.2.elim hK hlt)];exact HAl.out⟩,Lib.hid (by rw [HE.out,zat (fun h=>h.2.elim hK hlt)];exact HOB.out),Hb9⟩
    case measure=>simp [intOf]
  ·have hix:=(zcC wr).2.2.1
   unfold wysL at hix
   go_upto_region 8 with (fail)
   have hT8:=World.alloc_heap_new wr (.cells #[.func (.func 65) #[] #[],.func (.func 66) #[] #[]] 71)
   have hbw:=Below.al1 wr (.cells #[.func (.func 65) #[] #[],.func (.func 66) #[] #[]] 71)
   have hb8:=HB.out.trans (hbw.mono HB.out.size)
   have c8:=cell_later hbw c2
   have ho8:=(Turns.of_below' (T:=fun _=>False) hbw).owns HO.out (fun _ _ h=>h)
   generalize wr.alloc (.cells #[.func (.func 65) #[] #[],.func (.func 66) #[] #[]] 71)=w8 at *
   have f8:w8.cell? ⟨wr.heap.size,0,none⟩=some (.func (.func 65) #[] #[]):=zaa hT8 rfl
   have Hb8:=Lib.hid hb8
   have Ho8:=Lib.hid ho8
   clear hT8 hb8 c2 hix hbw ho8
   go_wp2_with fail
   refine Calls.mono (H2.out w8 Hb8.out) ?_
   rintro _ w9 ⟨v9,S9,rfl,s1,s2,hl9,ho9,hb9⟩
   have HOB:=Lib.hid ((Turns.of_below' (T:=fun _=>False) hb9).owns Ho8.out (fun _ _ h=>h))
   have Hb9:=Lib.hid (Hb8.out.trans (hb9.mono Hb8.out.size))
   have HE:Hid (cdG l S9 3=cdS (K,B) 3 (cdW l S9 2).1 (cdW l S9 2).2):=Lib.hid (by
    rw [←HA.out,←zeq l S9 [] 2 (by omega)];rfl)
   have HS9:Hid ((3<4→S9=[])∧(3=4→DefS (cdP l) S9)):=Lib.hid ⟨fun h=>s1 (by omega),fun h=>s2 (by omega)⟩
   obtain ⟨X,hX⟩:∃X,cdW l S9 2=X:=⟨_,rfl⟩
   rw [hX] at hl9 ho9 HE ⊢
   obtain ⟨xb,is⟩:=X
   dsimp only at hl9 ho9 HE ⊢
   obtain ⟨p9,c9,rfl⟩:=zac ho9
   have Ho9:=Lib.hid ho9
   have Hl9:=Lib.hid hl9
   clear hX hl9 ho9 hb9 s1 s2 f8 c8
   cases is
   case false=>
    go_wp2
    go_roundw
    case rel=>exact ⟨3,S9,by (rw [HE.out,zat (by simp)];try rfl),by go_num,by omega,Lib.hid ⟨HS9.out.1,HS9.out.2,by rw [HE.out,zat (by simp)];exact HAl.out⟩,Lib.hid (by rw [HE.out,zat (by simp)];exact HOB.out),Hb9⟩
    case measure=>simp [intOf]
   by_cases hK:K=0
   case pos=>
    have dk:((K:Int)==0)=true:=by simp;omega
    go_wp2
    go_roundw
    case rel=>exact ⟨3,S9,by (rw [HE.out,zas ⟨rfl,.inl hK⟩];try rfl),by go_num,by omega,Lib.hid ⟨HS9.out.1,HS9.out.2,by rw [HE.out,zas ⟨rfl,.inl hK⟩];exact Hl9.out⟩,Lib.hid (by rw [HE.out,zas ⟨rfl,.inl hK⟩];exact Ho9.out),Hb9⟩
    case measure=>simp [intOf]
   have dk:((K:Int)==0)=false:=by simp;omega
   by_cases hlt:xb.length<B.length
   case pos=>
    have dl:decide ((xb.length:Int)<(B.length:Int))=true:=by simp;omega
    go_wp2
    go_roundw
    case rel=>exact ⟨3,S9,by (rw [HE.out,zas ⟨rfl,.inr hlt⟩];try rfl),by go_num,by omega,Lib.hid ⟨HS9.out.1,HS9.out.2,by rw [HE.out,zas ⟨rfl,.inr hlt⟩];exact Hl9.out⟩,Lib.hid (by rw [HE.out,zas ⟨rfl,.inr hlt⟩];exact Ho9.out),Hb9⟩
    case measure=>simp [intOf]
   case neg=>
    have dl:decide ((xb.length:Int)<(B.length:Int))=false:=by simp;omega
    go_wp2
    go_roundw
    case rel=>exact ⟨3,S9,by (rw [HE.out,zat (fun h=>h.2.elim hK hlt)];try rfl),by go_num,by omega,Lib.hid ⟨HS9.out.1,HS9.out.2,by rw [HE.out,zat (fun h=>h.2.elim hK hlt)];exact HAl.out⟩,Lib.hid (by rw [HE.out,zat (fun h=>h.2.elim hK hlt)];exact HOB.out),Hb9⟩
    case measure=>simp [intOf]
  ·have hix:=(zcC wr).2.2.2
   unfold wysL at hix
   go_upto_region 8 with (fail)
   have hT8:=World.alloc_heap_new wr (.cells #[.func (.func 67) #[] #[],.func (.func 68) #[] #[]] 71)
   have hbw:=Below.al1 wr (.cells #[.func (.func 67) #[] #[],.func (.func 68) #[] #[]] 71)
   have hb8:=HB.out.trans (hbw.mono HB.out.size)
   have c8:=cell_later hbw c2
   have ho8:=(Turns.of_below' (T:=fun _=>False) hbw).owns HO.out (fun _ _ h=>h)
   generalize wr.alloc (.cells #[.func (.func 67) #[] #[],.func (.func 68) #[] #[]] 71)=w8 at *
   have f8:w8.cell? ⟨wr.heap.size,0,none⟩=some (.func (.func 67) #[] #[]):=zaa hT8 rfl
   have Hb8:=Lib.hid hb8
   have Ho8:=Lib.hid ho8
   clear hT8 hb8 c2 hix hbw ho8
   go_wp2_with fail
   refine Calls.mono (H3.out w8 Hb8.out) ?_
   rintro _ w9 ⟨v9,S9,rfl,s1,s2,hl9,ho9,hb9⟩
   have HOB:=Lib.hid ((Turns.of_below' (T:=fun _=>False) hb9).owns Ho8.out (fun _ _ h=>h))
   have Hb9:=Lib.hid (Hb8.out.trans (hb9.mono Hb8.out.size))
   have HE:Hid (cdG l S9 4=cdS (K,B) 4 (cdW l S9 3).1 (cdW l S9 3).2):=Lib.hid (by
    rw [←HA.out,←zeq l S9 [] 3 (by omega)];rfl)
   have HS9:Hid ((4<4→S9=[])∧(4=4→DefS (cdP l) S9)):=Lib.hid ⟨fun h=>s1 (by omega),fun h=>s2 (by omega)⟩
   obtain ⟨X,hX⟩:∃X,cdW l S9 3=X:=⟨_,rfl⟩
   rw [hX] at hl9 ho9 HE ⊢
   obtain ⟨xb,is⟩:=X
   dsimp only at hl9 ho9 HE ⊢
   obtain ⟨p9,c9,rfl⟩:=zac ho9
   have Ho9:=Lib.hid ho9
   have Hl9:=Lib.hid hl9
   clear hX hl9 ho9 hb9 s1 s2 f8 c8
   cases is
   case false=>
    go_wp2
    go_roundw
    case rel=>exact ⟨4,S9,by (rw [HE.out,zat (by simp)];try rfl),by go_num,by omega,Lib.hid ⟨HS9.out.1,HS9.out.2,by rw [HE.out,zat (by simp)];exact HAl.out⟩,Lib.hid (by rw [HE.out,zat (by simp)];exact HOB.out),Hb9⟩
    case measure=>simp [intOf]
   by_cases hK:K=0
   case pos=>
    have dk:((K:Int)==0)=true:=by simp;omega
    go_wp2
    go_roundw
    case rel=>exact ⟨4,S9,by (rw [HE.out,zas ⟨rfl,.inl hK⟩];try rfl),by go_num,by omega,Lib.hid ⟨HS9.out.1,HS9.out.2,by rw [HE.out,zas ⟨rfl,.inl hK⟩];exact Hl9.out⟩,Lib.hid (by rw [HE.out,zas ⟨rfl,.inl hK⟩];exact Ho9.out),Hb9⟩
    case measure=>simp [intOf]
   have dk:((K:Int)==0)=false:=by simp;omega
   by_cases hlt:xb.length<B.length
   case pos=>
    have dl:decide ((xb.length:Int)<(B.length:Int))=true:=by simp;omega
    go_wp2
    go_roundw
    case rel=>exact ⟨4,S9,by (rw [HE.out,zas ⟨rfl,.inr hlt⟩];try rfl),by go_num,by omega,Lib.hid ⟨HS9.out.1,HS9.out.2,by rw [HE.out,zas ⟨rfl,.inr hlt⟩];exact Hl9.out⟩,Lib.hid (by rw [HE.out,zas ⟨rfl,.inr hlt⟩];exact Ho9.out),Hb9⟩
    case measure=>simp [intOf]
   case neg=>
    have dl:decide ((xb.length:Int)<(B.length:Int))=false:=by simp;omega
    go_wp2
    go_roundw
    case rel=>exact ⟨4,S9,by (rw [HE.out,zat (fun h=>h.2.elim hK hlt)];try rfl),by go_num,by omega,Lib.hid ⟨HS9.out.1,HS9.out.2,by rw [HE.out,zat (fun h=>h.2.elim hK hlt)];exact HAl.out⟩,Lib.hid (by rw [HE.out,zat (fun h=>h.2.elim hK hlt)];exact HOB.out),Hb9⟩
    case measure=>simp [intOf]
end
end Go.Proofs.YtedakhgaghfogaaGreat
