/- Several texts in one, each with its own head. -/
import Derived.Test.YtedakhgaghfogaaGreatQs40
namespace Go.Proofs.YtedakhgaghfogaaGreat
section
open Go.RowKit
attribute [local go_sem] Oper.semAt_some
theorem zcn (w:World):Calls Tryz.prog 72 #[.bool true] w fun e w'=>e= .returned (.tuple #[])∧w'=w:=by
 go_enter Tryz.func72,Tryz.ntmps72
 go_wp2
 go_end0
 exact ⟨rfl,rfl⟩
theorem zbW (w:World):Calls Tryz.prog 72 #[.bool false] w fun e w'=>e=zak 140∧w'=w:=by
 go_enter Tryz.func72,Tryz.ntmps72
 go_wp2
 exact ⟨rfl,rfl,rfl⟩
structure UrS (w:World) (R g off c:Nat) (b:List Nat) (a:Nat):Prop where
 box:∃z,w.heap[R]? =some (.cells #[.slice (some ⟨g,z,none⟩) (b.length - a) (c - a)] 76)∧(a<c→z=off+a)
 cel:∀i,i<b.length→w.cell? ⟨g,off+i,none⟩=some (.int .u8 (lq b i:Int))
 ne:R≠g
 glt:g<w.heap.size
 le:a≤b.length∧b.length≤c∧c≤9223372036854775807∧b.length≤524288
theorem UrS.lt {w:World} {R g off c:Nat} {b:List Nat} {a:Nat} (h:UrS w R g off c b a):R<w.heap.size:=by
 obtain ⟨z,h,-⟩:=h.box
 exact zab h
theorem UrS.turns {w w':World} {R g off c:Nat} {b:List Nat} {a:Nat} {T:Nat→Prop} (h:UrS w R g off c b a) (ht:Turns T w w') (h1:¬T R) (h2:¬T g):UrS w' R g off c b a:=
 ⟨by
  obtain ⟨z,hz,e⟩:=h.box
  exact ⟨z,(ht.block R h.lt h1).trans hz,e⟩,fun i hi=>ht.cell (h.cel i hi) h2,h.ne,Nat.lt_of_lt_of_le h.glt ht.size,h.le⟩
theorem UrS.below {w w':World} {R g off c:Nat} {b:List Nat} {a:Nat} (h:UrS w R g off c b a) (hb:Below w.heap.size w w'):UrS w' R g off c b a:=
 h.turns (T:=fun _=>False) (Turns.of_below' hb) (fun h=>h) (fun h=>h)
set_option maxRecDepth 20000 in
set_option maxHeartbeats 2000000 in
theorem zhk (R g off c n:Nat) (b:List Nat) (a:Nat) (w:World) (h:UrS w R g off c b a) (hn:n<4294967296):
  Calls Tryz.prog 74 #[.pointer (some ⟨R,0,none⟩),.int .u32 (n:Int)] w fun e w'=>
   (a+n≤b.length∧∃z,e= .returned (.slice (some ⟨g,z,none⟩) n (c - a))∧(1≤n→z=off+a)∧UrS w' R g off c b (a+n)∧Turns (fun i=>i=R) w w')∨(b.length<a+n∧e=zak 140∧w'=w):=by
 have H:=Lib.hid h
 obtain ⟨o,hbox,hoa⟩:=h.box
 have c0:w.cell? ⟨R,0,none⟩=some (.slice (some ⟨g,o,none⟩) (b.length - a) (c - a)):=zaa hbox rfl
 have f0:w.frozen? ⟨R,0,none⟩=false:=by simp [World.frozen?,hbox]
 obtain ⟨l1,l2,l3,l4⟩:=h.le
 have hwc:IntKind.u32.wrap ((b.length - a:Nat):Int)=((b.length - a:Nat):Int):=by rw [IntKind.wrap_u32];omega
 obtain ⟨m,hm⟩:∃m,b.length - a=m:=⟨_,rfl⟩
 obtain ⟨k,hk⟩:∃k,c - a=k:=⟨_,rfl⟩
 rw [hm,hk] at c0 hbox
 rw [hm] at hwc
 have Hm:=Lib.hid hm
 have Hoa:Hid (1≤k→o=off+a):=Lib.hid (fun h=>hoa (by omega))
 have Hk:=Lib.hid hk
 have Hbox:=Lib.hid hbox
 have hmk:m≤k:=by omega
 have hk2:k≤9223372036854775807:=by omega
 rw [hk]
 clear h hm hoa hk l1 l2 l3 l4 hbox
 by_cases hfit:n≤m
 ·have d1:decide ((n:Int)≤(m:Int))=true:=by simp;omega
  have hfin:∀z,(n<k→z=o+n)→UrS (w.setCell ⟨R,0,none⟩ (.slice (some ⟨g,z,none⟩) (m - n) (k - n))) R g off c b (a+n)∧Turns (fun i=>i=R) w (w.setCell ⟨R,0,none⟩ (.slice (some ⟨g,z,none⟩) (m - n) (k - n))):=fun z hz=>by
   have hb:=zaF (i:=0) (Value.slice (some ⟨g,z,none⟩) (m - n) (k - n)) Hbox.out
   have ht:Turns (fun i=>i=R) w (w.setCell ⟨R,0,none⟩ (.slice (some ⟨g,z,none⟩) (m - n) (k - n))):=(Turns.refl (fun i=>i=R) w).set (p:=⟨R,0,none⟩) rfl _
   refine ⟨⟨⟨z,?_,fun h=>?_⟩,fun i hi=>ht.cell (H.out.cel i hi) (fun e=>H.out.ne e.symm),H.out.ne,Nat.lt_of_lt_of_le H.out.glt ht.size,?_⟩,ht⟩
   ·rw [show b.length - (a+n)=m - n by have:=Hm.out;omega,show c - (a+n)=k - n by have:=Hk.out;omega]
    exact hb
   ·have h1:=Hk.out
    have h2:=Hoa.out (by omega)
    have h3:=hz (by omega)
    omega
   ·have:=H.out.le
    have:=Hm.out
    omega
  have Hfin:=Lib.hid hfin
  clear hfin
  go_enter Tryz.func74,Tryz.ntmps74
  go_wp2_with fail
  refine Calls.mono (zcn _) ?_
  rintro e w2 ⟨rfl,rfl⟩
  have hnk:n≤k:=by omega
  by_cases hkn:k=n
  ·have hmn:m=n:=by omega
   subst hkn
   subst hmn
   go_wp2
   go_ret
   have hq:=Hfin.out o (fun h=>absurd h (Nat.lt_irrefl _))
   rw [Nat.sub_self] at hq
   first
    | exact .inl ⟨by have:=Hm.out;have:=H.out.le;omega,o,rfl,fun h=>Hoa.out h,hq.1,hq.2⟩
    | (rw [Nat.sub_self];exact .inl ⟨by have:=Hm.out;have:=H.out.le;omega,o,rfl,fun h=>Hoa.out h,hq.1,hq.2⟩)
  ·go_wp2
   go_ret
   have hq:=Hfin.out (o+n) (fun _=>rfl)
   exact .inl ⟨by have:=Hm.out;have:=H.out.le;omega,o,rfl,fun h=>Hoa.out (by omega),hq.1,hq.2⟩
 ·have d1:decide ((n:Int)≤(m:Int))=false:=by simp;omega
  go_enter Tryz.func74,Tryz.ntmps74
  go_wp2_with fail
  refine Calls.mono (zbW _) ?_
  rintro e w2 ⟨rfl,rfl⟩
  go_wp2
  exact ⟨rfl,.inr ⟨by have:=Hm.out;omega,rfl,rfl⟩⟩
theorem zaR (R g off c:Nat) (b:List Nat) (a:Nat) (w:World) (h:UrS w R g off c b a):
  Calls Tryz.prog 74 #[.pointer (some ⟨R,0,none⟩),.int .u32 1] w fun e w'=>
   (a+1≤b.length∧e= .returned (.slice (some ⟨g,off+a,none⟩) 1 (c - a))∧UrS w' R g off c b (a+1)∧Turns (fun i=>i=R) w w'∧w'.cell? ⟨g,off+a,none⟩=some (.int .u8 (lq b a:Int))∧1≤c - a∧c - a≤9223372036854775807)∨(b.length<a+1∧e=zak 140∧w'=w):=by
 refine Calls.mono (zhk R g off c 1 b a w h (by decide)) ?_
 rintro e w' (⟨h1,z,rfl,hz,hu,ht⟩ | ⟨h1,rfl,rfl⟩)
 ·rw [hz (Nat.le_refl _)]
  have:=h.le
  exact .inl ⟨h1,rfl,hu,ht,hu.cel a (by omega),by omega,by omega⟩
 ·exact .inr ⟨h1,rfl,rfl⟩
theorem zmQ (R:Nat) (w:World) (h:w.cell? ⟨R,0,none⟩=some (.slice none 0 0)):
  Calls Tryz.prog 74 #[.pointer (some ⟨R,0,none⟩),.int .u32 1] w fun e w'=>e=zak 140∧w'=w:=by
 go_enter Tryz.func74,Tryz.ntmps74
 go_wp2_with fail
 refine Calls.mono (zbW _) ?_
 rintro e w2 ⟨rfl,rfl⟩
 go_wp2
 exact ⟨rfl,rfl,rfl⟩
def upV (b:List Nat) (a:Nat):Nat→Nat
 | 0=>0
 | j+1=>upV b a j*256+lq b (a+j)
theorem zkB (b:List Nat) (a:Nat):upV b a 2=upQ2 b a:=by
 show (0*256+lq b (a+0))*256+lq b (a+1)=_
 rw [Nat.zero_mul,Nat.zero_add];rfl
theorem zo3 (b:List Nat) (a:Nat):upV b a 4=upQ4 b a:=by
 show (((0*256+lq b (a+0))*256+lq b (a+1))*256+lq b (a+2))*256+lq b (a+3)=_
 rw [Nat.zero_mul,Nat.zero_add];rfl
theorem zib {v x:Nat} (h:v<256) (hx:x<256):bits .or .u16 ((v:Int)*256) (x:Int)=((v*256+x:Nat):Int):=by
 have:=bits_join .u16 16 (by decide) (fun n h0 h1=>by rw [IntKind.wrap_u16];omega) 8 ((v:Int)*256) (x:Int) (by omega) (by omega) (by omega) (by omega) (by omega) (by omega)
 rw [this];omega
theorem zfJ {v x:Nat} (h:v<16777216) (hx:x<256):bits .or .u32 ((v:Int)*256) (x:Int)=((v*256+x:Nat):Int):=by
 have:=bits_join .u32 32 (by decide) (fun n h0 h1=>by rw [IntKind.wrap_u32];omega) 8 ((v:Int)*256) (x:Int) (by omega) (by omega) (by omega) (by omega) (by omega) (by omega)
 rw [this];omega
theorem zhd (n:Int):IntKind.i16.wrap n=(n+32768)%65536 - 32768:=by
 simp [IntKind.wrap,IntKind.bits,IntKind.signed]
 split<;>omega
theorem zlI {v x:Nat} (h:v<256) (hx:x<256):bits .or .i16 (IntKind.i16.wrap ((v:Int)*256)) (x:Int)=upS (v*256+x):=by
 have hu:=zib h hx
 have e:BitVec.ofInt 16 (IntKind.i16.wrap ((v:Int)*256))=BitVec.ofInt 16 ((v:Int)*256):=by
  have h1:(IntKind.i16.wrap ((v:Int)*256))%65536=((v:Int)*256)%65536:=by rw [zhd];omega
  refine BitVec.eq_of_toNat_eq ?_
  rw [BitVec.toNat_ofInt,BitVec.toNat_ofInt]
  exact congrArg Int.toNat h1
 have hu2:IntKind.u16.wrap ((BitVec.ofInt 16 ((v:Int)*256) ||| BitVec.ofInt 16 (x:Int)).toNat:Int)=((v*256+x:Nat):Int):=hu
 show IntKind.i16.wrap ((BitVec.ofInt 16 (IntKind.i16.wrap ((v:Int)*256)) ||| BitVec.ofInt 16 (x:Int)).toNat:Int)=_
 rw [e]
 generalize (BitVec.ofInt 16 ((v:Int)*256) ||| BitVec.ofInt 16 (x:Int))=B at *
 have hB:=B.isLt
 rw [IntKind.wrap_u16] at hu2
 rw [zhd]
 unfold upS
 split<;>omega
def zf6:Nat→Int
 | 0=>65535
 | 1=>65280
 | _=>0
set_option maxRecDepth 20000 in
set_option maxHeartbeats 4000000 in
theorem zbC (R g off c:Nat) (b:List Nat) (a:Nat) (w:World) (h:UrS w R g off c b a) (h8:∀x∈b,x<256):
  Calls Tryz.prog 69 #[.pointer (some ⟨R,0,none⟩)] w fun e w'=>
   (a+2≤b.length∧e= .returned (.int .u16 (upQ2 b a:Int))∧UrS w' R g off c b (a+2)∧Turns (fun i=>i=R) w w')∨(b.length<a+2∧e=zak 140∧Turns (fun i=>i=R) w w'):=by
 have H:=Lib.hid h
 have Hb:Hid (∀i,lq b i<256):=Lib.hid (zaE (by decide) h8)
 clear h h8
 go_enter Tryz.func69,Tryz.ntmps69
 go_upto_region 3 with (fail)
 go_loopw [3,4] (fun vv lv wr=> ∃j:Nat,j≤2∧vv= .int .u16 (((upV b a j:Nat):Int))∧lv= .int .u16 (zf6 j)∧Hid (UrS wr R g off c b (a+j))∧Hid (Turns (fun i=>i=R) w wr)) (fun _ lv _=>((intOf lv)%4294967296).toNat)
 case atStart=>exact ⟨0,by omega,rfl,rfl,H,Lib.hid (Turns.refl _ _)⟩
 case round=>
  obtain ⟨j,hj,rfl,rfl,HR,HT⟩:=hrel
  obtain rfl | rfl | rfl:=(by omega:j=0∨j=1∨j=2)
  ·rw [show zf6 0=65535 from rfl]
   have hv:upV b a 0<1:=by
    show 0<1
    decide
   have hsuc:upV b a 1=upV b a 0*256+lq b (a+0):=rfl
   obtain ⟨v,hvv⟩:∃v,upV b a 0=v:=⟨_,rfl⟩
   rw [hvv] at hv hsuc ⊢
   go_wp2_with fail
   refine Calls.mono (zaR R g off c b (a+0) wr HR.out) ?_
   rintro _ w3 (⟨hle,rfl,hu,ht,x0,hc1,hc2⟩ | ⟨hle,rfl,rfl⟩)
   ·have hx:=Hb.out (a+0)
    obtain ⟨x,hx2⟩:∃x,lq b (a+0)=x:=⟨_,rfl⟩
    rw [hx2] at x0 hx hsuc
    obtain ⟨k,hk⟩:∃k,c - (a+0)=k:=⟨_,rfl⟩
    rw [hk] at hc1 hc2 ⊢
    have Hsuc:=Lib.hid hsuc
    have HR3:=Lib.hid hu
    have HT3:=Lib.hid (HT.out.trans ht)
    clear hk hx2 hvv hsuc hu ht
    rw [Nat.add_zero] at x0
    have hor:=zib (v:=v) (x:=x) (by omega) hx
    go_wp2
    go_roundw
    case rel=>exact ⟨1,by omega,by rw [Hsuc.out,Int.natCast_add,Int.natCast_mul];rfl,rfl,HR3,HT3⟩
    case measure=>decide
   ·go_wp2
    exact ⟨rfl,.inr ⟨by omega,rfl,HT.out⟩⟩
  ·rw [show zf6 1=65280 from rfl]
   have hv:upV b a 1<256:=by
    have q0:=Hb.out (a+0)
    show (0*256+lq b (a+0))<256
    omega
   have hsuc:upV b a 2=upV b a 1*256+lq b (a+1):=rfl
   obtain ⟨v,hvv⟩:∃v,upV b a 1=v:=⟨_,rfl⟩
   rw [hvv] at hv hsuc ⊢
   go_wp2_with fail
   refine Calls.mono (zaR R g off c b (a+1) wr HR.out) ?_
   rintro _ w3 (⟨hle,rfl,hu,ht,x0,hc1,hc2⟩ | ⟨hle,rfl,rfl⟩)
   ·have hx:=Hb.out (a+1)
    obtain ⟨x,hx2⟩:∃x,lq b (a+1)=x:=⟨_,rfl⟩
    rw [hx2] at x0 hx hsuc
    obtain ⟨k,hk⟩:∃k,c - (a+1)=k:=⟨_,rfl⟩
    rw [hk] at hc1 hc2 ⊢
    have Hsuc:=Lib.hid hsuc
    have HR3:=Lib.hid hu
    have HT3:=Lib.hid (HT.out.trans ht)
    clear hk hx2 hvv hsuc hu ht
    have hor:=zib (v:=v) (x:=x) (by omega) hx
    go_wp2
    go_roundw
    case rel=>exact ⟨2,by omega,by rw [Hsuc.out,Int.natCast_add,Int.natCast_mul];rfl,rfl,HR3,HT3⟩
    case measure=>decide
   ·go_wp2
    exact ⟨rfl,.inr ⟨by omega,rfl,HT.out⟩⟩
  ·rw [show zf6 2=0 from rfl]
   go_wp2
   go_ret
   refine .inl ⟨by have:=HR.out.le;omega,?_,HR.out,HT.out⟩
   rw [zkB];rfl
def zdb:Nat→Int
 | 0=>4294967295
 | 1=>4294967040
 | 2=>4294901760
 | 3=>4278190080
 | _=>0
set_option maxRecDepth 20000 in
set_option maxHeartbeats 4000000 in
theorem zlq (R g off c:Nat) (b:List Nat) (a:Nat) (w:World) (h:UrS w R g off c b a) (h8:∀x∈b,x<256):
  Calls Tryz.prog 75 #[.pointer (some ⟨R,0,none⟩)] w fun e w'=>
   (a+4≤b.length∧e= .returned (.int .u32 (upQ4 b a:Int))∧UrS w' R g off c b (a+4)∧Turns (fun i=>i=R) w w')∨(b.length<a+4∧e=zak 140∧Turns (fun i=>i=R) w w'):=by
 have H:=Lib.hid h
 have Hb:Hid (∀i,lq b i<256):=Lib.hid (zaE (by decide) h8)
 clear h h8
 go_enter Tryz.func75,Tryz.ntmps75
 go_upto_region 3 with (fail)
 go_loopw [3,4] (fun vv lv wr=> ∃j:Nat,j≤4∧vv= .int .u32 (((upV b a j:Nat):Int))∧lv= .int .u32 (zdb j)∧Hid (UrS wr R g off c b (a+j))∧Hid (Turns (fun i=>i=R) w wr)) (fun _ lv _=>((intOf lv)%4294967296).toNat)
 case atStart=>exact ⟨0,by omega,rfl,rfl,H,Lib.hid (Turns.refl _ _)⟩
 case round=>
  obtain ⟨j,hj,rfl,rfl,HR,HT⟩:=hrel
  obtain rfl | rfl | rfl | rfl | rfl:=(by omega:j=0∨j=1∨j=2∨j=3∨j=4)
  ·rw [show zdb 0=4294967295 from rfl]
   have hv:upV b a 0<1:=by
    show 0<1
    decide
   have hsuc:upV b a 1=upV b a 0*256+lq b (a+0):=rfl
   obtain ⟨v,hvv⟩:∃v,upV b a 0=v:=⟨_,rfl⟩
   rw [hvv] at hv hsuc ⊢
   go_wp2_with fail
   refine Calls.mono (zaR R g off c b (a+0) wr HR.out) ?_
   rintro _ w3 (⟨hle,rfl,hu,ht,x0,hc1,hc2⟩ | ⟨hle,rfl,rfl⟩)
   ·have hx:=Hb.out (a+0)
    obtain ⟨x,hx2⟩:∃x,lq b (a+0)=x:=⟨_,rfl⟩
    rw [hx2] at x0 hx hsuc
    obtain ⟨k,hk⟩:∃k,c - (a+0)=k:=⟨_,rfl⟩
    rw [hk] at hc1 hc2 ⊢
    have Hsuc:=Lib.hid hsuc
    have HR3:=Lib.hid hu
    have HT3:=Lib.hid (HT.out.trans ht)
    clear hk hx2 hvv hsuc hu ht
    rw [Nat.add_zero] at x0
    have hor:=zfJ (v:=v) (x:=x) (by omega) hx
    go_wp2
    go_roundw
    case rel=>exact ⟨1,by omega,by rw [Hsuc.out,Int.natCast_add,Int.natCast_mul];rfl,rfl,HR3,HT3⟩
    case measure=>decide
   ·go_wp2
    exact ⟨rfl,.inr ⟨by omega,rfl,HT.out⟩⟩
  ·rw [show zdb 1=4294967040 from rfl]
   have hv:upV b a 1<256:=by
    have q0:=Hb.out (a+0)
    show (0*256+lq b (a+0))<256
    omega
   have hsuc:upV b a 2=upV b a 1*256+lq b (a+1):=rfl
   obtain ⟨v,hvv⟩:∃v,upV b a 1=v:=⟨_,rfl⟩
   rw [hvv] at hv hsuc ⊢
   go_wp2_with fail
   refine Calls.mono (zaR R g off c b (a+1) wr HR.out) ?_
   rintro _ w3 (⟨hle,rfl,hu,ht,x0,hc1,hc2⟩ | ⟨hle,rfl,rfl⟩)
   ·have hx:=Hb.out (a+1)
    obtain ⟨x,hx2⟩:∃x,lq b (a+1)=x:=⟨_,rfl⟩
    rw [hx2] at x0 hx hsuc
    obtain ⟨k,hk⟩:∃k,c - (a+1)=k:=⟨_,rfl⟩
    rw [hk] at hc1 hc2 ⊢
    have Hsuc:=Lib.hid hsuc
    have HR3:=Lib.hid hu
    have HT3:=Lib.hid (HT.out.trans ht)
    clear hk hx2 hvv hsuc hu ht
    have hor:=zfJ (v:=v) (x:=x) (by omega) hx
    go_wp2
    go_roundw
    case rel=>exact ⟨2,by omega,by rw [Hsuc.out,Int.natCast_add,Int.natCast_mul];rfl,rfl,HR3,HT3⟩
    case measure=>decide
   ·go_wp2
    exact ⟨rfl,.inr ⟨by omega,rfl,HT.out⟩⟩
  ·rw [show zdb 2=4294901760 from rfl]
   have hv:upV b a 2<65536:=by
    have q0:=Hb.out (a+0)
    have q1:=Hb.out (a+1)
    show ((0*256+lq b (a+0))*256+lq b (a+1))<65536
    omega
   have hsuc:upV b a 3=upV b a 2*256+lq b (a+2):=rfl
   obtain ⟨v,hvv⟩:∃v,upV b a 2=v:=⟨_,rfl⟩
   rw [hvv] at hv hsuc ⊢
   go_wp2_with fail
   refine Calls.mono (zaR R g off c b (a+2) wr HR.out) ?_
   rintro _ w3 (⟨hle,rfl,hu,ht,x0,hc1,hc2⟩ | ⟨hle,rfl,rfl⟩)
   ·have hx:=Hb.out (a+2)
    obtain ⟨x,hx2⟩:∃x,lq b (a+2)=x:=⟨_,rfl⟩
    rw [hx2] at x0 hx hsuc
    obtain ⟨k,hk⟩:∃k,c - (a+2)=k:=⟨_,rfl⟩
    rw [hk] at hc1 hc2 ⊢
    have Hsuc:=Lib.hid hsuc
    have HR3:=Lib.hid hu
    have HT3:=Lib.hid (HT.out.trans ht)
    clear hk hx2 hvv hsuc hu ht
    have hor:=zfJ (v:=v) (x:=x) (by omega) hx
    go_wp2
    go_roundw
    case rel=>exact ⟨3,by omega,by rw [Hsuc.out,Int.natCast_add,Int.natCast_mul];rfl,rfl,HR3,HT3⟩
    case measure=>decide
   ·go_wp2
    exact ⟨rfl,.inr ⟨by omega,rfl,HT.out⟩⟩
  ·rw [show zdb 3=4278190080 from rfl]
   have hv:upV b a 3<16777216:=by
    have q0:=Hb.out (a+0)
    have q1:=Hb.out (a+1)
    have q2:=Hb.out (a+2)
    show (((0*256+lq b (a+0))*256+lq b (a+1))*256+lq b (a+2))<16777216
    omega
   have hsuc:upV b a 4=upV b a 3*256+lq b (a+3):=rfl
   obtain ⟨v,hvv⟩:∃v,upV b a 3=v:=⟨_,rfl⟩
   rw [hvv] at hv hsuc ⊢
   go_wp2_with fail
   refine Calls.mono (zaR R g off c b (a+3) wr HR.out) ?_
   rintro _ w3 (⟨hle,rfl,hu,ht,x0,hc1,hc2⟩ | ⟨hle,rfl,rfl⟩)
   ·have hx:=Hb.out (a+3)
    obtain ⟨x,hx2⟩:∃x,lq b (a+3)=x:=⟨_,rfl⟩
    rw [hx2] at x0 hx hsuc
    obtain ⟨k,hk⟩:∃k,c - (a+3)=k:=⟨_,rfl⟩
    rw [hk] at hc1 hc2 ⊢
    have Hsuc:=Lib.hid hsuc
    have HR3:=Lib.hid hu
    have HT3:=Lib.hid (HT.out.trans ht)
    clear hk hx2 hvv hsuc hu ht
    have hor:=zfJ (v:=v) (x:=x) (by omega) hx
    go_wp2
    go_roundw
    case rel=>exact ⟨4,by omega,by rw [Hsuc.out,Int.natCast_add,Int.natCast_mul];rfl,rfl,HR3,HT3⟩
    case measure=>decide
   ·go_wp2
    exact ⟨rfl,.inr ⟨by omega,rfl,HT.out⟩⟩
  ·rw [show zdb 4=0 from rfl]
   go_wp2
   go_ret
   refine .inl ⟨by have:=HR.out.le;omega,?_,HR.out,HT.out⟩
   rw [zo3];rfl
def zfx:Nat→Int
 | 0=> -1
 | 1=> -256
 | _=>0
set_option maxRecDepth 20000 in
set_option maxHeartbeats 4000000 in
theorem zgU (R g off c:Nat) (b:List Nat) (a:Nat) (w:World) (h:UrS w R g off c b a) (h8:∀x∈b,x<256):
  Calls Tryz.prog 71 #[.pointer (some ⟨R,0,none⟩)] w fun e w'=>
   (a+2≤b.length∧e= .returned (.int .i16 (upS (upQ2 b a)))∧UrS w' R g off c b (a+2)∧Turns (fun i=>i=R) w w')∨(b.length<a+2∧e=zak 140∧Turns (fun i=>i=R) w w'):=by
 have H:=Lib.hid h
 have Hb:Hid (∀i,lq b i<256):=Lib.hid (zaE (by decide) h8)
 clear h h8
 go_enter Tryz.func71,Tryz.ntmps71
 go_upto_region 3 with (fail)
 go_loopw [3,4] (fun vv lv wr=> ∃j:Nat,j≤2∧vv= .int .i16 (upS (upV b a j))∧lv= .int .i16 (zfx j)∧Hid (UrS wr R g off c b (a+j))∧Hid (Turns (fun i=>i=R) w wr)) (fun _ lv _=>((intOf lv)%4294967296).toNat)
 case atStart=>exact ⟨0,by omega,rfl,rfl,H,Lib.hid (Turns.refl _ _)⟩
 case round=>
  obtain ⟨j,hj,rfl,rfl,HR,HT⟩:=hrel
  obtain rfl | rfl | rfl:=(by omega:j=0∨j=1∨j=2)
  ·rw [show zfx 0= -1 from rfl]
   have hv:upV b a 0<1:=by
    show 0<1
    decide
   have hsuc:upV b a 1=upV b a 0*256+lq b (a+0):=rfl
   obtain ⟨v,hvv⟩:∃v,upV b a 0=v:=⟨_,rfl⟩
   rw [hvv] at hv hsuc ⊢
   go_wp2_with fail
   refine Calls.mono (zaR R g off c b (a+0) wr HR.out) ?_
   rintro _ w3 (⟨hle,rfl,hu,ht,x0,hc1,hc2⟩ | ⟨hle,rfl,rfl⟩)
   ·have hx:=Hb.out (a+0)
    obtain ⟨x,hx2⟩:∃x,lq b (a+0)=x:=⟨_,rfl⟩
    rw [hx2] at x0 hx hsuc
    obtain ⟨k,hk⟩:∃k,c - (a+0)=k:=⟨_,rfl⟩
    rw [hk] at hc1 hc2 ⊢
    have Hsuc:=Lib.hid hsuc
    have HR3:=Lib.hid hu
    have HT3:=Lib.hid (HT.out.trans ht)
    clear hk hx2 hvv hsuc hu ht
    rw [Nat.add_zero] at x0
    have hor:=zlI (v:=v) (x:=x) (by omega) hx
    have hSv:upS v=(v:Int):=if_pos (by omega)
    rw [hSv]
    go_wp2
    go_roundw
    case rel=>exact ⟨1,by omega,by rw [Hsuc.out],rfl,HR3,HT3⟩
    case measure=>decide
   ·go_wp2
    exact ⟨rfl,.inr ⟨by omega,rfl,HT.out⟩⟩
  ·rw [show zfx 1= -256 from rfl]
   have hv:upV b a 1<256:=by
    have q0:=Hb.out (a+0)
    show (0*256+lq b (a+0))<256
    omega
   have hsuc:upV b a 2=upV b a 1*256+lq b (a+1):=rfl
   obtain ⟨v,hvv⟩:∃v,upV b a 1=v:=⟨_,rfl⟩
   rw [hvv] at hv hsuc ⊢
   go_wp2_with fail
   refine Calls.mono (zaR R g off c b (a+1) wr HR.out) ?_
   rintro _ w3 (⟨hle,rfl,hu,ht,x0,hc1,hc2⟩ | ⟨hle,rfl,rfl⟩)
   ·have hx:=Hb.out (a+1)
    obtain ⟨x,hx2⟩:∃x,lq b (a+1)=x:=⟨_,rfl⟩
    rw [hx2] at x0 hx hsuc
    obtain ⟨k,hk⟩:∃k,c - (a+1)=k:=⟨_,rfl⟩
    rw [hk] at hc1 hc2 ⊢
    have Hsuc:=Lib.hid hsuc
    have HR3:=Lib.hid hu
    have HT3:=Lib.hid (HT.out.trans ht)
    clear hk hx2 hvv hsuc hu ht
    have hor:=zlI (v:=v) (x:=x) (by omega) hx
    have hSv:upS v=(v:Int):=if_pos (by omega)
    rw [hSv]
    go_wp2
    go_roundw
    case rel=>exact ⟨2,by omega,by rw [Hsuc.out],rfl,HR3,HT3⟩
    case measure=>decide
   ·go_wp2
    exact ⟨rfl,.inr ⟨by omega,rfl,HT.out⟩⟩
  ·rw [show zfx 2=0 from rfl]
   go_wp2
   go_ret
   refine .inl ⟨by have:=HR.out.le;omega,?_,HR.out,HT.out⟩
   rw [zkB];rfl
end
section
open Go.RowKit
attribute [local go_sem] Oper.semAt_some
set_option maxRecDepth 20000 in
set_option maxHeartbeats 4000000 in
theorem zc0 (R g off c:Nat) (b:List Nat) (a:Nat) (w:World) (h:UrS w R g off c b a) (h8:∀x∈b,x<256):
  Calls Tryz.prog 70 #[.pointer (some ⟨R,0,none⟩)] w fun e w'=>
   (a+8≤b.length∧e= .returned (U4V (upQ2 b a:Int) (upQ2 b (a+2):Int) (upQ2 b (a+4):Int) (upQ2 b (a+6):Int))∧UrS w' R g off c b (a+8)∧Turns (fun i=>i=R) w w')∨(b.length<a+8∧e=zak 140∧Turns (fun i=>i=R) w w'):=by
 have hb0:=Below.al1 w (.cells #[.int .i64 0,.int .i64 0,.int .i64 0,.int .i64 0] 36)
 have hz:=World.alloc_heap_new w (.cells #[.int .i64 0,.int .i64 0,.int .i64 0,.int .i64 0] 36)
 have H0:=Lib.hid (h.below hb0)
 have HRw:=Lib.hid h.lt
 have Hg:=Lib.hid h.glt
 have H8:=Lib.hid h8
 have Hb0:=Lib.hid hb0
 have hB:∀i,upQ2 b i<65536:=zfb h8
 have HB:=Lib.hid hB
 clear h h8 hb0 hB
 go_enter Tryz.func70,Tryz.ntmps70
 go_upto_region 1 with (fail)
 generalize w.alloc (.cells #[.int .i64 0,.int .i64 0,.int .i64 0,.int .i64 0] 36)=W at *
 obtain ⟨P,hP⟩:∃P,w.heap.size=P:=⟨_,rfl⟩
 rw [hP] at hz ⊢
 have Hz:=Lib.hid hz
 have HP:=Lib.hid hP
 clear hz hP
 go_wp2_with fail
 refine Calls.mono (zbC R g off c b a W H0.out H8.out) ?_
 rintro _ w1 (⟨h1,rfl,hu1,ht1⟩ | ⟨h1,rfl,ht1⟩)
 case inr=>
  have Ht:=Lib.hid ht1
  clear ht1
  go_wp2
  exact ⟨rfl,.inr ⟨by omega,rfl,(Turns.of_below' Hb0.out).trans Ht.out⟩⟩
 have HU1:=Lib.hid hu1
 have HT1:=Lib.hid ht1
 clear hu1 ht1
 go_wp2_with fail
 refine Calls.mono (zbC R g off c b (a+2) w1 HU1.out H8.out) ?_
 rintro _ w2 (⟨h2,rfl,hu2,ht2⟩ | ⟨h2,rfl,ht2⟩)
 case inr=>
  have Ht:=Lib.hid (HT1.out.trans ht2)
  clear ht2
  go_wp2
  exact ⟨rfl,.inr ⟨by omega,rfl,(Turns.of_below' Hb0.out).trans Ht.out⟩⟩
 have HU2:=Lib.hid hu2
 have HT2:=Lib.hid (HT1.out.trans ht2)
 clear hu2 ht2
 go_wp2_with fail
 refine Calls.mono (zbC R g off c b (a+2+2) w2 HU2.out H8.out) ?_
 rintro _ w3 (⟨h3,rfl,hu3,ht3⟩ | ⟨h3,rfl,ht3⟩)
 case inr=>
  have Ht:=Lib.hid (HT2.out.trans ht3)
  clear ht3
  go_wp2
  exact ⟨rfl,.inr ⟨by omega,rfl,(Turns.of_below' Hb0.out).trans Ht.out⟩⟩
 have HU3:=Lib.hid hu3
 have HT3:=Lib.hid (HT2.out.trans ht3)
 clear hu3 ht3
 go_wp2_with fail
 refine Calls.mono (zbC R g off c b (a+2+2+2) w3 HU3.out H8.out) ?_
 rintro _ w4 (⟨h4,rfl,hu4,ht4⟩ | ⟨h4,rfl,ht4⟩)
 case inr=>
  have Ht:=Lib.hid (HT3.out.trans ht4)
  clear ht4
  go_wp2
  exact ⟨rfl,.inr ⟨by omega,rfl,(Turns.of_below' Hb0.out).trans Ht.out⟩⟩
 have HU4:=Lib.hid hu4
 have HT4:=Lib.hid (HT3.out.trans ht4)
 clear hu4 ht4
 have hPR:¬P=R:=fun e=>by have:=HRw.out;have:=HP.out;omega
 have hz4:=(HT4.out.block P (zab Hz.out) hPR).trans Hz.out
 obtain ⟨c0,c1,c2,c3,cf⟩:=zau hz4
 have f0:=cf 0
 have f1:=cf 1
 have f2:=cf 2
 have f3:=cf 3
 have e1:=HB.out a
 have e2:=HB.out (a+2)
 have e3:=HB.out (a+2+2)
 have e4:=HB.out (a+2+2+2)
 have Hz4:=Lib.hid hz4
 obtain ⟨q1,hq1⟩:∃q,upQ2 b a=q:=⟨_,rfl⟩
 obtain ⟨q2,hq2⟩:∃q,upQ2 b (a+2)=q:=⟨_,rfl⟩
 obtain ⟨q3,hq3⟩:∃q,upQ2 b (a+2+2)=q:=⟨_,rfl⟩
 obtain ⟨q4,hq4⟩:∃q,upQ2 b (a+2+2+2)=q:=⟨_,rfl⟩
 rw [hq1] at e1 ⊢
 rw [hq2] at e2 ⊢
 rw [hq3] at e3 ⊢
 rw [hq4] at e4 ⊢
 have x1:IntKind.i64.wrap (q1:Int)=(q1:Int):=IntWalk.i64_in _ (by omega)
 have x2:IntKind.i64.wrap (q2:Int)=(q2:Int):=IntWalk.i64_in _ (by omega)
 have x3:IntKind.i64.wrap (q3:Int)=(q3:Int):=IntWalk.i64_in _ (by omega)
 have x4:IntKind.i64.wrap (q4:Int)=(q4:Int):=IntWalk.i64_in _ (by omega)
 have Hq:Hid (upQ2 b a=q1∧upQ2 b (a+2)=q2∧upQ2 b (a+4)=q3∧upQ2 b (a+6)=q4):=Lib.hid ⟨hq1,hq2,hq3,hq4⟩
 clear hq1 hq2 hq3 hq4 cf hz4
 go_wp2
 obtain ⟨k,kt⟩:=zhI (.int .i64 (q1:Int)) (.int .i64 (q2:Int)) (.int .i64 (q3:Int)) (.int .i64 (q4:Int)) Hz4.out rfl
 obtain ⟨k0,k1,k2,k3,-⟩:=zau k
 refine bodyPost_ret (zfK rfl rfl k0 k1 k2 k3) rfl (.inl ⟨by omega,?_,?_,?_⟩)
 ·rw [Hq.out.1,Hq.out.2.1,Hq.out.2.2.1,Hq.out.2.2.2]
 ·exact HU4.out.turns kt (fun e=>hPR e.symm) (fun e=>by have h1:=Hg.out;have h2:=HP.out;omega)
 ·exact ((Turns.of_below' Hb0.out).trans HT4.out).trans' kt (fun i hi (e:i=P)=>by have:=HP.out;omega)
set_option maxRecDepth 20000 in
theorem zoh (R g off c:Nat) (b:List Nat) (a:Nat) (w:World) (h:UrS w R g off c b a):
  Calls Tryz.prog 45 #[.pointer (some ⟨R,0,none⟩)] w fun e w'=>w'=w∧((a=b.length∧e= .returned (.tuple #[]))∨(a≠b.length∧e=zak 140)):=by
 obtain ⟨z,hbox,-⟩:=h.box
 have c0:w.cell? ⟨R,0,none⟩=some (.slice (some ⟨g,z,none⟩) (b.length - a) (c - a)):=zaa hbox rfl
 have hle:=h.le
 obtain ⟨m,hm⟩:∃m,b.length - a=m:=⟨_,rfl⟩
 obtain ⟨k,hk⟩:∃m,c - a=m:=⟨_,rfl⟩
 rw [hm,hk] at c0
 have Hm:=Lib.hid hm
 have Hle:=Lib.hid hle
 clear h hbox hm hk hle
 by_cases hm0:m=0
 ·have d:((m:Int)==0)=true:=by simp [hm0]
  go_enter Tryz.func45,Tryz.ntmps45
  go_wp2_with fail
  refine Calls.mono (zcn _) ?_
  rintro e w2 ⟨rfl,rfl⟩
  go_wp2
  go_end0
  exact ⟨rfl,.inl ⟨by have:=Hm.out;have:=Hle.out;omega,rfl⟩⟩
 ·have d:((m:Int)==0)=false:=by simp;omega
  go_enter Tryz.func45,Tryz.ntmps45
  go_wp2_with fail
  refine Calls.mono (zbW _) ?_
  rintro e w2 ⟨rfl,rfl⟩
  go_wp2
  exact ⟨rfl,rfl,.inr ⟨by have:=Hm.out;omega,rfl⟩⟩
end
end Go.Proofs.YtedakhgaghfogaaGreat
