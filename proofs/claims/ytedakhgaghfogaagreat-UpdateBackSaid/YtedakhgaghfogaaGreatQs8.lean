/- Several texts in one, each with its own head. -/
import Derived.Test.YtedakhgaghfogaaGreatQs7
import Derived.WalkKit
import Derived.Test.YtedakhgaghfogaaGreatQs4
import Derived.Laws.BitsLemmas
namespace Go.Proofs.YtedakhgaghfogaaGreat
section
open Go.RowKit
def cn (f:Nat→Nat) (n k:Nat):Nat:=sm k fun i=>if f i=n then 1 else 0
theorem zbq (f:Nat→Nat) (n k:Nat):cn f n (k+1)=cn f n k+(if f k=n then 1 else 0):=rfl
theorem zpC (f:Nat→Nat) (n:Nat):∀k,cn f n k≤k
 | 0=>Nat.le_refl _
 | k+1=>by
  have:=zpC f n k
  rw [zbq];split<;>omega
def en (f:Nat→Nat) (N:Nat):Nat→Nat
 | 0=>0
 | n+1=>en f N n*2+cn f (n+1) N
theorem zpu (f:Nat→Nat) (N:Nat):∀n,en f N n+N≤N*2^n
 | 0=>by simp [en]
 | n+1=>by
  have h1:=zpu f N n
  have h2:=zpC f (n+1) N
  rw [en,Nat.pow_succ,←Nat.mul_assoc]
  omega
theorem ziP (f:Nat→Nat) {N n:Nat} (hN:N≤320) (hn:n≤15):en f N n≤10485760:=by
 have h1:=zpu f N n
 have h2:2^n≤2^15:=Nat.pow_le_pow_right (by decide) hn
 have h3:(2:Nat)^15=32768:=rfl
 rw [h3] at h2
 have h4:N*2^n≤320*32768:=Nat.mul_le_mul hN h2
 omega
def nx (f:Nat→Nat) (N n k:Nat):Nat:=en f N n*2+cn f (n+1) k
set_option maxRecDepth 20000 in
set_option maxHeartbeats 2000000 in
theorem zmJ (ls:List Nat) (v:Value) (B:Nat) (J:Nat→Nat→World→Prop) (w:World) (hN:ls.length≤320) (hv:∀n k w,J n k w→Row enc8 1 w v ls)
  (hh:∀n k w,n<15→k<ls.length→lq ls k=n+1→J n k w→Calls Tryz.prog 209 #[.int .i64 (k:Int),.agg #[.int .u16 ((trn (n+1) 0 (nx (lq ls) ls.length n k):Nat):Int),.int .u16 ((n+1:Nat):Int)],.pointer (some ⟨B,0,none⟩)] w fun e w'=>e= .returned (.tuple #[])∧J n (k+1) w')
  (hs:∀n k w,k<ls.length→lq ls k≠n+1→J n k w→J n (k+1) w) (hn:∀n w,J n ls.length w→J (n+1) 0 w) (h0:J 0 0 w):
  Calls Tryz.prog 208 #[v,.func (.func 209) #[] #[.pointer (some ⟨B,0,none⟩)]] w fun e w'=>e= .returned (.tuple #[])∧J 15 0 w':=by
 obtain ⟨p,c,rfl,-,-,-⟩:=hv 0 0 w h0
 have Hv:=Lib.hid hv
 have Hh:=Lib.hid hh
 have Hs:=Lib.hid hs
 have Hnx:=Lib.hid hn
 have H0:=Lib.hid h0
 clear hv hh hs hn h0
 go_enter Tryz.func208,Tryz.ntmps208
 go_wp2
 go_loopw [4,5] (fun xv nv wr=> ∃(n x:Nat),xv= .int .u32 (x:Int)∧nv= .int .u8 ((n:Int)+1)∧n≤15∧x≤10485760∧Hid (x=en (lq ls) ls.length n)∧Hid (J n 0 wr)) (fun _ nv _=>16 - (intOf nv).toNat)
 case atStart=>exact ⟨0,0,rfl,rfl,by omega,by omega,Lib.hid rfl,H0⟩
 case round=>
  obtain ⟨n,x,rfl,rfl,hn,hx,Hx,HJ⟩:=hrel
  by_cases hlt:n<15
  ·have d0:(n:Int)+1≤15:=by omega
   go_wp2
   go_loopw [4,16] (fun yv kv ws=> ∃(k y:Nat),yv= .int .u32 (y:Int)∧kv= .int .i64 (k:Int)∧k≤ls.length∧y≤2*x+k∧Hid (y=nx (lq ls) ls.length n k)∧Hid (J n k ws)) (fun _ kv _=>ls.length - (intOf kv).toNat)
   case atStart=>exact ⟨0,x*2,by go_num,rfl,Nat.zero_le _,by omega,Lib.hid (by rw [Hx.out];unfold nx;simp [cn,sm]),HJ⟩
   case round=>
    obtain ⟨k,y,rfl,rfl,hk,hy,Hy,HK⟩:=hrel
    by_cases hkl:k<ls.length
    ·obtain ⟨p',c',e',_,_,hrow⟩:=Hv.out n k wr HK.out
     cases e'
     obtain ⟨g,off,rfl,hcell⟩:=hrow.byte hkl
     obtain ⟨z,hz⟩:∃z,lq ls k=z:=⟨_,rfl⟩
     rw [hz] at hcell
     unfold u8v at hcell
     have Hz:=Lib.hid hz
     have k0:(0:Int)≤(k:Int):=by omega
     have k1:(k:Int)<(ls.length:Int):=by omega
     clear hrow hz
     by_cases hzn:z=n+1
     ·subst hzn
      rw [show ((n+1:Nat):Int)=(n:Int)+1 by omega] at hcell
      have ht:=zfL y (n+1) wr (by omega) (by omega)
      rw [show ((n+1:Nat):Int)=(n:Int)+1 by omega] at ht
      have hhand:=Hh.out n k wr hlt hkl Hz.out HK.out
      rw [←Hy.out,show ((n+1:Nat):Int)=(n:Int)+1 by omega] at hhand
      have Ht:=Lib.hid ht
      have Hhand:=Lib.hid hhand
      have Hy1:Hid (y+1=nx (lq ls) ls.length n (k+1)):=Lib.hid (by
       unfold nx
       rw [zbq,if_pos Hz.out,Hy.out]
       unfold nx;omega)
      clear ht hhand
      go_wp2_with fail
      refine Calls.mono Ht.out ?_
      rintro e w1 ⟨rfl,rfl⟩
      go_wp2_with fail
      refine Calls.mono Hhand.out ?_
      rintro e w2 ⟨rfl,hj⟩
      have HJ2:=Lib.hid hj
      clear hj
      go_wp2
      go_roundw
      case rel=>exact ⟨k+1,y+1,by go_num,by go_num,by omega,by omega,Hy1,HJ2⟩
      case measure=>simp [intOf];omega
     ·have ez:((z:Int)==(n:Int)+1)=false:=by simp;omega
      have Hy1:Hid (y=nx (lq ls) ls.length n (k+1)):=Lib.hid (by
       unfold nx
       rw [zbq,if_neg (by rw [Hz.out];exact hzn),Hy.out]
       unfold nx;omega)
      have HJ2:=Lib.hid (Hs.out n k wr hkl (by rw [Hz.out];exact hzn) HK.out)
      go_wp2
      go_roundw
      case rel=>exact ⟨k+1,y,rfl,by go_num,by omega,by omega,Hy1,HJ2⟩
      case measure=>simp [intOf];omega
    ·obtain rfl:k=ls.length:=by omega
     have HJ2:=Lib.hid (Hnx.out n wr HK.out)
     have Hy2:Hid (y=en (lq ls) ls.length (n+1)):=Lib.hid (by rw [Hy.out];rfl)
     have hyb:y≤10485760:=by rw [Hy2.out];exact ziP (lq ls) hN (by omega)
     go_wp2
     go_roundw
     case rel=>exact ⟨n+1,y,rfl,by go_num,by omega,hyb,Hy2,HJ2⟩
     case measure=>simp [intOf];omega
  ·obtain rfl:n=15:=by omega
   go_wp2
   go_end0
   exact ⟨rfl,HJ.out⟩
set_option maxRecDepth 20000 in
set_option maxHeartbeats 2000000 in
theorem zmi (ls:List Nat) (v:Value) (B:Nat) (J:Nat→Nat→World→Prop) (w:World) (hN:ls.length≤320) (hv:∀n k w,J n k w→Row enc8 1 w v ls)
  (hh:∀n k w,n<15→k<ls.length→lq ls k=n+1→J n k w→Calls Tryz.prog 222 #[.int .i64 (k:Int),.agg #[.int .u16 ((trn (n+1) 0 (nx (lq ls) ls.length n k):Nat):Int),.int .u16 ((n+1:Nat):Int)],.pointer (some ⟨B,0,none⟩)] w fun e w'=>e= .returned (.tuple #[])∧J n (k+1) w')
  (hs:∀n k w,k<ls.length→lq ls k≠n+1→J n k w→J n (k+1) w) (hn:∀n w,J n ls.length w→J (n+1) 0 w) (h0:J 0 0 w):
  Calls Tryz.prog 208 #[v,.func (.func 222) #[] #[.pointer (some ⟨B,0,none⟩)]] w fun e w'=>e= .returned (.tuple #[])∧J 15 0 w':=by
 obtain ⟨p,c,rfl,-,-,-⟩:=hv 0 0 w h0
 have Hv:=Lib.hid hv
 have Hh:=Lib.hid hh
 have Hs:=Lib.hid hs
 have Hnx:=Lib.hid hn
 have H0:=Lib.hid h0
 clear hv hh hs hn h0
 go_enter Tryz.func208,Tryz.ntmps208
 go_wp2
 go_loopw [4,5] (fun xv nv wr=> ∃(n x:Nat),xv= .int .u32 (x:Int)∧nv= .int .u8 ((n:Int)+1)∧n≤15∧x≤10485760∧Hid (x=en (lq ls) ls.length n)∧Hid (J n 0 wr)) (fun _ nv _=>16 - (intOf nv).toNat)
 case atStart=>exact ⟨0,0,rfl,rfl,by omega,by omega,Lib.hid rfl,H0⟩
 case round=>
  obtain ⟨n,x,rfl,rfl,hn,hx,Hx,HJ⟩:=hrel
  by_cases hlt:n<15
  ·have d0:(n:Int)+1≤15:=by omega
   go_wp2
   go_loopw [4,16] (fun yv kv ws=> ∃(k y:Nat),yv= .int .u32 (y:Int)∧kv= .int .i64 (k:Int)∧k≤ls.length∧y≤2*x+k∧Hid (y=nx (lq ls) ls.length n k)∧Hid (J n k ws)) (fun _ kv _=>ls.length - (intOf kv).toNat)
   case atStart=>exact ⟨0,x*2,by go_num,rfl,Nat.zero_le _,by omega,Lib.hid (by rw [Hx.out];unfold nx;simp [cn,sm]),HJ⟩
   case round=>
    obtain ⟨k,y,rfl,rfl,hk,hy,Hy,HK⟩:=hrel
    by_cases hkl:k<ls.length
    ·obtain ⟨p',c',e',_,_,hrow⟩:=Hv.out n k wr HK.out
     cases e'
     obtain ⟨g,off,rfl,hcell⟩:=hrow.byte hkl
     obtain ⟨z,hz⟩:∃z,lq ls k=z:=⟨_,rfl⟩
     rw [hz] at hcell
     unfold u8v at hcell
     have Hz:=Lib.hid hz
     have k0:(0:Int)≤(k:Int):=by omega
     have k1:(k:Int)<(ls.length:Int):=by omega
     clear hrow hz
     by_cases hzn:z=n+1
     ·subst hzn
      rw [show ((n+1:Nat):Int)=(n:Int)+1 by omega] at hcell
      have ht:=zfL y (n+1) wr (by omega) (by omega)
      rw [show ((n+1:Nat):Int)=(n:Int)+1 by omega] at ht
      have hhand:=Hh.out n k wr hlt hkl Hz.out HK.out
      rw [←Hy.out,show ((n+1:Nat):Int)=(n:Int)+1 by omega] at hhand
      have Ht:=Lib.hid ht
      have Hhand:=Lib.hid hhand
      have Hy1:Hid (y+1=nx (lq ls) ls.length n (k+1)):=Lib.hid (by
       unfold nx
       rw [zbq,if_pos Hz.out,Hy.out]
       unfold nx;omega)
      clear ht hhand
      go_wp2_with fail
      refine Calls.mono Ht.out ?_
      rintro e w1 ⟨rfl,rfl⟩
      go_wp2_with fail
      refine Calls.mono Hhand.out ?_
      rintro e w2 ⟨rfl,hj⟩
      have HJ2:=Lib.hid hj
      clear hj
      go_wp2
      go_roundw
      case rel=>exact ⟨k+1,y+1,by go_num,by go_num,by omega,by omega,Hy1,HJ2⟩
      case measure=>simp [intOf];omega
     ·have ez:((z:Int)==(n:Int)+1)=false:=by simp;omega
      have Hy1:Hid (y=nx (lq ls) ls.length n (k+1)):=Lib.hid (by
       unfold nx
       rw [zbq,if_neg (by rw [Hz.out];exact hzn),Hy.out]
       unfold nx;omega)
      have HJ2:=Lib.hid (Hs.out n k wr hkl (by rw [Hz.out];exact hzn) HK.out)
      go_wp2
      go_roundw
      case rel=>exact ⟨k+1,y,rfl,by go_num,by omega,by omega,Hy1,HJ2⟩
      case measure=>simp [intOf];omega
    ·obtain rfl:k=ls.length:=by omega
     have HJ2:=Lib.hid (Hnx.out n wr HK.out)
     have Hy2:Hid (y=en (lq ls) ls.length (n+1)):=Lib.hid (by rw [Hy.out];rfl)
     have hyb:y≤10485760:=by rw [Hy2.out];exact ziP (lq ls) hN (by omega)
     go_wp2
     go_roundw
     case rel=>exact ⟨n+1,y,rfl,by go_num,by omega,hyb,Hy2,HJ2⟩
     case measure=>simp [intOf];omega
  ·obtain rfl:n=15:=by omega
   go_wp2
   go_end0
   exact ⟨rfl,HJ.out⟩
end
section
open Go.RowKit
def u16v (b:Nat):Value:= .int .u16 (b:Int)
theorem zo2:(Tryz.prog.info? 97).map (fun i=>(i.zero,i.size,i.bytes))=some (some (.int .u16 0),1,2):=by kernel_rfl
def cRow (f:Nat→Nat) (n:Nat):List Value:=(List.range n).map fun i=>u16v (f i)
theorem zdo (f:Nat→Nat) (n:Nat):(cRow f n).length=n:=by simp [cRow]
theorem zeo (f:Nat→Nat) {n s:Nat} (h:s<n):(cRow f n)[s]? =some (u16v (f s)):=by
 unfold cRow
 rw [List.getElem?_map,List.getElem?_eq_getElem (by simpa using h)]
 simp
theorem zb3 {f g:Nat→Nat} {n:Nat} (h:∀i,i<n→f i=g i):cRow f n=cRow g n:=by
 unfold cRow
 refine List.map_congr_left fun i hi=>?_
 rw [h i (List.mem_range.1 hi)]
theorem znH (f:Nat→Nat) {n s:Nat} (x:Nat):(cRow f n).set s (u16v x)=cRow (fun i=>if i=s then x else f i) n:=by
 refine List.ext_getElem? (fun k=>?_)
 rw [List.getElem?_set,zdo]
 by_cases hk:k<n
 ·rw [zeo (fun i=>if i=s then x else f i) hk,zeo f hk]
  by_cases h:s=k
  ·subst h;simp [hk]
  ·simp [h,Ne.symm h]
 ·rw [List.getElem?_eq_none (by rw [zdo];omega),List.getElem?_eq_none (by rw [zdo];omega)]
  by_cases h:s=k
  ·subst h;simp [hk]
  ·simp [h]
theorem znP (n:Nat):madeCells #[Value.int .u16 0] n=(cRow (fun _=>0) n).toArray:=by
 refine Array.ext (by simp [cRow,size_madeCells]) (fun i h1 h2=>?_)
 simp [madeCells,cRow,Nat.mod_one,u16v]
theorem zop (n:Nat) (hn:n≤1048576) (w:World):(Instr.makeSlice 204 (.int .i64 (n:Int)) (.int .i64 (n:Int))).run Tryz.prog w= .ok (.slice (some ⟨w.heap.size,0,none⟩) n n) (w.alloc (.cells (cRow (fun _=>0) n).toArray 97)):=by
 obtain ⟨i,hi,hz,hs,hb⟩:=info_parts zo2
 have h:=run_make (P:=Tryz.prog) w 204 97 i _ Tryz.underlying204 hi hz .i64 .i64 (n:Int) (n:Int) (by omega) (Int.le_refl _) (by rw [hb];omega) (by omega)
 rw [h]
 simp only [Int.toNat_natCast,hs,Nat.mul_one]
 rw [show (Value.int IntKind.u16 0).cells=#[Value.int .u16 0] from rfl,znP]
def cd (f:Nat→Nat) (N i:Nat):Nat:=trn (f i) 0 (nx f N (f i - 1) i)
def told (f:Nat→Nat) (N n k i:Nat):Nat:=if 0<f i∧(f i≤n∨(f i=n+1∧i<k)) then cd f N i else 0
theorem zl5 (f:Nat→Nat) (N n i:Nat) (hi:i<N):told f N n N i=told f N (n+1) 0 i:=by
 unfold told
 by_cases h:0<f i∧(f i≤n∨(f i=n+1∧i<N))
 ·rw [if_pos h,if_pos ⟨h.1,.inl (by omega)⟩]
 ·rw [if_neg h,if_neg (fun h'=>h ⟨h'.1,by omega⟩)]
theorem zlO (f:Nat→Nat) (N n k i:Nat) (h:f k≠n+1):told f N n k i=told f N n (k+1) i:=by
 unfold told
 by_cases h1:0<f i∧(f i≤n∨(f i=n+1∧i<k))
 ·rw [if_pos h1,if_pos ⟨h1.1,by omega⟩]
 ·rw [if_neg h1,if_neg (fun h'=>h1 ⟨h'.1,by
   rcases h'.2 with h2 | ⟨h2,h3⟩
   ·exact .inl h2
   ·refine .inr ⟨h2,?_⟩
    rcases Nat.lt_or_ge i k with h4 | h4
    ·exact h4
    ·obtain rfl:i=k:=by omega
     exact absurd h2 h⟩)]
theorem zmk (f:Nat→Nat) (N n k i:Nat) (h:f k=n+1):(if i=k then trn (n+1) 0 (nx f N n k) else told f N n k i)=told f N n (k+1) i:=by
 unfold told
 by_cases e:i=k
 ·subst e
  rw [if_pos rfl,if_pos ⟨by omega,.inr ⟨h,by omega⟩⟩]
  unfold cd
  rw [h,Nat.add_sub_cancel]
 ·rw [if_neg e]
  by_cases h1:0<f i∧(f i≤n∨(f i=n+1∧i<k))
  ·rw [if_pos h1,if_pos ⟨h1.1,by omega⟩]
  ·rw [if_neg h1,if_neg (fun h'=>h1 ⟨h'.1,by omega⟩)]
theorem znM (f:Nat→Nat) (N i:Nat) (h:f i≤15):told f N 15 0 i=if 0<f i then cd f N i else 0:=by
 unfold told
 by_cases h0:0<f i
 ·rw [if_pos ⟨h0,.inl h⟩,if_pos h0]
 ·rw [if_neg (fun h'=>h0 h'.1),if_neg h0]
structure CJ (w0:World) (v:Value) (ls:List Nat) (B g:Nat) (n k:Nat) (w:World):Prop where
 box:w.heap[B]? =some (.cells #[.slice (some ⟨g,0,none⟩) ls.length ls.length] 204)
 row:w.ownsRow w0.heap.size 97 1 (.slice (some ⟨g,0,none⟩) ls.length ls.length) ls.length (cRow (told (lq ls) ls.length n k) ls.length)
 lens:Row enc8 1 w v ls
 below:Below w0.heap.size w0 w
 ne:g≠B
 lt:w0.heap.size≤B
set_option maxHeartbeats 1000000 in
theorem zkL (w0:World) (v:Value) (ls:List Nat) (B g n k:Nat) (w:World) (hv0:∀b,v.ownBlock=some b→b<w0.heap.size) (hk:k<ls.length) (hl:lq ls k=n+1) (h:CJ w0 v ls B g n k w):
  Calls Tryz.prog 209 #[.int .i64 (k:Int),.agg #[.int .u16 ((trn (n+1) 0 (nx (lq ls) ls.length n k):Nat):Int),.int .u16 ((n+1:Nat):Int)],.pointer (some ⟨B,0,none⟩)] w fun e w'=>e= .returned (.tuple #[])∧CJ w0 v ls B g n (k+1) w':=by
 obtain ⟨x,hx⟩:∃x,trn (n+1) 0 (nx (lq ls) ls.length n k)=x:=⟨_,rfl⟩
 rw [hx]
 obtain ⟨z,hz⟩:∃z:Int,((n+1:Nat):Int)=z:=⟨_,rfl⟩
 rw [hz]
 obtain ⟨W,hW⟩:∃W,w.alloc (.cells #[.int .u16 (x:Int),.int .u16 z] 277)=W:=⟨_,rfl⟩
 have hbw:Below w.heap.size w W:=by rw [←hW];exact Below.al1 w _
 have hbox:W.heap[B]? =some (.cells #[.slice (some ⟨g,0,none⟩) ls.length ls.length] 204):=(hbw.block B (zab h.box)).trans h.box
 have hrow:=(Turns.of_below' (T:=fun _=>False) hbw).owns h.row (fun _ _ h=>h)
 have c0:W.cell? ⟨B,0,none⟩=some (.slice (some ⟨g,0,none⟩) ls.length ls.length):=zaa hbox rfl
 have c1:W.cell? ⟨w.heap.size,0,none⟩=some (.int .u16 (x:Int)):=by rw [←hW];exact zdf rfl rfl
 have c2:W.cell? ⟨g,k,none⟩=some (u16v (told (lq ls) ls.length n k k)):=by rw [hrow.cellAt k (by omega),zeo _ hk]
 have f2:W.frozen? ⟨g,k,none⟩=false:=hrow.frozenAt k
 obtain ⟨y,hy⟩:∃y,told (lq ls) ls.length n k k=y:=⟨_,rfl⟩
 rw [hy] at c2
 unfold u16v at c2
 have HJ:Hid (CJ w0 v ls B g n (k+1) (W.setCell ⟨g,k,none⟩ (.int .u16 (x:Int)))):=Lib.hid (by
  have ht:Turns (fun i=>i=g) W (W.setCell ⟨g,k,none⟩ (.int .u16 (x:Int))):=(Turns.refl _ W).set (T:=fun i=>i=g) (p:=⟨g,k,none⟩) rfl _
  have hgw:=(h.row.lt g rfl).1
  refine ⟨(ht.block B (zab hbox) (fun e=>h.ne e.symm)).trans hbox,?_,?_,?_,h.ne,h.lt⟩
  ·have h5:=(hrow.stored k (u16v x)).1
   rw [znH] at h5
   rw [zb3 (fun i _=>(zmk (lq ls) ls.length n k i hl).symm)]
   rw [hx];exact h5
  ·exact (h.lens.below hbw).turns ht (fun b hb e=>by have:=hv0 b hb;omega)
  ·exact (Below.thn h.below hbw).trans (ht.below (by have:=h.below.size;have:=hbw.size;omega) (fun i e=>by omega)))
 have k0:(0:Int)≤(k:Int):=by omega
 have k1:(k:Int)<(ls.length:Int):=by omega
 clear hx hbox hrow hy hbw h hz
 subst hW
 go_enter Tryz.func209,Tryz.ntmps209
 go_wp2
 go_end0
 exact ⟨rfl,HJ.out⟩
theorem za6 {ls:List Nat} (h:chk ls=0):ls.length≤320∧(∀i,i<ls.length→lq ls i≤15)∧(many ls.length (lq ls)=0∨room ls.length 15 (lq ls)=32768∨(many ls.length (lq ls)=1∧room ls.length 15 (lq ls)=16384)):=by
 have h1:ls.length≤320:=by
  rcases Nat.lt_or_ge 320 ls.length with h1 | h1
  ·rw [zhQ h1] at h;cases h
  ·exact h1
 have h2:∀i,i<ls.length→lq ls i≤15:=fun i hi=>by
  rcases Nat.lt_or_ge 15 (lq ls i) with h2 | h2
  ·rw [ziB hi h2] at h;cases h
  ·exact h2
 refine ⟨h1,h2,?_⟩
 rw [zdE h1 h2] at h
 split at h
 ·assumption
 ·cases h
set_option maxHeartbeats 1000000 in
theorem zoX (ls:List Nat) (v:Value) (w:World) (hv:Row enc8 1 w v ls) (hc:chk ls=0):
  Calls Tryz.prog 191 #[v] w fun e w'=> ∃v',e= .returned (.tuple #[v',.int .i64 0])∧w'.ownsRow w.heap.size 97 1 v' ls.length (cRow (fun i=>if 0<lq ls i then cd (lq ls) ls.length i else 0) ls.length)∧Below w.heap.size w w':=by
 obtain ⟨h1,h2,-⟩:=za6 hc
 have hvb:∀k,v.ownBlock=some k→k<w.heap.size:=fun k hk=>by
  obtain ⟨p,c,rfl,_,_,h⟩:=hv
  rcases h with ⟨rfl,-⟩ | ⟨bb,off,rfl,hbb,-⟩
  ·cases hk
  ·cases hk;exact hbb
 have Hv:=Lib.hid hv
 have Hc:=Lib.hid hc
 have H2:=Lib.hid h2
 have Hvb:=Lib.hid hvb
 obtain ⟨p,c,rfl,-,-,-⟩:=hv
 have hmk:=zop ls.length (by omega)
 have hz:∀i,told (lq ls) ls.length 0 0 i=0:=fun i=>by unfold told;rw [if_neg];omega
 have Hst:Hid (CJ w (.slice p ls.length c) ls (w.heap.size+1) w.heap.size 0 0 ((w.alloc (.cells (cRow (fun _=>0) ls.length).toArray 97)).alloc (.cells #[.slice (some ⟨w.heap.size,0,none⟩) ls.length ls.length] 204))):=Lib.hid (by
  have hb2:=Below.al2 w (.cells (cRow (fun _=>0) ls.length).toArray 97) (.cells #[.slice (some ⟨w.heap.size,0,none⟩) ls.length ls.length] 204)
  refine ⟨?_,?_,Hv.out.below hb2,hb2,by omega,by omega⟩
  ·exact (zag [.cells (cRow (fun _=>0) ls.length).toArray 97,.cells #[.slice (some ⟨w.heap.size,0,none⟩) ls.length ls.length] 204] w 1 _).2 rfl
  ·rw [zb3 (fun i _=>hz i)]
   have:=World.ownsRow_lit (base:=w.heap.size) (size:=1) (e:=97) w (cRow (fun _=>0) ls.length).toArray ls.length (Nat.le_refl _) (by simp only [maxLen];omega) (by simp [zdo])
   exact this.alloc _)
 clear hc h2 hvb hz
 go_enter Tryz.func191,Tryz.ntmps191
 go_wp2_with fail
 refine Calls.mono (zdX ls _ w Hv.out) ?_
 rintro e w1 ⟨rfl,rfl⟩
 rw [Hc.out]
 go_wp2_with fail
 refine Calls.mono (zmJ ls _ (w1.heap.size+1) (fun n k w'=>CJ w1 (.slice p ls.length c) ls (w1.heap.size+1) w1.heap.size n k w') _ h1 (fun n k w' h=>h.lens) (fun n k w' _ hk hl h=>zkL w1 _ ls _ _ n k w' Hvb.out hk hl h)
  (fun n k w' hk hl h=>⟨h.box,by rw [zb3 (fun i _=>(zlO (lq ls) ls.length n k i hl).symm)];exact h.row,h.lens,h.below,h.ne,h.lt⟩)
  (fun n w' h=>⟨h.box,by rw [zb3 (fun i hi=>(zl5 (lq ls) ls.length n i hi).symm)];exact h.row,h.lens,h.below,h.ne,h.lt⟩) Hst.out) ?_
 rintro e w2 ⟨rfl,hj⟩
 have HJ:=Lib.hid hj
 have c0:w2.cell? ⟨w1.heap.size+1,0,none⟩=some (.slice (some ⟨w1.heap.size,0,none⟩) ls.length ls.length):=zaa hj.box rfl
 clear hj
 go_wp2
 go_ret2
 refine ⟨_,rfl,?_,HJ.out.below⟩
 rw [zb3 (fun i hi=>(znM (lq ls) ls.length i (H2.out i hi)).symm)]
 exact HJ.out.row
end
section
open Go.RowKit
theorem ziX {w:World} {base:Nat} {e:TypeId} {v:Value} {n:Nat} {xs:List Value} (h:w.ownsRow base e 1 v n xs) (hn:0<n):∃g c,v= .slice (some ⟨g,0,none⟩) n c∧base≤g∧g<w.heap.size∧∀i u,xs[i]? =some u→w.cell? ⟨g,i,none⟩=some u:=by
 have hl:=h.1
 rcases h.2 with ⟨-,h0⟩ | ⟨g,cap,cur,rfl,hg,hh,-⟩
 ·omega
 ·refine ⟨g,cap,rfl,hg,zab hh,fun i u hi=>?_⟩
  have:=(List.getElem?_eq_some_iff.1 hi).1
  rw [h.cellAt i (by omega)];exact hi
end
section
open Go.RowKit
theorem cell_later {w w':World} (hb:Below w.heap.size w w') {a:Addr} {v:Value} (h:w.cell? a=some v):w'.cell? a=some v:=
 (hb.cell (World.block_lt_of_cell? _ _ h)).trans h
theorem zq8 {w:World} {base:Nat} {e:TypeId} {v:Value} {n:Nat} {xs:List Value} (h:w.ownsRow base e 1 v n xs) {i:Nat} {u:Value} (hi:xs[i]? =some u):∃g c,v= .slice (some ⟨g,0,none⟩) n c∧base≤g∧g<w.heap.size∧w.cell? ⟨g,i,none⟩=some u∧w.frozen? ⟨g,i,none⟩=false:=by
 have hl:=h.1
 have hlt:=(List.getElem?_eq_some_iff.1 hi).1
 rcases h.2 with ⟨rfl,h0⟩ | ⟨g,cap,cur,rfl,hg,hh,-⟩
 ·omega
 ·exact ⟨g,cap,rfl,hg,zab hh,by rw [h.cellAt i (by omega)];exact hi,h.frozenAt i⟩
theorem zao {w:World} {B B':Nat} {e:TypeId} {size:Nat} {v:Value} {n:Nat} {xs:List Value} (h:w.ownsRow B e size v n xs) (hb:B'≤B):w.ownsRow B' e size v n xs:=
 ⟨h.1,h.2.imp id fun ⟨g,cap,cur,a,b,c⟩=>⟨g,cap,cur,a,Nat.le_trans hb b,c⟩⟩
end
section
def rlw (x:Nat):Nat:=x%16777216
theorem zcI (x:Nat):rlw x<16777216:=Nat.mod_lt _ (by decide)
def rgo:Nat→Nat→List Nat→List (Nat×Nat)
 | n,c,[]=>[(n,c)]
 | n,c,x::r=>if rlw x=c∧n<256 then rgo (n+1) c r else (n,c)::rgo 1 (rlw x) r
def rlO:List Nat→List (Nat×Nat)
 | []=>[]
 | x::r=>rgo 1 (rlw x) r
theorem zpn {n c:Nat} {r:List Nat} (h:n=256∨r=[]∨∃x r',r=x::r'∧rlw x≠c):rgo n c r=(n,c)::rlO r:=by
 cases r with
 | nil=>rfl
 | cons x r'=>
  show (if rlw x=c∧n<256 then _ else _)=_
  rw [if_neg]
  ·rfl
  ·rintro ⟨h1,h2⟩
   rcases h with h | h | ⟨y,r'',e,h⟩
   ·omega
   ·cases h
   ·cases e;exact h h1
theorem zn0 {n c x:Nat} {r:List Nat} (h:rlw x=c) (hn:n<256):rgo n c (x::r)=rgo (n+1) c r:=if_pos ⟨h,hn⟩
theorem zkb {c:Nat}:∀(j n:Nat) (r:List Nat),n+j≤256→j≤r.length→(∀i,i<j→rlw (r.getD i 0)=c)→(n+j=256∨j=r.length∨rlw (r.getD j 0)≠c)→rgo n c r=(n+j,c)::rlO (r.drop j)
 | 0,n,r,_,_,_,h=>by
  rw [List.drop_zero]
  refine zpn ?_
  rcases h with h | h | h
  ·exact .inl h
  ·exact .inr (.inl (List.length_eq_zero_iff.1 h.symm))
  ·cases r with
   | nil=>exact .inr (.inl rfl)
   | cons x r=>exact .inr (.inr ⟨x,r,rfl,h⟩)
 | j+1,n,[],_,hl,_,_=>by simp at hl
 | j+1,n,x::r,hn,hl,ha,h=>by
  have h0:rlw x=c:=ha 0 (by omega)
  rw [zn0 h0 (by omega),zkb j (n+1) r (by omega) (by simpa using hl) (fun i hi=>ha (i+1) (by omega)) (by
   rcases h with h | h | h
   ·exact .inl (by omega)
   ·exact .inr (.inl (by simpa using h))
   ·exact .inr (.inr h)),List.drop_succ_cons]
  congr 2
  omega
theorem zrz {l:List Nat} {k:Nat} (hk:1≤k) (h256:k≤256) (hl:k≤l.length) (ha:∀i,i<k→rlw (l.getD i 0)=rlw (l.getD 0 0)) (h:k=256∨k=l.length∨rlw (l.getD k 0)≠rlw (l.getD 0 0)):rlO l=(k,rlw (l.getD 0 0))::rlO (l.drop k):=by
 cases l with
 | nil=>simp at hl;omega
 | cons x r=>
  obtain ⟨j,rfl⟩:∃j,k=j+1:=⟨k - 1,by omega⟩
  show rgo 1 (rlw x) r=_
  rw [zkb (c:=rlw x) j 1 r (by omega) (by simpa using hl) (fun i hi=>ha (i+1) (by omega)) (by
   rcases h with h | h | h
   ·exact .inl (by omega)
   ·exact .inr (.inl (by simpa using h))
   ·exact .inr (.inr h)),Nat.add_comm 1 j]
  rfl
def rlay (rs:List (Nat×Nat)):List Nat:=rs.flatMap fun r=>List.replicate r.1 r.2
theorem zdZ (r:Nat×Nat) (rs:List (Nat×Nat)):rlay (r::rs)=List.replicate r.1 r.2++rlay rs:=rfl
theorem zhY (a b:List (Nat×Nat)):rlay (a++b)=rlay a++rlay b:=List.flatMap_append
theorem zfq:∀(r:List Nat) (n c:Nat),rlay (rgo n c r)=List.replicate n c++r.map rlw
 | [],n,c=>by show List.replicate n c++[]=_;rfl
 | x::r,n,c=>by
  unfold rgo
  split
  ·rename_i h
   rw [zfq r,List.replicate_succ',List.append_assoc,List.map_cons,h.1]
   rfl
  ·rw [zdZ,zfq r]
   rfl
def RlOk (r:Nat×Nat):Prop:=1≤r.1∧r.1≤256∧r.2<16777216
theorem zh2:∀(r:List Nat) (n c:Nat),1≤n→n≤256→c<16777216→∀x∈rgo n c r,RlOk x
 | [],n,c,h1,h2,h3,x,hx=>by
  simp [rgo] at hx;subst hx;exact ⟨h1,h2,h3⟩
 | y::r,n,c,h1,h2,h3,x,hx=>by
  unfold rgo at hx
  split at hx
  ·rename_i h
   exact zh2 r (n+1) c (by omega) (by omega) h3 x hx
  ·rcases List.mem_cons.1 hx with rfl | hx
   ·exact ⟨h1,h2,h3⟩
   ·exact zh2 r 1 (rlw y) (by omega) (by omega) (zcI y) x hx
theorem zkI (l:List Nat):∀x∈rlO l,RlOk x:=by
 cases l with
 | nil=>intro x hx;cases hx
 | cons y r=>exact zh2 r 1 (rlw y) (by omega) (by omega) (zcI y)
theorem zgd:∀(r:List Nat) (n c:Nat),(rgo n c r).length≤r.length+1
 | [],n,c=>by simp [rgo]
 | x::r,n,c=>by
  unfold rgo
  split
  ·have:=zgd r (n+1) c;simp;omega
  ·have:=zgd r 1 (rlw x);simp;omega
theorem zmy (l:List Nat):(rlO l).length≤l.length:=by
 cases l with
 | nil=>simp [rlO]
 | cons x r=>exact zgd r 1 (rlw x)
def rlB (r:Nat×Nat):List Nat:=[r.1 - 1,r.2/65536,r.2/256%256,r.2%256]
def rlBs (rs:List (Nat×Nat)):List Nat:=rs.flatMap rlB
theorem zdA:∀rs:List (Nat×Nat),(rlBs rs).length=4*rs.length
 | []=>rfl
 | r::rs=>by show (rlB r++rlBs rs).length=_;rw [List.length_append,zdA rs];simp [rlB];omega
def rlT:List Nat→List (Nat×Nat)
 | a::b::c::d::r=>(a+1,b*65536+c*256+d)::rlT r
 | _=>[]
theorem ziy:∀b:List Nat,(∀x∈b,x<256)→∀r∈rlT b,RlOk r
 | [],_,r,hr=>by simp [rlT] at hr
 | [_],_,r,hr=>by simp [rlT] at hr
 | [_,_],_,r,hr=>by simp [rlT] at hr
 | [_,_,_],_,r,hr=>by simp [rlT] at hr
 | x::y::z::u::t,h,r,hr=>by
  rcases List.mem_cons.1 (show r∈(x+1,y*65536+z*256+u)::rlT t from hr) with rfl | hr
  ·have h1:=h x (by simp);have h2:=h y (by simp);have h3:=h z (by simp);have h4:=h u (by simp)
   exact ⟨by show 1≤x+1;omega,by show x+1≤256;omega,by show y*65536+z*256+u<_;omega⟩
  ·exact ziy t (fun q hq=>h q (by simp [hq])) r hr
def rlD (b:List Nat) (n:Int):List Nat×Int:=
 if n<0∨65536<n then ([],1) else if b.length%4≠0 then ([],131) else if ((rlay (rlT b)).length:Int)=n then (rlay (rlT b),0) else ([],131)
theorem zgr {b:List Nat} {n:Int} (h:n<0∨65536<n):rlD b n=([],1):=if_pos h
theorem zjK {b:List Nat} {n:Int} (h:¬(n<0∨65536<n)) (h4:b.length%4≠0):rlD b n=([],131):=by unfold rlD;rw [if_neg h,if_pos h4]
theorem zh8 {b:List Nat} {n:Int} (h:¬(n<0∨65536<n)) (hl:((rlay (rlT b)).length:Int)≠n):rlD b n=([],131):=by
 unfold rlD;rw [if_neg h,if_neg hl];split<;>rfl
theorem zgj {b:List Nat} {n:Int} (h:¬(n<0∨65536<n)) (h4:b.length%4=0) (hl:((rlay (rlT b)).length:Int)=n):rlD b n=(rlay (rlT b),0):=by
 unfold rlD;rw [if_neg h,if_neg (by omega),if_pos hl]
end
section
open Go.RowKit
attribute [local go_sem] Oper.semAt_some
def pxv (x:Nat):Value:= .int .u32 (x:Int)
def encP (x:Nat):List Value:=[pxv x]
theorem ziT (x:Nat):(encP x).length=1:=rfl
theorem zlr:∀l:List Nat,l.flatMap encP=l.map pxv
 | []=>rfl
 | b::r=>by rw [List.flatMap_cons,zlr r];rfl
theorem zbg:(Tryz.prog.info? 51).map (fun i=>(i.zero,i.size,i.bytes))=some (some (.int .u32 0),1,4):=by kernel_rfl
abbrev RwP (w:World) (v:Value) (l:List Nat):Prop:=RwG encP 1 w v l
theorem RwP.own {w:World} {base:Nat} {v:Value} {l:List Nat} {n:Nat} (h:w.ownsRow base 51 1 v n (l.map pxv)) (hn:n=l.length):RwP w v l:=by
 subst hn
 rw [←zlr] at h
 exact RwG.owned ziT h
theorem Row.ownP {w:World} {base:Nat} {v:Value} {l:List Nat} (h:w.ownsRow base 51 1 v l.length (l.map pxv)):Row encP 1 w v l:=(RwP.own h rfl).row
theorem Row.own8' {w:World} {base:Nat} {v:Value} {l:List Nat} (h:w.ownsRow base 5 1 v l.length (l.map u8v)):Row enc8 1 w v l:=(Rw8.own h rfl).row
theorem RowAt.px {W:World} {p:Option Addr} {xs:List Nat} (h:RowAt encP 1 W p xs) {k:Nat} (hk:k<xs.length):∃b off,p=some ⟨b,off,none⟩∧W.cell? ⟨b,off+k,none⟩=some (.int .u32 (xs.getD k 0:Int)):=by
 rcases h with ⟨-,rfl⟩ | ⟨b,off,rfl,-,h⟩
 ·simp at hk
 ·refine ⟨b,off,rfl,?_⟩
  have:=h k xs[k] (List.getElem?_eq_getElem hk) 0 _ rfl
  rw [Nat.mul_one,Nat.add_zero] at this
  rw [this,List.getD_eq_getElem?_getD,List.getElem?_eq_getElem hk]
  rfl
abbrev RnV (n c:Nat):Value:= .agg #[.int .i64 (n:Int),.int .u32 (c:Int)]
theorem zgc (x:Nat) (h:x<4294967296):bits .and .u32 (x:Int) 16777215=((rlw x:Nat):Int):=by
 have e:=bits_mask .u32 32 (by decide) (fun n h0 h1=>by rw [IntKind.wrap_u32];omega) 24 (by decide) (x:Int) (by omega) (by omega)
 have e2:bits .and .u32 (x:Int) 16777215=(x:Int)%16777216:=by simpa using e
 rw [e2]
 show (x:Int)%16777216=((x%16777216:Nat):Int)
 omega
def zc8 (f:FuncId) (args:Array Value) (w:World) (v:Value):Prop:=
 Calls Tryz.prog f args w fun e w'=>e= .returned v∧w'=w
theorem zin (x:Nat) (w:World) (h:x<4294967296):zc8 151 #[.int .u32 (x:Int)] w (.int .u32 ((rlw x:Nat):Int)):=by
 unfold zc8
 have e:=zgc x h
 go_enter Tryz.func151,Tryz.ntmps151
 go_wp2
 go_ret
 exact ⟨by first | rfl | rw [e] | simp [e],rfl⟩
set_option maxRecDepth 20000 in
set_option maxHeartbeats 4000000 in
theorem zmv (n c:Nat) (hok:RlOk (n,c)) (base:Nat) (vb:Value) (o:List Nat) (w:World) (hown:w.ownsRow base 5 1 vb o.length (o.map u8v)) (hlen:o.length≤8388608) (hbase:base≤w.heap.size):
  Calls Tryz.prog 114 #[RnV n c,vb] w fun e w'=> ∃v',e= .returned v'∧w'.ownsRow base 5 1 v' (o++rlB (n,c)).length ((o++rlB (n,c)).map u8v)∧Turns (fun k=>vb.ownBlock=some k) w w'∧(∀k,v'.ownBlock=some k→vb.ownBlock=some k∨w.heap.size≤k):=by
 obtain ⟨h1,h2,h3⟩:=hok
 simp only at h1 h2 h3
 obtain ⟨pb,cb,rfl⟩:=zac hown
 have Hown:=Lib.hid hown
 obtain ⟨i0,hi0,hz0,hz1,hz2⟩:=info_parts zaw
 obtain ⟨a1,ha1⟩:∃a,n - 1=a:=⟨_,rfl⟩
 obtain ⟨a2,ha2⟩:∃a,c/65536=a:=⟨_,rfl⟩
 obtain ⟨a3,ha3⟩:∃a,c/256%256=a:=⟨_,rfl⟩
 obtain ⟨a4,ha4⟩:∃a,c%256=a:=⟨_,rfl⟩
 have e1:(n:Int) - 1=(a1:Int):=by omega
 have e2:(c:Int)/65536=(a2:Int):=by omega
 have b1:a1≤255:=by omega
 have b2:a2≤255:=by omega
 have e3:((c:Int)/256)%256=(a3:Int):=by omega
 have e4:(c:Int)%256=(a4:Int):=by omega
 have Hb:Hid (rlB (n,c)=[a1,a2,a3,a4]):=Lib.hid (by show [n - 1,c/65536,c/256%256,c%256]=_;rw [ha1,ha2,ha3,ha4])
 clear hown ha1 ha2 ha3 ha4
 go_enter Tryz.func114,Tryz.ntmps114
 go_wp2_with (at_builtin;refine zai _ rfl (.tmp 5) (.tmp 21) 28 rfl base 5 i0 _ 1 1 Tryz.underlying28 hi0 hz0 hz1 hz2 rfl (by decide) (.slice pb o.length cb) o.length (o.map u8v) rfl ((Hown.out.alloc _).alloc _) (some ⟨w.heap.size+1,0,none⟩) 4 4 [.int .u8 a1,.int .u8 a2,.int .u8 a3,.int .u8 a4] rfl rfl (.inr ⟨_,rfl,?c2⟩) ?c3 ?c4 ?c5 ?c6 ?_)
 case c2=>
  have:=zbm (w:=w.alloc (.cells #[.int .i64 (n:Int),.int .u32 (c:Int)] 136)) (c:=[.int .u8 (a1:Int),.int .u8 (a2:Int),.int .u8 (a3:Int),.int .u8 (a4:Int)]) (t:=5)
  rw [World.size_alloc] at this
  exact this
 case c3=>
  intro u hu
  simp only [List.mem_cons,List.not_mem_nil,or_false] at hu
  rcases hu with rfl | rfl | rfl | rfl<;>rfl
 case c4=>simp only [maxLen];omega
 case c5=>omega
 case c6=>simp only [World.size_alloc];omega
 intro v' w5 ho1 ht1 hg1
 have Ho1:Hid (w5.ownsRow base 5 1 v' (o++rlB (n,c)).length ((o++rlB (n,c)).map u8v)):=Lib.hid (by
  rw [Hb.out,List.length_append,List.map_append]
  exact ho1)
 have Ht1:Hid (Turns (fun k=>(Value.slice pb o.length cb).ownBlock=some k) w w5):=Lib.hid ((Turns.of_below' (Below.al2 w _ _)).trans (Turns.of_grown ht1 (fun _ h=>h)))
 have Hg1:Hid (∀k,v'.ownBlock=some k→(Value.slice pb o.length cb).ownBlock=some k∨w.heap.size≤k):=Lib.hid (fun k hk=>(hg1 k hk).elim Or.inl fun h=>Or.inr (Nat.le_trans (by first | omega | simp) h))
 clear ho1 ht1 hg1 e1 e2 e3 e4
 go_wp2
 go_ret
 exact ⟨_,rfl,Ho1.out,Ht1.out,Hg1.out⟩
end
section
open Go.RowKit
attribute [local go_sem] Oper.semAt_some
theorem RowAt.pxs {W:World} {p:Option Addr} {xs:List Nat} (h:RowAt encP 1 W p xs) (h0:0<xs.length):∃b off,p=some ⟨b,off,none⟩∧∀i,i<xs.length→W.cell? ⟨b,off+i,none⟩=some (.int .u32 (xs.getD i 0:Int)):=by
 obtain ⟨b,off,e,-⟩:=h.px h0
 refine ⟨b,off,e,fun i hi=>?_⟩
 obtain ⟨b',off',e',h'⟩:=h.px hi
 rw [e] at e';cases e'
 exact h'
theorem zoY {a b:List Nat} (h:a.length=b.length) (hx:∀i,i<a.length→a.getD i 0=b.getD i 0):a=b:=by
 refine List.ext_getElem h (fun i h1 h2=>?_)
 have:=hx i h1
 rwa [List.getD_eq_getElem?_getD,List.getD_eq_getElem?_getD,List.getElem?_eq_getElem h1,List.getElem?_eq_getElem h2] at this
set_option maxRecDepth 20000 in
set_option maxHeartbeats 4000000 in
theorem zmm (p q:Option Addr) (c d:Nat) (a b:List Nat) (w:World) (hp:RowAt encP 1 w p a) (hq:RowAt encP 1 w q b) (ha:a.length≤1048576) (hb:b.length≤1048576):
  Makes Tryz.prog 24 #[.slice p a.length c,.slice q b.length d] w (.bool (decide (a=b))):=by
 unfold Makes
 have Hp:=Lib.hid hp
 have Hq:=Lib.hid hq
 obtain ⟨n,hn⟩:∃n,a.length=n:=⟨_,rfl⟩
 obtain ⟨m,hm⟩:∃n,b.length=n:=⟨_,rfl⟩
 have Hn:=Lib.hid hn
 have Hm:=Lib.hid hm
 rw [hn] at ha ⊢
 rw [hm] at hb ⊢
 clear hp hq hn hm
 obtain ⟨r,hr⟩:∃r,decide (a=b)=r:=⟨_,rfl⟩
 have Hr:=Lib.hid hr
 rw [hr]
 clear hr
 go_enter Tryz.func24,Tryz.ntmps24
 by_cases hnm:n=m
 ·subst hnm
  have d0:((n:Int) !=(n:Int))=false:=by simp
  go_wp2_with fail
  go_loopw [5] (fun iv wr=> ∃i:Nat,iv= .int .i64 (i:Int)∧i≤n∧Hid (∀j,j<i→a.getD j 0=b.getD j 0)∧Hid (Below w.heap.size w wr)) (fun iv _=>n - (intOf iv).toNat)
  case atStart=>exact ⟨0,rfl,Nat.zero_le _,Lib.hid (fun j hj=>by omega),Lib.hid (Below.refl _ _)⟩
  case round=>
   obtain ⟨i,rfl,hi,HE,HB⟩:=hrel
   by_cases hin:i<n
   ·have d1:decide ((i:Int)<(n:Int))=true:=by simp;omega
    obtain ⟨g,off,rfl,hc⟩:=Hp.out.pxs (by rw [Hn.out];omega)
    obtain ⟨g2,off2,rfl,hc2⟩:=Hq.out.pxs (by rw [Hm.out];omega)
    have x0:=cell_later HB.out (hc i (by rw [Hn.out];omega))
    have x1:=cell_later HB.out (hc2 i (by rw [Hm.out];omega))
    obtain ⟨x,hx⟩:∃x,a.getD i 0=x:=⟨_,rfl⟩
    obtain ⟨y,hy⟩:∃x,b.getD i 0=x:=⟨_,rfl⟩
    rw [hx] at x0
    rw [hy] at x1
    have Hx:=Lib.hid hx
    have Hy:=Lib.hid hy
    have i0:(0:Int)≤(i:Int):=by omega
    have i1:(i:Int)<(n:Int):=by omega
    clear hc hc2 hx hy
    by_cases hxy:x=y
    ·have d2:((x:Int) !=(y:Int))=false:=by simp;omega
     go_upto_region 6 with (fail)
     go_quiet (fail)
     rename_i nq
     have HB2:=Lib.hid (Below.drewN' HB.out nq)
     generalize wr.drewN nq=W2 at *
     clear x0 x1
     go_wp2
     go_roundw
     case rel=>exact ⟨i+1,by go_num,by omega,Lib.hid (fun j hj=>by
      by_cases h:j<i
      ·exact HE.out j h
      ·rw [show j=i by omega,Hx.out,Hy.out,hxy]),HB2⟩
     case measure=>simp [intOf];omega
    ·have d2:((x:Int) !=(y:Int))=true:=by simp;omega
     obtain rfl:r=false:=by
      rw [←Hr.out,decide_eq_false_iff_not]
      rintro rfl
      exact hxy (Hx.out.symm.trans Hy.out)
     go_upto_region 6 with (fail)
     go_quiet (fail)
     rename_i nq
     have HB2:=Lib.hid (Below.drewN' HB.out nq)
     generalize wr.drewN nq=W2 at *
     clear x0 x1
     go_wp2
     go_ret
     exact ⟨rfl,HB2.out⟩
   ·obtain rfl:i=n:=by omega
    have d1:decide ((i:Int)<(i:Int))=false:=by simp
    obtain rfl:r=true:=by
     rw [←Hr.out,decide_eq_true_eq]
     exact zoY (by rw [Hn.out,Hm.out]) (fun j hj=>HE.out j (by rw [Hn.out] at hj;exact hj))
    go_wp2
    go_ret
    exact ⟨rfl,HB.out⟩
 ·have d0:((n:Int) !=(m:Int))=true:=by simp;omega
  obtain rfl:r=false:=by
   rw [←Hr.out,decide_eq_false_iff_not]
   rintro rfl
   exact hnm (Hn.out.symm.trans Hm.out)
  go_wp2
  go_ret
  exact ⟨rfl,Below.refl _ _⟩
end
end Go.Proofs.YtedakhgaghfogaaGreat
