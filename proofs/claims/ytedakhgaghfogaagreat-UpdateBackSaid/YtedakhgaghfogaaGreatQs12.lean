/- Several texts in one, each with its own head. -/
import Derived.Test.YtedakhgaghfogaaGreatQs11
namespace Go.Proofs.YtedakhgaghfogaaGreat
section
open Go.RowKit Go.Maps
theorem zov (x p f s:Nat) (hx:x<2^f) (hp:p<2^s) (hfit:f+s≤16):bits .or .u16 (x:Int) ((p:Int)*2^f)=((x+p*2^f:Nat):Int)∧p*2^f<65536:=by
 have h2:2^(f+s)≤2^16:=Nat.pow_le_pow_right (by decide) hfit
 have h3:(2:Nat)^16=65536:=rfl
 have hpos:0<2^f:=Nat.two_pow_pos f
 have hx2:x<65536:=by
  have:2^f≤2^(f+s):=Nat.pow_le_pow_right (by decide) (by omega)
  omega
 have hm:p*2^f<65536:=by
  have:(p+1)*2^f≤2^s*2^f:=Nat.mul_le_mul_right _ hp
  rw [←Nat.pow_add,Nat.add_mul,Nat.add_comm s f] at this
  omega
 have e:((p:Int)*2^f)=((p*2^f:Nat):Int):=by simp
 rw [e,(bits_nat .u16 16 (by decide) (fun m h0 h1=>by rw [IntKind.wrap_u16];omega) x (p*2^f) (by omega) (by omega)).2]
 refine ⟨?_,by omega⟩
 rw [Nat.or_comm,Nat.mul_comm p,←Nat.two_pow_add_eq_or_of_lt hx p]
 congr 1
 omega
theorem zio {fn:Func} {p:Tmp} {tmps:Array Value} {w:World} {B:Nat} {u v:Value} (h:fn.results=#[.cell p 277]) (hp:tmps.getD p undef= .pointer (some ⟨B,0,none⟩)) (c0:w.cell? ⟨B,0,none⟩=some u) (c1:w.cell? ⟨B,1,none⟩=some v):
  (results fn tmps).run Tryz.prog w= .ok (.agg #[u,v]) w:=by
 have hp':tmps[p]?.getD undef= .pointer (some ⟨B,0,none⟩):=by simpa using hp
 simp [results,h,hp',go_sem,c0,c1]
set_option maxHeartbeats 1000000 in
theorem zpT (b s x:Nat) (w:World) (hb:b<2^s) (hs:s≤14) (hx:x<2):
  Makes Tryz.prog 223 #[.agg #[.int .u16 (b:Int),.int .u16 (s:Int)],.int .u32 (x:Int)] w (.agg #[.int .u16 ((b+x*2^s:Nat):Int),.int .u16 ((s+1:Nat):Int)]):=by
 unfold Makes
 obtain ⟨ho,hm⟩:=zov b x s 1 hb (by omega) (by omega)
 obtain hc:((x:Int)*2^s)=((x*2^s:Nat):Int):=by simp
 have hw:IntKind.u16.wrap ((x:Int)*2^s)=(x:Int)*2^s:=by rw [hc,IntKind.wrap_u16];omega
 clear hc
 go_enter Tryz.func223,Tryz.ntmps223
 go_wp2
 have hp:=zag [.cells #[.int .u16 (b:Int),.int .u16 (s:Int)] 277,.cells #[.int .u16 ((b:Int)+(x:Int)*2^s),.int .u16 ((s:Int)+1)] 277] w
 exact bodyPost_ret (v:= .agg #[.int .u16 ((b:Int)+(x:Int)*2^s),.int .u16 ((s:Int)+1)]) (zio Tryz.results223 rfl (zaa ((hp 1 _).2 rfl) rfl) (zaa ((hp 1 _).2 rfl) rfl)) rfl ⟨by simp,Below.al2 _ _ _⟩
end
section
open Go.RowKit Go.Maps
def bt (l:List Nat) (a s:Nat):Nat:=numB l/2^a%2^s
theorem zp8 (l:List Nat) (a s:Nat):bt l a (s+1)=bt l a s+(numB l/2^(a+s)%2^1)*2^s:=by
 unfold bt
 rw [Nat.pow_succ,Nat.mod_mul,Nat.div_div_eq_div_mul,←Nat.pow_add,Nat.pow_one,Nat.mul_comm (2^s)]
theorem zpw (l:List Nat) (a s:Nat):bt l a s<2^s:=Nat.mod_lt _ (Nat.two_pow_pos s)
theorem zqf (l:List Nat) (a:Nat):bt l a 0=0:=by unfold bt;rw [Nat.pow_zero,Nat.mod_one]
structure RdAns (F:Nat×Nat→Option Nat) (L:Nat) (l:List Nat) (a:Nat) (x:Nat) (e:Int) (s:Nat):Prop where
 no:∀t,1≤t→t<s→F (bt l a t,t)=none
 le:s≤L∧a+s≤8*l.length
 ans:(e=0∧1≤s∧F (bt l a s,s)=some x)∨(e=60∧x=0∧s=L∧(1≤s→F (bt l a s,s)=none))∨(e=50∧x=0∧s<L∧a+s=8*l.length∧(1≤s→F (bt l a s,s)=none))
structure Tb (w:World) (T M n L:Nat) (F:Nat×Nat→Option Nat):Prop where
 tab:w.heap[T]? =some (.cells #[.map (some M),.int .u16 (L:Int)] 298)
 map:MapAt w M n F
theorem Tb.turns {w w':World} {T M n L:Nat} {F:Nat×Nat→Option Nat} (h:Tb w T M n L F) {N:Nat→Prop} (ht:Turns N w w') (hT:¬N T) (hM:¬N M):Tb w' T M n L F:=
 ⟨(ht.block T (zab h.tab) hT).trans h.tab,h.map.turned ht hM⟩
set_option maxRecDepth 100000 in
set_option maxHeartbeats 2000000 in
theorem zpg (T M n L B a:Nat) (F:Nat×Nat→Option Nat) (sv:Value) (l:List Nat) (w:World) (ht:Tb w T M n L F) (hr:Rd w B sv l a) (hL:L≤15) (hTB:T≠B) (hMB:M≠B):
  Calls Tryz.prog 213 #[.pointer (some ⟨T,0,none⟩),.pointer (some ⟨B,0,none⟩)] w fun e w'=> ∃(x:Nat) (er:Int) (s:Nat),e= .returned (.tuple #[.int .i64 (x:Int),.int .i64 er])∧RdAns F L l a x er s∧Rd w' B sv l (a+s)∧Tb w' T M n L F∧Turns (fun i=>i=B) w w':=by
 obtain ⟨G,hG⟩:∃G,w.heap.size=G:=⟨_,rfl⟩
 have Ht:=Lib.hid ht
 have Hr:=Lib.hid hr
 have hap:=Lib.hid hr.apart
 clear ht hr
 go_enter Tryz.func213,Tryz.ntmps213
 go_wp2_with fail
 go_loopw [7] (fun _ wr=> ∃s:Nat,wr.heap[G]? =some (.cells #[.int .u16 (bt l a s:Int),.int .u16 (s:Int)] 277)∧s≤L∧a+s≤8*l.length∧Hid (∀t,1≤t→t≤s→F (bt l a t,t)=none)∧Hid (Rd wr B sv l (a+s))∧Hid (Tb wr T M n L F)∧Hid (Turns (fun i=>i=B) w wr)∧G<wr.heap.size)
  (fun _ wr=>L - (intOf ((wr.cell? ⟨G,1,none⟩).getD undef)).toNat)
 case atStart=>
  have hbw:Below w.heap.size w (w.alloc (.cells #[.int .u16 0,.int .u16 0] 277)):=Below.al1 w _
  refine ⟨0,?_,by omega,by have:=Hr.out.pos;omega,Lib.hid fun t h1 h2=>by omega,Lib.hid (Hr.out.below hbw),Lib.hid (Ht.out.turns (N:=fun _=>False) (Turns.of_below' hbw) (fun h=>h) (fun h=>h)),Lib.hid (Turns.of_below' hbw),?_⟩
  ·rw [zqf,←hG]
   exact (zag [.cells #[.int .u16 0,.int .u16 0] 277] w 0 _).2 rfl
  ·rw [←hG];exact zab ((zag [.cells #[.int .u16 0,.int .u16 0] 277] w 0 _).2 rfl)
 case round=>
  obtain ⟨s,hg,hs,has,HN,HR,HT,HW,hGw⟩:=hrel
  have hms:L - (intOf ((wr.cell? ⟨G,1,none⟩).getD undef)).toNat=L - s:=by rw [zaa hg rfl];simp [intOf]
  rw [hms]
  have hTG:T<G:=hG ▸ zab Ht.out.tab
  have hMG:M<G:=hG ▸ Ht.out.map.lt
  have hBG:B<G:=hG ▸ Hr.out.size
  have hSG:∀k,sv.ownBlock=some k→k<G:=hG ▸ Hr.out.row.lt
  have HS:=Lib.hid hSG
  clear hms hSG
  have hbd:Below wr.heap.size wr wr.drew:=⟨rfl,rfl,rfl,Nat.le_refl _,fun _ _=>rfl⟩
  have HR1:=Lib.hid (HR.out.below hbd)
  have HT1:=Lib.hid (HT.out.turns (N:=fun _=>False) (Turns.of_below' hbd) (fun h=>h) (fun h=>h))
  have HW1:=Lib.hid (HW.out.trans (Turns.of_below' hbd))
  have hg1:Hid (wr.drew.heap[G]? =some (.cells #[.int .u16 (bt l a s:Int),.int .u16 (s:Int)] 277)):=Lib.hid hg
  have c1:wr.drew.cell? ⟨G,1,none⟩=some (.int .u16 (s:Int)):=zaa hg1.out rfl
  have c2:wr.drew.cell? ⟨T,1,none⟩=some (.int .u16 (L:Int)):=zaa HT1.out.tab rfl
  go_wp2_with fail
  refine wp_region_still_lit (by kernel_rfl) (by kernel_rfl) ?_
  by_cases hlt:s<L
  ·have d0:decide ((s:Int)<(L:Int))=true:=by simp;omega
   have d0':decide (s<L)=true:=by simp;omega
   change wpStill _ _ wr.drew (fun a'=>Exit.then _ _ .normal a' wr.drew) _ _
   clear hbd HR HT HW hg
   generalize wr.drew=W1 at *
   repeat still_step
   refine wpStill_nil ?_
   by_cases hend:a+s<8*l.length
   ·go_wp2_with fail
    refine Calls.mono (zfS B (a+s) 1 sv l W1 HR1.out (by omega) (by omega)) ?_
    obtain ⟨x,hx⟩:∃x,numB l/2^(a+s)%2^1=x:=⟨_,rfl⟩
    rw [hx]
    have hx2:x<2:=by rw [←hx];exact Nat.mod_lt _ (by decide)
    have Hx:=Lib.hid hx
    clear hx
    rintro e W2 ⟨rfl,hr2,ht2⟩
    have HR2:=Lib.hid hr2
    have HW2:=Lib.hid (HW1.out.trans ht2)
    have HT2:=Lib.hid (HT1.out.turns ht2 hTB hMB)
    have hg2:Hid (W2.heap[G]? =some (.cells #[.int .u16 (bt l a s:Int),.int .u16 (s:Int)] 277)):=Lib.hid ((ht2.block G (zab hg1.out) (by omega)).trans hg1.out)
    have e0:W2.cell? ⟨G,0,none⟩=some (.int .u16 (bt l a s:Int)):=zaa hg2.out rfl
    have e1:W2.cell? ⟨G,1,none⟩=some (.int .u16 (s:Int)):=zaa hg2.out rfl
    clear hr2 ht2 HR1 HW1 HT1 hg1 c1 c2
    go_wp2_with fail
    refine Calls.mono (zpT (bt l a s) s x W2 (zpw l a s) (by omega) hx2) ?_
    have hbs:bt l a s+x*2^s=bt l a (s+1):=by rw [zp8,Hx.out]
    obtain ⟨z,hz⟩:∃z:Int,((s+1:Nat):Int)=z:=⟨_,rfl⟩
    rw [hbs,hz]
    clear hbs
    rintro e W3 ⟨rfl,hb3⟩
    obtain ⟨b,hb⟩:∃b,bt l a (s+1)=b:=⟨_,rfl⟩
    rw [hb]
    have Hb:=Lib.hid hb
    have hb16:b<65536:=by
     have h1:=zpw l a (s+1)
     have h2:2^(s+1)≤2^15:=Nat.pow_le_pow_right (by decide) (by omega)
     have h3:(2:Nat)^15=32768:=rfl
     omega
    have hg3:=(hb3.block G (zab hg2.out)).trans hg2.out
    have f0:W3.frozen? ⟨G,0,none⟩=false:=by simp [World.frozen?,hg3]
    have f1:W3.frozen? ⟨G,1,none⟩=false:=by simp [World.frozen?,hg3]
    have e0:W3.cell? ⟨G,0,none⟩=some (.int .u16 (bt l a s:Int)):=zaa hg3 rfl
    have e1:W3.cell? ⟨G,1,none⟩=some (.int .u16 (s:Int)):=zaa hg3 rfl
    obtain ⟨W4,hW4⟩:∃W4,((W3.setCell ⟨G,0,none⟩ (.int .u16 (b:Int))).setCell ⟨G,1,none⟩ (.int .u16 z)).drew=W4:=⟨_,rfl⟩
    have hg4:Hid (W4.heap[G]? =some (.cells #[.int .u16 (b:Int),.int .u16 z] 277)):=Lib.hid (by rw [←hW4];exact zbS _ (zcN _ hg3))
    have ht4:Turns (fun i=>i=G) W2 W4:=by
     rw [←hW4]
     have h1:Turns (fun i=>i=G) W2 ((W3.setCell ⟨G,0,none⟩ (.int .u16 (b:Int))).setCell ⟨G,1,none⟩ (.int .u16 z)):=Turns.set (T:=fun i=>i=G) (p:=⟨G,1,none⟩) (Turns.set (T:=fun i=>i=G) (p:=⟨G,0,none⟩) (Turns.of_below' hb3) rfl _) rfl _
     exact ⟨h1.os,h1.tape,h1.output,h1.size,h1.block⟩
    have HR4:=Lib.hid (HR2.out.turns ht4 (by omega) (fun k hk e=>by have:=HS.out k hk;omega))
    have HT4:=Lib.hid (HT2.out.turns ht4 (by omega) (by omega))
    have HW4:Hid (Turns (fun i=>i=B) w W4):=Lib.hid (HW2.out.trans' ht4 (fun i hi e=>by omega))
    have HGw4:Hid (G<W4.heap.size):=Lib.hid (zab hg4.out)
    have hlook:=HT4.out.map.look (k:=(b,s+1)) hb16 (by show s+1<65536;omega)
    unfold ck at hlook
    simp only [hz] at hlook
    have Hz:=Lib.hid hz
    have HHb:=Lib.hid hb3
    have HW4e:=Lib.hid hW4
    obtain ⟨o,ho⟩:∃o,F (b,s+1)=o:=⟨_,rfl⟩
    rw [ho] at hlook
    have Ho:=Lib.hid ho
    clear hb hb3 hg3 ht4 hW4 ho HR2 HW2 HT2 hg2
    clear hz
    have e2:W4.cell? ⟨T,0,none⟩=some (.map (some M)):=zaa HT4.out.tab rfl
    have e3:W4.cell? ⟨G,0,none⟩=some (.int .u16 (b:Int)):=zaa hg4.out rfl
    have e4:W4.cell? ⟨G,1,none⟩=some (.int .u16 z):=zaa hg4.out rfl
    go_wp2_with fail
    refine wp_region_still_lit (by kernel_rfl) (by kernel_rfl) ?_
    change wpStill _ _ (((W3.setCell ⟨G,0,none⟩ (.int .u16 (b:Int))).setCell ⟨G,1,none⟩ (.int .u16 z)).drew) (fun a'=>Exit.then _ _ .normal a' (((W3.setCell ⟨G,0,none⟩ (.int .u16 (b:Int))).setCell ⟨G,1,none⟩ (.int .u16 z)).drew)) _ _
    rw [HW4e.out]
    clear e0 e1 f0 f1
    cases o with
    | some y=>
     repeat still_step
     refine wpStill_nil ?_
     go_wp2
     go_ret2
     exact ⟨y,0,s+1,rfl,⟨fun t h1 h2=>HN.out t h1 (by omega),⟨by omega,by omega⟩,.inl ⟨rfl,by omega,by rw [Hb.out];exact Ho.out⟩⟩,HR4.out,HT4.out,HW4.out⟩
    | none=>
     repeat still_step
     refine wpStill_nil ?_
     go_wp2
     go_roundw
     case rel=>
      refine ⟨s+1,by rw [Hb.out,Hz.out];exact hg4.out,by omega,by omega,Lib.hid fun t h1 h2=>?_,HR4,HT4,HW4,HGw4.out⟩
      rcases Nat.lt_or_ge s t with h3 | h3
      ·obtain rfl:t=s+1:=by omega
       rw [Hb.out];exact Ho.out
      ·exact HN.out t h1 h3
     case measure=>
      rw [zaa hg4.out rfl,←Hz.out]
      simp [intOf];omega
   ·go_wp2_with fail
    refine Calls.mono (zkp B (a+s) 1 sv l W1 HR1.out (by omega) (by omega)) ?_
    rintro e W2 ⟨rfl,hb2⟩
    have HR2:=Lib.hid (HR1.out.below hb2)
    have HT2:=Lib.hid (HT1.out.turns (N:=fun _=>False) (Turns.of_below' hb2) (fun h=>h) (fun h=>h))
    have HW2:=Lib.hid (HW1.out.trans (Turns.of_below' hb2))
    clear hb2 c1 c2
    go_wp2
    go_ret2
    exact ⟨0,50,s,rfl,⟨fun t h1 h2=>HN.out t h1 (by omega),⟨by omega,by omega⟩,.inr (.inr ⟨rfl,rfl,hlt,by omega,fun h=>HN.out s h (Nat.le_refl _)⟩)⟩,HR2.out,HT2.out,HW2.out⟩
  ·obtain rfl:s=L:=by omega
   change wpStill _ _ wr.drew (fun a'=>Exit.then _ _ .normal a' wr.drew) _ _
   clear hbd HR HT HW hg
   generalize wr.drew=W1 at *
   repeat still_step
   refine wpStill_nil ?_
   go_wp2
   go_ret2
   exact ⟨0,60,s,rfl,⟨fun t h1 h2=>HN.out t h1 (by omega),⟨by omega,by omega⟩,.inr (.inl ⟨rfl,rfl,rfl,fun h=>HN.out s h (Nat.le_refl _)⟩)⟩,HR1.out,HT1.out,HW1.out⟩
end
section
theorem zgi:∀n r x r' x',x<2^n→x'<2^n→trn n r x=trn n r' x'→r=r'∧x=x'
 | 0,r,x,r',x',h1,h2,h=>by
  simp only [Nat.pow_zero] at h1 h2
  exact ⟨h,by omega⟩
 | n+1,r,x,r',x',h1,h2,h=>by
  rw [trn,trn] at h
  rw [Nat.pow_succ] at h1 h2
  obtain ⟨a,b⟩:=zgi n _ _ _ _ (by omega) (by omega) h
  omega
def rt (f:Nat→Nat) (n N:Nat):Nat:=sm N fun i=>if 0<f i∧f i≤n then 2^(15 - f i) else 0
theorem zeC (f:Nat→Nat) (n N:Nat):rt f n (N+1)=rt f n N+(if 0<f N∧f N≤n then 2^(15 - f N) else 0):=rfl
theorem zj1 (f:Nat→Nat) (n:Nat):∀N,rt f (n+1) N=rt f n N+cn f (n+1) N*2^(15 - (n+1))
 | 0=>by simp [rt,cn,sm]
 | N+1=>by
  rw [zeC,zeC,zj1 f n N,zbq,Nat.add_mul]
  by_cases h:f N=n+1
  ·rw [if_pos (by omega),if_neg (by omega),if_pos h,h];omega
  ·rw [if_neg h]
   by_cases h2:0<f N∧f N≤n
   ·rw [if_pos (by omega),if_pos h2];omega
   ·rw [if_neg (by omega),if_neg h2];omega
theorem zpA (f:Nat→Nat) (n:Nat):∀N,rt f n N≤room N 15 f
 | 0=>by simp [rt,sm]
 | N+1=>by
  have:=zpA f n N
  rw [zeC,zaX]
  by_cases h:0<f N∧f N≤n
  ·rw [if_pos h,if_pos h.1];omega
  ·rw [if_neg h];omega
theorem zpy (f:Nat→Nat) (N:Nat):∀n,n≤15→en f N n*2^(15 - n)=rt f n N
 | 0,_=>by
  rw [en,Nat.zero_mul]
  have:∀N,rt f 0 N=0:=fun N=>by
   induction N with
   | zero=>rfl
   | succ N ih=>rw [zeC,ih,if_neg (by omega)]
  rw [this]
 | n+1,h=>by
  rw [en,Nat.add_mul,zj1,←zpy f N n (by omega),show 15 - n=(15 - (n+1))+1 by omega,Nat.pow_succ]
  congr 1
  rw [Nat.mul_assoc,Nat.mul_comm 2]
theorem zpI {f:Nat→Nat} {N n:Nat} (hr:room N 15 f≤32768) (hn:n≤15):en f N n≤2^n:=by
 have h1:=zpy f N n hn
 have h2:=zpA f n N
 have h3:2^n*2^(15 - n)=32768:=by rw [←Nat.pow_add,show n+(15 - n)=15 by omega]
 have h4:0<2^(15 - n):=Nat.two_pow_pos _
 exact Nat.le_of_mul_le_mul_right (by omega) h4
theorem zlC {f:Nat→Nat} {n N k:Nat} (hk:k<N) (h:f k=n):cn f n k<cn f n N:=by
  have mono:∀a b,a≤b→cn f n a≤cn f n b:=fun a b hab=>by
    induction b with
    | zero => obtain rfl : a = 0 := by omega
              exact Nat.le_refl _
    | succ b ih=>
      rcases Nat.lt_or_ge a (b+1) with h1 | h1
      · have:=ih (by omega)
        rw [zbq];omega
      · obtain rfl:a=b+1:=by omega
        exact Nat.le_refl _
  have h1:=mono (k+1) N hk
  rw [zbq,if_pos h] at h1
  omega
theorem zgB {f:Nat→Nat} {N n k:Nat} (hr:room N 15 f≤32768) (hn:n<15) (hk:k<N) (h:f k=n+1):nx f N n k<2^(n+1):=by
 have h1:=zpI (n:=n+1) hr hn
 have h2:=zlC hk h
 rw [en] at h1
 unfold nx
 omega
theorem zrd {f:Nat→Nat} {N:Nat} (hr:room N 15 f≤32768) (h15:∀i,i<N→f i≤15):Apt f N:=by
 intro i j hi hj h0 he hc
 unfold cd at hc
 obtain ⟨n,hn⟩:∃n,f i=n+1:=⟨f i - 1,by omega⟩
 have hnj:f j=n+1:=by omega
 have hb:=h15 i hi
 rw [hn,hnj,Nat.add_sub_cancel] at hc
 have h1:=(zgi (n+1) _ _ _ _ (zgB hr (by omega) hi hn) (zgB hr (by omega) hj hnj) hc).2
 unfold nx at h1
 rcases Nat.lt_trichotomy i j with h2 | h2 | h2
 ·have:=zlC (f:=f) (n:=n+1) h2 hn;omega
 ·exact h2
 ·have:=zlC (f:=f) (n:=n+1) h2 hnj;omega
theorem zeL {ls:List Nat} (h:chk ls=0):room ls.length 15 (lq ls)≤32768:=by
 obtain ⟨-,-,h3⟩:=za6 h
 rcases h3 with h3 | h3 | h3
 ·have:∀k,many k (lq ls)=0→room k 15 (lq ls)=0:=fun k=>by
   induction k with
   | zero=>intro _;rfl
   | succ k ih=>
    intro hk
    rw [zbv] at hk
    rw [zaX,ih (by omega)]
    split at hk
    ·omega
    ·rename_i hh;rw [if_neg hh]
  rw [this _ h3];omega
 ·omega
 ·omega
theorem zkc {ls:List Nat} (h:chk ls=0):Apt (lq ls) ls.length:=zrd (zeL h) (za6 h).2.1
end
section
inductive InfSt where
 | fin (a:Nat)
 | go (a:Nat) (o:List Nat)
 | no (e:Int)
def nb (l:List Nat) (a k:Nat):Nat:=numB l/2^a%2^k
theorem zaS (l:List Nat) (a k:Nat):nb l a k<2^k:=Nat.mod_lt _ (Nat.two_pow_pos k)
theorem zcF (l:List Nat) (a:Nat):nb l a 0=0:=by unfold nb;rw [Nat.pow_zero,Nat.mod_one]
def Sy (ls l:List Nat) (a x:Nat) (e:Int) (s:Nat):Prop:= ∃F L,ToldF (lq ls) ls.length 15 0 F∧ToldM (lq ls) ls.length 15 0 L∧RdAns F L l a x e s
theorem RdAns.only {F:Nat×Nat→Option Nat} {L:Nat} {l:List Nat} {a x x':Nat} {e e':Int} {s s':Nat} (h:RdAns F L l a x e s) (h':RdAns F L l a x' e' s'):x=x'∧e=e'∧s=s':=by
 have key:∀{x x':Nat} {e e':Int} {s s':Nat},RdAns F L l a x e s→RdAns F L l a x' e' s'→¬s<s':=fun {x x' e e' s s'} h h' hlt=>by
  have h1:=h'.no s
  have h2:=h'.le
  rcases h.ans with ⟨-,p,q⟩ | ⟨-,-,p,-⟩ | ⟨-,-,-,p,-⟩
  ·rw [h1 p hlt] at q;cases q
  ·omega
  ·omega
 have e1:=key h h'
 have e2:=key h' h
 obtain rfl:s=s':=by omega
 rcases h.ans with ⟨p1,p2,p3⟩ | ⟨p1,p2,p3,p4⟩ | ⟨p1,p2,p3,p4,p5⟩<;>rcases h'.ans with ⟨q1,q2,q3⟩ | ⟨q1,q2,q3,q4⟩ | ⟨q1,q2,q3,q4,q5⟩
 ·rw [p3] at q3;injection q3 with q3;exact ⟨q3,by rw [p1,q1],rfl⟩
 ·rw [q4 p2] at p3;cases p3
 ·rw [q5 p2] at p3;cases p3
 ·rw [p4 q2] at q3;cases q3
 ·exact ⟨by rw [p2,q2],by rw [p1,q1],rfl⟩
 ·omega
 ·rw [p5 q2] at q3;cases q3
 ·omega
 ·exact ⟨by rw [p2,q2],by rw [p1,q1],rfl⟩
theorem ToldF.only {ls:List Nat} {F G:Nat×Nat→Option Nat} (h:ToldF (lq ls) ls.length 15 0 F) (k:ToldF (lq ls) ls.length 15 0 G):F=G:=by
 funext q
 have go:∀{F G:Nat×Nat→Option Nat},ToldF (lq ls) ls.length 15 0 F→ToldF (lq ls) ls.length 15 0 G→∀x,F q=some x→G q=some x:=fun {F G} h k x hx=>by
  obtain ⟨h1,h2,h3⟩:=h.out q x hx
  have:=k.has x h1 h2
  rw [h3];exact this
 cases hF:F q with
 | none=>
  cases hG:G q with
  | none=>rfl
  | some y=>rw [go k h y hG] at hF;cases hF
 | some x=>exact (go h k x hF).symm
theorem ToldM.only {f:Nat→Nat} {N n k L L':Nat} (h:ToldM f N n k L) (h':ToldM f N n k L'):L=L':=by
 have go:∀{L L':Nat},ToldM f N n k L→ToldM f N n k L'→L≤L':=fun {L L'} h h'=>by
  rcases h.le with h0 | ⟨i,i1,i2,i3⟩
  ·omega
  ·rw [←i3];exact h'.ge i i1 i2
 exact Nat.le_antisymm (go h h') (go h' h)
theorem Sy.only {ls l:List Nat} {a x x':Nat} {e e':Int} {s s':Nat} (h:Sy ls l a x e s) (h':Sy ls l a x' e' s'):x=x'∧e=e'∧s=s':=by
 obtain ⟨F,L,h1,h2,h3⟩:=h
 obtain ⟨G,K,k1,k2,k3⟩:=h'
 obtain rfl:=h1.only k1
 obtain rfl:=h2.only k2
 exact h3.only k3
def zav (st each:Nat):Nat:=if st<2*each then 0 else st/each - 1
def zaz (st each:Nat):Nat:=if st<2*each then st else (each+st%each)*2^(st/each - 1)
def zad (x:Nat):Nat:=if x=285 then 0 else zav (x - 257) 4
def zax (x:Nat):Nat:=if x=285 then 258 else 3+zaz (x - 257) 4
def zam (y:Nat):Nat:=zav y 2
def zan (y:Nat):Nat:=1+zaz y 2
def ext (d:Nat):Nat→List Nat→List Nat
 | 0,o=>o
 | n+1,o=>ext d n (o++[o.getD (o.length - d) 0])
theorem zdh (d:Nat):∀(n:Nat) (o:List Nat),(ext d n o).length=o.length+n
 | 0,_=>rfl
 | n+1,o=>by rw [ext,zdh d n];simp;omega
inductive InfRp (D l:List Nat) (lim a x:Nat) (o:List Nat):InfSt→Prop where
 | far (h:285<x):InfRp D l lim a x o (.no 80)
 | few (h:x≤285) (h1:8*l.length<a+zad x):InfRp D l lim a x o (.no 50)
 | bad (h:x≤285) (h1:a+zad x≤8*l.length) (y t:Nat) (e:Int) (h2:Sy D l (a+zad x) y e t) (h3:e≠0):InfRp D l lim a x o (.no e)
 | wide (h:x≤285) (h1:a+zad x≤8*l.length) (y t:Nat) (h2:Sy D l (a+zad x) y 0 t) (h3:29<y):InfRp D l lim a x o (.no 80)
 | few2 (h:x≤285) (h1:a+zad x≤8*l.length) (y t:Nat) (h2:Sy D l (a+zad x) y 0 t) (h3:y≤29) (h4:8*l.length<a+zad x+t+zam y):InfRp D l lim a x o (.no 50)
 | dist (h:x≤285) (h1:a+zad x≤8*l.length) (y t:Nat) (h2:Sy D l (a+zad x) y 0 t) (h3:y≤29) (h4:a+zad x+t+zam y≤8*l.length)
   (h5:o.length<zan y+nb l (a+zad x+t) (zam y)):InfRp D l lim a x o (.no 70)
 | over (h:x≤285) (h1:a+zad x≤8*l.length) (y t:Nat) (h2:Sy D l (a+zad x) y 0 t) (h3:y≤29) (h4:a+zad x+t+zam y≤8*l.length)
   (h5:zan y+nb l (a+zad x+t) (zam y)≤o.length) (h6:lim<o.length+(zax x+nb l a (zad x))):InfRp D l lim a x o (.no 81)
 | done (h:x≤285) (h1:a+zad x≤8*l.length) (y t:Nat) (h2:Sy D l (a+zad x) y 0 t) (h3:y≤29) (h4:a+zad x+t+zam y≤8*l.length)
   (h5:zan y+nb l (a+zad x+t) (zam y)≤o.length) (h6:o.length+(zax x+nb l a (zad x))≤lim):
   InfRp D l lim a x o (.go (a+zad x+t+zam y) (ext (zan y+nb l (a+zad x+t) (zam y)) (zax x+nb l a (zad x)) o))
inductive InfTk (A D l:List Nat) (lim a:Nat) (o:List Nat):InfSt→Prop where
 | bad (x s:Nat) (e:Int) (h:Sy A l a x e s) (h1:e≠0):InfTk A D l lim a o (.no e)
 | fin (s:Nat) (h:Sy A l a 256 0 s):InfTk A D l lim a o (.fin (a+s))
 | byte (x s:Nat) (h:Sy A l a x 0 s) (h1:x<256) (h2:o.length<lim):InfTk A D l lim a o (.go (a+s) (o++[x]))
 | full (x s:Nat) (h:Sy A l a x 0 s) (h1:x<256) (h2:lim≤o.length):InfTk A D l lim a o (.no 81)
 | rep (x s:Nat) (r:InfSt) (h:Sy A l a x 0 s) (h1:256<x) (h2:InfRp D l lim (a+s) x o r):InfTk A D l lim a o r
inductive InfToks (A D l:List Nat) (lim:Nat):Nat→List Nat→InfSt→Prop where
 | fin (a a':Nat) (o:List Nat) (h:InfTk A D l lim a o (.fin a')):InfToks A D l lim a o (.go a' o)
 | no (a:Nat) (o:List Nat) (e:Int) (h:InfTk A D l lim a o (.no e)):InfToks A D l lim a o (.no e)
 | more (a a':Nat) (o o':List Nat) (r:InfSt) (h:InfTk A D l lim a o (.go a' o')) (h1:InfToks A D l lim a' o' r):InfToks A D l lim a o r
def bys (l:List Nat) (a n:Nat):List Nat:=(List.range n).map fun i=>nb l (a+8*i) 8
def alN (n:Nat):Nat:=n+(8 - n%8)%8
inductive InfSd (l:List Nat) (lim a:Nat) (o:List Nat):InfSt→Prop where
 | few (h:8*l.length<alN a+32):InfSd l lim a o (.no 50)
 | bad (h:alN a+32≤8*l.length) (h1:nb l (alN a+16) 16+nb l (alN a) 16≠65535):InfSd l lim a o (.no 80)
 | over (h:alN a+32≤8*l.length) (h1:nb l (alN a+16) 16+nb l (alN a) 16=65535) (h2:lim<o.length+nb l (alN a) 16):InfSd l lim a o (.no 81)
 | few2 (h:alN a+32≤8*l.length) (h1:nb l (alN a+16) 16+nb l (alN a) 16=65535) (h2:o.length+nb l (alN a) 16≤lim) (h3:8*l.length<alN a+32+8*nb l (alN a) 16):InfSd l lim a o (.no 50)
 | done (h:alN a+32≤8*l.length) (h1:nb l (alN a+16) 16+nb l (alN a) 16=65535) (h2:o.length+nb l (alN a) 16≤lim) (h3:alN a+32+8*nb l (alN a) 16≤8*l.length):
   InfSd l lim a o (.go (alN a+32+8*nb l (alN a) 16) (o++bys l (alN a+32) (nb l (alN a) 16)))
inductive InfSv (C l:List Nat) (n a:Nat) (ls:List Nat):InfSt→Prop where
 | bad (x s:Nat) (e:Int) (h:Sy C l a x e s) (h1:e≠0):InfSv C l n a ls (.no e)
 | first (s:Nat) (h:Sy C l a 16 0 s) (h1:ls.length=0):InfSv C l n a ls (.no 80)
 | few (x s k c v:Nat) (h:Sy C l a x 0 s) (h1:x=16∧0<ls.length∧k=2∧c=3∧v=ls.getD (ls.length - 1) 0∨x=17∧k=3∧c=3∧v=0∨x=18∧k=7∧c=11∧v=0∨x<16∧k=0∧c=1∧v=x)
   (h2:8*l.length<a+s+k):InfSv C l n a ls (.no 50)
 | many (x s k c v:Nat) (h:Sy C l a x 0 s) (h1:x=16∧0<ls.length∧k=2∧c=3∧v=ls.getD (ls.length - 1) 0∨x=17∧k=3∧c=3∧v=0∨x=18∧k=7∧c=11∧v=0∨x<16∧k=0∧c=1∧v=x)
   (h2:a+s+k≤8*l.length) (h3:n<ls.length+(c+nb l (a+s) k)):InfSv C l n a ls (.no 80)
 | go (x s k c v:Nat) (h:Sy C l a x 0 s) (h1:x=16∧0<ls.length∧k=2∧c=3∧v=ls.getD (ls.length - 1) 0∨x=17∧k=3∧c=3∧v=0∨x=18∧k=7∧c=11∧v=0∨x<16∧k=0∧c=1∧v=x)
   (h2:a+s+k≤8*l.length) (h3:ls.length+(c+nb l (a+s) k)≤n):InfSv C l n a ls (.go (a+s+k) (ls++List.replicate (c+nb l (a+s) k) v))
inductive InfLs (C l:List Nat) (n:Nat):Nat→List Nat→InfSt→Prop where
 | fin (a:Nat) (ls:List Nat) (h:n≤ls.length):InfLs C l n a ls (.go a ls)
 | no (a:Nat) (ls:List Nat) (e:Int) (h0:ls.length<n) (h:InfSv C l n a ls (.no e)):InfLs C l n a ls (.no e)
 | more (a a':Nat) (ls ls':List Nat) (r:InfSt) (h0:ls.length<n) (h:InfSv C l n a ls (.go a' ls')) (h1:InfLs C l n a' ls' r):InfLs C l n a ls r
def ordL:List Nat:=[16,17,18,0,8,7,9,6,10,5,11,4,12,3,13,2,14,1,15]
def clF (l:List Nat) (a:Nat):Nat→Nat→Nat
 | 0=>fun _=>0
 | k+1=>fun i=>if i=ordL.getD k 0 then nb l (a+3*k) 3 else clF l a k i
def clL (l:List Nat) (a k:Nat):List Nat:=(List.range 19).map (clF l a k)
inductive InfDy (l:List Nat) (a:Nat):Nat→InfSt→Prop where
 | few (h:8*l.length<a+14):InfDy l a 0 (.no 50)
 | many (h:a+14≤8*l.length) (h1:286<nb l a 5+257∨30<nb l (a+5) 5+1):InfDy l a 0 (.no 80)
 | few2 (h:a+14≤8*l.length) (h1:nb l a 5+257≤286∧nb l (a+5) 5+1≤30) (h2:8*l.length<a+14+3*(nb l (a+10) 4+4)):InfDy l a 0 (.no 50)
 | code (h:a+14≤8*l.length) (h1:nb l a 5+257≤286∧nb l (a+5) 5+1≤30) (h2:a+14+3*(nb l (a+10) 4+4)≤8*l.length)
   (h3:chk (clL l (a+14) (nb l (a+10) 4+4))≠0):InfDy l a 0 (.no (chk (clL l (a+14) (nb l (a+10) 4+4))))
 | lens (h:a+14≤8*l.length) (h1:nb l a 5+257≤286∧nb l (a+5) 5+1≤30) (h2:a+14+3*(nb l (a+10) 4+4)≤8*l.length)
   (h3:chk (clL l (a+14) (nb l (a+10) 4+4))=0) (e:Int) (h4:InfLs (clL l (a+14) (nb l (a+10) 4+4)) l (nb l a 5+257+(nb l (a+5) 5+1)) (a+14+3*(nb l (a+10) 4+4)) [] (.no e)):InfDy l a 0 (.no e)
 | last (h:a+14≤8*l.length) (h1:nb l a 5+257≤286∧nb l (a+5) 5+1≤30) (h2:a+14+3*(nb l (a+10) 4+4)≤8*l.length)
   (h3:chk (clL l (a+14) (nb l (a+10) 4+4))=0) (a':Nat) (ls:List Nat) (h4:InfLs (clL l (a+14) (nb l (a+10) 4+4)) l (nb l a 5+257+(nb l (a+5) 5+1)) (a+14+3*(nb l (a+10) 4+4)) [] (.go a' ls))
   (e:Int) (h5:lq ls 256=0∧e=80∨lq ls 256≠0∧chk (ls.take (nb l a 5+257))≠0∧e=chk (ls.take (nb l a 5+257))
    ∨lq ls 256≠0∧chk (ls.take (nb l a 5+257))=0∧chk (ls.drop (nb l a 5+257))≠0∧e=chk (ls.drop (nb l a 5+257))):InfDy l a 0 (.no e)
 | done (h:a+14≤8*l.length) (h1:nb l a 5+257≤286∧nb l (a+5) 5+1≤30) (h2:a+14+3*(nb l (a+10) 4+4)≤8*l.length)
   (h3:chk (clL l (a+14) (nb l (a+10) 4+4))=0) (a':Nat) (ls:List Nat) (h4:InfLs (clL l (a+14) (nb l (a+10) 4+4)) l (nb l a 5+257+(nb l (a+5) 5+1)) (a+14+3*(nb l (a+10) 4+4)) [] (.go a' ls))
   (h5:lq ls 256≠0∧chk (ls.take (nb l a 5+257))=0∧chk (ls.drop (nb l a 5+257))=0):InfDy l a (nb l a 5+257) (.go a' ls)
def fixA:List Nat:=List.replicate 144 8++List.replicate 112 9++List.replicate 24 7++List.replicate 8 8
def fixD:List Nat:=List.replicate 32 5
inductive InfBk (l:List Nat) (lim a:Nat) (o:List Nat):InfSt→Prop where
 | few (h:8*l.length<a+2):InfBk l lim a o (.no 50)
 | stored (h:a+2≤8*l.length) (h1:nb l a 2=0) (r:InfSt) (h2:InfSd l lim (a+2) o r):InfBk l lim a o r
 | fixed (h:a+2≤8*l.length) (h1:nb l a 2=1) (r:InfSt) (h2:InfToks fixA fixD l lim (a+2) o r):InfBk l lim a o r
 | bad (h:a+2≤8*l.length) (h1:nb l a 2=2) (e:Int) (h2:InfDy l (a+2) 0 (.no e)):InfBk l lim a o (.no e)
 | dyn (h:a+2≤8*l.length) (h1:nb l a 2=2) (n a':Nat) (ls:List Nat) (h2:InfDy l (a+2) n (.go a' ls)) (r:InfSt) (h3:InfToks (ls.take n) (ls.drop n) l lim a' o r):InfBk l lim a o r
 | unknown (h:a+2≤8*l.length) (h1:nb l a 2=3):InfBk l lim a o (.no 80)
inductive InfBl (l:List Nat) (lim:Nat):Nat→List Nat→InfSt→Prop where
 | few (a:Nat) (o:List Nat) (h:8*l.length<a+1):InfBl l lim a o (.no 50)
 | no (a:Nat) (o:List Nat) (h:a+1≤8*l.length) (e:Int) (h1:InfBk l lim (a+1) o (.no e)):InfBl l lim a o (.no e)
 | last (a:Nat) (o:List Nat) (h:a+1≤8*l.length) (h1:nb l a 1=1) (a':Nat) (o':List Nat) (h2:InfBk l lim (a+1) o (.go a' o')):InfBl l lim a o (.go a' o')
 | more (a:Nat) (o:List Nat) (h:a+1≤8*l.length) (h1:nb l a 1≠1) (a':Nat) (o':List Nat) (h2:InfBk l lim (a+1) o (.go a' o')) (r:InfSt) (h3:InfBl l lim a' o' r):InfBl l lim a o r
end
end Go.Proofs.YtedakhgaghfogaaGreat
