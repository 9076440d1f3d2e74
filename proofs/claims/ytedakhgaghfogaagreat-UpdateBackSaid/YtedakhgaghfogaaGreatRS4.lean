/- Several texts in one, each with its own head. -/
import Derived.Test.YtedakhgaghfogaaGreatRS3
namespace Go.Proofs.YtedakhgaghfogaaGreat
section
open Go.RowKit
attribute [local go_sem] Oper.semAt_some
theorem ImB.put2u {w:World} {B:Nat} {wd ht:Int} {x v:Value} (h:ImB w B wd ht x):ImB (w.setCell ⟨B,2,none⟩ v) B wd ht v:=⟨zaF v h.at'⟩
theorem zka (x:Nat) (w:World):∀j u,[Value.int .u32 (x:Int)][j]? =some u→(w.alloc (.cells #[.int .u32 (x:Int)] 51)).cell? ((⟨w.heap.size,0,none⟩:Addr).add j)=some u:=by
 intro j u hu
 cases j with
 | zero=>
  cases hu
  rw [Addr.add_lit]
  exact zaa (World.alloc_heap_new w _) rfl
 | succ j=>cases hu
theorem zqI {l S:List Nat} (hS:DefS (cdP l) S):∀x∈(cdE l S).2,x<256:=by
 obtain ⟨j,hj,e,his⟩:=znz l S
 rw [e]
 obtain rfl | rfl | rfl | rfl:j=0∨j=1∨j=2∨j=3:=by omega
 ·exact zet l
 ·intro x hx
  obtain ⟨r,hr,hx⟩:=List.mem_flatMap.1 hx
  have:=zkI l r hr
  unfold RlOk at this
  simp only [rlB,List.mem_cons,List.not_mem_nil,or_false] at hx
  rcases hx with rfl | rfl | rfl | rfl<;>omega
 ·exact zqp l
 ·exact hS.lt
theorem zke (T:List Nat):(cdK T).1<256∧∀x∈(cdK T).2,x<256:=by
 by_cases hS:∃S,DefS (cdP T) S
 ·obtain ⟨S,hS⟩:=hS
  rw [←zdW hS]
  exact ⟨by have:=(zoN T S).2;omega,zqI hS⟩
 ·have e:cdK T=(1,cdP T):=by unfold cdK;rw [dif_neg hS]
  rw [e]
  exact ⟨show (1:Nat)<256 by decide,zet T⟩
theorem zox (wd:Nat) (L:List Nat) (cs:List U6) (rs:List U4):∀x∈upBy wd L cs rs,x<256:=by
 intro x hx
 rw [upBy] at hx
 rcases List.mem_append.1 hx with h | h
 ·exact zeB _ x h
 rcases List.mem_append.1 h with h | h
 ·obtain ⟨c,-,h⟩:=List.mem_flatMap.1 h
  exact znV c x h
 rcases List.mem_append.1 h with h | h
 ·exact zeB _ x h
 obtain ⟨r,-,h⟩:=List.mem_flatMap.1 h
 rw [upPB,upT] at h
 rcases List.mem_append.1 h with h | h
 ·exact zot r x h
 rcases List.mem_cons.1 h with rfl | h
 ·exact (zke _).1
 rcases List.mem_append.1 h with h | h
 ·exact zqd _ x h
 exact (zke _).2 x h
theorem zqD (w:World) (t:TypeId) (cs:List Value):∀j u,cs[j]? =some u→(w.alloc (.cells cs.toArray t)).cell? ((⟨w.heap.size,0,none⟩:Addr).add j)=some u:=fun j u h=>by
 rw [Addr.add_lit,Nat.zero_add]
 exact zdf rfl (by simpa using h)
theorem zkP (l:List U4):∀u∈l.flatMap zaG,u.oneCell'=true:=by
 intro u hu
 obtain ⟨r,_,hu⟩:=List.mem_flatMap.1 hu
 simp [zaG] at hu
 rcases hu with rfl | rfl | rfl | rfl<;>rfl
theorem zjt {α:Type} {f:α→Bool} {l:List α} {i:Nat} {r:α} (h:l[i]? =some r):(l.take (i+1)).filter f=(l.take i).filter f++if f r then [r] else []:=by
 obtain ⟨hi,e⟩:=List.getElem?_eq_some_iff.1 h
 rw [List.take_succ_eq_append_getElem hi,List.filter_append,e]
 cases hf:f r<;>simp [hf]
theorem zfZ {α:Type} (f:α→Bool) (l:List α) (i:Nat):((l.take i).filter f).length≤i:=Nat.le_trans (List.length_filter_le _ _) (by rw [List.length_take];exact Nat.min_le_left _ _)
set_option maxRecDepth 20000 in
set_option maxHeartbeats 16000000 in
theorem zmS (wd ht:Int) (p:Option Addr) (n c:Nat) (l:List Nat) (pq:Option Addr) (nq cq:Nat) (q:List Nat) (rs:List U4) (pr:Option Addr) (cr:Nat) (w:World) (hp:Row encP 1 w (.slice p n c) l) (h32:∀x∈l,x<4294967296) (hq:Row encP 1 w (.slice pq nq cq) q) (hq32:∀x∈q,x<4294967296) (hr:RowAt zaG 4 w pr rs) (lr:rs.length≤cr) (br:rs.length≤9223372036854775807) (wr:∀r∈rs,r.wf) (bn:n≤9223372036854775807) (bq:nq≤9223372036854775807):
  Makes Tryz.prog 5 #[IgV wd ht (.slice p n c),.slice pq nq cq,.slice pr rs.length cr] w (.bool true):=by
 unfold Makes
 have hb0:=Below.al1 w (.cells #[.int .i64 wd,.int .i64 ht,.slice p n c] 26)
 have hI:=ImB.new w wd ht (.slice p n c)
 have HR:=Lib.hid (hr.below hb0)
 have HPx:=Lib.hid (hp.below hb0)
 have HQx:=Lib.hid (hq.below hb0)
 have Hlen:=Lib.hid hp.lenR
 have Hqlen:=Lib.hid hq.lenR
 have H32:=Lib.hid h32
 have HQ32:=Lib.hid hq32
 have WR:=Lib.hid wr
 have Hb0:=Lib.hid hb0
 obtain ⟨K,hK⟩:∃n,rs.length=n:=⟨_,rfl⟩
 rw [hK] at lr br ⊢
 have HK:=Lib.hid hK
 obtain ⟨f1,hf1⟩:∃f,decide (n>1000∨(0:Int)>30∨(K:Int)>30)=f:=⟨_,rfl⟩
 obtain ⟨f2,hf2⟩:∃f,decide (cdM wd ht n)=f:=⟨_,rfl⟩
 have Hf1:=Lib.hid hf1
 have Hf2:=Lib.hid hf2
 clear hr hp hq h32 hq32 wr hb0 hK hf1 hf2
 go_enter Tryz.func5,Tryz.ntmps5
 go_upto_region 1 with (fail)
 generalize w.alloc (.cells #[.int .i64 wd,.int .i64 ht,.slice p n c] 26)=W at *
 obtain ⟨P,hP⟩:∃P,w.heap.size=P:=⟨_,rfl⟩
 rw [hP] at hI ⊢
 have HP:=Lib.hid hP
 have HI:=Lib.hid hI
 obtain ⟨i0,i1,i2⟩:=hI.c
 clear hP hI
 go_wp2_with fail
 refine Calls.mono (znu wd ht p n c 0 (K:Int) W f1 Hf1.out) ?_
 rintro _ w1 ⟨rfl,hb1⟩
 have HI1:=Lib.hid (HI.out.later hb1)
 have Hb1:=Lib.hid hb1
 obtain ⟨j0,j1,j2⟩:=HI1.out.c
 clear i0 i1 i2 hb1
 cases f1
 case true=>
  go_wp2_with fail
  refine Calls.mono (zcB w1) ?_
  rintro _ w2 ⟨rfl,hb2⟩
  have Hb2:=Lib.hid (Below.thn (Below.thn Hb0.out Hb1.out) hb2)
  clear hb2
  go_wp2
  go_ret
  exact ⟨rfl,Hb2.out⟩
 case false=>
 by_cases hnq:1000<nq
 ·have d:decide ((nq:Int)>1000)=true:=by simp only [decide_eq_true_eq];omega
  go_wp2_with fail
  refine Calls.mono (zcB w1) ?_
  rintro _ w2 ⟨rfl,hb2⟩
  have Hb2:=Lib.hid (Below.thn (Below.thn Hb0.out Hb1.out) hb2)
  clear hb2
  go_wp2
  go_ret
  exact ⟨rfl,Hb2.out⟩
 have d:decide ((nq:Int)>1000)=false:=by simp only [decide_eq_false_iff_not];omega
 go_wp2_with fail
 refine Calls.mono (zlx wd ht p n c w1 f2 Hf2.out) ?_
 rintro _ w2 ⟨rfl,hb2⟩
 have HI2:=Lib.hid (HI1.out.later hb2)
 have Hb2:=Lib.hid (Below.thn Hb1.out hb2)
 obtain ⟨k0,k1,k2⟩:=HI2.out.c
 clear j0 j1 j2 hb2 d
 cases f2
 case false=>
  go_wp2_with fail
  refine Calls.mono (zcB w2) ?_
  rintro _ w3 ⟨rfl,hb3⟩
  have Hb3:=Lib.hid (Below.thn (Below.thn Hb0.out Hb2.out) hb3)
  clear hb3
  go_wp2
  go_ret
  exact ⟨rfl,Hb3.out⟩
 case true=>
 have hM:=of_decide_eq_true Hf2.out
 have hsm:=of_decide_eq_false Hf1.out
 have HM:=Lib.hid hM
 obtain ⟨wn,hwn⟩:∃z:Nat,wd=(z:Int):=⟨wd.toNat,by have:=hM.1;omega⟩
 obtain ⟨hn,hhn⟩:∃z:Nat,ht=(z:Int):=⟨ht.toNat,by have:=hM.2.1;omega⟩
 subst hwn
 subst hhn
 have hwl:n=wn*hn:=by
  have h1:=HM.out.2.2.2.2
  rw [←Int.natCast_mul] at h1
  omega
 have hn1:1≤n:=(zno hM).1
 have hn2:n≤1000:=by omega
 have hK2:K≤30:=by omega
 have hw:1≤wn∧wn≤256:=by have:=hM.1;have:=hM.2.2.1;omega
 have hh:1≤hn∧hn≤256:=by have:=hM.2.1;have:=hM.2.2.2.1;omega
 have Hwl:=Lib.hid hwl
 obtain ⟨nf,hj0,hj1,hj2,hj3⟩:=info_parts zbg
 obtain ⟨gp,op,hpe,hpc⟩:=HPx.out.at'.1.pxs (by rw [Hlen.out];omega)
 subst hpe
 have Hpc:=Lib.hid hpc
 have Hgp:Hid (gp<W.heap.size):=Lib.hid (World.block_lt_of_cell? _ _ (hpc 0 (by rw [Hlen.out];omega)))
 clear hM hsm hwl hpc
 go_upto_region 4 with (fail)
 have hB:=ImB.new w2 (wn:Int) (hn:Int) (.slice none 0 0)
 have hbB:=Below.al1 w2 (.cells #[.int .i64 (wn:Int),.int .i64 (hn:Int),.slice none 0 0] 26)
 generalize w2.alloc (.cells #[.int .i64 (wn:Int),.int .i64 (hn:Int),.slice none 0 0] 26)=w4 at *
 obtain ⟨B,hBe⟩:∃B,w2.heap.size=B:=⟨_,rfl⟩
 rw [hBe] at hB ⊢
 have HB4:=Lib.hid hB
 have HI4:=Lib.hid (HI2.out.later hbB)
 have Hb4:=Lib.hid (Below.thn Hb2.out hbB)
 have HPB:Hid (P<B∧B<w4.heap.size):=Lib.hid ⟨by rw [←hBe];exact zab HI2.out.at',zab hB.at'⟩
 obtain ⟨Z,hZ⟩:∃z,w4.heap.size=z:=⟨_,rfl⟩
 rw [hZ] at HPB
 have HZ:=Lib.hid hZ
 have HWB:Hid (W.heap.size≤B):=Lib.hid (by rw [←hBe];exact Hb2.out.size)
 clear hB hbB hBe hZ k0 k1 k2
 go_wp2_with fail
 go_loopw [8] (fun iv wr=> ∃(i:Nat) (v:Value),iv= .int .i64 (i:Int)∧i≤n∧Hid (ImB wr B wn hn v)∧Hid (wr.ownsRow Z 51 1 v i ((zUp q l i).map pxv))∧Hid (Turns (fun j=>j=B∨Z≤j) w4 wr)) (fun iv _=>n - (intOf iv).toNat)
 case atStart=>exact ⟨0,.slice none 0 0,rfl,Nat.zero_le _,HB4,Lib.hid (World.ownsRow_nil _ _ _ _),Lib.hid (Turns.refl _ _)⟩
 case round=>
  obtain ⟨i,v,rfl,hi,HBr,HO,HT⟩:=hrel
  have hPn:¬(P=B∨Z≤P):=by have:=HPB.out;omega
  have hI5:ImB wr P wn hn (.slice (some ⟨gp,op,none⟩) n c):=⟨(HT.out.block P (zab HI4.out.at') hPn).trans HI4.out.at'⟩
  obtain ⟨y0,y1,y2⟩:=hI5.c
  clear HB4
  by_cases hin:i<n
  ·have d1:decide ((i:Int)<(n:Int))=true:=by simp;omega
   have hgn:¬(gp=B∨Z≤gp):=by have h1:=Hgp.out;have h2:=HWB.out;have h3:=HPB.out;omega
   have x0:=HT.out.cell (cell_later Hb4.out (Hpc.out i (by rw [Hlen.out];exact hin))) hgn
   have hz32:(if i<q.length then q.getD i 0 else l.getD i 0)<4294967296:=by
    split
    ·exact zaE (by decide) HQ32.out i
    ·exact zaE (by decide) H32.out i
   have hsucc:=zow q l i
   obtain ⟨z,hz⟩:∃z,(if i<q.length then q.getD i 0 else l.getD i 0)=z:=⟨_,rfl⟩
   rw [hz] at hsucc hz32
   have Hsucc:=Lib.hid hsucc
   have e0:(0:Int)≤(i:Int):=by omega
   have e1:(i:Int)<(n:Int):=by omega
   obtain ⟨vp,vc,rfl⟩:=zac HO.out
   obtain ⟨b0,b1,b2⟩:=HBr.out.c
   have bf:wr.frozen? ⟨B,2,none⟩=false:=by simp [World.frozen?,HBr.out.at']
   have HI5:=Lib.hid hI5
   have hown:∀k,(Value.slice vp i vc).ownBlock=some k→k≠B∧Z≤k:=fun k hk=>by have h1:=(HO.out.lt k hk).1;have h2:=HPB.out;omega
   have HOwn:=Lib.hid hown
   have Hown1:=Lib.hid ((Turns.of_below' (T:=fun _=>False) (Below.al1 wr (.cells #[.int .u32 (z:Int)] 51))).owns HO.out (fun _ _ h=>h))
   have hbs:Z≤wr.heap.size:=by have h1:=HT.out.size;have h2:=HZ.out;omega
   have bx2:=cell_later (Below.al1 wr (.cells #[.int .u32 (z:Int)] 51)) b2
   have Hbx:=Lib.hid (And.intro b2 bf)
   clear hsucc hown hI5
   have hfin:∀v7 w7,w7.ownsRow Z 51 1 v7 (i+1) ((zUp q l i).map pxv++[.int .u32 (z:Int)])→(wr.alloc (.cells #[.int .u32 (z:Int)] 51)).grownBy w7 (Value.slice vp i vc).ownBlock→
     ImB (w7.setCell ⟨B,2,none⟩ v7) B wn hn v7∧(w7.setCell ⟨B,2,none⟩ v7).ownsRow Z 51 1 v7 (i+1) ((zUp q l (i+1)).map pxv)∧Turns (fun j=>j=B∨Z≤j) w4 (w7.setCell ⟨B,2,none⟩ v7)∧w7.cell? ⟨B,2,none⟩=some (.slice vp i vc)∧w7.frozen? ⟨B,2,none⟩=false:=fun v7 w7 ho hg=>by
    have hta:Turns (fun j=>j=B∨Z≤j) wr w7:=((Turns.of_below' (Below.al1 wr _)).trans ((Turns.of_grown (T:=fun b=>(Value.slice vp i vc).ownBlock=some b) hg (fun _ h=>h)).mono (fun j _ h=> .inr (HOwn.out j h).2)))
    have htb:Turns (fun b=>(Value.slice vp i vc).ownBlock=some b) wr w7:=(Turns.of_below' (Below.al1 wr _)).trans (Turns.of_grown hg (fun _ h=>h))
    have hB7:ImB w7 B wn hn (.slice vp i vc):=⟨(htb.block B (zab HBr.out.at') (fun e=>(HOwn.out B e).1 rfl)).trans HBr.out.at'⟩
    have hts:Turns (fun j=>j=B) w7 (w7.setCell ⟨B,2,none⟩ v7):=(Turns.refl (fun q=>q=B) w7).set (p:=⟨B,2,none⟩) rfl _
    refine ⟨hB7.put2u,?_,(HT.out.trans hta).trans (hts.mono (fun _ _ h=> .inl h)),hB7.c.2.2,by simp [World.frozen?,hB7.at']⟩
    rw [Hsucc.out,List.map_append]
    exact hts.owns ho (fun j hj (h:j=B)=>by have:=(ho.lt j hj).1;have:=HPB.out;omega)
   have HFin:=Lib.hid hfin
   clear hfin
   rcases Nat.lt_or_ge i nq with hiq | hiq
   ·have d2:decide ((i:Int)<(nq:Int))=true:=by simp only [decide_eq_true_eq];omega
    obtain ⟨gq,oq,hqe,hqc⟩:=HQx.out.at'.1.pxs (by rw [Hqlen.out];omega)
    subst hqe
    have hgq:¬(gq=B∨Z≤gq):=by have h1:=World.block_lt_of_cell? _ _ (hqc 0 (by rw [Hqlen.out];omega));have h2:=HWB.out;have h3:=HPB.out;simp only at h1;omega
    have x1:=HT.out.cell (cell_later Hb4.out (hqc i (by rw [Hqlen.out];exact hiq))) hgq
    rw [if_pos (by rw [Hqlen.out];exact hiq)] at hz
    rw [hz] at x1
    have e2:(i:Int)<(nq:Int):=by omega
    clear hz hqc hgq hgn
    go_upto_region 10 with (fail)
    go_wp2_with (at_builtin;refine zai _ rfl (.tmp 61) (.tmp 63) 24 rfl Z 51 nf _ 1 4 Tryz.underlying24 hj0 hj1 hj2 hj3 rfl (by decide) (.slice vp i vc) i ((zUp q l i).map pxv) rfl Hown1.out (some ⟨wr.heap.size,0,none⟩) 1 1 [.int .u32 (z:Int)] rfl rfl (.inr ⟨_,rfl,zka z wr⟩) (by intro u hu;simp at hu;subst hu;rfl) ?n3 ?n4 ?n5 ?_)
    case n3=>simp only [maxLen];omega
    case n4=>omega
    case n5=>rw [World.size_alloc];omega
    intro v7 w7 ho7 hg7 _
    obtain ⟨vp7,vc7,rfl⟩:=zac ho7
    obtain ⟨r1,r2,r3,r4,r5⟩:=HFin.out _ w7 ho7 hg7
    have R1:=Lib.hid r1
    have R2:=Lib.hid r2
    have R3:=Lib.hid r3
    clear r1 r2 r3 ho7 hg7
    go_wp2
    go_roundw
    case rel=>exact ⟨i+1,_,by go_num,by omega,R1,R2,R3⟩
    case measure=>simp [intOf];omega
   ·have d2:decide ((i:Int)<(nq:Int))=false:=by simp only [decide_eq_false_iff_not];omega
    rw [if_neg (by rw [Hqlen.out];omega)] at hz
    rw [hz] at x0
    clear hz hgn
    go_upto_region 10 with (fail)
    go_wp2_with (at_builtin;refine zai _ rfl (.tmp 61) (.tmp 63) 24 rfl Z 51 nf _ 1 4 Tryz.underlying24 hj0 hj1 hj2 hj3 rfl (by decide) (.slice vp i vc) i ((zUp q l i).map pxv) rfl Hown1.out (some ⟨wr.heap.size,0,none⟩) 1 1 [.int .u32 (z:Int)] rfl rfl (.inr ⟨_,rfl,zka z wr⟩) (by intro u hu;simp at hu;subst hu;rfl) ?n3 ?n4 ?n5 ?_)
    case n3=>simp only [maxLen];omega
    case n4=>omega
    case n5=>rw [World.size_alloc];omega
    intro v7 w7 ho7 hg7 _
    obtain ⟨vp7,vc7,rfl⟩:=zac ho7
    obtain ⟨r1,r2,r3,r4,r5⟩:=HFin.out _ w7 ho7 hg7
    have R1:=Lib.hid r1
    have R2:=Lib.hid r2
    have R3:=Lib.hid r3
    clear r1 r2 r3 ho7 hg7
    go_wp2
    go_roundw
    case rel=>exact ⟨i+1,_,by go_num,by omega,R1,R2,R3⟩
    case measure=>simp [intOf];omega
  ·obtain rfl:i=n:=by omega
   have d1:decide ((i:Int)<(i:Int))=false:=by simp
   obtain ⟨vp,vc,rfl⟩:=zac HO.out
   have HZr:=Lib.hid (zfu HO.out)
   have HIr:=Lib.hid hI5
   have HPr:Hid (Row encP 1 wr (.slice (some ⟨gp,op,none⟩) i c) l):=Lib.hid ((HPx.out.below Hb4.out).turns HT.out (fun b hb=>by
    cases hb
    have h1:=Hgp.out;have h2:=HWB.out;have h3:=HPB.out
    show ¬(gp=B∨Z≤gp)
    omega))
   have HRr:Hid (RowAt zaG 4 wr pr rs):=Lib.hid ((HR.out.below Hb4.out).turns HT.out (fun a ha=>by
    have h2:=HWB.out;have h3:=HPB.out
    rcases HR.out with ⟨h,-⟩ | ⟨b,off,h,h4,-⟩
    ·rw [h] at ha;cases ha
    ·rw [h] at ha;cases ha
     dsimp only
     omega))
   have Hbr:Hid (Below w.heap.size w wr):=Lib.hid (Below.thn Hb0.out (Hb4.out.trans (HT.out.below Hb4.out.size (fun j hj=>by
    have h2:=HWB.out;have h3:=HPB.out
    omega))))
   have Hlr:=Hlen
   obtain ⟨nr,hr0,hr1,hr2,hr3⟩:=info_parts zom
   obtain ⟨ok,hok⟩:∃f:U4→Bool,(fun r=>decide (r.ok (wn:Int) (hn:Int)))=f:=⟨_,rfl⟩
   have Hok:=Lib.hid hok
   clear hok hPn hI5 HPx HI HI1 HI2 HI4 hin hi HR HQx HT HO Hpc Hgp Hb1 Hb4
   go_wp2_with fail
   generalize wr=Y at *
   go_loopw [10,11] (fun pv iv wz=> ∃i2:Nat,iv= .int .i64 (i2:Int)∧i2≤K∧Hid (wz.ownsRow Y.heap.size 36 4 pv ((rs.take i2).filter ok).length (((rs.take i2).filter ok).flatMap zaG))∧Hid (Below Y.heap.size Y wz)) (fun _ iv _=>K - (intOf iv).toNat)
   case atStart=>exact ⟨0,rfl,Nat.zero_le _,Lib.hid (by rw [List.take_zero];exact World.ownsRow_nil _ _ _ _),Lib.hid (Below.refl _ _)⟩
   case round=>
    obtain ⟨i2,rfl,hi2,HF,HW⟩:=hrel
    by_cases hin2:i2<K
    ·have d1:decide ((i2:Int)<(K:Int))=true:=by simp;omega
     have hil:i2<rs.length:=by rw [HK.out];exact hin2
     obtain ⟨g,off,rfl,hlt,hcell⟩:∃b off,pr=some ⟨b,off,none⟩∧b<Y.heap.size∧∀i x,rs[i]? =some x→∀j u,(zaG x)[j]? =some u→Y.cell? ⟨b,off+i*4+j,none⟩=some u:=by
      rcases HRr.out with ⟨-,h⟩ | ⟨b,off,e,h,hc⟩
      ·rw [h] at hil;exact absurd hil (Nat.not_lt_zero _)
      ·exact ⟨b,off,e,h,hc⟩
     obtain ⟨r,hr⟩:∃r,rs[i2]=r:=⟨_,rfl⟩
     have hri:rs[i2]? =some r:=by rw [List.getElem?_eq_getElem hil,hr]
     have hg:=hcell i2 r hri
     have x0:=cell_later HW.out (hg 0 (.int .i64 r.x) rfl)
     have x1:=cell_later HW.out (hg 1 (.int .i64 r.y) rfl)
     have x2:=cell_later HW.out (hg 2 (.int .i64 r.a) rfl)
     have x3:=cell_later HW.out (hg 3 (.int .i64 r.b) rfl)
     rw [Nat.add_zero] at x0
     have z0:=cell_later HW.out HIr.out.c.1
     have z1:=cell_later HW.out HIr.out.c.2.1
     have z2:=cell_later HW.out HIr.out.c.2.2
     have htk:=zjt (f:=ok) hri
     have hfl:=zfZ ok rs i2
     obtain ⟨f,hf⟩:∃f,ok r=f:=⟨_,rfl⟩
     have hpa:=fun w=>zle r.x r.y r.a r.b (wn:Int) (hn:Int) (some ⟨gp,op,none⟩) i c w (by omega) (by omega) f (by rw [←hf,←Hok.out];rfl)
     rw [hf] at htk
     obtain ⟨F,hF⟩:∃F,(rs.take i2).filter ok=F:=⟨_,rfl⟩
     rw [hF] at htk HF hfl
     have Htk:=Lib.hid htk
     have Hpa:=Lib.hid hpa
     have Hfl:=Lib.hid hfl
     obtain ⟨o,ho⟩:∃o,off+i2*4=o:=⟨_,rfl⟩
     rw [ho] at x0 x1 x2 x3
     have j0:(0:Int)≤(i2:Int):=by omega
     have j1:(i2:Int)<(K:Int):=by omega
     clear hg hri hr hcell hil htk hpa hfl hf hF y0 y1 y2
     have hq:=After.ne wr
     have v0:=After.rule x0
     have v1:=After.rule x1
     have v2:=After.rule x2
     have v3:=After.rule x3
     have k0:=After.rule z0
     have k1:=After.rule z1
     have k2:=After.rule z2
     go_upto_region 15 with (fail)
     obtain ⟨r1,r2,r3,r4⟩:=r
     refine zbZ ⟨_,Below.refl _ _⟩ (by kernel_rfl) (by kernel_rfl) ?_
     repeat (go_big_quiet_step ((go_at_call 17;exact Makes.after (Hpa.out _))))
     refine wpQuiet_nil ?_
     rintro w5 ⟨⟨_,hb5⟩,rfl⟩
     have c0:=cell_later hb5 x0
     have c1:=cell_later hb5 x1
     have c2:=cell_later hb5 x2
     have c3:=cell_later hb5 x3
     have HW5:=Lib.hid (Below.thn HW.out hb5)
     have HF5:=Lib.hid ((Turns.of_below' (T:=fun _=>False) hb5).owns HF.out (fun _ _ h=>h))
     clear hq v0 v1 v2 v3 k0 k1 k2 x0 x1 x2 x3 z0 z1 z2 hb5 HF HW
     cases f
     case false=>
      clear c0 c1 c2 c3
      rw [if_neg (by decide),List.append_nil] at Htk
      go_wp2
      go_roundw
      case rel=>exact ⟨i2+1,by go_num,by omega,Lib.hid (by rw [Htk.out];exact HF5.out),HW5⟩
      case measure=>simp [intOf];omega
     case true=>
      rw [if_pos rfl] at Htk
      have hfl2:=Hfl.out
      obtain ⟨p5,c5,rfl⟩:=zac HF5.out
      have Hal5:=Lib.hid (HF5.out.alloc (.cells #[.int .i64 r1,.int .i64 r2,.int .i64 r3,.int .i64 r4] 36))
      go_wp2_with (at_builtin;refine (show True→_ from ?_) trivial)
      intro _
      refine zai _ rfl (.tmp 78) (.tmp 83) 23 rfl Y.heap.size 36 nr _ 4 32 Tryz.underlying23 hr0 hr1 hr2 hr3 rfl (by decide) (.slice p5 F.length c5) F.length (F.flatMap zaG) rfl Hal5.out (some ⟨w5.heap.size,0,none⟩) 1 1 ([(⟨r1,r2,r3,r4⟩:U4)].flatMap zaG) rfl rfl ?Ac1 ?Ac2 ?Ac3 ?Ac4 ?Ac5 ?_
      case Ac1=>exact .inr ⟨_,rfl,fun j u hu=>zqD w5 _ _ j u hu⟩
      case Ac2=>exact zkP _
      case Ac3=>simp only [maxLen];omega
      case Ac4=>omega
      case Ac5=>have:=HW5.out.size;simp;omega
      intro v' w6 hown' hgrow hpl
      have Hb6:=Lib.hid ((Below.al HW5.out _).grown hgrow (by have:=HW5.out.size;simp;omega) (fun k' e=>(HF5.out.lt k' e).1))
      have Hres:=Lib.hid (show w6.ownsRow Y.heap.size 36 4 v' ((rs.take (i2+1)).filter ok).length (((rs.take (i2+1)).filter ok).flatMap zaG) by
       rw [Htk.out,List.length_append,List.flatMap_append]
       exact hown')
      clear hown' hgrow hpl c0 c1 c2 c3
      go_wp2
      go_roundw
      case rel=>exact ⟨i2+1,by go_num,by omega,Hres,Hb6⟩
      case measure=>simp [intOf];omega
    ·obtain rfl:i2=K:=by omega
     have d1:decide ((i2:Int)<(i2:Int))=false:=by simp
     rw [List.take_of_length_le (by rw [HK.out];exact Nat.le_refl _)] at HF
     obtain ⟨F,hF⟩:∃F,rs.filter ok=F:=⟨_,rfl⟩
     have hFok:∀r∈F,r.ok (wn:Int) (hn:Int):=fun r hr=>by
      rw [←hF,←Hok.out] at hr
      exact of_decide_eq_true (List.mem_filter.1 hr).2
     have hFl:F.length≤30:=by
      have h1:=List.length_filter_le ok rs
      rw [hF,HK.out] at h1
      omega
     rw [hF] at HF
     have hFw:∀r∈F,r.wf:=fun r hr=>WR.out r (by rw [←hF] at hr;exact (List.mem_filter.1 hr).1)
     obtain ⟨pf,cf,rfl⟩:=zac HF.out
     have hFr:=(zbT (enc:=zaG) (k:=4) (fun _=>rfl) HF.out).at'
     have HFr:=Lib.hid hFr.1
     have hcf:=hFr.2
     obtain ⟨hbl,hbr⟩:=zlT (n:=i) hw.2 hh.2 Hwl.out hn2 hFok hFl (zUp q l i) (l.map rlw)
     have hz32:∀x∈zUp q l i,x<4294967296:=zro (by decide) HQ32.out H32.out i
     have HIw:=Lib.hid (HIr.out.later HW.out)
     have HBw:=Lib.hid (HBr.out.later HW.out)
     have HZw:=Lib.hid (HZr.out.below HW.out)
     have HPw:=Lib.hid (HPr.out.below HW.out)
     have y0':=HBw.out.c.1
     have y1':=HBw.out.c.2.1
     have y2':=HBw.out.c.2.2
     have q0:=HIw.out.c.1
     have q1:=HIw.out.c.2.1
     have q2:=HIw.out.c.2.2
     have hmk:=zfy (wn:Int) (hn:Int) vp i vc (zUp q l i) [] F none pf 0 cf wr HZw.out hz32 (.inl ⟨rfl,rfl⟩) HFr.out (Nat.le_refl _) hcf (by decide) (by omega) (fun c hc=>by cases hc) hFw
     have HMk:=Lib.hid hmk
     have HFok:=Lib.hid hFok
     have HFl:=Lib.hid hFl
     have Hbl:=Lib.hid hbl
     have Hbr2:=Lib.hid hbr
     clear hmk hFok hbl hbr hz32 hFw y0 y1 y2 hF hFr
     go_wp2_with fail
     refine Calls.mono HMk.out ?_
     rintro e w6 ⟨hb6,⟨h,-⟩ | ⟨-,h,-⟩ | ⟨-,-,v6,rfl,ho6⟩⟩
     ·exact absurd ⟨HM.out,⟨Nat.zero_le _,Nat.le_trans HFl.out (by decide)⟩,(fun c hc=>by cases hc),HFok.out⟩ h
     ·exact absurd h Hbl.out
     have h8:=zox wn (zUp q l i) [] F
     have hl6:(upBy wn (zUp q l i) [] F).length≤524288:=Nat.not_lt.1 fun h=>Hbl.out (.inr h)
     replace ho6:w6.ownsRow wr.heap.size 5 1 v6 (upBy wn (zUp q l i) [] F).length ((upBy wn (zUp q l i) [] F).map u8v):=ho6
     obtain ⟨p6,c6,rfl⟩:=zac ho6
     obtain ⟨bs,hbs⟩:∃bs,upBy wn (zUp q l i) [] F=bs:=⟨_,rfl⟩
     rw [hbs] at ho6 h8 hl6 Hbr2 ⊢
     have hr6:Rw8 w6 (.slice p6 bs.length c6) bs:=Rw8.own ho6 rfl
     have HB6:=Lib.hid (HBw.out.later hb6)
     have HI6:=Lib.hid (HIw.out.later hb6)
     have HZ6:=Lib.hid (HZw.out.below hb6)
     have HP6:=Lib.hid (HPw.out.below hb6)
     have HF6:=Lib.hid (HFr.out.below hb6)
     have Hb6:=Lib.hid (Below.thn HW.out hb6)
     have j0:=HI6.out.c.1
     have j1:=HI6.out.c.2.1
     have j2:=HI6.out.c.2.2
     have HAp:=Lib.hid (zeR (wn:Int) (hn:Int) (some ⟨gp,op,none⟩) i c l p6 bs.length c6 bs w6 HP6.out H32.out hr6 h8 (by omega))
     have HHl:=Lib.hid hl6
     clear h8 hl6 hbs hr6 ho6 hb6 q0 q1 q2 y0' y1' y2' HMk
     go_wp2_with fail
     refine Calls.mono HAp.out ?_
     rintro e w7 ⟨hb7,⟨h,-⟩ | ⟨-,h,-⟩ | ⟨-,-,L,G,hL,hLl,rfl,hpx,hG⟩⟩
     ·exact absurd HM.out h
     ·rcases h with h | h
      ·exact absurd HHl.out (by omega)
      ·rw [show upAp (wn:Int).toNat (hn:Int).toNat bs (l.map rlw)=_ from Hbr2.out] at h
       cases h
     have he:some _=some L:=Hbr2.out.symm.trans hL
     have HL:=Lib.hid (Option.some.inj he)
     have HX7:=Lib.hid hpx
     have HLl:=Lib.hid hLl
     have HB7:=Lib.hid (HB6.out.later hb7)
     have HI7:=Lib.hid (HI6.out.later hb7)
     have HZ7:=Lib.hid (HZ6.out.below hb7)
     have HP7:=Lib.hid (HP6.out.below hb7)
     have HF7:=Lib.hid (HF6.out.below hb7)
     have Hb7:=Lib.hid (Below.thn Hb6.out hb7)
     clear he hL hLl hpx hG hb7 j0 j1 j2 HAp Hbr2
     go_upto_region 19 with (fail)
     have hX:=ImB.new w7 (wn:Int) (hn:Int) (.slice (some ⟨G,0,none⟩) i i)
     have hb8:=Below.al1 w7 (.cells #[.int .i64 (wn:Int),.int .i64 (hn:Int),.slice (some ⟨G,0,none⟩) i i] 26)
     generalize w7.alloc (.cells #[.int .i64 (wn:Int),.int .i64 (hn:Int),.slice (some ⟨G,0,none⟩) i i] 26)=w8 at *
     obtain ⟨X,hXe⟩:∃X,w7.heap.size=X:=⟨_,rfl⟩
     rw [hXe] at hX ⊢
     have HX8:=Lib.hid hX
     have HG8:=Lib.hid (HX7.out.below hb8)
     have HB8:=Lib.hid (HB7.out.later hb8)
     have HI8:=Lib.hid (HI7.out.later hb8)
     have HZ8:=Lib.hid (HZ7.out.below hb8)
     have HP8:=Lib.hid (HP7.out.below hb8)
     have HF8:=Lib.hid (HF7.out.below hb8)
     have Hb8:=Lib.hid (Below.thn Hb7.out hb8)
     obtain ⟨a0,a1,a2⟩:=HX8.out.c
     obtain ⟨b0,b1,b2⟩:=HI8.out.c
     clear hX hb8 hXe
     go_wp2_with fail
     have Hfin:=Lib.hid (fun w' (h:Below w8.heap.size w8 w')=>Below.thn Hbr.out (Below.thn Hb8.out h))
     obtain ⟨gz,oz,hze,hzc⟩:=HZ8.out.at'.1.pxs (by rw [zjY];omega)
     subst hze
     have HZc:=Lib.hid hzc
     obtain ⟨gp2,op2,hpe2,hpc2⟩:=HP8.out.at'.1.pxs (by rw [Hlen.out];omega)
     cases hpe2
     have HPc:=Lib.hid hpc2
     clear hzc hpc2 a0 a1 a2 b0 b1 b2
     go_loopw [16] (fun kv wz=> ∃k:Nat,kv= .int .i64 (k:Int)∧k≤i∧Hid (Below w8.heap.size w8 wz)) (fun kv _=>i - (intOf kv).toNat)
     case atStart=>exact ⟨0,rfl,Nat.zero_le _,Lib.hid (Below.refl _ _)⟩
     case round=>
      obtain ⟨k,rfl,hk,HV⟩:=hrel
      by_cases hkn:k<i
      ·have e1:decide ((k:Int)<(i:Int))=true:=by simp;omega
       obtain ⟨a0,a1,a2⟩:=(HX8.out.later HV.out).c
       obtain ⟨b0,b1,b2⟩:=(HI8.out.later HV.out).c
       obtain ⟨c0,c1,c2⟩:=(HB8.out.later HV.out).c
       have g0:wr.cell? ⟨G,k,none⟩=some (.int .u32 ((L.getD k 0:Nat):Int)):=cell_later HV.out (HG8.out.cell (i:=k) (by rw [HLl.out];exact hkn))
       have g1:=cell_later HV.out (HZc.out k (by rw [zjY];exact hkn))
       have g2:=cell_later HV.out (HPc.out k (by rw [Hlen.out];exact hkn))
       have k0:(0:Int)≤(k:Int):=by omega
       have k1:(k:Int)<(i:Int):=by omega
       go_wp2_with fail
       generalize wr=V at *
       have HFV:=Lib.hid (HF8.out.below HV.out)
       obtain ⟨ka,hka⟩:∃a,k%wn=a:=⟨_,rfl⟩
       obtain ⟨kb,hkb⟩:∃a,k/wn=a:=⟨_,rfl⟩
       have hm1:(k:Int).tmod (wn:Int)=(ka:Int):=by rw [←hka];rfl
       have hd1:(k:Int).tdiv (wn:Int)=(kb:Int):=by rw [←hkb];rfl
       have hkb1:kb≤k:=by rw [←hkb];exact Nat.div_le_self _ _
       have hd2:IntKind.i64.wrap (kb:Int)=(kb:Int):=IntWalk.i64_in _ (by omega)
       have hz1:((wn:Int)==0)=false:=by simp;omega
       have Hka:=Lib.hid hka
       have Hkb:=Lib.hid hkb
       clear hka hkb hkb1
       go_loopw [17,18] (fun bv mv wz=> ∃(m:Nat) (b:Bool),bv= .bool b∧mv= .int .i64 (m:Int)∧m≤F.length∧Hid (b=true↔∃r∈F.take m,inU r.x r.y r.a r.b (ka:Int) (kb:Int))∧Hid (Below V.heap.size V wz)) (fun _ mv _=>F.length - (intOf mv).toNat)
       case atStart=>exact ⟨0,false,rfl,rfl,Nat.zero_le _,Lib.hid (Iff.intro (fun h=>by cases h) (fun h=>by obtain ⟨r,h,-⟩:=h;cases h)),Lib.hid (Below.refl _ _)⟩
       case round=>
        obtain ⟨m,b,rfl,rfl,hm,HBt,HVr⟩:=hrel
        by_cases hmn:m<F.length
        ·have e2:decide ((m:Int)<(F.length:Int))=true:=by simp;omega
         obtain ⟨g,off,rfl,hlt,hcell⟩:∃b off,pf=some ⟨b,off,none⟩∧b<V.heap.size∧∀i x,F[i]? =some x→∀j u,(zaG x)[j]? =some u→V.cell? ⟨b,off+i*4+j,none⟩=some u:=by
          rcases HFV.out with ⟨-,h⟩ | ⟨b,off,e,h,hc⟩
          ·rw [h] at hmn;exact absurd hmn (Nat.not_lt_zero _)
          ·exact ⟨b,off,e,h,hc⟩
         obtain ⟨r,hr⟩:∃r,F[m]=r:=⟨_,rfl⟩
         have hri:F[m]? =some r:=by rw [List.getElem?_eq_getElem hmn,hr]
         have hrok:=HFok.out r (by rw [←hr];exact List.getElem_mem hmn)
         have hg:=hcell m r hri
         have x0:=cell_later HVr.out (hg 0 (.int .i64 r.x) rfl)
         have x1:=cell_later HVr.out (hg 1 (.int .i64 r.y) rfl)
         have x2:=cell_later HVr.out (hg 2 (.int .i64 r.a) rfl)
         have x3:=cell_later HVr.out (hg 3 (.int .i64 r.b) rfl)
         rw [Nat.add_zero] at x0
         have z0:=cell_later HVr.out b0
         have htk:F.take (m+1)=F.take m++[r]:=by rw [List.take_succ_eq_append_getElem hmn,hr]
         have hex:(∃s∈F.take (m+1),inU s.x s.y s.a s.b (ka:Int) (kb:Int))↔(∃s∈F.take m,inU s.x s.y s.a s.b (ka:Int) (kb:Int))∨inU r.x r.y r.a r.b (ka:Int) (kb:Int):=by
          rw [htk]
          constructor
          ·rintro ⟨s,hs,hi⟩
           rcases List.mem_append.1 hs with h | h
           ·exact .inl ⟨s,h,hi⟩
           ·obtain rfl:=List.mem_singleton.1 h
            exact .inr hi
          ·rintro (⟨s,hs,hi⟩ | hi)
           ·exact ⟨s,List.mem_append.2 (.inl hs),hi⟩
           ·exact ⟨r,List.mem_append.2 (.inr (List.mem_singleton.2 rfl)),hi⟩
         obtain ⟨q1,q2,q3,q4,q5,q6⟩:=hrok
         obtain ⟨f,hf⟩:∃f,decide (inU r.x r.y r.a r.b (ka:Int) (kb:Int))=f:=⟨_,rfl⟩
         have Hwi:=Lib.hid (fun w=>zml r.x r.y r.a r.b (ka:Int) (kb:Int) w (by omega) (by omega) (by omega) (by omega) f hf)
         have Hf:=Lib.hid hf
         have Hex:=Lib.hid hex
         obtain ⟨o,ho⟩:∃o,off+m*4=o:=⟨_,rfl⟩
         rw [ho] at x0 x1 x2 x3
         have j0:(0:Int)≤(m:Int):=by omega
         have j1:(m:Int)<(F.length:Int):=by omega
         have v0:=After.rule x0
         have v1:=After.rule x1
         have v2:=After.rule x2
         have v3:=After.rule x3
         have y0:=After.rule z0
         have hq:=After.ne wr
         clear hg hri hr hcell hlt htk hex hf q1 q2 q3 q4 q5 q6 a0 a1 a2 b0 b1 b2 c0 c1 c2 g0 g1 g2 x0 x1 x2 x3 z0
         obtain ⟨r1,r2,r3,r4⟩:=r
         cases b
         case true=>
          go_upto_region 28 with (fail)
          refine zbZ ⟨_,Below.refl _ _⟩ (by kernel_rfl) (by kernel_rfl) ?_
          repeat (go_big_quiet_step ((go_at_call 25;exact Makes.after (Hwi.out _))))
          refine wpQuiet_nil ?_
          rintro w9 ⟨⟨_,hb9⟩,rfl⟩
          have HV9:=Lib.hid (Below.thn HVr.out hb9)
          clear hq v0 v1 v2 v3 y0 hb9
          go_wp2
          go_roundw
          case rel=>exact ⟨m+1,true,rfl,by go_num,by omega,Lib.hid (Iff.intro (fun _=>Hex.out.2 (.inl (HBt.out.1 rfl))) (fun _=>rfl)),HV9⟩
          case measure=>simp [intOf];omega
         case false=>
          go_upto_region 28 with (fail)
          refine zbZ ⟨_,Below.refl _ _⟩ (by kernel_rfl) (by kernel_rfl) ?_
          repeat (go_big_quiet_step ((go_at_call 25;exact Makes.after (Hwi.out _))))
          refine wpQuiet_nil ?_
          rintro w9 ⟨⟨_,hb9⟩,rfl⟩
          have HV9:=Lib.hid (Below.thn HVr.out hb9)
          clear hq v0 v1 v2 v3 y0 hb9
          go_wp2
          go_roundw
          case rel=>exact ⟨m+1,f,rfl,by go_num,by omega,Lib.hid (by
           rw [Hex.out,←Hf.out,decide_eq_true_iff]
           exact ⟨fun h=> .inr h,fun h=>h.resolve_left fun h=>by cases HBt.out.2 h⟩),HV9⟩
          case measure=>simp [intOf];omega
        ·obtain rfl:m=F.length:=by omega
         have e2:decide ((F.length:Int)<(F.length:Int))=false:=by simp
         rw [List.take_of_length_le (Nat.le_refl _)] at HBt
         have hat:=znf (Z:=zUp q l i) (k:=k) hw.1 F (l.map rlw) HFok.out (by rw [List.length_map,Hlen.out];exact hkn)
         rw [HL.out,Hka.out,Hkb.out] at hat
         have hlz:(l.map rlw).getD k 0=rlw (l.getD k 0):=by
          have hkl:k<l.length:=by rw [Hlen.out];exact hkn
          rw [List.getD_eq_getElem?_getD,List.getElem?_map,List.getD_eq_getElem?_getD,List.getElem?_eq_getElem hkl]
          rfl
         rw [hlz] at hat
         obtain ⟨vo,hvo⟩:∃v,l.getD k 0=v:=⟨_,rfl⟩
         obtain ⟨vz,hvz⟩:∃v,(zUp q l i).getD k 0=v:=⟨_,rfl⟩
         obtain ⟨vx,hvx⟩:∃v,L.getD k 0=v:=⟨_,rfl⟩
         rw [hvo,hvz,hvx] at hat
         rw [hvx] at g0
         rw [hvz] at g1
         rw [hvo] at g2
         have n0:=cell_later HVr.out a2
         have n1:=cell_later HVr.out b2
         have n2:=cell_later HVr.out c2
         have n3:=cell_later HVr.out g0
         have n4:=cell_later HVr.out g1
         have n5:=cell_later HVr.out g2
         have t1:(vo:Int).tmod 16777216=((rlw vo:Nat):Int):=rfl
         have t2:(vz:Int).tmod 16777216=((rlw vz:Nat):Int):=rfl
         have HVF:=Lib.hid (Below.thn HV.out HVr.out)
         clear a0 a1 a2 b0 b1 b2 c0 c1 c2 g0 g1 g2 hlz hvo hvz hvx hm1 hd1 hd2 hz1
         cases b
         case false=>
          rw [if_neg (fun h=>by cases HBt.out.2 h)] at hat
          rw [hat] at n3
          have dn:(((rlw vo:Nat):Int) !=((rlw vo:Nat):Int))=false:=by simp
          clear hat n4 t2
          go_wp2
          go_roundw
          case rel=>exact ⟨k+1,by go_num,by omega,HVF⟩
          case measure=>simp [intOf];omega
         case true=>
          rw [if_pos (HBt.out.1 rfl)] at hat
          rw [hat] at n3
          have dn:(((rlw vz:Nat):Int) !=((rlw vz:Nat):Int))=false:=by simp
          clear hat t1
          go_wp2
          go_roundw
          case rel=>exact ⟨k+1,by go_num,by omega,HVF⟩
          case measure=>simp [intOf];omega
      ·obtain rfl:k=i:=by omega
       have e1:decide ((k:Int)<(k:Int))=false:=by simp
       obtain ⟨a0,a1,a2⟩:=(HX8.out.later HV.out).c
       go_wp2_with fail
       refine Calls.mono (zcB wr) ?_
       rintro _ w9 ⟨rfl,hb9⟩
       have Hb9:=Lib.hid (Hfin.out _ (Below.thn HV.out hb9))
       clear hb9
       go_wp2
       go_ret
       exact ⟨rfl,Hb9.out⟩
end
section
open Go.ChangeShapes Go.WideShapes Go.ChangeAt Go.RowKit Go.Joins Go.Deep
theorem zqE:Tryz.prog.cellsOf 36=4:=by kernel_rfl
set_option maxRecDepth 100000 in
theorem zr8 {H:Type} {enc:TypeId×Value→H} {W:World} {n:Nat} {a:Addr} {D:DataW H} {Pl:List MemPlace} {cs:List Value} (hc:W.cells? 0 a 4=some cs) (ht:DataW.trod enc Tryz.prog W 0 (fun _=>true) true n 36 cs=some (D,Pl)):
  ∃r:U4,r.wf∧∀j u,(zaG r)[j]? =some u→W.cell? (a.add j)=some u:=by
 obtain ⟨-,hl,hat⟩:=World.cells?_some hc
 obtain ⟨ys,n',-,-,-,hyl,hf⟩:=DataW.trod_struct Tryz.underlying36 ht
 have h0:=hf 0 _ rfl
 have h1:=hf 1 _ rfl
 have h2:=hf 2 _ rfl
 have h3:=hf 3 _ rfl
 match ys,hyl with
 | [y0,y1,y2,y3],_=>
  match cs,hl with
  | [c0,c1,c2,c3],_=>
   have hci:Tryz.prog.cellsOf 3=1:=by kernel_rfl
   obtain ⟨p,e0,-,wa⟩:=DataW.trod_int Tryz.underlying3 h0
   obtain ⟨q,e1,-,wb⟩:=DataW.trod_int Tryz.underlying3 h1
   obtain ⟨s,e2,-,wc⟩:=DataW.trod_int Tryz.underlying3 h2
   obtain ⟨t,e3,-,wd⟩:=DataW.trod_int Tryz.underlying3 h3
   simp [hci] at e0 e1 e2 e3
   subst e0 e1 e2 e3
   refine ⟨⟨p,q,s,t⟩,⟨zcY wa,zcY wb,zcY wc,zcY wd⟩,fun j u hu=>?_⟩
   have hj:j<4:=by
    have:=(List.getElem?_eq_some_iff.1 hu).1
    simpa [zaG] using this
   rw [hat j hj]
   exact hu
set_option maxRecDepth 100000 in
theorem zoa {H:Type} {enc:TypeId×Value→H} {W:World} {base:Nat} {v:Value} {d:DataW H} {p:List MemPlace} (hv:Value.okWide Tryz.prog W .any base 23 v) (h:DataW.Trod enc Tryz.prog W 0 (fun _=>true) true 23 v d p):
  ∃(q:Option Addr) (c:Nat) (xs:List U4),v= .slice q xs.length c∧RowAt zaG 4 W q xs∧xs.length≤c∧xs.length≤9223372036854775807∧∀r∈xs,r.wf:=by
 obtain ⟨a0,len,cap,rfl⟩:=okWide_slice Tryz.underlying23 hv
 obtain ⟨fuel,hf⟩:=h
 rcases open_slice Tryz.underlying23 hf with ⟨hcs,-⟩ | ⟨a,len',cap',m,n,D,Pl,hcs,hb,hl,hm,hmm,hx,hi⟩
 ·simp [Value.cells] at hcs
  obtain ⟨rfl,rfl,rfl⟩:=hcs
  exact ⟨none,0,[],rfl,.inl ⟨rfl,rfl⟩,Nat.le_refl _,Nat.zero_le _,fun r h=>by cases h⟩
 ·simp [Value.cells] at hcs
  obtain ⟨rfl,rfl,rfl⟩:=hcs
  have hh:W.has Tryz.prog .any base a 36 cap:=by
   have h1:=hv
   unfold Value.okWide at h1
   rw [Tryz.underlying23] at h1
   simp only [Cell.okWide,Tryz.underlying23,Cell.ok] at h1
   exact h1.2.2
  obtain ⟨-,hspot,row,cells,hsh,-⟩:=hh
  have hlt:a.block<W.heap.size:=by
   unfold World.shape? at hsh
   cases hq:W.heap[a.block]? with
   | none=>rw [hq] at hsh;cases hsh
   | some o=>exact (Array.getElem?_eq_some_iff.1 hq).1
  obtain ⟨ab,ao,asp⟩:=a
  dsimp only at hspot hlt
  subst hspot
  rw [zqE] at hi
  have H:∀i,i<len→∃r:U4,r.wf∧∀j u,(zaG r)[j]? =some u→W.cell? ((⟨ab,ao,none⟩:Addr).add (i*4) |>.add j)=some u:=fun i him=>by
   obtain ⟨cs',hc,ht⟩:=hi i (by rw [hmm];simp;omega)
   exact zr8 hc ht
  obtain ⟨f,hf'⟩:∃f:Nat→U4,∀i,i<len→(f i).wf∧∀j u,(zaG (f i))[j]? =some u→W.cell? ((⟨ab,ao,none⟩:Addr).add (i*4) |>.add j)=some u:=by
   classical
   refine ⟨fun i=>if h:i<len then Classical.choose (H i h) else default,fun i him=>?_⟩
   simp only [him,dif_pos]
   exact Classical.choose_spec (H i him)
  have hln:((List.range len).map f).length=len:=by simp
  have hlm:len≤9223372036854775807:=by
   have:cap≤9223372036854775807:=by simpa only [maxLen] using hm
   omega
  refine ⟨_,cap,(List.range len).map f,by rw [hln],.inr ⟨_,_,rfl,hlt,fun i x hx j u hu=>?_⟩,by rw [hln];exact hl,by rw [hln];exact hlm,fun r hr=>?_⟩
  ·rw [List.getElem?_map] at hx
   cases hr:(List.range len)[i]? with
   | none=>rw [hr] at hx;cases hx
   | some q=>
    rw [hr] at hx
    obtain ⟨hlt2,hq⟩:=List.getElem?_eq_some_iff.1 hr
    rw [List.getElem_range] at hq
    subst hq
    cases hx
    have h4:=(hf' i (by simpa using hlt2)).2 j u hu
    rw [Addr.add_lit,Addr.add_lit] at h4
    exact h4
  ·obtain ⟨i,hi',rfl⟩:=List.mem_map.1 hr
   exact (hf' i (by simpa using hi')).1
end
end Go.Proofs.YtedakhgaghfogaaGreat
