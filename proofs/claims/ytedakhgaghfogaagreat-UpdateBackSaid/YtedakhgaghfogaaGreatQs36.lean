/- Several texts in one, each with its own head. -/
import Derived.Test.YtedakhgaghfogaaGreatQs33
import Derived.Test.YtedakhgaghfogaaGreatQs31
import Derived.Test.YtedakhgaghfogaaGreatQs9
import Derived.Test.YtedakhgaghfogaaGreatQs30
import Derived.Test.YtedakhgaghfogaaGreatQs32
import Derived.Deep.AppendLies
import Derived.Test.YtedakhgaghfogaaGreatQs8
import Derived.Handy
import Derived.BigRegion
import Derived.Deep.RegionLaw
import Derived.Test.YtedakhgaghfogaaGreatQs29
import Derived.Test.YtedakhgaghfogaaGreatQs28
import Derived.Test.YtedakhgaghfogaaGreatQs34
import Derived.Test.YtedakhgaghfogaaGreatQs18
import Derived.Test.YtedakhgaghfogaaGreatQs35
import Derived.Test.YtedakhgaghfogaaGreatQs16
namespace Go.Proofs.YtedakhgaghfogaaGreat
section
open Go.RowKit
attribute [local go_sem] Oper.semAt_some
def plW (L:List Nat) (i n:Nat):List Value:=(List.range n).map fun j=>if j<i then pxv (L.getD j 0) else .int .u32 0
theorem zh6 (L:List Nat) (n:Nat):(madeCells #[Value.int .u32 0] n).toList=plW L 0 n:=by
 refine List.ext_getElem (by simp [plW,size_madeCells]) (fun i h1 h2=>?_)
 simp [madeCells,plW,Nat.mod_one]
theorem zjP (L:List Nat) (i n:Nat):(plW L i n).set i (pxv (L.getD i 0))=plW L (i+1) n:=by
 refine List.ext_getElem (by simp [plW]) (fun j h1 h2=>?_)
 rw [List.getElem_set]
 have hj:j<n:=by simpa [plW] using h2
 by_cases e:i=j
 ·subst e;simp [plW]
 ·simp only [e,if_false,plW,List.getElem_map,List.getElem_range]
  by_cases h:j<i
  ·rw [if_pos h,if_pos (by omega)]
  ·rw [if_neg h,if_neg (by omega)]
theorem ziw {L:List Nat} {n:Nat} (h:L.length=n):plW L n n=L.map pxv:=by
 refine List.ext_getElem (by simp [plW,h]) (fun j h1 h2=>?_)
 have hj:j<n:=by simpa [plW] using h1
 simp [plW,hj,List.getD_eq_getElem?_getD,h]
theorem zmB (L:List Nat) {i n:Nat} (h:i<n):(plW L i n)[i]? =some (.int .u32 0):=by
 simp [plW,h]
theorem znm {cs r:List Nat} {N:Nat} (h1:r.length=(N*plZ cs.length+7)/8) (h2:∀i,i<N→numB r/2^(plZ cs.length*i)%2^plZ cs.length<cs.length) (h3:numB r/2^(plZ cs.length*N)=0):plPx cs r N=some ((plG r (plZ cs.length) N).map fun v=>cs.getD v 0):=by
 unfold plPx
 rw [if_neg (by simpa using h1),if_neg,if_neg (by rw [Nat.mul_comm];simpa using h3)]
 rintro ⟨v,hv,hk⟩
 obtain ⟨i,hi,rfl⟩:=List.mem_map.1 hv
 have:=h2 i (List.mem_range.1 hi)
 omega
theorem zoA {cs r:List Nat} {N:Nat} (h:r.length≠(N*plZ cs.length+7)/8):plPx cs r N=none:=if_pos h
theorem znr {cs r:List Nat} {N i:Nat} (hi:i<N) (h:cs.length≤numB r/2^(plZ cs.length*i)%2^plZ cs.length):plPx cs r N=none:=by
 unfold plPx
 split
 ·rfl
 ·rw [if_pos ⟨_,List.mem_map.2 ⟨i,List.mem_range.2 hi,rfl⟩,h⟩]
theorem zph {cs r:List Nat} {N:Nat} (h:numB r/2^(plZ cs.length*N)≠0):plPx cs r N=none:=by
 unfold plPx
 split
 ·rfl
 ·split
  ·rfl
  ·rw [if_pos (by rw [Nat.mul_comm];exact h)]
set_option maxRecDepth 100000 in
set_option maxHeartbeats 8000000 in
theorem zfR (p q:Option Addr) (c d N:Nat) (r cs:List Nat) (w:World) (hp:RowAt enc8 1 w p r) (h8:∀x∈r,x<256) (hl:r.length≤1048576) (hlc:r.length≤c) (hc63:c≤maxLen) (hcn:c=0∨p≠none) (hq:RowAt encP 1 w q cs) (h0:0<cs.length) (hN:N≤65536):
  Calls Tryz.prog 100 #[.slice p r.length c,.slice q cs.length d,.int .i64 (N:Int)] w fun e w'=>Below w.heap.size w w'∧((plPx cs r N=none∧∃v1,e= .returned (.tuple #[v1,.bool false]))∨∃L v1,plPx cs r N=some L∧e= .returned (.tuple #[v1,.bool true])∧w'.ownsRow w.heap.size 51 1 v1 L.length (L.map pxv)):=by
 have hRw:Rw8 w (.slice p r.length c) r:=⟨⟨p,c,rfl,hlc,hc63,hp⟩,fun c' e=>by
  injection e with e1 e2 e3
  subst e1;subst e3
  rcases hcn with h | h
  ·exact h
  ·exact absurd rfl h⟩
 have Hnew:=Lib.hid (fun W hW=>zjT (.slice p r.length c) r W (hRw.below hW) h8 (by omega))
 have Hcs:=Lib.hid hq
 have h256:=zkq r h8
 rw [zd1] at h256
 have hz4:=zhW cs.length
 have Hw:=Lib.hid (fun w=>zfQ cs.length w)
 have PS:=Lib.hid (fun h1 h2 h3=>znm (cs:=cs) (r:=r) (N:=N) h1 h2 h3)
 have PF:=Lib.hid (fun h=>zoA (cs:=cs) (r:=r) (N:=N) h)
 have PW:=Lib.hid (fun i hi h=>znr (cs:=cs) (r:=r) (N:=N) (i:=i) hi h)
 have PB:=Lib.hid (fun h=>zph (cs:=cs) (r:=r) (N:=N) h)
 have HGl:=Lib.hid (zeu r (plZ cs.length) N)
 have HGa:=Lib.hid (fun i (hi:i<N)=>zmU r (plZ cs.length) N i (by rw [zeu];exact hi))
 obtain ⟨s,hs⟩:∃s,plZ cs.length=s:=⟨_,rfl⟩
 rw [hs] at hz4 Hw PS PF PW PB HGl HGa
 obtain ⟨K,hK⟩:∃k,cs.length=k:=⟨_,rfl⟩
 have HK:=Lib.hid hK
 rw [hK] at h0 Hw PS PW ⊢
 obtain ⟨n,hn⟩:∃k,r.length=k:=⟨_,rfl⟩
 have Hn:=Lib.hid hn
 have H256:=Lib.hid h256
 rw [hn] at hl hlc H256 PS PF Hnew ⊢
 have hsN:N*s≤262144:=by
  have:N*s≤65536*4:=Nat.mul_le_mul hN hz4
  omega
 obtain ⟨T,hT⟩:∃t,N*s=t:=⟨_,rfl⟩
 have hTi:(N:Int)*(s:Int)=(T:Int):=by rw [←hT];simp
 have hT2:s*N=T:=by rw [Nat.mul_comm];exact hT
 rw [hT] at hsN PS PF
 rw [hT2] at PS PB
 have HT:=Lib.hid hT2
 clear hp h8 hRw hq hs hK hn hcn hc63 h256 hT hT2
 go_enter Tryz.func100,Tryz.ntmps100
 go_wp2_with fail
 refine Calls.mono (Hw.out _) ?_
 rintro _ u ⟨rfl,rfl⟩
 by_cases hfew:n=(T+7)/8
 ·have hfi:(n:Int)=((T:Int)+8 - 1)/8:=by omega
  have d1:((n:Int) !=((T:Int)+8 - 1)/8)=false:=by simp [hfi]
  have Hfew:=Lib.hid hfew
  clear hfew hfi
  go_wp2_with fail
  refine Calls.mono (Hnew.out u (Below.refl _ _)) ?_
  rintro _ w1 ⟨B,sv,rfl,hrd,hb1,hB1,hsv1⟩
  have Hrd:=Lib.hid hrd
  have Hb1:=Lib.hid hb1
  have HB1:=Lib.hid hB1
  have Hsv1:=Lib.hid hsv1
  clear hrd hb1 hB1 hsv1 d1
  obtain ⟨nf,hj0,hj1,hj2,hj3⟩:=info_parts zbg
  go_wp2_with (refine wpList_make_full w1 rfl (.tmp 30) (.tmp 30) 24 rfl w1.heap.size 51 nf _ 1 Tryz.underlying24 hj0 hj1 hj2 .i64 .i64 (N:Int) (N:Int) N rfl rfl rfl rfl (by rw [hj3];omega) (by simp only [maxLen];omega) (Nat.le_refl _) ?_)
  intro w2 ho2 hg2
  obtain ⟨LL,hLL⟩:∃LL,(plG r s N).map (fun v=>cs.getD v 0)=LL:=⟨_,rfl⟩
  have hLlen:LL.length=N:=by rw [←hLL,List.length_map,HGl.out]
  have hLat:∀i,i<N→LL.getD i 0=cs.getD (numB r/2^(s*i)%2^s) 0:=fun i hi=>by
   rw [←hLL,List.getD_eq_getElem?_getD,List.getElem?_map,List.getElem?_eq_getElem (by rw [HGl.out];exact hi),HGa.out i hi]
   rfl
  have HLL:=Lib.hid hLL
  have HLlen:=Lib.hid hLlen
  have HLat:=Lib.hid hLat
  rw [zh6 LL] at ho2
  have hb2:Below w1.heap.size w1 w2:=(Turns.of_grown (T:=fun _=>False) hg2 (fun i e=>by cases e)).below (Nat.le_refl _) (fun i h=>h.elim)
  have Ho2:=Lib.hid ho2
  have Hrd2:=Lib.hid (Hrd.out.below hb2)
  have Hb2:=Lib.hid (Below.thn Hb1.out hb2)
  have HBg:Hid (B<w1.heap.size∧∀b,sv.ownBlock=some b→b<w1.heap.size):=Lib.hid ⟨Hrd.out.size,Hrd.out.row.lt⟩
  obtain ⟨gp,hgp⟩:∃g,w1.heap.size=g:=⟨_,rfl⟩
  have Hgp:=Lib.hid hgp
  rw [hgp] at Ho2 HBg ⊢
  have HBw:Hid (u.heap.size≤B∧u.heap.size≤gp):=Lib.hid ⟨HB1.out,by rw [←hgp];exact Hb1.out.size⟩
  clear ho2 hg2 hb2 hLL hLlen hLat hgp Hrd
  go_wp2_with fail
  go_loopw [34] (fun iv wr=> ∃i:Nat,iv= .int .i64 (i:Int)∧i≤N∧Hid (∀j,j<i→numB r/2^(s*j)%2^s<K)∧Hid (Rd wr B sv r (s*i))∧Hid (wr.ownsRow gp 51 1 (.slice (some ⟨gp,0,none⟩) N N) N (plW LL i N))∧Hid (Below u.heap.size u wr)) (fun iv _=>N - (intOf iv).toNat)
  case atStart=>exact ⟨0,rfl,Nat.zero_le _,Lib.hid (fun j hj=>by omega),Hrd2,Ho2,Hb2⟩
  case round=>
   obtain ⟨i,rfl,hi,HV,HR,HO,HB⟩:=hrel
   by_cases hin:i<N
   ·have d1:decide ((i:Int)<(N:Int))=true:=by simp;omega
    have hsi:s*i+s≤8*r.length:=by
     have h1:s*(i+1)≤s*N:=Nat.mul_le_mul_left _ (by omega)
     rw [Nat.mul_add,Nat.mul_one,HT.out] at h1
     have h2:=Hfew.out
     have h3:=Hn.out
     omega
    have Hget:=Lib.hid (zfS B (s*i) s sv r wr HR.out (by omega) hsi)
    have HVat:=HLat.out i hin
    have HPW:=PW.out i hin
    obtain ⟨v,hv⟩:∃v,numB r/2^(s*i)%2^s=v:=⟨_,rfl⟩
    rw [hv] at Hget HVat HPW
    have Hv:=Lib.hid hv
    have hv16:v<16:=by
     rw [←hv]
     have h1:=Nat.mod_lt (numB r/2^(s*i)) (zbz s)
     have h2:2^s≤2^4:=Nat.pow_le_pow_right (by decide) hz4
     omega
    have HPW:=Lib.hid HPW
    have HVat:=Lib.hid HVat
    clear hsi hv
    go_wp2_with fail
    refine Calls.mono Hget.out ?_
    rintro _ w3 ⟨rfl,hrd3,ht3⟩
    have hb3:Below u.heap.size u w3:=HB.out.trans (ht3.below HB.out.size (fun b (hb:b=B)=>by rw [hb];exact HBw.out.1))
    have ho3:=ht3.owns HO.out (fun b hb (e:b=B)=>by have:=(HO.out.lt b hb).1;have:=HBg.out.1;omega)
    have ww:IntKind.i64.wrap (v:Int)=(v:Int):=IntWalk.i64_in _ (by omega)
    by_cases hvK:K≤v
    ·have d2:decide ((v:Int)≥(K:Int))=true:=by simp;omega
     have hno:=HPW.out hvK
     have Hb3:=Lib.hid hb3
     clear hrd3 ht3 hb3 ho3
     go_wp2
     go_ret2
     exact ⟨Hb3.out,.inl ⟨hno,_,rfl⟩⟩
    ·have d2:decide ((v:Int)≥(K:Int))=false:=by simp;omega
     obtain ⟨gc,offc,rfl,hcc⟩:=Hcs.out.pxs (by rw [HK.out];exact h0)
     have x0:=cell_later hb3 (hcc v (by rw [HK.out];omega))
     obtain ⟨z,hz⟩:∃z,cs.getD v 0=z:=⟨_,rfl⟩
     rw [hz] at x0
     have hc0:=ho3.cellAt i (by omega)
     rw [zmB LL hin] at hc0
     have hf0:=ho3.frozenAt i
     have hst:=ho3.stored i (.int .u32 (z:Int))
     have hset:(plW LL i N).set i (.int .u32 (z:Int))=plW LL (i+1) N:=by
      rw [←zjP,HVat.out,hz];rfl
     rw [hset] at hst
     have Ho3:=Lib.hid hst.1
     have Ht4:=Turns.set (T:=fun b=>b=gp) (Turns.refl _ w3) (p:=⟨gp,i,none⟩) rfl (.int .u32 (z:Int))
     have Hrd4:Hid (Rd (w3.setCell ⟨gp,i,none⟩ (.int .u32 (z:Int))) B sv r (s*(i+1))):=Lib.hid (by
      rw [Nat.mul_add,Nat.mul_one]
      exact hrd3.turns Ht4 (by have:=HBg.out.1;omega) (fun b hb e=>by have:=HBg.out.2 b hb;omega))
     have Hb4:=Lib.hid (hb3.trans (Ht4.below hb3.size (fun b (hb:b=gp)=>by rw [hb];exact HBw.out.2)))
     have HV4:Hid (∀j,j<i+1→numB r/2^(s*j)%2^s<K):=Lib.hid (fun j hj=>by
      by_cases e:j=i
      ·subst e;rw [Hv.out];omega
      ·exact HV.out j (by omega))
     have k0:(0:Int)≤(i:Int):=by omega
     have k1:(i:Int)<(N:Int):=by omega
     have k2:(0:Int)≤(v:Int):=by omega
     have k3:(v:Int)<(K:Int):=by omega
     clear hrd3 ht3 hb3 ho3 hst hset Ht4 hz hcc HV HR HO HB Hget HVat HPW
     go_wp2
     go_roundw
     case rel=>exact ⟨i+1,by go_num,by omega,HV4,Hrd4,Ho3,Hb4⟩
     case measure=>simp [intOf];omega
   ·obtain rfl:i=N:=by omega
    have d1:decide ((i:Int)<(i:Int))=false:=by simp
    have hpos:=HR.out.pos
    obtain ⟨z,hz⟩:∃z,8*r.length - s*i=z:=⟨_,rfl⟩
    have hz7:z≤7:=by
     have h2:=Hfew.out
     have h3:=Hn.out
     have h4:=HT.out
     omega
    have Hleft:=zfe B (s*i) sv r wr HR.out
    rw [hz] at Hleft
    have Hleft:=Lib.hid Hleft
    have hfit:s*i+z≤8*r.length:=by omega
    have HgetL:=Lib.hid (fun W (hW:Rd W B sv r (s*i))=>zfS B (s*i) z sv r W hW (by omega) hfit)
    have hq0:numB r/2^(s*i)%2^z=numB r/2^(s*i):=Nat.mod_eq_of_lt (by
     refine Nat.div_lt_of_lt_mul ?_
     rw [←Nat.pow_add]
     have h:=H256.out
     have h3:=Hn.out
     rwa [show s*i+z=8*n by omega])
    rw [hq0] at HgetL
    obtain ⟨Q,hQ⟩:∃Q,numB r/2^(s*i)=Q:=⟨_,rfl⟩
    rw [hQ] at HgetL
    have hQ2:numB r/2^T=Q:=by rw [←HT.out];exact hQ
    have HQ2:=Lib.hid hQ2
    clear hpos hz hfit hq0 hQ hQ2
    go_wp2_with fail
    refine Calls.mono Hleft.out ?_
    rintro _ w3 ⟨rfl,hb3⟩
    have Hrd3:=Lib.hid (HR.out.below hb3)
    have Ho3:=Lib.hid ((Turns.of_below' (T:=fun _=>False) hb3).owns HO.out (fun _ _ h=>h))
    have Hb3:=Lib.hid (Below.thn HB.out hb3)
    clear hb3
    go_wp2_with fail
    refine Calls.mono (HgetL.out _ Hrd3.out) ?_
    rintro _ w4 ⟨rfl,hrd4,ht4⟩
    have Hb4:=Lib.hid (Hb3.out.trans (ht4.below Hb3.out.size (fun b (hb:b=B)=>by rw [hb];exact HBw.out.1)))
    have Ho4:=Lib.hid (ht4.owns Ho3.out (fun b hb (e:b=B)=>by have:=(Ho3.out.lt b hb).1;have:=HBg.out.1;omega))
    clear hrd4 ht4
    by_cases hQ0:Q=0
    ·have d2:((Q:Int)==0)=true:=by simp [hQ0]
     have hyes:=PS.out Hfew.out HV.out (by rw [HQ2.out];exact hQ0)
     rw [HLL.out] at hyes
     go_wp2
     go_ret2
     refine ⟨Hb4.out,.inr ⟨LL,_,hyes,rfl,?_⟩⟩
     have:=zao Ho4.out HBw.out.2
     rw [ziw HLlen.out] at this
     rw [HLlen.out]
     exact this
    ·have d2:((Q:Int)==0)=false:=by simp;omega
     have hno:=PB.out (by rw [HQ2.out];exact hQ0)
     go_wp2
     go_ret2
     exact ⟨Hb4.out,.inl ⟨hno,_,rfl⟩⟩
 ·have d1:((n:Int) !=((T:Int)+8 - 1)/8)=true:=by
   have:(n:Int)≠((T:Int)+8 - 1)/8:=by omega
   simpa using this
  have hno:=PF.out hfew
  go_wp2
  go_ret2
  exact ⟨Below.refl _ _,.inl ⟨hno,_,rfl⟩⟩
end
section
open Go.RowKit
attribute [local go_sem] Oper.semAt_some
set_option maxRecDepth 20000 in
set_option maxHeartbeats 4000000 in
theorem zju (p:Option Addr) (c:Nat) (l:List Nat) (w:World) (hp:RowAt encP 1 w p l) (h32:∀x∈l,x<4294967296) (hl:l.length≤1048576) (hlc:l.length≤c):
  Calls Tryz.prog 65 #[.slice p l.length c] w fun e w'=> ∃v',e= .returned (.tuple #[v',.bool (plE l).2])∧w'.ownsRow w.heap.size 5 1 v' (plE l).1.length ((plE l).1.map u8v)∧Below w.heap.size w w':=by
 have Hp:=Lib.hid hp
 have H32:=Lib.hid h32
 have Hcount:=Lib.hid (zk9 p c l w hp h32 hl)
 have Hno:=Lib.hid (fun h=>zl4 (l:=l) h)
 have Hyes:=Lib.hid (fun h=>zkm (l:=l) h)
 have Hlen:=Lib.hid (zjW hl)
 have Hnil:=Lib.hid (zlQ (l:=l))
 have Hin:Hid (∀x∈l,rlw x∈zae l):=Lib.hid (fun x hx=>(zcE l [] _).2 (.inr ⟨x,hx,rfl⟩))
 have Hlt:=Lib.hid (zfj l)
 have Hl:=Lib.hid (And.intro hl hlc)
 obtain ⟨E,hE⟩:∃E,plE l=E:=⟨_,rfl⟩
 rw [hE] at Hno Hyes Hlen ⊢
 obtain ⟨n,hn⟩:∃n,l.length=n:=⟨_,rfl⟩
 have Hn:=Lib.hid hn
 rw [hn] at Hcount ⊢
 obtain ⟨i0,hi0,hz0,hz1,hz2⟩:=info_parts zaw
 clear hp h32 hl hlc hE hn
 go_enter Tryz.func65,Tryz.ntmps65
 go_wp2_with fail
 refine Calls.mono Hcount.out ?_
 rintro _ w1 ⟨cs,v1,M,rfl,ho1,hm1,hM1,hb1,hcase⟩
 obtain ⟨v1p,v1c,rfl⟩:=zac ho1
 have Ho1:=Lib.hid (Row.ownP ho1)
 have Hm1:=Lib.hid hm1
 have Hb1:=Lib.hid hb1
 obtain ⟨k,hk⟩:∃k,cs.length=k:=⟨_,rfl⟩
 have Hk:=Lib.hid hk
 rw [hk] at hcase ⊢
 have Hcase:=Lib.hid hcase
 clear ho1 hm1 hM1 hb1 hcase hk Hcount
 by_cases h1:k<1
 ·have d1:decide ((k:Int)<1)=true:=by simp;omega
  have d1':decide (k<1)=true:=by simp;omega
  obtain rfl:E=([],false):=Hno.out (.inl (by
   rcases Hcase.out with ⟨h,-⟩ | ⟨h,-⟩
   ·rw [←h,Hk.out];exact h1
   ·omega))
  go_wp2
  go_ret2
  exact ⟨_,rfl,World.ownsRow_nil _ _ _ _,Hb1.out⟩
 have d1:decide ((k:Int)<1)=false:=by simp;omega
 by_cases h2:16<k
 ·have d2:decide ((k:Int)>16)=true:=by simp;omega
  obtain rfl:E=([],false):=Hno.out (.inr (by
   rcases Hcase.out with ⟨h,h'⟩ | ⟨-,-,h⟩
   ·omega
   ·exact h))
  go_wp2
  go_ret2
  exact ⟨_,rfl,World.ownsRow_nil _ _ _ _,Hb1.out⟩
 have d2:decide ((k:Int)>16)=false:=by simp;omega
 have hcs:cs=zae l:=by
  rcases Hcase.out with ⟨h,-⟩ | ⟨h,-⟩
  ·exact h
  ·omega
 subst hcs
 obtain rfl:E=(plH (zae l)++plT (zae l) l,true):=Hyes.out (by rw [Hk.out];omega)
 have Hn0:Hid (0<l.length):=Lib.hid (by
  rcases Nat.eq_zero_or_pos l.length with h | h
  ·have:=Hnil.out.2 (List.length_eq_zero_iff.1 h)
   rw [Hk.out] at this;omega
  ·exact h)
 obtain ⟨L1,hL1⟩:∃L,(plH (zae l)).length=L:=⟨_,rfl⟩
 obtain ⟨L2,hL2⟩:∃L,(plT (zae l) l).length=L:=⟨_,rfl⟩
 have HL1:=Lib.hid hL1
 have HL2:=Lib.hid hL2
 have Htc:=zfT v1p v1c (zae l) w1 Ho1.out.at'.1 Hlt.out (by rw [Hk.out];omega) (by rw [Hk.out];omega)
 rw [Hk.out,hL1] at Htc
 have Htc:=Lib.hid Htc
 clear hL1
 go_wp2_with fail
 refine Calls.mono Htc.out ?_
 rintro _ w2 ⟨v2,rfl,ho2,hb2⟩
 obtain ⟨v2p,v2c,rfl⟩:=zac ho2
 have Ho2:=Lib.hid ho2
 have Hb2:=Lib.hid hb2
 have Hbw2:=Lib.hid (Below.thn Hb1.out hb2)
 have Htn:=zfm p c M l (zae l) w2 (Hp.out.below Hbw2.out) H32.out Hl.out.1 Hl.out.2 (Hm1.out.below hb2) Hin.out (by rw [Hk.out];omega) Hn0.out
 rw [Hn.out,hL2] at Htn
 have Htn:=Lib.hid Htn
 clear ho2 hb2 Htc hL2
 go_wp2_with fail
 refine Calls.mono Htn.out ?_
 rintro _ w3 ⟨v3,rfl,ho3,hb3⟩
 obtain ⟨v3p,v3c,hv3⟩:=zac ho3
 obtain ⟨_,_,e3,-,-,hsrc⟩:=RwG.src (enc:=enc8) (k:=1) zca (by decide) (Rw8.own ho3 HL2.out.symm)
 rw [hv3] at e3
 injection e3 with e3a e3b e3c
 subst e3a
 subst e3c
 subst hv3
 clear e3b
 rw [zdr] at hsrc
 have Hsrc:=Lib.hid hsrc
 have Ho23:=Lib.hid ((Turns.of_below' (T:=fun _=>False) hb3).owns Ho2.out (fun _ _ h=>h))
 have Hb3:=Lib.hid hb3
 have Hlen':Hid ((plH (zae l)).length+(plT (zae l) l).length≤1048576):=Lib.hid (by
  have:=Hlen.out
  rw [List.length_append] at this
  exact this)
 rw [HL1.out,HL2.out] at Hlen'
 rw [HL2.out] at Hsrc
 have hsz:w1.heap.size≤w3.heap.size:=Nat.le_trans Hb2.out.size hb3.size
 clear ho3 hb3 hsrc Htn Ho2 Hlen Hyes Hno
 go_wp2_with (at_builtin;refine zai w3 rfl (.tmp 20) (.tmp 23) 28 rfl w1.heap.size 5 i0 _ 1 1 Tryz.underlying28 hi0 hz0 hz1 hz2 rfl (by decide) (.slice v2p L1 v2c) L1 ((plH (zae l)).map u8v) rfl Ho23.out v3p L2 v3c ((plT (zae l) l).map u8v) rfl (by rw [List.length_map,HL2.out,Nat.mul_one]) Hsrc.out (one8 _) ?n3 ?n4 hsz ?_)
 case n3=>have:=Hlen'.out;simp only [maxLen];omega
 case n4=>have:=Hlen'.out;omega
 intro v4 w4 ho4 hg4 _
 have Ho4:Hid (w4.ownsRow w.heap.size 5 1 v4 (plH (zae l)++plT (zae l) l).length ((plH (zae l)++plT (zae l) l).map u8v)):=Lib.hid (by
  rw [List.length_append,List.map_append,HL1.out,HL2.out]
  exact zao ho4 Hb1.out.size)
 have hb4:Below w1.heap.size w3 w4:=(Turns.of_grown (T:=fun k=>(Value.slice v2p L1 v2c).ownBlock=some k) hg4 (fun i e=>e)).below hsz (fun i h=>(Ho23.out.lt i h).1)
 have Hb4:Hid (Below w.heap.size w w4):=Lib.hid (Below.thn Hb1.out ((Below.thn Hb2.out Hb3.out).trans hb4))
 clear ho4 hg4 hb4
 go_wp2
 go_ret2
 refine ⟨_,rfl,?_,Hb4.out⟩
 have:=Ho4.out
 rw [List.length_append,List.map_append] at this
 exact this
theorem zrF {l:List Nat} {N:Int} (hN:¬(N<1∨65536<N)) (h:¬plQ l):plD l N=([],131):=ziD hN (Classical.not_not.1 h)
theorem zo7 {l:List Nat} {N:Nat} (hN:¬((N:Int)<1∨65536<(N:Int))) (h:plQ l) (hP:plPx (plK l) (l.drop (1+3*(lq l 0+1))) N=none):plD l N=([],131):=by
 rw [zf5 hN h,Int.toNat_natCast]
 have hP':plPx (zar ((l.drop 1).take (3*(l.getD 0 0+1)))) (l.drop (1+3*(l.getD 0 0+1))) N=none:=hP
 rw [hP']
theorem zoB {l L:List Nat} {N:Nat} (hN:¬((N:Int)<1∨65536<(N:Int))) (h:plQ l) (hP:plPx (plK l) (l.drop (1+3*(lq l 0+1))) N=some L):plD l N=(L,0):=by
 rw [zf5 hN h,Int.toNat_natCast]
 have hP':plPx (zar ((l.drop 1).take (3*(l.getD 0 0+1)))) (l.drop (1+3*(l.getD 0 0+1))) N=some L:=hP
 rw [hP']
set_option maxRecDepth 20000 in
set_option maxHeartbeats 4000000 in
theorem zi6 (p:Option Addr) (c:Nat) (l:List Nat) (N:Int) (w:World) (hp:RowAt enc8 1 w p l) (h8:∀x∈l,x<256) (hl:l.length≤1048576) (hlc:l.length≤c) (hc63:c≤maxLen):
  Calls Tryz.prog 66 #[.slice p l.length c,.int .i64 N] w fun e w'=> ∃v',e= .returned (.tuple #[v',.int .i64 (plD l N).2])∧w'.ownsRow w.heap.size 51 1 v' (plD l N).1.length ((plD l N).1.map pxv)∧Below w.heap.size w w':=by
 have Hread:=Lib.hid (zfX p c l w hp h8 hl hlc (by simp only [maxLen] at hc63;omega))
 have Harg:=Lib.hid (fun h=>zkz (b:=l) (n:=N) h)
 have H8:=Lib.hid h8
 have Hl:=Lib.hid hl
 obtain ⟨E,hE⟩:∃E,plD l N=E:=⟨_,rfl⟩
 have HE:=Lib.hid hE
 rw [hE] at Harg ⊢
 obtain ⟨n,hn⟩:∃n,l.length=n:=⟨_,rfl⟩
 have Hn:=Lib.hid hn
 rw [hn] at Hread hlc ⊢
 clear hp h8 hl hE hn
 go_enter Tryz.func66,Tryz.ntmps66
 by_cases h1:N<1
 ·have d1:decide (N<1)=true:=by simpa using h1
  obtain rfl:E=([],1):=Harg.out (.inl h1)
  go_wp2
  go_ret2
  exact ⟨_,rfl,World.ownsRow_nil _ _ _ _,Below.refl _ _⟩
 have d1:decide (N<1)=false:=by simp;omega
 by_cases h2:65536<N
 ·have d2:decide (N>65536)=true:=by simp;omega
  obtain rfl:E=([],1):=Harg.out (.inr h2)
  go_wp2
  go_ret2
  exact ⟨_,rfl,World.ownsRow_nil _ _ _ _,Below.refl _ _⟩
 have d2:decide (N>65536)=false:=by simp;omega
 obtain ⟨m,rfl⟩:∃m:Nat,N=(m:Int):=⟨N.toNat,by omega⟩
 have hm:m≤65536:=by omega
 have HN:Hid (¬((m:Int)<1∨65536<(m:Int))):=Lib.hid (by omega)
 go_wp2_with fail
 refine Calls.mono Hread.out ?_
 rintro _ w1 ⟨hb1,hr⟩
 have Hb1:=Lib.hid hb1
 clear h1 h2 d1 d2 hb1 Hread
 rcases hr with ⟨hq,v1,v2,rfl⟩ | ⟨hq,v1,p',c',rfl,ho1,hr1,hc1,hc2,hcn⟩
 ·obtain rfl:E=([],131):=by rw [←HE.out];exact zrF HN.out hq
  go_wp2
  go_ret2
  exact ⟨_,rfl,World.ownsRow_nil _ _ _ _,Hb1.out⟩
 obtain ⟨R,hR⟩:∃R,l.drop (1+3*(lq l 0+1))=R:=⟨_,rfl⟩
 have hRl:R.length=n - (1+3*(lq l 0+1)):=by rw [←hR,List.length_drop,Hn.out]
 have hR8:∀x∈R,x<256:=fun x hx=>H8.out x (by rw [←hR] at hx;exact List.mem_of_mem_drop hx)
 have hq2:¬(l.length=0∨16≤lq l 0∨l.length<1+3*(lq l 0+1)):=hq
 have hKl:0<(plK l).length:=by rw [zgn (by omega)];omega
 obtain ⟨q1,cq,hv1⟩:=zac ho1
 subst hv1
 have hro:=(Row.ownP ho1).at'.1
 have Hpix:=zfR p' q1 c' cq m R (plK l) w1 (by rw [←hR];exact hr1) hR8 (by rw [←hR,List.length_drop];have:=Hl.out;omega) (by rw [hRl];exact hc1) (Nat.le_trans hc2 hc63) (.inr hcn) hro hKl hm
 rw [hRl] at Hpix
 have Hpix:=Lib.hid Hpix
 have Hq:=Lib.hid hq
 have HR:=Lib.hid hR
 obtain ⟨t,ht⟩:∃t,n - (1+3*(lq l 0+1))=t:=⟨_,rfl⟩
 obtain ⟨kk,hkk⟩:∃t,(plK l).length=t:=⟨_,rfl⟩
 rw [ht,hkk] at Hpix
 rw [ht,hkk]
 clear hR hRl hR8 hq2 hKl hq hr1 hc1 hc2 hcn hro ho1 ht hkk
 go_wp2_with fail
 refine Calls.mono Hpix.out ?_
 rintro _ w2 ⟨hb2,hr⟩
 have Hb2:=Lib.hid (Below.thn Hb1.out hb2)
 rcases hr with ⟨hP,v1,rfl⟩ | ⟨L,v1,hP,rfl,ho⟩
 ·obtain rfl:E=([],131):=by rw [←HE.out];exact zo7 HN.out Hq.out (by rw [HR.out];exact hP)
  clear hb2 Hpix
  go_wp2
  go_ret2
  exact ⟨_,rfl,World.ownsRow_nil _ _ _ _,Hb2.out⟩
 ·obtain rfl:E=(L,0):=by rw [←HE.out];exact zoB HN.out Hq.out (by rw [HR.out];exact hP)
  have Ho:=Lib.hid (zao ho Hb1.out.size)
  clear hb2 Hpix ho
  go_wp2
  go_ret2
  exact ⟨_,rfl,Ho.out,Hb2.out⟩
end
section
open Go.RowKit
attribute [local go_sem] Oper.semAt_some
end
section
open Go.RowKit
attribute [local go_sem] Oper.semAt_some
end
section
open Go.RowKit
attribute [local go_sem] Oper.semAt_some
end
section
open Go.RowKit
attribute [local go_sem] Oper.semAt_some
end
section
open Go.RowKit
attribute [local go_sem] Oper.semAt_some
end
section
open Go.RowKit
attribute [local go_sem] Oper.semAt_some
end
section
open Go.RowKit
attribute [local go_sem] Oper.semAt_some
theorem InfRp.byte {D l:List Nat} {lim a x:Nat} {o:List Nat} {r:InfSt} (h:InfRp D l lim a x o r) (h0:∀b∈o,b<256):∀a' o',r= .go a' o'→∀b∈o',b<256:=by
 intro a' o' e
 cases h<;>cases e
 exact zh4 h0
theorem InfToks.byte {A D l:List Nat} {lim a:Nat} {o:List Nat} {r:InfSt} (h:InfToks A D l lim a o r):(∀b∈o,b<256)→∀a' o',r= .go a' o'→∀b∈o',b<256:=by
 induction h with
 | fin a a' o h=>intro h0 x y e;cases e;exact h0
 | no=>intro h0 x y e;cases e
 | more a a' o o' r h h1 ih=>
  intro h0 x y e
  refine ih ?_ x y e
  cases h with
  | byte x s h hx h2=>
   intro b hb
   rcases List.mem_append.1 hb with hb | hb
   ·exact h0 b hb
   ·rw [List.mem_singleton.1 hb];exact hx
  | rep x s r h h1 h2=>exact h2.byte h0 _ _ rfl
theorem InfBk.byte {l:List Nat} {lim a:Nat} {o:List Nat} {r:InfSt} (h:InfBk l lim a o r) (h0:∀b∈o,b<256):∀a' o',r= .go a' o'→∀b∈o',b<256:=by
 intro a' o' e
 cases h with
 | few=>cases e
 | stored h h1 r h2=>
  subst e
  cases h2
  intro b hb
  rcases List.mem_append.1 hb with hb | hb
  ·exact h0 b hb
  ·obtain ⟨i,-,rfl⟩:=List.mem_map.1 hb
   exact zaS _ _ 8
 | fixed h h1 r h2=>exact h2.byte h0 _ _ e
 | bad=>cases e
 | dyn h h1 n a1 ls h2 r h3=>exact h3.byte h0 _ _ e
 | unknown=>cases e
theorem InfBl.byte {l:List Nat} {lim a:Nat} {o:List Nat} {r:InfSt} (h:InfBl l lim a o r):(∀b∈o,b<256)→∀a' o',r= .go a' o'→∀b∈o',b<256:=by
 induction h with
 | few=>intro h0 a' o' e;cases e
 | no=>intro h0 a' o' e;cases e
 | last a o h h1 a1 o1 h2=>intro h0 a' o' e;injection e with e1 e2;subst e2;exact h2.byte h0 _ _ rfl
 | more a o h h1 a1 o1 h2 r h3 ih=>intro h0 a' o' e;exact ih (h2.byte h0 _ _ rfl) a' o' e
theorem Infl.told {l:List Nat} {limit:Int} {o:List Nat} {k:Nat} {er:Int} (h:Infl l limit o k er):(∀b∈o,b<256)∧o.length≤524288:=by
 cases h with
 | arg=>exact ⟨fun b hb=>(by cases hb),by simp⟩
 | no=>exact ⟨fun b hb=>(by cases hb),by simp⟩
 | go lim a o h h1 h2=>
  exact ⟨h2.byte (fun b hb=>by cases hb) _ _ rfl,Nat.le_trans (h2.fits (Nat.zero_le _) _ _ rfl) h1⟩
set_option maxRecDepth 20000 in
set_option maxHeartbeats 4000000 in
theorem zfM (p:Option Addr) (c:Nat) (l:List Nat) (w:World) (hp:RowAt encP 1 w p l) (h32:∀x∈l,x<4294967296) (hl:l.length≤65536):
  Calls Tryz.prog 67 #[.slice p l.length c] w fun e w'=> ∃v' S,e= .returned (.tuple #[v',.bool true])∧DefS (cdP l) S∧S.length≤1048576∧w'.ownsRow w.heap.size 5 1 v' S.length (S.map u8v)∧Below w.heap.size w w':=by
 have H:=zdi p c l w hp h32 (by omega)
 have HL:=Lib.hid (show (cdP l).length≤524288 by rw [zbc];omega)
 clear hp h32
 go_enter Tryz.func67,Tryz.ntmps67
 go_wp2_with fail
 refine Calls.mono H ?_
 rintro _ w1 ⟨v1,rfl,ho1,hb1⟩
 have hr:=Rw8.own ho1 rfl
 obtain ⟨p1,c1,rfl⟩:=zac ho1
 have Hb1:=Lib.hid hb1
 have HD:=zjp _ (cdP l) w1 hr (zet l) HL.out
 clear ho1 hr hb1 H
 go_wp2_with fail
 refine Calls.mono HD ?_
 rintro _ w2 ⟨v2,S,rfl,hS,hl2,ho2,hb2⟩
 obtain ⟨p2,c2,rfl⟩:=zac ho2
 go_wp2
 go_ret2
 exact ⟨_,S,rfl,hS,hl2,zao ho2 Hb1.out.size,Below.thn Hb1.out hb2⟩
set_option maxRecDepth 20000 in
set_option maxHeartbeats 4000000 in
theorem zf1 (p:Option Addr) (c:Nat) (l:List Nat) (k:Nat) (w:World) (hv:Rw8 w (.slice p l.length c) l) (h8:∀x∈l,x<256) (hl:l.length≤1048576) (hk1:1≤k) (hk:k≤65536):
  Calls Tryz.prog 68 #[.slice p l.length c,.int .i64 (k:Int)] w fun e w'=>Below w.heap.size w w'∧∃r,CdR 4 l k r∧((r=none∧∃er:Int,er≠0∧e= .returned (.tuple #[.slice none 0 0,.int .i64 er]))∨∃L v,r=some L∧e= .returned (.tuple #[v,.int .i64 0])∧w'.ownsRow w.heap.size 51 1 v L.length (L.map pxv)):=by
 have H:=zoo _ l ((3*k:Nat):Int) w hv h8 (by omega)
 obtain ⟨n,hn⟩:∃n,l.length=n:=⟨_,rfl⟩
 have Hn:=Lib.hid hn
 rw [hn] at H hl ⊢
 obtain ⟨q,hq⟩:∃q,3*k=q:=⟨_,rfl⟩
 have Hq:=Lib.hid hq
 rw [hq] at H
 have he3:(k:Int)*3=(q:Int):=by omega
 have hw0:IntKind.i64.wrap ((k:Int)*3)=(q:Int):=by rw [he3];exact IntWalk.i64_in _ (by omega)
 have hw1:IntKind.i64.wrap (q:Int)=(q:Int):=IntWalk.i64_in _ (by omega)
 clear hv h8 hn hq
 go_enter Tryz.func68,Tryz.ntmps68
 go_wp2_with fail
 refine Calls.mono H ?_
 rintro _ w1 ⟨o,m,er,ov,hi,rfl,ho1,hb1⟩
 have HI:=Lib.hid hi
 have Hb1:=Lib.hid hb1
 have HC:Hid (∀r,(r=if er=0∧m=n∧o.length=q then some (zar o) else none)→CdR 4 l k r):=Lib.hid (fun r hr=> .inr (.inr (.inr ⟨rfl,o,m,er,by rw [Hq.out];exact hi,by rw [hr,Hn.out,Hq.out]⟩)))
 have ht:=hi.told
 have hrr:=(Rw8.own ho1 rfl).row
 obtain ⟨p1,c1,rfl⟩:=zac ho1
 have Hr:=Lib.hid hrr.at'
 clear hi hb1 H ho1 hrr
 by_cases he:er=0
 case neg=>
  have d1:(er !=0)=true:=by simpa using he
  go_wp2
  go_ret2
  exact ⟨Hb1.out,none,HC.out none (by rw [if_neg (fun h=>he h.1)]),.inl ⟨rfl,er,he,rfl⟩⟩
 subst he
 by_cases hm:m=n
 case neg=>
  have d2:((m:Int) !=(n:Int))=true:=by simp;omega
  go_wp2
  go_ret2
  exact ⟨Hb1.out,none,HC.out none (by rw [if_neg (fun h=>hm h.2.1)]),.inl ⟨rfl,131,by decide,rfl⟩⟩
 subst hm
 have d2:((m:Int) !=(m:Int))=false:=by simp
 have HR:=zdc p1 c1 o k w1 Hr.out.1 ht.1 (by omega) Hr.out.2 hk1 hk
 rw [Hq.out] at HR
 go_wp2_with fail
 refine Calls.mono HR ?_
 rintro _ w2 ⟨hb2,⟨h1,rfl⟩ | ⟨h1,v,rfl,ho2⟩⟩
 ·go_wp2
  go_ret2
  exact ⟨Below.thn Hb1.out hb2,none,HC.out none (by rw [if_neg (fun h=>h1 h.2.2)]),.inl ⟨rfl,131,by decide,rfl⟩⟩
 ·go_wp2
  go_ret2
  exact ⟨Below.thn Hb1.out hb2,some (zar o),HC.out _ (by simp [h1]),.inr ⟨_,_,rfl,rfl,zao ho2 Hb1.out.size⟩⟩
end
section
open Go.RowKit
attribute [local go_sem] Oper.semAt_some
def wysL:List Value:=[.func (.func 61) #[] #[],.func (.func 62) #[] #[],.func (.func 63) #[] #[],.func (.func 64) #[] #[],.func (.func 65) #[] #[],.func (.func 66) #[] #[],.func (.func 67) #[] #[],.func (.func 68) #[] #[]]
set_option maxRecDepth 20000 in
theorem zgW (a b:Int) (w:World):Calls Tryz.prog 39 #[.int .i64 a,.int .i64 b] w fun e w'=>e= .returned (.bool (decide (1≤a∧1≤b∧a≤256∧b≤256)))∧w'=w:=by
 have hmin:=fun w=>zpz #[3,3] 3 .i64 .i64 a b w
 have hmax:∀w:World,(Builtin.max_ #[3,3] 3 #[.int .i64 a,.int .i64 b]).run Tryz.prog w= .ok (.int .i64 (max a b)) w:=fun w=>by
  rw [run_max_int2];congr 2;split<;>omega
 obtain ⟨x,hx⟩:∃x,min a b=x:=⟨_,rfl⟩
 obtain ⟨y,hy⟩:∃y,max a b=y:=⟨_,rfl⟩
 rw [hx] at hmin
 rw [hy] at hmax
 have e:(decide (1≤a∧1≤b∧a≤256∧b≤256))=(decide (x≥1) && decide (y≤256)):=by
  rw [←Bool.decide_and]
  congr 1
  apply propext
  omega
 rw [e]
 clear e hx hy
 go_enter Tryz.func39,Tryz.ntmps39
 obtain ⟨p,hp⟩:∃p,decide (x≥1)=p:=⟨_,rfl⟩
 cases p
 ·go_wp2
  go_ret
  exact ⟨by rw [hp];rfl,rfl⟩
 ·go_wp2
  go_ret
  exact ⟨by rw [hp];simp,rfl⟩
theorem ziY {fn:Func} {p:Tmp} {tmps:Array Value} {w:World} {B:Nat} (h:fn.results=#[.cell p 72]) (hp:tmps.getD p undef= .pointer (some ⟨B,0,none⟩)) (hc:∀i u,wysL[i]? =some u→w.cell? ⟨B,i,none⟩=some u):(results fn tmps).run Tryz.prog w= .ok (.agg wysL.toArray) w:=by
 have hp':tmps[p]?.getD undef= .pointer (some ⟨B,0,none⟩):=by simpa using hp
 have c0:=hc 0 _ rfl
 have c1:=hc 1 _ rfl
 have c2:=hc 2 _ rfl
 have c3:=hc 3 _ rfl
 have c4:=hc 4 _ rfl
 have c5:=hc 5 _ rfl
 have c6:=hc 6 _ rfl
 have c7:=hc 7 _ rfl
 simp [results,h,hp',go_sem,c0,c1,c2,c3,c4,c5,c6,c7,wysL]
set_option maxRecDepth 20000 in
theorem ziG (w:World):Makes Tryz.prog 40 #[] w (.agg wysL.toArray):=by
 unfold Makes
 have hz:=World.alloc_heap_new w (.cells #[.nilFunc,.nilFunc,.nilFunc,.nilFunc,.nilFunc,.nilFunc,.nilFunc,.nilFunc] 72)
 have hb:=Below.al1 w (.cells #[.nilFunc,.nilFunc,.nilFunc,.nilFunc,.nilFunc,.nilFunc,.nilFunc,.nilFunc] 72)
 go_enter Tryz.func40,Tryz.ntmps40
 go_upto_region 1 with (fail)
 generalize w.alloc (.cells #[.nilFunc,.nilFunc,.nilFunc,.nilFunc,.nilFunc,.nilFunc,.nilFunc,.nilFunc] 72)=W at *
 refine wp_region_lit ?_
 iterate 5
  refine wpList_plain rfl fun K hK=>?_
  go_simp
  refine hK _ _ ?_
  clear hK K
 refine wpList_store_rowTo rfl 72 _ _ rfl rfl w.heap.size wysL.toArray rfl rfl 72 _ hz (by kernel_rfl) (by kernel_rfl) (by kernel_rfl) ?_
 have ho:(W.setRow w.heap.size wysL.toArray).heap[w.heap.size]? =some (.cells wysL.toArray 72):=setRow_heap _ _ _ _ _ _ hz
 have hb1:Below w.heap.size w (W.setRow w.heap.size wysL.toArray):=below_setRow hb (Nat.le_refl _) _
 generalize W.setRow w.heap.size wysL.toArray=W2 at *
 clear hz hb
 go_wp2
 exact bodyPost_ret (ziY rfl rfl (fun i u hu=>zaa ho (by simpa using hu))) rfl ⟨rfl,hb1⟩
end
end Go.Proofs.YtedakhgaghfogaaGreat
