/- Several texts in one, each with its own head. -/
import Derived.Test.YtedakhgaghfogaaGreatQs34
import Derived.Test.YtedakhgaghfogaaGreatQs28
import Derived.BigQuiet
import Derived.Test.YtedakhgaghfogaaGreatQs21
import Derived.Test.YtedakhgaghfogaaGreatQs18
import Derived.Laws.BytesArg
import Derived.Lib.SlBytesConst
namespace Go.Proofs.YtedakhgaghfogaaGreat
section
open Go.RowKit Go.Maps
theorem zrx {ts:List Tk} (hx:∀t∈ts,t.okB=true∧t.b<256):∀x∈pasT ts,x.c<2∧x.s<two 286 30 x.c:=by
 intro x hxm
 rcases List.mem_append.1 hxm with hxm | hxm
 ·obtain ⟨t,ht,hxt⟩:=List.mem_flatMap.1 hxm
  obtain ⟨h1,h2⟩:=hx t ht
  unfold paT at hxt
  by_cases h0:t.n=0
  ·rw [if_pos h0,List.mem_singleton] at hxt
   subst hxt
   exact ⟨Nat.zero_lt_two,by show t.b<286;omega⟩
  ·rw [if_neg h0] at hxt
   rcases zcH h1 with e | ⟨n,d,e1,e2,n1,n2,n3,n4⟩
   ·exact absurd e h0
   ·have f1:t.n.toNat=n:=by omega
    have f2:t.d.toNat=d:=by omega
    rw [f1,f2] at hxt
    obtain ⟨s1,s2,-⟩:=zbQ n (by omega) n1
    obtain ⟨r1,-⟩:=zbx n3 n4
    rcases List.mem_cons.1 hxt with rfl | hxt
    ·exact ⟨Nat.zero_lt_two,by show zal n<286;omega⟩
    ·rw [List.mem_singleton] at hxt
     subst hxt
     exact ⟨Nat.one_lt_two,by show zaq d<30;omega⟩
 ·rw [List.mem_singleton] at hxm
  subst hxm
  exact ⟨Nat.zero_lt_two,by show 256<286;decide⟩
theorem zkh:∀{ts:List Tk},(∀t∈ts,t.okB=true)→(pasT ts).length≤(ts.map Tk.size).sum+1
 | [],_=>by show 1≤0+1;omega
 | t::r,h=>by
  have e:pasT (t::r)=paT t++pasT r:=by unfold pasT;rw [List.flatMap_cons,List.append_assoc]
  have h2:=zkh (ts:=r) fun x hx=>h x (List.mem_cons_of_mem _ hx)
  have h1:(paT t).length≤t.size:=by
   rcases zcH (h t List.mem_cons_self) with h0 | ⟨n,d,e1,e2,n1,n2,n3,n4⟩
   ·unfold paT Tk.size
    rw [if_pos h0,h0]
    simp
   ·have h0:t.n≠0:=by omega
    unfold paT Tk.size
    rw [if_neg h0]
    have f1:t.n.toNat=n:=by omega
    first | (rw [if_neg h0];simp only [List.length_cons,List.length_nil];omega) | (simp;omega)
  rw [e,List.length_append,List.map_cons,List.sum_cons]
  omega
theorem zrj {ts:List Tk} {P:Pt} (h:DynF ts P) (hx:∀t∈ts,t.okB=true∧t.b<256):szP P≤15*(ts.map Tk.size).sum+7100:=by
 obtain ⟨gA,gD,gC,hA,hD,hC,rfl⟩:=h.ex
 have cA:=zaZ hA.1 (by decide) (by decide)
 have cD:=zaZ hD.1 (by decide) (by decide)
 have K:=DynK.of (gl gC 19) (zap gA 286) (zap gD 30) cA cD
 obtain ⟨-,-,-,-,r4⟩:=zdp K.h16 hC.1
 have s1:=zkd K.x1.2 K.y1.2 K.k.2 r4
 have s2:=zfA (zb6 cA) (zb6 cD) (ts:=ts) fun t ht=>(hx t ht).1
 unfold dynP
 simp only [zaj,szP]
 omega
set_option maxRecDepth 20000 in
set_option maxHeartbeats 4000000 in
theorem zim {G:Nat→Prop} {W:World} {base B:Nat} (vb:Value) (p:Option Addr) (c:Nat) (ts:List Tk) (w:World) (h:WrY G base B [] W w) (hp:RowAt encT 3 W p ts) (hG:∀a,p=some a→G a.block) (hx:∀t∈ts,t.okB=true∧t.b<256) (hl:ts.length≤1048576) (hm:(ts.map Tk.size).sum≤524288):
  Calls Tryz.prog 144 #[.agg #[vb,.slice p ts.length c],.pointer (some ⟨B,0,none⟩)] w fun e w'=> ∃P,e= .returned (.tuple #[])∧DynF ts P∧WrY G base B P W w':=by
 have HGW:Hid (∀b,G b→b<W.heap.size):=Lib.hid fun b hb=>by obtain ⟨_,_,_,_,_,h5⟩:=h;exact (h5 b hb).2.2
 have H:=Lib.hid h
 have Hp:=Lib.hid hp
 have HG:=Lib.hid hG
 have Hx:=Lib.hid hx
 have Hm:=Lib.hid hm
 obtain ⟨n,hn⟩:∃n,ts.length=n:=⟨_,rfl⟩
 have Hn:=Lib.hid hn
 rw [hn] at hl ⊢
 clear h hp hG hx hm hn
 go_enter Tryz.func144,Tryz.ntmps144
 go_wp2_with fail
 have hb0:=Below.al1 w (.cells #[vb,.slice p n c] 180)
 have hz0:=World.alloc_heap_new w (.cells #[vb,.slice p n c] 180)
 have hs0:(w.alloc (.cells #[vb,.slice p n c] 180)).heap.size=w.heap.size+1:=World.size_alloc _ _
 have hY:=H.out.more hb0
 have hWw:W.heap.size≤w.heap.size:=H.out.turns.size
 generalize w.alloc (.cells #[vb,.slice p n c] 180)=w1 at *
 obtain ⟨Z,hZ⟩:∃Z,w.heap.size=Z:=⟨_,rfl⟩
 rw [hZ] at hz0 hs0 hY hWw ⊢
 have HF:Hid (WrF (fun b=>G b∨Z≤b∧b<w1.heap.size) w1 (fun w'=>w'.heap[Z]? =some (.cells #[vb,.slice p n c] 180)) base B [] w1):=Lib.hid (WrF.start hY fun w' ht=>(ht.block Z (by omega) (fun h=>h (.inr ⟨Nat.le_refl _,by omega⟩))).trans hz0)
 have HT1:Hid (Turns (fun b=> ¬G b) W w1):=Lib.hid (H.out.turns.trans (Turns.of_below' hb0))
 have Hs1:=Lib.hid hs0
 clear hb0 hz0 hs0 hY
 refine Calls.mono (zd9 (kind:=2) true HF.out (by decide) (by decide)) ?_
 rintro _ w2 ⟨rfl,hF2⟩
 have hz2:w2.heap[Z]? =some (.cells #[vb,.slice p n c] 180):=hF2.now
 have HY2:=Lib.hid hF2.done
 have x1:w2.cell? ⟨Z,1,none⟩=some (.slice p n c):=zaa hz2 rfl
 have hs2:Z<w2.heap.size:=zab hz2
 clear hF2 HF
 go_wp2_with fail
 refine Calls.mono (zd2 p n c w2) ?_
 rintro _ w3 ⟨rfl,rfl⟩
 have Hb3:=Lib.hid (Below.al1 w2 (.cells #[.slice p n c] 177))
 have Hz3:=Lib.hid (World.alloc_heap_new w2 (.cells #[.slice p n c] 177))
 have Hs3:Hid ((w2.alloc (.cells #[.slice p n c] 177)).heap.size=w2.heap.size+1):=Lib.hid (World.size_alloc _ _)
 generalize w2.alloc (.cells #[.slice p n c] 177)=w3 at *
 obtain ⟨Y,hY⟩:∃Y,w2.heap.size=Y:=⟨_,rfl⟩
 have hu3:w3.heap.size=Y+1:=by have:=Hs3.out;omega
 rw [hY] at Hz3 hs2
 rw [hY]
 have HYe:=Lib.hid hY
 have Hz2:=Lib.hid hz2
 clear hY Hs3 hz2 x1
 go_wp2_with fail
 have hb4:=Below.al1 w3 (.cells #[.int .i64 286,.int .i64 30] 3)
 have hc40:(w3.alloc (.cells #[.int .i64 286,.int .i64 30] 3)).cell? ⟨w3.heap.size,0,none⟩=some (.int .i64 ((286:Nat):Int)):=zaa (World.alloc_heap_new _ _) rfl
 have hc41:(w3.alloc (.cells #[.int .i64 286,.int .i64 30] 3)).cell? ⟨w3.heap.size,1,none⟩=some (.int .i64 ((30:Nat):Int)):=zaa (World.alloc_heap_new _ _) rfl
 have hBl4:=cell_later hb4 (zaa (i:=0) Hz3.out rfl)
 have HB24:=Lib.hid (Below.thn Hb3.out hb4)
 have HY3:Hid (WrY (fun b=>G b∨Z≤b∧b<w1.heap.size) base B [(1,1),(2,2)] w1 w2):=Lib.hid (HY2.out.congr (by simp))
 have HTg:Hid (∀w',Below w2.heap.size w2 w'→Turns (fun b=> ¬G b) W w'):=Lib.hid fun w' hb=>(HT1.out.trans (HY3.out.turns.mono fun i _ hi hg=>hi (.inl hg))).trans (Turns.of_below' hb)
 have hT4:=HTg.out _ HB24.out
 have hRow4:RowAt encT 3 (w3.alloc (.cells #[.int .i64 286,.int .i64 30] 3)) p ts:=Hp.out.turns hT4 fun a ha h=>h (HG.out a ha)
 have hpl4:∀a,p=some a→a.block<(w3.alloc (.cells #[.int .i64 286,.int .i64 30] 3)).heap.size:=fun a ha=>Nat.lt_of_lt_of_le (HGW.out _ (HG.out a ha)) hT4.size
 have hs4:(w3.alloc (.cells #[.int .i64 286,.int .i64 30] 3)).heap.size=w3.heap.size+1:=World.size_alloc _ _
 have hit:=zel Y p c ts (w3.alloc (.cells #[.int .i64 286,.int .i64 30] 3)) (fun b=>b=Y∨∃a,p=some a∧a.block=b) (by rw [Hn.out];exact hBl4) hRow4 Hx.out (by rw [Hn.out];exact hl) (fun b hb=>by
  rcases hb with rfl | ⟨a,ha,rfl⟩
  ·omega
  ·exact hpl4 a ha) (.inl rfl) (fun a ha=> .inr ⟨a,ha,rfl⟩)
 have hpl:=zkh (ts:=ts) fun t ht=>(Hx.out t ht).1
 have hbc:=zg5 174 #[.pointer (some ⟨Y,0,none⟩)] (pasT ts) 15 w3.heap.size 2 2 (two 286 30) (w3.alloc (.cells #[.int .i64 286,.int .i64 30] 3)) (enters_of Tryz.func174 (by kernel_rfl) rfl) hit (fun b hb=>by
  rcases hb with rfl | ⟨a,ha,rfl⟩
  ·omega
  ·exact hpl4 a ha) (by decide) (fun j hj=>by
   rcases (show j=0∨j=1 by omega) with rfl | rfl
   ·exact hc40
   ·exact hc41) (fun j _=>by unfold two;split<;>decide) (zrx Hx.out) (by have:=Hm.out;omega) (by decide) (fun j _=>by unfold two;split<;>decide) (fun j _=>zh3 (by unfold two;split<;>decide) (by have:=Hm.out;omega) (by decide) (by decide) (by unfold two;split<;>decide))
 rw [hu3] at hbc
 have Hbc:=Lib.hid hbc
 generalize w3.alloc (.cells #[.int .i64 286,.int .i64 30] 3)=w4 at *
 clear hb4 hc40 hc41 hBl4 hit hbc hpl hT4 hRow4 hpl4 Hb3 Hz3 HY2
 refine Calls.mono Hbc.out ?_
 rintro _ w5 ⟨vc,gg,fga,fca,fgc,fcc,rfl,hB,hb5⟩
 obtain ⟨g,cp,cur5,xa,ya,xc,yc,xa',ya',xc',yc',rfl,hg5,hz5,⟨k0,k1,k2,k3⟩,hC,hD,hBA,hBD⟩:=hB.both (n0:=286) (n1:=30) (by rw [zaB];rfl) (by rw [zaB];rfl)
 have HBest:Hid (BestOf (ctZ (cntP (pasT ts) 0) 286) 15 (gg 0)∧BestOf (ctZ (cntP (pasT ts) 1) 30) 15 (gg 1)):=Lib.hid ⟨hBA,hBD⟩
 have Hb5:=Lib.hid (Below.thn HB24.out hb5)
 have x0:w5.cell? ⟨g,0,none⟩=some (.slice (some ⟨xa,0,none⟩) 286 ya):=zaa hz5 k0
 have x1:w5.cell? ⟨g,1,none⟩=some (.slice (some ⟨xc,0,none⟩) 286 yc):=zaa hz5 k1
 have x2:w5.cell? ⟨g,2,none⟩=some (.slice (some ⟨xa',0,none⟩) 30 ya'):=zaa hz5 k2
 have x3:w5.cell? ⟨g,3,none⟩=some (.slice (some ⟨xc',0,none⟩) 30 yc'):=zaa hz5 k3
 have Hz5:=Lib.hid (And.intro hz5 (And.intro k0 (And.intro k1 (And.intro k2 k3))))
 have HCD:=Lib.hid (And.intro hC hD)
 have hw24:=HB24.out.size
 have hgY:Y≤g:=by have:=HYe.out;omega
 have hxY:Y≤xa∧Y≤xc∧Y≤xa'∧Y≤xc':=by have:=hC.a;have:=hC.c;have:=hD.a;have:=hD.c;have:=HYe.out;omega
 clear hB hb5 hBA hBD hz5 k0 k1 k2 k3 hC hD Hbc hg5 HB24
 go_upto_region 3 with (fail)
 have hqq:=After.ne w5
 have C0:=After.rule x0
 have C1:=After.rule x1
 have C2:=After.rule x2
 have C3:=After.rule x3
 refine zaC 7 (by kernel_rfl) (by kernel_rfl) (by kernel_rfl) ?_
 repeat (refine zaK (fun K hK=>?_);go_simp;(refine hK _ ?_;clear hK K))
 refine zbd ?_
 intro w6 hb6
 simp only [List.drop_succ_cons,List.drop_zero]
 have Hb6:=Lib.hid (Below.thn Hb5.out hb6)
 have hs5:=hb6.size
 have HC6:=Lib.hid (HCD.out.1.below hb6)
 have HD6:=Lib.hid (HCD.out.2.below hb6)
 have Hz6:Hid (w6.heap[g]? =some (.cells cur5 234)):=Lib.hid ((hb6.block _ (zab Hz5.out.1)).trans Hz5.out.1)
 clear C0 C1 C2 C3 hqq hb6 x0 x1 x2 x3
 have hY6:=HY3.out.more Hb6.out
 rw [HYe.out] at hY6
 have hlC:=HC6.out.lt
 have hlD:=HD6.out.lt
 have hchA:=zaZ HBest.out.1.1 (by decide) (by decide)
 have hchD:=zaZ HBest.out.2.1 (by decide) (by decide)
 have hdn:=zlS w6 hY6 HC6.out HD6.out ⟨.inr ⟨hxY.1,hlC.1⟩,.inr ⟨hxY.2.2.1,hlD.1⟩,.inr ⟨hxY.2.1,hlC.2⟩,.inr ⟨hxY.2.2.2,hlD.2⟩⟩ (zap _ _) (zap _ _) hchA hchD (by simp only [szP];decide)
 have Hdn:=Lib.hid hdn
 clear hdn hY6 hchA hchD hlC hlD
 go_wp2_with fail
 refine Calls.mono Hdn.out ?_
 rintro _ w7 ⟨gC,rfl,hBC,hY7⟩
 have HY7:=Lib.hid hY7
 have HBC:=Lib.hid hBC
 have hZ6:w6.heap[Z]? =some (.cells #[vb,.slice p n c] 180):=(Hb6.out.block _ (zab Hz2.out)).trans Hz2.out
 have hs1:=Hs1.out
 have hZ7:w7.heap[Z]? =some (.cells #[vb,.slice p n c] 180):=(hY7.turns.block _ (zab hZ6) (fun h=>h (.inl (.inr ⟨Nat.le_refl _,by omega⟩)))).trans hZ6
 have x1:w7.cell? ⟨Z,1,none⟩=some (.slice p n c):=zaa hZ7 rfl
 have HT7:Hid (Turns (fun b=> ¬G b) W w7):=Lib.hid ((HTg.out _ Hb6.out).trans (hY7.turns.mono fun b _ hb hg=>hb (.inl (.inl hg))))
 have HCd:Hid (∀w',Turns (fun b=> ¬((G b∨Z≤b∧b<w1.heap.size)∨Y≤b∧b<w6.heap.size)) w6 w'→CdF g (two xa xa') (two ya ya') (two xc xc') (two yc yc') [gl (gg 0) 286,gl (gg 1) 30] w'):=Lib.hid fun w' ht=>by
  have hlC:=HC6.out.lt
  have hlD:=HD6.out.lt
  refine zo6 (t:=234) (HC6.out.turns ht (fun h=>h (.inr ⟨hxY.1,hlC.1⟩)) (fun h=>h (.inr ⟨hxY.2.1,hlC.2⟩))) (HD6.out.turns ht (fun h=>h (.inr ⟨hxY.2.2.1,hlD.1⟩)) (fun h=>h (.inr ⟨hxY.2.2.2,hlD.2⟩))) ((ht.block _ (zab Hz6.out) (fun h=>h (.inr ⟨hgY,zab Hz6.out⟩))).trans Hz6.out) ?_ ?_ ?_ ?_
  ·rw [zap];exact Hz5.out.2.1
  ·rw [zap];exact Hz5.out.2.2.1
  ·rw [zap];exact Hz5.out.2.2.2.1
  ·rw [zap];exact Hz5.out.2.2.2.2
 clear hY7 hBC hZ6 hZ7 hs1 hZ hxY hgY hs5 hs4 hw24 Hdn HC6 HD6 Hz6 HCD Hz5 Hz2 HY3 hs2 HYe
 go_wp2_with fail
 refine Calls.mono (zd2 p n c w7) ?_
 rintro _ z8 ⟨rfl,rfl⟩
 have hb8:=Below.al1 w7 (.cells #[.slice p n c] 177)
 have hBl8:(w7.alloc (.cells #[.slice p n c] 177)).cell? ⟨w7.heap.size,0,none⟩=some (.slice p n c):=zaa (World.alloc_heap_new _ _) rfl
 have hs8:(w7.alloc (.cells #[.slice p n c] 177)).heap.size=w7.heap.size+1:=World.size_alloc _ _
 have hY8:=HY7.out.more hb8
 have hT8:Turns (fun b=> ¬G b) W (w7.alloc (.cells #[.slice p n c] 177)):=HT7.out.trans (Turns.of_below' hb8)
 have hT68:=HY7.out.turns.trans (Turns.of_below' hb8)
 generalize w7.alloc (.cells #[.slice p n c] 177)=w8 at *
 have hRow8:RowAt encT 3 w8 p ts:=Hp.out.turns hT8 fun a ha h=>h (HG.out a ha)
 have hpl8:∀a,p=some a→a.block<w8.heap.size:=fun a ha=>Nat.lt_of_lt_of_le (HGW.out _ (HG.out a ha)) hT8.size
 have hit:=zel w7.heap.size p c ts w8 (fun b=>b=w7.heap.size∨∃a,p=some a∧a.block=b) (by rw [Hn.out];exact hBl8) hRow8 Hx.out (by rw [Hn.out];exact hl) (fun b hb=>by
  rcases hb with rfl | ⟨a,ha,rfl⟩
  ·omega
  ·exact hpl8 a ha) (.inl rfl) (fun a ha=> .inr ⟨a,ha,rfl⟩)
 have hDyn:DynF ts (dynP ts (gl (gg 0) 286) (gl (gg 1) 30) (gl gC 19)):=⟨gg 0,gg 1,gC,HBest.out.1,HBest.out.2,HBC.out,rfl⟩
 obtain ⟨hcod,h0⟩:=zki Hx.out HBest.out.1.1 HBest.out.2.1
 have h01:∀j,j<[gl (gg 0) 286,gl (gg 1) 30].length→j=0∨j=1:=fun j hj=>by simp at hj;omega
 have hsl:=ze7 (P:=[(1,1),(2,2)]++putR (cutX (gl (gg 0) 286)) (cutY (gl (gg 1) 30)) (gl gC 19) (trN (ordO (gl gC 19)) 4 19)) 174 #[.pointer (some ⟨w7.heap.size,0,none⟩)] (pasT ts) g cp (two xa xa') (two ya ya') (two xc xc') (two yc yc') [gl (gg 0) 286,gl (gg 1) 30] w8 (enters_of Tryz.func174 (by kernel_rfl) rfl) hit (Nat.le_refl _) (fun b hb=>⟨by
  rcases hb with rfl | ⟨a,ha,rfl⟩
  ·exact .inr ⟨Nat.le_refl _,by omega⟩
  ·exact .inl (.inl (.inl (HG.out a ha))),rfl⟩) hY8 (fun w' ht=>HCd.out w' (hT68.trans (ht.mono fun b _ hb hg=>hb (.inl hg)))) (fun j hj=>by
   rcases h01 j hj with rfl | rfl
   ·exact ⟨zaZ HBest.out.1.1 (by decide) (by decide),by show (gl (gg 0) 286).length≤320;rw [zap];decide⟩
   ·exact ⟨zaZ HBest.out.2.1 (by decide) (by decide),by show (gl (gg 1) 30).length≤320;rw [zap];decide⟩) (zmR (fun t ht=>(Hx.out t ht).1) hcod ⟨by rw [zap];decide,h0⟩) (by
   have h5:=zrj hDyn (fun t ht=>Hx.out t ht)
   have:=Hm.out
   unfold dynP at h5
   rw [zaj] at h5
   omega)
 have Hsl:=Lib.hid hsl
 have HT8:=Lib.hid hT8
 have HDyn:=Lib.hid hDyn
 clear hb8 hBl8 hs8 hY8 hT8 hT68 hRow8 hpl8 hit hDyn hcod h0 h01 hsl x1
 go_wp2_with fail
 refine Calls.mono Hsl.out ?_
 rintro _ w10 ⟨rfl,hY10⟩
 have HY10:=Lib.hid (hY10.less (G:=G) (W:=W) (fun b hb=>⟨.inl (.inl (.inl hb)),HGW.out b hb⟩) HT8.out)
 clear hY10 Hsl
 go_wp2
 go_end0
 exact ⟨_,rfl,HDyn.out,HY10.out⟩
end
section
open Go.RowKit Go.Maps
def FmQ (b:List Nat) (ts:List Tk) (i:Nat) (Q:Pt):Prop:=(i=0∧Q=putB 0 (stB b))∨(i=1∧Q=fixP ts)∨(i=2∧DynF ts Q)
def FmP (b:List Nat) (ts:List Tk) (i:Nat) (P:Pt):Prop:=(i=1∧P=putB 0 (stB b))∨(i=2∧P=zbN (putB 0 (stB b)) (fixP ts))∨(i=3∧∃Q,DynF ts Q∧P=zbN (zbN (putB 0 (stB b)) (fixP ts)) Q)
theorem FmP.step {b:List Nat} {ts:List Tk} {i:Nat} {P Q:Pt} (h:FmP b ts i P) (k:FmQ b ts i Q):FmP b ts (i+1) (zbN P Q):=by
 rcases h with ⟨rfl,rfl⟩ | ⟨rfl,rfl⟩ | ⟨rfl,-⟩
 ·rcases k with ⟨h,-⟩ | ⟨-,rfl⟩ | ⟨h,-⟩
  ·omega
  ·exact .inr (.inl ⟨rfl,rfl⟩)
  ·omega
 ·rcases k with ⟨h,-⟩ | ⟨h,-⟩ | ⟨-,k⟩
  ·omega
  ·omega
  ·exact .inr (.inr ⟨rfl,Q,k,rfl⟩)
 ·rcases k with ⟨h,-⟩ | ⟨h,-⟩ | ⟨h,-⟩<;>omega
theorem FmQ.first {b:List Nat} {ts:List Tk} {Q:Pt} (k:FmQ b ts 0 Q):FmP b ts 1 Q:=by
 rcases k with ⟨-,rfl⟩ | ⟨h,-⟩ | ⟨h,-⟩
 ·exact .inl ⟨rfl,rfl⟩
 ·omega
 ·omega
theorem FmP.last {b:List Nat} {ts:List Tk} {P:Pt} (h:FmP b ts 3 P):∃Q,DynF ts Q∧P=zbN (zbN (putB 0 (stB b)) (fixP ts)) Q:=by
 rcases h with ⟨h,-⟩ | ⟨h,-⟩ | ⟨-,h⟩
 ·omega
 ·omega
 ·exact h
theorem zpS (w:World):WrY (fun b=>b<w.heap.size) (w.heap.size+1) w.heap.size [] (w.alloc (.cells #[.slice none 0 0,.int .i64 0] 184)) (w.alloc (.cells #[.slice none 0 0,.int .i64 0] 184)):=
 ⟨.slice none 0 0,⟨by omega,⟨_,World.alloc_heap_new w _⟩,World.ownsRow_nil _ _ _ _,by decide⟩,by rw [World.size_alloc];omega,by decide,Turns.refl _ _,fun b hb=>⟨by omega,by simp [Value.ownBlock],by rw [World.size_alloc];omega⟩⟩
def zr9 (w0:World) (b:List Nat) (ts:List Tk) (i:Nat) (bv:Value) (w:World):Prop:=(i=0∧bv= .pointer none)∨(0<i∧∃B sv P,bv= .pointer (some ⟨B,0,none⟩)∧w0.heap.size≤B∧Wr w (B+1) B sv (nmP P) (szP P)∧szP P≤8388608∧FmP b ts i P)
structure StmI (w0:World) (b:List Nat) (ts:List Tk) (gB:Nat) (Fs:Array Value) (i:Nat) (bv:Value) (w:World):Prop where
 bw:Below w0.heap.size w0 w
 tab:w.heap[gB]? =some (.cells Fs 212)
 best:zr9 w0 b ts i bv w
theorem StmI.after {w0 wr w2:World} {b:List Nat} {ts:List Tk} {gB i:Nat} {Fs:Array Value} {bv:Value} {o:Obj} {Q:Pt} (h:StmI w0 b ts gB Fs i bv wr) (hY:WrY (fun b=>b<wr.heap.size) (wr.heap.size+1) wr.heap.size Q (wr.alloc o) w2):
  StmI w0 b ts gB Fs i bv w2∧w0.heap.size≤wr.heap.size∧szP Q≤8388608∧∃sv,Wr w2 (wr.heap.size+1) wr.heap.size sv (nmP Q) (szP Q):=by
 have hb1:=Below.al1 wr o
 have ht:=(Turns.of_below' (T:=fun b=> ¬b<wr.heap.size) hb1).trans hY.turns
 have hs:=h.bw.size
 refine ⟨⟨h.bw.trans (ht.below hs fun b hb=>by omega),(ht.block _ (zab h.tab) (fun hn=>hn (zab h.tab))).trans h.tab,?_⟩,hs,hY.max,?_⟩
 ·rcases h.best with h1 | ⟨h1,B,sv,P,h2,h3,h4,h5,h6⟩
  ·exact .inl h1
  ·exact .inr ⟨h1,B,sv,P,h2,h3,h4.turns ht (fun hn=>hn h4.size) (fun k hk hn=>hn (h4.own.lt k hk).2),h5,h6⟩
 ·obtain ⟨sv,h1,-⟩:=hY
  exact ⟨sv,h1⟩
theorem StmI.take {w0 w w':World} {b:List Nat} {ts:List Tk} {gB i B:Nat} {Fs:Array Value} {bv sv:Value} {Q P':Pt} (h:StmI w0 b ts gB Fs i bv w) (hb:Below w.heap.size w w') (hB:w0.heap.size≤B) (hw:Wr w (B+1) B sv (nmP Q) (szP Q)) (hm:szP Q≤8388608) (hf:FmP b ts (i+1) P') (e:P'=Q):StmI w0 b ts gB Fs (i+1) (.pointer (some ⟨B,0,none⟩)) w':=by
 subst e
 exact ⟨Below.thn h.bw hb,(hb.block _ (zab h.tab)).trans h.tab,.inr ⟨by omega,B,sv,P',rfl,hB,hw.below hb,hm,hf⟩⟩
theorem StmI.leave {w0 w w':World} {b:List Nat} {ts:List Tk} {gB i B:Nat} {Fs:Array Value} {sv:Value} {P P':Pt} (h:StmI w0 b ts gB Fs i (.pointer (some ⟨B,0,none⟩)) w) (hb:Below w.heap.size w w') (hB:w0.heap.size≤B) (hw:Wr w (B+1) B sv (nmP P) (szP P)) (hm:szP P≤8388608) (hf:FmP b ts (i+1) P') (e:P'=P):StmI w0 b ts gB Fs (i+1) (.pointer (some ⟨B,0,none⟩)) w':=by
 subst e
 exact ⟨Below.thn h.bw hb,(hb.block _ (zab h.tab)).trans h.tab,.inr ⟨by omega,B,sv,P',rfl,hB,hw.below hb,hm,hf⟩⟩
set_option maxRecDepth 20000 in
set_option maxHeartbeats 8000000 in
theorem zi9 (p:Option Addr) (c:Nat) (b:List Nat) (pt:Option Addr) (ct:Nat) (ts:List Tk) (w:World) (hb:Rw8 w (.slice p b.length c) b) (hby:∀x∈b,x<256) (hl:b.length≤524288) (ht:RowAt encT 3 w pt ts) (hT:Toks (fb b) b.length 0 ts) (h256:∀t∈ts,t.b<256):
  Calls Tryz.prog 126 #[.agg #[.slice p b.length c,.slice pt ts.length ct]] w fun e w'=> ∃B sv P,e= .returned (.pointer (some ⟨B,0,none⟩))∧Wr w' (B+1) B sv (nmP P) (szP P)∧szP P≤8388608∧FmP b ts 3 P∧Below w.heap.size w w':=by
 have hx:=hT.tell hl
 have h2:(xp ts []).2=0:=by rw [hx]
 have hok:=zda h2
 have hsz:=zdD h2
 rw [hx] at hsz
 simp only [List.length_nil,Nat.zero_add] at hsz
 have hlt:=hT.le.2
 obtain ⟨_,_,e0,hcc,hcm,hcells⟩:=hb.cells
 obtain ⟨rfl,-,rfl⟩:p=_∧b.length=b.length∧c=_:=by injection e0 with a1 a2 a3;exact ⟨a1,rfl,a3⟩
 have Hcells:=Lib.hid hcells
 have Ht:=Lib.hid ht
 have Hplt:Hid (∀a,pt=some a→a.block<w.heap.size):=Lib.hid fun a ha=>by
  rcases ht with ⟨h,-⟩ | ⟨g,off,rfl,h3,-⟩
  ·rw [h] at ha;cases ha
  ·cases ha;exact h3
 have Hby:=Lib.hid hby
 have HX:=Lib.hid (show ∀t∈ts,t.okB=true∧t.b<256 from fun t h=>⟨hok t h,h256 t h⟩)
 have Hfs:=Lib.hid (zre hx)
 clear hb hby ht hT h256 hx h2 hok e0 hcells
 obtain ⟨nb,hnb⟩:∃n,b.length=n:=⟨_,rfl⟩
 obtain ⟨nt,hnt⟩:∃n,ts.length=n:=⟨_,rfl⟩
 have Hnb:=Lib.hid (And.intro hnb hnt)
 rw [hnb] at hl hcc hsz hlt Hfs ⊢
 have Hsum:=Lib.hid hsz
 clear hsz
 rw [hnt] at hlt ⊢
 clear hnb hnt
 have hmf:∀(fn:Fn) (first cap:Array Value) (w:World),(Instr.makeFunc fn first cap).run Tryz.prog w= .ok (.func fn first cap) w:=fun _ _ _ _=>rfl
 go_enter Tryz.func126,Tryz.ntmps126
 go_wp2_with fail
 obtain ⟨Fs,hFs⟩:∃Fs:Array Value,Fs=#[.func (.func 142) #[.agg #[.slice p nb c,.slice pt nt ct]] #[],.func (.func 143) #[.agg #[.slice p nb c,.slice pt nt ct]] #[],.func (.func 144) #[.agg #[.slice p nb c,.slice pt nt ct]] #[]]:=⟨_,rfl⟩
 have hI0:StmI w b ts (w.heap.size+1) Fs 0 (.pointer none) ((w.alloc (.cells #[.slice p nb c,.slice pt nt ct] 180)).alloc (.cells Fs 212)):=by
  have hg:=zag [.cells #[.slice p nb c,.slice pt nt ct] 180,.cells Fs 212] w
  simp only [List.foldl_cons,List.foldl_nil] at hg
  exact ⟨Below.al (Below.al1 _ _) _,(hg 1 _).2 rfl,.inl ⟨rfl,rfl⟩⟩
 rw [←hFs]
 generalize (w.alloc (.cells #[.slice p nb c,.slice pt nt ct] 180)).alloc (.cells Fs 212)=w1 at *
 obtain ⟨gB,hgB⟩:∃g,w.heap.size+1=g:=⟨_,rfl⟩
 simp only [hgB] at hI0 ⊢
 have HI0:=Lib.hid hI0
 clear hI0
 go_loopw [3,15] (fun bu iv wr=> ∃(i:Nat) (bv:Value),bv=bu∧iv= .int .i64 (i:Int)∧i≤3∧Hid (StmI w b ts gB Fs i bv wr)) (fun _ iv _=>3 - (intOf iv).toNat)
 case atStart=>exact ⟨0,_,rfl,rfl,Nat.zero_le _,HI0⟩
 case round=>
  clear HI0
  obtain ⟨i,bv,rfl,rfl,hi,HI⟩:=hrel
  have HW:=Lib.hid (zpS wr)
  have HR8:Hid (BsAt wr p b):=Lib.hid fun k hk=>by
   obtain ⟨g,off,e,hc⟩:=Hcells.out k (by exact hk)
   refine ⟨g,off,e,?_⟩
   rw [List.getD_eq_getElem?_getD,List.getElem?_eq_getElem hk]
   exact cell_later HI.out.bw hc
  have HRt:Hid (RowAt encT 3 (wr.alloc (.cells #[.slice none 0 0,.int .i64 0] 184)) pt ts):=Lib.hid ((Ht.out.turns (T:=fun _=>False) (Turns.of_below' HI.out.bw) fun _ _ h=>h).turns (T:=fun _=>False) (Turns.of_below' (Below.al1 _ _)) fun _ _ h=>h)
  have hsw:=HI.out.bw.size
  rcases (show i=0∨i=1∨i=2∨i=3 by omega) with rfl | rfl | rfl | rfl
  ·have xf:wr.cell? ⟨gB,0,none⟩=some (.func (.func 142) #[.agg #[.slice p nb c,.slice pt nt ct]] #[]):=zaa HI.out.tab (by rw [hFs];rfl)
   go_wp2_with fail
   have hc:=zjo p c (.slice pt nt ct) b (wr.alloc (.cells #[.slice none 0 0,.int .i64 0] 184)) (WrF.start (F:=fun w'=>BsAt w' p b) HW.out fun w' ht k hk=>by
    obtain ⟨g,off,e,hc⟩:=HR8.out k hk
    exact ⟨g,off,e,ht.cell (cell_later (Below.al1 wr _) hc) fun hn=>hn (World.block_lt_of_cell? _ _ hc)⟩) (fun _ h=>h) Hby.out (by rw [Hnb.out.1];exact hl) (by rw [Hnb.out.1];exact hcc)
   rw [Hnb.out.1] at hc
   refine Calls.mono hc ?_
   rintro _ w2 ⟨rfl,hF2⟩
   have hQ:FmQ b ts 0 (putB 0 (stB b)):= .inl ⟨rfl,rfl⟩
   obtain ⟨hA,hs2,hm2,sv2,hw2⟩:=HI.out.after hF2.done
   clear hF2 hc
   obtain ⟨-,rfl⟩:(0:Nat)=0∧bv= .pointer none:=by
    rcases hA.best with h | ⟨h,-⟩
    ·exact h
    ·omega
   have HN:Hid (∀n,StmI w b ts gB Fs 1 (.pointer (some ⟨wr.heap.size,0,none⟩)) (w2.drewN n)):=Lib.hid fun n=>hA.take (Below.drewN' (Below.refl _ _) n) hs2 hw2 hm2 hQ.first rfl
   generalize wr.heap.size=B2 at *
   clear hA hw2 hQ xf HW HR8 HRt
   go_upto_region 7 with (fail)
   go_quiet (fail)
   rename_i nq
   have HN1:=Lib.hid (HN.out nq)
   generalize w2.drewN nq=w3 at *
   clear HN
   go_wp2
   go_roundw
   case rel=>exact ⟨1,_,rfl,by go_num,by omega,HN1⟩
   case measure=>simp [intOf]
  ·have xf:wr.cell? ⟨gB,1,none⟩=some (.func (.func 143) #[.agg #[.slice p nb c,.slice pt nt ct]] #[]):=zaa HI.out.tab (by rw [hFs];rfl)
   go_wp2_with fail
   have hc:=zkO (.slice p nb c) pt ct ts (wr.alloc (.cells #[.slice none 0 0,.int .i64 0] 184)) HW.out HRt.out (fun a ha=>Nat.lt_of_lt_of_le (Hplt.out a ha) hsw) HX.out (by rw [Hnb.out.2];omega) (by have:=Hfs.out;omega)
   rw [Hnb.out.2] at hc
   refine Calls.mono hc ?_
   rintro _ w2 ⟨rfl,hF2⟩
   have hQ:FmQ b ts 1 (fixP ts):= .inr (.inl ⟨rfl,rfl⟩)
   obtain ⟨hA,hs2,hm2,sv2,hw2⟩:=HI.out.after (Q:=fixP ts) hF2
   clear hF2 hc
   obtain ⟨B1,sv1,P1,rfl,hB1,hw1,hm1,hf1⟩:∃B sv P,bv= .pointer (some ⟨B,0,none⟩)∧w.heap.size≤B∧Wr w2 (B+1) B sv (nmP P) (szP P)∧szP P≤8388608∧FmP b ts 1 P:=by
    rcases hA.best with ⟨h,-⟩ | ⟨-,h⟩
    ·omega
    ·exact h
   have HL1:Hid (∀n,Calls Tryz.prog 145 #[.pointer (some ⟨B1,0,none⟩)] (w2.drewN n) fun e w'=>e= .returned (.int .i64 (szP P1:Int))∧w'=w2.drewN n):=Lib.hid fun n=>zdL _ _ _ _ _ _ (hw1.below (Below.drewN' (Below.refl _ _) n))
   have HL2:Hid (∀n,Calls Tryz.prog 145 #[.pointer (some ⟨wr.heap.size,0,none⟩)] (w2.drewN n) fun e w'=>e= .returned (.int .i64 (szP (fixP ts):Int))∧w'=w2.drewN n):=Lib.hid fun n=>zdL _ _ _ _ _ _ (hw2.below (Below.drewN' (Below.refl _ _) n))
   have hf2:=hf1.step hQ
   by_cases hlt2:szP (fixP ts)<szP P1
   ·have HN:Hid (∀n,StmI w b ts gB Fs 2 (.pointer (some ⟨wr.heap.size,0,none⟩)) (w2.drewN n)):=Lib.hid fun n=>hA.take (Below.drewN' (Below.refl _ _) n) hs2 hw2 hm2 hf2 (if_pos hlt2)
    obtain ⟨s1,hs1⟩:∃s,szP P1=s:=⟨_,rfl⟩
    obtain ⟨s2,hs2'⟩:∃s,szP (fixP ts)=s:=⟨_,rfl⟩
    rw [hs1] at HL1 hlt2
    rw [hs2'] at HL2 hlt2
    have dl:decide ((s2:Int)<(s1:Int))=true:=by simp;omega
    have dl':decide (s2<s1)=true:=by simp;omega
    generalize wr.heap.size=B2 at *
    clear hA hw1 hw2 hQ hf1 hf2 xf HW HR8 HRt hs1 hs2' hm1 hm2 hlt2
    go_upto_region 7 with (fail)
    go_quiet ((go_at_call 145;first | with_reducible exact Calls.quiet_of_same (HL1.out _) | with_reducible exact Calls.quiet_of_same (HL2.out _)))
    rename_i nq
    have HN1:=Lib.hid (HN.out nq)
    generalize w2.drewN nq=w3 at *
    clear HN HL1 HL2
    go_wp2
    go_roundw
    case rel=>exact ⟨2,_,rfl,by go_num,by omega,HN1⟩
    case measure=>simp [intOf]
   ·have HN:Hid (∀n,StmI w b ts gB Fs 2 (.pointer (some ⟨B1,0,none⟩)) (w2.drewN n)):=Lib.hid fun n=>hA.leave (Below.drewN' (Below.refl _ _) n) hB1 hw1 hm1 hf2 (if_neg hlt2)
    obtain ⟨s1,hs1⟩:∃s,szP P1=s:=⟨_,rfl⟩
    obtain ⟨s2,hs2'⟩:∃s,szP (fixP ts)=s:=⟨_,rfl⟩
    rw [hs1] at HL1 hlt2
    rw [hs2'] at HL2 hlt2
    have dl:decide ((s2:Int)<(s1:Int))=false:=by simp;omega
    have dl':decide (s2<s1)=false:=by simp;omega
    generalize wr.heap.size=B2 at *
    clear hA hw1 hw2 hQ hf1 hf2 xf HW HR8 HRt hs1 hs2' hm1 hm2 hlt2
    go_upto_region 7 with (fail)
    go_quiet ((go_at_call 145;first | with_reducible exact Calls.quiet_of_same (HL1.out _) | with_reducible exact Calls.quiet_of_same (HL2.out _)))
    rename_i nq
    have HN1:=Lib.hid (HN.out nq)
    generalize w2.drewN nq=w3 at *
    clear HN HL1 HL2
    go_wp2
    go_roundw
    case rel=>exact ⟨2,_,rfl,by go_num,by omega,HN1⟩
    case measure=>simp [intOf]
  ·have xf:wr.cell? ⟨gB,2,none⟩=some (.func (.func 144) #[.agg #[.slice p nb c,.slice pt nt ct]] #[]):=zaa HI.out.tab (by rw [hFs];rfl)
   go_wp2_with fail
   have hc:=zim (.slice p nb c) pt ct ts (wr.alloc (.cells #[.slice none 0 0,.int .i64 0] 184)) HW.out HRt.out (fun a ha=>Nat.lt_of_lt_of_le (Hplt.out a ha) hsw) HX.out (by rw [Hnb.out.2];omega) (by have:=Hsum.out;omega)
   rw [Hnb.out.2] at hc
   refine Calls.mono hc ?_
   rintro _ w2 ⟨Q,rfl,hD,hF2⟩
   have hQ:FmQ b ts 2 Q:= .inr (.inr ⟨rfl,hD⟩)
   obtain ⟨hA,hs2,hm2,sv2,hw2⟩:=HI.out.after hF2
   clear hF2 hc
   obtain ⟨B1,sv1,P1,rfl,hB1,hw1,hm1,hf1⟩:∃B sv P,bv= .pointer (some ⟨B,0,none⟩)∧w.heap.size≤B∧Wr w2 (B+1) B sv (nmP P) (szP P)∧szP P≤8388608∧FmP b ts 2 P:=by
    rcases hA.best with ⟨h,-⟩ | ⟨-,h⟩
    ·omega
    ·exact h
   have HL1:Hid (∀n,Calls Tryz.prog 145 #[.pointer (some ⟨B1,0,none⟩)] (w2.drewN n) fun e w'=>e= .returned (.int .i64 (szP P1:Int))∧w'=w2.drewN n):=Lib.hid fun n=>zdL _ _ _ _ _ _ (hw1.below (Below.drewN' (Below.refl _ _) n))
   have HL2:Hid (∀n,Calls Tryz.prog 145 #[.pointer (some ⟨wr.heap.size,0,none⟩)] (w2.drewN n) fun e w'=>e= .returned (.int .i64 (szP (Q):Int))∧w'=w2.drewN n):=Lib.hid fun n=>zdL _ _ _ _ _ _ (hw2.below (Below.drewN' (Below.refl _ _) n))
   have hf2:=hf1.step hQ
   by_cases hlt2:szP (Q)<szP P1
   ·have HN:Hid (∀n,StmI w b ts gB Fs 3 (.pointer (some ⟨wr.heap.size,0,none⟩)) (w2.drewN n)):=Lib.hid fun n=>hA.take (Below.drewN' (Below.refl _ _) n) hs2 hw2 hm2 hf2 (if_pos hlt2)
    obtain ⟨s1,hs1⟩:∃s,szP P1=s:=⟨_,rfl⟩
    obtain ⟨s2,hs2'⟩:∃s,szP (Q)=s:=⟨_,rfl⟩
    rw [hs1] at HL1 hlt2
    rw [hs2'] at HL2 hlt2
    have dl:decide ((s2:Int)<(s1:Int))=true:=by simp;omega
    have dl':decide (s2<s1)=true:=by simp;omega
    generalize wr.heap.size=B2 at *
    clear hA hw1 hw2 hQ hf1 hf2 xf HW HR8 HRt hs1 hs2' hm1 hm2 hlt2
    go_upto_region 7 with (fail)
    go_quiet ((go_at_call 145;first | with_reducible exact Calls.quiet_of_same (HL1.out _) | with_reducible exact Calls.quiet_of_same (HL2.out _)))
    rename_i nq
    have HN1:=Lib.hid (HN.out nq)
    generalize w2.drewN nq=w3 at *
    clear HN HL1 HL2
    go_wp2
    go_roundw
    case rel=>exact ⟨3,_,rfl,by go_num,by omega,HN1⟩
    case measure=>simp [intOf]
   ·have HN:Hid (∀n,StmI w b ts gB Fs 3 (.pointer (some ⟨B1,0,none⟩)) (w2.drewN n)):=Lib.hid fun n=>hA.leave (Below.drewN' (Below.refl _ _) n) hB1 hw1 hm1 hf2 (if_neg hlt2)
    obtain ⟨s1,hs1⟩:∃s,szP P1=s:=⟨_,rfl⟩
    obtain ⟨s2,hs2'⟩:∃s,szP (Q)=s:=⟨_,rfl⟩
    rw [hs1] at HL1 hlt2
    rw [hs2'] at HL2 hlt2
    have dl:decide ((s2:Int)<(s1:Int))=false:=by simp;omega
    have dl':decide (s2<s1)=false:=by simp;omega
    generalize wr.heap.size=B2 at *
    clear hA hw1 hw2 hQ hf1 hf2 xf HW HR8 HRt hs1 hs2' hm1 hm2 hlt2
    go_upto_region 7 with (fail)
    go_quiet ((go_at_call 145;first | with_reducible exact Calls.quiet_of_same (HL1.out _) | with_reducible exact Calls.quiet_of_same (HL2.out _)))
    rename_i nq
    have HN1:=Lib.hid (HN.out nq)
    generalize w2.drewN nq=w3 at *
    clear HN HL1 HL2
    go_wp2
    go_roundw
    case rel=>exact ⟨3,_,rfl,by go_num,by omega,HN1⟩
    case measure=>simp [intOf]
  ·obtain ⟨B1,sv1,P1,rfl,hB1,hw1,hm1,hf1⟩:∃B sv P,bv= .pointer (some ⟨B,0,none⟩)∧w.heap.size≤B∧Wr wr (B+1) B sv (nmP P) (szP P)∧szP P≤8388608∧FmP b ts 3 P:=by
    rcases HI.out.best with ⟨h,-⟩ | ⟨-,h⟩
    ·omega
    ·exact h
   have HE:Hid (Wr wr (B1+1) B1 sv1 (nmP P1) (szP P1)∧szP P1≤8388608∧FmP b ts 3 P1):=Lib.hid ⟨hw1,hm1,hf1⟩
   clear hw1 hm1 hf1 HW HR8 HRt
   go_wp2
   go_ret
   exact ⟨B1,sv1,P1,rfl,HE.out.1,HE.out.2.1,HE.out.2.2,HI.out.bw⟩
end
section
open Go.RowKit
end
section
open Go.RowKit
end
section
open Go.RowKit
end
section
def runC (f:Nat→Nat) (a d:Nat):Nat→Nat→Nat
 | 0,n=>n
 | k+1,n=>if f (a+n)=f (a+n - d) then runC f a d k (n+1) else n
theorem zjU (f:Nat→Nat) (a d:Nat):∀(k n:Nat),(∀j,j<n→f (a+j)=f (a+j - d))→IsRun f a d (n+k) (runC f a d k n)
 | 0,n,h=>⟨by simp [runC],h,fun h=>by simp [runC] at h⟩
 | k+1,n,h=>by
  rw [runC]
  split
  ·rename_i e
   have:=zjU f a d k (n+1) (fun j hj=>by
    by_cases e':j=n
    ·rw [e'];exact e
    ·exact h j (by omega))
   rwa [show n+1+k=n+(k+1) by omega] at this
  ·rename_i e
   exact ⟨by omega,h,fun _=>e⟩
def zcT (f:Nat→Nat) (a m:Nat):Nat→Nat×Nat
 | 0=>(0,0)
 | d+1=>if (zcT f a m d).1<runC f a (d+1) m 0 then (runC f a (d+1) m 0,d+1) else zcT f a m d
theorem ziv (f:Nat→Nat) (a m:Nat):∀d,Scan f a m (d+1) (zcT f a m d).1 (zcT f a m d).2
 | 0=>Scan.start f a m
 | d+1=>by
  have h:=ziv f a m d
  have hr:=zjU f a (d+1) m 0 (fun j h=>by omega)
  rw [Nat.zero_add] at hr
  rw [zcT]
  split
  ·rename_i e;exact h.more (by omega) hr e
  ·rename_i e;exact h.less hr (by omega)
def tokC (f:Nat→Nat) (N a:Nat):Tk:=if 3≤(zcT f a (mo N a) (min 32768 a)).1 then ⟨0,((zcT f a (mo N a) (min 32768 a)).1:Nat),((zcT f a (mo N a) (min 32768 a)).2:Nat)⟩ else ⟨f a,0,0⟩
theorem zqw (f:Nat→Nat) (N a:Nat):IsTok f N a (tokC f N a):=by
 have h:=ziv f a (mo N a) (min 32768 a)
 unfold tokC
 split
 ·rename_i e;exact h.rep (fun d' h1 h2=>by omega) (by omega) e
 ·rename_i e;exact h.byte (fun d' h1 h2=>by omega) (by omega)
def zhv (f:Nat→Nat) (N:Nat):Nat→Nat→List Tk
 | 0,_=>[]
 | k+1,a=>if a<N then tokC f N a::zhv f N k (a+(tokC f N a).size) else []
theorem zhK (f:Nat→Nat) (N:Nat):∀k a,a≤N→N≤a+k→Toks f N a (zhv f N k a)
 | 0,a,h1,h2=>by
  obtain rfl:a=N:=by omega
  exact .nil
 | k+1,a,h1,h2=>by
  rw [zhv]
  split
  ·rename_i e
   have ht:=zqw f N a
   exact .cons e ht (zhK f N k _ (ht.fits e) (by have:=ht.size_pos;omega))
  ·rename_i e
   obtain rfl:a=N:=by omega
   exact .nil
end
section
open Go.RowKit
theorem OwnT.row {w:World} {base:Nat} {v:Value} {ts:List Tk} (h:OwnT w base v ts):Row encT 3 w v ts:=zbT znF h
end
section
open Go.RowKit Go.Maps
theorem znK {b:List Nat} {ts:List Tk} (h:Toks (fb b) b.length 0 ts) (hb:∀x∈b,x<256):∀t∈ts,t.b<256:=fun t ht=>by
 obtain ⟨i,hi,rfl⟩:=List.getElem_of_mem ht
 obtain ⟨a,-,-,h2,-⟩:=h.at hi
 exact h2.byte (zpB hb)
set_option maxRecDepth 20000 in
set_option maxHeartbeats 4000000 in
theorem zjp (v:Value) (b:List Nat) (w:World) (hv:Rw8 w v b) (hby:∀x∈b,x<256) (hl:b.length≤524288):
  Calls Tryz.prog 101 #[v] w fun e w'=> ∃v' S,e= .returned (.tuple #[v',.int .i64 0])∧DefS b S∧S.length≤1048576∧w'.ownsRow w.heap.size 5 1 v' S.length (S.map u8v)∧Below w.heap.size w w':=by
 have Hv:=Lib.hid hv
 have Hby:=Lib.hid hby
 have Hl:=Lib.hid hl
 obtain ⟨p,c,rfl,-⟩:=hv.cells
 have hM:=Lib.hid (znx b _ w hv.row hby (by omega))
 obtain ⟨nb,hnb⟩:∃n,b.length=n:=⟨_,rfl⟩
 have Hnb:=Lib.hid hnb
 rw [hnb] at hl hM Hv ⊢
 have d0:decide ((nb:Int)>524288)=false:=by simp;omega
 clear hv hby hnb
 go_enter Tryz.func101,Tryz.ntmps101
 go_wp2_with fail
 refine Calls.mono hM.out ?_
 rintro _ w1 ⟨vt,ts,rfl,ho1,ht1,hb1⟩
 replace ht1:Toks (fb b) b.length 0 ts:=by rw [Hnb.out];exact ht1
 have Ht1:=Lib.hid ht1
 obtain ⟨pt,ct,e,-,-,hrt⟩:=ho1.row
 subst e
 have Hrt:=Lib.hid hrt
 have H256:Hid (∀t∈ts,t.b<256):=Lib.hid (znK ht1 Hby.out)
 have Hb1:=Lib.hid hb1
 clear ho1 ht1 hb1 hrt hM
 obtain ⟨nt,hnt⟩:∃n,ts.length=n:=⟨_,rfl⟩
 have Hnt:=Lib.hid hnt
 rw [hnt]
 clear hnt
 go_upto_region 4 with (fail)
 have hb2:=Below.al1 w1 (.cells #[.slice p nb c,.slice pt nt ct] 180)
 have hz2:=World.alloc_heap_new w1 (.cells #[.slice p nb c,.slice pt nt ct] 180)
 generalize w1.alloc (.cells #[.slice p nb c,.slice pt nt ct] 180)=w2 at *
 have hst:=zi9 p c b pt ct ts w2 (by rw [Hnb.out];exact Hv.out.below (Below.thn Hb1.out hb2)) Hby.out Hl.out (Hrt.out.turns (T:=fun _=>False) (Turns.of_below' hb2) fun _ _ h=>h) Ht1.out H256.out
 rw [Hnb.out,Hnt.out] at hst
 have Hst:=Lib.hid hst
 have Hb2:=Lib.hid (Below.thn Hb1.out hb2)
 have y0:w2.cell? ⟨w1.heap.size,0,none⟩=some (.slice p nb c):=zaa hz2 rfl
 have y1:w2.cell? ⟨w1.heap.size,1,none⟩=some (.slice pt nt ct):=zaa hz2 rfl
 clear hst hb2 hz2 hl
 go_wp2_with fail
 refine Calls.mono Hst.out ?_
 rintro _ w3 ⟨B,sv,P,rfl,hw,hm,hf,hb3⟩
 have Hw:=Lib.hid (zf7 (B+1) B (nmP P) (szP P) sv w3 hw hm)
 have Hb3:=Lib.hid (Below.thn Hb2.out hb3)
 have hlen:=zds P
 have HS:Hid (DefS b (bytP P)∧(bytP P).length≤1048576):=Lib.hid ⟨by
  obtain ⟨Q,h1,rfl⟩:=hf.last
  exact ⟨ts,Q,Ht1.out,H256.out,h1,rfl⟩,by omega⟩
 clear hw hf hb3 hm hlen Hst y0 y1
 go_wp2_with fail
 refine Calls.mono Hw.out ?_
 rintro _ w4 ⟨v4,rfl,ho4,hb4⟩
 have Ho4:Hid (w4.ownsRow w.heap.size 5 1 v4 (bytP P).length ((bytP P).map u8v)):=Lib.hid (za3 ho4 Hb3.out.size)
 have Hb4:=Lib.hid (Below.thn Hb3.out hb4)
 obtain ⟨p4,c4,rfl⟩:=zac ho4
 clear ho4 hb4 Hw
 go_wp2
 go_ret2
 exact ⟨_,bytP P,rfl,HS.out.1,HS.out.2,Ho4.out,Hb4.out⟩
end
end Go.Proofs.YtedakhgaghfogaaGreat
