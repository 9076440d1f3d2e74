/- Several texts in one, each with its own head. -/
import Derived.Test.YtedakhgaghfogaaGreatQs41
namespace Go.Proofs.YtedakhgaghfogaaGreat
section
open Go.RowKit
attribute [local go_sem] Oper.semAt_some zaU
set_option maxRecDepth 20000 in
set_option maxHeartbeats 4000000 in
theorem zhO (wd ht:Int) (q:Option Addr) (m d:Nat) (cs:List U6) (rs:List U4) (pc pr:Option Addr) (cc cr:Nat) (w:World) (hc:RowAt zdM 6 w pc cs) (hr:RowAt zaG 4 w pr rs) (lc:cs.length≤cc) (lr:rs.length≤cr) (bc:cs.length≤9223372036854775807) (br:rs.length≤9223372036854775807) (hw:1≤wd∧wd≤256) (hh:1≤ht∧ht≤256) (wc:∀c∈cs,c.wf) (wr:∀r∈rs,r.wf)
  (f:Bool) (hf:decide ((cs.length≤65535∧rs.length≤65535)∧(∀c∈cs,c.ok wd ht)∧∀r∈rs,r.ok wd ht)=f):
  Makes Tryz.prog 33 #[IgV wd ht (.slice q m d),.slice pc cs.length cc,.slice pr rs.length cr] w (.bool f):=by
 unfold Makes
 have hmf:∀(fn:Fn) (first cap:Array Value) (w:World),(Instr.makeFunc fn first cap).run Tryz.prog w= .ok (.func fn first cap) w:=fun _ _ _ _=>rfl
 have Hf:=Lib.hid hf
 have hb:=Below.al1 w (.cells #[.int .i64 wd,.int .i64 ht,.slice q m d] 26)
 have hI:=ImB.new w wd ht (.slice q m d)
 have hc2:=hc.below hb
 have hr2:=hr.below hb
 obtain ⟨n,hn⟩:∃n,cs.length=n:=⟨_,rfl⟩
 obtain ⟨k,hk⟩:∃n,rs.length=n:=⟨_,rfl⟩
 obtain ⟨z,hz⟩:∃z:Int,max (n:Int) (k:Int)=z:=⟨_,rfl⟩
 have hmax:∀w:World,(Builtin.max_ #[3,3] 3 #[.int .i64 (n:Int),.int .i64 (k:Int)]).run Tryz.prog w= .ok (.int .i64 z) w:=fun w=>by
  rw [run_max_int2,←hz];congr 2;split<;>omega
 rw [hn] at lc bc ⊢
 rw [hk] at lr br ⊢
 have Hn:=Lib.hid hn
 have Hk:=Lib.hid hk
 have Hz:=Lib.hid hz
 have Hb:=Lib.hid hb
 have HI:=Lib.hid hI
 have HC:=Lib.hid hc2
 have HR:=Lib.hid hr2
 have WC:=Lib.hid wc
 have WR:=Lib.hid wr
 clear hf hb hI hc hr hc2 hr2 hn hk hz wc wr
 go_enter Tryz.func33,Tryz.ntmps33
 go_upto_region 1 with (fail)
 generalize w.alloc (.cells #[.int .i64 wd,.int .i64 ht,.slice q m d] 26)=W at *
 by_cases h1:z≤65535
 case neg=>
  have d1:decide (z≤65535)=false:=by simpa using h1
  obtain rfl:f=false:=by rw [←Hf.out];exact decide_eq_false fun h=>h1 (by have:=h.1;rw [Hn.out,Hk.out] at this;have:=Hz.out;omega)
  go_wp2
  go_ret
  exact ⟨rfl,Hb.out⟩
 have d1:decide (z≤65535)=true:=by simpa using h1
 have hz2:=Hz.out
 have hn6:n≤65535:=by omega
 have hk6:k≤65535:=by omega
 clear hz2
 obtain ⟨b1,hb1⟩:∃f,decide (∃c∈cs,¬c.ok wd ht)=f:=⟨_,rfl⟩
 obtain ⟨b2,hb2⟩:∃f,decide (∃r∈rs,¬r.ok wd ht)=f:=⟨_,rfl⟩
 have HF1:=Lib.hid (fun W' hW'=>zli w.heap.size cs pc cc wd ht q m d W' (HI.out.later hW') (HC.out.below hW') (by rw [Hn.out];exact hn6) (by rw [Hn.out];exact lc) hw hh WC.out b1 hb1)
 have HF2:=Lib.hid (fun W' hW'=>zlo w.heap.size rs pr cr wd ht q m d W' (HI.out.later hW') (HR.out.below hW') (by rw [Hk.out];exact hk6) (by rw [Hk.out];exact lr) hw hh WR.out b2 hb2)
 rw [Hn.out] at HF1
 rw [Hk.out] at HF2
 have hfb:f=(!b1 && !b2):=by
  rw [←Hf.out,←hb1,←hb2]
  by_cases e1:∃c∈cs,¬c.ok wd ht
  ·rw [decide_eq_true e1]
   obtain ⟨c,hc,hno⟩:=e1
   exact decide_eq_false fun h=>hno (h.2.1 c hc)
  ·rw [decide_eq_false e1]
   by_cases e2:∃r∈rs,¬r.ok wd ht
   ·rw [decide_eq_true e2]
    obtain ⟨c,hc,hno⟩:=e2
    exact decide_eq_false fun h=>hno (h.2.2 c hc)
   ·rw [decide_eq_false e2]
    exact decide_eq_true ⟨⟨by rw [Hn.out];exact hn6,by rw [Hk.out];exact hk6⟩,fun c hc=>Classical.not_not.1 fun h=>e1 ⟨c,hc,h⟩,fun c hc=>Classical.not_not.1 fun h=>e2 ⟨c,hc,h⟩⟩
 have Hfb:=Lib.hid hfb
 clear hb1 hb2 hfb hn6 hk6
 go_wp2_with fail
 refine Calls.mono (HF1.out W (Below.refl _ _)) ?_
 rintro _ w1 ⟨rfl,hb1⟩
 have Hb1:=Lib.hid hb1
 clear hb1
 cases b1
 case true=>
  go_wp2
  go_ret
  exact ⟨by rw [Hfb.out];rfl,Below.thn Hb.out Hb1.out⟩
 case false=>
  go_wp2_with fail
  refine Calls.mono (HF2.out w1 Hb1.out) ?_
  rintro _ w2 ⟨rfl,hb2⟩
  have Hb2:=Lib.hid (Below.thn Hb1.out hb2)
  clear hb2
  go_wp2
  go_ret
  exact ⟨by rw [Hfb.out];cases b2<;>rfl,Below.thn Hb.out Hb2.out⟩
theorem zbs (i:Nat):¬(Value.slice none 0 0).ownBlock=some i:=fun h=>by cases h
set_option maxRecDepth 20000 in
set_option maxHeartbeats 4000000 in
theorem zeZ (base:Nat) (cs:List U6) (p:Option Addr) (c:Nat) (w:World) (hp:RowAt zdM 6 w p cs) (hl:cs.length≤65535) (hc:cs.length≤c) (hb:base≤w.heap.size):
  Calls Tryz.prog 34 #[.slice p cs.length c] w fun e w'=> ∃v',e= .returned v'∧ApB base (.slice none 0 0) w (up2 cs.length++cs.flatMap up6B) v' w':=by
 have Hp:=Lib.hid hp
 obtain ⟨n,hn⟩:∃n,cs.length=n:=⟨_,rfl⟩
 rw [hn] at hl hc ⊢
 have Hn:=Lib.hid hn
 clear hp hn
 go_enter Tryz.func34,Tryz.ntmps34
 go_wp2_with fail
 refine Calls.mono (zb0 base (n:Int) (.slice none 0 0) [] w (World.ownsRow_nil _ _ _ _) hb (by decide)) ?_
 rintro _ w1 ⟨v1,rfl,h1⟩
 have HA1:Hid (ApB base (.slice none 0 0) w (up2 n++(cs.take 0).flatMap up6B) v1 w1):=Lib.hid (h1.congr (by rw [List.take_zero,List.flatMap_nil,List.append_nil];rfl))
 clear h1
 go_wp2_with fail
 go_loopw [3,11] (fun ov iv wr=> ∃i:Nat,iv= .int .i64 (i:Int)∧i≤n∧Hid (ApB base (.slice none 0 0) w (up2 n++(cs.take i).flatMap up6B) ov wr)) (fun _ iv _=>n - (intOf iv).toNat)
 case atStart=>exact ⟨0,rfl,Nat.zero_le _,HA1⟩
 case round=>
  obtain ⟨i,rfl,hi,HA⟩:=hrel
  clear HA1
  by_cases hin:i<n
  ·have d1:decide ((i:Int)<(n:Int))=true:=by simp;omega
   have hil:i<cs.length:=by rw [Hn.out];exact hin
   obtain ⟨g,off,rfl,hlt,hcell⟩:∃b off,p=some ⟨b,off,none⟩∧b<w.heap.size∧∀i x,cs[i]? =some x→∀j u,(zdM x)[j]? =some u→w.cell? ⟨b,off+i*6+j,none⟩=some u:=by
    rcases Hp.out with ⟨-,h⟩ | ⟨b,off,e,h,hc⟩
    ·rw [h] at hil;exact absurd hil (Nat.not_lt_zero _)
    ·exact ⟨b,off,e,h,hc⟩
   obtain ⟨r,hr⟩:∃r,cs[i]=r:=⟨_,rfl⟩
   have hri:cs[i]? =some r:=by rw [List.getElem?_eq_getElem hil,hr]
   have hg:=hcell i r hri
   have ht:=HA.out.turns
   have x0:=ht.cell (hg 0 (.int .i64 r.x) rfl) (zbs _)
   have x1:=ht.cell (hg 1 (.int .i64 r.y) rfl) (zbs _)
   have x2:=ht.cell (hg 2 (.int .i64 r.a) rfl) (zbs _)
   have x3:=ht.cell (hg 3 (.int .i64 r.b) rfl) (zbs _)
   have x4:=ht.cell (hg 4 (.int .i64 r.dx) rfl) (zbs _)
   have x5:=ht.cell (hg 5 (.int .i64 r.dy) rfl) (zbs _)
   rw [Nat.add_zero] at x0
   have htake:cs.take (i+1)=cs.take i++[r]:=by rw [List.take_succ_eq_append_getElem hil,hr]
   have hlen:(up2 n++(cs.take i).flatMap up6B).length≤800000:=by
    rw [List.length_append,zch,List.length_take]
    show 2+_≤_
    omega
   obtain ⟨bs,hbs⟩:∃bs,up2 n++(cs.take i).flatMap up6B=bs:=⟨_,rfl⟩
   have hfin:up2 n++(cs.take (i+1)).flatMap up6B=((bs++up4B ⟨r.x,r.y,r.a,r.b⟩)++up2 r.dx)++up2 r.dy:=by
    rw [htake,List.flatMap_append,←List.append_assoc,hbs,List.flatMap_singleton]
    simp only [up6B,up4B,List.append_assoc]
   rw [hbs] at HA hlen
   have Hfin:=Lib.hid hfin
   obtain ⟨o,ho⟩:∃o,off+i*6=o:=⟨_,rfl⟩
   rw [ho] at x0 x1 x2 x3 x4 x5
   have j0:(0:Int)≤(i:Int):=by omega
   have j1:(i:Int)<(n:Int):=by omega
   clear htake hfin hg hri hr hcell hil hlt hbs ht
   go_upto_region 5 with (fail)
   have hz2:=World.alloc_heap_new wr (.cells #[.int .i64 r.x,.int .i64 r.y,.int .i64 r.a,.int .i64 r.b,.int .i64 r.dx,.int .i64 r.dy] 38)
   have hb2:=Below.al1 wr (.cells #[.int .i64 r.x,.int .i64 r.y,.int .i64 r.a,.int .i64 r.b,.int .i64 r.dx,.int .i64 r.dy] 38)
   generalize wr.alloc (.cells #[.int .i64 r.x,.int .i64 r.y,.int .i64 r.a,.int .i64 r.b,.int .i64 r.dx,.int .i64 r.dy] 38)=w2 at *
   obtain ⟨C,hC⟩:∃C,wr.heap.size=C:=⟨_,rfl⟩
   have HA2:=Lib.hid (HA.out.later hb2)
   have hCo:∀k,u3.ownBlock=some k→k<C:=fun k hk=>by rw [←hC];exact (HA.out.own.lt k hk).2
   have hC2:C<w2.heap.size:=by rw [←hC];exact zab hz2
   rw [hC] at hz2 ⊢
   have HCo:=Lib.hid hCo
   obtain ⟨c0,c1,c2,c3,c4,c5⟩:=zbj hz2
   have hbw2:base≤w2.heap.size:=Nat.le_trans hb HA2.out.turns.size
   clear hb2 hz2 hC hCo x0 x1 x2 x3 x4 x5
   go_wp2_with fail
   refine Calls.mono (zdU base ⟨r.x,r.y,r.a,r.b⟩ u3 bs w2 HA2.out.own hbw2 (by omega)) ?_
   rintro _ w3 ⟨v3,rfl,h3⟩
   have hn3:¬v3.ownBlock=some C:=fun e=>by
    rcases h3.blk C e with h | h
    ·have:=HCo.out C h;omega
    ·omega
   have hn2:¬u3.ownBlock=some C:=fun e=>by have:=HCo.out C e;omega
   have e4:=h3.turns.cell c4 hn2
   have e5:=h3.turns.cell c5 hn2
   have HA3:=Lib.hid (HA2.out.trans h3)
   have hl3:(bs++up4B ⟨r.x,r.y,r.a,r.b⟩).length≤800008:=by rw [List.length_append,ze1];omega
   have hbw3:base≤w3.heap.size:=Nat.le_trans hb HA3.out.turns.size
   have hC3:C<w3.heap.size:=Nat.lt_of_lt_of_le hC2 h3.turns.size
   clear h3 c0 c1 c2 c3 c4 c5
   go_wp2_with fail
   refine Calls.mono (zb0 base r.dx v3 _ w3 HA3.out.own hbw3 (by omega)) ?_
   rintro _ w4 ⟨v4,rfl,h4⟩
   have f5:=h4.turns.cell e5 hn3
   have HA4:=Lib.hid (HA3.out.trans h4)
   have hl4:((bs++up4B ⟨r.x,r.y,r.a,r.b⟩)++up2 r.dx).length≤800010:=by
    rw [List.length_append]
    show _+2≤_
    omega
   have hbw4:base≤w4.heap.size:=Nat.le_trans hb HA4.out.turns.size
   clear h4 e4 e5
   go_wp2_with fail
   refine Calls.mono (zb0 base r.dy v4 _ w4 HA4.out.own hbw4 (by omega)) ?_
   rintro _ w5 ⟨v5,rfl,h5⟩
   have HA5:Hid (ApB base (.slice none 0 0) w (up2 n++(cs.take (i+1)).flatMap up6B) v5 w5):=Lib.hid ((HA4.out.trans h5).congr Hfin.out.symm)
   clear h5 f5
   go_wp2
   go_roundw
   case rel=>exact ⟨i+1,by go_num,by omega,HA5⟩
   case measure=>simp [intOf];omega
  ·obtain rfl:i=n:=by omega
   have d1:decide ((i:Int)<(i:Int))=false:=by simp
   have ha:=HA.out
   rw [List.take_of_length_le (by rw [Hn.out];exact Nat.le_refl _)] at ha
   have HA2:=Lib.hid ha
   clear ha
   go_wp2
   go_ret
   exact ⟨_,rfl,HA2.out⟩
end
section
open Go.RowKit
attribute [local go_sem] Oper.semAt_some zaU
def MkOk (wd ht:Int) (n:Nat) (cs:List U6) (rs:List U4):Prop:=cdM wd ht n∧(cs.length≤65535∧rs.length≤65535)∧(∀c∈cs,c.ok wd ht)∧∀r∈rs,r.ok wd ht
def zfW (wd:Int) (l:List Nat) (cs:List U6) (rs:List U4):Prop:=524288<4+12*cs.length+16*rs.length∨524288<(upBy wd.toNat l cs rs).length
def MkE (wd ht:Int) (n:Nat) (l:List Nat) (cs:List U6) (rs:List U4) (base:Nat) (e:Ending) (w':World):Prop:=
 (¬MkOk wd ht n cs rs∧e= .returned (.tuple #[.slice none 0 0,.int .i64 1]))∨
 (MkOk wd ht n cs rs∧zfW wd l cs rs∧e= .returned (.tuple #[.slice none 0 0,.int .i64 2]))∨
 (MkOk wd ht n cs rs∧¬zfW wd l cs rs∧∃v,e= .returned (.tuple #[v,.int .i64 0])∧w'.ownsRow base 5 1 v (upBy wd.toNat l cs rs).length ((upBy wd.toNat l cs rs).map u8v))
theorem ziR {α:Type} (f:α→List Nat) (l:List α) (j:Nat):((l.take j).flatMap f).length≤(l.flatMap f).length:=by
 have h:l.flatMap f=(l.take j).flatMap f++(l.drop j).flatMap f:=by rw [←List.flatMap_append,List.take_append_drop]
 rw [h,List.length_append]
 omega
theorem ApB.bel {base:Nat} {v:Value} {w w':World} {bs:List Nat} (h:ApB base (.slice none 0 0) w bs v w'):Below w.heap.size w w':=
 h.turns.below (Nat.le_refl _) (fun i hi=>absurd hi (zbs i))
theorem zqH {wd tx ty aw:Nat} {L:List Nat} {N:Nat} (hN:0<N) (hL:∀x∈L,x<N) (n:Nat):∀x∈upC wd tx ty aw n L,x<N:=fun x hx=>by
 obtain ⟨y,-,hx⟩:=List.mem_flatMap.1 hx
 obtain ⟨z,-,rfl⟩:=List.mem_map.1 hx
 exact zaE hN hL _
set_option maxRecDepth 20000 in
set_option maxHeartbeats 16000000 in
theorem zfy (wd ht:Int) (p:Option Addr) (n c:Nat) (l:List Nat) (cs:List U6) (rs:List U4) (pc pr:Option Addr) (cc cr:Nat) (w:World) (hp:Row encP 1 w (.slice p n c) l) (h32:∀x∈l,x<4294967296) (hc:RowAt zdM 6 w pc cs) (hr:RowAt zaG 4 w pr rs) (lc:cs.length≤cc) (lr:rs.length≤cr) (bc:cs.length≤9223372036854775807) (br:rs.length≤9223372036854775807) (wc:∀c∈cs,c.wf) (wr:∀r∈rs,r.wf):
  Calls Tryz.prog 13 #[.slice pc cs.length cc,.slice pr rs.length cr,IgV wd ht (.slice p n c)] w fun e w'=>Below w.heap.size w w'∧MkE wd ht n l cs rs w.heap.size e w':=by
 unfold MkE
 have hb:=Below.al1 w (.cells #[.int .i64 wd,.int .i64 ht,.slice p n c] 26)
 have hI:=ImB.new w wd ht (.slice p n c)
 have hc2:=hc.below hb
 have hr2:=hr.below hb
 have hp2:=hp.below hb
 have hlen:=hp.lenR
 obtain ⟨f1,hf1⟩:∃f,decide (cdM wd ht n)=f:=⟨_,rfl⟩
 obtain ⟨f2,hf2⟩:∃f,decide ((cs.length≤65535∧rs.length≤65535)∧(∀c∈cs,c.ok wd ht)∧∀r∈rs,r.ok wd ht)=f:=⟨_,rfl⟩
 have Hf1:=Lib.hid hf1
 have Hf2:=Lib.hid hf2
 obtain ⟨N,hN⟩:∃n,cs.length=n:=⟨_,rfl⟩
 obtain ⟨K,hK⟩:∃n,rs.length=n:=⟨_,rfl⟩
 rw [hN] at lc bc ⊢
 rw [hK] at lr br ⊢
 have HN:=Lib.hid hN
 have HK:=Lib.hid hK
 have Hb:=Lib.hid hb
 have HI:=Lib.hid hI
 have HC:=Lib.hid hc2
 have HR:=Lib.hid hr2
 have HPx:=Lib.hid hp2
 have WC:=Lib.hid wc
 have WR:=Lib.hid wr
 have H32:=Lib.hid h32
 have Hlen:=Lib.hid hlen
 clear hb hI hc hr hp hc2 hr2 hp2 hN hK wc wr h32 hf1 hf2 hlen
 go_enter Tryz.func13,Tryz.ntmps13
 go_upto_region 1 with (fail)
 generalize w.alloc (.cells #[.int .i64 wd,.int .i64 ht,.slice p n c] 26)=W at *
 obtain ⟨P,hP⟩:∃P,w.heap.size=P:=⟨_,rfl⟩
 rw [hP] at HI ⊢
 have HP:=Lib.hid hP
 clear hP
 obtain ⟨i0,i1,i2⟩:=HI.out.c
 go_wp2_with fail
 refine Calls.mono (zg7 wd ht p n c W f1 Hf1.out) ?_
 rintro _ w1 ⟨rfl,hb1⟩
 have HI1:=Lib.hid (HI.out.later hb1)
 have Hb1:=Lib.hid hb1
 obtain ⟨j0,j1,j2⟩:=HI1.out.c
 clear i0 i1 i2 hb1
 cases f1
 case false=>
  go_wp2
  go_ret2
  exact ⟨Below.thn Hb.out Hb1.out,.inl ⟨fun h=>of_decide_eq_false Hf1.out h.1,rfl⟩⟩
 case true=>
 have hM:=of_decide_eq_true Hf1.out
 have HM:=Lib.hid hM
 have hwd:1≤wd∧wd≤256:=⟨hM.1,hM.2.2.1⟩
 have hht:1≤ht∧ht≤256:=⟨hM.2.1,hM.2.2.2.1⟩
 obtain ⟨wn,hwn⟩:∃z:Nat,wd=(z:Int):=⟨wd.toNat,by omega⟩
 obtain ⟨hn,hhn⟩:∃z:Nat,ht=(z:Int):=⟨ht.toNat,by omega⟩
 subst hwn
 subst hhn
 have hwl:l.length=wn*hn:=by
  have h1:=HM.out.2.2.2.2
  rw [←Int.natCast_mul] at h1
  rw [Hlen.out]
  omega
 have Hwl:=Lib.hid hwl
 have hW:=zhO (wn:Int) (hn:Int) p n c cs rs pc pr cc cr w1 (HC.out.below Hb1.out) (HR.out.below Hb1.out) (by rw [HN.out];exact lc) (by rw [HK.out];exact lr) (by rw [HN.out];exact bc) (by rw [HK.out];exact br) hwd hht WC.out WR.out f2 Hf2.out
 rw [HN.out,HK.out] at hW
 have HW:=Lib.hid hW
 clear hW hM hwl
 go_wp2_with fail
 refine Calls.mono HW.out ?_
 rintro _ w2 ⟨rfl,hb2⟩
 have HI2:=Lib.hid (HI1.out.later hb2)
 have Hb2:=Lib.hid (Below.thn Hb1.out hb2)
 obtain ⟨k0,k1,k2⟩:=HI2.out.c
 clear j0 j1 j2 hb2 HW
 cases f2
 case false=>
  go_wp2
  go_ret2
  exact ⟨Below.thn Hb.out Hb2.out,.inl ⟨fun h=>of_decide_eq_false Hf2.out h.2,rfl⟩⟩
 case true=>
 have hO:=of_decide_eq_true Hf2.out
 have HOk:Hid (MkOk (wn:Int) (hn:Int) n cs rs):=Lib.hid ⟨HM.out,hO⟩
 have hN6:N≤65535:=by rw [←HN.out];exact hO.1.1
 have hK6:K≤65535:=by rw [←HK.out];exact hO.1.2
 clear hO
 have a1:IntKind.i64.wrap ((N:Int)*12)=((12*N:Nat):Int):=by rw [show ((N:Int)*12)=((12*N:Nat):Int) by omega];exact IntWalk.i64_in _ (by omega)
 have a2:IntKind.i64.wrap (4+((12*N:Nat):Int))=((4+12*N:Nat):Int):=by rw [show (4+((12*N:Nat):Int))=((4+12*N:Nat):Int) by omega];exact IntWalk.i64_in _ (by omega)
 have a3:IntKind.i64.wrap ((K:Int)*16)=((16*K:Nat):Int):=by rw [show ((K:Int)*16)=((16*K:Nat):Int) by omega];exact IntWalk.i64_in _ (by omega)
 have a4:IntKind.i64.wrap (((4+12*N:Nat):Int)+((16*K:Nat):Int))=((4+12*N+16*K:Nat):Int):=by rw [show (((4+12*N:Nat):Int)+((16*K:Nat):Int))=((4+12*N+16*K:Nat):Int) by omega];exact IntWalk.i64_in _ (by omega)
 by_cases hl:524288<4+12*N+16*K
 ·have d:decide (4+12*(N:Int)+16*(K:Int)>524288)=true:=by simp only [decide_eq_true_eq];omega
  go_wp2
  go_ret2
  exact ⟨Below.thn Hb.out Hb2.out,.inr (.inl ⟨HOk.out,.inl (by rw [HN.out,HK.out];exact hl),rfl⟩)⟩
 have d:decide (4+12*(N:Int)+16*(K:Int)>524288)=false:=by simp only [decide_eq_false_iff_not];omega
 have Hl:=Lib.hid hl
 have hbase:w.heap.size≤w2.heap.size:=(Below.thn Hb.out Hb2.out).size
 have hT:=zeZ w.heap.size cs pc cc w2 (HC.out.below Hb2.out) (by rw [HN.out];exact hN6) (by rw [HN.out];exact lc) hbase
 rw [HN.out] at hT
 have HT:=Lib.hid hT
 obtain ⟨D,hD⟩:∃D,up2 N++cs.flatMap up6B=D:=⟨_,rfl⟩
 rw [hD] at HT
 have hDl:D.length=2+12*N:=by rw [←hD,List.length_append,zch,HN.out];rfl
 have HD:=Lib.hid hD
 clear hT hl hD
 go_wp2_with fail
 refine Calls.mono HT.out ?_
 rintro _ w3 ⟨v3,rfl,h3⟩
 have HA3:=Lib.hid h3
 have hb3:w.heap.size≤w3.heap.size:=Nat.le_trans hbase h3.turns.size
 clear h3 HT a1 a2 a3 a4 d
 go_wp2_with fail
 refine Calls.mono (zb0 w.heap.size (K:Int) v3 D w3 HA3.out.own hb3 (by omega)) ?_
 rintro _ w4 ⟨v4,rfl,h4⟩
 obtain ⟨E,hE⟩:∃E,D++up2 K=E:=⟨_,rfl⟩
 rw [hE] at h4
 have hEl:E.length=4+12*N:=by
  rw [←hE,List.length_append,hDl]
  show 2+12*N+2=_
  omega
 obtain ⟨F,hF⟩:∃F,upPB wn l=F:=⟨_,rfl⟩
 have hbody:upBy wn l cs rs=E++rs.flatMap F:=by
  rw [upBy,HN.out,HK.out,←List.append_assoc,HD.out,←List.append_assoc,hE,hF]
 have HE:=Lib.hid hE
 have HF:=Lib.hid hF
 have HBody:=Lib.hid hbody
 have HA4:Hid (ApB w.heap.size (.slice none 0 0) w2 (E++(rs.take 0).flatMap F) v4 w4):=Lib.hid ((HA3.out.trans h4).congr (by rw [List.take_zero,List.flatMap_nil,List.append_nil]))
 have HL4:Hid ((E++(rs.take 0).flatMap F).length≤524288):=Lib.hid (by rw [List.take_zero,List.flatMap_nil,List.append_nil,hEl];have:=Hl.out;omega)
 clear h4 hb3 HA3 hE hF hbody hDl k0 k1 k2
 go_wp2_with fail
 go_loopw [9,43] (fun ov iv wr=> ∃i:Nat,iv= .int .i64 (i:Int)∧i≤K∧Hid (ApB w.heap.size (.slice none 0 0) w2 (E++(rs.take i).flatMap F) ov wr)∧Hid ((E++(rs.take i).flatMap F).length≤524288)) (fun _ iv _=>K - (intOf iv).toNat)
 case atStart=>exact ⟨0,rfl,Nat.zero_le _,HA4,HL4⟩
 case round=>
  obtain ⟨i,rfl,hi,HA,HL⟩:=hrel
  clear HA4 HL4
  by_cases hin:i<K
  ·have d1:decide ((i:Int)<(K:Int))=true:=by simp;omega
   have hil:i<rs.length:=by rw [HK.out];exact hin
   obtain ⟨g,off,rfl,hlt,hcell⟩:∃b off,pr=some ⟨b,off,none⟩∧b<w2.heap.size∧∀i x,rs[i]? =some x→∀j u,(zaG x)[j]? =some u→w2.cell? ⟨b,off+i*4+j,none⟩=some u:=by
    rcases HR.out.below Hb2.out with ⟨-,h⟩ | ⟨b,off,e,h,hc⟩
    ·rw [h] at hil;exact absurd hil (Nat.not_lt_zero _)
    ·exact ⟨b,off,e,h,hc⟩
   obtain ⟨r,hr⟩:∃r,rs[i]=r:=⟨_,rfl⟩
   have hri:rs[i]? =some r:=by rw [List.getElem?_eq_getElem hil,hr]
   have hg:=hcell i r hri
   have htn:=HA.out.turns
   have hok:r.ok (wn:Int) (hn:Int):=HOk.out.2.2.2 r (by rw [←hr];exact List.getElem_mem hil)
   have hri4:i*4=i*4:=rfl
   obtain ⟨x,y,a,b,rfl⟩:∃x y a b:Nat,r=⟨(x:Int),(y:Int),(a:Int),(b:Int)⟩:=by
    obtain ⟨h1,h2,h3,h4,-,-⟩:=hok
    obtain ⟨rx,ry,ra,rb⟩:=r
    simp only at h1 h2 h3 h4
    exact ⟨rx.toNat,ry.toNat,ra.toNat,rb.toNat,by rw [Int.toNat_of_nonneg h1,Int.toNat_of_nonneg h2,Int.toNat_of_nonneg (by omega),Int.toNat_of_nonneg (by omega)]⟩
   have q1:x+a≤wn:=by have:=hok.2.2.2.2.1;simp only at this;omega
   have q2:y+b≤hn:=by have:=hok.2.2.2.2.2;simp only at this;omega
   have q3:1≤a:=by have:=hok.2.2.1;simp only at this;omega
   have q4:1≤b:=by have:=hok.2.2.2.1;simp only at this;omega
   have x0:=htn.cell (hg 0 (.int .i64 (x:Int)) rfl) (zbs _)
   have x1:=htn.cell (hg 1 (.int .i64 (y:Int)) rfl) (zbs _)
   have x2:=htn.cell (hg 2 (.int .i64 (a:Int)) rfl) (zbs _)
   have x3:=htn.cell (hg 3 (.int .i64 (b:Int)) rfl) (zbs _)
   rw [Nat.add_zero] at x0
   have hI:=HI2.out.c
   have y0:=htn.cell hI.1 (zbs _)
   have y1:=htn.cell hI.2.1 (zbs _)
   have y2:=htn.cell hI.2.2 (zbs _)
   have htake:rs.take (i+1)=rs.take i++[⟨(x:Int),(y:Int),(a:Int),(b:Int)⟩]:=by rw [List.take_succ_eq_append_getElem hil,hr]
   obtain ⟨bs,hbs⟩:∃bs,E++(rs.take i).flatMap F=bs:=⟨_,rfl⟩
   have hfin:E++(rs.take (i+1)).flatMap F=bs++F ⟨(x:Int),(y:Int),(a:Int),(b:Int)⟩:=by
    rw [htake,List.flatMap_append,←List.append_assoc,hbs,List.flatMap_singleton]
   have htot:(E++(rs.take (i+1)).flatMap F).length≤(E++rs.flatMap F).length:=by
    rw [List.length_append,List.length_append]
    have:=ziR F rs (i+1)
    omega
   rw [hbs] at HA HL
   have Hfin:=Lib.hid hfin
   have Htot:=Lib.hid htot
   obtain ⟨o,ho⟩:∃o,off+i*4=o:=⟨_,rfl⟩
   rw [ho] at x0 x1 x2 x3
   have j0:(0:Int)≤(i:Int):=by omega
   have j1:(i:Int)<(K:Int):=by omega
   have hbsl:=HL.out
   clear htake hfin htot hg hri hri4 hr hcell hil hlt hbs htn hI hok
   go_upto_region 11 with (fail)
   have hz2:=World.alloc_heap_new wr (.cells #[.int .i64 (x:Int),.int .i64 (y:Int),.int .i64 (a:Int),.int .i64 (b:Int)] 36)
   have hb5:=Below.al1 wr (.cells #[.int .i64 (x:Int),.int .i64 (y:Int),.int .i64 (a:Int),.int .i64 (b:Int)] 36)
   generalize wr.alloc (.cells #[.int .i64 (x:Int),.int .i64 (y:Int),.int .i64 (a:Int),.int .i64 (b:Int)] 36)=w5 at *
   obtain ⟨C,hC⟩:∃C,wr.heap.size=C:=⟨_,rfl⟩
   have HA5:=Lib.hid (HA.out.later hb5)
   have HP5:Hid (Row encP 1 w5 (.slice p n c) l):=Lib.hid (HPx.out.below (Below.thn Hb2.out HA5.out.bel))
   rw [hC] at hz2 ⊢
   obtain ⟨c0,c1,c2,c3,-⟩:=zau hz2
   have z0:=cell_later hb5 y0
   have z1:=cell_later hb5 y1
   have z2:=cell_later hb5 y2
   have hcut:=zmE wn hn x y a b p c l w5 (by rw [Hlen.out];exact HP5.out) Hwl.out q1 q2 q3 (by omega) (by omega)
   rw [Hlen.out] at hcut
   have HCut:=Lib.hid hcut
   clear hb5 hz2 hC hcut x0 x1 x2 x3 y0 y1 y2
   go_wp2_with fail
   refine Calls.mono HCut.out ?_
   rintro _ w6 ⟨v6,rfl,ho6,hb6⟩
   obtain ⟨p6,c6,rfl⟩:=zac ho6
   have Hr6:=Lib.hid (zfu ho6)
   have HA6:=Lib.hid (HA5.out.later hb6)
   have d0:=cell_later hb6 c0
   have d2:=cell_later hb6 c1
   have d3:=cell_later hb6 c2
   have d4:=cell_later hb6 c3
   have z3:=cell_later hb6 z0
   have z4:=cell_later hb6 z1
   have z5:=cell_later hb6 z2
   have hab:b*a≤65536:=Nat.mul_le_mul (show b≤256 by omega) (show a≤256 by omega)
   have hcd:cdM (a:Int) (b:Int) (b*a):=⟨by omega,by omega,by omega,by omega,by rw [Int.natCast_mul,Int.mul_comm]⟩
   have Hcd:=Lib.hid hcd
   have Hab:=Lib.hid hab
   have hown:upPB wn l ⟨(x:Int),(y:Int),(a:Int),(b:Int)⟩=upT ⟨(x:Int),(y:Int),(a:Int),(b:Int)⟩ (cdK (upC wn x y a b l)):=rfl
   have hC32:∀v∈upC wn x y a b l,v<4294967296:=zqH (by decide) H32.out b
   have hCl:=zcc wn x y a l b
   obtain ⟨T,hT⟩:∃T,upC wn x y a b l=T:=⟨_,rfl⟩
   rw [hT] at Hr6 hown hC32 hCl
   have HC32:=Lib.hid hC32
   have HCl:=Lib.hid hCl
   have Hown:=Lib.hid hown
   obtain ⟨m6,hm6⟩:∃m,b*a=m:=⟨_,rfl⟩
   rw [hm6] at Hr6 HCl Hcd Hab ⊢
   clear ho6 hb6 c0 c1 c2 c3 z0 z1 z2 hT hown hC32 hCl hcd hab hm6
   go_wp2_with fail
   refine Calls.mono (zpk (a:Int) (b:Int) Hr6.out HC32.out) ?_
   rintro e w7 ⟨hb7,⟨h,-⟩ | ⟨-,S,p7,c7,hS,rfl,ho7⟩⟩
   ·exact absurd Hcd.out h
   rw [zdW hS] at ho7 ⊢
   have hKl:(cdK T).2.length≤196608:=by
    rw [←zdW hS]
    have:=zku T S
    have:=HCl.out
    have:=Hab.out
    omega
   obtain ⟨kk,hkk⟩:∃kk,cdK T=kk:=⟨_,rfl⟩
   rw [hkk] at ho7 hKl ⊢
   have HA7:=Lib.hid (HA6.out.later hb7)
   have e0:=cell_later hb7 d0
   have e1:=cell_later hb7 d2
   have e2:=cell_later hb7 d3
   have e3:=cell_later hb7 d4
   have z6:=cell_later hb7 z3
   have z7:=cell_later hb7 z4
   have z8:=cell_later hb7 z5
   have hs7:w.heap.size≤w7.heap.size:=Nat.le_trans hbase HA7.out.turns.size
   have hsrc:(p7=none∧kk.2.length=0∧c7=0)∨∃g o,p7=some ⟨g,o,none⟩∧u9.ownBlock≠some g∧g<w7.heap.size∧∀j u,(kk.2.map u8v)[j]? =some u→w7.cell? ⟨g,o+j,none⟩=some u:=by
    have hlt:=fun k hk=>(HA6.out.own.lt k hk).2
    obtain ⟨h1,⟨h2,h3⟩ | ⟨g,cap,cur,h2,h3,h4,-⟩⟩:=id ho7
    ·injection h2 with e1 e2 e3
     exact .inl ⟨e1,e2,e3⟩
    ·injection h2 with e1 e2 e3
     refine .inr ⟨g,0,e1,fun e=>?_,zab h4,fun j u hu=>?_⟩
     ·have:=hlt g e;omega
     ·rw [Nat.zero_add]
      have hj:=(List.getElem?_eq_some_iff.1 hu).1
      rw [List.length_map] at hj
      subst e1
      rw [ho7.cellAt j (by omega)]
      exact hu
   have HTell:=Lib.hid (zga w.heap.size kk.1 ⟨(x:Int),(y:Int),(a:Int),(b:Int)⟩ u9 bs kk.2 p7 c7 w7 HA7.out.own hs7 (by omega) (by omega) hsrc)
   have HKk:=Lib.hid hkk
   clear hb7 ho7 hS hsrc hkk d0 d2 d3 d4 z3 z4 z5
   go_wp2_with fail
   refine Calls.mono HTell.out ?_
   rintro _ w8 ⟨v8,rfl,h8⟩
   have HA8:Hid (ApB w.heap.size (.slice none 0 0) w2 (E++(rs.take (i+1)).flatMap F) v8 w8):=Lib.hid ((HA7.out.trans h8).congr (by rw [Hfin.out,←HF.out,Hown.out,HKk.out]))
   obtain ⟨p8,c8,rfl⟩:=zac h8.own
   obtain ⟨z,hz⟩:∃z,(bs++upT ⟨(x:Int),(y:Int),(a:Int),(b:Int)⟩ kk).length=z:=⟨_,rfl⟩
   have hzl:(E++(rs.take (i+1)).flatMap F).length=z:=by rw [Hfin.out,←HF.out,Hown.out,HKk.out];exact hz
   rw [hz] at HA8 ⊢
   have Hzl:=Lib.hid hzl
   clear h8 hz hzl HTell e0 e1 e2 e3 z6 z7 z8
   by_cases hzz:524288<z
   ·have d2:decide ((z:Int)>524288)=true:=by simp only [decide_eq_true_eq];omega
    go_wp2
    go_ret2
    exact ⟨(Below.thn Hb.out Hb2.out).trans (HA8.out.bel.mono hbase),.inr (.inl ⟨HOk.out,.inr (by show 524288<(upBy wn l cs rs).length;rw [HBody.out];have:=Htot.out;have:=Hzl.out;omega),rfl⟩)⟩
   ·have d2:decide ((z:Int)>524288)=false:=by simp only [decide_eq_false_iff_not];omega
    have HL8:Hid ((E++(rs.take (i+1)).flatMap F).length≤524288):=Lib.hid (by have:=Hzl.out;omega)
    go_wp2
    go_roundw
    case rel=>exact ⟨i+1,by go_num,by omega,HA8,HL8⟩
    case measure=>simp [intOf];omega
  ·obtain rfl:i=K:=by omega
   have d1:decide ((i:Int)<(i:Int))=false:=by simp
   have ha:=HA.out
   have hl':=HL.out
   rw [List.take_of_length_le (by rw [HK.out];exact Nat.le_refl _),←HBody.out] at ha hl'
   have HA2:=Lib.hid ha
   have HL2:=Lib.hid hl'
   clear ha hl'
   go_wp2
   go_ret2
   refine ⟨(Below.thn Hb.out Hb2.out).trans (HA2.out.bel.mono hbase),.inr (.inr ⟨HOk.out,fun h=>?_,_,rfl,HA2.out.own⟩)⟩
   rcases h with h | h
   ·rw [HN.out,HK.out] at h;have:=Hl.out;omega
   ·have h2:524288<(upBy wn l cs rs).length:=h
    have:=HL2.out
    omega
end
end Go.Proofs.YtedakhgaghfogaaGreat
