/- Several texts in one, each with its own head. -/
import Derived.Test.YtedakhgaghfogaaGreatQs12
import Derived.Test.YtedakhgaghfogaaGreatQs11
namespace Go.Proofs.YtedakhgaghfogaaGreat
section
open Go.RowKit Go.Maps
abbrev zak (e:Int):Ending:= .panicked [{ v:= .iface 29 (.int .i64 e),recovered:=false}]
theorem zcr (w:World):Calls Tryz.prog 148 #[.int .i64 0] w fun e w'=>e= .returned (.tuple #[])∧w'=w:=by
 go_enter Tryz.func148,Tryz.ntmps148
 go_wp2
 go_end0
 exact ⟨rfl,rfl⟩
theorem zec (x:Int) (h:x≠0) (w:World):Calls Tryz.prog 148 #[.int .i64 x] w fun e w'=>e=zak x∧w'=w:=by
 have d:(x !=0)=true:=by simpa using h
 go_enter Tryz.func148,Tryz.ntmps148
 go_wp2
 exact ⟨rfl,rfl,rfl⟩
def KS (S B:Nat) (ov:Value) (i:Nat):Prop:=i=S∨i=B∨ov.ownBlock=some i
structure Tbl (w:World) (K:Nat→Prop) (T M n L:Nat) (F:Nat×Nat→Option Nat) (ls:List Nat):Prop where
 tb:Tb w T M n L F
 tf:ToldF (lq ls) ls.length 15 0 F
 tm:ToldM (lq ls) ls.length 15 0 L
 le:L≤15
 kt:¬K T
 km:¬K M
def TblV (w:World) (K:Nat→Prop) (tv:Value) (ls:List Nat):Prop:= ∃T M n L F,tv= .pointer (some ⟨T,0,none⟩)∧Tbl w K T M n L F ls
def Codn (w:World) (K:Nat→Prop) (cv:Value) (A D:List Nat):Prop:=
 ∃(C:Nat) (ta td:Value),cv= .pointer (some ⟨C,0,none⟩)∧w.heap[C]? =some (.cells #[ta,td] 269)∧¬K C∧TblV w K ta A∧TblV w K td D
theorem Tbl.go {w w':World} {K K':Nat→Prop} {T M n L:Nat} {F:Nat×Nat→Option Nat} {ls:List Nat} (h:Tbl w K T M n L F ls) (ht:Turns K w w') (hk:∀i,i<w.heap.size→K' i→K i):Tbl w' K' T M n L F ls:=
 ⟨h.tb.turns ht h.kt h.km,h.tf,h.tm,h.le,fun e=>h.kt (hk _ (zab h.tb.tab) e),fun e=>h.km (hk _ h.tb.map.lt e)⟩
theorem TblV.go {w w':World} {K K':Nat→Prop} {tv:Value} {ls:List Nat} (h:TblV w K tv ls) (ht:Turns K w w') (hk:∀i,i<w.heap.size→K' i→K i):TblV w' K' tv ls:=by
 obtain ⟨T,M,n,L,F,e,h⟩:=h
 exact ⟨T,M,n,L,F,e,h.go ht hk⟩
theorem Codn.go {w w':World} {K K':Nat→Prop} {cv:Value} {A D:List Nat} (h:Codn w K cv A D) (ht:Turns K w w') (hk:∀i,i<w.heap.size→K' i→K i):Codn w' K' cv A D:=by
 obtain ⟨C,ta,td,e,h1,h2,h3,h4⟩:=h
 exact ⟨C,ta,td,e,(ht.block C (zab h1) h2).trans h1,fun k=>h2 (hk _ (zab h1) k),h3.go ht hk,h4.go ht hk⟩
theorem zlP {W:World} {B:Nat} {t:TypeId} {a b c d:Value} (x:Value) (h:W.heap[B]? =some (.cells #[a,b,c,d] t)):(W.setCell ⟨B,1,none⟩ x).heap[B]? =some (.cells #[a,x,c,d] t):=by
 obtain ⟨hlt,hk⟩:=Array.getElem?_eq_some_iff.1 h
 show (W.heap.modify B _)[B]? =_
 rw [Array.getElem?_eq_getElem (by rw [Array.size_modify];exact hlt),Array.getElem_modify_self,hk]
 rfl
theorem zmf {W:World} {B:Nat} {t:TypeId} {a b c d:Value} (x:Value) (h:W.heap[B]? =some (.cells #[a,b,c,d] t)):(W.setCell ⟨B,3,none⟩ x).heap[B]? =some (.cells #[a,b,c,x] t):=by
 obtain ⟨hlt,hk⟩:=Array.getElem?_eq_some_iff.1 h
 show (W.heap.modify B _)[B]? =_
 rw [Array.getElem?_eq_getElem (by rw [Array.size_modify];exact hlt),Array.getElem_modify_self,hk]
 rfl
structure Fr (S B:Nat) (ov:Value) (w:World) (ov':Value) (w':World):Prop where
 turns:Turns (KS S B ov) w w'
 own:∀k,ov'.ownBlock=some k→ov.ownBlock=some k∨w.heap.size≤k
theorem Fr.refl (S B:Nat) (ov:Value) (w:World):Fr S B ov w ov w:=⟨Turns.refl _ _,fun _ h=> .inl h⟩
theorem Fr.k {S B:Nat} {ov ov':Value} {w w':World} (h:Fr S B ov w ov' w'):∀i,i<w.heap.size→KS S B ov' i→KS S B ov i:=fun i hi hk=>by
 rcases hk with h1 | h1 | h1
 ·exact .inl h1
 ·exact .inr (.inl h1)
 ·rcases h.own i h1 with h2 | h2
  ·exact .inr (.inr h2)
  ·omega
theorem Fr.trans {S B:Nat} {ov ov' ov'':Value} {w w' w'':World} (h:Fr S B ov w ov' w') (h':Fr S B ov' w' ov'' w''):Fr S B ov w ov'' w'':=
 ⟨h.turns.trans' h'.turns h.k,fun k hk=>by
  rcases h'.own k hk with h1 | h1
  ·exact h.own k h1
  ·exact .inr (Nat.le_trans h.turns.size h1)⟩
theorem Fr.throws {S B:Nat} {ov ov':Value} {w w' w'':World} (h:Fr S B ov w ov' w') (h':Turns (KS S B ov') w' w''):Turns (KS S B ov) w w'':=h.turns.trans' h' h.k
theorem Fr.codn {S B:Nat} {ov ov':Value} {w w':World} {cv:Value} {A D:List Nat} (h:Fr S B ov w ov' w') (hc:Codn w (KS S B ov) cv A D):Codn w' (KS S B ov') cv A D:=hc.go h.turns h.k
structure Sm (w:World) (base S B:Nat) (sv ov uv:Value) (l:List Nat) (lim a:Nat) (o:List Nat):Prop where
 box:w.heap[S]? =some (.cells #[.pointer (some ⟨B,0,none⟩),ov,.int .i64 (lim:Int),uv] 187)
 rd:Rd w B sv l a
 out:w.ownsRow base 5 1 ov o.length (o.map u8v)
 us:uv= .pointer none∨Codn w (KS S B ov) uv fixA fixD
 ne:S≠B∧sv.ownBlock≠some S∧ov.ownBlock≠some S∧ov.ownBlock≠some B∧∀k,sv.ownBlock=some k→ov.ownBlock≠some k
 lo:base≤S∧base≤B
 le:o.length≤lim∧lim≤524288
 by':∀b∈o,b<256
section
variable {w:World} {base S B:Nat} {sv ov uv:Value} {l:List Nat} {lim a:Nat} {o:List Nat}
theorem Sm.c0 (h:Sm w base S B sv ov uv l lim a o):w.cell? ⟨S,0,none⟩=some (.pointer (some ⟨B,0,none⟩)):=by simp [World.cell?,h.box]
theorem Sm.c1 (h:Sm w base S B sv ov uv l lim a o):w.cell? ⟨S,1,none⟩=some ov:=by simp [World.cell?,h.box]
theorem Sm.c2 (h:Sm w base S B sv ov uv l lim a o):w.cell? ⟨S,2,none⟩=some (.int .i64 (lim:Int)):=by simp [World.cell?,h.box]
theorem Sm.c3 (h:Sm w base S B sv ov uv l lim a o):w.cell? ⟨S,3,none⟩=some uv:=by simp [World.cell?,h.box]
theorem Sm.free (h:Sm w base S B sv ov uv l lim a o) (i:Nat):w.frozen? ⟨S,i,none⟩=false:=by simp [World.frozen?,h.box]
theorem Sm.size (h:Sm w base S B sv ov uv l lim a o):S<w.heap.size:=zab h.box
theorem Sm.lbase (h:Sm w base S B sv ov uv l lim a o):base≤w.heap.size:=by have:=h.size;have:=h.lo;omega
theorem Sm.reads {w':World} {a':Nat} (h:Sm w base S B sv ov uv l lim a o) (hr:Rd w' B sv l a') (ht:Turns (fun i=>i=B) w w'):Sm w' base S B sv ov uv l lim a' o∧Fr S B ov w ov w':=by
 have hf:Fr S B ov w ov w':=⟨ht.mono (fun i _ e=> .inr (.inl e)),fun _ h=> .inl h⟩
 obtain ⟨n1,n2,n3,n4,n5⟩:=h.ne
 refine ⟨⟨(ht.block S h.size n1).trans h.box,hr,ht.owns h.out (fun k hk e=>n4 (by rw [hk,e])),h.us.imp id (fun hu=>hf.codn hu),h.ne,h.lo,h.le,h.by'⟩,hf⟩
theorem Sm.below {w':World} (h:Sm w base S B sv ov uv l lim a o) (hb:Below w.heap.size w w'):Sm w' base S B sv ov uv l lim a o∧Fr S B ov w ov w':=
 h.reads (h.rd.below hb) (Turns.of_below' hb)
theorem Sm.comes {w1 w':World} {g cap x:Nat} (h:Sm w base S B sv ov uv l lim a o) (hx:x<256) (hl:o.length<lim) (ho:w1.ownsRow base 5 1 (.slice (some ⟨g,0,none⟩) (o.length+1) cap) (o.length+1) (o.map u8v++[u8v x]))
  (ht:Turns (fun b=>ov.ownBlock=some b) w w1) (hg:ov.ownBlock=some g∨w.heap.size≤g) (hw:w'=w1.setCell ⟨S,1,none⟩ (.slice (some ⟨g,0,none⟩) (o.length+1) cap)):
  Sm w' base S B sv (.slice (some ⟨g,0,none⟩) (o.length+1) cap) uv l lim a (o++[x])∧Fr S B ov w (.slice (some ⟨g,0,none⟩) (o.length+1) cap) w':=by
 subst hw
 obtain ⟨n1,n2,n3,n4,n5⟩:=h.ne
 have hgS:g≠S:=fun e=>by
  rcases hg with h1 | h1
  ·exact n3 (e ▸ h1)
  ·have:=h.size;omega
 have hgB:g≠B:=fun e=>by
  rcases hg with h1 | h1
  ·exact n4 (e ▸ h1)
  ·have:=h.rd.size;omega
 have hgs:∀k,sv.ownBlock=some k→(Value.slice (some ⟨g,0,none⟩) (o.length+1) cap).ownBlock≠some k:=fun k hk e=>by
  cases e
  rcases hg with h1 | h1
  ·exact n5 _ hk h1
  ·have:=h.rd.row.lt _ hk;have h2:w.heap.size≤g:=h1;simp only at this;omega
 have hbx:w1.heap[S]? =some (.cells #[.pointer (some ⟨B,0,none⟩),ov,.int .i64 (lim:Int),uv] 187):=(ht.block S h.size n3).trans h.box
 have ht2:Turns (KS S B ov) w (w1.setCell ⟨S,1,none⟩ (.slice (some ⟨g,0,none⟩) (o.length+1) cap)):=(ht.mono (T':=KS S B ov) (fun i _ e=> .inr (.inr e))).set (p:=⟨S,1,none⟩) (.inl rfl) _
 have hf:Fr S B ov w (.slice (some ⟨g,0,none⟩) (o.length+1) cap) (w1.setCell ⟨S,1,none⟩ (.slice (some ⟨g,0,none⟩) (o.length+1) cap)):=⟨ht2,fun k hk=>by cases hk;exact hg⟩
 have ht3:Turns (fun i=>i=S∨ov.ownBlock=some i) w (w1.setCell ⟨S,1,none⟩ (.slice (some ⟨g,0,none⟩) (o.length+1) cap)):=(ht.mono (T':=fun i=>i=S∨ov.ownBlock=some i) (fun i _ e=> .inr e)).set (p:=⟨S,1,none⟩) (.inl rfl) _
 refine ⟨⟨?_,?_,?_,h.us.imp id (fun hu=>hf.codn hu),⟨n1,n2,fun e=>hgS (by cases e;rfl),fun e=>hgB (by cases e;rfl),hgs⟩,h.lo,⟨by simp;omega,h.le.2⟩,?_⟩,hf⟩
 ·exact zlP _ hbx
 ·exact h.rd.turns ht3 (fun e=>e.elim (fun e=>n1 e.symm) (fun e=>n4 e)) (fun k hk e=>e.elim (fun e=>n2 (by rw [hk,e])) (fun e=>n5 k hk e))
 ·rw [List.length_append,List.map_append]
  refine (Turns.set (T:=fun i=>i=S) (p:=⟨S,1,none⟩) (Turns.refl _ w1) rfl _).owns ho (fun i hi e=>hgS (by cases hi;exact e))
 ·intro b hb
  rcases List.mem_append.1 hb with hb | hb
  ·exact h.by' b hb
  ·obtain rfl:b=x:=by simpa using hb
   exact hx
end
end
section
open Go.RowKit Go.Maps
section
variable {base S B:Nat} {sv ov uv:Value} {l:List Nat} {lim a:Nat} {o:List Nat}
set_option maxHeartbeats 1000000 in
theorem zaQ (k:Nat) (hk:k≤24) (w:World) (h:Sm w base S B sv ov uv l lim a o):
  Calls Tryz.prog 170 #[.pointer (some ⟨S,0,none⟩),.int .i64 (k:Int)] w fun e w'=>
   (a+k≤8*l.length∧e= .returned (.int .i64 (nb l a k:Int))∧Sm w' base S B sv ov uv l lim (a+k) o∧Fr S B ov w ov w')∨(8*l.length<a+k∧e=zak 50∧Turns (KS S B ov) w w'):=by
 have c0:=h.c0
 have H:=Lib.hid h
 clear h
 by_cases hfit:a+k≤8*l.length
 ·go_enter Tryz.func170,Tryz.ntmps170
  go_wp2_with fail
  refine Calls.mono (zfS B a k sv l w H.out.rd hk hfit) ?_
  rintro e w1 ⟨rfl,hr,ht⟩
  have Hs:=Lib.hid (H.out.reads hr ht)
  have hlt:=zaS l a k
  obtain ⟨x,hx⟩:∃x,nb l a k=x:=⟨_,rfl⟩
  rw [hx] at hlt
  have hx':numB l/2^a%2^k=x:=hx
  rw [hx']
  have hx24:x<16777216:=Nat.lt_of_lt_of_le hlt (Nat.pow_le_pow_right (n:=2) (j:=24) (by decide) hk)
  have hw:IntKind.i64.wrap (x:Int)=(x:Int):=IntWalk.i64_in _ (by omega)
  have Hx:=Lib.hid hx
  clear hr ht hlt hx hx'
  go_wp2_with fail
  refine Calls.mono (zcr _) ?_
  rintro e w2 ⟨rfl,rfl⟩
  go_wp2
  go_ret
  exact .inl ⟨hfit,by rw [Hx.out];rfl,Hs.out⟩
 ·go_enter Tryz.func170,Tryz.ntmps170
  go_wp2_with fail
  refine Calls.mono (zkp B a k sv l w H.out.rd hk (by omega)) ?_
  rintro e w1 ⟨rfl,hb⟩
  have Hb:=Lib.hid hb
  clear hb
  go_wp2_with fail
  refine Calls.mono (zec 50 (by decide) _) ?_
  rintro e w2 ⟨rfl,rfl⟩
  go_wp2
  exact ⟨rfl,.inr ⟨by omega,rfl,Turns.of_below' Hb.out⟩⟩
set_option maxHeartbeats 1000000 in
theorem zff (tv:Value) (ls:List Nat) (w:World) (h:Sm w base S B sv ov uv l lim a o) (htb:TblV w (KS S B ov) tv ls):
  Calls Tryz.prog 200 #[.pointer (some ⟨S,0,none⟩),tv] w fun e w'=> ∃(x:Nat) (er:Int) (s:Nat),Sy ls l a x er s∧
   ((er=0∧e= .returned (.int .i64 (x:Int))∧Sm w' base S B sv ov uv l lim (a+s) o∧Fr S B ov w ov w')∨(er≠0∧e=zak er∧Turns (KS S B ov) w w')):=by
 have c0:=h.c0
 have H:=Lib.hid h
 obtain ⟨T,M,n,L,F,rfl,ht⟩:=htb
 have Ht:=Lib.hid ht
 clear h ht
 go_enter Tryz.func200,Tryz.ntmps200
 go_wp2_with fail
 refine Calls.mono (zpg T M n L B a F sv l w Ht.out.tb H.out.rd Ht.out.le (fun e=>Ht.out.kt (.inr (.inl e))) (fun e=>Ht.out.km (.inr (.inl e)))) ?_
 rintro e w1 ⟨x,er,s,rfl,hans,hr,-,htu⟩
 have Hs:=Lib.hid (H.out.reads hr htu)
 have HS:Hid (Sy ls l a x er s):=Lib.hid ⟨F,L,Ht.out.tf,Ht.out.tm,hans⟩
 clear hans hr htu
 by_cases he:er=0
 ·subst he
  go_wp2_with fail
  refine Calls.mono (zcr _) ?_
  rintro e w2 ⟨rfl,rfl⟩
  go_wp2
  go_ret
  exact ⟨x,0,s,HS.out,.inl ⟨rfl,rfl,Hs.out⟩⟩
 ·go_wp2_with fail
  refine Calls.mono (zec er he _) ?_
  rintro e w2 ⟨rfl,rfl⟩
  go_wp2
  exact ⟨rfl,x,er,s,HS.out,.inr ⟨he,rfl,Hs.out.2.turns⟩⟩
set_option maxHeartbeats 1000000 in
theorem zee (x:Nat) (hx:x<256) (w:World) (h:Sm w base S B sv ov uv l lim a o):
  Calls Tryz.prog 184 #[.pointer (some ⟨S,0,none⟩),.int .u8 (x:Int)] w fun e w'=>
   (o.length<lim∧e= .returned (.tuple #[])∧∃ov',Sm w' base S B sv ov' uv l lim a (o++[x])∧Fr S B ov w ov' w')∨(lim≤o.length∧e=zak 81∧Turns (KS S B ov) w w'):=by
 have c1:=h.c1
 have c2:=h.c2
 have H:=Lib.hid h
 have hle:=h.le
 have hlb:=h.lbase
 obtain ⟨p,c,rfl⟩:=zac h.out
 clear h
 go_enter Tryz.func184,Tryz.ntmps184
 go_upto_region 0 with (fail)
 go_quiet (fail)
 rename_i nq
 have hd:Below w.heap.size w (w.drewN nq):=Below.drewN' (Below.refl _ _) nq
 have Hd:=Lib.hid (H.out.below hd)
 by_cases hfull:o.length=lim
 ·have e0:((o.length:Int)==(lim:Int))=true:=by simp;omega
  go_wp2
  exact ⟨rfl,.inr ⟨by omega,rfl,Turns.of_below' hd⟩⟩
 ·have e0:((o.length:Int)==(lim:Int))=false:=by simp;omega
  have hs:base≤(w.drewN nq).heap.size:=Nat.le_trans hlb hd.size
  replace c1:=Hd.out.1.c1
  replace c2:=Hd.out.1.c2
  generalize w.drewN nq=W at *
  clear hd
  go_wp2_with (at_builtin;refine zaL W rfl (.tmp 19) (.tmp 21) 28 rfl base 5 _ 1 zaw Tryz.underlying28 rfl (.slice p o.length c) o.length (o.map u8v) rfl Hd.out.1.out (.int .u8 (x:Int)) _ rfl rfl ?n3 ?n4 hs ?_)
  case n3=>simp only [maxLen];omega
  case n4=>omega
  intro g cap w1 ho ht hg
  obtain ⟨w2,hw2⟩:∃w2,w1.setCell ⟨S,1,none⟩ (.slice (some ⟨g,0,none⟩) (o.length+1) cap)=w2:=⟨_,rfl⟩
  have Hc:=Lib.hid (Hd.out.1.comes hx (by omega) ho ht hg hw2.symm)
  have hne:S≠B∧sv.ownBlock≠some S∧(Value.slice p o.length c).ownBlock≠some S:=⟨Hd.out.1.ne.1,Hd.out.1.ne.2.1,Hd.out.1.ne.2.2.1⟩
  have d1:=ht.cell c1 hne.2.2
  have f1:=ht.free c1 (Hd.out.1.free 1) hne.2.2
  have Hw2:=Lib.hid hw2
  clear ho ht hg hw2
  go_wp2
  rw [Hw2.out]
  go_end0
  exact .inl ⟨by omega,rfl,_,Hc.out.1,Hd.out.2.trans Hc.out.2⟩
end
end
section
open Go.RowKit Go.Maps
section
variable {base S B:Nat} {sv ov uv:Value} {l:List Nat} {lim a:Nat} {o:List Nat}
theorem wrap64_in (x:Int) (h: -9223372036854775808≤x∧x≤9223372036854775807):wrap64 x=x:=IntWalk.wrap64_in x (by omega)
theorem zjb:∀st,st<30→zaz st 4≤1000000:=by decide
theorem zi8:∀st,st<30→zaz st 2≤1000000:=by decide
theorem Sm.drew {w:World} (h:Sm w base S B sv ov uv l lim a o):Sm w.drew base S B sv ov uv l lim a o∧Fr S B ov w ov w.drew:=h.below (Below.drew (Below.refl _ _))
theorem zgz (k:Nat) (hk:k≤24) (w:World) (h:Sm w base S B sv ov uv l lim a o) (hfit:a+k≤8*l.length):
  Calls Tryz.prog 170 #[.pointer (some ⟨S,0,none⟩),.int .i64 (k:Int)] w fun e w'=>e= .returned (.int .i64 (nb l a k:Int))∧Sm w' base S B sv ov uv l lim (a+k) o∧Fr S B ov w ov w':=by
 refine Calls.mono (zaQ k hk w h) ?_
 rintro e w' (⟨-,h1⟩ | ⟨h1,-⟩)
 ·exact h1
 ·omega
theorem zdw (k:Nat) (hk:k≤24) (w:World) (h:Sm w base S B sv ov uv l lim a o) (hfit:8*l.length<a+k):
  Calls Tryz.prog 170 #[.pointer (some ⟨S,0,none⟩),.int .i64 (k:Int)] w fun e w'=>e=zak 50∧Turns (KS S B ov) w w':=by
 refine Calls.mono (zaQ k hk w h) ?_
 rintro e w' (⟨h1,-⟩ | ⟨-,h1⟩)
 ·omega
 ·exact h1
set_option maxHeartbeats 1000000 in
theorem ziI (st:Nat) (w:World) (hs:st<2*4):
  Calls Tryz.prog 214 #[.pointer (some ⟨S,0,none⟩),.int .i64 (st:Int),.int .i64 4] w fun e w'=>e= .returned (.int .i64 (st:Int))∧w'=w:=by
 have d:decide ((st:Int)<8)=true:=by simp;omega
 go_enter Tryz.func214,Tryz.ntmps214
 go_wp2
 go_ret
 exact ⟨rfl,rfl⟩
set_option maxHeartbeats 1000000 in
theorem zlH (st k m:Nat) (hk:st/4=k+1) (hm:st%4=m) (hk1:1≤k) (hst:st≤29) (w:World) (h:Sm w base S B sv ov uv l lim a o) (hfit:a+k≤8*l.length):
  Calls Tryz.prog 214 #[.pointer (some ⟨S,0,none⟩),.int .i64 (st:Int),.int .i64 4] w fun e w'=>e= .returned (.int .i64 (((4+m)*2^k+nb l a k:Nat):Int))∧Sm w' base S B sv ov uv l lim (a+k) o∧Fr S B ov w ov w':=by
 have d:decide ((st:Int)<8)=false:=by simp only [decide_eq_false_iff_not];omega
 have H:=Lib.hid h
 have hk13:k≤13:=by omega
 have hq1:(st:Int)/4=(k:Int)+1:=by omega
 have hq2:wrap64 ((k:Int)+1)=(k:Int)+1:=wrap64_in _ (by omega)
 have hq3:wrap64 (k:Int)=(k:Int):=wrap64_in _ (by omega)
 have hm1:(st:Int).tmod 4=(m:Int):=by rw [←hm];rfl
 have hm3:m≤3:=by omega
 have hm2:IntKind.i64.wrap (4+(m:Int))=4+(m:Int):=IntWalk.i64_in _ (by omega)
 obtain ⟨z,hz⟩:∃z,(4+m)*2^k=z:=⟨_,rfl⟩
 have hz1:(4+(m:Int))*2^k=(z:Int):=by rw [←hz];simp
 have hzb:z≤7*8192:=by rw [←hz];exact Nat.mul_le_mul (by omega) (Nat.pow_le_pow_right (n:=2) (j:=13) (by decide) hk13)
 have hz2:IntKind.i64.wrap (z:Int)=(z:Int):=IntWalk.i64_in _ (by omega)
 have hnb:nb l a k<16777216:=Nat.lt_of_lt_of_le (zaS l a k) (Nat.pow_le_pow_right (n:=2) (j:=24) (by decide) (by omega))
 rw [hz]
 obtain ⟨x,hx⟩:∃x,nb l a k=x:=⟨_,rfl⟩
 rw [hx] at hnb ⊢
 have Hx:=Lib.hid hx
 have hz3:IntKind.i64.wrap ((z:Int)+(x:Int))=((z+x:Nat):Int):=IntWalk.i64_in _ (by omega)
 clear h hk hm hz hx hk1
 go_enter Tryz.func214,Tryz.ntmps214
 go_upto_region 4 with (fail)
 go_region_with (go_at_call 170;refine (zgz k (by omega) _ H.out.drew.1 hfit).mono ?_;rintro e w1 ⟨rfl,hs⟩;rw [Hx.out];have Hs:=Lib.hid hs;clear hs)
 all_goals go_wp2
 all_goals go_ret
 all_goals exact ⟨rfl,Hs.out.1,H.out.drew.2.trans Hs.out.2⟩
set_option maxHeartbeats 1000000 in
theorem zk8 (st k:Nat) (hk:st/4=k+1) (hk1:1≤k) (hst:st≤29) (w:World) (h:Sm w base S B sv ov uv l lim a o) (hfit:8*l.length<a+k):
  Calls Tryz.prog 214 #[.pointer (some ⟨S,0,none⟩),.int .i64 (st:Int),.int .i64 4] w fun e w'=>e=zak 50∧Turns (KS S B ov) w w':=by
 have d:decide ((st:Int)<8)=false:=by simp only [decide_eq_false_iff_not];omega
 have H:=Lib.hid h
 have hk13:k≤13:=by omega
 have hq1:(st:Int)/4=(k:Int)+1:=by omega
 have hq2:wrap64 ((k:Int)+1)=(k:Int)+1:=wrap64_in _ (by omega)
 have hq3:wrap64 (k:Int)=(k:Int):=wrap64_in _ (by omega)
 clear h hk hk1 hst
 go_enter Tryz.func214,Tryz.ntmps214
 go_upto_region 4 with (fail)
 refine wp_region_any (by kernel_rfl) ?_
 change wpAny _ _ _ _ _ _ _ (World.drew _)
 refine wpAny_take (i:=0) (v:=?_) rfl (by kernel_rfl) (by kernel_rfl) (by kernel_rfl) (fun _ _ _ h=>h) (Or.inl ⟨by rfl,?hy⟩) ?_
 case hy=>(intro w';go_simp;try with_reducible rfl)
 refine wpAny_take (i:=1) (v:=?_) rfl (by kernel_rfl) (by kernel_rfl) (by kernel_rfl) (fun _ _ _ h=>h) (Or.inl ⟨by rfl,?hy⟩) ?_
 case hy=>(intro w';go_simp;try with_reducible rfl)
 refine wpAny_take (i:=2) (v:=?_) rfl (by kernel_rfl) (by kernel_rfl) (by kernel_rfl) (fun _ _ _ h=>h) (Or.inl ⟨by rfl,?hy⟩) ?_
 case hy=>(intro w';go_simp;try with_reducible rfl)
 refine wpAny_take (i:=3) (v:=?_) rfl (by kernel_rfl) (by kernel_rfl) (by kernel_rfl) (fun _ _ _ h=>h) (Or.inl ⟨by rfl,?hy⟩) ?_
 case hy=>(intro w';go_simp;try with_reducible rfl)
 refine wpAny_take (i:=4) (v:=?_) rfl (by kernel_rfl) (by kernel_rfl) (by kernel_rfl) (fun _ _ _ h=>h) (Or.inl ⟨by rfl,?hy⟩) ?_
 case hy=>(intro w';go_simp;try with_reducible rfl)
 refine wpAny_take (i:=5) (v:=?_) rfl (by kernel_rfl) (by kernel_rfl) (by kernel_rfl) (fun _ _ _ h=>h) (Or.inl ⟨by rfl,?hy⟩) ?_
 case hy=>(intro w';go_simp;try with_reducible rfl)
 refine wpAny_take (i:=6) (v:=?_) rfl (by kernel_rfl) (by kernel_rfl) (by kernel_rfl) (fun _ _ _ h=>h) (Or.inl ⟨by rfl,?hy⟩) ?_
 case hy=>(intro w';go_simp;try with_reducible rfl)
 refine wpAny_take (i:=7) (v:=?_) rfl (by kernel_rfl) (by kernel_rfl) (by kernel_rfl) (fun _ _ _ h=>h) (Or.inl ⟨by rfl,?hy⟩) ?_
 case hy=>(intro w';go_simp;try with_reducible rfl)
 refine wpAny_take (i:=8) (v:=?_) rfl (by kernel_rfl) (by kernel_rfl) (by kernel_rfl) (fun _ _ _ h=>h) (Or.inl ⟨by rfl,?hy⟩) ?_
 case hy=>(intro w';go_simp;try with_reducible rfl)
 refine wpAny_ready (rs:=[9]) (by kernel_rfl) (by simp) ?_
 refine AllReady.cons rfl (fun K hK=>?_) AllReady.nil
 go_simp
 refine (zdw k (by omega) _ H.out.drew.1 hfit).mono ?_
 rintro e w1 ⟨rfl,hs⟩
 exact ⟨rfl,rfl,H.out.drew.2.turns.trans hs⟩
set_option maxHeartbeats 1000000 in
theorem zk5 (st:Nat) (hst:st≤29) (w:World) (h:Sm w base S B sv ov uv l lim a o):
  Calls Tryz.prog 214 #[.pointer (some ⟨S,0,none⟩),.int .i64 (st:Int),.int .i64 4] w fun e w'=>
   (a+zav st 4≤8*l.length∧e= .returned (.int .i64 ((zaz st 4+nb l a (zav st 4):Nat):Int))∧Sm w' base S B sv ov uv l lim (a+zav st 4) o∧Fr S B ov w ov w')∨(8*l.length<a+zav st 4∧e=zak 50∧Turns (KS S B ov) w w'):=by
 by_cases hs:st<2*4
 ·refine Calls.mono (ziI st w hs) ?_
  rintro e w' ⟨rfl,rfl⟩
  have e1:zav st 4=0:=if_pos hs
  have e2:zaz st 4=st:=if_pos hs
  rw [e1,e2,zcF]
  exact .inl ⟨h.rd.pos,rfl,h,Fr.refl _ _ _ _⟩
 ·have e1:zav st 4=st/4 - 1:=if_neg hs
  have e2:zaz st 4=(4+st%4)*2^(st/4 - 1):=if_neg hs
  rw [e1,e2]
  by_cases hfit:a+(st/4 - 1)≤8*l.length
  ·refine Calls.mono (zlH st (st/4 - 1) (st%4) (by omega) rfl (by omega) hst w h hfit) ?_
   rintro e w' ⟨rfl,h1⟩
   exact .inl ⟨hfit,rfl,h1⟩
  ·refine Calls.mono (zk8 st (st/4 - 1) (by omega) (by omega) hst w h (by omega)) ?_
   rintro e w' ⟨rfl,h1⟩
   exact .inr ⟨by omega,rfl,h1⟩
set_option maxHeartbeats 1000000 in
theorem zia (st:Nat) (w:World) (hs:st<2*2):
  Calls Tryz.prog 214 #[.pointer (some ⟨S,0,none⟩),.int .i64 (st:Int),.int .i64 2] w fun e w'=>e= .returned (.int .i64 (st:Int))∧w'=w:=by
 have d:decide ((st:Int)<4)=true:=by simp;omega
 go_enter Tryz.func214,Tryz.ntmps214
 go_wp2
 go_ret
 exact ⟨rfl,rfl⟩
set_option maxHeartbeats 1000000 in
theorem znk (st k m:Nat) (hk:st/2=k+1) (hm:st%2=m) (hk1:1≤k) (hst:st≤29) (w:World) (h:Sm w base S B sv ov uv l lim a o) (hfit:a+k≤8*l.length):
  Calls Tryz.prog 214 #[.pointer (some ⟨S,0,none⟩),.int .i64 (st:Int),.int .i64 2] w fun e w'=>e= .returned (.int .i64 (((2+m)*2^k+nb l a k:Nat):Int))∧Sm w' base S B sv ov uv l lim (a+k) o∧Fr S B ov w ov w':=by
 have d:decide ((st:Int)<4)=false:=by simp only [decide_eq_false_iff_not];omega
 have H:=Lib.hid h
 have hk13:k≤13:=by omega
 have hq1:(st:Int)/2=(k:Int)+1:=by omega
 have hq2:wrap64 ((k:Int)+1)=(k:Int)+1:=wrap64_in _ (by omega)
 have hq3:wrap64 (k:Int)=(k:Int):=wrap64_in _ (by omega)
 have hm1:(st:Int).tmod 2=(m:Int):=by rw [←hm];rfl
 have hm3:m≤3:=by omega
 have hm2:IntKind.i64.wrap (2+(m:Int))=2+(m:Int):=IntWalk.i64_in _ (by omega)
 obtain ⟨z,hz⟩:∃z,(2+m)*2^k=z:=⟨_,rfl⟩
 have hz1:(2+(m:Int))*2^k=(z:Int):=by rw [←hz];simp
 have hzb:z≤7*8192:=by rw [←hz];exact Nat.mul_le_mul (by omega) (Nat.pow_le_pow_right (n:=2) (j:=13) (by decide) hk13)
 have hz2:IntKind.i64.wrap (z:Int)=(z:Int):=IntWalk.i64_in _ (by omega)
 have hnb:nb l a k<16777216:=Nat.lt_of_lt_of_le (zaS l a k) (Nat.pow_le_pow_right (n:=2) (j:=24) (by decide) (by omega))
 rw [hz]
 obtain ⟨x,hx⟩:∃x,nb l a k=x:=⟨_,rfl⟩
 rw [hx] at hnb ⊢
 have Hx:=Lib.hid hx
 have hz3:IntKind.i64.wrap ((z:Int)+(x:Int))=((z+x:Nat):Int):=IntWalk.i64_in _ (by omega)
 clear h hk hm hz hx hk1
 go_enter Tryz.func214,Tryz.ntmps214
 go_upto_region 4 with (fail)
 go_region_with (go_at_call 170;refine (zgz k (by omega) _ H.out.drew.1 hfit).mono ?_;rintro e w1 ⟨rfl,hs⟩;rw [Hx.out];have Hs:=Lib.hid hs;clear hs)
 all_goals go_wp2
 all_goals go_ret
 all_goals exact ⟨rfl,Hs.out.1,H.out.drew.2.trans Hs.out.2⟩
set_option maxHeartbeats 1000000 in
theorem zk0 (st k:Nat) (hk:st/2=k+1) (hk1:1≤k) (hst:st≤29) (w:World) (h:Sm w base S B sv ov uv l lim a o) (hfit:8*l.length<a+k):
  Calls Tryz.prog 214 #[.pointer (some ⟨S,0,none⟩),.int .i64 (st:Int),.int .i64 2] w fun e w'=>e=zak 50∧Turns (KS S B ov) w w':=by
 have d:decide ((st:Int)<4)=false:=by simp only [decide_eq_false_iff_not];omega
 have H:=Lib.hid h
 have hk13:k≤13:=by omega
 have hq1:(st:Int)/2=(k:Int)+1:=by omega
 have hq2:wrap64 ((k:Int)+1)=(k:Int)+1:=wrap64_in _ (by omega)
 have hq3:wrap64 (k:Int)=(k:Int):=wrap64_in _ (by omega)
 clear h hk hk1 hst
 go_enter Tryz.func214,Tryz.ntmps214
 go_upto_region 4 with (fail)
 refine wp_region_any (by kernel_rfl) ?_
 change wpAny _ _ _ _ _ _ _ (World.drew _)
 refine wpAny_take (i:=0) (v:=?_) rfl (by kernel_rfl) (by kernel_rfl) (by kernel_rfl) (fun _ _ _ h=>h) (Or.inl ⟨by rfl,?hy⟩) ?_
 case hy=>(intro w';go_simp;try with_reducible rfl)
 refine wpAny_take (i:=1) (v:=?_) rfl (by kernel_rfl) (by kernel_rfl) (by kernel_rfl) (fun _ _ _ h=>h) (Or.inl ⟨by rfl,?hy⟩) ?_
 case hy=>(intro w';go_simp;try with_reducible rfl)
 refine wpAny_take (i:=2) (v:=?_) rfl (by kernel_rfl) (by kernel_rfl) (by kernel_rfl) (fun _ _ _ h=>h) (Or.inl ⟨by rfl,?hy⟩) ?_
 case hy=>(intro w';go_simp;try with_reducible rfl)
 refine wpAny_take (i:=3) (v:=?_) rfl (by kernel_rfl) (by kernel_rfl) (by kernel_rfl) (fun _ _ _ h=>h) (Or.inl ⟨by rfl,?hy⟩) ?_
 case hy=>(intro w';go_simp;try with_reducible rfl)
 refine wpAny_take (i:=4) (v:=?_) rfl (by kernel_rfl) (by kernel_rfl) (by kernel_rfl) (fun _ _ _ h=>h) (Or.inl ⟨by rfl,?hy⟩) ?_
 case hy=>(intro w';go_simp;try with_reducible rfl)
 refine wpAny_take (i:=5) (v:=?_) rfl (by kernel_rfl) (by kernel_rfl) (by kernel_rfl) (fun _ _ _ h=>h) (Or.inl ⟨by rfl,?hy⟩) ?_
 case hy=>(intro w';go_simp;try with_reducible rfl)
 refine wpAny_take (i:=6) (v:=?_) rfl (by kernel_rfl) (by kernel_rfl) (by kernel_rfl) (fun _ _ _ h=>h) (Or.inl ⟨by rfl,?hy⟩) ?_
 case hy=>(intro w';go_simp;try with_reducible rfl)
 refine wpAny_take (i:=7) (v:=?_) rfl (by kernel_rfl) (by kernel_rfl) (by kernel_rfl) (fun _ _ _ h=>h) (Or.inl ⟨by rfl,?hy⟩) ?_
 case hy=>(intro w';go_simp;try with_reducible rfl)
 refine wpAny_take (i:=8) (v:=?_) rfl (by kernel_rfl) (by kernel_rfl) (by kernel_rfl) (fun _ _ _ h=>h) (Or.inl ⟨by rfl,?hy⟩) ?_
 case hy=>(intro w';go_simp;try with_reducible rfl)
 refine wpAny_ready (rs:=[9]) (by kernel_rfl) (by simp) ?_
 refine AllReady.cons rfl (fun K hK=>?_) AllReady.nil
 go_simp
 refine (zdw k (by omega) _ H.out.drew.1 hfit).mono ?_
 rintro e w1 ⟨rfl,hs⟩
 exact ⟨rfl,rfl,H.out.drew.2.turns.trans hs⟩
set_option maxHeartbeats 1000000 in
theorem zk1 (st:Nat) (hst:st≤29) (w:World) (h:Sm w base S B sv ov uv l lim a o):
  Calls Tryz.prog 214 #[.pointer (some ⟨S,0,none⟩),.int .i64 (st:Int),.int .i64 2] w fun e w'=>
   (a+zav st 2≤8*l.length∧e= .returned (.int .i64 ((zaz st 2+nb l a (zav st 2):Nat):Int))∧Sm w' base S B sv ov uv l lim (a+zav st 2) o∧Fr S B ov w ov w')∨(8*l.length<a+zav st 2∧e=zak 50∧Turns (KS S B ov) w w'):=by
 by_cases hs:st<2*2
 ·refine Calls.mono (zia st w hs) ?_
  rintro e w' ⟨rfl,rfl⟩
  have e1:zav st 2=0:=if_pos hs
  have e2:zaz st 2=st:=if_pos hs
  rw [e1,e2,zcF]
  exact .inl ⟨h.rd.pos,rfl,h,Fr.refl _ _ _ _⟩
 ·have e1:zav st 2=st/2 - 1:=if_neg hs
  have e2:zaz st 2=(2+st%2)*2^(st/2 - 1):=if_neg hs
  rw [e1,e2]
  by_cases hfit:a+(st/2 - 1)≤8*l.length
  ·refine Calls.mono (znk st (st/2 - 1) (st%2) (by omega) rfl (by omega) hst w h hfit) ?_
   rintro e w' ⟨rfl,h1⟩
   exact .inl ⟨hfit,rfl,h1⟩
  ·refine Calls.mono (zk0 st (st/2 - 1) (by omega) (by omega) hst w h (by omega)) ?_
   rintro e w' ⟨rfl,h1⟩
   exact .inr ⟨by omega,rfl,h1⟩
set_option maxHeartbeats 1000000 in
theorem zoJ (x:Nat) (w:World) (hx:285<x) (hx2:x≤1000000):
  Calls Tryz.prog 201 #[.pointer (some ⟨S,0,none⟩),.int .i64 (x:Int)] w fun e w'=>e=zak 80∧w'=w:=by
 have d:decide ((x:Int)>285)=true:=by simp;omega
 go_enter Tryz.func201,Tryz.ntmps201
 go_wp2
 exact ⟨rfl,rfl,rfl⟩
set_option maxRecDepth 20000 in
set_option maxHeartbeats 1000000 in
theorem zn8 (x:Nat) (w:World) (hx0:256<x) (hx:x≤285) (h:Sm w base S B sv ov uv l lim a o):
  Calls Tryz.prog 201 #[.pointer (some ⟨S,0,none⟩),.int .i64 (x:Int)] w fun e w'=>
   (a+zad x≤8*l.length∧e= .returned (.int .i64 ((zax x+nb l a (zad x):Nat):Int))∧Sm w' base S B sv ov uv l lim (a+zad x) o∧Fr S B ov w ov w')∨(8*l.length<a+zad x∧e=zak 50∧Turns (KS S B ov) w w'):=by
 have H:=Lib.hid h
 have d:decide ((x:Int)>285)=false:=by simp;omega
 by_cases h85:x=285
 ·subst h85
  clear h
  go_enter Tryz.func201,Tryz.ntmps201
  go_wp2
  go_ret
  have e1:zad 285=0:=rfl
  have e2:zax 285=258:=rfl
  rw [e1,e2,zcF]
  exact .inl ⟨H.out.rd.pos,rfl,H.out,Fr.refl _ _ _ _⟩
 ·have d2:((x:Int)==285)=false:=by simp;omega
  obtain ⟨st,hst⟩:∃st,x=st+257:=⟨x - 257,by omega⟩
  have hw1:IntKind.i64.wrap ((x:Int) - 257)=(st:Int):=by rw [IntWalk.i64_in _ (by omega)];omega
  have e1:zad x=zav st 4:=by unfold zad;rw [if_neg h85,hst,Nat.add_sub_cancel]
  have e2:zax x=3+zaz st 4:=by unfold zax;rw [if_neg h85,hst,Nat.add_sub_cancel]
  have E:=Lib.hid (And.intro e1 e2)
  have hb1:zaz st 4≤1000000:=zjb st (by omega)
  have hb2:nb l a (zav st 4)≤16777216:=Nat.le_of_lt (Nat.lt_of_lt_of_le (zaS _ _ _) (Nat.pow_le_pow_right (n:=2) (j:=24) (by decide) (by unfold zav;split<;>omega)))
  obtain ⟨z,hz⟩:∃z,zaz st 4+nb l a (zav st 4)=z:=⟨_,rfl⟩
  have Hz:=Lib.hid hz
  have hw2:IntKind.i64.wrap (3+(z:Int))=((3+z:Nat):Int):=by rw [IntWalk.i64_in _ (by omega)];omega
  clear h h85 e1 e2 hb1 hb2 hz
  go_enter Tryz.func201,Tryz.ntmps201
  go_wp2_with fail
  refine Calls.mono (zk5 st (by omega) w H.out) ?_
  rw [Hz.out]
  rintro e w1 (⟨h1,rfl,hs⟩ | ⟨h1,rfl,hs⟩)
  ·have Hs:=Lib.hid hs
   clear hs
   go_wp2
   go_ret
   rw [E.out.1,E.out.2]
   exact .inl ⟨h1,by rw [Nat.add_assoc,Hz.out];rfl,Hs.out⟩
  ·have Hs:=Lib.hid hs
   clear hs
   go_wp2
   rw [E.out.1,E.out.2]
   exact ⟨rfl,.inr ⟨h1,rfl,Hs.out⟩⟩
set_option maxHeartbeats 1000000 in
theorem zl9 (y:Nat) (w:World) (hy:29<y) (hy2:y≤1000000):
  Calls Tryz.prog 203 #[.pointer (some ⟨S,0,none⟩),.int .i64 (y:Int)] w fun e w'=>e=zak 80∧w'=w:=by
 have d:decide ((y:Int)>29)=true:=by simp;omega
 go_enter Tryz.func203,Tryz.ntmps203
 go_wp2
 exact ⟨rfl,rfl,rfl⟩
set_option maxRecDepth 20000 in
set_option maxHeartbeats 1000000 in
theorem zmh (y:Nat) (w:World) (hy:y≤29) (h:Sm w base S B sv ov uv l lim a o):
  Calls Tryz.prog 203 #[.pointer (some ⟨S,0,none⟩),.int .i64 (y:Int)] w fun e w'=>
   (a+zam y≤8*l.length∧e= .returned (.int .i64 ((zan y+nb l a (zam y):Nat):Int))∧Sm w' base S B sv ov uv l lim (a+zam y) o∧Fr S B ov w ov w')∨(8*l.length<a+zam y∧e=zak 50∧Turns (KS S B ov) w w'):=by
 have H:=Lib.hid h
 have d:decide ((y:Int)>29)=false:=by simp;omega
 have hb1:zaz y 2≤1000000:=zi8 y (by omega)
 have hb2:nb l a (zav y 2)≤16777216:=Nat.le_of_lt (Nat.lt_of_lt_of_le (zaS _ _ _) (Nat.pow_le_pow_right (n:=2) (j:=24) (by decide) (by unfold zav;split<;>omega)))
 obtain ⟨z,hz⟩:∃z,zaz y 2+nb l a (zav y 2)=z:=⟨_,rfl⟩
 have Hz:=Lib.hid hz
 have hw2:IntKind.i64.wrap (1+(z:Int))=((1+z:Nat):Int):=by rw [IntWalk.i64_in _ (by omega)];omega
 clear h hb1 hb2 hz
 unfold zam zan
 go_enter Tryz.func203,Tryz.ntmps203
 go_wp2_with fail
 refine Calls.mono (zk1 y hy w H.out) ?_
 rw [Hz.out]
 rintro e w1 (⟨h1,rfl,hs⟩ | ⟨h1,rfl,hs⟩)
 ·have Hs:=Lib.hid hs
  clear hs
  go_wp2
  go_ret
  exact .inl ⟨h1,by rw [Nat.add_assoc,Hz.out];rfl,Hs.out⟩
 ·have Hs:=Lib.hid hs
  clear hs
  go_wp2
  exact ⟨rfl,.inr ⟨h1,rfl,Hs.out⟩⟩
end
end
section
open Go.RowKit Go.Maps
theorem ziH (d:Nat):∀(n:Nat) (o:List Nat),ext d (n+1) o=ext d n o++[(ext d n o).getD ((ext d n o).length - d) 0]
 | 0,_=>rfl
 | n+1,o=>by
  rw [ext,ziH d n]
  rfl
section
variable {base S B:Nat} {sv ov uv:Value} {l:List Nat} {lim a:Nat} {o:List Nat}
theorem Sm.byte {w:World} {p:Option Addr} {c:Nat} (h:Sm w base S B sv (.slice p o.length c) uv l lim a o) {i:Nat} (hi:i<o.length):∃g,p=some ⟨g,0,none⟩∧w.cell? ⟨g,i,none⟩=some (.int .u8 ((o.getD i 0:Nat):Int)):=by
 obtain ⟨g,c',e,-,-,hc⟩:=ziX h.out (by omega)
 injection e with e1 _ _
 refine ⟨g,e1,hc i _ ?_⟩
 rw [List.getElem?_map,List.getElem?_eq_getElem hi,List.getD_eq_getElem?_getD,List.getElem?_eq_getElem hi]
 rfl
theorem getD_lt (h:∀b∈o,b<256) (i:Nat):o.getD i 0<256:=by
 rw [List.getD_eq_getElem?_getD]
 cases e:o[i]? with
 | none=>decide
 | some b=>exact h b (List.mem_of_getElem? e)
set_option maxRecDepth 20000 in
set_option maxHeartbeats 2000000 in
theorem zoT (n d:Nat) (w:World) (h:Sm w base S B sv ov uv l lim a o) (hd:1≤d) (hdo:d≤o.length) (hn:n≤1000000):
  Calls Tryz.prog 202 #[.pointer (some ⟨S,0,none⟩),.int .i64 (n:Int),.int .i64 (d:Int)] w fun e w'=>
   (o.length+n≤lim∧e= .returned (.tuple #[])∧∃ov',Sm w' base S B sv ov' uv l lim a (ext d n o)∧Fr S B ov w ov' w')∨(lim<o.length+n∧e=zak 81∧Turns (KS S B ov) w w'):=by
 have c1:=h.c1
 have H:=Lib.hid h
 have hle:=h.le
 obtain ⟨p,c,rfl⟩:=zac h.out
 have d0:decide (o.length<d)=false:=by simp;omega
 clear h
 go_enter Tryz.func202,Tryz.ntmps202
 go_wp2_with fail
 go_loopw [15] (fun iv wr=> ∃(i:Nat) (ov':Value),iv= .int .i64 (i:Int)∧i≤n∧Hid (Sm wr base S B sv ov' uv l lim a (ext d i o)∧Fr S B (.slice p o.length c) w ov' wr)) (fun iv _=>n - (intOf iv).toNat)
 case atStart=>exact ⟨0,_,rfl,Nat.zero_le _,Lib.hid ⟨H.out,Fr.refl _ _ _ _⟩⟩
 case round=>
  obtain ⟨i,ov',rfl,hi,HW⟩:=hrel
  by_cases hin:i<n
  ·have d1:decide ((i:Int)<(n:Int))=true:=by simp;omega
   have hsn:=ziH d i o
   have hel:=zdh d i o
   obtain ⟨oi,hoi⟩:∃oi,ext d i o=oi:=⟨_,rfl⟩
   rw [hoi] at HW hsn hel
   obtain ⟨p',c',rfl⟩:=zac HW.out.1.out
   obtain ⟨g,rfl,hg⟩:=HW.out.1.byte (i:=oi.length - d) (by omega)
   have e1:=HW.out.1.c1
   have hx:=getD_lt HW.out.1.by' (oi.length - d)
   obtain ⟨x,hxe⟩:∃x,oi.getD (oi.length - d) 0=x:=⟨_,rfl⟩
   rw [hxe] at hg hx hsn
   obtain ⟨j,hj⟩:∃j,oi.length - d=j:=⟨_,rfl⟩
   rw [hj] at hg
   have hj1:IntKind.i64.wrap ((oi.length:Int) - (d:Int))=(j:Int):=by rw [IntWalk.i64_in _ (by omega)];omega
   have hj0:(0:Int)≤(j:Int):=by omega
   have hj2:(j:Int)<(oi.length:Int):=by omega
   have Hsn:=Lib.hid hsn
   have Hel:=Lib.hid hel
   clear hoi hsn hxe hj c1 hel
   go_upto_region 4 with (fail)
   have hqq:=After.ne wr
   have C1:=After.rule e1
   have C2:=After.rule hg
   refine zaC 14 (by kernel_rfl) (by kernel_rfl) (by kernel_rfl) ?_
   repeat (refine zaK (fun K hK=>?_);go_simp;(refine hK _ ?_;clear hK K))
   refine zbd ?_
   intro w2 hb2
   simp only [List.drop_succ_cons,List.drop_zero]
   have HW2:=Lib.hid (HW.out.1.below hb2)
   clear C1 C2 hqq hb2 e1 hg
   go_wp2_with fail
   refine Calls.mono (zee x hx w2 HW2.out.1) ?_
   rintro e w3 (⟨h1,rfl,ov2,hs⟩ | ⟨h1,rfl,hs⟩)
   ·have Hs:=Lib.hid hs
    clear hs
    go_wp2
    go_roundw
    case rel=>exact ⟨i+1,ov2,by go_num,by omega,Lib.hid ⟨by rw [Hsn.out];exact Hs.out.1,HW.out.2.trans (HW2.out.2.trans Hs.out.2)⟩⟩
    case measure=>simp [intOf];omega
   ·have Hs:=Lib.hid hs
    clear hs
    go_wp2
    have:=Hel.out
    exact ⟨rfl,.inr ⟨by omega,rfl,HW.out.2.throws (HW2.out.2.throws Hs.out)⟩⟩
  ·obtain rfl:i=n:=by omega
   go_wp2
   go_end0
   have:=zdh d i o
   exact .inl ⟨by have:=HW.out.1.le.1;omega,rfl,_,HW.out⟩
end
end
end Go.Proofs.YtedakhgaghfogaaGreat
