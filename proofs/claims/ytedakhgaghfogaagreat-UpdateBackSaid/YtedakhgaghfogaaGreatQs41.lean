/- Several texts in one, each with its own head. -/
import Derived.Test.YtedakhgaghfogaaGreatQs40
namespace Go.Proofs.YtedakhgaghfogaaGreat
section
open Go.RowKit
attribute [local go_sem] Oper.semAt_some
structure ApB (base:Nat) (bv:Value) (w:World) (bs:List Nat) (v:Value) (w':World):Prop where
 own:w'.ownsRow base 5 1 v bs.length (bs.map u8v)
 turns:Turns (fun i=>bv.ownBlock=some i) w w'
 blk:∀k,v.ownBlock=some k→bv.ownBlock=some k∨w.heap.size≤k
theorem ApB.refl {base:Nat} {bv:Value} {w:World} {bs:List Nat} (h:w.ownsRow base 5 1 bv bs.length (bs.map u8v)):ApB base bv w bs bv w:=⟨h,Turns.refl _ _,fun _ h=> .inl h⟩
theorem ApB.trans {base:Nat} {bv v v':Value} {w w1 w2:World} {bs bs':List Nat} (h:ApB base bv w bs v w1) (k:ApB base v w1 bs' v' w2):ApB base bv w bs' v' w2:=
 ⟨k.own,h.turns.trans' k.turns (fun i hi hk=>by
  rcases h.blk i hk with h1 | h1
  ·exact h1
  ·omega),fun j hj=>by
  rcases k.blk j hj with h1 | h1
  ·exact h.blk j h1
  ·exact .inr (Nat.le_trans h.turns.size h1)⟩
theorem ApB.later {base:Nat} {bv v:Value} {w w1 w2:World} {bs:List Nat} (h:ApB base bv w bs v w1) (hb:Below w1.heap.size w1 w2):ApB base bv w bs v w2:=
 ⟨(Turns.of_below' (T:=fun _=>False) hb).owns h.own (fun _ _ h=>h),h.turns.trans (Turns.of_below' hb),h.blk⟩
theorem ApB.first {base:Nat} {bv v:Value} {w w1 w2:World} {bs:List Nat} (hb:Below w.heap.size w w1) (h:ApB base bv w1 bs v w2):ApB base bv w bs v w2:=
 ⟨h.own,(Turns.of_below' hb).trans h.turns,fun k hk=>(h.blk k hk).imp id fun h=>Nat.le_trans hb.size h⟩
theorem ApB.congr {base:Nat} {bv v:Value} {w w1:World} {bs bs':List Nat} (h:ApB base bv w bs v w1) (e:bs=bs'):ApB base bv w bs' v w1:=e ▸ h
def upN (n:Nat) (v:Int):List Nat:=(List.range n).map fun i=>(v/2^(8*(n - 1 - i))%256).toNat
theorem zqK (v:Int):upN 2 v=up2 v:=by
 show [(v/2^(8*1)%256).toNat,(v/2^(8*0)%256).toNat]=[(v/256%256).toNat,(v%256).toNat]
 simp
theorem zn6 (v:Int):upN 4 v=up4 v:=by
 show [(v/2^(8*3)%256).toNat,(v/2^(8*2)%256).toNat,(v/2^(8*1)%256).toNat,(v/2^(8*0)%256).toNat]=[(v/16777216%256).toNat,(v/65536%256).toNat,(v/256%256).toNat,(v%256).toNat]
 simp
theorem zgb (n:Nat) (v:Int):(upN n v).length=n:=by simp [upN]
theorem zpb {n j:Nat} (v:Int) (h:j<n):(upN n v).take (j+1)=(upN n v).take j++[(v/2^(8*(n - 1 - j))%256).toNat]:=by
 rw [List.take_succ_eq_append_getElem (by rw [zgb];exact h)]
 congr 2
 simp [upN]
theorem zpp (x:Nat):∀(w:World),World.cell? (w.alloc (.cells #[.int .u8 (x:Int)] 5)) ⟨w.heap.size,0,none⟩=some (.int .u8 (x:Int)):=fun w=>zaa (World.alloc_heap_new w _) rfl
set_option maxRecDepth 20000 in
set_option maxHeartbeats 4000000 in
theorem zgT (base n:Nat) (v:Int) (bv:Value) (bs:List Nat) (w:World) (hn:n≤4) (ho:w.ownsRow base 5 1 bv bs.length (bs.map u8v)) (hb:base≤w.heap.size) (hl:bs.length≤16777216):
  Calls Tryz.prog 35 #[bv,.int .i64 (n:Int),.int .i64 v] w fun e w'=> ∃v',e= .returned v'∧ApB base bv w (bs++upN n v) v' w':=by
 obtain ⟨i0,hi0,hz0,hz1,hz2⟩:=info_parts zaw
 have Ho:=Lib.hid ho
 clear ho
 go_enter Tryz.func35,Tryz.ntmps35
 go_upto_region 1 with (fail)
 go_loopw [0,1] (fun ov kv wr=> ∃j:Nat,j≤n∧kv= .int .i64 ((n - j:Nat):Int)∧Hid (ApB base bv w (bs++(upN n v).take j) ov wr)) (fun _ kv _=>(intOf kv).toNat)
 case atStart=>exact ⟨0,Nat.zero_le _,rfl,Lib.hid (by rw [List.take_zero,List.append_nil];exact .refl Ho.out)⟩
 case round=>
  obtain ⟨j,hj,rfl,HA⟩:=hrel
  by_cases hjn:j<n
  ·have d1:decide (((n - j:Nat):Int)>0)=true:=by simp;omega
   obtain ⟨k,hk⟩:∃k,n - 1 - j=k:=⟨_,rfl⟩
   have ek:n - j=k+1:=by omega
   have ew:IntKind.i64.wrap (((k+1:Nat):Int) - 1)=(k:Int):=by
    rw [show (((k+1:Nat):Int) - 1)=(k:Int) by omega];exact IntWalk.i64_in _ (by omega)
   have ew8:IntKind.i64.wrap (8*(k:Int))=((8*k:Nat):Int):=by
    rw [show (8*(k:Int))=((8*k:Nat):Int) by omega];exact IntWalk.i64_in _ (by omega)
   have htk:=zpb v hjn
   rw [hk] at htk
   rw [ek] at d1 ⊢
   go_upto_region 3 with (fail)
   obtain ⟨x,hx⟩:∃x,(v/2^(8*k)%256).toNat=x:=⟨_,rfl⟩
   have hx0:(v/2^(8*k)%256)=(x:Int):=by omega
   rw [hx] at htk
   have Htk:=Lib.hid (show bs++(upN n v).take (j+1)=(bs++(upN n v).take j)++[x] by rw [List.append_assoc,←htk])
   obtain ⟨cur,hcur⟩:∃c,bs++(upN n v).take j=c:=⟨_,rfl⟩
   have hcl:cur.length≤16777216+4:=by
    rw [←hcur,List.length_append,List.length_take,zgb];omega
   rw [hcur] at HA Htk
   have Hown:=Lib.hid ((Turns.of_below' (T:=fun _=>False) (Below.al1 wr (.cells #[.int .u8 (x:Int)] 5))).owns HA.out.own (fun _ _ h=>h))
   have Hsz:Hid (base≤wr.heap.size+1):=Lib.hid (by have:=HA.out.turns.size;omega)
   clear hx htk hcur
   go_wp2_with (at_builtin;refine zai _ rfl (.tmp 11) (.tmp 17) 28 rfl base 5 i0 _ 1 1 Tryz.underlying28 hi0 hz0 hz1 hz2 rfl (by decide) u0 cur.length (cur.map u8v) rfl Hown.out (some ⟨wr.heap.size,0,none⟩) 1 1 [.int .u8 (x:Int)] rfl rfl (.inr ⟨_,rfl,?n2⟩) (by intro u hu;simp at hu;subst hu;rfl) ?n3 ?n4 ?n5 ?_)
   case n2=>
    intro q u hu
    cases q with
    | zero=>
     cases hu
     have:=zpp x wr
     rw [Addr.add_lit]
     exact this
    | succ q=>cases hu
   case n3=>simp only [maxLen];omega
   case n4=>omega
   case n5=>rw [World.size_alloc];exact Hsz.out
   intro v3 w3 ho3 hg3 hk3
   have HA3:Hid (ApB base bv w (bs++(upN n v).take (j+1)) v3 w3):=Lib.hid (HA.out.trans (ApB.first (Below.al1 wr _) ⟨by
    rw [Htk.out,List.length_append,List.map_append];exact ho3,Turns.of_grown hg3 (fun _ h=>h),fun k hk=>by
    rcases hk3 k hk with h | h
    ·exact .inl h
    ·exact .inr (by rw [World.size_alloc];exact h)⟩))
   clear ho3 hg3 hk3
   go_wp2
   go_roundw
   case rel=>exact ⟨j+1,by omega,by rw [show n - (j+1)=k by omega],HA3⟩
   case measure=>simp [intOf]
  ·obtain rfl:j=n:=by omega
   rw [Nat.sub_self] at *
   have hf:=HA.out
   rw [List.take_of_length_le (by rw [zgb];exact Nat.le_refl _)] at hf
   have Hf:=Lib.hid hf
   clear hf
   go_wp2
   go_ret
   exact ⟨_,rfl,Hf.out⟩
theorem zb0 (base:Nat) (v:Int) (bv:Value) (bs:List Nat) (w:World) (ho:w.ownsRow base 5 1 bv bs.length (bs.map u8v)) (hb:base≤w.heap.size) (hl:bs.length≤16777216):
  Calls Tryz.prog 35 #[bv,.int .i64 2,.int .i64 v] w fun e w'=> ∃v',e= .returned v'∧ApB base bv w (bs++up2 v) v' w':=by
 have:=zgT base 2 v bv bs w (by decide) ho hb hl
 rwa [zqK] at this
theorem zlD (base:Nat) (v:Int) (bv:Value) (bs:List Nat) (w:World) (ho:w.ownsRow base 5 1 bv bs.length (bs.map u8v)) (hb:base≤w.heap.size) (hl:bs.length≤16777216):
  Calls Tryz.prog 35 #[bv,.int .i64 4,.int .i64 v] w fun e w'=> ∃v',e= .returned v'∧ApB base bv w (bs++up4 v) v' w':=by
 have:=zgT base 4 v bv bs w (by decide) ho hb hl
 rwa [zn6] at this
def up4P (r:U4):Nat→List Nat
 | 0=>[]
 | 1=>up2 r.x
 | 2=>up2 r.x++up2 r.y
 | 3=>up2 r.x++(up2 r.y++up2 r.a)
 | _=>up4B r
theorem zoe (r:U4) (i:Nat):(up4P r i).length≤8:=by
 match i with
 | 0=>exact Nat.zero_le _
 | 1=>show 2≤8;decide
 | 2=>show 4≤8;decide
 | 3=>show 6≤8;decide
 | _+4=>exact Nat.le_refl 8
theorem zeH (x y a b:Int) (w:World):
  (Instr.index 122 (.agg #[.int .i64 x,.int .i64 y,.int .i64 a,.int .i64 b]) (.int .i64 0)).run Tryz.prog w= .ok (.int .i64 x) w∧
  (Instr.index 122 (.agg #[.int .i64 x,.int .i64 y,.int .i64 a,.int .i64 b]) (.int .i64 1)).run Tryz.prog w= .ok (.int .i64 y) w∧
  (Instr.index 122 (.agg #[.int .i64 x,.int .i64 y,.int .i64 a,.int .i64 b]) (.int .i64 2)).run Tryz.prog w= .ok (.int .i64 a) w∧
  (Instr.index 122 (.agg #[.int .i64 x,.int .i64 y,.int .i64 a,.int .i64 b]) (.int .i64 3)).run Tryz.prog w= .ok (.int .i64 b) w:=by
 refine ⟨?_,?_,?_,?_⟩<;>kernel_rfl
set_option maxRecDepth 20000 in
set_option maxHeartbeats 4000000 in
theorem zdU (base:Nat) (r:U4) (bv:Value) (bs:List Nat) (w:World) (ho:w.ownsRow base 5 1 bv bs.length (bs.map u8v)) (hb:base≤w.heap.size) (hl:bs.length≤8388608):
  Calls Tryz.prog 59 #[bv,U4V r.x r.y r.a r.b] w fun e w'=> ∃v',e= .returned v'∧ApB base bv w (bs++up4B r) v' w':=by
 have hx0:=fun w=>(zeH r.x r.y r.a r.b w).1
 have hx1:=fun w=>(zeH r.x r.y r.a r.b w).2.1
 have hx2:=fun w=>(zeH r.x r.y r.a r.b w).2.2.1
 have hx3:=fun w=>(zeH r.x r.y r.a r.b w).2.2.2
 have Ho:=Lib.hid ho
 have hb0:=Below.al1 w (.cells #[.int .i64 r.x,.int .i64 r.y,.int .i64 r.a,.int .i64 r.b] 36)
 have hz:=World.alloc_heap_new w (.cells #[.int .i64 r.x,.int .i64 r.y,.int .i64 r.a,.int .i64 r.b] 36)
 clear ho
 go_enter Tryz.func59,Tryz.ntmps59
 go_upto_region 1 with (fail)
 generalize w.alloc (.cells #[.int .i64 r.x,.int .i64 r.y,.int .i64 r.a,.int .i64 r.b] 36)=W at *
 obtain ⟨c0,c1,c2,c3,-⟩:=zau hz
 have HA0:Hid (ApB base bv w (bs++up4P r 0) bv W):=Lib.hid (by
  rw [show up4P r 0=[] from rfl,List.append_nil]
  exact (ApB.refl Ho.out).later hb0)
 clear hz hb0
 go_wp2_with fail
 go_loopw [0,16] (fun ov iv wr=> ∃i:Nat,iv= .int .i64 (i:Int)∧i≤4∧Hid (ApB base bv w (bs++up4P r i) ov wr)) (fun _ iv _=>4 - (intOf iv).toNat)
 case atStart=>exact ⟨0,rfl,by omega,HA0⟩
 case round=>
  obtain ⟨i,rfl,hi,HA⟩:=hrel
  clear c0 c1 c2 c3
  by_cases hin:i<4
  ·have hlen:=zoe r i
   have Hput:Hid (∀v,Calls Tryz.prog 35 #[u0,.int .i64 2,.int .i64 v] wr fun e w'=> ∃v',e= .returned v'∧ApB base u0 wr ((bs++up4P r i)++up2 v) v' w'):=Lib.hid (fun v=>
    zb0 base v u0 (bs++up4P r i) wr HA.out.own (Nat.le_trans hb HA.out.turns.size) (by rw [List.length_append];omega))
   clear hlen
   obtain rfl | rfl | rfl | rfl:i=0∨i=1∨i=2∨i=3:=by omega
   ·rw [show ((0:Nat):Int)=0 from rfl]
    go_wp2_with fail
    refine Calls.mono (Hput.out r.x) ?_
    rintro _ w3 ⟨v3,rfl,h3⟩
    have H3:Hid (ApB base bv w (bs++up4P r 1) v3 w3):=Lib.hid ((HA.out.trans h3).congr (by rw [List.append_assoc];rfl))
    clear h3
    go_wp2
    go_roundw
    case rel=>exact ⟨1,by go_num,by omega,H3⟩
    case measure=>simp [intOf]
   ·rw [show ((1:Nat):Int)=1 from rfl]
    go_wp2_with fail
    refine Calls.mono (Hput.out r.y) ?_
    rintro _ w3 ⟨v3,rfl,h3⟩
    have H3:Hid (ApB base bv w (bs++up4P r 2) v3 w3):=Lib.hid ((HA.out.trans h3).congr (by rw [List.append_assoc];rfl))
    clear h3
    go_wp2
    go_roundw
    case rel=>exact ⟨2,by go_num,by omega,H3⟩
    case measure=>simp [intOf]
   ·rw [show ((2:Nat):Int)=2 from rfl]
    go_wp2_with fail
    refine Calls.mono (Hput.out r.a) ?_
    rintro _ w3 ⟨v3,rfl,h3⟩
    have H3:Hid (ApB base bv w (bs++up4P r 3) v3 w3):=Lib.hid ((HA.out.trans h3).congr (by rw [List.append_assoc];rfl))
    clear h3
    go_wp2
    go_roundw
    case rel=>exact ⟨3,by go_num,by omega,H3⟩
    case measure=>simp [intOf]
   ·rw [show ((3:Nat):Int)=3 from rfl]
    go_wp2_with fail
    refine Calls.mono (Hput.out r.b) ?_
    rintro _ w3 ⟨v3,rfl,h3⟩
    have H3:Hid (ApB base bv w (bs++up4P r 4) v3 w3):=Lib.hid ((HA.out.trans h3).congr (by rw [List.append_assoc];rfl))
    clear h3
    go_wp2
    go_roundw
    case rel=>exact ⟨4,by go_num,by omega,H3⟩
    case measure=>simp [intOf]
  ·obtain rfl:i=4:=by omega
   go_wp2
   go_ret
   exact ⟨_,rfl,HA.out⟩
set_option maxRecDepth 20000 in
set_option maxHeartbeats 4000000 in
theorem zga (base k:Nat) (r:U4) (bv:Value) (bs ob:List Nat) (po:Option Addr) (co:Nat) (w:World) (ho:w.ownsRow base 5 1 bv bs.length (bs.map u8v)) (hb:base≤w.heap.size) (hl:bs.length≤4194304) (hol:ob.length≤4194304)
  (hs:(po=none∧ob.length=0∧co=0)∨∃g o,po=some ⟨g,o,none⟩∧bv.ownBlock≠some g∧g<w.heap.size∧∀j u,(ob.map u8v)[j]? =some u→w.cell? ⟨g,o+j,none⟩=some u):
  Calls Tryz.prog 37 #[bv,U4V r.x r.y r.a r.b,.int .u8 (k:Int),.slice po ob.length co] w fun e w'=> ∃v',e= .returned v'∧ApB base bv w (bs++upT r (k,ob)) v' w':=by
 obtain ⟨i0,hi0,hz0,hz1,hz2⟩:=info_parts zaw
 have Ho:=Lib.hid ho
 have Hs:=Lib.hid hs
 have hb0:=Below.al1 w (.cells #[.int .i64 r.x,.int .i64 r.y,.int .i64 r.a,.int .i64 r.b] 36)
 have hz:=World.alloc_heap_new w (.cells #[.int .i64 r.x,.int .i64 r.y,.int .i64 r.a,.int .i64 r.b] 36)
 obtain ⟨m,hm⟩:∃m,ob.length=m:=⟨_,rfl⟩
 have Hm:=Lib.hid hm
 rw [hm] at hol ⊢
 clear ho hs hm
 go_enter Tryz.func37,Tryz.ntmps37
 go_upto_region 1 with (fail)
 generalize w.alloc (.cells #[.int .i64 r.x,.int .i64 r.y,.int .i64 r.a,.int .i64 r.b] 36)=W at *
 obtain ⟨c0,c1,c2,c3,-⟩:=zau hz
 have HA0:Hid (ApB base bv w bs bv W):=Lib.hid ((ApB.refl Ho.out).later hb0)
 have hsW:base≤W.heap.size:=Nat.le_trans hb hb0.size
 clear hz hb0
 go_wp2_with fail
 refine Calls.mono (zdU base r bv bs W HA0.out.own hsW (by omega)) ?_
 rintro _ w1 ⟨v1,rfl,h1⟩
 have HA1:=Lib.hid (HA0.out.trans h1)
 have hs1:base≤w1.heap.size:=Nat.le_trans hsW h1.turns.size
 obtain ⟨b1,hb1⟩:∃c,bs++up4B r=c:=⟨_,rfl⟩
 rw [hb1] at HA1
 have hl1:b1.length≤4194312:=by rw [←hb1,List.length_append,ze1];omega
 have Hb1:=Lib.hid hb1
 have Hown:=Lib.hid ((Turns.of_below' (T:=fun _=>False) (Below.al1 w1 (.cells #[.int .u8 (k:Int)] 5))).owns HA1.out.own (fun _ _ h=>h))
 clear h1 hb1
 go_wp2_with (at_builtin;refine zai _ rfl (.tmp 11) (.tmp 13) 28 rfl base 5 i0 _ 1 1 Tryz.underlying28 hi0 hz0 hz1 hz2 rfl (by decide) v1 b1.length (b1.map u8v) rfl Hown.out (some ⟨w1.heap.size,0,none⟩) 1 1 [.int .u8 (k:Int)] rfl rfl (.inr ⟨_,rfl,?n2⟩) (by intro u hu;simp at hu;subst hu;rfl) ?n3 ?n4 ?n5 ?_)
 case n2=>
  intro q u hu
  cases q with
  | zero=>
   cases hu
   have:=zpp k w1
   rw [Addr.add_lit]
   exact this
  | succ q=>cases hu
 case n3=>simp only [maxLen];omega
 case n4=>omega
 case n5=>rw [World.size_alloc];omega
 intro v3 w3 ho3 hg3 hk3
 have HA3:Hid (ApB base bv w (b1++[k]) v3 w3):=Lib.hid (HA1.out.trans (ApB.first (Below.al1 w1 _) ⟨by
  rw [List.length_append,List.map_append];exact ho3,Turns.of_grown hg3 (fun _ h=>h),fun k hk=>by
  rcases hk3 k hk with h | h
  ·exact .inl h
  ·exact .inr (by rw [World.size_alloc];exact h)⟩))
 have hs3:base≤w3.heap.size:=Nat.le_trans hb HA3.out.turns.size
 clear ho3 hg3 hk3 Hown HA1 c0 c1 c2 c3
 go_wp2_with fail
 refine Calls.mono (zlD base (m:Int) v3 (b1++[k]) w3 HA3.out.own hs3 (by rw [List.length_append,List.length_singleton];omega)) ?_
 rintro _ w4 ⟨v4,rfl,h4⟩
 have HA4:=Lib.hid (HA3.out.trans h4)
 have hs4:base≤w4.heap.size:=Nat.le_trans hs3 h4.turns.size
 obtain ⟨b4,hb4⟩:∃c,(b1++[k])++up4 m=c:=⟨_,rfl⟩
 rw [hb4] at HA4
 have hl4:b4.length≤4194330:=by
  rw [←hb4,List.length_append,List.length_append,List.length_singleton]
  show b1.length+1+4≤_
  omega
 have Hb4:=Lib.hid hb4
 have Hsrc:Hid ((po=none∧m=0∧co=0)∨∃ad,po=some ad∧∀j u,(ob.map u8v)[j]? =some u→w4.cell? (ad.add j)=some u):=Lib.hid (by
  rcases Hs.out with ⟨h,h',h''⟩ | ⟨g,o,h,hn,hlt,hc⟩
  ·exact .inl ⟨h,by rw [←Hm.out];exact h',h''⟩
  ·refine .inr ⟨_,h,fun j u hu=>?_⟩
   rw [Addr.add_lit]
   exact HA4.out.turns.cell (hc j u hu) hn)
 clear h4 hb4 HA3
 go_wp2_with (at_builtin;refine zai _ rfl (.tmp 19) (.tmp 20) 28 rfl base 5 i0 _ 1 1 Tryz.underlying28 hi0 hz0 hz1 hz2 rfl (by decide) v4 b4.length (b4.map u8v) rfl HA4.out.own po m co (ob.map u8v) rfl (by rw [List.length_map,Hm.out,Nat.mul_one]) Hsrc.out (by intro u hu;obtain ⟨z,_,rfl⟩:=List.mem_map.1 hu;rfl) ?p3 ?p4 ?p5 ?_)
 case p3=>simp only [maxLen];omega
 case p4=>omega
 case p5=>omega
 intro v5 w5 ho5 hg5 hk5
 have HA5:Hid (ApB base bv w (b4++ob) v5 w5):=Lib.hid (HA4.out.trans ⟨by
  rw [List.length_append,List.map_append,Hm.out];exact ho5,Turns.of_grown hg5 (fun _ h=>h),fun k hk=>hk5 k hk⟩)
 clear ho5 hg5 hk5
 go_wp2
 go_ret
 refine ⟨_,rfl,HA5.out.congr ?_⟩
 rw [←Hb4.out,←Hb1.out,upT,Hm.out]
 simp only [List.append_assoc,List.cons_append,List.nil_append]
end
section
open Go.RowKit
attribute [local go_sem] Oper.semAt_some zaU
def zaG (r:U4):List Value:=[.int .i64 r.x,.int .i64 r.y,.int .i64 r.a,.int .i64 r.b]
def zdM (c:U6):List Value:=[.int .i64 c.x,.int .i64 c.y,.int .i64 c.a,.int .i64 c.b,.int .i64 c.dx,.int .i64 c.dy]
abbrev U4.v (r:U4):Value:=U4V r.x r.y r.a r.b
abbrev U6.v (c:U6):Value:=U6V c.x c.y c.a c.b c.dx c.dy
def In64 (x:Int):Prop:= -9223372036854775808≤x∧x≤9223372036854775807
def U4.wf (r:U4):Prop:=In64 r.x∧In64 r.y∧In64 r.a∧In64 r.b
def U6.wf (c:U6):Prop:=In64 c.x∧In64 c.y∧In64 c.a∧In64 c.b∧In64 c.dx∧In64 c.dy
theorem zrQ {c:U6} (h:c.wf) {wd ht:Int} (hw:wd≤256) (hh:ht≤256):(upIs wd ht c.x c.y c.a c.b∧upIs wd ht (IntKind.i64.wrap (c.x - c.dx)) (IntKind.i64.wrap (c.y - c.dy)) c.a c.b)↔c.ok wd ht:=by
 obtain ⟨-,-,-,-,⟨h1,h2⟩,⟨h3,h4⟩⟩:=h
 unfold U6.ok
 constructor
 ·rintro ⟨ha,hb⟩
  refine ⟨ha,?_⟩
  obtain ⟨a1,a2,a3,a4,a5,a6⟩:=ha
  obtain ⟨b1,b2,b3,b4,b5,b6⟩:=hb
  rw [IntKind.wrap_i64] at b1 b2 b5 b6
  exact ⟨by omega,by omega,a3,a4,by omega,by omega⟩
 ·rintro ⟨ha,hb⟩
  refine ⟨ha,?_⟩
  obtain ⟨a1,a2,a3,a4,a5,a6⟩:=ha
  obtain ⟨b1,b2,b3,b4,b5,b6⟩:=hb
  rw [IntWalk.i64_in (c.x - c.dx) (by omega),IntWalk.i64_in (c.y - c.dy) (by omega)]
  exact ⟨b1,b2,b3,b4,b5,b6⟩
set_option maxRecDepth 20000 in
set_option maxHeartbeats 4000000 in
theorem zg7 (wd ht:Int) (p:Option Addr) (n c:Nat) (w:World) (f:Bool) (hf:decide (cdM wd ht n)=f):
  Makes Tryz.prog 32 #[IgV wd ht (.slice p n c)] w (.bool f):=by
 unfold Makes
 have Hf:=Lib.hid hf
 have hb:=Below.al1 w (.cells #[.int .i64 wd,.int .i64 ht,.slice p n c] 26)
 have Hb:=Lib.hid hb
 have hmin:=fun w=>zla #[3,3] 3 .i64 .i64 wd ht w
 have hmax:∀w:World,(Builtin.max_ #[3,3] 3 #[.int .i64 wd,.int .i64 ht]).run Tryz.prog w= .ok (.int .i64 (max wd ht)) w:=fun w=>by
  rw [run_max_int2];congr 2;split<;>omega
 obtain ⟨x,hx⟩:∃x,min wd ht=x:=⟨_,rfl⟩
 obtain ⟨y,hy⟩:∃y,max wd ht=y:=⟨_,rfl⟩
 rw [hx] at hmin
 rw [hy] at hmax
 have Hx:=Lib.hid hx
 have Hy:=Lib.hid hy
 clear hb hf hx hy
 go_enter Tryz.func32,Tryz.ntmps32
 by_cases h1:1≤x
 case neg=>
  have d1:decide (x≥1)=false:=by simpa using h1
  obtain rfl:f=false:=by rw [←Hf.out];exact decide_eq_false fun h=>h1 (by have:=h.1;have:=h.2.1;have:=Hx.out;omega)
  go_wp2
  go_ret
  exact ⟨rfl,Hb.out⟩
 have d1:decide (x≥1)=true:=by simpa using h1
 by_cases h2:y≤256
 case neg=>
  have d2:decide (y≤256)=false:=by simpa using h2
  obtain rfl:f=false:=by rw [←Hf.out];exact decide_eq_false fun h=>h2 (by have:=h.2.2.1;have:=h.2.2.2.1;have:=Hy.out;omega)
  go_wp2
  go_ret
  exact ⟨rfl,Hb.out⟩
 have d2:decide (y≤256)=true:=by simpa using h2
 have hfit:1≤wd∧1≤ht∧wd≤256∧ht≤256:=by have:=Hx.out;have:=Hy.out;omega
 obtain ⟨q,hq,hq1,hq2⟩:=zdg hfit
 have hwm:IntKind.i64.wrap (wd*ht)=(q:Int):=by rw [hq];exact IntWalk.i64_in _ (by omega)
 have hd:((n:Int)==(q:Int))=f:=by
  rw [←Hf.out]
  by_cases h:n=q
  ·subst h
   rw [decide_eq_true (show cdM wd ht n from ⟨hfit.1,hfit.2.1,hfit.2.2.1,hfit.2.2.2,hq.symm⟩)]
   simp
  ·rw [decide_eq_false fun hm=>h (by have:=hm.2.2.2.2;rw [hq] at this;omega)]
   simp;omega
 clear hfit hq
 go_wp2
 go_ret
 exact ⟨by rw [←hd];rfl,Hb.out⟩
set_option maxRecDepth 20000 in
set_option maxHeartbeats 2000000 in
theorem zkG (B:Nat) (r:U6) (wd ht:Int) (p:Option Addr) (n c:Nat) (w:World) (hB:ImB w B wd ht (.slice p n c)) (hw:1≤wd∧wd≤256) (hh:1≤ht∧ht≤256) (hr:r.wf):
  Makes Tryz.prog 54 #[r.v,.pointer (some ⟨B,0,none⟩)] w (.bool (!decide (r.ok wd ht))):=by
 unfold Makes
 obtain ⟨f,hf⟩:∃f,decide (r.ok wd ht)=f:=⟨_,rfl⟩
 have hcall:=fun w=>zfO r.x r.y r.a r.b r.dx r.dy wd ht p n c w hw hh hr.2.2.1.2 hr.2.2.2.1.2 f (by rw [←hf];congr 1;exact propext (zrQ hr hw.2 hh.2))
 rw [hf]
 have HC:=Lib.hid hcall
 have hb0:=Below.al1 w (.cells #[.int .i64 r.x,.int .i64 r.y,.int .i64 r.a,.int .i64 r.b,.int .i64 r.dx,.int .i64 r.dy] 38)
 have hz:=World.alloc_heap_new w (.cells #[.int .i64 r.x,.int .i64 r.y,.int .i64 r.a,.int .i64 r.b,.int .i64 r.dx,.int .i64 r.dy] 38)
 have hI:=hB.later hb0
 obtain ⟨i0,i1,i2⟩:=hI.c
 clear hcall hf hB hI
 go_enter Tryz.func54,Tryz.ntmps54
 go_upto_region 1 with (fail)
 generalize w.alloc (.cells #[.int .i64 r.x,.int .i64 r.y,.int .i64 r.a,.int .i64 r.b,.int .i64 r.dx,.int .i64 r.dy] 38)=W at *
 obtain ⟨c0,c1,c2,c3,c4,c5⟩:=zbj hz
 have Hb0:=Lib.hid hb0
 clear hz hb0
 go_wp2_with fail
 refine Calls.mono (HC.out W) ?_
 rintro _ w1 ⟨rfl,hb1⟩
 have Hb1:=Lib.hid (Below.thn Hb0.out hb1)
 clear hb1
 cases f
 all_goals
  go_wp2
  go_ret
  exact ⟨rfl,Hb1.out⟩
set_option maxRecDepth 20000 in
set_option maxHeartbeats 4000000 in
theorem zlu (B:Nat) (rs:List U6) (p:Option Addr) (c:Nat) (wd ht:Int) (q:Option Addr) (m d:Nat) (w:World) (hB:ImB w B wd ht (.slice q m d)) (hp:RowAt zdM 6 w p rs) (hl:rs.length≤65535) (hc:rs.length≤c) (hw:1≤wd∧wd≤256) (hh:1≤ht∧ht≤256) (hr:∀r∈rs,r.wf):
  Calls Tryz.prog 87 #[.slice p rs.length c,.func (.func 54) #[] #[.pointer (some ⟨B,0,none⟩)]] w fun e w'=> ∃k:Int,e= .returned (.int .i64 k)∧(0≤k↔∃r∈rs,¬r.ok wd ht)∧Below w.heap.size w w':=by
 have HB:=Lib.hid hB
 have Hp:=Lib.hid hp
 have Hr:=Lib.hid hr
 obtain ⟨n,hn⟩:∃n,rs.length=n:=⟨_,rfl⟩
 rw [hn] at hl hc ⊢
 have Hn:=Lib.hid hn
 clear hB hp hr hn
 go_enter Tryz.func87,Tryz.ntmps87
 go_wp2_with fail
 go_loopw [8] (fun iv wr=> ∃i:Nat,iv= .int .i64 (i:Int)∧i≤n∧Hid (∀r∈rs.take i,r.ok wd ht)∧Hid (Below w.heap.size w wr)) (fun iv _=>n - (intOf iv).toNat)
 case atStart=>exact ⟨0,rfl,Nat.zero_le _,Lib.hid (fun r h=>by cases h),Lib.hid (Below.refl _ _)⟩
 case round=>
  obtain ⟨i,rfl,hi,HA,HW⟩:=hrel
  by_cases hin:i<n
  ·have d1:decide ((i:Int)<(n:Int))=true:=by simp;omega
   have hil:i<rs.length:=by rw [Hn.out];exact hin
   obtain ⟨g,off,rfl,hlt,hcell⟩:∃b off,p=some ⟨b,off,none⟩∧b<w.heap.size∧∀i x,rs[i]? =some x→∀j u,(zdM x)[j]? =some u→w.cell? ⟨b,off+i*6+j,none⟩=some u:=by
    rcases Hp.out with ⟨-,h⟩ | ⟨b,off,e,h,hc⟩
    ·rw [h] at hil;exact absurd hil (Nat.not_lt_zero _)
    ·exact ⟨b,off,e,h,hc⟩
   obtain ⟨r,hr⟩:∃r,rs[i]=r:=⟨_,rfl⟩
   have hri:rs[i]? =some r:=by rw [List.getElem?_eq_getElem hil,hr]
   have hmem:r∈rs:=by rw [←hr];exact List.getElem_mem hil
   have hg:=hcell i r hri
   have x0:=cell_later HW.out (hg 0 (.int .i64 r.x) rfl)
   have x1:=cell_later HW.out (hg 1 (.int .i64 r.y) rfl)
   have x2:=cell_later HW.out (hg 2 (.int .i64 r.a) rfl)
   have x3:=cell_later HW.out (hg 3 (.int .i64 r.b) rfl)
   have x4:=cell_later HW.out (hg 4 (.int .i64 r.dx) rfl)
   have x5:=cell_later HW.out (hg 5 (.int .i64 r.dy) rfl)
   rw [Nat.add_zero] at x0
   have htake:rs.take (i+1)=rs.take i++[r]:=by rw [List.take_succ_eq_append_getElem hil,hr]
   have hno:=zkG B r wd ht q m d wr (HB.out.later HW.out) hw hh (Hr.out r hmem)
   obtain ⟨f,hf⟩:∃f,decide (r.ok wd ht)=f:=⟨_,rfl⟩
   rw [hf] at hno
   have HNo:=Lib.hid hno
   have Hf:=Lib.hid hf
   have Htk:=Lib.hid htake
   have Hmem:=Lib.hid hmem
   obtain ⟨o,ho⟩:∃o,off+i*6=o:=⟨_,rfl⟩
   rw [ho] at x0 x1 x2 x3 x4 x5
   have j0:(0:Int)≤(i:Int):=by omega
   have j1:(i:Int)<(n:Int):=by omega
   clear hno hf htake hmem hg hri hr hcell hil hlt
   go_wp2_with fail
   refine Calls.mono HNo.out ?_
   rintro _ w3 ⟨rfl,hb3⟩
   have Hb3:=Lib.hid (Below.thn HW.out hb3)
   clear hb3
   cases f
   case false=>
    go_wp2
    go_ret
    exact ⟨_,rfl,⟨fun _=>⟨r,Hmem.out,of_decide_eq_false Hf.out⟩,fun _=>by omega⟩,Hb3.out⟩
   case true=>
    have HA3:Hid (∀r∈rs.take (i+1),r.ok wd ht):=Lib.hid (fun s hs=>by
     rw [Htk.out] at hs
     rcases List.mem_append.1 hs with h | h
     ·exact HA.out s h
     ·obtain rfl:=List.mem_singleton.1 h
      exact of_decide_eq_true Hf.out)
    clear x0 x1 x2 x3 x4 x5
    go_wp2
    go_roundw
    case rel=>exact ⟨i+1,by go_num,by omega,HA3,Hb3⟩
    case measure=>simp [intOf];omega
  ·obtain rfl:i=n:=by omega
   have d1:decide ((i:Int)<(i:Int))=false:=by simp
   have ha:=HA.out
   rw [List.take_of_length_le (by rw [Hn.out];exact Nat.le_refl _)] at ha
   have HA2:=Lib.hid ha
   clear ha
   go_wp2
   go_ret
   exact ⟨_,rfl,⟨fun h=>absurd h (by decide),fun ⟨r,hr,hno⟩=>absurd (HA2.out r hr) hno⟩,HW.out⟩
theorem zli (B:Nat) (rs:List U6) (p:Option Addr) (c:Nat) (wd ht:Int) (q:Option Addr) (m d:Nat) (w:World) (hB:ImB w B wd ht (.slice q m d)) (hp:RowAt zdM 6 w p rs) (hl:rs.length≤65535) (hc:rs.length≤c) (hw:1≤wd∧wd≤256) (hh:1≤ht∧ht≤256) (hr:∀r∈rs,r.wf) (f:Bool) (hf:decide (∃r∈rs,¬r.ok wd ht)=f):
  Makes Tryz.prog 53 #[.slice p rs.length c,.func (.func 54) #[] #[.pointer (some ⟨B,0,none⟩)]] w (.bool f):=by
 unfold Makes
 have HC:=Lib.hid (zlu B rs p c wd ht q m d w hB hp hl hc hw hh hr)
 have Hf:=Lib.hid hf
 clear hB hp hr hf
 go_enter Tryz.func53,Tryz.ntmps53
 go_wp2_with fail
 refine Calls.mono HC.out ?_
 rintro _ w1 ⟨k,rfl,hk,hb1⟩
 have d:decide (k≥0)=f:=by
  rw [←Hf.out]
  congr 1
  exact propext hk
 have Hb1:=Lib.hid hb1
 clear hk hb1
 go_wp2
 go_ret
 exact ⟨by rw [←d];rfl,Hb1.out⟩
set_option maxRecDepth 20000 in
set_option maxHeartbeats 2000000 in
theorem zld (B:Nat) (r:U4) (wd ht:Int) (p:Option Addr) (n c:Nat) (w:World) (hB:ImB w B wd ht (.slice p n c)) (hw:1≤wd∧wd≤256) (hh:1≤ht∧ht≤256) (hr:r.wf):
  Makes Tryz.prog 57 #[r.v,.pointer (some ⟨B,0,none⟩)] w (.bool (!decide (r.ok wd ht))):=by
 unfold Makes
 obtain ⟨f,hf⟩:∃f,decide (r.ok wd ht)=f:=⟨_,rfl⟩
 have hcall:=fun w=>zcv r.x r.y r.a r.b wd ht p n c w hw hh hr.2.2.1.2 hr.2.2.2.2 f hf
 rw [hf]
 have HC:=Lib.hid hcall
 have hb0:=Below.al1 w (.cells #[.int .i64 r.x,.int .i64 r.y,.int .i64 r.a,.int .i64 r.b] 36)
 have hz:=World.alloc_heap_new w (.cells #[.int .i64 r.x,.int .i64 r.y,.int .i64 r.a,.int .i64 r.b] 36)
 have hI:=hB.later hb0
 obtain ⟨i0,i1,i2⟩:=hI.c
 clear hcall hf hB hI
 go_enter Tryz.func57,Tryz.ntmps57
 go_upto_region 1 with (fail)
 generalize w.alloc (.cells #[.int .i64 r.x,.int .i64 r.y,.int .i64 r.a,.int .i64 r.b] 36)=W at *
 obtain ⟨c0,c1,c2,c3,-⟩:=zau hz
 have Hb0:=Lib.hid hb0
 clear hz hb0
 go_wp2_with fail
 refine Calls.mono (HC.out W) ?_
 rintro _ w1 ⟨rfl,hb1⟩
 have Hb1:=Lib.hid (Below.thn Hb0.out hb1)
 clear hb1
 cases f
 all_goals
  go_wp2
  go_ret
  exact ⟨rfl,Hb1.out⟩
set_option maxRecDepth 20000 in
set_option maxHeartbeats 4000000 in
theorem zlg (B:Nat) (rs:List U4) (p:Option Addr) (c:Nat) (wd ht:Int) (q:Option Addr) (m d:Nat) (w:World) (hB:ImB w B wd ht (.slice q m d)) (hp:RowAt zaG 4 w p rs) (hl:rs.length≤65535) (hc:rs.length≤c) (hw:1≤wd∧wd≤256) (hh:1≤ht∧ht≤256) (hr:∀r∈rs,r.wf):
  Calls Tryz.prog 89 #[.slice p rs.length c,.func (.func 57) #[] #[.pointer (some ⟨B,0,none⟩)]] w fun e w'=> ∃k:Int,e= .returned (.int .i64 k)∧(0≤k↔∃r∈rs,¬r.ok wd ht)∧Below w.heap.size w w':=by
 have HB:=Lib.hid hB
 have Hp:=Lib.hid hp
 have Hr:=Lib.hid hr
 obtain ⟨n,hn⟩:∃n,rs.length=n:=⟨_,rfl⟩
 rw [hn] at hl hc ⊢
 have Hn:=Lib.hid hn
 clear hB hp hr hn
 go_enter Tryz.func89,Tryz.ntmps89
 go_wp2_with fail
 go_loopw [8] (fun iv wr=> ∃i:Nat,iv= .int .i64 (i:Int)∧i≤n∧Hid (∀r∈rs.take i,r.ok wd ht)∧Hid (Below w.heap.size w wr)) (fun iv _=>n - (intOf iv).toNat)
 case atStart=>exact ⟨0,rfl,Nat.zero_le _,Lib.hid (fun r h=>by cases h),Lib.hid (Below.refl _ _)⟩
 case round=>
  obtain ⟨i,rfl,hi,HA,HW⟩:=hrel
  by_cases hin:i<n
  ·have d1:decide ((i:Int)<(n:Int))=true:=by simp;omega
   have hil:i<rs.length:=by rw [Hn.out];exact hin
   obtain ⟨g,off,rfl,hlt,hcell⟩:∃b off,p=some ⟨b,off,none⟩∧b<w.heap.size∧∀i x,rs[i]? =some x→∀j u,(zaG x)[j]? =some u→w.cell? ⟨b,off+i*4+j,none⟩=some u:=by
    rcases Hp.out with ⟨-,h⟩ | ⟨b,off,e,h,hc⟩
    ·rw [h] at hil;exact absurd hil (Nat.not_lt_zero _)
    ·exact ⟨b,off,e,h,hc⟩
   obtain ⟨r,hr⟩:∃r,rs[i]=r:=⟨_,rfl⟩
   have hri:rs[i]? =some r:=by rw [List.getElem?_eq_getElem hil,hr]
   have hmem:r∈rs:=by rw [←hr];exact List.getElem_mem hil
   have hg:=hcell i r hri
   have x0:=cell_later HW.out (hg 0 (.int .i64 r.x) rfl)
   have x1:=cell_later HW.out (hg 1 (.int .i64 r.y) rfl)
   have x2:=cell_later HW.out (hg 2 (.int .i64 r.a) rfl)
   have x3:=cell_later HW.out (hg 3 (.int .i64 r.b) rfl)
   rw [Nat.add_zero] at x0
   have htake:rs.take (i+1)=rs.take i++[r]:=by rw [List.take_succ_eq_append_getElem hil,hr]
   have hno:=zld B r wd ht q m d wr (HB.out.later HW.out) hw hh (Hr.out r hmem)
   obtain ⟨f,hf⟩:∃f,decide (r.ok wd ht)=f:=⟨_,rfl⟩
   rw [hf] at hno
   have HNo:=Lib.hid hno
   have Hf:=Lib.hid hf
   have Htk:=Lib.hid htake
   have Hmem:=Lib.hid hmem
   obtain ⟨o,ho⟩:∃o,off+i*4=o:=⟨_,rfl⟩
   rw [ho] at x0 x1 x2 x3
   have j0:(0:Int)≤(i:Int):=by omega
   have j1:(i:Int)<(n:Int):=by omega
   clear hno hf htake hmem hg hri hr hcell hil hlt
   go_wp2_with fail
   refine Calls.mono HNo.out ?_
   rintro _ w3 ⟨rfl,hb3⟩
   have Hb3:=Lib.hid (Below.thn HW.out hb3)
   clear hb3
   cases f
   case false=>
    go_wp2
    go_ret
    exact ⟨_,rfl,⟨fun _=>⟨r,Hmem.out,of_decide_eq_false Hf.out⟩,fun _=>by omega⟩,Hb3.out⟩
   case true=>
    have HA3:Hid (∀r∈rs.take (i+1),r.ok wd ht):=Lib.hid (fun s hs=>by
     rw [Htk.out] at hs
     rcases List.mem_append.1 hs with h | h
     ·exact HA.out s h
     ·obtain rfl:=List.mem_singleton.1 h
      exact of_decide_eq_true Hf.out)
    clear x0 x1 x2 x3
    go_wp2
    go_roundw
    case rel=>exact ⟨i+1,by go_num,by omega,HA3,Hb3⟩
    case measure=>simp [intOf];omega
  ·obtain rfl:i=n:=by omega
   have d1:decide ((i:Int)<(i:Int))=false:=by simp
   have ha:=HA.out
   rw [List.take_of_length_le (by rw [Hn.out];exact Nat.le_refl _)] at ha
   have HA2:=Lib.hid ha
   clear ha
   go_wp2
   go_ret
   exact ⟨_,rfl,⟨fun h=>absurd h (by decide),fun ⟨r,hr,hno⟩=>absurd (HA2.out r hr) hno⟩,HW.out⟩
theorem zlo (B:Nat) (rs:List U4) (p:Option Addr) (c:Nat) (wd ht:Int) (q:Option Addr) (m d:Nat) (w:World) (hB:ImB w B wd ht (.slice q m d)) (hp:RowAt zaG 4 w p rs) (hl:rs.length≤65535) (hc:rs.length≤c) (hw:1≤wd∧wd≤256) (hh:1≤ht∧ht≤256) (hr:∀r∈rs,r.wf) (f:Bool) (hf:decide (∃r∈rs,¬r.ok wd ht)=f):
  Makes Tryz.prog 56 #[.slice p rs.length c,.func (.func 57) #[] #[.pointer (some ⟨B,0,none⟩)]] w (.bool f):=by
 unfold Makes
 have HC:=Lib.hid (zlg B rs p c wd ht q m d w hB hp hl hc hw hh hr)
 have Hf:=Lib.hid hf
 clear hB hp hr hf
 go_enter Tryz.func56,Tryz.ntmps56
 go_wp2_with fail
 refine Calls.mono HC.out ?_
 rintro _ w1 ⟨k,rfl,hk,hb1⟩
 have d:decide (k≥0)=f:=by
  rw [←Hf.out]
  congr 1
  exact propext hk
 have Hb1:=Lib.hid hb1
 clear hk hb1
 go_wp2
 go_ret
 exact ⟨by rw [←d];rfl,Hb1.out⟩
end
end Go.Proofs.YtedakhgaghfogaaGreat
