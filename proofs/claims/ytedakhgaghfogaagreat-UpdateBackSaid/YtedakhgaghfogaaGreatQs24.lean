/- Several texts in one, each with its own head. -/
import Derived.Test.YtedakhgaghfogaaGreatQs5
namespace Go.Proofs.YtedakhgaghfogaaGreat
section
section
variable {α β:Type} [Inhabited α] [Inhabited β]
def gk (E:List (α×Nat)) (k:Nat):Nat:=(E.getD k default).2
def gs (E:List (α×Nat)) (i j:Nat):List (α×Nat):=(E.set i (E.getD j default)).set j (E.getD i default)
theorem zby (E:List (α×Nat)) (i j:Nat):(gs E i j).length=E.length:=by simp [gs]
inductive UpR:List (α×Nat)→Nat→List (α×Nat)→Prop
 | stop {E:List (α×Nat)} {j:Nat} (h:j=0∨¬gk E j<gk E ((j - 1)/2)):UpR E j E
 | step {E R:List (α×Nat)} {j:Nat} (h0:0<j) (h:gk E j<gk E ((j - 1)/2)) (hr:UpR (gs E ((j - 1)/2) j) ((j - 1)/2) R):UpR E j R
def zaM (m:Nat) (E:List (α×Nat)) (i:Nat):Nat:=if 2*i+2<m∧gk E (2*i+2)<gk E (2*i+1) then 2*i+2 else 2*i+1
inductive DnR (m:Nat):List (α×Nat)→Nat→List (α×Nat)→Prop
 | stop {E:List (α×Nat)} {i:Nat} (h:m≤2*i+1∨¬gk E (zaM m E i)<gk E i):DnR m E i E
 | step {E R:List (α×Nat)} {i:Nat} (h0:2*i+1<m) (h:gk E (zaM m E i)<gk E i) (hr:DnR m (gs E i (zaM m E i)) (zaM m E i) R):DnR m E i R
def PushR (F:List (α×Nat)) (x:α×Nat) (G:List (α×Nat)):Prop:=UpR (F++[x]) F.length G
def PopR (F:List (α×Nat)) (x:α×Nat) (G:List (α×Nat)):Prop:=F[0]? =some x∧∃D,DnR (F.length - 1) (gs F 0 (F.length - 1)) 0 D∧G=D.take (F.length - 1)
inductive PutR:List (α×Nat)→List (α×Nat)→List (α×Nat)→Prop
 | nil {F:List (α×Nat)}:PutR F [] F
 | cons {F G H l:List (α×Nat)} {x:α×Nat} (h:PushR F x G) (hr:PutR G l H):PutR F (x::l) H
inductive TakeR:List (α×Nat)→List (α×Nat)→List (α×Nat)→Prop
 | nil {F:List (α×Nat)}:TakeR F [] F
 | cons {F G E P:List (α×Nat)} {x:α×Nat} (h0:0<F.length) (h:PopR F x G) (hr:TakeR G P E):TakeR F (x::P) E
def OrdR (X P E:List (α×Nat)):Prop:= ∃F,PutR [] X F∧TakeR F P E∧E.length≤1∧∃k,P.length=2*k
theorem UpR.det {E R R':List (α×Nat)} {j:Nat} (h:UpR E j R) (k:UpR E j R'):R=R':=by
 induction h with
 | stop h=>
  cases k with
  | stop=>rfl
  | step h0 h1=>exact absurd h1 (h.resolve_left (by omega))
 | step h0 h1 hr ih=>
  cases k with
  | stop h=>exact absurd h1 (h.resolve_left (by omega))
  | step _ _ hr'=>exact ih hr'
theorem DnR.det {m:Nat} {E R R':List (α×Nat)} {i:Nat} (h:DnR m E i R) (k:DnR m E i R'):R=R':=by
 induction h with
 | stop h=>
  cases k with
  | stop=>rfl
  | step h0 h1=>exact absurd h1 (h.resolve_left (by omega))
 | step h0 h1 hr ih=>
  cases k with
  | stop h=>exact absurd h1 (h.resolve_left (by omega))
  | step _ _ hr'=>exact ih hr'
theorem UpR.len {E R:List (α×Nat)} {j:Nat} (h:UpR E j R):R.length=E.length:=by
 induction h with
 | stop=>rfl
 | step _ _ _ ih=>rw [ih,zby]
theorem DnR.len {m:Nat} {E R:List (α×Nat)} {i:Nat} (h:DnR m E i R):R.length=E.length:=by
 induction h with
 | stop=>rfl
 | step _ _ _ ih=>rw [ih,zby]
theorem PopR.det {F G G':List (α×Nat)} {x x':α×Nat} (h:PopR F x G) (k:PopR F x' G'):x=x'∧G=G':=by
 obtain ⟨h1,D,h2,rfl⟩:=h
 obtain ⟨k1,D',k2,rfl⟩:=k
 rw [h1] at k1
 exact ⟨by injection k1,by rw [h2.det k2]⟩
theorem PopR.len {F G:List (α×Nat)} {x:α×Nat} (h:PopR F x G):G.length=F.length - 1:=by
 obtain ⟨h1,D,h2,rfl⟩:=h
 rw [List.length_take,h2.len,zby];omega
theorem PutR.det {F l G G':List (α×Nat)} (h:PutR F l G) (k:PutR F l G'):G=G':=by
 induction h with
 | nil=>cases k;rfl
 | cons h hr ih=>
  cases k with
  | cons k kr=>
   obtain rfl:=UpR.det h k
   exact ih kr
theorem PutR.len {F l G:List (α×Nat)} (h:PutR F l G):G.length=F.length+l.length:=by
 induction h with
 | nil=>rfl
 | cons h hr ih=>
  have:=UpR.len h
  rw [ih,this];simp;omega
theorem PutR.append {F l G r H:List (α×Nat)} (h:PutR F l G) (k:PutR G r H):PutR F (l++r) H:=by
 induction h with
 | nil=>exact k
 | cons h hr ih=>exact .cons h (ih k)
theorem TakeR.len {F P E:List (α×Nat)} (h:TakeR F P E):F.length=P.length+E.length:=by
 induction h with
 | nil=>simp
 | cons h0 h hr ih=>
  have:=h.len
  simp only [List.length_cons];omega
theorem TakeR.det {F P E P' E':List (α×Nat)} (h:TakeR F P E) (k:TakeR F P' E') (hl:P.length=P'.length):P=P'∧E=E':=by
 induction h generalizing P' E' with
 | nil=>
  cases k with
  | nil=>exact ⟨rfl,rfl⟩
  | cons=>simp at hl
 | cons h0 h hr ih=>
  cases k with
  | nil=>simp at hl
  | cons _ k kr=>
   obtain ⟨rfl,rfl⟩:=h.det k
   obtain ⟨rfl,rfl⟩:=ih kr (by simpa using hl)
   exact ⟨rfl,rfl⟩
theorem TakeR.snoc {F P E G:List (α×Nat)} {x:α×Nat} (h:TakeR F P E) (h0:0<E.length) (k:PopR E x G):TakeR F (P++[x]) G:=by
 induction h with
 | nil=>exact .cons h0 k .nil
 | cons h1 h hr ih=>exact .cons h1 h (ih h0 k)
theorem OrdR.det {X P E P' E':List (α×Nat)} (h:OrdR X P E) (k:OrdR X P' E'):P=P'∧E=E':=by
 obtain ⟨F,h1,h2,h3,a,h4⟩:=h
 obtain ⟨F',k1,k2,k3,b,k4⟩:=k
 obtain rfl:=h1.det k1
 have:=h2.len
 have:=k2.len
 exact h2.det k2 (by omega)
def rl (f:α→β) (e:α×Nat):β×Nat:=(f e.1,e.2)
variable {f:α→β} (hf:f default=default)
include hf
theorem ziU (E:List (α×Nat)) (k:Nat):(E.map (rl f)).getD k default=rl f (E.getD k default):=by
 rw [List.getD_eq_getElem?_getD,List.getElem?_map,List.getD_eq_getElem?_getD]
 cases E[k]? with
 | none=>
  show ((default:β),(0:Nat))=(f (default:α),0)
  rw [hf]
 | some x=>rfl
theorem zaO (E:List (α×Nat)) (k:Nat):gk (E.map (rl f)) k=gk E k:=by unfold gk;rw [ziU hf];rfl
theorem zdj (E:List (α×Nat)) (i j:Nat):gs (E.map (rl f)) i j=(gs E i j).map (rl f):=by
 unfold gs;rw [ziU hf,ziU hf,←List.map_set,←List.map_set]
theorem zbX (m:Nat) (E:List (α×Nat)) (i:Nat):zaM m (E.map (rl f)) i=zaM m E i:=by unfold zaM;rw [zaO hf,zaO hf]
theorem UpR.map {E R:List (α×Nat)} {j:Nat} (h:UpR E j R):UpR (E.map (rl f)) j (R.map (rl f)):=by
 induction h with
 | stop h=>exact .stop (by rw [zaO hf,zaO hf];exact h)
 | step h0 h hr ih=>exact .step h0 (by rw [zaO hf,zaO hf];exact h) (by rw [zdj hf];exact ih)
theorem DnR.map {m:Nat} {E R:List (α×Nat)} {i:Nat} (h:DnR m E i R):DnR m (E.map (rl f)) i (R.map (rl f)):=by
 induction h with
 | stop h=>exact .stop (by rw [zbX hf,zaO hf,zaO hf];exact h)
 | step h0 h hr ih=>exact .step h0 (by rw [zbX hf,zaO hf,zaO hf];exact h) (by rw [zbX hf,zdj hf];exact ih)
theorem UpR.lift {E:List (α×Nat)} {Y R:List (β×Nat)} {j:Nat} (h:UpR Y j R):Y=E.map (rl f)→∃R',UpR E j R'∧R=R'.map (rl f):=by
 induction h generalizing E with
 | stop h=>
  rintro rfl
  exact ⟨E,.stop (by rw [zaO hf,zaO hf] at h;exact h),rfl⟩
 | step h0 h hr ih=>
  rintro rfl
  obtain ⟨R',r1,r2⟩:=ih (zdj hf _ _ _)
  exact ⟨R',.step h0 (by rw [zaO hf,zaO hf] at h;exact h) r1,r2⟩
theorem DnR.lift {m:Nat} {E:List (α×Nat)} {Y R:List (β×Nat)} {i:Nat} (h:DnR m Y i R):Y=E.map (rl f)→∃R',DnR m E i R'∧R=R'.map (rl f):=by
 induction h generalizing E with
 | stop h=>
  rintro rfl
  exact ⟨E,.stop (by rw [zbX hf,zaO hf,zaO hf] at h;exact h),rfl⟩
 | step h0 h hr ih=>
  rintro rfl
  rw [zbX hf] at hr ih
  obtain ⟨R',r1,r2⟩:=ih (zdj hf _ _ _)
  exact ⟨R',.step h0 (by rw [zbX hf,zaO hf,zaO hf] at h;exact h) r1,r2⟩
theorem PopR.map {F G:List (α×Nat)} {x:α×Nat} (h:PopR F x G):PopR (F.map (rl f)) (rl f x) (G.map (rl f)):=by
 obtain ⟨h1,D,h2,rfl⟩:=h
 refine ⟨by rw [List.getElem?_map,h1];rfl,D.map (rl f),?_,?_⟩
 ·rw [List.length_map,zdj hf];exact h2.map hf
 ·rw [List.length_map,List.map_take]
theorem PopR.lift {F:List (α×Nat)} {G:List (β×Nat)} {y:β×Nat} (h:PopR (F.map (rl f)) y G):∃x G',PopR F x G'∧y=rl f x∧G=G'.map (rl f):=by
 obtain ⟨h1,D,h2,rfl⟩:=h
 rw [List.length_map] at h2 ⊢
 obtain ⟨D',d1,rfl⟩:=h2.lift hf (zdj hf _ _ _)
 rw [List.getElem?_map] at h1
 cases hx:F[0]? with
 | none=>rw [hx] at h1;cases h1
 | some x=>
  rw [hx] at h1
  injection h1 with h1
  exact ⟨x,_,⟨hx,D',d1,rfl⟩,h1.symm,(List.map_take ..).symm⟩
theorem PutR.map {F l G:List (α×Nat)} (h:PutR F l G):PutR (F.map (rl f)) (l.map (rl f)) (G.map (rl f)):=by
 induction h with
 | nil=>exact .nil
 | cons h hr ih=>
  refine .cons ?_ ih
  have:=UpR.map hf h
  rw [List.map_append] at this
  unfold PushR
  rw [List.length_map];exact this
theorem PutR.lift {F:List (α×Nat)} {l:List (α×Nat)} {Y Z G:List (β×Nat)} (h:PutR Y Z G):Y=F.map (rl f)→Z=l.map (rl f)→∃G',PutR F l G'∧G=G'.map (rl f):=by
 induction h generalizing F l with
 | nil=>
  rintro rfl e
  cases l with
  | nil=>exact ⟨F,.nil,rfl⟩
  | cons=>cases e
 | cons h hr ih=>
  rintro rfl e
  cases l with
  | nil=>cases e
  | cons x l=>
   injection e with e1 e2
   subst e1
   obtain ⟨G',g1,rfl⟩:=UpR.lift (E:=F++[x]) hf h (by rw [List.map_append];rfl)
   rw [List.length_map] at g1
   obtain ⟨H',h1,h2⟩:=ih rfl e2
   exact ⟨H',.cons g1 h1,h2⟩
theorem TakeR.map {F P E:List (α×Nat)} (h:TakeR F P E):TakeR (F.map (rl f)) (P.map (rl f)) (E.map (rl f)):=by
 induction h with
 | nil=>exact .nil
 | cons h0 h hr ih=>exact .cons (by rw [List.length_map];exact h0) (h.map hf) ih
theorem TakeR.lift {F:List (α×Nat)} {Y P E:List (β×Nat)} (h:TakeR Y P E):Y=F.map (rl f)→∃P' E',TakeR F P' E'∧P=P'.map (rl f)∧E=E'.map (rl f):=by
 induction h generalizing F with
 | nil=>rintro rfl;exact ⟨[],F,.nil,rfl,rfl⟩
 | cons h0 h hr ih=>
  rintro rfl
  obtain ⟨x,G',g1,rfl,rfl⟩:=h.lift hf
  obtain ⟨P',E',p1,rfl,rfl⟩:=ih rfl
  exact ⟨x::P',E',.cons (by rw [List.length_map] at h0;exact h0) g1 p1,rfl,rfl⟩
theorem OrdR.map {X P E:List (α×Nat)} (h:OrdR X P E):OrdR (X.map (rl f)) (P.map (rl f)) (E.map (rl f)):=by
 obtain ⟨F,h1,h2,h3,k,h4⟩:=h
 exact ⟨F.map (rl f),h1.map hf,h2.map hf,by rw [List.length_map];exact h3,k,by rw [List.length_map];exact h4⟩
theorem OrdR.lift {X:List (α×Nat)} {P E:List (β×Nat)} (h:OrdR (X.map (rl f)) P E):∃P' E',OrdR X P' E'∧P=P'.map (rl f)∧E=E'.map (rl f):=by
 obtain ⟨F,h1,h2,h3,k,h4⟩:=h
 obtain ⟨F',f1,rfl⟩:=h1.lift (F:=[]) hf rfl rfl
 obtain ⟨P',E',p1,rfl,rfl⟩:=h2.lift hf rfl
 rw [List.length_map] at h3 h4
 exact ⟨P',E',⟨F',f1,p1,h3,k,h4⟩,rfl,rfl⟩
end
end
section
open Go.RowKit
set_option maxRecDepth 100000 in
set_option maxHeartbeats 1000000 in
theorem zrt (base B:Nat) (sv:Value) (E:List (Nat×Nat)) (j:Nat) (w:World) (h:Qu w base B sv E) (hj:j<E.length) (hlen:E.length≤65536):
  Calls Tryz.prog 226 #[.iface 300 (.pointer (some ⟨B,0,none⟩)),.int .i64 (j:Int)] w fun e w'=>e= .returned (.tuple #[])∧∃E',UpR E j E'∧Qu w' base B sv E'∧Turns (fun b=>sv.ownBlock=some b) w w':=by
 obtain ⟨n,hn⟩:∃n,E.length=n:=⟨_,rfl⟩
 rw [hn] at hlen hj
 have H:=Lib.hid h
 have Hn:=Lib.hid hn
 clear h hn
 go_enter Tryz.func226,Tryz.ntmps226
 go_wp2
 go_loopw [1] (fun jv wr=> ∃(k:Nat) (F:List (Nat×Nat)),jv= .int .i64 (k:Int)∧k<n∧Hid (F.length=n∧∀R,UpR F k R→UpR E j R)∧Hid (Qu wr base B sv F)∧Hid (Turns (fun b=>sv.ownBlock=some b) w wr)) (fun jv _=>(intOf jv).toNat)
 case atStart=>exact ⟨j,E,rfl,hj,Lib.hid ⟨Hn.out,fun R h=>h⟩,H,Lib.hid (Turns.refl _ _)⟩
 case round=>
  obtain ⟨k,F,rfl,hk,HF,HQ,HT⟩:=hrel
  have c0:=HQ.out.c0
  have m1:=fun q=>zbM q ⟨B,0,none⟩ sv wr c0
  by_cases h0:k=0
  ·subst h0
   go_wp2
   go_end0
   obtain ⟨h1,h2⟩:=HF.out
   exact ⟨rfl,F,h2 F (.stop (.inl rfl)),HQ.out,HT.out⟩
  ·obtain ⟨i,hi⟩:∃i,(k - 1)/2=i:=⟨_,rfl⟩
   have hik:i<k:=by omega
   have hi1:((k:Int) - 1).tdiv 2=(i:Int):=by
    rw [show ((k:Int) - 1)=((k - 1:Nat):Int) by omega]
    rw [←hi];rfl
   have e1:((i:Int)==(k:Int))=false:=by simp;omega
   have hF:=HF.out.1
   have Hi:=Lib.hid hi
   clear hi
   go_wp2_with fail
   refine Calls.mono (zcm base B sv F k i wr HQ.out (by omega) (by omega)) ?_
   rintro e w1 ⟨rfl,hb1⟩
   have HQ1:=Lib.hid (HQ.out.below hb1)
   have HT1:=Lib.hid (HT.out.trans (Turns.of_below' (T:=fun b=>sv.ownBlock=some b) hb1))
   have c1:=HQ1.out.c0
   have m2:=fun q=>zbK q ⟨B,0,none⟩ sv w1 c1
   clear hb1 m1 c0
   obtain ⟨lt,hlt⟩:∃lt,decide (F[k].2<F[i].2)=lt:=⟨_,rfl⟩
   rw [hlt]
   have Hlt:=Lib.hid hlt
   clear hlt
   cases lt with
   | false=>
    go_wp2
    go_end0
    obtain ⟨h1,h2⟩:=HF.out
    refine ⟨rfl,F,h2 F (.stop (.inr ?_)),HQ1.out,HT1.out⟩
    have:=of_decide_eq_false Hlt.out
    show ¬kk F k<kk F ((k - 1)/2)
    rw [Hi.out,zaN (by omega),zaN (by omega)]
    exact this
   | true=>
    go_wp2_with fail
    refine Calls.mono (zcp base B sv F i k w1 HQ1.out (by omega) (by omega) (by omega)) ?_
    rintro e w2 ⟨rfl,hq2,ht2⟩
    have HQ2:Hid (Qu w2 base B sv (swp F i k)):=Lib.hid (by rw [zcG (by omega) (by omega)];exact hq2)
    have HT2:=Lib.hid (HT1.out.trans ht2)
    have HF2:Hid ((swp F i k).length=n∧∀R,UpR (swp F i k) i R→UpR E j R):=Lib.hid (by
     obtain ⟨h1,h2⟩:=HF.out
     refine ⟨(zcb F i k).trans h1,fun R hR=>h2 R (.step (by omega) ?_ ?_)⟩
     ·have:=of_decide_eq_true Hlt.out
      show kk F k<kk F ((k - 1)/2)
      rw [Hi.out,zaN (by omega),zaN (by omega)]
      exact this
     ·rw [Hi.out];exact hR)
    clear hq2 ht2
    go_wp2
    go_roundw
    case rel=>exact ⟨i,swp F i k,rfl,by omega,HF2,HQ2,HT2⟩
    case measure=>simp [intOf];omega
set_option maxRecDepth 100000 in
set_option maxHeartbeats 2000000 in
theorem zoO (base B:Nat) (sv:Value) (E:List (Nat×Nat)) (m:Nat) (w:World) (h:Qu w base B sv E) (hm:m<E.length) (hlen:E.length≤65536):
  Calls Tryz.prog 227 #[.iface 300 (.pointer (some ⟨B,0,none⟩)),.int .i64 0,.int .i64 (m:Int)] w fun e w'=>(∃v,e= .returned v)∧∃E',DnR m E 0 E'∧(∀k,m≤k→E'[k]? =E[k]?)∧Qu w' base B sv E'∧Turns (fun b=>sv.ownBlock=some b) w w':=by
 have H:=Lib.hid h
 clear h
 go_enter Tryz.func227,Tryz.ntmps227
 go_wp2
 go_loopw [7] (fun iv wr=> ∃(i:Nat) (F:List (Nat×Nat)),iv= .int .i64 (i:Int)∧i≤m∧Hid (F.length=E.length∧(∀R,DnR m F i R→DnR m E 0 R)∧∀k,m≤k→F[k]? =E[k]?)∧Hid (Qu wr base B sv F)∧Hid (Turns (fun b=>sv.ownBlock=some b) w wr)) (fun iv _=>m - (intOf iv).toNat)
 case atStart=>exact ⟨0,E,rfl,Nat.zero_le _,Lib.hid ⟨rfl,fun _ h=>h,fun _ _=>rfl⟩,H,Lib.hid (Turns.refl _ _)⟩
 case round=>
  obtain ⟨i,F,rfl,hi,HF,HQ,HT⟩:=hrel
  have hF:=HF.out.1
  obtain ⟨c,hc⟩:∃c,2*i+1=c:=⟨_,rfl⟩
  have hca:2*(i:Int)+1=(c:Int):=by omega
  have hn0:¬((c:Int)<0):=by omega
  by_cases h1:c<m
  ·have d1:¬((m:Int)≤(c:Int)):=by omega
   by_cases h2:c+1<m
   ·obtain ⟨d,hd⟩:∃d,c+1=d:=⟨_,rfl⟩
    have hcd:(c:Int)+1=(d:Int):=by omega
    have d2:(d:Int)<(m:Int):=by omega
    have c0:=HQ.out.c0
    have m1:=fun q=>zbM q ⟨B,0,none⟩ sv wr c0
    go_wp2_with fail
    refine Calls.mono (zcm base B sv F d c wr HQ.out (by omega) (by omega)) ?_
    rintro e w3 ⟨rfl,hb3⟩
    have HQ3:=Lib.hid (HQ.out.below hb3)
    have HT3:=Lib.hid (HT.out.trans (Turns.of_below' (T:=fun b=>sv.ownBlock=some b) hb3))
    clear hb3 m1 c0
    obtain ⟨lc,hlc⟩:∃lc,decide (F[d].2<F[c].2)=lc:=⟨_,rfl⟩
    rw [hlc]
    have Hlc:=Lib.hid hlc
    clear hlc
    cases lc with
    | true=>
     obtain ⟨j,hj⟩:∃j,d=j:=⟨_,rfl⟩
     have Hmin:Hid (zaM m F i=j):=Lib.hid (by
      have h3:=of_decide_eq_true Hlc.out
      unfold zaM
      rw [show 2*i+2=d by omega,show 2*i+1=c by omega,if_pos ⟨by omega,by show kk F d<kk F c;rw [zaN (by omega),zaN (by omega)];exact h3⟩]
      exact hj)
     subst hj
     have cj:=HQ3.out.c0
     have mj:=fun q=>zbM q ⟨B,0,none⟩ sv w3 cj
     go_wp2_with fail
     refine Calls.mono (zcm base B sv F d i w3 HQ3.out (by omega) (by omega)) ?_
     rintro e w4 ⟨rfl,hb4⟩
     have HQ4:=Lib.hid (HQ3.out.below hb4)
     have HT4:=Lib.hid (HT3.out.trans (Turns.of_below' (T:=fun b=>sv.ownBlock=some b) hb4))
     have c4:=HQ4.out.c0
     have m4:=fun q=>zbK q ⟨B,0,none⟩ sv w4 c4
     clear hb4 mj cj
     obtain ⟨lt,hlt⟩:∃lt,decide (F[d].2<F[i].2)=lt:=⟨_,rfl⟩
     rw [hlt]
     have Hlt:=Lib.hid hlt
     clear hlt
     cases lt with
     | false=>
      go_wp2
      go_ret
      obtain ⟨h1,h2,h4⟩:=HF.out
      refine ⟨⟨_,rfl⟩,F,h2 F (.stop (.inr ?_)),h4,HQ4.out,HT4.out⟩
      rw [Hmin.out]
      have:=of_decide_eq_false Hlt.out
      show ¬kk F _<kk F _
      rw [zaN (by omega),zaN (by omega)]
      exact this
     | true=>
      go_wp2_with fail
      refine Calls.mono (zcp base B sv F i d w4 HQ4.out (by omega) (by omega) (by omega)) ?_
      rintro e w5 ⟨rfl,hq5,ht5⟩
      have HQ5:Hid (Qu w5 base B sv (swp F i d)):=Lib.hid (by rw [zcG (by omega) (by omega)];exact hq5)
      have HT5:=Lib.hid (HT4.out.trans ht5)
      have HF5:Hid ((swp F i d).length=E.length∧(∀R,DnR m (swp F i d) d R→DnR m E 0 R)∧∀k,m≤k→(swp F i d)[k]? =E[k]?):=Lib.hid (by
       obtain ⟨h1,h2,h4⟩:=HF.out
       refine ⟨(zcb F i d).trans h1,fun R hR=>h2 R (.step (by omega) ?_ ?_),fun k hk=>?_⟩
       ·rw [Hmin.out]
        have:=of_decide_eq_true Hlt.out
        show kk F _<kk F _
        rw [zaN (by omega),zaN (by omega)]
        exact this
       ·rw [Hmin.out];exact hR
       unfold swp
       rw [List.getElem?_set_ne (by omega),List.getElem?_set_ne (by omega)]
       exact h4 k hk)
      clear hq5 ht5
      go_wp2
      go_roundw
      case rel=>exact ⟨d,swp F i d,by go_num,by omega,HF5,HQ5,HT5⟩
      case measure=>simp [intOf];omega
    | false=>
     obtain ⟨j,hj⟩:∃j,c=j:=⟨_,rfl⟩
     have Hmin:Hid (zaM m F i=j):=Lib.hid (by
      have h3:=of_decide_eq_false Hlc.out
      unfold zaM
      rw [show 2*i+2=d by omega,show 2*i+1=c by omega,if_neg (fun h=>h3 (by have:=h.2;rw [show gk F d=kk F d from rfl,show gk F c=kk F c from rfl,zaN (by omega),zaN (by omega)] at this;exact this))]
      exact hj)
     subst hj
     have cj:=HQ3.out.c0
     have mj:=fun q=>zbM q ⟨B,0,none⟩ sv w3 cj
     go_wp2_with fail
     refine Calls.mono (zcm base B sv F c i w3 HQ3.out (by omega) (by omega)) ?_
     rintro e w4 ⟨rfl,hb4⟩
     have HQ4:=Lib.hid (HQ3.out.below hb4)
     have HT4:=Lib.hid (HT3.out.trans (Turns.of_below' (T:=fun b=>sv.ownBlock=some b) hb4))
     have c4:=HQ4.out.c0
     have m4:=fun q=>zbK q ⟨B,0,none⟩ sv w4 c4
     clear hb4 mj cj
     obtain ⟨lt,hlt⟩:∃lt,decide (F[c].2<F[i].2)=lt:=⟨_,rfl⟩
     rw [hlt]
     have Hlt:=Lib.hid hlt
     clear hlt
     cases lt with
     | false=>
      go_wp2
      go_ret
      obtain ⟨h1,h2,h4⟩:=HF.out
      refine ⟨⟨_,rfl⟩,F,h2 F (.stop (.inr ?_)),h4,HQ4.out,HT4.out⟩
      rw [Hmin.out]
      have:=of_decide_eq_false Hlt.out
      show ¬kk F _<kk F _
      rw [zaN (by omega),zaN (by omega)]
      exact this
     | true=>
      go_wp2_with fail
      refine Calls.mono (zcp base B sv F i c w4 HQ4.out (by omega) (by omega) (by omega)) ?_
      rintro e w5 ⟨rfl,hq5,ht5⟩
      have HQ5:Hid (Qu w5 base B sv (swp F i c)):=Lib.hid (by rw [zcG (by omega) (by omega)];exact hq5)
      have HT5:=Lib.hid (HT4.out.trans ht5)
      have HF5:Hid ((swp F i c).length=E.length∧(∀R,DnR m (swp F i c) c R→DnR m E 0 R)∧∀k,m≤k→(swp F i c)[k]? =E[k]?):=Lib.hid (by
       obtain ⟨h1,h2,h4⟩:=HF.out
       refine ⟨(zcb F i c).trans h1,fun R hR=>h2 R (.step (by omega) ?_ ?_),fun k hk=>?_⟩
       ·rw [Hmin.out]
        have:=of_decide_eq_true Hlt.out
        show kk F _<kk F _
        rw [zaN (by omega),zaN (by omega)]
        exact this
       ·rw [Hmin.out];exact hR
       unfold swp
       rw [List.getElem?_set_ne (by omega),List.getElem?_set_ne (by omega)]
       exact h4 k hk)
      clear hq5 ht5
      go_wp2
      go_roundw
      case rel=>exact ⟨c,swp F i c,by go_num,by omega,HF5,HQ5,HT5⟩
      case measure=>simp [intOf];omega
   ·have d2:¬((c:Int)+1<(m:Int)):=by omega
    have Hmin:Hid (zaM m F i=c):=Lib.hid (by
     unfold zaM
     rw [if_neg (fun h=>by have:=h.1;omega)]
     exact hc)
    have cj:=HQ.out.c0
    have mj:=fun q=>zbM q ⟨B,0,none⟩ sv wr cj
    go_wp2_with fail
    refine Calls.mono (zcm base B sv F c i wr HQ.out (by omega) (by omega)) ?_
    rintro e w4 ⟨rfl,hb4⟩
    have HQ4:=Lib.hid (HQ.out.below hb4)
    have HT4:=Lib.hid (HT.out.trans (Turns.of_below' (T:=fun b=>sv.ownBlock=some b) hb4))
    have c4:=HQ4.out.c0
    have m4:=fun q=>zbK q ⟨B,0,none⟩ sv w4 c4
    clear hb4 mj cj
    obtain ⟨lt,hlt⟩:∃lt,decide (F[c].2<F[i].2)=lt:=⟨_,rfl⟩
    rw [hlt]
    have Hlt:=Lib.hid hlt
    clear hlt
    cases lt with
    | false=>
     go_wp2
     go_ret
     obtain ⟨h1,h2,h4⟩:=HF.out
     refine ⟨⟨_,rfl⟩,F,h2 F (.stop (.inr ?_)),h4,HQ4.out,HT4.out⟩
     rw [Hmin.out]
     have:=of_decide_eq_false Hlt.out
     show ¬kk F _<kk F _
     rw [zaN (by omega),zaN (by omega)]
     exact this
    | true=>
     go_wp2_with fail
     refine Calls.mono (zcp base B sv F i c w4 HQ4.out (by omega) (by omega) (by omega)) ?_
     rintro e w5 ⟨rfl,hq5,ht5⟩
     have HQ5:Hid (Qu w5 base B sv (swp F i c)):=Lib.hid (by rw [zcG (by omega) (by omega)];exact hq5)
     have HT5:=Lib.hid (HT4.out.trans ht5)
     have HF5:Hid ((swp F i c).length=E.length∧(∀R,DnR m (swp F i c) c R→DnR m E 0 R)∧∀k,m≤k→(swp F i c)[k]? =E[k]?):=Lib.hid (by
      obtain ⟨h1,h2,h4⟩:=HF.out
      refine ⟨(zcb F i c).trans h1,fun R hR=>h2 R (.step (by omega) ?_ ?_),fun k hk=>?_⟩
      ·rw [Hmin.out]
       have:=of_decide_eq_true Hlt.out
       show kk F _<kk F _
       rw [zaN (by omega),zaN (by omega)]
       exact this
      ·rw [Hmin.out];exact hR
      unfold swp
      rw [List.getElem?_set_ne (by omega),List.getElem?_set_ne (by omega)]
      exact h4 k hk)
     clear hq5 ht5
     go_wp2
     go_roundw
     case rel=>exact ⟨c,swp F i c,by go_num,by omega,HF5,HQ5,HT5⟩
     case measure=>simp [intOf];omega
  ·have d1:((m:Int)≤(c:Int)):=by omega
   go_wp2
   go_ret
   obtain ⟨h1,h2,h4⟩:=HF.out
   exact ⟨⟨_,rfl⟩,F,h2 F (.stop (.inl (by omega))),h4,HQ.out,HT.out⟩
end
section
open Go.RowKit
def QuTd (base B:Nat) (sv:Value) (E:List (Nat×Nat)) (w w':World):Prop:=
 ∃sv',Qu w' base B sv' E∧Turns (fun b=>b=B∨sv.ownBlock=some b) w w'∧∀k,sv'.ownBlock=some k→sv.ownBlock=some k∨w.heap.size≤k
theorem QuTd.step {w w1 w2:World} {base B:Nat} {sv sv1:Value} {E:List (Nat×Nat)} (h2:Turns (fun b=>b=B∨sv.ownBlock=some b) w w1) (h3:∀k,sv1.ownBlock=some k→sv.ownBlock=some k∨w.heap.size≤k) (k:QuTd base B sv1 E w1 w2):QuTd base B sv E w w2:=by
 obtain ⟨sv2,k1,k2,k3⟩:=k
 refine ⟨sv2,k1,h2.trans' k2 (fun i hi h=>?_),fun q hq=>?_⟩
 ·rcases h with h | h
  ·exact .inl h
  ·rcases h3 i h with h | h
   ·exact .inr h
   ·omega
 ·rcases k3 q hq with h | h
  ·rcases h3 q h with h | h
   ·exact .inl h
   ·exact .inr h
  ·exact .inr (Nat.le_trans h2.size h)
set_option maxHeartbeats 1000000 in
theorem zl1 (base B:Nat) (sv:Value) (F:List (Nat×Nat)) (b c:Nat) (w:World) (h3:Qu w base B sv F) (hc:w.cell? ⟨b,0,none⟩=some (.int .i64 (c:Int))) (hbB:b≠B) (hbs:sv.ownBlock≠some b) (hlen:F.length<65536) (hbase:base≤w.heap.size):
  Calls Tryz.prog 224 #[.iface 300 (.pointer (some ⟨B,0,none⟩)),.iface 260 (ptrV b)] w fun e w'=>e= .returned (.tuple #[])∧∃G,PushR F (b,c) G∧QuTd base B sv G w w':=by
 obtain ⟨n,hn⟩:∃n,F.length=n:=⟨_,rfl⟩
 have hl:n<65536:=by rw [←hn];exact hlen
 have m0:=fun q w=>zjg q ⟨B,0,none⟩ w
 have H3:=Lib.hid h3
 have Hn:=Lib.hid hn
 clear h3 hn hlen
 go_enter Tryz.func224,Tryz.ntmps224
 go_wp2_with fail
 refine Calls.mono (zlG base B sv F b c w H3.out hc hbB hbs (by have:=Hn.out;omega) hbase) ?_
 rintro e w1 ⟨rfl,sv1,hq1,ht1,hs1⟩
 have HQ:=Lib.hid hq1
 have HT:=Lib.hid (And.intro ht1 hs1)
 have c1:=hq1.c0
 obtain ⟨p1,cp1,rfl⟩:=zac hq1.own
 have m1:=fun q=>zf4 q ⟨B,0,none⟩ _ w1 c1
 have hl1:(F++[(b,c)]).length=n+1:=by simp [Hn.out]
 rw [hl1] at m1 c1
 have Hl1:=Lib.hid hl1
 clear hq1 ht1 hs1 hl1
 go_wp2_with fail
 refine Calls.mono (zdO _ _ _ _) ?_
 rintro e w2 ⟨rfl,rfl⟩
 go_wp2_with fail
 refine Calls.mono (zrt base B _ (F++[(b,c)]) n w2 HQ.out (by have:=Hl1.out;omega) (by have:=Hl1.out;omega)) ?_
 rintro e w3 ⟨rfl,G,g1,g3,g4⟩
 have HG:=Lib.hid (And.intro g1 (And.intro g3 g4))
 clear g1 g3 g4
 go_wp2
 go_end0
 obtain ⟨g1,g3,g4⟩:=HG.out
 obtain ⟨ht,hs⟩:=HT.out
 refine ⟨rfl,G,by unfold PushR;rw [Hn.out];exact g1,QuTd.step ht hs ⟨_,g3,g4.mono (fun _ _ h=> .inr h),fun _ h=> .inl h⟩⟩
set_option maxHeartbeats 2000000 in
theorem zob (base B:Nat) (sv:Value) (F:List (Nat×Nat)) (w:World) (h3:Qu w base B sv F) (h0:0<F.length) (hlen:F.length≤65536):
  Calls Tryz.prog 225 #[.iface 300 (.pointer (some ⟨B,0,none⟩))] w fun e w'=> ∃x G,e= .returned (.iface 260 (ptrV x.1))∧PopR F x G∧QuTd base B sv G w w':=by
 obtain ⟨n,hn⟩:∃n,F.length=n+1:=⟨F.length - 1,by omega⟩
 have hl:n<65536:=by omega
 have c0:=h3.c0
 obtain ⟨p0,cp0,hp0⟩:=zac h3.own
 rw [hn] at hp0
 subst hp0
 have H3:=Lib.hid h3
 have Hn:=Lib.hid hn
 have hF0:0<F.length:=by omega
 have m0:=fun q=>zf4 q ⟨B,0,none⟩ _ w c0
 have ms:=fun q=>zbK q ⟨B,0,none⟩ _ w c0
 have mp:=fun q w=>zlz q ⟨B,0,none⟩ w
 clear h3 hn h0 hlen
 go_enter Tryz.func225,Tryz.ntmps225
 go_wp2_with fail
 refine Calls.mono (zdO _ _ _ _) ?_
 rintro e w1 ⟨rfl,rfl⟩
 go_wp2_with fail
 have hsw:Calls Tryz.prog 246 #[.slice p0 (n+1) cp0,.int .i64 0,.int .i64 (n:Int)] w1 fun e w'=>e= .returned (.tuple #[])∧Qu w' base B (.slice p0 (n+1) cp0) (swp F 0 n)∧Turns (fun b=>(Value.slice p0 (n+1) cp0).ownBlock=some b) w1 w':=by
  have hF:=Hn.out
  rcases Nat.eq_zero_or_pos n with hz | hz
  ·subst hz
   rw [zoR (by omega)]
   exact zk6 base B _ F 0 w1 H3.out (by omega)
  ·rw [zcG (by omega) (by omega)]
   exact zcp base B _ F 0 n w1 H3.out (by omega) (by omega) (by omega)
 refine Calls.mono hsw ?_
 rintro e w2 ⟨rfl,hq2,ht2⟩
 have HQ2:=Lib.hid hq2
 have HT2:=Lib.hid ht2
 clear hq2 ht2 hsw m0 ms c0
 go_wp2_with fail
 refine Calls.mono (zoO base B _ (swp F 0 n) n w2 HQ2.out (by rw [zcb,Hn.out];omega) (by rw [zcb,Hn.out];omega)) ?_
 rintro e w3 ⟨⟨v3,rfl⟩,D,d1,d3,hq3,ht3⟩
 have hDl:D.length=n+1:=by rw [d1.len,zcb,Hn.out]
 have hx:D=D.take n++[F[0]'hF0]:=by
  have e1:D[n]? =some (F[0]'hF0):=by
   rw [d3 n (Nat.le_refl _),zcG (by rw [Hn.out];omega) (by rw [Hn.out];omega),List.getElem?_set_self (by simp [Hn.out])]
  obtain ⟨hlt,e2⟩:=List.getElem?_eq_some_iff.1 e1
  rw [←e2]
  refine List.ext_getElem? (fun k=>?_)
  rcases Nat.lt_or_ge k n with hk | hk
  ·rw [List.getElem?_append_left (by simp;omega),List.getElem?_take_of_lt hk]
  ·rw [List.getElem?_append_right (by simp;omega)]
   rcases Nat.lt_or_ge n k with hk2 | hk2
   ·rw [List.getElem?_eq_none (by omega),List.getElem?_eq_none (by simp;omega)]
   ·obtain rfl:k=n:=by omega
    simp [hDl]
 have HD:=Lib.hid d1
 have Hx:=Lib.hid hx
 obtain ⟨x,hxx⟩:∃x,F[0]'hF0=x:=⟨_,rfl⟩
 rw [hxx] at hx
 have Hxx:=Lib.hid hxx
 have HQ3:=Lib.hid (show Qu w3 base B (.slice p0 (n+1) cp0) (D.take n++[(x.1,x.2)]) from hx ▸ hq3)
 have HT3:=Lib.hid (HT2.out.trans ht3)
 clear d1 d3 hq3 ht3 hDl hx hxx
 go_wp2_with fail
 refine Calls.mono (zn4 base B _ (D.take n) x.1 x.2 w3 HQ3.out (by simp;omega)) ?_
 rintro e w4 ⟨rfl,sv4,hq4,ht4,hs4⟩
 have HQ4:=Lib.hid (And.intro hq4 (And.intro ht4 hs4))
 clear hq4 ht4 hs4
 go_wp2
 go_ret
 obtain ⟨hq4,ht4,hs4⟩:=HQ4.out
 refine ⟨x,D.take n,rfl,⟨?_,D,?_,?_⟩,sv4,hq4,?_,?_⟩
 ·rw [List.getElem?_eq_getElem hF0,Hxx.out]
 ·rw [show F.length - 1=n by have:=Hn.out;omega];exact HD.out
 ·rw [show F.length - 1=n by have:=Hn.out;omega]
 ·exact (HT3.out.mono (T':=fun b=>b=B∨(Value.slice p0 (n+1) cp0).ownBlock=some b) (fun _ _ h=> .inr h)).trans ht4
 ·intro k hk
  rcases hs4 k hk with h | h
  ·exact .inl h
  ·exact .inr (Nat.le_trans HT3.out.size h)
set_option maxRecDepth 100000 in
set_option maxHeartbeats 2000000 in
theorem zjR (base B:Nat) (sv:Value) (E l:List (Nat×Nat)) (v:Value) (w:World) (h:Qu w base B sv E) (hv:Row zbG 1 w v (l.map Prod.fst)) (hvb:∀k,v.ownBlock=some k→k≠B∧sv.ownBlock≠some k)
  (hl:∀e∈l,e.1≠B∧sv.ownBlock≠some e.1∧w.cell? ⟨e.1,0,none⟩=some (.int .i64 (e.2:Int))) (hlen:E.length+l.length≤65536) (hbase:base≤w.heap.size):
  Calls Tryz.prog 219 #[.pointer (some ⟨B,0,none⟩),v] w fun e w'=>e= .returned (.tuple #[])∧∃G,PutR E l G∧QuTd base B sv G w w':=by
 obtain ⟨p,c,rfl,h1,h2,hrow⟩:=hv
 rw [List.length_map] at h1 hvb ⊢
 have H:=Lib.hid h
 have Hrow:=Lib.hid hrow
 have Hvb:=Lib.hid hvb
 have Hl:=Lib.hid hl
 clear h hrow hvb hl h2
 go_enter Tryz.func219,Tryz.ntmps219
 go_wp2
 go_loopw [8] (fun kv wr=> ∃(k:Nat),kv= .int .i64 (k:Int)∧k≤l.length∧Hid (∃G,PutR E (l.take k) G∧QuTd base B sv G w wr)) (fun kv _=>l.length - (intOf kv).toNat)
 case atStart=>exact ⟨0,rfl,Nat.zero_le _,Lib.hid ⟨E,by rw [List.take_zero];exact .nil,sv,H.out,Turns.refl _ _,fun _ h=> .inl h⟩⟩
 case round=>
  obtain ⟨k,rfl,hk,Hto⟩:=hrel
  by_cases hlt:k<l.length
  ·obtain ⟨g,off,rfl,hcell⟩:=Hrow.out.ptr (k:=k) (by simpa using hlt)
   obtain ⟨G1,hput,sv1,hp1,ht1,hs1⟩:=Hto.out
   have hG1:=hput.len
   have Hput:=Lib.hid hput
   clear hput
   rw [List.getElem_map] at hcell
   obtain ⟨hb1,hb2,hb3⟩:=Hl.out l[k] (List.getElem_mem hlt)
   obtain ⟨hg1,hg2⟩:=Hvb.out g rfl
   have hx:wr.cell? ⟨g,off+k,none⟩=some (ptrV l[k].1):=ht1.cell hcell (fun e=>by
    rcases e with e | e
    ·exact hg1 e
    ·exact hg2 e)
   have Hkey:Hid (wr.cell? ⟨l[k].1,0,none⟩=some (.int .i64 (l[k].2:Int))):=Lib.hid (ht1.cell hb3 (fun e=>by
    rcases e with e | e
    ·exact hb1 e
    ·exact hb2 e))
   have Hap:Hid (l[k].1≠B∧sv1.ownBlock≠some l[k].1):=Lib.hid ⟨hb1,fun e=>by
    have:=World.block_lt_of_cell? _ _ hb3
    simp only at this
    rcases hs1 _ e with h | h
    ·exact hb2 h
    ·omega⟩
   have Htk:Hid (l.take (k+1)=l.take k++[(l[k].1,l[k].2)]):=Lib.hid (by
    rw [List.take_succ_eq_append_getElem hlt])
   have hlk:(l.take k).length=k:=by rw [List.length_take];omega
   rw [hlk] at hG1
   have HG1:=Lib.hid hG1
   clear hG1
   have Hp1:=Lib.hid hp1
   have Ht1:=Lib.hid (And.intro ht1 hs1)
   obtain ⟨b,hb⟩:∃b,l[k].1=b:=⟨_,rfl⟩
   obtain ⟨c0,hc0⟩:∃c,l[k].2=c:=⟨_,rfl⟩
   rw [hb] at hx Hkey Hap Htk
   rw [hc0] at Hkey Htk
   unfold ptrV at hx
   have Hlk:=Lib.hid hlk
   have k0:(0:Int)≤(k:Int):=by omega
   have k1:(k:Int)<(l.length:Int):=by omega
   have hbw:=Nat.le_trans hbase ht1.size
   clear hcell hb1 hb2 hb3 hg1 hg2 hp1 ht1 hs1 hlk hb hc0
   go_wp2_with fail
   refine Calls.mono (zl1 base B sv1 G1 b c0 wr Hp1.out Hkey.out Hap.out.1 Hap.out.2 (by rw [HG1.out];omega) hbw) ?_
   rintro e w1 ⟨rfl,G2,hg2,hto1⟩
   have Hto1:Hid (∃G,PutR E (l.take (k+1)) G∧QuTd base B sv G w w1):=Lib.hid ⟨G2,by
    rw [Htk.out]
    exact Hput.out.append (.cons hg2 .nil),QuTd.step Ht1.out.1 Ht1.out.2 hto1⟩
   clear hto1 hg2
   go_wp2
   go_roundw
   case rel=>exact ⟨k+1,by go_num,by omega,Hto1⟩
   case measure=>simp [intOf];omega
  ·obtain rfl:k=l.length:=by omega
   go_wp2
   go_end0
   refine ⟨rfl,?_⟩
   have:=Hto.out
   rw [List.take_length] at this
   exact this
theorem zhJ (base B:Nat) (sv:Value) (E:List (Nat×Nat)) (w:World) (h:Qu w base B sv E) (h0:0<E.length) (hlen:E.length≤65536):
  Calls Tryz.prog 221 #[.pointer (some ⟨B,0,none⟩)] w fun e w'=> ∃x E',e= .returned (ptrV x.1)∧PopR E x E'∧QuTd base B sv E' w w':=by
 have H:=Lib.hid h
 clear h
 have hta:=zdS
 go_enter Tryz.func221,Tryz.ntmps221
 go_wp2_with fail
 refine Calls.mono (zob base B sv E w H.out h0 hlen) ?_
 rintro e w1 ⟨x,E',rfl,h1,h3⟩
 have H1:=Lib.hid (And.intro h1 h3)
 clear h1 h3
 go_wp2
 go_ret
 exact ⟨x,E',rfl,H1.out⟩
end
end Go.Proofs.YtedakhgaghfogaaGreat
