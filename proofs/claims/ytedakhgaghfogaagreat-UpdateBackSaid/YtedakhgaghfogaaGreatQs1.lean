/- Several texts in one, each with its own head. -/
import Derived.WalkKit
namespace Go.Proofs.YtedakhgaghfogaaGreat
section
def upP (wd tx ty:Nat) (R:Nat→Nat→Bool) (f:Nat→Nat→Nat) (L:List Nat):List Nat:=
 (List.range L.length).map fun i=>if tx≤i%wd∧ty≤i/wd∧R (i%wd - tx) (i/wd - ty)=true then f (i%wd - tx) (i/wd - ty) else L.getD i 0
def upL (wd tx ty aw ah:Nat) (f:Nat→Nat→Nat) (L:List Nat):List Nat:=upP wd tx ty (fun x y=>decide (x<aw∧y<ah)) f L
theorem zbU (wd tx ty:Nat) (R:Nat→Nat→Bool) (f:Nat→Nat→Nat) (L:List Nat):(upP wd tx ty R f L).length=L.length:=by simp [upP]
theorem zjJ (wd tx ty aw ah:Nat) (f:Nat→Nat→Nat) (L:List Nat):(upL wd tx ty aw ah f L).length=L.length:=zbU ..
theorem zc9 (wd tx ty:Nat) (R:Nat→Nat→Bool) (f:Nat→Nat→Nat) {L:List Nat} {i:Nat} (h:i<L.length):
  (upP wd tx ty R f L).getD i 0=if tx≤i%wd∧ty≤i/wd∧R (i%wd - tx) (i/wd - ty)=true then f (i%wd - tx) (i/wd - ty) else L.getD i 0:=by
 rw [List.getD_eq_getElem?_getD,upP,List.getElem?_map,List.getElem?_range h]
 rfl
theorem zhh {a b:List Nat} (hl:a.length=b.length) (h:∀i,i<a.length→a.getD i 0=b.getD i 0):a=b:=by
 refine List.ext_getElem hl fun i h1 h2=>?_
 have:=h i h1
 rw [List.getD_eq_getElem?_getD,List.getD_eq_getElem?_getD,List.getElem?_eq_getElem h1,List.getElem?_eq_getElem h2] at this
 exact this
theorem zoj (wd tx ty:Nat) (f:Nat→Nat→Nat) (L:List Nat):upP wd tx ty (fun _ _=>false) f L=L:=by
 refine zhh (zbU ..) fun i hi=>?_
 rw [zbU] at hi
 rw [zc9 _ _ _ _ _ hi,if_neg (fun h=>by cases h.2.2)]
theorem zj4 {wd i q r:Nat} (h:i=q*wd+r) (hr:r<wd):i%wd=r∧i/wd=q:=by
 subst h
 exact ⟨by rw [Nat.mul_comm,Nat.mul_add_mod,Nat.mod_eq_of_lt hr],by rw [Nat.mul_comm,Nat.mul_add_div (by omega),Nat.div_eq_of_lt hr,Nat.add_zero]⟩
theorem zpt (wd i:Nat):i=i/wd*wd+i%wd:=by
 have:=Nat.div_add_mod i wd
 rw [Nat.mul_comm] at this
 exact this.symm
theorem zjB {M cs:List Nat} {o i:Nat} (h:o+cs.length≤M.length):(M.take o++cs++M.drop (o+cs.length)).getD i 0=if o≤i∧i<o+cs.length then cs.getD (i - o) 0 else M.getD i 0:=by
 simp only [List.getD_eq_getElem?_getD]
 by_cases h1:i<o
 ·rw [if_neg (by omega),List.append_assoc,List.getElem?_append_left (by rw [List.length_take];omega),List.getElem?_take,if_pos h1]
 ·by_cases h2:i<o+cs.length
  ·rw [if_pos ⟨by omega,h2⟩,List.getElem?_append_left (by rw [List.length_append,List.length_take];omega),List.getElem?_append_right (by rw [List.length_take];omega),List.length_take,Nat.min_eq_left (by omega)]
  ·rw [if_neg (by omega),List.getElem?_append_right (by rw [List.length_append,List.length_take];omega),List.getElem?_drop,List.length_append,List.length_take,Nat.min_eq_left (by omega)]
   congr 2
   omega
theorem zeX {M cs:List Nat} {o:Nat} (h:o+cs.length≤M.length):(M.take o++cs++M.drop (o+cs.length)).length=M.length:=by
 rw [List.length_append,List.length_append,List.length_take,List.length_drop];omega
theorem zqh {wd tx ty aw j:Nat} {R:Nat→Nat→Bool} {f:Nat→Nat→Nat} {L cs:List Nat} (hw:tx+aw≤wd) (ho:(ty+j)*wd+tx+aw≤L.length) (hc:cs.length=aw) (hf:∀x,x<aw→cs.getD x 0=f x j):
  (upP wd tx ty R f L).take ((ty+j)*wd+tx)++cs++(upP wd tx ty R f L).drop ((ty+j)*wd+tx+cs.length)=upP wd tx ty (fun x y=>R x y || (decide (x<aw) && decide (y=j))) f L:=by
 have hl:(ty+j)*wd+tx+cs.length≤(upP wd tx ty R f L).length:=by rw [zbU,hc];exact ho
 refine zhh (by rw [zeX hl,zbU,zbU]) fun i hi=>?_
 rw [zeX hl,zbU] at hi
 rw [zjB hl,zc9 _ _ _ _ _ hi,zc9 _ _ _ _ _ hi,hc]
 by_cases h1:(ty+j)*wd+tx≤i∧i<(ty+j)*wd+tx+aw
 ·obtain ⟨e1,e2⟩:=zj4 (wd:=wd) (i:=i) (q:=ty+j) (r:=i - (ty+j)*wd) (by omega) (by omega)
  rw [if_pos h1,e1,e2,if_pos ⟨by omega,by omega,by simp;right;omega⟩,hf _ (by omega),show i - (ty+j)*wd - tx=i - ((ty+j)*wd+tx) by omega,show ty+j - ty=j by omega]
 ·rw [if_neg h1]
  have hne:tx≤i%wd→ty≤i/wd→¬(i%wd - tx<aw∧i/wd - ty=j):=fun a b ⟨c,d⟩=>h1 (by
   have h2:=zpt wd i
   rw [show i/wd=ty+j by omega] at h2
   omega)
  by_cases hr:tx≤i%wd∧ty≤i/wd
  ·have:=hne hr.1 hr.2
   have hq:(R (i%wd - tx) (i/wd - ty) || (decide (i%wd - tx<aw) && decide (i/wd - ty=j)))=R (i%wd - tx) (i/wd - ty):=by
    have hz:(decide (i%wd - tx<aw) && decide (i/wd - ty=j))=false:=by
     rw [Bool.and_eq_false_iff]
     by_cases hx:i%wd - tx<aw
     ·right;exact decide_eq_false fun h=>this ⟨hx,h⟩
     ·left;exact decide_eq_false hx
    rw [hz,Bool.or_false]
   simp only [hq]
  ·rw [if_neg (fun h=>hr ⟨h.1,h.2.1⟩),if_neg (fun h=>hr ⟨h.1,h.2.1⟩)]
def upRw (L:List Nat) (o aw:Nat):List Nat:=(List.range aw).map fun x=>L.getD (o+x) 0
theorem zcK (L:List Nat) (o aw:Nat):(upRw L o aw).length=aw:=by simp [upRw]
theorem zdz (L:List Nat) (o:Nat) {aw x:Nat} (h:x<aw):(upRw L o aw).getD x 0=L.getD (o+x) 0:=by
 rw [List.getD_eq_getElem?_getD,upRw,List.getElem?_map,List.getElem?_range h]
 rfl
def upC (wd tx ty aw n:Nat) (L:List Nat):List Nat:=(List.range n).flatMap fun y=>upRw L ((ty+y)*wd+tx) aw
theorem zfr (wd tx ty aw n:Nat) (L:List Nat):upC wd tx ty aw (n+1) L=upC wd tx ty aw n L++upRw L ((ty+n)*wd+tx) aw:=by
 simp [upC,List.range_succ]
theorem zcc (wd tx ty aw:Nat) (L:List Nat):∀n,(upC wd tx ty aw n L).length=n*aw
 | 0=>by simp [upC]
 | n+1=>by rw [zfr,List.length_append,zcc wd tx ty aw L n,zcK,Nat.add_mul,Nat.one_mul]
def up2 (v:Int):List Nat:=[(v/256%256).toNat,(v%256).toNat]
def up4 (v:Int):List Nat:=[(v/16777216%256).toNat,(v/65536%256).toNat,(v/256%256).toNat,(v%256).toNat]
def upS (v:Nat):Int:=if v<32768 then (v:Int) else (v:Int) - 65536
def upIs (wd ht x y a c:Int):Prop:=0≤x∧0≤y∧1≤a∧1≤c∧x+a≤wd∧y+c≤ht
instance (wd ht x y a c:Int):Decidable (upIs wd ht x y a c):=by unfold upIs;infer_instance
def upMv (wd tx ty aw ah fx fy:Nat) (L:List Nat):List Nat:=upL wd tx ty aw ah (fun x y=>L.getD ((fy+y)*wd+fx+x) 0) L
def upLy (wd tx ty aw ah:Nat) (S L:List Nat):List Nat:=upL wd tx ty aw ah (fun x y=>S.getD (y*aw+x) 0) L
theorem zoS (wd tx ty aw ah fx fy:Nat) (L:List Nat):(upMv wd tx ty aw ah fx fy L).length=L.length:=zjJ ..
theorem zhV (wd tx ty aw ah:Nat) (S L:List Nat):(upLy wd tx ty aw ah S L).length=L.length:=zjJ ..
theorem zaE {L:List Nat} {N:Nat} (hN:0<N) (hL:∀x∈L,x<N) (i:Nat):L.getD i 0<N:=by
 rw [List.getD_eq_getElem?_getD]
 cases h:L[i]? with
 | none=>exact hN
 | some x=>exact hL x (List.mem_of_getElem? h)
end
section
def upM (wd tx ty aw:Nat) (S:Nat→Bool) (f:Nat→Nat→Nat) (L:List Nat):List Nat:=upP wd tx ty (fun x y=>decide (x<aw) && S y) f L
theorem zgf (wd tx ty aw:Nat) (S:Nat→Bool) (f:Nat→Nat→Nat) (L:List Nat):(upM wd tx ty aw S f L).length=L.length:=zbU ..
theorem ziQ (wd tx ty aw:Nat) (f:Nat→Nat→Nat) (L:List Nat):upM wd tx ty aw (fun _=>false) f L=L:=by
 unfold upM
 simp only [Bool.and_false]
 exact zoj ..
theorem zj2 (wd tx ty aw ah:Nat) (f:Nat→Nat→Nat) (L:List Nat):upM wd tx ty aw (fun y=>decide (y<ah)) f L=upL wd tx ty aw ah f L:=by
 unfold upM upL
 simp only [Bool.decide_and]
theorem zd3 {wd tx ty aw:Nat} {S S':Nat→Bool} {f:Nat→Nat→Nat} {L:List Nat} (h:∀y,S y=S' y):upM wd tx ty aw S f L=upM wd tx ty aw S' f L:=by
 rw [show S=S' from funext h]
theorem zj6 {wd tx ty aw j:Nat} {S S':Nat→Bool} {f:Nat→Nat→Nat} {L cs:List Nat} (hw:tx+aw≤wd) (ho:(ty+j)*wd+tx+aw≤L.length) (hc:cs.length=aw) (hf:∀x,x<aw→cs.getD x 0=f x j) (hS:∀y,S' y=(S y || decide (y=j))):
  (upM wd tx ty aw S f L).take ((ty+j)*wd+tx)++cs++(upM wd tx ty aw S f L).drop ((ty+j)*wd+tx+cs.length)=upM wd tx ty aw S' f L:=by
 unfold upM
 rw [zqh hw ho hc hf]
 congr 1
 funext x y
 rw [hS,Bool.and_or_distrib_left]
theorem znU {wd tx ty aw:Nat} {S:Nat→Bool} {f:Nat→Nat→Nat} {L:List Nat} {q r:Nat} (hr:r<wd) (h:ty≤q→S (q - ty)=false):(upM wd tx ty aw S f L).getD (q*wd+r) 0=L.getD (q*wd+r) 0:=by
 by_cases hi:q*wd+r<L.length
 ·unfold upM
  rw [zc9 _ _ _ _ _ hi]
  obtain ⟨e1,e2⟩:=zj4 (wd:=wd) (i:=q*wd+r) rfl hr
  rw [e1,e2,if_neg]
  rintro ⟨h1,h2,h3⟩
  rw [h h2,Bool.and_false] at h3
  cases h3
 ·rw [List.getD_eq_getElem?_getD,List.getD_eq_getElem?_getD,List.getElem?_eq_none (by rw [zgf];omega),List.getElem?_eq_none (by omega)]
theorem zd4 {wd ht x y a b j:Nat} (h1:x+a≤wd) (h2:y+b≤ht) (hj:j<b):(y+j)*wd+x+a≤wd*ht:=by
 have h3:(y+j+1)*wd≤ht*wd:=Nat.mul_le_mul_right wd (by omega)
 rw [Nat.add_mul,Nat.one_mul,Nat.mul_comm ht wd] at h3
 omega
def upDn (ah i:Nat):Nat→Bool:=fun y=>decide (ah≤y+i∧y<ah)
def upUp (i:Nat):Nat→Bool:=fun y=>decide (y<i)
def upSt (dn:Bool) (ah i:Nat):Nat→Bool:=if dn then upDn ah i else upUp i
def upAt (dn:Bool) (ah i:Nat):Nat:=if dn then ah - 1 - i else i
theorem zmC (dn:Bool) (ah y:Nat):upSt dn ah 0 y=false:=by
 cases dn
 ·show decide (y<0)=false
  exact decide_eq_false (by omega)
 ·show decide (ah≤y+0∧y<ah)=false
  exact decide_eq_false (by omega)
theorem zpc (dn:Bool) (ah y:Nat):upSt dn ah ah y=decide (y<ah):=by
 cases dn
 ·rfl
 ·show decide (ah≤y+ah∧y<ah)=_
  congr 1
  apply propext
  omega
theorem zgK (dn:Bool) {ah i:Nat} (h:i<ah) (y:Nat):upSt dn ah (i+1) y=(upSt dn ah i y || decide (y=upAt dn ah i)):=by
 cases dn
 ·show decide (y<i+1)=(decide (y<i) || decide (y=i))
  rw [←Bool.decide_or]
  congr 1
  apply propext
  omega
 ·show decide (ah≤y+(i+1)∧y<ah)=(decide (ah≤y+i∧y<ah) || decide (y=ah - 1 - i))
  rw [←Bool.decide_or]
  congr 1
  apply propext
  omega
theorem zqi (dn:Bool) {ah i:Nat} (h:i<ah):upAt dn ah i<ah:=by
 cases dn
 ·exact h
 ·show ah - 1 - i<ah;omega
theorem znR {dn:Bool} {ah i ty fy:Nat} (h:i<ah) (hd:dn=true→fy<ty) (hu:dn=false→ty≤fy):ty≤fy+upAt dn ah i→upSt dn ah i (fy+upAt dn ah i - ty)=false:=by
 intro hq
 cases dn
 ·have:=hu rfl
  have hq':ty≤fy+i:=hq
  show decide (fy+i - ty<i)=false
  exact decide_eq_false (by omega)
 ·have:=hd rfl
  have hq':ty≤fy+(ah - 1 - i):=hq
  show decide (ah≤fy+(ah - 1 - i) - ty+i∧fy+(ah - 1 - i) - ty<ah)=false
  exact decide_eq_false (by omega)
end
end Go.Proofs.YtedakhgaghfogaaGreat
