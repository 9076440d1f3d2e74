/- Several texts in one, each with its own head. -/
import Derived.Test.YtedakhgaghfogaaGreatQs5
import Derived.Test.YtedakhgaghfogaaGreatQs2
import Derived.Test.YtedakhgaghfogaaGreatQs3
import Derived.Test.YtedakhgaghfogaaGreatQs4
import Derived.Laws.BitsLemmas
import Derived.IntWalk
import Derived.Handy
import Derived.Deep.QuietTactic
import Derived.BigQuiet
import Derived.BigRegion
namespace Go.Proofs.YtedakhgaghfogaaGreat
section
open Go.RowKit
def encZ (i:Int):List Value:=[.int .i64 i]
theorem RowAt.int {W:World} {p:Option Addr} {xs:List Int} (h:RowAt encZ 1 W p xs) {k:Nat} (hk:k<xs.length):∃b off,p=some ⟨b,off,none⟩∧W.cell? ⟨b,off+k,none⟩=some (.int .i64 xs[k]):=by
 rcases h with ⟨-,rfl⟩ | ⟨b,off,rfl,-,h⟩
 ·simp at hk
 ·refine ⟨b,off,rfl,?_⟩
  have:=h k xs[k] (List.getElem?_eq_getElem hk) 0 _ rfl
  simpa using this
def okF (f:Int):Bool:=decide (0≤f∧f≤1099511627776)
def mayB (fs:List Int) (limit:Int):Bool:=decide (1≤limit∧limit≤15∧fs.length≤320) && fs.all okF
theorem zrE {fs:List Int} {k:Nat} (hk:k<fs.length) (h:(fs.take k).all okF=true):(okF fs[k]=false→fs.all okF=false)∧(okF fs[k]=true→(fs.take (k+1)).all okF=true):=by
 refine ⟨fun h1=>?_,fun h1=>?_⟩
 ·rw [Bool.eq_false_iff]
  intro h2
  have:=List.all_eq_true.1 h2 fs[k] (List.getElem_mem hk)
  rw [h1] at this;cases this
 ·rw [List.take_succ_eq_append_getElem hk,List.all_append,h]
  simp [h1]
set_option maxHeartbeats 1000000 in
theorem zmo (fs:List Int) (v:Value) (limit:Int) (w:World) (hv:Row encZ 1 w v fs):
  Calls Tryz.prog 192 #[v,.int .i64 limit] w fun e w'=>e= .returned (.bool (mayB fs limit))∧w'=w:=by
 have hlen:=hv.len
 obtain ⟨p,c,rfl,-,-,hrow⟩:=hv
 have Hrow:=Lib.hid hrow
 obtain ⟨bb,hbb⟩:∃bb,mayB fs limit=bb:=⟨_,rfl⟩
 rw [hbb]
 have Hbb:=Lib.hid hbb
 clear hrow hbb
 by_cases hok:1≤limit∧limit≤15∧fs.length≤320
 ·obtain ⟨h1,h2,h3⟩:=hok
  have e1:¬limit<1:=by omega
  have e2:¬15<limit:=by omega
  have e3:¬(320:Int)<fs.length:=by omega
  go_enter Tryz.func192,Tryz.ntmps192
  go_wp2
  go_loop [20] (fun kv=> ∃(k:Nat),kv= .int .i64 (k:Int)∧k≤fs.length∧Hid ((fs.take k).all okF=true)) (fun kv=>fs.length - (intOf kv).toNat)
  case atStart=>exact ⟨0,rfl,Nat.zero_le _,Lib.hid (by simp)⟩
  case round=>
   obtain ⟨k,rfl,hk,Hk⟩:=hrel
   by_cases hlt:k<fs.length
   ·obtain ⟨g,off,rfl,hcell⟩:=Hrow.out.int hlt
    have Hat:=Lib.hid (zrE hlt Hk.out)
    obtain ⟨x,hx⟩:∃x,fs[k]=x:=⟨_,rfl⟩
    rw [hx] at hcell Hat
    have k0:(0:Int)≤(k:Int):=by omega
    have k1:(k:Int)<(fs.length:Int):=by omega
    clear hx
    by_cases hx1:x<0
    ·have hf:bb=false:=by
      rw [←Hbb.out]
      unfold mayB
      rw [Hat.out.1 (by unfold okF;simp;omega)]
      simp
     go_wp2
     go_ret
     exact ⟨rfl,rfl⟩
    ·by_cases hx2:1099511627776<x
     ·have hf:bb=false:=by
       rw [←Hbb.out]
       unfold mayB
       rw [Hat.out.1 (by unfold okF;simp;omega)]
       simp
      go_wp2
      go_ret
      exact ⟨rfl,rfl⟩
     ·have Hk2:=Lib.hid (Hat.out.2 (by unfold okF;simp;omega))
      go_wp2
      go_round
      case rel=>exact ⟨k+1,by go_num,by omega,Hk2⟩
      case measure=>simp [intOf];omega
   ·obtain rfl:k=fs.length:=by omega
    have hf:bb=true:=by
     rw [←Hbb.out]
     unfold mayB
     have:=Hk.out
     rw [List.take_length] at this
     rw [this]
     simp;omega
    go_wp2
    go_ret
    exact ⟨rfl,rfl⟩
 ·have hf:bb=false:=by
   rw [←Hbb.out]
   unfold mayB
   simp [hok]
  clear Hbb
  subst hf
  by_cases e1:limit<1
  ·go_enter Tryz.func192,Tryz.ntmps192
   go_wp2
   go_ret
   exact ⟨rfl,rfl⟩
  ·by_cases e2:15<limit
   ·go_enter Tryz.func192,Tryz.ntmps192
    go_wp2
    go_ret
    exact ⟨rfl,rfl⟩
   ·have e3:(320:Int)<fs.length:=by omega
    go_enter Tryz.func192,Tryz.ntmps192
    go_wp2
    go_ret
    exact ⟨rfl,rfl⟩
def fq (fs:List Int) (i:Nat):Nat:=(fs.getD i 0).toNat
def leaves (f:Nat→Nat):Nat→List Tr
 | 0=>[]
 | k+1=>leaves f k++(if 0<f k then [.leaf k (f k)] else [])
def syms (f:Nat→Nat):Nat→List Nat
 | 0=>[]
 | k+1=>syms f k++(if 0<f k then [k] else [])
theorem Lv.snoc {s c:Nat}:∀{ls:List Tr} {ss:List Nat},Lv ls ss→Lv (ls++[.leaf s c]) (ss++[s])
 | [],[],_=>⟨rfl,trivial⟩
 | .leaf _ _::_,_::_,⟨h1,h2⟩=>⟨h1,Lv.snoc h2⟩
 | [],_::_,h=>h.elim
 | .leaf _ _::_,[],h=>h.elim
 | .node _ _::_,_,h=>by cases h
theorem zcQ (f:Nat→Nat):∀k,Lv (leaves f k) (syms f k)
 | 0=>trivial
 | k+1=>by
  unfold leaves syms
  by_cases h:0<f k
  ·rw [if_pos h,if_pos h];exact (zcQ f k).snoc
  ·rw [if_neg h,if_neg h,List.append_nil,List.append_nil];exact zcQ f k
theorem zdq (f:Nat→Nat):∀k,∀i∈syms f k,i<k∧0<f i
 | 0,i,h=>by cases h
 | k+1,i,h=>by
  unfold syms at h
  rcases List.mem_append.1 h with h | h
  ·have:=zdq f k i h
   exact ⟨by omega,this.2⟩
  ·by_cases h0:0<f k
   ·rw [if_pos h0] at h
    obtain rfl:i=k:=by simpa using h
    exact ⟨by omega,h0⟩
   ·rw [if_neg h0] at h;cases h
theorem zj5 (f:Nat→Nat):∀k,(syms f k).Pairwise (· < ·)
 | 0=>List.Pairwise.nil
 | k+1=>by
  unfold syms
  rw [List.pairwise_append]
  refine ⟨zj5 f k,?_,fun a ha b hb=>?_⟩
  ·by_cases h:0<f k<;>simp [h]
  ·have h1:=(zdq f k a ha).1
   by_cases h0:0<f k
   ·rw [if_pos h0] at hb
    obtain rfl:b=k:=by simpa using hb
    exact h1
   ·rw [if_neg h0] at hb;cases hb
theorem za8 (f:Nat→Nat):∀k,∀t∈leaves f k,t.Fits k f∧¬t.isNode∧∃s,s<k∧t= .leaf s (f s)
 | 0,t,h=>by cases h
 | k+1,t,h=>by
  unfold leaves at h
  rcases List.mem_append.1 h with h | h
  ·obtain ⟨_,_,s,hs,rfl⟩:=za8 f k t h
   exact ⟨⟨by omega,rfl⟩,(fun h=>h),s,by omega,rfl⟩
  ·by_cases h0:0<f k
   ·rw [if_pos h0] at h
    obtain rfl:t= .leaf k (f k):=by simpa using h
    exact ⟨⟨by omega,rfl⟩,(fun h=>h),k,by omega,rfl⟩
   ·rw [if_neg h0] at h;cases h
theorem zck (f:Nat→Nat):∀k,(leaves f k).map Tr.cost=((List.range k).map f).filter fun c=>decide (0<c)
 | 0=>rfl
 | k+1=>by
  unfold leaves
  rw [List.map_append,zck f k,List.range_succ,List.map_append,List.filter_append]
  congr 1
  by_cases h:0<f k<;>simp [h,Tr.cost]
theorem zfG (f:Nat→Nat) (k:Nat):(leaves f k).length=many k f:=by
 have:=congrArg List.length (zck f k)
 rw [List.length_map,zc1] at this
 exact this
end
section
open Go.RowKit
structure SgInv (N:Nat→Prop) (f:Nat→Nat) (w wr:World) (k:Nat) (v:Value) (l:List (Nat×Tr)):Prop where
 eq:l.map Prod.snd=leaves f k
 own:wr.ownsRow w.heap.size 260 1 v l.length ((l.map Prod.fst).map ptrV)
 at':∀e∈l,TrAt wr (fun i=>N i∧w.heap.size≤i∧v.ownBlock≠some i) e.1 e.2
 below:Below w.heap.size w wr
theorem zps {fs:List Int} {k:Nat} (hk:k<fs.length) (h0:0≤fs[k]):fs[k]=((fq fs k:Nat):Int):=by
 unfold fq
 rw [List.getD_eq_getElem?_getD,List.getElem?_eq_getElem hk]
 simp;omega
set_option maxHeartbeats 1000000 in
theorem zi7 (N:Nat→Prop) (fs:List Int) (v:Value) (w:World) (hN:∀i,w.heap.size≤i→N i) (hv:Row encZ 1 w v fs) (hlen:fs.length≤320) (hpos:∀f∈fs,0≤f):
  Calls Tryz.prog 193 #[v] w fun e w'=> ∃(v':Value) (l:List (Nat×Tr)),e= .returned v'∧SgInv N (fq fs) w w' fs.length v' l:=by
 obtain ⟨p,c,rfl,-,-,hrow⟩:=hv
 have Hrow:=Lib.hid hrow
 have Hpos:=Lib.hid hpos
 have HN:=Lib.hid hN
 clear hrow hpos hN
 go_enter Tryz.func193,Tryz.ntmps193
 go_wp2
 go_loopw [3,8] (fun v kv wr=> ∃(k:Nat) (l:List (Nat×Tr)),kv= .int .i64 (k:Int)∧k≤fs.length∧Hid (SgInv N (fq fs) w wr k v l)) (fun _ kv _=>fs.length - (intOf kv).toNat)
 case atStart=>exact ⟨0,[],rfl,Nat.zero_le _,Lib.hid ⟨rfl,World.ownsRow_nil _ _ _ _,(fun e he=>by cases he),Below.refl _ _⟩⟩
 case round=>
  obtain ⟨k,l,rfl,hk,HI⟩:=hrel
  obtain ⟨pv,cv,rfl⟩:=zac HI.out.own
  by_cases hlt:k<fs.length
  ·obtain ⟨g,off,rfl,hcell⟩:=Hrow.out.int hlt
   have hcell2:=cell_later HI.out.below hcell
   have Hfk:=Lib.hid (zps hlt (Hpos.out _ (List.getElem_mem hlt)))
   rw [Hfk.out] at hcell2
   obtain ⟨x,hx⟩:∃x,fq fs k=x:=⟨_,rfl⟩
   rw [hx] at hcell2
   have Hx:=Lib.hid hx
   have k0:(0:Int)≤(k:Int):=by omega
   have k1:(k:Int)<(fs.length:Int):=by omega
   clear hx hcell
   by_cases hx0:0<x
   ·have d0:decide (0<x)=true:=by simpa using hx0
    have hll:l.length≤320:=by
     have h1:=congrArg List.length HI.out.eq
     rw [List.length_map,zfG] at h1
     have h2:many k (fq fs)≤k:=by
      unfold many
      have:=zev (n:=k) (g:=fun i=>if 0<fq fs i then 1 else 0) (h:=fun _=>1) (fun i _=>by split<;>omega)
      have h3:∀m,sm m (fun _=>1)=m:=fun m=>by
       induction m with
       | zero=>rfl
       | succ m ih=>rw [sm,ih]
      rw [h3] at this
      exact this
     omega
    have hs:=HI.out.below.size
    have Hown2:Hid ((wr.alloc (.cells #[.int .i64 (x:Int),.int .i64 (k:Int),.slice none 0 0] 259)).ownsRow w.heap.size 260 1 (.slice pv l.length cv) l.length ((l.map Prod.fst).map ptrV)):=Lib.hid (HI.out.own.alloc _)
    have hs2:w.heap.size≤(wr.alloc (.cells #[.int .i64 (x:Int),.int .i64 (k:Int),.slice none 0 0] 259)).heap.size:=by simp;omega
    go_wp2_with (at_builtin;refine zaL _ rfl (.tmp 15) (.tmp 20) 256 rfl w.heap.size 260 _ 8 zfo Tryz.underlying256 rfl (.slice pv l.length cv) l.length ((l.map Prod.fst).map ptrV) rfl Hown2.out (ptrV wr.heap.size) _ ?n1 rfl ?n3 ?n4 hs2 ?_)
    case n1=>rw [World.size_alloc];rfl
    case n3=>simp only [maxLen];omega
    case n4=>omega
    intro g5 cap5 w5 hown5 ht5 hpl5
    have HI5:Hid (SgInv N (fq fs) w w5 (k+1) (.slice (some ⟨g5,0,none⟩) (l.length+1) cap5) (l++[(wr.heap.size,.leaf k x)])):=Lib.hid (by
     have hx':0<fq fs k:=by rw [Hx.out];exact hx0
     have hlt':=HI.out.own.lt
     have hno:∀i,i<wr.heap.size+1→(Value.slice pv l.length cv).ownBlock≠some i→g5≠i:=fun i h1 h2 e=>by
      rcases hpl5 with h | h
      ·exact h2 (e ▸ h)
      ·omega
     refine ⟨?_,?_,fun e he=>?_,?_⟩
     ·rw [List.map_append,HI.out.eq]
      conv=>rhs;unfold leaves
      rw [if_pos hx',Hx.out];rfl
     ·rw [List.length_append,List.map_append,List.map_append,List.map_map];exact hown5
     ·rcases List.mem_append.1 he with he | he
      ·exact (HI.out.at' e he).keep (fun i hi hn=>⟨(ht5.block i (by simp;omega) hn.2.2).trans (Below.heap_alloc wr _ i hi),hn.1,hn.2.1,fun e=>hno i (by omega) hn.2.2 (by cases e;rfl)⟩)
      ·obtain rfl:e=(wr.heap.size,.leaf k x):=by simpa using he
       have hn0:(Value.slice pv l.length cv).ownBlock≠some wr.heap.size:=fun e=>by have:=(hlt' _ e).2;omega
       unfold TrAt
       exact ⟨⟨HN.out _ hs,hs,fun e=>hno wr.heap.size (by omega) hn0 (by cases e;rfl)⟩,(ht5.block wr.heap.size (by simp) hn0).trans (World.alloc_heap_new _ _)⟩
     ·exact HI.out.below.trans (((Below.al1 wr _).mono hs).trans (ht5.below (by simp;omega) (fun i e=>(hlt' i e).1))))
    clear hown5 ht5 hpl5 hs2 hs
    go_wp2
    go_roundw
    case rel=>exact ⟨k+1,_,by go_num,by omega,HI5⟩
    case measure=>simp [intOf];omega
   ·have d0:decide (0<x)=false:=by simpa using hx0
    have HI5:Hid (SgInv N (fq fs) w wr (k+1) (.slice pv l.length cv) l):=Lib.hid ⟨by
     rw [HI.out.eq]
     conv=>rhs;unfold leaves
     rw [Hx.out,if_neg hx0,List.append_nil],HI.out.own,HI.out.at',HI.out.below⟩
    go_wp2
    go_roundw
    case rel=>exact ⟨k+1,l,by go_num,by omega,HI5⟩
    case measure=>simp [intOf];omega
  ·obtain rfl:k=fs.length:=by omega
   go_wp2
   go_ret
   exact ⟨_,l,rfl,HI.out⟩
end
section
def byts:Nat→Nat→List Nat
 | _,0=>[]
 | N,m+1=>N%256::byts (N/256) m
def numB:List Nat→Nat
 | []=>0
 | b::r=>b+256*numB r
theorem zd1 (q:Nat):256^q=2^(8*q):=by rw [Nat.pow_mul]
theorem zbz (n:Nat):0<2^n:=Nat.pow_pos (by decide)
theorem zaH:∀(N m:Nat),(byts N m).length=m
 | _,0=>rfl
 | N,m+1=>by simp [byts,zaH]
theorem zeg:∀(N m:Nat),byts N (m+1)=byts N m++[N/256^m%256]
 | N,0=>by simp [byts]
 | N,m+1=>by
  rw [byts,zeg (N/256) m,byts,List.cons_append,Nat.div_div_eq_div_mul,Nat.pow_succ,Nat.mul_comm 256]
theorem zhX:∀(N m M:Nat),byts (N+256^m*M) m=byts N m
 | _,0,_=>rfl
 | N,m+1,M=>by
  have e:256^(m+1)*M=256*(256^m*M):=by rw [Nat.pow_succ,Nat.mul_comm (256^m),Nat.mul_assoc]
  rw [byts,byts,e,Nat.add_mul_mod_self_left,Nat.add_mul_div_left _ _ (by decide),zhX]
theorem zkq:∀(l:List Nat),(∀b∈l,b<256)→numB l<256^l.length
 | [],_=>by simp [numB]
 | b::r,h=>by
  have h1:=zkq r (fun x hx=>h x (by simp [hx]))
  have h2:=h b (by simp)
  rw [numB,List.length_cons,Nat.pow_succ]
  omega
theorem zhl:∀(l:List Nat),(∀b∈l,b<256)→byts (numB l) l.length=l
 | [],_=>rfl
 | b::r,h=>by
  have h1:=zhl r (fun x hx=>h x (by simp [hx]))
  have h2:=h b (by simp)
  rw [List.length_cons,byts,numB,Nat.add_mul_mod_self_left,Nat.add_mul_div_left _ _ (by decide),Nat.mod_eq_of_lt h2,Nat.div_eq_of_lt h2,Nat.zero_add,h1]
theorem zoU (N m i:Nat) (h:i<m):(byts N m)[i]'(by rw [zaH];exact h)=N/256^i%256:=by
 induction m generalizing N i with
 | zero=>omega
 | succ m ih=>
  cases i with
  | zero=>simp [byts]
  | succ i=>
   simp only [byts,List.getElem_cons_succ]
   rw [ih (N/256) i (by omega),Nat.div_div_eq_div_mul,Nat.pow_succ,Nat.mul_comm 256]
theorem zpe (l:List Nat) (h:∀b∈l,b<256) (i:Nat) (hi:i<l.length):numB l/256^i%256=l[i]:=by
 have e:=zoU (numB l) l.length i hi
 rw [←e]
 congr 1
 exact zhl l h
theorem zo8 (N n p s:Nat) (hN:N<2^n) (hp:p<2^s) (hs:0<s) (hfit:n%8+s≤8):
  (n+s+7)/8=n/8+1∧byts (N+p*2^n) (n/8+1)=byts N (n/8)++[N/256^(n/8)+p*2^(n%8)]∧N/256^(n/8)<2^(n%8)∧N+p*2^n<2^(n+s)∧N/256^(n/8)+p*2^(n%8)<256:=by
 have hn:2^n=256^(n/8)*2^(n%8):=by rw [zd1,←Nat.pow_add];congr 1;omega
 have h3:N/256^(n/8)<2^(n%8):=Nat.div_lt_of_lt_mul (by rw [←hn];exact hN)
 have h5:N/256^(n/8)+p*2^(n%8)<256:=by
  have h6:2^(n%8)*2^s≤2^8:=by rw [←Nat.pow_add];exact Nat.pow_le_pow_right (by decide) hfit
  have h7:p*2^(n%8)+2^(n%8)≤2^(n%8)*2^s:=by
   have:(p+1)*2^(n%8)≤2^s*2^(n%8):=Nat.mul_le_mul_right _ hp
   rw [Nat.mul_comm (2^(n%8)) (2^s)]
   rw [Nat.add_mul] at this
   omega
  have:(2:Nat)^8=256:=rfl
  omega
 refine ⟨by omega,?_,h3,?_,h5⟩
 ·have e:N+p*2^n=N+256^(n/8)*(p*2^(n%8)):=by rw [hn,Nat.mul_left_comm]
  rw [zeg,e,zhX,Nat.add_mul_div_left _ _ (Nat.pow_pos (by decide)),Nat.mod_eq_of_lt h5]
 ·have:(p+1)*2^n≤2^s*2^n:=Nat.mul_le_mul_right _ hp
  rw [Nat.pow_add,Nat.mul_comm (2^n)]
  rw [Nat.add_mul] at this
  omega
theorem zme (l:List Nat) (h:∀b∈l,b<256) (at_ s:Nat) (hfit:at_%8+s≤8) (hi:at_/8<l.length):
  l[at_/8]/2^(at_%8)%2^s=numB l/2^at_%2^s:=by
 have e:=zpe l h (at_/8) hi
 rw [←e,zd1]
 generalize numB l=X
 have h1:X/2^at_=X/2^(8*(at_/8))/2^(at_%8):=by
  rw [Nat.div_div_eq_div_mul,←Nat.pow_add];congr 2;omega
 rw [h1]
 generalize X/2^(8*(at_/8))=Y
 have h2:(256:Nat)=2^(at_%8)*2^(8 - at_%8):=by rw [←Nat.pow_add,show at_%8+(8 - at_%8)=8 by omega]
 rw [h2,Nat.mod_mul_right_div_self]
 have h3:2^s∣ 2^(8 - at_%8):=Nat.pow_dvd_pow 2 (by omega)
 exact Nat.mod_mod_of_dvd _ h3
theorem zjn (x a b:Nat):x%2^(a+b)=x%2^a+x/2^a%2^b*2^a:=by
 rw [Nat.pow_add,Nat.mod_mul,Nat.mul_comm (2^a) (x/2^a%2^b)]
end
section
open Go.RowKit
theorem zdB (n:Int) (w:World) (h0:0≤n) (h1:n≤24):Calls Tryz.prog 134 #[.int .i64 n] w fun e w'=>e= .returned (.bool true)∧w'=w:=by
 go_enter Tryz.func134,Tryz.ntmps134
 go_wp2
 go_ret
 exact ⟨rfl,rfl⟩
theorem zfa {n:Nat} (hn:n≤24):2^n≤16777216:=Nat.pow_le_pow_right (by decide) hn
theorem zii (n:Nat):((2:Int)^n)=((2^n:Nat):Int):=by simp
theorem zpH (v n:Nat) (hv:v<4294967296) (hn:n≤24):bits .and .u32 (v:Int) ((2^n - 1)%4294967296)=((v%2^n:Nat):Int):=by
 have h2:=zfa hn
 have h3:=zbz n
 have e:((2:Int)^n - 1)%4294967296=2^n - 1:=by rw [zii];omega
 rw [e,bits_mask .u32 32 (by decide) (fun m h0 h1=>by rw [IntKind.wrap_u32];omega) n (by omega) v (by omega) (by omega)]
 simp
theorem zgC (v n:Nat) (w:World) (hv:v<4294967296) (hn:n≤24):Calls Tryz.prog 135 #[.int .u32 (v:Int),.int .i64 (n:Int)] w fun e w'=>e= .returned (.int .u32 ((v%2^n:Nat):Int))∧w'=w:=by
 have HL:=Lib.hid (zpH v n hv hn)
 go_enter Tryz.func135,Tryz.ntmps135
 go_wp2
 go_ret
 exact ⟨zey HL.out,rfl⟩
theorem znl (n:Nat):bits .and .i64 (-(n:Int)) 7=(((8 - n%8)%8:Nat):Int):=by
 unfold bits
 simp only [BitVec.toNat_and]
 have e7:(BitVec.ofInt IntKind.i64.bits 7).toNat=2^3 - 1:=by decide
 rw [e7,Nat.and_two_pow_sub_one_eq_mod]
 have e8:(BitVec.ofInt IntKind.i64.bits (-(n:Int))).toNat=((-(n:Int))%18446744073709551616).toNat:=by
  rw [BitVec.toNat_ofInt];rfl
 rw [e8]
 have e9:((-(n:Int))%18446744073709551616).toNat%2^3=(8 - n%8)%8:=by
  have:(2:Nat)^3=8:=rfl
  rw [this]
  omega
 rw [e9]
 exact IntWalk.i64_in _ (by omega)
theorem zeQ (n:Nat) (w:World) (hn:n≤9223372036854775807):Calls Tryz.prog 171 #[.int .i64 (n:Int)] w fun e w'=>e= .returned (.int .i64 (((8 - n%8)%8:Nat):Int))∧w'=w:=by
 have HL:=Lib.hid (znl n)
 go_enter Tryz.func171,Tryz.ntmps171
 go_wp2
 go_ret
 exact ⟨zey HL.out,rfl⟩
theorem zeS (n a:Nat) (w:World) (ha:a≤9223372036854775807):Calls Tryz.prog 154 #[.int .i64 (n:Int),.int .i64 (a:Int)] w fun e w'=>e= .returned (.int .i64 ((min n (8 - a%8):Nat):Int))∧w'=w:=by
 go_enter Tryz.func154,Tryz.ntmps154
 go_wp2
 all_goals
  go_ret
  exact ⟨zey (by omega),rfl⟩
end
section
open Go.RowKit
def u8v (b:Nat):Value:= .int .u8 (b:Int)
theorem zaw:(Tryz.prog.info? 5).map (fun i=>(i.zero,i.size,i.bytes))=some (some (.int .u8 0),1,1):=by kernel_rfl
structure Wr (W:World) (base B:Nat) (sv:Value) (N n:Nat):Prop where
 lt:B<base
 box:∃t,W.heap[B]? =some (.cells #[sv,.int .i64 (n:Int)] t)
 own:W.ownsRow base 5 1 sv ((n+7)/8) ((byts N ((n+7)/8)).map u8v)
 num:N<2^n
theorem Wr.c0 {W:World} {base B N n:Nat} {sv:Value} (h:Wr W base B sv N n):W.cell? ⟨B,0,none⟩=some sv:=by obtain ⟨_,hb⟩:=h.box;simp [World.cell?,hb]
theorem Wr.c1 {W:World} {base B N n:Nat} {sv:Value} (h:Wr W base B sv N n):W.cell? ⟨B,1,none⟩=some (.int .i64 (n:Int)):=by obtain ⟨_,hb⟩:=h.box;simp [World.cell?,hb]
theorem Wr.free {W:World} {base B N n:Nat} {sv:Value} (h:Wr W base B sv N n) (i:Nat):W.frozen? ⟨B,i,none⟩=false:=by obtain ⟨_,hb⟩:=h.box;simp [World.frozen?,hb]
theorem Wr.size {W:World} {base B N n:Nat} {sv:Value} (h:Wr W base B sv N n):B<W.heap.size:=by obtain ⟨_,hb⟩:=h.box;exact (Array.getElem?_eq_some_iff.1 hb).1
theorem Wr.turns {T:Nat→Prop} {W W':World} {base B N n:Nat} {sv:Value} (h:Wr W base B sv N n) (ht:Turns T W W') (hB:¬T B) (hs:∀k,sv.ownBlock=some k→¬T k):Wr W' base B sv N n:=
 ⟨h.lt,h.box.imp fun _ hb=>(ht.block B h.size hB).trans hb,ht.owns h.own hs,h.num⟩
theorem Wr.below {W W':World} {base B N n:Nat} {sv:Value} (h:Wr W base B sv N n) (hb:Below W.heap.size W W'):Wr W' base B sv N n:=
 h.turns (T:=fun _=>False) (Turns.of_below' hb) (fun h=>h) (fun _ _ h=>h)
theorem Wr.apart {W:World} {base B N n:Nat} {sv:Value} (h:Wr W base B sv N n):sv.ownBlock≠some B:=fun e=>by
 have h1:=h.own.lt B e
 have h2:=h.lt
 omega
def WrTo (base B:Nat) (sv:Value) (N n:Nat) (w w':World):Prop:=
 ∃sv',Wr w' base B sv' N n∧Turns (fun b=>b=B∨sv.ownBlock=some b) w w'∧∀k,sv'.ownBlock=some k→sv.ownBlock=some k∨w.heap.size≤k
theorem WrTo.refl {w:World} {base B N n:Nat} {sv:Value} (h:Wr w base B sv N n):WrTo base B sv N n w w:=⟨sv,h,Turns.refl _ _,fun _ h=> .inl h⟩
theorem WrTo.step {w w1 w2:World} {base B M m:Nat} {sv sv1:Value} (h2:Turns (fun b=>b=B∨sv.ownBlock=some b) w w1) (h3:∀k,sv1.ownBlock=some k→sv.ownBlock=some k∨w.heap.size≤k) (k:WrTo base B sv1 M m w1 w2):WrTo base B sv M m w w2:=by
 obtain ⟨sv2,k1,k2,k3⟩:=k
 refine ⟨sv2,k1,h2.trans' k2 (fun i hi h=>?_),fun q hq=>?_⟩
 ·rcases h with h | h
  ·exact .inl h
  ·rcases h3 i h with h | h
   ·exact .inr h
   ·omega
 ·rcases k3 q hq with h | h
  ·rcases h3 q h with h | h
   ·exact .inl h
   ·exact .inr h
  ·exact .inr (Nat.le_trans h2.size h)
theorem zrf (x p f s:Nat) (hx:x<2^f) (hp:p<2^s) (hfit:f+s≤8):bits .or .u8 (x:Int) ((p:Int)*2^f)=((x+p*2^f:Nat):Int)∧p*2^f<256:=by
 have h6:2^f*2^s≤2^8:=by rw [←Nat.pow_add];exact Nat.pow_le_pow_right (by decide) hfit
 have h7:p*2^f+2^f≤2^f*2^s:=by
  have:(p+1)*2^f≤2^s*2^f:=Nat.mul_le_mul_right _ hp
  rw [Nat.mul_comm (2^f) (2^s)]
  rw [Nat.add_mul] at this
  omega
 have h8:(2:Nat)^8=256:=rfl
 have e:((p:Int)*2^f)=((p*2^f:Nat):Int):=by simp
 rw [e,(bits_nat .u8 8 (by decide) (fun m h0 h1=>by rw [IntKind.wrap_u8];omega) x (p*2^f) (by omega) (by omega)).2]
 refine ⟨?_,by omega⟩
 rw [Nat.or_comm,Nat.mul_comm p,←Nat.two_pow_add_eq_or_of_lt hx p]
 congr 1
 omega
set_option maxRecDepth 100000 in
set_option maxHeartbeats 2000000 in
theorem zpG (base B N n p s:Nat) (sv:Value) (w:World) (h:Wr w base B sv N n) (hp:p<2^s) (hs:0<s) (hfit:n%8+s≤8) (hmax:n+s≤8388608) (hbase:base≤w.heap.size):
  Calls Tryz.prog 153 #[.pointer (some ⟨B,0,none⟩),.int .u8 (p:Int),.int .i64 (s:Int)] w fun e w'=>e= .returned (.tuple #[])∧WrTo base B sv (N+p*2^n) (n+s) w w':=by
 obtain ⟨hm,hby,hlo,hnum,h256⟩:=zo8 N n p s h.num hp hs hfit
 obtain ⟨q,hq⟩:∃q,n/8=q:=⟨_,rfl⟩
 obtain ⟨f,hf⟩:∃f,n%8=f:=⟨_,rfl⟩
 rw [hq] at hm hby hlo h256
 rw [hf] at hby hlo h256 hfit
 obtain ⟨x,hx⟩:∃x,N/256^q=x:=⟨_,rfl⟩
 rw [hx] at hby hlo h256
 obtain ⟨hor,hp256⟩:=zrf x p f s hlo hp hfit
 obtain ⟨y,hy⟩:∃y,x+p*2^f=y:=⟨_,rfl⟩
 rw [hy] at hor hby h256
 have hpm:((p:Int)*2^f)%256=(p:Int)*2^f:=by
  have e:((p:Int)*2^f)=((p*2^f:Nat):Int):=by simp
  rw [e];omega
 have Hor:=Lib.hid (And.intro hor hpm)
 clear hpm hp256 hy
 have hc0:=h.c0
 have hc1:=h.c1
 have hf0:=h.free 0
 obtain ⟨sp,sc,rfl⟩:=zac h.own
 have hf7:f<8:=by omega
 have hn8:n=8*q+f:=by omega
 have hqb:q≤1048576:=by omega
 have hnf:(n:Int)%8=(f:Int):=by omega
 have Hn:=Lib.hid (And.intro hm (And.intro hby (And.intro hnum (And.intro h256 hx))))
 clear hm hby hnum h256 hq hf hor hx
 by_cases h0:f=0
 ·have hz:((f:Int)==0)=true:=by simp [h0]
  have hx0:x=0:=by rw [h0] at hlo;simpa using hlo
  have Hx0:=Lib.hid hx0
  have Hn8:=Lib.hid hn8
  have hl:(n+7)/8=q:=by omega
  have H:=Lib.hid h
  rw [hl] at hc0
  have Hl:=Lib.hid hl
  clear h hfit hl h0 hx0 hn8
  go_enter Tryz.func153,Tryz.ntmps153
  go_wp2_with (at_builtin;refine zaL w rfl (.tmp 18) (.tmp 19) 28 rfl base 5 _ 1 zaw Tryz.underlying28 rfl (.slice sp q sc) q ((byts N q).map u8v) rfl (by have:=H.out.own;rw [Hl.out] at this;exact this) (.int .u8 0) _ rfl rfl ?n3 ?n4 hbase ?_)
  case n3=>simp only [maxLen];omega
  case n4=>omega
  intro g cap w1 ho1 ht1 hg1
  have hgB:g≠B:=fun e=>by
   have h1:=(ho1.lt g rfl).1
   have h2:=H.out.lt
   omega
  obtain ⟨tyW,hbx⟩:=H.out.box
  have hap:=H.out.apart
  rw [Hl.out] at hbx hap
  have hb1:=(ht1.block B H.out.size hap).trans hbx
  clear hbx hap
  have d0:w1.cell? ⟨B,0,none⟩=some (.slice sp q sc):=by simp [World.cell?,hb1]
  have e0:w1.frozen? ⟨B,0,none⟩=false:=by simp [World.frozen?,hb1]
  have hb2:=zcN (.slice (some ⟨g,0,none⟩) (q+1) cap) hb1
  have ho2:=(Turns.set (T:=fun b=>b=B) (Turns.refl _ w1) (p:=⟨B,0,none⟩) rfl (.slice (some ⟨g,0,none⟩) (q+1) cap)).owns ho1 (fun k hk h=>hgB (by cases hk;exact h))
  have ht2:Turns (fun b=>b=B∨(Value.slice sp q sc).ownBlock=some b) w (w1.setCell ⟨B,0,none⟩ (.slice (some ⟨g,0,none⟩) (q+1) cap)):=(ht1.mono (fun _ _ h=> .inr h)).set (p:=⟨B,0,none⟩) (.inl rfl) _
  have Hg:=Lib.hid hg1
  have HgB:=Lib.hid hgB
  have Hb:=Lib.hid hb2
  have Ho:=Lib.hid ho2
  have Ht:=Lib.hid ht2
  clear hb1 hb2 ho1 ho2 ht1 ht2 hg1 hgB
  go_upto_region 3 with (fail)
  obtain ⟨W3,hW3⟩:∃W3,w1.setCell ⟨B,0,none⟩ (.slice (some ⟨g,0,none⟩) (q+1) cap)=W3:=⟨_,rfl⟩
  rw [hW3] at Hb Ho Ht ⊢
  clear hW3 d0 e0 hc0 hc1 hf0
  rw [show ([Value.int IntKind.u8 0])=[.int .u8 (x:Int)] by rw [Hx0.out];rfl] at Ho
  have hq:=After.ne W3
  have hc0:W3.cell? ⟨B,0,none⟩=some (.slice (some ⟨g,0,none⟩) (q+1) cap):=by simp [World.cell?,Hb.out]
  have hc1:W3.cell? ⟨B,1,none⟩=some (.int .i64 (n:Int)):=by simp [World.cell?,Hb.out]
  have hcx:W3.cell? ⟨g,q,none⟩=some (.int .u8 (x:Int)):=by
   rw [Ho.out.cellAt q (by omega)]
   rw [List.getElem?_append_right (by simp [zaH])]
   simp [zaH]
  have e0:=After.rule hc0
  have e1:=After.rule hc1
  have e2:=After.rule hcx
  have hwq:IntKind.i64.wrap (q:Int)=(q:Int):=IntWalk.i64_in _ (by omega)
  have hq0:(0:Int)≤(q:Int):=by omega
  have hq1:(q:Int)<(q:Int)+1:=by omega
  have hor:=Hor.out.1
  have hpm:=Hor.out.2
  refine zaC 16 (by kernel_rfl) (by kernel_rfl) (by kernel_rfl) ?_
  repeat (refine zaK (fun K hK=>?_);go_simp;(refine hK _ ?_;clear hK K))
  refine zbd ?_
  intro w4 hb4
  clear e0 e1 e2 hq
  have f4:w4.frozen? ⟨g,q,none⟩=false:=zaf hb4 hcx (Ho.out.frozenAt q)
  have hcx':=cell_later hb4 hcx
  have hbx:=(hb4.block B (Array.getElem?_eq_some_iff.1 Hb.out).1).trans Hb.out
  have ho4:=(Turns.of_below' (T:=fun _=>False) hb4).owns Ho.out (fun _ _ h=>h)
  have hbo:=ho4.stored q (.int .u8 (y:Int))
  have ht5:Turns (fun b=>b=B∨(Value.slice sp q sc).ownBlock=some b) w (w4.setCell ⟨g,q,none⟩ (.int .u8 (y:Int))):=(Ht.out.trans (Turns.of_below' hb4)).trans' (Turns.of_grown hbo.2 (T:=fun b=>b=g) (fun i h=>by cases h;rfl)) (fun i hi h=>by
   subst h
   rcases Hg.out with h | h
   ·exact .inr h
   ·omega)
  have hb5:(w4.setCell ⟨g,q,none⟩ (.int .u8 (y:Int))).heap[B]? =some (.cells #[.slice (some ⟨g,0,none⟩) (q+1) cap,.int .i64 (n:Int)] tyW):=(Below.heap_setCell _ _ _ B (fun h=>HgB.out h.symm)).trans hbx
  have Ht5:=Lib.hid ht5
  have Hb5:=Lib.hid hb5
  have Ho5:=Lib.hid hbo.1
  clear hc0 hc1 hcx hb4 hbx ho4 hbo ht5 hb5
  go_upto_region 4 with (fail)
  obtain ⟨W5,hW5⟩:∃W5,w4.setCell ⟨g,q,none⟩ (.int .u8 (y:Int))=W5:=⟨_,rfl⟩
  rw [hW5] at Ht5 Hb5 Ho5 ⊢
  clear hW5 f4 hcx'
  have c5:W5.cell? ⟨B,1,none⟩=some (.int .i64 (n:Int)):=by simp [World.cell?,Hb5.out]
  have f5:W5.frozen? ⟨B,1,none⟩=false:=by simp [World.frozen?,Hb5.out]
  have Hb6:=Lib.hid (zbS (.int .i64 ((n:Int)+(s:Int))) Hb5.out)
  have Ho6:=Lib.hid ((Turns.set (T:=fun b=>b=B) (Turns.refl _ W5) (p:=⟨B,1,none⟩) rfl (.int .i64 ((n:Int)+(s:Int)))).owns Ho5.out (fun k hk h=>HgB.out (by cases hk;exact h)))
  have Ht6:=Lib.hid (Ht5.out.set (p:=⟨B,1,none⟩) (.inl rfl) (.int .i64 ((n:Int)+(s:Int))))
  go_wp2
  go_end0
  obtain ⟨k1,k2,k3,k4,k5⟩:=Hn.out
  refine ⟨rfl,.slice (some ⟨g,0,none⟩) (q+1) cap,⟨H.out.lt,?_,?_,k3⟩,?_,?_⟩
  ·exact ⟨tyW,by rw [Hb6.out,Int.natCast_add]⟩
  ·rw [k1,k2]
   have h6:=Ho6.out
   rw [List.set_append_right _ _ (by simp [zaH])] at h6
   simpa [zaH,u8v] using h6
  ·rw [Hl.out];exact Ht6.out
  ·intro k hk
   cases hk
   rw [Hl.out];exact Hg.out
 ·have hz:((f:Int)==0)=false:=by simp;omega
  have hl:(n+7)/8=q+1:=by omega
  have hx:=Hn.out.2.2.2.2
  have hx256:x%256=x:=by
   have:2^f≤2^7:=Nat.pow_le_pow_right (by decide) (by omega)
   have h7:(2:Nat)^7=128:=rfl
   omega
  obtain ⟨tyW,hbx⟩:=h.box
  have hox:=h.own
  rw [hl] at hbx hox
  rw [zeg,hx,hx256,List.map_append,show List.map u8v [x]=[.int .u8 (x:Int)] from rfl] at hox
  obtain ⟨g,hsv,hbg,hglt⟩:∃g,sp=some ⟨g,0,none⟩∧base≤g∧g<w.heap.size:=by
   rcases hox.2 with ⟨-,h0⟩ | ⟨g,cap,cur,hsv,hbg,hg,-⟩
   ·omega
   ·cases hsv
    exact ⟨g,rfl,hbg,(Array.getElem?_eq_some_iff.1 hg).1⟩
  subst hsv
  rw [hl] at hc0
  have Ho:Hid _:=Lib.hid hox
  have Hb:=Lib.hid hbx
  have H:=Lib.hid h
  have Hl:=Lib.hid hl
  have hlt:=h.lt
  have HgB:=Lib.hid (show g≠B by omega)
  have Hg:=Lib.hid (show (Value.slice (some ⟨g,0,none⟩) (q+1) sc).ownBlock=some g∨w.heap.size≤g from .inl rfl)
  have Ht:=Lib.hid (Turns.refl (fun b=>b=B∨(Value.slice (some ⟨g,0,none⟩) (q+1) sc).ownBlock=some b) w)
  have Hn8:=Lib.hid hn8
  clear h hfit hl h0 hn8 hx hx256 hbx hox hbg hglt hlt
  go_enter Tryz.func153,Tryz.ntmps153
  go_upto_region 3 with (fail)
  clear hc0 hc1 hf0
  have hq:=After.ne w
  have hc0:w.cell? ⟨B,0,none⟩=some (.slice (some ⟨g,0,none⟩) (q+1) sc):=by simp [World.cell?,Hb.out]
  have hc1:w.cell? ⟨B,1,none⟩=some (.int .i64 (n:Int)):=by simp [World.cell?,Hb.out]
  have hcx:w.cell? ⟨g,q,none⟩=some (.int .u8 (x:Int)):=by
   rw [Ho.out.cellAt q (by omega)]
   rw [List.getElem?_append_right (by simp [zaH])]
   simp [zaH]
  have e0:=After.rule hc0
  have e1:=After.rule hc1
  have e2:=After.rule hcx
  have hwq:IntKind.i64.wrap (q:Int)=(q:Int):=IntWalk.i64_in _ (by omega)
  have hq0:(0:Int)≤(q:Int):=by omega
  have hq1:(q:Int)<(q:Int)+1:=by omega
  have hor:=Hor.out.1
  have hpm:=Hor.out.2
  refine zaC 16 (by kernel_rfl) (by kernel_rfl) (by kernel_rfl) ?_
  repeat (refine zaK (fun K hK=>?_);go_simp;(refine hK _ ?_;clear hK K))
  refine zbd ?_
  intro w4 hb4
  clear e0 e1 e2 hq
  have f4:w4.frozen? ⟨g,q,none⟩=false:=zaf hb4 hcx (Ho.out.frozenAt q)
  have hcx':=cell_later hb4 hcx
  have hbx:=(hb4.block B (Array.getElem?_eq_some_iff.1 Hb.out).1).trans Hb.out
  have ho4:=(Turns.of_below' (T:=fun _=>False) hb4).owns Ho.out (fun _ _ h=>h)
  have hbo:=ho4.stored q (.int .u8 (y:Int))
  have ht5:Turns (fun b=>b=B∨(Value.slice (some ⟨g,0,none⟩) (q+1) sc).ownBlock=some b) w (w4.setCell ⟨g,q,none⟩ (.int .u8 (y:Int))):=(Ht.out.trans (Turns.of_below' hb4)).trans' (Turns.of_grown hbo.2 (T:=fun b=>b=g) (fun i h=>by cases h;rfl)) (fun i hi h=>by
   subst h
   rcases Hg.out with h | h
   ·exact .inr h
   ·omega)
  have hb5:(w4.setCell ⟨g,q,none⟩ (.int .u8 (y:Int))).heap[B]? =some (.cells #[.slice (some ⟨g,0,none⟩) (q+1) sc,.int .i64 (n:Int)] tyW):=(Below.heap_setCell _ _ _ B (fun h=>HgB.out h.symm)).trans hbx
  have Ht5:=Lib.hid ht5
  have Hb5:=Lib.hid hb5
  have Ho5:=Lib.hid hbo.1
  clear hc0 hc1 hcx hb4 hbx ho4 hbo ht5 hb5
  go_upto_region 4 with (fail)
  obtain ⟨W5,hW5⟩:∃W5,w4.setCell ⟨g,q,none⟩ (.int .u8 (y:Int))=W5:=⟨_,rfl⟩
  rw [hW5] at Ht5 Hb5 Ho5 ⊢
  clear hW5 f4 hcx'
  have c5:W5.cell? ⟨B,1,none⟩=some (.int .i64 (n:Int)):=by simp [World.cell?,Hb5.out]
  have f5:W5.frozen? ⟨B,1,none⟩=false:=by simp [World.frozen?,Hb5.out]
  have Hb6:=Lib.hid (zbS (.int .i64 ((n:Int)+(s:Int))) Hb5.out)
  have Ho6:=Lib.hid ((Turns.set (T:=fun b=>b=B) (Turns.refl _ W5) (p:=⟨B,1,none⟩) rfl (.int .i64 ((n:Int)+(s:Int)))).owns Ho5.out (fun k hk h=>HgB.out (by cases hk;exact h)))
  have Ht6:=Lib.hid (Ht5.out.set (p:=⟨B,1,none⟩) (.inl rfl) (.int .i64 ((n:Int)+(s:Int))))
  go_wp2
  go_end0
  obtain ⟨k1,k2,k3,k4,k5⟩:=Hn.out
  refine ⟨rfl,.slice (some ⟨g,0,none⟩) (q+1) sc,⟨H.out.lt,?_,?_,k3⟩,?_,?_⟩
  ·exact ⟨tyW,by rw [Hb6.out,Int.natCast_add]⟩
  ·rw [k1,k2]
   have h6:=Ho6.out
   rw [List.set_append_right _ _ (by simp [zaH])] at h6
   simpa [zaH,u8v] using h6
  ·rw [Hl.out];exact Ht6.out
  ·intro k hk
   cases hk
   rw [Hl.out];exact Hg.out
set_option maxRecDepth 100000 in
set_option maxHeartbeats 2000000 in
theorem zqg (base B N n v k:Nat) (sv:Value) (w:World) (h:Wr w base B sv N n) (hv:v<2^k) (hk:k≤24) (hmax:n+k≤8388608) (hbase:base≤w.heap.size):
  Calls Tryz.prog 152 #[.int .u32 (v:Int),.int .i64 (k:Int),.int .i64 (n:Int),.func (.func 153) #[.pointer (some ⟨B,0,none⟩)] #[]] w fun e w'=>e= .returned (.tuple #[])∧WrTo base B sv (N+v*2^n) (n+k) w w':=by
 have H:=Lib.hid h
 clear h
 go_enter Tryz.func152,Tryz.ntmps152
 go_wp2
 go_loopw [0,1,2] (fun a b c wr=> ∃(v1 k1 n1 N1:Nat),a= .int .u32 (v1:Int)∧b= .int .i64 (k1:Int)∧c= .int .i64 (n1:Int)∧v1<2^k1∧k1≤24∧n1+k1≤8388608∧Hid (n1+k1=n+k)∧Hid (N1+v1*2^n1=N+v*2^n)∧Hid (WrTo base B sv N1 n1 w wr)) (fun _ b _ _=>(intOf b).toNat)
 case atStart=>exact ⟨v,k,n,N,rfl,rfl,rfl,hv,hk,hmax,Lib.hid rfl,Lib.hid rfl,Lib.hid (WrTo.refl H.out)⟩
 case round=>
  obtain ⟨v1,k1,n1,N1,rfl,rfl,rfl,hv1,hk1,hm1,Hnk,Hnum,Hto⟩:=hrel
  by_cases h0:0<k1
  ·obtain ⟨z,hz⟩:∃z,min k1 (8 - n1%8)=z:=⟨_,rfl⟩
   have hz0:0<z:=by omega
   have hzk:z≤k1:=by omega
   have hz8:n1%8+z≤8:=by omega
   have Hz:=Lib.hid hz
   have hv32:v1<4294967296:=by have:=zfa hk1;omega
   obtain ⟨p,hp⟩:∃p,v1%2^z=p:=⟨_,rfl⟩
   obtain ⟨u,hu⟩:∃u,v1/2^z=u:=⟨_,rfl⟩
   have hpz:p<2^z:=by rw [←hp];exact Nat.mod_lt _ (zbz z)
   have hp256:p<256:=by
    have:2^z≤2^8:=Nat.pow_le_pow_right (by decide) (by omega)
    have h8:(2:Nat)^8=256:=rfl
    omega
   have huk:u<2^(k1 - z):=by
    rw [←hu]
    refine Nat.div_lt_of_lt_mul ?_
    rw [←Nat.pow_add,show z+(k1 - z)=k1 by omega]
    exact hv1
   have Hu:Hid (((v1:Int)/2^z)=(u:Int)):=Lib.hid (by rw [←hu];simp)
   have Hpu:=Lib.hid (show p+2^z*u=v1 by rw [←hp,←hu];exact Nat.mod_add_div _ _)
   have Hp:=Lib.hid hp
   clear hz hp hu
   go_wp2_with fail
   refine Calls.mono (zeS k1 n1 _ (by omega)) ?_
   rintro e w1 ⟨rfl,rfl⟩
   rw [Hz.out]
   go_wp2_with fail
   refine Calls.mono (zgC v1 z _ hv32 (by omega)) ?_
   rintro e w1 ⟨rfl,rfl⟩
   rw [Hp.out]
   go_wp2_with fail
   obtain ⟨sv1,hw1,ht1,hl1⟩:=Hto.out
   have hb1:=Nat.le_trans hbase ht1.size
   refine Calls.mono (zpG base B N1 n1 p z sv1 w1 hw1 hpz hz0 hz8 (by omega) hb1) ?_
   rintro e w2 ⟨rfl,hto2⟩
   have Hto2:=Lib.hid (WrTo.step ht1 hl1 hto2)
   have hu:=Hu.out
   clear hw1 ht1 hl1 hto2 Hto hb1
   go_wp2
   go_roundw
   case rel=>exact ⟨u,k1 - z,n1+z,N1+p*2^n1,rfl,by go_num,by go_num,huk,by omega,by omega,Lib.hid (by have:=Hnk.out;omega),Lib.hid (by
     rw [←Hnum.out,←Hpu.out,Nat.pow_add,Nat.add_mul,Nat.mul_comm (2^z) u,Nat.mul_comm (2^n1) (2^z),Nat.mul_assoc,Nat.add_assoc]),Hto2⟩
   case measure=>simp [intOf];omega
  ·obtain rfl:k1=0:=by omega
   have hv0:v1=0:=by simpa using hv1
   subst hv0
   go_wp2
   go_end0
   refine ⟨rfl,?_⟩
   have e1:=Hnk.out
   have e2:=Hnum.out
   rw [Nat.zero_mul,Nat.add_zero] at e2
   rw [←e2,←e1]
   exact Hto.out
set_option maxHeartbeats 1000000 in
theorem zjZ (base B N n v k:Nat) (sv:Value) (w:World) (h:Wr w base B sv N n) (hv:v<2^k) (hk:k≤24) (hmax:n+k≤8388608) (hbase:base≤w.heap.size):
  Calls Tryz.prog 136 #[.pointer (some ⟨B,0,none⟩),.int .u32 (v:Int),.int .i64 (k:Int)] w fun e w'=>e= .returned (.tuple #[])∧WrTo base B sv (N+v*2^n) (n+k) w w':=by
 have hmf:∀(fn:Fn) (first cap:Array Value) (w:World),(Instr.makeFunc fn first cap).run Tryz.prog w= .ok (.func fn first cap) w:=fun _ _ _ _=>rfl
 have hc1:=h.c1
 have H:=Lib.hid h
 clear h
 go_enter Tryz.func136,Tryz.ntmps136
 go_wp2_with fail
 refine Calls.mono (zqg base B N n v k sv w H.out hv hk hmax hbase) ?_
 rintro e w1 ⟨rfl,hto⟩
 have Hto:=Lib.hid hto
 clear hto
 go_wp2
 go_end0
 exact ⟨rfl,Hto.out⟩
end
end Go.Proofs.YtedakhgaghfogaaGreat
