/- The law UpdateBack, as it is stated. -/
import Derived.Test.YtedakhgaghfogaaGreatRS4
namespace Go.Proofs.YtedakhgaghfogaaGreat
section
open Go.ChangeShapes Go.WideShapes Go.ChangeAt Go.RowKit Go.Joins
set_option maxRecDepth 100000 in
theorem zeJ (os:Os) (started:os.Started) (H:Type) (enc:TypeId×Value→H):
  ReturnsInHanded {} Tryz.checked os 5 .any (Rows.updateBackSpec.pre6 enc Tryz.prog Tryz.f5 Rows.updateBackRow.domain false) (Rows.updateBackSpec.post enc Tryz.prog Tryz.f5 false true false false):=by
 refine returnsInHanded_of_change (C:=Tryz.checked) Tryz.own started (by kernel_rfl) Tryz.func5
  (ChangeSpec.witness6 (enc:=enc) (C:=Tryz.checked) false ⟨#[],#[.agg #[.int .i64 0,.int .i64 0,.slice none 0 0],.slice none 0 0,.slice none 0 0],[]⟩ 8 (by kernel_rfl) (by kernel_rfl) (by kernel_rfl) (by kernel_rfl)) ?_
 intro W base args ds gs before hval0 hW _ _
 have hval:∀(j:Nat) t v,Tryz.f5.params[j]? =some t→args[j]? =some v→Value.okWide Tryz.prog W .any base t v:=hval0
 have hW':=hW
 obtain ⟨p,q,hA0,hV,rfl,_,_⟩:=hW
 have hA:DataW.TrodAll enc Tryz.prog W 0 (fun _=>true) true Tryz.f5.params.toList args.toList ds p:=hA0
 rw [Tryz.params5] at hA hval
 obtain ⟨v0,v1,v2,d0,d1,d2,p0,p1,p2,rfl,rfl,rfl,h0,h1,h2⟩:=trodAll_three hA
 obtain ⟨rfl,rfl⟩:=trodVars_none hV
 obtain ⟨a0,b0,q0,n0,c0,S0,rfl,r0,f0⟩:=zm6 (hval 0 26 v0 rfl rfl) h0
 obtain ⟨S1,r1,f1⟩:=zqW (hval 1 24 v1 rfl rfl) h1
 obtain ⟨q2,c2,xs,rfl,r2,l2,b2,w2⟩:=zoa (hval 2 23 v2 rfl rfl) h2
 obtain ⟨q1,c1,rfl,l1,m1,t1⟩:=r1.row
 have bn:=r0.row.len
 rw [r0.row.lenR] at bn
 refine Calls.mono (zmS a0 b0 q0 n0 c0 S0 q1 S1.length c1 S1 xs q2 c2 W r0.row f0 ⟨q1,c1,rfl,l1,m1,t1⟩ f1 r2 l2 b2 w2 bn (by have:=r1.row.len;omega)) fun e W' ⟨he,hb⟩=>?_
 subst he
 exact ⟨_,rfl,znS 4 (by rw [Tryz.params5];exact of_decide_eq_true (by kernel_rfl)) (by kernel_rfl) Tryz.underlying4 rfl hW' rfl rfl rfl hb⟩
theorem updateBack_holds:Rows.UpdateBackSaid:=
 OpenClaim.holds_of_wide 5 Tryz.f5 rfl rfl rfl rfl rfl rfl rfl ⟨rfl,rfl,rfl,rfl,rfl⟩ rfl rfl rfl rfl rfl (by kernel_rfl) Tryz.func5 (by kernel_rfl)
  (of_decide_eq_true (by kernel_rfl)) (by unfold Func.isWrapper;first | (rw [if_pos (by decide +kernel)];kernel_rfl) | (rw [if_neg (by decide +kernel)];exact ⟨rfl,rfl⟩))
  (fun os started H enc _=>zeJ os started H enc)
#print axioms updateBack_holds
end
end Go.Proofs.YtedakhgaghfogaaGreat
