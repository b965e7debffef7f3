/- For every configuration and number the law PlanEvery returns true. No conditions. -/
import Derived.Test.YtaigdcmoecgabaaGreatGp54
import Derived.Test.YtaigdcmoecgabaaGreatTf20
set_option maxHeartbeats 8000000
set_option maxRecDepth 100000
set_option linter.unusedVariables false
namespace Go.Proofs.YtaigdcmoecgabaaGreat.planEvery
open Go.ChangeShapes Go.WideShapes Go.ChangeAt Go.RowKit Go.Lib Go.ChangeMaps
theorem walk(l s x q:Int)(m:Nat)(hm:m<256)(w:World)(hc:Cf.ok ⟨l,s,x,q⟩) :
  Calls Tryz.prog 5 #[.agg #[.int .i64 l,.int .i64 s,.int .i64 x,.int .i64 q],.int .u8 (m:Int)] w fun e w'=>e=.returned (.bool true)/\Fr [] w w':=zakx w m hm zsw
theorem ztw:laidOutB Tryz.prog=true:=by kernel_rfl
theorem zaju(os:Os)(started:os.Started)(H:Type)(enc:TypeId×Value->H) :
  ReturnsInHanded {} Tryz.checked os 5 .any (Rows.planEverySpec.pre6 enc Tryz.prog Tryz.f5 Rows.planEveryRow.domain false) (Rows.planEverySpec.post enc Tryz.prog Tryz.f5 false true false false):=by
 refine returnsInHanded_of_change_sized (C:=Tryz.checked) own started (by kernel_rfl) Tryz.func5
  (ChangeSpec.witness6 (enc:=enc) (C:=Tryz.checked) false ⟨#[],#[.agg #[.int .i64 0,.int .i64 0,.int .i64 0,.int .i64 0],.int .u8 0],[]⟩ 8 (by kernel_rfl) (by kernel_rfl) (by kernel_rfl) (by kernel_rfl)) ?_
 intro W base args ds gs before hval0 hW hcnd hsz0 _;have hval:∀(j:Nat) t v,Tryz.f5.params[j]? = some t->args[j]? = some v->Value.okWide Tryz.prog W .any base t v:=hval0;have hsz:(DataW.weightsEach Tryz.prog (Tryz.f5.params.toList++Rows.planEverySpec.plain.varTypes Tryz.prog) (ds++gs)).all (· <= reachBytes)=true:=hsz0;have hW':=hW;obtain⟨p,q,hA0,hV,rfl,hfz,hnd⟩:=hW;have hA:DataW.TrodAll enc Tryz.prog W 0 (fun _=>true) true Tryz.f5.params.toList args.toList ds p:=hA0;rw[Tryz.params5]at hA hval hsz
 obtain⟨v0,vs0,d0,ds0,p0,q0,hargs,rfl,rfl,h0,r0⟩:=trodAll_cons hA;obtain⟨v1,vs1,d1,ds1,p1,q1,rfl,rfl,rfl,h1,r1⟩:=trodAll_cons r0;obtain⟨rfl,rfl,rfl⟩:=trodAll_nil r1;obtain rfl:args= #[v0,v1]:=by cases args;simp_all
 obtain⟨rfl,rfl⟩:=trodVars_none hV;obtain⟨cs0,rfl,_⟩:=okWide_struct Tryz.underlying23 (hval 0 23 v0 rfl rfl);have k0:=h0;have lt0:∀x∈p0,x.block<W.heap.size:=by obtain⟨m,hm⟩:=k0;exact DataW.trod_lt m _ _ _ hm
 obtain⟨ca0,cb0,cc0,cd0,rfl,hB0⟩:∃(a b c d:Int),cs0= #[.int .i64 a,.int .i64 b,.int .i64 c,.int .i64 d]/\Cf.ok ⟨a,b,c,d⟩:=by
  obtain⟨fuel,hf⟩:=h0;obtain⟨a,b,c,d,e,hk⟩:=zael hf;exact⟨a,b,c,d,by cases cs0;simpa[Value.cells]using e,hk⟩
 obtain⟨n1,rfl,rfl,rfl,w1⟩:=open_int Tryz.underlying5 (hval 1 5 v1 rfl rfl) h1;have b1:=bounds_u8 w1;obtain⟨m1,rfl⟩:∃m:Nat,n1=(m:Int):=⟨n1.toNat,by omega⟩;clear hA0 hval0;refine (walk ca0 cb0 cc0 cd0 m1 (by omega) W hB0).mono fun e W' ⟨he,hf⟩=> ?_;subst he;have bel:Below W.heap.size W W':=hf.below (Nat.le_refl _) (by simp);exact⟨_,rfl,_,_,_,[],_,[],hW',trodAll_mk1 (shut_bool Tryz.underlying4 _),(trodAll_cons_mk (Below.trod ztw (by kernel_rfl) (of_decide_eq_true (by kernel_rfl)) k0 bel lt0) (trodAll_cons_mk (shut_int Tryz.underlying5 w1) trodAll_mk0)),rfl,bel.frame _,fun h=>by cases h⟩
theorem over:Rows.planEveryRow.holds Tryz.pinned (OpenSpec.ofChange Rows.planEverySpec):=
 OpenClaim.holds_of_wide 5 Tryz.f5 rfl rfl rfl rfl rfl rfl rfl ⟨rfl,rfl,rfl,rfl,rfl⟩ rfl rfl rfl rfl rfl named Tryz.func5 zos inst wrap
  (fun os started H enc _=>zaju os started H enc)
end Go.Proofs.YtaigdcmoecgabaaGreat.planEvery
namespace Go.Proofs.YtaigdcmoecgabaaGreat
theorem planevery_holds:Rows.PlanEverySaid:=planEvery.over
#print axioms planevery_holds
end Go.Proofs.YtaigdcmoecgabaaGreat
