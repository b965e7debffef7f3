/- For every configuration, log and pair the law PlanApart returns true, and the log reads as it did. What comes in: of bulk at most 1048576. -/
import Derived.Test.YtaigdcmoecgabaaGreatGp54
import Derived.Test.YtaigdcmoecgabaaGreatTf20
set_option maxHeartbeats 8000000
set_option maxRecDepth 100000
set_option linter.unusedVariables false
namespace Go.Proofs.YtaigdcmoecgabaaGreat.planApart
open Go.ChangeShapes Go.WideShapes Go.ChangeAt Go.RowKit Go.Lib Go.ChangeMaps
theorem walk(l s x q:Int)(ao:Option Addr)(L cap:Nat)(ts:List Tm)(i j:Int)(w:World)(hc:Cf.ok ⟨l,s,x,q⟩)(hT:TRs w ao ts)(hL:L=ts.length)(hcap:L<=cap)(hi:i64 i)(hj:i64 j)(hL2:L<2 ^ 21)(hfew:Few ts) :
  Calls Tryz.prog 3 #[.agg #[.int .i64 l,.int .i64 s,.int .i64 x,.int .i64 q],.slice ao L cap,.agg #[.int .i64 i,.int .i64 j]] w fun e w'=>e=.returned (.bool true)/\Fr [] w w':=zakv w hT hL hcap hL2 hfew hi hj zsw
theorem ztw:laidOutB Tryz.prog=true:=by kernel_rfl
theorem zaju(os:Os)(started:os.Started)(H:Type)(enc:TypeId×Value->H)(F:Stop.Interp) :
  ReturnsInHanded {} Tryz.checked os 3 .any ((Rows.OpenSpec.upto Rows.planApartSpec).pre6 enc Tryz.prog Tryz.f3 Rows.planApartUptoRow.domain false) (((Rows.OpenSpec.upto Rows.planApartSpec).at F).post enc Tryz.prog Tryz.f3 false true false false):=by
 refine returnsInHanded_of_cond_sized (C:=Tryz.checked) (s:=Rows.OpenSpec.upto Rows.planApartSpec) (k:=Rows.uptoSmall) rfl own started (by kernel_rfl) Tryz.func3
  (OpenSpec.witness (enc:=enc) (C:=Tryz.checked) (s:=Rows.OpenSpec.upto Rows.planApartSpec) (k:=Rows.uptoSmall) rfl false ⟨#[],#[.agg #[.int .i64 0,.int .i64 0,.int .i64 0,.int .i64 0],.slice none 0 0,.agg #[.int .i64 0,.int .i64 0]],[]⟩ 8 (by kernel_rfl) (by kernel_rfl) (by kernel_rfl)
   (x:=([.agg [.lit (.int .i64 0),.lit (.int .i64 0),.lit (.int .i64 0),.lit (.int .i64 0)],.nil,.agg [.lit (.int .i64 0),.lit (.int .i64 0)]],[],[])) (by kernel_rfl) rfl (by kernel_rfl)) ?_
 intro W base args ds gs before hval0 hW0 hcnd hk hsz0 _;have hW:DataW.Whole enc Tryz.prog Tryz.f3.params.toList Rows.planApartSpec.vars false W args.toList ds gs before:=hW0;show Calls Tryz.prog 3 args W fun e W'=>∃v,e=.returned v/\Rows.planApartSpec.post enc Tryz.prog Tryz.f3 false true false false W args v W';have hval:∀(j:Nat) t v,Tryz.f3.params[j]? = some t->args[j]? = some v->Value.okWide Tryz.prog W .any base t v:=hval0;have hsz:(DataW.weightsEach Tryz.prog (Tryz.f3.params.toList++Rows.planApartSpec.plain.varTypes Tryz.prog) (ds++gs)).all (· <= reachBytes)=true:=hsz0;have hW':=hW;obtain⟨p,q,hA0,hV,rfl,hfz,hnd⟩:=hW;have hA:DataW.TrodAll enc Tryz.prog W 0 (fun _=>true) true Tryz.f3.params.toList args.toList ds p:=hA0;rw[Tryz.params3]at hA hval hsz
 obtain⟨v0,vs0,d0,ds0,p0,q0,hargs,rfl,rfl,h0,r0⟩:=trodAll_cons hA;obtain⟨v1,vs1,d1,ds1,p1,q1,rfl,rfl,rfl,h1,r1⟩:=trodAll_cons r0;obtain⟨v2,vs2,d2,ds2,p2,q2,rfl,rfl,rfl,h2,r2⟩:=trodAll_cons r1;obtain⟨rfl,rfl,rfl⟩:=trodAll_nil r2;obtain rfl:args= #[v0,v1,v2]:=by cases args;simp_all
 obtain⟨rfl,rfl⟩:=trodVars_none hV;obtain⟨cs0,rfl,_⟩:=okWide_struct Tryz.underlying23 (hval 0 23 v0 rfl rfl);have k0:=h0;have lt0:∀x∈p0,x.block<W.heap.size:=by obtain⟨m,hm⟩:=k0;exact DataW.trod_lt m _ _ _ hm
 obtain⟨ca0,cb0,cc0,cd0,rfl,hB0⟩:∃(a b c d:Int),cs0= #[.int .i64 a,.int .i64 b,.int .i64 c,.int .i64 d]/\Cf.ok ⟨a,b,c,d⟩:=by
  obtain⟨fuel,hf⟩:=h0;obtain⟨a,b,c,d,e,hk⟩:=zael hf;exact⟨a,b,c,d,by cases cs0;simpa[Value.cells]using e,hk⟩
 have k1:=h1;have lt1:∀x∈p1,x.block<W.heap.size:=by obtain⟨m,hm⟩:=k1;exact DataW.trod_lt m _ _ _ hm
 obtain⟨a1,len1,cap1,ts1,rfl,hB1,hL1,hC1⟩:∃ao L cap ts,v1=.slice ao L cap/\TRs W ao ts/\L=ts.length/\L<=cap:=by
  obtain⟨fuel,hf⟩:=h1;obtain⟨ao,L,cap,rfl⟩:=okWide_slice zhh (hval 1 24 v1 rfl rfl);exact zaho hf (fun n hn=>of_decide_eq_true (List.all_eq_true.1 hsz n (DataW.weights_mem_each (j:=1) (t:=24) rfl rfl n hn)))
 obtain⟨cs2,rfl,_⟩:=okWide_struct Tryz.underlying26 (hval 2 26 v2 rfl rfl);have k2:=h2;have lt2:∀x∈p2,x.block<W.heap.size:=by obtain⟨m,hm⟩:=k2;exact DataW.trod_lt m _ _ _ hm
 obtain⟨ca2,cb2,rfl,hB2,hD2⟩:∃(a b:Int),cs2= #[.int .i64 a,.int .i64 b]/\i64 a/\i64 b:=by
  obtain⟨fuel,hf⟩:=h2;obtain⟨a,b,e,hk⟩:=zalb hf;exact⟨a,b,by cases cs2;simpa[Value.cells]using e,hk⟩
 have hb:Rows.uptoBulkAll ([d0,d1,d2]++[])<=1048576:=of_decide_eq_true hk;simp only[List.append_nil,Rows.uptoBulkAll]at hb;have hM0:len1<2 ^ 21:=by
  obtain⟨m,hm⟩:=k1;have:=zmh zhh hm;simp only at this;omega
 have hM1:Few ts1:=fun t ht=>by
  obtain⟨m,hm⟩:=k1;have:=zadj (x:=(d1,p1)) hm hB1 hL1 t ht;simp only at this;omega
 clear hA0 hval0 hW0;refine (walk ca0 cb0 cc0 cd0 a1 len1 cap1 ts1 ca2 cb2 W hB0 hB1 hL1 hC1 hB2 hD2 hM0 hM1).mono fun e W' ⟨he,hf⟩=> ?_;subst he;have bel:Below W.heap.size W W':=hf.below (Nat.le_refl _) (by simp);exact⟨_,rfl,_,_,_,[],_,[],hW',trodAll_mk1 (shut_bool Tryz.underlying4 _),(trodAll_cons_mk (Below.trod ztw (by kernel_rfl) (of_decide_eq_true (by kernel_rfl)) k0 bel lt0) (trodAll_cons_mk (Below.trod ztw (by kernel_rfl) (of_decide_eq_true (by kernel_rfl)) k1 bel lt1) (trodAll_cons_mk (Below.trod ztw (by kernel_rfl) (of_decide_eq_true (by kernel_rfl)) k2 bel lt2) trodAll_mk0))),rfl,bel.frame _,fun h=>by cases h⟩
theorem over:Rows.PlanApartUptoSaid:=
 OpenClaim.holds_of_cond 3 Tryz.f3 rfl rfl rfl rfl rfl rfl rfl ⟨rfl,rfl,rfl,rfl,rfl⟩ rfl rfl rfl rfl rfl named Tryz.func3 zos inst wrap
  (fun os started H enc _ F=>zaju os started H enc F)
end Go.Proofs.YtaigdcmoecgabaaGreat.planApart
namespace Go.Proofs.YtaigdcmoecgabaaGreat
theorem planapartupto_holds:Rows.PlanApartUptoSaid:=planApart.over
#print axioms planapartupto_holds
end Go.Proofs.YtaigdcmoecgabaaGreat
