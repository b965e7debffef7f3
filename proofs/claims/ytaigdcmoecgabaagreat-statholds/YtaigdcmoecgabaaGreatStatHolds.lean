/- For every world (a configuration, a log, a disk's capacity) and every row of picks the law StatHolds returns true, and both read as they did. No conditions. -/
import Derived.Test.YtaigdcmoecgabaaGreatGp54
import Derived.Test.YtaigdcmoecgabaaGreatTf20
set_option maxHeartbeats 8000000
set_option maxRecDepth 100000
set_option linter.unusedSimpArgs false
set_option linter.unusedVariables false
namespace Go.Proofs.YtaigdcmoecgabaaGreat.statHolds
open Go.ChangeShapes Go.WideShapes Go.ChangeAt Go.RowKit Go.Lib Go.Maps
theorem walk(l s x q:Int)(ao:Option Addr)(L cap:Nat)(ts:List Tm)(C:Int)(po:Option Addr)(P pc:Nat)(xs:List Int)(w:World)(hT:TRs w ao ts)(hL:L=ts.length)(hcap:L<=cap)(hP:Pks w po xs)(hPl:P=xs.length)(hpc:P<=pc) :
  Calls Tryz.prog 6 #[.agg #[.int .i64 l,.int .i64 s,.int .i64 x,.int .i64 q,.slice ao L cap,.int .i64 C],.slice po P pc] w fun e w'=>e=.returned (.bool true)/\Fr [] w w':=Ap.statHolds_any hT hL hcap hP hPl hpc
theorem zqe:laidOutB Tryz.prog=true:=by kernel_rfl
theorem zadc(os:Os)(started:os.Started)(H:Type)(enc:TypeId×Value->H) :
  ReturnsInHanded {} Tryz.checked os 6 .any (Rows.statHoldsSpec.pre6 enc Tryz.prog Tryz.f6 Rows.statHoldsRow.domain false) (Rows.statHoldsSpec.post enc Tryz.prog Tryz.f6 false true false false):=by
 refine returnsInHanded_of_change_sized (C:=Tryz.checked) own started (by kernel_rfl) Tryz.func6
  (ChangeSpec.witness6 (enc:=enc) (C:=Tryz.checked) false ⟨#[],#[.agg #[.int .i64 0,.int .i64 0,.int .i64 0,.int .i64 0,.slice none 0 0,.int .i64 0],.slice none 0 0],[]⟩ 8 (by kernel_rfl) (by kernel_rfl) (by kernel_rfl) (by kernel_rfl)) ?_
 intro W base args ds gs before hval0 hW hcnd hsz0 _;have hval:∀(j:Nat) t v,Tryz.f6.params[j]? = some t->args[j]? = some v->Value.okWide Tryz.prog W .any base t v:=hval0;have hsz:(DataW.weightsEach Tryz.prog (Tryz.f6.params.toList++Rows.statHoldsSpec.plain.varTypes Tryz.prog) (ds++gs)).all (· <= reachBytes)=true:=hsz0;have hW':=hW;obtain⟨p,q,hA0,hV,rfl,hfz,hnd⟩:=hW;have hA:DataW.TrodAll enc Tryz.prog W 0 (fun _=>true) true Tryz.f6.params.toList args.toList ds p:=hA0;rw[Tryz.params6]at hA hval hsz
 obtain⟨v0,vs0,d0,ds0,p0,q0,hargs,rfl,rfl,h0,r0⟩:=trodAll_cons hA;obtain⟨v1,vs1,d1,ds1,p1,q1,rfl,rfl,rfl,h1,r1⟩:=trodAll_cons r0;obtain⟨rfl,rfl,rfl⟩:=trodAll_nil r1;obtain rfl:args= #[v0,v1]:=by cases args;simp_all
 obtain⟨rfl,rfl⟩:=trodVars_none hV;obtain⟨cs0,rfl,_⟩:=okWide_struct Tryz.underlying57 (hval 0 57 v0 rfl rfl);have k0:=h0;have lt0:∀x∈p0,x.block<W.heap.size:=by obtain⟨m,hm⟩:=k0;exact DataW.trod_lt m _ _ _ hm
 obtain⟨ca0,cb0,cc0,cd0,a0,len0,cap0,ts0,C0,rfl,hT0,hL0,hC0⟩:∃(a b c d:Int)(ao:Option Addr)(L cap:Nat)(ts:List Tm)(C:Int),cs0= #[.int .i64 a,.int .i64 b,.int .i64 c,.int .i64 d,.slice ao L cap,.int .i64 C]/\TRs W ao ts/\L=ts.length/\L<=cap:=by
  obtain⟨fuel,hf⟩:=h0;obtain⟨a,b,c,d,ao,L,cap,ts,C,e,_,h2,h3,h4,_⟩:=Ap.world20_open hf (fun n hn=>of_decide_eq_true (List.all_eq_true.1 hsz n (DataW.weights_mem_each (j:=0) (t:=57) rfl rfl n hn)));exact⟨a,b,c,d,ao,L,cap,ts,C,by cases cs0;simpa[Value.cells]using e,h2,h3,h4⟩
 have k1:=h1;have lt1:∀x∈p1,x.block<W.heap.size:=by obtain⟨m,hm⟩:=k1;exact DataW.trod_lt m _ _ _ hm
 obtain⟨po0,P0,pc0,xs0,rfl,hP0,hPl0,hpc0⟩:∃ao L cap ns,v1=.slice ao L cap/\Pks W ao ns/\L=ns.length/\L<=cap:=by
  obtain⟨fuel,hf⟩:=h1;obtain⟨ao,L,cap,rfl⟩:=okWide_slice Ap.Tryz.undIs20 (hval 1 28 v1 rfl rfl);exact Ap.is20_open hf (fun n hn=>of_decide_eq_true (List.all_eq_true.1 hsz n (DataW.weights_mem_each (j:=1) (t:=28) rfl rfl n hn)))
 clear hA0 hval0;refine (walk ca0 cb0 cc0 cd0 a0 len0 cap0 ts0 C0 po0 P0 pc0 xs0 W hT0 hL0 hC0 hP0 hPl0 hpc0).mono fun e W' ⟨he,hf⟩=> ?_;subst he;have bel:Below W.heap.size W W':=hf.below (Nat.le_refl _) (by simp);exact⟨_,rfl,_,_,_,[],_,[],hW',trodAll_mk1 (shut_bool Tryz.underlying4 _),(trodAll_cons_mk (Below.trod zqe (by kernel_rfl) (of_decide_eq_true (by kernel_rfl)) k0 bel lt0) (trodAll_cons_mk (Below.trod zqe (by kernel_rfl) (of_decide_eq_true (by kernel_rfl)) k1 bel lt1) trodAll_mk0)),rfl,bel.frame _,fun h=>by cases h⟩
theorem over:Rows.statHoldsRow.holds Tryz.pinned (OpenSpec.ofChange Rows.statHoldsSpec):=
 OpenClaim.holds_of_wide 6 Tryz.f6 rfl rfl rfl rfl rfl rfl rfl ⟨rfl,rfl,rfl,rfl,rfl⟩ rfl rfl rfl rfl rfl named Tryz.func6 zry inst wrap
  (fun os started H enc _=>zadc os started H enc)
end Go.Proofs.YtaigdcmoecgabaaGreat.statHolds
namespace Go.Proofs.YtaigdcmoecgabaaGreat
theorem statholds_holds:Rows.StatHoldsSaid:=statHolds.over
#print axioms statholds_holds
end Go.Proofs.YtaigdcmoecgabaaGreat
