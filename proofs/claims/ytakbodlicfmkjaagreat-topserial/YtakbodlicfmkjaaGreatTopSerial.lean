/- For every world (a configuration, a log, a disk's capacity, how far it is fed, picks) the law TopSerial returns true, and the world reads as it did. No conditions. -/
import Derived.Test.YtakbodlicfmkjaaGreatGp54
import Derived.Test.YtakbodlicfmkjaaGreatTf20
set_option maxHeartbeats 8000000
set_option maxRecDepth 100000
set_option linter.unusedSimpArgs false
set_option linter.unusedVariables false
namespace Go.Proofs.YtakbodlicfmkjaaGreat.topSerial
open Go.ChangeShapes Go.WideShapes Go.ChangeAt Go.RowKit Go.Lib Go.Maps
theorem walk(l s x q:Int)(ao:Option Addr)(L cap:Nat)(ts:List Tm)(C fd:Int)(po:Option Addr)(P pc:Nat)(xs:List Int)(w:World)(hT:TRs w ao ts)(hL:L=ts.length)(hcap:L<=cap)(hP:Pks w po xs)(hPl:P=xs.length)(hpc:P<=pc)(hfd:i64 fd) :
  Calls Tryz.prog 3 #[.agg #[.int .i64 l,.int .i64 s,.int .i64 x,.int .i64 q,.slice ao L cap,.int .i64 C,.int .i64 fd,.slice po P pc]] w fun e w'=>e=.returned (.bool true)/\Fr [] w w':=Ap.topSerial_any hT hL hcap hP hPl hpc hfd
theorem zafz(os:Os)(started:os.Started)(H:Type)(enc:TypeId×Value->H) :
  ReturnsInHanded {} Tryz.checked os 3 .any (Rows.topSerialSpec.pre6 enc Tryz.prog Tryz.f3 Rows.topSerialRow.domain false) (Rows.topSerialSpec.post enc Tryz.prog Tryz.f3 false true false false):=by
 refine returnsInHanded_of_change_sized (C:=Tryz.checked) own started (by kernel_rfl) Tryz.func3
  (ChangeSpec.witness6 (enc:=enc) (C:=Tryz.checked) false ⟨#[],#[.agg #[.int .i64 0,.int .i64 0,.int .i64 0,.int .i64 0,.slice none 0 0,.int .i64 0,.int .i64 0,.slice none 0 0]],[]⟩ 8 (by kernel_rfl) (by kernel_rfl) (by kernel_rfl) (by kernel_rfl)) ?_
 intro W base args ds gs before hval0 hW hcnd hsz0 _;have hval:∀(j:Nat) t v,Tryz.f3.params[j]? = some t->args[j]? = some v->Value.okWide Tryz.prog W .any base t v:=hval0;have hsz:(DataW.weightsEach Tryz.prog (Tryz.f3.params.toList++Rows.topSerialSpec.plain.varTypes Tryz.prog) (ds++gs)).all (· <= reachBytes)=true:=hsz0;have hW':=hW;obtain⟨p,q,hA0,hV,rfl,hfz,hnd⟩:=hW;have hA:DataW.TrodAll enc Tryz.prog W 0 (fun _=>true) true Tryz.f3.params.toList args.toList ds p:=hA0;rw[Tryz.params3]at hA hval hsz
 obtain⟨v0,vs0,d0,ds0,p0,q0,hargs,rfl,rfl,h0,r0⟩:=trodAll_cons hA;obtain⟨rfl,rfl,rfl⟩:=trodAll_nil r0;obtain rfl:args= #[v0]:=by cases args;simp_all
 obtain⟨rfl,rfl⟩:=trodVars_none hV;obtain⟨cs0,rfl,_⟩:=okWide_struct Tryz.underlying27 (hval 0 27 v0 rfl rfl);have k0:=h0;have lt0:∀x∈p0,x.block<W.heap.size:=by obtain⟨m,hm⟩:=k0;exact DataW.trod_lt m _ _ _ hm
 obtain⟨ca0,cb0,cc0,cd0,a0,len0,cap0,ts0,C0,fd0,po0,P0,pc0,xs0,rfl,hT0,hL0,hC0,hP0,hPl0,hpc0,hfd0⟩:∃(a b c d:Int)(ao:Option Addr)(L cap:Nat)(ts:List Tm)(C fd:Int)(po:Option Addr)(P pc:Nat)(xs:List Int),cs0= #[.int .i64 a,.int .i64 b,.int .i64 c,.int .i64 d,.slice ao L cap,.int .i64 C,.int .i64 fd,.slice po P pc]/\TRs W ao ts/\L=ts.length/\L<=cap/\Pks W po xs/\P=xs.length/\P<=pc/\i64 fd:=by
  obtain⟨fuel,hf⟩:=h0;obtain⟨a,b,c,d,ao,L,cap,ts,C,fd,po,P,pc,xs,e,_,h2,h3,h4,_,h6,h7,h8,h9⟩:=Ap.world_open hf (fun n hn=>of_decide_eq_true (List.all_eq_true.1 hsz n (DataW.weights_mem_each (j:=0) (t:=27) rfl rfl n hn)));exact⟨a,b,c,d,ao,L,cap,ts,C,fd,po,P,pc,xs,by cases cs0;simpa[Value.cells]using e,h2,h3,h4,h7,h8,h9,h6⟩
 clear hA0 hval0;refine (walk ca0 cb0 cc0 cd0 a0 len0 cap0 ts0 C0 fd0 po0 P0 pc0 xs0 W hT0 hL0 hC0 hP0 hPl0 hpc0 hfd0).mono fun e W' ⟨he,hf⟩=> ?_;subst he;have bel:Below W.heap.size W W':=hf.below (Nat.le_refl _) (by simp);exact⟨_,rfl,_,_,_,[],_,[],hW',trodAll_mk1 (shut_bool Tryz.underlying4 _),(trodAll_cons_mk (Below.trod zaem (by kernel_rfl) (of_decide_eq_true (by kernel_rfl)) k0 bel lt0) trodAll_mk0),rfl,bel.frame _,fun h=>by cases h⟩
theorem over:Rows.topSerialRow.holds Tryz.pinned (OpenSpec.ofChange Rows.topSerialSpec):=
 OpenClaim.holds_of_wide 3 Tryz.f3 rfl rfl rfl rfl rfl rfl rfl ⟨rfl,rfl,rfl,rfl,rfl⟩ rfl rfl rfl rfl rfl named Tryz.func3 zun inst wrap
  (fun os started H enc _=>zafz os started H enc)
end Go.Proofs.YtakbodlicfmkjaaGreat.topSerial
namespace Go.Proofs.YtakbodlicfmkjaaGreat
theorem topserial_holds:Rows.TopSerialSaid:=topSerial.over
#print axioms topserial_holds
end Go.Proofs.YtakbodlicfmkjaaGreat
