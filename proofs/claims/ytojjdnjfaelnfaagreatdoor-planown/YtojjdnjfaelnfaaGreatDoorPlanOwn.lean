/- For every configuration and log the law PlanOwn returns true, and the log reads as it did. No conditions but the card's. -/
import Derived.Test.YtojjdnjfaelnfaaGreatDoorGp49
import Derived.Test.YtojjdnjfaelnfaaGreatDoorGp50
import Derived.Test.YtojjdnjfaelnfaaGreatDoorGp51
import Derived.Test.YtojjdnjfaelnfaaGreatDoorGp52
import Derived.Stop.LaidErr
import Derived.Lib.LaidTab
set_option maxHeartbeats 4000000
set_option maxRecDepth 100000
set_option linter.unusedVariables false
namespace Go.Proofs.YtojjdnjfaelnfaaGreatDoor.planOwn
open Go.ChangeShapes Go.WideShapes Go.ChangeAt Go.RowKit Go.Lib
theorem walk(l s x q:Int)(ao:Option Addr)(L cap:Nat)(ts:List Tm)(w:World)(hc:Cf.ok ⟨l,s,x,q⟩)(hT:TRs w ao ts)(hL:L=ts.length)(hcap:L<=cap) :
  Calls Tryz.prog 3 #[.agg #[.int .i64 l,.int .i64 s,.int .i64 x,.int .i64 q],.slice ao L cap] w fun e w'=>e=.returned (.bool true)/\Fr [] w w':=zto w hT hL hcap ztp
theorem zadk(os:Os)(args:Array Value):laidMetH Tryz.prog Rows.planOwnRow.laid ((World.doorLaid Tryz.prog 4000 os).forCall (fun _ _=>0) ⟨#[],args,[]⟩).memory:=
 laidMetH_of_parts3 (fuel:=8) (laidMet_of_run' 8 (by kernel_rfl) (by kernel_rfl)) (by kernel_rfl) (by kernel_rfl)
theorem zajw(os:Os)(started:os.Started)(H:Type)(enc:TypeId×Value->H) :
  ReturnsInHanded {} Tryz.checked os 3 .any (fun w args=>(Rows.planOwnSpec.pre enc Tryz.prog Tryz.f3 [] false w args/\laidMetH Tryz.prog Rows.planOwnRow.laid w)/\sizedMet enc Tryz.prog Tryz.f3 (OpenSpec.ofChange Rows.planOwnSpec) false w args)
   (Rows.planOwnSpec.post enc Tryz.prog Tryz.f3 false true false false):=by
 refine returnsInHanded_of_change_and (C:=Tryz.checked) (X:=fun w _=>laidMetH Tryz.prog Rows.planOwnRow.laid w) (fun _ _ _ hh h=>h.of_heap hh) own started (by kernel_rfl) Tryz.func3
  (ChangeSpec.witness_shaped (enc:=enc) (C:=Tryz.checked) (os:=os) (X:=fun w _=>laidMetH Tryz.prog Rows.planOwnRow.laid w) false (World.doorLaid Tryz.prog 4000 os) #[.agg #[.int .i64 0,.int .i64 0,.int .i64 0,.int .i64 0],.slice none 0 0] 8 rfl (World.shaped_of_RefB (by kernel_rfl) (by kernel_rfl)) (by kernel_rfl) (by kernel_rfl) (by kernel_rfl) (zadk os _)) ?_
 intro W base args ds gs before hval0 hW _ hsz0 hL _;have hval:∀(j:Nat) t v,Tryz.f3.params[j]? = some t->args[j]? = some v->Value.okWide Tryz.prog W .any base t v:=hval0;have hsz:(DataW.weightsEach Tryz.prog (Tryz.f3.params.toList++Rows.planOwnSpec.plain.varTypes Tryz.prog) (ds++gs)).all (· <= reachBytes)=true:=hsz0;have hW':=hW;obtain⟨p,q,hA0,hV,rfl,hfz,hnd⟩:=hW;have hA:DataW.TrodAll enc Tryz.prog W 0 (fun _=>true) true Tryz.f3.params.toList args.toList ds p:=hA0;rw[Tryz.params3]at hA hval hsz
 obtain⟨v0,vs0,d0,ds0,p0,q0,hargs,rfl,rfl,h0,r0⟩:=trodAll_cons hA;obtain⟨v1,vs1,d1,ds1,p1,q1,rfl,rfl,rfl,h1,r1⟩:=trodAll_cons r0;obtain⟨rfl,rfl,rfl⟩:=trodAll_nil r1;obtain rfl:args= #[v0,v1]:=by cases args;simp_all
 obtain⟨rfl,rfl⟩:=trodVars_none hV;obtain⟨cs0,rfl,_⟩:=okWide_struct Tryz.underlying23 (hval 0 23 v0 rfl rfl);have k0:=h0;have lt0:∀x∈p0,x.block<W.heap.size:=by obtain⟨m,hm⟩:=k0;exact DataW.trod_lt m _ _ _ hm
 obtain⟨ca0,cb0,cc0,cd0,rfl,hB0⟩:∃(a b c d:Int),cs0= #[.int .i64 a,.int .i64 b,.int .i64 c,.int .i64 d]/\Cf.ok ⟨a,b,c,d⟩:=by
  obtain⟨fuel,hf⟩:=h0;obtain⟨a,b,c,d,e,hk⟩:=zaem hf;exact⟨a,b,c,d,by cases cs0;simpa[Value.cells]using e,hk⟩
 have k1:=h1;have lt1:∀x∈p1,x.block<W.heap.size:=by obtain⟨m,hm⟩:=k1;exact DataW.trod_lt m _ _ _ hm
 obtain⟨a1,len1,cap1,ts1,rfl,hB1,hL1,hC1⟩:∃ao L cap ts,v1=.slice ao L cap/\TRs W ao ts/\L=ts.length/\L<=cap:=by
  obtain⟨fuel,hf⟩:=h1;obtain⟨ao,L,cap,rfl⟩:=okWide_slice zmh (hval 1 24 v1 rfl rfl);exact zahk hf (fun n hn=>of_decide_eq_true (List.all_eq_true.1 hsz n (DataW.weights_mem_each (j:=1) (t:=24) rfl rfl n hn)))
 clear hA0 hval0;refine (walk ca0 cb0 cc0 cd0 a1 len1 cap1 ts1 W hB0 hB1 hL1 hC1).mono fun e W' ⟨he,hf⟩=> ?_;subst he;have bel:Below W.heap.size W W':=hf.below (Nat.le_refl _) (by simp);exact⟨_,rfl,_,_,_,[],_,[],hW',trodAll_mk1 (shut_bool Tryz.underlying4 _),(trodAll_cons_mk (Below.trod zun (by kernel_rfl) (of_decide_eq_true (by kernel_rfl)) k0 bel lt0) (trodAll_cons_mk (Below.trod zun (by kernel_rfl) (of_decide_eq_true (by kernel_rfl)) k1 bel lt1) trodAll_mk0)),rfl,bel.frame _,fun h=>by cases h⟩
theorem over:Rows.planOwnRow.holds Tryz.pinned (OpenSpec.ofChange Rows.planOwnSpec):=
 OpenClaim.holds_of_wide 3 Tryz.f3 rfl rfl rfl rfl rfl rfl rfl ⟨rfl,rfl,rfl,rfl,rfl⟩ rfl rfl rfl rfl rfl named Tryz.func3 facts inst wrap
  (fun os started H enc _=>zajw os started H enc)
theorem card_holds:Claim7.holds Tryz.pinned (.plain (OpenSpec.ofChange Rows.planOwnSpec)) Rows.planOwnCard:=
 Claim7.holds_tied_plain_at .later [] [.data,.data,.data] true (true, "ad5a98068c0b4af92b11a503bb92e7982bbbe57984eb2d03111f7e95381a17ac") true
  over (fun _ h=>by cases h) c_wf (fun _ h=>by cases h) planOwn_row_tie rfl ⟨rfl,rfl⟩ zajt rfl
  (fun f fn hf hfn=>by
   obtain rfl:f=3:=(Option.some.inj (named.symm.trans hf)).symm;obtain rfl:fn=Tryz.f3:=(Option.some.inj (Tryz.func3.symm.trans hfn)).symm;exact⟨zahl,fun j t ht=>by
    rw[Tryz.params3]at ht
    have hm:t∈[23,24]:=(by simpa using Array.mem_of_getElem? ht);exact zajv t (by simpa using hm)⟩)
  zaju
end Go.Proofs.YtojjdnjfaelnfaaGreatDoor.planOwn
namespace Go.Proofs.YtojjdnjfaelnfaaGreatDoor
theorem planown_holds:Rows.PlanOwnCardSaid:=planOwn.card_holds
#print axioms planown_holds
end Go.Proofs.YtojjdnjfaelnfaaGreatDoor
