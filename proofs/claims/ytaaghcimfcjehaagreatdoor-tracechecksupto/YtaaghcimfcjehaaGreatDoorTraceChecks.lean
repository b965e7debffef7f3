/- For every story that is told, of bulk at most 1048576, the law TraceChecks returns true, and it reads as it did. No conditions but that the tasks' names lie as the program lays them. -/
import Derived.Test.YtaaghcimfcjehaaGreatDoorGp32
import Derived.Test.YtaaghcimfcjehaaGreatDoorGp52
import Derived.Test.YtaaghcimfcjehaaGreatDoorGp9
import Derived.Test.YtaaghcimfcjehaaGreatDoorTie
import Derived.Test.YtaaghcimfcjehaaGreatDoorCards
import Derived.LaidMore
import Derived.SevenTiedAt
import Derived.Stop.Joined
import Derived.Stop.LaidErr
import Derived.Lib.LaidTab
import Derived.MakeChecks
import Derived.Deep.DeepHandedRow
import Derived.Deep.DeepWitnessRowRef
set_option linter.unusedVariables false
set_option maxHeartbeats 4000000
set_option maxRecDepth 100000
namespace Go.Proofs.YtaaghcimfcjehaaGreatDoor.traceChecks
open Go.ChangeShapes Go.WideShapes Go.ChangeAt Go.RowKit Go.Lib
theorem own:ownKnob Tryz.prog.godebug=none:=by kernel_rfl
theorem zym:laidOutB Tryz.prog=true:=by kernel_rfl
theorem zvt (os:Os) (args:Array Value):laidMetH Tryz.prog Rows.traceChecksUptoRow.laid ((World.doorLaid Tryz.prog 4000 os).forCall (fun _ _=>0) ⟨#[],args,[]⟩).memory :=
 laidMetH_of_parts3 (fuel:=8) (laidMet_of_run' 8 (by kernel_rfl) (by kernel_rfl)) (by kernel_rfl) (by kernel_rfl)
theorem zvu {W:World} (h:laidMetH Tryz.prog Rows.traceChecksUptoRow.laid W):Nms W:=by
 rw[Go.MakeChecks.laidMetH_plain _ _ _ (by kernel_rfl)]at h
 exact zzo h
theorem reads (os:Os) {H:Type} (enc:TypeId×Value->H): ∃places,DataW.whole enc Tryz.prog ((World.doorLaid Tryz.prog 4000 os).forCall (fun _ _=>0) ⟨#[],#[.agg #[.int .i64 0,.int .i64 0,.int .i64 0,.int .i64 0,.slice none 0 0,.int .i64 0,.slice none 0 0,.slice none 0 0,.slice none 0 0]],[]⟩).memory Tryz.f3.params.toList Rows.traceChecksSpec.vars false #[Value.agg #[.int .i64 0,.int .i64 0,.int .i64 0,.int .i64 0,.slice none 0 0,.int .i64 0,.slice none 0 0,.slice none 0 0,.slice none 0 0]].toList 8=some ([.agg [.agg [.lit (.int .i64 0),.lit (.int .i64 0),.lit (.int .i64 0),.lit (.int .i64 0)],.nil,.agg [.lit (.int .i64 0),.nil,.nil],.nil]],[],places) :=
 ⟨[],by kernel_rfl⟩
theorem zzp (os:Os) (started:os.Started) (H:Type) (enc:TypeId×Value->H) (F:Stop.Interp) :
  ReturnsInHanded {} Tryz.checked os 3 .any ((Rows.OpenSpec.upto Rows.traceChecksSpec).preRow enc Tryz.prog Tryz.f3 Rows.traceChecksUptoRow.domain false Rows.traceChecksUptoRow.laid) (((Rows.OpenSpec.upto Rows.traceChecksSpec).at F).post enc Tryz.prog Tryz.f3 false true false false):=by
 obtain⟨places,hx⟩:=reads os enc
 refine returnsInHanded_of_row (C:=Tryz.checked) (s:=Rows.OpenSpec.upto Rows.traceChecksSpec) own started (by kernel_rfl) Tryz.func3
  (witness_row_atRef (enc:=enc) (C:=Tryz.checked) false (World.doorLaid Tryz.prog 4000 os) #[.agg #[.int .i64 0,.int .i64 0,.int .i64 0,.int .i64 0,.slice none 0 0,.int .i64 0,.slice none 0 0,.slice none 0 0,.slice none 0 0]] rfl (by kernel_rfl) (by kernel_rfl) (by kernel_rfl)
   (OpenSpec.preRow_of_cond 8 hx (by kernel_rfl) (fun k hk=>by cases hk;kernel_rfl) (by kernel_rfl) (zvt os _))) ?_
 intro W base args ds gs before hval0 hW0 _ hcond hsz0 hL _ _
 have hW:DataW.Whole enc Tryz.prog Tryz.f3.params.toList Rows.traceChecksSpec.vars false W args.toList ds gs before:=hW0
 show Calls Tryz.prog 3 args W fun e W'=> ∃v,e= .returned v/\Rows.traceChecksSpec.post enc Tryz.prog Tryz.f3 false true false false W args v W'
 have hk:=hcond _ rfl
 have hval: ∀(j:Nat) t v,Tryz.f3.params[j]? = some t->args[j]? = some v->Value.okWide Tryz.prog W .any base t v:=hval0
 have hsz:(DataW.weightsEach Tryz.prog (Tryz.f3.params.toList++Rows.traceChecksSpec.plain.varTypes Tryz.prog) (ds++gs)).all (· <= reachBytes)=true:=hsz0
 have hW':=hW
 have htab:Nms W:=zvu hL
 obtain⟨p,q,hA0,hV,rfl,hfz,hnd⟩:=hW
 have hA:DataW.TrodAll enc Tryz.prog W 0 (fun _=>true) true Tryz.f3.params.toList args.toList ds p:=hA0
 rw[Tryz.params3]at hA hval hsz
 obtain⟨v0,vs0,d0,ds0,p0,q0,hargs,rfl,rfl,h0,r0⟩:=trodAll_cons hA
 obtain⟨rfl,rfl,rfl⟩:=trodAll_nil r0
 obtain rfl:args= #[v0]:=by cases args;simp_all
 obtain⟨rfl,rfl⟩:=trodVars_none hV
 have hb:Rows.uptoBulkAll ([d0]++[])<=1048576:=of_decide_eq_true hk
 simp only[List.append_nil,Rows.uptoBulkAll]at hb
 obtain⟨cs0,rfl,_⟩:=okWide_struct Tryz.underlying31 (hval 0 31 v0 rfl rfl)
 have k0:=h0
 have lt0: ∀x∈p0,x.block<W.heap.size:=by obtain⟨m,hm⟩:=k0;exact DataW.trod_lt m _ _ _ hm
 obtain⟨c0,lo0,M0,mc0,ts0,m0,bo0,bn0,bc0,xs0,ho0,hl0,hc0,eo0,en0,ec0,es0,hs0,rfl,hB0,hS0,hH0,hM0,hF0⟩: ∃(c:Cf) (lo:Option Addr) (M mc:Nat) (ts:List Tm) (m:Int) (bo:Option Addr) (bn bc:Nat) (xs:List Int) (ho:Option Addr) (hl hc:Nat) (eo:Option Addr) (en ec:Nat) (es:List Ev) (hs:List Q.Hd),cs0= #[.int .i64 c.l,.int .i64 c.s,.int .i64 c.w,.int .i64 c.q,.slice lo M mc,.int .i64 m,.slice bo bn bc,.slice ho hl hc,.slice eo en ec]/\ToB W c lo M mc ts bo bn bc xs eo en ec es/\en<=1048576/\(Q.HRs W ho hs/\hl=hs.length/\hl<=1048576/\ ∀t∈hs,t.L<=1048576)/\M<=1048576/\ ∀t∈ts,t.L<=1048576:=by
  obtain⟨fuel,hf⟩:=h0
  obtain⟨c,lo,M,mc,ts,m,bo,bn,bc,xs,ho,hl,hc,eo,en,ec,es,hs,e,h1,h2,⟨h3,h4,h5,h6⟩,h7,h8⟩:=Bt.told_more hf (fun n hn=>of_decide_eq_true (List.all_eq_true.1 hsz n (DataW.weights_mem_each (j:=0) (t:=31) rfl rfl n hn)))
  simp only at h2 h5 h6 h7 h8
  exact⟨c,lo,M,mc,ts,m,bo,bn,bc,xs,ho,hl,hc,eo,en,ec,es,hs,by cases cs0;simpa[Value.cells]using e,h1,by omega,⟨h3,h4,by omega,fun t ht=>by have:=h6 t ht;omega⟩,by omega,fun t ht=>by have:=h8 t ht;omega⟩
 clear hA0 hval0 hW0
 refine (zmn c0 lo0 M0 mc0 ts0 m0 bo0 bn0 bc0 xs0 ho0 hl0 hc0 eo0 en0 ec0 es0 hs0 W htab hB0.log hB0.ln hB0.lc hB0.bey hB0.bl hB0.bcp hB0.evs hB0.el hB0.ecp (by have:=hB0.el;omega) hH0.1 hH0.2.1 (by have:=hH0.2.2.1;omega) (fun t ht=>by have:=hH0.2.2.2 t ht;omega) (by omega) (fun t ht=>by have:=hF0 t ht;omega)).mono fun e W' ⟨he,hf⟩=> ?_
 subst he
 have bel:Below W.heap.size W W':=hf.below (Nat.le_refl _) (by simp)
 exact⟨_,rfl,_,_,_,[],_,[],hW',trodAll_mk1 (shut_bool Tryz.underlying4 _),(trodAll_cons_mk (Below.trod zym (by kernel_rfl) (of_decide_eq_true (by kernel_rfl)) k0 bel lt0) trodAll_mk0),rfl,bel.frame _,fun h=>by cases h⟩
theorem over:Rows.TraceChecksUptoSaid :=
 OpenClaim.holds_of_cond 3 Tryz.f3 rfl rfl rfl rfl rfl rfl rfl ⟨rfl,rfl,rfl,rfl,rfl⟩ rfl rfl rfl rfl rfl (by kernel_rfl) Tryz.func3 (by kernel_rfl)
  (of_decide_eq_true (by kernel_rfl)) (by unfold Func.isWrapper;first|(rw[if_pos (by decide +kernel)];kernel_rfl)|(rw[if_neg (by decide +kernel)];exact⟨rfl,rfl⟩))
  (fun os started H enc _ F=>by rw[OpenClaim.pre_eq_preRow];exact zzp os started H enc F)
theorem card_holds:Rows.TraceChecksUptoCardSaid :=
 Claim7.holds_tied_plain_at .later [] [.data] true (true, "1db30d6ffa38fa7f10be7903adbc63d3149bbc522ded2dac2ad637ad6a0eee63") false
  over (fun _ h=>by cases h) (by kernel_rfl) (fun _ h=>by cases h) traceChecksUpto_row_tie rfl ⟨rfl,rfl⟩ (by kernel_rfl) rfl
  (fun f fn hf hfn=>by
   obtain rfl:f=3:=Option.some.inj ((show Tryz.prog.funcNamed "towpath/towpathlaw21.TraceChecks" = some 3 by kernel_rfl).symm.trans hf) |>.symm
   obtain rfl:fn=Tryz.f3:=(Option.some.inj (Tryz.func3.symm.trans hfn)).symm
   exact⟨by kernel_rfl,fun j t ht=>by
    rw[Tryz.params3]at ht
    have hm:t∈[31]:=by simpa using Array.mem_of_getElem? ht
    have hall:([31].all fun u=> !Tryz.prog.wantsStandIn u)=true:=by kernel_rfl
    exact (show Tryz.prog.wantsStandIn t=false by simpa using List.all_eq_true.1 hall t hm)⟩)
  (by kernel_rfl)
end Go.Proofs.YtaaghcimfcjehaaGreatDoor.traceChecks
namespace Go.Proofs.YtaaghcimfcjehaaGreatDoor
theorem tracechecksupto_holds:Rows.TraceChecksUptoCardSaid:=traceChecks.card_holds
#print axioms tracechecksupto_holds
end Go.Proofs.YtaaghcimfcjehaaGreatDoor
