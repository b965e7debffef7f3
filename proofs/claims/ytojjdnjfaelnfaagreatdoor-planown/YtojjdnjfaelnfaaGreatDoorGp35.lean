/- Contracts and lemmas. -/
import Derived.Test.YtojjdnjfaelnfaaGreatDoorGp34
import Derived.RangeFuncNested
import Derived.RangeFuncBound
import Derived.Sort.MapsRangeIn
import Derived.Sort.KeysCollected
import Derived.Maps.AppendAt
import Derived.Shelf.RegionOpen
import Derived.LoopNIn
import Derived.LoopIn
set_option linter.unusedVariables false
namespace Go.Proofs.YtojjdnjfaelnfaaGreatDoor.Fo
open Go.ChangeShapes Go.WideShapes Go.ChangeAt Go.RowKit Go.Lib Go.Proofs.Tryz
attribute [local go_sem] Oper.semAt_some
theorem _root_.Go.Proofs.YtojjdnjfaelnfaaGreatDoor.Fr.putObj(w:World)(l:Nat)(o:Obj):Fr [l] w (w.putObj l o):=⟨rfl,rfl,rfl,by simp,fun k _ hn=>World.putObj_heap_other (by simpa using hn)⟩
def recOf(fn:FuncId)(tmps:Array Value)(ps:Array Tmp)(assign body:Code)(D:Nat)(st:LoopState)(pe:Option Code):Loop:={state:=st,pending:=pe,fn,tmps,params:=ps,assign,body,defers:=D}
theorem range_of{F:Fence}{n:Nat}{P:Program}{g:Operand}{ps:Array Tmp}{assign body:Code}{Q:Exit->Act->World->Prop}{a:Act}{w:World}(hro:F.round=none)(hF:∀f,F.fn f)(hdep:F.depth=none){gf:Nat}{lb:Array Value}(hg:a.eval g=.func (.func gf) #[] lb)(eg:∀args w,(callFunc gf args).run P w=.ok (.enter gf args) w)(h:∀(fn:FuncId) (RC:LoopState->Option Code->Loop),Hid (RC=recOf fn a.tmps ps assign body w.heap.size)->CallsIn F (n-1) P gf (#[Value.func (.yield (w.heap.size+1)) #[] #[]]++lb) ((w.alloc (.deferred (some []))).alloc (.loop (RC .ready none)))
   (rangePost F n P (w.heap.size+1) Q {a with defers:=[({target:=.collected w.heap.size,args:=#[]}:Deferred)]++a.defers})) :
  (Code.rangeFunc g ps assign body).wpIn F n P Q a w:=by
 refine wpIn_rangeFunc ?_;intro fn hfn;rw[hro];obtain⟨RC,hRC⟩:∃RC,RC=recOf fn a.tmps ps assign body w.heap.size:=⟨_,rfl⟩;have hc:=h fn RC hRC;obtain⟨W1,hW1⟩:∃W1,(w.alloc (.deferred (some []))).alloc (.loop (RC .ready none))=W1:=⟨_,rfl⟩;rw[hW1]at hc
 refine⟨w.heap.size+1,[{target:=.collected w.heap.size,args:=#[]}],W1,{target:=.fn (.func gf) lb,args:=#[.func (.yield (w.heap.size+1)) #[] #[]]},W1,gf,
  #[.func (.yield (w.heap.size+1)) #[] #[]]++lb,W1,?_,?_,?_,?_,?_,?_⟩
 .rw[<-hW1,hRC];exact run_enterLoop_outer _ _ _ _ _
 .simp only[resolve,hg];simp[go_sem]
 .intro f' hf';exact hF f'
 .simp[invoke,go_sem,eg]
 .intro hd;rw[hdep]at hd
  cases hd
 exact hc
theorem round_of{m l:Nat}{P:Program}{fn:FuncId}{tmps:Array Value}{ps:Array Tmp}{assign body:Code}{D:Nat}{args:Array Value}{RC:LoopState->Option Code->Loop}(hRC:Hid (RC=recOf fn tmps ps assign body D))(hs:args.size=ps.size){W:World}(hl:W.heap[l]? = some (.loop (RC .ready none))){R:Ending->World->Prop}(h:assign.wpIn (Fence.wide.inRound l) m P (Exit.then (fun a₁ w₁=>∃w₂,(Instr.beginRound l).run P w₁=.ok () w₂/\body.wpIn (Fence.wide.inRound l) m P (roundPost P l R) a₁ w₂) (fun _ _ _=>False))
   {tmps:=(ps.zip args).foldl (fun t (p,v)=>t.setIfInBounds p v) tmps,defers:=[]} W):YieldAt Fence.wide m P l args W R:=
 ⟨fn,_,assign,body,by have:=hRC.out;subst this;exact run_yield (r:=recOf fn tmps ps assign body D .ready none) hl hs,roundIn_of_wpIn trivial h⟩
theorem begin_of{l:Nat}{P:Program}{fn:FuncId}{tmps:Array Value}{ps:Array Tmp}{assign body:Code}{D:Nat}{RC:LoopState->Option Code->Loop}(hRC:Hid (RC=recOf fn tmps ps assign body D)){W:World}(hl:W.heap[l]? = some (.loop (RC .ready none))) :
  (Instr.beginRound l).run P W=.ok () (W.putObj l (.loop (RC .busy none))):=by
 have:=hRC.out;subst this;exact run_beginRound hl rfl
theorem end_of{l:Nat}{P:Program}{fn:FuncId}{tmps:Array Value}{ps:Array Tmp}{assign body:Code}{D:Nat}{RC:LoopState->Option Code->Loop}(hRC:Hid (RC=recOf fn tmps ps assign body D)){W:World}(hl:W.heap[l]? = some (.loop (RC .busy none)))(jump:Option Code) :
  (Instr.endRound l jump).run P W=.ok (.bool jump.isNone) (W.putObj l (.loop (RC (if jump.isNone then .ready else .done) jump))):=by
 have:=hRC.out;subst this;exact run_endRound jump hl
theorem loop_end_of{l:Nat}{P:Program}{fn:FuncId}{tmps:Array Value}{ps:Array Tmp}{assign body:Code}{D:Nat}{RC:LoopState->Option Code->Loop}(hRC:Hid (RC=recOf fn tmps ps assign body D)){W:World}{st:LoopState}{pe:Option Code}(hl:W.heap[l]? = some (.loop (RC st pe)))(hb:st≠ .busy) :
  (Instr.endLoop l).run P W=.ok pe (W.putObj l (.loop (RC .exhausted pe))):=by
 have:=hRC.out;subst this;exact run_endLoop hl hb
end Go.Proofs.YtojjdnjfaelnfaaGreatDoor.Fo
