/- Contracts and lemmas. -/
import Derived.Test.YtakbodlicfmkjaaGreatGp20
import Derived.RangeFuncNested
import Derived.RangeFuncBound
import Derived.Sort.MapsRangeIn
import Derived.Sort.KeysCollected
import Derived.Maps.AppendAt
import Derived.Shelf.RegionOpen
import Derived.LoopNIn
import Derived.LoopIn
set_option maxHeartbeats 4000000
set_option maxRecDepth 100000
namespace Go.Proofs.YtakbodlicfmkjaaGreat
set_option linter.unusedVariables false
namespace Fo
open Go.ChangeShapes Go.WideShapes Go.ChangeAt Go.RowKit Go.Lib
attribute [local go_sem] Oper.semAt_some
theorem _root_.Go.Proofs.YtakbodlicfmkjaaGreat.Fr.putObj(w:World)(l:Nat)(o:Obj):Fr [l] w (w.putObj l o):=⟨rfl,rfl,rfl,by simp,fun k _ hn=>World.putObj_heap_other (by simpa using hn)⟩
def recOf(fn:FuncId)(tmps:Array Value)(ps:Array Tmp)(assign body:Code)(D:Nat)(st:LoopState)(pe:Option Code):Loop:={state:=st,pending:=pe,fn,tmps,params:=ps,assign,body,defers:=D}
theorem range_of{F:Fence}{n:Nat}{P:Program}{g:Operand}{ps:Array Tmp}{assign body:Code}{Q:Exit->Act->World->Prop}{a:Act}{w:World}(hro:F.round=none)(hF:∀f,F.fn f)(hdep:F.depth=none){gf:Nat}{lb:Array Value}(hg:a.eval g=.func (.func gf) #[] lb)(eg:∀args w,(callFunc gf args).run P w=.ok (.enter gf args) w)(h:∀(fn:FuncId) (RC:LoopState->Option Code->Loop),Hid (RC=recOf fn a.tmps ps assign body w.heap.size)->CallsIn F (n-1) P gf (#[Value.func (.yield (w.heap.size+1)) #[] #[]]++lb) ((w.alloc (.deferred (some []))).alloc (.loop (RC .ready none)))
   (rangePost F n P (w.heap.size+1) Q {a with defers:=[({target:=.collected w.heap.size,args:=#[]}:Deferred)]++a.defers})) :
  (Code.rangeFunc g ps assign body).wpIn F n P Q a w:=by
 refine wpIn_rangeFunc ?_;intro fn hfn;rw[hro];obtain⟨RC,hRC⟩:∃RC,RC=recOf fn a.tmps ps assign body w.heap.size:=⟨_,rfl⟩;have hc:=h fn RC hRC;obtain⟨W1,hW1⟩:∃W1,(w.alloc (.deferred (some []))).alloc (.loop (RC .ready none))=W1:=⟨_,rfl⟩;rw[hW1]at hc
 refine⟨w.heap.size+1,[{target:=.collected w.heap.size,args:=#[]}],W1,{target:=.fn (.func gf) lb,args:=#[.func (.yield (w.heap.size+1)) #[] #[]]},W1,gf,
  #[.func (.yield (w.heap.size+1)) #[] #[]]++lb,W1,?_,?_,?_,?_,?_,?_⟩
 .rw[<-hW1,hRC];exact run_enterLoop_outer _ _ _ _ _
 .simp only[resolve,hg];simp[go_sem]
 .intro f' hf';exact hF f'
 .simp[invoke,go_sem,eg]
 .intro hd;rw[hdep]at hd
  cases hd
 exact hc
theorem round_of{m l:Nat}{P:Program}{fn:FuncId}{tmps:Array Value}{ps:Array Tmp}{assign body:Code}{D:Nat}{args:Array Value}{RC:LoopState->Option Code->Loop}(hRC:Hid (RC=recOf fn tmps ps assign body D))(hs:args.size=ps.size){W:World}(hl:W.heap[l]? = some (.loop (RC .ready none))){R:Ending->World->Prop}(h:assign.wpIn (Fence.wide.inRound l) m P (Exit.then (fun a₁ w₁=>∃w₂,(Instr.beginRound l).run P w₁=.ok () w₂/\body.wpIn (Fence.wide.inRound l) m P (roundPost P l R) a₁ w₂) (fun _ _ _=>False))
   {tmps:=(ps.zip args).foldl (fun t (p,v)=>t.setIfInBounds p v) tmps,defers:=[]} W):YieldAt Fence.wide m P l args W R:=
 ⟨fn,_,assign,body,by have:=hRC.out;subst this;exact run_yield (r:=recOf fn tmps ps assign body D .ready none) hl hs,roundIn_of_wpIn trivial h⟩
theorem begin_of{l:Nat}{P:Program}{fn:FuncId}{tmps:Array Value}{ps:Array Tmp}{assign body:Code}{D:Nat}{RC:LoopState->Option Code->Loop}(hRC:Hid (RC=recOf fn tmps ps assign body D)){W:World}(hl:W.heap[l]? = some (.loop (RC .ready none))) :
  (Instr.beginRound l).run P W=.ok () (W.putObj l (.loop (RC .busy none))):=by
 have:=hRC.out;subst this;exact run_beginRound hl rfl
theorem end_of{l:Nat}{P:Program}{fn:FuncId}{tmps:Array Value}{ps:Array Tmp}{assign body:Code}{D:Nat}{RC:LoopState->Option Code->Loop}(hRC:Hid (RC=recOf fn tmps ps assign body D)){W:World}(hl:W.heap[l]? = some (.loop (RC .busy none)))(jump:Option Code) :
  (Instr.endRound l jump).run P W=.ok (.bool jump.isNone) (W.putObj l (.loop (RC (if jump.isNone then .ready else .done) jump))):=by
 have:=hRC.out;subst this;exact run_endRound jump hl
theorem loop_end_of{l:Nat}{P:Program}{fn:FuncId}{tmps:Array Value}{ps:Array Tmp}{assign body:Code}{D:Nat}{RC:LoopState->Option Code->Loop}(hRC:Hid (RC=recOf fn tmps ps assign body D)){W:World}{st:LoopState}{pe:Option Code}(hl:W.heap[l]? = some (.loop (RC st pe)))(hb:st≠ .busy) :
  (Instr.endLoop l).run P W=.ok pe (W.putObj l (.loop (RC .exhausted pe))):=by
 have:=hRC.out;subst this;exact run_endLoop hl hb
end Fo
namespace Fo
open Go.ChangeShapes Go.WideShapes Go.ChangeAt Go.RowKit Go.Lib Go.Maps Go.Sort
attribute [local go_sem] Oper.semAt_some
abbrev Pr:=ByteArray×ByteArray
def encE(x:Pr):Value:=.agg #[.string x.1,.string x.2]
def celE(x:Pr):List Value:=[.string x.1,.string x.2]
def celsE(ps:List Pr):List Value:=ps.flatMap celE
theorem zbg(ps:List Pr):(celsE ps).length=2*ps.length:=by
 induction ps with
 |nil=>rfl
 |cons p ps ih=>simp[celsE,celE]at *;omega
theorem zua(ps:List Pr)(x:Pr):celsE (ps++[x])=celsE ps++celE x:=by simp[celsE]
structure AllP(E:ByteArray->Option ByteArray)(ps:List Pr):Prop where
 nd:(ps.map (·.1)).Nodup
 mem:∀p,p∈ps↔E p.1=some p.2
theorem zdw(x:List UInt8):∃s:ByteArray,encStr x=.string s/\s.data.toList=x/\kl7 s=.string x:=⟨⟨x.toArray⟩,rfl,by simp,by simp[kl7]⟩
theorem zub(mb:Option Nat)(w:World):Calls Tryz.prog 40 #[.map mb] w fun e w'=>e=.returned (.func (Fn.func 74) #[] #[.pointer (some ⟨w.heap.size,0,none⟩)])/\w'=w.alloc (.cells #[.map mb] 108):=by
 go_enter Tryz.func40,Tryz.ntmps40;go_wp2;go_ret;exact⟨rfl,rfl⟩
theorem zuc(n:Nat)(l Bm b nn:Nat)(D0:DataW Unit)(E:ByteArray->Option ByteArray)(hH:∀s,has D0 (kl7 s)=(E s).isSome)(hA:∀s v,E s=some v->∀z,D0.atKey (kl7 s) z=entD s v)(J:List Pr->World->Prop)(hY:∀pre x W,J pre W->pre.length<Maps.size D0->YieldAt Fence.wide n Tryz.prog l #[encE x] W fun e W'=>e=.returned (.bool true)/\J (pre++[x]) W'/\KeepsWalks W W')(W:World)(hJ:AbidesFrom W.heap.size J)(hm:W.cell? ⟨Bm,0,none⟩=some (.map (some b)))(hown:W.ownsMap Tryz.prog 9 zds b nn D0)(h0:J [] W) :
  CallsIn Fence.wide (n+1) Tryz.prog 74 #[.func (.yield l) #[] #[],.pointer (some ⟨Bm,0,none⟩)] W fun e W'=>(∃v,e=.returned v)/\∃ps,(AllP E ps/\ps.length<=Maps.size D0)/\J ps W':=by
 have HH:Hid (∀s,has D0 (kl7 s)=(E s).isSome):=hH;have HA:Hid (∀s v,E s=some v->∀z,D0.atKey (kl7 s) z=entD s v):=hA;clear hH hA;refine callsIn_of_wp Tryz.func74 rfl trivial ?_ rfl;simp only[Tryz.ntmps74,List.size_toArray,List.length_cons,List.length_nil,Nat.reduceAdd,Nat.reduceSub,Array.replicate_succ,Array.replicate_zero,List.push_toArray,List.append_toArray,List.nil_append,List.cons_append]
 gi_wp2_with (first
  |(gi_at_range;refine wpListIn_range_own _ rfl _ 108 rfl 9 61 Tryz.keyedStr Tryz.undMap _ b nn _ rfl hown ?_;intro w0 hrg0 hg0 hs0)
  |gi_in)
 go_frame
 gi_loopw [4] (fun _ wr=>∃(left:Lit->Bool)(cnt:Nat)(ps:List Pr),wr.ranges Tryz.prog 9 zds b W.heap.size nn D0 left cnt/\ps.length+cnt<=Maps.size D0/\Hid (Collected D0 left (ps.map (·.1.data.toList)))/\Hid (∀p∈ps,E p.1=some p.2)/\J ps wr)
  (fun _ wr=>wr.rangeLeft b W.heap.size)
 case atStart=>
  exact⟨_,_,[],hrg0,by simp,Collected.start D0,(by intro p hp;simp at hp),hJ [] W w0 none h0 hg0 (fun r e=>by cases e)⟩
 obtain⟨left,cnt,ps,hrg,hcs,HC,HV,hJs⟩:=hrel
 gi_wp2_with (first
  |(gi_at_next;refine wpListIn_next_ranges _ rfl _ rfl 9 Tryz.keyedStr zds encStr encE (fun key kl hk=>by obtain⟨x,hx,_⟩:=Maps.keyOf_str Tryz.undS7 hk;exact⟨x,hx⟩) (fun v y hv=>by obtain⟨k,s,rfl,_⟩:=zkk hv;exact⟨(k,s),rfl⟩) b W.heap.size nn _ _ _ rfl hrg ?_ ?_)
  |gi_in)
 .intro hc0 hl0
  gi_wp2
  go_end0
  refine⟨⟨_,rfl⟩,ps,⟨⟨?_,fun p=>⟨HV.out p,fun hp=> ?_⟩⟩,by omega⟩,hJs⟩
  .have h1:=HC.out.1;have h2:ps.map (·.1.data.toList)=(ps.map (·.1)).map (·.data.toList):=by simp
   rw[h2]at h1
   exact List.Pairwise.imp (fun hne he=>hne (by rw[he])) (List.pairwise_map.1 h1)
  have hh:has D0 (kl7 p.1)=true:=by rw[HH.out,hp];rfl
  obtain⟨q,hq,he⟩:=List.mem_map.1 ((HC.out.2 p.1.data.toList).2 ⟨hh,hl0 _⟩);have e1:q.1=p.1:=zbs he;have e2:=HV.out q hq;rw[e1,hp]at e2
  have e3:q=p:=Prod.ext e1 (by simpa using e2.symm);rw[<-e3];exact hq
 intro x c1 c2 kl yd yp w2 cnt2 hkey hlk hv hat hrg2 hlt hg2 hs2 hen;obtain⟨x',ex,hkl,_⟩:=Maps.keyOf_str Tryz.undS7 hkey;obtain rfl:x=x':=encStr_inj ex;subst hkl;obtain⟨s,hs,hsx,hks⟩:=zdw x;obtain⟨k',s',ec,ey⟩:=zkk hv;have hC2:=HC.out.step hlk hat
 have hhas:has D0 (.string x)=true:=((hC2.2 x).1 (by simp)).1;have hE:E s=some c2/\c1=s:=by
  have h1:=HH.out s;rw[hks,hhas]at h1
  obtain⟨v,hv1⟩:=Option.isSome_iff_exists.1 h1.symm;have h2:=HA.out s v hv1 (.lit (.bool true));rw[hks,hat,(Prod.mk.inj ey).1]at h2
  obtain⟨rfl,rfl⟩:=zzv h2;unfold encE at ec;simp at ec;rw[ec.1,ec.2];exact⟨hv1,rfl⟩
 have HC2:Hid (Collected D0 (fun z=>left z && !z.sameKey (.string x)) ((ps++[(c1,c2)]).map (·.1.data.toList))):=by
  show Collected _ _ _;have e:(ps++[(c1,c2)]).map (·.1.data.toList)=ps.map (·.1.data.toList)++[x]:=by simp[hE.2,hsx]
  rw[e];exact hC2
 have HV2:Hid (∀p∈ps++[(c1,c2)],E p.1=some p.2):=fun p hp=>(List.mem_append.1 hp).elim (HV.out p) (fun e=>by simp at e;subst e;show E c1=some c2;rw[hE.2];exact hE.1);have hJ2:J ps w2:=hJ ps wr w2 (some W.heap.size) hJs hg2 (fun r e=>by cases e;exact⟨Nat.le_refl _,hrg.iter_walk⟩);have hg3:w2.grownBy (w2.alloc (.cells #[.string c1,.string c2] 61)) none:=World.grownBy_alloc w2 _ none;have hJ3:J ps (w2.alloc (.cells #[.string c1,.string c2] 61)):=hJ ps w2 _ none hJ2 hg3 (fun r e=>by cases e);have hk3:KeepsWalks w2 (w2.alloc (.cells #[.string c1,.string c2] 61)):=KeepsWalks.alloc _ _;obtain⟨fn,tmps,assign,body,hy,hR⟩:=hY ps (c1,c2) _ hJ3 (by omega);dsimp only[encE]at hy hen;clear hs2 hkey hv hat hE hC2 ey ec hlk hJ2 hrg0
 gi_wp2
 refine hR.mono ?_;rintro e W3⟨rfl,hJ4,hk4⟩
 gi_wp2
 have hrg3:=hrg2.of_walks (hk3.trans hk4);go_roundw;case rel=>exact⟨_,cnt2,ps++[(c1,c2)],hrg3,by simp;omega,HC2,HV2,hJ4⟩
 case measure=>rw[hrg3.left_eq,hrg.left_eq];exact hlt
theorem zqf(n Bm b nn:Nat)(E:ByteArray->Option ByteArray)(w:World)(hBm:Bm<w.heap.size)(hm:w.cell? ⟨Bm,0,none⟩=some (.map (some b)))(hM:MapE w b nn E) :
  SeqGives Fence.wide (n+1) Tryz.prog 74 #[.pointer (some ⟨Bm,0,none⟩)] encE (fun ps=>AllP E ps/\ps.length<=nn) nn w:=fun l J W hW hJ hY h0=>by
 obtain⟨D,hown,hH,hA⟩:=hM;have hbl:=hown.lt;have hsz:=hown.size_le;have hown':W.ownsMap Tryz.prog 9 zds b nn D:=by
  obtain⟨es,clock,hb,hr⟩:=hown;exact⟨es,clock,(hW.block b hbl).trans hb,hr⟩
 exact (zuc n l Bm b nn D E hH hA J (fun pre x W hJ hl=>hY pre x W hJ (by omega)) W hJ ((hW.cell (p:=⟨Bm,0,none⟩) hBm).trans hm) hown' h0).mono (fun e W' ⟨he,ps,⟨h1,h2⟩,h3⟩=>⟨he,ps,⟨h1,by omega⟩,h3⟩)
attribute [local go_sem] Oper.semAt_some
theorem Tryz.undEns:Tryz.prog.underlying 40=some (.slice 61):=by kernel_rfl
theorem Tryz.infoEn:(Tryz.prog.info? 61).map (fun i=>(i.zero,i.size,i.bytes))=some (some (.agg #[.string ⟨#[]⟩,.string ⟨#[]⟩]),2,32):=by kernel_rfl
theorem Tryz.infoEn':∃i,Tryz.prog.info? 61=some i/\i.zero=some (.agg #[.string ⟨#[]⟩,.string ⟨#[]⟩])/\i.size=2/\i.bytes=32:=by
 have h:=Tryz.infoEn;cases hi:Tryz.prog.info? 61 with
 |none=>rw[hi]at h;cases h
 |some i=>
  rw[hi]at h
  simp only[Option.map_some,Option.some.injEq,Prod.mk.injEq]at h;exact⟨i,rfl,h.1,h.2.1,h.2.2⟩
theorem owns_keepB{S:List Nat}{w w':World}{base:Nat}{e:TypeId}{size:Nat}{v:Value}{n:Nat}{xs:List Value}(h:w.ownsRow base e size v n xs)(hf:Fr S w w')(hn:∀k,v.ownBlock=some k->k∉S):w'.ownsRow base e size v n xs:=by
 refine⟨h.1,?_⟩;rcases h.2 with h0|⟨g,cap,cur,hv,hb,hg,hr⟩
 .exact Or.inl h0
 exact Or.inr ⟨g,cap,cur,hv,hb,hf.keep hg (hn g (by rw[hv];rfl)),hr⟩
theorem owns_cells{w:World}{base:Nat}{e:TypeId}{size:Nat}{v:Value}{n:Nat}{xs:List Value}(h:w.ownsRow base e size v n xs){k:Nat}(hk:v.ownBlock=some k):base<=k/\∃cur,w.heap[k]? = some (.cells cur e (0,0)):=by
 rcases h.2 with⟨rfl,_⟩|⟨g,cap,cur,rfl,hb,hg,hr⟩
 .simp[Value.ownBlock]at hk
 simp[Value.ownBlock]at hk
 subst hk;exact⟨hb,cur,hg⟩
theorem zhv(w:World)(x:Pr):∀(j:Nat)(u:Value),[Value.string x.1,Value.string x.2][j]? = some u->(w.alloc (.cells #[.string x.1,.string x.2] 61)).cell? ((⟨w.heap.size,0,none⟩:Addr).add j)=some u:=by
 intro j u hu;have hr:=heap_alloc_new w (.cells #[.string x.1,.string x.2] 61)
 match j,hu with
 |0,hu=>show World.cell? _ ⟨w.heap.size,0,none⟩=_;rw[crw hr];exact hu
 |1,hu=>show World.cell? _ ⟨w.heap.size,1,none⟩=_;rw[crw hr];exact hu
 |(j+2),hu=>simp at hu
theorem zhw(x:Pr):∀u∈[Value.string x.1,Value.string x.2],u.oneCell'=true:=by
 intro u hu;simp only[List.mem_cons,List.not_mem_nil,or_false]at hu;rcases hu with rfl|rfl<;>rfl
theorem zadu{w:World}{b:Nat}{t:TypeId}{v:Value}(h:w.heap[b]? = some (.cells #[v] t (0,0)))(u:Value):(w.setCell ⟨b,0,none⟩ u).heap[b]? = some (.cells #[u] t (0,0)):=by
 obtain⟨hlt,hk⟩:=Array.getElem?_eq_some_iff.1 h;show (w.heap.modify b _)[b]? = _;rw[Array.getElem?_eq_getElem (by rw[Array.size_modify];exact hlt),Array.getElem_modify_self,hk];rfl
structure ApE(w0:World)(Bs l D:Nat)(rec:Loop)(ps:List Pr)(W:World)(v:Value):Prop where
 box:W.heap[Bs]? = some (.cells #[v] 40 (0,0))
 row:W.ownsRow w0.heap.size 61 2 v ps.length (celsE ps)
 lp:W.heap[l]? = some (.loop rec)
 df:W.heap[D]? = some (.deferred (some []))
 fr:Fr [] w0 W
section
variable{w0 W W':World}{Bs l D:Nat}{rec:Loop}{ps:List Pr}{v:Value}
theorem ApE.ne(h:ApE w0 Bs l D rec ps W v){k:Nat}(hk:v.ownBlock=some k):k≠Bs/\k≠l/\k≠D:=by
 obtain⟨_,cur,hc⟩:=owns_cells h.row hk;refine⟨?_,?_,?_⟩
 .rintro rfl;have:=hc.symm.trans h.box;simp at this
 .rintro rfl;have:=hc.symm.trans h.lp;simp at this
 rintro rfl;have:=hc.symm.trans h.df;simp at this
theorem ApE.keepS{S:List Nat}(h:ApE w0 Bs l D rec ps W v)(hf:Fr S W W')(hS:∀x∈S,w0.heap.size<=x/\x≠Bs/\x≠l/\x≠D/\v.ownBlock≠some x):ApE w0 Bs l D rec ps W' v:=
 ⟨hf.keep h.box (fun hh=>(hS _ hh).2.1 rfl),owns_keepB h.row hf (fun k hk hh=>(hS _ hh).2.2.2.2 hk),hf.keep h.lp (fun hh=>(hS _ hh).2.2.1 rfl),hf.keep h.df (fun hh=>(hS _ hh).2.2.2.1 rfl),h.fr.on hf (fun x hx=>(hS x hx).1)⟩
theorem ApE.rec_(h:ApE w0 Bs l D rec ps W v)(rec':Loop)(h0:w0.heap.size<=l)(h1:Bs≠l)(h2:D≠l):ApE w0 Bs l D rec' ps (W.putObj l (.loop rec')) v:=by
 have hf:=Fr.putObj W l (.loop rec');exact⟨hf.keep h.box (by simpa using h1),owns_keepB h.row hf (fun k hk hh=>by simp at hh;exact (h.ne hk).2.1 hh),World.putObj_heap_same (Array.getElem?_eq_some_iff.1 h.lp).1,hf.keep h.df (by simpa using h2),h.fr.on hf (fun x hx=>by simp at hx;omega)⟩
theorem ApE.abides(B:Nat)(hB:w0.heap.size<=B):AbidesFrom B (fun ps W=>∃v,ApE w0 Bs l D rec ps W v):=fun ps W W' row ⟨v,h⟩ hg hrow=>by
 have hf:Fr row.toList W W':=Fr.grown hg (by intro k hk _;simp[hk]);refine⟨v,h.keepS hf (fun x hx=> ?_)⟩;simp only[Option.mem_toList]at hx;obtain⟨hBx,o,ho,hw⟩:=hrow x hx;refine⟨by omega,?_,?_,?_,?_⟩
 .rintro rfl;rw[h.box]at ho;cases ho;cases hw
 .rintro rfl;rw[h.lp]at ho;cases ho;cases hw
 .rintro rfl;rw[h.df]at ho;cases ho;cases hw
 intro hv;obtain⟨_,cur,hc⟩:=owns_cells h.row hv;rw[hc]at ho;cases ho;cases hw
end
theorem zaas{S:List Nat}{W W':World}(hf:Fr S W W')(hS:∀x∈S,∀o,W.heap[x]? = some o->o.isWalk=false):KeepsWalks W W':=by
 refine⟨hf.size,fun k o hk ho=>hf.keep hk (fun hh=> ?_)⟩;rw[hS k hh o hk]at ho
 cases ho
theorem zqg(g:Nat)(lb:Array Value)(eg:∀args w,(callFunc g args).run Tryz.prog w=.ok (.enter g args) w)(S:List Pr->Prop)(N:Nat)(hN:N<1099511627776)(w:World)(hseq:SeqGives Fence.wide 2 Tryz.prog g lb encE S N w) :
  CallsIn Fence.wide 3 Tryz.prog 105 #[.slice none 0 0,.func (.func g) #[] lb] w fun e w'=>∃(v:Value)(ps:List Pr),e=.returned v/\S ps/\w'.ownsRow w.heap.size 61 2 v ps.length (celsE ps)/\Fr [] w w':=by
 obtain⟨i0,hi,hz0,hz1,hz2⟩:=Tryz.infoEn';have hmx:(1099511627776:Nat)<=maxLen:=by unfold maxLen;omega
 refine callsIn_of_wp_marks Tryz.func105 rfl trivial ?_ rfl;simp only[Tryz.ntmps105,List.size_toArray,List.length_cons,List.length_nil,Nat.reduceAdd,Nat.reduceSub,Array.replicate_succ,Array.replicate_zero,List.push_toArray,List.append_toArray,List.nil_append,List.cons_append]
 gi_wp2_with fail
 have hB1:(w.alloc (.cells #[.slice none 0 0] 40)).heap[w.heap.size]? = some (.cells #[.slice none 0 0] 40 (0,0)):=heap_alloc_new w _;have hF1:Fr [] w (w.alloc (.cells #[.slice none 0 0] 40)):=Fr.alloc _ _ _;have hs1:(w.alloc (.cells #[.slice none 0 0] 40)).heap.size=w.heap.size+1:=by simp
 obtain⟨w1,HW1⟩:∃w1,Hid (w.alloc (.cells #[.slice none 0 0] 40)=w1):=⟨_,rfl⟩;rw[HW1.out]at hB1 hF1 hs1 ⊢
 obtain⟨Bs,hBs⟩:∃Bs,Bs=w.heap.size:=⟨_,rfl⟩;rw[<-hBs]at hB1 ⊢
 refine range_of rfl (fun _=>True.intro) rfl (gf:=g) (lb:=lb) rfl eg ?_;intro fn RC HRC;obtain⟨D,hD⟩:∃D,D=w1.heap.size:=⟨_,rfl⟩;obtain⟨lr,hlr⟩:∃lr,lr=w1.heap.size+1:=⟨_,rfl⟩;have hF2:Fr [] w1 ((w1.alloc (.deferred (some []))).alloc (.loop (RC .ready none))):=(Fr.alloc [] _ _).then (Fr.alloc [] _ _);have hL2:((w1.alloc (.deferred (some []))).alloc (.loop (RC .ready none))).heap[w1.heap.size+1]? = some (.loop (RC .ready none)):=by
  have:=World.alloc_heap_new (w1.alloc (.deferred (some []))) (.loop (RC .ready none));rwa [World.size_alloc]at this
 have hK2:((w1.alloc (.deferred (some []))).alloc (.loop (RC .ready none))).heap[w1.heap.size]? = some (.deferred (some [])):=
  (Below.heap_alloc _ _ _ (by simp)).trans (World.alloc_heap_new w1 _)
 have hs2:((w1.alloc (.deferred (some []))).alloc (.loop (RC .ready none))).heap.size=w1.heap.size+2:=by simp
 obtain⟨w2,HW2⟩:∃w2,Hid ((w1.alloc (.deferred (some []))).alloc (.loop (RC .ready none))=w2):=⟨_,rfl⟩;rw[HW2.out]at hF2 hL2 hK2 hs2 ⊢
 rw[<-hlr]at hL2 ⊢
 rw[<-hD]at HRC hK2 ⊢
 have hord:w.heap.size<=Bs/\Bs<D/\D<lr/\lr<w2.heap.size:=by omega
 clear hD hlr hs2 HW2 hBs hs1;have hA0:ApE w Bs lr D (RC .ready none) [] w2 (.slice none 0 0):=⟨hF2.keep hB1 (by simp),⟨rfl,.inl ⟨rfl,rfl⟩⟩,hL2,hK2,hF1.then hF2⟩;have hG2:=hF1.then hF2;refine (hseq lr (fun ps W=>∃v,ApE w Bs lr D (RC .ready none) ps W v) w2 (hG2.below (Nat.le_refl _) (by simp)) (ApE.abides _ hG2.size) ?_ ⟨_,hA0⟩).mono ?_
 .rintro ps x W⟨v,hL⟩ hlen;refine round_of HRC rfl hL.lp ?_;have hFa:Fr [] W (W.alloc (.cells #[.string x.1,.string x.2] 61)):=Fr.alloc _ _ _;have hrow:(W.alloc (.cells #[.string x.1,.string x.2] 61)).heap[W.heap.size]? = some (.cells #[.string x.1,.string x.2] 61 (0,0)):=heap_alloc_new W _;have hLa:=hL.keepS hFa (by simp);have hbr:=begin_of (P:=Tryz.prog) HRC hLa.lp;have hLb:=hLa.rec_ (RC .busy none) (by omega) (by omega) (by omega);have hlrW:lr<W.heap.size:=lt_of_block hL.lp;have hFb:=Fr.putObj (W.alloc (.cells #[.string x.1,.string x.2] 61)) lr (.loop (RC .busy none));have hrowb:=hFb.keep hrow (by simp;omega);have hkb:KeepsWalks W ((W.alloc (.cells #[.string x.1,.string x.2] 61)).putObj lr (.loop (RC .busy none))):=(KeepsWalks.alloc _ _).trans (KeepsWalks.putObj _ hLa.lp rfl);obtain⟨Wb,HWb⟩:∃Wb,Hid ((W.alloc (.cells #[.string x.1,.string x.2] 61)).putObj lr (.loop (RC .busy none))=Wb):=⟨_,rfl⟩;rw[HWb.out]at hbr hLb hrowb hFb hkb
  have f0:Wb.cell? ⟨W.heap.size,0,none⟩=some (.string x.1):=by rw[crw hrowb];rfl
  have f1:Wb.cell? ⟨W.heap.size,1,none⟩=some (.string x.2):=by rw[crw hrowb];rfl
  have x0:Wb.cell? ⟨Bs,0,none⟩=some v:=by rw[crw hLb.box];rfl
  have x1:Wb.frozen? ⟨Bs,0,none⟩=false:=by simp[World.frozen?,hLb.box]
  have hLbR:=hLb.row;have HLb:Hid (ApE w Bs lr D (RC .busy none) ps Wb v):=hLb;have hbs:w.heap.size<=Wb.heap.size:=hLb.fr.size;clear hLa hrow hrowb hFa hL hLb hFb;have hfo:Array.foldl (fun(t:Array Value)(x:Tmp×Value)=>match x with|(p,v)=>t.setIfInBounds p v) #[Value.slice none 0 0,Value.func (Fn.func g) #[] lb,Value.pointer (some {block:=Bs,off:=0}),undef,Value.slice none 0 0,undef,Value.func (Fn.func g) #[] lb,undef,undef,undef,undef,undef,undef] (#[7].zip #[encE x]) =
   #[Value.slice none 0 0,Value.func (Fn.func g) #[] lb,Value.pointer (some {block:=Bs,off:=0}),undef,Value.slice none 0 0,undef,Value.func (Fn.func g) #[] lb,.agg #[.string x.1,.string x.2],undef,undef,undef,undef,undef]:=by simp[encE]
  rw[hfo];clear hfo
  gi_wp2_with (first
   |(
    gi_at_builtin;refine wpListIn_append_own _ rfl _ _ 40 rfl w.heap.size 61 i0 _ 2 32 Tryz.undEns hi hz0 hz1 hz2 rfl (by decide) _ _ _ rfl (hLbR.alloc _) ⟨Wb.heap.size,0,none⟩ 1 1 [.string x.1,.string x.2] rfl rfl (zhv Wb x) (zhw x) (by omega) (by omega) (by simp;omega) ?_
    intro v' w3 hown' hg3 hnil3;have hf3:Fr v.ownBlock.toList Wb w3:=(Fr.alloc _ Wb _).then (Fr.grown hg3 (fun y hy _=>Option.mem_toList.2 hy));have hbx3:w3.heap[Bs]? = some (.cells #[v] 40 (0,0)):=hf3.keep HLb.out.box (fun hh=>by simp only[Option.mem_toList]at hh;exact (HLb.out.ne hh).1 rfl);have c3:w3.cell? ⟨Bs,0,none⟩=some v:=by rw[crw hbx3];rfl
    have d3:w3.frozen? ⟨Bs,0,none⟩=false:=(by simp[World.frozen?,hbx3]);obtain⟨g',cap',rfl,hgb⟩:∃g' cap',v'=.slice (some ⟨g',0,none⟩) (ps.length+1) cap'/\w.heap.size<=g':=by
     rcases hown'.2 with⟨_,h0⟩|⟨g',cap',cur',h1,h2,_⟩
     .exact absurd h0 (by omega)
     exact⟨g',cap',h1,h2⟩
    go_frame)
   |(rw[Oper.semAt_eq _ _ _ (fun c h=>by cases h)];go_simp;try go_bits))
  have hk3:KeepsWalks Wb w3:=zaas hf3 (fun y hy o ho=>by
   simp only[Option.mem_toList]at hy;obtain⟨_,cur,hc⟩:=owns_cells HLb.out.row hy;rw[hc]at ho;cases ho;rfl)
  obtain⟨u,hu⟩:∃u,u=Value.slice (some {block:=g',off:=0}) (ps.length+1) cap':=⟨_,rfl⟩;rw[<-hu]at hown' ⊢
  have huo:u.ownBlock=some g':=by rw[hu];rfl
  have hgB:g'≠Bs:=by
   rintro rfl;obtain⟨_,cur,hc⟩:=owns_cells hown' huo;have:=hc.symm.trans hbx3;simp at this
  have hfs:Fr [Bs] w3 (w3.setCell ⟨Bs,0,none⟩ u):=Fr.set _ _ _ (by simp);have n3:∀{y:Nat},y∈v.ownBlock.toList->y≠Bs/\y≠lr/\y≠D:=fun hy=>by simp only[Option.mem_toList]at hy;exact HLb.out.ne hy
  have hA4:ApE w Bs lr D (RC .busy none) (ps++[x]) (w3.setCell ⟨Bs,0,none⟩ u) u:=by
   refine⟨?_,?_,hfs.keep (hf3.keep HLb.out.lp (fun hh=>(n3 hh).2.1 rfl)) (by simp;omega),hfs.keep (hf3.keep HLb.out.df (fun hh=>(n3 hh).2.2 rfl)) (by simp;omega),(HLb.out.fr.on hf3 (fun y hy=> ?_)).on hfs (by intro y hy;simp at hy;omega)⟩
   .exact zadu hbx3 u
   .have:=owns_keepB hown' hfs (fun k hk hh=>by rw[huo]at hk;cases hk;simp at hh;exact hgB hh);rw[List.length_append,List.length_singleton,zua];exact this
   simp only[Option.mem_toList]at hy;exact (owns_cells HLb.out.row hy).1
  have hend:=end_of (P:=Tryz.prog) HRC hA4.lp none;have hA5:=hA4.rec_ (RC .ready none) (by omega) (by omega) (by omega);exact⟨_,_,hend,rfl,⟨u,hA5⟩,hkb.trans (hk3.trans ((KeepsWalks.setCell _ _ _).trans (KeepsWalks.putObj _ hA4.lp rfl)))⟩
 rintro e W3⟨⟨v0,rfl⟩,ps,hS,v,hL⟩;have hle:=loop_end_of (P:=Tryz.prog) HRC hL.lp (by simp);have hL4:=hL.rec_ (RC .exhausted none) (by omega) (by omega) (by omega);obtain⟨W4,HW4⟩:∃W4,Hid (W3.putObj lr (.loop (RC .exhausted none))=W4):=⟨_,rfl⟩;rw[HW4.out]at hle hL4
 have x0:W4.cell? ⟨Bs,0,none⟩=some v:=by rw[crw hL4.box];rfl
 have x1:W4.frozen? ⟨Bs,0,none⟩=false:=by simp[World.frozen?,hL4.box]
 have HL4:Hid (ApE w Bs lr D (RC .exhausted none) ps W4 v):=hL4;have HS:Hid (S ps):=hS;clear hL hL4 hS HRC hseq hA0;refine⟨none,W4,hle,?_⟩;clear hle
 gi_wp2_with fail
 have hF5:Fr [D] W4 (W4.putObj D (.deferred none)):=Fr.putObj _ D _;refine⟨by simp,.inl ⟨_,_,rfl,run_takeDeferred HL4.out.df,?_⟩⟩;refine⟨_,results_tmp rfl _ _ _,v,ps,rfl,HS.out,owns_keepB HL4.out.row hF5 (fun k hk hh=>by simp at hh;exact (HL4.out.ne hk).2.2 hh),HL4.out.fr.on hF5 (by intro y hy;simp at hy;omega)⟩
theorem zud(g:Nat)(lb:Array Value)(eg:∀args w,(callFunc g args).run Tryz.prog w=.ok (.enter g args) w)(S:List Pr->Prop)(N:Nat)(hN:N<1099511627776)(w:World)(hseq:SeqGives Fence.wide 2 Tryz.prog g lb encE S N w) :
  Calls Tryz.prog 72 #[.func (.func g) #[] lb] w fun e w'=>∃(v:Value)(ps:List Pr),e=.returned v/\S ps/\w'.ownsRow w.heap.size 61 2 v ps.length (celsE ps)/\Fr [] w w':=by
 have h0:=callsIn_wide.1 (zqg g lb eg S N hN w hseq);go_enter Tryz.func72,Tryz.ntmps72;go_wp2_with fail
 refine h0.mono ?_;rintro e w1⟨v,ps,rfl,hS,hrow,hF⟩;go_wp2;go_ret;exact⟨v,ps,rfl,hS,hrow,hF⟩
theorem zmn(b Bm nn:Nat)(E:ByteArray->Option ByteArray)(w:World)(hM:MapE w b nn E)(hn:nn<1099511627776)(hBm:Bm<w.heap.size)(hm:w.cell? ⟨Bm,0,none⟩=some (.map (some b))) :
  Calls Tryz.prog 72 #[.func (.func 74) #[] #[.pointer (some ⟨Bm,0,none⟩)]] w fun e w'=>∃(v:Value)(ps:List Pr),e=.returned v/\(AllP E ps/\ps.length<=nn)/\w'.ownsRow w.heap.size 61 2 v ps.length (celsE ps)/\Fr [] w w':=
 zud 74 _ (enters_of Tryz.func74 (by kernel_rfl) rfl) (fun ps=>AllP E ps/\ps.length<=nn) nn hn w (zqf 1 Bm b nn E w hBm hm hM)
end Fo
end Go.Proofs.YtakbodlicfmkjaaGreat
