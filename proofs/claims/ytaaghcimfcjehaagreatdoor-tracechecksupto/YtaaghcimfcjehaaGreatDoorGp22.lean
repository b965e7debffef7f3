/- Contracts and plain lemmas of this claim. -/
import Derived.Test.YtaaghcimfcjehaaGreatDoorGp21
import Derived.RangeFuncNested
import Derived.RangeFuncBound
import Derived.RangeFuncCalls
import Derived.RangeFuncLeaves
import Derived.RangeFuncGives
import Derived.RangeFuncMany
import Derived.Sort.MapsRangeIn
import Derived.Sort.KeysCollected
import Derived.Maps.AppendAt
import Derived.Shelf.Abstract
import Derived.Shelf.RegionOpen
import Derived.OwnWalkIn
import Derived.TacticsInMore
import Derived.RegionIn
import Derived.LoopNIn
import Derived.LoopIn
import Derived.WalkKit
import Derived.Test.YtaaghcimfcjehaaGreatDoorGp3
import Derived.Sort.Walk0
import Derived.Shelf.SlSortCmp.WholeK
import Derived.Shelf.Small.Strs
import Derived.Shelf.Lay
import Derived.Ground.SlsfProg
import Derived.Ground.NamesProg
import Derived.Laws.Cover1
import Derived.Shelf.SlSortCmp.NoneTotal
set_option linter.unusedSimpArgs false
set_option linter.unusedVariables false
set_option maxHeartbeats 4000000
set_option maxRecDepth 100000
namespace Go.Proofs.YtaaghcimfcjehaaGreatDoor
open Go.ChangeShapes Go.WideShapes Go.ChangeAt Go.RowKit Go.Lib
attribute [local go_sem] Oper.semAt_some
theorem Fr.putObj (w:World) (l:Nat) (o:Obj):Fr [l] w (w.putObj l o):=⟨rfl,rfl,rfl,by simp,fun k _ hn=>World.putObj_heap_other (by simpa using hn)⟩
def zes (fn:FuncId) (tmps:Array Value) (ps:Array Tmp) (assign body:Code) (D:Nat) (st:LoopState) (pe:Option Code):Loop:={ state:=st,pending:=pe,fn,tmps,params:=ps,assign,body,defers:=D }
theorem zuj {F:Fence} {n:Nat} {P:Program} {g:Operand} {ps:Array Tmp} {assign body:Code} {Q:Exit->Act->World->Prop} {a:Act} {w:World} (hro:F.round=none) (hF: ∀f,F.fn f) (hdep:F.depth=none) {gf:Nat} {lb:Array Value} (hg:a.eval g= .func (.func gf) #[] lb) (eg: ∀args w,(callFunc gf args).run P w= .ok (.enter gf args) w)
  (h: ∀(fn:FuncId) (RC:LoopState->Option Code->Loop),Hid (RC=zes fn a.tmps ps assign body w.heap.size)->CallsIn F (n-1) P gf (#[Value.func (.yield (w.heap.size+1)) #[] #[]]++lb) ((w.alloc (.deferred (some []))).alloc (.loop (RC .ready none)))
   (rangePost F n P (w.heap.size+1) Q { a with defers:=[({ target:= .collected w.heap.size,args:= #[] }:Deferred)]++a.defers })) :
  (Code.rangeFunc g ps assign body).wpIn F n P Q a w:=by
 refine wpIn_rangeFunc ?_
 intro fn hfn
 rw[hro]
 obtain⟨RC,hRC⟩: ∃RC,RC=zes fn a.tmps ps assign body w.heap.size:=⟨_,rfl⟩
 have hc:=h fn RC hRC
 obtain⟨W1,hW1⟩: ∃W1,(w.alloc (.deferred (some []))).alloc (.loop (RC .ready none))=W1:=⟨_,rfl⟩
 rw[hW1]at hc
 refine⟨w.heap.size+1,[{ target:= .collected w.heap.size,args:= #[] }],W1,{ target:= .fn (.func gf) lb,args:= #[.func (.yield (w.heap.size+1)) #[] #[]] },W1,gf,
  #[.func (.yield (w.heap.size+1)) #[] #[]]++lb,W1,?_,?_,?_,?_,?_,?_⟩
 ·rw[<-hW1,hRC]
  exact run_enterLoop_outer _ _ _ _ _
 ·simp only[resolve,hg]
  simp[go_sem]
 ·intro f' hf'
  exact hF f'
 ·simp[invoke,go_sem,eg]
 ·intro hd
  rw[hdep]at hd
  cases hd
 ·exact hc
theorem zuk {m l:Nat} {P:Program} {fn:FuncId} {tmps:Array Value} {ps:Array Tmp} {assign body:Code} {D:Nat} {args:Array Value} {RC:LoopState->Option Code->Loop} (hRC:Hid (RC=zes fn tmps ps assign body D)) (hs:args.size=ps.size) {W:World} (hl:W.heap[l]? = some (.loop (RC .ready none))) {R:Ending->World->Prop}
  (h:assign.wpIn (Fence.wide.inRound l) m P (Exit.then (fun a₁ w₁=> ∃w₂,(Instr.beginRound l).run P w₁= .ok () w₂/\body.wpIn (Fence.wide.inRound l) m P (roundPost P l R) a₁ w₂) (fun _ _ _=>False))
   { tmps:=(ps.zip args).foldl (fun t (p,v)=>t.setIfInBounds p v) tmps,defers:=[] } W):YieldAt Fence.wide m P l args W R :=
 ⟨fn,_,assign,body,by have:=hRC.out;subst this;exact run_yield (r:=zes fn tmps ps assign body D .ready none) hl hs,roundIn_of_wpIn trivial h⟩
theorem zul {l:Nat} {P:Program} {fn:FuncId} {tmps:Array Value} {ps:Array Tmp} {assign body:Code} {D:Nat} {RC:LoopState->Option Code->Loop} (hRC:Hid (RC=zes fn tmps ps assign body D)) {W:World} (hl:W.heap[l]? = some (.loop (RC .ready none))) :
  (Instr.beginRound l).run P W= .ok () (W.putObj l (.loop (RC .busy none))):=by
 have:=hRC.out
 subst this
 exact run_beginRound hl rfl
theorem zyu {l:Nat} {P:Program} {fn:FuncId} {tmps:Array Value} {ps:Array Tmp} {assign body:Code} {D:Nat} {RC:LoopState->Option Code->Loop} (hRC:Hid (RC=zes fn tmps ps assign body D)) {W:World} (hl:W.heap[l]? = some (.loop (RC .busy none))) (jump:Option Code) :
  (Instr.endRound l jump).run P W= .ok (.bool jump.isNone) (W.putObj l (.loop (RC (if jump.isNone then .ready else .done) jump))):=by
 have:=hRC.out
 subst this
 exact run_endRound jump hl
theorem zlx {l:Nat} {P:Program} {fn:FuncId} {tmps:Array Value} {ps:Array Tmp} {assign body:Code} {D:Nat} {RC:LoopState->Option Code->Loop} (hRC:Hid (RC=zes fn tmps ps assign body D)) {W:World} {st:LoopState} {pe:Option Code} (hl:W.heap[l]? = some (.loop (RC st pe))) (hb:st≠ .busy) :
  (Instr.endLoop l).run P W= .ok pe (W.putObj l (.loop (RC .exhausted pe))):=by
 have:=hRC.out
 subst this
 exact run_endLoop hl hb
open Go.Maps Go.Sort
attribute [local go_sem] Oper.semAt_some
abbrev Pr:=ByteArray×ByteArray
def encE (x:Pr):Value:= .agg #[.string x.1,.string x.2]
def celE (x:Pr):List Value:=[.string x.1,.string x.2]
def zay (ps:List Pr):List Value:=ps.flatMap celE
theorem zbv (ps:List Pr):(zay ps).length=2*ps.length:=by
 induction ps with
 | nil=>rfl
 | cons p ps ih=>simp[zay,celE]at *;omega
theorem zoc (ps:List Pr) (x:Pr):zay (ps++[x])=zay ps++celE x:=by simp[zay]
structure AllP (E:ByteArray->Option ByteArray) (ps:List Pr):Prop where
 nd:(ps.map (·.1)).Nodup
 mem: ∀p,p∈ps↔E p.1=some p.2
theorem zke (x:List UInt8): ∃s:ByteArray,encStr x= .string s/\s.data.toList=x/\kl7 s= .string x:=⟨⟨x.toArray⟩,rfl,by simp,by simp[kl7]⟩
theorem zod (mb:Option Nat) (w:World):Calls Tryz.prog 140 #[.map mb] w fun e w'=>e= .returned (.func (Fn.func 169) #[] #[.pointer (some ⟨w.heap.size,0,none⟩)])/\w'=w.alloc (.cells #[.map mb] 222):=by
 go_enter Tryz.func140,Tryz.ntmps140
 go_wp2
 go_ret
 exact⟨rfl,rfl⟩
theorem zoe (n:Nat) (l Bm b nn:Nat) (D0:DataW Unit) (E:ByteArray->Option ByteArray) (hH: ∀s,has D0 (kl7 s)=(E s).isSome) (hA: ∀s v,E s=some v-> ∀z,D0.atKey (kl7 s) z=entD s v) (J:List Pr->World->Prop)
  (hY: ∀pre x W,J pre W->pre.length<Maps.size D0->YieldAt Fence.wide n Tryz.prog l #[encE x] W fun e W'=>e= .returned (.bool true)/\J (pre++[x]) W'/\KeepsWalks W W')
  (W:World) (hJ:AbidesFrom W.heap.size J) (hm:W.cell? ⟨Bm,0,none⟩=some (.map (some b))) (hown:W.ownsMap Tryz.prog 9 zcn b nn D0) (h0:J [] W) :
  CallsIn Fence.wide (n+1) Tryz.prog 169 #[.func (.yield l) #[] #[],.pointer (some ⟨Bm,0,none⟩)] W fun e W'=>(∃v,e= .returned v)/\ ∃ps,(AllP E ps/\ps.length<=Maps.size D0)/\J ps W':=by
 have HH:Hid (∀s,has D0 (kl7 s)=(E s).isSome):=hH
 have HA:Hid (∀s v,E s=some v-> ∀z,D0.atKey (kl7 s) z=entD s v):=hA
 clear hH hA
 refine callsIn_of_wp Tryz.func169 rfl trivial ?_ rfl
 simp only[Tryz.ntmps169,List.size_toArray,List.length_cons,List.length_nil,Nat.reduceAdd,Nat.reduceSub,Array.replicate_succ,Array.replicate_zero,List.push_toArray,List.append_toArray,List.nil_append,List.cons_append]
 gi_wp2_with (first
  | (gi_at_range;refine wpListIn_range_own _ rfl _ 222 rfl 9 152 Tryz.keyedStr Tryz.undMap _ b nn _ rfl hown ?_;intro w0 hrg0 hg0 hs0)
  | gi_in)
 go_frame
 gi_loopw [4] (fun _ wr=> ∃(left:Lit->Bool) (cnt:Nat) (ps:List Pr),wr.ranges Tryz.prog 9 zcn b W.heap.size nn D0 left cnt/\ps.length+cnt<=Maps.size D0/\Hid (Collected D0 left (ps.map (·.1.data.toList)))/\Hid (∀p∈ps,E p.1=some p.2)/\J ps wr)
  (fun _ wr=>wr.rangeLeft b W.heap.size)
 case atStart =>
  exact⟨_,_,[],hrg0,by simp,Collected.start D0,(by intro p hp;simp at hp),hJ [] W w0 none h0 hg0 (fun r e=>by cases e)⟩
 case round =>
  obtain⟨left,cnt,ps,hrg,hcs,HC,HV,hJs⟩:=hrel
  gi_wp2_with (first
   | (gi_at_next;refine wpListIn_next_ranges _ rfl _ rfl 9 Tryz.keyedStr zcn encStr encE (fun key kl hk=>by obtain⟨x,hx,_⟩:=Maps.keyOf_str Tryz.undS7 hk;exact⟨x,hx⟩) (fun v y hv=>by obtain⟨k,s,rfl,_⟩:=zgi hv;exact⟨(k,s),rfl⟩) b W.heap.size nn _ _ _ rfl hrg ?_ ?_)
   | gi_in)
  ·intro hc0 hl0
   gi_wp2
   go_end0
   refine⟨⟨_,rfl⟩,ps,⟨⟨?_,fun p=>⟨HV.out p,fun hp=> ?_⟩⟩,by omega⟩,hJs⟩
   ·have h1:=HC.out.1
    have h2:ps.map (·.1.data.toList)=(ps.map (·.1)).map (·.data.toList):=by simp
    rw[h2]at h1
    exact List.Pairwise.imp (fun hne he=>hne (by rw[he])) (List.pairwise_map.1 h1)
   ·have hh:has D0 (kl7 p.1)=true:=by rw[HH.out,hp];rfl
    obtain⟨q,hq,he⟩:=List.mem_map.1 ((HC.out.2 p.1.data.toList).2 ⟨hh,hl0 _⟩)
    have e1:q.1=p.1:=zct he
    have e2:=HV.out q hq
    rw[e1,hp]at e2
    have e3:q=p:=Prod.ext e1 (by simpa using e2.symm)
    rw[<-e3];exact hq
  ·intro x c1 c2 kl yd yp w2 cnt2 hkey hlk hv hat hrg2 hlt hg2 hs2 hen
   obtain⟨x',ex,hkl,_⟩:=Maps.keyOf_str Tryz.undS7 hkey
   obtain rfl:x=x':=encStr_inj ex
   subst hkl
   obtain⟨s,hs,hsx,hks⟩:=zke x
   obtain⟨k',s',ec,ey⟩:=zgi hv
   have hC2:=HC.out.step hlk hat
   have hhas:has D0 (.string x)=true:=((hC2.2 x).1 (by simp)).1
   have hE:E s=some c2/\c1=s:=by
    have h1:=HH.out s
    rw[hks,hhas]at h1
    obtain⟨v,hv1⟩:=Option.isSome_iff_exists.1 h1.symm
    have h2:=HA.out s v hv1 (.lit (.bool true))
    rw[hks,hat,(Prod.mk.inj ey).1]at h2
    obtain⟨rfl,rfl⟩:=zue h2
    unfold encE at ec
    simp at ec
    rw[ec.1,ec.2]
    exact⟨hv1,rfl⟩
   have HC2:Hid (Collected D0 (fun z=>left z && !z.sameKey (.string x)) ((ps++[(c1,c2)]).map (·.1.data.toList))):=by
    show Collected _ _ _
    have e:(ps++[(c1,c2)]).map (·.1.data.toList)=ps.map (·.1.data.toList)++[x]:=by simp[hE.2,hsx]
    rw[e];exact hC2
   have HV2:Hid (∀p∈ps++[(c1,c2)],E p.1=some p.2):=fun p hp=>(List.mem_append.1 hp).elim (HV.out p) (fun e=>by simp at e;subst e;show E c1=some c2;rw[hE.2];exact hE.1)
   have hJ2:J ps w2:=hJ ps wr w2 (some W.heap.size) hJs hg2 (fun r e=>by cases e;exact⟨Nat.le_refl _,hrg.iter_walk⟩)
   have hg3:w2.grownBy (w2.alloc (.cells #[.string c1,.string c2] 152)) none:=World.grownBy_alloc w2 _ none
   have hJ3:J ps (w2.alloc (.cells #[.string c1,.string c2] 152)):=hJ ps w2 _ none hJ2 hg3 (fun r e=>by cases e)
   have hk3:KeepsWalks w2 (w2.alloc (.cells #[.string c1,.string c2] 152)):=KeepsWalks.alloc _ _
   obtain⟨fn,tmps,assign,body,hy,hR⟩:=hY ps (c1,c2) _ hJ3 (by omega)
   dsimp only[encE]at hy hen
   clear hs2 hkey hv hat hE hC2 ey ec hlk hJ2 hrg0
   gi_wp2
   refine hR.mono ?_
   rintro e W3 ⟨rfl,hJ4,hk4⟩
   gi_wp2
   have hrg3:=hrg2.of_walks (hk3.trans hk4)
   go_roundw
   case rel=>exact⟨_,cnt2,ps++[(c1,c2)],hrg3,by simp;omega,HC2,HV2,hJ4⟩
   case measure=>rw[hrg3.left_eq,hrg.left_eq];exact hlt
theorem zkf (n Bm b nn:Nat) (E:ByteArray->Option ByteArray) (w:World) (hBm:Bm<w.heap.size) (hm:w.cell? ⟨Bm,0,none⟩=some (.map (some b))) (hM:MapE w b nn E) :
  SeqGives Fence.wide (n+1) Tryz.prog 169 #[.pointer (some ⟨Bm,0,none⟩)] encE (fun ps=>AllP E ps/\ps.length<=nn) nn w:=fun l J W hW hJ hY h0=>by
 obtain⟨D,hown,hH,hA⟩:=hM
 have hbl:=hown.lt
 have hsz:=hown.size_le
 have hown':W.ownsMap Tryz.prog 9 zcn b nn D:=by
  obtain⟨es,clock,hb,hr⟩:=hown
  exact⟨es,clock,(hW.block b hbl).trans hb,hr⟩
 exact (zoe n l Bm b nn D E hH hA J (fun pre x W hJ hl=>hY pre x W hJ (by omega)) W hJ ((hW.cell (p:=⟨Bm,0,none⟩) hBm).trans hm) hown' h0).mono (fun e W' ⟨he,ps,⟨h1,h2⟩,h3⟩=>⟨he,ps,⟨h1,by omega⟩,h3⟩)
attribute [local go_sem] Oper.semAt_some
theorem Tryz.undEns:Tryz.prog.underlying 100=some (.slice 152):=by kernel_rfl
theorem Tryz.infoEn:(Tryz.prog.info? 152).map (fun i=>(i.zero,i.size,i.bytes))=some (some (.agg #[.string ⟨#[]⟩,.string ⟨#[]⟩]),2,32):=by kernel_rfl
theorem Tryz.infoEn': ∃i,Tryz.prog.info? 152=some i/\i.zero=some (.agg #[.string ⟨#[]⟩,.string ⟨#[]⟩])/\i.size=2/\i.bytes=32:=by
 have h:=Tryz.infoEn
 cases hi:Tryz.prog.info? 152 with
 | none=>rw[hi]at h;cases h
 | some i =>
  rw[hi]at h
  simp only[Option.map_some,Option.some.injEq,Prod.mk.injEq]at h
  exact⟨i,rfl,h.1,h.2.1,h.2.2⟩
theorem zda {S:List Nat} {w w':World} {base:Nat} {e:TypeId} {size:Nat} {v:Value} {n:Nat} {xs:List Value} (h:w.ownsRow base e size v n xs) (hf:Fr S w w') (hn: ∀k,v.ownBlock=some k->k∉S):w'.ownsRow base e size v n xs:=by
 refine⟨h.1,?_⟩
 rcases h.2 with h0|⟨g,cap,cur,hv,hb,hg,hr⟩
 ·exact Or.inl h0
 ·exact Or.inr ⟨g,cap,cur,hv,hb,hf.keep hg (hn g (by rw[hv];rfl)),hr⟩
theorem zch {w:World} {base:Nat} {e:TypeId} {size:Nat} {v:Value} {n:Nat} {xs:List Value} (h:w.ownsRow base e size v n xs) {k:Nat} (hk:v.ownBlock=some k):base<=k/\ ∃cur,w.heap[k]? = some (.cells cur e (0,0)):=by
 rcases h.2 with ⟨rfl,_⟩|⟨g,cap,cur,rfl,hb,hg,hr⟩
 ·simp[Value.ownBlock]at hk
 ·simp[Value.ownBlock]at hk
  subst hk
  exact⟨hb,cur,hg⟩
theorem zof (w:World) (x:Pr): ∀(j:Nat) (u:Value),[Value.string x.1,Value.string x.2][j]? = some u->(w.alloc (.cells #[.string x.1,.string x.2] 152)).cell? ((⟨w.heap.size,0,none⟩:Addr).add j)=some u:=by
 intro j u hu
 have hr:=heap_alloc_new w (.cells #[.string x.1,.string x.2] 152)
 match j,hu with
 | 0,hu=>show World.cell? _ ⟨w.heap.size,0,none⟩=_;rw[cell_of_row _ _ _ _ _ _ hr];exact hu
 | 1,hu=>show World.cell? _ ⟨w.heap.size,1,none⟩=_;rw[cell_of_row _ _ _ _ _ _ hr];exact hu
 | (j+2),hu=>simp at hu
theorem zkg (x:Pr): ∀u∈[Value.string x.1,Value.string x.2],u.oneCell'=true:=by
 intro u hu
 simp only[List.mem_cons,List.not_mem_nil,or_false]at hu
 rcases hu with rfl|rfl<;>rfl
theorem zxc {w:World} {b:Nat} {t:TypeId} {v:Value} (h:w.heap[b]? = some (.cells #[v] t (0,0))) (u:Value):(w.setCell ⟨b,0,none⟩ u).heap[b]? = some (.cells #[u] t (0,0)):=by
 obtain⟨hlt,hk⟩:=Array.getElem?_eq_some_iff.1 h
 show (w.heap.modify b _)[b]? = _
 rw[Array.getElem?_eq_getElem (by rw[Array.size_modify];exact hlt),Array.getElem_modify_self,hk]
 rfl
structure ApE (w0:World) (Bs l D:Nat) (rec:Loop) (ps:List Pr) (W:World) (v:Value):Prop where
 box:W.heap[Bs]? = some (.cells #[v] 100 (0,0))
 row:W.ownsRow w0.heap.size 152 2 v ps.length (zay ps)
 lp:W.heap[l]? = some (.loop rec)
 df:W.heap[D]? = some (.deferred (some []))
 fr:Fr [] w0 W
section
variable {w0 W W':World} {Bs l D:Nat} {rec:Loop} {ps:List Pr} {v:Value}
theorem ApE.ne (h:ApE w0 Bs l D rec ps W v) {k:Nat} (hk:v.ownBlock=some k):k≠Bs/\k≠l/\k≠D:=by
 obtain⟨_,cur,hc⟩:=zch h.row hk
 refine⟨?_,?_,?_⟩
 ·rintro rfl;have:=hc.symm.trans h.box;simp at this
 ·rintro rfl;have:=hc.symm.trans h.lp;simp at this
 ·rintro rfl;have:=hc.symm.trans h.df;simp at this
theorem ApE.keepS {S:List Nat} (h:ApE w0 Bs l D rec ps W v) (hf:Fr S W W') (hS: ∀x∈S,w0.heap.size<=x/\x≠Bs/\x≠l/\x≠D/\v.ownBlock≠some x):ApE w0 Bs l D rec ps W' v :=
 ⟨hf.keep h.box (fun hh=>(hS _ hh).2.1 rfl),zda h.row hf (fun k hk hh=>(hS _ hh).2.2.2.2 hk),hf.keep h.lp (fun hh=>(hS _ hh).2.2.1 rfl),hf.keep h.df (fun hh=>(hS _ hh).2.2.2.1 rfl),h.fr.on hf (fun x hx=>(hS x hx).1)⟩
theorem ApE.rec_ (h:ApE w0 Bs l D rec ps W v) (rec':Loop) (h0:w0.heap.size<=l) (h1:Bs≠l) (h2:D≠l):ApE w0 Bs l D rec' ps (W.putObj l (.loop rec')) v:=by
 have hf:=Fr.putObj W l (.loop rec')
 exact⟨hf.keep h.box (by simpa using h1),zda h.row hf (fun k hk hh=>by simp at hh;exact (h.ne hk).2.1 hh),World.putObj_heap_same (Array.getElem?_eq_some_iff.1 h.lp).1,hf.keep h.df (by simpa using h2),h.fr.on hf (fun x hx=>by simp at hx;omega)⟩
theorem ApE.abides (B:Nat) (hB:w0.heap.size<=B):AbidesFrom B (fun ps W=> ∃v,ApE w0 Bs l D rec ps W v):=fun ps W W' row ⟨v,h⟩ hg hrow=>by
 have hf:Fr row.toList W W':=Fr.grown hg (by intro k hk _;simp[hk])
 refine⟨v,h.keepS hf (fun x hx=> ?_)⟩
 simp only[Option.mem_toList]at hx
 obtain⟨hBx,o,ho,hw⟩:=hrow x hx
 refine⟨by omega,?_,?_,?_,?_⟩
 ·rintro rfl;rw[h.box]at ho;cases ho;cases hw
 ·rintro rfl;rw[h.lp]at ho;cases ho;cases hw
 ·rintro rfl;rw[h.df]at ho;cases ho;cases hw
 ·intro hv;obtain⟨_,cur,hc⟩:=zch h.row hv;rw[hc]at ho;cases ho;cases hw
end
theorem zum {S:List Nat} {W W':World} (hf:Fr S W W') (hS: ∀x∈S,∀o,W.heap[x]? = some o->o.isWalk=false):KeepsWalks W W':=by
 refine⟨hf.size,fun k o hk ho=>hf.keep hk (fun hh=> ?_)⟩
 rw[hS k hh o hk]at ho
 cases ho
theorem zkh (g:Nat) (lb:Array Value) (eg: ∀args w,(callFunc g args).run Tryz.prog w= .ok (.enter g args) w) (S:List Pr->Prop) (N:Nat) (hN:N<1099511627776) (w:World) (hseq:SeqGives Fence.wide 2 Tryz.prog g lb encE S N w) :
  CallsIn Fence.wide 3 Tryz.prog 179 #[.slice none 0 0,.func (.func g) #[] lb] w fun e w'=> ∃(v:Value) (ps:List Pr),e= .returned v/\S ps/\w'.ownsRow w.heap.size 152 2 v ps.length (zay ps)/\Fr [] w w':=by
 obtain⟨i0,hi,hz0,hz1,hz2⟩:=Tryz.infoEn'
 have hmx:(1099511627776:Nat)<=maxLen:=by unfold maxLen;omega
 refine callsIn_of_wp_marks Tryz.func179 rfl trivial ?_ rfl
 simp only[Tryz.ntmps179,List.size_toArray,List.length_cons,List.length_nil,Nat.reduceAdd,Nat.reduceSub,Array.replicate_succ,Array.replicate_zero,List.push_toArray,List.append_toArray,List.nil_append,List.cons_append]
 gi_wp2_with fail
 have hB1:(w.alloc (.cells #[.slice none 0 0] 100)).heap[w.heap.size]? = some (.cells #[.slice none 0 0] 100 (0,0)):=heap_alloc_new w _
 have hF1:Fr [] w (w.alloc (.cells #[.slice none 0 0] 100)):=Fr.alloc _ _ _
 have hs1:(w.alloc (.cells #[.slice none 0 0] 100)).heap.size=w.heap.size+1:=by simp
 obtain⟨w1,HW1⟩: ∃w1,Hid (w.alloc (.cells #[.slice none 0 0] 100)=w1):=⟨_,rfl⟩
 rw[HW1.out]at hB1 hF1 hs1 ⊢
 obtain⟨Bs,hBs⟩: ∃Bs,Bs=w.heap.size:=⟨_,rfl⟩
 rw[<-hBs]at hB1 ⊢
 refine zuj rfl (fun _=>True.intro) rfl (gf:=g) (lb:=lb) rfl eg ?_
 intro fn RC HRC
 obtain⟨D,hD⟩: ∃D,D=w1.heap.size:=⟨_,rfl⟩
 obtain⟨lr,hlr⟩: ∃lr,lr=w1.heap.size+1:=⟨_,rfl⟩
 have hF2:Fr [] w1 ((w1.alloc (.deferred (some []))).alloc (.loop (RC .ready none))):=(Fr.alloc [] _ _).then (Fr.alloc [] _ _)
 have hL2:((w1.alloc (.deferred (some []))).alloc (.loop (RC .ready none))).heap[w1.heap.size+1]? = some (.loop (RC .ready none)):=by
  have:=World.alloc_heap_new (w1.alloc (.deferred (some []))) (.loop (RC .ready none));rwa [World.size_alloc]at this
 have hK2:((w1.alloc (.deferred (some []))).alloc (.loop (RC .ready none))).heap[w1.heap.size]? = some (.deferred (some [])) :=
  (Below.heap_alloc _ _ _ (by simp)).trans (World.alloc_heap_new w1 _)
 have hs2:((w1.alloc (.deferred (some []))).alloc (.loop (RC .ready none))).heap.size=w1.heap.size+2:=by simp
 obtain⟨w2,HW2⟩: ∃w2,Hid ((w1.alloc (.deferred (some []))).alloc (.loop (RC .ready none))=w2):=⟨_,rfl⟩
 rw[HW2.out]at hF2 hL2 hK2 hs2 ⊢
 rw[<-hlr]at hL2 ⊢
 rw[<-hD]at HRC hK2 ⊢
 have hord:w.heap.size<=Bs/\Bs<D/\D<lr/\lr<w2.heap.size:=by omega
 clear hD hlr hs2 HW2 hBs hs1
 have hA0:ApE w Bs lr D (RC .ready none) [] w2 (.slice none 0 0):=⟨hF2.keep hB1 (by simp),⟨rfl,.inl ⟨rfl,rfl⟩⟩,hL2,hK2,hF1.then hF2⟩
 have hG2:=hF1.then hF2
 refine (hseq lr (fun ps W=> ∃v,ApE w Bs lr D (RC .ready none) ps W v) w2 (hG2.below (Nat.le_refl _) (by simp)) (ApE.abides _ hG2.size) ?_ ⟨_,hA0⟩).mono ?_
 ·rintro ps x W ⟨v,hL⟩ hlen
  refine zuk HRC rfl hL.lp ?_
  have hFa:Fr [] W (W.alloc (.cells #[.string x.1,.string x.2] 152)):=Fr.alloc _ _ _
  have hrow:(W.alloc (.cells #[.string x.1,.string x.2] 152)).heap[W.heap.size]? = some (.cells #[.string x.1,.string x.2] 152 (0,0)):=heap_alloc_new W _
  have hLa:=hL.keepS hFa (by simp)
  have hbr:=zul (P:=Tryz.prog) HRC hLa.lp
  have hLb:=hLa.rec_ (RC .busy none) (by omega) (by omega) (by omega)
  have hlrW:lr<W.heap.size:=lt_of_block hL.lp
  have hFb:=Fr.putObj (W.alloc (.cells #[.string x.1,.string x.2] 152)) lr (.loop (RC .busy none))
  have hrowb:=hFb.keep hrow (by simp;omega)
  have hkb:KeepsWalks W ((W.alloc (.cells #[.string x.1,.string x.2] 152)).putObj lr (.loop (RC .busy none))):=(KeepsWalks.alloc _ _).trans (KeepsWalks.putObj _ hLa.lp rfl)
  obtain⟨Wb,HWb⟩: ∃Wb,Hid ((W.alloc (.cells #[.string x.1,.string x.2] 152)).putObj lr (.loop (RC .busy none))=Wb):=⟨_,rfl⟩
  rw[HWb.out]at hbr hLb hrowb hFb hkb
  have f0:Wb.cell? ⟨W.heap.size,0,none⟩=some (.string x.1):=by rw[cell_of_row _ _ _ _ _ _ hrowb];rfl
  have f1:Wb.cell? ⟨W.heap.size,1,none⟩=some (.string x.2):=by rw[cell_of_row _ _ _ _ _ _ hrowb];rfl
  have x0:Wb.cell? ⟨Bs,0,none⟩=some v:=by rw[cell_of_row _ _ _ _ _ _ hLb.box];rfl
  have x1:Wb.frozen? ⟨Bs,0,none⟩=false:=by simp[World.frozen?,hLb.box]
  have hLbR:=hLb.row
  have HLb:Hid (ApE w Bs lr D (RC .busy none) ps Wb v):=hLb
  have hbs:w.heap.size<=Wb.heap.size:=hLb.fr.size
  clear hLa hrow hrowb hFa hL hLb hFb
  have hfo:Array.foldl (fun (t:Array Value) (x:Tmp×Value)=>match x with|(p,v)=>t.setIfInBounds p v) #[Value.slice none 0 0,Value.func (Fn.func g) #[] lb,Value.pointer (some { block:=Bs,off:=0 }),undef,Value.slice none 0 0,undef,Value.func (Fn.func g) #[] lb,undef,undef,undef,undef,undef,undef] (#[7].zip #[encE x]) =
   #[Value.slice none 0 0,Value.func (Fn.func g) #[] lb,Value.pointer (some { block:=Bs,off:=0 }),undef,Value.slice none 0 0,undef,Value.func (Fn.func g) #[] lb,.agg #[.string x.1,.string x.2],undef,undef,undef,undef,undef]:=by simp[encE]
  rw[hfo]
  clear hfo
  gi_wp2_with (first
   | (
    gi_at_builtin;refine wpListIn_append_own _ rfl _ _ 100 rfl w.heap.size 152 i0 _ 2 32 Tryz.undEns hi hz0 hz1 hz2 rfl (by decide) _ _ _ rfl (hLbR.alloc _) ⟨Wb.heap.size,0,none⟩ 1 1 [.string x.1,.string x.2] rfl rfl (zof Wb x) (zkg x) (by omega) (by omega) (by simp;omega) ?_
    intro v' w3 hown' hg3 hnil3
    have hf3:Fr v.ownBlock.toList Wb w3:=(Fr.alloc _ Wb _).then (Fr.grown hg3 (fun y hy _=>Option.mem_toList.2 hy))
    have hbx3:w3.heap[Bs]? = some (.cells #[v] 100 (0,0)):=hf3.keep HLb.out.box (fun hh=>by simp only[Option.mem_toList]at hh;exact (HLb.out.ne hh).1 rfl)
    have c3:w3.cell? ⟨Bs,0,none⟩=some v:=by rw[cell_of_row _ _ _ _ _ _ hbx3];rfl
    have d3:w3.frozen? ⟨Bs,0,none⟩=false:=by simp[World.frozen?,hbx3]
    obtain⟨g',cap',rfl,hgb⟩: ∃g' cap',v'= .slice (some ⟨g',0,none⟩) (ps.length+1) cap'/\w.heap.size<=g':=by
     rcases hown'.2 with ⟨_,h0⟩|⟨g',cap',cur',h1,h2,_⟩
     ·exact absurd h0 (by omega)
     ·exact⟨g',cap',h1,h2⟩
    go_frame)
   | (rw[Oper.semAt_eq _ _ _ (fun c h=>by cases h)];go_simp;try go_bits))
  have hk3:KeepsWalks Wb w3:=zum hf3 (fun y hy o ho=>by
   simp only[Option.mem_toList]at hy
   obtain⟨_,cur,hc⟩:=zch HLb.out.row hy
   rw[hc]at ho;cases ho;rfl)
  obtain⟨u,hu⟩: ∃u,u=Value.slice (some { block:=g',off:=0 }) (ps.length+1) cap':=⟨_,rfl⟩
  rw[<-hu]at hown' ⊢
  have huo:u.ownBlock=some g':=by rw[hu];rfl
  have hgB:g'≠Bs:=by
   rintro rfl
   obtain⟨_,cur,hc⟩:=zch hown' huo
   have:=hc.symm.trans hbx3
   simp at this
  have hfs:Fr [Bs] w3 (w3.setCell ⟨Bs,0,none⟩ u):=Fr.set _ _ _ (by simp)
  have n3: ∀ {y:Nat},y∈v.ownBlock.toList->y≠Bs/\y≠lr/\y≠D:=fun hy=>by simp only[Option.mem_toList]at hy;exact HLb.out.ne hy
  have hA4:ApE w Bs lr D (RC .busy none) (ps++[x]) (w3.setCell ⟨Bs,0,none⟩ u) u:=by
   refine⟨?_,?_,hfs.keep (hf3.keep HLb.out.lp (fun hh=>(n3 hh).2.1 rfl)) (by simp;omega),hfs.keep (hf3.keep HLb.out.df (fun hh=>(n3 hh).2.2 rfl)) (by simp;omega),(HLb.out.fr.on hf3 (fun y hy=> ?_)).on hfs (by intro y hy;simp at hy;omega)⟩
   ·exact zxc hbx3 u
   ·have:=zda hown' hfs (fun k hk hh=>by rw[huo]at hk;cases hk;simp at hh;exact hgB hh)
    rw[List.length_append,List.length_singleton,zoc]
    exact this
   ·simp only[Option.mem_toList]at hy
    exact (zch HLb.out.row hy).1
  have hend:=zyu (P:=Tryz.prog) HRC hA4.lp none
  have hA5:=hA4.rec_ (RC .ready none) (by omega) (by omega) (by omega)
  exact⟨_,_,hend,rfl,⟨u,hA5⟩,hkb.trans (hk3.trans ((KeepsWalks.setCell _ _ _).trans (KeepsWalks.putObj _ hA4.lp rfl)))⟩
 ·rintro e W3 ⟨⟨v0,rfl⟩,ps,hS,v,hL⟩
  have hle:=zlx (P:=Tryz.prog) HRC hL.lp (by simp)
  have hL4:=hL.rec_ (RC .exhausted none) (by omega) (by omega) (by omega)
  obtain⟨W4,HW4⟩: ∃W4,Hid (W3.putObj lr (.loop (RC .exhausted none))=W4):=⟨_,rfl⟩
  rw[HW4.out]at hle hL4
  have x0:W4.cell? ⟨Bs,0,none⟩=some v:=by rw[cell_of_row _ _ _ _ _ _ hL4.box];rfl
  have x1:W4.frozen? ⟨Bs,0,none⟩=false:=by simp[World.frozen?,hL4.box]
  have HL4:Hid (ApE w Bs lr D (RC .exhausted none) ps W4 v):=hL4
  have HS:Hid (S ps):=hS
  clear hL hL4 hS HRC hseq hA0
  refine⟨none,W4,hle,?_⟩
  clear hle
  gi_wp2_with fail
  have hF5:Fr [D] W4 (W4.putObj D (.deferred none)):=Fr.putObj _ D _
  refine⟨by simp,.inl ⟨_,_,rfl,run_takeDeferred HL4.out.df,?_⟩⟩
  refine⟨_,results_tmp rfl _ _ _,v,ps,rfl,HS.out,zda HL4.out.row hF5 (fun k hk hh=>by simp at hh;exact (HL4.out.ne hk).2.2 hh),HL4.out.fr.on hF5 (by intro y hy;simp at hy;omega)⟩
theorem zog (g:Nat) (lb:Array Value) (eg: ∀args w,(callFunc g args).run Tryz.prog w= .ok (.enter g args) w) (S:List Pr->Prop) (N:Nat) (hN:N<1099511627776) (w:World) (hseq:SeqGives Fence.wide 2 Tryz.prog g lb encE S N w) :
  Calls Tryz.prog 167 #[.func (.func g) #[] lb] w fun e w'=> ∃(v:Value) (ps:List Pr),e= .returned v/\S ps/\w'.ownsRow w.heap.size 152 2 v ps.length (zay ps)/\Fr [] w w':=by
 have h0:=callsIn_wide.1 (zkh g lb eg S N hN w hseq)
 go_enter Tryz.func167,Tryz.ntmps167
 go_wp2_with fail
 refine h0.mono ?_
 rintro e w1 ⟨v,ps,rfl,hS,hrow,hF⟩
 go_wp2
 go_ret
 exact⟨v,ps,rfl,hS,hrow,hF⟩
theorem zhx (b Bm nn:Nat) (E:ByteArray->Option ByteArray) (w:World) (hM:MapE w b nn E) (hn:nn<1099511627776) (hBm:Bm<w.heap.size) (hm:w.cell? ⟨Bm,0,none⟩=some (.map (some b))) :
  Calls Tryz.prog 167 #[.func (.func 169) #[] #[.pointer (some ⟨Bm,0,none⟩)]] w fun e w'=> ∃(v:Value) (ps:List Pr),e= .returned v/\(AllP E ps/\ps.length<=nn)/\w'.ownsRow w.heap.size 152 2 v ps.length (zay ps)/\Fr [] w w' :=
 zog 169 _ (enters_of Tryz.func169 (by kernel_rfl) rfl) (fun ps=>AllP E ps/\ps.length<=nn) nn hn w (zkf 1 Bm b nn E w hBm hm hM)
open Go.Shelf
shelf_lay_g SlLaysF0.n6 Slsf 6 at Tryz 168 as Tryz.sortEn
shelf_lay Lays.n106 Nm 106 at Tryz as Tryz.strCmp
def cfE (x y:Pr):Int:=compareBytes x.1.data.toList y.1.data.toList
theorem zro (x y:Pr) (W:World):Calls Tryz.prog 141 #[.agg #[.string x.1,.string x.2],.agg #[.string y.1,.string y.2]] W fun e w'=>e= .returned (.int .i64 (cfE x y))/\ ∃q os',w'=grow (W.drewN q) os':=by
 have hcon:=fun W'=>Any.strings_Compare Tryz.strCmp x.1 y.1 W'
 change ∀W',Calls Tryz.prog 170 _ _ _ at hcon
 unfold cfE
 generalize compareBytes x.1.data.toList y.1.data.toList=r at hcon ⊢
 go_enter Tryz.func141,Tryz.ntmps141
 go_wp2_with (go_at_call 170;refine (hcon _).mono ?_;rintro e w' ⟨rfl,rfl⟩)
 go_ret
 exact⟨rfl,0,_,by rw[alloc_eq_grow,alloc_eq_grow,grow_grow];rfl⟩
theorem zet (x y:Pr):ltOf cfE x y=Op.bytesLess x.1.toList y.1.toList:=by
 unfold ltOf cfE
 rw[ByteArray.toList_eq,ByteArray.toList_eq]
 have h:=zrm x.1.data.toList y.1.data.toList
 cases hb:Op.bytesLess x.1.data.toList y.1.data.toList with
 | true=>simpa using h.2 hb
 | false =>
  rw[hb]at h
  simpa using h
theorem swoE:SWO (ltOf cfE) where
 irrefl x:=by rw[zet];exact zdp _
 trans x y z h1 h2:=by rw[zet]at *;exact zgu h1 h2
 ntrans x y z h1 h2:=by rw[zet]at *;exact zrn h1 h2
theorem zki: ∀(ps:List Pr) (t:Nat),t<ps.length*2->(zay ps)[t]? = some ((celE ps[t/2]!)[t%2]!)
 | [],t,h=>by simp at h
 | p::ps,0,h=>by simp[zay,celE]
 | p::ps,1,h=>by simp[zay,celE]
 | p::ps,(t+2),h=>by
  have ih:=zki ps t (by simp at h;omega)
  have e1:(t+2)/2=t/2+1:=by omega
  have e2:(t+2)%2=t%2:=by omega
  rw[e1,e2]
  have e3:(zay (p::ps))[t+2]? = (zay ps)[t]? :=by simp[zay,celE]
  rw[e3,ih]
  simp
theorem zwd (ps:List Pr):flatK celE 2 ps.toArray=(zay ps).toArray:=by
 apply Array.ext_getElem?
 intro t
 by_cases h:t<ps.length*2
 ·have h1:t<(flatK celE 2 ps.toArray).size:=by rw[size_flatK];simpa using h
  have h2:=get_flatK celE 2 ps.toArray t (by simpa using h)
  rw[getElem!_pos _ t h1]at h2
  rw[Array.getElem?_eq_getElem h1,h2,List.getElem?_toArray,zki ps t h]
  simp
 ·rw[Array.getElem?_eq_none (by rw[size_flatK];simp;omega),Array.getElem?_eq_none (by simp[zbv];omega)]
theorem zyv {w:World} {g:Nat} {cur:Array Value} {e:TypeId} {ps:List Pr} (hb:w.heap[g]? = some (.cells cur e (0,0))) (ht:cur.toList.take (ps.length*2)=zay ps):HoldsK celE 2 w g 0 ps.toArray:=by
 unfold HoldsK
 rw[zwd]
 intro j hj
 have hj':j<ps.length*2:=by simp[zbv]at hj;omega
 refine⟨?_,by simp[World.frozen?,hb]⟩
 have h1:(cur.toList.take (ps.length*2))[j]? = (zay ps)[j]? :=by rw[ht]
 rw[List.getElem?_take_of_lt hj']at h1
 rw[cell_of_row _ _ _ _ _ _ hb,Nat.zero_add,<-Array.getElem?_toList,h1]
 have hl:j<(zay ps).length:=by rw[zbv];omega
 simp[hl]
theorem zzu {w:World} {g n:Nat} {os:Array Obj} {cur:Array Value} {e:TypeId} {fr:Nat×Nat} (d:Array Pr) (hb:w.heap[g]? = some (.cells cur e fr)) :
  (sortWorldK celE 2 w g 0 n d os).heap[g]? = some (.cells (putCells id 0 (flatK celE 2 d) cur) e fr):=by
 have hg:g<w.heap.size:=(Array.getElem?_eq_some_iff.1 hb).1
 unfold sortWorldK putRowK
 rw[heap_grow_old _ _ (by simpa using hg)]
 simp[putRow,mapBlock,Sort.ahead,Array.getElem?_modify,hb,onCells]
theorem zyw {w:World} {g n:Nat} {os:Array Obj} (d:Array Pr):w.grownBy (sortWorldK celE 2 w g 0 n d os) (some g):=by
 unfold sortWorldK putRowK
 refine⟨rfl,rfl,rfl,by simp,fun k hk hne=> ?_⟩
 rw[heap_grow_old _ _ (by simpa using hk)]
 have:g≠k:=fun e=>hne (by rw[e])
 simp[putRow,mapBlock,Sort.ahead,Array.getElem?_modify,this]
theorem zrp (cur:Array Value) (vs:List Value) (h:vs.length<=cur.size):(putCells id 0 vs.toArray cur).toList.take vs.length=vs:=by
 apply List.ext_getElem?
 intro j
 by_cases hj:j<vs.length
 ·rw[List.getElem?_take_of_lt hj,Array.getElem?_toList]
  simp[putCells,hj,show j<cur.size by omega]
 ·rw[List.getElem?_take_eq_none (by omega),List.getElem?_eq_none (by omega)]
def Sd (ps:List Pr):Prop:=ps.Pairwise fun a b=>Op.bytesLess b.1.toList a.1.toList=false
theorem zzv {ds:List Pr} (h:SortedIn (ltOf cfE) 0 ds.length ds.toArray):Sd ds:=by
 unfold Sd
 rw[List.pairwise_iff_getElem]
 intro i j hi hj hij
 have:=h i j (Nat.zero_le _) hij hj
 rw[zet]at this
 simpa[hi,hj]using this
theorem Tryz.isAggEn (w:World):(isAgg 152).run Tryz.prog w= .ok true w:=by kernel_rfl
theorem Tryz.sizeOfEn (w:World):(Go.sizeOf 152).run Tryz.prog w= .ok 2 w:=by kernel_rfl
theorem zun (x:Pr): ∀v∈celE x,v.oneCell'=true:=zkg x
theorem zoh (base g cap:Nat) (ps:List Pr) (w:World) (hrow:w.ownsRow base 152 2 (.slice (some ⟨g,0,none⟩) ps.length cap) ps.length (zay ps)) (hlen:ps.length<1099511627776) :
  Calls Tryz.prog 168 #[.slice (some ⟨g,0,none⟩) ps.length cap,.func (.func 141) #[] #[]] w fun e w'=>e= .returned (.tuple #[])/\ ∃ds,ds.Perm ps/\Sd ds/\w'.ownsRow base 152 2 (.slice (some ⟨g,0,none⟩) ps.length cap) ps.length (zay ds)/\Fr [g] w w':=by
 obtain⟨hl,hr⟩:=hrow
 rcases hr with ⟨hh,_⟩|⟨g',cap',cur,hh,hbase,hb,h1,h2,h3,h4⟩
 ·cases hh
 cases hh
 have eg: ∀args w,(callFunc 141 args).run Tryz.prog w= .ok (.enter 141 args) w:=enters_of Tryz.func141 (by kernel_rfl) rfl
 have hcmp:CmpLays Tryz.prog 141 #[] celE 2 cfE g 0 ps.toArray.size w:=fun _ _ _ _ x y=>zro x y _
 have hcon:=AnyQ.slices_SortFunc Tryz.sortEn 2 Tryz.isAggEn Tryz.sizeOfEn celE (fun _=>rfl) zun cfE swoE 141 #[] g 0 cap ps.toArray w eg hcmp (zyv hb h4) (lt_of_block hb) (by simp;omega)
 change Calls Tryz.prog 168 _ _ _ at hcon
 have hsz:ps.toArray.size=ps.length:=by simp
 rw[hsz]at hcon
 refine hcon.mono ?_
 rintro e w' ⟨rfl,d',n,os,hp,hs,rfl⟩
 obtain⟨hs1,_,hp1⟩:=hp
 have hd:d'.toList.length=ps.length:=by simpa using hs1
 refine⟨rfl,d'.toList,?_,?_,⟨?_,.inr ⟨g,cap,_,rfl,hbase,zzu d' hb,h1,h2,by simp[putCells,h3],?_⟩⟩,Fr.grown (zyw d') (by intro k hk _;cases hk;simp)⟩
 ·have e1:d'.extract 0 ps.length=d':=by rw[<-hd];simp
  have e2:ps.toArray.extract 0 ps.length=ps.toArray:=by simp
  rw[e1,e2]at hp1
  simpa using hp1
 ·refine zzv ?_
  rw[hd]
  simpa using hs
 ·rw[zbv,hd];omega
 ·have e1:flatK celE 2 d'=(zay d'.toList).toArray:=by rw[<-zwd]
  have e2:ps.length*2=(zay d'.toList).length:=by rw[zbv,hd];omega
  rw[e1,e2]
  exact zrp cur _ (by rw[zbv,hd,h3];omega)
def Inc (ps:List Pr):Prop:=ps.Pairwise fun a b=>Op.bytesLess a.1.toList b.1.toList=true
structure Is (E:ByteArray->Option ByteArray) (ps:List Pr):Prop where
 inc:Inc ps
 mem: ∀p,p∈ps↔E p.1=some p.2
theorem zhy {p:Pr}: ¬Op.bytesLess p.1.toList p.1.toList=true:=by rw[zdp];simp
theorem zhl: ∀ {ps qs:List Pr},Inc ps->Inc qs->(∀p,p∈ps↔p∈qs)->ps=qs
 | [],[],_,_,_=>rfl
 | [],q::qs,_,_,h=>absurd ((h q).2 (by simp)) (by simp)
 | p::ps,[],_,_,h=>absurd ((h p).1 (by simp)) (by simp)
 | p::ps,q::qs,h1,h2,h=>by
  unfold Inc at h1 h2
  rw[List.pairwise_cons]at h1 h2
  have hpq:p=q:=by
   have m1:=(h p).1 (by simp)
   have m2:=(h q).2 (by simp)
   rcases List.mem_cons.1 m1 with e|e
   ·exact e
   rcases List.mem_cons.1 m2 with e'|e'
   ·exact e'.symm
   have a:=h2.1 p e
   have b:=h1.1 q e'
   exact absurd (zgu a b) zhy
  subst hpq
  congr 1
  refine zhl h1.2 h2.2 fun x=>⟨fun hx=> ?_,fun hx=> ?_⟩
  ·rcases List.mem_cons.1 ((h x).1 (List.mem_cons_of_mem _ hx)) with e|e
   ·subst e;exact absurd (h1.1 x hx) zhy
   ·exact e
  ·rcases List.mem_cons.1 ((h x).2 (List.mem_cons_of_mem _ hx)) with e|e
   ·subst e;exact absurd (h2.1 x hx) zhy
   ·exact e
theorem Is.unique {E:ByteArray->Option ByteArray} {ps qs:List Pr} (h1:Is E ps) (h2:Is E qs):ps=qs :=
 zhl h1.inc h2.inc fun p=>(h1.mem p).trans (h2.mem p).symm
theorem Is.nil:Is (fun _=>none) []:=⟨List.Pairwise.nil,fun p=>by simp⟩
theorem Is.cong {E E':ByteArray->Option ByteArray} {ps:List Pr} (h:Is E ps) (e: ∀s,E s=E' s):Is E' ps:=⟨h.inc,fun p=>by rw[<-e];exact h.mem p⟩
theorem zrq {E:ByteArray->Option ByteArray} {ps ds:List Pr} (h:AllP E ps) (hp:ds.Perm ps) (hs:ds.Pairwise fun a b=>Op.bytesLess b.1.toList a.1.toList=false):Is E ds:=by
 refine⟨?_,fun p=>by rw[<-h.mem p];exact hp.mem_iff⟩
 have hn:(ds.map (·.1)).Nodup:=(hp.map (·.1)).nodup_iff.2 h.nd
 have hn2:=List.pairwise_map.1 hn
 unfold Inc
 have:=hs.and hn2
 refine this.imp ?_
 rintro a b ⟨h1,h2⟩
 cases hab:Op.bytesLess a.1.toList b.1.toList with
 | true=>rfl
 | false =>
  exfalso
  have e:=zwc hab h1
  rw[ByteArray.toList_eq,ByteArray.toList_eq]at e
  exact h2 (zct e)
theorem Is.filter {E:ByteArray->Option ByteArray} {ps:List Pr} (h:Is E ps) (K:ByteArray->Bool):Is (fun s=>if K s=true then E s else none) (ps.filter fun p=>K p.1):=by
 refine⟨List.Pairwise.filter _ h.inc,fun p=> ?_⟩
 rw[List.mem_filter,h.mem p]
 by_cases hk:K p.1=true
 ·simp[hk]
 ·simp[hk]
def wrote (ps:List Pr) (x:Wt):List Pr:=ps.filter (fun p=>Op.bytesLess p.1.toList x.key.toList)++(if x.drop=true then [] else [(x.key,x.val)])++ps.filter (fun p=>Op.bytesLess x.key.toList p.1.toList)
theorem Is.write {E:ByteArray->Option ByteArray} {ps:List Pr} (h:Is E ps) (x:Wt):Is (zbh E x) (wrote ps x):=by
 refine⟨?_,fun p=> ?_⟩
 ·unfold Inc wrote
  have hi:ps.Pairwise fun a b=>Op.bytesLess a.1.toList b.1.toList=true:=h.inc
  rw[List.pairwise_append,List.pairwise_append]
  refine⟨⟨List.Pairwise.filter _ hi,?_,?_⟩,List.Pairwise.filter _ hi,?_⟩
  ·by_cases hd:x.drop=true<;>simp[hd]
  ·intro a ha b hb
   by_cases hd:x.drop=true
   ·simp[hd]at hb
   ·simp[hd]at hb
    subst hb
    exact (List.mem_filter.1 ha).2
  ·intro a ha b hb
   have hb':=(List.mem_filter.1 hb).2
   rcases List.mem_append.1 ha with ha|ha
   ·exact zgu (List.mem_filter.1 ha).2 hb'
   ·by_cases hd:x.drop=true
    ·simp[hd]at ha
    ·simp[hd]at ha
     subst ha
     exact hb'
 ·unfold wrote zbh
  rw[List.mem_append,List.mem_append,List.mem_filter,List.mem_filter,h.mem p]
  by_cases hk:p.1=x.key
  ·rw[if_pos hk,hk,zdp]
   by_cases hd:x.drop=true
   ·simp[hd]
   ·simp[hd]
    constructor
    ·rintro rfl;rfl
    ·intro e;exact Prod.ext hk e.symm
  ·rw[if_neg hk]
   have hne: ¬p=(x.key,x.val):=fun e=>hk (by rw[e])
   have hm: ¬p∈(if x.drop=true then [] else [(x.key,x.val)]):=by
    by_cases hd:x.drop=true
    ·simp[hd]
    ·simp[hd];exact hne
   constructor
   ·rintro ((h1|h1)|h1)
    ·exact h1.1
    ·exact absurd h1 hm
    ·exact h1.1
   ·intro h1
    cases hab:Op.bytesLess p.1.toList x.key.toList with
    | true=>exact Or.inl (Or.inl ⟨h1,rfl⟩)
    | false =>
     cases hba:Op.bytesLess x.key.toList p.1.toList with
     | true=>exact Or.inr ⟨h1,rfl⟩
     | false =>
      exfalso
      have e:=zwc hab hba
      rw[ByteArray.toList_eq,ByteArray.toList_eq]at e
      exact hk (zct e)
theorem zhm (Pk:ByteArray->Bool) (s:ByteArray) (hs:Pk s=true): ∀(ws:List Wt) (E E':ByteArray->Option ByteArray),E s=E' s->zbc Pk E ws s=zbc (fun _=>true) E' ws s
 | [],E,E',h=>h
 | x::ws,E,E',h=>by
  show zbc Pk (zcd Pk E x) ws s=zbc (fun _=>true) (zcd (fun _=>true) E' x) ws s
  refine zhm Pk s hs ws _ _ ?_
  unfold zcd
  rw[if_pos rfl]
  by_cases hk:Pk x.key=true
  ·rw[if_pos hk];unfold zbh;rw[h]
  ·rw[if_neg hk]
   unfold zbh
   rw[if_neg (fun e=>hk (by rw[<-e];exact hs)),h]
theorem zgj (Pk:ByteArray->Bool) (s:ByteArray) (hs:Pk s=false): ∀(ws:List Wt) (E:ByteArray->Option ByteArray),zbc Pk E ws s=E s
 | [],E=>rfl
 | x::ws,E=>by
  show zbc Pk (zcd Pk E x) ws s=E s
  rw[zgj Pk s hs ws]
  unfold zcd
  by_cases hk:Pk x.key=true
  ·rw[if_pos hk];unfold zbh;rw[if_neg (fun e=>by rw[e]at hs;rw[hs]at hk;cases hk)]
  ·rw[if_neg hk]
theorem zkj (Pk:ByteArray->Bool) (s:ByteArray) (hs:Pk s=true): ∀(l:List Tx) (E E':ByteArray->Option ByteArray),E s=E' s->call Pk E l s=call (fun _=>true) E' l s
 | [],E,E',h=>h
 | t::l,E,E',h=>zkj Pk s hs l _ _ (zhm Pk s hs t.ws E E' h)
theorem zir (Pk:ByteArray->Bool) (s:ByteArray) (hs:Pk s=false): ∀(l:List Tx) (E:ByteArray->Option ByteArray),call Pk E l s=E s
 | [],E=>rfl
 | t::l,E=>by
  show call Pk (zbc Pk E t.ws) l s=E s
  rw[zir Pk s hs l,zgj Pk s hs]
def fo (l:List Tx):ByteArray->Option ByteArray:=call (fun _=>true) (fun _=>none) l
theorem zxd (Pk:ByteArray->Bool) (l:List Tx) (s:ByteArray):call Pk (fun _=>none) l s=if Pk s=true then fo l s else none:=by
 by_cases h:Pk s=true
 ·rw[if_pos h];exact zkj Pk s h l _ _ rfl
 ·rw[if_neg h];exact zir Pk s (by simpa using h) l _
theorem CoTold.ok0 {l:List Tx} {f:Int} (h:CoTold l f 0):okL 1 l/\0<=f/\f<=(l.length:Int):=by
 rcases h with ⟨_,h0⟩|⟨_,_,h0⟩|⟨h1,h2,_⟩
 ·exact absurd rfl h0
 ·cases h0
 ·exact⟨h1,h2⟩
structure EOut (w w':World) (ro:Option Addr) (N rc:Nat) (ps:List Pr):Prop where
 len:N=ps.length
 row:w'.ownsRow w.heap.size 152 2 (.slice ro N rc) N (zay ps)
theorem zuo {w:World} {base base':Nat} {e:TypeId} {size:Nat} {v:Value} {n:Nat} {xs:List Value} (h:w.ownsRow base e size v n xs) (hb:base'<=base):w.ownsRow base' e size v n xs:=by
 refine⟨h.1,?_⟩
 rcases h.2 with h0|⟨g,cap,cur,hv,hg,hr⟩
 ·exact Or.inl h0
 ·exact Or.inr ⟨g,cap,cur,hv,by omega,hr⟩
theorem zrr (base:Nat) (v:Value) (ps:List Pr) (w:World) (hrow:w.ownsRow base 152 2 v ps.length (zay ps)) (hlen:ps.length<1099511627776) :
  Calls Tryz.prog 168 #[v,.func (.func 141) #[] #[]] w fun e w'=>e= .returned (.tuple #[])/\ ∃ds,ds.Perm ps/\Sd ds/\w'.ownsRow base 152 2 v ps.length (zay ds)/\Fr v.ownBlock.toList w w':=by
 rcases hrow.2 with ⟨rfl,h0⟩|⟨g,cap,cur,rfl,_⟩
 ·have hcon:=AnyF.slices_SortFunc_none Tryz.sortEn none 0 (.func (.func 141) #[] #[]) w
  change Calls Tryz.prog 168 _ _ _ at hcon
  obtain rfl:ps=[]:=List.eq_nil_of_length_eq_zero h0
  refine hcon.mono ?_
  rintro e w' ⟨rfl,rfl⟩
  exact⟨rfl,[],List.Perm.refl _,List.Pairwise.nil,hrow,Fr.refl _ _⟩
 ·exact zoh base g cap ps w hrow hlen
theorem zhz (b Bm nn:Nat) (E:ByteArray->Option ByteArray) (w:World) (hM:MapE w b nn E) (hn:nn<1099511627776) (hBm:Bm<w.heap.size) (hm:w.cell? ⟨Bm,0,none⟩=some (.map (some b))) :
  Calls Tryz.prog 139 #[.func (.func 169) #[] #[.pointer (some ⟨Bm,0,none⟩)],.func (.func 141) #[] #[]] w fun e w'=> ∃(v:Value) (ps:List Pr),e= .returned v/\Is E ps/\w'.ownsRow w.heap.size 152 2 v ps.length (zay ps)/\Fr [] w w':=by
 have HC:Hid _:=zhx b Bm nn E w hM hn hBm hm
 clear hM hm
 go_enter Tryz.func139,Tryz.ntmps139
 go_wp2_with fail
 refine Calls.mono HC.out ?_
 rintro e w1 ⟨v,ps,rfl,hA,hrow,hF1⟩
 have HS:Hid _:=zrr w.heap.size v ps w1 hrow (by have:=hA.2;omega)
 have HA:Hid (AllP E ps):=hA.1
 have HR:Hid (∀k,v.ownBlock=some k->w.heap.size<=k):=fun k hk=>(zch hrow hk).1
 clear HC hA hrow
 go_wp2_with fail
 refine Calls.mono HS.out ?_
 rintro e w2 ⟨rfl,ds,hp,hs,hrow2,hF2⟩
 have HG:Hid (Is E ds/\w2.ownsRow w.heap.size 152 2 v ds.length (zay ds)/\Fr [] w w2):=⟨zrq HA.out hp hs,by rw[hp.length_eq];exact hrow2,hF1.on hF2 (fun x hx=>by simp only[Option.mem_toList]at hx;exact HR.out x hx)⟩
 clear HS HA HR hp hs hrow2 hF1 hF2
 go_wp2
 go_ret
 exact⟨v,ds,rfl,HG.out⟩
theorem zhn: ∀(ws:List Wt) (E:ByteArray->Option ByteArray) (ps:List Pr),Is E ps-> ∃qs,Is (zbc (fun _=>true) E ws) qs
 | [],E,ps,h=>⟨ps,h⟩
 | x::ws,E,ps,h=>by
  have h1:Is (zcd (fun _=>true) E x) (wrote ps x):=by unfold zcd;rw[if_pos rfl];exact h.write x
  exact zhn ws _ _ h1
theorem zmt: ∀(l:List Tx) (E:ByteArray->Option ByteArray) (ps:List Pr),Is E ps-> ∃qs,Is (call (fun _=>true) E l) qs
 | [],E,ps,h=>⟨ps,h⟩
 | t::l,E,ps,h=>by
  obtain⟨qs,hq⟩:=zhn t.ws E ps h
  exact zmt l _ _ hq
theorem zzw (l:List Tx): ∃ps,Is (fo l) ps:=zmt l _ _ Is.nil
def ScTold (l:List Tx) (f:Int) (key en:ByteArray) (ps:List Pr) (c:Nat):Prop :=
 CoTold l f c/\((c≠0/\ps=[])\/(c=0/\Is (call (inS key en) (fun _=>none) (l.take f.toNat)) ps))
theorem ScTold.ex (l:List Tx) (f:Int) (key en:ByteArray): ∃ps c,ScTold l f key en ps c:=by
 obtain⟨c,hc⟩:=CoTold.ex l f
 by_cases h0:c=0
 ·obtain⟨ps,hp⟩:=zzw (l.take f.toNat)
  exact⟨_,c,hc,Or.inr ⟨h0,(hp.filter (inS key en)).cong (fun s=>(zxd _ _ s).symm)⟩⟩
 ·exact⟨[],c,hc,Or.inl ⟨h0,rfl⟩⟩
theorem zoi {w:World} {base:Nat} {e:TypeId} {v:Value} {n:Nat} {xs:List Value} (h:w.ownsRow base e 2 v n xs): ∃ao cap,v= .slice ao n cap:=by
 rcases h.2 with ⟨rfl,h0⟩|⟨g,cap,_,rfl,_⟩
 ·exact⟨none,0,by rw[h0]⟩
 ·exact⟨_,cap,rfl⟩
theorem zrs (ao:Option Addr) (L cap:Nat) (f:Int) (key en:ByteArray) (ps:List Pr) (N c:Nat) (ts:List Tm) (w:World) (hT:TRs w ao ts) (hLe:L=ts.length) (hcap:L<=cap) (hf0: -9223372036854775808<=f) (hf1:f<=9223372036854775807) (h:ScTold (txs ts) f key en ps c) (hN:N=ps.length) :
  Calls Tryz.prog 113 #[.slice ao L cap,.int .i64 f,.string key,.string en] w fun e w'=> ∃ro rc,e= .returned (.tuple #[.slice ro N rc,.int .i64 (c:Int)])/\EOut w w' ro N rc ps/\Fr [] w w':=by
 have HL:Hid (L=ts.length):=hLe
 have HI:Hid (∀W,Fr [] w W->TRs W ao ts):=fun W hf=>hT.keep hf
 obtain⟨hc,⟨h0,rfl⟩|⟨rfl,hI⟩⟩:=h
 ·have HC:Hid (CoTold (txs ts) f c/\c≠0):=⟨hc,h0⟩
  have hcb:((c:Int)!=0)=true:=by rw[bne_iff_ne];omega
  obtain rfl:N=0:=hN
  clear hc h0 hLe
  go_enter Tryz.func113,Tryz.ntmps113
  go_wp2_with fail
  refine (zgh key en _).mono ?_
  rintro e w1 ⟨b,b2,rfl,hb,hb2,hbl,hbl2,hF1⟩
  go_wp2_with fail
  refine (zuh ao L cap f c ts b b2 key en _ (HI.out _ hF1) HL.out hf0 hf1 HC.out.1 HC.out.2).mono ?_
  rintro e w2 ⟨rfl,hF2⟩
  have hG:=hF1.then hF2
  clear hb hbl hF1 hF2 hb2 hbl2
  go_wp2
  go_ret2
  exact⟨none,0,rfl,⟨rfl,⟨rfl,.inl ⟨rfl,rfl⟩⟩⟩,hG⟩
 ·obtain⟨hok,hfn,hfl⟩:=hc.ok0
  obtain⟨f',rfl⟩: ∃f':Nat,f=(f':Int):=⟨f.toNat,by omega⟩
  have HO:Hid (okL 1 (txs ts)/\f'<=L):=⟨hok,by rw[zap]at hfl;omega⟩
  rw[Int.toNat_natCast]at hI
  obtain⟨E,hE⟩: ∃E,E=call (inS key en) (fun _=>none) ((txs ts).take f'):=⟨_,rfl⟩
  rw[<-hE]at hI
  have HIs:Hid (Is E ps/\N=ps.length):=⟨hI,hN⟩
  clear hc hok hfl hfn hLe hI hN
  go_enter Tryz.func113,Tryz.ntmps113
  go_wp2_with fail
  refine (zgh key en _).mono ?_
  rintro e w1 ⟨b,b2,rfl,hb,hb2,hbl,hbl2,hF1⟩
  go_wp2_with fail
  refine (zui ao L cap f' ts b b2 key en _ (HI.out _ hF1) HL.out hcap hb hb2 HO.out.1 HO.out.2).mono ?_
  rintro e w2 ⟨m,rfl,hm,hM,hF2⟩
  rw[<-hE]at hM
  have hG:=hF1.then hF2
  clear hb hbl hF1 hF2 hE hb2 hbl2
  go_wp2_with fail
  refine (zod _ _).mono ?_
  rintro e w3 ⟨rfl,hw3⟩
  have hF3:Fr [] w2 w3:=by rw[hw3];exact Fr.alloc _ _ _
  have hbx:w3.heap[w2.heap.size]? = some (.cells #[.map (some m)] 222 (0,0)):=by rw[hw3];exact heap_alloc_new _ _
  have hM3:=hM.keep hF3 (by simp)
  have hG3:=hG.then hF3
  have hcx:w3.cell? ⟨w2.heap.size,0,none⟩=some (.map (some m)):=by rw[cell_of_row _ _ _ _ _ _ hbx];rfl
  have HS:Hid _:=zhz m w2.heap.size 9000000 E w3 hM3 (by omega) (lt_of_block hbx) hcx
  clear hw3 hM hM3 hcx hbx hF3 hG
  go_wp2_with fail
  refine Calls.mono HS.out ?_
  rintro e w4 ⟨v,qs,rfl,hQ,hrow,hF4⟩
  have hqp:ps=qs:=HIs.out.1.unique hQ
  subst hqp
  obtain⟨ro,rc,rfl⟩:=zoi hrow
  have HR:Hid (EOut w w4 ro N rc ps/\Fr [] w w4):=⟨⟨HIs.out.2,by rw[HIs.out.2];exact zuo hrow hG3.size⟩,hG3.then hF4⟩
  rw[<-HIs.out.2]
  clear HS hQ hrow hF4 hG3 HIs
  go_wp2
  go_ret2
  exact⟨ro,rc,rfl,HR.out⟩
theorem zoj (ao:Option Addr) (L cap:Nat) (f:Int) (ps:List Pr) (N c:Nat) (ts:List Tm) (w:World) (hT:TRs w ao ts) (hLe:L=ts.length) (hcap:L<=cap) (hf0: -9223372036854775808<=f) (hf1:f<=9223372036854775807) (h:ScTold (txs ts) f ⟨#[]⟩ ⟨#[]⟩ ps c) (hN:N=ps.length) :
  Calls Tryz.prog 73 #[.slice ao L cap,.int .i64 f] w fun e w'=> ∃ro rc,e= .returned (.tuple #[.slice ro N rc,.int .i64 (c:Int)])/\EOut w w' ro N rc ps/\Fr [] w w':=by
 have HS:Hid _:=zrs ao L cap f ⟨#[]⟩ ⟨#[]⟩ ps N c ts w hT hLe hcap hf0 hf1 h hN
 clear hT hLe h hN
 go_enter Tryz.func73,Tryz.ntmps73
 go_wp2_with fail
 refine Calls.mono HS.out ?_
 rintro e w1 ⟨ro,rc,rfl,hE,hF⟩
 have HR:Hid (EOut w w1 ro N rc ps/\Fr [] w w1):=⟨hE,hF⟩
 clear HS hE hF
 go_wp2
 go_ret2
 exact⟨ro,rc,rfl,HR.out⟩
end Go.Proofs.YtaaghcimfcjehaaGreatDoor
