/- Contracts and lemmas. -/
import Derived.Test.YtaigdcmoecgabaaGreatGp45
import Derived.Laws.EntriesVeiled
set_option maxHeartbeats 32000000
set_option maxRecDepth 100000
set_option linter.unusedSimpArgs false
set_option linter.unusedVariables false
namespace Go.Proofs.YtaigdcmoecgabaaGreat.S6
open Go.ChangeShapes Go.WideShapes Go.ChangeAt Go.RowKit Go.Lib
def rwA(sb Q:Nat):Array Value:=#[.pointer (some ⟨sb,0,none⟩),.func (Fn.func 90) #[] #[],.pointer (some ⟨sb,1,none⟩),.func (Fn.func 91) #[] #[],.pointer (some ⟨sb,2,none⟩),.func (Fn.func 93) #[] #[],.pointer (some ⟨sb,3,none⟩),.func (Fn.func 94) #[] #[.pointer (some ⟨Q,0,none⟩)],.pointer (some ⟨sb,4,none⟩),.func (Fn.func 96) #[] #[]]
theorem zup{w:World}{g sb Q:Nat}(h:w.heap[g]? = some (.cells (rwA sb Q) 126 (0,0))):(loadVar 126 ⟨g,0,none⟩).run Tryz.prog w=.ok (.agg (rwA sb Q)) w:=
 run_loadVar_row (P:=Tryz.prog) _ g _ 126 _ _ (.array 5 125) h (by kernel_rfl) rfl (by kernel_rfl)
theorem zbp{w:World}{k j:Nat}{ty:TypeId}{cs:Array Value}{v:Value}(h:w.heap[k]? = some (.cells cs ty (0,0))):(w.setCell ⟨k,j,none⟩ v).heap[k]? = some (.cells (cs.setIfInBounds j v) ty (0,0)):=by
 show (w.heap.modify k _)[k]? = _;rw[Array.getElem?_modify,if_pos rfl,h];rfl
theorem zuq{w:World}{B:Nat}{ty:TypeId}{x0 x1 x2 x3 x4 x5 x6 x7 x8 x9:Value}(h:w.heap[B]? = some (.cells #[x0,x1,x2,x3,x4,x5,x6,x7,x8,x9] ty (0,0)))(v0 v1 v2 v3 v4 v5 v6 v7 v8 v9:Value) :
  ((((((((((w.setCell ⟨B,0,none⟩ v0).setCell ⟨B,1,none⟩ v1).setCell ⟨B,2,none⟩ v2).setCell ⟨B,3,none⟩ v3).setCell ⟨B,4,none⟩ v4).setCell ⟨B,5,none⟩ v5).setCell ⟨B,6,none⟩ v6).setCell ⟨B,7,none⟩ v7).setCell ⟨B,8,none⟩ v8).setCell ⟨B,9,none⟩ v9).heap[B]? = some (.cells #[v0,v1,v2,v3,v4,v5,v6,v7,v8,v9] ty (0,0)):=by
 have hh:=zbp (v:=v9) (j:=9) (zbp (v:=v8) (j:=8) (zbp (v:=v7) (j:=7) (zbp (v:=v6) (j:=6) (zbp (v:=v5) (j:=5) (zbp (v:=v4) (j:=4) (zbp (v:=v3) (j:=3) (zbp (v:=v2) (j:=2) (zbp (v:=v1) (j:=1) (zbp (v:=v0) (j:=0) h)))))))));simp only[List.setIfInBounds_toArray,List.set_cons_succ,List.set_cons_zero]at hh;exact hh
theorem zxq{w:World}{B:Nat}(v0 v1 v2 v3 v4 v5 v6 v7 v8 v9:Value) :
  Fr [B] w ((((((((((w.setCell ⟨B,0,none⟩ v0).setCell ⟨B,1,none⟩ v1).setCell ⟨B,2,none⟩ v2).setCell ⟨B,3,none⟩ v3).setCell ⟨B,4,none⟩ v4).setCell ⟨B,5,none⟩ v5).setCell ⟨B,6,none⟩ v6).setCell ⟨B,7,none⟩ v7).setCell ⟨B,8,none⟩ v8).setCell ⟨B,9,none⟩ v9):=by
 have f:∀(W:World)(j:Nat)(v:Value),Fr [B] W (W.setCell ⟨B,j,none⟩ v):=fun W j v=>Fr.set _ _ _ (by simp);exact (((((((((f _ _ _).then (f _ _ _)).then (f _ _ _)).then (f _ _ _)).then (f _ _ _)).then (f _ _ _)).then (f _ _ _)).then (f _ _ _)).then (f _ _ _)).then (f _ _ _)
theorem zxr(sb g L:Nat)(w:World):Calls Tryz.prog 57 #[.pointer (some ⟨sb,0,none⟩),.slice (some ⟨g,0,none⟩) L L] w fun e w'=>∃Q,e=.returned (.agg (rwA sb Q))/\w.heap.size<=Q/\w'.heap[Q]? = some (.cells #[.slice (some ⟨g,0,none⟩) L L] 121 (0,0))/\Fr [] w w':=by
 obtain⟨wb,HW⟩:∃wb,Hid ((w.alloc (.cells #[.slice (some ⟨g,0,none⟩) L L] 121)).alloc (.cells #[.pointer none,.nilFunc,.pointer none,.nilFunc,.pointer none,.nilFunc,.pointer none,.nilFunc,.pointer none,.nilFunc] 126)=wb):=⟨_,rfl⟩;have hQ:wb.heap[w.heap.size]? = some (.cells #[.slice (some ⟨g,0,none⟩) L L] 121 (0,0)):=by rw[<-HW.out];exact (Fr.alloc [] _ _).keep (heap_alloc_new w _) (by simp)
 have hr:wb.heap[w.heap.size+1]? = some (.cells #[.pointer none,.nilFunc,.pointer none,.nilFunc,.pointer none,.nilFunc,.pointer none,.nilFunc,.pointer none,.nilFunc] 126 (0,0)):=by
  rw[<-HW.out,show w.heap.size+1=(w.alloc (.cells #[.slice (some ⟨g,0,none⟩) L L] 121)).heap.size by simp];exact heap_alloc_new _ _
 have HF:Hid (Fr [] w wb):=by rw[<-HW.out];exact (Fr.alloc [] w _).then (Fr.alloc _ _ _)
 obtain⟨b,HB⟩:∃b,Hid (w.heap.size=b):=⟨_,rfl⟩;rw[HB.out]at hQ hr
 have HQ:Hid (_=_):=hQ;have HR:Hid (_=_):=hr;have c0:wb.cell? ⟨b+1,0,none⟩=some (.pointer none):=by rw[crw hr];rfl
 have c1:wb.cell? ⟨b+1,1,none⟩=some .nilFunc:=by rw[crw hr];rfl
 have c2:wb.cell? ⟨b+1,2,none⟩=some (.pointer none):=by rw[crw hr];rfl
 have c3:wb.cell? ⟨b+1,3,none⟩=some .nilFunc:=by rw[crw hr];rfl
 have c4:wb.cell? ⟨b+1,4,none⟩=some (.pointer none):=by rw[crw hr];rfl
 have c5:wb.cell? ⟨b+1,5,none⟩=some .nilFunc:=by rw[crw hr];rfl
 have c6:wb.cell? ⟨b+1,6,none⟩=some (.pointer none):=by rw[crw hr];rfl
 have c7:wb.cell? ⟨b+1,7,none⟩=some .nilFunc:=by rw[crw hr];rfl
 have c8:wb.cell? ⟨b+1,8,none⟩=some (.pointer none):=by rw[crw hr];rfl
 have c9:wb.cell? ⟨b+1,9,none⟩=some .nilFunc:=by rw[crw hr];rfl
 have hfz:∀j,wb.frozen? ⟨b+1,j,none⟩=false:=fun j=>by simp[World.frozen?,hr]
 clear hQ hr;go_enter Tryz.func57,Tryz.ntmps57;go_upto_region 1 with fail
 rw[HW.out,HB.out];go_wp2_with fail
 go_region
 have hrow:=(Fr.drew [] _).keep (zuq HR.out (.pointer (some ⟨sb,0,none⟩)) (.func (Fn.func 90) #[] #[]) (.pointer (some ⟨sb,1,none⟩)) (.func (Fn.func 91) #[] #[]) (.pointer (some ⟨sb,2,none⟩)) (.func (Fn.func 93) #[] #[]) (.pointer (some ⟨sb,3,none⟩)) (.func (Fn.func 94) #[] #[.pointer (some ⟨b,0,none⟩)]) (.pointer (some ⟨sb,4,none⟩)) (.func (Fn.func 96) #[] #[])) (by simp);have hfr:=(zxq (w:=wb) (B:=b+1) (.pointer (some ⟨sb,0,none⟩)) (.func (Fn.func 90) #[] #[]) (.pointer (some ⟨sb,1,none⟩)) (.func (Fn.func 91) #[] #[]) (.pointer (some ⟨sb,2,none⟩)) (.func (Fn.func 93) #[] #[]) (.pointer (some ⟨sb,3,none⟩)) (.func (Fn.func 94) #[] #[.pointer (some ⟨b,0,none⟩)]) (.pointer (some ⟨sb,4,none⟩)) (.func (Fn.func 96) #[] #[])).then (Fr.drew [b+1] _);generalize World.drew _=w3 at hrow hfr ⊢;have HR3:Hid (w3.heap[b+1]? = some (.cells (rwA sb b) 126 (0,0))):=hrow;have HF3:Hid (Fr [b+1] wb w3):=hfr;clear hrow hfr c0 c1 c2 c3 c4 c5 c6 c7 c8 c9 hfz;go_wp2_with fail
 refine bodyPost_ret (zaz rfl _ _ _ (b+1) _ rfl (zup HR3.out)) rfl ?_;refine⟨b,rfl,by have:=HB.out;omega,HF3.out.keep HQ.out (by simp),HF.out.on HF3.out (by intro y hy;have:=HB.out;simp at hy;omega)⟩
def hold(es:List Ev)(j:Int):Nat->Bool
 |0=>false
 |m+1=>if (es.getD m Ev.no).t=j/\(es.getD m Ev.no).k=4 then true else if (es.getD m Ev.no).t=j/\(es.getD m Ev.no).k=6 then false else hold es j m
def hs(L:Nat)(es:List Ev)(m:Nat):List Bool:=(List.range L).map fun(j:Nat)=>hold es ((j:Int)+1) m
theorem zat(L:Nat)(es:List Ev)(m:Nat):(hs L es m).length=L:=by simp[hs]
theorem zpx(L:Nat)(es:List Ev):hs L es 0=List.replicate L false:=by
 apply List.ext_getElem
 .simp[hs]
 intro i h1 h2;simp[hs,hold]
theorem zpy(L:Nat)(es:List Ev)(m j:Nat)(h:j<L):(hs L es m).getD j false=hold es ((j:Int)+1) m:=by simp[hs,List.getD,h]
theorem zpz(L:Nat)(es:List Ev)(m:Nat):hs L es (m+1)=seeL (hs L es m) (es.getD m Ev.no):=by
 obtain⟨e,he⟩:∃e,e=es.getD m Ev.no:=⟨_,rfl⟩;apply List.ext_getElem
 .rw[zpg,zat,zat]
 intro i h1 h2;rw[zat]at h1
 have q:∀h,(hs L es (m+1))[i]'h=if e.t=(i:Int)+1/\e.k=4 then true else if e.t=(i:Int)+1/\e.k=6 then false else hold es ((i:Int)+1) m:=by
  intro h;simp[hs,hold,he]
 have q0:∀h,(hs L es m)[i]'h=hold es ((i:Int)+1) m:=by
  intro h;simp[hs]
 rw[q];simp only[<-he];unfold seeL;by_cases ht:1<=e.t/\e.t<=(hs L es m).length
 .simp only[if_pos ht];rw[zat]at ht
  by_cases h4:e.k=4
  .simp only[if_pos h4];rw[List.getElem_set];by_cases hi:(e.t-1).toNat=i
   .rw[if_pos hi,if_pos ⟨by omega,h4⟩]
   rw[if_neg hi,if_neg (by omega),if_neg (by omega),q0]
  by_cases h6:e.k=6
  .simp only[if_neg h4,if_pos h6];rw[List.getElem_set];by_cases hi:(e.t-1).toNat=i
   .rw[if_pos hi,if_neg (by omega),if_pos ⟨by omega,h6⟩]
   rw[if_neg hi,if_neg (by omega),if_neg (by omega),q0]
  simp only[if_neg h4,if_neg h6];rw[if_neg (by omega),if_neg (by omega),q0]
 simp only[if_neg ht];rw[zat]at ht
 rw[if_neg (by omega),if_neg (by omega),q0]
structure Sst where
 n:Int
 i:Int
 g:Int
 b:Int
 r:Int
def Sst.a(s:Sst):Array Value:=stA s.n s.i s.g s.b s.r
def sta(L:Nat)(es:List Ev):Nat->Sst
 |0=>⟨0,0,0,0,0⟩
 |m+1=>⟨(sta L es m).n+1,(sta L es m).i+insE (es.getD m Ev.no),max (sta L es m).g (dspE (es.getD m Ev.no)),max (sta L es m).b (zbv (hs L es (m+1)):Nat),(sta L es m).r+endE (es.getD m Ev.no)⟩
theorem zadn(L:Nat)(es:List Ev)(m:Nat):(sta L es m).n=m:=by
 induction m with
 |zero=>rfl
 |succ m ih=>simp[sta,ih]
theorem zado(L:Nat)(es:List Ev)(m:Nat):0<=(sta L es m).i/\(sta L es m).i<=m:=by
 induction m with
 |zero=>simp[sta]
 |succ m ih=>have:=zir (es.getD m Ev.no);simp only[sta];omega
theorem zadp(L:Nat)(es:List Ev)(m:Nat):0<=(sta L es m).r/\(sta L es m).r<=m:=by
 induction m with
 |zero=>simp[sta]
 |succ m ih=>have:=zis (es.getD m Ev.no);simp only[sta];omega
theorem zadq(L:Nat)(es:List Ev)(m:Nat):0<=(sta L es m).g/\(sta L es m).g<=65536:=by
 induction m with
 |zero=>simp[sta]
 |succ m ih=>have:=zit (es.getD m Ev.no);simp only[sta];omega
theorem sta_b(L:Nat)(es:List Ev)(m:Nat):0<=(sta L es m).b/\(sta L es m).b<=L:=by
 induction m with
 |zero=>simp[sta]
 |succ m ih=>have:=znw (hs L es (m+1));rw[zat]at this;simp only[sta];omega
def mixA(o n:Sst)(j:Nat):Array Value:=stA (if 0<j then n.n else o.n) (if 1<j then n.i else o.i) (if 2<j then n.g else o.g) (if 3<j then n.b else o.b) (if 4<j then n.r else o.r)
theorem zur(o n:Sst):mixA o n 5=n.a:=rfl
def cntL(es:List Ev)(j:Int):Nat->Int
 |0=>0
 |m+1=>cntL es j m+(if hold es j (m+1)=true then 1 else 0)
theorem cntL_le(es:List Ev)(j:Int)(m:Nat):0<=cntL es j m/\cntL es j m<=m:=by
 induction m with
 |zero=>simp[cntL]
 |succ m ih=>simp only[cntL];split<;>omega
def lnS(L:Nat)(es:List Ev)(m:Nat):List Int:=(List.range L).map fun(j:Nat)=>cntL es ((j:Int)+1) m
theorem lnS_length(L:Nat)(es:List Ev)(m:Nat):(lnS L es m).length=L:=by simp[lnS]
theorem lnS_getD(L:Nat)(es:List Ev)(m j:Nat)(h:j<L):(lnS L es m).getD j 0=cntL es ((j:Int)+1) m:=by simp[lnS,List.getD,h]
theorem zxs(L:Nat)(es:List Ev):lnS L es 0=List.replicate L 0:=by
 apply List.ext_getElem
 .simp[lnS]
 intro i h1 h2;simp[lnS,cntL]
section
variable{P:Program}{Q:Exit->Act->World->Prop}{C:World->Prop}{l:List Oper}{st:Oper}
theorem zrq(l:List Oper)(st:Oper)(i:Nat)(h:i<l.length):(l++[st]).toArray[i]? = l.toArray[i]? :=by simp[List.getElem?_append_left h]
theorem znx(l:List Oper)(st:Oper):(l++[st]).toArray[l.length]? = some st:=by simp
theorem zfu{listed:Array Bool}(j:Nat):(listed.push false).getD j false=listed.getD j false:=by
 simp only[Array.getD_eq_getD_getElem?,Array.getElem?_push];split
 .rename_i h;subst h;simp
 rfl
theorem zkk{ops:Array Oper}{listed:Array Bool}(h:∀i,i<ops.size->listed.getD i true=true):Region.ready .any ops listed=[]:=by
 refine List.eq_nil_iff_forall_not_mem.2 fun i hi=> ?_;obtain⟨h1,o,ho,_⟩:=mem_ready.1 hi;have:=h i (by
  rcases Nat.lt_or_ge i ops.size with h2|h2
  .exact h2
  rw[Array.getElem?_eq_none h2]at ho;cases ho)
 rw[h1]at this
 cases this
theorem zrr{ops:Array Oper}{listed:Array Bool}(h:Region.ready .any ops listed=[]){a:Act}{w:World}(hq:Q .normal a w):∀fuel,wpAny P .any ops Q fuel listed a w
 |0=>⟨h,hq⟩
 |_+1=>⟨fun _=>hq,fun i hi=>by rw[h]at hi;cases hi⟩
theorem zrs(hlex:∀(i:Nat) (o:Oper),l[i]? = some o->∀e∈o.after,Region.binds .any e=true->e.on<i)(listed:Array Bool)(hz:listed.size=l.length)(he:Region.ready .any l.toArray listed=[]):∀i,i<l.length->listed.getD i false=true:=by
 intro i;induction i using Nat.strongRecOn with
 |_ i ih=>
  intro hi;cases hl:listed.getD i false with
  |true=>rfl
  |false=>
   exfalso;have hn:i∈Region.ready .any l.toArray listed:=by
    refine mem_ready.2 ⟨?_,l[i],by simp[hi],fun e he hb=>ih e.on (hlex i l[i] (by simp[hi]) e he hb) (by have:=hlex i l[i] (by simp[hi]) e he hb;omega)⟩;simp only[Array.getD_eq_getD_getElem?]at hl ⊢;rw[Array.getElem?_eq_getElem (by omega)]at hl ⊢
    exact hl
   rw[he]at hn
   cases hn
theorem zaal{listed:Array Bool}{n:Nat}(hz:listed.size=n)(h:∀i,i<n->listed.getD i false=true):∀i,i<n+1->((listed.push false).setIfInBounds n true).getD i true=true:=by
 intro i hi;simp only[Array.getD_eq_getD_getElem?];by_cases e:i=n
 .subst e;rw[Array.getElem?_setIfInBounds_self_of_lt (by simp;omega)];rfl
 rw[Array.getElem?_setIfInBounds_ne (fun q=>e q.symm),Array.getElem?_push,if_neg (by omega)];have:=h i (by omega);simp only[Array.getD_eq_getD_getElem?]at this;rw[Array.getElem?_eq_getElem (by omega)]at this ⊢
 exact this
theorem zqa(hst:st.guard=none){listed:Array Bool}(hz:listed.size=l.length)(hall:∀i,i<l.length->listed.getD i false=true){a:Act}{w:World}(h:st.wp P a w (fun a'' w''=>Q .normal a'' w'') Q\/(st.asks P a w/\LetsOut Q))(fuel:Nat) :
  wpOp P (l++[st]).toArray Q l.length (wpAny P .any (l++[st]).toArray Q fuel ((listed.push false).setIfInBounds l.length true)) a w:=by
 unfold wpOp;rw[znx];simp only[Region.wanted,hst,if_true];refine h.imp (Oper.wp_mono (fun a'' w'' hq=>zrr (zkk ?_) hq fuel)) id;intro i hi;exact zaal hz hall i (by simpa using hi)
theorem zxt{listed:Array Bool}{i:Nat}(h:i<listed.size):(listed.push false).setIfInBounds i true=(listed.setIfInBounds i true).push false:=by
 apply Array.ext_getElem?;intro j;by_cases e:i=j
 .subst e;rw[Array.getElem?_setIfInBounds_self_of_lt (by simp;omega),Array.getElem?_push,if_neg (by simp;omega),Array.getElem?_setIfInBounds_self_of_lt h]
 rw[Array.getElem?_setIfInBounds_ne e,Array.getElem?_push,Array.getElem?_push,Array.getElem?_setIfInBounds_ne e];simp
theorem zact(hlex:∀(i:Nat) (o:Oper),l[i]? = some o->∀e∈o.after,Region.binds .any e=true->e.on<i)(hg:∀o∈l,o.guard=none)(hst:st.guard=none)(hcov:∀j,j<l.length->∃e∈st.after,Region.binds .any e=true/\e.on=j)(hstl:∀e∈st.after,Region.binds .any e=true->e.on<l.length) :
  ∀(fuel:Nat)(listed:Array Bool)(a:Act)(w:World),listed.size=l.length->C w ->
   wpAnyQ P .any l.toArray C (fun a'=>∀w',C w'->(st.wp P a' w' (fun a'' w''=>Q .normal a'' w'') Q\/(st.asks P a' w'/\LetsOut Q))) fuel listed a ->
   wpAny P .any (l++[st]).toArray Q (fuel+1) (listed.push false) a w:=by
 have hready:∀(listed:Array Bool),listed.size=l.length->Region.ready .any l.toArray listed=[]->l.length∈Region.ready .any (l++[st]).toArray (listed.push false):=fun listed hz h=>
  mem_ready.2 ⟨by simp[Array.getD_eq_getD_getElem?,<-hz],st,znx l st,fun e he hb=>by
   rw[zfu];exact zrs hlex listed hz h _ (hstl e he hb)⟩
 have hend:∀(listed:Array Bool),l.length∈Region.ready .any (l++[st]).toArray (listed.push false)->∀i,i<l.length->listed.getD i false=true:=by
  intro listed h i hi;obtain⟨_,o,ho,h2⟩:=mem_ready.1 h;rw[znx]at ho
  cases ho;obtain⟨e,he,hb,rfl⟩:=hcov i hi;have:=h2 e he hb
  rwa [zfu]at this
 have hno:∀(listed:Array Bool),listed.size=l.length->(∀i,i<l.length->listed.getD i false=true)->Region.ready .any l.toArray listed=[]:=fun listed hz h=>zkk fun i hi=>by
  have h1:i<l.length:=by simpa using hi
  have h2:=h i h1;simp only[Array.getD_eq_getD_getElem?]at h2 ⊢;rw[Array.getElem?_eq_getElem (by omega)]at h2 ⊢
  exact h2
 have hlt:∀(listed:Array Bool)(i:Nat),listed.size=l.length->i∈Region.ready .any (l++[st]).toArray (listed.push false)->i≠l.length->i<l.length/\i∈Region.ready .any l.toArray listed:=by
  intro listed i hz h hi;obtain⟨h1,o,ho,h2⟩:=mem_ready.1 h;have hil:i<l.length:=by
   rcases Nat.lt_or_ge i (l.length+1) with h3|h3
   .omega
   rw[Array.getElem?_eq_none (by simp;omega)]at ho;cases ho
  rw[zrq l st i hil]at ho
  refine⟨hil,mem_ready.2 ⟨?_,o,ho,fun e he hb=>by have:=h2 e he hb;rwa [zfu]at this⟩⟩;simp only[Array.getD_eq_getD_getElem?,Array.getElem?_push]at h1 ⊢;rw[if_neg (by omega)]at h1
  exact h1
 intro fuel;induction fuel with
 |zero=>
  intro listed a w hz hC h;refine⟨fun h0=>(by have:=hready listed hz h.1;rw[h0]at this;cases this),fun i hi=> ?_⟩;by_cases e:i=l.length
  .subst e;exact zqa hst hz (hend listed hi) (h.2 w hC) 0
  .have:=(hlt listed i hz hi e).2;rw[h.1]at this
   cases this
 |succ fuel ih=>
  intro listed a w hz hC h;refine⟨fun h0=> ?_,fun i hi=> ?_⟩
  .cases hr:Region.ready .any l.toArray listed with
   |nil=>have:=hready listed hz hr;rw[h0]at this;cases this
   |cons i r=>
    have hi:i∈Region.ready .any l.toArray listed:=by rw[hr];exact List.mem_cons_self
    obtain⟨h1,o,ho,h2⟩:=mem_ready.1 hi;have hil:i<l.length:=by
     rcases Nat.lt_or_ge i l.length with h3|h3
     .exact h3
     rw[Array.getElem?_eq_none (by simpa using h3)]at ho;cases ho
    have:i∈Region.ready .any (l++[st]).toArray (listed.push false):=by
     refine mem_ready.2 ⟨?_,o,by rw[zrq l st i hil];exact ho,fun e he hb=>by rw[zfu];exact h2 e he hb⟩;simp only[Array.getD_eq_getD_getElem?,Array.getElem?_push]at h1 ⊢;rw[if_neg (by omega)];exact h1
    rw[h0]at this
    cases this
  by_cases e:i=l.length
  .subst e;exact zqa hst hz (hend listed hi) (h.1 (hno listed hz (hend listed hi)) w hC) (fuel+1)
  obtain⟨hil,hi2⟩:=hlt listed i hz hi e;have hq:=h.2 i hi2;have ho:l.toArray[i]? = some l[i]:=by simp[hil]
  have hgi:(l[i]).guard=none:=hg _ (List.getElem_mem hil);unfold qOp at hq;unfold wpOp;rw[zrq l st i hil];simp only[ho,Region.wanted,hgi,if_true]at hq ⊢;refine .inl (Oper.wp_of_quiet hC (fun a' w' hC' K=> ?_) hq);rw[zxt (by omega)];exact ih _ a' w' (by simpa using hz) hC' K
end
theorem zkx{P:Program}{C:World->Prop}{id:Nat}{Q:Exit->Act->World->Prop}{a:Act}{w:World}{l:List Oper}{st:Oper}(hm:P.follows .mixedOrders=true)(hB:Region.lexB .any l.toArray=true)(hlex:((List.range l.length).zip l).all (fun p=>p.2.guard.isNone&&p.2.after.all fun e=> !Region.binds .any e||decide (e.on<p.1))=true)(hlst:(st.guard.isNone&&(st.after.all fun e=> !Region.binds .any e||decide (e.on<l.length))&&(List.range l.length).all fun j=>st.after.any fun e=>Region.binds .any e&&decide (e.on=j))=true)(hC:C {w with drawn:=w.drawn+1})(h:wpQuiet P l.toArray C (fun a'=>∀w',C w'->(st.wp P a' w' (fun a'' w''=>Q .normal a'' w'') Q\/(st.asks P a' w'/\LetsOut Q))) l a):(Code.region id (l++[st]).toArray true).wp P Q a w:=by
 have hz:∀(i:Nat)(o:Oper),l[i]? = some o->(i,o)∈(List.range l.length).zip l:=by
  intro i o ho;obtain⟨hi,he⟩:=List.getElem?_eq_some_iff.1 ho;rw[List.mem_iff_getElem?];exact⟨i,by simp[List.getElem?_zip_eq_some,hi,he]⟩
 rw[List.all_eq_true]at hlex
 simp only[Bool.and_eq_true,Option.isNone_iff_eq_none]at hlst hlex;obtain⟨⟨s1,s2⟩,s3⟩:=hlst;rw[Array.all_eq_true_iff_forall_mem]at s2
 rw[List.all_eq_true]at s3
 simp only[Region.lexB,Bool.and_eq_true]at hB;have hq:=wpAnyQ_lex (C:=C) (md:=.any) (P:=P) (Q:=fun a'=>∀w',C w'->(st.wp P a' w' (fun a'' w''=>Q .normal a'' w'') Q\/(st.asks P a' w'/\LetsOut Q))) hB.1 l 0 (Array.replicate l.length false) a (by simp) (by simpa using hB.2) h;have hk:=zact (P:=P) (Q:=Q) (C:=C) (l:=l) (st:=st) (fun i o ho e he hb=>by
  have h2:=(hlex _ (hz i o ho)).2;rw[Array.all_eq_true_iff_forall_mem]at h2
  have h3:=h2 e he;rw[hb]at h3
  simpa using h3) (fun o ho=>by
  obtain⟨i,hi⟩:=List.mem_iff_getElem?.1 ho;exact (hlex _ (hz i o hi)).1) s1 (fun j hj=>by
  have h3:=s3 j (List.mem_range.2 hj);rw[Array.any_eq_true]at h3
  obtain⟨n,hn,h4⟩:=h3;simp only[Bool.and_eq_true,decide_eq_true_eq]at h4;exact⟨_,Array.getElem_mem hn,h4.1,h4.2⟩) (fun e he hb=>by
  have h3:=s2 e he;rw[hb]at h3
  simpa using h3) l.length (Array.replicate l.length false) a _ (by simp) hC hq
 refine wp_region_any hm ?_;have e1:(l++[st]).toArray.size=l.length+1:=by simp
 rw[e1,Array.replicate_succ];exact hk
theorem zbw{P:Program}{C:World->Prop}{id:Nat}{Q:Exit->Act->World->Prop}{a:Act}{w:World}{os l:List Oper}{st:Oper}(h1:os.dropLast=l)(h2:os.getLast? = some st)(hm:P.follows .mixedOrders=true)(hB:Region.lexB .any l.toArray=true)(hlex:((List.range l.length).zip l).all (fun p=>p.2.guard.isNone&&p.2.after.all fun e=> !Region.binds .any e||decide (e.on<p.1))=true)(hlst:(st.guard.isNone&&(st.after.all fun e=> !Region.binds .any e||decide (e.on<l.length))&&(List.range l.length).all fun j=>st.after.any fun e=>Region.binds .any e&&decide (e.on=j))=true)(hC:C {w with drawn:=w.drawn+1})(h:wpQuiet P l.toArray C (fun a'=>∀w',C w'->wpList P os.toArray Q [st] a' w') l a):(Code.region id os.toArray true).wp P Q a w:=by
 have e:os=l++[st]:=by
  obtain⟨h3,h4⟩:=List.getLast?_eq_some_iff.1 h2;rw[h4]at h1
  simp at h1;rw[h4,h1]
 subst e;refine zkx hm hB hlex hlst hC ?_;have hg:st.guard=none:=by
  simp only[Bool.and_eq_true,Option.isNone_iff_eq_none]at hlst;exact hlst.1.1
 have e2:(fun a'=>∀w',C w'->wpList P (l++[st]).toArray Q [st] a' w')=fun a'=>∀w',C w'->(st.wp P a' w' (fun a'' w''=>Q .normal a'' w'') Q\/(st.asks P a' w'/\LetsOut Q)):=by
  funext a'
  simp[wpList,Region.wanted,hg]
 rw[e2]at h
 exact h
theorem zacu(sb Q:Nat)(w:World):(Instr.index 126 (.agg #[.pointer (some ⟨sb,0,none⟩),.func (Fn.func 90) #[] #[],.pointer (some ⟨sb,1,none⟩),.func (Fn.func 91) #[] #[],.pointer (some ⟨sb,2,none⟩),.func (Fn.func 93) #[] #[],.pointer (some ⟨sb,3,none⟩),.func (Fn.func 94) #[] #[.pointer (some ⟨Q,0,none⟩)],.pointer (some ⟨sb,4,none⟩),.func (Fn.func 96) #[] #[]]) (.int .i64 0)).run Tryz.prog w=.ok (.agg #[.pointer (some ⟨sb,0,none⟩),.func (Fn.func 90) #[] #[]]) w:=by kernel_rfl
theorem zacv(sb Q:Nat)(w:World):(Instr.index 126 (.agg #[.pointer (some ⟨sb,0,none⟩),.func (Fn.func 90) #[] #[],.pointer (some ⟨sb,1,none⟩),.func (Fn.func 91) #[] #[],.pointer (some ⟨sb,2,none⟩),.func (Fn.func 93) #[] #[],.pointer (some ⟨sb,3,none⟩),.func (Fn.func 94) #[] #[.pointer (some ⟨Q,0,none⟩)],.pointer (some ⟨sb,4,none⟩),.func (Fn.func 96) #[] #[]]) (.int .i64 1)).run Tryz.prog w=.ok (.agg #[.pointer (some ⟨sb,1,none⟩),.func (Fn.func 91) #[] #[]]) w:=by kernel_rfl
theorem zacw(sb Q:Nat)(w:World):(Instr.index 126 (.agg #[.pointer (some ⟨sb,0,none⟩),.func (Fn.func 90) #[] #[],.pointer (some ⟨sb,1,none⟩),.func (Fn.func 91) #[] #[],.pointer (some ⟨sb,2,none⟩),.func (Fn.func 93) #[] #[],.pointer (some ⟨sb,3,none⟩),.func (Fn.func 94) #[] #[.pointer (some ⟨Q,0,none⟩)],.pointer (some ⟨sb,4,none⟩),.func (Fn.func 96) #[] #[]]) (.int .i64 2)).run Tryz.prog w=.ok (.agg #[.pointer (some ⟨sb,2,none⟩),.func (Fn.func 93) #[] #[]]) w:=by kernel_rfl
theorem zacx(sb Q:Nat)(w:World):(Instr.index 126 (.agg #[.pointer (some ⟨sb,0,none⟩),.func (Fn.func 90) #[] #[],.pointer (some ⟨sb,1,none⟩),.func (Fn.func 91) #[] #[],.pointer (some ⟨sb,2,none⟩),.func (Fn.func 93) #[] #[],.pointer (some ⟨sb,3,none⟩),.func (Fn.func 94) #[] #[.pointer (some ⟨Q,0,none⟩)],.pointer (some ⟨sb,4,none⟩),.func (Fn.func 96) #[] #[]]) (.int .i64 3)).run Tryz.prog w=.ok (.agg #[.pointer (some ⟨sb,3,none⟩),.func (Fn.func 94) #[] #[.pointer (some ⟨Q,0,none⟩)]]) w:=by kernel_rfl
theorem zacy(sb Q:Nat)(w:World):(Instr.index 126 (.agg #[.pointer (some ⟨sb,0,none⟩),.func (Fn.func 90) #[] #[],.pointer (some ⟨sb,1,none⟩),.func (Fn.func 91) #[] #[],.pointer (some ⟨sb,2,none⟩),.func (Fn.func 93) #[] #[],.pointer (some ⟨sb,3,none⟩),.func (Fn.func 94) #[] #[.pointer (some ⟨Q,0,none⟩)],.pointer (some ⟨sb,4,none⟩),.func (Fn.func 96) #[] #[]]) (.int .i64 4)).run Tryz.prog w=.ok (.agg #[.pointer (some ⟨sb,4,none⟩),.func (Fn.func 96) #[] #[]]) w:=by kernel_rfl
theorem zxu{w:World}{g sb Q:Nat}(h:w.heap[g]? = some (.cells (rwA sb Q) 126 (0,0))):w.cell? ⟨g,0,none⟩=some (.pointer (some ⟨sb,0,none⟩))/\w.cell? ⟨g,1,none⟩=some (.func (Fn.func 90) #[] #[])/\w.cell? ⟨g,2,none⟩=some (.pointer (some ⟨sb,1,none⟩))/\w.cell? ⟨g,3,none⟩=some (.func (Fn.func 91) #[] #[])/\w.cell? ⟨g,4,none⟩=some (.pointer (some ⟨sb,2,none⟩))/\w.cell? ⟨g,5,none⟩=some (.func (Fn.func 93) #[] #[])/\w.cell? ⟨g,6,none⟩=some (.pointer (some ⟨sb,3,none⟩))/\w.cell? ⟨g,7,none⟩=some (.func (Fn.func 94) #[] #[.pointer (some ⟨Q,0,none⟩)])/\w.cell? ⟨g,8,none⟩=some (.pointer (some ⟨sb,4,none⟩))/\w.cell? ⟨g,9,none⟩=some (.func (Fn.func 96) #[] #[]):=
 ⟨by rw[crw h];rfl,by rw[crw h];rfl,by rw[crw h];rfl,by rw[crw h];rfl,by rw[crw h];rfl,by rw[crw h];rfl,by rw[crw h];rfl,by rw[crw h];rfl,by rw[crw h];rfl,by rw[crw h];rfl⟩
def OfP(sb g:Nat)(wS:World)(L:Nat)(es:List Ev)(i:Nat)(W:World):Prop:=
 W.heap[sb]? = some (.cells (sta L es i).a 65 (0,0))/\BR W g (hs L es i)/\Fr [sb,g] wS W
def InP(sb g eb:Nat)(wS:World)(E:Ev)(h:List Bool)(o n:Sst)(j:Nat)(W:World):Prop:=
 W.heap[sb]? = some (.cells (mixA o n j) 65 (0,0))/\BR W g h/\W.heap[eb]? = some (.cells (evA E.t E.k E.n E.s E.c E.m) 40 (0,0))/\Fr [sb,g] wS W
section
variable{sb g eb:Nat}{wS W W':World}{E:Ev}{h:List Bool}{o n:Sst}
theorem InP.quiet{j:Nat}(hh:InP sb g eb wS E h o n j W)(hf:Fr [] W W'):InP sb g eb wS E h o n j W':=
 ⟨hf.keep hh.1 (by simp),hh.2.1.keep hf (by simp),hf.keep hh.2.2.1 (by simp),hh.2.2.2.then (hf.mono (by simp))⟩
theorem InP.put{j:Nat}{x:Int}(hh:InP sb g eb wS E h o n j W)(n1:sb≠g)(n2:sb≠eb)(hx:(mixA o n j).setIfInBounds j (.int .i64 x)=mixA o n (j+1)):InP sb g eb wS E h o n (j+1) (W.setCell ⟨sb,j,none⟩ (.int .i64 x)):=by
 have hf:Fr [sb] W (W.setCell ⟨sb,j,none⟩ (.int .i64 x)):=Fr.set _ _ _ (by simp);have hr:=zbp (v:=.int .i64 x) (j:=j) hh.1;rw[hx]at hr
 exact⟨hr,hh.2.1.keep hf (by simp;exact n1.symm),hf.keep hh.2.2.1 (by simp;exact n2.symm),hh.2.2.2.then (hf.mono (by simp))⟩
theorem zxv:(mixA o n 0).setIfInBounds 0 (.int .i64 n.n)=mixA o n (0+1):=by simp[mixA,stA]
theorem zus(h:W.heap[sb]? = some (.cells (mixA o n 0) 65 (0,0))):W.cell? ⟨sb,0,none⟩=some (.int .i64 o.n):=by rw[crw h];simp[mixA,stA]
theorem zxw:(mixA o n 1).setIfInBounds 1 (.int .i64 n.i)=mixA o n (1+1):=by simp[mixA,stA]
theorem zut(h:W.heap[sb]? = some (.cells (mixA o n 1) 65 (0,0))):W.cell? ⟨sb,1,none⟩=some (.int .i64 o.i):=by rw[crw h];simp[mixA,stA]
theorem zxx:(mixA o n 2).setIfInBounds 2 (.int .i64 n.g)=mixA o n (2+1):=by simp[mixA,stA]
theorem zuu(h:W.heap[sb]? = some (.cells (mixA o n 2) 65 (0,0))):W.cell? ⟨sb,2,none⟩=some (.int .i64 o.g):=by rw[crw h];simp[mixA,stA]
theorem zxy:(mixA o n 3).setIfInBounds 3 (.int .i64 n.b)=mixA o n (3+1):=by simp[mixA,stA]
theorem zuv(h:W.heap[sb]? = some (.cells (mixA o n 3) 65 (0,0))):W.cell? ⟨sb,3,none⟩=some (.int .i64 o.b):=by rw[crw h];simp[mixA,stA]
theorem zxz:(mixA o n 4).setIfInBounds 4 (.int .i64 n.r)=mixA o n (4+1):=by simp[mixA,stA]
theorem zuw(h:W.heap[sb]? = some (.cells (mixA o n 4) 65 (0,0))):W.cell? ⟨sb,4,none⟩=some (.int .i64 o.r):=by rw[crw h];simp[mixA,stA]
end
theorem of_ok(L:Nat)(s x q:Int)(eo:Option Addr)(en ec:Nat)(es:List Ev)(w:World)(hc:Cf.may ⟨L,s,x,q⟩)(hE:ERs w eo es)(hen:en=es.length) :
  Calls Tryz.prog 25 #[.agg #[.int .i64 (L:Int),.int .i64 s,.int .i64 x,.int .i64 q],.slice eo en ec] w fun e w'=>e=.returned (.tuple #[.agg (sta L es en).a,.int .i64 0])/\Fr [] w w':=by
 have HC:Hid (∀W,Calls Tryz.prog 56 #[.agg #[.int .i64 (L:Int),.int .i64 s,.int .i64 x,.int .i64 q]] W fun e w'=>e=.returned (.int .i64 0)/\Fr [] W w'):=fun W=>(zbx L s x q W).mono fun e w' h=>⟨by rw[h.1,Cf.err,if_pos hc],h.2⟩;have hL:L<=16:=by have:=hc.1.2;simp only at this;omega
 obtain⟨iB,hiB,hzB,hsB,hbB⟩:=zjd;obtain⟨wb,HW⟩:∃wb,Hid ((w.alloc (.cells #[.int .i64 (L:Int),.int .i64 s,.int .i64 x,.int .i64 q] 23)).alloc (.cells #[.int .i64 0,.int .i64 0,.int .i64 0,.int .i64 0,.int .i64 0] 65)=wb):=⟨_,rfl⟩;have hM:CfM wb w.heap.size L s x q:=by rw[<-HW.out];exact (CfM.new w L s x q 23).keep (Fr.alloc _ _ _)
 have hr:wb.heap[w.heap.size+1]? = some (.cells (stA 0 0 0 0 0) 65 (0,0)):=by
  rw[<-HW.out,show w.heap.size+1=(w.alloc (.cells #[.int .i64 (L:Int),.int .i64 s,.int .i64 x,.int .i64 q] 23)).heap.size by simp];exact heap_alloc_new _ _
 have HF:Hid (Fr [] w wb):=by rw[<-HW.out];exact (Fr.alloc [] w _).then (Fr.alloc _ _ _)
 obtain⟨b,HB⟩:∃b,Hid (w.heap.size=b):=⟨_,rfl⟩;rw[HB.out]at hM hr
 have HR:Hid (∀W,Fr [] wb W->W.heap[b+1]? = some (.cells (stA 0 0 0 0 0) 65 (0,0))):=fun W hf=>hf.keep hr (by simp);have HM:Hid (∀W,Fr [] wb W->W.cell? ⟨b,0,none⟩=some (.int .i64 (L:Int))):=fun W hf=>(hM.keep hf).2.1;have HE:Hid (∀W,Fr [] w W->ERs W eo es):=fun W hf=>hE.keep hf;have HL:Hid (en=es.length):=hen;have HFew:Hid (es.length<=4398046511104):=hE.few;have hbb:b+1<wb.heap.size:=lt_of_block hr;obtain⟨_,m0,m1,m2,m3⟩:=hM;clear hr hE hen hc;go_enter Tryz.func25,Tryz.ntmps25;go_upto_region 1 with fail
 rw[HW.out,HB.out];go_wp2_with fail
 with_reducible refine (HC.out _).mono ?_
 rintro e w1⟨rfl,hF1⟩;obtain⟨w2,HW2⟩:∃w2,Hid (w1.alloc (.cells #[.int .i64 0,.int .i64 0,.int .i64 0,.int .i64 0,.int .i64 0] 65)=w2):=⟨_,rfl⟩;obtain⟨sb,HSb⟩:∃sb,Hid (w1.heap.size=sb):=⟨_,rfl⟩;have hF2:Fr [] w1 w2:=by rw[<-HW2.out];exact Fr.alloc _ _ _
 have HF2:Hid (Fr [] wb w2):=hF1.then hF2;have HS2:Hid (w2.heap[sb]? = some (.cells (stA 0 0 0 0 0) 65 (0,0))):=by show _=_;rw[<-HW2.out,<-HSb.out];exact heap_alloc_new _ _
 have hsb:b+1<sb:=by rw[<-HSb.out];exact Nat.lt_of_lt_of_le hbb hF1.size
 have m0:=HM.out _ HF2.out;clear hF1 hF2 m1 m2 m3;go_upto_region 5 with fail
 rw[HW2.out,HSb.out];go_wp2_with (at_make;refine wpList_make_full _ rfl (.tmp 21) (.tmp 21) 121 rfl 0 4 iB _ 1 Tryz.undBools hiB hzB hsB .i64 .i64 (L:Int) (L:Int) L rfl rfl rfl rfl ?b2 ?b3 ?b4 ?_)
 case b2=>rw[hbB];omega
 case b3=>unfold maxLen;omega
 case b4=>exact Nat.zero_le _
 intro w3 hown hgrow;rw[zki]at hown
 have hrow:BR w3 w2.heap.size (List.replicate L false):=zkj hown;have hF3:Fr [] w2 w3:=Fr.grown (S:=[]) hgrow (by simp);obtain⟨g,HG⟩:∃g,Hid (w2.heap.size=g):=⟨_,rfl⟩;rw[HG.out]at hrow ⊢
 have hsg:sb<g:=by rw[<-HG.out];exact lt_of_block HS2.out
 have HF3:Hid (Fr [] w2 w3):=hF3;have HG3:Hid (BR w3 g (hs L es 0)):=by show BR _ _ _;rw[zpx];exact hrow
 have HRw:=zxr sb g L w3;unfold rwA at HRw;clear hown hgrow hrow hF3 m0 hiB hzB hsB hbB;go_wp2_with fail
 with_reducible refine HRw.mono ?_
 rintro e w4⟨Q,rfl,hQ3,hQ,hF4⟩;obtain⟨wS,HWS⟩:∃wS,Hid (w4.alloc (.cells (rwA sb Q) 126)=wS):=⟨_,rfl⟩;obtain⟨rb,HRb⟩:∃rb,Hid (w4.heap.size=rb):=⟨_,rfl⟩;have hFS:Fr [] w4 wS:=by rw[<-HWS.out];exact Fr.alloc _ _ _
 have hgQ:g<Q:=Nat.lt_of_lt_of_le (lt_of_block HG3.out) hQ3;have hQr:Q<rb:=by rw[<-HRb.out];exact lt_of_block hQ
 have hRS:wS.heap[rb]? = some (.cells (rwA sb Q) 126 (0,0)):=by rw[<-HWS.out,<-HRb.out];exact heap_alloc_new _ _
 have hfS:Fr [] wb wS:=((HF2.out.then HF3.out).then hF4).then hFS;have HFS:Hid (Fr [] w wS):=HF.out.then hfS;have HQS:Hid (∀W,Fr [sb,g] wS W->W.heap[Q]? = some (.cells #[.slice (some ⟨g,0,none⟩) L L] 121 (0,0))):=fun W hf=>hf.keep (hFS.keep hQ (by simp)) (by simp;omega);have HRS:Hid (∀W,Fr [sb,g] wS W->W.heap[rb]? = some (.cells (rwA sb Q) 126 (0,0))):=fun W hf=>hf.keep hRS (by simp;omega);have HOS:Hid (∀W,Fr [sb,g] wS W->W.heap[b+1]? = some (.cells (stA 0 0 0 0 0) 65 (0,0))):=fun W hf=>hf.keep (HR.out _ hfS) (by simp;omega);have HW0:Hid (∀W,Fr [sb,g] wS W->Fr [] w W):=fun W hf=>HFS.out.on hf (by intro y hy;have:=HB.out;simp at hy;omega);have H0:Hid (OfP sb g wS L es 0 wS):=⟨((HF3.out.then hF4).then hFS).keep HS2.out (by simp),HG3.out.keep (hF4.then hFS) (by simp),Fr.refl _ _⟩;have hrS:rb<wS.heap.size:=lt_of_block hRS;clear hF4 hFS hQ hRS hfS HRw hQ3;go_upto_region 7 with fail
 have hwS:=HWS.out;unfold rwA at hwS;simp only[hwS,HRb.out];clear hwS HWS HRb;go_wp2_with fail
 go_loopw [27] (fun ii wr=>∃(i:Nat),ii=.int .i64 i/\i<=en/\Hid (OfP sb g wS L es i wr)) (fun ii _=>en-(RowKit.intOf ii).toNat)
 case atStart=>exact⟨0,rfl,Nat.zero_le _,H0⟩
 obtain⟨i,rfl,hin,HP⟩:=hrel;by_cases hi:i<en
 .have hi':i<es.length:=by rw[<-HL.out];exact hi
  obtain⟨bb,off,rfl,_,hcE⟩:=(HE.out _ (HW0.out _ HP.out.2.2)).lies (by omega);obtain⟨d0,d1,d2,d3,d4,d5⟩:=hcE i hi';obtain⟨E,hEE⟩:∃E,E=es.getD i Ev.no:=⟨_,rfl⟩;rw[<-hEE]at d0 d1 d2 d3 d4 d5
  have HEE:Hid (E=es.getD i Ev.no):=hEE;obtain⟨w5,HW5⟩:∃w5,Hid (wr.alloc (.cells #[.int .i64 E.t,.int .u8 E.k,.int .i64 E.n,.int .i64 E.s,.int .i64 E.c,.int .i64 E.m] 40)=w5):=⟨_,rfl⟩;obtain⟨eb,HEb⟩:∃eb,Hid (wr.heap.size=eb):=⟨_,rfl⟩;have hF5:Fr [] wr w5:=by rw[<-HW5.out];exact Fr.alloc _ _ _
  have hby:w5.heap[eb]? = some (.cells (evA E.t E.k E.n E.s E.c E.m) 40 (0,0)):=by rw[<-HW5.out,<-HEb.out];exact heap_alloc_new wr _
  obtain⟨y0,y1,y2,y3,y4,y5⟩:=zcd hby;have hre:rb<eb:=by rw[<-HEb.out];exact Nat.lt_of_lt_of_le hrS HP.out.2.2.size
  have HSee:Hid (Calls Tryz.prog 58 #[.slice (some ⟨g,0,none⟩) L L,.agg #[.int .i64 E.t,.int .u8 E.k,.int .i64 E.n,.int .i64 E.s,.int .i64 E.c,.int .i64 E.m]] w5 fun x w'=>x=.returned (.tuple #[])/\Hid (InP sb g eb wS E (hs L es (i+1)) (sta L es i) (sta L es (i+1)) 0 w')):=by
   have hz:=zpw g (hs L es i) E w5 (HP.out.2.1.keep hF5 (by simp)) (by rw[zat];exact hL);rw[zat]at hz
   refine Calls.mono hz fun e w' hh=>⟨hh.1,?_⟩;refine⟨hh.2.2.keep (hF5.keep HP.out.1 (by simp)) (by simp;omega),?_,hh.2.2.keep hby (by simp;omega),(HP.out.2.2.then (hF5.mono (by simp))).then (hh.2.2.mono (by simp))⟩;rw[zpz,<-HEE.out];exact hh.2.1
  clear hEE hby hF5 hcE;go_upto_region 10 with fail
  rw[HW5.out,HEb.out];clear HW5 HEb;go_wp2_with fail
  with_reducible refine HSee.out.mono ?_
  rintro e w6⟨rfl,HI6⟩;clear d0 d1 d2 d3 d4 d5 y0 y1 y2 y3 y4 y5 HSee;obtain⟨k0,k1,k2,k3,k4,k5,k6,k7,k8,k9⟩:=zxu (HRS.out _ HI6.out.2.2.2);go_wp2_with fail
  clear k0 k1 k2 k3 k4 k5 k6 k7 k8 k9;go_loopw [35] (fun jj wr=>∃(j:Nat),jj=.int .i64 j/\j<=5/\Hid (InP sb g eb wS E (hs L es (i+1)) (sta L es i) (sta L es (i+1)) j wr)) (fun jj _=>5-(RowKit.intOf jj).toNat)
  case atStart=>exact⟨0,rfl,by omega,HI6⟩
  obtain⟨j,rfl,hj5,HI⟩:=hrel;by_cases hj:j<5
  .have x0:=zacu sb Q;have x1:=zacv sb Q;have x2:=zacw sb Q;have x3:=zacx sb Q;have x4:=zacy sb Q;have hsn:=zadn L es i;have hsi:=zado L es i;have hsg2:=zadq L es i;have hsr:=zadp L es i;have hfew:=HFew.out;have HEv:Hid (∀(j:Nat)(W:World),InP sb g eb wS E (hs L es (i+1)) (sta L es i) (sta L es (i+1)) j W->W.heap[eb]? = some (.cells (evA E.t E.k E.n E.s E.c E.m) 40 (0,0))):=fun j W hh=>hh.2.2.1;have HN1:Hid (sb≠g/\sb≠eb):=⟨by omega,by omega⟩;rcases (show j=0\/j=1\/j=2\/j=3\/j=4 by omega) with rfl|rfl|rfl|rfl|rfl
   .have HCk:Hid (∀W,Fr [] wr W->Calls Tryz.prog 90 #[.int .i64 (sta L es i).n,.agg (evA E.t E.k E.n E.s E.c E.m)] W fun e w'=>e=.returned (.int .i64 (sta L es (i+1)).n)/\Fr [] W w'):=fun W hf=>(zxj (sta L es i).n E W (by rw[hsn];omega) (by rw[hsn];omega)).mono fun e w' hh=>⟨by rw[hh.1];simp only[sta,HEE.out],hh.2⟩;obtain⟨w7,HW7⟩:∃w7,Hid (wr.alloc (.cells #[.pointer (some ⟨sb,0,none⟩),.func (Fn.func 90) #[] #[]] 125)=w7):=⟨_,rfl⟩;obtain⟨pb,HPb⟩:∃pb,Hid (wr.heap.size=pb):=⟨_,rfl⟩;have hF7:Fr [] wr w7:=by rw[<-HW7.out];exact Fr.alloc _ _ _
    have hrow:w7.heap[pb]? = some (.cells #[.pointer (some ⟨sb,0,none⟩),.func (Fn.func 90) #[] #[]] 125 (0,0)):=by rw[<-HW7.out,<-HPb.out];exact heap_alloc_new _ _
    have hI7:=HI.out.quiet hF7;have HEy:∀y:Wd13 w7,_:=fun y=>zcd (HEv.out _ _ (hI7.quiet y.h));have y0:=fun y=>(HEy y).1;have y1:=fun y=>(HEy y).2.1;have y2:=fun y=>(HEy y).2.2.1;have y3:=fun y=>(HEy y).2.2.2.1;have y4:=fun y=>(HEy y).2.2.2.2.1;have y5:=fun y=>(HEy y).2.2.2.2.2;have p0:∀y:Wd13 w7,y.W.cell? ⟨pb,0,none⟩=some (.pointer (some ⟨sb,0,none⟩)):=fun y=>by rw[crw (y.h.keep hrow (by simp))];rfl
    have p1:∀y:Wd13 w7,y.W.cell? ⟨pb,1,none⟩=some (.func (Fn.func 90) #[] #[]):=fun y=>by rw[crw (y.h.keep hrow (by simp))];rfl
    have v0:∀y:Wd13 w7,y.W.cell? ⟨sb,0,none⟩=some (.int .i64 (sta L es i).n):=fun y=>zus (hI7.quiet y.h).1;have HV1:Hid (∀y:Wd13 w7,y.W.frozen? ⟨sb,0,none⟩=false/\InP sb g eb wS E (hs L es (i+1)) (sta L es i) (sta L es (i+1)) (0+1) (y.W.setCell ⟨sb,0,none⟩ (.int .i64 (sta L es (i+1)).n))):=fun y=>⟨by simp[World.frozen?,(hI7.quiet y.h).1],(hI7.quiet y.h).put HN1.out.1 HN1.out.2 zxv⟩;have HCl:Hid (∀W,Fr [] w7 W->Calls Tryz.prog 90 #[.int .i64 (sta L es i).n,.agg #[.int .i64 E.t,.int .u8 E.k,.int .i64 E.n,.int .i64 E.s,.int .i64 E.c,.int .i64 E.m]] W fun e w'=>e=.returned (.int .i64 (sta L es (i+1)).n)/\Fr [] W w'):=fun W hf=>HCk.out W (hF7.then hf);generalize (sta L es i).n=old at HCl v0;generalize (sta L es (i+1)).n=nw at HCl HV1;clear hrow hI7 HCk hF7 hsn hsi hsg2 hsr hfew HI HEy;go_upto_region 14 with fail
    rw[HW7.out,HPb.out];clear HW7 HPb;refine zbw (C:=fun w'=>∃x:Wd13 w7,w'=x.W) (by simp only[List.dropLast];rfl) (by simp only[List.getLast?];rfl) (by kernel_rfl) (by kernel_rfl) (by kernel_rfl) (by kernel_rfl) ⟨⟨_,Fr.drew [] _⟩,rfl⟩ ?_
    repeat (go_big_quiet_step ((go_at_call 90;with_reducible refine (HCl.out _ (Wd13.h _)).mono ?_;exact fun e w3 hh=>⟨hh.1,⟨_,Fr.then (Wd13.h _) hh.2⟩,rfl⟩)))
    refine wpQuiet_nil ?_;rintro _⟨y,rfl⟩;have v1:=v0 y;obtain⟨v2,hI8⟩:=HV1.out y;have HI8:Hid (InP sb g eb wS E (hs L es (i+1)) (sta L es i) (sta L es (i+1)) _ _):=hI8;clear y0 y1 y2 y3 y4 y5 p0 p1 v0 HV1 HCl hI8;go_wp2_with fail
    go_roundw;case rel=>exact⟨0+1,rfl,by omega,HI8⟩
    case measure=>simp[RowKit.intOf]
   .have HCk:Hid (∀W,Fr [] wr W->Calls Tryz.prog 91 #[.int .i64 (sta L es i).i,.agg (evA E.t E.k E.n E.s E.c E.m)] W fun e w'=>e=.returned (.int .i64 (sta L es (i+1)).i)/\Fr [] W w'):=fun W hf=>(zxk (sta L es i).i E W (by omega) (by omega)).mono fun e w' hh=>⟨by rw[hh.1];simp only[sta,HEE.out],hh.2⟩;obtain⟨w7,HW7⟩:∃w7,Hid (wr.alloc (.cells #[.pointer (some ⟨sb,1,none⟩),.func (Fn.func 91) #[] #[]] 125)=w7):=⟨_,rfl⟩;obtain⟨pb,HPb⟩:∃pb,Hid (wr.heap.size=pb):=⟨_,rfl⟩;have hF7:Fr [] wr w7:=by rw[<-HW7.out];exact Fr.alloc _ _ _
    have hrow:w7.heap[pb]? = some (.cells #[.pointer (some ⟨sb,1,none⟩),.func (Fn.func 91) #[] #[]] 125 (0,0)):=by rw[<-HW7.out,<-HPb.out];exact heap_alloc_new _ _
    have hI7:=HI.out.quiet hF7;have HEy:∀y:Wd13 w7,_:=fun y=>zcd (HEv.out _ _ (hI7.quiet y.h));have y0:=fun y=>(HEy y).1;have y1:=fun y=>(HEy y).2.1;have y2:=fun y=>(HEy y).2.2.1;have y3:=fun y=>(HEy y).2.2.2.1;have y4:=fun y=>(HEy y).2.2.2.2.1;have y5:=fun y=>(HEy y).2.2.2.2.2;have p0:∀y:Wd13 w7,y.W.cell? ⟨pb,0,none⟩=some (.pointer (some ⟨sb,1,none⟩)):=fun y=>by rw[crw (y.h.keep hrow (by simp))];rfl
    have p1:∀y:Wd13 w7,y.W.cell? ⟨pb,1,none⟩=some (.func (Fn.func 91) #[] #[]):=fun y=>by rw[crw (y.h.keep hrow (by simp))];rfl
    have v0:∀y:Wd13 w7,y.W.cell? ⟨sb,1,none⟩=some (.int .i64 (sta L es i).i):=fun y=>zut (hI7.quiet y.h).1;have HV1:Hid (∀y:Wd13 w7,y.W.frozen? ⟨sb,1,none⟩=false/\InP sb g eb wS E (hs L es (i+1)) (sta L es i) (sta L es (i+1)) (1+1) (y.W.setCell ⟨sb,1,none⟩ (.int .i64 (sta L es (i+1)).i))):=fun y=>⟨by simp[World.frozen?,(hI7.quiet y.h).1],(hI7.quiet y.h).put HN1.out.1 HN1.out.2 zxw⟩;have HCl:Hid (∀W,Fr [] w7 W->Calls Tryz.prog 91 #[.int .i64 (sta L es i).i,.agg #[.int .i64 E.t,.int .u8 E.k,.int .i64 E.n,.int .i64 E.s,.int .i64 E.c,.int .i64 E.m]] W fun e w'=>e=.returned (.int .i64 (sta L es (i+1)).i)/\Fr [] W w'):=fun W hf=>HCk.out W (hF7.then hf);generalize (sta L es i).i=old at HCl v0;generalize (sta L es (i+1)).i=nw at HCl HV1;clear hrow hI7 HCk hF7 hsn hsi hsg2 hsr hfew HI HEy;go_upto_region 14 with fail
    rw[HW7.out,HPb.out];clear HW7 HPb;refine zbw (C:=fun w'=>∃x:Wd13 w7,w'=x.W) (by simp only[List.dropLast];rfl) (by simp only[List.getLast?];rfl) (by kernel_rfl) (by kernel_rfl) (by kernel_rfl) (by kernel_rfl) ⟨⟨_,Fr.drew [] _⟩,rfl⟩ ?_
    repeat (go_big_quiet_step ((go_at_call 91;with_reducible refine (HCl.out _ (Wd13.h _)).mono ?_;exact fun e w3 hh=>⟨hh.1,⟨_,Fr.then (Wd13.h _) hh.2⟩,rfl⟩)))
    refine wpQuiet_nil ?_;rintro _⟨y,rfl⟩;have v1:=v0 y;obtain⟨v2,hI8⟩:=HV1.out y;have HI8:Hid (InP sb g eb wS E (hs L es (i+1)) (sta L es i) (sta L es (i+1)) _ _):=hI8;clear y0 y1 y2 y3 y4 y5 p0 p1 v0 HV1 HCl hI8;go_wp2_with fail
    go_roundw;case rel=>exact⟨1+1,rfl,by omega,HI8⟩
    case measure=>simp[RowKit.intOf]
   .have HCk:Hid (∀W,Fr [] wr W->Calls Tryz.prog 93 #[.int .i64 (sta L es i).g,.agg (evA E.t E.k E.n E.s E.c E.m)] W fun e w'=>e=.returned (.int .i64 (sta L es (i+1)).g)/\Fr [] W w'):=fun W hf=>(zxl (sta L es i).g E W (by omega) (by omega)).mono fun e w' hh=>⟨by rw[hh.1];simp only[sta,HEE.out],hh.2⟩;obtain⟨w7,HW7⟩:∃w7,Hid (wr.alloc (.cells #[.pointer (some ⟨sb,2,none⟩),.func (Fn.func 93) #[] #[]] 125)=w7):=⟨_,rfl⟩;obtain⟨pb,HPb⟩:∃pb,Hid (wr.heap.size=pb):=⟨_,rfl⟩;have hF7:Fr [] wr w7:=by rw[<-HW7.out];exact Fr.alloc _ _ _
    have hrow:w7.heap[pb]? = some (.cells #[.pointer (some ⟨sb,2,none⟩),.func (Fn.func 93) #[] #[]] 125 (0,0)):=by rw[<-HW7.out,<-HPb.out];exact heap_alloc_new _ _
    have hI7:=HI.out.quiet hF7;have HEy:∀y:Wd13 w7,_:=fun y=>zcd (HEv.out _ _ (hI7.quiet y.h));have y0:=fun y=>(HEy y).1;have y1:=fun y=>(HEy y).2.1;have y2:=fun y=>(HEy y).2.2.1;have y3:=fun y=>(HEy y).2.2.2.1;have y4:=fun y=>(HEy y).2.2.2.2.1;have y5:=fun y=>(HEy y).2.2.2.2.2;have p0:∀y:Wd13 w7,y.W.cell? ⟨pb,0,none⟩=some (.pointer (some ⟨sb,2,none⟩)):=fun y=>by rw[crw (y.h.keep hrow (by simp))];rfl
    have p1:∀y:Wd13 w7,y.W.cell? ⟨pb,1,none⟩=some (.func (Fn.func 93) #[] #[]):=fun y=>by rw[crw (y.h.keep hrow (by simp))];rfl
    have v0:∀y:Wd13 w7,y.W.cell? ⟨sb,2,none⟩=some (.int .i64 (sta L es i).g):=fun y=>zuu (hI7.quiet y.h).1;have HV1:Hid (∀y:Wd13 w7,y.W.frozen? ⟨sb,2,none⟩=false/\InP sb g eb wS E (hs L es (i+1)) (sta L es i) (sta L es (i+1)) (2+1) (y.W.setCell ⟨sb,2,none⟩ (.int .i64 (sta L es (i+1)).g))):=fun y=>⟨by simp[World.frozen?,(hI7.quiet y.h).1],(hI7.quiet y.h).put HN1.out.1 HN1.out.2 zxx⟩;have HCl:Hid (∀W,Fr [] w7 W->Calls Tryz.prog 93 #[.int .i64 (sta L es i).g,.agg #[.int .i64 E.t,.int .u8 E.k,.int .i64 E.n,.int .i64 E.s,.int .i64 E.c,.int .i64 E.m]] W fun e w'=>e=.returned (.int .i64 (sta L es (i+1)).g)/\Fr [] W w'):=fun W hf=>HCk.out W (hF7.then hf);generalize (sta L es i).g=old at HCl v0;generalize (sta L es (i+1)).g=nw at HCl HV1;clear hrow hI7 HCk hF7 hsn hsi hsg2 hsr hfew HI HEy;go_upto_region 14 with fail
    rw[HW7.out,HPb.out];clear HW7 HPb;refine zbw (C:=fun w'=>∃x:Wd13 w7,w'=x.W) (by simp only[List.dropLast];rfl) (by simp only[List.getLast?];rfl) (by kernel_rfl) (by kernel_rfl) (by kernel_rfl) (by kernel_rfl) ⟨⟨_,Fr.drew [] _⟩,rfl⟩ ?_
    repeat (go_big_quiet_step ((go_at_call 93;with_reducible refine (HCl.out _ (Wd13.h _)).mono ?_;exact fun e w3 hh=>⟨hh.1,⟨_,Fr.then (Wd13.h _) hh.2⟩,rfl⟩)))
    refine wpQuiet_nil ?_;rintro _⟨y,rfl⟩;have v1:=v0 y;obtain⟨v2,hI8⟩:=HV1.out y;have HI8:Hid (InP sb g eb wS E (hs L es (i+1)) (sta L es i) (sta L es (i+1)) _ _):=hI8;clear y0 y1 y2 y3 y4 y5 p0 p1 v0 HV1 HCl hI8;go_wp2_with fail
    go_roundw;case rel=>exact⟨2+1,rfl,by omega,HI8⟩
    case measure=>simp[RowKit.intOf]
   .have HCk:Hid (∀W,Fr [] wr W->Calls Tryz.prog 94 #[.int .i64 (sta L es i).b,.agg (evA E.t E.k E.n E.s E.c E.m),.pointer (some ⟨Q,0,none⟩)] W fun e w'=>e=.returned (.int .i64 (sta L es (i+1)).b)/\Fr [] W w'):=fun W hf=>(zxp (sta L es i).b E Q g (hs L es (i+1)) W (by rw[zat];exact HQS.out _ (HI.out.2.2.2.then (hf.mono (by simp)))) (HI.out.2.1.keep hf (by simp)) (by rw[zat];exact hL)).mono fun e w' hh=>⟨by rw[hh.1];simp only[sta,HEE.out],hh.2⟩;obtain⟨w7,HW7⟩:∃w7,Hid (wr.alloc (.cells #[.pointer (some ⟨sb,3,none⟩),.func (Fn.func 94) #[] #[.pointer (some ⟨Q,0,none⟩)]] 125)=w7):=⟨_,rfl⟩;obtain⟨pb,HPb⟩:∃pb,Hid (wr.heap.size=pb):=⟨_,rfl⟩;have hF7:Fr [] wr w7:=by rw[<-HW7.out];exact Fr.alloc _ _ _
    have hrow:w7.heap[pb]? = some (.cells #[.pointer (some ⟨sb,3,none⟩),.func (Fn.func 94) #[] #[.pointer (some ⟨Q,0,none⟩)]] 125 (0,0)):=by rw[<-HW7.out,<-HPb.out];exact heap_alloc_new _ _
    have hI7:=HI.out.quiet hF7;have HEy:∀y:Wd13 w7,_:=fun y=>zcd (HEv.out _ _ (hI7.quiet y.h));have y0:=fun y=>(HEy y).1;have y1:=fun y=>(HEy y).2.1;have y2:=fun y=>(HEy y).2.2.1;have y3:=fun y=>(HEy y).2.2.2.1;have y4:=fun y=>(HEy y).2.2.2.2.1;have y5:=fun y=>(HEy y).2.2.2.2.2;have p0:∀y:Wd13 w7,y.W.cell? ⟨pb,0,none⟩=some (.pointer (some ⟨sb,3,none⟩)):=fun y=>by rw[crw (y.h.keep hrow (by simp))];rfl
    have p1:∀y:Wd13 w7,y.W.cell? ⟨pb,1,none⟩=some (.func (Fn.func 94) #[] #[.pointer (some ⟨Q,0,none⟩)]):=fun y=>by rw[crw (y.h.keep hrow (by simp))];rfl
    have v0:∀y:Wd13 w7,y.W.cell? ⟨sb,3,none⟩=some (.int .i64 (sta L es i).b):=fun y=>zuv (hI7.quiet y.h).1;have HV1:Hid (∀y:Wd13 w7,y.W.frozen? ⟨sb,3,none⟩=false/\InP sb g eb wS E (hs L es (i+1)) (sta L es i) (sta L es (i+1)) (3+1) (y.W.setCell ⟨sb,3,none⟩ (.int .i64 (sta L es (i+1)).b))):=fun y=>⟨by simp[World.frozen?,(hI7.quiet y.h).1],(hI7.quiet y.h).put HN1.out.1 HN1.out.2 zxy⟩;have HCl:Hid (∀W,Fr [] w7 W->Calls Tryz.prog 94 #[.int .i64 (sta L es i).b,.agg #[.int .i64 E.t,.int .u8 E.k,.int .i64 E.n,.int .i64 E.s,.int .i64 E.c,.int .i64 E.m],.pointer (some ⟨Q,0,none⟩)] W fun e w'=>e=.returned (.int .i64 (sta L es (i+1)).b)/\Fr [] W w'):=fun W hf=>HCk.out W (hF7.then hf);generalize (sta L es i).b=old at HCl v0;generalize (sta L es (i+1)).b=nw at HCl HV1;clear hrow hI7 HCk hF7 hsn hsi hsg2 hsr hfew HI HEy;go_upto_region 14 with fail
    rw[HW7.out,HPb.out];clear HW7 HPb;refine zbw (C:=fun w'=>∃x:Wd13 w7,w'=x.W) (by simp only[List.dropLast];rfl) (by simp only[List.getLast?];rfl) (by kernel_rfl) (by kernel_rfl) (by kernel_rfl) (by kernel_rfl) ⟨⟨_,Fr.drew [] _⟩,rfl⟩ ?_
    repeat (go_big_quiet_step ((go_at_call 94;with_reducible refine (HCl.out _ (Wd13.h _)).mono ?_;exact fun e w3 hh=>⟨hh.1,⟨_,Fr.then (Wd13.h _) hh.2⟩,rfl⟩)))
    refine wpQuiet_nil ?_;rintro _⟨y,rfl⟩;have v1:=v0 y;obtain⟨v2,hI8⟩:=HV1.out y;have HI8:Hid (InP sb g eb wS E (hs L es (i+1)) (sta L es i) (sta L es (i+1)) _ _):=hI8;clear y0 y1 y2 y3 y4 y5 p0 p1 v0 HV1 HCl hI8;go_wp2_with fail
    go_roundw;case rel=>exact⟨3+1,rfl,by omega,HI8⟩
    case measure=>simp[RowKit.intOf]
   have HCk:Hid (∀W,Fr [] wr W->Calls Tryz.prog 96 #[.int .i64 (sta L es i).r,.agg (evA E.t E.k E.n E.s E.c E.m)] W fun e w'=>e=.returned (.int .i64 (sta L es (i+1)).r)/\Fr [] W w'):=fun W hf=>(zxm (sta L es i).r E W (by omega) (by omega)).mono fun e w' hh=>⟨by rw[hh.1];simp only[sta,HEE.out],hh.2⟩;obtain⟨w7,HW7⟩:∃w7,Hid (wr.alloc (.cells #[.pointer (some ⟨sb,4,none⟩),.func (Fn.func 96) #[] #[]] 125)=w7):=⟨_,rfl⟩;obtain⟨pb,HPb⟩:∃pb,Hid (wr.heap.size=pb):=⟨_,rfl⟩;have hF7:Fr [] wr w7:=by rw[<-HW7.out];exact Fr.alloc _ _ _
   have hrow:w7.heap[pb]? = some (.cells #[.pointer (some ⟨sb,4,none⟩),.func (Fn.func 96) #[] #[]] 125 (0,0)):=by rw[<-HW7.out,<-HPb.out];exact heap_alloc_new _ _
   have hI7:=HI.out.quiet hF7;have HEy:∀y:Wd13 w7,_:=fun y=>zcd (HEv.out _ _ (hI7.quiet y.h));have y0:=fun y=>(HEy y).1;have y1:=fun y=>(HEy y).2.1;have y2:=fun y=>(HEy y).2.2.1;have y3:=fun y=>(HEy y).2.2.2.1;have y4:=fun y=>(HEy y).2.2.2.2.1;have y5:=fun y=>(HEy y).2.2.2.2.2;have p0:∀y:Wd13 w7,y.W.cell? ⟨pb,0,none⟩=some (.pointer (some ⟨sb,4,none⟩)):=fun y=>by rw[crw (y.h.keep hrow (by simp))];rfl
   have p1:∀y:Wd13 w7,y.W.cell? ⟨pb,1,none⟩=some (.func (Fn.func 96) #[] #[]):=fun y=>by rw[crw (y.h.keep hrow (by simp))];rfl
   have v0:∀y:Wd13 w7,y.W.cell? ⟨sb,4,none⟩=some (.int .i64 (sta L es i).r):=fun y=>zuw (hI7.quiet y.h).1;have HV1:Hid (∀y:Wd13 w7,y.W.frozen? ⟨sb,4,none⟩=false/\InP sb g eb wS E (hs L es (i+1)) (sta L es i) (sta L es (i+1)) (4+1) (y.W.setCell ⟨sb,4,none⟩ (.int .i64 (sta L es (i+1)).r))):=fun y=>⟨by simp[World.frozen?,(hI7.quiet y.h).1],(hI7.quiet y.h).put HN1.out.1 HN1.out.2 zxz⟩;have HCl:Hid (∀W,Fr [] w7 W->Calls Tryz.prog 96 #[.int .i64 (sta L es i).r,.agg #[.int .i64 E.t,.int .u8 E.k,.int .i64 E.n,.int .i64 E.s,.int .i64 E.c,.int .i64 E.m]] W fun e w'=>e=.returned (.int .i64 (sta L es (i+1)).r)/\Fr [] W w'):=fun W hf=>HCk.out W (hF7.then hf);generalize (sta L es i).r=old at HCl v0;generalize (sta L es (i+1)).r=nw at HCl HV1;clear hrow hI7 HCk hF7 hsn hsi hsg2 hsr hfew HI HEy;go_upto_region 14 with fail
   rw[HW7.out,HPb.out];clear HW7 HPb;refine zbw (C:=fun w'=>∃x:Wd13 w7,w'=x.W) (by simp only[List.dropLast];rfl) (by simp only[List.getLast?];rfl) (by kernel_rfl) (by kernel_rfl) (by kernel_rfl) (by kernel_rfl) ⟨⟨_,Fr.drew [] _⟩,rfl⟩ ?_
   repeat (go_big_quiet_step ((go_at_call 96;with_reducible refine (HCl.out _ (Wd13.h _)).mono ?_;exact fun e w3 hh=>⟨hh.1,⟨_,Fr.then (Wd13.h _) hh.2⟩,rfl⟩)))
   refine wpQuiet_nil ?_;rintro _⟨y,rfl⟩;have v1:=v0 y;obtain⟨v2,hI8⟩:=HV1.out y;have HI8:Hid (InP sb g eb wS E (hs L es (i+1)) (sta L es i) (sta L es (i+1)) _ _):=hI8;clear y0 y1 y2 y3 y4 y5 p0 p1 v0 HV1 HCl hI8;go_wp2_with fail
   go_roundw;case rel=>exact⟨4+1,rfl,by omega,HI8⟩
   case measure=>simp[RowKit.intOf]
  obtain rfl:j=5:=by omega
  have HO:Hid (OfP sb g wS L es (i+1) wr):=⟨by rw[<-zur (sta L es i)];exact HI.out.1,HI.out.2.1,HI.out.2.2.2⟩;have hwi:IntKind.i64.wrap ((i:Int)+1)=(i:Int)+1:=by
   have h1:=HFew.out;have h2:=HL.out;rw[IntKind.wrap_i64];omega
  clear HI hj hj5;go_wp2_with fail
  go_roundw;case rel=>exact⟨i+1,by simp,by omega,HO⟩
  case measure=>simp[RowKit.intOf];omega
 obtain rfl:i=en:=by omega
 have hO:=HOS.out _ HP.out.2.2;obtain⟨S,hS⟩:∃S,S=sta L es i:=⟨_,rfl⟩;have h1:=HP.out.1;rw[<-hS]at h1
 obtain⟨sn,si,sg,sbb,sr⟩:=S;have HSS:Hid (_=_):=hS;have q0:wr.cell? ⟨sb,0,none⟩=some (.int .i64 sn):=by rw[crw h1];rfl
 have q1:wr.cell? ⟨sb,1,none⟩=some (.int .i64 si):=by rw[crw h1];rfl
 have q2:wr.cell? ⟨sb,2,none⟩=some (.int .i64 sg):=by rw[crw h1];rfl
 have q3:wr.cell? ⟨sb,3,none⟩=some (.int .i64 sbb):=by rw[crw h1];rfl
 have q4:wr.cell? ⟨sb,4,none⟩=some (.int .i64 sr):=by rw[crw h1];rfl
 have HO:Hid (_=_):=hO;have HWr:=HW0.out _ HP.out.2.2;have HWr2:Hid (Fr [] w wr):=HWr;clear h1 hO hS HWr hi hin;go_wp2_with (refine zbn rfl _ _ rfl (b+1) sn si sg sbb sr rfl rfl 0 0 0 0 0 HO.out ?_;intro w9 hw9 hf9)
 refine bodyPost_ret (zbc rfl _ _ _ (b+1) _ rfl (zeu hw9.out)) rfl ?_;exact⟨by rw[<-HSS.out];rfl,HWr2.out.on hf9 (by intro y hy;have:=HB.out;simp at hy;omega)⟩
end Go.Proofs.YtaigdcmoecgabaaGreat.S6
