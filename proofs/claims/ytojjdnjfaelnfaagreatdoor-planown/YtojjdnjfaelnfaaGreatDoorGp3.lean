/- Contracts and lemmas. -/
import Derived.Test.YtojjdnjfaelnfaaGreatDoorGp2
import Derived.Great.Frames
import Derived.Deep.CutRange
set_option maxHeartbeats 4000000
set_option maxRecDepth 100000
namespace Go.Proofs.YtojjdnjfaelnfaaGreatDoor
set_option linter.unusedSimpArgs false
set_option linter.unusedVariables false
section
open Go.ChangeShapes Go.WideShapes Go.ChangeAt Go.RowKit Go.Lib Go.Proofs.Tryz
def zbs(ops:Array Oper)(j:Nat):Option Nat:=(ops[j]?).bind (·.dst)
def env(a:Act):Nat->Value:=fun t=>a.eval (.tmp t)
def dep(ops:Array Oper)(i j:Nat):Bool:=match ops[i]? with
 |some o=>o.after.any fun e=>Region.binds .any e&&e.on==j
 |none=>false
section
variable{ops:Array Oper}
theorem zpg{md:Region.Mode}{listed:Array Bool}{i:Nat}(h:i∈Region.ready md ops listed):i<ops.size/\listed.getD i true=false/\∀o,ops[i]? = some o->∀e∈o.after,Region.binds md e=true->listed.getD e.on false=true:=by
 unfold Region.ready at h;rw[List.mem_filter,List.mem_range]at h
 obtain⟨h1,h2⟩:=h;simp only[Bool.and_eq_true,Bool.not_eq_true']at h2;refine⟨h1,h2.1,fun o ho e he hb=> ?_⟩;have h3:=h2.2;rw[ho]at h3
 simp only[Option.map_some,Option.getD_some,Array.all_eq_true_iff_forall_mem]at h3;have h4:=h3 e he;rw[hb]at h4
 simpa using h4
theorem zwx(hlex:∀(i:Nat) (o:Oper),ops[i]? = some o->∀e∈o.after,Region.binds .any e=true->e.on<i)(listed:Array Bool)(hz:listed.size=ops.size)(he:Region.ready .any ops listed=[]):∀i,i<ops.size->listed[i]? = some true:=by
 intro i;induction i using Nat.strongRecOn with
 |ind i ih=>
  intro hi;have hl:i<listed.size:=by rw[hz];exact hi
  rw[Array.getElem?_eq_getElem hl];cases hc:listed[i] with
  |true=>rfl
  |false=>
   exfalso;have hm:i∈Region.ready .any ops listed:=by
    unfold Region.ready;rw[List.mem_filter,List.mem_range];refine⟨hi,?_⟩;rw[Array.getD_eq_getD_getElem?,Array.getElem?_eq_getElem hl,hc,Array.getElem?_eq_getElem hi];simp only[Option.getD_some,Bool.not_false,Bool.true_and,Option.map_some,Array.all_eq_true_iff_forall_mem];intro e hee;by_cases hb:Region.binds .any e=true
    .have h1:=hlex i _ (Array.getElem?_eq_getElem hi) e hee hb;have h2:=ih e.on h1 (by omega);rw[Array.getD_eq_getD_getElem?,h2];simp
    simp only[Bool.not_eq_true]at hb;simp[hb]
   rw[he]at hm
   simp at hm
end
def updB(L:Nat->Bool)(i:Nat):Nat->Bool:=fun j=>if j=i then true else L j
theorem zfp(L:Nat->Bool)(i:Nat):updB L i i=true:=if_pos rfl
theorem zbk(L:Nat->Bool){i j:Nat}(h:j≠i):updB L i j=L j:=if_neg h
def puts(a:Act):List (Nat×Value)->Act
 | []=>a
 |p::r=>puts (a.put (some p.1) p.2) r
theorem zng(a:Act):∀l:List (Nat×Value),(puts a l).tmps.size=a.tmps.size
 | []=>rfl
 |p::r=>by
  rw[puts,zng _ r];simp[Act.put]
theorem zgg(a:Act):∀l:List (Nat×Value),(puts a l).defers=a.defers
 | []=>rfl
 |p::r=>by
  rw[puts,zgg _ r];rfl
theorem zkz{a:Act}{d j:Nat}{v:Value}(h:d≠j):env (a.put (some d) v) j=env a j:=Act.eval_put_ne a d j v h
theorem zii{a:Act}{d:Nat}{v:Value}(h:d<a.tmps.size):env (a.put (some d) v) d=v:=Act.eval_put_same a d v h
theorem zha(a:Act):∀(l:List (Nat×Value))(t:Nat),(∀p∈l,p.1≠t)->env (puts a l) t=env a t
 | [],_,_=>rfl
 |p::r,t,h=>by
  rw[puts,zha _ r t (fun q hq=>h q (List.mem_cons_of_mem _ hq))];exact zkz (h p List.mem_cons_self)
theorem zmi(a:Act):∀(l:List (Nat×Value))(d:Nat)(v:Value),(l.map (·.1)).Nodup->(d,v)∈l->d<a.tmps.size->env (puts a l) d=v
 | [],_,_,_,h,_=>by cases h
 |p::r,d,v,hn,h,hd=>by
  simp only[List.map_cons,List.nodup_cons]at hn;rcases List.mem_cons.1 h with e|e
  .subst e;rw[puts,zha _ r d (fun q hq e=>hn.1 (List.mem_map.2 ⟨q,hq,e⟩))];exact zii hd
  rw[puts];exact zmi _ r d v hn.2 e (by simpa[Act.put]using hd)
theorem zadv{a b:Act}(h1:a.tmps.size=b.tmps.size)(h2:a.defers=b.defers)(h:∀t,t<a.tmps.size->env a t=env b t):a=b:=by
 obtain⟨at_,ad⟩:=a;obtain⟨bt,bd⟩:=b;simp only at h1 h2;subst h2;have:at_=bt:=by
  refine Array.ext h1 fun i hi hj=> ?_;have:=h i hi;simp only[env,Act.eval]at this;simpa[Array.getD,hi,hj]using this
 rw[this]
structure Hst(ops:Array Oper)(a0:Act){X:Type}(val:X->Nat->Value)(W:X->(Nat->Bool)->World->Prop)(listed:Array Bool)(x:X)(a:Act)(w:World):Prop where
 sz:listed.size=ops.size
 tsz:a.tmps.size=a0.tmps.size
 dfr:a.defers=a0.defers
 same:∀t,(∀j,zbs ops j≠some t)->env a t=env a0 t
 done:∀i d,listed[i]? = some true->zbs ops i=some d->env a d=val x i
 cl:∀i,listed[i]? = some true->∀j,dep ops i j=true->listed[j]? = some true
 wd:W x (fun i=>listed.getD i false) w
section
variable{P:Program}{ops:Array Oper}{Q:Exit->Act->World->Prop}{a0:Act}{w0:World}{X:Type}{val:X->Nat->Value}{W:X->(Nat->Bool)->World->Prop}
def Mst(P:Program)(ops:Array Oper)(Q:Exit->Act->World->Prop)(a0:Act){X:Type}(val:X->Nat->Value)(W:X->(Nat->Bool)->World->Prop):Prop:=
 ∀(i:Nat)(o:Oper),ops[i]? = some o->∀(x:X)(L:Nat->Bool)(a:Act)(w:World),L i=false->(∀j,dep ops i j=true->L j=true)->(∀j k,L j=true->dep ops j k=true->L k=true)->(∀j d,dep ops i j=true->zbs ops j=some d->env a d=val x j)->(∀t,(∀j,zbs ops j≠some t)->env a t=env a0 t)->a.tmps.size=a0.tmps.size->W x L w ->
  o.wp P a w (fun a' w'=>∃x',a'=a.put o.dst (val x' i)/\(∀j,L j=true->val x' j=val x j)/\W x' (updB L i) w') Q
theorem zuo{listed:Array Bool}{i:Nat}(h:i<listed.size):(fun j=>(listed.setIfInBounds i true).getD j false)=updB (fun j=>listed.getD j false) i:=by
 funext j
 unfold updB;by_cases e:j=i
 .subst e;rw[if_pos rfl,Array.getD_eq_getD_getElem?,Array.getElem?_setIfInBounds_self_of_lt h];rfl
 rw[if_neg e,Array.getD_eq_getD_getElem?,Array.getElem?_setIfInBounds_ne (fun q=>e q.symm)];show _=listed.getD j false;rw[Array.getD_eq_getD_getElem?]
theorem getD_some{listed:Array Bool}{j:Nat}:listed.getD j false=true↔listed[j]? = some true:=by
 rw[Array.getD_eq_getD_getElem?];cases listed[j]? with
 |none=>simp
 |some b=>simp
theorem Hst.go(hN:∀i j d,zbs ops i=some d->zbs ops j=some d->i=j)(hg:∀(i:Nat) (o:Oper),ops[i]? = some o->o.guard=none/\∀d,o.dst=some d->d<a0.tmps.size)(hs:Mst P ops Q a0 val W)(hlex:∀(i:Nat) (o:Oper),ops[i]? = some o->∀e∈o.after,Region.binds .any e=true->e.on<i)(hend:∀x L a w,(∀i,i<ops.size->L i=true)->a.tmps.size=a0.tmps.size->a.defers=a0.defers->(∀t,(∀j,zbs ops j≠some t)->env a t=env a0 t)->(∀i d,zbs ops i=some d->env a d=val x i)->W x L w->Q .normal a w) :
  ∀(fuel:Nat)(listed:Array Bool)(x:X)(a:Act)(w:World),Hst ops a0 val W listed x a w->listed.toList.count false<=fuel->wpAny P .any ops Q fuel listed a w:=by
 have hfin:∀(listed:Array Bool)(x:X)(a:Act)(w:World),Hst ops a0 val W listed x a w->(∀i,i<ops.size->listed[i]? = some true)->Q .normal a w:=fun listed x a w h hall=>
  hend x _ a w (fun i hi=>getD_some.2 (hall i hi)) h.tsz h.dfr h.same (fun i d hd=>h.done i d (hall i (by
   unfold zbs at hd;cases ho:ops[i]? with
   |none=>rw[ho]at hd;cases hd
   |some o=>exact (Array.getElem?_eq_some_iff.1 ho).1)) hd) h.wd
 intro fuel;induction fuel with
 |zero=>
  intro listed x a w h hf;have hall:∀i,i<ops.size->listed[i]? = some true:=by
   intro i hi;have hl:i<listed.size:=by rw[h.sz];exact hi
   have h0:listed.toList.count false=0:=by omega
   have:=List.count_eq_zero.1 h0;have hm:listed[i]∈listed.toList:=by simp
   rw[Array.getElem?_eq_getElem hl];cases hc:listed[i] with
   |true=>rfl
   |false=>rw[hc]at hm;exact absurd hm this
  have he:Region.ready .any ops listed=[]:=by
   refine List.eq_nil_iff_forall_not_mem.2 fun i hi=> ?_;obtain⟨h1,h2,_⟩:=zpg hi;have:=hall i h1;rw[Array.getD_eq_getD_getElem?,this]at h2
   simp at h2
  exact⟨he,hfin listed x a w h hall⟩
 |succ fuel ih=>
  intro listed x a w h hf;refine⟨fun he=>hfin listed x a w h (zwx hlex listed h.sz he),fun i hi=> ?_⟩;obtain⟨h1,h2,h3⟩:=zpg hi;have ho:ops[i]? = some ops[i]:=Array.getElem?_eq_getElem h1;obtain⟨o,hoo⟩:∃o,o=ops[i]:=⟨_,rfl⟩;rw[<-hoo]at ho
  obtain⟨hg1,hdl⟩:=hg i o ho;have hdi:zbs ops i=o.dst:=by simp[zbs,ho]
  have hil:i<listed.size:=by rw[h.sz];exact h1
  have hli:listed[i]=false:=by rw[Array.getD_eq_getD_getElem?,Array.getElem?_eq_getElem hil]at h2;simpa using h2
  have hlf:listed.getD i false=false:=by rw[Array.getD_eq_getD_getElem?,Array.getElem?_eq_getElem hil,hli];rfl
  have hdl2:∀j:Nat,dep ops i j=true->listed[j]? = some true:=by
   intro j hj;simp only[dep,ho]at hj;rw[Array.any_eq_true]at hj
   obtain⟨n,hn,he⟩:=hj;simp only[Bool.and_eq_true,beq_iff_eq]at he;have h4:=h3 o ho o.after[n] (by simp) he.1;rw[he.2,Array.getD_eq_getD_getElem?]at h4
   cases hl:listed[j]? with
   |none=>rw[hl]at h4;simp at h4
   |some b=>rw[hl]at h4;simp at h4;rw[h4]
  unfold wpOp;rw[ho];simp only;rw[if_pos (by simp[Region.wanted,hg1])];refine Or.inl (Oper.wp_mono (K:=fun a' w'=>∃x',a'=a.put o.dst (val x' i)/\(∀j,listed.getD j false=true->val x' j=val x j)/\W x' (updB (fun j=>listed.getD j false) i) w') ?_ (hs i o ho x _ a w hlf (fun j hj=>getD_some.2 (hdl2 j hj)) (fun j k hj hk=>getD_some.2 (h.cl j (getD_some.1 hj) k hk)) (fun j d hj hd=>h.done j d (hdl2 j hj) hd) h.same h.tsz h.wd));rintro a' w'⟨x',rfl,hv,hW⟩;have hlist:∀j:Nat,(listed.setIfInBounds i true)[j]? = some true->j=i\/(j≠i/\listed[j]? = some true):=by
   intro j hj;by_cases hji:j=i
   .exact Or.inl hji
   exact Or.inr ⟨hji,by rw[Array.getElem?_setIfInBounds_ne (fun e=>hji e.symm)]at hj;exact hj⟩
  have hlisted:∀j:Nat,listed[j]? = some true->(listed.setIfInBounds i true)[j]? = some true:=by
   intro j hj;by_cases hji:i=j
   .subst hji;simp[hil]
   rw[Array.getElem?_setIfInBounds_ne hji];exact hj
  have hput:∀t,o.dst≠some t->env (a.put o.dst (val x' i)) t=env a t:=fun t ht=>by
   cases hd:o.dst with
   |none=>rfl
   |some d=>exact zkz (fun e=>ht (by rw[hd,e]))
  refine ih _ x' _ w' ⟨by simpa using h.sz,?_,?_,fun t ht=> ?_,fun j d hj hd=> ?_,fun j hj k hk=> ?_,?_⟩ ?_
  .rw[<-h.tsz];cases o.dst<;>simp[Act.put]
  .rw[<-h.dfr];cases o.dst<;>rfl
  .rw[hput t (by rw[<-hdi];exact ht i)];exact h.same t ht
  .rcases hlist j hj with rfl|⟨hji,hj'⟩
   .rw[hdi]at hd
    rw[hd];exact zii (by rw[h.tsz];exact hdl d hd)
   rw[hput d (fun e=>hji (hN j i d hd (by rw[hdi];exact e))),h.done j d hj' hd,hv j (getD_some.2 hj')]
  .rcases hlist j hj with rfl|⟨hji,hj'⟩
   .exact hlisted k (hdl2 k hk)
   exact hlisted k (h.cl j hj' k hk)
  .rw[zuo hil];exact hW
  have e:(listed.setIfInBounds i true).toList=listed.toList.set i true:=by simp
  rw[e,List.count_set (by simpa using hil)];have hmem:listed.toList[i]'(by simpa using hil)=false:=by simpa using hli
  rw[hmem,if_pos (by rfl),if_neg (by decide)];omega
theorem zoj{id:Nat}(D:X->List (Nat×Value))(x0:X)(hm:P.follows .mixedOrders=true)(hN:∀i j d,zbs ops i=some d->zbs ops j=some d->i=j)(hg:∀(i:Nat) (o:Oper),ops[i]? = some o->o.guard=none/\∀d,o.dst=some d->d<a0.tmps.size)(hs:Mst P ops Q a0 val W)(hlex:∀(i:Nat) (o:Oper),ops[i]? = some o->∀e∈o.after,Region.binds .any e=true->e.on<i)(hD:∀x,((D x).map (·.1)).Nodup/\(∀p∈D x,∃i,zbs ops i=some p.1/\p.2=val x i)/\∀i d,zbs ops i=some d->(d,val x i)∈D x)(h0:W x0 (fun _=>false) w0.drew)(hend:∀x L w,(∀i,i<ops.size->L i=true)->W x L w->Q .normal (puts a0 (D x)) w) :
  (Code.region id ops true).wp P Q a0 w0:=by
 refine wp_region_any hm (Hst.go hN hg hs hlex (fun x L a w hL hz hd hsame hv hW=> ?_) _ _ x0 _ _ ⟨by simp,rfl,rfl,fun _ _=>rfl,fun i d hi=> ?_,fun i hi=> ?_,?_⟩ ?_)
 .have e:a=puts a0 (D x):=by
   refine zadv (by rw[zng];exact hz) (by rw[zgg];exact hd) fun t ht=> ?_;by_cases h:∃i,zbs ops i=some t
   .obtain⟨i,hi⟩:=h;rw[hv i t hi,zmi a0 (D x) t (val x i) (hD x).1 ((hD x).2.2 i t hi) (by rw[<-hz];exact ht)]
   have h':∀j,zbs ops j≠some t:=fun j hj=>h ⟨j,hj⟩;rw[hsame t h',zha a0 (D x) t (fun p hp e=>by
    obtain⟨i,hi,_⟩:=(hD x).2.1 p hp;rw[e]at hi
    exact h' i hi)]
  rw[e];exact hend x L w hL hW
 .exact absurd hi (by rw[Array.getElem?_replicate];split<;>simp)
 .exact absurd hi (by rw[Array.getElem?_replicate];split<;>simp)
 .have:(fun i=>(Array.replicate ops.size false).getD i false)=fun _=>false:=by
   funext i
   rw[Array.getD_eq_getD_getElem?,Array.getElem?_replicate];split<;>rfl
  rw[this];exact h0
 simp
end
def lexB(ops:Array Oper):Bool:=(List.range ops.size).all fun i=>match ops[i]? with|some o=>o.after.all fun e=> !Region.binds .any e||decide (e.on<i)|none=>true
def zan(dl:List (Option Nat))(i:Nat):Option Nat:=(dl[i]?).getD none
def zjh(ops:Array Oper)(dl:List (Option Nat))(n:Nat):Bool:=(List.range ops.size).all (fun i=>match ops[i]? with|some o=>o.guard==none&&o.dst==zan dl i&&(zan dl i).all (decide <| · < n)|none=>true)&&decide (dl.length=ops.size)&&(List.range dl.length).all fun i=>(List.range dl.length).all fun j=>decide (i=j)||zan dl i==none||decide (zan dl i≠zan dl j)
def zbt(dl:List (Option Nat))(vs:List Value):List (Nat×Value):=(dl.zip vs).filterMap fun p=>p.1.map fun d=>(d,p.2)
section
variable{ops:Array Oper}{dl:List (Option Nat)}{n:Nat}
theorem zwy(h:lexB ops=true):∀(i:Nat)(o:Oper),ops[i]? = some o->∀e∈o.after,Region.binds .any e=true->e.on<i:=by
 intro i o ho e he hb;unfold lexB at h;rw[List.all_eq_true]at h
 have h1:=h i (List.mem_range.2 (Array.getElem?_eq_some_iff.1 ho).1);rw[ho]at h1
 simp only[Array.all_eq_true_iff_forall_mem]at h1;have h2:=h1 e he;simpa[hb]using h2
theorem zji(h:zjh ops dl n=true):(∀i,zbs ops i=zan dl i)/\(∀(i:Nat)(o:Oper),ops[i]? = some o->o.guard=none/\∀d,o.dst=some d->d<n)/\dl.length=ops.size/\∀i j d,zan dl i=some d->zan dl j=some d->i=j:=by
 unfold zjh at h;simp only[Bool.and_eq_true,decide_eq_true_eq,List.all_eq_true]at h;obtain⟨⟨h1,h2⟩,h3⟩:=h;have key:∀(i:Nat)(o:Oper),ops[i]? = some o->o.guard=none/\o.dst=zan dl i/\(zan dl i).all (decide <| · < n)=true:=fun i o ho=>by
  have h4:=h1 i (List.mem_range.2 (Array.getElem?_eq_some_iff.1 ho).1);rw[ho]at h4
  simp only[Bool.and_eq_true,beq_iff_eq]at h4;exact⟨h4.1.1,h4.1.2,h4.2⟩
 have hlt:∀i d,zan dl i=some d->i<dl.length:=fun i d hd=>by
  unfold zan at hd;cases hx:dl[i]? with
  |none=>rw[hx]at hd;cases hd
  |some y=>exact (List.getElem?_eq_some_iff.1 hx).1
 refine⟨fun i=> ?_,fun i o ho=> ?_,h2,fun i j d hi hj=> ?_⟩
 .unfold zbs;cases ho:ops[i]? with
  |some o=>exact (key i o ho).2.1
  |none=>
   cases hx:zan dl i with
   |none=>rfl
   |some d=>have:=hlt i d hx;have:=Array.getElem?_eq_none_iff.1 ho;omega
 .obtain⟨a,b,c⟩:=key i o ho;refine⟨a,fun d hd=> ?_⟩;rw[<-b,hd]at c
  simpa using c
 have h5:=h3 i (List.mem_range.2 (hlt i d hi)) j (List.mem_range.2 (hlt j d hj));simp only[Bool.or_eq_true,decide_eq_true_eq,beq_iff_eq]at h5;rcases h5 with (h5|h5)|h5
 .exact h5
 .rw[hi]at h5;cases h5
 exact absurd (hi.trans hj.symm) h5
theorem zfq:∀(dl:List (Option Nat))(vs:List Value)(p:Nat×Value),dl.length=vs.length->(p∈zbt dl vs↔ ∃i,zan dl i=some p.1/\vs.getD i undef=p.2)
 | [],[],p,_=>by simp[zbt,zan]
 |x::r,v::q,p,h=>by
  have ih:=zfq r q p (by simpa using h);have e:p∈zbt (x::r) (v::q)↔(x=some p.1/\v=p.2)\/p∈zbt r q:=by
   obtain⟨a,b⟩:=p;cases x<;>simp[zbt,eq_comm]
  rw[e,ih];refine⟨?_,?_⟩
  .rintro (⟨h1,h2⟩|⟨i,h1,h2⟩)
   .exact⟨0,by simpa[zan]using h1,by simpa using h2⟩
   exact⟨i+1,by simpa[zan]using h1,by simpa using h2⟩
  rintro⟨i|i,h1,h2⟩
  .exact Or.inl ⟨by simpa[zan]using h1,by simpa using h2⟩
  exact Or.inr ⟨i,by simpa[zan]using h1,by simpa using h2⟩
theorem zgh:∀(dl:List (Option Nat))(vs:List Value),dl.length=vs.length->(∀i j d,zan dl i=some d->zan dl j=some d->i=j)->((zbt dl vs).map (·.1)).Nodup
 | [],[],_,_=>by simp[zbt]
 |x::r,v::q,h,hd=>by
  have ih:=zgh r q (by simpa using h) (fun i j d h1 h2=>by simpa using hd (i+1) (j+1) d (by simpa[zan]using h1) (by simpa[zan]using h2));cases x with
  |none=>exact ih
  |some d=>
   have e:zbt (some d::r) (v::q)=(d,v)::zbt r q:=rfl;rw[e,List.map_cons,List.nodup_cons];refine⟨fun hm=> ?_,ih⟩;obtain⟨p,hp,e1⟩:=List.mem_map.1 hm;obtain⟨i,hi,_⟩:=(zfq r q p (by simpa using h)).1 hp;rw[e1]at hi
   have:=hd 0 (i+1) d (by simp[zan]) (by simpa[zan]using hi);omega
variable{P:Program}{Q:Exit->Act->World->Prop}{a0:Act}{w0:World}{id:Nat}
theorem zif{X:Type}(vals:X->List Value)(W:X->(Nat->Bool)->World->Prop)(dl:List (Option Nat))(n:Nat)(x0:X)(hm:P.follows .mixedOrders=true)(hl:lexB ops=true)(hs:zjh ops dl n=true)(hz:a0.tmps.size=n)(hv:∀x,dl.length=(vals x).length)(hop:∀(i:Nat) (o:Oper),ops[i]? = some o->∀(x:X) (L:Nat->Bool) (a:Act) (w:World),L i=false->(∀j,dep ops i j=true->L j=true)->(∀j k,L j=true->dep ops j k=true->L k=true)->(∀j d,dep ops i j=true->zan dl j=some d->a.eval (.tmp d)=(vals x).getD j undef)->(∀t,some t∉dl->a.eval (.tmp t)=a0.eval (.tmp t))->W x L w->o.wp P a w (fun a' w'=>∃x',a'=a.put o.dst ((vals x').getD i undef)/\(∀j,L j=true->(vals x').getD j undef=(vals x).getD j undef)/\W x' (updB L i) w') Q)(h0:W x0 (fun _=>false) w0.drew)(hend:∀x L w,(∀i,i<ops.size->L i=true)->W x L w->Q .normal (puts a0 (zbt dl (vals x))) w):(Code.region id ops true).wp P Q a0 w0:=by
 obtain⟨h1,h2,h3,h4⟩:=zji hs;refine zoj (val:=fun x i=>(vals x).getD i undef) (W:=W) (fun x=>zbt dl (vals x)) x0 hm (fun i j d hi hj=>by rw[h1]at hi hj;exact h4 i j d hi hj) (fun i o ho=>by rw[hz];exact h2 i o ho) (fun i o ho x L a w hL hd hc hvv hs' hza hW=>hop i o ho x L a w hL hd hc (fun j d hj hd=>hvv j d hj (by rw[h1];exact hd)) (fun t ht=>hs' t fun j hj=>by
  rw[h1]at hj
  unfold zan at hj;cases hx:dl[j]? with
  |none=>rw[hx]at hj;cases hj
  |some y=>rw[hx]at hj;exact ht (List.mem_of_getElem? (by rw[hx];exact congrArg some hj))) hW) (zwy hl) (fun x=>⟨zgh dl _ (hv x) h4,fun p hp=> ?_,fun i d hd=> ?_⟩) h0 hend
 .obtain⟨i,a,b⟩:=(zfq dl _ p (hv x)).1 hp;exact⟨i,by rw[h1];exact a,b.symm⟩
 exact (zfq dl _ (d,_) (hv x)).2 ⟨i,by rw[<-h1];exact hd,rfl⟩
theorem zfr(dl:List (Option Nat))(n:Nat)(Φ:Nat->(Nat->Value)->List Nat->World->Prop)(hm:P.follows .mixedOrders=true)(hl:lexB ops=true)(hs:zjh ops dl n=true)(hz:a0.tmps.size=n)(hk:∀i r r' B w w',Fr [] w w'->r' i=r i->(∀j,dep ops i j=true->r' j=r j)->Φ i r B w->Φ i r' B w')(hop:∀(i:Nat) (o:Oper),ops[i]? = some o->∀(r:Nat->Value) (a:Act) (w:World),Fr [] w0 w->(∀t,some t∉dl->a.eval (.tmp t)=a0.eval (.tmp t))->(∀j d,dep ops i j=true->zan dl j=some d->a.eval (.tmp d)=r j)->(∀j,dep ops i j=true->∃B,Φ j r B w)->o.wp P a w (fun a' w'=>∃v B,a'=a.put o.dst v/\Fr [] w w'/\(∀r',r' i=v->(∀j,dep ops i j=true->r' j=r j)->Φ i r' B w')/\∀x∈B,w.heap.size<=x/\x<w'.heap.size) Q)(hend:∀(r:Nat->Value) (B:Nat->List Nat) w,Fr [] w0 w->(∀i,i<ops.size->Φ i r (B i) w)->(∀i,i<ops.size->∀x∈B i,w0.heap.size<=x/\x<w.heap.size)->(∀i j,i≠j->i<ops.size->j<ops.size->∀x∈B i,x∉B j)->Q .normal (puts a0 (zbt dl ((List.range ops.size).map r))) w):(Code.region id ops true).wp P Q a0 w0:=by
 have hlx:=zwy hl;have h3:=(zji hs).2.2.1;have hdl:∀i j,dep ops i j=true->j<i/\i<ops.size:=fun i j h=>by
  unfold dep at h;cases ho:ops[i]? with
  |none=>rw[ho]at h;cases h
  |some o=>
   rw[ho,Array.any_eq_true]at h
   obtain⟨k,hk',he⟩:=h;simp only[Bool.and_eq_true,beq_iff_eq]at he;exact⟨by rw[<-he.2];exact hlx i o ho _ (by simp) he.1,(Array.getElem?_eq_some_iff.1 ho).1⟩
 have hget:∀(r:Nat->Value) i,i<ops.size->((List.range ops.size).map r).getD i undef=r i:=fun r i hi=>by simp[List.getD,hi]
 refine zif (X:=(Nat->Value)×(Nat->List Nat)) (fun x=>(List.range ops.size).map x.1) (fun x L w=>Fr [] w0 w/\(∀i,i<ops.size->L i=true->Φ i x.1 (x.2 i) w/\∀b∈x.2 i,w0.heap.size<=b/\b<w.heap.size)/\(∀i j,i≠j->i<ops.size->j<ops.size->L i=true->L j=true->∀b∈x.2 i,b∉x.2 j)/\∀j k,L j=true->dep ops j k=true->L k=true) dl n (fun _=>undef,fun _=>[]) hm hl hs hz (fun x=>by simp[h3]) (fun i o ho x L a w hL hd hc hv hsame hW=> ?_) ⟨Fr.drew [] w0,fun i _ h=>(by cases h),fun i j _ _ _ h=>(by cases h),fun j k h=>(by cases h)⟩ (fun x L w hL hW=>hend x.1 x.2 w hW.1 (fun i hi=>(hW.2.1 i hi (hL i hi)).1) (fun i hi=>(hW.2.1 i hi (hL i hi)).2) (fun i j hij hi hj=>hW.2.2.1 i j hij hi hj (hL i hi) (hL j hj)));have hi:=(Array.getElem?_eq_some_iff.1 ho).1;obtain⟨w1,w2,w3,w4⟩:=hW;refine Oper.wp_mono ?_ (hop i o ho x.1 a w w1 hsame (fun j d hj hd'=>(hv j d hj hd').trans (hget _ j (by have:=hdl i j hj;omega))) (fun j hj=>⟨_,(w2 j (by have:=hdl i j hj;omega) (hd j hj)).1⟩));rintro a' w'⟨v,B,rfl,hf,hΦ,hB⟩;refine⟨(fun j=>if j=i then v else x.1 j,fun j=>if j=i then B else x.2 j),by rw[hget _ i hi];simp,fun j hj=> ?_,w1.then hf,fun j hj hLj=> ?_,fun j k hjk hj hk hLj hLk b hb=> ?_,fun j k hj hk=> ?_⟩
 .have e:j≠i:=fun e=>by rw[e,hL]at hj;cases hj
  by_cases hj':j<ops.size
  .rw[hget _ j hj',hget _ j hj'];exact if_neg e
  simp[List.getD,hj']
 .by_cases e:j=i
  .subst e;refine⟨by simp only[if_pos];exact hΦ _ (by simp) (fun k hk=>if_neg (by have:=hdl _ k hk;omega)),fun b hb=> ?_⟩;simp only[if_pos]at hb;exact⟨Nat.le_trans w1.size (hB b hb).1,(hB b hb).2⟩
  rw[zbk L e]at hLj
  obtain⟨p1,p2⟩:=w2 j hj hLj;refine⟨?_,fun b hb=> ?_⟩
  .simp only[if_neg e];refine hk j x.1 _ _ w w' hf (if_neg e) (fun k hk'=>if_neg fun e'=> ?_) p1;have:=w4 j k hLj hk';rw[e',hL]at this
   cases this
  simp only[if_neg e]at hb;exact⟨(p2 b hb).1,Nat.lt_of_lt_of_le (p2 b hb).2 hf.size⟩
 .by_cases ej:j=i
  .subst ej;have ek:k≠j:=fun e=>hjk e.symm;rw[zbk L ek]at hLk
   simp only[if_pos]at hb;simp only[if_neg ek];intro h;have:=(hB b hb).1;have:=((w2 k hk hLk).2 b h).2;omega
  rw[zbk L ej]at hLj
  simp only[if_neg ej]at hb;by_cases ek:k=i
  .subst ek;simp only[if_pos];intro h;have:=(hB b h).1;have:=((w2 j hj hLj).2 b hb).2;omega
  rw[zbk L ek]at hLk
  simp only[if_neg ek];exact w3 j k hjk hj hk hLj hLk b hb
 by_cases ek:k=i
 .subst ek;exact zfp L _
 rw[zbk L ek];by_cases ej:j=i
 .subst ej;exact hd k hk
 rw[zbk L ej]at hj;exact w4 j k hj hk
theorem zag{o:Oper}{a:Act}{w w':World}{v:Value}{K:Act->World->Prop}{Q:Exit->Act->World->Prop}(hr:(execOp a.eval o).run P w=.ok (.value v) w')(h:K (a.put o.dst v) w'):o.wp P a w K Q:=by
 unfold Oper.wp;rw[hr];exact h
end
structure Wt where
 key:ByteArray
 val:ByteArray
 drop:Bool
def noS:ByteArray:=⟨#[]⟩
theorem zgn(s:ByteArray):s.size=0↔s=noS:=by
 constructor
 .intro h;cases s with
  |mk d=>
   have hd:d.size=0:=h;have:d= #[]:=Array.eq_empty_of_size_eq_zero hd;rw[this];rfl
 rintro rfl;rfl
def okW(x:Wt):Prop:=1<=x.key.size/\x.key.size<=64/\x.val.size<=1024/\(x.drop=true->x.val=noS)
def okT(n:Int)(ws:List Wt):Prop:=1<=n/\n<=65536/\ws.length<=32/\∀x∈ws,okW x
structure Tx where
 n:Int
 ws:List Wt
def Tx.zero:Tx:=⟨0,[]⟩
def Tx.ok(t:Tx):Prop:=okT t.n t.ws
def okL:Nat->List Tx->Prop
 |_,[]=>True
 |k,t::r=>t.ok/\t.n=(k:Int)/\okL (k+1) r
def Bad:Nat->List Tx->Nat->Prop
 |_,[],c=>c=0
 |k,t::r,c=>(¬t.ok/\c=1)\/(t.ok/\t.n≠(k:Int)/\c=6)\/(t.ok/\t.n=(k:Int)/\Bad (k+1) r c)
theorem Bad.ex:∀(l:List Tx)(k:Nat),∃c,Bad k l c:=by
 intro l;induction l with
 |nil=>intro k;exact⟨0,rfl⟩
 |cons t r ih=>
  intro k;by_cases h:t.ok
  .by_cases h1:t.n=(k:Int)
   .obtain⟨c,hc⟩:=ih (k+1);exact⟨c,Or.inr (Or.inr ⟨h,h1,hc⟩)⟩
   exact⟨6,Or.inr (Or.inl ⟨h,h1,rfl⟩)⟩
  exact⟨1,Or.inl ⟨h,rfl⟩⟩
theorem Bad.ok:∀{l:List Tx}{k c:Nat},Bad k l c->(c=0↔okL k l):=by
 intro l;induction l with
 |nil=>intro k c h;simp only[Bad]at h;simp[okL,h]
 |cons t r ih=>
  intro k c h;rcases h with⟨h,rfl⟩|⟨h,h1,rfl⟩|⟨h,h1,h2⟩
  .exact⟨fun x=>by omega,fun x=>absurd x.1 h⟩
  .exact⟨fun x=>by omega,fun x=>absurd x.2.1 h1⟩
  rw[ih h2];exact⟨fun x=>⟨h,h1,x⟩,fun x=>x.2.2⟩
theorem zgp{l:List Tx}{k:Nat}(h:okL k l):Bad k l 0:=by
 obtain⟨c,hc⟩:=Bad.ex l k;have:=(Bad.ok hc).2 h;rw[this]at hc
 exact hc
theorem zuy:∀{a b:List Tx}{k:Nat},okL k (a++b)↔okL k a/\okL (k+a.length) b:=by
 intro a;induction a with
 |nil=>intro b k;simp[okL]
 |cons t r ih=>
  intro b k;simp only[List.cons_append,okL,ih,List.length_cons];rw[show k+1+r.length=k+(r.length+1) by omega];constructor
  .rintro⟨h1,h2,h3,h4⟩;exact⟨⟨h1,h2,h3⟩,h4⟩
  rintro⟨⟨h1,h2,h3⟩,h4⟩;exact⟨h1,h2,h3,h4⟩
theorem zea:∀{l:List Tx}{k:Nat},okL k l->∀i,i<l.length->(l.getD i Tx.zero).ok/\(l.getD i Tx.zero).n=((k+i:Nat):Int):=by
 intro l;induction l with
 |nil=>intro k h i hi;simp at hi
 |cons t r ih=>
  intro k h i hi;cases i with
  |zero=>exact⟨h.1,by simpa using h.2.1⟩
  |succ i=>
   have:=ih h.2.2 i (by simpa using hi);rw[show k+1+i=k+(i+1) by omega]at this
   simpa[List.getD]using this
theorem zaap{l:List Tx}{k:Nat}(h:okL k l)(i:Nat):okL k (l.take i):=by
 have:=h;rw[<-List.take_append_drop i l,zuy]at this
 exact this.1
theorem zdb{l:List Tx}(h:okL 1 l):l.length<=65536:=by
 by_cases h0:l.length=0
 .omega
 obtain⟨h1,h2⟩:=zea h (l.length-1) (by omega);have:=h1.2.1;omega
theorem zaej{l:List Tx}{k:Nat}(h:okL k l):∀t∈l,t.ok:=by
 intro t ht;obtain⟨i,hi,rfl⟩:=List.getElem_of_mem ht;have:=(zea h i hi).1;simpa[List.getD,hi]using this
def zem(h x:Nat):Nat:=((h ^^^ x)*16777619)%4294967296
def zdo(xs:List Nat):Nat:=xs.foldl zem 2166136261
theorem zvc{α β:Type}(f:α->β->α)(a:α)(xs:List β)(x:β):(xs++[x]).foldl f a=f (xs.foldl f a) x:=by simp
theorem zsp{β:Type}(f:Nat->β->Nat)(B a:Nat)(xs:List β)(h:a<B)(hf:∀a x,f a x<B):xs.foldl f a<B:=by
 induction xs generalizing a with
 |nil=>exact h
 |cons x l ih=>exact ih _ (hf a x)
theorem zsq(xs:List Nat)(x:Nat):zdo (xs++[x])=zem (zdo xs) x:=zvc zem _ xs x
theorem zpy(a x:Nat):zem a x<4294967296:=Nat.mod_lt _ (by decide)
theorem zxm(xs:List Nat):zdo xs<4294967296:=zsp zem _ _ xs (by decide) zpy
theorem zxn(xs:List Nat)(i x:Nat)(h:i<xs.length)(hx:x=xs.getD i 0):xs.take (i+1)=xs.take i++[x]:=by
 have hget:xs[i]? = some x:=by rw[hx,List.getD,List.getElem?_eq_getElem h];rfl
 rw[List.take_add_one,hget];rfl
theorem zvd(s:ByteArray)(i:Nat)(h:i<s.size):(zdk s).getD i 0=s[i].toNat:=by
 have hl:i<(zdk s).length:=by rw[zih];exact h
 rw[show (zdk s).getD i 0=(zdk s)[i] from by simp[List.getD,hl]];simp only[zdk,List.getElem_map,Array.getElem_toList];rfl
theorem zaas(c x:Nat)(hc:c<4294967296)(hx:x<256):bits .xor .u32 (c:Int) ((x:Int)%4294967296)*16777619%4294967296=((zem c x:Nat):Int):=by
 have e:(x:Int)%4294967296=(x:Int):=by omega
 rw[e,u32_xor_nat c x hc (by omega),zem];simp
theorem zaat(m:Nat)(s:ByteArray)(w:World)(hs:s.size<=9223372036854775807)(hm:zdo (zdk s)=m) :
  Calls prog 217 #[.string s] w fun e w'=>e=.returned (.int .u32 (m:Int))/\w=w':=by
 have HM:Hid (zdo (zdk s)=m):=hm;clear hm;obtain⟨xs,HX⟩:∃xs,Hid (xs=zdk s):=⟨_,rfl⟩;have HL:Hid (s.size=xs.length):=by show _=_;rw[HX.out,zih]
 go_enter func217,ntmps217;go_wp2_with fail
 go_loop [3,7] (fun cc ii=>∃(c i:Nat),cc=.int .u32 (c:Int)/\ii=.int .i64 i/\i<=s.size/\c<4294967296/\Hid (c=zdo (xs.take i))) (fun _ ii=>s.size-(RowKit.intOf ii).toNat)
 case atStart=>exact⟨2166136261,0,rfl,rfl,Nat.zero_le _,by omega,rfl⟩
 obtain⟨c,i,rfl,rfl,hi,hc,HR⟩:=hrel;by_cases hiL:i<s.size
 .have HV:Hid (bits .xor .u32 (c:Int) ((s[i].toNat:Int)%4294967296)*16777619%4294967296=((zem c s[i].toNat:Nat):Int)):=zaas c _ hc s[i].toNat_lt;have HS:Hid (zem c s[i].toNat=zdo (xs.take (i+1))):=by
   show _=_;rw[zxn xs i s[i].toNat (by rw[<-HL.out];exact hiL) (by rw[HX.out,zvd s i hiL]),zsq,<-HR.out]
  have hlt:=zpy c s[i].toNat
  go_wp2_with fail
  go_round
  case rel=>exact⟨zem c s[i].toNat,i+1,by rw[<-HV.out],by simp,by omega,hlt,HS⟩
  case measure=>simp[RowKit.intOf];omega
 obtain hie:i=s.size:=by omega
 have HM':Hid (c=m):=by
  show _=_;rw[HR.out,<-HM.out,List.take_of_length_le (by rw[<-HL.out];omega),HX.out]
 clear hie;go_wp2_with fail
 go_ret;rw[HM'.out];exact⟨rfl,rfl⟩
def I6(n:Int):Prop:= -9223372036854775808<=n/\n<=9223372036854775807
structure Cf where
 l:Int
 s:Int
 w:Int
 q:Int
def Cf.ok(c:Cf):Prop:=I6 c.l/\I6 c.s/\I6 c.w/\I6 c.q
def Cf.may(c:Cf):Prop:=(1<=c.l/\c.l<=16)/\(1<=c.s/\c.s<=16)/\(1<=c.w/\c.w<=64)/\(1<=c.q/\c.q<=16)
instance (c:Cf):Decidable c.may:=by unfold Cf.may;infer_instance
def Cf.err(c:Cf):Int:=if c.may then 0 else 7
theorem zpz(n m:Int)(w:World) :
  Calls prog 96 #[.int .i64 n,.int .i64 m] w fun e w'=>e=.returned (.bool (decide (1<=n/\n<=m)))/\w=w':=by
 by_cases h:1<=n
 .by_cases h2:n<=m
  .go_enter func96,ntmps96;go_wp2;go_ret;exact⟨by simp[h,h2],rfl⟩
  go_enter func96,ntmps96;go_wp2;go_ret;exact⟨by simp[h,h2],rfl⟩
 go_enter func96,ntmps96;go_wp2;go_ret;exact⟨by rw[decide_eq_false (p:=1<=n) (by omega)];rfl,rfl⟩
theorem zby(n m:Int)(w:World)(h:1<=n/\n<=m):Calls prog 96 #[.int .i64 n,.int .i64 m] w fun e w'=>e=.returned (.bool true)/\w=w':=
 (zpz n m w).mono fun e w' k=>⟨by rw[k.1,decide_eq_true h],k.2⟩
theorem zgr(n m:Int)(w:World)(h:¬(1<=n/\n<=m)):Calls prog 96 #[.int .i64 n,.int .i64 m] w fun e w'=>e=.returned (.bool false)/\w=w':=
 (zpz n m w).mono fun e w' k=>⟨by rw[k.1,decide_eq_false h],k.2⟩
theorem zdh(l s x q:Int)(w:World) :
  Calls prog 55 #[.agg #[.int .i64 l,.int .i64 s,.int .i64 x,.int .i64 q]] w fun e w'=>e=.returned (.int .i64 (Cf.err ⟨l,s,x,q⟩))/\Fr [] w w':=by
 by_cases h1:1<=l/\l<=16
 .by_cases h2:1<=s/\s<=16
  .by_cases h3:1<=x/\x<=64
   .by_cases h4:1<=q/\q<=16
    .have E:Cf.err ⟨l,s,x,q⟩=0:=if_pos ⟨h1,h2,h3,h4⟩;rw[E];have H1:=fun w=>zby l 16 w h1;have H2:=fun w=>zby s 16 w h2;have H3:=fun w=>zby x 64 w h3;have H4:=fun w=>zby q 16 w h4;clear h1 h2 h3 h4 E;go_enter func55,ntmps55;go_wp2_with fail
     refine (H1 _).mono ?_;rintro e w1⟨rfl,rfl⟩;go_wp2_with fail
     refine (H2 _).mono ?_;rintro e w1⟨rfl,rfl⟩;go_wp2_with fail
     refine (H3 _).mono ?_;rintro e w1⟨rfl,rfl⟩;go_wp2_with fail
     refine (H4 _).mono ?_;rintro e w1⟨rfl,rfl⟩;go_wp2_with fail
     go_ret;exact⟨rfl,Fr.alloc _ _ _⟩
    have E:Cf.err ⟨l,s,x,q⟩=7:=if_neg (fun h=>h4 h.2.2.2);rw[E];have H1:=fun w=>zby l 16 w h1;have H2:=fun w=>zby s 16 w h2;have H3:=fun w=>zby x 64 w h3;have H4:=fun w=>zgr q 16 w h4;clear h1 h2 h3 h4 E;go_enter func55,ntmps55;go_wp2_with fail
    refine (H1 _).mono ?_;rintro e w1⟨rfl,rfl⟩;go_wp2_with fail
    refine (H2 _).mono ?_;rintro e w1⟨rfl,rfl⟩;go_wp2_with fail
    refine (H3 _).mono ?_;rintro e w1⟨rfl,rfl⟩;go_wp2_with fail
    refine (H4 _).mono ?_;rintro e w1⟨rfl,rfl⟩;go_wp2_with fail
    go_ret;exact⟨rfl,Fr.alloc _ _ _⟩
   have E:Cf.err ⟨l,s,x,q⟩=7:=if_neg (fun h=>h3 h.2.2.1);rw[E];have H1:=fun w=>zby l 16 w h1;have H2:=fun w=>zby s 16 w h2;have H3:=fun w=>zgr x 64 w h3;clear h1 h2 h3 E;go_enter func55,ntmps55;go_wp2_with fail
   refine (H1 _).mono ?_;rintro e w1⟨rfl,rfl⟩;go_wp2_with fail
   refine (H2 _).mono ?_;rintro e w1⟨rfl,rfl⟩;go_wp2_with fail
   refine (H3 _).mono ?_;rintro e w1⟨rfl,rfl⟩;go_wp2_with fail
   go_ret;exact⟨rfl,Fr.alloc _ _ _⟩
  have E:Cf.err ⟨l,s,x,q⟩=7:=if_neg (fun h=>h2 h.2.1);rw[E];have H1:=fun w=>zby l 16 w h1;have H2:=fun w=>zgr s 16 w h2;clear h1 h2 E;go_enter func55,ntmps55;go_wp2_with fail
  refine (H1 _).mono ?_;rintro e w1⟨rfl,rfl⟩;go_wp2_with fail
  refine (H2 _).mono ?_;rintro e w1⟨rfl,rfl⟩;go_wp2_with fail
  go_ret;exact⟨rfl,Fr.alloc _ _ _⟩
 have E:Cf.err ⟨l,s,x,q⟩=7:=if_neg (fun h=>h1 h.1);rw[E];have H1:=fun w=>zgr l 16 w h1;clear h1 E;go_enter func55,ntmps55;go_wp2_with fail
 refine (H1 _).mono ?_;rintro e w1⟨rfl,rfl⟩;go_wp2_with fail
 go_ret;exact⟨rfl,Fr.alloc _ _ _⟩
def zlf(s:Int)(key:ByteArray):Int:=((zdo (zdk key):Nat):Int)%s
def Cf.shard(c:Cf)(key:ByteArray):Int×Int:=if ¬c.may then (0,7) else if ¬(1<=key.size/\key.size<=64) then (0,1) else (zlf c.s key,0)
theorem zxo(l s x q:Int)(key:ByteArray)(w:World)(hk:key.size<=9223372036854775807) :
  Calls prog 198 #[.agg #[.int .i64 l,.int .i64 s,.int .i64 x,.int .i64 q],.string key] w fun e w'=>e=.returned (.tuple #[.int .i64 (Cf.shard ⟨l,s,x,q⟩ key).1,.int .i64 (Cf.shard ⟨l,s,x,q⟩ key).2])/\Fr [] w w':=by
 have HC:=fun w=>zdh l s x q w;by_cases hm:Cf.may ⟨l,s,x,q⟩
 .have E:Cf.err ⟨l,s,x,q⟩=0:=if_pos hm;rw[E]at HC
  have hs:1<=s/\s<=16:=hm.2.1;by_cases hz:1<=key.size/\key.size<=64
  .have E2:Cf.shard ⟨l,s,x,q⟩ key=(zlf s key,0):=by simp[Cf.shard,hm,hz]
   rw[E2];have HK:=fun w=>zby (key.size:Int) 64 w (by omega);obtain⟨m,HM⟩:∃m,Hid (zdo (zdk key)=m):=⟨_,rfl⟩;have hm32:m<4294967296:=by rw[<-HM.out];exact zxm _
   have HH:∀w,Calls prog 217 #[.string key] w fun e w'=>e=.returned (.int .u32 (m:Int))/\w'=w:=fun w=>(zaat m key w hk HM.out).mono fun e w' h=>⟨h.1,h.2.symm⟩;obtain⟨r,HR⟩:∃r:Int,Hid (r=(m:Int)%s):=⟨_,rfl⟩;have HN:Hid (zlf s key=r):=by show _=_;rw[HR.out,zlf,HM.out]
   have hr:0<=r/\r<16:=by
    have h1:=Int.emod_nonneg (m:Int) (show s≠0 by omega);have h2:=Int.emod_lt_of_pos (m:Int) (show 0<s by omega);rw[HR.out];omega
   have hcv:s%4294967296=s:=by omega
   have hne:s≠0:=by omega
   have hrem:(m:Int).tmod s=r:=by rw[HR.out];exact Int.tmod_eq_emod_of_nonneg (by omega)
   rw[HN.out];clear hm E E2 hz HN HR;go_enter func198,ntmps198;go_wp2_with fail
   refine (HC _).mono ?_;rintro e w1⟨rfl,hF1⟩;have hc1:w1.cell? ⟨w.heap.size,1,none⟩=some (.int .i64 s):=by
    rw[World.cell?_of_block (hF1.block w.heap.size (by simp) (by simp))];simp[World.cell?_alloc_at]
   have HF:Hid (Fr [] w w1):=(Fr.alloc _ _ _).then hF1;clear hF1 HC;go_wp2_with fail
   refine (HK _).mono ?_;rintro e w2⟨rfl,rfl⟩;go_wp2_with fail
   go_quiet ((go_at_call 217;exact Calls.quiet_of_same (HH _)))
   go_wp2_with fail
   refine bodyPost_ret (results_tmp2 rfl _ _ _) rfl ?_;exact⟨rfl,HF.out.then (Fr.drewN _ _ _)⟩
  have E2:Cf.shard ⟨l,s,x,q⟩ key=(0,1):=by simp only[Cf.shard,hm,hz];simp
  rw[E2];have HK:=fun w=>zgr (key.size:Int) 64 w (by omega);clear hm E E2 hz;go_enter func198,ntmps198;go_wp2_with fail
  refine (HC _).mono ?_;rintro e w1⟨rfl,hF1⟩;have HF:Hid (Fr [] w w1):=(Fr.alloc _ _ _).then hF1;clear hF1 HC;go_wp2_with fail
  refine (HK _).mono ?_;rintro e w2⟨rfl,rfl⟩;go_wp2_with fail
  refine bodyPost_ret (results_tmp2 rfl _ _ _) rfl ?_;exact⟨rfl,HF.out⟩
 have E:Cf.err ⟨l,s,x,q⟩=7:=if_neg hm;rw[E]at HC
 have E2:Cf.shard ⟨l,s,x,q⟩ key=(0,7):=by simp only[Cf.shard,hm];simp
 rw[E2];clear hm E E2;go_enter func198,ntmps198;go_wp2_with fail
 refine (HC _).mono ?_;rintro e w1⟨rfl,hF1⟩;have HF:Hid (Fr [] w w1):=(Fr.alloc _ _ _).then hF1;clear hF1 HC;go_wp2_with fail
 refine bodyPost_ret (results_tmp2 rfl _ _ _) rfl ?_;exact⟨rfl,HF.out⟩
structure Wd13(w1:World) where
 W:World
 h:Fr [] w1 W
instance (w1:World):Nonempty (Wd13 w1):=⟨⟨w1,Fr.refl _ _⟩⟩
theorem zmk{P:Program}{w1 wr:World}{id:Nat}{Q:Exit->Act->World->Prop}{a:Act}{l:List Oper}(hm:P.follows .mixedOrders=true)(hB:Region.lexB .any l.toArray=true)(hf:Fr [] w1 wr)(h:wpQuiet P l.toArray (fun w'=>∃x:Wd13 w1,w'=x.W) (fun a'=>∀w',(∃x:Wd13 w1,w'=x.W)->Q .normal a' w') l a):(Code.region id l.toArray true).wp P Q a wr:=
 wp_region_quiet (C:=fun w'=>∃x:Wd13 w1,w'=x.W) hm hB ⟨⟨_,hf.then (Fr.drew [] wr)⟩,rfl⟩ (by simpa using h)
def CfM(w:World)(b:Nat)(l s x q:Int):Prop:=b<w.heap.size/\w.cell? ⟨b,0,none⟩=some (.int .i64 l)/\w.cell? ⟨b,1,none⟩=some (.int .i64 s)/\w.cell? ⟨b,2,none⟩=some (.int .i64 x)/\w.cell? ⟨b,3,none⟩=some (.int .i64 q)
theorem CfM.keep{w w':World}{b:Nat}{l s x q:Int}(h:CfM w b l s x q)(hf:Fr [] w w'):CfM w' b l s x q:=by
 have e:∀j,w'.cell? ⟨b,j,none⟩=w.cell? ⟨b,j,none⟩:=fun j=>World.cell?_of_block (a:=⟨b,j,none⟩) (hf.block b h.1 (by simp));exact⟨Nat.lt_of_lt_of_le h.1 hf.size,(e 0).trans h.2.1,(e 1).trans h.2.2.1,(e 2).trans h.2.2.2.1,(e 3).trans h.2.2.2.2⟩
theorem CfM.new(w:World)(l s x q:Int)(t:TypeId):CfM (w.alloc (.cells #[.int .i64 l,.int .i64 s,.int .i64 x,.int .i64 q] t)) w.heap.size l s x q:=
 ⟨by simp,by simp[World.cell?_alloc_at],by simp[World.cell?_alloc_at],by simp[World.cell?_alloc_at],by simp[World.cell?_alloc_at]⟩
theorem zael:prog.cellsOf 23=4:=by kernel_rfl
theorem cI13:prog.cellsOf 3=1:=by kernel_rfl
theorem zlg:prog.underlying 3=some (.int .i64):=by kernel_rfl
theorem zaau:(match prog.underlying 23 with|some (.struct fs)=>fs.toList.map (fun f=>(f.type,f.offset))|_=>[])=[(3,0),(3,1),(3,2),(3,3)]:=by kernel_rfl
section
variable{H:Type}{enc:TypeId×Value->H}
theorem zaem{w:World}{base:Nat}{spare:Nat->Bool}{held:Bool}{fuel:Nat}{cs:List Value}{x:DataW H×List MemPlace}(h:DataW.trod enc prog w base spare held fuel 23 cs=some x) :
  ∃(a b c d:Int),cs=[.int .i64 a,.int .i64 b,.int .i64 c,.int .i64 d]/\Cf.ok ⟨a,b,c,d⟩:=by
 have hF:=zaau;cases hu:prog.underlying 23 with
 |none=>rw[hu]at hF;simp at hF
 |some u=>
  rw[hu]at hF
  cases u with
  |struct fs=>
   simp only at hF;obtain⟨ys,n,_,hx,hlen,hys,hf⟩:=DataW.trod_struct hu h;rw[zael]at hlen
   match cs,hlen with
   | [v0,v1,v2,v3],_=>
    have hl4:fs.toList.length=4:=by have:=congrArg List.length hF;simpa using this
    obtain⟨l,hl⟩:∃l,l=fs.toList:=⟨_,rfl⟩;rw[<-hl]at hF hl4
    match l,hl4 with
    | [f0,f1,f2,f3],_=>
     simp only[List.map_cons,List.map_nil,List.cons.injEq,Prod.mk.injEq,and_true]at hF;obtain⟨⟨t0,o0⟩,⟨t1,o1⟩,⟨t2,o2⟩,⟨t3,o3⟩⟩:=hF;have g:∀(i:Nat)(f:Field),[f0,f1,f2,f3][i]? = some f->fs[i]? = some f:=by
      intro i f hi;rw[hl]at hi
      simpa using hi
     have r0:=hf 0 f0 (g 0 f0 rfl);have r1:=hf 1 f1 (g 1 f1 rfl);have r2:=hf 2 f2 (g 2 f2 rfl);have r3:=hf 3 f3 (g 3 f3 rfl);rw[t0,o0,cI13]at r0
     rw[t1,o1,cI13]at r1
     rw[t2,o2,cI13]at r2
     rw[t3,o3,cI13]at r3
     simp only[List.drop_zero,List.drop_succ_cons,List.take_succ_cons,List.take_zero]at r0 r1 r2 r3;have hy4:ys.length=4:=by rw[hys];have:=congrArg List.length hl;simpa using this.symm
     match ys,hy4 with
     | [y0,y1,y2,y3],_=>
      simp only[List.getElem?_cons_zero,List.getElem?_cons_succ]at r0 r1 r2 r3;obtain⟨k0,e0,_,w0⟩:=DataW.trod_int zlg r0;obtain⟨k1,e1,_,w1⟩:=DataW.trod_int zlg r1;obtain⟨k2,e2,_,w2⟩:=DataW.trod_int zlg r2;obtain⟨k3,e3,_,w3⟩:=DataW.trod_int zlg r3;simp only[List.cons.injEq,and_true]at e0 e1 e2 e3;exact⟨k0,k1,k2,k3,by rw[e0,e1,e2,e3],bounds_i64 w0,bounds_i64 w1,bounds_i64 w2,bounds_i64 w3⟩
  |_=>simp at hF
end
end
namespace F
open Go.ChangeShapes Go.WideShapes Go.ChangeAt Go.RowKit Go.Lib Go.Proofs.Tryz
section
variable(w:World)
theorem zxv{e:TypeId}{v:Value}{n:Nat}{xs:List Value}(h:w.ownsRow 0 e 1 v n xs):∃ao cap,v=.slice ao n cap:=by
 rcases h.2 with⟨hh,h0⟩|⟨g,cap',_,hh,_⟩
 .exact⟨none,0,by rw[hh,h0]⟩
 exact⟨_,cap',hh⟩
end
end F
namespace Ap
open Go.ChangeShapes Go.WideShapes Go.ChangeAt Go.RowKit Go.Lib Go.Proofs.Tryz
def Went(w:World)(v:Value)(g:Nat)(w':World):Prop:=(v.ownBlock=some g/\w.grownBy w' (some g))\/(w.heap.size<=g/\w.grownBy w' none)
theorem Went.fr{w w':World}{v:Value}{g:Nat}(h:Went w v g w'):Fr v.ownBlock.toList w w':=by
 rcases h with⟨h1,h2⟩|⟨_,h2⟩
 .refine Fr.grown h2 ?_;intro k hk _;cases hk;simp[h1]
 exact Fr.grown h2 (by simp)
section
variable{P:Program}(w:World)
theorem zcp(t ty e:TypeId)(i:TypeInfo)(z:Value)(size bytes:Nat)(ht:P.underlying t=some (.slice e))(hi:P.info? e=some i)(hz:i.zero=some z)(hsize:i.size=size)(hby:i.bytes=bytes)(hzs:z.cells.size=size)(hsz:0<size)(v:Value)(n:Nat)(xs:List Value)(hown:w.ownsRow 0 e size v n xs)(a:Addr)(m c:Nat)(news:List Value)(hm:0<m)(hl:news.length=m*size)(hnews:∀j u,news[j]? = some u->w.cell? (a.add j)=some u)(h1:∀u∈news,u.oneCell'=true)(h63:n+m<=maxLen)(hbytes:(n+m)*bytes<=140737488355328) :
  ∃g cap w',(Builtin.append_ #[t,t] ty #[v,.slice (some a) m c]).run P w=.ok (.slice (some ⟨g,0,none⟩) (n+m) cap) w'/\w'.ownsRow 0 e size (.slice (some ⟨g,0,none⟩) (n+m) cap) (n+m) (xs++news)/\Went w v g w':=by
 obtain⟨v',w',hr,h2,h3,h4⟩:=run_append_own (P:=P) w 0 t ty e i z size bytes ht hi hz hsize hby hzs hsz v n xs hown a m c news hl hnews h1 h63 hbytes (Nat.zero_le _);obtain⟨g,cap,rfl⟩:∃g cap,v'=.slice (some ⟨g,0,none⟩) (n+m) cap:=by
  rcases h2.2 with⟨_,hh⟩|⟨g,cap',_,hh,_⟩
  .omega
  exact⟨g,cap',hh⟩
 refine⟨g,cap,w',hr,h2,?_⟩;subst hsize;subst hby;have hsmall:n+m<=9223372036854775807:=by simp only[maxLen]at h63;omega
 rcases hown.2 with⟨rfl,rfl⟩|⟨g0,cap0,cur,rfl,hbg,hg,hnc,hcm,hcs,htake⟩
 .have hr2:=run_append_nil (P:=P) w t ty e i z ht hi hz a m c news hl hnews (by omega) (by omega) (by have hb:=hbytes;simp only[Nat.zero_add]at hb;omega);rw[hr]at hr2
  injection hr2 with e1 e2;simp only[Value.slice.injEq,Option.some.injEq,Addr.mk.injEq]at e1;obtain⟨⟨rfl,_⟩,_⟩:=e1;subst e2;exact Or.inr ⟨Nat.le_refl _,⟨rfl,rfl,rfl,by simp,fun k hk _=>Below.heap_alloc w.drew _ _ hk⟩⟩
 by_cases hroom:n+m<=cap0
 .have hfit:n*i.size+news.length<=cur.size:=by rw[hl,hcs,<-Nat.add_mul];exact Nat.mul_le_mul_right _ hroom
  have hr2:=run_append_room (P:=P) w t ty e i ht hi g0 n cap0 cur hg a m c news hl hnews h1 hroom hfit;rw[hr]at hr2
  cases hr2;exact Or.inl ⟨rfl,h3⟩
 have holds:∀j u,xs[j]? = some u->w.cell? ((⟨g0,0,none⟩:Addr).add j)=some u:=hown.cells (g:=g0) rfl;have hr2:=run_append_grow (P:=P) w t ty e i z ht hi hz ⟨g0,0,none⟩ n cap0 xs hown.1 holds a m c news hl hnews (by omega) (by omega) (growslice_fits (by omega) hbytes);rw[hr]at hr2
 cases hr2;exact Or.inr ⟨Nat.le_refl _,⟨rfl,rfl,rfl,by simp,fun k hk _=>Below.heap_alloc w.drew _ _ hk⟩⟩
theorem wpList_app{ops:Array Oper}{rest:List Oper}{o:Oper}{a:Act}{Q:Exit->Act->World->Prop}(hgd:o.guard=none)(s x:Operand)(t:TypeId)(ho:o.op=.call {callee:=.builtin .append,args:=#[s,x],argTypes:=#[t,t]})(e:TypeId)(i:TypeInfo)(z:Value)(size bytes:Nat)(ht:P.underlying t=some (.slice e))(hi:P.info? e=some i)(hz:i.zero=some z)(hsize:i.size=size)(hby:i.bytes=bytes)(hzs:z.cells.size=size)(hsz:0<size)(v:Value)(n:Nat)(xs:List Value)(hs:a.eval s=v)(hown:w.ownsRow 0 e size v n xs)(ad:Addr)(c:Nat)(news:List Value)(hx:a.eval x=.slice (some ad) 1 c)(hl:news.length=size)(hnews:∀j u,news[j]? = some u->w.cell? (ad.add j)=some u)(h1:∀u∈news,u.oneCell'=true)(hbytes:(n+1)*bytes<=140737488355328)(h63:n+1<=maxLen)(h:∀g cap w',w'.ownsRow 0 e size (.slice (some ⟨g,0,none⟩) (n+1) cap) (n+1) (xs++news)->Went w v g w'->wpList P ops Q rest (a.put o.dst (.slice (some ⟨g,0,none⟩) (n+1) cap)) w'):wpList P ops Q (o::rest) a w:=by
 refine wpList_plain hgd fun K hK=> ?_;obtain⟨g,cap,w',hr,h2,h3⟩:=zcp (P:=P) w t o.type e i z size bytes ht hi hz hsize hby hzs hsz v n xs hown ad 1 c news (by omega) (by omega) hnews h1 h63 hbytes;unfold Oper.wp execOp;simp only[ho,resolve,invoke,builtin,Sem.run_bind,Sem.run_pure,Result.andThen_ok,List.map_toArray,List.map_cons,List.map_nil,hs,hx,hr];exact hK _ _ (h g cap w' h2 h3)
theorem zeg{ops:Array Oper}{o:Oper}{a:Act}{K:Act->World->Prop}{Q:Exit->Act->World->Prop}{E:Prop}(hg:o.guard=none)(s x:Operand)(t:TypeId)(ho:o.op=.call {callee:=.builtin .append,args:=#[s,x],argTypes:=#[t,t]})(e:TypeId)(i:TypeInfo)(z:Value)(size bytes:Nat)(ht:P.underlying t=some (.slice e))(hi:P.info? e=some i)(hz:i.zero=some z)(hsize:i.size=size)(hby:i.bytes=bytes)(hzs:z.cells.size=size)(hsz:0<size)(v:Value)(n:Nat)(xs:List Value)(hs:a.eval s=v)(hown:w.ownsRow 0 e size v n xs)(ad:Addr)(c:Nat)(news:List Value)(hx:a.eval x=.slice (some ad) 1 c)(hl:news.length=size)(hnews:∀j u,news[j]? = some u->w.cell? (ad.add j)=some u)(h1:∀u∈news,u.oneCell'=true)(hbytes:(n+1)*bytes<=140737488355328)(h63:n+1<=maxLen)(h:∀g cap w',w'.ownsRow 0 e size (.slice (some ⟨g,0,none⟩) (n+1) cap) (n+1) (xs++news)->Went w v g w'->K (a.put o.dst (.slice (some ⟨g,0,none⟩) (n+1) cap)) w') :
  if Region.wanted o (yielded ops a.tmps)=true then Oper.wp P o a w K Q else E:=by
 have hw:Region.wanted o (yielded ops a.tmps)=true:=by simp[Region.wanted,hg]
 rw[if_pos hw];obtain⟨g,cap,w',hr,h2,h3⟩:=zcp (P:=P) w t o.type e i z size bytes ht hi hz hsize hby hzs hsz v n xs hown ad 1 c news (by omega) (by omega) hnews h1 h63 hbytes;unfold Oper.wp execOp;simp only[ho,resolve,invoke,builtin,Sem.run_bind,Sem.run_pure,Result.andThen_ok,List.map_toArray,List.map_cons,List.map_nil,hs,hx,hr];exact h g cap w' h2 h3
end
theorem row_setCell{w:World}{b j:Nat}{cs:Array Value}{t:TypeId}(x:Value)(h:w.heap[b]? = some (.cells cs t (0,0))):(w.setCell ⟨b,j,none⟩ x).heap[b]? = some (.cells (cs.setIfInBounds j x) t (0,0)):=by
 have hlt:=lt_of_block h;have h':w.heap[b]=.cells cs t (0,0):=by simpa[Array.getElem?_eq_getElem hlt]using h
 show (w.heap.modify b _)[b]? = _;rw[Array.getElem?_eq_getElem (by simpa using hlt),Array.getElem_modify_self,h'];rfl
theorem own_type{w:World}{e:TypeId}{size:Nat}{v:Value}{n:Nat}{vs:List Value}(h:w.ownsRow 0 e size v n vs):∀k,v.ownBlock=some k->∃cs,w.heap[k]? = some (.cells cs e (0,0)):=by
 intro k hk;rcases h.2 with⟨rfl,_⟩|⟨g',cap',cur,rfl,hb,hg,_⟩
 .simp[Value.ownBlock]at hk
 simp[Value.ownBlock]at hk
 subst hk;exact⟨cur,hg⟩
theorem own_form{w:World}{e:TypeId}{size:Nat}{v:Value}{n:Nat}{vs:List Value}(h:w.ownsRow 0 e size v n vs)(h0:0<n):∃g cap,v=.slice (some ⟨g,0,none⟩) n cap/\n<=cap:=by
 rcases h.2 with⟨_,hh⟩|⟨g',cap',cur,rfl,hb,hg,hn,_⟩
 .omega
 exact⟨g',cap',rfl,hn⟩
theorem own_slice{w:World}{e:TypeId}{size:Nat}{v:Value}{n:Nat}{vs:List Value}(h:w.ownsRow 0 e size v n vs):∃ao cap,v=.slice ao n cap:=by
 rcases h.2 with⟨rfl,rfl⟩|⟨g',cap',cur,rfl,_⟩
 .exact⟨none,0,rfl⟩
 exact⟨_,_,rfl⟩
theorem ne_types{w:World}{a b:Nat}{ca cb:Array Value}{ta tb:TypeId}{fa fb:Nat×Nat}(ha:w.heap[a]? = some (.cells ca ta fa))(hb:w.heap[b]? = some (.cells cb tb fb))(h:ta≠tb):a≠b:=by
 rintro rfl;rw[ha]at hb
 injection hb with hb;injection hb with _ hb _;exact h hb
end Ap
section
open Go.ChangeShapes Go.WideShapes Go.ChangeAt Go.RowKit Go.Lib Go.Proofs.Tryz
theorem zrf{fn:Func}{p:Tmp}{ty:TypeId}(h:fn.results= #[.cell p ty])(tmps:Array Value)(P:Program)(w:World)(g:Nat)(v:Value)(hp:tmps.getD p undef=.pointer (some ⟨g,0,none⟩))(hld:(loadVar ty ⟨g,0,none⟩).run P w=.ok v w) :
  (results fn tmps).run P w=.ok v w:=by
 simp only[results,h];simp[Sem.run_bind,Result.andThen,<-Array.getD_eq_getD_getElem?,hp,asAddr,hld]
theorem zwa{w:World}{g mb:Nat}{n:Int}(h:w.heap[g]? = some (.cells #[.pointer (some ⟨mb,0,none⟩),.int .i64 n] 297 (0,0))):(loadVar 297 ⟨g,0,none⟩).run prog w=.ok (.agg #[.pointer (some ⟨mb,0,none⟩),.int .i64 n]) w:=
 run_loadVar_row (P:=prog) _ g _ 297 _ _ (.struct (prog.fieldsOf 297)) h (by kernel_rfl) rfl (by kernel_rfl)
theorem zrg{w:World}{mb n k:Nat}{o:Option Addr}(c13:w.cell? ⟨mb,13,none⟩=some (.slice o n k))(hn:n<=100):Calls prog 181 #[.pointer (some ⟨mb,0,none⟩)] w fun e w'=>e=.returned (.agg #[.pointer (some ⟨mb,0,none⟩),.int .i64 (n:Int)])/\Fr [] w w':=by
 obtain⟨w1,HW1⟩:∃w1,Hid (w.alloc (.cells #[.pointer (some ⟨mb,0,none⟩),.int .i64 (n:Int)] 297)=w1):=⟨_,rfl⟩;have hb:w1.heap[w.heap.size]? = some (.cells #[.pointer (some ⟨mb,0,none⟩),.int .i64 (n:Int)] 297 (0,0)):=by rw[<-HW1.out];exact heap_alloc_new _ _
 have hf:Fr [] w w1:=by rw[<-HW1.out];exact Fr.alloc _ _ _
 have c13':∀ob,(w.alloc ob).cell? ⟨mb,13,none⟩=some (.slice o n k):=fun ob=>by
  have hlt:mb<w.heap.size:=World.block_lt_of_cell? w _ (by rw[c13]);exact (World.cell?_of_block ((Fr.alloc [] w ob).block mb hlt (by simp))).trans c13
 have HB:Hid (w1.heap[w.heap.size]? = _):=hb;have HF:Hid (Fr [] w w1):=hf;clear hb hf;go_enter func181,ntmps181;go_wp2_with fail
 rw[HW1.out];refine bodyPost_ret (zrf rfl _ _ _ w.heap.size _ rfl (zwa HB.out)) rfl ?_;exact⟨rfl,HF.out⟩
end
end Go.Proofs.YtojjdnjfaelnfaaGreatDoor
