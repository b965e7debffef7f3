/- Contracts and plain lemmas of this claim. -/
import Derived.Test.YtaaghcimfcjehaaGreatDoorGp23
import Derived.Great.Frames
import Derived.Test.YtaaghcimfcjehaaGreatDoorGp28
set_option linter.unusedSimpArgs false
set_option linter.unusedVariables false
namespace Go.Proofs.YtaaghcimfcjehaaGreatDoor
open Go.ChangeShapes Go.WideShapes Go.ChangeAt Go.RowKit Go.Lib
def updB (L:Nat->Bool) (i:Nat):Nat->Bool:=fun j=>if j=i then true else L j
theorem zfp (L:Nat->Bool) (i:Nat):updB L i i=true:=if_pos rfl
theorem zcj (L:Nat->Bool) {i j:Nat} (h:j≠i):updB L i j=L j:=if_neg h
def puts (a:Act):List (Nat×Value)->Act
 | []=>a
 | p::r=>puts (a.put (some p.1) p.2) r
theorem zfq (a:Act): ∀l:List (Nat×Value),(puts a l).tmps.size=a.tmps.size
 | []=>rfl
 | p::r=>by
  rw[puts,zfq _ r]
  simp[Act.put]
theorem zdz (a:Act): ∀l:List (Nat×Value),(puts a l).defers=a.defers
 | []=>rfl
 | p::r=>by
  rw[puts,zdz _ r]
  rfl
theorem zhq {a:Act} {d j:Nat} {v:Value} (h:d≠j):env (a.put (some d) v) j=env a j:=Act.eval_put_ne a d j v h
theorem zfr {a:Act} {d:Nat} {v:Value} (h:d<a.tmps.size):env (a.put (some d) v) d=v:=Act.eval_put_same a d v h
theorem zdb (a:Act): ∀(l:List (Nat×Value)) (t:Nat),(∀p∈l,p.1≠t)->env (puts a l) t=env a t
 | [],_,_=>rfl
 | p::r,t,h=>by
  rw[puts,zdb _ r t (fun q hq=>h q (List.mem_cons_of_mem _ hq))]
  exact zhq (h p List.mem_cons_self)
theorem zid (a:Act): ∀(l:List (Nat×Value)) (d:Nat) (v:Value),(l.map (·.1)).Nodup->(d,v)∈l->d<a.tmps.size->env (puts a l) d=v
 | [],_,_,_,h,_=>by cases h
 | p::r,d,v,hn,h,hd=>by
  simp only[List.map_cons,List.nodup_cons]at hn
  rcases List.mem_cons.1 h with e|e
  ·subst e
   rw[puts,zdb _ r d (fun q hq e=>hn.1 (List.mem_map.2 ⟨q,hq,e⟩))]
   exact zfr hd
  ·rw[puts]
   exact zid _ r d v hn.2 e (by simpa[Act.put]using hd)
theorem znb {a b:Act} (h1:a.tmps.size=b.tmps.size) (h2:a.defers=b.defers) (h: ∀t,t<a.tmps.size->env a t=env b t):a=b:=by
 obtain⟨at_,ad⟩:=a
 obtain⟨bt,bd⟩:=b
 simp only at h1 h2
 subst h2
 have:at_=bt:=by
  refine Array.ext h1 fun i hi hj=> ?_
  have:=h i hi
  simp only[env,Act.eval]at this
  simpa[Array.getD,hi,hj]using this
 rw[this]
structure Hst (ops:Array Oper) (a0:Act) {X:Type} (val:X->Nat->Value) (W:X->(Nat->Bool)->World->Prop) (listed:Array Bool) (x:X) (a:Act) (w:World):Prop where
 sz:listed.size=ops.size
 tsz:a.tmps.size=a0.tmps.size
 dfr:a.defers=a0.defers
 same: ∀t,(∀j,zal ops j≠some t)->env a t=env a0 t
 done: ∀i d,listed[i]? = some true->zal ops i=some d->env a d=val x i
 cl: ∀i,listed[i]? = some true-> ∀j,dep ops i j=true->listed[j]? = some true
 wd:W x (fun i=>listed.getD i false) w
section
variable {P:Program} {ops:Array Oper} {Q:Exit->Act->World->Prop} {a0:Act} {w0:World} {X:Type} {val:X->Nat->Value} {W:X->(Nat->Bool)->World->Prop}
def Mst (P:Program) (ops:Array Oper) (Q:Exit->Act->World->Prop) (a0:Act) {X:Type} (val:X->Nat->Value) (W:X->(Nat->Bool)->World->Prop):Prop :=
 ∀(i:Nat) (o:Oper),ops[i]? = some o-> ∀(x:X) (L:Nat->Bool) (a:Act) (w:World),L i=false->(∀j,dep ops i j=true->L j=true)->(∀j k,L j=true->dep ops j k=true->L k=true)->(∀j d,dep ops i j=true->zal ops j=some d->env a d=val x j)->(∀t,(∀j,zal ops j≠some t)->env a t=env a0 t)->a.tmps.size=a0.tmps.size->W x L w ->
  o.wp P a w (fun a' w'=> ∃x',a'=a.put o.dst (val x' i)/\(∀j,L j=true->val x' j=val x j)/\W x' (updB L i) w') Q
theorem zpa {listed:Array Bool} {i:Nat} (h:i<listed.size):(fun j=>(listed.setIfInBounds i true).getD j false)=updB (fun j=>listed.getD j false) i:=by
 funext j
 unfold updB
 by_cases e:j=i
 ·subst e
  rw[if_pos rfl,Array.getD_eq_getD_getElem?,Array.getElem?_setIfInBounds_self_of_lt h]
  rfl
 ·rw[if_neg e,Array.getD_eq_getD_getElem?,Array.getElem?_setIfInBounds_ne (fun q=>e q.symm)]
  show _=listed.getD j false
  rw[Array.getD_eq_getD_getElem?]
theorem getD_some {listed:Array Bool} {j:Nat}:listed.getD j false=true↔listed[j]? = some true:=by
 rw[Array.getD_eq_getD_getElem?]
 cases listed[j]? with
 | none=>simp
 | some b=>simp
theorem Hst.go (hN: ∀i j d,zal ops i=some d->zal ops j=some d->i=j) (hg: ∀(i:Nat) (o:Oper),ops[i]? = some o->o.guard=none/\ ∀d,o.dst=some d->d<a0.tmps.size)
  (hs:Mst P ops Q a0 val W) (hlex: ∀(i:Nat) (o:Oper),ops[i]? = some o-> ∀e∈o.after,Region.binds .any e=true->e.on<i)
  (hend: ∀x L a w,(∀i,i<ops.size->L i=true)->a.tmps.size=a0.tmps.size->a.defers=a0.defers->(∀t,(∀j,zal ops j≠some t)->env a t=env a0 t)->(∀i d,zal ops i=some d->env a d=val x i)->W x L w->Q .normal a w) :
  ∀(fuel:Nat) (listed:Array Bool) (x:X) (a:Act) (w:World),Hst ops a0 val W listed x a w->listed.toList.count false<=fuel->wpAny P .any ops Q fuel listed a w:=by
 have hfin: ∀(listed:Array Bool) (x:X) (a:Act) (w:World),Hst ops a0 val W listed x a w->(∀i,i<ops.size->listed[i]? = some true)->Q .normal a w:=fun listed x a w h hall =>
  hend x _ a w (fun i hi=>getD_some.2 (hall i hi)) h.tsz h.dfr h.same (fun i d hd=>h.done i d (hall i (by
   unfold zal at hd
   cases ho:ops[i]? with
   | none=>rw[ho]at hd;cases hd
   | some o=>exact (Array.getElem?_eq_some_iff.1 ho).1)) hd) h.wd
 intro fuel
 induction fuel with
 | zero =>
  intro listed x a w h hf
  have hall: ∀i,i<ops.size->listed[i]? = some true:=by
   intro i hi
   have hl:i<listed.size:=by rw[h.sz];exact hi
   have h0:listed.toList.count false=0:=by omega
   have:=List.count_eq_zero.1 h0
   have hm:listed[i]∈listed.toList:=by simp
   rw[Array.getElem?_eq_getElem hl]
   cases hc:listed[i] with
   | true=>rfl
   | false=>rw[hc]at hm;exact absurd hm this
  have he:Region.ready .any ops listed=[]:=by
   refine List.eq_nil_iff_forall_not_mem.2 fun i hi=> ?_
   obtain⟨h1,h2,_⟩:=zeq hi
   have:=hall i h1
   rw[Array.getD_eq_getD_getElem?,this]at h2
   simp at h2
  exact⟨he,hfin listed x a w h hall⟩
 | succ fuel ih =>
  intro listed x a w h hf
  refine⟨fun he=>hfin listed x a w h (ziq hlex listed h.sz he),fun i hi=> ?_⟩
  obtain⟨h1,h2,h3⟩:=zeq hi
  have ho:ops[i]? = some ops[i]:=Array.getElem?_eq_getElem h1
  obtain⟨o,hoo⟩: ∃o,o=ops[i]:=⟨_,rfl⟩
  rw[<-hoo]at ho
  obtain⟨hg1,hdl⟩:=hg i o ho
  have hdi:zal ops i=o.dst:=by simp[zal,ho]
  have hil:i<listed.size:=by rw[h.sz];exact h1
  have hli:listed[i]=false:=by rw[Array.getD_eq_getD_getElem?,Array.getElem?_eq_getElem hil]at h2;simpa using h2
  have hlf:listed.getD i false=false:=by rw[Array.getD_eq_getD_getElem?,Array.getElem?_eq_getElem hil,hli];rfl
  have hdl2: ∀j:Nat,dep ops i j=true->listed[j]? = some true:=by
   intro j hj
   simp only[dep,ho]at hj
   rw[Array.any_eq_true]at hj
   obtain⟨n,hn,he⟩:=hj
   simp only[Bool.and_eq_true,beq_iff_eq]at he
   have h4:=h3 o ho o.after[n] (by simp) he.1
   rw[he.2,Array.getD_eq_getD_getElem?]at h4
   cases hl:listed[j]? with
   | none=>rw[hl]at h4;simp at h4
   | some b=>rw[hl]at h4;simp at h4;rw[h4]
  unfold wpOp
  rw[ho]
  simp only
  rw[if_pos (by simp[Region.wanted,hg1])]
  refine Or.inl (Oper.wp_mono (K:=fun a' w'=> ∃x',a'=a.put o.dst (val x' i)/\(∀j,listed.getD j false=true->val x' j=val x j)/\W x' (updB (fun j=>listed.getD j false) i) w') ?_ (hs i o ho x _ a w hlf (fun j hj=>getD_some.2 (hdl2 j hj)) (fun j k hj hk=>getD_some.2 (h.cl j (getD_some.1 hj) k hk)) (fun j d hj hd=>h.done j d (hdl2 j hj) hd) h.same h.tsz h.wd))
  rintro a' w' ⟨x',rfl,hv,hW⟩
  have hlist: ∀j:Nat,(listed.setIfInBounds i true)[j]? = some true->j=i\/(j≠i/\listed[j]? = some true):=by
   intro j hj
   by_cases hji:j=i
   ·exact Or.inl hji
   ·exact Or.inr ⟨hji,by rw[Array.getElem?_setIfInBounds_ne (fun e=>hji e.symm)]at hj;exact hj⟩
  have hlisted: ∀j:Nat,listed[j]? = some true->(listed.setIfInBounds i true)[j]? = some true:=by
   intro j hj
   by_cases hji:i=j
   ·subst hji
    simp[hil]
   ·rw[Array.getElem?_setIfInBounds_ne hji];exact hj
  have hput: ∀t,o.dst≠some t->env (a.put o.dst (val x' i)) t=env a t:=fun t ht=>by
   cases hd:o.dst with
   | none=>rfl
   | some d=>exact zhq (fun e=>ht (by rw[hd,e]))
  refine ih _ x' _ w' ⟨by simpa using h.sz,?_,?_,fun t ht=> ?_,fun j d hj hd=> ?_,fun j hj k hk=> ?_,?_⟩ ?_
  ·rw[<-h.tsz]
   cases o.dst<;>simp[Act.put]
  ·rw[<-h.dfr]
   cases o.dst<;>rfl
  ·rw[hput t (by rw[<-hdi];exact ht i)]
   exact h.same t ht
  ·rcases hlist j hj with rfl|⟨hji,hj'⟩
   ·rw[hdi]at hd
    rw[hd]
    exact zfr (by rw[h.tsz];exact hdl d hd)
   ·rw[hput d (fun e=>hji (hN j i d hd (by rw[hdi];exact e))),h.done j d hj' hd,hv j (getD_some.2 hj')]
  ·rcases hlist j hj with rfl|⟨hji,hj'⟩
   ·exact hlisted k (hdl2 k hk)
   ·exact hlisted k (h.cl j hj' k hk)
  ·rw[zpa hil]
   exact hW
  ·have e:(listed.setIfInBounds i true).toList=listed.toList.set i true:=by simp
   rw[e,List.count_set (by simpa using hil)]
   have hmem:listed.toList[i]'(by simpa using hil)=false:=by simpa using hli
   rw[hmem,if_pos (by rfl),if_neg (by decide)]
   omega
theorem zfd {id:Nat} (D:X->List (Nat×Value)) (x0:X) (hm:P.follows .mixedOrders=true) (hN: ∀i j d,zal ops i=some d->zal ops j=some d->i=j) (hg: ∀(i:Nat) (o:Oper),ops[i]? = some o->o.guard=none/\ ∀d,o.dst=some d->d<a0.tmps.size)
  (hs:Mst P ops Q a0 val W) (hlex: ∀(i:Nat) (o:Oper),ops[i]? = some o-> ∀e∈o.after,Region.binds .any e=true->e.on<i)
  (hD: ∀x,((D x).map (·.1)).Nodup/\(∀p∈D x,∃i,zal ops i=some p.1/\p.2=val x i)/\ ∀i d,zal ops i=some d->(d,val x i)∈D x)
  (h0:W x0 (fun _=>false) w0.drew)
  (hend: ∀x L w,(∀i,i<ops.size->L i=true)->W x L w->Q .normal (puts a0 (D x)) w) :
  (Code.region id ops true).wp P Q a0 w0:=by
 refine wp_region_any hm (Hst.go hN hg hs hlex (fun x L a w hL hz hd hsame hv hW=> ?_) _ _ x0 _ _ ⟨by simp,rfl,rfl,fun _ _=>rfl,fun i d hi=> ?_,fun i hi=> ?_,?_⟩ ?_)
 ·have e:a=puts a0 (D x):=by
   refine znb (by rw[zfq];exact hz) (by rw[zdz];exact hd) fun t ht=> ?_
   by_cases h: ∃i,zal ops i=some t
   ·obtain⟨i,hi⟩:=h
    rw[hv i t hi,zid a0 (D x) t (val x i) (hD x).1 ((hD x).2.2 i t hi) (by rw[<-hz];exact ht)]
   ·have h': ∀j,zal ops j≠some t:=fun j hj=>h ⟨j,hj⟩
    rw[hsame t h',zdb a0 (D x) t (fun p hp e=>by
     obtain⟨i,hi,_⟩:=(hD x).2.1 p hp
     rw[e]at hi
     exact h' i hi)]
  rw[e]
  exact hend x L w hL hW
 ·exact absurd hi (by rw[Array.getElem?_replicate];split<;>simp)
 ·exact absurd hi (by rw[Array.getElem?_replicate];split<;>simp)
 ·have:(fun i=>(Array.replicate ops.size false).getD i false)=fun _=>false:=by
   funext i
   rw[Array.getD_eq_getD_getElem?,Array.getElem?_replicate]
   split<;>rfl
  rw[this]
  exact h0
 ·simp
end
theorem zak {P:Program} {o:Oper} {i:Nat} {X:Type} {val:X->Nat->Value} {W:X->(Nat->Bool)->World->Prop} {Q:Exit->Act->World->Prop} {x:X} {L:Nat->Bool} {a:Act} {w:World} (hr:(execOp a.eval o).run P w= .ok (.value (val x i)) w) (hW:W x (updB L i) w):o.wp P a w (fun a' w'=> ∃x',a'=a.put o.dst (val x' i)/\(∀j,L j=true->val x' j=val x j)/\W x' (updB L i) w') Q:=by
 unfold Oper.wp
 rw[hr]
 exact⟨x,rfl,fun _ _=>rfl,hW⟩
open Go.Maps
def Wap (w7:World) (A P T qq K:Nat) (lo:Option Addr) (M:Nat) (xs:List (Int×Int)) (k1 k2:Int) (x:Nat×Option Addr×Nat) (L:Nat->Bool) (w:World):Prop :=
 ∃w',(L T=false->w=w')/\(L T=true->L P=true/\w=w'.setCell ⟨qq,K,none⟩ (.slice x.2.1 (M+1) x.2.2))/\(L P=false->Fr [] w7 w')/\(L A=true->L P=false->w'.heap[x.1]? = some (.cells #[.int .i64 k1,.int .i64 k2] 210 (0,0)))/\(L P=true-> ∃W1,Fr [] w7 W1/\QW w' x.2.1 (M+1) x.2.2 (xs++[(k1,k2)])/\Fr (qb lo).toList W1 w'/\(qb x.2.1=qb lo\/ ∃j,qb x.2.1=some j/\W1.heap.size<=j))
section
variable {w7 w:World} {A P T qq K M:Nat} {lo:Option Addr} {xs:List (Int×Int)} {k1 k2:Int} {x:Nat×Option Addr×Nat} {L:Nat->Bool}
theorem Wap.fr (h:Wap w7 A P T qq K lo M xs k1 k2 x L w) (hT:L T=false):Fr (qb lo).toList w7 w:=by
 obtain⟨w',h1,_,h3,_,h5⟩:=h
 rw[h1 hT]
 cases hP:L P with
 | false=>exact (h3 hP).mono (by simp)
 | true =>
  obtain⟨W1,a1,_,a3,_⟩:=h5 hP
  exact (a1.mono (by simp)).then a3
theorem Wap.cell (h:Wap w7 A P T qq K lo M xs k1 k2 x L w) (hT:L T=false) {b o:Nat} {v:Value} (hb:b<w7.heap.size) (hn:b∉(qb lo).toList) (hc:w7.cell? ⟨b,o,none⟩=some v):w.cell? ⟨b,o,none⟩=some v :=
 (World.cell?_of_block (a:=⟨b,o,none⟩) ((h.fr hT).block b hb hn)).trans hc
theorem Wap.read (h:Wap w7 A P T qq K lo M xs k1 k2 x L w) {i:Nat} (hA:i≠A) (hP:i≠P) (hT:i≠T):Wap w7 A P T qq K lo M xs k1 k2 x (updB L i) w:=by
 unfold Wap
 rw[zcj L (Ne.symm hA),zcj L (Ne.symm hP),zcj L (Ne.symm hT)]
 exact h
theorem Wap.start (w7:World) (x:Nat×Option Addr×Nat):Wap w7 A P T qq K lo M xs k1 k2 x (fun _=>false) w7.drew :=
 ⟨_,fun _=>rfl,fun h=>(by cases h),fun _=>Fr.drew [] w7,fun h=>(by cases h),fun h=>(by cases h)⟩
theorem Wap.made (h:Wap w7 A P T qq K lo M xs k1 k2 x L w) (hT:L T=false) (hP:L P=false) (hAP:A≠P) (hAT:A≠T):Wap w7 A P T qq K lo M xs k1 k2 (w.heap.size,x.2) (updB L A) (w.alloc (.cells #[.int .i64 k1,.int .i64 k2] 210)):=by
 obtain⟨w',h1,_,h3,_,_⟩:=h
 have e:=h1 hT
 subst e
 refine⟨_,fun _=>rfl,fun h=> ?_,fun _=>(h3 hP).then (Fr.alloc [] w _),fun _ _=>heap_alloc_new _ _,fun h=> ?_⟩
 ·rw[zcj L (Ne.symm hAT),hT]at h;cases h
 ·rw[zcj L (Ne.symm hAP),hP]at h;cases h
theorem Wap.app (h:Wap w7 A P T qq K lo M xs k1 k2 x L w) (hT:L T=false) (hP:L P=false) (hA:L A=true) (hPT:P≠T) {c:Nat} (hQ: ∀W,Fr [] w7 W->QW W lo M c xs) (hM:M<=1099511627776) (ty:TypeId) :
  ∃lo' c' w2,(Builtin.append_ #[208,208] ty #[.slice lo M c,.slice (some ⟨x.1,0,none⟩) 1 1]).run Tryz.prog w= .ok (.slice lo' (M+1) c') w2/\Wap w7 A P T qq K lo M xs k1 k2 (x.1,lo',c') (updB L P) w2:=by
 obtain⟨w',h1,_,h3,h4,_⟩:=h
 have e:=h1 hT
 subst e
 have hsrc:Src Tryz.prog 2 208 (.slice (some ⟨x.1,0,none⟩) 1 1) 1 (cW (k1,k2)) w:=by
  refine Src.ofSlice _ Tryz.undW21 _ 1 1 _ rfl ?_ (fun u hu=>zxp [(k1,k2)] u (by simpa[csW]using hu))
  intro j u hu
  rw[Addr.add_lit,cell_of_row _ _ _ _ _ _ (h4 hA hP),Nat.zero_add]
  rw[show (#[Value.int .i64 k1,Value.int .i64 k2]:Array Value)=(cW (k1,k2)).toArray from rfl,List.getElem?_toArray]
  exact hu
 obtain⟨lo',c',w2,r1,r2,r3,r4⟩:=zvc w ty lo M c xs _ (k1,k2) (hQ w (h3 hP)) hsrc hM
 refine⟨lo',c',w2,r1,_,fun _=>rfl,fun h=> ?_,fun h=> ?_,fun _ h=> ?_,fun _=>⟨w,h3 hP,r2,r3,r4⟩⟩
 ·rw[zcj L (Ne.symm hPT),hT]at h;cases h
 ·rw[zfp]at h;cases h
 ·rw[zfp]at h;cases h
theorem Wap.store (h:Wap w7 A P T qq K lo M xs k1 k2 x L w) (hT:L T=false) (hP:L P=true) (hPT:P≠T) (hAT:A≠T):Wap w7 A P T qq K lo M xs k1 k2 x (updB L T) (w.setCell ⟨qq,K,none⟩ (.slice x.2.1 (M+1) x.2.2)):=by
 obtain⟨w',h1,_,h3,h4,h5⟩:=h
 have e:=h1 hT
 subst e
 refine⟨w,fun h=> ?_,fun _=>⟨by rw[zcj L hPT];exact hP,rfl⟩,fun h=> ?_,fun _ h=> ?_,fun _=>h5 hP⟩
 ·rw[zfp]at h;cases h
 ·rw[zcj L hPT,hP]at h;cases h
 ·rw[zcj L hPT,hP]at h;cases h
theorem Wap.fin (h:Wap w7 A P T qq K lo M xs k1 k2 x L w) (hT:L T=true): ∃W1 w',Fr [] w7 W1/\QW w' x.2.1 (M+1) x.2.2 (xs++[(k1,k2)])/\Fr (qb lo).toList W1 w'/\(qb x.2.1=qb lo\/ ∃j,qb x.2.1=some j/\W1.heap.size<=j)/\w=w'.setCell ⟨qq,K,none⟩ (.slice x.2.1 (M+1) x.2.2):=by
 obtain⟨w',_,h2,_,_,h5⟩:=h
 obtain⟨hP,e⟩:=h2 hT
 obtain⟨W1,a1,a2,a3,a4⟩:=h5 hP
 exact⟨W1,w',a1,a2,a3,a4,e⟩
end
end Go.Proofs.YtaaghcimfcjehaaGreatDoor
namespace Go.Proofs.YtaaghcimfcjehaaGreatDoor.Rc
open Go.ChangeShapes Go.WideShapes Go.ChangeAt Go.RowKit Go.Lib Go.Maps
def n0:Oper:={ dst:=some 100,op:=Op.move (Operand.tmp 0),type:=80,pos:= "ref.go:229",after:= #[],guard:=none }
def n1:Oper:={ dst:=some 101,op:=Op.nilCheck (Operand.tmp 100),type:=0,pos:= "ref.go:229",after:= #[{ on:=0,ground:=Ground.data }],guard:=none }
def n2:Oper:={ dst:=some 102,op:=Op.fieldAddr 87 (Operand.tmp 101) 10,type:=0,pos:= "ref.go:229",after:= #[{ on:=1,ground:=Ground.data }],guard:=none }
def n3:Oper:={ dst:=some 103,op:=Op.load 84 (Operand.tmp 102),type:=84,pos:= "ref.go:229",after:= #[{ on:=2,ground:=Ground.data }],guard:=none }
def n4:Oper:={ dst:=some 104,op:=Op.fieldAddr 62 (Operand.tmp 3) 3,type:=0,pos:= "ref.go:229",after:= #[],guard:=none }
def n5:Oper:={ dst:=some 105,op:=Op.load 3 (Operand.tmp 104),type:=3,pos:= "ref.go:229",after:= #[{ on:=4,ground:=Ground.data }],guard:=none }
def n6:Oper:={ dst:=some 106,op:=Op.move (Operand.tmp 0),type:=80,pos:= "ref.go:229",after:= #[],guard:=none }
def n7:Oper:={ dst:=some 107,op:=Op.nilCheck (Operand.tmp 106),type:=0,pos:= "ref.go:229",after:= #[{ on:=6,ground:=Ground.data }],guard:=none }
def n8:Oper:={ dst:=some 108,op:=Op.fieldAddr 87 (Operand.tmp 107) 10,type:=0,pos:= "ref.go:229",after:= #[{ on:=7,ground:=Ground.data }],guard:=none }
def n9:Oper:={ dst:=some 109,op:=Op.load 84 (Operand.tmp 108),type:=84,pos:= "ref.go:229",after:= #[{ on:=8,ground:=Ground.data }],guard:=none }
def n10:Oper:={ dst:=some 110,op:=Op.fieldAddr 62 (Operand.tmp 3) 3,type:=0,pos:= "ref.go:229",after:= #[],guard:=none }
def n11:Oper:={ dst:=some 111,op:=Op.load 3 (Operand.tmp 110),type:=3,pos:= "ref.go:229",after:= #[{ on:=10,ground:=Ground.data }],guard:=none }
def n12:Oper:={ dst:=some 112,op:=Op.indexAddr 84 (Operand.tmp 109) (Operand.tmp 111),type:=0,pos:= "ref.go:229",after:= #[{ on:=9,ground:=Ground.data },{ on:=11,ground:=Ground.data }],guard:=none }
def n13:Oper:={ dst:=some 113,op:=Op.load 208 (Operand.tmp 112),type:=208,pos:= "ref.go:229",after:= #[{ on:=12,ground:=Ground.data }],guard:=none }
def n14:Oper:={ dst:=some 114,op:=Op.fieldAddr 62 (Operand.tmp 3) 0,type:=0,pos:= "ref.go:229",after:= #[],guard:=none }
def n15:Oper:={ dst:=some 115,op:=Op.load 3 (Operand.tmp 114),type:=3,pos:= "ref.go:229",after:= #[{ on:=14,ground:=Ground.data }],guard:=none }
def n16:Oper:={ dst:=some 116,op:=Op.fieldAddr 62 (Operand.tmp 3) 0,type:=0,pos:= "ref.go:229",after:= #[],guard:=none }
def n17:Oper:={ dst:=some 117,op:=Op.load 3 (Operand.tmp 116),type:=3,pos:= "ref.go:229",after:= #[{ on:=16,ground:=Ground.data }],guard:=none }
def n18:Oper:={ dst:=some 118,op:=Op.build 210 #[(0,Operand.tmp 115),(1,Operand.tmp 117)],type:=210,pos:= "ref.go:229",after:= #[{ on:=15,ground:=Ground.data },{ on:=17,ground:=Ground.data }],guard:=none }
def n19:Oper:={ dst:=some 119,op:=Op.buildSlice 208 1 #[(0,Operand.tmp 118)],type:=208,pos:= "ref.go:229",after:= #[{ on:=18,ground:=Ground.data }],guard:=none }
def n20:Oper:={ dst:=some 120,op:=Op.call { callee:=Callee.builtin Builtin.append,args:= #[Operand.tmp 113,Operand.tmp 119],argTypes:= #[208,208] },type:=208,pos:= "ref.go:229",after:= #[{ on:=13,ground:=Ground.data },{ on:=19,ground:=Ground.data }],guard:=none }
def n21:Oper:={ dst:=some 121,op:=Op.indexAddr 84 (Operand.tmp 103) (Operand.tmp 105),type:=0,pos:= "ref.go:229",after:= #[{ on:=3,ground:=Ground.data },{ on:=5,ground:=Ground.data },{ on:=0,ground:=Ground.phase },{ on:=1,ground:=Ground.phase },{ on:=2,ground:=Ground.phase },{ on:=3,ground:=Ground.phase },{ on:=4,ground:=Ground.phase },{ on:=5,ground:=Ground.phase },{ on:=6,ground:=Ground.phase },{ on:=7,ground:=Ground.phase },{ on:=8,ground:=Ground.phase },{ on:=9,ground:=Ground.phase },{ on:=10,ground:=Ground.phase },{ on:=11,ground:=Ground.phase },{ on:=12,ground:=Ground.phase },{ on:=13,ground:=Ground.phase },{ on:=14,ground:=Ground.phase },{ on:=15,ground:=Ground.phase },{ on:=16,ground:=Ground.phase },{ on:=17,ground:=Ground.phase },{ on:=18,ground:=Ground.phase },{ on:=19,ground:=Ground.phase },{ on:=20,ground:=Ground.phase }],guard:=none }
def n22:Oper:={ dst:=none,op:=Op.store 208 (Operand.tmp 121) (Operand.tmp 120),type:=0,pos:= "ref.go:229",after:= #[{ on:=21,ground:=Ground.data },{ on:=20,ground:=Ground.data },{ on:=20,ground:=Ground.chain },{ on:=0,ground:=Ground.phase },{ on:=1,ground:=Ground.phase },{ on:=2,ground:=Ground.phase },{ on:=3,ground:=Ground.phase },{ on:=4,ground:=Ground.phase },{ on:=5,ground:=Ground.phase },{ on:=6,ground:=Ground.phase },{ on:=7,ground:=Ground.phase },{ on:=8,ground:=Ground.phase },{ on:=9,ground:=Ground.phase },{ on:=10,ground:=Ground.phase },{ on:=11,ground:=Ground.phase },{ on:=12,ground:=Ground.phase },{ on:=13,ground:=Ground.phase },{ on:=14,ground:=Ground.phase },{ on:=15,ground:=Ground.phase },{ on:=16,ground:=Ground.phase },{ on:=17,ground:=Ground.phase },{ on:=18,ground:=Ground.phase },{ on:=19,ground:=Ground.phase },{ on:=20,ground:=Ground.phase }],guard:=none }
def ops:Array Oper:= #[n0,n1,n2,n3,n4,n5,n6,n7,n8,n9,n10,n11,n12,n13,n14,n15,n16,n17,n18,n19,n20,n21,n22]
def dl:List (Option Nat):=[some 100,some 101,some 102,some 103,some 104,some 105,some 106,some 107,some 108,some 109,some 110,some 111,some 112,some 113,some 114,some 115,some 116,some 117,some 118,some 119,some 120,some 121,none]
theorem dst: ∀i,zal ops i=(dl[i]?).bind id
 | 0=>rfl
 | 1=>rfl
 | 2=>rfl
 | 3=>rfl
 | 4=>rfl
 | 5=>rfl
 | 6=>rfl
 | 7=>rfl
 | 8=>rfl
 | 9=>rfl
 | 10=>rfl
 | 11=>rfl
 | 12=>rfl
 | 13=>rfl
 | 14=>rfl
 | 15=>rfl
 | 16=>rfl
 | 17=>rfl
 | 18=>rfl
 | 19=>rfl
 | 20=>rfl
 | 21=>rfl
 | 22=>rfl
 | n+23=>by simp[zal,ops,dl]
theorem o7: ∀(i:Nat) (o:Oper),ops[i]? = some o->(i=0/\o=n0)\/(i=1/\o=n1)\/(i=2/\o=n2)\/(i=3/\o=n3)\/(i=4/\o=n4)\/(i=5/\o=n5)\/(i=6/\o=n6)\/(i=7/\o=n7)\/(i=8/\o=n8)\/(i=9/\o=n9)\/(i=10/\o=n10)\/(i=11/\o=n11)\/(i=12/\o=n12)\/(i=13/\o=n13)\/(i=14/\o=n14)\/(i=15/\o=n15)\/(i=16/\o=n16)\/(i=17/\o=n17)\/(i=18/\o=n18)\/(i=19/\o=n19)\/(i=20/\o=n20)\/(i=21/\o=n21)\/(i=22/\o=n22)
 | 0,o,h=>by have h2:some n0=some o:=h;cases h2;simp
 | 1,o,h=>by have h2:some n1=some o:=h;cases h2;simp
 | 2,o,h=>by have h2:some n2=some o:=h;cases h2;simp
 | 3,o,h=>by have h2:some n3=some o:=h;cases h2;simp
 | 4,o,h=>by have h2:some n4=some o:=h;cases h2;simp
 | 5,o,h=>by have h2:some n5=some o:=h;cases h2;simp
 | 6,o,h=>by have h2:some n6=some o:=h;cases h2;simp
 | 7,o,h=>by have h2:some n7=some o:=h;cases h2;simp
 | 8,o,h=>by have h2:some n8=some o:=h;cases h2;simp
 | 9,o,h=>by have h2:some n9=some o:=h;cases h2;simp
 | 10,o,h=>by have h2:some n10=some o:=h;cases h2;simp
 | 11,o,h=>by have h2:some n11=some o:=h;cases h2;simp
 | 12,o,h=>by have h2:some n12=some o:=h;cases h2;simp
 | 13,o,h=>by have h2:some n13=some o:=h;cases h2;simp
 | 14,o,h=>by have h2:some n14=some o:=h;cases h2;simp
 | 15,o,h=>by have h2:some n15=some o:=h;cases h2;simp
 | 16,o,h=>by have h2:some n16=some o:=h;cases h2;simp
 | 17,o,h=>by have h2:some n17=some o:=h;cases h2;simp
 | 18,o,h=>by have h2:some n18=some o:=h;cases h2;simp
 | 19,o,h=>by have h2:some n19=some o:=h;cases h2;simp
 | 20,o,h=>by have h2:some n20=some o:=h;cases h2;simp
 | 21,o,h=>by have h2:some n21=some o:=h;cases h2;simp
 | 22,o,h=>by have h2:some n22=some o:=h;cases h2;simp
 | n+23,o,h=>by simp[ops]at h
theorem hN: ∀i j d,zal ops i=some d->zal ops j=some d->i=j:=by
 intro i j d h1 h2
 rw[dst]at h1 h2
 have hi:i<23:=by
  cases h:dl[i]? with
  | none=>rw[h]at h1;cases h1
  | some x=>exact (List.getElem?_eq_some_iff.1 h).1
 have hj:j<23:=by
  cases h:dl[j]? with
  | none=>rw[h]at h2;cases h2
  | some x=>exact (List.getElem?_eq_some_iff.1 h).1
 have key: ∀i,i<23-> ∀j,j<23->((dl[i]?).bind id).isSome=true->(dl[i]?).bind id=(dl[j]?).bind id->i=j:=by decide
 exact key i hi j hj (by rw[h1];rfl) (h1.trans h2.symm)
theorem hlex: ∀(i:Nat) (o:Oper),ops[i]? = some o-> ∀e∈o.after,Region.binds .any e=true->e.on<i:=by
 intro i o h e he hb
 have key: ∀(k:Nat) (p:Oper),(p.after.all fun e=> !Region.binds .any e||decide (e.on<k))=true-> ∀e∈p.after,Region.binds .any e=true->e.on<k:=by
  intro k p hp e he hb
  rw[Array.all_eq_true_iff_forall_mem]at hp
  have:=hp e he
  simpa[hb]using this
 rcases o7 i o h with ⟨rfl,rfl⟩|⟨rfl,rfl⟩|⟨rfl,rfl⟩|⟨rfl,rfl⟩|⟨rfl,rfl⟩|⟨rfl,rfl⟩|⟨rfl,rfl⟩|⟨rfl,rfl⟩|⟨rfl,rfl⟩|⟨rfl,rfl⟩|⟨rfl,rfl⟩|⟨rfl,rfl⟩|⟨rfl,rfl⟩|⟨rfl,rfl⟩|⟨rfl,rfl⟩|⟨rfl,rfl⟩|⟨rfl,rfl⟩|⟨rfl,rfl⟩|⟨rfl,rfl⟩|⟨rfl,rfl⟩|⟨rfl,rfl⟩|⟨rfl,rfl⟩|⟨rfl,rfl⟩
 ·exact key 0 n0 (by simp[n0,Region.binds]) e he hb
 ·exact key 1 n1 (by simp[n1,Region.binds]) e he hb
 ·exact key 2 n2 (by simp[n2,Region.binds]) e he hb
 ·exact key 3 n3 (by simp[n3,Region.binds]) e he hb
 ·exact key 4 n4 (by simp[n4,Region.binds]) e he hb
 ·exact key 5 n5 (by simp[n5,Region.binds]) e he hb
 ·exact key 6 n6 (by simp[n6,Region.binds]) e he hb
 ·exact key 7 n7 (by simp[n7,Region.binds]) e he hb
 ·exact key 8 n8 (by simp[n8,Region.binds]) e he hb
 ·exact key 9 n9 (by simp[n9,Region.binds]) e he hb
 ·exact key 10 n10 (by simp[n10,Region.binds]) e he hb
 ·exact key 11 n11 (by simp[n11,Region.binds]) e he hb
 ·exact key 12 n12 (by simp[n12,Region.binds]) e he hb
 ·exact key 13 n13 (by simp[n13,Region.binds]) e he hb
 ·exact key 14 n14 (by simp[n14,Region.binds]) e he hb
 ·exact key 15 n15 (by simp[n15,Region.binds]) e he hb
 ·exact key 16 n16 (by simp[n16,Region.binds]) e he hb
 ·exact key 17 n17 (by simp[n17,Region.binds]) e he hb
 ·exact key 18 n18 (by simp[n18,Region.binds]) e he hb
 ·exact key 19 n19 (by simp[n19,Region.binds]) e he hb
 ·exact key 20 n20 (by simp[n20,Region.binds]) e he hb
 ·exact key 21 n21 (by simp[n21,Region.binds]) e he hb
 ·exact key 22 n22 (by simp[n22,Region.binds]) e he hb
theorem hg {a0:Act} (hz:a0.tmps.size=169): ∀(i:Nat) (o:Oper),ops[i]? = some o->o.guard=none/\ ∀d,o.dst=some d->d<a0.tmps.size:=by
 intro i o h
 rw[hz]
 rcases o7 i o h with ⟨rfl,rfl⟩|⟨rfl,rfl⟩|⟨rfl,rfl⟩|⟨rfl,rfl⟩|⟨rfl,rfl⟩|⟨rfl,rfl⟩|⟨rfl,rfl⟩|⟨rfl,rfl⟩|⟨rfl,rfl⟩|⟨rfl,rfl⟩|⟨rfl,rfl⟩|⟨rfl,rfl⟩|⟨rfl,rfl⟩|⟨rfl,rfl⟩|⟨rfl,rfl⟩|⟨rfl,rfl⟩|⟨rfl,rfl⟩|⟨rfl,rfl⟩|⟨rfl,rfl⟩|⟨rfl,rfl⟩|⟨rfl,rfl⟩|⟨rfl,rfl⟩|⟨rfl,rfl⟩
 ·exact⟨rfl,fun d hd=>by cases hd;decide⟩
 ·exact⟨rfl,fun d hd=>by cases hd;decide⟩
 ·exact⟨rfl,fun d hd=>by cases hd;decide⟩
 ·exact⟨rfl,fun d hd=>by cases hd;decide⟩
 ·exact⟨rfl,fun d hd=>by cases hd;decide⟩
 ·exact⟨rfl,fun d hd=>by cases hd;decide⟩
 ·exact⟨rfl,fun d hd=>by cases hd;decide⟩
 ·exact⟨rfl,fun d hd=>by cases hd;decide⟩
 ·exact⟨rfl,fun d hd=>by cases hd;decide⟩
 ·exact⟨rfl,fun d hd=>by cases hd;decide⟩
 ·exact⟨rfl,fun d hd=>by cases hd;decide⟩
 ·exact⟨rfl,fun d hd=>by cases hd;decide⟩
 ·exact⟨rfl,fun d hd=>by cases hd;decide⟩
 ·exact⟨rfl,fun d hd=>by cases hd;decide⟩
 ·exact⟨rfl,fun d hd=>by cases hd;decide⟩
 ·exact⟨rfl,fun d hd=>by cases hd;decide⟩
 ·exact⟨rfl,fun d hd=>by cases hd;decide⟩
 ·exact⟨rfl,fun d hd=>by cases hd;decide⟩
 ·exact⟨rfl,fun d hd=>by cases hd;decide⟩
 ·exact⟨rfl,fun d hd=>by cases hd;decide⟩
 ·exact⟨rfl,fun d hd=>by cases hd;decide⟩
 ·exact⟨rfl,fun d hd=>by cases hd;decide⟩
 ·exact⟨rfl,fun d hd=>by cases hd⟩
def val (eb qq sb K M Sn qc:Nat) (qlo:Option Addr) (tk:Int) (x:Nat×Option Addr×Nat):Nat->Value
 | 0=> .pointer (some ⟨sb,0,none⟩)
 | 1=> .pointer (some ⟨sb,0,none⟩)
 | 2=> .pointer (some ⟨sb,13,none⟩)
 | 3=> .slice (some ⟨qq,0,none⟩) Sn Sn
 | 4=> .pointer (some ⟨eb,3,none⟩)
 | 5=> .int .i64 (K:Int)
 | 6=> .pointer (some ⟨sb,0,none⟩)
 | 7=> .pointer (some ⟨sb,0,none⟩)
 | 8=> .pointer (some ⟨sb,13,none⟩)
 | 9=> .slice (some ⟨qq,0,none⟩) Sn Sn
 | 10=> .pointer (some ⟨eb,3,none⟩)
 | 11=> .int .i64 (K:Int)
 | 12=> .pointer (some ⟨qq,K,none⟩)
 | 13=> .slice qlo M qc
 | 14=> .pointer (some ⟨eb,0,none⟩)
 | 15=> .int .i64 tk
 | 16=> .pointer (some ⟨eb,0,none⟩)
 | 17=> .int .i64 tk
 | 18=> .agg #[.int .i64 tk,.int .i64 tk]
 | 19=> .slice (some ⟨x.1,0,none⟩) 1 1
 | 20=> .slice x.2.1 (M+1) x.2.2
 | 21=> .pointer (some ⟨qq,K,none⟩)
 | 22=>undef
 | _=>undef
def pairs (eb qq sb K M Sn qc:Nat) (qlo:Option Addr) (tk:Int) (x:Nat×Option Addr×Nat):List (Nat×Value) :=
 [(100,.pointer (some ⟨sb,0,none⟩)),(101,.pointer (some ⟨sb,0,none⟩)),(102,.pointer (some ⟨sb,13,none⟩)),(103,.slice (some ⟨qq,0,none⟩) Sn Sn),(104,.pointer (some ⟨eb,3,none⟩)),(105,.int .i64 (K:Int)),(106,.pointer (some ⟨sb,0,none⟩)),(107,.pointer (some ⟨sb,0,none⟩)),(108,.pointer (some ⟨sb,13,none⟩)),(109,.slice (some ⟨qq,0,none⟩) Sn Sn),(110,.pointer (some ⟨eb,3,none⟩)),(111,.int .i64 (K:Int)),(112,.pointer (some ⟨qq,K,none⟩)),(113,.slice qlo M qc),(114,.pointer (some ⟨eb,0,none⟩)),(115,.int .i64 tk),(116,.pointer (some ⟨eb,0,none⟩)),(117,.int .i64 tk),(118,.agg #[.int .i64 tk,.int .i64 tk]),(119,.slice (some ⟨x.1,0,none⟩) 1 1),(120,.slice x.2.1 (M+1) x.2.2),(121,.pointer (some ⟨qq,K,none⟩))]
theorem hD (eb qq sb K M Sn qc:Nat) (qlo:Option Addr) (tk:Int) (x:Nat×Option Addr×Nat):((pairs eb qq sb K M Sn qc qlo tk x).map (·.1)).Nodup/\(∀p∈pairs eb qq sb K M Sn qc qlo tk x,∃i,zal ops i=some p.1/\p.2=val eb qq sb K M Sn qc qlo tk x i)/\ ∀i d,zal ops i=some d->(d,val eb qq sb K M Sn qc qlo tk x i)∈pairs eb qq sb K M Sn qc qlo tk x:=by
 refine⟨?_,fun p hp=> ?_,fun i d hd=> ?_⟩
 ·show ([100,101,102,103,104,105,106,107,108,109,110,111,112,113,114,115,116,117,118,119,120,121]:List Nat).Nodup
  decide
 ·simp only[pairs,List.mem_cons,List.not_mem_nil,or_false]at hp
  rcases hp with rfl|rfl|rfl|rfl|rfl|rfl|rfl|rfl|rfl|rfl|rfl|rfl|rfl|rfl|rfl|rfl|rfl|rfl|rfl|rfl|rfl|rfl
  ·exact⟨0,rfl,rfl⟩
  ·exact⟨1,rfl,rfl⟩
  ·exact⟨2,rfl,rfl⟩
  ·exact⟨3,rfl,rfl⟩
  ·exact⟨4,rfl,rfl⟩
  ·exact⟨5,rfl,rfl⟩
  ·exact⟨6,rfl,rfl⟩
  ·exact⟨7,rfl,rfl⟩
  ·exact⟨8,rfl,rfl⟩
  ·exact⟨9,rfl,rfl⟩
  ·exact⟨10,rfl,rfl⟩
  ·exact⟨11,rfl,rfl⟩
  ·exact⟨12,rfl,rfl⟩
  ·exact⟨13,rfl,rfl⟩
  ·exact⟨14,rfl,rfl⟩
  ·exact⟨15,rfl,rfl⟩
  ·exact⟨16,rfl,rfl⟩
  ·exact⟨17,rfl,rfl⟩
  ·exact⟨18,rfl,rfl⟩
  ·exact⟨19,rfl,rfl⟩
  ·exact⟨20,rfl,rfl⟩
  ·exact⟨21,rfl,rfl⟩
 ·have hi: ∃o,ops[i]? = some o:=by
   unfold zal at hd
   cases ho:ops[i]? with
   | none=>rw[ho]at hd;cases hd
   | some o=>exact⟨o,rfl⟩
  obtain⟨o,ho⟩:=hi
  rcases o7 i o ho with ⟨rfl,rfl⟩|⟨rfl,rfl⟩|⟨rfl,rfl⟩|⟨rfl,rfl⟩|⟨rfl,rfl⟩|⟨rfl,rfl⟩|⟨rfl,rfl⟩|⟨rfl,rfl⟩|⟨rfl,rfl⟩|⟨rfl,rfl⟩|⟨rfl,rfl⟩|⟨rfl,rfl⟩|⟨rfl,rfl⟩|⟨rfl,rfl⟩|⟨rfl,rfl⟩|⟨rfl,rfl⟩|⟨rfl,rfl⟩|⟨rfl,rfl⟩|⟨rfl,rfl⟩|⟨rfl,rfl⟩|⟨rfl,rfl⟩|⟨rfl,rfl⟩|⟨rfl,rfl⟩
  ·have e:d=100:=by have:some 100=some d:=hd;cases this;rfl
   subst e
   simp[pairs,val]
  ·have e:d=101:=by have:some 101=some d:=hd;cases this;rfl
   subst e
   simp[pairs,val]
  ·have e:d=102:=by have:some 102=some d:=hd;cases this;rfl
   subst e
   simp[pairs,val]
  ·have e:d=103:=by have:some 103=some d:=hd;cases this;rfl
   subst e
   simp[pairs,val]
  ·have e:d=104:=by have:some 104=some d:=hd;cases this;rfl
   subst e
   simp[pairs,val]
  ·have e:d=105:=by have:some 105=some d:=hd;cases this;rfl
   subst e
   simp[pairs,val]
  ·have e:d=106:=by have:some 106=some d:=hd;cases this;rfl
   subst e
   simp[pairs,val]
  ·have e:d=107:=by have:some 107=some d:=hd;cases this;rfl
   subst e
   simp[pairs,val]
  ·have e:d=108:=by have:some 108=some d:=hd;cases this;rfl
   subst e
   simp[pairs,val]
  ·have e:d=109:=by have:some 109=some d:=hd;cases this;rfl
   subst e
   simp[pairs,val]
  ·have e:d=110:=by have:some 110=some d:=hd;cases this;rfl
   subst e
   simp[pairs,val]
  ·have e:d=111:=by have:some 111=some d:=hd;cases this;rfl
   subst e
   simp[pairs,val]
  ·have e:d=112:=by have:some 112=some d:=hd;cases this;rfl
   subst e
   simp[pairs,val]
  ·have e:d=113:=by have:some 113=some d:=hd;cases this;rfl
   subst e
   simp[pairs,val]
  ·have e:d=114:=by have:some 114=some d:=hd;cases this;rfl
   subst e
   simp[pairs,val]
  ·have e:d=115:=by have:some 115=some d:=hd;cases this;rfl
   subst e
   simp[pairs,val]
  ·have e:d=116:=by have:some 116=some d:=hd;cases this;rfl
   subst e
   simp[pairs,val]
  ·have e:d=117:=by have:some 117=some d:=hd;cases this;rfl
   subst e
   simp[pairs,val]
  ·have e:d=118:=by have:some 118=some d:=hd;cases this;rfl
   subst e
   simp[pairs,val]
  ·have e:d=119:=by have:some 119=some d:=hd;cases this;rfl
   subst e
   simp[pairs,val]
  ·have e:d=120:=by have:some 120=some d:=hd;cases this;rfl
   subst e
   simp[pairs,val]
  ·have e:d=121:=by have:some 121=some d:=hd;cases this;rfl
   subst e
   simp[pairs,val]
  ·cases hd
section
variable (ρ:Operand->Value) (w:World) {eb qq sb K M Sn qc:Nat} {qlo:Option Addr} {tk:Int}
theorem r0 (h0:ρ (.tmp 0)= .pointer (some ⟨sb,0,none⟩)):(execOp ρ n0).run Tryz.prog w= .ok (.value (.pointer (some ⟨sb,0,none⟩))) w:=by
 unfold n0
 go_simp
theorem r1 (h100:ρ (.tmp 100)= .pointer (some ⟨sb,0,none⟩)):(execOp ρ n1).run Tryz.prog w= .ok (.value (.pointer (some ⟨sb,0,none⟩))) w:=by
 unfold n1
 go_simp
theorem r2 (h101:ρ (.tmp 101)= .pointer (some ⟨sb,0,none⟩)):(execOp ρ n2).run Tryz.prog w= .ok (.value (.pointer (some ⟨sb,13,none⟩))) w:=by
 unfold n2
 go_simp
theorem r3 (h102:ρ (.tmp 102)= .pointer (some ⟨sb,13,none⟩)) (c0:w.cell? ⟨sb,13,none⟩=some (.slice (some ⟨qq,0,none⟩) Sn Sn)):(execOp ρ n3).run Tryz.prog w= .ok (.value (.slice (some ⟨qq,0,none⟩) Sn Sn)) w:=by
 unfold n3
 go_simp
theorem r4 (h3:ρ (.tmp 3)= .pointer (some ⟨eb,0,none⟩)):(execOp ρ n4).run Tryz.prog w= .ok (.value (.pointer (some ⟨eb,3,none⟩))) w:=by
 unfold n4
 go_simp
theorem r5 (h104:ρ (.tmp 104)= .pointer (some ⟨eb,3,none⟩)) (c0:w.cell? ⟨eb,3,none⟩=some (.int .i64 (K:Int))):(execOp ρ n5).run Tryz.prog w= .ok (.value (.int .i64 (K:Int))) w:=by
 unfold n5
 go_simp
theorem r6 (h0:ρ (.tmp 0)= .pointer (some ⟨sb,0,none⟩)):(execOp ρ n6).run Tryz.prog w= .ok (.value (.pointer (some ⟨sb,0,none⟩))) w:=by
 unfold n6
 go_simp
theorem r7 (h106:ρ (.tmp 106)= .pointer (some ⟨sb,0,none⟩)):(execOp ρ n7).run Tryz.prog w= .ok (.value (.pointer (some ⟨sb,0,none⟩))) w:=by
 unfold n7
 go_simp
theorem r8 (h107:ρ (.tmp 107)= .pointer (some ⟨sb,0,none⟩)):(execOp ρ n8).run Tryz.prog w= .ok (.value (.pointer (some ⟨sb,13,none⟩))) w:=by
 unfold n8
 go_simp
theorem r9 (h108:ρ (.tmp 108)= .pointer (some ⟨sb,13,none⟩)) (c0:w.cell? ⟨sb,13,none⟩=some (.slice (some ⟨qq,0,none⟩) Sn Sn)):(execOp ρ n9).run Tryz.prog w= .ok (.value (.slice (some ⟨qq,0,none⟩) Sn Sn)) w:=by
 unfold n9
 go_simp
theorem r10 (h3:ρ (.tmp 3)= .pointer (some ⟨eb,0,none⟩)):(execOp ρ n10).run Tryz.prog w= .ok (.value (.pointer (some ⟨eb,3,none⟩))) w:=by
 unfold n10
 go_simp
theorem r11 (h110:ρ (.tmp 110)= .pointer (some ⟨eb,3,none⟩)) (c0:w.cell? ⟨eb,3,none⟩=some (.int .i64 (K:Int))):(execOp ρ n11).run Tryz.prog w= .ok (.value (.int .i64 (K:Int))) w:=by
 unfold n11
 go_simp
theorem r12 (h109:ρ (.tmp 109)= .slice (some ⟨qq,0,none⟩) Sn Sn) (h111:ρ (.tmp 111)= .int .i64 (K:Int)) (hk0:(0:Int)<=(K:Int)) (hk1:(K:Int)<(Sn:Int)):(execOp ρ n12).run Tryz.prog w= .ok (.value (.pointer (some ⟨qq,K,none⟩))) w:=by
 unfold n12
 go_simp
theorem r13 (h112:ρ (.tmp 112)= .pointer (some ⟨qq,K,none⟩)) (c0:w.cell? ⟨qq,K,none⟩=some (.slice qlo M qc)):(execOp ρ n13).run Tryz.prog w= .ok (.value (.slice qlo M qc)) w:=by
 unfold n13
 go_simp
theorem r14 (h3:ρ (.tmp 3)= .pointer (some ⟨eb,0,none⟩)):(execOp ρ n14).run Tryz.prog w= .ok (.value (.pointer (some ⟨eb,0,none⟩))) w:=by
 unfold n14
 go_simp
theorem r15 (h114:ρ (.tmp 114)= .pointer (some ⟨eb,0,none⟩)) (c0:w.cell? ⟨eb,0,none⟩=some (.int .i64 tk)):(execOp ρ n15).run Tryz.prog w= .ok (.value (.int .i64 tk)) w:=by
 unfold n15
 go_simp
theorem r16 (h3:ρ (.tmp 3)= .pointer (some ⟨eb,0,none⟩)):(execOp ρ n16).run Tryz.prog w= .ok (.value (.pointer (some ⟨eb,0,none⟩))) w:=by
 unfold n16
 go_simp
theorem r17 (h116:ρ (.tmp 116)= .pointer (some ⟨eb,0,none⟩)) (c0:w.cell? ⟨eb,0,none⟩=some (.int .i64 tk)):(execOp ρ n17).run Tryz.prog w= .ok (.value (.int .i64 tk)) w:=by
 unfold n17
 go_simp
theorem r18 (h115:ρ (.tmp 115)= .int .i64 tk) (h117:ρ (.tmp 117)= .int .i64 tk):(execOp ρ n18).run Tryz.prog w= .ok (.value (.agg #[.int .i64 tk,.int .i64 tk])) w:=by
 unfold n18
 go_simp
theorem r21 (h103:ρ (.tmp 103)= .slice (some ⟨qq,0,none⟩) Sn Sn) (h105:ρ (.tmp 105)= .int .i64 (K:Int)) (hk0:(0:Int)<=(K:Int)) (hk1:(K:Int)<(Sn:Int)):(execOp ρ n21).run Tryz.prog w= .ok (.value (.pointer (some ⟨qq,K,none⟩))) w:=by
 unfold n21
 go_simp
theorem rA {nm1 nm2:Int} (h:ρ (.tmp 118)= .agg #[.int .i64 nm1,.int .i64 nm2]):(execOp ρ n19).run Tryz.prog w= .ok (.value (.slice (some ⟨w.heap.size,0,none⟩) 1 1)) (w.alloc (.cells #[.int .i64 nm1,.int .i64 nm2] 210)):=by
 unfold n19
 go_simp
theorem rT {lo':Option Addr} {m' c':Nat} {v:Value} (h1:ρ (.tmp 121)= .pointer (some ⟨qq,K,none⟩)) (h2:ρ (.tmp 120)= .slice lo' m' c') (c0:w.cell? ⟨qq,K,none⟩=some v) (f0:w.frozen? ⟨qq,K,none⟩=false):(execOp ρ n22).run Tryz.prog w= .ok .skip (w.setCell ⟨qq,K,none⟩ (.slice lo' m' c')):=by
 unfold n22
 go_simp
end
set_option maxHeartbeats 2000000 in
set_option maxRecDepth 100000 in
theorem reg {Q:Exit->Act->World->Prop} {a0:Act} {w7:World} {id:Nat} {eb qq sb K M Sn qc:Nat} {qlo:Option Addr} {tk:Int} {xs:List (Int×Int)} (hz:a0.tmps.size=169) (t0:env a0 0= .pointer (some ⟨sb,0,none⟩)) (t3:env a0 3= .pointer (some ⟨eb,0,none⟩)) (b_eb:eb<w7.heap.size/\eb∉(qb qlo).toList) (b_qq:qq<w7.heap.size/\qq∉(qb qlo).toList) (b_sb:sb<w7.heap.size/\sb∉(qb qlo).toList) (c13:w7.cell? ⟨sb,13,none⟩=some (.slice (some ⟨qq,0,none⟩) Sn Sn)) (cq:w7.cell? ⟨qq,K,none⟩=some (.slice qlo M qc)) (ct:w7.cell? ⟨eb,0,none⟩=some (.int .i64 tk)) (cs:w7.cell? ⟨eb,3,none⟩=some (.int .i64 (K:Int))) (hk0:(0:Int)<=(K:Int)) (hk1:(K:Int)<(Sn:Int)) (hfz: ∀W,Fr (qb qlo).toList w7 W->W.frozen? ⟨qq,K,none⟩=false) (hQ: ∀W,Fr [] w7 W->QW W qlo M qc xs) (hM:M<=1099511627776)
  (hend: ∀(x:Nat×Option Addr×Nat) W1 w',Fr [] w7 W1->QW w' x.2.1 (M+1) x.2.2 (xs++[(tk,tk)])->Fr (qb qlo).toList W1 w'->(qb x.2.1=qb qlo\/ ∃j,qb x.2.1=some j/\W1.heap.size<=j)->Q .normal (puts a0 (pairs eb qq sb K M Sn qc qlo tk x)) (w'.setCell ⟨qq,K,none⟩ (.slice x.2.1 (M+1) x.2.2))) :
  (Code.region id ops true).wp Tryz.prog Q a0 w7:=by
 refine zfd (val:=val eb qq sb K M Sn qc qlo tk) (W:=Wap w7 19 20 22 qq K qlo M xs tk tk) (pairs eb qq sb K M Sn qc qlo tk) (0,none,0) (by kernel_rfl) hN (hg hz) ?_ hlex (hD eb qq sb K M Sn qc qlo tk) (Wap.start w7 _) ?_
 ·intro ii o ho x L a w hLi hdl hcl hdv hsame hza hW
  have hno: ∀t,some t∉dl->env a t=env a0 t:=fun t ht=>hsame t (fun j hj=>by
   rw[dst]at hj
   cases h:dl[j]? with
   | none=>rw[h]at hj;cases hj
   | some y=>rw[h]at hj;exact ht (List.mem_of_getElem? (by rw[h];exact congrArg some hj)))
  have s0:env a 0= .pointer (some ⟨sb,0,none⟩):=(hno 0 (by decide)).trans t0
  have s3:env a 3= .pointer (some ⟨eb,0,none⟩):=(hno 3 (by decide)).trans t3
  rcases o7 ii o ho with ⟨rfl,rfl⟩|⟨rfl,rfl⟩|⟨rfl,rfl⟩|⟨rfl,rfl⟩|⟨rfl,rfl⟩|⟨rfl,rfl⟩|⟨rfl,rfl⟩|⟨rfl,rfl⟩|⟨rfl,rfl⟩|⟨rfl,rfl⟩|⟨rfl,rfl⟩|⟨rfl,rfl⟩|⟨rfl,rfl⟩|⟨rfl,rfl⟩|⟨rfl,rfl⟩|⟨rfl,rfl⟩|⟨rfl,rfl⟩|⟨rfl,rfl⟩|⟨rfl,rfl⟩|⟨rfl,rfl⟩|⟨rfl,rfl⟩|⟨rfl,rfl⟩|⟨rfl,rfl⟩
  ·exact zak (r0 _ _ s0) (hW.read (by decide) (by decide) (by decide))
  ·exact zak (r1 _ _ (hdv 0 100 (by simp[dep,ops,n1,Region.binds]) rfl)) (hW.read (by decide) (by decide) (by decide))
  ·exact zak (r2 _ _ (hdv 1 101 (by simp[dep,ops,n2,Region.binds]) rfl)) (hW.read (by decide) (by decide) (by decide))
  ·have hT:L 22=false:=by
    cases h:L 22 with
    | false=>rfl
    | true=>have:=hcl 22 3 h (by simp[dep,ops,n22,Region.binds]);rw[hLi]at this;cases this
   exact zak (r3 _ _ (hdv 2 102 (by simp[dep,ops,n3,Region.binds]) rfl) (hW.cell hT b_sb.1 b_sb.2 c13)) (hW.read (by decide) (by decide) (by decide))
  ·exact zak (r4 _ _ s3) (hW.read (by decide) (by decide) (by decide))
  ·have hT:L 22=false:=by
    cases h:L 22 with
    | false=>rfl
    | true=>have:=hcl 22 5 h (by simp[dep,ops,n22,Region.binds]);rw[hLi]at this;cases this
   exact zak (r5 _ _ (hdv 4 104 (by simp[dep,ops,n5,Region.binds]) rfl) (hW.cell hT b_eb.1 b_eb.2 cs)) (hW.read (by decide) (by decide) (by decide))
  ·exact zak (r6 _ _ s0) (hW.read (by decide) (by decide) (by decide))
  ·exact zak (r7 _ _ (hdv 6 106 (by simp[dep,ops,n7,Region.binds]) rfl)) (hW.read (by decide) (by decide) (by decide))
  ·exact zak (r8 _ _ (hdv 7 107 (by simp[dep,ops,n8,Region.binds]) rfl)) (hW.read (by decide) (by decide) (by decide))
  ·have hT:L 22=false:=by
    cases h:L 22 with
    | false=>rfl
    | true=>have:=hcl 22 9 h (by simp[dep,ops,n22,Region.binds]);rw[hLi]at this;cases this
   exact zak (r9 _ _ (hdv 8 108 (by simp[dep,ops,n9,Region.binds]) rfl) (hW.cell hT b_sb.1 b_sb.2 c13)) (hW.read (by decide) (by decide) (by decide))
  ·exact zak (r10 _ _ s3) (hW.read (by decide) (by decide) (by decide))
  ·have hT:L 22=false:=by
    cases h:L 22 with
    | false=>rfl
    | true=>have:=hcl 22 11 h (by simp[dep,ops,n22,Region.binds]);rw[hLi]at this;cases this
   exact zak (r11 _ _ (hdv 10 110 (by simp[dep,ops,n11,Region.binds]) rfl) (hW.cell hT b_eb.1 b_eb.2 cs)) (hW.read (by decide) (by decide) (by decide))
  ·exact zak (r12 _ _ (hdv 9 109 (by simp[dep,ops,n12,Region.binds]) rfl) (hdv 11 111 (by simp[dep,ops,n12,Region.binds]) rfl) hk0 hk1) (hW.read (by decide) (by decide) (by decide))
  ·have hT:L 22=false:=by
    cases h:L 22 with
    | false=>rfl
    | true=>have:=hcl 22 13 h (by simp[dep,ops,n22,Region.binds]);rw[hLi]at this;cases this
   exact zak (r13 _ _ (hdv 12 112 (by simp[dep,ops,n13,Region.binds]) rfl) (hW.cell hT b_qq.1 b_qq.2 cq)) (hW.read (by decide) (by decide) (by decide))
  ·exact zak (r14 _ _ s3) (hW.read (by decide) (by decide) (by decide))
  ·have hT:L 22=false:=by
    cases h:L 22 with
    | false=>rfl
    | true=>have:=hcl 22 15 h (by simp[dep,ops,n22,Region.binds]);rw[hLi]at this;cases this
   exact zak (r15 _ _ (hdv 14 114 (by simp[dep,ops,n15,Region.binds]) rfl) (hW.cell hT b_eb.1 b_eb.2 ct)) (hW.read (by decide) (by decide) (by decide))
  ·exact zak (r16 _ _ s3) (hW.read (by decide) (by decide) (by decide))
  ·have hT:L 22=false:=by
    cases h:L 22 with
    | false=>rfl
    | true=>have:=hcl 22 17 h (by simp[dep,ops,n22,Region.binds]);rw[hLi]at this;cases this
   exact zak (r17 _ _ (hdv 16 116 (by simp[dep,ops,n17,Region.binds]) rfl) (hW.cell hT b_eb.1 b_eb.2 ct)) (hW.read (by decide) (by decide) (by decide))
  ·exact zak (r18 _ _ (hdv 15 115 (by simp[dep,ops,n18,Region.binds]) rfl) (hdv 17 117 (by simp[dep,ops,n18,Region.binds]) rfl)) (hW.read (by decide) (by decide) (by decide))
  ·have hT:L 22=false:=by
    cases h:L 22 with
    | false=>rfl
    | true=>have:=hcl 22 19 h (by simp[dep,ops,n22,Region.binds]);rw[hLi]at this;cases this
   have hP:L 20=false:=by
    cases h:L 20 with
    | false=>rfl
    | true=>have:=hcl 20 19 h (by simp[dep,ops,n20,Region.binds]);rw[hLi]at this;cases this
   have hb:=(hdv 18 118 (by simp[dep,ops,n19,Region.binds]) rfl)
   have hr:=rA a.eval w (nm1:=tk) (nm2:=tk) hb
   unfold Oper.wp
   rw[hr]
   refine⟨(w.heap.size,x.2),rfl,fun j hj=> ?_,hW.made hT hP (by decide) (by decide)⟩
   by_cases e:j=19
   ·subst e;rw[hLi]at hj;cases hj
   ·unfold val
    split<;>first|rfl|omega
  ·have hT:L 22=false:=by
    cases h:L 22 with
    | false=>rfl
    | true=>have:=hcl 22 20 h (by simp[dep,ops,n22,Region.binds]);rw[hLi]at this;cases this
   have hA:L 19=true:=hdl 19 (by simp[dep,ops,n20,Region.binds])
   have e1:a.eval (.tmp 113)= .slice qlo M qc:=(hdv 13 113 (by simp[dep,ops,n20,Region.binds]) rfl)
   have e2:a.eval (.tmp 119)= .slice (some ⟨x.1,0,none⟩) 1 1:=(hdv 19 119 (by simp[dep,ops,n20,Region.binds]) rfl)
   obtain⟨lo',c',w2,r1,r2⟩:=hW.app hT hLi hA (by decide) hQ hM n20.type
   unfold Oper.wp execOp
   simp only[n20,resolve,invoke,builtin,Sem.run_bind,Sem.run_pure,Result.andThen_ok,List.map_toArray,List.map_cons,List.map_nil,e1,e2]
   have r1':(Builtin.append_ #[208,208] 208 #[.slice qlo M qc,.slice (some ⟨x.1,0,none⟩) 1 1]).run Tryz.prog w= .ok (.slice lo' (M+1) c') w2:=r1
   rw[r1']
   refine⟨(x.1,lo',c'),rfl,fun j hj=> ?_,r2⟩
   by_cases e:j=20
   ·subst e;rw[hLi]at hj;cases hj
   ·unfold val
    split<;>first|rfl|omega
  ·exact zak (r21 _ _ (hdv 3 103 (by simp[dep,ops,n21,Region.binds]) rfl) (hdv 5 105 (by simp[dep,ops,n21,Region.binds]) rfl) hk0 hk1) (hW.read (by decide) (by decide) (by decide))
  ·have hP:L 20=true:=hdl 20 (by simp[dep,ops,n22,Region.binds])
   have e1:a.eval (.tmp 121)= .pointer (some ⟨qq,K,none⟩):=(hdv 21 121 (by simp[dep,ops,n22,Region.binds]) rfl)
   have e2:a.eval (.tmp 120)= .slice x.2.1 (M+1) x.2.2:=(hdv 20 120 (by simp[dep,ops,n22,Region.binds]) rfl)
   have cq:=hW.cell hLi b_qq.1 b_qq.2 cq
   have fq:=hfz _ (hW.fr hLi)
   have hr:=rT a.eval w e1 e2 cq fq
   unfold Oper.wp
   rw[hr]
   exact⟨x,rfl,fun j hj=>rfl,hW.store hLi hP (by decide) (by decide)⟩
 ·intro x L w hL hW
  obtain⟨W1,w',a1,a2,a3,a4,e⟩:=hW.fin (hL 22 (by decide))
  rw[e]
  exact hend x W1 w' a1 a2 a3 a4
end Go.Proofs.YtaaghcimfcjehaaGreatDoor.Rc
