/- Contracts and lemmas. -/
import Derived.Test.YtojjdnjfaelnfaaGreatDoorGp2
import Derived.Lib.TrailingZeros
set_option linter.unusedSimpArgs false
set_option linter.unusedVariables false
namespace Go.Proofs.YtojjdnjfaelnfaaGreatDoor
open Go.ChangeShapes Go.WideShapes Go.ChangeAt Go.RowKit Go.Lib Go.Proofs.Tryz
section
variable{ρ:Operand->Value}{w:World}{o:Oper}
theorem zcg(x:Operand)(ho:o.op=.move x):(execOp ρ o).run prog w=.ok (.value (ρ x)) w:=by
 obtain⟨d,op,ty,ps,af,gd⟩:=o;simp only at ho;subst ho
 go_simp
theorem zbp(x:Operand)(ho:o.op=.assign x):(execOp ρ o).run prog w=.ok (.value (ρ x)) w:=by
 obtain⟨d,op,ty,ps,af,gd⟩:=o;simp only at ho;subst ho
 go_simp
theorem zph{l s x q:Value}{b:Nat}(y:Operand)(ho:o.op=.load 23 y)(hy:ρ y=.pointer (some ⟨b,0,none⟩))(c0:w.cell? ⟨b,0,none⟩=some l)(c1:w.cell? ⟨b,1,none⟩=some s)(c2:w.cell? ⟨b,2,none⟩=some x)(c3:w.cell? ⟨b,3,none⟩=some q):(execOp ρ o).run prog w=.ok (.value (.agg #[l,s,x,q])) w:=by
 obtain⟨d,op,ty,ps,af,gd⟩:=o;simp only at ho;subst ho
 go_simp
theorem zbg{P:Program}{f:Nat}{args:Array Value}{a:Act}{K:Act->World->Prop}{Q:Exit->Act->World->Prop}(hr:(execOp a.eval o).run P w=.ok (.enter f args) w)(h:Calls P f args w fun e w'=>∃v,e=.returned v/\K (a.put o.dst v) w'):o.wp P a w K Q:=by
 unfold Oper.wp;rw[hr];refine Calls.mono h ?_;rintro e w'⟨v,rfl,hk⟩;exact hk
end
structure Part where
 M:World->Prop
 O:World->Nat->Prop
structure Part.Ok(p:Part)(w0:World):Prop where
 lt:∀w b,p.M w->p.O w b->w0.heap.size<=b/\b<w.heap.size
 keep:∀S w w',p.M w->Fr [] w0 w->Fr S w w'->(∀b∈S,b<w.heap.size->w0.heap.size<=b/\¬p.O w b)->p.M w'/\∀b,p.O w' b->p.O w b
structure Mach{ι:Type}(w0 w:World)(P:ι->Part):Prop where
 ok:∀i,(P i).Ok w0
 m:∀i,(P i).M w
 ap:∀i j b,(P i).O w b->(P j).O w b->i=j
 fr:Fr [] w0 w
structure Mx{ι:Type}(w:World)(P:ι->Part)(w':World)(P':ι->Part):Prop where
 fr:∃S,Fr S w w'/\∀b∈S,b<w.heap.size->∃i,(P i).O w b
 sub:∀i b,(P' i).O w' b->(∃j,(P j).O w b)\/w.heap.size<=b
section
variable{ι:Type}{w0 w w':World}{P P':ι->Part}{S:List Nat}
theorem Fr.within(hf:Fr S w w')(h0:Fr [] w0 w)(hS:∀b∈S,b<w.heap.size->w0.heap.size<=b):Fr [] w0 w':=
 h0.trans (hf.mono (T:=S.filter fun b=>decide (b<w.heap.size)) fun x hx hl=>List.mem_filter.2 ⟨hx,by simpa using hl⟩) (fun _ x _=>x) (fun x hx hl=>by
  obtain⟨a,b⟩:=List.mem_filter.1 hx;have:=hS x a (by simpa using b);omega)
theorem Mach.step(h:Mach w0 w P)(A:ι->Prop)(hf:Fr S w w')(hS:∀b∈S,b<w.heap.size->∃i,A i/\(P i).O w b)(hsame:∀i,¬A i->P' i=P i)(hok:∀i,A i->(P' i).Ok w0)(hm:∀i,A i->(P' i).M w')(hO:∀i,A i->∀b,(P' i).O w' b->(∃j,A j/\(P j).O w b)\/w.heap.size<=b)(hap:∀i j b,A i->A j->(P' i).O w' b->(P' j).O w' b->i=j):Mach w0 w' P'/\Mx w P w' P':=by
 classical
 have hold:∀i,¬A i->(P i).M w'/\∀b,(P i).O w' b->(P i).O w b:=fun i hi=>(h.ok i).keep S w w' (h.m i) h.fr hf fun b hb hl=>by
  obtain⟨j,h1,h2⟩:=hS b hb hl;exact⟨((h.ok j).lt w b (h.m j) h2).1,fun h3=>hi (by rw[h.ap i j b h3 h2];exact h1)⟩
 refine⟨⟨fun i=> ?_,fun i=> ?_,fun i j b h1 h2=> ?_,hf.within h.fr fun b hb hl=> ?_⟩,⟨⟨S,hf,fun b hb hl=> ?_⟩,fun i b hb=> ?_⟩⟩
 .by_cases hi:A i
  .exact hok i hi
  rw[hsame i hi];exact h.ok i
 .by_cases hi:A i
  .exact hm i hi
  rw[hsame i hi];exact (hold i hi).1
 .by_cases hi:A i<;>by_cases hj:A j
  .exact hap i j b hi hj h1 h2
  .rw[hsame j hj]at h2
   have k2:=(hold j hj).2 b h2;rcases hO i hi b h1 with⟨k,ka,k1⟩|k1
   .exact absurd ka (by rw[h.ap k j b k1 k2];exact hj)
   have:=((h.ok j).lt w b (h.m j) k2).2;omega
  .rw[hsame i hi]at h1
   have k1:=(hold i hi).2 b h1;rcases hO j hj b h2 with⟨k,ka,k2⟩|k2
   .exact absurd ka (by rw[h.ap k i b k2 k1];exact hi)
   have:=((h.ok i).lt w b (h.m i) k1).2;omega
  rw[hsame i hi]at h1
  rw[hsame j hj]at h2
  exact h.ap i j b ((hold i hi).2 b h1) ((hold j hj).2 b h2)
 .obtain⟨j,h1,h2⟩:=hS b hb hl;exact ((h.ok j).lt w b (h.m j) h2).1
 .obtain⟨j,_,h2⟩:=hS b hb hl;exact⟨j,h2⟩
 by_cases hi:A i
 .exact (hO i hi b hb).imp (fun⟨j,_,x⟩=>⟨j,x⟩) id
 rw[hsame i hi]at hb
 exact Or.inl ⟨i,(hold i hi).2 b hb⟩
theorem Mach.one(h:Mach w0 w P)(i:ι)(p:Part)(hf:Fr S w w')(hS:∀b∈S,b<w.heap.size->(P i).O w b)(hsame:∀j,j≠i->P' j=P j)(hP:P' i=p)(hok:p.Ok w0)(hm:p.M w')(hO:∀b,p.O w' b->(P i).O w b\/w.heap.size<=b):Mach w0 w' P'/\Mx w P w' P':=
 h.step (fun j=>j=i) hf (fun b hb hl=>⟨i,rfl,hS b hb hl⟩) (fun j hj=>hsame j hj) (fun j hj=>by rw[hj,hP];exact hok) (fun j hj=>by rw[hj,hP];exact hm)
  (fun j hj b hb=>by rw[hj,hP]at hb;exact (hO b hb).imp (fun x=>⟨i,rfl,x⟩) id) (fun a b _ ha hb _ _=>ha.trans hb.symm)
theorem Mach.quiet2(h:Mach w0 w P)(hf:Fr [] w w'):Mach w0 w' P/\Mx w P w' P:=
 h.step (fun _=>False) hf (by simp) (fun _ _=>rfl) (fun _ h=>h.elim) (fun _ h=>h.elim) (fun _ h=>h.elim) (fun _ _ _ h=>h.elim)
theorem Mach.quiet(h:Mach w0 w P)(hf:Fr [] w w'):Mach w0 w' P:=(h.quiet2 hf).1
variable{w'':World}{P'':ι->Part}
theorem Mx.size(h:Mx w P w' P'):w.heap.size<=w'.heap.size:=by
 obtain⟨S,hf,_⟩:=h.fr;exact hf.size
theorem Mx.trans(h:Mx w P w' P')(k:Mx w' P' w'' P''):Mx w P w'' P'':=by
 obtain⟨S,hf,hS⟩:=h.fr;obtain⟨U,kf,kS⟩:=k.fr;refine⟨⟨S++U.filter (fun b=>decide (b<w.heap.size)),hf.trans kf (fun x hx _=>List.mem_append_left _ hx) (fun x hx hl=>List.mem_append_right _ (List.mem_filter.2 ⟨hx,by simpa using hl⟩)),fun b hb hl=> ?_⟩,fun i b hb=> ?_⟩
 .rcases List.mem_append.1 hb with e|e
  .exact hS b e hl
  obtain⟨e1,e2⟩:=List.mem_filter.1 e;obtain⟨i,hi⟩:=kS b e1 (Nat.lt_of_lt_of_le hl hf.size);rcases h.sub i b hi with h3|h3
  .exact h3
  omega
 rcases k.sub i b hb with⟨j,h3⟩|h3
 .exact h.sub j b h3
 exact Or.inr (Nat.le_trans h.size h3)
theorem Mx.keep(h:Mx w P w' P'){b:Nat}{o:Obj}(hb:w.heap[b]? = some o)(hn:∀i,¬(P i).O w b):w'.heap[b]? = some o:=by
 obtain⟨S,hf,hS⟩:=h.fr;exact hf.keep hb (fun hm=>by obtain⟨i,hi⟩:=hS b hm (lt_of_block hb);exact hn i hi)
theorem Mx.not(h:Mx w P w' P'){b:Nat}(hb:b<w.heap.size)(hn:∀i,¬(P i).O w b):∀i,¬(P' i).O w' b:=fun i hi=>by
 rcases h.sub i b hi with⟨j,h1⟩|h1
 .exact hn j h1
 omega
theorem Mx.from(h:Mx w' P w'' P'')(hf:Fr [] w w')(hO:∀i b,(P i).O w' b->(P' i).O w b\/w.heap.size<=b):Mx w P' w'' P'':=by
 obtain⟨S,kf,kS⟩:=h.fr;refine⟨⟨S.filter (fun b=>decide (b<w.heap.size)),hf.trans kf (by simp) (fun x hx hl=>List.mem_filter.2 ⟨hx,by simpa using hl⟩),fun b hb hl=> ?_⟩,fun i b hb=> ?_⟩
 .obtain⟨e1,e2⟩:=List.mem_filter.1 hb;obtain⟨i,hi⟩:=kS b e1 (Nat.lt_of_lt_of_le hl hf.size);rcases hO i b hi with h3|h3
  .exact⟨i,h3⟩
  omega
 rcases h.sub i b hb with⟨j,h3⟩|h3
 .exact (hO j b h3).imp (fun x=>⟨j,x⟩) id
 exact Or.inr (Nat.le_trans hf.size h3)
end
def Ris(xs:List Int):Prop:=xs.Pairwise fun a b=>a<b
theorem Ris.one:∀{xs ys:List Int},Ris xs->Ris ys->(∀x,x∈xs↔x∈ys)->xs=ys
 | [],[],_,_,_=>rfl
 | [],y::r,_,_,h=>absurd ((h y).2 (by simp)) (by simp)
 |x::r,[],_,_,h=>absurd ((h x).1 (by simp)) (by simp)
 |x::r,y::s,hx,hy,h=>by
  have hx':=List.pairwise_cons.1 hx;have hy':=List.pairwise_cons.1 hy;have e:x=y:=by
   rcases List.mem_cons.1 ((h x).1 (by simp)) with e|e
   .exact e
   rcases List.mem_cons.1 ((h y).2 (by simp)) with e2|e2
   .exact e2.symm
   have:=hy'.1 x e;have:=hx'.1 y e2;omega
  subst e;have e2:r=s:=Ris.one hx'.2 hy'.2 (fun z=>by
   have hz:=h z;simp only[List.mem_cons]at hz;constructor
   .intro h1;rcases hz.1 (Or.inr h1) with e|e
    .have:=hx'.1 z h1;omega
    exact e
   intro h1;rcases hz.2 (Or.inr h1) with e|e
   .have:=hy'.1 z h1;omega
   exact e)
  rw[e2]
theorem Ris.snoc{xs:List Int}{n:Int}(h:Ris xs)(hn:∀x∈xs,x<n):Ris (xs++[n]):=
 List.pairwise_append.2 ⟨h,List.pairwise_singleton _ _,fun a ha b hb=>by simp at hb;subst hb;exact hn a ha⟩
theorem Ris.filter{xs:List Int}(h:Ris xs)(p:Int->Bool):Ris (xs.filter p):=List.Pairwise.sublist List.filter_sublist h
theorem Ris.few{xs:List Int}(h:Ris xs){a:Int}{n:Nat}(hb:∀x∈xs,a<=x/\x<a+n):xs.length<=n:=by
 induction xs generalizing a n with
 |nil=>simp
 |cons x r ih=>
  have h':=List.pairwise_cons.1 h;obtain⟨h1,h2⟩:=hb x (by simp);have:=ih h'.2 (a:=x+1) (n:=n-1) (fun y hy=>by
   have:=h'.1 y hy;have:=hb y (by simp[hy]);omega)
  simp only[List.length_cons];omega
abbrev Lg:=List (Int×List ByteArray)
open Classical in
noncomputable def lst (L:Lg) (k:ByteArray):Int:=L.foldl (fun a p=>if k∈p.2 then p.1 else a) 0
open Classical in
theorem zkk(L:Lg)(p:Int×List ByteArray)(k:ByteArray):lst (L++[p]) k=if k∈p.2 then p.1 else lst L k:=by
 simp[lst,List.foldl_append]
structure RisL(L:Lg):Prop where
 ris:Ris (L.map (·.1))
 pos:∀p∈L,1<=p.1
theorem RisL.init{L:Lg}{p:Int×List ByteArray}(h:RisL (L++[p])):RisL L/\(∀q∈L,q.1<p.1)/\1<=p.1:=by
 have hr:=h.ris;rw[List.map_append]at hr
 obtain⟨h1,_,h3⟩:=List.pairwise_append.1 hr;exact⟨⟨h1,fun q hq=>h.pos q (by simp[hq])⟩,fun q hq=>h3 q.1 (List.mem_map.2 ⟨q,hq,rfl⟩) p.1 (by simp),h.pos p (by simp)⟩
theorem RisL.nil:RisL []:=⟨List.Pairwise.nil,by simp⟩
theorem RisL.snoc{L:Lg}{p:Int×List ByteArray}(h:RisL L)(h1:∀q∈L,q.1<p.1)(h2:1<=p.1):RisL (L++[p]):=by
 refine⟨?_,fun q hq=> ?_⟩
 .rw[List.map_append];exact Ris.snoc h.ris (fun x hx=>by obtain⟨q,hq,rfl⟩:=List.mem_map.1 hx;exact h1 q hq)
 rcases List.mem_append.1 hq with h3|h3
 .exact h.pos q h3
 simp at h3;subst h3;exact h2
theorem zadm{P:Lg->Prop}(h0:P [])(h1:∀L p,P L->P (L++[p]))(L:Lg):P L:=by
 have:∀n (L:Lg),L.length=n->P L:=by
  intro n;induction n with
  |zero=>intro L hL;rw[List.eq_nil_of_length_eq_zero hL];exact h0
  |succ n ih=>
   intro L hL;have hne:L≠[]:=fun e=>by rw[e]at hL;cases hL
   rw[<-List.dropLast_concat_getLast hne];exact h1 _ _ (ih _ (by rw[List.length_dropLast,hL];rfl))
 exact this _ L rfl
theorem zhb(L:Lg)(k:ByteArray):RisL L->lst L k≠0->(∃ks,(lst L k,ks)∈L/\k∈ks):=by
 refine zadm (P:=fun L=>RisL L->lst L k≠0->(∃ks,(lst L k,ks)∈L/\k∈ks)) ?_ ?_ L
 .intro _ h;exact absurd rfl h
 intro L p ih hr h;rw[zkk]at h ⊢
 by_cases hk:k∈p.2
 .rw[if_pos hk];exact⟨p.2,by simp,hk⟩
 rw[if_neg hk]at h ⊢
 obtain⟨ks,h1,h2⟩:=ih hr.init.1 h;exact⟨ks,by simp[h1],h2⟩
theorem zahn(L:Lg)(k:ByteArray):RisL L->∀q∈L,k∈q.2->q.1<=lst L k:=by
 refine zadm (P:=fun L=>RisL L->∀q∈L,k∈q.2->q.1<=lst L k) (by simp) ?_ L;intro L p ih hr q hq hk;rw[zkk];obtain⟨h1,h2,h3⟩:=hr.init;rcases List.mem_append.1 hq with h4|h4
 .split
  .have:=h2 q h4;omega
  exact ih h1 q h4 hk
 simp at h4;subst h4;rw[if_pos hk];exact Int.le_refl _
def Dep(L:Lg)(n m:Int):Prop:=∃A ks C,L=A++(n,ks)::C/\m≠0/\∃k∈ks,lst A k=m
theorem zcm(L:Lg)(p:Int×List ByteArray)(a m:Int):Dep (L++[p]) a m↔Dep L a m\/(a=p.1/\m≠0/\∃k∈p.2,lst L k=m):=by
 constructor
 .rintro⟨A,ks,C,e,h1,h2⟩;rcases List.eq_nil_or_concat C with rfl|⟨C',q,rfl⟩
  .have:=List.append_inj' e rfl;obtain⟨rfl,e2⟩:=this;simp at e2;subst e2;exact Or.inr ⟨rfl,h1,h2⟩
  have e':L++[p]=(A++(a,ks)::C')++[q]:=by simp[e]
  obtain⟨rfl,_⟩:=List.append_inj' e' rfl;exact Or.inl ⟨A,ks,C',rfl,h1,h2⟩
 rintro (⟨A,ks,C,rfl,h1,h2⟩|⟨rfl,h1,h2⟩)
 .exact⟨A,ks,C++[p],by simp,h1,h2⟩
 exact⟨L,p.2,[],rfl,h1,h2⟩
def Nr(L:Lg)(a b:Int):Prop:=∃p∈L,∃q∈L,p.1=a/\q.1=b/\∃k,k∈p.2/\k∈q.2
theorem RisL.front{A C:Lg}{p:Int×List ByteArray}(h:RisL (A++p::C)):RisL A/\(∀q∈A,q.1<p.1)/\(∀q∈C,p.1<q.1):=by
 have hr:=h.ris;rw[List.map_append,List.map_cons]at hr
 obtain⟨h1,h2,h3⟩:=List.pairwise_append.1 hr;refine⟨⟨h1,fun q hq=>h.pos q (by simp[hq])⟩,fun q hq=>h3 q.1 (List.mem_map.2 ⟨q,hq,rfl⟩) p.1 (by simp),fun q hq=> ?_⟩;exact (List.pairwise_cons.1 h2).1 q.1 (List.mem_map.2 ⟨q,hq,rfl⟩)
theorem Dep.lt{L:Lg}(hr:RisL L){n m:Int}(h:Dep L n m):1<=m/\m<n/\Nr L m n:=by
 obtain⟨A,ks,C,rfl,h1,k,hk,rfl⟩:=h;obtain⟨ha,h2,_⟩:=hr.front;obtain⟨js,h3,h4⟩:=zhb A k ha h1;exact⟨ha.pos _ h3,h2 _ h3,(lst A k,js),by simp[h3],(n,ks),by simp,rfl,rfl,k,h4,hk⟩
theorem zaho{L:Lg}(hr:RisL L){i n:Int}(h:Nr L i n)(hlt:i<n):∃m,i<=m/\Dep L n m/\(i=m\/(i<m/\Nr L i m)):=by
 obtain⟨⟨i',is⟩,hp,⟨n',ks⟩,hq,rfl,rfl,k,h1,h2⟩:=h;simp only at *;obtain⟨A,C,rfl⟩:=List.append_of_mem hq;obtain⟨ha,h3,h4⟩:=hr.front;have hpA:(i',is)∈A:=by
  rcases List.mem_append.1 hp with h5|h5
  .exact h5
  rcases List.mem_cons.1 h5 with h6|h6
  .cases h6;omega
  have:=h4 _ h6;simp only at this;omega
 have hge:=zahn A k ha _ hpA h1;have hpos:=ha.pos _ hpA;simp only at hge hpos;refine⟨lst A k,hge,⟨A,ks,C,rfl,by omega,k,h2,rfl⟩,?_⟩;rcases Int.lt_or_eq_of_le hge with h5|h5
 .obtain⟨js,h6,h7⟩:=zhb A k ha (by omega);exact Or.inr ⟨h5,(i',is),by simp[hpA],(lst A k,js),by simp[h6],rfl,rfl,k,h1,h7⟩
 exact Or.inl h5
structure Dt where
 last:ByteArray->Int
 newest:Int
 op:Int->Prop
 ah:Int->List Int
 bh:Int->List Int
 wt:Int->Int->Prop
def Dt.none:Dt:=⟨fun _=>0,0,fun _=>False,fun _=>[],fun _=>[],fun _ _=>False⟩
structure Inv(D:Dt)(L:Lg)(en:Int->Prop):Prop where
 ris:RisL L
 last:∀k,D.last k=lst L k
 new:(∀p∈L,p.1<=D.newest)/\0<=D.newest
 tip:D.newest=0\/∃p∈L,p.1=D.newest
 op:∀n,D.op n↔(∃p∈L,p.1=n)/\¬en n
 ah:∀n,D.op n->Ris (D.ah n)/\(∀m∈D.ah n,Dep L n m)/\∀m,Dep L n m->D.op m->m∈D.ah n
 bh:∀m,D.op m->Ris (D.bh m)/\∀n,n∈D.bh m↔D.op n/\Dep L n m
 wt:∀n m,D.wt n m↔D.op n/\D.op m/\Dep L n m
 ended:∀n,en n->∃p∈L,p.1=n
 order:∀n,en n->∀i,i<n->Nr L i n->en i
theorem Inv.none:Inv Dt.none [] (fun _=>False):=
 ⟨RisL.nil,fun k=>rfl,⟨by simp,Int.le_refl _⟩,Or.inl rfl,fun n=>by simp[Dt.none],fun n h=>h.elim,fun n h=>h.elim,fun n m=>by simp[Dt.none],fun n h=>h.elim,fun n h=>h.elim⟩
theorem Inv.free{D:Dt}{L:Lg}{en:Int->Prop}(h:Inv D L en){n:Int}(hn:D.op n)(hf:∀m,D.op m->¬Dep L n m){i:Int}(hi:i<n)(hr:Nr L i n):en i:=by
 obtain⟨m,h1,h2,h3⟩:=zaho h.ris hr hi;have hme:en m:=Classical.byContradiction fun hm=>hf m ((h.op m).2 ⟨by obtain⟨_,_,p,hp,_,_,e,_⟩:=h2.lt h.ris;exact⟨p,hp,e⟩,hm⟩) h2;rcases h3 with rfl|⟨h3,h4⟩
 .exact hme
 exact h.order m hme i h3 h4
def AhT(D:Dt)(ks:List ByteArray)(xs:List Int):Prop:=Ris xs/\∀m,m∈xs↔D.op m/\∃k∈ks,D.last k=m
open Classical in
noncomputable def Dt.add (D:Dt) (n:Int) (ks:List ByteArray) (xs:List Int):Dt where
 last:=fun k=>if k∈ks then n else D.last k
 newest:=n
 op:=fun m=>D.op m\/m=n
 ah:=fun m=>if m=n then xs else D.ah m
 bh:=fun m=>if m=n then [] else if m∈xs then D.bh m++[n] else D.bh m
 wt:=fun a m=>D.wt a m\/(a=n/\m∈xs)
open Classical in
theorem Inv.add{D:Dt}{L:Lg}{en:Int->Prop}(h:Inv D L en){n:Int}{ks:List ByteArray}{xs:List Int}(hn:D.newest<n)(hx:AhT D ks xs):Inv (D.add n ks xs) (L++[(n,ks)]) en:=by
 have hlt:∀q∈L,q.1<n:=fun q hq=>by have:=h.new.1 q hq;omega
 have hr:RisL (L++[(n,ks)]):=h.ris.snoc hlt (by have:=h.new.2;show 1<=n;omega);have hnop:¬D.op n:=fun ho=>by
  obtain⟨⟨p,hp,e⟩,_⟩:=(h.op n).1 ho;have:=hlt p hp;omega
 have hnen:¬en n:=fun he=>by
  obtain⟨p,hp,e⟩:=h.ended n he;have:=hlt p hp;omega
 have hopne:∀m,D.op m->m≠n:=fun m hm e=>hnop (e▸hm);have hopn:∀m,D.op m->m<n:=fun m hm=>by
  obtain⟨⟨p,hp,e⟩,_⟩:=(h.op m).1 hm;have:=hlt p hp;omega
 have hdepL:∀a m,Dep L a m->a≠n:=fun a m hd e=>by
  obtain⟨A,js,C,e2,_⟩:=hd;have:=hlt (a,js) (by rw[e2];simp);simp only at this;omega
 have hop:∀m,D.op m->1<=m:=fun m hm=>by
  obtain⟨⟨p,hp,e⟩,_⟩:=(h.op m).1 hm;have:=h.ris.pos p hp;omega
 have hxs:∀m,m∈xs↔D.op m/\m≠0/\∃k∈ks,lst L k=m:=fun m=>by
  rw[hx.2 m];constructor
  .rintro⟨h1,k,h2,h3⟩;exact⟨h1,by have:=hop m h1;omega,k,h2,by rw[<-h.last];exact h3⟩
  rintro⟨h1,_,k,h2,h3⟩;exact⟨h1,k,h2,by rw[h.last];exact h3⟩
 refine⟨hr,fun k=> ?_,⟨fun p hp=> ?_,by have:=h.new.2;show 0<=n;omega⟩,Or.inr ⟨(n,ks),by simp,rfl⟩,fun m=> ?_,fun m hm=> ?_,fun m hm=> ?_,fun a m=> ?_,fun m hm=> ?_,fun m hm i hi hN=> ?_⟩
 .rw[zkk];show (if k∈ks then n else D.last k)=_;rw[h.last]
 .rcases List.mem_append.1 hp with h1|h1
  .have:=hlt p h1;show p.1<=n;omega
  simp at h1;subst h1;exact Int.le_refl _
 .show D.op m\/m=n↔_;rw[h.op m];constructor
  .rintro (⟨⟨p,hp,e⟩,h2⟩|rfl)
   .exact⟨⟨p,by simp[hp],e⟩,h2⟩
   exact⟨⟨(m,ks),by simp,rfl⟩,hnen⟩
  rintro⟨⟨p,hp,e⟩,h2⟩;rcases List.mem_append.1 hp with h1|h1
  .exact Or.inl ⟨⟨p,h1,e⟩,h2⟩
  simp at h1;subst h1;exact Or.inr e.symm
 .show Ris (if m=n then xs else D.ah m)/\(∀y∈(if m=n then xs else D.ah m),_)/\∀y,_->(D.op y\/y=n)->y∈(if m=n then xs else D.ah m);by_cases e:m=n
  .subst e;rw[if_pos rfl];refine⟨hx.1,fun y hy=>(zcm _ _ _ _).2 (Or.inr ⟨rfl,((hxs y).1 hy).2⟩),fun y hy ho=> ?_⟩;rcases (zcm _ _ _ _).1 hy with h1|⟨_,h1⟩
   .exact absurd rfl (hdepL _ _ h1)
   rcases ho with ho|rfl
   .exact (hxs y).2 ⟨ho,h1⟩
   have:=(hy.lt hr).2.1;omega
  rw[if_neg e];have hm':D.op m:=by
   rcases hm with h1|h1
   .exact h1
   exact absurd h1 e
  obtain⟨h1,h2,h3⟩:=h.ah m hm';refine⟨h1,fun y hy=>(zcm _ _ _ _).2 (Or.inl (h2 y hy)),fun y hy ho=> ?_⟩;rcases (zcm _ _ _ _).1 hy with h4|⟨h4,_⟩
  .rcases ho with ho|rfl
   .exact h3 y h4 ho
   have h5:=(hy.lt hr).2.1;have:=hopn m hm';omega
  exact absurd h4 e
 .show Ris (if m=n then [] else if m∈xs then D.bh m++[n] else D.bh m)/\∀y,y∈(if m=n then [] else if m∈xs then D.bh m++[n] else D.bh m)↔(D.op y\/y=n)/\_;by_cases e:m=n
  .subst e;rw[if_pos rfl];refine⟨List.Pairwise.nil,fun y=>⟨fun hy=>(by simp at hy),fun⟨h1,h2⟩=> ?_⟩⟩;have h3:=(h2.lt hr).2.1;rcases h1 with h1|h1
   .have:=hopn y h1;omega
   omega
  rw[if_neg e];have hm':D.op m:=by
   rcases hm with h1|h1
   .exact h1
   exact absurd h1 e
  obtain⟨h1,h2⟩:=h.bh m hm';have hD:∀y,Dep (L++[(n,ks)]) y m↔Dep L y m\/(y=n/\m∈xs):=fun y=>by
   rw[zcm,hxs m];constructor
   .rintro (h4|⟨h4,h5⟩)
    .exact Or.inl h4
    exact Or.inr ⟨h4,hm',h5⟩
   rintro (h4|⟨h4,_,h5⟩)
   .exact Or.inl h4
   exact Or.inr ⟨h4,h5⟩
  by_cases hin:m∈xs
  .rw[if_pos hin];refine⟨h1.snoc (fun y hy=>hopn y ((h2 y).1 hy).1),fun y=> ?_⟩;rw[List.mem_append,h2 y,hD y];simp only[List.mem_singleton];constructor
   .rintro (⟨h4,h5⟩|h4)
    .exact⟨Or.inl h4,Or.inl h5⟩
    exact⟨Or.inr h4,Or.inr ⟨h4,hin⟩⟩
   rintro⟨h4,h5⟩;rcases h4 with h4|h4
   .rcases h5 with h5|⟨h5,_⟩
    .exact Or.inl ⟨h4,h5⟩
    exact Or.inr h5
   exact Or.inr h4
  rw[if_neg hin];refine⟨h1,fun y=> ?_⟩;rw[h2 y,hD y];constructor
  .rintro⟨h4,h5⟩;exact⟨Or.inl h4,Or.inl h5⟩
  rintro⟨h4,h5⟩;rcases h5 with h5|⟨_,h5⟩
  .refine⟨?_,h5⟩;rcases h4 with h4|h4
   .exact h4
   exact absurd h4 (hdepL _ _ h5)
  exact absurd h5 hin
 .show (D.wt a m\/(a=n/\m∈xs))↔(D.op a\/a=n)/\(D.op m\/m=n)/\_;rw[h.wt a m,zcm];constructor
  .rintro (⟨h1,h2,h3⟩|⟨h1,h2⟩)
   .exact⟨Or.inl h1,Or.inl h2,Or.inl h3⟩
   have:=(hxs m).1 h2;exact⟨Or.inr h1,Or.inl this.1,Or.inr ⟨h1,this.2⟩⟩
  rintro⟨h1,h2,h3⟩;have hmn:m≠n:=fun e=>by
   have hd:Dep (L++[(n,ks)]) a m:=(zcm _ _ _ _).2 h3;have h4:=(hd.lt hr).2.1;rcases h1 with h1|h1
   .have:=hopn a h1;omega
   omega
  have h2':D.op m:=by
   rcases h2 with h2|h2
   .exact h2
   exact absurd h2 hmn
  rcases h3 with h3|⟨h3,h4⟩
  .rcases h1 with h1|h1
   .exact Or.inl ⟨h1,h2',h3⟩
   exact absurd h1 (hdepL _ _ h3)
  exact Or.inr ⟨h3,(hxs m).2 ⟨h2',h4⟩⟩
 .obtain⟨p,hp,e⟩:=h.ended m hm;exact⟨p,by simp[hp],e⟩
 obtain⟨p,hp,e⟩:=h.ended m hm;have hmn:=hlt p hp;refine h.order m hm i hi ?_;obtain⟨x,hx',y,hy,e1,e2,hk⟩:=hN;have f:∀z:Int×List ByteArray,z∈L++[(n,ks)]->z.1<n->z∈L:=fun z hz hl=>by
  rcases List.mem_append.1 hz with h1|h1
  .exact h1
  simp at h1;subst h1;simp at hl
 exact⟨x,f x hx' (by omega),y,f y hy (by omega),e1,e2,hk⟩
def Dt.done(D:Dt)(n:Int):Dt where
 last:=D.last
 newest:=D.newest
 op:=fun m=>D.op m/\m≠n
 ah:=D.ah
 bh:=D.bh
 wt:=fun a m=>D.wt a m/\m≠n
theorem Inv.done{D:Dt}{L:Lg}{en:Int->Prop}(h:Inv D L en){n:Int}(hn:D.op n)(hf:∀m,D.op m->¬Dep L n m):Inv (D.done n) L (fun m=>en m\/m=n):=by
 have hL:=((h.op n).1 hn).1;refine⟨h.ris,h.last,h.new,h.tip,fun m=> ?_,fun m hm=> ?_,fun m hm=> ?_,fun a m=> ?_,fun m hm=> ?_,fun m hm i hi hN=> ?_⟩
 .show D.op m/\m≠n↔_;rw[h.op m,not_or,and_assoc]
 .obtain⟨h1,h2,h3⟩:=h.ah m hm.1;exact⟨h1,h2,fun y hy ho=>h3 y hy ho.1⟩
 .obtain⟨h1,h2⟩:=h.bh m hm.1;refine⟨h1,fun y=> ?_⟩;rw[show (D.done n).bh m=D.bh m from rfl,h2 y];constructor
  .rintro⟨h3,h4⟩;exact⟨⟨h3,fun e=>hf m hm.1 (e▸h4)⟩,h4⟩
  rintro⟨h3,h4⟩;exact⟨h3.1,h4⟩
 .show D.wt a m/\m≠n↔(D.op a/\a≠n)/\(D.op m/\m≠n)/\_;rw[h.wt a m];constructor
  .rintro⟨⟨h1,h2,h3⟩,h4⟩;exact⟨⟨h1,fun e=>hf m h2 (e▸h3)⟩,⟨h2,h4⟩,h3⟩
  rintro⟨h1,h2,h3⟩;exact⟨⟨h1.1,h2.1,h3⟩,h2.2⟩
 .rcases hm with hm|rfl
  .exact h.ended m hm
  exact hL
 rcases hm with hm|rfl
 .exact Or.inl (h.order m hm i hi hN)
 exact Or.inl (h.free hn hf hi hN)
def DoT(L:Lg)(op:Int->Prop)(n:Int)(xs:List Int):Prop:=Ris xs/\∀o,o∈xs↔op o/\Dep L o n/\∀m,op m->m≠n->¬Dep L o m
def insI(n:Int):List Int->List Int
 | []=>[n]
 |x::r=>if n<x then n::x::r else x::insI n r
theorem zfd(n y:Int):∀xs,y∈insI n xs↔y=n\/y∈xs
 | []=>by simp[insI]
 |x::r=>by
  unfold insI;split
  .simp
  simp only[List.mem_cons,zfd n y r];constructor
  .rintro (h|h|h)
   .exact Or.inr (Or.inl h)
   .exact Or.inl h
   exact Or.inr (Or.inr h)
  rintro (h|h|h)
  .exact Or.inr (Or.inl h)
  .exact Or.inl h
  exact Or.inr (Or.inr h)
theorem zpn(n:Int):∀xs,Ris xs->n∉xs->Ris (insI n xs)
 | [],_,_=>List.pairwise_singleton _ _
 |x::r,h,hn=>by
  have h':=List.pairwise_cons.1 h;unfold insI;split
  .rename_i hlt;refine List.pairwise_cons.2 ⟨fun y hy=> ?_,h⟩;rcases List.mem_cons.1 hy with e|e
   .omega
   have:=h'.1 y e;omega
  rename_i hlt;have hne:n≠x:=fun e=>hn (by simp[e]);refine List.pairwise_cons.2 ⟨fun y hy=> ?_,zpn n r h'.2 (fun e=>hn (by simp[e]))⟩;rcases (zfd n y r).1 hy with e|e
  .omega
  exact h'.1 y e
def adv(m:Int):List Int->Int×List Int
 | []=>(m,[])
 |x::r=>if x=m+1 then adv (m+1) r else (m,x::r)
structure Gt(m:Int)(xs:List Int):Prop where
 low:0<=m
 top:m<=65536
 ris:Ris xs
 bey:∀x∈xs,m<x/\x<=65536
theorem Gt.tail{m x:Int}{r:List Int}(h:Gt m (x::r))(e:x=m+1):Gt (m+1) r:=by
 have h':=List.pairwise_cons.1 h.ris;refine⟨by have:=h.low;omega,by have:=h.bey x (by simp);omega,h'.2,fun y hy=> ?_⟩;have:=h'.1 y hy;have:=h.bey y (by simp[hy]);omega
theorem Gt.head{m x:Int}{r:List Int}(h:Gt m (x::r)):m+1∈x::r↔x=m+1:=by
 constructor
 .intro hm;rcases List.mem_cons.1 hm with e|e
  .omega
  have:=(List.pairwise_cons.1 h.ris).1 _ e;have:=h.bey x (by simp);omega
 intro e;simp[e]
theorem zpo:∀(xs:List Int)(m:Int),Gt m xs->Gt (adv m xs).1 (adv m xs).2/\(adv m xs).1+1∉(adv m xs).2/\m<=(adv m xs).1/\∀y,(y<=(adv m xs).1\/y∈(adv m xs).2)↔(y<=m\/y∈xs)
 | [],m,h=>⟨h,by simp[adv],Int.le_refl _,fun y=>Iff.rfl⟩
 |x::r,m,h=>by
  unfold adv;split
  .rename_i e;obtain⟨h1,h2,h3,h4⟩:=zpo r (m+1) (h.tail e);refine⟨h1,h2,by omega,fun y=>(h4 y).trans ?_⟩;simp only[List.mem_cons];constructor
   .rintro (h|h)
    .by_cases hy:y=x
     .exact Or.inr (Or.inl hy)
     exact Or.inl (by omega)
    exact Or.inr (Or.inr h)
   rintro (h|h|h)
   .exact Or.inl (by omega)
   .exact Or.inl (by omega)
   exact Or.inr h
  rename_i e;exact⟨h,fun hm=>e (h.head.1 hm),Int.le_refl _,fun y=>Iff.rfl⟩
theorem zaaj{m x:Int}{r:List Int}(e:x=m+1):adv m (x::r)=adv (m+1) r:=by simp[adv,e]
theorem zaak{m:Int}{xs:List Int}(h:Gt m xs)(hn:m+1∉xs):adv m xs=(m,xs):=by
 cases xs with
 |nil=>rfl
 |cons x r=>unfold adv;rw[if_neg (fun e=>hn (h.head.2 e))]
def wdOf(n:Int):Nat:=(n.toNat-1)/64
def btOf(n:Int):Nat:=(n.toNat-1)%64
def pw2(k:Nat):Nat:=2 ^ k
def zla(ws:List Nat)(n:Int):Bool:=(ws.getD (wdOf n) 0).testBit (btOf n)
theorem zadn{n y:Int}(hn:1<=n)(hy:1<=y):(wdOf n=wdOf y/\btOf n=btOf y)↔n=y:=by
 unfold wdOf btOf;constructor
 .rintro⟨h1,h2⟩;have:=Nat.div_add_mod (n.toNat-1) 64;have:=Nat.div_add_mod (y.toNat-1) 64;omega
 rintro rfl;exact⟨rfl,rfl⟩
theorem zez(n:Int):btOf n<64:=Nat.mod_lt _ (by decide)
theorem zfa{n:Int}(h1:1<=n)(h2:n<=65536):wdOf n<1024:=by unfold wdOf;omega
theorem zgo{k:Nat}(h:k<64):pw2 k<2 ^ 64:=Nat.pow_lt_pow_right (by decide) h
structure Wds(ws:List Nat)(xs:List Int):Prop where
 len:ws.length=1024
 low:∀x∈ws,x<2 ^ 64
 bits:∀n,1<=n->n<=65536->(zla ws n=true↔n∈xs)
theorem Wds.at{ws:List Nat}{xs:List Int}(h:Wds ws xs)(i:Nat):ws.getD i 0<2 ^ 64:=by
 by_cases hi:i<ws.length
 .simp[List.getD,hi];exact h.low _ (List.getElem_mem _)
 simp[List.getD,hi]
theorem Wds.zero:Wds (List.replicate 1024 0) []:=by
 refine⟨List.length_replicate,fun x hx=> ?_,fun n h1 h2=> ?_⟩
 .rw[(List.mem_replicate.1 hx).2];exact Nat.two_pow_pos _
 have:=zfa h1 h2;have e:(List.replicate 1024 0).getD (wdOf n) 0=0:=by
  rw[List.getD,List.getElem?_replicate,if_pos this];rfl
 unfold zla;rw[e];simp
theorem zbh{ws:List Nat}{i j x:Nat}(hi:i<ws.length):(ws.set i x).getD j 0=if i=j then x else ws.getD j 0:=by
 by_cases h:i=j
 .subst h;simp[List.getD,hi]
 simp[List.getD,h,List.getElem?_set]
theorem Wds.put{ws:List Nat}{xs ys:List Int}{n:Int}(h:Wds ws xs)(h1:1<=n)(h2:n<=65536)(hy:∀y,y∈ys↔y=n\/y∈xs):Wds (ws.set (wdOf n) (ws.getD (wdOf n) 0 ||| pw2 (btOf n))) ys:=by
 have hw:=zfa h1 h2;refine⟨by simp[h.len],fun x hx=> ?_,fun y hy1 hy2=> ?_⟩
 .rcases List.mem_or_eq_of_mem_set hx with e|e
  .exact h.low x e
  subst e;exact Nat.or_lt_two_pow (h.at _) (zgo (zez n))
 rw[hy,<-h.bits y hy1 hy2,<-zadn hy1 h1];unfold zla;rw[zbh (by rw[h.len];exact hw)];by_cases e:wdOf n=wdOf y
 .rw[if_pos e,Nat.testBit_or,pw2,Nat.testBit_two_pow,e];simp only[Bool.or_eq_true,decide_eq_true_eq,true_and];constructor
  .rintro (h3|h3)
   .exact Or.inr h3
   exact Or.inl h3.symm
  rintro (h3|h3)
  .exact Or.inr h3.symm
  exact Or.inl h3
 rw[if_neg e];constructor
 .exact Or.inr
 rintro (⟨h3,_⟩|h3)
 .exact absurd h3.symm e
 exact h3
theorem Wds.cut{ws:List Nat}{xs ys:List Int}{n:Int}(h:Wds ws xs)(h1:1<=n)(h2:n<=65536)(hy:∀y,y∈ys↔y≠n/\y∈xs){v:Nat}(hv:∀b,v.testBit b=((ws.getD (wdOf n) 0).testBit b && !decide (btOf n=b))):Wds (ws.set (wdOf n) v) ys:=by
 have hw:=zfa h1 h2;refine⟨by simp[h.len],fun x hx=> ?_,fun y hy1 hy2=> ?_⟩
 .rcases List.mem_or_eq_of_mem_set hx with e|e
  .exact h.low x e
  subst e;refine Nat.lt_pow_two_of_testBit _ (fun b hb=> ?_);rw[hv,Nat.testBit_lt_two_pow (Nat.lt_of_lt_of_le (h.at _) (Nat.pow_le_pow_right (by decide) hb))];rfl
 rw[hy,<-h.bits y hy1 hy2,show (y≠n)↔_ from not_congr (zadn hy1 h1).symm];unfold zla;rw[zbh (by rw[h.len];exact hw)];by_cases e:wdOf n=wdOf y
 .rw[if_pos e,hv,e];simp only[Bool.and_eq_true,Bool.not_eq_true',decide_eq_false_iff_not,true_and];constructor
  .rintro⟨h3,h4⟩;exact⟨fun x=>h4 x.symm,h3⟩
  rintro⟨h3,h4⟩;exact⟨h4,fun x=>h3 x.symm⟩
 rw[if_neg e];constructor
 .intro h3;exact⟨fun x=>e x.1.symm,h3⟩
 rintro⟨_,h3⟩;exact h3
end Go.Proofs.YtojjdnjfaelnfaaGreatDoor
