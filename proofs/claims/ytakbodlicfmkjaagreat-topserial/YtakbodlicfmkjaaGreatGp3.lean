/- Contracts and lemmas. -/
import Derived.Test.YtakbodlicfmkjaaGreatGp2
import Derived.Lib.TrailingZeros
import Derived.Deep.CutRange
import Derived.Great.Frames
import Derived.Test.YtakbodlicfmkjaaGreatGp1
set_option maxHeartbeats 8000000
set_option maxRecDepth 100000
namespace Go.Proofs.YtakbodlicfmkjaaGreat
set_option linter.unusedSimpArgs false
set_option linter.unusedVariables false
namespace Ap
open Go.ChangeShapes Go.WideShapes Go.ChangeAt Go.RowKit Go.Lib
def Went(w:World)(v:Value)(g:Nat)(w':World):Prop:=(v.ownBlock=some g/\w.grownBy w' (some g))\/(w.heap.size<=g/\w.grownBy w' none)
theorem Went.fr{w w':World}{v:Value}{g:Nat}(h:Went w v g w'):Fr v.ownBlock.toList w w':=by
 rcases h with⟨h1,h2⟩|⟨_,h2⟩
 .refine Fr.grown h2 ?_;intro k hk _;cases hk;simp[h1]
 exact Fr.grown h2 (by simp)
section
variable{P:Program}(w:World)
theorem zin(t ty e:TypeId)(i:TypeInfo)(z:Value)(size bytes:Nat)(ht:P.underlying t=some (.slice e))(hi:P.info? e=some i)(hz:i.zero=some z)(hsize:i.size=size)(hby:i.bytes=bytes)(hzs:z.cells.size=size)(hsz:0<size)(v:Value)(n:Nat)(xs:List Value)(hown:w.ownsRow 0 e size v n xs)(a:Addr)(m c:Nat)(news:List Value)(hm:0<m)(hl:news.length=m*size)(hnews:∀j u,news[j]? = some u->w.cell? (a.add j)=some u)(h1:∀u∈news,u.oneCell'=true)(h63:n+m<=maxLen)(hbytes:(n+m)*bytes<=140737488355328) :
  ∃g cap w',(Builtin.append_ #[t,t] ty #[v,.slice (some a) m c]).run P w=.ok (.slice (some ⟨g,0,none⟩) (n+m) cap) w'/\w'.ownsRow 0 e size (.slice (some ⟨g,0,none⟩) (n+m) cap) (n+m) (xs++news)/\Went w v g w':=by
 obtain⟨v',w',hr,h2,h3,h4⟩:=run_append_own (P:=P) w 0 t ty e i z size bytes ht hi hz hsize hby hzs hsz v n xs hown a m c news hl hnews h1 h63 hbytes (Nat.zero_le _);obtain⟨g,cap,rfl⟩:∃g cap,v'=.slice (some ⟨g,0,none⟩) (n+m) cap:=by
  rcases h2.2 with⟨_,hh⟩|⟨g,cap',_,hh,_⟩
  .omega
  exact⟨g,cap',hh⟩
 refine⟨g,cap,w',hr,h2,?_⟩;subst hsize;subst hby;have hsmall:n+m<=9223372036854775807:=by simp only[maxLen]at h63;omega
 rcases hown.2 with⟨rfl,rfl⟩|⟨g0,cap0,cur,rfl,hbg,hg,hnc,hcm,hcs,htake⟩
 .have hr2:=run_append_nil (P:=P) w t ty e i z ht hi hz a m c news hl hnews (by omega) (by omega) (by have hb:=hbytes;simp only[Nat.zero_add]at hb;omega);rw[hr]at hr2
  injection hr2 with e1 e2;simp only[Value.slice.injEq,Option.some.injEq,Addr.mk.injEq]at e1;obtain⟨⟨rfl,_⟩,_⟩:=e1;subst e2;exact Or.inr ⟨Nat.le_refl _,⟨rfl,rfl,rfl,by simp,fun k hk _=>Below.heap_alloc w.drew _ _ hk⟩⟩
 by_cases hroom:n+m<=cap0
 .have hfit:n*i.size+news.length<=cur.size:=by rw[hl,hcs,<-Nat.add_mul];exact Nat.mul_le_mul_right _ hroom
  have hr2:=run_append_room (P:=P) w t ty e i ht hi g0 n cap0 cur hg a m c news hl hnews h1 hroom hfit;rw[hr]at hr2
  cases hr2;exact Or.inl ⟨rfl,h3⟩
 have holds:∀j u,xs[j]? = some u->w.cell? ((⟨g0,0,none⟩:Addr).add j)=some u:=hown.cells (g:=g0) rfl;have hr2:=run_append_grow (P:=P) w t ty e i z ht hi hz ⟨g0,0,none⟩ n cap0 xs hown.1 holds a m c news hl hnews (by omega) (by omega) (growslice_fits (by omega) hbytes);rw[hr]at hr2
 cases hr2;exact Or.inr ⟨Nat.le_refl _,⟨rfl,rfl,rfl,by simp,fun k hk _=>Below.heap_alloc w.drew _ _ hk⟩⟩
theorem zla{ops:Array Oper}{rest:List Oper}{o:Oper}{a:Act}{Q:Exit->Act->World->Prop}(hgd:o.guard=none)(s x:Operand)(t:TypeId)(ho:o.op=.call {callee:=.builtin .append,args:=#[s,x],argTypes:=#[t,t]})(e:TypeId)(i:TypeInfo)(z:Value)(size bytes:Nat)(ht:P.underlying t=some (.slice e))(hi:P.info? e=some i)(hz:i.zero=some z)(hsize:i.size=size)(hby:i.bytes=bytes)(hzs:z.cells.size=size)(hsz:0<size)(v:Value)(n:Nat)(xs:List Value)(hs:a.eval s=v)(hown:w.ownsRow 0 e size v n xs)(ad:Addr)(c:Nat)(news:List Value)(hx:a.eval x=.slice (some ad) 1 c)(hl:news.length=size)(hnews:∀j u,news[j]? = some u->w.cell? (ad.add j)=some u)(h1:∀u∈news,u.oneCell'=true)(hbytes:(n+1)*bytes<=140737488355328)(h63:n+1<=maxLen)(h:∀g cap w',w'.ownsRow 0 e size (.slice (some ⟨g,0,none⟩) (n+1) cap) (n+1) (xs++news)->Went w v g w'->wpList P ops Q rest (a.put o.dst (.slice (some ⟨g,0,none⟩) (n+1) cap)) w'):wpList P ops Q (o::rest) a w:=by
 refine wpList_plain hgd fun K hK=> ?_;obtain⟨g,cap,w',hr,h2,h3⟩:=zin (P:=P) w t o.type e i z size bytes ht hi hz hsize hby hzs hsz v n xs hown ad 1 c news (by omega) (by omega) hnews h1 h63 hbytes;unfold Oper.wp execOp;simp only[ho,resolve,invoke,builtin,Sem.run_bind,Sem.run_pure,Result.andThen_ok,List.map_toArray,List.map_cons,List.map_nil,hs,hx,hr];exact hK _ _ (h g cap w' h2 h3)
theorem zhk{ops:Array Oper}{o:Oper}{a:Act}{K:Act->World->Prop}{Q:Exit->Act->World->Prop}{E:Prop}(hg:o.guard=none)(s x:Operand)(t:TypeId)(ho:o.op=.call {callee:=.builtin .append,args:=#[s,x],argTypes:=#[t,t]})(e:TypeId)(i:TypeInfo)(z:Value)(size bytes:Nat)(ht:P.underlying t=some (.slice e))(hi:P.info? e=some i)(hz:i.zero=some z)(hsize:i.size=size)(hby:i.bytes=bytes)(hzs:z.cells.size=size)(hsz:0<size)(v:Value)(n:Nat)(xs:List Value)(hs:a.eval s=v)(hown:w.ownsRow 0 e size v n xs)(ad:Addr)(c:Nat)(news:List Value)(hx:a.eval x=.slice (some ad) 1 c)(hl:news.length=size)(hnews:∀j u,news[j]? = some u->w.cell? (ad.add j)=some u)(h1:∀u∈news,u.oneCell'=true)(hbytes:(n+1)*bytes<=140737488355328)(h63:n+1<=maxLen)(h:∀g cap w',w'.ownsRow 0 e size (.slice (some ⟨g,0,none⟩) (n+1) cap) (n+1) (xs++news)->Went w v g w'->K (a.put o.dst (.slice (some ⟨g,0,none⟩) (n+1) cap)) w') :
  if Region.wanted o (yielded ops a.tmps)=true then Oper.wp P o a w K Q else E:=by
 have hw:Region.wanted o (yielded ops a.tmps)=true:=by simp[Region.wanted,hg]
 rw[if_pos hw];obtain⟨g,cap,w',hr,h2,h3⟩:=zin (P:=P) w t o.type e i z size bytes ht hi hz hsize hby hzs hsz v n xs hown ad 1 c news (by omega) (by omega) hnews h1 h63 hbytes;unfold Oper.wp execOp;simp only[ho,resolve,invoke,builtin,Sem.run_bind,Sem.run_pure,Result.andThen_ok,List.map_toArray,List.map_cons,List.map_nil,hs,hx,hr];exact h g cap w' h2 h3
end
theorem row_setCell{w:World}{b j:Nat}{cs:Array Value}{t:TypeId}(x:Value)(h:w.heap[b]? = some (.cells cs t (0,0))):(w.setCell ⟨b,j,none⟩ x).heap[b]? = some (.cells (cs.setIfInBounds j x) t (0,0)):=by
 have hlt:=lt_of_block h;have h':w.heap[b]=.cells cs t (0,0):=by simpa[Array.getElem?_eq_getElem hlt]using h
 show (w.heap.modify b _)[b]? = _;rw[Array.getElem?_eq_getElem (by simpa using hlt),Array.getElem_modify_self,h'];rfl
theorem zkn{w:World}{a b:Nat}{ca cb:Array Value}{ta tb:TypeId}{fa fb:Nat×Nat}(ha:w.heap[a]? = some (.cells ca ta fa))(hb:w.heap[b]? = some (.cells cb tb fb))(h:ta≠tb):a≠b:=by
 rintro rfl;rw[ha]at hb
 injection hb with hb;injection hb with _ hb _;exact h hb
end Ap
section
open Go.ChangeShapes Go.WideShapes Go.ChangeAt Go.RowKit Go.Lib
structure Part where
 M:World->Prop
 O:World->Nat->Prop
structure Part.Ok(p:Part)(w0:World):Prop where
 lt:∀w b,p.M w->p.O w b->w0.heap.size<=b/\b<w.heap.size
 keep:∀S w w',p.M w->Fr [] w0 w->Fr S w w'->(∀b∈S,b<w.heap.size->w0.heap.size<=b/\¬p.O w b)->p.M w'/\∀b,p.O w' b->p.O w b
structure Mach{ι:Type}(w0 w:World)(P:ι->Part):Prop where
 ok:∀i,(P i).Ok w0
 m:∀i,(P i).M w
 ap:∀i j b,(P i).O w b->(P j).O w b->i=j
 fr:Fr [] w0 w
structure Mx{ι:Type}(w:World)(P:ι->Part)(w':World)(P':ι->Part):Prop where
 fr:∃S,Fr S w w'/\∀b∈S,b<w.heap.size->∃i,(P i).O w b
 sub:∀i b,(P' i).O w' b->(∃j,(P j).O w b)\/w.heap.size<=b
section
variable{ι:Type}{w0 w w':World}{P P':ι->Part}{S:List Nat}
theorem Fr.within(hf:Fr S w w')(h0:Fr [] w0 w)(hS:∀b∈S,b<w.heap.size->w0.heap.size<=b):Fr [] w0 w':=
 h0.trans (hf.mono (T:=S.filter fun b=>decide (b<w.heap.size)) fun x hx hl=>List.mem_filter.2 ⟨hx,by simpa using hl⟩) (fun _ x _=>x) (fun x hx hl=>by
  obtain⟨a,b⟩:=List.mem_filter.1 hx;have:=hS x a (by simpa using b);omega)
theorem Mach.step(h:Mach w0 w P)(A:ι->Prop)(hf:Fr S w w')(hS:∀b∈S,b<w.heap.size->∃i,A i/\(P i).O w b)(hsame:∀i,¬A i->P' i=P i)(hok:∀i,A i->(P' i).Ok w0)(hm:∀i,A i->(P' i).M w')(hO:∀i,A i->∀b,(P' i).O w' b->(∃j,A j/\(P j).O w b)\/w.heap.size<=b)(hap:∀i j b,A i->A j->(P' i).O w' b->(P' j).O w' b->i=j):Mach w0 w' P'/\Mx w P w' P':=by
 classical
 have hold:∀i,¬A i->(P i).M w'/\∀b,(P i).O w' b->(P i).O w b:=fun i hi=>(h.ok i).keep S w w' (h.m i) h.fr hf fun b hb hl=>by
  obtain⟨j,h1,h2⟩:=hS b hb hl;exact⟨((h.ok j).lt w b (h.m j) h2).1,fun h3=>hi (by rw[h.ap i j b h3 h2];exact h1)⟩
 refine⟨⟨fun i=> ?_,fun i=> ?_,fun i j b h1 h2=> ?_,hf.within h.fr fun b hb hl=> ?_⟩,⟨⟨S,hf,fun b hb hl=> ?_⟩,fun i b hb=> ?_⟩⟩
 .by_cases hi:A i
  .exact hok i hi
  rw[hsame i hi];exact h.ok i
 .by_cases hi:A i
  .exact hm i hi
  rw[hsame i hi];exact (hold i hi).1
 .by_cases hi:A i<;>by_cases hj:A j
  .exact hap i j b hi hj h1 h2
  .rw[hsame j hj]at h2
   have k2:=(hold j hj).2 b h2;rcases hO i hi b h1 with⟨k,ka,k1⟩|k1
   .exact absurd ka (by rw[h.ap k j b k1 k2];exact hj)
   have:=((h.ok j).lt w b (h.m j) k2).2;omega
  .rw[hsame i hi]at h1
   have k1:=(hold i hi).2 b h1;rcases hO j hj b h2 with⟨k,ka,k2⟩|k2
   .exact absurd ka (by rw[h.ap k i b k2 k1];exact hi)
   have:=((h.ok i).lt w b (h.m i) k1).2;omega
  rw[hsame i hi]at h1
  rw[hsame j hj]at h2
  exact h.ap i j b ((hold i hi).2 b h1) ((hold j hj).2 b h2)
 .obtain⟨j,h1,h2⟩:=hS b hb hl;exact ((h.ok j).lt w b (h.m j) h2).1
 .obtain⟨j,_,h2⟩:=hS b hb hl;exact⟨j,h2⟩
 by_cases hi:A i
 .exact (hO i hi b hb).imp (fun⟨j,_,x⟩=>⟨j,x⟩) id
 rw[hsame i hi]at hb
 exact Or.inl ⟨i,(hold i hi).2 b hb⟩
theorem Mach.one(h:Mach w0 w P)(i:ι)(p:Part)(hf:Fr S w w')(hS:∀b∈S,b<w.heap.size->(P i).O w b)(hsame:∀j,j≠i->P' j=P j)(hP:P' i=p)(hok:p.Ok w0)(hm:p.M w')(hO:∀b,p.O w' b->(P i).O w b\/w.heap.size<=b):Mach w0 w' P'/\Mx w P w' P':=
 h.step (fun j=>j=i) hf (fun b hb hl=>⟨i,rfl,hS b hb hl⟩) (fun j hj=>hsame j hj) (fun j hj=>by rw[hj,hP];exact hok) (fun j hj=>by rw[hj,hP];exact hm)
  (fun j hj b hb=>by rw[hj,hP]at hb;exact (hO b hb).imp (fun x=>⟨i,rfl,x⟩) id) (fun a b _ ha hb _ _=>ha.trans hb.symm)
theorem Mach.quiet2(h:Mach w0 w P)(hf:Fr [] w w'):Mach w0 w' P/\Mx w P w' P:=
 h.step (fun _=>False) hf (by simp) (fun _ _=>rfl) (fun _ h=>h.elim) (fun _ h=>h.elim) (fun _ h=>h.elim) (fun _ _ _ h=>h.elim)
theorem Mach.quiet(h:Mach w0 w P)(hf:Fr [] w w'):Mach w0 w' P:=(h.quiet2 hf).1
variable{w'':World}{P'':ι->Part}
theorem Mx.size(h:Mx w P w' P'):w.heap.size<=w'.heap.size:=by
 obtain⟨S,hf,_⟩:=h.fr;exact hf.size
theorem Mx.trans(h:Mx w P w' P')(k:Mx w' P' w'' P''):Mx w P w'' P'':=by
 obtain⟨S,hf,hS⟩:=h.fr;obtain⟨U,kf,kS⟩:=k.fr;refine⟨⟨S++U.filter (fun b=>decide (b<w.heap.size)),hf.trans kf (fun x hx _=>List.mem_append_left _ hx) (fun x hx hl=>List.mem_append_right _ (List.mem_filter.2 ⟨hx,by simpa using hl⟩)),fun b hb hl=> ?_⟩,fun i b hb=> ?_⟩
 .rcases List.mem_append.1 hb with e|e
  .exact hS b e hl
  obtain⟨e1,e2⟩:=List.mem_filter.1 e;obtain⟨i,hi⟩:=kS b e1 (Nat.lt_of_lt_of_le hl hf.size);rcases h.sub i b hi with h3|h3
  .exact h3
  omega
 rcases k.sub i b hb with⟨j,h3⟩|h3
 .exact h.sub j b h3
 exact Or.inr (Nat.le_trans h.size h3)
theorem Mx.keep(h:Mx w P w' P'){b:Nat}{o:Obj}(hb:w.heap[b]? = some o)(hn:∀i,¬(P i).O w b):w'.heap[b]? = some o:=by
 obtain⟨S,hf,hS⟩:=h.fr;exact hf.keep hb (fun hm=>by obtain⟨i,hi⟩:=hS b hm (lt_of_block hb);exact hn i hi)
theorem Mx.not(h:Mx w P w' P'){b:Nat}(hb:b<w.heap.size)(hn:∀i,¬(P i).O w b):∀i,¬(P' i).O w' b:=fun i hi=>by
 rcases h.sub i b hi with⟨j,h1⟩|h1
 .exact hn j h1
 omega
theorem Mx.from(h:Mx w' P w'' P'')(hf:Fr [] w w')(hO:∀i b,(P i).O w' b->(P' i).O w b\/w.heap.size<=b):Mx w P' w'' P'':=by
 obtain⟨S,kf,kS⟩:=h.fr;refine⟨⟨S.filter (fun b=>decide (b<w.heap.size)),hf.trans kf (by simp) (fun x hx hl=>List.mem_filter.2 ⟨hx,by simpa using hl⟩),fun b hb hl=> ?_⟩,fun i b hb=> ?_⟩
 .obtain⟨e1,e2⟩:=List.mem_filter.1 hb;obtain⟨i,hi⟩:=kS b e1 (Nat.lt_of_lt_of_le hl hf.size);rcases hO i b hi with h3|h3
  .exact⟨i,h3⟩
  omega
 rcases h.sub i b hb with⟨j,h3⟩|h3
 .exact (hO j b h3).imp (fun x=>⟨j,x⟩) id
 exact Or.inr (Nat.le_trans hf.size h3)
end
def Ris(xs:List Int):Prop:=xs.Pairwise fun a b=>a<b
theorem Ris.one:∀{xs ys:List Int},Ris xs->Ris ys->(∀x,x∈xs↔x∈ys)->xs=ys
 | [],[],_,_,_=>rfl
 | [],y::r,_,_,h=>absurd ((h y).2 (by simp)) (by simp)
 |x::r,[],_,_,h=>absurd ((h x).1 (by simp)) (by simp)
 |x::r,y::s,hx,hy,h=>by
  have hx':=List.pairwise_cons.1 hx;have hy':=List.pairwise_cons.1 hy;have e:x=y:=by
   rcases List.mem_cons.1 ((h x).1 (by simp)) with e|e
   .exact e
   rcases List.mem_cons.1 ((h y).2 (by simp)) with e2|e2
   .exact e2.symm
   have:=hy'.1 x e;have:=hx'.1 y e2;omega
  subst e;have e2:r=s:=Ris.one hx'.2 hy'.2 (fun z=>by
   have hz:=h z;simp only[List.mem_cons]at hz;constructor
   .intro h1;rcases hz.1 (Or.inr h1) with e|e
    .have:=hx'.1 z h1;omega
    exact e
   intro h1;rcases hz.2 (Or.inr h1) with e|e
   .have:=hy'.1 z h1;omega
   exact e)
  rw[e2]
theorem Ris.snoc{xs:List Int}{n:Int}(h:Ris xs)(hn:∀x∈xs,x<n):Ris (xs++[n]):=
 List.pairwise_append.2 ⟨h,List.pairwise_singleton _ _,fun a ha b hb=>by simp at hb;subst hb;exact hn a ha⟩
theorem Ris.filter{xs:List Int}(h:Ris xs)(p:Int->Bool):Ris (xs.filter p):=List.Pairwise.sublist List.filter_sublist h
theorem Ris.few{xs:List Int}(h:Ris xs){a:Int}{n:Nat}(hb:∀x∈xs,a<=x/\x<a+n):xs.length<=n:=by
 induction xs generalizing a n with
 |nil=>simp
 |cons x r ih=>
  have h':=List.pairwise_cons.1 h;obtain⟨h1,h2⟩:=hb x (by simp);have:=ih h'.2 (a:=x+1) (n:=n-1) (fun y hy=>by
   have:=h'.1 y hy;have:=hb y (by simp[hy]);omega)
  simp only[List.length_cons];omega
abbrev Lg:=List (Int×List ByteArray)
open Classical in
noncomputable def lst (L:Lg) (k:ByteArray):Int:=L.foldl (fun a p=>if k∈p.2 then p.1 else a) 0
open Classical in
theorem zko(L:Lg)(p:Int×List ByteArray)(k:ByteArray):lst (L++[p]) k=if k∈p.2 then p.1 else lst L k:=by
 simp[lst,List.foldl_append]
structure RisL(L:Lg):Prop where
 ris:Ris (L.map (·.1))
 pos:∀p∈L,1<=p.1
theorem RisL.init{L:Lg}{p:Int×List ByteArray}(h:RisL (L++[p])):RisL L/\(∀q∈L,q.1<p.1)/\1<=p.1:=by
 have hr:=h.ris;rw[List.map_append]at hr
 obtain⟨h1,_,h3⟩:=List.pairwise_append.1 hr;exact⟨⟨h1,fun q hq=>h.pos q (by simp[hq])⟩,fun q hq=>h3 q.1 (List.mem_map.2 ⟨q,hq,rfl⟩) p.1 (by simp),h.pos p (by simp)⟩
theorem RisL.nil:RisL []:=⟨List.Pairwise.nil,by simp⟩
theorem RisL.snoc{L:Lg}{p:Int×List ByteArray}(h:RisL L)(h1:∀q∈L,q.1<p.1)(h2:1<=p.1):RisL (L++[p]):=by
 refine⟨?_,fun q hq=> ?_⟩
 .rw[List.map_append];exact Ris.snoc h.ris (fun x hx=>by obtain⟨q,hq,rfl⟩:=List.mem_map.1 hx;exact h1 q hq)
 rcases List.mem_append.1 hq with h3|h3
 .exact h.pos q h3
 simp at h3;subst h3;exact h2
theorem zabd{P:Lg->Prop}(h0:P [])(h1:∀L p,P L->P (L++[p]))(L:Lg):P L:=by
 have:∀n (L:Lg),L.length=n->P L:=by
  intro n;induction n with
  |zero=>intro L hL;rw[List.eq_nil_of_length_eq_zero hL];exact h0
  |succ n ih=>
   intro L hL;have hne:L≠[]:=fun e=>by rw[e]at hL;cases hL
   rw[<-List.dropLast_concat_getLast hne];exact h1 _ _ (ih _ (by rw[List.length_dropLast,hL];rfl))
 exact this _ L rfl
theorem zkp(L:Lg)(k:ByteArray):RisL L->lst L k≠0->(∃ks,(lst L k,ks)∈L/\k∈ks):=by
 refine zabd (P:=fun L=>RisL L->lst L k≠0->(∃ks,(lst L k,ks)∈L/\k∈ks)) ?_ ?_ L
 .intro _ h;exact absurd rfl h
 intro L p ih hr h;rw[zko]at h ⊢
 by_cases hk:k∈p.2
 .rw[if_pos hk];exact⟨p.2,by simp,hk⟩
 rw[if_neg hk]at h ⊢
 obtain⟨ks,h1,h2⟩:=ih hr.init.1 h;exact⟨ks,by simp[h1],h2⟩
theorem zaen(L:Lg)(k:ByteArray):RisL L->∀q∈L,k∈q.2->q.1<=lst L k:=by
 refine zabd (P:=fun L=>RisL L->∀q∈L,k∈q.2->q.1<=lst L k) (by simp) ?_ L;intro L p ih hr q hq hk;rw[zko];obtain⟨h1,h2,h3⟩:=hr.init;rcases List.mem_append.1 hq with h4|h4
 .split
  .have:=h2 q h4;omega
  exact ih h1 q h4 hk
 simp at h4;subst h4;rw[if_pos hk];exact Int.le_refl _
def Dep(L:Lg)(n m:Int):Prop:=∃A ks C,L=A++(n,ks)::C/\m≠0/\∃k∈ks,lst A k=m
theorem zcg(L:Lg)(p:Int×List ByteArray)(a m:Int):Dep (L++[p]) a m↔Dep L a m\/(a=p.1/\m≠0/\∃k∈p.2,lst L k=m):=by
 constructor
 .rintro⟨A,ks,C,e,h1,h2⟩;rcases List.eq_nil_or_concat C with rfl|⟨C',q,rfl⟩
  .have:=List.append_inj' e rfl;obtain⟨rfl,e2⟩:=this;simp at e2;subst e2;exact Or.inr ⟨rfl,h1,h2⟩
  have e':L++[p]=(A++(a,ks)::C')++[q]:=by simp[e]
  obtain⟨rfl,_⟩:=List.append_inj' e' rfl;exact Or.inl ⟨A,ks,C',rfl,h1,h2⟩
 rintro (⟨A,ks,C,rfl,h1,h2⟩|⟨rfl,h1,h2⟩)
 .exact⟨A,ks,C++[p],by simp,h1,h2⟩
 exact⟨L,p.2,[],rfl,h1,h2⟩
def Nr(L:Lg)(a b:Int):Prop:=∃p∈L,∃q∈L,p.1=a/\q.1=b/\∃k,k∈p.2/\k∈q.2
theorem RisL.front{A C:Lg}{p:Int×List ByteArray}(h:RisL (A++p::C)):RisL A/\(∀q∈A,q.1<p.1)/\(∀q∈C,p.1<q.1):=by
 have hr:=h.ris;rw[List.map_append,List.map_cons]at hr
 obtain⟨h1,h2,h3⟩:=List.pairwise_append.1 hr;refine⟨⟨h1,fun q hq=>h.pos q (by simp[hq])⟩,fun q hq=>h3 q.1 (List.mem_map.2 ⟨q,hq,rfl⟩) p.1 (by simp),fun q hq=> ?_⟩;exact (List.pairwise_cons.1 h2).1 q.1 (List.mem_map.2 ⟨q,hq,rfl⟩)
theorem Dep.lt{L:Lg}(hr:RisL L){n m:Int}(h:Dep L n m):1<=m/\m<n/\Nr L m n:=by
 obtain⟨A,ks,C,rfl,h1,k,hk,rfl⟩:=h;obtain⟨ha,h2,_⟩:=hr.front;obtain⟨js,h3,h4⟩:=zkp A k ha h1;exact⟨ha.pos _ h3,h2 _ h3,(lst A k,js),by simp[h3],(n,ks),by simp,rfl,rfl,k,h4,hk⟩
theorem zaeo{L:Lg}(hr:RisL L){i n:Int}(h:Nr L i n)(hlt:i<n):∃m,i<=m/\Dep L n m/\(i=m\/(i<m/\Nr L i m)):=by
 obtain⟨⟨i',is⟩,hp,⟨n',ks⟩,hq,rfl,rfl,k,h1,h2⟩:=h;simp only at *;obtain⟨A,C,rfl⟩:=List.append_of_mem hq;obtain⟨ha,h3,h4⟩:=hr.front;have hpA:(i',is)∈A:=by
  rcases List.mem_append.1 hp with h5|h5
  .exact h5
  rcases List.mem_cons.1 h5 with h6|h6
  .cases h6;omega
  have:=h4 _ h6;simp only at this;omega
 have hge:=zaen A k ha _ hpA h1;have hpos:=ha.pos _ hpA;simp only at hge hpos;refine⟨lst A k,hge,⟨A,ks,C,rfl,by omega,k,h2,rfl⟩,?_⟩;rcases Int.lt_or_eq_of_le hge with h5|h5
 .obtain⟨js,h6,h7⟩:=zkp A k ha (by omega);exact Or.inr ⟨h5,(i',is),by simp[hpA],(lst A k,js),by simp[h6],rfl,rfl,k,h1,h7⟩
 exact Or.inl h5
structure Dt where
 last:ByteArray->Int
 newest:Int
 op:Int->Prop
 ah:Int->List Int
 bh:Int->List Int
 wt:Int->Int->Prop
def Dt.none:Dt:=⟨fun _=>0,0,fun _=>False,fun _=>[],fun _=>[],fun _ _=>False⟩
structure Inv(D:Dt)(L:Lg)(en:Int->Prop):Prop where
 ris:RisL L
 last:∀k,D.last k=lst L k
 new:(∀p∈L,p.1<=D.newest)/\0<=D.newest
 tip:D.newest=0\/∃p∈L,p.1=D.newest
 op:∀n,D.op n↔(∃p∈L,p.1=n)/\¬en n
 ah:∀n,D.op n->Ris (D.ah n)/\(∀m∈D.ah n,Dep L n m)/\∀m,Dep L n m->D.op m->m∈D.ah n
 bh:∀m,D.op m->Ris (D.bh m)/\∀n,n∈D.bh m↔D.op n/\Dep L n m
 wt:∀n m,D.wt n m↔D.op n/\D.op m/\Dep L n m
 ended:∀n,en n->∃p∈L,p.1=n
 order:∀n,en n->∀i,i<n->Nr L i n->en i
theorem Inv.none:Inv Dt.none [] (fun _=>False):=
 ⟨RisL.nil,fun k=>rfl,⟨by simp,Int.le_refl _⟩,Or.inl rfl,fun n=>by simp[Dt.none],fun n h=>h.elim,fun n h=>h.elim,fun n m=>by simp[Dt.none],fun n h=>h.elim,fun n h=>h.elim⟩
theorem Inv.free{D:Dt}{L:Lg}{en:Int->Prop}(h:Inv D L en){n:Int}(hn:D.op n)(hf:∀m,D.op m->¬Dep L n m){i:Int}(hi:i<n)(hr:Nr L i n):en i:=by
 obtain⟨m,h1,h2,h3⟩:=zaeo h.ris hr hi;have hme:en m:=Classical.byContradiction fun hm=>hf m ((h.op m).2 ⟨by obtain⟨_,_,p,hp,_,_,e,_⟩:=h2.lt h.ris;exact⟨p,hp,e⟩,hm⟩) h2;rcases h3 with rfl|⟨h3,h4⟩
 .exact hme
 exact h.order m hme i h3 h4
def AhT(D:Dt)(ks:List ByteArray)(xs:List Int):Prop:=Ris xs/\∀m,m∈xs↔D.op m/\∃k∈ks,D.last k=m
open Classical in
noncomputable def Dt.add (D:Dt) (n:Int) (ks:List ByteArray) (xs:List Int):Dt where
 last:=fun k=>if k∈ks then n else D.last k
 newest:=n
 op:=fun m=>D.op m\/m=n
 ah:=fun m=>if m=n then xs else D.ah m
 bh:=fun m=>if m=n then [] else if m∈xs then D.bh m++[n] else D.bh m
 wt:=fun a m=>D.wt a m\/(a=n/\m∈xs)
open Classical in
theorem Inv.add{D:Dt}{L:Lg}{en:Int->Prop}(h:Inv D L en){n:Int}{ks:List ByteArray}{xs:List Int}(hn:D.newest<n)(hx:AhT D ks xs):Inv (D.add n ks xs) (L++[(n,ks)]) en:=by
 have hlt:∀q∈L,q.1<n:=fun q hq=>by have:=h.new.1 q hq;omega
 have hr:RisL (L++[(n,ks)]):=h.ris.snoc hlt (by have:=h.new.2;show 1<=n;omega);have hnop:¬D.op n:=fun ho=>by
  obtain⟨⟨p,hp,e⟩,_⟩:=(h.op n).1 ho;have:=hlt p hp;omega
 have hnen:¬en n:=fun he=>by
  obtain⟨p,hp,e⟩:=h.ended n he;have:=hlt p hp;omega
 have hopne:∀m,D.op m->m≠n:=fun m hm e=>hnop (e▸hm);have hopn:∀m,D.op m->m<n:=fun m hm=>by
  obtain⟨⟨p,hp,e⟩,_⟩:=(h.op m).1 hm;have:=hlt p hp;omega
 have hdepL:∀a m,Dep L a m->a≠n:=fun a m hd e=>by
  obtain⟨A,js,C,e2,_⟩:=hd;have:=hlt (a,js) (by rw[e2];simp);simp only at this;omega
 have hop:∀m,D.op m->1<=m:=fun m hm=>by
  obtain⟨⟨p,hp,e⟩,_⟩:=(h.op m).1 hm;have:=h.ris.pos p hp;omega
 have hxs:∀m,m∈xs↔D.op m/\m≠0/\∃k∈ks,lst L k=m:=fun m=>by
  rw[hx.2 m];constructor
  .rintro⟨h1,k,h2,h3⟩;exact⟨h1,by have:=hop m h1;omega,k,h2,by rw[<-h.last];exact h3⟩
  rintro⟨h1,_,k,h2,h3⟩;exact⟨h1,k,h2,by rw[h.last];exact h3⟩
 refine⟨hr,fun k=> ?_,⟨fun p hp=> ?_,by have:=h.new.2;show 0<=n;omega⟩,Or.inr ⟨(n,ks),by simp,rfl⟩,fun m=> ?_,fun m hm=> ?_,fun m hm=> ?_,fun a m=> ?_,fun m hm=> ?_,fun m hm i hi hN=> ?_⟩
 .rw[zko];show (if k∈ks then n else D.last k)=_;rw[h.last]
 .rcases List.mem_append.1 hp with h1|h1
  .have:=hlt p h1;show p.1<=n;omega
  simp at h1;subst h1;exact Int.le_refl _
 .show D.op m\/m=n↔_;rw[h.op m];constructor
  .rintro (⟨⟨p,hp,e⟩,h2⟩|rfl)
   .exact⟨⟨p,by simp[hp],e⟩,h2⟩
   exact⟨⟨(m,ks),by simp,rfl⟩,hnen⟩
  rintro⟨⟨p,hp,e⟩,h2⟩;rcases List.mem_append.1 hp with h1|h1
  .exact Or.inl ⟨⟨p,h1,e⟩,h2⟩
  simp at h1;subst h1;exact Or.inr e.symm
 .show Ris (if m=n then xs else D.ah m)/\(∀y∈(if m=n then xs else D.ah m),_)/\∀y,_->(D.op y\/y=n)->y∈(if m=n then xs else D.ah m);by_cases e:m=n
  .subst e;rw[if_pos rfl];refine⟨hx.1,fun y hy=>(zcg _ _ _ _).2 (Or.inr ⟨rfl,((hxs y).1 hy).2⟩),fun y hy ho=> ?_⟩;rcases (zcg _ _ _ _).1 hy with h1|⟨_,h1⟩
   .exact absurd rfl (hdepL _ _ h1)
   rcases ho with ho|rfl
   .exact (hxs y).2 ⟨ho,h1⟩
   have:=(hy.lt hr).2.1;omega
  rw[if_neg e];have hm':D.op m:=by
   rcases hm with h1|h1
   .exact h1
   exact absurd h1 e
  obtain⟨h1,h2,h3⟩:=h.ah m hm';refine⟨h1,fun y hy=>(zcg _ _ _ _).2 (Or.inl (h2 y hy)),fun y hy ho=> ?_⟩;rcases (zcg _ _ _ _).1 hy with h4|⟨h4,_⟩
  .rcases ho with ho|rfl
   .exact h3 y h4 ho
   have h5:=(hy.lt hr).2.1;have:=hopn m hm';omega
  exact absurd h4 e
 .show Ris (if m=n then [] else if m∈xs then D.bh m++[n] else D.bh m)/\∀y,y∈(if m=n then [] else if m∈xs then D.bh m++[n] else D.bh m)↔(D.op y\/y=n)/\_;by_cases e:m=n
  .subst e;rw[if_pos rfl];refine⟨List.Pairwise.nil,fun y=>⟨fun hy=>(by simp at hy),fun⟨h1,h2⟩=> ?_⟩⟩;have h3:=(h2.lt hr).2.1;rcases h1 with h1|h1
   .have:=hopn y h1;omega
   omega
  rw[if_neg e];have hm':D.op m:=by
   rcases hm with h1|h1
   .exact h1
   exact absurd h1 e
  obtain⟨h1,h2⟩:=h.bh m hm';have hD:∀y,Dep (L++[(n,ks)]) y m↔Dep L y m\/(y=n/\m∈xs):=fun y=>by
   rw[zcg,hxs m];constructor
   .rintro (h4|⟨h4,h5⟩)
    .exact Or.inl h4
    exact Or.inr ⟨h4,hm',h5⟩
   rintro (h4|⟨h4,_,h5⟩)
   .exact Or.inl h4
   exact Or.inr ⟨h4,h5⟩
  by_cases hin:m∈xs
  .rw[if_pos hin];refine⟨h1.snoc (fun y hy=>hopn y ((h2 y).1 hy).1),fun y=> ?_⟩;rw[List.mem_append,h2 y,hD y];simp only[List.mem_singleton];constructor
   .rintro (⟨h4,h5⟩|h4)
    .exact⟨Or.inl h4,Or.inl h5⟩
    exact⟨Or.inr h4,Or.inr ⟨h4,hin⟩⟩
   rintro⟨h4,h5⟩;rcases h4 with h4|h4
   .rcases h5 with h5|⟨h5,_⟩
    .exact Or.inl ⟨h4,h5⟩
    exact Or.inr h5
   exact Or.inr h4
  rw[if_neg hin];refine⟨h1,fun y=> ?_⟩;rw[h2 y,hD y];constructor
  .rintro⟨h4,h5⟩;exact⟨Or.inl h4,Or.inl h5⟩
  rintro⟨h4,h5⟩;rcases h5 with h5|⟨_,h5⟩
  .refine⟨?_,h5⟩;rcases h4 with h4|h4
   .exact h4
   exact absurd h4 (hdepL _ _ h5)
  exact absurd h5 hin
 .show (D.wt a m\/(a=n/\m∈xs))↔(D.op a\/a=n)/\(D.op m\/m=n)/\_;rw[h.wt a m,zcg];constructor
  .rintro (⟨h1,h2,h3⟩|⟨h1,h2⟩)
   .exact⟨Or.inl h1,Or.inl h2,Or.inl h3⟩
   have:=(hxs m).1 h2;exact⟨Or.inr h1,Or.inl this.1,Or.inr ⟨h1,this.2⟩⟩
  rintro⟨h1,h2,h3⟩;have hmn:m≠n:=fun e=>by
   have hd:Dep (L++[(n,ks)]) a m:=(zcg _ _ _ _).2 h3;have h4:=(hd.lt hr).2.1;rcases h1 with h1|h1
   .have:=hopn a h1;omega
   omega
  have h2':D.op m:=by
   rcases h2 with h2|h2
   .exact h2
   exact absurd h2 hmn
  rcases h3 with h3|⟨h3,h4⟩
  .rcases h1 with h1|h1
   .exact Or.inl ⟨h1,h2',h3⟩
   exact absurd h1 (hdepL _ _ h3)
  exact Or.inr ⟨h3,(hxs m).2 ⟨h2',h4⟩⟩
 .obtain⟨p,hp,e⟩:=h.ended m hm;exact⟨p,by simp[hp],e⟩
 obtain⟨p,hp,e⟩:=h.ended m hm;have hmn:=hlt p hp;refine h.order m hm i hi ?_;obtain⟨x,hx',y,hy,e1,e2,hk⟩:=hN;have f:∀z:Int×List ByteArray,z∈L++[(n,ks)]->z.1<n->z∈L:=fun z hz hl=>by
  rcases List.mem_append.1 hz with h1|h1
  .exact h1
  simp at h1;subst h1;simp at hl
 exact⟨x,f x hx' (by omega),y,f y hy (by omega),e1,e2,hk⟩
def Dt.done(D:Dt)(n:Int):Dt where
 last:=D.last
 newest:=D.newest
 op:=fun m=>D.op m/\m≠n
 ah:=D.ah
 bh:=D.bh
 wt:=fun a m=>D.wt a m/\m≠n
theorem Inv.done{D:Dt}{L:Lg}{en:Int->Prop}(h:Inv D L en){n:Int}(hn:D.op n)(hf:∀m,D.op m->¬Dep L n m):Inv (D.done n) L (fun m=>en m\/m=n):=by
 have hL:=((h.op n).1 hn).1;refine⟨h.ris,h.last,h.new,h.tip,fun m=> ?_,fun m hm=> ?_,fun m hm=> ?_,fun a m=> ?_,fun m hm=> ?_,fun m hm i hi hN=> ?_⟩
 .show D.op m/\m≠n↔_;rw[h.op m,not_or,and_assoc]
 .obtain⟨h1,h2,h3⟩:=h.ah m hm.1;exact⟨h1,h2,fun y hy ho=>h3 y hy ho.1⟩
 .obtain⟨h1,h2⟩:=h.bh m hm.1;refine⟨h1,fun y=> ?_⟩;rw[show (D.done n).bh m=D.bh m from rfl,h2 y];constructor
  .rintro⟨h3,h4⟩;exact⟨⟨h3,fun e=>hf m hm.1 (e▸h4)⟩,h4⟩
  rintro⟨h3,h4⟩;exact⟨h3.1,h4⟩
 .show D.wt a m/\m≠n↔(D.op a/\a≠n)/\(D.op m/\m≠n)/\_;rw[h.wt a m];constructor
  .rintro⟨⟨h1,h2,h3⟩,h4⟩;exact⟨⟨h1,fun e=>hf m h2 (e▸h3)⟩,⟨h2,h4⟩,h3⟩
  rintro⟨h1,h2,h3⟩;exact⟨⟨h1.1,h2.1,h3⟩,h2.2⟩
 .rcases hm with hm|rfl
  .exact h.ended m hm
  exact hL
 rcases hm with hm|rfl
 .exact Or.inl (h.order m hm i hi hN)
 exact Or.inl (h.free hn hf hi hN)
def DoT(L:Lg)(op:Int->Prop)(n:Int)(xs:List Int):Prop:=Ris xs/\∀o,o∈xs↔op o/\Dep L o n/\∀m,op m->m≠n->¬Dep L o m
structure Wt where
 key:ByteArray
 val:ByteArray
 drop:Bool
def noS:ByteArray:=⟨#[]⟩
theorem zgy(s:ByteArray):s.size=0↔s=noS:=by
 constructor
 .intro h;cases s with
  |mk d=>
   have hd:d.size=0:=h;have:d= #[]:=Array.eq_empty_of_size_eq_zero hd;rw[this];rfl
 rintro rfl;rfl
def okW(x:Wt):Prop:=1<=x.key.size/\x.key.size<=64/\x.val.size<=1024/\(x.drop=true->x.val=noS)
def okT(n:Int)(ws:List Wt):Prop:=1<=n/\n<=65536/\ws.length<=32/\∀x∈ws,okW x
def insI(n:Int):List Int->List Int
 | []=>[n]
 |x::r=>if n<x then n::x::r else x::insI n r
theorem zfq(n y:Int):∀xs,y∈insI n xs↔y=n\/y∈xs
 | []=>by simp[insI]
 |x::r=>by
  unfold insI;split
  .simp
  simp only[List.mem_cons,zfq n y r];constructor
  .rintro (h|h|h)
   .exact Or.inr (Or.inl h)
   .exact Or.inl h
   exact Or.inr (Or.inr h)
  rintro (h|h|h)
  .exact Or.inr (Or.inl h)
  .exact Or.inl h
  exact Or.inr (Or.inr h)
theorem zoc(n:Int):∀xs,Ris xs->n∉xs->Ris (insI n xs)
 | [],_,_=>List.pairwise_singleton _ _
 |x::r,h,hn=>by
  have h':=List.pairwise_cons.1 h;unfold insI;split
  .rename_i hlt;refine List.pairwise_cons.2 ⟨fun y hy=> ?_,h⟩;rcases List.mem_cons.1 hy with e|e
   .omega
   have:=h'.1 y e;omega
  rename_i hlt;have hne:n≠x:=fun e=>hn (by simp[e]);refine List.pairwise_cons.2 ⟨fun y hy=> ?_,zoc n r h'.2 (fun e=>hn (by simp[e]))⟩;rcases (zfq n y r).1 hy with e|e
  .omega
  exact h'.1 y e
def adv(m:Int):List Int->Int×List Int
 | []=>(m,[])
 |x::r=>if x=m+1 then adv (m+1) r else (m,x::r)
structure Gt(m:Int)(xs:List Int):Prop where
 low:0<=m
 top:m<=65536
 ris:Ris xs
 bey:∀x∈xs,m<x/\x<=65536
theorem Gt.tail{m x:Int}{r:List Int}(h:Gt m (x::r))(e:x=m+1):Gt (m+1) r:=by
 have h':=List.pairwise_cons.1 h.ris;refine⟨by have:=h.low;omega,by have:=h.bey x (by simp);omega,h'.2,fun y hy=> ?_⟩;have:=h'.1 y hy;have:=h.bey y (by simp[hy]);omega
theorem Gt.head{m x:Int}{r:List Int}(h:Gt m (x::r)):m+1∈x::r↔x=m+1:=by
 constructor
 .intro hm;rcases List.mem_cons.1 hm with e|e
  .omega
  have:=(List.pairwise_cons.1 h.ris).1 _ e;have:=h.bey x (by simp);omega
 intro e;simp[e]
theorem zod:∀(xs:List Int)(m:Int),Gt m xs->Gt (adv m xs).1 (adv m xs).2/\(adv m xs).1+1∉(adv m xs).2/\m<=(adv m xs).1/\∀y,(y<=(adv m xs).1\/y∈(adv m xs).2)↔(y<=m\/y∈xs)
 | [],m,h=>⟨h,by simp[adv],Int.le_refl _,fun y=>Iff.rfl⟩
 |x::r,m,h=>by
  unfold adv;split
  .rename_i e;obtain⟨h1,h2,h3,h4⟩:=zod r (m+1) (h.tail e);refine⟨h1,h2,by omega,fun y=>(h4 y).trans ?_⟩;simp only[List.mem_cons];constructor
   .rintro (h|h)
    .by_cases hy:y=x
     .exact Or.inr (Or.inl hy)
     exact Or.inl (by omega)
    exact Or.inr (Or.inr h)
   rintro (h|h|h)
   .exact Or.inl (by omega)
   .exact Or.inl (by omega)
   exact Or.inr h
  rename_i e;exact⟨h,fun hm=>e (h.head.1 hm),Int.le_refl _,fun y=>Iff.rfl⟩
theorem zyl{m x:Int}{r:List Int}(e:x=m+1):adv m (x::r)=adv (m+1) r:=by simp[adv,e]
theorem zym{m:Int}{xs:List Int}(h:Gt m xs)(hn:m+1∉xs):adv m xs=(m,xs):=by
 cases xs with
 |nil=>rfl
 |cons x r=>unfold adv;rw[if_neg (fun e=>hn (h.head.2 e))]
def wdOf(n:Int):Nat:=(n.toNat-1)/64
def btOf(n:Int):Nat:=(n.toNat-1)%64
def pw2(k:Nat):Nat:=2 ^ k
def zlb(ws:List Nat)(n:Int):Bool:=(ws.getD (wdOf n) 0).testBit (btOf n)
theorem zabe{n y:Int}(hn:1<=n)(hy:1<=y):(wdOf n=wdOf y/\btOf n=btOf y)↔n=y:=by
 unfold wdOf btOf;constructor
 .rintro⟨h1,h2⟩;have:=Nat.div_add_mod (n.toNat-1) 64;have:=Nat.div_add_mod (y.toNat-1) 64;omega
 rintro rfl;exact⟨rfl,rfl⟩
theorem zfj(n:Int):btOf n<64:=Nat.mod_lt _ (by decide)
theorem zfk{n:Int}(h1:1<=n)(h2:n<=65536):wdOf n<1024:=by unfold wdOf;omega
theorem zgz{k:Nat}(h:k<64):pw2 k<2 ^ 64:=Nat.pow_lt_pow_right (by decide) h
structure Wds(ws:List Nat)(xs:List Int):Prop where
 len:ws.length=1024
 low:∀x∈ws,x<2 ^ 64
 bits:∀n,1<=n->n<=65536->(zlb ws n=true↔n∈xs)
theorem Wds.at{ws:List Nat}{xs:List Int}(h:Wds ws xs)(i:Nat):ws.getD i 0<2 ^ 64:=by
 by_cases hi:i<ws.length
 .simp[List.getD,hi];exact h.low _ (List.getElem_mem _)
 simp[List.getD,hi]
theorem Wds.zero:Wds (List.replicate 1024 0) []:=by
 refine⟨List.length_replicate,fun x hx=> ?_,fun n h1 h2=> ?_⟩
 .rw[(List.mem_replicate.1 hx).2];exact Nat.two_pow_pos _
 have:=zfk h1 h2;have e:(List.replicate 1024 0).getD (wdOf n) 0=0:=by
  rw[List.getD,List.getElem?_replicate,if_pos this];rfl
 unfold zlb;rw[e];simp
theorem zbd{ws:List Nat}{i j x:Nat}(hi:i<ws.length):(ws.set i x).getD j 0=if i=j then x else ws.getD j 0:=by
 by_cases h:i=j
 .subst h;simp[List.getD,hi]
 simp[List.getD,h,List.getElem?_set]
theorem Wds.put{ws:List Nat}{xs ys:List Int}{n:Int}(h:Wds ws xs)(h1:1<=n)(h2:n<=65536)(hy:∀y,y∈ys↔y=n\/y∈xs):Wds (ws.set (wdOf n) (ws.getD (wdOf n) 0 ||| pw2 (btOf n))) ys:=by
 have hw:=zfk h1 h2;refine⟨by simp[h.len],fun x hx=> ?_,fun y hy1 hy2=> ?_⟩
 .rcases List.mem_or_eq_of_mem_set hx with e|e
  .exact h.low x e
  subst e;exact Nat.or_lt_two_pow (h.at _) (zgz (zfj n))
 rw[hy,<-h.bits y hy1 hy2,<-zabe hy1 h1];unfold zlb;rw[zbd (by rw[h.len];exact hw)];by_cases e:wdOf n=wdOf y
 .rw[if_pos e,Nat.testBit_or,pw2,Nat.testBit_two_pow,e];simp only[Bool.or_eq_true,decide_eq_true_eq,true_and];constructor
  .rintro (h3|h3)
   .exact Or.inr h3
   exact Or.inl h3.symm
  rintro (h3|h3)
  .exact Or.inr h3.symm
  exact Or.inl h3
 rw[if_neg e];constructor
 .exact Or.inr
 rintro (⟨h3,_⟩|h3)
 .exact absurd h3.symm e
 exact h3
theorem Wds.cut{ws:List Nat}{xs ys:List Int}{n:Int}(h:Wds ws xs)(h1:1<=n)(h2:n<=65536)(hy:∀y,y∈ys↔y≠n/\y∈xs){v:Nat}(hv:∀b,v.testBit b=((ws.getD (wdOf n) 0).testBit b && !decide (btOf n=b))):Wds (ws.set (wdOf n) v) ys:=by
 have hw:=zfk h1 h2;refine⟨by simp[h.len],fun x hx=> ?_,fun y hy1 hy2=> ?_⟩
 .rcases List.mem_or_eq_of_mem_set hx with e|e
  .exact h.low x e
  subst e;refine Nat.lt_pow_two_of_testBit _ (fun b hb=> ?_);rw[hv,Nat.testBit_lt_two_pow (Nat.lt_of_lt_of_le (h.at _) (Nat.pow_le_pow_right (by decide) hb))];rfl
 rw[hy,<-h.bits y hy1 hy2,show (y≠n)↔_ from not_congr (zabe hy1 h1).symm];unfold zlb;rw[zbd (by rw[h.len];exact hw)];by_cases e:wdOf n=wdOf y
 .rw[if_pos e,hv,e];simp only[Bool.and_eq_true,Bool.not_eq_true',decide_eq_false_iff_not,true_and];constructor
  .rintro⟨h3,h4⟩;exact⟨fun x=>h4 x.symm,h3⟩
  rintro⟨h3,h4⟩;exact⟨h4,fun x=>h3 x.symm⟩
 rw[if_neg e];constructor
 .intro h3;exact⟨fun x=>e x.1.symm,h3⟩
 rintro⟨_,h3⟩;exact h3
structure Tx where
 n:Int
 ws:List Wt
def Tx.zero:Tx:=⟨0,[]⟩
def Tx.ok(t:Tx):Prop:=okT t.n t.ws
def okL:Nat->List Tx->Prop
 |_,[]=>True
 |k,t::r=>t.ok/\t.n=(k:Int)/\okL (k+1) r
def Bad:Nat->List Tx->Nat->Prop
 |_,[],c=>c=0
 |k,t::r,c=>(¬t.ok/\c=1)\/(t.ok/\t.n≠(k:Int)/\c=6)\/(t.ok/\t.n=(k:Int)/\Bad (k+1) r c)
theorem Bad.ex:∀(l:List Tx)(k:Nat),∃c,Bad k l c:=by
 intro l;induction l with
 |nil=>intro k;exact⟨0,rfl⟩
 |cons t r ih=>
  intro k;by_cases h:t.ok
  .by_cases h1:t.n=(k:Int)
   .obtain⟨c,hc⟩:=ih (k+1);exact⟨c,Or.inr (Or.inr ⟨h,h1,hc⟩)⟩
   exact⟨6,Or.inr (Or.inl ⟨h,h1,rfl⟩)⟩
  exact⟨1,Or.inl ⟨h,rfl⟩⟩
theorem Bad.ok:∀{l:List Tx}{k c:Nat},Bad k l c->(c=0↔okL k l):=by
 intro l;induction l with
 |nil=>intro k c h;simp only[Bad]at h;simp[okL,h]
 |cons t r ih=>
  intro k c h;rcases h with⟨h,rfl⟩|⟨h,h1,rfl⟩|⟨h,h1,h2⟩
  .exact⟨fun x=>by omega,fun x=>absurd x.1 h⟩
  .exact⟨fun x=>by omega,fun x=>absurd x.2.1 h1⟩
  rw[ih h2];exact⟨fun x=>⟨h,h1,x⟩,fun x=>x.2.2⟩
theorem zjt{l:List Tx}{k:Nat}(h:okL k l):Bad k l 0:=by
 obtain⟨c,hc⟩:=Bad.ex l k;have:=(Bad.ok hc).2 h;rw[this]at hc
 exact hc
theorem zha:∀{l:List Tx}{k:Nat},okL k l->∀i,i<l.length->(l.getD i Tx.zero).ok/\(l.getD i Tx.zero).n=((k+i:Nat):Int):=by
 intro l;induction l with
 |nil=>intro k h i hi;simp at hi
 |cons t r ih=>
  intro k h i hi;cases i with
  |zero=>exact⟨h.1,by simpa using h.2.1⟩
  |succ i=>
   have:=ih h.2.2 i (by simpa using hi);rw[show k+1+i=k+(i+1) by omega]at this
   simpa[List.getD]using this
theorem zdo{l:List Tx}(h:okL 1 l):l.length<=65536:=by
 by_cases h0:l.length=0
 .omega
 obtain⟨h1,h2⟩:=zha h (l.length-1) (by omega);have:=h1.2.1;omega
theorem zma{l:List Tx}{k:Nat}(h:okL k l):∀t∈l,t.ok:=by
 intro t ht;obtain⟨i,hi,rfl⟩:=List.getElem_of_mem ht;have:=(zha h i hi).1;simpa[List.getD,hi]using this
def zeq(h x:Nat):Nat:=((h ^^^ x)*16777619)%4294967296
def zdu(xs:List Nat):Nat:=xs.foldl zeq 2166136261
theorem zsx{α β:Type}(f:α->β->α)(a:α)(xs:List β)(x:β):(xs++[x]).foldl f a=f (xs.foldl f a) x:=by simp
theorem zrf{β:Type}(f:Nat->β->Nat)(B a:Nat)(xs:List β)(h:a<B)(hf:∀a x,f a x<B):xs.foldl f a<B:=by
 induction xs generalizing a with
 |nil=>exact h
 |cons x l ih=>exact ih _ (hf a x)
theorem zrg(xs:List Nat)(x:Nat):zdu (xs++[x])=zeq (zdu xs) x:=zsx zeq _ xs x
theorem zok(a x:Nat):zeq a x<4294967296:=Nat.mod_lt _ (by decide)
theorem zvd(xs:List Nat):zdu xs<4294967296:=zrf zeq _ _ xs (by decide) zok
theorem zve(xs:List Nat)(i x:Nat)(h:i<xs.length)(hx:x=xs.getD i 0):xs.take (i+1)=xs.take i++[x]:=by
 have hget:xs[i]? = some x:=by rw[hx,List.getD,List.getElem?_eq_getElem h];rfl
 rw[List.take_add_one,hget];rfl
theorem zsy(s:ByteArray)(i:Nat)(h:i<s.size):(zdi s).getD i 0=s[i].toNat:=by
 have hl:i<(zdi s).length:=by rw[zio];exact h
 rw[show (zdi s).getD i 0=(zdi s)[i] from by simp[List.getD,hl]];simp only[zdi,List.getElem_map,Array.getElem_toList];rfl
theorem zyr(c x:Nat)(hc:c<4294967296)(hx:x<256):bits .xor .u32 (c:Int) ((x:Int)%4294967296)*16777619%4294967296=((zeq c x:Nat):Int):=by
 have e:(x:Int)%4294967296=(x:Int):=by omega
 rw[e,u32_xor_nat c x hc (by omega),zeq];simp
theorem zys(m:Nat)(s:ByteArray)(w:World)(hs:s.size<=9223372036854775807)(hm:zdu (zdi s)=m) :
  Calls Tryz.prog 171 #[.string s] w fun e w'=>e=.returned (.int .u32 (m:Int))/\w=w':=by
 have HM:Hid (zdu (zdi s)=m):=hm;clear hm;obtain⟨xs,HX⟩:∃xs,Hid (xs=zdi s):=⟨_,rfl⟩;have HL:Hid (s.size=xs.length):=by show _=_;rw[HX.out,zio]
 go_enter Tryz.func171,Tryz.ntmps171;go_wp2_with fail
 go_loop [3,7] (fun cc ii=>∃(c i:Nat),cc=.int .u32 (c:Int)/\ii=.int .i64 i/\i<=s.size/\c<4294967296/\Hid (c=zdu (xs.take i))) (fun _ ii=>s.size-(RowKit.intOf ii).toNat)
 case atStart=>exact⟨2166136261,0,rfl,rfl,Nat.zero_le _,by omega,rfl⟩
 obtain⟨c,i,rfl,rfl,hi,hc,HR⟩:=hrel;by_cases hiL:i<s.size
 .have HV:Hid (bits .xor .u32 (c:Int) ((s[i].toNat:Int)%4294967296)*16777619%4294967296=((zeq c s[i].toNat:Nat):Int)):=zyr c _ hc s[i].toNat_lt;have HS:Hid (zeq c s[i].toNat=zdu (xs.take (i+1))):=by
   show _=_;rw[zve xs i s[i].toNat (by rw[<-HL.out];exact hiL) (by rw[HX.out,zsy s i hiL]),zrg,<-HR.out]
  have hlt:=zok c s[i].toNat
  go_wp2_with fail
  go_round
  case rel=>exact⟨zeq c s[i].toNat,i+1,by rw[<-HV.out],by simp,by omega,hlt,HS⟩
  case measure=>simp[RowKit.intOf];omega
 obtain hie:i=s.size:=by omega
 have HM':Hid (c=m):=by
  show _=_;rw[HR.out,<-HM.out,List.take_of_length_le (by rw[<-HL.out];omega),HX.out]
 clear hie;go_wp2_with fail
 go_ret;rw[HM'.out];exact⟨rfl,rfl⟩
def I6(n:Int):Prop:= -9223372036854775808<=n/\n<=9223372036854775807
structure Cf where
 l:Int
 s:Int
 w:Int
 q:Int
def Cf.ok(c:Cf):Prop:=I6 c.l/\I6 c.s/\I6 c.w/\I6 c.q
def Cf.may(c:Cf):Prop:=(1<=c.l/\c.l<=16)/\(1<=c.s/\c.s<=16)/\(1<=c.w/\c.w<=64)/\(1<=c.q/\c.q<=16)
instance (c:Cf):Decidable c.may:=by unfold Cf.may;infer_instance
def Cf.err(c:Cf):Int:=if c.may then 0 else 7
theorem zol(n m:Int)(w:World) :
  Calls Tryz.prog 54 #[.int .i64 n,.int .i64 m] w fun e w'=>e=.returned (.bool (decide (1<=n/\n<=m)))/\w=w':=by
 by_cases h:1<=n
 .by_cases h2:n<=m
  .go_enter Tryz.func54,Tryz.ntmps54;go_wp2;go_ret;exact⟨by simp[h,h2],rfl⟩
  go_enter Tryz.func54,Tryz.ntmps54;go_wp2;go_ret;exact⟨by simp[h,h2],rfl⟩
 go_enter Tryz.func54,Tryz.ntmps54;go_wp2;go_ret;exact⟨by rw[decide_eq_false (p:=1<=n) (by omega)];rfl,rfl⟩
theorem zbr(n m:Int)(w:World)(h:1<=n/\n<=m):Calls Tryz.prog 54 #[.int .i64 n,.int .i64 m] w fun e w'=>e=.returned (.bool true)/\w=w':=
 (zol n m w).mono fun e w' k=>⟨by rw[k.1,decide_eq_true h],k.2⟩
theorem zhb(n m:Int)(w:World)(h:¬(1<=n/\n<=m)):Calls Tryz.prog 54 #[.int .i64 n,.int .i64 m] w fun e w'=>e=.returned (.bool false)/\w=w':=
 (zol n m w).mono fun e w' k=>⟨by rw[k.1,decide_eq_false h],k.2⟩
theorem zde(l s x q:Int)(w:World) :
  Calls Tryz.prog 30 #[.agg #[.int .i64 l,.int .i64 s,.int .i64 x,.int .i64 q]] w fun e w'=>e=.returned (.int .i64 (Cf.err ⟨l,s,x,q⟩))/\Fr [] w w':=by
 by_cases h1:1<=l/\l<=16
 .by_cases h2:1<=s/\s<=16
  .by_cases h3:1<=x/\x<=64
   .by_cases h4:1<=q/\q<=16
    .have E:Cf.err ⟨l,s,x,q⟩=0:=if_pos ⟨h1,h2,h3,h4⟩;rw[E];have H1:=fun w=>zbr l 16 w h1;have H2:=fun w=>zbr s 16 w h2;have H3:=fun w=>zbr x 64 w h3;have H4:=fun w=>zbr q 16 w h4;clear h1 h2 h3 h4 E;go_enter Tryz.func30,Tryz.ntmps30;go_wp2_with fail
     refine (H1 _).mono ?_;rintro e w1⟨rfl,rfl⟩;go_wp2_with fail
     refine (H2 _).mono ?_;rintro e w1⟨rfl,rfl⟩;go_wp2_with fail
     refine (H3 _).mono ?_;rintro e w1⟨rfl,rfl⟩;go_wp2_with fail
     refine (H4 _).mono ?_;rintro e w1⟨rfl,rfl⟩;go_wp2_with fail
     go_ret;exact⟨rfl,Fr.alloc _ _ _⟩
    have E:Cf.err ⟨l,s,x,q⟩=7:=if_neg (fun h=>h4 h.2.2.2);rw[E];have H1:=fun w=>zbr l 16 w h1;have H2:=fun w=>zbr s 16 w h2;have H3:=fun w=>zbr x 64 w h3;have H4:=fun w=>zhb q 16 w h4;clear h1 h2 h3 h4 E;go_enter Tryz.func30,Tryz.ntmps30;go_wp2_with fail
    refine (H1 _).mono ?_;rintro e w1⟨rfl,rfl⟩;go_wp2_with fail
    refine (H2 _).mono ?_;rintro e w1⟨rfl,rfl⟩;go_wp2_with fail
    refine (H3 _).mono ?_;rintro e w1⟨rfl,rfl⟩;go_wp2_with fail
    refine (H4 _).mono ?_;rintro e w1⟨rfl,rfl⟩;go_wp2_with fail
    go_ret;exact⟨rfl,Fr.alloc _ _ _⟩
   have E:Cf.err ⟨l,s,x,q⟩=7:=if_neg (fun h=>h3 h.2.2.1);rw[E];have H1:=fun w=>zbr l 16 w h1;have H2:=fun w=>zbr s 16 w h2;have H3:=fun w=>zhb x 64 w h3;clear h1 h2 h3 E;go_enter Tryz.func30,Tryz.ntmps30;go_wp2_with fail
   refine (H1 _).mono ?_;rintro e w1⟨rfl,rfl⟩;go_wp2_with fail
   refine (H2 _).mono ?_;rintro e w1⟨rfl,rfl⟩;go_wp2_with fail
   refine (H3 _).mono ?_;rintro e w1⟨rfl,rfl⟩;go_wp2_with fail
   go_ret;exact⟨rfl,Fr.alloc _ _ _⟩
  have E:Cf.err ⟨l,s,x,q⟩=7:=if_neg (fun h=>h2 h.2.1);rw[E];have H1:=fun w=>zbr l 16 w h1;have H2:=fun w=>zhb s 16 w h2;clear h1 h2 E;go_enter Tryz.func30,Tryz.ntmps30;go_wp2_with fail
  refine (H1 _).mono ?_;rintro e w1⟨rfl,rfl⟩;go_wp2_with fail
  refine (H2 _).mono ?_;rintro e w1⟨rfl,rfl⟩;go_wp2_with fail
  go_ret;exact⟨rfl,Fr.alloc _ _ _⟩
 have E:Cf.err ⟨l,s,x,q⟩=7:=if_neg (fun h=>h1 h.1);rw[E];have H1:=fun w=>zhb l 16 w h1;clear h1 E;go_enter Tryz.func30,Tryz.ntmps30;go_wp2_with fail
 refine (H1 _).mono ?_;rintro e w1⟨rfl,rfl⟩;go_wp2_with fail
 go_ret;exact⟨rfl,Fr.alloc _ _ _⟩
def zlf(s:Int)(key:ByteArray):Int:=((zdu (zdi key):Nat):Int)%s
def Cf.shard(c:Cf)(key:ByteArray):Int×Int:=if ¬c.may then (0,7) else if ¬(1<=key.size/\key.size<=64) then (0,1) else (zlf c.s key,0)
theorem zvf(l s x q:Int)(key:ByteArray)(w:World)(hk:key.size<=9223372036854775807) :
  Calls Tryz.prog 140 #[.agg #[.int .i64 l,.int .i64 s,.int .i64 x,.int .i64 q],.string key] w fun e w'=>e=.returned (.tuple #[.int .i64 (Cf.shard ⟨l,s,x,q⟩ key).1,.int .i64 (Cf.shard ⟨l,s,x,q⟩ key).2])/\Fr [] w w':=by
 have HC:=fun w=>zde l s x q w;by_cases hm:Cf.may ⟨l,s,x,q⟩
 .have E:Cf.err ⟨l,s,x,q⟩=0:=if_pos hm;rw[E]at HC
  have hs:1<=s/\s<=16:=hm.2.1;by_cases hz:1<=key.size/\key.size<=64
  .have E2:Cf.shard ⟨l,s,x,q⟩ key=(zlf s key,0):=by simp[Cf.shard,hm,hz]
   rw[E2];have HK:=fun w=>zbr (key.size:Int) 64 w (by omega);obtain⟨m,HM⟩:∃m,Hid (zdu (zdi key)=m):=⟨_,rfl⟩;have hm32:m<4294967296:=by rw[<-HM.out];exact zvd _
   have HH:∀w,Calls Tryz.prog 171 #[.string key] w fun e w'=>e=.returned (.int .u32 (m:Int))/\w'=w:=fun w=>(zys m key w hk HM.out).mono fun e w' h=>⟨h.1,h.2.symm⟩;obtain⟨r,HR⟩:∃r:Int,Hid (r=(m:Int)%s):=⟨_,rfl⟩;have HN:Hid (zlf s key=r):=by show _=_;rw[HR.out,zlf,HM.out]
   have hr:0<=r/\r<16:=by
    have h1:=Int.emod_nonneg (m:Int) (show s≠0 by omega);have h2:=Int.emod_lt_of_pos (m:Int) (show 0<s by omega);rw[HR.out];omega
   have hcv:s%4294967296=s:=by omega
   have hne:s≠0:=by omega
   have hrem:(m:Int).tmod s=r:=by rw[HR.out];exact Int.tmod_eq_emod_of_nonneg (by omega)
   rw[HN.out];clear hm E E2 hz HN HR;go_enter Tryz.func140,Tryz.ntmps140;go_wp2_with fail
   refine (HC _).mono ?_;rintro e w1⟨rfl,hF1⟩;have hc1:w1.cell? ⟨w.heap.size,1,none⟩=some (.int .i64 s):=by
    rw[World.cell?_of_block (hF1.block w.heap.size (by simp) (by simp))];simp[World.cell?_alloc_at]
   have HF:Hid (Fr [] w w1):=(Fr.alloc _ _ _).then hF1;clear hF1 HC;go_wp2_with fail
   refine (HK _).mono ?_;rintro e w2⟨rfl,rfl⟩;go_wp2_with fail
   go_quiet ((go_at_call 171;exact Calls.quiet_of_same (HH _)))
   go_wp2_with fail
   refine bodyPost_ret (results_tmp2 rfl _ _ _) rfl ?_;exact⟨rfl,HF.out.then (Fr.drewN _ _ _)⟩
  have E2:Cf.shard ⟨l,s,x,q⟩ key=(0,1):=by simp only[Cf.shard,hm,hz];simp
  rw[E2];have HK:=fun w=>zhb (key.size:Int) 64 w (by omega);clear hm E E2 hz;go_enter Tryz.func140,Tryz.ntmps140;go_wp2_with fail
  refine (HC _).mono ?_;rintro e w1⟨rfl,hF1⟩;have HF:Hid (Fr [] w w1):=(Fr.alloc _ _ _).then hF1;clear hF1 HC;go_wp2_with fail
  refine (HK _).mono ?_;rintro e w2⟨rfl,rfl⟩;go_wp2_with fail
  refine bodyPost_ret (results_tmp2 rfl _ _ _) rfl ?_;exact⟨rfl,HF.out⟩
 have E:Cf.err ⟨l,s,x,q⟩=7:=if_neg hm;rw[E]at HC
 have E2:Cf.shard ⟨l,s,x,q⟩ key=(0,7):=by simp only[Cf.shard,hm];simp
 rw[E2];clear hm E E2;go_enter Tryz.func140,Tryz.ntmps140;go_wp2_with fail
 refine (HC _).mono ?_;rintro e w1⟨rfl,hF1⟩;have HF:Hid (Fr [] w w1):=(Fr.alloc _ _ _).then hF1;clear hF1 HC;go_wp2_with fail
 refine bodyPost_ret (results_tmp2 rfl _ _ _) rfl ?_;exact⟨rfl,HF.out⟩
structure Wd13(w1:World) where
 W:World
 h:Fr [] w1 W
instance (w1:World):Nonempty (Wd13 w1):=⟨⟨w1,Fr.refl _ _⟩⟩
theorem zmb{P:Program}{w1 wr:World}{id:Nat}{Q:Exit->Act->World->Prop}{a:Act}{l:List Oper}(hm:P.follows .mixedOrders=true)(hB:Region.lexB .any l.toArray=true)(hf:Fr [] w1 wr)(h:wpQuiet P l.toArray (fun w'=>∃x:Wd13 w1,w'=x.W) (fun a'=>∀w',(∃x:Wd13 w1,w'=x.W)->Q .normal a' w') l a):(Code.region id l.toArray true).wp P Q a wr:=
 wp_region_quiet (C:=fun w'=>∃x:Wd13 w1,w'=x.W) hm hB ⟨⟨_,hf.then (Fr.drew [] wr)⟩,rfl⟩ (by simpa using h)
def CfM(w:World)(b:Nat)(l s x q:Int):Prop:=b<w.heap.size/\w.cell? ⟨b,0,none⟩=some (.int .i64 l)/\w.cell? ⟨b,1,none⟩=some (.int .i64 s)/\w.cell? ⟨b,2,none⟩=some (.int .i64 x)/\w.cell? ⟨b,3,none⟩=some (.int .i64 q)
theorem CfM.keep{w w':World}{b:Nat}{l s x q:Int}(h:CfM w b l s x q)(hf:Fr [] w w'):CfM w' b l s x q:=by
 have e:∀j,w'.cell? ⟨b,j,none⟩=w.cell? ⟨b,j,none⟩:=fun j=>World.cell?_of_block (a:=⟨b,j,none⟩) (hf.block b h.1 (by simp));exact⟨Nat.lt_of_lt_of_le h.1 hf.size,(e 0).trans h.2.1,(e 1).trans h.2.2.1,(e 2).trans h.2.2.2.1,(e 3).trans h.2.2.2.2⟩
theorem CfM.new(w:World)(l s x q:Int)(t:TypeId):CfM (w.alloc (.cells #[.int .i64 l,.int .i64 s,.int .i64 x,.int .i64 q] t)) w.heap.size l s x q:=
 ⟨by simp,by simp[World.cell?_alloc_at],by simp[World.cell?_alloc_at],by simp[World.cell?_alloc_at],by simp[World.cell?_alloc_at]⟩
theorem Tryz.cellsCf:Tryz.prog.cellsOf 23=4:=by kernel_rfl
theorem Tryz.cI13:Tryz.prog.cellsOf 3=1:=by kernel_rfl
theorem Tryz.undI13:Tryz.prog.underlying 3=some (.int .i64):=by kernel_rfl
theorem Tryz.cfFields:(match Tryz.prog.underlying 23 with|some (.struct fs)=>fs.toList.map (fun f=>(f.type,f.offset))|_=>[])=[(3,0),(3,1),(3,2),(3,3)]:=by kernel_rfl
section
variable{H:Type}{enc:TypeId×Value->H}
theorem zabu{w:World}{base:Nat}{spare:Nat->Bool}{held:Bool}{fuel:Nat}{cs:List Value}{x:DataW H×List MemPlace}(h:DataW.trod enc Tryz.prog w base spare held fuel 23 cs=some x) :
  ∃(a b c d:Int),cs=[.int .i64 a,.int .i64 b,.int .i64 c,.int .i64 d]/\Cf.ok ⟨a,b,c,d⟩:=by
 have hF:=Tryz.cfFields;cases hu:Tryz.prog.underlying 23 with
 |none=>rw[hu]at hF;simp at hF
 |some u=>
  rw[hu]at hF
  cases u with
  |struct fs=>
   simp only at hF;obtain⟨ys,n,_,hx,hlen,hys,hf⟩:=DataW.trod_struct hu h;rw[Tryz.cellsCf]at hlen
   match cs,hlen with
   | [v0,v1,v2,v3],_=>
    have hl4:fs.toList.length=4:=by have:=congrArg List.length hF;simpa using this
    obtain⟨l,hl⟩:∃l,l=fs.toList:=⟨_,rfl⟩;rw[<-hl]at hF hl4
    match l,hl4 with
    | [f0,f1,f2,f3],_=>
     simp only[List.map_cons,List.map_nil,List.cons.injEq,Prod.mk.injEq,and_true]at hF;obtain⟨⟨t0,o0⟩,⟨t1,o1⟩,⟨t2,o2⟩,⟨t3,o3⟩⟩:=hF;have g:∀(i:Nat)(f:Field),[f0,f1,f2,f3][i]? = some f->fs[i]? = some f:=by
      intro i f hi;rw[hl]at hi
      simpa using hi
     have r0:=hf 0 f0 (g 0 f0 rfl);have r1:=hf 1 f1 (g 1 f1 rfl);have r2:=hf 2 f2 (g 2 f2 rfl);have r3:=hf 3 f3 (g 3 f3 rfl);rw[t0,o0,Tryz.cI13]at r0
     rw[t1,o1,Tryz.cI13]at r1
     rw[t2,o2,Tryz.cI13]at r2
     rw[t3,o3,Tryz.cI13]at r3
     simp only[List.drop_zero,List.drop_succ_cons,List.take_succ_cons,List.take_zero]at r0 r1 r2 r3;have hy4:ys.length=4:=by rw[hys];have:=congrArg List.length hl;simpa using this.symm
     match ys,hy4 with
     | [y0,y1,y2,y3],_=>
      simp only[List.getElem?_cons_zero,List.getElem?_cons_succ]at r0 r1 r2 r3;obtain⟨k0,e0,_,w0⟩:=DataW.trod_int Tryz.undI13 r0;obtain⟨k1,e1,_,w1⟩:=DataW.trod_int Tryz.undI13 r1;obtain⟨k2,e2,_,w2⟩:=DataW.trod_int Tryz.undI13 r2;obtain⟨k3,e3,_,w3⟩:=DataW.trod_int Tryz.undI13 r3;simp only[List.cons.injEq,and_true]at e0 e1 e2 e3;exact⟨k0,k1,k2,k3,by rw[e0,e1,e2,e3],bounds_i64 w0,bounds_i64 w1,bounds_i64 w2,bounds_i64 w3⟩
  |_=>simp at hF
end
end
namespace F
open Go.ChangeShapes Go.WideShapes Go.ChangeAt Go.RowKit Go.Lib
section
variable(w:World)
theorem zvo{e:TypeId}{v:Value}{n:Nat}{xs:List Value}(h:w.ownsRow 0 e 1 v n xs):∃ao cap,v=.slice ao n cap:=by
 rcases h.2 with⟨hh,h0⟩|⟨g,cap',_,hh,_⟩
 .exact⟨none,0,by rw[hh,h0]⟩
 exact⟨_,cap',hh⟩
end
end F
section
open Go.ChangeShapes Go.WideShapes Go.ChangeAt Go.RowKit Go.Lib
theorem zps{fn:Func}{p:Tmp}{ty:TypeId}(h:fn.results= #[.cell p ty])(tmps:Array Value)(P:Program)(w:World)(g:Nat)(v:Value)(hp:tmps.getD p undef=.pointer (some ⟨g,0,none⟩))(hld:(loadVar ty ⟨g,0,none⟩).run P w=.ok v w) :
  (results fn tmps).run P w=.ok v w:=by
 simp only[results,h];simp[Sem.run_bind,Result.andThen,<-Array.getD_eq_getD_getElem?,hp,asAddr,hld]
theorem ztp{w:World}{g mb:Nat}{n:Int}(h:w.heap[g]? = some (.cells #[.pointer (some ⟨mb,0,none⟩),.int .i64 n] 217 (0,0))):(loadVar 217 ⟨g,0,none⟩).run Tryz.prog w=.ok (.agg #[.pointer (some ⟨mb,0,none⟩),.int .i64 n]) w:=
 run_loadVar_row (P:=Tryz.prog) _ g _ 217 _ _ (.struct (Tryz.prog.fieldsOf 217)) h (by kernel_rfl) rfl (by kernel_rfl)
theorem zpt{w:World}{mb n k:Nat}{o:Option Addr}(c13:w.cell? ⟨mb,13,none⟩=some (.slice o n k))(hn:n<=100):Calls Tryz.prog 103 #[.pointer (some ⟨mb,0,none⟩)] w fun e w'=>e=.returned (.agg #[.pointer (some ⟨mb,0,none⟩),.int .i64 (n:Int)])/\Fr [] w w':=by
 obtain⟨w1,HW1⟩:∃w1,Hid (w.alloc (.cells #[.pointer (some ⟨mb,0,none⟩),.int .i64 (n:Int)] 217)=w1):=⟨_,rfl⟩;have hb:w1.heap[w.heap.size]? = some (.cells #[.pointer (some ⟨mb,0,none⟩),.int .i64 (n:Int)] 217 (0,0)):=by rw[<-HW1.out];exact heap_alloc_new _ _
 have hf:Fr [] w w1:=by rw[<-HW1.out];exact Fr.alloc _ _ _
 have c13':∀ob,(w.alloc ob).cell? ⟨mb,13,none⟩=some (.slice o n k):=fun ob=>by
  have hlt:mb<w.heap.size:=World.block_lt_of_cell? w _ (by rw[c13]);exact (World.cell?_of_block ((Fr.alloc [] w ob).block mb hlt (by simp))).trans c13
 have HB:Hid (w1.heap[w.heap.size]? = _):=hb;have HF:Hid (Fr [] w w1):=hf;clear hb hf;go_enter Tryz.func103,Tryz.ntmps103;go_wp2_with fail
 rw[HW1.out];refine bodyPost_ret (zps rfl _ _ _ w.heap.size _ rfl (ztp HB.out)) rfl ?_;exact⟨rfl,HF.out⟩
def zah(ops:Array Oper)(j:Nat):Option Nat:=(ops[j]?).bind (·.dst)
def env(a:Act):Nat->Value:=fun t=>a.eval (.tmp t)
def dep(ops:Array Oper)(i j:Nat):Bool:=match ops[i]? with
 |some o=>o.after.any fun e=>Region.binds .any e&&e.on==j
 |none=>false
section
variable{ops:Array Oper}
theorem zfy{md:Region.Mode}{listed:Array Bool}{i:Nat}(h:i∈Region.ready md ops listed):i<ops.size/\listed.getD i true=false/\∀o,ops[i]? = some o->∀e∈o.after,Region.binds md e=true->listed.getD e.on false=true:=by
 unfold Region.ready at h;rw[List.mem_filter,List.mem_range]at h
 obtain⟨h1,h2⟩:=h;simp only[Bool.and_eq_true,Bool.not_eq_true']at h2;refine⟨h1,h2.1,fun o ho e he hb=> ?_⟩;have h3:=h2.2;rw[ho]at h3
 simp only[Option.map_some,Option.getD_some,Array.all_eq_true_iff_forall_mem]at h3;have h4:=h3 e he;rw[hb]at h4
 simpa using h4
theorem zjg(hlex:∀(i:Nat) (o:Oper),ops[i]? = some o->∀e∈o.after,Region.binds .any e=true->e.on<i)(listed:Array Bool)(hz:listed.size=ops.size)(he:Region.ready .any ops listed=[]):∀i,i<ops.size->listed[i]? = some true:=by
 intro i;induction i using Nat.strongRecOn with
 |ind i ih=>
  intro hi;have hl:i<listed.size:=by rw[hz];exact hi
  rw[Array.getElem?_eq_getElem hl];cases hc:listed[i] with
  |true=>rfl
  |false=>
   exfalso;have hm:i∈Region.ready .any ops listed:=by
    unfold Region.ready;rw[List.mem_filter,List.mem_range];refine⟨hi,?_⟩;rw[Array.getD_eq_getD_getElem?,Array.getElem?_eq_getElem hl,hc,Array.getElem?_eq_getElem hi];simp only[Option.getD_some,Bool.not_false,Bool.true_and,Option.map_some,Array.all_eq_true_iff_forall_mem];intro e hee;by_cases hb:Region.binds .any e=true
    .have h1:=hlex i _ (Array.getElem?_eq_getElem hi) e hee hb;have h2:=ih e.on h1 (by omega);rw[Array.getD_eq_getD_getElem?,h2];simp
    simp only[Bool.not_eq_true]at hb;simp[hb]
   rw[he]at hm
   simp at hm
end
def updB(L:Nat->Bool)(i:Nat):Nat->Bool:=fun j=>if j=i then true else L j
theorem zjh(L:Nat->Bool)(i:Nat):updB L i i=true:=if_pos rfl
theorem zcn(L:Nat->Bool){i j:Nat}(h:j≠i):updB L i j=L j:=if_neg h
def puts(a:Act):List (Nat×Value)->Act
 | []=>a
 |p::r=>puts (a.put (some p.1) p.2) r
theorem zji(a:Act):∀l:List (Nat×Value),(puts a l).tmps.size=a.tmps.size
 | []=>rfl
 |p::r=>by
  rw[puts,zji _ r];simp[Act.put]
theorem zgw(a:Act):∀l:List (Nat×Value),(puts a l).defers=a.defers
 | []=>rfl
 |p::r=>by
  rw[puts,zgw _ r];rfl
theorem zlq{a:Act}{d j:Nat}{v:Value}(h:d≠j):env (a.put (some d) v) j=env a j:=Act.eval_put_ne a d j v h
theorem zjj{a:Act}{d:Nat}{v:Value}(h:d<a.tmps.size):env (a.put (some d) v) d=v:=Act.eval_put_same a d v h
theorem zfh(a:Act):∀(l:List (Nat×Value))(t:Nat),(∀p∈l,p.1≠t)->env (puts a l) t=env a t
 | [],_,_=>rfl
 |p::r,t,h=>by
  rw[puts,zfh _ r t (fun q hq=>h q (List.mem_cons_of_mem _ hq))];exact zlq (h p List.mem_cons_self)
theorem zmk(a:Act):∀(l:List (Nat×Value))(d:Nat)(v:Value),(l.map (·.1)).Nodup->(d,v)∈l->d<a.tmps.size->env (puts a l) d=v
 | [],_,_,_,h,_=>by cases h
 |p::r,d,v,hn,h,hd=>by
  simp only[List.map_cons,List.nodup_cons]at hn;rcases List.mem_cons.1 h with e|e
  .subst e;rw[puts,zfh _ r d (fun q hq e=>hn.1 (List.mem_map.2 ⟨q,hq,e⟩))];exact zjj hd
  rw[puts];exact zmk _ r d v hn.2 e (by simpa[Act.put]using hd)
theorem zsc{a b:Act}(h1:a.tmps.size=b.tmps.size)(h2:a.defers=b.defers)(h:∀t,t<a.tmps.size->env a t=env b t):a=b:=by
 obtain⟨at_,ad⟩:=a;obtain⟨bt,bd⟩:=b;simp only at h1 h2;subst h2;have:at_=bt:=by
  refine Array.ext h1 fun i hi hj=> ?_;have:=h i hi;simp only[env,Act.eval]at this;simpa[Array.getD,hi,hj]using this
 rw[this]
structure Hst(ops:Array Oper)(a0:Act){X:Type}(val:X->Nat->Value)(W:X->(Nat->Bool)->World->Prop)(listed:Array Bool)(x:X)(a:Act)(w:World):Prop where
 sz:listed.size=ops.size
 tsz:a.tmps.size=a0.tmps.size
 dfr:a.defers=a0.defers
 same:∀t,(∀j,zah ops j≠some t)->env a t=env a0 t
 done:∀i d,listed[i]? = some true->zah ops i=some d->env a d=val x i
 cl:∀i,listed[i]? = some true->∀j,dep ops i j=true->listed[j]? = some true
 wd:W x (fun i=>listed.getD i false) w
section
variable{P:Program}{ops:Array Oper}{Q:Exit->Act->World->Prop}{a0:Act}{w0:World}{X:Type}{val:X->Nat->Value}{W:X->(Nat->Bool)->World->Prop}
def Mst(P:Program)(ops:Array Oper)(Q:Exit->Act->World->Prop)(a0:Act){X:Type}(val:X->Nat->Value)(W:X->(Nat->Bool)->World->Prop):Prop:=
 ∀(i:Nat)(o:Oper),ops[i]? = some o->∀(x:X)(L:Nat->Bool)(a:Act)(w:World),L i=false->(∀j,dep ops i j=true->L j=true)->(∀j k,L j=true->dep ops j k=true->L k=true)->(∀j d,dep ops i j=true->zah ops j=some d->env a d=val x j)->(∀t,(∀j,zah ops j≠some t)->env a t=env a0 t)->a.tmps.size=a0.tmps.size->W x L w ->
  o.wp P a w (fun a' w'=>∃x',a'=a.put o.dst (val x' i)/\(∀j,L j=true->val x' j=val x j)/\W x' (updB L i) w') Q
theorem ztq{listed:Array Bool}{i:Nat}(h:i<listed.size):(fun j=>(listed.setIfInBounds i true).getD j false)=updB (fun j=>listed.getD j false) i:=by
 funext j
 unfold updB;by_cases e:j=i
 .subst e;rw[if_pos rfl,Array.getD_eq_getD_getElem?,Array.getElem?_setIfInBounds_self_of_lt h];rfl
 rw[if_neg e,Array.getD_eq_getD_getElem?,Array.getElem?_setIfInBounds_ne (fun q=>e q.symm)];show _=listed.getD j false;rw[Array.getD_eq_getD_getElem?]
theorem getD_some{listed:Array Bool}{j:Nat}:listed.getD j false=true↔listed[j]? = some true:=by
 rw[Array.getD_eq_getD_getElem?];cases listed[j]? with
 |none=>simp
 |some b=>simp
theorem Hst.go(hN:∀i j d,zah ops i=some d->zah ops j=some d->i=j)(hg:∀(i:Nat) (o:Oper),ops[i]? = some o->o.guard=none/\∀d,o.dst=some d->d<a0.tmps.size)(hs:Mst P ops Q a0 val W)(hlex:∀(i:Nat) (o:Oper),ops[i]? = some o->∀e∈o.after,Region.binds .any e=true->e.on<i)(hend:∀x L a w,(∀i,i<ops.size->L i=true)->a.tmps.size=a0.tmps.size->a.defers=a0.defers->(∀t,(∀j,zah ops j≠some t)->env a t=env a0 t)->(∀i d,zah ops i=some d->env a d=val x i)->W x L w->Q .normal a w) :
  ∀(fuel:Nat)(listed:Array Bool)(x:X)(a:Act)(w:World),Hst ops a0 val W listed x a w->listed.toList.count false<=fuel->wpAny P .any ops Q fuel listed a w:=by
 have hfin:∀(listed:Array Bool)(x:X)(a:Act)(w:World),Hst ops a0 val W listed x a w->(∀i,i<ops.size->listed[i]? = some true)->Q .normal a w:=fun listed x a w h hall=>
  hend x _ a w (fun i hi=>getD_some.2 (hall i hi)) h.tsz h.dfr h.same (fun i d hd=>h.done i d (hall i (by
   unfold zah at hd;cases ho:ops[i]? with
   |none=>rw[ho]at hd;cases hd
   |some o=>exact (Array.getElem?_eq_some_iff.1 ho).1)) hd) h.wd
 intro fuel;induction fuel with
 |zero=>
  intro listed x a w h hf;have hall:∀i,i<ops.size->listed[i]? = some true:=by
   intro i hi;have hl:i<listed.size:=by rw[h.sz];exact hi
   have h0:listed.toList.count false=0:=by omega
   have:=List.count_eq_zero.1 h0;have hm:listed[i]∈listed.toList:=by simp
   rw[Array.getElem?_eq_getElem hl];cases hc:listed[i] with
   |true=>rfl
   |false=>rw[hc]at hm;exact absurd hm this
  have he:Region.ready .any ops listed=[]:=by
   refine List.eq_nil_iff_forall_not_mem.2 fun i hi=> ?_;obtain⟨h1,h2,_⟩:=zfy hi;have:=hall i h1;rw[Array.getD_eq_getD_getElem?,this]at h2
   simp at h2
  exact⟨he,hfin listed x a w h hall⟩
 |succ fuel ih=>
  intro listed x a w h hf;refine⟨fun he=>hfin listed x a w h (zjg hlex listed h.sz he),fun i hi=> ?_⟩;obtain⟨h1,h2,h3⟩:=zfy hi;have ho:ops[i]? = some ops[i]:=Array.getElem?_eq_getElem h1;obtain⟨o,hoo⟩:∃o,o=ops[i]:=⟨_,rfl⟩;rw[<-hoo]at ho
  obtain⟨hg1,hdl⟩:=hg i o ho;have hdi:zah ops i=o.dst:=by simp[zah,ho]
  have hil:i<listed.size:=by rw[h.sz];exact h1
  have hli:listed[i]=false:=by rw[Array.getD_eq_getD_getElem?,Array.getElem?_eq_getElem hil]at h2;simpa using h2
  have hlf:listed.getD i false=false:=by rw[Array.getD_eq_getD_getElem?,Array.getElem?_eq_getElem hil,hli];rfl
  have hdl2:∀j:Nat,dep ops i j=true->listed[j]? = some true:=by
   intro j hj;simp only[dep,ho]at hj;rw[Array.any_eq_true]at hj
   obtain⟨n,hn,he⟩:=hj;simp only[Bool.and_eq_true,beq_iff_eq]at he;have h4:=h3 o ho o.after[n] (by simp) he.1;rw[he.2,Array.getD_eq_getD_getElem?]at h4
   cases hl:listed[j]? with
   |none=>rw[hl]at h4;simp at h4
   |some b=>rw[hl]at h4;simp at h4;rw[h4]
  unfold wpOp;rw[ho];simp only;rw[if_pos (by simp[Region.wanted,hg1])];refine Or.inl (Oper.wp_mono (K:=fun a' w'=>∃x',a'=a.put o.dst (val x' i)/\(∀j,listed.getD j false=true->val x' j=val x j)/\W x' (updB (fun j=>listed.getD j false) i) w') ?_ (hs i o ho x _ a w hlf (fun j hj=>getD_some.2 (hdl2 j hj)) (fun j k hj hk=>getD_some.2 (h.cl j (getD_some.1 hj) k hk)) (fun j d hj hd=>h.done j d (hdl2 j hj) hd) h.same h.tsz h.wd));rintro a' w'⟨x',rfl,hv,hW⟩;have hlist:∀j:Nat,(listed.setIfInBounds i true)[j]? = some true->j=i\/(j≠i/\listed[j]? = some true):=by
   intro j hj;by_cases hji:j=i
   .exact Or.inl hji
   exact Or.inr ⟨hji,by rw[Array.getElem?_setIfInBounds_ne (fun e=>hji e.symm)]at hj;exact hj⟩
  have hlisted:∀j:Nat,listed[j]? = some true->(listed.setIfInBounds i true)[j]? = some true:=by
   intro j hj;by_cases hji:i=j
   .subst hji;simp[hil]
   rw[Array.getElem?_setIfInBounds_ne hji];exact hj
  have hput:∀t,o.dst≠some t->env (a.put o.dst (val x' i)) t=env a t:=fun t ht=>by
   cases hd:o.dst with
   |none=>rfl
   |some d=>exact zlq (fun e=>ht (by rw[hd,e]))
  refine ih _ x' _ w' ⟨by simpa using h.sz,?_,?_,fun t ht=> ?_,fun j d hj hd=> ?_,fun j hj k hk=> ?_,?_⟩ ?_
  .rw[<-h.tsz];cases o.dst<;>simp[Act.put]
  .rw[<-h.dfr];cases o.dst<;>rfl
  .rw[hput t (by rw[<-hdi];exact ht i)];exact h.same t ht
  .rcases hlist j hj with rfl|⟨hji,hj'⟩
   .rw[hdi]at hd
    rw[hd];exact zjj (by rw[h.tsz];exact hdl d hd)
   rw[hput d (fun e=>hji (hN j i d hd (by rw[hdi];exact e))),h.done j d hj' hd,hv j (getD_some.2 hj')]
  .rcases hlist j hj with rfl|⟨hji,hj'⟩
   .exact hlisted k (hdl2 k hk)
   exact hlisted k (h.cl j hj' k hk)
  .rw[ztq hil];exact hW
  have e:(listed.setIfInBounds i true).toList=listed.toList.set i true:=by simp
  rw[e,List.count_set (by simpa using hil)];have hmem:listed.toList[i]'(by simpa using hil)=false:=by simpa using hli
  rw[hmem,if_pos (by rfl),if_neg (by decide)];omega
theorem znn{id:Nat}(D:X->List (Nat×Value))(x0:X)(hm:P.follows .mixedOrders=true)(hN:∀i j d,zah ops i=some d->zah ops j=some d->i=j)(hg:∀(i:Nat) (o:Oper),ops[i]? = some o->o.guard=none/\∀d,o.dst=some d->d<a0.tmps.size)(hs:Mst P ops Q a0 val W)(hlex:∀(i:Nat) (o:Oper),ops[i]? = some o->∀e∈o.after,Region.binds .any e=true->e.on<i)(hD:∀x,((D x).map (·.1)).Nodup/\(∀p∈D x,∃i,zah ops i=some p.1/\p.2=val x i)/\∀i d,zah ops i=some d->(d,val x i)∈D x)(h0:W x0 (fun _=>false) w0.drew)(hend:∀x L w,(∀i,i<ops.size->L i=true)->W x L w->Q .normal (puts a0 (D x)) w) :
  (Code.region id ops true).wp P Q a0 w0:=by
 refine wp_region_any hm (Hst.go hN hg hs hlex (fun x L a w hL hz hd hsame hv hW=> ?_) _ _ x0 _ _ ⟨by simp,rfl,rfl,fun _ _=>rfl,fun i d hi=> ?_,fun i hi=> ?_,?_⟩ ?_)
 .have e:a=puts a0 (D x):=by
   refine zsc (by rw[zji];exact hz) (by rw[zgw];exact hd) fun t ht=> ?_;by_cases h:∃i,zah ops i=some t
   .obtain⟨i,hi⟩:=h;rw[hv i t hi,zmk a0 (D x) t (val x i) (hD x).1 ((hD x).2.2 i t hi) (by rw[<-hz];exact ht)]
   have h':∀j,zah ops j≠some t:=fun j hj=>h ⟨j,hj⟩;rw[hsame t h',zfh a0 (D x) t (fun p hp e=>by
    obtain⟨i,hi,_⟩:=(hD x).2.1 p hp;rw[e]at hi
    exact h' i hi)]
  rw[e];exact hend x L w hL hW
 .exact absurd hi (by rw[Array.getElem?_replicate];split<;>simp)
 .exact absurd hi (by rw[Array.getElem?_replicate];split<;>simp)
 .have:(fun i=>(Array.replicate ops.size false).getD i false)=fun _=>false:=by
   funext i
   rw[Array.getD_eq_getD_getElem?,Array.getElem?_replicate];split<;>rfl
  rw[this];exact h0
 simp
end
theorem zal{P:Program}{o:Oper}{i:Nat}{X:Type}{val:X->Nat->Value}{W:X->(Nat->Bool)->World->Prop}{Q:Exit->Act->World->Prop}{x:X}{L:Nat->Bool}{a:Act}{w:World}(hr:(execOp a.eval o).run P w=.ok (.value (val x i)) w)(hW:W x (updB L i) w):o.wp P a w (fun a' w'=>∃x',a'=a.put o.dst (val x' i)/\(∀j,L j=true->val x' j=val x j)/\W x' (updB L i) w') Q:=by
 unfold Oper.wp;rw[hr];exact⟨x,rfl,fun _ _=>rfl,hW⟩
end
namespace Mk
open Go.ChangeShapes Go.WideShapes Go.ChangeAt Go.RowKit Go.Lib
def zah(ops:Array Oper)(j:Nat):Option Nat:=(ops[j]?).bind (·.dst)
def env(a:Act):Nat->Value:=fun t=>a.eval (.tmp t)
def dep(ops:Array Oper)(i j:Nat):Bool:=match ops[i]? with
 |some o=>o.after.any fun e=>Region.binds .any e&&e.on==j
 |none=>false
structure RelM(ops:Array Oper)(a0:Act)(w0:World)(Φ:Nat->(Nat->Value)->List Nat->World->Prop)(listed:Array Bool)(B:Nat->List Nat)(a:Act)(w:World):Prop where
 sz:listed.size=ops.size
 fr:Fr [] w0 w
 tsz:a.tmps.size=a0.tmps.size
 dfr:a.defers=a0.defers
 same:∀t,(∀j,zah ops j≠some t)->env a t=env a0 t
 done:∀i,listed[i]? = some true->Φ i (env a) (B i) w
 cl:∀i,listed[i]? = some true->∀j,dep ops i j=true->listed[j]? = some true
 new:∀i,listed[i]? = some true->∀x∈B i,w0.heap.size<=x/\x<w.heap.size
 apart:∀i j,i≠j->listed[i]? = some true->listed[j]? = some true->∀x∈B i,x∉B j
section
variable{P:Program}{ops:Array Oper}{Q:Exit->Act->World->Prop}{a0:Act}{w0:World}{Φ:Nat->(Nat->Value)->List Nat->World->Prop}
def Mkg(P:Program)(ops:Array Oper)(Q:Exit->Act->World->Prop)(a0:Act)(w0:World)(Φ:Nat->(Nat->Value)->List Nat->World->Prop):Prop:=
 ∀(i:Nat)(o:Oper),ops[i]? = some o->∀(a:Act)(w:World),a.tmps.size=a0.tmps.size->Fr [] w0 w->(∀t,(∀j,zah ops j≠some t)->env a t=env a0 t)->(∀j,dep ops i j=true->∃B,Φ j (env a) B w) ->
  o.wp P a w (fun a' w'=>∃v B,a'=a.put o.dst v/\Fr [] w w'/\Φ i (env (a.put o.dst v)) B w'/\∀x∈B,w.heap.size<=x/\x<w'.heap.size) Q
theorem zfy{md:Region.Mode}{listed:Array Bool}{i:Nat}(h:i∈Region.ready md ops listed):i<ops.size/\listed.getD i true=false/\∀o,ops[i]? = some o->∀e∈o.after,Region.binds md e=true->listed.getD e.on false=true:=by
 unfold Region.ready at h;rw[List.mem_filter,List.mem_range]at h
 obtain⟨h1,h2⟩:=h;simp only[Bool.and_eq_true,Bool.not_eq_true']at h2;refine⟨h1,h2.1,fun o ho e he hb=> ?_⟩;have h3:=h2.2;rw[ho]at h3
 simp only[Option.map_some,Option.getD_some,Array.all_eq_true_iff_forall_mem]at h3;have h4:=h3 e he;rw[hb]at h4
 simpa using h4
theorem zjg(hlex:∀(i:Nat) (o:Oper),ops[i]? = some o->∀e∈o.after,Region.binds .any e=true->e.on<i)(listed:Array Bool)(hz:listed.size=ops.size)(he:Region.ready .any ops listed=[]):∀i,i<ops.size->listed[i]? = some true:=by
 intro i;induction i using Nat.strongRecOn with
 |ind i ih=>
  intro hi;have hl:i<listed.size:=by rw[hz];exact hi
  rw[Array.getElem?_eq_getElem hl];cases hc:listed[i] with
  |true=>rfl
  |false=>
   exfalso;have hm:i∈Region.ready .any ops listed:=by
    unfold Region.ready;rw[List.mem_filter,List.mem_range];refine⟨hi,?_⟩;rw[Array.getD_eq_getD_getElem?,Array.getElem?_eq_getElem hl,hc,Array.getElem?_eq_getElem hi];simp only[Option.getD_some,Bool.not_false,Bool.true_and,Option.map_some,Array.all_eq_true_iff_forall_mem];intro e hee;by_cases hb:Region.binds .any e=true
    .have h1:=hlex i _ (Array.getElem?_eq_getElem hi) e hee hb;have h2:=ih e.on h1 (by omega);rw[Array.getD_eq_getD_getElem?,h2];simp
    simp only[Bool.not_eq_true]at hb;simp[hb]
   rw[he]at hm
   simp at hm
theorem RelM.go(hN:∀i j d,zah ops i=some d->zah ops j=some d->i=j)(hg:∀(i:Nat) (o:Oper),ops[i]? = some o->o.guard=none/\∃d,o.dst=some d/\d<a0.tmps.size)(hΦ:∀i ρ ρ' B w w',Fr [] w w'->(∀t,(zah ops i=some t\/∃j,dep ops i j=true/\zah ops j=some t)->ρ' t=ρ t)->Φ i ρ B w->Φ i ρ' B w')(hs:Mkg P ops Q a0 w0 Φ)(hlex:∀(i:Nat) (o:Oper),ops[i]? = some o->∀e∈o.after,Region.binds .any e=true->e.on<i)(hend:∀a w (B:Nat->List Nat),Fr [] w0 w->a.tmps.size=a0.tmps.size->a.defers=a0.defers->(∀t,(∀j,zah ops j≠some t)->env a t=env a0 t)->(∀i,i<ops.size->Φ i (env a) (B i) w)->(∀i,i<ops.size->∀x∈B i,w0.heap.size<=x/\x<w.heap.size)->(∀i j,i≠j->i<ops.size->j<ops.size->∀x∈B i,x∉B j)->Q .normal a w) :
  ∀(fuel:Nat)(listed:Array Bool)(B:Nat->List Nat)(a:Act)(w:World),RelM ops a0 w0 Φ listed B a w->listed.toList.count false<=fuel->wpAny P .any ops Q fuel listed a w
 |0,listed,B,a,w,h,hf=>by
  have hall:∀i,i<ops.size->listed[i]? = some true:=by
   intro i hi;have hl:i<listed.size:=by rw[h.sz];exact hi
   have h0:listed.toList.count false=0:=by omega
   have:=List.count_eq_zero.1 h0;have hm:listed[i]∈listed.toList:=by simp
   rw[Array.getElem?_eq_getElem hl];cases hc:listed[i] with
   |true=>rfl
   |false=>rw[hc]at hm;exact absurd hm this
  have he:Region.ready .any ops listed=[]:=by
   refine List.eq_nil_iff_forall_not_mem.2 fun i hi=> ?_;obtain⟨h1,h2,_⟩:=zfy hi;have:=hall i h1;rw[Array.getD_eq_getD_getElem?,this]at h2
   simp at h2
  exact⟨he,hend a w B h.fr h.tsz h.dfr h.same (fun i hi=>h.done i (hall i hi)) (fun i hi=>h.new i (hall i hi)) (fun i j hij hi hj=>h.apart i j hij (hall i hi) (hall j hj))⟩
 |fuel+1,listed,B,a,w,h,hf=>by
  refine⟨fun he=> ?_,fun i hi=> ?_⟩
  .have hall:=zjg hlex listed h.sz he;exact hend a w B h.fr h.tsz h.dfr h.same (fun i hi=>h.done i (hall i hi)) (fun i hi=>h.new i (hall i hi)) (fun i j hij hi hj=>h.apart i j hij (hall i hi) (hall j hj))
  obtain⟨h1,h2,h3⟩:=zfy hi;have ho:ops[i]? = some ops[i]:=Array.getElem?_eq_getElem h1;obtain⟨o,hoo⟩:∃o,o=ops[i]:=⟨_,rfl⟩;rw[<-hoo]at ho
  obtain⟨hg1,d,hd,hdl⟩:=hg i o ho;have hdi:zah ops i=some d:=by simp[zah,ho,hd]
  have hil:i<listed.size:=by rw[h.sz];exact h1
  have hli:listed[i]=false:=by rw[Array.getD_eq_getD_getElem?,Array.getElem?_eq_getElem hil]at h2;simpa using h2
  have hdl2:∀j:Nat,dep ops i j=true->listed[j]? = some true:=by
   intro j hj;simp only[dep,ho]at hj;rw[Array.any_eq_true]at hj
   obtain⟨n,hn,he⟩:=hj;simp only[Bool.and_eq_true,beq_iff_eq]at he;have h4:=h3 o ho o.after[n] (by simp) he.1;rw[he.2,Array.getD_eq_getD_getElem?]at h4
   cases hl:listed[j]? with
   |none=>rw[hl]at h4;simp at h4
   |some b=>rw[hl]at h4;simp at h4;rw[h4]
  unfold wpOp;rw[ho];simp only;rw[if_pos (by simp[Region.wanted,hg1])];refine Or.inl (Oper.wp_mono (K:=fun a' w'=>∃v B,a'=a.put o.dst v/\Fr [] w w'/\Φ i (env (a.put o.dst v)) B w'/\∀x∈B,w.heap.size<=x/\x<w'.heap.size) ?_ (hs i o ho a w h.tsz h.fr h.same (fun j hj=>⟨B j,h.done j (hdl2 j hj)⟩)));rintro a' w'⟨v,Bi,rfl,hf',hv,hB⟩;refine RelM.go hN hg hΦ hs hlex hend fuel _ (fun j=>if j=i then Bi else B j) _ w' ?_ ?_
  .have hlist:∀j:Nat,(listed.setIfInBounds i true)[j]? = some true->j=i\/(j≠i/\listed[j]? = some true):=by
    intro j hj;by_cases hji:j=i
    .exact Or.inl hji
    exact Or.inr ⟨hji,by rw[Array.getElem?_setIfInBounds_ne (fun e=>hji e.symm)]at hj;exact hj⟩
   have hlisted:∀j:Nat,listed[j]? = some true->(listed.setIfInBounds i true)[j]? = some true:=by
    intro j hj;by_cases hji:i=j
    .subst hji;simp[hil]
    rw[Array.getElem?_setIfInBounds_ne hji];exact hj
   have hput:∀t,t≠d->env (a.put o.dst v) t=env a t:=fun t ht=>by
    rw[hd];exact Act.eval_put (fun x hx=>by cases hx;intro e;cases e;exact ht rfl)
   have hnot:∀j:Nat,listed[j]? = some true->j≠i:=fun j hj e=>by
    subst e;rw[Array.getElem?_eq_getElem hil,hli]at hj
    cases hj
   refine⟨by simp[h.sz],h.fr.then hf',by rw[hd];simp[Act.put,h.tsz],by rw[hd];simp[Act.put,h.dfr],fun t ht=> ?_,fun j hl=> ?_,fun j hl m hm=> ?_,fun j hl x hx=> ?_,fun j k hjk hj hk x hx=> ?_⟩
   .rw[hput t (fun e=>ht i (by rw[hdi,e]))];exact h.same t ht
   .rcases hlist j hl with rfl|⟨hji,hlj⟩
    .rw[if_pos rfl];exact hv
    rw[if_neg hji];refine hΦ _ _ _ _ _ _ hf' (fun t ht=>hput t (fun e=> ?_)) (h.done j hlj);rcases ht with ht|⟨m,hm,ht⟩
    .exact hji (hN j i d (by rw[ht,e]) hdi)
    exact hnot m (h.cl j hlj m hm) (hN m i d (by rw[ht,e]) hdi)
   .rcases hlist j hl with rfl|⟨hji,hlj⟩
    .exact hlisted m (hdl2 m hm)
    exact hlisted m (h.cl j hlj m hm)
   .rcases hlist j hl with rfl|⟨hji,hlj⟩
    .rw[if_pos rfl]at hx
     exact⟨Nat.le_trans h.fr.size (hB x hx).1,(hB x hx).2⟩
    rw[if_neg hji]at hx
    exact⟨(h.new j hlj x hx).1,Nat.lt_of_lt_of_le (h.new j hlj x hx).2 hf'.size⟩
   rcases hlist j hj with rfl|⟨hji,hlj⟩
   .rcases hlist k hk with rfl|⟨hki,hlk⟩
    .exact absurd rfl hjk
    rw[if_pos rfl]at hx
    rw[if_neg hki];intro hh;have e1:=(hB x hx).1;have e2:=(h.new k hlk x hh).2;omega
   rw[if_neg hji]at hx
   rcases hlist k hk with rfl|⟨hki,hlk⟩
   .rw[if_pos rfl];intro hh;have e1:=(hB x hh).1;have e2:=(h.new j hlj x hx).2;omega
   rw[if_neg hki];exact h.apart j k hjk hlj hlk x hx
  have e:(listed.setIfInBounds i true).toList=listed.toList.set i true:=by simp
  rw[e,List.count_set (by simpa using hil)];have hmem:listed.toList[i]'(by simpa using hil)=false:=by simpa using hli
  rw[hmem,if_pos (by rfl),if_neg (by decide)];omega
theorem zmq{id:Nat}(hm:P.follows .mixedOrders=true)(hN:∀i j d,zah ops i=some d->zah ops j=some d->i=j)(hg:∀(i:Nat) (o:Oper),ops[i]? = some o->o.guard=none/\∃d,o.dst=some d/\d<a0.tmps.size)(hΦ:∀i ρ ρ' B w w',Fr [] w w'->(∀t,(zah ops i=some t\/∃j,dep ops i j=true/\zah ops j=some t)->ρ' t=ρ t)->Φ i ρ B w->Φ i ρ' B w')(hs:Mkg P ops Q a0 w0 Φ)(hlex:∀(i:Nat) (o:Oper),ops[i]? = some o->∀e∈o.after,Region.binds .any e=true->e.on<i)(hend:∀a w (B:Nat->List Nat),Fr [] w0 w->a.tmps.size=a0.tmps.size->a.defers=a0.defers->(∀t,(∀j,zah ops j≠some t)->env a t=env a0 t)->(∀i,i<ops.size->Φ i (env a) (B i) w)->(∀i,i<ops.size->∀x∈B i,w0.heap.size<=x/\x<w.heap.size)->(∀i j,i≠j->i<ops.size->j<ops.size->∀x∈B i,x∉B j)->Q .normal a w) :
  (Code.region id ops true).wp P Q a0 w0:=by
 refine wp_region_any hm (RelM.go (w0:=w0) hN hg hΦ hs hlex hend _ _ (fun _=>[]) _ _ ⟨by simp,Fr.drew [] w0,rfl,rfl,fun _ _=>rfl,fun i hi=> ?_,fun i hi=> ?_,fun i hi=> ?_,fun i j hij hi=> ?_⟩ ?_)
 .exact absurd hi (by rw[Array.getElem?_replicate];split<;>simp)
 .exact absurd hi (by rw[Array.getElem?_replicate];split<;>simp)
 .exact absurd hi (by rw[Array.getElem?_replicate];split<;>simp)
 .exact absurd hi (by rw[Array.getElem?_replicate];split<;>simp)
 simp
end
end Mk
namespace Dz
open Go.ChangeShapes Go.WideShapes Go.ChangeAt Go.RowKit Go.Lib
def D0(w:World)(g:Nat)(C:Int):Prop:=w.heap[g]? = some (.cells #[.bool true,.int .i64 C,.slice none 0 0,.slice none 0 0,.int .i64 (-1),.bool false,.int .i64 0] 87 (0,0))
theorem D0.keep{S:List Nat}{w w':World}{g:Nat}{C:Int}(h:D0 w g C)(hf:Fr S w w')(hn:g∉S):D0 w' g C:=hf.keep h hn
section
variable{w:World}{g:Nat}{C:Int}
theorem D0.c0(h:D0 w g C):w.cell? ⟨g,0,none⟩=some (.bool true):=by rw[crw h];rfl
theorem D0.c2(h:D0 w g C):w.cell? ⟨g,2,none⟩=some (.slice none 0 0):=by rw[crw h];rfl
theorem D0.c3(h:D0 w g C):w.cell? ⟨g,3,none⟩=some (.slice none 0 0):=by rw[crw h];rfl
end
theorem dnew_ok(n:Int)(w:World)(h0:0<=n)(h1:n<=16777216):Calls Tryz.prog 13 #[.int .i64 n] w fun e w'=>e=.returned (.tuple #[.pointer (some ⟨w.heap.size,0,none⟩),.int .i64 0])/\D0 w' w.heap.size n/\Fr [] w w':=by
 go_enter Tryz.func13,Tryz.ntmps13;go_wp2;go_ret2;exact⟨rfl,heap_alloc_new w _,Fr.alloc _ _ _⟩
theorem dnew_no(n:Int)(w:World)(h:n<0\/16777216<n):Calls Tryz.prog 13 #[.int .i64 n] w fun e w'=>e=.returned (.tuple #[.pointer none,.int .i64 1])/\w=w':=by
 rcases h with h|h
 .go_enter Tryz.func13,Tryz.ntmps13;go_wp2;go_ret2;exact⟨rfl,rfl⟩
 have h0:0<=n:=by omega
 go_enter Tryz.func13,Tryz.ntmps13;go_wp2;go_ret2;exact⟨rfl,rfl⟩
theorem zim(g:Nat)(w:World)(h:w.cell? ⟨g,0,none⟩=some (.bool true)):Calls Tryz.prog 89 #[.pointer (some ⟨g,0,none⟩)] w fun e w'=>e=.returned (.bool true)/\w=w':=by
 go_enter Tryz.func89,Tryz.ntmps89;go_wp2;go_ret;exact⟨rfl,rfl⟩
theorem zqq(p:Value)(s:Int)(w:World)(h:s=0\/s=1):Calls Tryz.prog 90 #[p,.int .i64 s] w fun e w'=>e=.returned (.bool true)/\w=w':=by
 rcases h with rfl|rfl
 .go_enter Tryz.func90,Tryz.ntmps90;go_wp2;go_ret;exact⟨rfl,rfl⟩
 go_enter Tryz.func90,Tryz.ntmps90;go_wp2;go_ret;exact⟨rfl,rfl⟩
theorem zaed(p:Value)(w:World):Calls Tryz.prog 90 #[p,.int .i64 (-1)] w fun e w'=>e=.returned (.bool false)/\w=w':=by
 go_enter Tryz.func90,Tryz.ntmps90;go_wp2;go_ret;exact⟨rfl,rfl⟩
section
variable{w:World}{g:Nat}{C:Int}
theorem zaaz(h:D0 w g C):Calls Tryz.prog 53 #[.pointer (some ⟨g,0,none⟩),.int .i64 (-1)] w fun e w'=>e=.returned (.tuple #[.slice none 0 0,.int .i64 1])/\w=w':=by
 have HT:Hid (Calls ..):=zim g w h.c0;have HS:Hid (Calls ..):=zaed (.pointer (some ⟨g,0,none⟩)) w;go_enter Tryz.func53,Tryz.ntmps53;go_wp2_with fail
 refine Calls.mono HT.out ?_;rintro e w'⟨rfl,rfl⟩;go_wp2_with fail
 refine Calls.mono HS.out ?_;rintro e w'⟨rfl,rfl⟩;go_wp2;go_ret2;exact⟨rfl,rfl⟩
theorem zaee(h:D0 w g C):Calls Tryz.prog 53 #[.pointer (some ⟨g,0,none⟩),.int .i64 0] w fun e w'=>e=.returned (.tuple #[.slice none 0 0,.int .i64 0])/\w=w':=by
 have HT:Hid (Calls ..):=zim g w h.c0;have HS:Hid (Calls ..):=zqq (.pointer (some ⟨g,0,none⟩)) 0 w (Or.inl rfl);have c2:=h.c2;clear h;go_enter Tryz.func53,Tryz.ntmps53;go_wp2_with fail
 refine Calls.mono HT.out ?_;rintro e w'⟨rfl,rfl⟩;go_wp2_with fail
 refine Calls.mono HS.out ?_;rintro e w'⟨rfl,rfl⟩;go_wp2;go_ret2;exact⟨rfl,rfl⟩
theorem zaef(h:D0 w g C):Calls Tryz.prog 53 #[.pointer (some ⟨g,0,none⟩),.int .i64 1] w fun e w'=>e=.returned (.tuple #[.slice none 0 0,.int .i64 0])/\w=w':=by
 have HT:Hid (Calls ..):=zim g w h.c0;have HS:Hid (Calls ..):=zqq (.pointer (some ⟨g,0,none⟩)) 1 w (Or.inr rfl);have c3:=h.c3;clear h;go_enter Tryz.func53,Tryz.ntmps53;go_wp2_with fail
 refine Calls.mono HT.out ?_;rintro e w'⟨rfl,rfl⟩;go_wp2_with fail
 refine Calls.mono HS.out ?_;rintro e w'⟨rfl,rfl⟩;go_wp2;go_ret2;exact⟨rfl,rfl⟩
theorem isDisk_any(h:D0 w g C):Calls Tryz.prog 29 #[.pointer (some ⟨g,0,none⟩)] w fun e w'=>e=.returned (.bool true)/\w=w':=by
 have HR:Hid (Calls ..):=zaaz h;clear h;go_enter Tryz.func29,Tryz.ntmps29;go_wp2_with fail
 refine Calls.mono HR.out ?_;rintro e w1⟨rfl,rfl⟩;go_wp2;go_ret;exact⟨rfl,rfl⟩
end
theorem zdh{fn:Func}{p u v:Tmp}{ty:TypeId}(h:fn.results= #[.cell p ty,.tmp u,.tmp v])(tmps:Array Value)(P:Program)(w:World)(g:Nat)(x:Value)(hp:tmps.getD p undef=.pointer (some ⟨g,0,none⟩))(hld:(loadVar ty ⟨g,0,none⟩).run P w=.ok x w) :
  (results fn tmps).run P w=.ok (.tuple #[x,tmps.getD u undef,tmps.getD v undef]) w:=by
 simp only[results,h];simp[Sem.run_bind,Result.andThen,<-Array.getD_eq_getD_getElem?,hp,asAddr,hld]
theorem zuk{fn:Func}{p a b c d:Tmp}{ty:TypeId}(h:fn.results= #[.cell p ty,.tmp a,.tmp b,.tmp c,.tmp d])(tmps:Array Value)(P:Program)(w:World)(g:Nat)(x:Value)(hp:tmps.getD p undef=.pointer (some ⟨g,0,none⟩))(hld:(loadVar ty ⟨g,0,none⟩).run P w=.ok x w) :
  (results fn tmps).run P w=.ok (.tuple #[x,tmps.getD a undef,tmps.getD b undef,tmps.getD c undef,tmps.getD d undef]) w:=by
 simp only[results,h];simp[Sem.run_bind,Result.andThen,<-Array.getD_eq_getD_getElem?,hp,asAddr,hld]
structure SB(w:World)(b:Nat):Prop where
 box:w.heap[b]? = some (.cells #[.int .i64 0,.slice none 0 0,.slice none 0 0] 96 (0,0))
section
variable{w w':World}{b:Nat}
theorem SB.c0(h:SB w b):w.cell? ⟨b,0,none⟩=some (.int .i64 0):=by rw[crw h.box];rfl
theorem SB.c1(h:SB w b):w.cell? ⟨b,1,none⟩=some (.slice none 0 0):=by rw[crw h.box];rfl
theorem SB.c2(h:SB w b):w.cell? ⟨b,2,none⟩=some (.slice none 0 0):=by rw[crw h.box];rfl
theorem SB.fz(h:SB w b)(j:Nat):w.frozen? ⟨b,j,none⟩=false:=by simp[World.frozen?,h.box]
theorem SB.keep{S:List Nat}(h:SB w b)(hf:Fr S w w')(hn:b∉S):SB w' b:=⟨hf.keep h.box hn⟩
theorem SB.set(h:SB w b):SB (((w.setCell ⟨b,0,none⟩ (.int .i64 0)).setCell ⟨b,1,none⟩ (.slice none 0 0)).setCell ⟨b,2,none⟩ (.slice none 0 0)) b/\Fr [b] w (((w.setCell ⟨b,0,none⟩ (.int .i64 0)).setCell ⟨b,1,none⟩ (.slice none 0 0)).setCell ⟨b,2,none⟩ (.slice none 0 0)):=
 ⟨⟨Ap.row_setCell _ (Ap.row_setCell _ (Ap.row_setCell _ h.box))⟩,(Fr.set w ⟨b,0,none⟩ _ (by simp)).then ((Fr.set _ ⟨b,1,none⟩ _ (by simp)).then (Fr.set _ ⟨b,2,none⟩ _ (by simp)))⟩
theorem SB.load(h:SB w b):(loadVar 96 ⟨b,0,none⟩).run Tryz.prog w=.ok (.agg #[.int .i64 0,.slice none 0 0,.slice none 0 0]) w:=
 run_loadVar_row (P:=Tryz.prog) _ b _ 96 _ _ (.struct (Tryz.prog.fieldsOf 96)) h.box (by kernel_rfl) rfl (by kernel_rfl)
end
theorem zul(w:World):Calls Tryz.prog 55 #[.slice none 0 0] w fun e w'=>e=.returned (.tuple #[.agg #[.int .i64 0,.slice none 0 0,.slice none 0 0],.int .i64 0,.bool false])/\Fr [] w w':=by
 obtain⟨w1,HW1⟩:∃w1,Hid (w.alloc (.cells #[.int .i64 0,.slice none 0 0,.slice none 0 0] 96)=w1):=⟨_,rfl⟩;obtain⟨A,HA⟩:∃A,Hid (w.heap.size=A):=⟨_,rfl⟩;have hF1:Fr [] w w1:=by rw[<-HW1.out];exact Fr.alloc [] w _
 have hs1:SB w1 A:=⟨by rw[<-HW1.out,<-HA.out];exact heap_alloc_new w _⟩;obtain⟨k1,k2⟩:=hs1.set;have HL:Hid ((loadVar _ _).run _ _=_):=k1.load;have HF:Hid (Fr [] w _):=hF1.on k2 (fun x hx=>by simp at hx;have:=HA.out;omega);have a0:=hs1.c0;have a1:=hs1.c1;have a2:=hs1.c2;have b0:=hs1.fz 0;have b1:=hs1.fz 1;have b2:=hs1.fz 2;clear hs1 hF1 k1 k2;go_enter Tryz.func55,Tryz.ntmps55;go_upto_region 1 with fail
 rw[HW1.out,HA.out];clear HW1 HA;go_wp2;refine bodyPost_ret (v:=.tuple #[.agg #[.int .i64 0,.slice none 0 0,.slice none 0 0],.int .i64 0,.bool false]) (by rw[zdh rfl _ _ _ A _ rfl HL.out];rfl) rfl ?_;exact⟨rfl,HF.out⟩
theorem newest_nil{w:World}{g:Nat}{C:Int}(h:D0 w g C):Calls Tryz.prog 31 #[.pointer (some ⟨g,0,none⟩)] w fun e w'=>e=.returned (.tuple #[.agg #[.int .i64 0,.slice none 0 0,.slice none 0 0],.int .i64 0,.int .i64 0,.bool false,.int .i64 0])/\Fr [] w w':=by
 obtain⟨w1,HW1⟩:∃w1,Hid (w.alloc (.cells #[.int .i64 0,.slice none 0 0,.slice none 0 0] 96)=w1):=⟨_,rfl⟩;obtain⟨A,HA⟩:∃A,Hid (w.heap.size=A):=⟨_,rfl⟩;have hF1:Fr [] w w1:=by rw[<-HW1.out];exact Fr.alloc [] w _
 have hs1:SB w1 A:=⟨by rw[<-HW1.out,<-HA.out];exact heap_alloc_new w _⟩;have HD:Hid (∀W,Fr [] w1 W->D0 W g C):=fun W hf=>h.keep (hF1.then hf) (by simp);have HS:Hid (∀W,Fr [] w1 W->SB W A):=fun W hf=>hs1.keep hf (by simp);have HF1:Hid (Fr [] w w1/\w.heap.size<=A):=⟨hF1,by have:=HA.out;omega⟩;clear hs1 hF1 h;go_enter Tryz.func31,Tryz.ntmps31;go_upto_region 1 with fail
 rw[HW1.out,HA.out];clear HW1 HA;go_wp2;go_loopw [3,4,5,13] (fun ga sa oa ii wr=>∃(i:Nat),ga=.int .i64 0/\sa=.int .i64 0/\oa=.bool false/\ii=.int .i64 i/\i<=2/\Hid (Fr [] w1 wr)) (fun ga sa oa ii _=>2-(RowKit.intOf ii).toNat)
 case atStart=>exact⟨0,rfl,rfl,rfl,rfl,Nat.zero_le _,Fr.refl _ _⟩
 obtain⟨i,rfl,rfl,rfl,rfl,hi2,HFr⟩:=hrel;by_cases hi:i<2
 .have hlt:(i:Int)<2:=by omega
  have HRd:Hid (Calls Tryz.prog 53 #[.pointer (some ⟨g,0,none⟩),.int .i64 (i:Int)] wr fun e w'=>e=.returned (.tuple #[.slice none 0 0,.int .i64 0])/\wr=w'):=by
   rcases (show i=0\/i=1 by omega) with rfl|rfl
   .exact (zaee (HD.out _ HFr.out)).mono fun e w' hh=>hh
   exact (zaef (HD.out _ HFr.out)).mono fun e w' hh=>hh
  have HRn:Hid (Calls ..):=zul wr;go_wp2_with fail
  refine Calls.mono HRd.out ?_;rintro e w2⟨rfl,rfl⟩;go_wp2_with fail
  refine Calls.mono HRn.out ?_;rintro e w3⟨rfl,hf3⟩;have HF3:Hid (Fr [] w1 (w3.alloc (.cells #[.int .i64 0,.slice none 0 0,.slice none 0 0] 96))):=(HFr.out.then hf3).then (Fr.alloc _ _ _);clear hf3 HRd HRn;go_wp2_with fail
  go_roundw;case rel=>exact⟨i+1,rfl,rfl,rfl,by simp,by omega,HF3⟩
  case measure=>simp[RowKit.intOf];omega
 have hlt:¬(i:Int)<2:=by omega
 have hsb:=HS.out _ HFr.out;have a0:=hsb.c0;have a1:=hsb.c1;have a2:=hsb.c2;have b0:=hsb.fz 0;have b1:=hsb.fz 1;have b2:=hsb.fz 2;obtain⟨k1,k2⟩:=hsb.set;have HL:Hid ((loadVar _ _).run _ _=_):=k1.load;have HF:Hid (Fr [] w _):=(HF1.out.1.then HFr.out).on k2 (fun x hx=>by simp at hx;have:=HF1.out.2;omega);clear hsb k1 k2;go_wp2;refine bodyPost_ret (v:=.tuple #[.agg #[.int .i64 0,.slice none 0 0,.slice none 0 0],.int .i64 0,.int .i64 0,.bool false,.int .i64 0]) (by rw[zuk rfl _ _ _ A _ rfl HL.out];rfl) rfl ?_;exact⟨rfl,HF.out⟩
end Dz
end Go.Proofs.YtakbodlicfmkjaaGreat
