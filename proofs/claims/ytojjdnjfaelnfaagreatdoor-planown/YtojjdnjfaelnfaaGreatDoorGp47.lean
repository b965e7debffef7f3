/- Contracts and lemmas. -/
import Derived.Test.YtojjdnjfaelnfaaGreatDoorGp2
import Derived.Deep.RegionHeld3
import Derived.Deep.CutRange
import Derived.Test.YtojjdnjfaelnfaaGreatDoorGp1
set_option maxHeartbeats 4000000
set_option maxRecDepth 100000
namespace Go.Proofs.YtojjdnjfaelnfaaGreatDoor
set_option linter.unusedVariables false
namespace Bq
open Go.ChangeShapes Go.WideShapes Go.ChangeAt Go.RowKit Go.Lib Go.Proofs.Tryz
def Went(w:World)(v:Value)(g:Nat)(w':World):Prop:=(v.ownBlock=some g/\w.grownBy w' (some g))\/(w.heap.size<=g/\w.grownBy w' none)
theorem Went.fr{w w':World}{v:Value}{g:Nat}(h:Went w v g w'):Fr v.ownBlock.toList w w':=by
 rcases h with⟨h1,h2⟩|⟨_,h2⟩
 .refine Fr.grown h2 ?_;intro k hk _;cases hk;simp[h1]
 exact Fr.grown h2 (by simp)
theorem Went.moved{w w':World}{v:Value}{g n cap:Nat}(h:Went w v g w'):Moved w.heap.size v (.slice (some ⟨g,0,none⟩) n cap):=by
 rcases h with⟨h1,_⟩|⟨h1,_⟩
 .exact Or.inl (by rw[h1];rfl)
 exact Or.inr ⟨g,rfl,h1⟩
section
variable{P:Program}(w:World)
theorem zcp(t ty e:TypeId)(i:TypeInfo)(z:Value)(size bytes:Nat)(ht:P.underlying t=some (.slice e))(hi:P.info? e=some i)(hz:i.zero=some z)(hsize:i.size=size)(hby:i.bytes=bytes)(hzs:z.cells.size=size)(hsz:0<size)(v:Value)(n:Nat)(xs:List Value)(hown:w.ownsRow 0 e size v n xs)(a:Addr)(m c:Nat)(news:List Value)(hm:0<m)(hl:news.length=m*size)(hnews:∀j u,news[j]? = some u->w.cell? (a.add j)=some u)(h1:∀u∈news,u.oneCell'=true)(h63:n+m<=maxLen)(hbytes:(n+m)*bytes<=140737488355328) :
  ∃g cap w',(Builtin.append_ #[t,t] ty #[v,.slice (some a) m c]).run P w=.ok (.slice (some ⟨g,0,none⟩) (n+m) cap) w'/\w'.ownsRow 0 e size (.slice (some ⟨g,0,none⟩) (n+m) cap) (n+m) (xs++news)/\Went w v g w':=by
 obtain⟨v',w',hr,h2,h3,h4⟩:=run_append_own (P:=P) w 0 t ty e i z size bytes ht hi hz hsize hby hzs hsz v n xs hown a m c news hl hnews h1 h63 hbytes (Nat.zero_le _);obtain⟨g,cap,rfl⟩:∃g cap,v'=.slice (some ⟨g,0,none⟩) (n+m) cap:=by
  rcases h2.2 with⟨_,hh⟩|⟨g,cap',_,hh,_⟩
  .omega
  exact⟨g,cap',hh⟩
 refine⟨g,cap,w',hr,h2,?_⟩;subst hsize;subst hby;have hsmall:n+m<=9223372036854775807:=by simp only[maxLen]at h63;omega
 rcases hown.2 with⟨rfl,rfl⟩|⟨g0,cap0,cur,rfl,hbg,hg,hnc,hcm,hcs,htake⟩
 .have hr2:=run_append_nil (P:=P) w t ty e i z ht hi hz a m c news hl hnews (by omega) (by omega) (by have hb:=hbytes;simp only[Nat.zero_add]at hb;omega);rw[hr]at hr2
  injection hr2 with e1 e2;simp only[Value.slice.injEq,Option.some.injEq,Addr.mk.injEq]at e1;obtain⟨⟨rfl,_⟩,_⟩:=e1;subst e2;exact Or.inr ⟨Nat.le_refl _,⟨rfl,rfl,rfl,by simp,fun k hk _=>Below.heap_alloc w.drew _ _ hk⟩⟩
 by_cases hroom:n+m<=cap0
 .have hfit:n*i.size+news.length<=cur.size:=by rw[hl,hcs,<-Nat.add_mul];exact Nat.mul_le_mul_right _ hroom
  have hr2:=run_append_room (P:=P) w t ty e i ht hi g0 n cap0 cur hg a m c news hl hnews h1 hroom hfit;rw[hr]at hr2
  cases hr2;exact Or.inl ⟨rfl,h3⟩
 have holds:∀j u,xs[j]? = some u->w.cell? ((⟨g0,0,none⟩:Addr).add j)=some u:=hown.cells (g:=g0) rfl;have hr2:=run_append_grow (P:=P) w t ty e i z ht hi hz ⟨g0,0,none⟩ n cap0 xs hown.1 holds a m c news hl hnews (by omega) (by omega) (growslice_fits (by omega) hbytes);rw[hr]at hr2
 cases hr2;exact Or.inr ⟨Nat.le_refl _,⟨rfl,rfl,rfl,by simp,fun k hk _=>Below.heap_alloc w.drew _ _ hk⟩⟩
theorem zeg{ops:Array Oper}{o:Oper}{a:Act}{K:Act->World->Prop}{Q:Exit->Act->World->Prop}{E:Prop}(hg:o.guard=none)(s x:Operand)(t:TypeId)(ho:o.op=.call {callee:=.builtin .append,args:=#[s,x],argTypes:=#[t,t]})(e:TypeId)(i:TypeInfo)(z:Value)(size bytes:Nat)(ht:P.underlying t=some (.slice e))(hi:P.info? e=some i)(hz:i.zero=some z)(hsize:i.size=size)(hby:i.bytes=bytes)(hzs:z.cells.size=size)(hsz:0<size)(v:Value)(n:Nat)(xs:List Value)(hs:a.eval s=v)(hown:w.ownsRow 0 e size v n xs)(ad:Addr)(c:Nat)(news:List Value)(hx:a.eval x=.slice (some ad) 1 c)(hl:news.length=size)(hnews:∀j u,news[j]? = some u->w.cell? (ad.add j)=some u)(h1:∀u∈news,u.oneCell'=true)(hbytes:(n+1)*bytes<=140737488355328)(h63:n+1<=maxLen)(h:∀g cap w',w'.ownsRow 0 e size (.slice (some ⟨g,0,none⟩) (n+1) cap) (n+1) (xs++news)->Went w v g w'->K (a.put o.dst (.slice (some ⟨g,0,none⟩) (n+1) cap)) w') :
  if Region.wanted o (yielded ops a.tmps)=true then Oper.wp P o a w K Q else E:=by
 have hw:Region.wanted o (yielded ops a.tmps)=true:=by simp[Region.wanted,hg]
 rw[if_pos hw];obtain⟨g,cap,w',hr,h2,h3⟩:=zcp (P:=P) w t o.type e i z size bytes ht hi hz hsize hby hzs hsz v n xs hown ad 1 c news (by omega) (by omega) hnews h1 h63 hbytes;unfold Oper.wp execOp;simp only[ho,resolve,invoke,builtin,Sem.run_bind,Sem.run_pure,Result.andThen_ok,List.map_toArray,List.map_cons,List.map_nil,hs,hx,hr];exact h g cap w' h2 h3
end
theorem row_setCell{w:World}{b j:Nat}{cs:Array Value}{t:TypeId}(x:Value)(h:w.heap[b]? = some (.cells cs t (0,0))):(w.setCell ⟨b,j,none⟩ x).heap[b]? = some (.cells (cs.setIfInBounds j x) t (0,0)):=by
 have hlt:=lt_of_block h;have h':w.heap[b]=.cells cs t (0,0):=by simpa[Array.getElem?_eq_getElem hlt]using h
 show (w.heap.modify b _)[b]? = _;rw[Array.getElem?_eq_getElem (by simpa using hlt),Array.getElem_modify_self,h'];rfl
theorem zum{w:World}{e:TypeId}{g n cap size:Nat}{vs:List Value}(h:w.ownsRow 0 e size (.slice (some ⟨g,0,none⟩) n cap) n vs)(j:Nat)(x:Value) :
  (w.setCell ⟨g,j,none⟩ x).ownsRow 0 e size (.slice (some ⟨g,0,none⟩) n cap) n (vs.set j x):=by
 have hl:=h.1;rcases h.2 with⟨hh,_⟩|⟨g',cap',cur,hh,hb,hg,hnc,hcm,hcs,ht⟩
 .cases hh
 cases hh;refine⟨by rw[List.length_set];exact hl,.inr ⟨g,cap,cur.setIfInBounds j x,rfl,hb,row_setCell x hg,hnc,hcm,by simpa using hcs,?_⟩⟩;rw[Array.toList_setIfInBounds,List.take_set,ht]
theorem zrw{w:World}{e:TypeId}{g n cap size:Nat}{vs:List Value}(h:w.ownsRow 0 e size (.slice (some ⟨g,0,none⟩) n cap) n vs)(j:Nat):w.frozen? ⟨g,j,none⟩=false:=by
 rcases h.2 with⟨hh,_⟩|⟨g',cap',cur,hh,hb,hg,_⟩
 .cases hh
 cases hh;simp[World.frozen?,hg]
theorem own_type{w:World}{e:TypeId}{size:Nat}{v:Value}{n:Nat}{vs:List Value}(h:w.ownsRow 0 e size v n vs):∀k,v.ownBlock=some k->∃cs,w.heap[k]? = some (.cells cs e (0,0)):=by
 intro k hk;rcases h.2 with⟨rfl,_⟩|⟨g',cap',cur,rfl,hb,hg,_⟩
 .simp[Value.ownBlock]at hk
 simp[Value.ownBlock]at hk
 subst hk;exact⟨cur,hg⟩
theorem own_form{w:World}{e:TypeId}{size:Nat}{v:Value}{n:Nat}{vs:List Value}(h:w.ownsRow 0 e size v n vs)(h0:0<n):∃g cap,v=.slice (some ⟨g,0,none⟩) n cap/\n<=cap:=by
 rcases h.2 with⟨_,hh⟩|⟨g',cap',cur,rfl,hb,hg,hn,_⟩
 .omega
 exact⟨g',cap',rfl,hn⟩
theorem own_slice{w:World}{e:TypeId}{size:Nat}{v:Value}{n:Nat}{vs:List Value}(h:w.ownsRow 0 e size v n vs):∃ao cap,v=.slice ao n cap:=by
 rcases h.2 with⟨rfl,rfl⟩|⟨g',cap',cur,rfl,_⟩
 .exact⟨none,0,rfl⟩
 exact⟨_,_,rfl⟩
structure HB where
 l:Value
 long:Value
 n:Nat
def HB.cells(h:HB):List Value:=[h.l,h.long,.int .i64 (h.n:Int)]
def zbf(hs:List HB):List Value:=hs.flatMap HB.cells
theorem zwq(hs:List HB)(h:HB):zbf (hs++[h])=zbf hs++h.cells:=by simp[zbf]
theorem zzw(hs:List HB)(i:Nat)(h:HB)(hi:hs[i]? = some h)(j:Nat)(hj:j<3):(zbf hs)[i*3+j]? = h.cells[j]? :=by
 induction hs generalizing i with
 |nil=>simp at hi
 |cons a r ih=>
  have e:zbf (a::r)=a.cells++zbf r:=by simp[zbf]
  have hl:a.cells.length=3:=rfl;cases i with
  |zero=>
   simp at hi;subst hi;rw[e,List.getElem?_append_left (by omega)];simp
  |succ i=>
   rw[e,List.getElem?_append_right (by omega),hl,show (i+1)*3+j-3=i*3+j from by omega];exact ih i (by simpa using hi)
theorem zzx(hs:List HB)(i:Nat)(h:HB)(hi:hs[i]? = some h)(x:Value):zbf (hs.set i {h with long:=x})=(zbf hs).set (i*3+1) x:=by
 induction hs generalizing i with
 |nil=>simp at hi
 |cons a r ih=>
  have e:∀b:HB,zbf (b::r)=b.cells++zbf r:=fun b=>by simp[zbf]
  have hl:a.cells.length=3:=rfl;cases i with
  |zero=>
   simp at hi;subst hi;rw[List.set_cons_zero,e,e,List.set_append_left _ _ (by omega)];rfl
  |succ i=>
   rw[List.set_cons_succ,show zbf (a::r.set i {h with long:=x})=a.cells++zbf (r.set i {h with long:=x}) from by simp[zbf],ih i (by simpa using hi),e,List.set_append_right _ _ (by omega),hl,show (i+1)*3+1-3=i*3+1 from by omega]
structure Kd where
 tH:TypeId
 tE:TypeId
 S:Nat
 mark:Nat->List Value
 col:Nat
 pos:0<S
 len:∀n,(mark n).length=S
 hE:tH≠tE
 hB:tH≠42
 eB:tE≠42
def zaw(x:List Value)(n:Nat):List Value:=(List.replicate n x).flatten
theorem zjd(x:List Value)(n:Nat):(zaw x n).length=n*x.length:=by simp[zaw]
theorem zmb(x:List Value)(n:Nat):zaw x (n+1)=zaw x n++x:=by simp[zaw,List.replicate_succ']
theorem zwr(x:List Value)(n:Nat):zaw x (n+1)=x++zaw x n:=by simp[zaw,List.replicate_succ]
theorem zzy(x:List Value)(n j i:Nat)(hj:j<n)(hi:i<x.length):(zaw x n)[j*x.length+i]? = x[i]? :=by
 induction n generalizing j with
 |zero=>omega
 |succ n ih=>
  rw[zwr];cases j with
  |zero=>rw[Nat.zero_mul,Nat.zero_add,List.getElem?_append_left hi]
  |succ j=>
   have e:(j+1)*x.length+i=x.length+(j*x.length+i):=by rw[Nat.add_mul];omega
   rw[e,List.getElem?_append_right (by omega),Nat.add_sub_cancel_left];exact ih j (by omega)
def Cut(w:World)(e:TypeId)(size:Nat)(v:Value)(n:Nat)(xs:List Value):Prop:=∃ao rc rf,v=.slice ao n rc/\n<=rc/\rc<=rf/\w.ownsRow 0 e size (.slice ao n rf) n xs
theorem zdy(ao:Option Addr)(n m a b:Nat):(Value.slice ao n a).ownBlock=(Value.slice ao m b).ownBlock:=by cases ao<;>rfl
section
variable{w w':World}{e:TypeId}{size n:Nat}{v:Value}{xs:List Value}{S:List Nat}
theorem Cut.of(h:w.ownsRow 0 e size v n xs):Cut w e size v n xs:=by
 rcases h.2 with⟨rfl,rfl⟩|⟨g,cap,cur,rfl,_,_,hn,_⟩
 .exact⟨none,0,0,rfl,Nat.le_refl _,Nat.le_refl _,h⟩
 exact⟨_,cap,cap,rfl,hn,Nat.le_refl _,h⟩
theorem Cut.keep(h:Cut w e size v n xs)(hf:Fr S w w')(hn:∀k,v.ownBlock=some k->k∉S):Cut w' e size v n xs:=by
 obtain⟨ao,rc,rf,rfl,h1,h2,h3⟩:=h;exact⟨ao,rc,rf,rfl,h1,h2,zaj h3 hf (fun k hk=>hn k (by rw[zdy ao n n rc rf];exact hk))⟩
theorem Cut.type(h:Cut w e size v n xs):∀k,v.ownBlock=some k->∃cs,w.heap[k]? = some (.cells cs e (0,0)):=by
 obtain⟨ao,rc,rf,rfl,h1,h2,h3⟩:=h;exact fun k hk=>own_type h3 k (by rw[zdy ao n n rf rc];exact hk)
theorem Cut.lt(h:Cut w e size v n xs):∀k,v.ownBlock=some k->k<w.heap.size:=fun k hk=>by
 obtain⟨cs,hc⟩:=h.type k hk;exact lt_of_block hc
end
section
variable{K:Kd}
structure Bl(K:Kd)(w:World)(bk:Nat)(rv:Value)(hs:List HB):Prop where
 box:∃cs,w.heap[bk]? = some (.cells cs 42 (0,0))/\cs[K.col]? = some rv
 row:w.ownsRow 0 K.tH 3 rv hs.length (zbf hs)
 few:hs.length<2097152
 num:∀(j:Nat)(h:HB),hs[j]? = some h->h.n<4194304
theorem Bl.keep{S:List Nat}{w w':World}{bk:Nat}{rv:Value}{hs:List HB}(h:Bl K w bk rv hs)(hf:Fr S w w')(hb:bk∉S)(hr:∀k,rv.ownBlock=some k->k∉S):Bl K w' bk rv hs:=by
 obtain⟨cs,h1,h2⟩:=h.box;exact⟨⟨cs,hf.keep h1 hb,h2⟩,zaj h.row hf hr,h.few,h.num⟩
theorem Bl.other{w:World}{bk:Nat}{rv:Value}{hs:List HB}(h:Bl K w bk rv hs):rv.ownBlock≠some bk:=by
 intro e;obtain⟨cs,hc⟩:=own_type h.row bk e;obtain⟨cs',h1,_⟩:=h.box;rw[h1]at hc
 simp only[Option.some.injEq,Obj.cells.injEq]at hc;exact K.hB hc.2.1.symm
theorem Bl.c1{w:World}{bk:Nat}{rv:Value}{hs:List HB}(h:Bl K w bk rv hs):w.cell? ⟨bk,K.col,none⟩=some rv:=by
 obtain⟨cs,h1,h2⟩:=h.box;rw[crw h1,h2]
theorem Bl.at{w:World}{bk:Nat}{rv:Value}{hs:List HB}(h:Bl K w bk rv hs)(i:Nat)(e:HB)(hi:hs[i]? = some e) :
  ∃rb cap,rv=.slice (some ⟨rb,0,none⟩) hs.length cap/\hs.length<=cap/\w.cell? ⟨rb,i*3,none⟩=some e.l/\w.cell? ⟨rb,i*3+1,none⟩=some e.long/\w.cell? ⟨rb,i*3+2,none⟩=some (.int .i64 (e.n:Int)):=by
 have hlt:i<hs.length:=(List.getElem?_eq_some_iff.1 hi).1;obtain⟨rb,cap,rfl,hc⟩:=own_form h.row (by omega);have hr:=h.row;have hat:∀j,j<3->w.cell? ⟨rb,i*3+j,none⟩=e.cells[j]? :=fun j hj=>by rw[hr.cellAt (i*3+j) (by omega),zzw hs i e hi j hj]
 exact⟨rb,cap,rfl,hc,hat 0 (by omega),hat 1 (by omega),hat 2 (by omega)⟩
def P0(K:Kd)(w:World)(h:HB):Prop:=∃n vs,Cut w K.tE K.S h.l n vs/\n<17179869184
def P1(K:Kd)(w:World)(h:HB):Prop:=∃n,Cut w K.tE K.S h.l n (zaw (K.mark h.n) n)/\n<17179869184
structure Rdm(K:Kd)(w:World)(v:Value)(n:Nat)(x:List Value):Prop where
 shape:∃ao cap,v=.slice ao n cap/\n<=cap/\(0<n->∃b,ao=some ⟨b,0,none⟩/\∀j i,j<n->i<K.S->w.cell? ⟨b,j*K.S+i,none⟩=x[i]?)
 type:∀k,v.ownBlock=some k->∃cs,w.heap[k]? = some (.cells cs K.tE (0,0))
theorem zje{w:World}{g m n cap:Nat}{x:List Value}(hx:x.length=K.S)(h:w.ownsRow 0 K.tE K.S (.slice (some ⟨g,0,none⟩) m cap) m (zaw x m))(j i:Nat)(hj:j<m)(hi:i<K.S):w.cell? ⟨g,j*K.S+i,none⟩=x[i]? :=by
 have h1:j*K.S+i<m*K.S:=by
  have:(j+1)*K.S<=m*K.S:=Nat.mul_le_mul_right _ hj;rw[Nat.add_mul]at this
  omega
 rw[h.cellAt (j*K.S+i) h1];have:=zzy x m j i hj (by omega);rw[hx]at this
 exact this
theorem Rdm.of_own{w:World}{v:Value}{n m:Nat}{x:List Value}{cap:Nat}{ao:Option Addr}(hx:x.length=K.S)(h:w.ownsRow 0 K.tE K.S v n (zaw x n))(hm:m<=n)(he:(Value.slice ao m cap).ownBlock=v.ownBlock)(hc:m<=cap)(ho:∀a,ao=some a->a.off=0/\a.spot=none):Rdm K w (.slice ao m cap) m x:=by
 refine⟨⟨ao,cap,rfl,hc,fun h0=> ?_⟩,fun k hk=>own_type h k (by rw[<-he];exact hk)⟩;obtain⟨g,c,rfl,_⟩:=own_form h (by omega);cases ao with
 |none=>simp[Value.ownBlock]at he
 |some a=>
  obtain⟨b,off,spot⟩:=a;obtain⟨rfl,rfl⟩:off=0/\spot=none:=ho _ rfl;simp[Value.ownBlock]at he
  subst he;exact⟨b,rfl,fun j i hj hi=>zje (n:=0) hx h j i (by omega) hi⟩
theorem Rdm.keep{S:List Nat}{w w':World}{v:Value}{n:Nat}{x:List Value}(h:Rdm K w v n x)(hf:Fr S w w')(hn:∀k,v.ownBlock=some k->k∉S):Rdm K w' v n x:=by
 obtain⟨ao,cap,rfl,hc,hr⟩:=h.shape;refine⟨⟨ao,cap,rfl,hc,fun h0=> ?_⟩,fun k hk=> ?_⟩
 .obtain⟨b,rfl,hb⟩:=hr h0;refine⟨b,rfl,fun j i hj hi=> ?_⟩;obtain⟨cs,hcs⟩:=h.type b rfl;exact (World.cell?_of_block (hf.block b (lt_of_block hcs) (hn b rfl))).trans (hb j i hj hi)
 obtain⟨cs,hcs⟩:=h.type k hk;exact⟨cs,hf.keep hcs (hn k hk)⟩
def P2(K:Kd)(w:World)(h:HB):Prop:=∃n,Rdm K w h.l n (K.mark h.n)/\Cut w K.tE K.S h.long (n+70) (zaw (K.mark h.n) (n+70))/\n<17179869184
theorem P0.keep{S:List Nat}{w w':World}{h:HB}(p:P0 K w h)(hf:Fr S w w')(hn:∀k,h.l.ownBlock=some k->k∉S):P0 K w' h:=by
 obtain⟨n,vs,h1,h2⟩:=p;exact⟨n,vs,h1.keep hf hn,h2⟩
theorem P1.keep{S:List Nat}{w w':World}{h:HB}(p:P1 K w h)(hf:Fr S w w')(hn:∀k,h.l.ownBlock=some k->k∉S):P1 K w' h:=by
 obtain⟨n,h1,h2⟩:=p;exact⟨n,h1.keep hf hn,h2⟩
theorem P2.keep{S:List Nat}{w w':World}{h:HB}(p:P2 K w h)(hf:Fr S w w')(hn:∀k,h.l.ownBlock=some k->k∉S)(hn2:∀k,h.long.ownBlock=some k->k∉S):P2 K w' h:=by
 obtain⟨n,h1,h2,h3⟩:=p;exact⟨n,h1.keep hf hn,h2.keep hf hn2,h3⟩
theorem P0.type{w:World}{h:HB}(p:P0 K w h):∀k,h.l.ownBlock=some k->∃cs,w.heap[k]? = some (.cells cs K.tE (0,0)):=by
 obtain⟨n,vs,h1,h2⟩:=p;exact h1.type
theorem P1.type{w:World}{h:HB}(p:P1 K w h):∀k,h.l.ownBlock=some k->∃cs,w.heap[k]? = some (.cells cs K.tE (0,0)):=by
 obtain⟨n,h1,h2⟩:=p;exact h1.type
theorem Bl.apart{w:World}{bk:Nat}{rv:Value}{hs:List HB}(h:Bl K w bk rv hs){k:Nat}{cs:Array Value}(hk:w.heap[k]? = some (.cells cs K.tE (0,0))):k≠bk/\rv.ownBlock≠some k:=by
 refine⟨fun e=> ?_,fun e=> ?_⟩
 .subst e;obtain⟨cs',h1,_⟩:=h.box;rw[h1]at hk
  simp only[Option.some.injEq,Obj.cells.injEq]at hk;exact K.eB hk.2.1.symm
 obtain⟨cs',hc⟩:=own_type h.row k e;rw[hk]at hc
 simp only[Option.some.injEq,Obj.cells.injEq]at hc;exact K.hE hc.2.1.symm
end
def lbs(hs:List HB):List Nat:=hs.flatMap fun h=>h.l.ownBlock.toList
theorem mem_lbs{hs:List HB}{k:Nat}:k∈lbs hs↔ ∃h∈hs,h.l.ownBlock=some k:=by simp[lbs]
def zjx(hs:List HB):Prop:=∀(i j:Nat)(a b:HB),hs[i]? = some a->hs[j]? = some b->i≠j->∀k,a.l.ownBlock=some k->b.l.ownBlock≠some k
def zpe(hs:List HB):Prop:=∀(j:Nat)(h:HB),hs[j]? = some h->h.long=.slice none 0 0
variable{K:Kd}
structure FillInv(K:Kd)(w0:World)(bk:Nat)(rv:Value)(hs:List HB)(i:Nat)(w:World):Prop where
 bk:Bl K w bk rv hs
 done:∀(j:Nat)(h:HB),hs[j]? = some h->j<i->P1 K w h
 left:∀(j:Nat)(h:HB),hs[j]? = some h->i<=j->P0 K w h
 fr:Fr (lbs hs) w0 w
theorem FillInv.next{w0 w w1 w2:World}{bk:Nat}{rv:Value}{hs:List HB}{i:Nat}{e:HB}(h:FillInv K w0 bk rv hs i w)(ha:zjx hs)(hi:hs[i]? = some e)(hf1:Fr [] w w1)(hf2:Fr e.l.ownBlock.toList w1 w2)(hp:P1 K w2 e):FillInv K w0 bk rv hs (i+1) w2:=by
 have hf:Fr e.l.ownBlock.toList w w2:=hf1.trans hf2 (by simp) (fun x hx _=>hx);have hte:=(h.left i e hi (Nat.le_refl _)).type;have hoth:∀(j:Nat)(b:HB),hs[j]? = some b->j≠i->∀k,b.l.ownBlock=some k->k∉e.l.ownBlock.toList:=by
  intro j b hb hne k hk hm;exact ha j i b e hb hi hne k hk (by simpa using hm)
 refine⟨h.bk.keep hf ?_ ?_,?_,?_,h.fr.trans hf (fun x hx _=>hx) ?_⟩
 .intro hm;obtain⟨cs,hc⟩:=hte bk (by simpa using hm);exact (h.bk.apart hc).1 rfl
 .intro k hk hm;obtain⟨cs,hc⟩:=hte k (by simpa using hm);exact (h.bk.apart hc).2 hk
 .intro j b hb hj;by_cases hji:j=i
  .subst hji;rw[hi]at hb
   cases hb;exact hp
  exact (h.done j b hb (by omega)).keep hf (hoth j b hb hji)
 .intro j b hb hj;exact (h.left j b hb (by omega)).keep hf (hoth j b hb (by omega))
 intro x hx _;exact mem_lbs.2 ⟨e,List.mem_of_getElem? hi,by simpa using hx⟩
structure GIn(K:Kd)(w1:World)(l:Value)(n M k:Nat)(v:Value)(w:World):Prop where
 own:Cut w K.tE K.S v (n+k) (zaw (K.mark M) (n+k))
 rds:Rdm K w l n (K.mark M)
 fr:Fr l.ownBlock.toList w1 w
 plc:v.ownBlock=l.ownBlock\/∃g,v.ownBlock=some g/\w1.heap.size<=g
theorem Rdm.own0{w:World}{l v:Value}{n m:Nat}{x:List Value}(hx:x.length=K.S)(h:Cut w K.tE K.S v m (zaw x m))(hm:n<=m)(he:v.ownBlock=l.ownBlock){w0:World}(r:Rdm K w0 l n x):Rdm K w l n x:=by
 obtain⟨ao,cap,rfl,hc,hr⟩:=r.shape;refine⟨⟨ao,cap,rfl,hc,fun h0=> ?_⟩,fun k hk=>h.type k (by rw[he];exact hk)⟩;obtain⟨b,rfl,_⟩:=hr h0;obtain⟨vo,rc,rf,rfl,_,_,h⟩:=h;obtain⟨g,c,e,_⟩:=own_form h (by omega);cases e;simp[Value.ownBlock]at he
 subst he;exact⟨g,rfl,fun j i hj hi=>zje (n:=0) hx h j i (by omega) hi⟩
theorem GIn.next{w1 w w':World}{l v:Value}{n M k g cap:Nat}(h:GIn K w1 l n M k v w)(o:Obj)(hO:Cut w' K.tE K.S (.slice (some ⟨g,0,none⟩) (n+k+1) cap) (n+k+1) (zaw (K.mark M) (n+k)++K.mark M))(hW:Went (w.alloc o) v g w')(hl:∀k,l.ownBlock=some k->k<w1.heap.size) :
  GIn K w1 l n M (k+1) (.slice (some ⟨g,0,none⟩) (n+k+1) cap) w':=by
 have e:zaw (K.mark M) (n+k)++K.mark M=zaw (K.mark M) (n+k+1):=(zmb _ _).symm;rw[e]at hO
 have hFa:Fr [] w (w.alloc o):=Fr.alloc [] _ _;have hs1:=h.fr.size;have hs2:=hFa.size;rcases hW with⟨hv,hg⟩|⟨hv,hg⟩
 .have hFg:Fr [g] (w.alloc o) w':=Fr.grown hg (by intro k hk _;cases hk;simp);rcases h.plc with hp|⟨g',hp,hge⟩
  .have hlg:l.ownBlock=some g:=by rw[<-hp,hv]
   refine⟨hO,Rdm.own0 (K.len M) hO (by omega) hlg.symm h.rds,?_,Or.inl hlg.symm⟩;rw[hlg];have:=h.fr;rw[hlg]at this
   exact this.trans (hFa.trans hFg (by simp) (fun x hx _=>hx)) (fun x hx _=>hx) (fun x hx _=>by simpa using hx)
  rw[hv]at hp
  cases hp;have hne:∀k,l.ownBlock=some k->k≠g:=by intro k hk;have:=hl k hk;omega
  have hF:Fr [g] w w':=hFa.trans hFg (by simp) (fun x hx _=>hx);refine⟨hO,h.rds.keep hF (by intro k hk hm;exact hne k hk (by simpa using hm)),h.fr.trans hF (fun x hx _=>hx) ?_,Or.inr ⟨g,rfl,hge⟩⟩;intro x hx hxl;simp at hx;omega
 have hFg:Fr [] (w.alloc o) w':=Fr.grown hg (by simp);have hF:=hFa.then hFg;refine⟨hO,h.rds.keep hF (by simp),h.fr.trans hF (fun x hx _=>hx) (by simp),Or.inr ⟨g,rfl,by omega⟩⟩
structure GrowInv(K:Kd)(w0:World)(bk:Nat)(rv:Value)(hs0:List HB)(i:Nat)(hs:List HB)(w:World):Prop where
 bk:Bl K w bk rv hs
 len:hs.length=hs0.length
 same:∀(j:Nat)(a:HB),hs[j]? = some a->∃b,hs0[j]? = some b/\a.l=b.l/\a.n=b.n
 done:∀(j:Nat)(a:HB),hs[j]? = some a->j<i->P2 K w a
 left:∀(j:Nat)(a:HB),hs[j]? = some a->i<=j->P1 K w a/\a.long=.slice none 0 0
 sep:∀(j:Nat)(a:HB),hs[j]? = some a->∀k,a.long.ownBlock=some k->a.l.ownBlock=some k\/w0.heap.size<=k
 apart:∀(j j':Nat)(a b:HB),hs[j]? = some a->hs[j']? = some b->j≠j'->∀k,a.long.ownBlock=some k->b.long.ownBlock≠some k
 fr:Fr (rv.ownBlock.toList++lbs hs0) w0 w
theorem GrowInv.next{w0 w w1 w2:World}{bk rb cap:Nat}{N:Nat}{hs0 hs:List HB}{i:Nat}{e:HB}{v:Value}{n:Nat}(h:GrowInv K w0 bk (.slice (some ⟨rb,0,none⟩) N cap) hs0 i hs w)(ha:zjx hs0)(hold:∀(j:Nat) (a:HB),hs0[j]? = some a->∀k,a.l.ownBlock=some k->k<w0.heap.size)(hi:hs[i]? = some e)(hN:N=hs.length)(hf1:Fr [] w w1)(hG:GIn K w1 e.l n e.n 70 v w2)(hn:n<17179869184) :
  GrowInv K w0 bk (.slice (some ⟨rb,0,none⟩) N cap) hs0 (i+1) (hs.set i {e with long:=v}) (w2.setCell ⟨rb,i*3+1,none⟩ v):=by
 have hlt:i<hs.length:=(List.getElem?_eq_some_iff.1 hi).1;have hf:Fr e.l.ownBlock.toList w w2:=hf1.trans hG.fr (by simp) (fun x hx _=>hx);obtain⟨hP1e,_⟩:=h.left i e hi (Nat.le_refl _);have hte:=hP1e.type;have hw0:=h.fr.size;have hw1:=hf1.size;have hw2:=hG.fr.size;obtain⟨e0,he0,hel,hen⟩:=h.same i e hi;have hoth:∀(j:Nat)(b:HB),hs[j]? = some b->j≠i->∀k,b.l.ownBlock=some k->k∉e.l.ownBlock.toList:=by
  intro j b hb hne k hk hm;obtain⟨b0,hb0,hbl,_⟩:=h.same j b hb;exact ha j i b0 e0 hb0 he0 hne k (by rw[<-hbl];exact hk) (by rw[<-hel];simpa using hm)
 have hothl:∀(j:Nat)(b:HB),hs[j]? = some b->j≠i->∀k,b.long.ownBlock=some k->k∉e.l.ownBlock.toList:=by
  intro j b hb hne k hk hm;have hek:e.l.ownBlock=some k:=by simpa using hm
  rcases h.sep j b hb k hk with hs'|hge
  .exact hoth j b hb hne k hs' hm
  have:=hold i e0 he0 k (by rw[<-hel];exact hek);omega
 have hbk2:Bl K w2 bk (.slice (some ⟨rb,0,none⟩) N cap) hs:=by
  refine h.bk.keep hf ?_ ?_
  .intro hm;obtain⟨cs,hc⟩:=hte bk (by simpa using hm);exact (h.bk.apart hc).1 rfl
  intro k hk hm;obtain⟨cs,hc⟩:=hte k (by simpa using hm);exact (h.bk.apart hc).2 hk
 have hrow2:=hbk2.row;rw[<-hN]at hrow2
 have hput:=zum hrow2 (i*3+1) v;rw[<-zzx hs i e hi v]at hput
 have hfs:Fr [rb] w2 (w2.setCell ⟨rb,i*3+1,none⟩ v):=Fr.set _ _ _ (by simp);have hrb:∀k cs,w2.heap[k]? = some (.cells cs K.tE (0,0))->k∉[rb]:=by
  intro k cs hk hm;exact (hbk2.apart hk).2 (by simp at hm;rw[hm];rfl)
 have hset:∀(j:Nat)(a:HB),(hs.set i {e with long:=v})[j]? = some a->(j=i/\a={e with long:=v})\/(j≠i/\hs[j]? = some a):=by
  intro j a ha';by_cases hji:j=i
  .subst hji;rw[List.getElem?_set_self hlt]at ha'
   exact Or.inl ⟨rfl,by cases ha';rfl⟩
  rw[List.getElem?_set_ne (fun e=>hji e.symm)]at ha'
  exact Or.inr ⟨hji,ha'⟩
 have hlg:=hG.own.lt;refine⟨⟨?_,?_,?_,?_⟩,?_,?_,?_,?_,?_,?_,?_⟩
 .obtain⟨cs,b1,b2⟩:=hbk2.box;exact⟨cs,hfs.keep b1 (by intro hm;simp at hm;exact hbk2.other (by rw[hm];rfl)),b2⟩
 .rw[List.length_set,<-hN];exact hput
 .rw[List.length_set];exact hbk2.few
 .intro j a haj;rcases hset j a haj with⟨rfl,rfl⟩|⟨_,haj⟩
  .exact hbk2.num j e hi
  exact hbk2.num j a haj
 .rw[List.length_set,h.len]
 .intro j a haj;rcases hset j a haj with⟨rfl,rfl⟩|⟨_,haj⟩
  .exact⟨e0,he0,hel,hen⟩
  exact h.same j a haj
 .intro j a haj hj;rcases hset j a haj with⟨rfl,rfl⟩|⟨hne,haj⟩
  .refine P2.keep (S:=[rb]) ⟨n,hG.rds,hG.own,hn⟩ hfs ?_ ?_
   .intro k hk;obtain⟨cs,hc⟩:=hG.rds.type k hk;exact hrb k cs hc
   intro k hk;obtain⟨cs,hc⟩:=hG.own.type k hk;exact hrb k cs hc
  have hp:=(h.done j a haj (by omega)).keep hf (hoth j a haj hne) (hothl j a haj hne);obtain⟨m,q1,q2,q3⟩:=hp;refine P2.keep (S:=[rb]) ⟨m,q1,q2,q3⟩ hfs ?_ ?_
  .intro k hk;obtain⟨cs,hc⟩:=q1.type k hk;exact hrb k cs hc
  intro k hk;obtain⟨cs,hc⟩:=q2.type k hk;exact hrb k cs hc
 .intro j a haj hj;rcases hset j a haj with⟨rfl,rfl⟩|⟨hne,haj⟩
  .omega
  obtain⟨hp,hnil⟩:=h.left j a haj (by omega);have hp2:=hp.keep hf (hoth j a haj hne);exact⟨hp2.keep hfs (by intro k hk;obtain⟨cs,hc⟩:=hp2.type k hk;exact hrb k cs hc),hnil⟩
 .intro j a haj k hk;rcases hset j a haj with⟨rfl,rfl⟩|⟨hne,haj⟩
  .rcases hG.plc with hp|⟨g,hp,hge⟩
   .exact Or.inl (by rw[<-hp];exact hk)
   rw[hp]at hk
   cases hk;exact Or.inr (by omega)
  exact h.sep j a haj k hk
 .have key:∀(j:Nat)(b:HB),hs[j]? = some b->j≠i->∀k,v.ownBlock=some k->b.long.ownBlock≠some k:=by
   intro j b hb hne k hk hbk;rcases hG.plc with hp|⟨g,hp,hge⟩
   .rw[hp]at hk
    exact hothl j b hb hne k hbk (by simpa using hk)
   rw[hp]at hk
   cases hk;by_cases hji:j<i
   .obtain⟨m,_,q2,_⟩:=h.done j b hb hji;have:=q2.lt k hbk;omega
   obtain⟨_,hnil⟩:=h.left j b hb (by omega);rw[hnil]at hbk
   simp[Value.ownBlock]at hbk
  intro j j' a b haj hbj hne k hk hk';rcases hset j a haj with⟨hj,ea⟩|⟨hnj,haj2⟩
  .rcases hset j' b hbj with⟨hj',_⟩|⟨hnj',hbj2⟩
   .exact hne (hj.trans hj'.symm)
   rw[ea]at hk
   exact key j' b hbj2 hnj' k hk hk'
  rcases hset j' b hbj with⟨_,eb⟩|⟨hnj',hbj2⟩
  .rw[eb]at hk'
   exact key j a haj2 hnj k hk' hk
  exact h.apart j j' a b haj2 hbj2 hne k hk hk'
 refine (h.fr.trans hf (fun x hx _=>hx) ?_).trans hfs (fun x hx _=>hx) ?_
 .intro x hx _;refine List.mem_append_right _ (mem_lbs.2 ⟨e0,List.mem_of_getElem? he0,?_⟩);rw[<-hel];simpa using hx
 intro x hx _;simp at hx;subst hx;simp[Value.ownBlock]
theorem zajo(X a:Value)(R:List Value)(k:Nat):(zaw [X] k++a::R).set k X=zaw [X] (k+1)++R:=by
 have hl:(zaw [X] k).length=k:=by rw[zjd];simp
 rw[List.set_append_right _ _ (by omega),hl,Nat.sub_self,zmb];simp
theorem zajp{R:List Value}{n k:Nat}(hk:k<n)(h:R.length=(n-k)*1):∃a S,R=a::S/\S.length=(n-(k+1))*1:=by
 match R,h with
 |a::S,h=>exact⟨a,S,rfl,by simp at h ⊢;omega⟩
 | [],h=>simp at h;omega
theorem behind{w:World}{e:TypeId}{t n cap size k:Nat}{x R:List Value}(hx:x.length=size)(hO:w.ownsRow 0 e size (.slice (some ⟨t,0,none⟩) n cap) n (zaw x k++R))(j:Nat)(u:Value)(hj:R[j]? = some u):w.cell? ⟨t,k*size+j,none⟩=some u:=by
 have hl:(zaw x k).length=k*size:=by rw[zjd,hx]
 have hlen:=hO.1;have hjl:=(List.getElem?_eq_some_iff.1 hj).1;rw[List.length_append,hl]at hlen
 rw[hO.cellAt (k*size+j) (by omega),List.getElem?_append_right (by omega),hl,Nat.add_sub_cancel_left];exact hj
theorem GIn.keep{K:Kd}{w1 w w':World}{l v:Value}{n M k:Nat}(h:GIn K w1 l n M k v w)(hf:Fr [] w w'):GIn K w1 l n M k v w':=
 ⟨h.own.keep hf (by simp),h.rds.keep hf (by simp),h.fr.trans hf (fun x hx _=>hx) (by simp),h.plc⟩
def mInt(n:Nat):Int:= -1000-(n:Int)
abbrev kInt:Kd:={tH:=77,tE:=3,S:=1,mark:=fun n=>[.int .i64 (mInt n)],col:=2,pos:=by decide,len:=fun _=>rfl,hE:=by decide,hB:=by decide,eB:=by decide}
theorem zmc(n:Nat)(B:Int)(w:World)(hn:n<4194304)(hB:mInt n=B):Calls prog 65 #[.int .i64 (n:Int)] w fun e w'=>e=.returned (.int .i64 B)/\Fr [] w w':=by
 have HM:Hid (-1000-(n:Int)=B):=hB;clear hB;go_enter func65,ntmps65;go_wp2;go_ret;rw[<-HM.out];exact⟨rfl,Fr.refl _ _⟩
end Bq
namespace Bq
open BigFrame Go.ChangeShapes Go.WideShapes Go.ChangeAt Go.RowKit Go.Lib Go.Proofs.Tryz
structure Wd(w1:World) where
 W:World
 h:Fr [] w1 W
instance (w1:World):Nonempty (Wd w1):=⟨⟨w1,Fr.refl _ _⟩⟩
theorem zjf{P:Program}{w1 wr:World}{id:Nat}{Q:Exit->Act->World->Prop}{a:Act}{l:List Oper}(hm:P.follows .mixedOrders=true)(hB:Region.lexB .any l.toArray=true)(hf:Fr [] w1 wr)(h:wpQuiet P l.toArray (fun w'=>∃x:Wd w1,w'=x.W) (fun a'=>∀w',(∃x:Wd w1,w'=x.W)->Q .normal a' w') l a):(Code.region id l.toArray true).wp P Q a wr:=
 wp_region_quiet (C:=fun w'=>∃x:Wd w1,w'=x.W) hm hB ⟨⟨_,hf.then (Fr.drew [] wr)⟩,rfl⟩ (by simpa using h)
theorem zrx(n:Nat)(B:Int)(w:World)(hn:n<4194304)(hB:mInt n=B):Calls prog 76 #[.int .i64 B,.int .i64 (n:Int)] w fun e w'=>e=.returned (.bool true)/\Fr [] w w':=by
 subst hB;unfold mInt;go_enter func76,ntmps76;go_wp2;go_ret;exact⟨by simp,Fr.refl _ _⟩
section
variable{P:Program}(w:World)
theorem zth(t ty e:TypeId)(i:TypeInfo)(z:Value)(size bytes:Nat)(ht:P.underlying t=some (.slice e))(hi:P.info? e=some i)(hz:i.zero=some z)(hsize:i.size=size)(hby:i.bytes=bytes)(hzs:z.cells.size=size)(hsz:0<size)(v:Value)(n:Nat)(xs:List Value)(hown:Cut w e size v n xs)(a:Addr)(c:Nat)(news:List Value)(hl:news.length=size)(hnews:∀j u,news[j]? = some u->w.cell? (a.add j)=some u)(h1:∀u∈news,u.oneCell'=true)(h63:n+1<=maxLen)(hbytes:(n+1)*bytes<=140737488355328) :
  ∃g cap w',(Builtin.append_ #[t,t] ty #[v,.slice (some a) 1 c]).run P w=.ok (.slice (some ⟨g,0,none⟩) (n+1) cap) w'/\Cut w' e size (.slice (some ⟨g,0,none⟩) (n+1) cap) (n+1) (xs++news)/\Went w v g w':=by
 obtain⟨ao,rc,rf,rfl,hnr,hrf,hO⟩:=hown;obtain⟨g',cap',w',hr,hO',hW⟩:=zcp (P:=P) w t ty e i z size bytes ht hi hz hsize hby hzs hsz (.slice ao n rf) n xs hO a 1 c news (by omega) (by omega) hnews h1 h63 hbytes;have hsmall:n+1<=9223372036854775807:=by simp only[maxLen]at h63;omega
 rcases hO.2 with⟨hv,hn⟩|⟨g,cap,cur,hv,hbg,hg,hnc,hcm,hcs,htake⟩
 .cases hv;obtain rfl:rc=0:=by omega
  exact⟨g',cap',w',hr,Cut.of hO',hW⟩
 cases hv;subst hsize;subst hby;by_cases hroom:n+1<=rc
 .have hfit:n*i.size+news.length<=cur.size:=by
   rw[hl,hcs];have:=Nat.mul_le_mul_right i.size (show n+1<=rf by omega);rw[Nat.add_mul]at this
   omega
  have hA:=run_append_room (P:=P) w t ty e i ht hi g n rc cur hg a 1 c news (by omega) hnews h1 hroom hfit;have hB:=run_append_room (P:=P) w t ty e i ht hi g n rf cur hg a 1 c news (by omega) hnews h1 (by omega) hfit;rw[hr]at hB
  injection hB with e1 e2;simp only[Value.slice.injEq,Option.some.injEq,Addr.mk.injEq]at e1;obtain⟨⟨rfl,_⟩,_,rfl⟩:=e1;subst e2;exact⟨g',rc,_,hA,⟨_,rc,cap',rfl,hroom,hrf,hO'⟩,hW⟩
 have holds:∀j u,xs[j]? = some u->w.cell? ((⟨g,0,none⟩:Addr).add j)=some u:=hO.cells (g:=g) rfl;have hA:=run_append_grow (P:=P) w t ty e i z ht hi hz ⟨g,0,none⟩ n rc xs hO.1 holds a 1 c news (by omega) hnews (by omega) (by omega) (growslice_fits (by omega) hbytes);have hGn:n+1<=grownCap w (n+1) rc e:=grownCap_ge w _ _ _;have hGm:=grownCap_le_maxLen w (n+1) rc e h63;refine⟨_,_,_,hA,Cut.of ?_,Or.inr ⟨Nat.le_refl _,⟨rfl,rfl,rfl,by simp,fun k hk _=>Below.heap_alloc w.drew _ _ hk⟩⟩⟩;have el:(xs++news).length=(n+1)*i.size:=by rw[List.length_append,hO.1,hl,Nat.add_mul];omega
 refine⟨el,.inr ⟨w.heap.size,_,_,rfl,Nat.zero_le _,heap_alloc_new w.drew _,hGn,hGm,?_,?_⟩⟩
 .have e1:xs.length=n*i.size:=hO.1;have e3:(grownCap w (n+1) rc e-(n+1))*i.size+(n+1)*i.size=grownCap w (n+1) rc e*i.size:=by rw[<-Nat.add_mul];congr 1;omega
  simp only[Array.size_append,size_zeroCells,List.size_toArray,e1,hl,hzs];rw[Nat.add_mul]at e3
  omega
 rw[Array.toList_append,Array.toList_append,List.take_append_of_le_length (by simp only[List.length_append]at el ⊢;omega),List.take_of_length_le (by simp only[List.length_append]at el ⊢;omega)]
theorem zti{ops:Array Oper}{rest:List Oper}{o:Oper}{a:Act}{Q:Exit->Act->World->Prop}(hgd:o.guard=none)(s x:Operand)(t:TypeId)(ho:o.op=.call {callee:=.builtin .append,args:=#[s,x],argTypes:=#[t,t]})(e:TypeId)(i:TypeInfo)(z:Value)(size bytes:Nat)(ht:P.underlying t=some (.slice e))(hi:P.info? e=some i)(hz:i.zero=some z)(hsize:i.size=size)(hby:i.bytes=bytes)(hzs:z.cells.size=size)(hsz:0<size)(v:Value)(n:Nat)(xs:List Value)(hs:a.eval s=v)(hown:Cut w e size v n xs)(ad:Addr)(c:Nat)(news:List Value)(hx:a.eval x=.slice (some ad) 1 c)(hl:news.length=size)(hnews:∀j u,news[j]? = some u->w.cell? (ad.add j)=some u)(h1:∀u∈news,u.oneCell'=true)(hbytes:(n+1)*bytes<=140737488355328)(h63:n+1<=maxLen)(h:∀g cap w',Cut w' e size (.slice (some ⟨g,0,none⟩) (n+1) cap) (n+1) (xs++news)->Went w v g w'->wpList P ops Q rest (a.put o.dst (.slice (some ⟨g,0,none⟩) (n+1) cap)) w'):wpList P ops Q (o::rest) a w:=by
 refine wpList_plain hgd fun K hK=> ?_;obtain⟨g,cap,w',hr,h2,h3⟩:=zth (P:=P) w t o.type e i z size bytes ht hi hz hsize hby hzs hsz v n xs hown ad c news hl hnews h1 h63 hbytes;unfold Oper.wp execOp;simp only[ho,resolve,invoke,builtin,Sem.run_bind,Sem.run_pure,Result.andThen_ok,List.map_toArray,List.map_cons,List.map_nil,hs,hx,hr];exact hK _ _ (h g cap w' h2 h3)
end
theorem zadd:(prog.info? 3).map (fun i=>(i.zero,i.size,i.bytes))=some (some (.int .i64 0),1,8):=by kernel_rfl
theorem zade:prog.underlying 25=some (.slice 3):=by kernel_rfl
theorem ztj(bk:Nat)(rv:Value)(hs0:List HB)(w:World)(h:Bl kInt w bk rv hs0)(h1:∀(j:Nat) (h:HB),hs0[j]? = some h->P1 kInt w h)(ha:zjx hs0)(hfre:zpe hs0) :
  Calls prog 29 #[.pointer (some ⟨bk,0,none⟩)] w fun e w'=>e=.returned (.tuple #[])/\∃hs,Hid (GrowInv kInt w bk rv hs0 hs0.length hs w'):=by
 obtain⟨i0,hi0,hz0,hz1,hz2⟩:=info_parts zadd;have hold:∀(j:Nat)(a:HB),hs0[j]? = some a->∀k,a.l.ownBlock=some k->k<w.heap.size:=by
  intro j a haj k hk;obtain⟨cs,hc⟩:=(h1 j a haj).type k hk;exact lt_of_block hc
 have HI0:Hid (GrowInv kInt w bk rv hs0 0 hs0 w):=by
  refine⟨h,rfl,fun j a haj=>⟨a,haj,rfl,rfl⟩,fun _ _ _ hj=>by omega,fun j a haj _=>⟨h1 j a haj,hfre j a haj⟩,?_,?_,Fr.refl _ _⟩
  .intro j a haj k hk;rw[hfre j a haj]at hk
   simp[Value.ownBlock]at hk
  intro j j' a b haj _ _ k hk;rw[hfre j a haj]at hk
  simp[Value.ownBlock]at hk
 obtain⟨N,HN⟩:∃N,Hid (N=hs0.length):=⟨_,rfl⟩;have hfew:=h.few;rw[<-HN.out]at hfew
 obtain⟨rao,rcap,hrv⟩:=own_slice h.row;rw[<-HN.out]at hrv
 clear h h1;subst hrv;go_enter func29,ntmps29;go_wp2_with fail
 go_loopw [2] (fun ii wr=>∃(i:Nat)(hs:List HB),ii=.int .i64 i/\i<=N/\Hid (GrowInv kInt w bk (.slice rao N rcap) hs0 i hs wr)) (fun ii _=>N-(RowKit.intOf ii).toNat)
 case atStart=>exact⟨0,hs0,rfl,Nat.zero_le _,HI0⟩
 clear HI0;obtain⟨i,hs,rfl,hiN,HI⟩:=hrel;have c1:wr.cell? ⟨bk,2,none⟩=some (.slice rao N rcap):=HI.out.bk.c1;by_cases hi:i<N
 .have HN2:Hid (N=hs.length):=by show _=_;rw[HI.out.len,HN.out]
  obtain⟨e,he⟩:∃e,hs[i]? = some e:=⟨_,List.getElem?_eq_getElem (by rw[<-HN2.out];exact hi)⟩;have HE:Hid (hs[i]? = some e):=he;obtain⟨rb,rc,hrv,hrc,d0,d1,d2⟩:=HI.out.bk.at i e he;rw[<-HN2.out]at hrv hrc
  cases hrv;have hen:e.n<4194304:=HI.out.bk.num i e he;obtain⟨⟨n,hO,hn21⟩,hnil⟩:=HI.out.left i e he (Nat.le_refl _);obtain⟨lao,lcap,lf,hl,hlc,hlf,hOr⟩:=id hO;have HLe:Hid (e.l=.slice lao n lcap):=hl;rw[hnil]at d1
  rw[hl]at d0 hO
  obtain⟨M,HM⟩:∃M,Hid (M=e.n):=⟨_,rfl⟩;rw[<-HM.out]at d2 hen hO hOr
  clear he hl hnil;go_wp2_with fail
  obtain⟨hv,hhv⟩:∃hv,hv=wr.heap.size:=⟨_,rfl⟩;obtain⟨w1,hw1⟩:∃w1,w1=wr.alloc (Obj.cells #[.slice lao n lcap,.slice none 0 0,.int .i64 (M:Int)] 77):=⟨_,rfl⟩;rw[<-hw1,<-hhv];have hF1:Fr [] wr w1:=by rw[hw1];exact Fr.alloc [] _ _
  have hvb:w1.heap[hv]? = some (.cells #[.slice lao n lcap,.slice none 0 0,.int .i64 (M:Int)] 77 (0,0)):=by rw[hw1,hhv];exact heap_alloc_new wr _
  have hlt:∀k,(Value.slice lao n lcap).ownBlock=some k->k<w1.heap.size/\k≠hv:=by
   intro k hk;have:=hO.lt k hk;have:=hF1.size;omega
  have hO1:=hO.keep hF1 (by simp);have hO2:=zaj hOr hF1 (by simp);clear hO hOr hw1 hhv d0 d1 d2 c1;have HG0:Hid (GIn kInt w1 (.slice lao n lcap) n M 0 (.slice lao n lcap) w1):=by
   refine⟨hO1,?_,Fr.refl _ _,Or.inl rfl⟩;refine Rdm.of_own (kInt.len M) hO2 (Nat.le_refl _) (zdy _ _ _ _ _) hlc ?_;intro a ha';rcases hO2.2 with⟨hh,_⟩|⟨g,_,_,hh,_⟩
   .cases hh;cases ha'
   cases hh;cases ha';exact⟨rfl,rfl⟩
  clear hO1 hO2;go_loopw [4,5] (fun vv kk wr'=>∃(k:Nat)(vao:Option Addr)(vcap:Nat),vv=.slice vao (n+k) vcap/\kk=.int .i64 k/\k<=70/\Hid (GIn kInt w1 (.slice lao n lcap) n M k (.slice vao (n+k) vcap) wr')) (fun _ kk _=>70-(RowKit.intOf kk).toNat)
  case atStart=>exact⟨0,lao,lcap,rfl,rfl,by omega,HG0⟩
  clear HG0;obtain⟨k,vao,vcap,rfl,rfl,hk70,HG⟩:=hrel;have hvb2:=HG.out.fr.keep hvb (by intro hm;exact (hlt hv (by simpa using hm)).2 rfl);by_cases hk:k<70
  .have v2:wr.cell? ⟨hv,2,none⟩=some (.int .i64 (M:Int)):=by rw[crw hvb2];rfl
   obtain⟨B,HB⟩:∃B,Hid (mInt M=B):=⟨_,rfl⟩;clear hvb2;go_wp2_with fail
   refine (zmc M B _ hen HB.out).mono ?_;rintro e w3⟨rfl,hF3⟩;have HG3:=HG.out.keep hF3;have HOa:Hid (Cut (w3.alloc (Obj.cells #[.int .i64 B] 3)) 3 1 (.slice vao (n+k) vcap) (n+k) (zaw (kInt.mark M) (n+k))):=HG3.own.keep (Fr.alloc [] _ _) (by simp);go_wp2_with (at_builtin;go_loud (refine zti _ rfl (.tmp 28) (.tmp 32) 25 rfl 3 i0 (.int .i64 0) 1 8 zade hi0 hz0 hz1 hz2 rfl (by omega) _ _ _ rfl HOa.out ⟨w3.heap.size,0,none⟩ 1 [.int .i64 B] rfl rfl ?c1 ?c2 (by omega) (by simp only[maxLen];omega) ?_))
   case c1=>
    intro j u hj;have hnew:(w3.alloc (Obj.cells #[.int .i64 B] 3)).heap[w3.heap.size]? = some (Obj.cells #[.int .i64 B] 3):=heap_alloc_new w3 _;rw[show (⟨w3.heap.size,0,none⟩:Addr).add j=⟨w3.heap.size,j,none⟩ from by simp[Addr.add];omega,crw hnew];simpa using hj
   case c2=>
    intro u hu;simp at hu;subst hu;rfl
   intro g cap' w' hO2 hW2;have HG2:Hid (GIn kInt w1 (.slice lao n lcap) n M (k+1) (.slice (some ⟨g,0,none⟩) (n+(k+1)) cap') w'):=by
    refine GIn.next HG3 _ ?_ hW2 (fun k hk=>(hlt k hk).1);have e9:=hO2;rw[<-HB.out]at e9
    exact e9
   clear HG3 hF3;clear hO2 hW2 hlt hvb;go_wp2_with fail
   go_roundw;case rel=>exact⟨k+1,some ⟨g,0,none⟩,cap',by simp only[Nat.add_assoc],by simp,by omega,HG2⟩
   case measure=>simp[RowKit.intOf];omega
  obtain rfl:k=70:=by omega
  obtain⟨V,HV⟩:∃V,Hid (V=Value.slice vao (n+70) vcap):=⟨_,rfl⟩;have HN3:Hid (GrowInv kInt w bk (.slice (some ⟨rb,0,none⟩) N rcap) hs0 (i+1) (hs.set i {e with long:=.slice vao (n+70) vcap}) (wr.setCell ⟨rb,i*3+1,none⟩ (.slice vao (n+70) vcap))):=by
   refine GrowInv.next HI.out ha hold HE.out HN2.out hF1 ?_ hn21;rw[HLe.out,<-HM.out];exact HG.out
  have hbk2:Bl kInt wr bk (.slice (some ⟨rb,0,none⟩) N rcap) hs:=by
   have hf:Fr (Value.slice lao n lcap).ownBlock.toList _ wr:=hF1.trans HG.out.fr (by simp) (fun x hx _=>hx);have hte:=(HI.out.left i e HE.out (Nat.le_refl _)).1.type;rw[HLe.out]at hte
   refine Bl.keep HI.out.bk hf ?_ ?_
   .intro hm;obtain⟨cs,hc⟩:=hte bk (by simpa using hm);exact (HI.out.bk.apart hc).1 rfl
   intro k hk hm;obtain⟨cs,hc⟩:=hte k (by simpa using hm);exact (HI.out.bk.apart hc).2 hk
  have c1':wr.cell? ⟨bk,2,none⟩=some (.slice (some ⟨rb,0,none⟩) N rcap):=hbk2.c1;obtain⟨rb',rc',hrv',_,_,d1',_⟩:=hbk2.at i e HE.out;cases hrv';have hf1:wr.frozen? ⟨rb,i*3+1,none⟩=false:=by
   have hr:=hbk2.row;rw[<-HN2.out]at hr
   exact zrw hr _
  clear hbk2 hvb2 hvb hlt;go_wp2_with fail
  go_roundw;case rel=>exact⟨i+1,_,by simp,by omega,HN3⟩
  case measure=>simp[RowKit.intOf];omega
 obtain rfl:i=N:=by omega
 go_wp2_with fail
 go_end0
 exact⟨rfl,hs,by rw[<-HN.out];exact HI⟩
theorem zadf:(prog.info? 77).map (fun i=>(i.zero,i.size,i.bytes))=some (some (.agg #[.slice none 0 0,.slice none 0 0,.int .i64 0]),3,56):=by kernel_rfl
theorem zadg:prog.underlying 31=some (.slice 77):=by kernel_rfl
theorem ztm(bk:Nat)(cs:Array Value)(rv:Value)(hs:List HB)(T:Nat)(ao:Option Addr)(L cap:Nat)(w:World)(hb0:w.heap[bk]? = some (.cells cs 42 (0,0)))(h12:cs.size=12)(hc0:cs[0]? = some (.int .i64 (T:Int)))(hc1:cs[2]? = some rv)(hr0:w.ownsRow 0 77 3 rv hs.length (zbf hs))(hfew:hs.length<2097152)(hT:T<4194304) :
  Calls prog 16 #[.pointer (some ⟨bk,0,none⟩),.slice ao L cap] w fun e w'=>e=.returned (.tuple #[])/\∃rv',w'.heap[bk]? = some (.cells ((cs.setIfInBounds 0 (.int .i64 ((T:Int)+1))).setIfInBounds 2 rv') 42 (0,0))/\w'.ownsRow 0 77 3 rv' (hs.length+1) (zbf (hs++[⟨.slice ao L cap,.slice none 0 0,T+1⟩]))/\Fr (bk::rv.ownBlock.toList) w w'/\Moved w.heap.size rv rv':=by
 obtain⟨i0,hi,hz0,hz1,hz2⟩:=info_parts zadf;have c0:w.cell? ⟨bk,0,none⟩=some (.int .i64 (T:Int)):=by rw[crw hb0,hc0]
 have c1:w.cell? ⟨bk,2,none⟩=some rv:=by rw[crw hb0,hc1]
 have f0:w.frozen? ⟨bk,0,none⟩=false:=by simp[World.frozen?,hb0]
 have f1:w.frozen? ⟨bk,2,none⟩=false:=by simp[World.frozen?,hb0]
 obtain⟨N,HN⟩:∃N,Hid (N=hs.length):=⟨_,rfl⟩;have hrow:=hr0;rw[<-HN.out]at hrow hfew
 have hoth:rv.ownBlock≠some bk:=by
  intro e;obtain⟨cs',hc⟩:=own_type hr0 bk e;rw[hb0]at hc
  simp at hc
 obtain⟨rao,rcap,hrv⟩:=own_slice hrow;subst hrv;clear hr0;go_enter func16,ntmps16;go_wp2_with fail
 obtain⟨w1,hw1⟩:∃w1,w1=w.setCell ⟨bk,0,none⟩ (.int .i64 ((T:Int)+1)):=⟨_,rfl⟩;rw[<-hw1];have hF1:Fr [bk] w w1:=by rw[hw1];exact Fr.set _ _ _ (by simp)
 have hbox:w1.heap[bk]? = some (.cells (cs.setIfInBounds 0 (.int .i64 ((T:Int)+1))) 42 (0,0)):=by rw[hw1,row_setCell _ hb0]
 have hO1:w1.ownsRow 0 77 3 (.slice rao N rcap) N (zbf hs):=by rw[hw1];exact ownsRow_setCell_other hrow hoth _
 have hcs0:(cs.setIfInBounds 0 (.int .i64 ((T:Int)+1)))[0]? = some (.int .i64 ((T:Int)+1)):=by rw[Array.getElem?_setIfInBounds_self];simp[h12]
 have hcs1:(cs.setIfInBounds 0 (.int .i64 ((T:Int)+1)))[2]? = some (.slice rao N rcap):=by rw[Array.getElem?_setIfInBounds_ne (by omega)];exact hc1
 have d0:w1.cell? ⟨bk,0,none⟩=some (.int .i64 ((T:Int)+1)):=by rw[crw hbox,hcs0]
 have d1:w1.cell? ⟨bk,2,none⟩=some (.slice rao N rcap):=by rw[crw hbox,hcs1]
 have e1:w1.frozen? ⟨bk,2,none⟩=false:=by simp[World.frozen?,hbox]
 clear hw1 c0 c1 f0 f1 hrow;have hFa:Fr [] w1 (w1.alloc (Obj.cells #[.slice ao L cap,.slice none 0 0,.int .i64 ((T:Int)+1)] 77)).drew:=(Fr.alloc [] w1 _).then (Fr.drew [] _);have HOa:Hid ((w1.alloc (Obj.cells #[.slice ao L cap,.slice none 0 0,.int .i64 ((T:Int)+1)] 77)).drew.ownsRow 0 77 3 (.slice rao N rcap) N (zbf hs)):=zaj hO1 hFa (by simp);have HNw:Hid (∀(j:Nat) u,[Value.slice ao L cap,.slice none 0 0,.int .i64 ((T:Int)+1)][j]? = some u->(w1.alloc (Obj.cells #[.slice ao L cap,.slice none 0 0,.int .i64 ((T:Int)+1)] 77)).drew.cell? ((⟨w1.heap.size,0,none⟩:Addr).add j)=some u):=by
  intro j u hj;have hn:(w1.alloc (Obj.cells #[.slice ao L cap,.slice none 0 0,.int .i64 ((T:Int)+1)] 77)).drew.heap[w1.heap.size]? = some (Obj.cells #[.slice ao L cap,.slice none 0 0,.int .i64 ((T:Int)+1)] 77):=heap_alloc_new w1 _;rw[show (⟨w1.heap.size,0,none⟩:Addr).add j=⟨w1.heap.size,j,none⟩ from by simp[Addr.add];omega,crw hn];simpa using hj
 have hboxa:=(Fr.alloc [] w1 (Obj.cells #[.slice ao L cap,.slice none 0 0,.int .i64 ((T:Int)+1)] 77)).keep hbox (by simp);have d0a:(w1.alloc (Obj.cells #[.slice ao L cap,.slice none 0 0,.int .i64 ((T:Int)+1)] 77)).cell? ⟨bk,0,none⟩=some (.int .i64 ((T:Int)+1)):=by rw[crw hboxa,hcs0]
 have d1a:(w1.alloc (Obj.cells #[.slice ao L cap,.slice none 0 0,.int .i64 ((T:Int)+1)] 77)).cell? ⟨bk,2,none⟩=some (.slice rao N rcap):=by rw[crw hboxa,hcs1]
 clear hboxa;have HOne:Hid (∀u∈[Value.slice ao L cap,.slice none 0 0,.int .i64 ((T:Int)+1)],u.oneCell'=true):=by
  intro u hu;simp at hu;rcases hu with rfl|rfl|rfl<;>rfl
 have HK:Hid (∀(g cap':Nat)(w':World),w'.ownsRow 0 77 3 (.slice (some ⟨g,0,none⟩) (N+1) cap') (N+1) (zbf hs++[Value.slice ao L cap,.slice none 0 0,.int .i64 ((T:Int)+1)])->Went (w1.alloc (Obj.cells #[.slice ao L cap,.slice none 0 0,.int .i64 ((T:Int)+1)] 77)).drew (.slice rao N rcap) g w' ->
   w'.cell? ⟨bk,2,none⟩=some (.slice rao N rcap)/\w'.frozen? ⟨bk,2,none⟩=false/\Hid ((w'.setCell ⟨bk,2,none⟩ (.slice (some ⟨g,0,none⟩) (N+1) cap')).heap[bk]? = some (.cells ((cs.setIfInBounds 0 (.int .i64 ((T:Int)+1))).setIfInBounds 2 (.slice (some ⟨g,0,none⟩) (N+1) cap')) 42 (0,0))/\(w'.setCell ⟨bk,2,none⟩ (.slice (some ⟨g,0,none⟩) (N+1) cap')).ownsRow 0 77 3 (.slice (some ⟨g,0,none⟩) (N+1) cap') (hs.length+1) (zbf (hs++[⟨.slice ao L cap,.slice none 0 0,T+1⟩]))/\Fr (bk::(Value.slice rao N rcap).ownBlock.toList) w (w'.setCell ⟨bk,2,none⟩ (.slice (some ⟨g,0,none⟩) (N+1) cap'))/\Moved w.heap.size (.slice rao N rcap) (.slice (some ⟨g,0,none⟩) (N+1) cap'))):=by
  intro g cap' w' hO hW;have hFw:=hW.fr;have hF1w:Fr (Value.slice rao N rcap).ownBlock.toList w1 w':=hFa.trans hFw (by simp) (fun x hx _=>hx);have hbox':=hF1w.keep hbox (by simpa using hoth);refine⟨by rw[crw hbox',hcs1],by simp[World.frozen?,hbox'],?_,?_,?_,?_⟩
  .rw[row_setCell _ hbox']
  .have hne:(Value.slice (some ⟨g,0,none⟩) (N+1) cap').ownBlock≠some bk:=by
    intro e;obtain⟨cs',hc⟩:=own_type hO bk e;rw[hbox']at hc
    simp at hc
   have e:HB.cells ⟨.slice ao L cap,.slice none 0 0,T+1⟩=[.slice ao L cap,.slice none 0 0,.int .i64 ((T:Int)+1)]:=by simp[HB.cells]
   rw[zwq,e,<-HN.out];exact ownsRow_setCell_other hO hne _
  .refine (hF1.trans (hF1w.trans (U:=bk::(Value.slice rao N rcap).ownBlock.toList) (Fr.set (S:=[bk]) w' ⟨bk,2,none⟩ _ (by simp)) ?_ ?_) ?_ (fun x hx _=>hx))
   .intro x hx _;exact List.mem_cons_of_mem _ hx
   .intro x hx _;simp at hx;simp[hx]
   intro x hx _;simp at hx;simp[hx]
  have hs1:=hF1.size;have hs2:=hFa.size;exact (Moved.refl w.heap.size _).trans hW.moved (by omega)
 clear hcs0 hcs1
 go_region_law (refine zeg _ rfl (.tmp 15) (.tmp 22) 31 rfl 77 i0 _ 3 56 zadg hi hz0 hz1 hz2 rfl (by omega) (.slice rao N rcap) N (zbf hs) (by simp[Act.eval]) HOa.out ⟨w1.heap.size,0,none⟩ 1 [.slice ao L cap,.slice none 0 0,.int .i64 ((T:Int)+1)] (by simp[Act.eval]) rfl HNw.out HOne.out (by omega) (by simp only[maxLen];omega) ?_;intro g cap' w' hO2 hW2;obtain⟨q1,q2,q3⟩:=HK.out g cap' w' hO2 hW2)
 all_goals (go_wp2_with fail;go_end0;exact⟨rfl,_,q3.out⟩)
end Bq
end Go.Proofs.YtojjdnjfaelnfaaGreatDoor
