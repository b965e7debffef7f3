/- Contracts and lemmas. -/
import Derived.Test.YtojjdnjfaelnfaaGreatDoorRows
import Derived.WalkKit
import Derived.ProofKit
import Derived.OpenShut
import Derived.BigQuiet
import Derived.Lib.AppendStr
import Derived.Laws.CopyOwn
import Derived.ShutString
namespace Go.Proofs.YtojjdnjfaelnfaaGreatDoor
open Go.ChangeShapes Go.WideShapes Go.ChangeAt Go.RowKit Go.Lib Go.Proofs.Tryz
theorem zeo:prog.underlying 9=some .string:=by kernel_rfl
structure Fr(S:List Nat)(w w':World):Prop where
 os:w'.os=w.os
 tape:w'.tape=w.tape
 output:w'.output=w.output
 size:w.heap.size<=w'.heap.size
 block:∀k,k<w.heap.size->k∉S->w'.heap[k]? = w.heap[k]?
theorem Fr.refl(S:List Nat)(w:World):Fr S w w:=⟨rfl,rfl,rfl,Nat.le_refl _,fun _ _ _=>rfl⟩
theorem Fr.trans{S T U:List Nat}{a b c:World}(h:Fr S a b)(k:Fr T b c)(hS:∀x,x∈S->x<a.heap.size->x∈U)(hT:∀x,x∈T->x<a.heap.size->x∈U):Fr U a c:=
 ⟨
  k.os.trans h.os,k.tape.trans h.tape,k.output.trans h.output,Nat.le_trans h.size k.size,
  fun i hi hn=>(k.block i (Nat.lt_of_lt_of_le hi h.size) (fun x=>hn (hT i x hi))).trans (h.block i hi (fun x=>hn (hS i x hi)))⟩
theorem Fr.mono{S T:List Nat}{a b:World}(h:Fr S a b)(hS:∀x,x∈S->x<a.heap.size->x∈T):Fr T a b:=
 ⟨h.os,h.tape,h.output,h.size,fun i hi hn=>h.block i hi (fun x=>hn (hS i x hi))⟩
theorem Fr.then{S:List Nat}{a b c:World}(h:Fr S a b)(k:Fr S b c):Fr S a c:=h.trans k (fun _ x _=>x) (fun _ x _=>x)
theorem Fr.alloc(S:List Nat)(w:World)(o:Obj):Fr S w (w.alloc o):=
 ⟨rfl,rfl,rfl,by simp,fun k hk _=>Below.heap_alloc _ _ _ hk⟩
theorem Fr.drew(S:List Nat)(w:World):Fr S w w.drew:=⟨rfl,rfl,rfl,Nat.le_refl _,fun _ _ _=>rfl⟩
theorem Fr.drewN(S:List Nat)(w:World)(q:Nat):Fr S w (w.drewN q):=⟨rfl,rfl,rfl,Nat.le_refl _,fun _ _ _=>rfl⟩
theorem Fr.set{S:List Nat}(w:World)(p:Addr)(u:Value)(h:p.block∈S):Fr S w (w.setCell p u):=
 ⟨rfl,rfl,rfl,by simp[World.setCell],fun k _ hn=>Below.heap_setCell _ _ _ _ (fun e=>hn (e▸h))⟩
theorem Fr.grown{S:List Nat}{w w':World}{row:Option Nat}(hg:w.grownBy w' row)(h:∀k,row=some k->k<w.heap.size->k∈S):Fr S w w':=
 ⟨hg.os,hg.tape,hg.output,hg.size,fun k hk hn=>hg.block k hk (fun e=>hn (h k e.symm hk))⟩
theorem Fr.below{S:List Nat}{w w':World}{B:Nat}(h:Fr S w w')(hB:B<=w.heap.size)(hS:∀x,x∈S->B<=x):Below B w w':=
 ⟨h.os,h.tape,h.output,h.size,fun k hk=>h.block k (by omega) (fun x=>by have:=hS k x;omega)⟩
theorem Fr.keep{S:List Nat}{w w':World}(h:Fr S w w'){b:Nat}{o:Obj}(hb:w.heap[b]? = some o)(hn:b∉S):w'.heap[b]? = some o:=
 (h.block b (lt_of_block hb) hn).trans hb
def zdk(s:ByteArray):List Nat:=s.data.toList.map fun b=>b.toNat
theorem zih(s:ByteArray):(zdk s).length=s.size:=by
 rw[zdk,List.length_map,Array.length_toList];rfl
def Moved(n:Nat)(v v':Value):Prop:=v'.ownBlock=v.ownBlock\/∃k,v'.ownBlock=some k/\n<=k
theorem Moved.refl(n:Nat)(v:Value):Moved n v v:=Or.inl rfl
theorem Moved.trans{n m:Nat}{a b c:Value}(h:Moved n a b)(k:Moved m b c)(hnm:n<=m):Moved n a c:=by
 rcases k with k|⟨x,k1,k2⟩
 .rcases h with h|⟨y,h1,h2⟩
  .exact Or.inl (k.trans h)
  exact Or.inr ⟨y,k.trans h1,h2⟩
 exact Or.inr ⟨x,k1,by omega⟩
theorem Moved.lt{n B:Nat}{v v':Value}(h:Moved n v v')(hB:B<=n)(hv:∀k,v.ownBlock=some k->B<=k):∀k,v'.ownBlock=some k->B<=k:=by
 intro k hk;rcases h with h|⟨y,h1,h2⟩
 .exact hv k (h▸hk)
 rw[h1]at hk;cases hk;omega
section
variable{P:Program}(w:World)
theorem zww(t ty e:TypeId)(i:TypeInfo)(z:Value)(size bytes:Nat)(ht:P.underlying t=some (.slice e))(hi:P.info? e=some i)(hz:i.zero=some z)(hsize:i.size=size)(hby:i.bytes=bytes)(v:Value)(n:Nat)(xs:List Value)(hown:w.ownsRow 0 e size v n xs)(a:Addr)(m c:Nat)(news:List Value)(hm:0<m)(hl:news.length=m*size)(hnews:∀j u,news[j]? = some u->w.cell? (a.add j)=some u)(h1:∀u∈news,u.oneCell'=true)(h63:n+m<=maxLen)(hbytes:(n+m)*bytes<=140737488355328)(v':Value)(w':World)(hr:(Builtin.append_ #[t,t] ty #[v,.slice (some a) m c]).run P w=.ok v' w'):Moved w.heap.size v v':=by
 subst hsize;subst hby;have hsmall:n+m<=9223372036854775807:=by simp only[maxLen]at h63;omega
 rcases hown.2 with⟨rfl,rfl⟩|⟨g,cap,cur,rfl,hbg,hg,hnc,hcm,hcs,htake⟩
 .have hr2:=run_append_nil (P:=P) w t ty e i z ht hi hz a m c news hl hnews (by omega) (by omega) (by have hb:=hbytes;simp only[Nat.zero_add]at hb;omega);rw[hr]at hr2
  cases hr2;exact Or.inr ⟨_,rfl,Nat.le_refl _⟩
 by_cases hroom:n+m<=cap
 .have hfit:n*i.size+news.length<=cur.size:=by rw[hl,hcs,<-Nat.add_mul];exact Nat.mul_le_mul_right _ hroom
  have hr2:=run_append_room (P:=P) w t ty e i ht hi g n cap cur hg a m c news hl hnews h1 hroom hfit;rw[hr]at hr2
  cases hr2;exact Or.inl rfl
 have holds:∀j u,xs[j]? = some u->w.cell? ((⟨g,0,none⟩:Addr).add j)=some u:=hown.cells (g:=g) rfl;have hr2:=run_append_grow (P:=P) w t ty e i z ht hi hz ⟨g,0,none⟩ n cap xs hown.1 holds a m c news hl hnews (by omega) (by omega) (growslice_fits (by omega) hbytes);rw[hr]at hr2
 cases hr2;exact Or.inr ⟨_,rfl,Nat.le_refl _⟩
theorem zse{ops:Array Oper}{rest:List Oper}{o:Oper}{a:Act}{Q:Exit->Act->World->Prop}(hgd:o.guard=none)(s x:Operand)(t:TypeId)(ho:o.op=.call {callee:=.builtin .append,args:=#[s,x],argTypes:=#[t,t]})(e:TypeId)(i:TypeInfo)(z:Value)(size bytes:Nat)(ht:P.underlying t=some (.slice e))(hi:P.info? e=some i)(hz:i.zero=some z)(hsize:i.size=size)(hby:i.bytes=bytes)(hzs:z.cells.size=size)(hsz:0<size)(v:Value)(n:Nat)(xs:List Value)(hs:a.eval s=v)(hown:w.ownsRow 0 e size v n xs)(ad:Addr)(c:Nat)(news:List Value)(hx:a.eval x=.slice (some ad) 1 c)(hl:news.length=size)(hnews:∀j u,news[j]? = some u->w.cell? (ad.add j)=some u)(h1:∀u∈news,u.oneCell'=true)(hbytes:(n+1)*bytes<=140737488355328)(h63:n+1<=maxLen)(h:∀g cap w',w'.ownsRow 0 e size (.slice (some ⟨g,0,none⟩) (n+1) cap) (n+1) (xs++news)->w.grownBy w' v.ownBlock->Moved w.heap.size v (.slice (some ⟨g,0,none⟩) (n+1) cap)->wpList P ops Q rest (a.put o.dst (.slice (some ⟨g,0,none⟩) (n+1) cap)) w'):wpList P ops Q (o::rest) a w:=by
 refine wpList_plain hgd fun K hK=> ?_;have hl':news.length=1*size:=by omega
 obtain⟨v',w',hr,h2,h3,h4⟩:=run_append_own (P:=P) w 0 t o.type e i z size bytes ht hi hz hsize hby hzs hsz v n xs hown ad 1 c news hl' hnews h1 h63 hbytes (Nat.zero_le _);have hmv:=zww (P:=P) w t o.type e i z size bytes ht hi hz hsize hby v n xs hown ad 1 c news (by omega) hl' hnews h1 h63 hbytes v' w' hr;obtain⟨g,cap,rfl⟩:∃g cap,v'=.slice (some ⟨g,0,none⟩) (n+1) cap:=by
  rcases h2.2 with⟨_,hh⟩|⟨g,cap',_,hh,_⟩
  .omega
  exact⟨g,cap',hh⟩
 unfold Oper.wp execOp;simp only[ho,resolve,invoke,builtin,Sem.run_bind,Sem.run_pure,Result.andThen_ok,List.map_toArray,List.map_cons,List.map_nil,hs,hx,hr];exact hK _ _ (h g cap w' h2 h3 hmv)
end
theorem zaj{S:List Nat}{w w':World}{e:TypeId}{size:Nat}{v:Value}{n:Nat}{xs:List Value}(h:w.ownsRow 0 e size v n xs)(hf:Fr S w w')(hn:∀k,v.ownBlock=some k->k∉S):w'.ownsRow 0 e size v n xs:=by
 refine⟨h.1,?_⟩;rcases h.2 with hh|⟨g,cap,cur,rfl,hb,hgg,rest⟩
 .exact .inl hh
 exact .inr ⟨g,cap,cur,rfl,hb,hf.keep hgg (hn g rfl),rest⟩
theorem zpf{w:World}{b:Nat}{u v x:Value}{t:TypeId}(h:w.heap[b]? = some (.cells #[u,v] t (0,0))):(w.setCell ⟨b,1,none⟩ x).heap[b]? = some (.cells #[u,x] t (0,0)):=by
 have hlt:=lt_of_block h;have h':w.heap[b]=.cells #[u,v] t (0,0):=by simpa[Array.getElem?_eq_getElem hlt]using h
 show (w.heap.modify b _)[b]? = _;rw[Array.getElem?_eq_getElem (by simpa using hlt),Array.getElem_modify_self,h'];rfl
theorem Fr.setRow(w:World)(g:Nat)(cs:Array Value):Fr [g] w (w.setRow g cs):=
 ⟨rfl,rfl,rfl,by simp[World.setRow],fun k _ hn=>setRow_other w g k cs (by simpa using hn)⟩
theorem Fr.on{T:List Nat}{a b c:World}(h:Fr [] a b)(k:Fr T b c)(hT:∀x,x∈T->a.heap.size<=x):Fr [] a c:=
 h.trans k (fun _ x _=>x) (fun x hx hl=>by have:=hT x hx;omega)
end Go.Proofs.YtojjdnjfaelnfaaGreatDoor
