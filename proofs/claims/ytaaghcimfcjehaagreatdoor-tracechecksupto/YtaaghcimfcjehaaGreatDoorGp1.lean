/- Contracts and plain lemmas of this claim. -/
import Derived.Test.YtaaghcimfcjehaaGreatDoorRows
import Derived.WalkKit
import Derived.ProofKit
import Derived.OpenShut
import Derived.Deep.QuietTactic
import Derived.BigQuiet
import Derived.BigRegion
import Derived.Lib.AppendStr
import Derived.Laws.CopyOwn
import Derived.ShutString
import Derived.ChangeOld
import Derived.Below
import Derived.Deep.Slices
import Derived.SizedLaws
import Derived.Deep.RegionWith
import Derived.Deep.LoopGhost
import Derived.Lib.TrailingZeros
set_option linter.unusedSimpArgs false
set_option linter.unusedVariables false
namespace Go.Proofs.YtaaghcimfcjehaaGreatDoor
open Go.ChangeShapes Go.WideShapes Go.ChangeAt Go.RowKit Go.Lib
theorem Tryz.undStr:Tryz.prog.underlying 9=some .string:=by kernel_rfl
structure Fr (S:List Nat) (w w':World):Prop where
 os:w'.os=w.os
 tape:w'.tape=w.tape
 output:w'.output=w.output
 size:w.heap.size<=w'.heap.size
 block: ∀k,k<w.heap.size->k∉S->w'.heap[k]? = w.heap[k]?
theorem Fr.refl (S:List Nat) (w:World):Fr S w w:=⟨rfl,rfl,rfl,Nat.le_refl _,fun _ _ _=>rfl⟩
theorem Fr.trans {S T U:List Nat} {a b c:World} (h:Fr S a b) (k:Fr T b c) (hS: ∀x,x∈S->x<a.heap.size->x∈U) (hT: ∀x,x∈T->x<a.heap.size->x∈U):Fr U a c :=
 ⟨
  k.os.trans h.os,k.tape.trans h.tape,k.output.trans h.output,Nat.le_trans h.size k.size,
  fun i hi hn=>(k.block i (Nat.lt_of_lt_of_le hi h.size) (fun x=>hn (hT i x hi))).trans (h.block i hi (fun x=>hn (hS i x hi)))⟩
theorem Fr.mono {S T:List Nat} {a b:World} (h:Fr S a b) (hS: ∀x,x∈S->x<a.heap.size->x∈T):Fr T a b :=
 ⟨h.os,h.tape,h.output,h.size,fun i hi hn=>h.block i hi (fun x=>hn (hS i x hi))⟩
theorem Fr.then {S:List Nat} {a b c:World} (h:Fr S a b) (k:Fr S b c):Fr S a c:=h.trans k (fun _ x _=>x) (fun _ x _=>x)
theorem Fr.alloc (S:List Nat) (w:World) (o:Obj):Fr S w (w.alloc o) :=
 ⟨rfl,rfl,rfl,by simp,fun k hk _=>Below.heap_alloc _ _ _ hk⟩
theorem Fr.drew (S:List Nat) (w:World):Fr S w w.drew:=⟨rfl,rfl,rfl,Nat.le_refl _,fun _ _ _=>rfl⟩
theorem Fr.drewN (S:List Nat) (w:World) (q:Nat):Fr S w (w.drewN q):=⟨rfl,rfl,rfl,Nat.le_refl _,fun _ _ _=>rfl⟩
theorem Fr.set {S:List Nat} (w:World) (p:Addr) (u:Value) (h:p.block∈S):Fr S w (w.setCell p u) :=
 ⟨rfl,rfl,rfl,by simp[World.setCell],fun k _ hn=>Below.heap_setCell _ _ _ _ (fun e=>hn (e▸h))⟩
theorem Fr.grown {S:List Nat} {w w':World} {row:Option Nat} (hg:w.grownBy w' row) (h: ∀k,row=some k->k<w.heap.size->k∈S):Fr S w w' :=
 ⟨hg.os,hg.tape,hg.output,hg.size,fun k hk hn=>hg.block k hk (fun e=>hn (h k e.symm hk))⟩
theorem Fr.below {S:List Nat} {w w':World} {B:Nat} (h:Fr S w w') (hB:B<=w.heap.size) (hS: ∀x,x∈S->B<=x):Below B w w' :=
 ⟨h.os,h.tape,h.output,h.size,fun k hk=>h.block k (by omega) (fun x=>by have:=hS k x;omega)⟩
theorem Fr.keep {S:List Nat} {w w':World} (h:Fr S w w') {b:Nat} {o:Obj} (hb:w.heap[b]? = some o) (hn:b∉S):w'.heap[b]? = some o :=
 (h.block b (lt_of_block hb) hn).trans hb
def zbu (s:ByteArray):List Nat:=s.data.toList.map fun b=>b.toNat
theorem zdf (s:ByteArray):(zbu s).length=s.size:=by
 rw[zbu,List.length_map,Array.length_toList]
 rfl
section
variable {P:Program} (w:World)
end
theorem zfe {S:List Nat} {w w':World} {e:TypeId} {size:Nat} {v:Value} {n:Nat} {xs:List Value} (h:w.ownsRow 0 e size v n xs) (hf:Fr S w w') (hn: ∀k,v.ownBlock=some k->k∉S):w'.ownsRow 0 e size v n xs:=by
 refine⟨h.1,?_⟩
 rcases h.2 with hh|⟨g,cap,cur,rfl,hb,hgg,rest⟩
 ·exact .inl hh
 ·exact .inr ⟨g,cap,cur,rfl,hb,hf.keep hgg (hn g rfl),rest⟩
theorem zjk {w:World} {b:Nat} {u v x:Value} {t:TypeId} (h:w.heap[b]? = some (.cells #[u,v] t (0,0))):(w.setCell ⟨b,1,none⟩ x).heap[b]? = some (.cells #[u,x] t (0,0)):=by
 have hlt:=lt_of_block h
 have h':w.heap[b]= .cells #[u,v] t (0,0):=by simpa[Array.getElem?_eq_getElem hlt]using h
 show (w.heap.modify b _)[b]? = _
 rw[Array.getElem?_eq_getElem (by simpa using hlt),Array.getElem_modify_self,h']
 rfl
theorem Fr.setRow (w:World) (g:Nat) (cs:Array Value):Fr [g] w (w.setRow g cs) :=
 ⟨rfl,rfl,rfl,by simp[World.setRow],fun k _ hn=>setRow_other w g k cs (by simpa using hn)⟩
theorem Fr.on {T:List Nat} {a b c:World} (h:Fr [] a b) (k:Fr T b c) (hT: ∀x,x∈T->a.heap.size<=x):Fr [] a c :=
 h.trans k (fun _ x _=>x) (fun x hx hl=>by have:=hT x hx;omega)
def Ris (xs:List Int):Prop:=xs.Pairwise fun a b=>a<b
theorem Ris.one: ∀ {xs ys:List Int},Ris xs->Ris ys->(∀x,x∈xs↔x∈ys)->xs=ys
 | [],[],_,_,_=>rfl
 | [],y::r,_,_,h=>absurd ((h y).2 (by simp)) (by simp)
 | x::r,[],_,_,h=>absurd ((h x).1 (by simp)) (by simp)
 | x::r,y::s,hx,hy,h=>by
  have hx':=List.pairwise_cons.1 hx
  have hy':=List.pairwise_cons.1 hy
  have e:x=y:=by
   rcases List.mem_cons.1 ((h x).1 (by simp)) with e|e
   ·exact e
   ·rcases List.mem_cons.1 ((h y).2 (by simp)) with e2|e2
    ·exact e2.symm
    ·have:=hy'.1 x e
     have:=hx'.1 y e2
     omega
  subst e
  have e2:r=s:=Ris.one hx'.2 hy'.2 (fun z=>by
   have hz:=h z
   simp only[List.mem_cons]at hz
   constructor
   ·intro h1
    rcases hz.1 (Or.inr h1) with e|e
    ·have:=hx'.1 z h1;omega
    ·exact e
   ·intro h1
    rcases hz.2 (Or.inr h1) with e|e
    ·have:=hy'.1 z h1;omega
    ·exact e)
  rw[e2]
theorem Ris.snoc {xs:List Int} {n:Int} (h:Ris xs) (hn: ∀x∈xs,x<n):Ris (xs++[n]) :=
 List.pairwise_append.2 ⟨h,List.pairwise_singleton _ _,fun a ha b hb=>by simp at hb;subst hb;exact hn a ha⟩
theorem Ris.filter {xs:List Int} (h:Ris xs) (p:Int->Bool):Ris (xs.filter p):=List.Pairwise.sublist List.filter_sublist h
theorem Ris.few {xs:List Int} (h:Ris xs) {a:Int} {n:Nat} (hb: ∀x∈xs,a<=x/\x<a+n):xs.length<=n:=by
 induction xs generalizing a n with
 | nil=>simp
 | cons x r ih =>
  have h':=List.pairwise_cons.1 h
  obtain⟨h1,h2⟩:=hb x (by simp)
  have:=ih h'.2 (a:=x+1) (n:=n-1) (fun y hy=>by
   have:=h'.1 y hy
   have:=hb y (by simp[hy])
   omega)
  simp only[List.length_cons]
  omega
abbrev Lg:=List (Int×List ByteArray)
open Classical in
noncomputable def lst (L:Lg) (k:ByteArray):Int:=L.foldl (fun a p=>if k∈p.2 then p.1 else a) 0
open Classical in
theorem zgp (L:Lg) (p:Int×List ByteArray) (k:ByteArray):lst (L++[p]) k=if k∈p.2 then p.1 else lst L k:=by
 simp[lst,List.foldl_append]
structure RisL (L:Lg):Prop where
 ris:Ris (L.map (·.1))
 pos: ∀p∈L,1<=p.1
theorem RisL.init {L:Lg} {p:Int×List ByteArray} (h:RisL (L++[p])):RisL L/\(∀q∈L,q.1<p.1)/\1<=p.1:=by
 have hr:=h.ris
 rw[List.map_append]at hr
 obtain⟨h1,_,h3⟩:=List.pairwise_append.1 hr
 exact⟨⟨h1,fun q hq=>h.pos q (by simp[hq])⟩,fun q hq=>h3 q.1 (List.mem_map.2 ⟨q,hq,rfl⟩) p.1 (by simp),h.pos p (by simp)⟩
theorem RisL.nil:RisL []:=⟨List.Pairwise.nil,by simp⟩
theorem RisL.snoc {L:Lg} {p:Int×List ByteArray} (h:RisL L) (h1: ∀q∈L,q.1<p.1) (h2:1<=p.1):RisL (L++[p]):=by
 refine⟨?_,fun q hq=> ?_⟩
 ·rw[List.map_append]
  exact Ris.snoc h.ris (fun x hx=>by obtain⟨q,hq,rfl⟩:=List.mem_map.1 hx;exact h1 q hq)
 ·rcases List.mem_append.1 hq with h3|h3
  ·exact h.pos q h3
  ·simp at h3;subst h3;exact h2
theorem zvw {P:Lg->Prop} (h0:P []) (h1: ∀L p,P L->P (L++[p])) (L:Lg):P L:=by
 have: ∀n (L:Lg),L.length=n->P L:=by
  intro n
  induction n with
  | zero=>intro L hL;rw[List.eq_nil_of_length_eq_zero hL];exact h0
  | succ n ih =>
   intro L hL
   have hne:L≠[]:=fun e=>by rw[e]at hL;cases hL
   rw[<-List.dropLast_concat_getLast hne]
   exact h1 _ _ (ih _ (by rw[List.length_dropLast,hL];rfl))
 exact this _ L rfl
theorem zcs (L:Lg) (k:ByteArray):RisL L->lst L k≠0->(∃ks,(lst L k,ks)∈L/\k∈ks):=by
 refine zvw (P:=fun L=>RisL L->lst L k≠0->(∃ks,(lst L k,ks)∈L/\k∈ks)) ?_ ?_ L
 ·intro _ h;exact absurd rfl h
 ·intro L p ih hr h
  rw[zgp]at h ⊢
  by_cases hk:k∈p.2
  ·rw[if_pos hk]
   exact⟨p.2,by simp,hk⟩
  ·rw[if_neg hk]at h ⊢
   obtain⟨ks,h1,h2⟩:=ih hr.init.1 h
   exact⟨ks,by simp[h1],h2⟩
theorem zqf (L:Lg) (k:ByteArray):RisL L-> ∀q∈L,k∈q.2->q.1<=lst L k:=by
 refine zvw (P:=fun L=>RisL L-> ∀q∈L,k∈q.2->q.1<=lst L k) (by simp) ?_ L
 intro L p ih hr q hq hk
 rw[zgp]
 obtain⟨h1,h2,h3⟩:=hr.init
 rcases List.mem_append.1 hq with h4|h4
 ·split
  ·have:=h2 q h4;omega
  ·exact ih h1 q h4 hk
 ·simp at h4
  subst h4
  rw[if_pos hk]
  exact Int.le_refl _
theorem zta (L:Lg) (k:ByteArray) (hr:RisL L) (h: ∀q∈L,k∉q.2):lst L k=0:=by
 by_cases h0:lst L k=0
 ·exact h0
 ·obtain⟨ks,h1,h2⟩:=zcs L k hr h0
  exact absurd h2 (h _ h1)
def Dep (L:Lg) (n m:Int):Prop:= ∃A ks C,L=A++(n,ks)::C/\m≠0/\ ∃k∈ks,lst A k=m
theorem zbp (L:Lg) (p:Int×List ByteArray) (a m:Int):Dep (L++[p]) a m↔Dep L a m\/(a=p.1/\m≠0/\ ∃k∈p.2,lst L k=m):=by
 constructor
 ·rintro⟨A,ks,C,e,h1,h2⟩
  rcases List.eq_nil_or_concat C with rfl|⟨C',q,rfl⟩
  ·have:=List.append_inj' e rfl
   obtain⟨rfl,e2⟩:=this
   simp at e2
   subst e2
   exact Or.inr ⟨rfl,h1,h2⟩
  ·have e':L++[p]=(A++(a,ks)::C')++[q]:=by simp[e]
   obtain⟨rfl,_⟩:=List.append_inj' e' rfl
   exact Or.inl ⟨A,ks,C',rfl,h1,h2⟩
 ·rintro (⟨A,ks,C,rfl,h1,h2⟩|⟨rfl,h1,h2⟩)
  ·exact⟨A,ks,C++[p],by simp,h1,h2⟩
  ·exact⟨L,p.2,[],rfl,h1,h2⟩
def Nr (L:Lg) (a b:Int):Prop:= ∃p∈L,∃q∈L,p.1=a/\q.1=b/\ ∃k,k∈p.2/\k∈q.2
theorem RisL.front {A C:Lg} {p:Int×List ByteArray} (h:RisL (A++p::C)):RisL A/\(∀q∈A,q.1<p.1)/\(∀q∈C,p.1<q.1):=by
 have hr:=h.ris
 rw[List.map_append,List.map_cons]at hr
 obtain⟨h1,h2,h3⟩:=List.pairwise_append.1 hr
 refine⟨⟨h1,fun q hq=>h.pos q (by simp[hq])⟩,fun q hq=>h3 q.1 (List.mem_map.2 ⟨q,hq,rfl⟩) p.1 (by simp),fun q hq=> ?_⟩
 exact (List.pairwise_cons.1 h2).1 q.1 (List.mem_map.2 ⟨q,hq,rfl⟩)
theorem Dep.lt {L:Lg} (hr:RisL L) {n m:Int} (h:Dep L n m):1<=m/\m<n/\Nr L m n:=by
 obtain⟨A,ks,C,rfl,h1,k,hk,rfl⟩:=h
 obtain⟨ha,h2,_⟩:=hr.front
 obtain⟨js,h3,h4⟩:=zcs A k ha h1
 exact⟨ha.pos _ h3,h2 _ h3,(lst A k,js),by simp[h3],(n,ks),by simp,rfl,rfl,k,h4,hk⟩
theorem zyo {L:Lg} (hr:RisL L) {i n:Int} (h:Nr L i n) (hlt:i<n): ∃m,i<=m/\Dep L n m/\(i=m\/(i<m/\Nr L i m)):=by
 obtain⟨⟨i',is⟩,hp,⟨n',ks⟩,hq,rfl,rfl,k,h1,h2⟩:=h
 simp only at *
 obtain⟨A,C,rfl⟩:=List.append_of_mem hq
 obtain⟨ha,h3,h4⟩:=hr.front
 have hpA:(i',is)∈A:=by
  rcases List.mem_append.1 hp with h5|h5
  ·exact h5
  ·rcases List.mem_cons.1 h5 with h6|h6
   ·cases h6;omega
   ·have:=h4 _ h6;simp only at this;omega
 have hge:=zqf A k ha _ hpA h1
 have hpos:=ha.pos _ hpA
 simp only at hge hpos
 refine⟨lst A k,hge,⟨A,ks,C,rfl,by omega,k,h2,rfl⟩,?_⟩
 rcases Int.lt_or_eq_of_le hge with h5|h5
 ·obtain⟨js,h6,h7⟩:=zcs A k ha (by omega)
  exact Or.inr ⟨h5,(i',is),by simp[hpA],(lst A k,js),by simp[h6],rfl,rfl,k,h1,h7⟩
 ·exact Or.inl h5
structure Dt where
 last:ByteArray->Int
 newest:Int
 op:Int->Prop
 ah:Int->List Int
 bh:Int->List Int
 wt:Int->Int->Prop
def Dt.none:Dt:=⟨fun _=>0,0,fun _=>False,fun _=>[],fun _=>[],fun _ _=>False⟩
structure Inv (D:Dt) (L:Lg) (en:Int->Prop):Prop where
 ris:RisL L
 last: ∀k,D.last k=lst L k
 new:(∀p∈L,p.1<=D.newest)/\0<=D.newest
 tip:D.newest=0\/ ∃p∈L,p.1=D.newest
 op: ∀n,D.op n↔(∃p∈L,p.1=n)/\ ¬en n
 ah: ∀n,D.op n->Ris (D.ah n)/\(∀m∈D.ah n,Dep L n m)/\ ∀m,Dep L n m->D.op m->m∈D.ah n
 bh: ∀m,D.op m->Ris (D.bh m)/\ ∀n,n∈D.bh m↔D.op n/\Dep L n m
 wt: ∀n m,D.wt n m↔D.op n/\D.op m/\Dep L n m
 ended: ∀n,en n-> ∃p∈L,p.1=n
 order: ∀n,en n-> ∀i,i<n->Nr L i n->en i
theorem Inv.none:Inv Dt.none [] (fun _=>False) :=
 ⟨RisL.nil,fun k=>rfl,⟨by simp,Int.le_refl _⟩,Or.inl rfl,fun n=>by simp[Dt.none],fun n h=>h.elim,fun n h=>h.elim,fun n m=>by simp[Dt.none],fun n h=>h.elim,fun n h=>h.elim⟩
def WtT (L:Lg) (op:Int->Prop) (n:Int) (xs:List Int):Prop:=Ris xs/\ ∀m,m∈xs↔op m/\Dep L n m
theorem Inv.free {D:Dt} {L:Lg} {en:Int->Prop} (h:Inv D L en) {n:Int} (hn:D.op n) (hf: ∀m,D.op m-> ¬Dep L n m) {i:Int} (hi:i<n) (hr:Nr L i n):en i:=by
 obtain⟨m,h1,h2,h3⟩:=zyo h.ris hr hi
 have hme:en m:=Classical.byContradiction fun hm=>hf m ((h.op m).2 ⟨by obtain⟨_,_,p,hp,_,_,e,_⟩:=h2.lt h.ris;exact⟨p,hp,e⟩,hm⟩) h2
 rcases h3 with rfl|⟨h3,h4⟩
 ·exact hme
 ·exact h.order m hme i h3 h4
def AhT (D:Dt) (ks:List ByteArray) (xs:List Int):Prop:=Ris xs/\ ∀m,m∈xs↔D.op m/\ ∃k∈ks,D.last k=m
open Classical in
noncomputable def Dt.add (D:Dt) (n:Int) (ks:List ByteArray) (xs:List Int):Dt where
 last:=fun k=>if k∈ks then n else D.last k
 newest:=n
 op:=fun m=>D.op m\/m=n
 ah:=fun m=>if m=n then xs else D.ah m
 bh:=fun m=>if m=n then [] else if m∈xs then D.bh m++[n] else D.bh m
 wt:=fun a m=>D.wt a m\/(a=n/\m∈xs)
open Classical in
theorem Inv.add {D:Dt} {L:Lg} {en:Int->Prop} (h:Inv D L en) {n:Int} {ks:List ByteArray} {xs:List Int} (hn:D.newest<n) (hx:AhT D ks xs):Inv (D.add n ks xs) (L++[(n,ks)]) en:=by
 have hlt: ∀q∈L,q.1<n:=fun q hq=>by have:=h.new.1 q hq;omega
 have hr:RisL (L++[(n,ks)]):=h.ris.snoc hlt (by have:=h.new.2;show 1<=n;omega)
 have hnop: ¬D.op n:=fun ho=>by
  obtain⟨⟨p,hp,e⟩,_⟩:=(h.op n).1 ho
  have:=hlt p hp
  omega
 have hnen: ¬en n:=fun he=>by
  obtain⟨p,hp,e⟩:=h.ended n he
  have:=hlt p hp
  omega
 have hopne: ∀m,D.op m->m≠n:=fun m hm e=>hnop (e▸hm)
 have hopn: ∀m,D.op m->m<n:=fun m hm=>by
  obtain⟨⟨p,hp,e⟩,_⟩:=(h.op m).1 hm
  have:=hlt p hp
  omega
 have hdepL: ∀a m,Dep L a m->a≠n:=fun a m hd e=>by
  obtain⟨A,js,C,e2,_⟩:=hd
  have:=hlt (a,js) (by rw[e2];simp)
  simp only at this
  omega
 have hop: ∀m,D.op m->1<=m:=fun m hm=>by
  obtain⟨⟨p,hp,e⟩,_⟩:=(h.op m).1 hm
  have:=h.ris.pos p hp
  omega
 have hxs: ∀m,m∈xs↔D.op m/\m≠0/\ ∃k∈ks,lst L k=m:=fun m=>by
  rw[hx.2 m]
  constructor
  ·rintro⟨h1,k,h2,h3⟩
   exact⟨h1,by have:=hop m h1;omega,k,h2,by rw[<-h.last];exact h3⟩
  ·rintro⟨h1,_,k,h2,h3⟩
   exact⟨h1,k,h2,by rw[h.last];exact h3⟩
 refine⟨hr,fun k=> ?_,⟨fun p hp=> ?_,by have:=h.new.2;show 0<=n;omega⟩,Or.inr ⟨(n,ks),by simp,rfl⟩,fun m=> ?_,fun m hm=> ?_,fun m hm=> ?_,fun a m=> ?_,fun m hm=> ?_,fun m hm i hi hN=> ?_⟩
 ·rw[zgp]
  show (if k∈ks then n else D.last k)=_
  rw[h.last]
 ·rcases List.mem_append.1 hp with h1|h1
  ·have:=hlt p h1;show p.1<=n;omega
  ·simp at h1;subst h1;exact Int.le_refl _
 ·show D.op m\/m=n↔_
  rw[h.op m]
  constructor
  ·rintro (⟨⟨p,hp,e⟩,h2⟩|rfl)
   ·exact⟨⟨p,by simp[hp],e⟩,h2⟩
   ·exact⟨⟨(m,ks),by simp,rfl⟩,hnen⟩
  ·rintro⟨⟨p,hp,e⟩,h2⟩
   rcases List.mem_append.1 hp with h1|h1
   ·exact Or.inl ⟨⟨p,h1,e⟩,h2⟩
   ·simp at h1;subst h1;exact Or.inr e.symm
 ·show Ris (if m=n then xs else D.ah m)/\(∀y∈(if m=n then xs else D.ah m),_)/\ ∀y,_->(D.op y\/y=n)->y∈(if m=n then xs else D.ah m)
  by_cases e:m=n
  ·subst e
   rw[if_pos rfl]
   refine⟨hx.1,fun y hy=>(zbp _ _ _ _).2 (Or.inr ⟨rfl,((hxs y).1 hy).2⟩),fun y hy ho=> ?_⟩
   rcases (zbp _ _ _ _).1 hy with h1|⟨_,h1⟩
   ·exact absurd rfl (hdepL _ _ h1)
   ·rcases ho with ho|rfl
    ·exact (hxs y).2 ⟨ho,h1⟩
    ·have:=(hy.lt hr).2.1;omega
  ·rw[if_neg e]
   have hm':D.op m:=by
    rcases hm with h1|h1
    ·exact h1
    ·exact absurd h1 e
   obtain⟨h1,h2,h3⟩:=h.ah m hm'
   refine⟨h1,fun y hy=>(zbp _ _ _ _).2 (Or.inl (h2 y hy)),fun y hy ho=> ?_⟩
   rcases (zbp _ _ _ _).1 hy with h4|⟨h4,_⟩
   ·rcases ho with ho|rfl
    ·exact h3 y h4 ho
    ·have h5:=(hy.lt hr).2.1
     have:=hopn m hm'
     omega
   ·exact absurd h4 e
 ·show Ris (if m=n then [] else if m∈xs then D.bh m++[n] else D.bh m)/\ ∀y,y∈(if m=n then [] else if m∈xs then D.bh m++[n] else D.bh m)↔(D.op y\/y=n)/\_
  by_cases e:m=n
  ·subst e
   rw[if_pos rfl]
   refine⟨List.Pairwise.nil,fun y=>⟨fun hy=>(by simp at hy),fun⟨h1,h2⟩=> ?_⟩⟩
   have h3:=(h2.lt hr).2.1
   rcases h1 with h1|h1
   ·have:=hopn y h1;omega
   ·omega
  ·rw[if_neg e]
   have hm':D.op m:=by
    rcases hm with h1|h1
    ·exact h1
    ·exact absurd h1 e
   obtain⟨h1,h2⟩:=h.bh m hm'
   have hD: ∀y,Dep (L++[(n,ks)]) y m↔Dep L y m\/(y=n/\m∈xs):=fun y=>by
    rw[zbp,hxs m]
    constructor
    ·rintro (h4|⟨h4,h5⟩)
     ·exact Or.inl h4
     ·exact Or.inr ⟨h4,hm',h5⟩
    ·rintro (h4|⟨h4,_,h5⟩)
     ·exact Or.inl h4
     ·exact Or.inr ⟨h4,h5⟩
   by_cases hin:m∈xs
   ·rw[if_pos hin]
    refine⟨h1.snoc (fun y hy=>hopn y ((h2 y).1 hy).1),fun y=> ?_⟩
    rw[List.mem_append,h2 y,hD y]
    simp only[List.mem_singleton]
    constructor
    ·rintro (⟨h4,h5⟩|h4)
     ·exact⟨Or.inl h4,Or.inl h5⟩
     ·exact⟨Or.inr h4,Or.inr ⟨h4,hin⟩⟩
    ·rintro⟨h4,h5⟩
     rcases h4 with h4|h4
     ·rcases h5 with h5|⟨h5,_⟩
      ·exact Or.inl ⟨h4,h5⟩
      ·exact Or.inr h5
     ·exact Or.inr h4
   ·rw[if_neg hin]
    refine⟨h1,fun y=> ?_⟩
    rw[h2 y,hD y]
    constructor
    ·rintro⟨h4,h5⟩;exact⟨Or.inl h4,Or.inl h5⟩
    ·rintro⟨h4,h5⟩
     rcases h5 with h5|⟨_,h5⟩
     ·refine⟨?_,h5⟩
      rcases h4 with h4|h4
      ·exact h4
      ·exact absurd h4 (hdepL _ _ h5)
     ·exact absurd h5 hin
 ·show (D.wt a m\/(a=n/\m∈xs))↔(D.op a\/a=n)/\(D.op m\/m=n)/\_
  rw[h.wt a m,zbp]
  constructor
  ·rintro (⟨h1,h2,h3⟩|⟨h1,h2⟩)
   ·exact⟨Or.inl h1,Or.inl h2,Or.inl h3⟩
   ·have:=(hxs m).1 h2
    exact⟨Or.inr h1,Or.inl this.1,Or.inr ⟨h1,this.2⟩⟩
  ·rintro⟨h1,h2,h3⟩
   have hmn:m≠n:=fun e=>by
    have hd:Dep (L++[(n,ks)]) a m:=(zbp _ _ _ _).2 h3
    have h4:=(hd.lt hr).2.1
    rcases h1 with h1|h1
    ·have:=hopn a h1;omega
    ·omega
   have h2':D.op m:=by
    rcases h2 with h2|h2
    ·exact h2
    ·exact absurd h2 hmn
   rcases h3 with h3|⟨h3,h4⟩
   ·rcases h1 with h1|h1
    ·exact Or.inl ⟨h1,h2',h3⟩
    ·exact absurd h1 (hdepL _ _ h3)
   ·exact Or.inr ⟨h3,(hxs m).2 ⟨h2',h4⟩⟩
 ·obtain⟨p,hp,e⟩:=h.ended m hm
  exact⟨p,by simp[hp],e⟩
 ·obtain⟨p,hp,e⟩:=h.ended m hm
  have hmn:=hlt p hp
  refine h.order m hm i hi ?_
  obtain⟨x,hx',y,hy,e1,e2,hk⟩:=hN
  have f: ∀z:Int×List ByteArray,z∈L++[(n,ks)]->z.1<n->z∈L:=fun z hz hl=>by
   rcases List.mem_append.1 hz with h1|h1
   ·exact h1
   ·simp at h1;subst h1;simp at hl
  exact⟨x,f x hx' (by omega),y,f y hy (by omega),e1,e2,hk⟩
def Dt.done (D:Dt) (n:Int):Dt where
 last:=D.last
 newest:=D.newest
 op:=fun m=>D.op m/\m≠n
 ah:=D.ah
 bh:=D.bh
 wt:=fun a m=>D.wt a m/\m≠n
theorem Inv.done {D:Dt} {L:Lg} {en:Int->Prop} (h:Inv D L en) {n:Int} (hn:D.op n) (hf: ∀m,D.op m-> ¬Dep L n m):Inv (D.done n) L (fun m=>en m\/m=n):=by
 have hL:=((h.op n).1 hn).1
 refine⟨h.ris,h.last,h.new,h.tip,fun m=> ?_,fun m hm=> ?_,fun m hm=> ?_,fun a m=> ?_,fun m hm=> ?_,fun m hm i hi hN=> ?_⟩
 ·show D.op m/\m≠n↔_
  rw[h.op m,not_or,and_assoc]
 ·obtain⟨h1,h2,h3⟩:=h.ah m hm.1
  exact⟨h1,h2,fun y hy ho=>h3 y hy ho.1⟩
 ·obtain⟨h1,h2⟩:=h.bh m hm.1
  refine⟨h1,fun y=> ?_⟩
  rw[show (D.done n).bh m=D.bh m from rfl,h2 y]
  constructor
  ·rintro⟨h3,h4⟩
   exact⟨⟨h3,fun e=>hf m hm.1 (e▸h4)⟩,h4⟩
  ·rintro⟨h3,h4⟩;exact⟨h3.1,h4⟩
 ·show D.wt a m/\m≠n↔(D.op a/\a≠n)/\(D.op m/\m≠n)/\_
  rw[h.wt a m]
  constructor
  ·rintro⟨⟨h1,h2,h3⟩,h4⟩
   exact⟨⟨h1,fun e=>hf m h2 (e▸h3)⟩,⟨h2,h4⟩,h3⟩
  ·rintro⟨h1,h2,h3⟩
   exact⟨⟨h1.1,h2.1,h3⟩,h2.2⟩
 ·rcases hm with hm|rfl
  ·exact h.ended m hm
  ·exact hL
 ·rcases hm with hm|rfl
  ·exact Or.inl (h.order m hm i hi hN)
  ·exact Or.inl (h.free hn hf hi hN)
def DoT (L:Lg) (op:Int->Prop) (n:Int) (xs:List Int):Prop:=Ris xs/\ ∀o,o∈xs↔op o/\Dep L o n/\ ∀m,op m->m≠n-> ¬Dep L o m
structure Wt where
 key:ByteArray
 val:ByteArray
 drop:Bool
def noS:ByteArray:=⟨#[]⟩
theorem zmo (s:ByteArray):s.size=0↔s=noS:=by
 constructor
 ·intro h
  cases s with
  | mk d =>
   have hd:d.size=0:=h
   have:d= #[]:=Array.eq_empty_of_size_eq_zero hd
   rw[this]
   rfl
 ·rintro rfl
  rfl
def okW (x:Wt):Prop:=1<=x.key.size/\x.key.size<=64/\x.val.size<=1024/\(x.drop=true->x.val=noS)
def okT (n:Int) (ws:List Wt):Prop:=1<=n/\n<=65536/\ws.length<=32/\ ∀x∈ws,okW x
def Wt.zero:Wt:=⟨noS,noS,false⟩
def wtC (x:Wt):List Value:=[.string x.key,.string x.val,.bool x.drop]
def wtsC:List Wt->List Value
 | []=>[]
 | x::r=>wtC x++wtsC r
theorem zcv (a b:List Wt):wtsC (a++b)=wtsC a++wtsC b:=by
 induction a with
 | nil=>rfl
 | cons v r ih=>simp[wtsC,ih]
theorem zdw (a:List Wt):(wtsC a).length=a.length*3:=by
 induction a with
 | nil=>rfl
 | cons v r ih=>simp only[wtsC,wtC,List.length_append,List.length_cons,List.length_nil,ih];omega
theorem zdg (a:List Wt) (j c:Nat) (hj:j<a.length) (hc:c<3):(wtsC a)[j*3+c]? = (wtC (a.getD j Wt.zero))[c]? :=by
 induction a generalizing j with
 | nil=>simp at hj
 | cons v r ih =>
  cases j with
  | zero =>
   simp only[wtsC,Nat.zero_mul,Nat.zero_add]
   rw[List.getElem?_append_left (by simp[wtC];omega)]
   simp
  | succ j =>
   simp only[wtsC]
   rw[List.getElem?_append_right (by simp[wtC];omega)]
   have e:(j+1)*3+c-(wtC v).length=j*3+c:=by simp[wtC];omega
   rw[e,ih j (by simpa using hj)]
   simp
theorem zfg (a:List Wt): ∀u∈wtsC a,u.oneCell'=true:=by
 induction a with
 | nil=>intro u hu;simp[wtsC]at hu
 | cons v r ih =>
  intro u hu
  rcases List.mem_append.1 hu with h|h
  ·simp only[wtC,List.mem_cons,List.not_mem_nil,or_false]at h
   rcases h with rfl|rfl|rfl<;>rfl
  ·exact ih u h
structure WAt (w:World) (b o:Nat) (x:Wt):Prop where
 c0:w.cell? ⟨b,o,none⟩=some (.string x.key)
 c1:w.cell? ⟨b,o+1,none⟩=some (.string x.val)
 c2:w.cell? ⟨b,o+2,none⟩=some (.bool x.drop)
structure WRs (w:World) (ao:Option Addr) (ws:List Wt):Prop where
 lies:0<ws.length-> ∃b off,ao=some ⟨b,off,none⟩/\b<w.heap.size/\ ∀i,i<ws.length->WAt w b (off+i*3) (ws.getD i Wt.zero)
 few:ws.length<=140737488355328
 each: ∀x∈ws,x.key.size<=140737488355328/\x.val.size<=140737488355328
theorem WRs.nil (w:World) (ao:Option Addr):WRs w ao []:=⟨fun h=>by simp at h,by simp,by simp⟩
theorem WRs.keepS {S:List Nat} {w w':World} {ao:Option Addr} {ws:List Wt} (h:WRs w ao ws) (hf:Fr S w w') (hn:0<ws.length-> ∀a,ao=some a->a.block∉S):WRs w' ao ws:=by
 refine⟨fun h0=> ?_,h.few,h.each⟩
 obtain⟨b,off,e,hb,hc⟩:=h.lies h0
 have hk: ∀o,w'.cell? ⟨b,o,none⟩=w.cell? ⟨b,o,none⟩:=fun o=>World.cell?_of_block (hf.block b hb (hn h0 _ e))
 exact⟨b,off,e,Nat.lt_of_lt_of_le hb hf.size,fun i hi=>⟨(hk _).trans (hc i hi).c0,(hk _).trans (hc i hi).c1,(hk _).trans (hc i hi).c2⟩⟩
theorem WRs.keep {w w':World} {ao:Option Addr} {ws:List Wt} (h:WRs w ao ws) (hf:Fr [] w w'):WRs w' ao ws:=h.keepS hf (by simp)
theorem WRs.of_row {w:World} {b:Nat} {ws:List Wt} {rest:List Value} {t:TypeId} {f:Nat×Nat} (h:w.heap[b]? = some (.cells (wtsC ws++rest).toArray t f)) (hl:ws.length<=140737488355328) (he: ∀x∈ws,x.key.size<=140737488355328/\x.val.size<=140737488355328):WRs w (some ⟨b,0,none⟩) ws:=by
 refine⟨fun _=>⟨b,0,rfl,lt_of_block h,fun i hi=> ?_⟩,hl,he⟩
 have key: ∀c,c<3->w.cell? ⟨b,0+i*3+c,none⟩=(wtC (ws.getD i Wt.zero))[c]? :=by
  intro c hc
  rw[cell_of_row _ _ _ _ _ _ h,Nat.zero_add,<-zdg ws i c hi hc]
  have hlt:i*3+c<(wtsC ws).length:=by rw[zdw];omega
  simp[List.getElem?_append_left hlt]
 exact⟨key 0 (by omega),key 1 (by omega),key 2 (by omega)⟩
theorem zbw (ws:List Wt) (i:Nat) (h:i<ws.length):ws.getD i Wt.zero∈ws:=by simp[List.getD,h]
theorem zhb (ws:List Wt) (i:Nat) (h:i<ws.length):ws.take (i+1)=ws.take i++[ws.getD i Wt.zero]:=by
 rw[List.take_add_one]
 simp[List.getD,h]
theorem zjm (s:ByteArray):s.toList=[]↔s.size=0:=by
 rw[ByteArray.toList_eq]
 constructor
 ·intro h
  have h2:=congrArg List.length h
  simpa[Array.length_toList]using h2
 ·intro h
  have h2:s.data.toList.length=0:=by rw[Array.length_toList];exact h
  exact List.eq_nil_of_length_eq_zero h2
theorem zhc (a b:ByteArray):a.toList=b.toList↔a=b:=by
 rw[ByteArray.toList_eq,ByteArray.toList_eq]
 constructor
 ·intro h
  exact bytes_inj h
 ·rintro rfl
  rfl
theorem zwn (key val:ByteArray) (drop:Bool):okW ⟨key,val,drop⟩↔(¬key.toList=[])/\(key.size:Int)<=64/\(val.size:Int)<=1024/\(drop=true->val.toList=[]):=by
 unfold okW
 rw[zjm,zjm,<-zmo]
 simp only
 constructor
 ·rintro⟨h1,h2,h3,h4⟩
  exact⟨by omega,by omega,by omega,h4⟩
 ·rintro⟨h1,h2,h3,h4⟩
  exact⟨by omega,by omega,by omega,h4⟩
def insI (n:Int):List Int->List Int
 | []=>[n]
 | x::r=>if n<x then n::x::r else x::insI n r
theorem zcc (n y:Int): ∀xs,y∈insI n xs↔y=n\/y∈xs
 | []=>by simp[insI]
 | x::r=>by
  unfold insI
  split
  ·simp
  ·simp only[List.mem_cons,zcc n y r]
   constructor
   ·rintro (h|h|h)
    ·exact Or.inr (Or.inl h)
    ·exact Or.inl h
    ·exact Or.inr (Or.inr h)
   ·rintro (h|h|h)
    ·exact Or.inr (Or.inl h)
    ·exact Or.inl h
    ·exact Or.inr (Or.inr h)
theorem zej (n:Int): ∀xs,Ris xs->n∉xs->Ris (insI n xs)
 | [],_,_=>List.pairwise_singleton _ _
 | x::r,h,hn=>by
  have h':=List.pairwise_cons.1 h
  unfold insI
  split
  ·rename_i hlt
   refine List.pairwise_cons.2 ⟨fun y hy=> ?_,h⟩
   rcases List.mem_cons.1 hy with e|e
   ·omega
   ·have:=h'.1 y e;omega
  ·rename_i hlt
   have hne:n≠x:=fun e=>hn (by simp[e])
   refine List.pairwise_cons.2 ⟨fun y hy=> ?_,zej n r h'.2 (fun e=>hn (by simp[e]))⟩
   rcases (zcc n y r).1 hy with e|e
   ·omega
   ·exact h'.1 y e
def adv (m:Int):List Int->Int×List Int
 | []=>(m,[])
 | x::r=>if x=m+1 then adv (m+1) r else (m,x::r)
structure Gt (m:Int) (xs:List Int):Prop where
 low:0<=m
 top:m<=65536
 ris:Ris xs
 bey: ∀x∈xs,m<x/\x<=65536
theorem Gt.few {m:Int} {xs:List Int} (h:Gt m xs):xs.length<=65536:=Ris.few (n:=65536) (a:=1) h.ris (fun x hx=>by have:=h.bey x hx;have:=h.low;omega)
theorem Gt.tail {m x:Int} {r:List Int} (h:Gt m (x::r)) (e:x=m+1):Gt (m+1) r:=by
 have h':=List.pairwise_cons.1 h.ris
 refine⟨by have:=h.low;omega,by have:=h.bey x (by simp);omega,h'.2,fun y hy=> ?_⟩
 have:=h'.1 y hy
 have:=h.bey y (by simp[hy])
 omega
theorem Gt.head {m x:Int} {r:List Int} (h:Gt m (x::r)):m+1∈x::r↔x=m+1:=by
 constructor
 ·intro hm
  rcases List.mem_cons.1 hm with e|e
  ·omega
  ·have:=(List.pairwise_cons.1 h.ris).1 _ e
   have:=h.bey x (by simp)
   omega
 ·intro e;simp[e]
theorem zfi: ∀(xs:List Int) (m:Int),Gt m xs->Gt (adv m xs).1 (adv m xs).2/\(adv m xs).1+1∉(adv m xs).2/\m<=(adv m xs).1/\ ∀y,(y<=(adv m xs).1\/y∈(adv m xs).2)↔(y<=m\/y∈xs)
 | [],m,h=>⟨h,by simp[adv],Int.le_refl _,fun y=>Iff.rfl⟩
 | x::r,m,h=>by
  unfold adv
  split
  ·rename_i e
   obtain⟨h1,h2,h3,h4⟩:=zfi r (m+1) (h.tail e)
   refine⟨h1,h2,by omega,fun y=>(h4 y).trans ?_⟩
   simp only[List.mem_cons]
   constructor
   ·rintro (h|h)
    ·by_cases hy:y=x
     ·exact Or.inr (Or.inl hy)
     ·exact Or.inl (by omega)
    ·exact Or.inr (Or.inr h)
   ·rintro (h|h|h)
    ·exact Or.inl (by omega)
    ·exact Or.inl (by omega)
    ·exact Or.inr h
  ·rename_i e
   exact⟨h,fun hm=>e (h.head.1 hm),Int.le_refl _,fun y=>Iff.rfl⟩
theorem zjp {m x:Int} {r:List Int} (e:x=m+1):adv m (x::r)=adv (m+1) r:=by simp[adv,e]
theorem zjq {m:Int} {xs:List Int} (h:Gt m xs) (hn:m+1∉xs):adv m xs=(m,xs):=by
 cases xs with
 | nil=>rfl
 | cons x r=>unfold adv;rw[if_neg (fun e=>hn (h.head.2 e))]
def wdOf (n:Int):Nat:=(n.toNat-1)/64
def btOf (n:Int):Nat:=(n.toNat-1)%64
def pw2 (k:Nat):Nat:=2 ^ k
def zhe (ws:List Nat) (n:Int):Bool:=(ws.getD (wdOf n) 0).testBit (btOf n)
theorem zvx {n y:Int} (hn:1<=n) (hy:1<=y):(wdOf n=wdOf y/\btOf n=btOf y)↔n=y:=by
 unfold wdOf btOf
 constructor
 ·rintro⟨h1,h2⟩
  have:=Nat.div_add_mod (n.toNat-1) 64
  have:=Nat.div_add_mod (y.toNat-1) 64
  omega
 ·rintro rfl;exact⟨rfl,rfl⟩
theorem zdc (n:Int):btOf n<64:=Nat.mod_lt _ (by decide)
theorem zdd {n:Int} (h1:1<=n) (h2:n<=65536):wdOf n<1024:=by unfold wdOf;omega
theorem zeb {k:Nat} (h:k<64):pw2 k<2 ^ 64:=Nat.pow_lt_pow_right (by decide) h
structure Wds (ws:List Nat) (xs:List Int):Prop where
 len:ws.length=1024
 low: ∀x∈ws,x<2 ^ 64
 bits: ∀n,1<=n->n<=65536->(zhe ws n=true↔n∈xs)
theorem Wds.at {ws:List Nat} {xs:List Int} (h:Wds ws xs) (i:Nat):ws.getD i 0<2 ^ 64:=by
 by_cases hi:i<ws.length
 ·simp[List.getD,hi];exact h.low _ (List.getElem_mem _)
 ·simp[List.getD,hi]
theorem Wds.zero:Wds (List.replicate 1024 0) []:=by
 refine⟨List.length_replicate,fun x hx=> ?_,fun n h1 h2=> ?_⟩
 ·rw[(List.mem_replicate.1 hx).2]
  exact Nat.two_pow_pos _
 ·have:=zdd h1 h2
  have e:(List.replicate 1024 0).getD (wdOf n) 0=0:=by
   rw[List.getD,List.getElem?_replicate,if_pos this]
   rfl
  unfold zhe
  rw[e]
  simp
theorem zjr {ws:List Nat} {i j x:Nat} (hi:i<ws.length):(ws.set i x).getD j 0=if i=j then x else ws.getD j 0:=by
 by_cases h:i=j
 ·subst h;simp[List.getD,hi]
 ·simp[List.getD,h,List.getElem?_set]
theorem Wds.put {ws:List Nat} {xs ys:List Int} {n:Int} (h:Wds ws xs) (h1:1<=n) (h2:n<=65536) (hy: ∀y,y∈ys↔y=n\/y∈xs):Wds (ws.set (wdOf n) (ws.getD (wdOf n) 0 ||| pw2 (btOf n))) ys:=by
 have hw:=zdd h1 h2
 refine⟨by simp[h.len],fun x hx=> ?_,fun y hy1 hy2=> ?_⟩
 ·rcases List.mem_or_eq_of_mem_set hx with e|e
  ·exact h.low x e
  ·subst e
   exact Nat.or_lt_two_pow (h.at _) (zeb (zdc n))
 ·rw[hy,<-h.bits y hy1 hy2,<-zvx hy1 h1]
  unfold zhe
  rw[zjr (by rw[h.len];exact hw)]
  by_cases e:wdOf n=wdOf y
  ·rw[if_pos e,Nat.testBit_or,pw2,Nat.testBit_two_pow,e]
   simp only[Bool.or_eq_true,decide_eq_true_eq,true_and]
   constructor
   ·rintro (h3|h3)
    ·exact Or.inr h3
    ·exact Or.inl h3.symm
   ·rintro (h3|h3)
    ·exact Or.inr h3.symm
    ·exact Or.inl h3
  ·rw[if_neg e]
   constructor
   ·exact Or.inr
   ·rintro (⟨h3,_⟩|h3)
    ·exact absurd h3.symm e
    ·exact h3
theorem Wds.cut {ws:List Nat} {xs ys:List Int} {n:Int} (h:Wds ws xs) (h1:1<=n) (h2:n<=65536) (hy: ∀y,y∈ys↔y≠n/\y∈xs) {v:Nat} (hv: ∀b,v.testBit b=((ws.getD (wdOf n) 0).testBit b && !decide (btOf n=b))):Wds (ws.set (wdOf n) v) ys:=by
 have hw:=zdd h1 h2
 refine⟨by simp[h.len],fun x hx=> ?_,fun y hy1 hy2=> ?_⟩
 ·rcases List.mem_or_eq_of_mem_set hx with e|e
  ·exact h.low x e
  ·subst e
   refine Nat.lt_pow_two_of_testBit _ (fun b hb=> ?_)
   rw[hv,Nat.testBit_lt_two_pow (Nat.lt_of_lt_of_le (h.at _) (Nat.pow_le_pow_right (by decide) hb))]
   rfl
 ·rw[hy,<-h.bits y hy1 hy2,show (y≠n)↔_ from not_congr (zvx hy1 h1).symm]
  unfold zhe
  rw[zjr (by rw[h.len];exact hw)]
  by_cases e:wdOf n=wdOf y
  ·rw[if_pos e,hv,e]
   simp only[Bool.and_eq_true,Bool.not_eq_true',decide_eq_false_iff_not,true_and]
   constructor
   ·rintro⟨h3,h4⟩;exact⟨fun x=>h4 x.symm,h3⟩
   ·rintro⟨h3,h4⟩;exact⟨h4,fun x=>h3 x.symm⟩
  ·rw[if_neg e]
   constructor
   ·intro h3;exact⟨fun x=>e x.1.symm,h3⟩
   ·rintro⟨_,h3⟩;exact h3
end Go.Proofs.YtaaghcimfcjehaaGreatDoor
