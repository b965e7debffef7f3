/- Contracts and lemmas. -/
import Derived.Test.YtojjdnjfaelnfaaGreatDoorGp1
import Derived.Test.YtojjdnjfaelnfaaGreatDoorGp4
import Derived.WalkSpells
import Derived.Deep.Slices
set_option maxHeartbeats 4000000
set_option maxRecDepth 100000
namespace Go.Proofs.YtojjdnjfaelnfaaGreatDoor
set_option linter.unusedSimpArgs false
set_option linter.unusedVariables false
section
open Go.ChangeShapes Go.WideShapes Go.ChangeAt Go.RowKit Go.Lib Go.Maps Go.Proofs.Tryz
structure Kn(P:Program)(κ α:Type) where
 k:TypeId
 t:TypeId
 e:TypeId
 kv:κ->Value
 kl:κ->Lit
 ok:κ->Prop
 ev:α->Value
 ed:α->DataW Unit
 R:Value->Option (DataW Unit×List MemPlace)
 z0:α
 und:P.underlying t=some (.map k e)
 keyed:Keyed P k
 key:∀x,ok x->keyOf P k (kv x)=some (kl x)
 kvinj:∀x y,kv x=kv y->x=y
 em:∀a,R (ev a)=some (ed a,[])
 inv:∀v y,R v=some y->∃a,v=ev a/\y=(ed a,[])
 edinj:∀a b,ed a=ed b->a=b
 zero:∀w,(zeroValue e).run P w=.ok (ev z0) w
section
variable{P:Program}{κ α:Type}(K:Kn P κ α)
theorem Kn.klinj{x y:κ}(hx:K.ok x)(hy:K.ok y)(h:K.kl x=K.kl y):x=y:=K.kvinj x y (K.keyed.inj (K.key x hx) (by rw[h];exact K.key y hy))
def MapG(w:World)(b n:Nat)(F:κ->Option α):Prop:=
 ∃D:DataW Unit,w.ownsMap P K.k K.R b n D/\∀x,K.ok x->(has D (K.kl x)=(F x).isSome/\∀a,F x=some a->∀z,D.atKey (K.kl x) z=K.ed a)
variable {K} {w:World} {b n:Nat} {F:κ->Option α}
theorem MapG.lt(h:MapG K w b n F):b<w.heap.size:=by
 obtain⟨D,hD,_⟩:=h;exact hD.lt
theorem MapG.block(h:MapG K w b n F):∃es c,w.heap[b]? = some (.map es c):=by
 obtain⟨D,⟨es,clock,hb,hr⟩,h2⟩:=h;exact⟨es,clock,hb⟩
theorem MapG.keep{S:List Nat}{w':World}(h:MapG K w b n F)(hf:Fr S w w')(hn:b∉S):MapG K w' b n F:=by
 have hlt:=h.lt;obtain⟨D,⟨es,clock,hb,hr⟩,h2⟩:=h;exact⟨D,⟨es,clock,(hf.block b hlt hn).trans hb,hr⟩,h2⟩
theorem MapG.mono{m:Nat}(h:MapG K w b n F)(hn:n<=m):MapG K w b m F:=by
 obtain⟨D,hD,h2⟩:=h;exact⟨D,hD.mono hn,h2⟩
theorem MapG.made(w:World):MapG K (w.alloc (.map #[] 0)) w.heap.size 0 (fun _=>none):=
 ⟨.map [],World.ownsMap_made w _ _ _,fun s _=>⟨rfl,fun a h=>by cases h⟩⟩
theorem MapG.look(h:MapG K w b n F)(x:κ)(hx:K.ok x):(Instr.lookup K.t (.map (some b)) (K.kv x) false).run P w=.ok (K.ev ((F x).getD K.z0)) w:=by
 obtain⟨D,hD,hA⟩:=h;obtain⟨v,ps,hrun,hv⟩:=hD.lookup K.keyed K.und (K.zero _) (K.em K.z0) (K.key x hx);rw[hrun];obtain⟨a,rfl,e⟩:=K.inv _ _ hv;simp only[Prod.mk.injEq]at e;obtain⟨h1,h2⟩:=hA x hx;cases hF:F x with
 |some y=>
  rw[h2 y hF]at e
  rw[K.edinj _ _ e.1];rfl
 |none=>
  rw[hF]at h1
  rw[atKey_of_not_has h1]at e
  rw[K.edinj _ _ e.1];rfl
theorem MapG.lookOk(h:MapG K w b n F)(x:κ)(hx:K.ok x):(Instr.lookup K.t (.map (some b)) (K.kv x) true).run P w=.ok (.tuple #[K.ev ((F x).getD K.z0),.bool (F x).isSome]) w:=by
 obtain⟨D,hD,hA⟩:=h;obtain⟨v,ps,hrun,hv⟩:=hD.look_ok K.keyed K.und (K.zero _) (K.em K.z0) (K.key x hx);rw[hrun];obtain⟨a,rfl,e⟩:=K.inv _ _ hv;simp only[Prod.mk.injEq]at e;obtain⟨h1,h2⟩:=hA x hx;rw[h1];cases hF:F x with
 |some y=>
  rw[h2 y hF]at e
  rw[K.edinj _ _ e.1];rfl
 |none=>
  rw[hF]at h1
  rw[atKey_of_not_has h1]at e
  rw[K.edinj _ _ e.1];rfl
open Classical in
noncomputable def updF (F:κ->Option α) (x:κ) (a:Option α):κ->Option α:=fun y=>if y=x then a else F y
theorem zae(F:κ->Option α)(x:κ)(a:Option α):updF F x a x=a:=by simp[updF]
theorem zab(F:κ->Option α){x y:κ}(a:Option α)(h:y≠x):updF F x a y=F y:=by simp[updF,h]
theorem MapG.store(h:MapG K w b n F)(x:κ)(a:α)(hx:K.ok x)(hn:n<maxLen) :
  ∃w',(Instr.mapUpdate K.t (.map (some b)) (K.kv x) (K.ev a)).run P w=.ok () w'/\MapG K w' b (n+1) (updF F x (some a))/\Fr [b] w w':=by
 obtain⟨D,hD,hA⟩:=h;have hI:=hD.isMap;obtain⟨w',hrun,hO,hg⟩:=hD.update K.keyed K.und hn (K.key x hx) (K.em a);refine⟨w',hrun,⟨_,hO,fun y hy=> ?_⟩,Fr.grown hg (by intro k hk _;cases hk;simp)⟩;by_cases he:y=x
 .subst he;rw[zae];refine⟨by rw[has_put_same hI (K.keyed.key (K.key y hx))];rfl,fun a' ha z=> ?_⟩;cases ha;exact atKey_put_same hI (K.keyed.key (K.key y hx)) _ _
 rw[zab _ _ he];have hne:K.kl y≠K.kl x:=fun e=>he (K.klinj hy hx e);refine⟨by rw[has_put_other hne,(hA y hy).1],fun a' ha z=> ?_⟩;rw[atKey_put_other hne];exact (hA y hy).2 a' ha z
theorem MapG.drop(h:MapG K w b n F)(x:κ)(hx:K.ok x)(ty:TypeId) :
  ∃w',(Builtin.delete_ #[K.t,K.k] ty #[.map (some b),K.kv x]).run P w=.ok (.tuple #[]) w'/\MapG K w' b n (updF F x none)/\Fr [b] w w':=by
 obtain⟨D,hD,hA⟩:=h;obtain⟨w',hrun,hO,hg⟩:=hD.drop K.keyed K.und (K.key x hx) ty;refine⟨w',hrun,⟨_,hO,fun y hy=> ?_⟩,Fr.grown hg.grown (by intro k hk _;cases hk;simp)⟩;by_cases he:y=x
 .subst he;rw[zae];exact⟨by rw[has_del_same];rfl,fun a' ha=>by cases ha⟩
 rw[zab _ _ he];have hne:K.kl y≠K.kl x:=fun e=>he (K.klinj hy hx e);refine⟨by rw[has_del_other hne,(hA y hy).1],fun a' ha z=> ?_⟩;rw[atKey_del_other hne];exact (hA y hy).2 a' ha z
end
theorem zmj:prog.underlying 280=some (.map 9 3):=by kernel_rfl
theorem zadw:prog.underlying 281=some (.map 3 394):=by kernel_rfl
theorem zadx:prog.underlying 282=some (.map 396 242):=by kernel_rfl
theorem zij:prog.underlying 3=some (.int .i64):=by kernel_rfl
theorem zjj:prog.underlying 396=some (.array 2 3):=by kernel_rfl
theorem znh:prog.cellsOf 396=2:=by kernel_rfl
theorem zaae:prog.cellsOf 3=1:=by kernel_rfl
theorem zahm:laidOutB prog=true:=by kernel_rfl
theorem ztq:(396:TypeId)<prog.types.size:=of_decide_eq_true (by kernel_rfl)
theorem zaaf:(match prog.underlying 396 with|some (.array _ _)|some (.struct _)=>true|_=>false)=true:=by rw[zjj]
theorem zwz:Keyed prog 396:=Keyed.of_law (deep_law_laid zahm (m:=2) (by omega) ztq (by kernel_rfl) zaaf)
theorem zup:∃m,prog.types.size=m+1:=⟨prog.types.size-1,by have h:(396:Nat)<prog.types.size:=ztq;omega⟩
theorem zady:prog.keyType 396=true:=by kernel_rfl
def i64(x:Int):Prop:= -9223372036854775808<=x/\x<=9223372036854775807
theorem i64.wf{x:Int}(h:i64 x):(Lit.int .i64 x).wf=true:=WalkArith.wf_i64 ⟨h.1,h.2⟩
theorem zuq(a b:Int)(ha:i64 a)(hb:i64 b):keyOf prog 396 (.agg #[.int .i64 a,.int .i64 b])=some (.string (keyBytes [.int .i64 a,.int .i64 b])):=by
 obtain⟨q,hq⟩:=zup;unfold keyOf;simp only[zjj];rw[if_pos (by simp[zady,Value.formed,zjj,znh]),hq];unfold Program.keyLits;simp only[zjj,Value.cells];rw[if_pos (by rw[znh];rfl),zaae];have h1:=ha.wf;have h2:=hb.wf;have e:List.range 2=[0,1]:=rfl;rw[e];simp[Program.keyLits,zij,h1,h2]
def ztr(v:Value):Option (DataW Unit×List MemPlace):=
 match v with
 | .int .i64 a=>some (.lit (.int .i64 a),[])
 |_=>none
def ptV:Option Nat->Value
 |none=> .pointer none
 |some g=> .pointer (some ⟨g,0,none⟩)
def ptD:Option Nat->DataW Unit
 |none=> .agg []
 |some g=> .lit (.int .i64 g)
def zxa(v:Value):Option (DataW Unit×List MemPlace):=
 match v with
 | .pointer none=>some (ptD none,[])
 | .pointer (some ⟨g,0,none⟩)=>some (ptD (some g),[])
 |_=>none
def zgm(v:Value):Option (DataW Unit×List MemPlace):=
 match v with
 | .agg ⟨[]⟩=>some (.agg [],[])
 |_=>none
def kLast:Kn prog ByteArray Int where
 k:=9
 t:=280
 e:=3
 kv:=.string
 kl:=fun s=> .string s.data.toList
 ok:=fun s=>s.size<=maxLen
 ev:=.int .i64
 ed:=fun a=> .lit (.int .i64 a)
 R:=ztr
 z0:=0
 und:=zmj
 keyed:=string_keyed zeo
 key:=fun s hs=>Go.WideMaps.keyOf_string_mk zeo hs
 kvinj:=fun x y h=>by cases h;rfl
 em:=fun a=>rfl
 inv:=fun v y h=>by
  unfold ztr at h;split at h
  .cases h;exact⟨_,rfl,rfl⟩
  cases h
 edinj:=fun a b h=>by cases h;rfl
 zero:=fun w=>by kernel_rfl
def zadl:Kn prog Int (Option Nat) where
 k:=3
 t:=281
 e:=394
 kv:=.int .i64
 kl:=.int .i64
 ok:=i64
 ev:=ptV
 ed:=ptD
 R:=zxa
 z0:=none
 und:=zadw
 keyed:=int_keyed zij
 key:=fun x hx=>keyOf_int_mk zij hx.wf
 kvinj:=fun x y h=>by cases h;rfl
 em:=fun a=>by cases a<;>rfl
 inv:=fun v y h=>by
  unfold zxa at h;split at h
  .cases h;exact⟨none,rfl,rfl⟩
  .cases h;exact⟨some _,rfl,rfl⟩
  cases h
 edinj:=fun a b h=>by
  cases a<;>cases b
  .rfl
  .simp[ptD]at h
  .simp[ptD]at h
  simp[ptD]at h
  exact congrArg some (by omega)
 zero:=fun w=>by kernel_rfl
def zxb:Kn prog (Int×Int) Unit where
 k:=396
 t:=282
 e:=242
 kv:=fun p=> .agg #[.int .i64 p.1,.int .i64 p.2]
 kl:=fun p=> .string (keyBytes [.int .i64 p.1,.int .i64 p.2])
 ok:=fun p=>i64 p.1/\i64 p.2
 ev:=fun _=> .agg #[]
 ed:=fun _=> .agg []
 R:=zgm
 z0:=()
 und:=zadx
 keyed:=zwz
 key:=fun p hp=>zuq p.1 p.2 hp.1 hp.2
 kvinj:=fun x y h=>by
  obtain⟨a,b⟩:=x;obtain⟨c,d⟩:=y;simp at h;rw[h.1,h.2]
 em:=fun a=>rfl
 inv:=fun v y h=>by
  unfold zgm at h;split at h
  .cases h;exact⟨(),rfl,rfl⟩
  cases h
 edinj:=fun a b h=>rfl
 zero:=fun w=>by kernel_rfl
def ints(ns:List Int):List Value:=ns.map (Value.int .i64)
theorem zur{S:List Nat}{w w':World}{base:Nat}{e:TypeId}{size:Nat}{v:Value}{n:Nat}{xs:List Value}(h:w.ownsRow base e size v n xs)(hf:Fr S w w')(hn:∀k,v.ownBlock=some k->k∉S):w'.ownsRow base e size v n xs:=by
 refine⟨h.1,?_⟩;rcases h.2 with hh|⟨g,cap,cur,rfl,hb,hgg,rest⟩
 .exact .inl hh
 exact .inr ⟨g,cap,cur,rfl,hb,hf.keep hgg (hn g rfl),rest⟩
structure IOw(base:Nat)(w:World)(o:Option Addr)(n c:Nat)(xs:List Int):Prop where
 len:n=xs.length
 row:w.ownsRow base 3 1 (.slice o n c) n (ints xs)
section
variable{base:Nat}{w w':World}{o:Option Addr}{n c:Nat}{xs:List Int}
theorem IOw.nil(base:Nat)(w:World):IOw base w none 0 0 []:=⟨rfl,rfl,.inl ⟨rfl,rfl⟩⟩
theorem IOw.keepS{S:List Nat}(h:IOw base w o n c xs)(hf:Fr S w w')(hn:∀k,(Value.slice o n c).ownBlock=some k->k∉S):IOw base w' o n c xs:=⟨h.len,zur h.row hf hn⟩
theorem IOw.keep(h:IOw base w o n c xs)(hf:Fr [] w w'):IOw base w' o n c xs:=h.keepS hf (by simp)
theorem IOw.blk(h:IOw base w o n c xs){k:Nat}(hk:(Value.slice o n c).ownBlock=some k):base<=k/\∃cur,w.heap[k]? = some (.cells cur 3 (0,0)):=by
 rcases h.row.2 with⟨hh,_⟩|⟨g,cap,cur,hh,hb,hgg,_⟩
 .rw[hh]at hk;simp[Value.ownBlock]at hk
 rw[hh]at hk
 simp[Value.ownBlock]at hk
 subst hk;exact⟨hb,cur,hgg⟩
theorem IOw.low{b':Nat}(h:IOw base w o n c xs)(hb:b'<=base):IOw b' w o n c xs:=by
 refine⟨h.len,h.row.1,?_⟩;rcases h.row.2 with hh|⟨g,cap,cur,hh,hb',rest⟩
 .exact .inl hh
 exact .inr ⟨g,cap,cur,hh,Nat.le_trans hb hb',rest⟩
theorem IOw.cap(h:IOw base w o n c xs):n<=c:=by
 rcases h.row.2 with⟨hh,h0⟩|⟨g,cap,cur,hh,hb',hg,hc,_⟩
 .omega
 cases hh;exact hc
theorem IOw.at(h:IOw base w o n c xs)(i:Nat)(hi:i<xs.length):∃g,o=some ⟨g,0,none⟩/\base<=g/\w.cell? ⟨g,i,none⟩=some (.int .i64 (xs.getD i 0)):=by
 rcases h.row.2 with⟨_,h0⟩|⟨g,cap,cur,hv,hb,hg,_,_,_,ht⟩
 .have:=h.len;omega
 cases hv;refine⟨g,rfl,hb,?_⟩;have hN:=h.len;rw[crw hg,<-Array.getElem?_toList];have h1:(cur.toList.take (n*1))[i]? = (ints xs)[i]? :=by rw[ht]
 rw[List.getElem?_take_of_lt (by omega)]at h1
 rw[h1];simp[ints,List.getD,hi]
theorem IOw.cells(h:IOw base w o n c xs)(h0:0<n):∃g,o=some ⟨g,0,none⟩/\base<=g/\g<w.heap.size/\∀i,i<n->w.cell? ⟨g,i,none⟩=some (.int .i64 (xs.getD i 0)):=by
 obtain⟨g,hg,hb,_⟩:=h.at 0 (by rw[<-h.len];exact h0);obtain⟨_,cur,hc⟩:=h.blk (k:=g) (by rw[hg];rfl);refine⟨g,hg,hb,lt_of_block hc,fun i hi=> ?_⟩;obtain⟨g',hg',_,h2⟩:=h.at i (by rw[<-h.len];exact hi);rw[hg]at hg'
 cases hg';exact h2
end
theorem zct(w:World)(v:Value)(t:TypeId):(w.alloc (.cells #[v] t)).cell? ⟨w.heap.size,0,none⟩=some v:=by
 rw[crw (heap_alloc_new w (.cells #[v] t))];rfl
theorem zxc(w:World)(o:Obj)(v:Value)(t:TypeId):((w.alloc o).alloc (.cells #[v] t)).cell? ⟨w.heap.size+1,0,none⟩=some v:=by
 have h:=zct (w.alloc o) v t;rw[show (w.alloc o).heap.size=w.heap.size+1 from by simp]at h
 exact h
theorem IOw.on{base:Nat}{w0 w W W':World}{o:Option Addr}{n c:Nat}{xs:List Int}(h:IOw base w o n c xs)(hb:w0.heap.size<=base)(h0:Fr [] w0 w)(h1:Fr [] w W)(h2:Fr (Value.slice o n c).ownBlock.toList W W'):Fr [] w0 W':=
 (h0.then h1).on h2 (fun x hx=>Nat.le_trans hb (h.blk (Option.mem_toList.1 hx)).1)
theorem zadz:prog.underlying 25=some (.slice 3):=by kernel_rfl
theorem zaea:(prog.info? 3).map (fun i=>(i.zero,i.size,i.bytes))=some (some (.int .i64 0),1,8):=by kernel_rfl
theorem zsf:∃i,prog.info? 3=some i/\i.zero=some (.int .i64 0)/\i.size=1/\i.bytes=8:=by
 have h:=zaea;cases hi:prog.info? 3 with
 |none=>rw[hi]at h;cases h
 |some i=>
  rw[hi]at h
  simp only[Option.map_some,Option.some.injEq,Prod.mk.injEq]at h;exact⟨i,rfl,h.1,h.2.1,h.2.2⟩
theorem zpi(base:Nat)(w:World)(ty:TypeId)(o:Option Addr)(n c:Nat)(xs:List Int)(hO:IOw base w o n c xs)(ad:Addr)(cc:Nat)(x:Int)(hx:w.cell? ad=some (.int .i64 x))(hn:n<1099511627776)(hb:base<=w.heap.size) :
  ∃o' c' w',(Builtin.append_ #[25,25] ty #[.slice o n c,.slice (some ad) 1 cc]).run prog w=.ok (.slice o' (n+1) c') w'/\IOw base w' o' (n+1) c' (xs++[x])/\Fr (Value.slice o n c).ownBlock.toList w w'/\(∀g,(Value.slice o' (n+1) c').ownBlock=some g->(Value.slice o n c).ownBlock=some g\/w.heap.size<=g):=by
 obtain⟨i0,hi,hz0,hz1,hz2⟩:=zsf;have hmx:2199023255552<=maxLen:=by unfold maxLen;omega
 have hnews:∀j u,([Value.int .i64 x]:List Value)[j]? = some u->w.cell? (ad.add j)=some u:=by
  intro j u hu
  match j,hu with
  |0,hu=>rw[show ad.add 0=ad from by cases ad;simp[Addr.add],hx];exact hu
  |(j+1),hu=>simp at hu
 obtain⟨v',w',hr,h2,h3,h4,h5⟩:=run_append_own_at (P:=prog) w base 25 ty 3 i0 _ 1 8 zadz hi hz0 hz1 hz2 rfl (by decide) (.slice o n c) n (ints xs) hO.row ad 1 cc [.int .i64 x] rfl hnews (by intro u hu;simp at hu;subst hu;rfl) (by omega) (by omega) hb;obtain⟨o',c',rfl⟩:∃o' c',v'=.slice o' (n+1) c':=by
  rcases h2.2 with⟨_,h1⟩|⟨g,cap,_,rfl,_⟩
  .omega
  exact⟨_,cap,rfl⟩
 have hst:ints (xs++[x])=ints xs++[.int .i64 x]:=by simp[ints]
 refine⟨o',c',w',hr,⟨by rw[hO.len];simp,by rw[hst];exact h2⟩,Fr.grown h3 (fun y hy _=>Option.mem_toList.2 hy),fun g hg=> ?_⟩;rcases h5 with h5|h5
 .rw[h5]at hg;exact Or.inl hg
 rw[h5]at hg
 simp only[Option.some.injEq]at hg;exact Or.inr (by omega)
theorem zcq(base:Nat)(w:World){ops:Array Oper}{rest:List Oper}{op:Oper}{a:Act}{Q:Exit->Act->World->Prop}(hgd:op.guard=none)(s x:Operand)(ho:op.op=.call {callee:=.builtin .append,args:=#[s,x],argTypes:=#[25,25]})(o:Option Addr)(n c:Nat)(xs:List Int)(hs:a.eval s=.slice o n c)(hO:IOw base w o n c xs)(ad:Addr)(cc:Nat)(y:Int)(hx:a.eval x=.slice (some ad) 1 cc)(hy:w.cell? ad=some (.int .i64 y))(hn:n<1099511627776)(hb:base<=w.heap.size)(h:∀o' c' w',IOw base w' o' (n+1) c' (xs++[y])->Fr (Value.slice o n c).ownBlock.toList w w'->(∀g,(Value.slice o' (n+1) c').ownBlock=some g->(Value.slice o n c).ownBlock=some g\/w.heap.size<=g)->wpList prog ops Q rest (a.put op.dst (.slice o' (n+1) c')) w'):wpList prog ops Q (op::rest) a w:=by
 refine wpList_plain hgd fun K hK=> ?_;obtain⟨o',c',w',hr,h2,h3,h4⟩:=zpi base w op.type o n c xs hO ad cc y hy hn hb;unfold Oper.wp execOp;simp only[ho,resolve,invoke,builtin,Sem.run_bind,Sem.run_pure,Result.andThen_ok,List.map_toArray,List.map_cons,List.map_nil,hs,hx,hr];exact hK _ _ (h o' c' w' h2 h3 h4)
structure Rw where
 o:Option Addr
 n:Nat
 c:Nat
def Rw.bl(r:Rw):Option Nat:=(Value.slice r.o r.n r.c).ownBlock
structure En where
 g:Nat
 a:Rw
 b:Rw
structure TbI(w:World)(tb lb ob wb:Nat)(B:List Nat)(n:Nat)(D:Dt)(E:Int->Option En):Prop where
 box:w.heap[tb]? = some (.cells #[.map (some lb),.int .i64 D.newest,.map (some ob),.map (some wb)] 284 (0,0))
 bt:tb∈B
 bl:lb∈B
 bo:ob∈B
 bw:wb∈B
 lo:lb≠ob
 lw:lb≠wb
 ow:ob≠wb
 mine:∀j∈B,j<w.heap.size
 mapL:∃F,MapG kLast w lb n F/\∀k,(F k).getD 0=D.last k
 mapO:MapG zadl w ob n (fun m=>(E m).map fun e=>some e.g)
 mapW:∃F,MapG zxb w wb n F/\∀a m,(F (a,m)).isSome=true↔D.wt a m
 opn:∀m,(E m).isSome=true↔D.op m
 few:0<=D.newest/\D.newest<=65536
 ent:∀m e,E m=some e->w.heap[e.g]? = some (.cells #[.slice e.a.o e.a.n e.a.c,.slice e.b.o e.b.n e.b.c] 405 (0,0))/\e.g∈B/\IOw 0 w e.a.o e.a.n e.a.c (D.ah m)/\IOw 0 w e.b.o e.b.n e.b.c (D.bh m)/\(∀k,e.a.bl=some k->k∈B)/\∀k,e.b.bl=some k->k∈B
 injg:∀m e m' e',E m=some e->E m'=some e'->e.g=e'.g->m=m'
 injb:∀m e m' e' k,E m=some e->E m'=some e'->e.b.bl=some k->e'.b.bl=some k->m=m'
 ab:∀m e m' e' k,E m=some e->E m'=some e'->e.b.bl=some k->e'.a.bl≠some k
section
variable{w w':World}{tb lb ob wb:Nat}{B:List Nat}{n:Nat}{D:Dt}{E:Int->Option En}
theorem zai{j k:Nat}{cs:Array Value}{t:TypeId}{fr:Nat×Nat}(h:w.heap[j]? = some (.cells cs t fr))(h':∃es c,w.heap[k]? = some (.map es c)):j≠k:=by
 obtain⟨es,c,h'⟩:=h';intro e;rw[e,h']at h
 cases h
theorem zav{j k:Nat}{cs cs':Array Value}{t t':TypeId}{fr fr':Nat×Nat}(h:w.heap[j]? = some (.cells cs t fr))(h':w.heap[k]? = some (.cells cs' t' fr'))(ht:t≠t'):j≠k:=by
 intro e;rw[e,h']at h
 cases h;exact ht rfl
theorem TbI.bL(h:TbI w tb lb ob wb B n D E):∃es c,w.heap[lb]? = some (.map es c):=by
 obtain⟨F,hF,_⟩:=h.mapL;exact hF.block
theorem TbI.bO(h:TbI w tb lb ob wb B n D E):∃es c,w.heap[ob]? = some (.map es c):=h.mapO.block
theorem TbI.bW(h:TbI w tb lb ob wb B n D E):∃es c,w.heap[wb]? = some (.map es c):=by
 obtain⟨F,hF,_⟩:=h.mapW;exact hF.block
theorem TbI.keep{S:List Nat}(h:TbI w tb lb ob wb B n D E)(hf:Fr S w w')(hS:∀j∈B,j∉S):TbI w' tb lb ob wb B n D E:=by
 obtain⟨FL,hL,hL2⟩:=h.mapL;obtain⟨FW,hW,hW2⟩:=h.mapW;refine⟨hf.keep h.box (hS _ h.bt),h.bt,h.bl,h.bo,h.bw,h.lo,h.lw,h.ow,fun j hj=>Nat.lt_of_lt_of_le (h.mine j hj) hf.size,⟨FL,hL.keep hf (hS _ h.bl),hL2⟩,h.mapO.keep hf (hS _ h.bo),⟨FW,hW.keep hf (hS _ h.bw),hW2⟩,h.opn,h.few,fun m e hm=> ?_,h.injg,h.injb,h.ab⟩;obtain⟨h1,h2,h3,h4,h5,h6⟩:=h.ent m e hm;exact⟨hf.keep h1 (hS _ h2),h2,h3.keepS hf (fun k hk=>hS k (h5 k hk)),h4.keepS hf (fun k hk=>hS k (h6 k hk)),h5,h6⟩
theorem TbI.mono{m:Nat}(h:TbI w tb lb ob wb B n D E)(hn:n<=m):TbI w tb lb ob wb B m D E:=by
 obtain⟨FL,hL,hL2⟩:=h.mapL;obtain⟨FW,hW,hW2⟩:=h.mapW;exact⟨h.box,h.bt,h.bl,h.bo,h.bw,h.lo,h.lw,h.ow,h.mine,⟨FL,hL.mono hn,hL2⟩,h.mapO.mono hn,⟨FW,hW.mono hn,hW2⟩,h.opn,h.few,h.ent,h.injg,h.injb,h.ab⟩
theorem TbI.c0(h:TbI w tb lb ob wb B n D E):w.cell? ⟨tb,0,none⟩=some (.map (some lb)):=by rw[crw h.box];rfl
theorem TbI.c1(h:TbI w tb lb ob wb B n D E):w.cell? ⟨tb,1,none⟩=some (.int .i64 D.newest):=by rw[crw h.box];rfl
theorem TbI.c2(h:TbI w tb lb ob wb B n D E):w.cell? ⟨tb,2,none⟩=some (.map (some ob)):=by rw[crw h.box];rfl
theorem TbI.c3(h:TbI w tb lb ob wb B n D E):w.cell? ⟨tb,3,none⟩=some (.map (some wb)):=by rw[crw h.box];rfl
theorem TbI.lookL(h:TbI w tb lb ob wb B n D E)(key:ByteArray)(hk:key.size<=maxLen):(Instr.lookup 280 (.map (some lb)) (.string key) false).run prog w=.ok (.int .i64 (D.last key)) w:=by
 obtain⟨F,hF,hF2⟩:=h.mapL;have:=hF.look key hk;rw[show (kLast.ev ((F key).getD kLast.z0))=Value.int .i64 ((F key).getD 0) from rfl,hF2]at this
 exact this
open Classical in
theorem TbI.lookO(h:TbI w tb lb ob wb B n D E)(m:Int)(hm:i64 m):∃v,(Instr.lookup 281 (.map (some ob)) (.int .i64 m) true).run prog w=.ok (.tuple #[v,.bool (decide (D.op m))]) w:=by
 have:=h.mapO.lookOk m hm;have e:((E m).map fun e=>some e.g).isSome=decide (D.op m):=by
  rw[Option.isSome_map];cases hE:(E m).isSome with
  |true=>simp[(h.opn m).1 hE]
  |false=>
   have:¬D.op m:=fun ho=>by rw[(h.opn m).2 ho]at hE;cases hE
   simp[this]
 rw[e]at this
 exact⟨_,this⟩
theorem TbI.lookE(h:TbI w tb lb ob wb B n D E)(m:Int)(hm:i64 m)(e:En)(he:E m=some e):(Instr.lookup 281 (.map (some ob)) (.int .i64 m) false).run prog w=.ok (.pointer (some ⟨e.g,0,none⟩)) w:=by
 have:=h.mapO.look m hm;rw[he]at this
 exact this
open Classical in
theorem TbI.lookW(h:TbI w tb lb ob wb B n D E)(a m:Int)(ha:i64 a)(hm:i64 m):(Instr.lookup 282 (.map (some wb)) (.agg #[.int .i64 a,.int .i64 m]) true).run prog w=.ok (.tuple #[.agg #[],.bool (decide (D.wt a m))]) w:=by
 obtain⟨F,hF,hF2⟩:=h.mapW;have:=hF.lookOk (a,m) ⟨ha,hm⟩;have e:(F (a,m)).isSome=decide (D.wt a m):=by
  cases hE:(F (a,m)).isSome with
  |true=>simp[(hF2 a m).1 hE]
  |false=>
   have:¬D.wt a m:=fun ho=>by rw[(hF2 a m).2 ho]at hE;cases hE
   simp[this]
 rw[e]at this
 exact this
def Dt.wait(D:Dt)(a m:Int):Dt:={D with wt:=fun x y=>D.wt x y\/(x=a/\y=m)}
theorem TbI.others(h:TbI w tb lb ob wb B n D E){S:List Nat}(hf:Fr S w w')(hm:∀j∈S,∃es c,w.heap[j]? = some (.map es c)) :
  w'.heap[tb]? = some (.cells #[.map (some lb),.int .i64 D.newest,.map (some ob),.map (some wb)] 284 (0,0))/\(∀j∈B,j<w'.heap.size) /\
  ∀m e,E m=some e->w'.heap[e.g]? = some (.cells #[.slice e.a.o e.a.n e.a.c,.slice e.b.o e.b.n e.b.c] 405 (0,0))/\e.g∈B/\IOw 0 w' e.a.o e.a.n e.a.c (D.ah m)/\IOw 0 w' e.b.o e.b.n e.b.c (D.bh m)/\(∀k,e.a.bl=some k->k∈B)/\∀k,e.b.bl=some k->k∈B:=by
 refine⟨hf.keep h.box (fun hj=>zai h.box (hm _ hj) rfl),fun j hj=>Nat.lt_of_lt_of_le (h.mine j hj) hf.size,fun m e he=> ?_⟩;obtain⟨h1,h2,h3,h4,h5,h6⟩:=h.ent m e he;refine⟨hf.keep h1 (fun hj=>zai h1 (hm _ hj) rfl),h2,h3.keepS hf (fun k hk hj=> ?_),h4.keepS hf (fun k hk hj=> ?_),h5,h6⟩
 .obtain⟨_,cur,hc⟩:=h3.blk hk;exact zai hc (hm _ hj) rfl
 obtain⟨_,cur,hc⟩:=h4.blk hk;exact zai hc (hm _ hj) rfl
theorem TbI.storeW(h:TbI w tb lb ob wb B n D E)(a m:Int)(ha:i64 a)(hm:i64 m)(hn:n<maxLen) :
  ∃w',(Instr.mapUpdate 282 (.map (some wb)) (.agg #[.int .i64 a,.int .i64 m]) (.agg #[])).run prog w=.ok () w'/\TbI w' tb lb ob wb B (n+1) (D.wait a m) E/\Fr [wb] w w':=by
 obtain⟨FL,hL,hL2⟩:=h.mapL;obtain⟨FW,hW,hW2⟩:=h.mapW;obtain⟨w',hrun,hW',hf⟩:=hW.store (a,m) () ⟨ha,hm⟩ hn;obtain⟨g1,g2,g3⟩:=h.others hf (by simpa using h.bW);refine⟨w',hrun,⟨g1,h.bt,h.bl,h.bo,h.bw,h.lo,h.lw,h.ow,g2,⟨FL,(hL.keep hf (by simpa using h.lw)).mono (by omega),hL2⟩,(h.mapO.keep hf (by simpa using h.ow)).mono (by omega),⟨_,hW',fun x y=> ?_⟩,h.opn,h.few,g3,h.injg,h.injb,h.ab⟩,hf⟩;show _↔D.wt x y\/(x=a/\y=m);by_cases e:(x,y)=(a,m)
 .rw[e,zae];simp only[Prod.mk.injEq]at e;simp[e]
 rw[zab _ _ e,hW2];simp only[Prod.mk.injEq]at e;simp[e]
theorem TbI.dropW(h:TbI w tb lb ob wb B n D E)(a m:Int)(ha:i64 a)(hm:i64 m)(ty:TypeId) :
  ∃w',(Builtin.delete_ #[282,396] ty #[.map (some wb),.agg #[.int .i64 a,.int .i64 m]]).run prog w=.ok (.tuple #[]) w'/\TbI w' tb lb ob wb B n {D with wt:=fun x y=>D.wt x y/\¬(x=a/\y=m)} E/\Fr [wb] w w':=by
 obtain⟨FL,hL,hL2⟩:=h.mapL;obtain⟨FW,hW,hW2⟩:=h.mapW;obtain⟨w',hrun,hW',hf⟩:=hW.drop (a,m) ⟨ha,hm⟩ ty;obtain⟨g1,g2,g3⟩:=h.others hf (by simpa using h.bW);refine⟨w',hrun,⟨g1,h.bt,h.bl,h.bo,h.bw,h.lo,h.lw,h.ow,g2,⟨FL,(hL.keep hf (by simpa using h.lw)),hL2⟩,(h.mapO.keep hf (by simpa using h.ow)),⟨_,hW',fun x y=> ?_⟩,h.opn,h.few,g3,h.injg,h.injb,h.ab⟩,hf⟩;show _↔D.wt x y/\¬(x=a/\y=m);by_cases e:(x,y)=(a,m)
 .rw[e,zae];simp only[Prod.mk.injEq]at e;simp[e]
 rw[zab _ _ e,hW2];simp only[Prod.mk.injEq]at e;simp[e]
open Classical in
noncomputable def Dt.wrote (D:Dt) (key:ByteArray) (x:Int):Dt:={D with last:=fun k=>if k=key then x else D.last k}
theorem TbI.storeL(h:TbI w tb lb ob wb B n D E)(key:ByteArray)(x:Int)(hk:key.size<=maxLen)(hn:n<maxLen) :
  ∃w',(Instr.mapUpdate 280 (.map (some lb)) (.string key) (.int .i64 x)).run prog w=.ok () w'/\TbI w' tb lb ob wb B (n+1) (D.wrote key x) E/\Fr [lb] w w':=by
 obtain⟨FL,hL,hL2⟩:=h.mapL;obtain⟨FW,hW,hW2⟩:=h.mapW;obtain⟨w',hrun,hL',hf⟩:=hL.store key x hk hn;obtain⟨g1,g2,g3⟩:=h.others hf (by simpa using h.bL);refine⟨w',hrun,⟨g1,h.bt,h.bl,h.bo,h.bw,h.lo,h.lw,h.ow,g2,⟨_,hL',fun k=> ?_⟩,(h.mapO.keep hf (by simpa using h.lo.symm)).mono (by omega),⟨FW,(hW.keep hf (by simpa using h.lw.symm)).mono (by omega),hW2⟩,h.opn,h.few,g3,h.injg,h.injb,h.ab⟩,hf⟩;show _=if k=key then x else D.last k
 by_cases e:k=key
 .rw[e,zae,if_pos rfl];rfl
 rw[zab _ _ e,hL2,if_neg e]
theorem TbI.dropO(h:TbI w tb lb ob wb B n D E)(m:Int)(hm:i64 m)(ty:TypeId) :
  ∃w',(Builtin.delete_ #[281,3] ty #[.map (some ob),.int .i64 m]).run prog w=.ok (.tuple #[]) w'/\TbI w' tb lb ob wb B n {D with op:=fun x=>D.op x/\x≠m} (updF E m none)/\Fr [ob] w w':=by
 obtain⟨FL,hL,hL2⟩:=h.mapL;obtain⟨FW,hW,hW2⟩:=h.mapW;obtain⟨w',hrun,hO',hf⟩:=h.mapO.drop m hm ty;obtain⟨g1,g2,g3⟩:=h.others hf (by simpa using h.bO);have hE:∀x e,updF E m none x=some e->E x=some e:=fun x e hx=>by
  by_cases hxm:x=m
  .rw[hxm,zae]at hx;cases hx
  rwa [zab _ _ hxm]at hx
 refine⟨w',hrun,⟨g1,h.bt,h.bl,h.bo,h.bw,h.lo,h.lw,h.ow,g2,⟨FL,hL.keep hf (by simpa using h.lo),hL2⟩,?_,⟨FW,hW.keep hf (by simpa using h.ow.symm),hW2⟩,fun x=> ?_,h.few,fun x e hx=>g3 x e (hE x e hx),fun x e x' e' hx hx'=>h.injg x e x' e' (hE _ _ hx) (hE _ _ hx'),fun x e x' e' k hx hx'=>h.injb x e x' e' k (hE _ _ hx) (hE _ _ hx'),fun x e x' e' k hx hx'=>h.ab x e x' e' k (hE _ _ hx) (hE _ _ hx')⟩,hf⟩
 .have e:(fun x=>(updF E m none x).map fun e=>some e.g)=updF (fun m=>(E m).map fun e=>some e.g) m none:=by
   funext x
   by_cases hxm:x=m
   .rw[hxm,zae,zae];rfl
   rw[zab _ _ hxm,zab _ _ hxm]
  rw[e];exact hO'
 show _↔D.op x/\x≠m;by_cases hxm:x=m
 .rw[hxm,zae];simp
 rw[zab _ _ hxm,h.opn x];simp[hxm]
theorem zxd{w:World}{b:Nat}{u v x y z:Value}{t:TypeId}(h:w.heap[b]? = some (.cells #[u,v,x,y] t (0,0))):(w.setCell ⟨b,1,none⟩ z).heap[b]? = some (.cells #[u,z,x,y] t (0,0)):=by
 have hlt:=lt_of_block h;have h':w.heap[b]=.cells #[u,v,x,y] t (0,0):=by simpa[Array.getElem?_eq_getElem hlt]using h
 show (w.heap.modify b _)[b]? = _;rw[Array.getElem?_eq_getElem (by simpa using hlt),Array.getElem_modify_self,h'];rfl
theorem TbI.setN(h:TbI w tb lb ob wb B n D E)(x:Int)(hx:0<=x/\x<=65536):TbI (w.setCell ⟨tb,1,none⟩ (.int .i64 x)) tb lb ob wb B n {D with newest:=x} E/\Fr [tb] w (w.setCell ⟨tb,1,none⟩ (.int .i64 x)):=by
 have hf:Fr [tb] w (w.setCell ⟨tb,1,none⟩ (.int .i64 x)):=Fr.set _ _ _ (by simp);obtain⟨FL,hL,hL2⟩:=h.mapL;obtain⟨FW,hW,hW2⟩:=h.mapW;refine⟨⟨zxd h.box,h.bt,h.bl,h.bo,h.bw,h.lo,h.lw,h.ow,fun j hj=>Nat.lt_of_lt_of_le (h.mine j hj) hf.size,⟨FL,hL.keep hf ?_,hL2⟩,h.mapO.keep hf ?_,⟨FW,hW.keep hf ?_,hW2⟩,h.opn,hx,fun m e he=> ?_,h.injg,h.injb,h.ab⟩,hf⟩
 .simpa using (zai h.box h.bL).symm
 .simpa using (zai h.box h.bO).symm
 .simpa using (zai h.box h.bW).symm
 obtain⟨h1,h2,h3,h4,h5,h6⟩:=h.ent m e he;refine⟨hf.keep h1 (by simpa using zav h1 h.box (by decide)),h2,h3.keepS hf (fun k hk=> ?_),h4.keepS hf (fun k hk=> ?_),h5,h6⟩
 .obtain⟨_,cur,hc⟩:=h3.blk hk;simpa using zav hc h.box (by decide)
 obtain⟨_,cur,hc⟩:=h4.blk hk;simpa using zav hc h.box (by decide)
open Classical in
noncomputable def Dt.behind (D:Dt) (m x:Int):Dt:={D with bh:=fun y=>if y=m then D.bh m++[x] else D.bh y}
theorem TbI.behind(h:TbI w tb lb ob wb B n D E)(m x:Int)(e:En)(he:E m=some e){w1:World}{o':Option Addr}{c':Nat}(hO:IOw 0 w1 o' (e.b.n+1) c' (D.bh m++[x]))(hf:Fr e.b.bl.toList w w1)(hnew:∀g,(Value.slice o' (e.b.n+1) c').ownBlock=some g->e.b.bl=some g\/w.heap.size<=g) :
  ∃B',TbI (w1.setCell ⟨e.g,1,none⟩ (.slice o' (e.b.n+1) c')) tb lb ob wb B' n (D.behind m x) (updF E m (some ⟨e.g,e.a,⟨o',e.b.n+1,c'⟩⟩))/\(∀j∈B',j∈B\/w.heap.size<=j)/\Fr B w (w1.setCell ⟨e.g,1,none⟩ (.slice o' (e.b.n+1) c'))/\(∀j∈B,j∈B')/\(w1.cell? ⟨e.g,1,none⟩=some (.slice e.b.o e.b.n e.b.c)/\w1.frozen? ⟨e.g,1,none⟩=false):=by
 obtain⟨FL,hL,hL2⟩:=h.mapL;obtain⟨FW,hW,hW2⟩:=h.mapW;obtain⟨h1,h2,h3,h4,h5,h6⟩:=h.ent m e he;have hbc:∀k∈e.b.bl.toList,∃cur,w.heap[k]? = some (.cells cur 3 (0,0)):=fun k hk=>(h4.blk (Option.mem_toList.1 hk)).2;have hnT:tb∉e.b.bl.toList:=fun hk=>by obtain⟨cur,hc⟩:=hbc _ hk;exact zav hc h.box (by decide) rfl
 have hnm:∀k,(∃es c,w.heap[k]? = some (.map es c))->k∉e.b.bl.toList:=fun k hm hk=>by obtain⟨cur,hc⟩:=hbc _ hk;exact zai hc hm rfl
 have hng:∀m' e',E m'=some e'->e'.g∉e.b.bl.toList:=fun m' e' he' hk=>by
  obtain⟨cur,hc⟩:=hbc _ hk;exact zav hc (h.ent m' e' he').1 (by decide) rfl
 have hg1:=hf.keep h1 (hng m e he);have hset:Fr [e.g] w1 (w1.setCell ⟨e.g,1,none⟩ (.slice o' (e.b.n+1) c')):=Fr.set _ _ _ (by simp);have hbox1:=hf.keep h.box hnT;obtain⟨Bn,hBn⟩:∃Bn,Bn=(Value.slice o' (e.b.n+1) c').ownBlock.toList:=⟨_,rfl⟩;have hnewI:∀k,(Value.slice o' (e.b.n+1) c').ownBlock=some k->∃cur,w1.heap[k]? = some (.cells cur 3 (0,0)):=fun k hk=>(hO.blk hk).2;have key:∀m' e',E m'=some e'->e'.b.bl.toList≠[]->m'≠m->∀k,e'.b.bl=some k->k∉e.b.bl.toList:=fun m' e' he' _ hne k hk hk2=>hne (h.injb m' e' m e k he' he hk (Option.mem_toList.1 hk2));refine⟨Bn++B,⟨hset.keep hbox1 (by simpa using zav hbox1 hg1 (by decide)),by simp[h.bt],by simp[h.bl],by simp[h.bo],by simp[h.bw],h.lo,h.lw,h.ow,?_,⟨FL,(hL.keep hf (hnm _ h.bL)).keep hset ?_,hL2⟩,?_,⟨FW,(hW.keep hf (hnm _ h.bW)).keep hset ?_,hW2⟩,?_,h.few,?_,?_,?_,?_⟩,?_,?_,?_,?_⟩
 .intro j hj;rcases List.mem_append.1 hj with hj|hj
  .rw[hBn]at hj
   obtain⟨cur,hc⟩:=hnewI j (Option.mem_toList.1 hj);exact Nat.lt_of_lt_of_le (lt_of_block hc) hset.size
  exact Nat.lt_of_lt_of_le (h.mine j hj) (Nat.le_trans hf.size hset.size)
 .have hb:=(hL.keep hf (hnm _ h.bL)).block;simpa using (zai hg1 hb).symm
 .have hb:=(h.mapO.keep hf (hnm _ h.bO)).block;have e1:(fun y=>(updF E m (some (⟨e.g,e.a,⟨o',e.b.n+1,c'⟩⟩:En)) y).map fun e=>some e.g)=fun m=>(E m).map fun e=>some e.g:=by
   funext y
   by_cases hy:y=m
   .rw[hy,zae,he];rfl
   rw[zab _ _ hy]
  rw[e1];exact (h.mapO.keep hf (hnm _ h.bO)).keep hset (by simpa using (zai hg1 hb).symm)
 .have hb:=(hW.keep hf (hnm _ h.bW)).block;simpa using (zai hg1 hb).symm
 .intro y;show _↔D.op y;by_cases hy:y=m
  .rw[hy,zae,<-h.opn m,he];simp
  rw[zab _ _ hy,h.opn y]
 .intro y e' hy;by_cases hym:y=m
  .subst hym;rw[zae]at hy
   cases hy;refine⟨zpf hg1,by simp[h2],(h3.keepS hf (fun k hk hj=>h.ab y e y e k he he (Option.mem_toList.1 hj) hk)).keepS hset (fun k hk=> ?_),?_,fun k hk=>by simp[h5 k hk],fun k hk=> ?_⟩
   .obtain⟨_,cur,hc⟩:=(h3.keepS hf (fun k hk hj=>h.ab y e y e k he he (Option.mem_toList.1 hj) hk)).blk hk;simpa using zav hc hg1 (by decide)
   .show IOw 0 _ o' (e.b.n+1) c' (if y=y then D.bh y++[x] else D.bh y);rw[if_pos rfl];refine hO.keepS hset (fun k hk=> ?_);obtain⟨cur,hc⟩:=hnewI k hk;simpa using zav hc hg1 (by decide)
   exact List.mem_append_left _ (by rw[hBn];exact Option.mem_toList.2 hk)
  rw[zab _ _ hym]at hy
  obtain⟨j1,j2,j3,j4,j5,j6⟩:=h.ent y e' hy;have j3':=j3.keepS hf (fun k hk hj=>h.ab m e y e' k he hy (Option.mem_toList.1 hj) hk);have j4':=j4.keepS hf (fun k hk hj=>hym (h.injb y e' m e k hy he hk (Option.mem_toList.1 hj)));refine⟨hset.keep (hf.keep j1 (hng y e' hy)) (by simpa using fun e2=>hym (h.injg y e' m e hy he e2)),by simp[j2],j3'.keepS hset (fun k hk=> ?_),?_,fun k hk=>by simp[j5 k hk],fun k hk=>by simp[j6 k hk]⟩
  .obtain⟨_,cur,hc⟩:=j3'.blk hk;simpa using zav hc hg1 (by decide)
  show IOw 0 _ _ _ _ (if y=m then D.bh m++[x] else D.bh y);rw[if_neg hym];refine j4'.keepS hset (fun k hk=> ?_);obtain⟨_,cur,hc⟩:=j4'.blk hk;simpa using zav hc hg1 (by decide)
 .intro y e1 y' e2 hy hy';by_cases hym:y=m<;>by_cases hym':y'=m
  .rw[hym,hym'];exact fun _=>rfl
  .rw[hym,zae]at hy
   rw[zab _ _ hym']at hy'
   cases hy;rw[hym];exact h.injg m e y' e2 he hy'
  .rw[hym',zae]at hy'
   rw[zab _ _ hym]at hy
   cases hy';rw[hym'];exact h.injg y e1 m e hy he
  rw[zab _ _ hym]at hy
  rw[zab _ _ hym']at hy'
  exact h.injg y e1 y' e2 hy hy'
 .have lt:∀y e2 k,E y=some e2->e2.b.bl=some k->k<w.heap.size:=fun y e2 k hy hk=>h.mine k ((h.ent y e2 hy).2.2.2.2.2 k hk);intro y e1 y' e2 k hy hy' hk hk';by_cases hym:y=m<;>by_cases hym':y'=m
  .rw[hym,hym']
  .rw[hym,zae]at hy
   rw[zab _ _ hym']at hy'
   cases hy;rcases hnew k hk with h7|h7
   .rw[hym];exact h.injb m e y' e2 k he hy' h7 hk'
   have:=lt y' e2 k hy' hk';omega
  .rw[hym',zae]at hy'
   rw[zab _ _ hym]at hy
   cases hy';rcases hnew k hk' with h7|h7
   .rw[hym'];exact h.injb y e1 m e k hy he hk h7
   have:=lt y e1 k hy hk;omega
  rw[zab _ _ hym]at hy
  rw[zab _ _ hym']at hy'
  exact h.injb y e1 y' e2 k hy hy' hk hk'
 .have lt:∀y e2 k,E y=some e2->e2.a.bl=some k->k<w.heap.size:=fun y e2 k hy hk=>h.mine k ((h.ent y e2 hy).2.2.2.2.1 k hk);have hA:∀y e2,updF E m (some (⟨e.g,e.a,⟨o',e.b.n+1,c'⟩⟩:En)) y=some e2->∃e3,E y=some e3/\e3.a=e2.a:=fun y e2 hy=>by
   by_cases hym:y=m
   .rw[hym,zae]at hy;cases hy;exact⟨e,by rw[hym];exact he,rfl⟩
   rw[zab _ _ hym]at hy;exact⟨e2,hy,rfl⟩
  intro y e1 y' e2 k hy hy' hk hk';obtain⟨e3,he3,ha3⟩:=hA y' e2 hy';rw[<-ha3]at hk'
  by_cases hym:y=m
  .rw[hym,zae]at hy
   cases hy;rcases hnew k hk with h7|h7
   .exact h.ab m e y' e3 k he he3 h7 hk'
   have:=lt y' e3 k he3 hk';omega
  rw[zab _ _ hym]at hy
  exact h.ab y e1 y' e3 k hy he3 hk hk'
 .intro j hj;rcases List.mem_append.1 hj with hj|hj
  .rw[hBn]at hj
   rcases hnew j (Option.mem_toList.1 hj) with h7|h7
   .exact Or.inl (h6 j h7)
   exact Or.inr h7
  exact Or.inl hj
 .exact hf.trans hset (fun k hk _=>h6 k (Option.mem_toList.1 hk)) (fun k hk _=>by simp at hk;rw[hk];exact h2)
 .intro j hj;exact List.mem_append_right _ hj
 exact⟨by rw[crw hg1];rfl,by simp[World.frozen?,hg1]⟩
open Classical in
noncomputable def Dt.opened (D:Dt) (m:Int) (xs:List Int):Dt:={D with op:=fun x=>D.op x\/x=m,ah:=fun x=>if x=m then xs else D.ah x,bh:=fun x=>if x=m then [] else D.bh x}
theorem TbI.storeO(h:TbI w tb lb ob wb B n D E)(m:Int)(hm:i64 m)(hn:n<maxLen)(hE:E m=none)(g:Nat)(r:Rw)(xs:List Int)(hg:w.heap[g]? = some (.cells #[.slice r.o r.n r.c,.slice none 0 0] 405 (0,0)))(hgB:g∉B)(hr:IOw 0 w r.o r.n r.c xs)(hrB:∀k,r.bl=some k->k∉B) :
  ∃w',(Instr.mapUpdate 281 (.map (some ob)) (.int .i64 m) (.pointer (some ⟨g,0,none⟩))).run prog w=.ok () w'/\TbI w' tb lb ob wb (g::(r.bl.toList++B)) (n+1) (D.opened m xs) (updF E m (some ⟨g,r,⟨none,0,0⟩⟩))/\Fr [ob] w w':=by
 obtain⟨FL,hL,hL2⟩:=h.mapL;obtain⟨FW,hW,hW2⟩:=h.mapW;obtain⟨w',hrun,hO',hf⟩:=h.mapO.store m (some g) hm hn;obtain⟨g1,g2,g3⟩:=h.others hf (by simpa using h.bO);have hgo:g∉[ob]:=by simpa using zai hg h.bO
 have hro:∀k,(Value.slice r.o r.n r.c).ownBlock=some k->k∉[ob]:=fun k hk=>by
  obtain⟨_,cur,hc⟩:=hr.blk hk;simpa using zai hc h.bO
 have gB:∀y e,E y=some e->e.g≠g:=fun y e hy e2=>hgB (e2▸(h.ent y e hy).2.1);refine⟨w',hrun,⟨g1,by simp[h.bt],by simp[h.bl],by simp[h.bo],by simp[h.bw],h.lo,h.lw,h.ow,?_,⟨FL,(hL.keep hf (by simpa using h.lo)).mono (by omega),hL2⟩,?_,⟨FW,(hW.keep hf (by simpa using h.ow.symm)).mono (by omega),hW2⟩,?_,h.few,?_,?_,?_,?_⟩,hf⟩
 .intro j hj;rcases List.mem_cons.1 hj with rfl|hj
  .exact Nat.lt_of_lt_of_le (lt_of_block hg) hf.size
  rcases List.mem_append.1 hj with hj|hj
  .obtain⟨_,cur,hc⟩:=hr.blk (Option.mem_toList.1 hj);exact Nat.lt_of_lt_of_le (lt_of_block hc) hf.size
  exact g2 j hj
 .have e:(fun x=>(updF E m (some (⟨g,r,⟨none,0,0⟩⟩:En)) x).map fun e=>some e.g)=updF (fun m=>(E m).map fun e=>some e.g) m (some (some g)):=by
   funext x
   by_cases hxm:x=m
   .rw[hxm,zae,zae];rfl
   rw[zab _ _ hxm,zab _ _ hxm]
  rw[e];exact hO'
 .intro x;show _↔D.op x\/x=m;by_cases hxm:x=m
  .rw[hxm,zae];simp
  rw[zab _ _ hxm,h.opn x];simp[hxm]
 .intro x e hx;by_cases hxm:x=m
  .rw[hxm,zae]at hx
   cases hx;refine⟨hf.keep hg hgo,by simp,?_,?_,fun k hk=>by simp[hk],fun k hk=>by simp[Rw.bl,Value.ownBlock]at hk⟩
   .show IOw 0 w' r.o r.n r.c (if x=m then xs else D.ah x);rw[if_pos hxm];exact hr.keepS hf hro
   show IOw 0 w' none 0 0 (if x=m then [] else D.bh x);rw[if_pos hxm];exact IOw.nil _ _
  rw[zab _ _ hxm]at hx
  obtain⟨j1,j2,j3,j4,j5,j6⟩:=g3 x e hx;refine⟨j1,by simp[j2],?_,?_,fun k hk=>by simp[j5 k hk],fun k hk=>by simp[j6 k hk]⟩
  .show IOw 0 w' _ _ _ (if x=m then xs else D.ah x);rw[if_neg hxm];exact j3
  show IOw 0 w' _ _ _ (if x=m then [] else D.bh x);rw[if_neg hxm];exact j4
 .intro y e1 y' e2 hy hy';by_cases hym:y=m<;>by_cases hym':y'=m
  .rw[hym,hym'];exact fun _=>rfl
  .rw[hym,zae]at hy
   rw[zab _ _ hym']at hy'
   cases hy;exact fun e3=>absurd e3.symm (gB y' e2 hy')
  .rw[hym',zae]at hy'
   rw[zab _ _ hym]at hy
   cases hy';exact fun e3=>absurd e3 (gB y e1 hy)
  rw[zab _ _ hym]at hy
  rw[zab _ _ hym']at hy'
  exact h.injg y e1 y' e2 hy hy'
 .intro y e1 y' e2 k hy hy' hk hk';by_cases hym:y=m
  .rw[hym,zae]at hy
   cases hy;simp[Rw.bl,Value.ownBlock]at hk
  by_cases hym':y'=m
  .rw[hym',zae]at hy'
   cases hy';simp[Rw.bl,Value.ownBlock]at hk'
  rw[zab _ _ hym]at hy
  rw[zab _ _ hym']at hy'
  exact h.injb y e1 y' e2 k hy hy' hk hk'
 intro y e1 y' e2 k hy hy' hk hk';by_cases hym:y=m
 .rw[hym,zae]at hy
  cases hy;simp[Rw.bl,Value.ownBlock]at hk
 rw[zab _ _ hym]at hy
 by_cases hym':y'=m
 .rw[hym',zae]at hy'
  cases hy';exact hrB k hk' ((h.ent y e1 hy).2.2.2.2.2 k hk)
 rw[zab _ _ hym']at hy'
 exact h.ab y e1 y' e2 k hy hy' hk hk'
end
def Tb(w:World)(tb:Nat)(B:List Nat)(n:Nat)(D:Dt):Prop:=∃lb ob wb E,TbI w tb lb ob wb B n D E
theorem Tb.keep{S:List Nat}{w w':World}{tb:Nat}{B:List Nat}{n:Nat}{D:Dt}(h:Tb w tb B n D)(hf:Fr S w w')(hS:∀j∈B,j∉S):Tb w' tb B n D:=by
 obtain⟨lb,ob,wb,E,h⟩:=h;exact⟨lb,ob,wb,E,h.keep hf hS⟩
theorem Tb.quiet{w w':World}{tb:Nat}{B:List Nat}{n:Nat}{D:Dt}(h:Tb w tb B n D)(hf:Fr [] w w'):Tb w' tb B n D:=h.keep hf (by simp)
theorem Tb.mine{w:World}{tb:Nat}{B:List Nat}{n:Nat}{D:Dt}(h:Tb w tb B n D):∀j∈B,j<w.heap.size:=by
 obtain⟨lb,ob,wb,E,h⟩:=h;exact h.mine
theorem TbI.made(w:World):TbI ((((w.alloc (.map #[] 0)).alloc (.map #[] 0)).alloc (.map #[] 0)).alloc (.cells #[.map (some w.heap.size),.int .i64 0,.map (some (w.heap.size+1)),.map (some (w.heap.size+2))] 284)) (w.heap.size+3) w.heap.size (w.heap.size+1) (w.heap.size+2) [w.heap.size,w.heap.size+1,w.heap.size+2,w.heap.size+3] 0 Dt.none (fun _=>none):=by
 obtain⟨w1,h1⟩:∃w1,w1=w.alloc (.map #[] 0):=⟨_,rfl⟩;obtain⟨w2,h2⟩:∃w2,w2=w1.alloc (.map #[] 0):=⟨_,rfl⟩;obtain⟨w3,h3⟩:∃w3,w3=w2.alloc (.map #[] 0):=⟨_,rfl⟩;rw[<-h1,<-h2,<-h3];have s1:w1.heap.size=w.heap.size+1:=by rw[h1];simp
 have s2:w2.heap.size=w.heap.size+2:=by rw[h2];simp;omega
 have s3:w3.heap.size=w.heap.size+3:=by rw[h3];simp;omega
 have m1:MapG kLast w1 w.heap.size 0 (fun _=>none):=by rw[h1];exact MapG.made w
 have m2:MapG zadl w2 (w.heap.size+1) 0 (fun _=>none):=by rw[h2,<-s1];exact MapG.made w1
 have m3:MapG zxb w3 (w.heap.size+2) 0 (fun _=>none):=by rw[h3,<-s2];exact MapG.made w2
 have f2:Fr [] w1 w2:=by rw[h2];exact Fr.alloc _ _ _
 have f3:Fr [] w2 w3:=by rw[h3];exact Fr.alloc _ _ _
 have f4:Fr [] w3 (w3.alloc (.cells #[.map (some w.heap.size),.int .i64 0,.map (some (w.heap.size+1)),.map (some (w.heap.size+2))] 284)):=Fr.alloc _ _ _;refine⟨?_,by simp,by simp,by simp,by simp,by omega,by omega,by omega,?_,⟨_,((m1.keep f2 (by simp)).keep f3 (by simp)).keep f4 (by simp),fun _=>rfl⟩,(m2.keep f3 (by simp)).keep f4 (by simp),⟨_,m3.keep f4 (by simp),fun a m=> ?_⟩,fun m=> ?_,⟨Int.le_refl _,by decide⟩,fun m e h=>(by cases h),fun m e m' e' h=>(by cases h),fun m e m' e' k h=>(by cases h),fun m e m' e' k h=>(by cases h)⟩
 .rw[<-s3];exact heap_alloc_new w3 _
 .intro j hj;simp at hj;have:(w3.alloc (.cells #[.map (some w.heap.size),.int .i64 0,.map (some (w.heap.size+1)),.map (some (w.heap.size+2))] 284)).heap.size=w.heap.size+4:=by simp[s3]
  rw[this];omega
 .simp[Dt.none]
 simp[Dt.none]
theorem zaag(w:World):Calls prog 150 #[] w fun e w'=>∃tb B,e=.returned (.pointer (some ⟨tb,0,none⟩))/\Tb w' tb B 0 Dt.none/\(∀j∈B,w.heap.size<=j)/\Fr [] w w':=by
 have hmm:=@run_makeMap prog;have HS:Hid _:=TbI.made w;have HF:Hid (Fr [] w ((((w.alloc (.map #[] 0)).alloc (.map #[] 0)).alloc (.map #[] 0)).alloc (.cells #[.map (some w.heap.size),.int .i64 0,.map (some (w.heap.size+1)),.map (some (w.heap.size+2))] 284))):=((Fr.alloc [] _ _).then (Fr.alloc [] _ _)).then ((Fr.alloc [] _ _).then (Fr.alloc [] _ _));go_enter func150,ntmps150;go_wp2;go_ret;refine⟨w.heap.size+3,_,rfl,⟨_,_,_,_,HS.out⟩,?_,HF.out⟩;intro j hj;simp at hj;omega
theorem zhc{tb:Nat}{B:List Nat}{n:Nat}{D:Dt}(w:World)(h:Tb w tb B n D):Calls prog 258 #[.pointer (some ⟨tb,0,none⟩)] w fun e w'=>e=.returned (.bool true)/\Fr [] w w':=by
 have qT:∀(w:World)(r:Option Nat),(binOp .neq 280 (.map r) (.map none)).run prog w=.ok (.bool (!r.isNone)) w:=fun w r=>run_neq_map_nil w _ _ _ r zmj;obtain⟨lb,ob,wb,E,h⟩:=h;have c0:=h.c0;go_enter func258,ntmps258;go_wp2;go_ret;exact⟨rfl,Fr.refl _ _⟩
open Classical in
theorem zgi{tb:Nat}{B:List Nat}{n:Nat}{D:Dt}(m:Int)(b:Bool)(w:World)(h:Tb w tb B n D)(hm:i64 m)(hb:b=true↔D.op m):Calls prog 280 #[.pointer (some ⟨tb,0,none⟩),.int .i64 m] w fun e w'=>e=.returned (.bool b)/\Fr [] w w':=by
 obtain⟨lb,ob,wb,E,h⟩:=h;have c2:=h.c2;obtain⟨v,hl⟩:=h.lookO m hm;have e:decide (D.op m)=b:=by
  cases b with
  |true=>simpa using hb.1 rfl
  |false=>
   have:¬D.op m:=fun ho=>by have:=hb.2 ho;cases this
   simpa using this
 rw[e]at hl
 clear h hb e;go_enter func280,ntmps280;go_wp2;go_ret;exact⟨rfl,Fr.refl _ _⟩
structure AwT(D:Dt)(m:Int)(ys:List Int):Prop where
 sub:∃p:Int->Bool,ys=(D.ah m).filter p/\∀x,p x=true↔D.wt m x
theorem zfc(xs:List Int)(p:Int->Bool)(i:Nat)(hi:i<xs.length):(xs.take (i+1)).filter p=if p (xs.getD i 0)=true then (xs.take i).filter p++[xs.getD i 0] else (xs.take i).filter p:=by
 rw[List.take_add_one,List.filter_append];have e:xs[i]?.toList=[xs.getD i 0]:=by simp[List.getD,hi]
 rw[e];generalize xs.getD i 0=y;by_cases hp:p y=true
 .simp[hp]
 simp[hp]
theorem zik(xs:List Int)(i:Nat)(h:i<xs.length):xs.getD i 0∈xs:=by simp[List.getD,h]
theorem zil{tb:Nat}{B:List Nat}{n:Nat}{D:Dt}(m:Int)(w:World)(h:Tb w tb B n D)(hm:D.op m)(hmi:i64 m)(hx:∀x∈D.ah m,i64 x)(hfew:(D.ah m).length<1099511627776) :
  Calls prog 384 #[.pointer (some ⟨tb,0,none⟩),.int .i64 m] w fun e w'=>∃so N c ys,e=.returned (.slice so N c)/\IOw w.heap.size w' so N c ys/\AwT D m ys/\Fr [] w w':=by
 classical
 obtain⟨lb,ob,wb,E,h⟩:=h;obtain⟨p,hp⟩:∃p:Int->Bool,∀x,p x=decide (D.wt m x):=⟨fun x=>decide (D.wt m x),fun _=>rfl⟩;have c2:=h.c2;obtain⟨e0,he0⟩:∃e0,E m=some e0:=Option.isSome_iff_exists.1 ((h.opn m).2 hm);have hl:=h.lookE m hmi e0 he0;obtain⟨h1,h2,h3,h4,h5,h6⟩:=h.ent m e0 he0;obtain⟨eg,⟨ao,A,ac⟩,eb⟩:=e0;simp only at *;have ca:w.cell? ⟨eg,0,none⟩=some (.slice ao A ac):=by rw[crw h1];rfl
 have HK:Hid (∀W,Fr [] w W->W.cell? ⟨tb,3,none⟩=some (.map (some wb))/\(∀x,i64 x->(Instr.lookup 282 (.map (some wb)) (.agg #[.int .i64 m,.int .i64 x]) true).run prog W=.ok (.tuple #[.agg #[],.bool (p x)]) W)):=fun W hf=>by
  have hk:=h.keep hf (by simp);refine⟨hk.c3,fun x hx=> ?_⟩;rw[hp x];exact hk.lookW m x hmi hx
 have HP:Hid (∀x,p x=true↔D.wt m x):=fun x=>by rw[hp];simp
 obtain⟨xs,hxs⟩:∃xs,xs=D.ah m:=⟨_,rfl⟩;have HX:Hid (xs=D.ah m):=hxs;rw[<-hxs]at hx hfew h3
 have HA:Hid (A=xs.length):=h3.len;have HXi:Hid (∀x∈xs,i64 x):=hx;have hAf:A<1099511627776:=by rw[HA.out];exact hfew
 have HR:Hid (0<A->∃g,ao=some ⟨g,0,none⟩/\∀W,Fr [] w W->∀i,i<A->W.cell? ⟨g,i,none⟩=some (.int .i64 (xs.getD i 0))):=fun h0=>by
  obtain⟨g,hg,_,hlt,hc⟩:=h3.cells h0;exact⟨g,hg,fun W hf i hi=>(World.cell?_of_block (hf.block g hlt (by simp))).trans (hc i hi)⟩
 clear h hp hxs hx hfew h1 h2 h3 h4 h5 h6 he0 hm hmi;go_enter func384,ntmps384;go_wp2_with fail
 go_loopw [5,20] (fun ll ii wr=>∃(i:Nat)(so:Option Addr)(N c:Nat),ii=.int .i64 i/\i<=A/\ll=.slice so N c/\Hid (IOw w.heap.size wr so N c ((xs.take i).filter p))/\N<=i/\Fr [] w wr) (fun _ ii _=>A-(RowKit.intOf ii).toNat)
 case atStart=>exact⟨0,none,0,0,rfl,Nat.zero_le _,rfl,IOw.nil _ _,Nat.le_refl _,Fr.refl _ _⟩
 obtain⟨i,so,N,c,rfl,hiA,rfl,HO,hNi,hF⟩:=hrel;by_cases hi:i<A
 .obtain⟨g,rfl,hcells⟩:=HR.out (by omega);have hc:=hcells wr hF i hi;obtain⟨x,hxe⟩:∃x,x=xs.getD i 0:=⟨_,rfl⟩;rw[<-hxe]at hc
  have hxi:i64 x:=by rw[hxe];exact HXi.out _ (zik xs i (by rw[<-HA.out];exact hi))
  obtain⟨hc3,hlw⟩:=HK.out wr hF;have hlv:=hlw x hxi;have HS:=zfc xs p i (by rw[<-HA.out];exact hi);rw[<-hxe]at HS
  have HS:Hid ((xs.take (i+1)).filter p=_):=HS;have HXE:Hid (x=xs.getD i 0):=hxe;clear hxe hlw hcells;obtain⟨q,hq⟩:∃q,p x=q:=⟨_,rfl⟩;rw[hq]at hlv
  have HQ:Hid (p x=q):=hq;clear hq;cases q with
  |true=>
   rw[HQ.out,if_pos rfl]at HS
   have HO2:Hid (∀W,Fr [] wr W->IOw w.heap.size W so N c ((xs.take i).filter p)):=fun W hf=>HO.out.keep hf;have HB:Hid (∀W W',Fr [] wr W->Fr (Value.slice so N c).ownBlock.toList W W'->Fr [] w W'):=fun W W' h1 h2=>HO.out.on (Nat.le_refl _) hF h1 h2;clear HO;go_wp2_with (first
    |(
     at_builtin;refine zcq w.heap.size _ rfl _ _ rfl so N c _ rfl (HO2.out _ ((Fr.alloc [] _ _).then (Fr.alloc [] _ _))) _ _ x rfl ?hcell (by omega) ?hsize ?_
     case hcell=>exact zxc _ _ _ _
     case hsize=>have:=hF.size;simp;omega
     intro o' c' w3 hO3 hF3 _;have HR3:Hid (_/\_):=⟨hO3,HB.out _ _ ((Fr.alloc [] _ _).then (Fr.alloc [] _ _)) hF3⟩;clear hO3 hF3;go_frame)
    |fail)
   go_roundw;case rel=>exact⟨i+1,o',N+1,c',rfl,by omega,rfl,(by rw[HS.out];exact HR3.out.1),by omega,HR3.out.2⟩
   case measure=>simp[RowKit.intOf];omega
  |false=>
   rw[HQ.out,if_neg (by simp)]at HS
   have HN:Hid (IOw w.heap.size wr so N c ((xs.take (i+1)).filter p)):=by rw[HS.out];exact HO.out
   clear HO HS;go_wp2_with fail
   go_roundw;case rel=>exact⟨i+1,so,N,c,rfl,by omega,rfl,HN.out.keep (Fr.alloc [] _ _),by omega,hF.then (Fr.alloc [] _ _)⟩
   case measure=>simp[RowKit.intOf];omega
 obtain rfl:i=A:=by omega
 go_wp2;go_ret;refine⟨so,N,c,_,rfl,HO.out,⟨p,?_,HP.out⟩,hF⟩;rw[List.take_of_length_le (by rw[<-HA.out];exact Nat.le_refl _),HX.out]
structure IRs(w:World)(ao:Option Addr)(ns:List Int):Prop where
 lies:0<ns.length->∃b off,ao=some ⟨b,off,none⟩/\b<w.heap.size/\∀i,i<ns.length->w.cell? ⟨b,off+i,none⟩=some (.int .i64 (ns.getD i 0))
 few:ns.length<=17592186044416
theorem IRs.keepS{S:List Nat}{w w':World}{ao:Option Addr}{ns:List Int}(h:IRs w ao ns)(hf:Fr S w w')(hn:0<ns.length->∀a,ao=some a->a.block∉S):IRs w' ao ns:=by
 refine⟨fun h0=> ?_,h.few⟩;obtain⟨b,off,e,hb,hc⟩:=h.lies h0;exact⟨b,off,e,Nat.lt_of_lt_of_le hb hf.size,fun i hi=>(World.cell?_of_block (hf.block b hb (hn h0 _ e))).trans (hc i hi)⟩
theorem IRs.keep{w w':World}{ao:Option Addr}{ns:List Int}(h:IRs w ao ns)(hf:Fr [] w w'):IRs w' ao ns:=h.keepS hf (by simp)
theorem zeu(ns:List Int)(i:Nat)(h:i<ns.length):ns.take (i+1)=ns.take i++[ns.getD i 0]:=by
 rw[List.take_add_one];simp[List.getD,h]
end
namespace F
open Go.ChangeShapes Go.WideShapes Go.ChangeAt Go.RowKit Go.Lib Go.Maps Go.Proofs.Tryz
structure Kn(P:Program)(κ α:Type) where
 k:TypeId
 t:TypeId
 e:TypeId
 kv:κ->Value
 kl:κ->Lit
 ok:κ->Prop
 ev:α->Value
 ed:α->DataW Unit
 R:Value->Option (DataW Unit×List MemPlace)
 z0:α
 und:P.underlying t=some (.map k e)
 keyed:Keyed P k
 key:∀x,ok x->keyOf P k (kv x)=some (kl x)
 kvinj:∀x y,kv x=kv y->x=y
 em:∀a,R (ev a)=some (ed a,[])
 inv:∀v y,R v=some y->∃a,v=ev a/\y=(ed a,[])
 edinj:∀a b,ed a=ed b->a=b
 zero:∀w,(zeroValue e).run P w=.ok (ev z0) w
section
variable{P:Program}{κ α:Type}(K:Kn P κ α)
theorem Kn.klinj{x y:κ}(hx:K.ok x)(hy:K.ok y)(h:K.kl x=K.kl y):x=y:=K.kvinj x y (K.keyed.inj (K.key x hx) (by rw[h];exact K.key y hy))
def MapG(w:World)(b n:Nat)(F:κ->Option α):Prop:=
 ∃D:DataW Unit,w.ownsMap P K.k K.R b n D/\∀x,K.ok x->(has D (K.kl x)=(F x).isSome/\∀a,F x=some a->∀z,D.atKey (K.kl x) z=K.ed a)
variable {K} {w:World} {b n:Nat} {F:κ->Option α}
theorem MapG.lt(h:MapG K w b n F):b<w.heap.size:=by
 obtain⟨D,hD,_⟩:=h;exact hD.lt
theorem MapG.block(h:MapG K w b n F):∃es c,w.heap[b]? = some (.map es c):=by
 obtain⟨D,⟨es,clock,hb,hr⟩,h2⟩:=h;exact⟨es,clock,hb⟩
theorem MapG.keep{S:List Nat}{w':World}(h:MapG K w b n F)(hf:Fr S w w')(hn:b∉S):MapG K w' b n F:=by
 have hlt:=h.lt;obtain⟨D,⟨es,clock,hb,hr⟩,h2⟩:=h;exact⟨D,⟨es,clock,(hf.block b hlt hn).trans hb,hr⟩,h2⟩
theorem MapG.made(w:World):MapG K (w.alloc (.map #[] 0)) w.heap.size 0 (fun _=>none):=
 ⟨.map [],World.ownsMap_made w _ _ _,fun s _=>⟨rfl,fun a h=>by cases h⟩⟩
theorem MapG.lookOk(h:MapG K w b n F)(x:κ)(hx:K.ok x):(Instr.lookup K.t (.map (some b)) (K.kv x) true).run P w=.ok (.tuple #[K.ev ((F x).getD K.z0),.bool (F x).isSome]) w:=by
 obtain⟨D,hD,hA⟩:=h;obtain⟨v,ps,hrun,hv⟩:=hD.look_ok K.keyed K.und (K.zero _) (K.em K.z0) (K.key x hx);rw[hrun];obtain⟨a,rfl,e⟩:=K.inv _ _ hv;simp only[Prod.mk.injEq]at e;obtain⟨h1,h2⟩:=hA x hx;rw[h1];cases hF:F x with
 |some y=>
  rw[h2 y hF]at e
  rw[K.edinj _ _ e.1];rfl
 |none=>
  rw[hF]at h1
  rw[atKey_of_not_has h1]at e
  rw[K.edinj _ _ e.1];rfl
open Classical in
noncomputable def updF (F:κ->Option α) (x:κ) (a:Option α):κ->Option α:=fun y=>if y=x then a else F y
theorem zae(F:κ->Option α)(x:κ)(a:Option α):updF F x a x=a:=by simp[updF]
theorem zab(F:κ->Option α){x y:κ}(a:Option α)(h:y≠x):updF F x a y=F y:=by simp[updF,h]
theorem MapG.store(h:MapG K w b n F)(x:κ)(a:α)(hx:K.ok x)(hn:n<maxLen) :
  ∃w',(Instr.mapUpdate K.t (.map (some b)) (K.kv x) (K.ev a)).run P w=.ok () w'/\MapG K w' b (n+1) (updF F x (some a))/\Fr [b] w w':=by
 obtain⟨D,hD,hA⟩:=h;have hI:=hD.isMap;obtain⟨w',hrun,hO,hg⟩:=hD.update K.keyed K.und hn (K.key x hx) (K.em a);refine⟨w',hrun,⟨_,hO,fun y hy=> ?_⟩,Fr.grown hg (by intro k hk _;cases hk;simp)⟩;by_cases he:y=x
 .subst he;rw[zae];refine⟨by rw[has_put_same hI (K.keyed.key (K.key y hx))];rfl,fun a' ha z=> ?_⟩;cases ha;exact atKey_put_same hI (K.keyed.key (K.key y hx)) _ _
 rw[zab _ _ he];have hne:K.kl y≠K.kl x:=fun e=>he (K.klinj hy hx e);refine⟨by rw[has_put_other hne,(hA y hy).1],fun a' ha z=> ?_⟩;rw[atKey_put_other hne];exact (hA y hy).2 a' ha z
end
theorem ztz:prog.underlying 225=some (.map 3 242):=by kernel_rfl
theorem zxs:prog.underlying 3=some (.int .i64):=by kernel_rfl
def i64(x:Int):Prop:= -9223372036854775808<=x/\x<=9223372036854775807
theorem i64.wf{x:Int}(h:i64 x):(Lit.int .i64 x).wf=true:=WalkArith.wf_i64 ⟨h.1,h.2⟩
def zgm(v:Value):Option (DataW Unit×List MemPlace):=
 match v with
 | .agg ⟨[]⟩=>some (.agg [],[])
 |_=>none
def kBey:Kn prog Int Unit where
 k:=3
 t:=225
 e:=242
 kv:=.int .i64
 kl:=.int .i64
 ok:=i64
 ev:=fun _=> .agg #[]
 ed:=fun _=> .agg []
 R:=zgm
 z0:=()
 und:=ztz
 keyed:=int_keyed zxs
 key:=fun x hx=>keyOf_int_mk zxs hx.wf
 kvinj:=fun x y h=>by cases h;rfl
 em:=fun a=>rfl
 inv:=fun v y h=>by
  unfold zgm at h;split at h
  .cases h;exact⟨(),rfl,rfl⟩
  cases h
 edinj:=fun a b h=>rfl
 zero:=fun w=>by kernel_rfl
theorem zqf(n:Int)(w:World):(Instr.makeMap 225 (some (.int .i64 n))).run prog w=.ok (.map (some w.heap.size)) (w.alloc (.map #[] 0)):=by
 simp[Instr.makeMap,run_underlying ztz,asInt,asIntOf]
end F
section
open Go.ChangeShapes Go.WideShapes Go.ChangeAt Go.RowKit Go.Lib Go.Maps Go.Proofs.Tryz
theorem zabe:prog.underlying 161=some (.map 3 108):=by kernel_rfl
abbrev Tx3:=Option (Int×Nat×Nat)
def tx3V:Tx3->Value
 |none=> .agg #[.int .i64 0,.slice none 0 0]
 |some (n,k,L)=> .agg #[.int .i64 n,.slice (some ⟨k,0,none⟩) L L]
def tx3D:Tx3->DataW Unit
 |none=> .agg []
 |some (n,k,L)=> .agg [.lit (.int .i64 n),.lit (.int .i64 k),.lit (.int .i64 L)]
def tx3E(v:Value):Option (DataW Unit×List MemPlace):=
 match v with
 | .agg ⟨[.int .i64 n,.slice (some ⟨k,0,none⟩) L C]⟩=>if C=L then some (tx3D (some (n,k,L)),[]) else none
 | .agg ⟨[.int .i64 0,.slice none 0 0]⟩=>some (tx3D none,[])
 |_=>none
theorem zaew{v:Value}{y:DataW Unit×List MemPlace}(h:tx3E v=some y):∃a,v=tx3V a/\y=(tx3D a,[]):=by
 unfold tx3E at h;split at h
 .rename_i n k L C;split at h
  .rename_i e;subst e;simp only[Option.some.injEq]at h;exact⟨some (n,k,C),rfl,h.symm⟩
  cases h
 .simp only[Option.some.injEq]at h;exact⟨none,rfl,h.symm⟩
 cases h
theorem zabf{a b:Tx3}(h:tx3D a=tx3D b):a=b:=by
 rcases a with _|⟨n,k,L⟩<;>rcases b with _|⟨n',k',L'⟩
 .rfl
 .simp[tx3D]at h
 .simp[tx3D]at h
 simp[tx3D]at h
 obtain⟨h1,h2,h3⟩:=h;have e2:k=k':=by omega
 have e3:L=L':=by omega
 rw[h1,e2,e3]
def kTx:Kn prog Int Tx3 where
 k:=3
 t:=161
 e:=108
 kv:=.int .i64
 kl:=.int .i64
 ok:=i64
 ev:=tx3V
 ed:=tx3D
 R:=tx3E
 z0:=none
 und:=zabe
 keyed:=int_keyed zij
 key:=fun x hx=>keyOf_int_mk zij hx.wf
 kvinj:=fun x y h=>by cases h;rfl
 em:=fun a=>by
  rcases a with _|⟨n,k,L⟩
  .rfl
  simp[tx3V,tx3E]
 inv:=fun v y h=>zaew h
 edinj:=fun a b h=>zabf h
 zero:=fun w=>by kernel_rfl
end
end Go.Proofs.YtojjdnjfaelnfaaGreatDoor
