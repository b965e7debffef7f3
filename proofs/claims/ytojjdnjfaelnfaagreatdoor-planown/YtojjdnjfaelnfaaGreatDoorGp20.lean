/- Contracts and lemmas. -/
import Derived.Test.YtojjdnjfaelnfaaGreatDoorGp8
import Derived.Test.YtojjdnjfaelnfaaGreatDoorGp9
import Derived.Test.YtojjdnjfaelnfaaGreatDoorGp11
import Derived.Test.YtojjdnjfaelnfaaGreatDoorGp17
import Derived.Test.YtojjdnjfaelnfaaGreatDoorGp19
set_option linter.unusedSimpArgs false
set_option linter.unusedVariables false
namespace Go.Proofs.YtojjdnjfaelnfaaGreatDoor
open Go.Proofs.Tryz
structure Qe where
 f:Int
 n:Int
 x:Wt
structure Ms where
 rd:Nat
 hv:Bool
 fd:Nat
 d:Nat
 en:Int->Prop
 ma:Int
 bx:List Int
 wt:Int->Prop
 line:List Int
 pass:List Int
 ln:Nat->Option Hl
 qs:Nat->List Qe
 M:Nat->ByteArray->List O.Vn
 k:Nat
def upd{α:Type}(f:Nat->α)(i:Nat)(v:α):Nat->α:=fun j=>if j=i then v else f j
theorem zad{α:Type}(f:Nat->α)(i:Nat)(v:α):upd f i v i=v:=if_pos rfl
theorem zac{α:Type}(f:Nat->α){i j:Nat}(v:α)(h:j≠i):upd f i v j=f j:=if_neg h
def wsAt(T:List Tx)(n:Int):List Wt:=(T.getD (n-1).toNat Tx.zero).ws
def lgT(T:List Tx)(d:Nat):Lg:=(List.range d).map fun i=>(((i+1:Nat):Int),zar (wsAt T ((i+1:Nat):Int)))
theorem zhn(T:List Tx)(d:Nat):lgT T (d+1)=lgT T d++[(((d+1:Nat):Int),zar (wsAt T ((d+1:Nat):Int)))]:=by
 simp[lgT,List.range_succ]
theorem zfb(T:List Tx)(d:Nat){p:Int×List ByteArray}:p∈lgT T d↔(1<=p.1/\p.1<=(d:Int))/\p.2=zar (wsAt T p.1):=by
 simp only[lgT,List.mem_map,List.mem_range];constructor
 .rintro⟨i,hi,rfl⟩;exact⟨⟨by simp only;omega,by simp only;omega⟩,rfl⟩
 rintro⟨⟨h1,h2⟩,h3⟩;refine⟨(p.1-1).toNat,by omega,?_⟩;have e:(((p.1-1).toNat+1:Nat):Int)=p.1:=by omega
 rw[e,<-h3]
def shW(c:Cf)(x:Wt):Nat:=(Cf.shard c x.key).1.toNat
open Classical in
noncomputable def adx (L:Lg) (en:Int->Prop) (ks:List ByteArray):List Int:=if h:∃xs,AdT L en ks xs then Classical.choose h else []
theorem zll{L:Lg}{en:Int->Prop}{ks:List ByteArray}{xs:List Int}(h:AdT L en ks xs):adx L en ks=xs:=by
 have hx:∃xs,AdT L en ks xs:=⟨xs,h⟩;unfold adx;rw[dif_pos hx];have h2:=Classical.choose_spec hx;exact Ris.one h2.1 h.1 (fun m=>(h2.2 m).trans (h.2 m).symm)
open Classical in
noncomputable def frx (L:Lg) (en:Int->Prop) (n:Int):List Int:=if h:∃zs,DoT L (Op11 L en) n zs then Classical.choose h else []
theorem zir{L:Lg}{en:Int->Prop}{n:Int}{zs:List Int}(h:DoT L (Op11 L en) n zs):frx L en n=zs:=by
 have hx:∃zs,DoT L (Op11 L en) n zs:=⟨zs,h⟩;unfold frx;rw[dif_pos hx];have h2:=Classical.choose_spec hx;exact Ris.one h2.1 h.1 (fun m=>(h2.2 m).trans (h.2 m).symm)
def gdx(m:Int)(xs:List Int)(n:Int):Int×Int×List Int:=((adv m (insI n xs)).1-m,(adv m (insI n xs)).1,(adv m (insI n xs)).2)
def canD(c:Cf)(s:Ms):Nat:=if s.hv=false then (if s.rd<s.fd then 1 else 0) else if (s.rd:Int)<=s.ma+c.w then 3 else 0
def zjo(s:Ms):Ms:={s with rd:=s.rd+1,hv:=true,k:=s.k+1}
noncomputable def zax (T:List Tx) (s:Ms):List Int:=adx (lgT T s.d) s.en (zar (wsAt T (s.rd:Int)))
open Classical in
noncomputable def zay (T:List Tx) (s:Ms):Ms:=
 {s with hv:=false,d:=s.d+1,wt:=if zax T s=[] then s.wt else (fun m=>s.wt m\/m=(s.rd:Int)),line:=if zax T s=[] then s.line++[(s.rd:Int)] else s.line,k:=s.k+1}
def canW(c:Cf)(s:Ms)(i:Nat):Nat:=
 match s.ln i with
 |none=>if s.line=[] then 0 else 4
 |some h=>match h.l with
  |y::_=>if ((s.qs (shW c y)).length:Int)<c.q then 5 else 0
  | []=>if h.out=0 then 6 else 0
noncomputable def zev (T:List Tx) (s:Ms) (i:Nat) (n:Int) (r:List Int):Ms:={s with line:=r,ln:=upd s.ln i (some ⟨n,dd (wsAt T n),0⟩),k:=s.k+1}
def zbz(c:Cf)(s:Ms)(i:Nat)(h:Hl)(y:Wt)(r:List Wt):Ms:={s with ln:=upd s.ln i (some ⟨h.n,r,h.out+1⟩),qs:=upd s.qs (shW c y) (s.qs (shW c y)++[⟨((i+1:Nat):Int),h.n,y⟩]),k:=s.k+1}
def zfu(s:Ms)(i:Nat)(n:Int):Ms:={s with ln:=upd s.ln i none,pass:=s.pass++[n],k:=s.k+1}
def canK(s:Ms)(j:Nat):Nat:=if s.qs j=[] then 0 else 7
def ackH(h:Hl):Hl:=⟨h.n,h.l,h.out-1⟩
def zaz(s:Ms)(j:Nat)(e:Qe)(r:List Qe)(h:Hl)(M':ByteArray->List O.Vn):Ms:={s with qs:=upd s.qs j r,ln:=upd s.ln (e.f.toNat-1) (some (ackH h)),M:=upd s.M j M',k:=s.k+1}
def canG(s:Ms):Nat:=if s.pass=[] then 0 else 8
noncomputable def zcf (T:List Tx) (s:Ms) (n:Int) (r:List Int):Ms:=
 {s with pass:=r,ma:=(gdx s.ma s.bx n).2.1,bx:=(gdx s.ma s.bx n).2.2,en:=fun x=>s.en x\/x=n,wt:=fun m=>s.wt m/\m∉frx (lgT T s.d) s.en n,line:=s.line++frx (lgT T s.d) s.en n,k:=s.k+1}
def InQ(c:Cf)(s:Ms)(n:Int)(x:Wt):Prop:=∃j,j<c.s.toNat/\∃e∈s.qs j,e.n=n/\e.x=x
def Ins(c:Cf)(s:Ms)(n:Int)(x:Wt):Prop:=(⟨n,x.val,x.drop⟩:O.Vn)∈s.M (shW c x) x.key
def Opn(T:List Tx)(s:Ms)(n:Int):Prop:=Op11 (lgT T s.d) s.en n
def outs(q:Nat->List Qe)(f:Int):Nat->Nat
 |0=>0
 |m+1=>outs q f m+((q m).filter fun e=>decide (e.f=f)).length
theorem op_iff{T:List Tx}{d:Nat}{en:Int->Prop}{n:Int}:Op11 (lgT T d) en n↔(1<=n/\n<=(d:Int))/\¬en n:=by
 unfold Op11;constructor
 .rintro⟨⟨p,hp,rfl⟩,h⟩;exact⟨((zfb T d).1 hp).1,h⟩
 rintro⟨h1,h2⟩;exact⟨⟨(n,zar (wsAt T n)),(zfb T d).2 ⟨h1,rfl⟩,rfl⟩,h2⟩
theorem zmr(T:List Tx):∀d,RisL (lgT T d)
 |0=>RisL.nil
 |d+1=>by
  rw[zhn];refine (zmr T d).snoc (fun q hq=> ?_) (by simp only;omega);have:=((zfb T d).1 hq).1;simp only;omega
theorem zafe{T:List Tx}{d:Nat}{a m:Int}(ha:a<=(d:Int)):Dep (lgT T (d+1)) a m↔Dep (lgT T d) a m:=by
 rw[zhn,zcm];constructor
 .rintro (h|⟨h,_⟩)
  .exact h
  simp only at h;omega
 exact Or.inl
theorem zqw{T:List Tx}{d:Nat}{a m:Int}(h:Dep (lgT T d) a m):(1<=a/\a<=(d:Int))/\1<=m/\m<a:=by
 obtain⟨A,ks,C,e,h1,h2⟩:=id h;have hm:(a,ks)∈lgT T d:=by rw[e];simp
 have:=h.lt (zmr T d);exact⟨((zfb T d).1 hm).1,this.1,this.2.1⟩
theorem zaff{T:List Tx}{d:Nat}{m:Int}:Dep (lgT T (d+1)) ((d+1:Nat):Int) m↔m≠0/\∃k∈zar (wsAt T ((d+1:Nat):Int)),lst (lgT T d) k=m:=by
 rw[zhn,zcm];constructor
 .rintro (h|⟨_,h⟩)
  .have:=(zqw h).1;omega
  exact h
 exact fun h=>Or.inr ⟨rfl,h⟩
structure Wf(c:Cf)(T:List Tx)(s:Ms):Prop where
 may:c.may
 ok:okL 1 T
 nor:s.hv=false->s.rd=s.d
 hol:s.hv=true->s.rd=s.d+1
 fdl:s.rd<=s.fd/\s.fd<=T.length
 gok:Gok s.ma s.bx
 en:∀n,s.en n↔1<=n/\(n<=s.ma\/n∈s.bx)
 enl:∀n,s.en n->n<=(s.d:Int)
 win:(s.d:Int)<=s.ma+c.w
 wait:∀n,s.wt n↔Opn T s n/\∃y,Opn T s y/\Dep (lgT T s.d) n y
 line:∀n∈s.line,Opn T s n/\¬s.wt n
 pass:∀n∈s.pass,Opn T s n/\¬s.wt n
 lane:∀i h,i<c.l.toNat->s.ln i=some h->Opn T s h.n/\¬s.wt h.n
 all:∀n,Opn T s n->s.wt n\/n∈s.line\/n∈s.pass\/∃i h,i<c.l.toNat/\s.ln i=some h/\h.n=n
 nd1:s.line.Nodup
 nd2:s.pass.Nodup
 nd3:∀n∈s.line,n∉s.pass
 nd4:∀i h,i<c.l.toNat->s.ln i=some h->h.n∉s.line/\h.n∉s.pass
 nd5:∀i j h g,i<c.l.toNat->j<c.l.toNat->s.ln i=some h->s.ln j=some g->h.n=g.n->i=j
 las:∀i h,i<c.l.toNat->s.ln i=some h->∃A,dd (wsAt T h.n)=A++h.l/\(∀x∈A,InQ c s h.n x\/Ins c s h.n x)/\(∀j e,j<c.s.toNat->e∈s.qs j->e.n=h.n->e.x∈A)/\∀j k v,j<c.s.toNat->v∈s.M j k->v.num=h.n->∃x∈A,x.key=k
 out:∀i h,i<c.l.toNat->s.ln i=some h->h.out=outs s.qs ((i+1:Nat):Int) c.s.toNat
 req:∀j e,j<c.s.toNat->e∈s.qs j->shW c e.x=j/\∃i h,i<c.l.toNat/\e.f=((i+1:Nat):Int)/\s.ln i=some h/\h.n=e.n
 rq2:∀j,j<c.s.toNat->(s.qs j).Pairwise fun a b=>¬(a.n=b.n/\a.x.key=b.x.key)
 rq3:∀j e,j<c.s.toNat->e∈s.qs j->∀v∈s.M j e.x.key,v.num≠e.n
 que:∀j,j<c.s.toNat->((s.qs j).length:Int)<=c.q
 ver:∀j k v,j<c.s.toNat->v∈s.M j k->(1<=v.num/\v.num<=(s.d:Int))/\∃x∈dd (wsAt T v.num),x.key=k/\shW c x=j/\v=⟨v.num,x.val,x.drop⟩
 new:∀n,n∈s.line\/s.wt n->∀j k v,j<c.s.toNat->v∈s.M j k->v.num≠n
 fin:∀n,n∈s.pass\/s.en n->∀x∈dd (wsAt T n),Ins c s n x
 okv:∀j k,O.okV (s.M j k)
section
variable{c:Cf}{T:List Tx}{s:Ms}
theorem Wf.op(h:Wf c T s){n:Int}:Opn T s n↔(1<=n/\n<=(s.d:Int))/\¬s.en n:=op_iff
theorem Wf.free(h:Wf c T s){n:Int}(ho:Opn T s n)(hw:¬s.wt n):∀y,Opn T s y->¬Dep (lgT T s.d) n y:=fun y hy hd=>hw ((h.wait n).2 ⟨ho,y,hy,hd⟩)
theorem Wf.near(h:Wf c T s){n:Int}(ho:Opn T s n):s.ma<n/\n<=s.ma+c.w:=by
 obtain⟨⟨h1,h2⟩,h3⟩:=h.op.1 ho;have h4:=h.win;refine⟨?_,by omega⟩;apply Classical.byContradiction;intro h5;exact h3 ((h.en n).2 ⟨h1,Or.inl (by omega)⟩)
theorem Wf.txn(h:Wf c T s){n:Int}(h1:1<=n)(h2:n<=(T.length:Int)):okT n (wsAt T n):=by
 have:=zea h.ok (n-1).toNat (by omega);unfold wsAt;have e:(1+(n-1).toNat:Nat)=n.toNat:=by omega
 obtain⟨k1,k2⟩:=this;have e2:(T.getD (n-1).toNat Tx.zero).n=n:=by rw[k2];omega
 rw[<-e2];have:=k1;unfold Tx.ok at this;rw[e2]at this ⊢
 exact this
theorem Wf.dT(h:Wf c T s):(s.d:Int)<=(T.length:Int):=by
 have:=h.fdl;cases e:s.hv
 .have:=h.nor e;omega
 have:=h.hol e;omega
theorem Wf.read(h:Wf c T s)(hv:s.hv=false)(hr:s.rd<s.fd):Wf c T (zjo s):=
 {h with nor:=fun e=>(by cases e),hol:=fun _=>(by have:=h.nor hv;show s.rd+1=s.d+1;omega),fdl:=⟨by show s.rd+1<=s.fd;omega,h.fdl.2⟩}
theorem Wf.take(h:Wf c T s){i:Nat}(hi:i<c.l.toNat)(hn:s.ln i=none){n:Int}{r:List Int}(hl:s.line=n::r):Wf c T (zev T s i n r):=by
 have hnl:n∈s.line:=by rw[hl];simp
 have hrl:∀m∈r,m∈s.line:=fun m hm=>by rw[hl];simp[hm]
 have hnd:=h.nd1;rw[hl,List.nodup_cons]at hnd
 have lnx:∀j g,j<c.l.toNat->(zev T s i n r).ln j=some g->(j=i/\g=⟨n,dd (wsAt T n),0⟩)\/(j≠i/\s.ln j=some g):=fun j g hj e=>by
  by_cases hji:j=i
  .subst hji;have e2:upd s.ln j (some ⟨n,dd (wsAt T n),0⟩) j=some g:=e;rw[zad]at e2
   cases e2;exact Or.inl ⟨rfl,rfl⟩
  have e2:upd s.ln i (some ⟨n,dd (wsAt T n),0⟩) j=some g:=e;rw[zac _ _ hji]at e2
  exact Or.inr ⟨hji,e2⟩
 have lno:∀j g,s.ln j=some g->(zev T s i n r).ln j=some g:=fun j g e=>by
  have hji:j≠i:=fun x=>by rw[x,hn]at e;cases e
  exact (zac _ _ hji).trans e
 have lni:(zev T s i n r).ln i=some ⟨n,dd (wsAt T n),0⟩:=zad _ _ _;have noq:∀j e,j<c.s.toNat->e∈s.qs j->e.n≠n:=fun j e hj he hen=>by
  obtain⟨_,i',g,h1,h2,h3,h4⟩:=h.req j e hj he;exact (h.nd4 i' g h1 h3).1 (by rw[h4,hen];exact hnl)
 refine {h with line:=fun m hm=>h.line m (hrl m hm),lane:=fun j g hj e=> ?_,all:=fun m hm=> ?_,nd1:=hnd.2,nd3:=fun m hm=>h.nd3 m (hrl m hm),nd4:=fun j g hj e=> ?_,nd5:=fun a b f g ha hb ea eb e=> ?_,las:=fun j g hj e=> ?_,out:=fun j g hj e=> ?_,req:=fun j e hj he=> ?_,new:=fun m hm=>h.new m (hm.imp (hrl m) id)}
 .rcases lnx j g hj e with⟨rfl,rfl⟩|⟨_,e2⟩
  .exact h.line n hnl
  exact h.lane j g hj e2
 .rcases h.all m hm with a|a|a|⟨j,g,a1,a2,a3⟩
  .exact Or.inl a
  .rw[hl]at a
   rcases List.mem_cons.1 a with rfl|a
   .exact Or.inr (Or.inr (Or.inr ⟨i,_,hi,lni,rfl⟩))
   exact Or.inr (Or.inl a)
  .exact Or.inr (Or.inr (Or.inl a))
  exact Or.inr (Or.inr (Or.inr ⟨j,g,a1,lno j g a2,a3⟩))
 .rcases lnx j g hj e with⟨rfl,rfl⟩|⟨_,e2⟩
  .exact⟨hnd.1,h.nd3 n hnl⟩
  exact⟨fun hm=>(h.nd4 j g hj e2).1 (hrl _ hm),(h.nd4 j g hj e2).2⟩
 .rcases lnx a f ha ea with⟨rfl,rfl⟩|⟨_,e1⟩<;>rcases lnx b g hb eb with⟨rfl,rfl⟩|⟨_,e2⟩
  .rfl
  .exact absurd hnl (by have:=(h.nd4 b g hb e2).1;simp only at e;rw[<-e]at this;exact this)
  .exact absurd hnl (by have:=(h.nd4 a f ha e1).1;simp only at e;rw[e]at this;exact this)
  exact h.nd5 a b f g ha hb e1 e2 e
 .rcases lnx j g hj e with⟨rfl,rfl⟩|⟨_,e2⟩
  .exact⟨[],rfl,by simp,fun j e hj he hen=>absurd hen (noq j e hj he),fun j k v hj hv hvn=>absurd hvn (h.new n (Or.inl hnl) j k v hj hv)⟩
  exact h.las j g hj e2
 .rcases lnx j g hj e with⟨rfl,rfl⟩|⟨_,e2⟩
  .show 0=outs s.qs _ _;have:∀m,m<=c.s.toNat->outs s.qs ((j+1:Nat):Int) m=0:=by
    intro m;induction m with
    |zero=>intro _;rfl
    |succ m ih=>
     intro hm;rw[outs,ih (by omega),List.filter_eq_nil_iff.2]
     .rfl
     intro e he hf;obtain⟨_,i',g,h1,h2,h3,h4⟩:=h.req m e (by omega) he;have hf:e.f=((j+1:Nat):Int):=(by simpa using hf);have:i'=j:=(by omega);rw[this,hn]at h3
     cases h3
   exact (this _ (Nat.le_refl _)).symm
  exact h.out j g hj e2
 obtain⟨k1,i',g,h1,h2,h3,h4⟩:=h.req j e hj he;exact⟨k1,i',g,h1,h2,lno i' g h3,h4⟩
theorem Wf.done(h:Wf c T s){i:Nat}(hi:i<c.l.toNat){g:Hl}(hn:s.ln i=some g)(hl:g.l=[])(ho:g.out=0):Wf c T (zfu s i g.n):=by
 have lnx:∀j f,(zfu s i g.n).ln j=some f->j≠i/\s.ln j=some f:=fun j f e=>by
  by_cases hji:j=i
  .subst hji;have e2:upd s.ln j none j=some f:=e;rw[zad]at e2
   cases e2
  have e2:upd s.ln i none j=some f:=e;rw[zac _ _ hji]at e2
  exact⟨hji,e2⟩
 have lno:∀j f,j≠i->s.ln j=some f->(zfu s i g.n).ln j=some f:=fun j f hji e=>(zac _ _ hji).trans e;have hno:∀m,m<=c.s.toNat->outs s.qs ((i+1:Nat):Int) m=0->∀j,j<m->∀e∈s.qs j,e.f≠((i+1:Nat):Int):=by
  intro m;induction m with
  |zero=>intro _ _ j hj;omega
  |succ m ih=>
   intro hm h0 j hj e he hf;rw[outs]at h0
   by_cases hjm:j=m
   .subst hjm;have h1:((s.qs j).filter fun e=>decide (e.f=((i+1:Nat):Int))).length=0:=(by omega);have h2:=List.length_eq_zero_iff.1 h1;have h3:=List.filter_eq_nil_iff.1 h2 e he;simp[hf]at h3
   exact ih (by omega) (by omega) j (by omega) e he hf
 have hout:=h.out i g hi hn;rw[ho]at hout
 have noq:∀j e,j<c.s.toNat->e∈s.qs j->e.n≠g.n:=fun j e hj he hen=>by
  obtain⟨_,i',f,h1,h2,h3,h4⟩:=h.req j e hj he;have:i'=i:=h.nd5 i' i f g h1 hi h3 hn (by rw[h4,hen]);subst this;exact hno _ (Nat.le_refl _) hout.symm j hj e he h2
 refine {h with pass:=fun m hm=> ?_,lane:=fun j f hj e=>h.lane j f hj (lnx j f e).2,all:=fun m hm=> ?_,nd2:=?_,nd3:=fun m hm hp=> ?_,nd4:=fun j f hj e=>⟨(h.nd4 j f hj (lnx j f e).2).1,fun hp=> ?_⟩,nd5:=fun a b f f' ha hb ea eb e=>h.nd5 a b f f' ha hb (lnx a f ea).2 (lnx b f' eb).2 e,las:=fun j f hj e=>h.las j f hj (lnx j f e).2,out:=fun j f hj e=>h.out j f hj (lnx j f e).2,req:=fun j e hj he=> ?_,fin:=fun m hm x hx=> ?_}
 .rcases List.mem_append.1 hm with hm|hm
  .exact h.pass m hm
  rw[List.mem_singleton.1 hm];exact h.lane i g hi hn
 .rcases h.all m hm with a|a|a|⟨j,f,a1,a2,a3⟩
  .exact Or.inl a
  .exact Or.inr (Or.inl a)
  .exact Or.inr (Or.inr (Or.inl (List.mem_append_left _ a)))
  by_cases hji:j=i
  .subst hji;rw[hn]at a2
   cases a2;exact Or.inr (Or.inr (Or.inl (List.mem_append_right _ (by simp[a3]))))
  exact Or.inr (Or.inr (Or.inr ⟨j,f,a1,lno j f hji a2,a3⟩))
 .show (s.pass++[g.n]).Nodup;rw[List.nodup_append];refine⟨h.nd2,by simp,fun a ha b hb=> ?_⟩;rw[List.mem_singleton.1 hb];exact fun e=>(h.nd4 i g hi hn).2 (e▸ha)
 .rcases List.mem_append.1 hp with hp|hp
  .exact h.nd3 m hm hp
  rw[List.mem_singleton.1 hp]at hm;exact (h.nd4 i g hi hn).1 hm
 .rcases List.mem_append.1 hp with hp|hp
  .exact (h.nd4 j f hj (lnx j f e).2).2 hp
  have:=h.nd5 j i f g hj hi (lnx j f e).2 hn (List.mem_singleton.1 hp);exact (lnx j f e).1 this
 .obtain⟨k1,i',f,h1,h2,h3,h4⟩:=h.req j e hj he;have hne:i'≠i:=fun x=>by
   subst x;rw[hn]at h3
   cases h3;exact noq j e hj he h4.symm
  exact⟨k1,i',f,h1,h2,lno i' f hne h3,h4⟩
 have old:m∈s.pass\/s.en m->Ins c s m x:=fun hm=>h.fin m hm x hx;rcases hm with hm|hm
 .rcases List.mem_append.1 hm with hm|hm
  .exact old (Or.inl hm)
  rw[List.mem_singleton.1 hm]at hx ⊢
  obtain⟨A,a1,a2,a3,a4⟩:=h.las i g hi hn;rw[a1,hl,List.append_nil]at hx
  rcases a2 x hx with⟨j,hj,e,he,e1,e2⟩|a
  .exact absurd e1 (noq j e hj he)
  exact a
 exact old (Or.inr hm)
theorem Wf.send(h:Wf c T s){i:Nat}(hi:i<c.l.toNat){g:Hl}{y:Wt}{r:List Wt}(hn:s.ln i=some g)(hl:g.l=y::r)(hsh:shW c y<c.s.toNat)(hq:((s.qs (shW c y)).length:Int)<c.q):Wf c T (zbz c s i g y r):=by
 obtain⟨A,a1,a2,a3,a4⟩:=h.las i g hi hn;rw[hl]at a1
 have hkn:((dd (wsAt T g.n)).map (·.key)).Nodup:=zix _ _ (Nat.le_refl _);have hyA:∀x∈A,x.key≠y.key:=fun x hx e=>by
  rw[a1,List.map_append,List.map_cons,List.nodup_append]at hkn
  exact hkn.2.2 x.key (List.mem_map_of_mem hx) y.key (by simp) e
 have lnx:∀j f,(zbz c s i g y r).ln j=some f->(j=i/\f=⟨g.n,r,g.out+1⟩)\/(j≠i/\s.ln j=some f):=fun j f e=>by
  by_cases hji:j=i
  .subst hji;have e2:upd s.ln j (some ⟨g.n,r,g.out+1⟩) j=some f:=e;rw[zad]at e2
   cases e2;exact Or.inl ⟨rfl,rfl⟩
  have e2:upd s.ln i (some ⟨g.n,r,g.out+1⟩) j=some f:=e;rw[zac _ _ hji]at e2
  exact Or.inr ⟨hji,e2⟩
 have lno:∀j f,j≠i->s.ln j=some f->(zbz c s i g y r).ln j=some f:=fun j f hji e=>(zac _ _ hji).trans e;have lni:(zbz c s i g y r).ln i=some ⟨g.n,r,g.out+1⟩:=zad _ _ _;have qx:∀j e,e∈(zbz c s i g y r).qs j->e∈s.qs j\/(j=shW c y/\e=⟨((i+1:Nat):Int),g.n,y⟩):=fun j e he=>by
  have e2:e∈upd s.qs (shW c y) (s.qs (shW c y)++[⟨((i+1:Nat):Int),g.n,y⟩]) j:=he;by_cases hj:j=shW c y
  .subst hj;rw[zad]at e2
   exact (List.mem_append.1 e2).imp id fun x=>⟨rfl,List.mem_singleton.1 x⟩
  rw[zac _ _ hj]at e2
  exact Or.inl e2
 have qo:∀j e,e∈s.qs j->e∈(zbz c s i g y r).qs j:=fun j e he=>by
  show e∈upd s.qs (shW c y) (s.qs (shW c y)++[⟨((i+1:Nat):Int),g.n,y⟩]) j;by_cases hj:j=shW c y
  .subst hj;rw[zad];exact List.mem_append_left _ he
  rw[zac _ _ hj];exact he
 have qn:(⟨((i+1:Nat):Int),g.n,y⟩:Qe)∈(zbz c s i g y r).qs (shW c y):=by
  show _∈upd s.qs (shW c y) (s.qs (shW c y)++[⟨((i+1:Nat):Int),g.n,y⟩]) (shW c y);rw[zad];simp
 have hof:∀f m,m<=c.s.toNat->outs (zbz c s i g y r).qs f m=outs s.qs f m+(if shW c y<m/\f=((i+1:Nat):Int) then 1 else 0):=by
  intro f m;induction m with
  |zero=>intro _;rw[if_neg (by omega)];rfl
  |succ m ih=>
   intro hm;rw[outs,outs,ih (by omega)];by_cases hj:m=shW c y
   .have e:(zbz c s i g y r).qs m=s.qs m++[⟨((i+1:Nat):Int),g.n,y⟩]:=by rw[hj];exact zad _ _ _
    rw[e,List.filter_append,List.length_append,if_neg (by omega)];by_cases hf:f=((i+1:Nat):Int)
    .rw[if_pos ⟨by omega,hf⟩,hf];simp;omega
    rw[if_neg (fun x=>hf x.2),List.filter_cons,if_neg (by simpa using fun x=>hf x.symm)];simp
   have e:(zbz c s i g y r).qs m=s.qs m:=zac _ _ hj;rw[e];by_cases hf:shW c y<m/\f=((i+1:Nat):Int)
   .rw[if_pos hf,if_pos ⟨by omega,hf.2⟩];omega
   rw[if_neg hf,if_neg (fun x=>hf ⟨by omega,x.2⟩)];omega
 have inq:∀n x,InQ c s n x->InQ c (zbz c s i g y r) n x:=fun n x ⟨j,hj,e,he,h1,h2⟩=>⟨j,hj,e,qo j e he,h1,h2⟩;have nin:∀j e,j<c.s.toNat->e∈s.qs j->e.n=g.n->e.x.key≠y.key:=fun j e hj he hen=>hyA _ (a3 j e hj he hen);refine {h with lane:=fun j f hj e=> ?_,all:=fun m hm=> ?_,nd4:=fun j f hj e=> ?_,nd5:=fun a b f f' ha hb ea eb e=> ?_,las:=fun j f hj e=> ?_,out:=fun j f hj e=> ?_,req:=fun j e hj he=> ?_,rq2:=fun j hj=> ?_,rq3:=fun j e hj he v hv=> ?_,que:=fun j hj=> ?_}
 .rcases lnx j f e with⟨rfl,rfl⟩|⟨_,e2⟩
  .exact h.lane j g hj hn
  exact h.lane j f hj e2
 .rcases h.all m hm with a|a|a|⟨j,f,b1,b2,b3⟩
  .exact Or.inl a
  .exact Or.inr (Or.inl a)
  .exact Or.inr (Or.inr (Or.inl a))
  by_cases hji:j=i
  .subst hji;rw[hn]at b2
   cases b2;exact Or.inr (Or.inr (Or.inr ⟨j,_,b1,lni,b3⟩))
  exact Or.inr (Or.inr (Or.inr ⟨j,f,b1,lno j f hji b2,b3⟩))
 .rcases lnx j f e with⟨rfl,rfl⟩|⟨_,e2⟩
  .exact h.nd4 j g hj hn
  exact h.nd4 j f hj e2
 .rcases lnx a f ea with⟨rfl,rfl⟩|⟨_,e1⟩<;>rcases lnx b f' eb with⟨rfl,rfl⟩|⟨_,e2⟩
  .rfl
  .exact h.nd5 a b g f' ha hb hn e2 e
  .exact h.nd5 a b f g ha hb e1 hn e
  exact h.nd5 a b f f' ha hb e1 e2 e
 .rcases lnx j f e with⟨rfl,rfl⟩|⟨hji,e2⟩
  .refine⟨A++[y],by rw[a1];simp,fun x hx=> ?_,fun j' e hj' he hen=> ?_,fun j' k v hj' hv hvn=> ?_⟩
   .rcases List.mem_append.1 hx with hx|hx
    .exact (a2 x hx).imp (inq _ _) id
    rw[List.mem_singleton.1 hx];exact Or.inl ⟨shW c y,hsh,_,qn,rfl,rfl⟩
   .rcases qx j' e he with he|⟨_,rfl⟩
    .exact List.mem_append_left _ (a3 j' e hj' he hen)
    simp
   obtain⟨x,hx,hk⟩:=a4 j' k v hj' hv hvn;exact⟨x,List.mem_append_left _ hx,hk⟩
  obtain⟨B,b1,b2,b3,b4⟩:=h.las j f hj e2;refine⟨B,b1,fun x hx=>(b2 x hx).imp (inq _ _) id,fun j' e hj' he hen=> ?_,b4⟩;rcases qx j' e he with he|⟨_,rfl⟩
  .exact b3 j' e hj' he hen
  exact absurd (h.nd5 j i f g hj hi e2 hn hen.symm) hji
 .rcases lnx j f e with⟨rfl,rfl⟩|⟨hji,e2⟩
  .rw[hof _ _ (Nat.le_refl _),if_pos ⟨hsh,rfl⟩,<-h.out j g hj hn]
  rw[hof _ _ (Nat.le_refl _),if_neg (fun x=>hji (by have:=x.2;omega)),<-h.out j f hj e2];rfl
 .rcases qx j e he with he|⟨rfl,rfl⟩
  .obtain⟨k1,i',f,h1,h2,h3,h4⟩:=h.req j e hj he;by_cases hji:i'=i
   .subst hji;rw[hn]at h3
    cases h3;exact⟨k1,i',_,h1,h2,lni,h4⟩
   exact⟨k1,i',f,h1,h2,lno i' f hji h3,h4⟩
  exact⟨rfl,i,_,hi,rfl,lni,rfl⟩
 .show (upd s.qs (shW c y) (s.qs (shW c y)++[⟨((i+1:Nat):Int),g.n,y⟩]) j).Pairwise _;by_cases hj':j=shW c y
  .subst hj';rw[zad,List.pairwise_append];refine⟨h.rq2 _ hj,List.pairwise_singleton _ _,fun a ha b hb=> ?_⟩;rw[List.mem_singleton.1 hb];exact fun x=>nin _ a hj ha x.1 x.2
  rw[zac _ _ hj'];exact h.rq2 j hj
 .rcases qx j e he with he|⟨rfl,rfl⟩
  .exact h.rq3 j e hj he v hv
  intro hvn;obtain⟨x,hx,hk⟩:=a4 _ _ v hj hv hvn;exact hyA x hx hk
 show ((upd s.qs (shW c y) (s.qs (shW c y)++[⟨((i+1:Nat):Int),g.n,y⟩]) j).length:Int)<=c.q;by_cases hj':j=shW c y
 .subst hj';rw[zad];simp;omega
 rw[zac _ _ hj'];exact h.que j hj
theorem Wf.serve(h:Wf c T s){j:Nat}(hj:j<c.s.toNat){e:Qe}{r:List Qe}(hq:s.qs j=e::r){i:Nat}{g:Hl}(hi:i<c.l.toNat)(hf:e.f=((i+1:Nat):Int))(hn:s.ln i=some g){M':ByteArray->List O.Vn}(hM:O.PutM (s.M j) e.x.key ⟨e.n,e.x.val,e.x.drop⟩ M' true):Wf c T (zaz s j e r g M'):=by
 have hej:e∈s.qs j:=by rw[hq];simp
 have hgn:g.n=e.n:=by
  obtain⟨_,i',f,h1,h2,h3,h4⟩:=h.req j e hj hej;have:i'=i:=by omega
  subst this;rw[hn]at h3
  cases h3;exact h4
 have hsh:=(h.req j e hj hej).1;have hidx:e.f.toNat-1=i:=by omega
 obtain⟨hne,us,hM',hok,hmem⟩:(∀y∈s.M j e.x.key,y.num≠e.n)/\∃us,M'=O.updM (s.M j) e.x.key us/\O.okV us/\∀x,x∈us↔x∈s.M j e.x.key\/x=⟨e.n,e.x.val,e.x.drop⟩:=by
  rcases hM with⟨h1,_⟩|⟨_,h2,h3⟩
  .cases h1
  exact⟨h2,h3⟩
 have lnx:∀k f,(zaz s j e r g M').ln k=some f->(k=i/\f=ackH g)\/(k≠i/\s.ln k=some f):=fun k f ek=>by
  have e2:upd s.ln (e.f.toNat-1) (some (ackH g)) k=some f:=ek;rw[hidx]at e2
  by_cases hki:k=i
  .subst hki;rw[zad]at e2;cases e2;exact Or.inl ⟨rfl,rfl⟩
  rw[zac _ _ hki]at e2;exact Or.inr ⟨hki,e2⟩
 have lno:∀k f,k≠i->s.ln k=some f->(zaz s j e r g M').ln k=some f:=fun k f hki ek=>by
  show upd s.ln (e.f.toNat-1) (some (ackH g)) k=some f;rw[hidx,zac _ _ hki];exact ek
 have lni:(zaz s j e r g M').ln i=some (ackH g):=by
  show upd s.ln (e.f.toNat-1) (some (ackH g)) i=_;rw[hidx,zad]
 have qx:∀k f,f∈(zaz s j e r g M').qs k->f∈s.qs k:=fun k f hf'=>by
  have e2:f∈upd s.qs j r k:=hf';by_cases hk:k=j
  .subst hk;rw[zad]at e2;rw[hq];exact List.mem_cons_of_mem _ e2
  rw[zac _ _ hk]at e2;exact e2
 have qo:∀k f,f∈s.qs k->f∈(zaz s j e r g M').qs k\/(k=j/\f=e):=fun k f hf'=>by
  show f∈upd s.qs j r k\/_;by_cases hk:k=j
  .subst hk;rw[zad];rw[hq]at hf'
   rcases List.mem_cons.1 hf' with rfl|h2
   .exact Or.inr ⟨rfl,rfl⟩
   exact Or.inl h2
  rw[zac _ _ hk];exact Or.inl hf'
 have mx:∀k key v,v∈(zaz s j e r g M').M k key->v∈s.M k key\/(k=j/\key=e.x.key/\v=⟨e.n,e.x.val,e.x.drop⟩):=fun k key v hv=>by
  have e2:v∈upd s.M j M' k key:=hv;by_cases hk:k=j
  .subst hk;rw[zad,hM']at e2
   unfold O.updM at e2;split at e2
   .rename_i hkk;subst hkk;exact ((hmem v).1 e2).imp id fun x=>⟨rfl,rfl,x⟩
   exact Or.inl e2
  rw[zac _ _ hk]at e2;exact Or.inl e2
 have mo:∀k key v,v∈s.M k key->v∈(zaz s j e r g M').M k key:=fun k key v hv=>by
  show v∈upd s.M j M' k key;by_cases hk:k=j
  .subst hk;rw[zad,hM'];unfold O.updM;split
   .rename_i hkk;subst hkk;exact (hmem v).2 (Or.inl hv)
   exact hv
  rw[zac _ _ hk];exact hv
 have mn:(⟨e.n,e.x.val,e.x.drop⟩:O.Vn)∈(zaz s j e r g M').M j e.x.key:=by
  show _∈upd s.M j M' j e.x.key;rw[zad,hM'];unfold O.updM;rw[if_pos rfl];exact (hmem _).2 (Or.inr rfl)
 have ins:∀n x,Ins c s n x->Ins c (zaz s j e r g M') n x:=fun n x hx=>mo _ _ _ hx;have insE:Ins c (zaz s j e r g M') e.n e.x:=by
  show _∈(zaz s j e r g M').M (shW c e.x) e.x.key;rw[hsh];exact mn
 have hxdd:e.x∈dd (wsAt T e.n):=by
  obtain⟨A,a1,_,a3,_⟩:=h.las i g hi hn;rw[<-hgn,a1];exact List.mem_append_left _ (a3 j e hj hej hgn.symm)
 have hop:=h.lane i g hi hn;have hof:∀f m,m<=c.s.toNat->outs (zaz s j e r g M').qs f m+(if j<m/\f=e.f then 1 else 0)=outs s.qs f m:=by
  intro f m;induction m with
  |zero=>intro _;rw[if_neg (by omega)];rfl
  |succ m ih=>
   intro hm;have ih:=ih (by omega);rw[outs,outs];by_cases hjm:m=j
   .have e1:(zaz s j e r g M').qs m=r:=by rw[hjm];exact zad _ _ _
    rw[e1,hjm,hq,List.filter_cons];rw[hjm,if_neg (by omega)]at ih
    by_cases hff:f=e.f
    .rw[if_pos ⟨by omega,hff⟩,if_pos (by simp[hff]),List.length_cons];omega
    rw[if_neg (fun x=>hff x.2),if_neg (by simpa using fun x=>hff x.symm)];omega
   have e1:(zaz s j e r g M').qs m=s.qs m:=zac _ _ hjm;rw[e1];by_cases hff:j<m/\f=e.f
   .rw[if_pos hff]at ih;rw[if_pos ⟨by omega,hff.2⟩];omega
   rw[if_neg hff]at ih;rw[if_neg (fun x=>hff ⟨by omega,x.2⟩)];omega
 refine {h with lane:=fun k f hk ek=> ?_,all:=fun m hm=> ?_,nd4:=fun k f hk ek=> ?_,nd5:=fun a b f f' ha hb ea eb ee=> ?_,las:=fun k f hk ek=> ?_,out:=fun k f hk ek=> ?_,req:=fun k f hk hf'=> ?_,rq2:=fun k hk=> ?_,rq3:=fun k f hk hf' v hv=> ?_,que:=fun k hk=> ?_,ver:=fun k key v hk hv=> ?_,new:=fun m hm k key v hk hv=> ?_,fin:=fun m hm x hx=>ins _ _ (h.fin m hm x hx),okv:=fun k key=> ?_}
 .rcases lnx k f ek with⟨rfl,rfl⟩|⟨_,e2⟩
  .exact hop
  exact h.lane k f hk e2
 .rcases h.all m hm with a|a|a|⟨k,f,b1,b2,b3⟩
  .exact Or.inl a
  .exact Or.inr (Or.inl a)
  .exact Or.inr (Or.inr (Or.inl a))
  by_cases hki:k=i
  .subst hki;rw[hn]at b2
   cases b2;exact Or.inr (Or.inr (Or.inr ⟨k,_,b1,lni,b3⟩))
  exact Or.inr (Or.inr (Or.inr ⟨k,f,b1,lno k f hki b2,b3⟩))
 .rcases lnx k f ek with⟨rfl,rfl⟩|⟨_,e2⟩
  .exact h.nd4 k g hk hn
  exact h.nd4 k f hk e2
 .rcases lnx a f ea with⟨rfl,rfl⟩|⟨_,e1⟩<;>rcases lnx b f' eb with⟨rfl,rfl⟩|⟨_,e2⟩
  .rfl
  .exact h.nd5 a b g f' ha hb hn e2 ee
  .exact h.nd5 a b f g ha hb e1 hn ee
  exact h.nd5 a b f f' ha hb e1 e2 ee
 .have gen:∀f,s.ln k=some f->∃A,dd (wsAt T f.n)=A++f.l/\(∀x∈A,InQ c (zaz s j e r g M') f.n x\/Ins c (zaz s j e r g M') f.n x)/\(∀j' e',j'<c.s.toNat->e'∈(zaz s j e r g M').qs j'->e'.n=f.n->e'.x∈A)/\∀j' key v,j'<c.s.toNat->v∈(zaz s j e r g M').M j' key->v.num=f.n->∃x∈A,x.key=key:=fun f hf'=>by
   obtain⟨A,a1,a2,a3,a4⟩:=h.las k f hk hf';refine⟨A,a1,fun x hx=> ?_,fun j' e' hj' he' hen=>a3 j' e' hj' (qx _ _ he') hen,fun j' key v hj' hv hvn=> ?_⟩
   .rcases a2 x hx with⟨j',hj',e',he',h1,h2⟩|a
    .rcases qo j' e' he' with he'|⟨rfl,rfl⟩
     .exact Or.inl ⟨j',hj',e',he',h1,h2⟩
     rw[<-h1,<-h2];exact Or.inr insE
    exact Or.inr (ins _ _ a)
   rcases mx j' key v hv with hv|⟨rfl,rfl,rfl⟩
   .exact a4 j' key v hj' hv hvn
   exact⟨e.x,a3 j' e hj' hej hvn,rfl⟩
  rcases lnx k f ek with⟨rfl,rfl⟩|⟨_,e2⟩
  .exact gen g hn
  exact gen f e2
 .have e1:=hof ((k+1:Nat):Int) c.s.toNat (Nat.le_refl _);rcases lnx k f ek with⟨rfl,rfl⟩|⟨hki,e2⟩
  .rw[if_pos ⟨hj,hf.symm⟩,<-h.out k g hk hn]at e1
   show g.out-1=_;omega
  rw[if_neg (fun x=>hki (by have:=x.2;rw[hf]at this;omega)),<-h.out k f hk e2]at e1
  exact e1.symm
 .obtain⟨k1,i',f',h1,h2,h3,h4⟩:=h.req k f hk (qx _ _ hf');by_cases hji:i'=i
  .subst hji;rw[hn]at h3
   cases h3;exact⟨k1,i',_,h1,h2,lni,h4⟩
  exact⟨k1,i',f',h1,h2,lno i' f' hji h3,h4⟩
 .show (upd s.qs j r k).Pairwise _;have:=h.rq2 k hk;by_cases hk':k=j
  .subst hk';rw[zad];rw[hq,List.pairwise_cons]at this;exact this.2
  rw[zac _ _ hk'];exact this
 .rcases mx k _ v hv with hv|⟨rfl,hkey,rfl⟩
  .exact h.rq3 k f hk (qx _ _ hf') v hv
  intro hen;have h2:f∈r:=by
   have e2:f∈upd s.qs k r k:=hf';rw[zad]at e2;exact e2
  have h3:=h.rq2 k hk;rw[hq,List.pairwise_cons]at h3
  exact h3.1 f h2 ⟨hen,hkey.symm⟩
 .show ((upd s.qs j r k).length:Int)<=c.q;have:=h.que k hk;by_cases hk':k=j
  .subst hk';rw[zad];rw[hq,List.length_cons]at this;omega
  rw[zac _ _ hk'];exact this
 .rcases mx k key v hv with hv|⟨rfl,rfl,rfl⟩
  .exact h.ver k key v hk hv
  have:=h.op.1 hop.1;refine⟨by rw[<-hgn];exact this.1,e.x,hxdd,rfl,hsh,rfl⟩
 .rcases mx k key v hv with hv|⟨rfl,rfl,rfl⟩
  .exact h.new m hm k key v hk hv
  intro hen;simp only at hen;rcases hm with hm|hm
  .exact (h.nd4 i g hi hn).1 (by rw[hgn,hen];exact hm)
  exact hop.2 (by rw[hgn,hen];exact hm)
 show O.okV (upd s.M j M' k key);by_cases hk':k=j
 .subst hk';rw[zad,hM'];unfold O.updM;split
  .exact hok
  exact h.okv _ _
 rw[zac _ _ hk'];exact h.okv _ _
theorem Wf.disp(h:Wf c T s)(hv:s.hv=true)(hr:(s.rd:Int)<=s.ma+c.w){xs:List Int}(hx:AdT (lgT T s.d) s.en (zar (wsAt T (s.rd:Int))) xs):Wf c T (zay T s):=by
 have hrd:=h.hol hv;have hrd':(s.rd:Int)=((s.d+1:Nat):Int):=by omega
 have hw:zax T s=xs:=zll hx;have hen:¬s.en (s.rd:Int):=fun e=>by have:=h.enl _ e;omega
 have opn:∀n,Opn T (zay T s) n↔Opn T s n\/n=(s.rd:Int):=fun n=>by
  show Op11 (lgT T (s.d+1)) s.en n↔_;rw[op_iff,h.op];constructor
  .rintro⟨⟨h1,h2⟩,h3⟩;by_cases e:n=(s.rd:Int)
   .exact Or.inr e
   exact Or.inl ⟨⟨h1,by omega⟩,h3⟩
  rintro (⟨⟨h1,h2⟩,h3⟩|rfl)
  .exact⟨⟨h1,by omega⟩,h3⟩
  exact⟨⟨by omega,by omega⟩,hen⟩
 have no:∀n,Opn T s n->n≠(s.rd:Int):=fun n hn e=>by have:=(h.op.1 hn).1;omega
 have dold:∀n y,Opn T s n->(Dep (lgT T (s.d+1)) n y↔Dep (lgT T s.d) n y):=fun n y hn=>zafe (h.op.1 hn).1.2;have dnew:∀y,Dep (lgT T (s.d+1)) (s.rd:Int) y↔y≠0/\∃k∈zar (wsAt T (s.rd:Int)),lst (lgT T s.d) k=y:=fun y=>by
  rw[hrd'];exact zaff
 have xsn:xs=[]↔ ¬ ∃y,Opn T s y/\Dep (lgT T (s.d+1)) (s.rd:Int) y:=by
  constructor
  .rintro rfl⟨y,hy,hd⟩;have:=(hx.2 y).2 ⟨hy,((dnew y).1 hd).2⟩;cases this
  intro hno;refine List.eq_nil_iff_forall_not_mem.2 fun y hy=>hno ⟨y,((hx.2 y).1 hy).1,(dnew y).2 ⟨?_,((hx.2 y).1 hy).2⟩⟩;have:=(h.op.1 ((hx.2 y).1 hy).1).1;omega
 have wtx:∀n,(zay T s).wt n↔s.wt n\/(xs≠[]/\n=(s.rd:Int)):=fun n=>by
  show (if zax T s=[] then s.wt else fun m=>s.wt m\/m=(s.rd:Int)) n↔_;rw[hw];split
  .rename_i e;simp[e]
  rename_i e;simp[e]
 have lix:∀n,n∈(zay T s).line↔n∈s.line\/(xs=[]/\n=(s.rd:Int)):=fun n=>by
  show n∈(if zax T s=[] then s.line++[(s.rd:Int)] else s.line)↔_;rw[hw];split
  .rename_i e;simp[e]
  rename_i e;simp[e]
 have wtno:¬s.wt (s.rd:Int):=fun e=>no _ ((h.wait _).1 e).1 rfl;have vno:∀j k v,j<c.s.toNat->v∈s.M j k->v.num≠(s.rd:Int):=fun j k v hj hv' e=>by have:=(h.ver j k v hj hv').1;omega
 have linno:(s.rd:Int)∉s.line:=fun hm=>no _ (h.line _ hm).1 rfl;have pasno:(s.rd:Int)∉s.pass:=fun hm=>no _ (h.pass _ hm).1 rfl;have wtold:∀n,Opn T s n->¬s.wt n->¬(zay T s).wt n:=fun n hn hw' e=>((wtx n).1 e).elim hw' fun x=>no n hn x.2;refine {h with nor:=fun _=>hrd,hol:=fun e=>(by cases e),enl:=fun n hn=> ?_,win:=by show ((s.d+1:Nat):Int)<=s.ma+c.w;omega,wait:=fun n=> ?_,line:=fun n hn=> ?_,pass:=fun n hn=>⟨(opn n).2 (Or.inl (h.pass n hn).1),wtold n (h.pass n hn).1 (h.pass n hn).2⟩,lane:=fun i f hi e=>⟨(opn _).2 (Or.inl (h.lane i f hi e).1),wtold _ (h.lane i f hi e).1 (h.lane i f hi e).2⟩,all:=fun n hn=> ?_,nd1:=?_,nd3:=fun n hn=> ?_,nd4:=fun i f hi e=>⟨fun hm=> ?_,(h.nd4 i f hi e).2⟩,ver:=fun j k v hj hv'=> ?_,new:=fun n hn j k v hj hv'=> ?_}
 .show n<=((s.d+1:Nat):Int);have:=h.enl n hn;omega
 .rw[wtx,h.wait];show _↔Opn T (zay T s) n/\∃y,Opn T (zay T s) y/\Dep (lgT T (s.d+1)) n y;constructor
  .rintro (⟨h1,y,h2,h3⟩|⟨h1,rfl⟩)
   .exact⟨(opn n).2 (Or.inl h1),y,(opn y).2 (Or.inl h2),(dold n y h1).2 h3⟩
   obtain⟨y,h2,h3⟩:=Classical.byContradiction fun hc=>h1 (xsn.2 hc);exact⟨(opn _).2 (Or.inr rfl),y,(opn y).2 (Or.inl h2),h3⟩
  rintro⟨h1,y,h2,h3⟩;have hy:Opn T s y:=by
   rcases (opn y).1 h2 with a|rfl
   .exact a
   have:=zqw h3;omega
  rcases (opn n).1 h1 with a|rfl
  .exact Or.inl ⟨a,y,hy,(dold n y a).1 h3⟩
  exact Or.inr ⟨fun e=>xsn.1 e ⟨y,hy,h3⟩,rfl⟩
 .rcases (lix n).1 hn with a|⟨a,rfl⟩
  .exact⟨(opn n).2 (Or.inl (h.line n a).1),wtold n (h.line n a).1 (h.line n a).2⟩
  exact⟨(opn _).2 (Or.inr rfl),fun e=>((wtx _).1 e).elim wtno fun x=>x.1 a⟩
 .rcases (opn n).1 hn with a|rfl
  .rcases h.all n a with b|b|b|b
   .exact Or.inl ((wtx n).2 (Or.inl b))
   .exact Or.inr (Or.inl ((lix n).2 (Or.inl b)))
   .exact Or.inr (Or.inr (Or.inl b))
   exact Or.inr (Or.inr (Or.inr b))
  by_cases e:xs=[]
  .exact Or.inr (Or.inl ((lix _).2 (Or.inr ⟨e,rfl⟩)))
  exact Or.inl ((wtx _).2 (Or.inr ⟨e,rfl⟩))
 .show (if zax T s=[] then s.line++[(s.rd:Int)] else s.line).Nodup;split
  .rw[List.nodup_append];refine⟨h.nd1,by simp,fun a ha b hb=> ?_⟩;rw[List.mem_singleton.1 hb];exact fun e=>linno (e▸ha)
  exact h.nd1
 .rcases (lix n).1 hn with a|⟨_,rfl⟩
  .exact h.nd3 n a
  exact pasno
 .rcases (lix _).1 hm with a|⟨_,a⟩
  .exact (h.nd4 i f hi e).1 a
  exact no _ (h.lane i f hi e).1 a
 .obtain⟨⟨h1,h2⟩,h3⟩:=h.ver j k v hj hv';exact⟨⟨h1,by show v.num<=((s.d+1:Nat):Int);omega⟩,h3⟩
 rcases hn with hn|hn
 .rcases (lix n).1 hn with a|⟨_,rfl⟩
  .exact h.new n (Or.inl a) j k v hj hv'
  exact vno j k v hj hv'
 rcases (wtx n).1 hn with a|⟨_,rfl⟩
 .exact h.new n (Or.inr a) j k v hj hv'
 exact vno j k v hj hv'
theorem Wf.gate(h:Wf c T s){n:Int}{r:List Int}(hp:s.pass=n::r){zs:List Int}(hz:DoT (lgT T s.d) (Op11 (lgT T s.d) s.en) n zs):Wf c T (zcf T s n r):=by
 have hnp:n∈s.pass:=by rw[hp];simp
 have hno:=(h.pass n hnp).1;have hnb:=h.op.1 hno;have hfr:frx (lgT T s.d) s.en n=zs:=zir hz;have hnd:=h.nd2;rw[hp,List.nodup_cons]at hnd
 have hdT:=h.dT;have hT:(T.length:Int)<=65536:=by have:=zdb h.ok;omega
 have hn1:¬(n<=s.ma\/n∈s.bx):=fun e=>hnb.2 ((h.en n).2 ⟨hnb.1.1,e⟩);have hins:=h.gok.1.ins hnb.1.1 (by omega) hn1;have hadv:=zpo _ _ hins;have hma:(gdx s.ma s.bx n).2.1=(adv s.ma (insI n s.bx)).1:=rfl;have hbx:(gdx s.ma s.bx n).2.2=(adv s.ma (insI n s.bx)).2:=rfl;have hle:s.ma<=(gdx s.ma s.bx n).2.1:=by rw[hma];exact hadv.2.2.1
 have opn:∀m,Opn T (zcf T s n r) m↔Opn T s m/\m≠n:=fun m=>by
  show Op11 (lgT T s.d) (fun x=>s.en x\/x=n) m↔_;rw[op_iff,h.op];constructor
  .rintro⟨h1,h2⟩;exact⟨⟨h1,fun e=>h2 (Or.inl e)⟩,fun e=>h2 (Or.inr e)⟩
  rintro⟨⟨h1,h2⟩,h3⟩;exact⟨h1,fun e=>e.elim h2 h3⟩
 have wtx:∀m,(zcf T s n r).wt m↔s.wt m/\m∉zs:=fun m=>by
  show (s.wt m/\m∉frx (lgT T s.d) s.en n)↔_;rw[hfr]
 have lix:∀m,m∈(zcf T s n r).line↔m∈s.line\/m∈zs:=fun m=>by
  show m∈s.line++frx (lgT T s.d) s.en n↔_;rw[hfr,List.mem_append]
 have zwt:∀m∈zs,s.wt m:=fun m hm=>by
  obtain⟨h1,h2,_⟩:=(hz.2 m).1 hm;exact (h.wait m).2 ⟨h1,n,hno,h2⟩
 have nself:¬s.wt n:=(h.pass n hnp).2;have hrp:∀m∈r,m∈s.pass:=fun m hm=>by rw[hp];simp[hm]
 have hne:∀m,m∈s.line\/m∈zs->m≠n:=fun m hm e=>by
  subst e;rcases hm with hm|hm
  .exact h.nd3 m hm hnp
  exact nself (zwt m hm)
 refine {h with gok:=?_,en:=fun m=> ?_,enl:=fun m hm=> ?_,win:=?_,wait:=fun m=> ?_,line:=fun m hm=> ?_,pass:=fun m hm=> ?_,lane:=fun i f hi e=> ?_,all:=fun m hm=> ?_,nd1:=?_,nd2:=hnd.2,nd3:=fun m hm hr=> ?_,nd4:=fun i f hi e=>⟨fun hm=> ?_,fun hm=>(h.nd4 i f hi e).2 (hrp _ hm)⟩,new:=fun m hm=>h.new m ?_,fin:=fun m hm x hx=> ?_}
 .show Gok (gdx s.ma s.bx n).2.1 (gdx s.ma s.bx n).2.2;rw[hma,hbx];exact⟨hadv.1,hadv.2.1⟩
 .show (s.en m\/m=n)↔1<=m/\(m<=(gdx s.ma s.bx n).2.1\/m∈(gdx s.ma s.bx n).2.2);rw[hma,hbx,hadv.2.2.2 m,zfd,h.en];constructor
  .rintro (⟨h1,h2⟩|rfl)
   .exact⟨h1,h2.imp id Or.inr⟩
   exact⟨hnb.1.1,Or.inr (Or.inl rfl)⟩
  rintro⟨h1,h2|rfl|h2⟩
  .exact Or.inl ⟨h1,Or.inl h2⟩
  .exact Or.inr rfl
  exact Or.inl ⟨h1,Or.inr h2⟩
 .rcases hm with hm|rfl
  .exact h.enl m hm
  exact hnb.1.2
 .show (s.d:Int)<=(gdx s.ma s.bx n).2.1+c.w;have:=h.win;omega
 .rw[wtx];show _↔Opn T (zcf T s n r) m/\∃y,Opn T (zcf T s n r) y/\Dep (lgT T s.d) m y;constructor
  .rintro⟨h1,h2⟩;obtain⟨k1,y,k2,k3⟩:=(h.wait m).1 h1;refine⟨(opn m).2 ⟨k1,fun e=>nself (e▸h1)⟩,?_⟩;apply Classical.byContradiction;intro hc;have only:∀y,Opn T s y->y≠n->¬Dep (lgT T s.d) m y:=fun y hy hyn hd=>hc ⟨y,(opn y).2 ⟨hy,hyn⟩,hd⟩;have hyn:y=n:=Classical.byContradiction fun e=>only y k2 e k3;subst hyn;exact h2 ((hz.2 m).2 ⟨k1,k3,only⟩)
  rintro⟨h1,y,h2,h3⟩;have k1:=(opn m).1 h1;have k2:=(opn y).1 h2;exact⟨(h.wait m).2 ⟨k1.1,y,k2.1,h3⟩,fun hm=>((hz.2 m).1 hm).2.2 y k2.1 k2.2 h3⟩
 .have hm':=(lix m).1 hm;rcases hm' with a|a
  .exact⟨(opn m).2 ⟨(h.line m a).1,hne m (Or.inl a)⟩,fun e=>(h.line m a).2 ((wtx m).1 e).1⟩
  exact⟨(opn m).2 ⟨((hz.2 m).1 a).1,hne m (Or.inr a)⟩,fun e=>((wtx m).1 e).2 a⟩
 .exact⟨(opn m).2 ⟨(h.pass m (hrp m hm)).1,fun e=>hnd.1 (e▸hm)⟩,fun e=>(h.pass m (hrp m hm)).2 ((wtx m).1 e).1⟩
 .exact⟨(opn _).2 ⟨(h.lane i f hi e).1,fun e2=>(h.nd4 i f hi e).2 (e2▸hnp)⟩,fun e2=>(h.lane i f hi e).2 ((wtx _).1 e2).1⟩
 .have k:=(opn m).1 hm;rcases h.all m k.1 with b|b|b|b
  .by_cases hmz:m∈zs
   .exact Or.inr (Or.inl ((lix m).2 (Or.inr hmz)))
   exact Or.inl ((wtx m).2 ⟨b,hmz⟩)
  .exact Or.inr (Or.inl ((lix m).2 (Or.inl b)))
  .rw[hp]at b
   rcases List.mem_cons.1 b with b|b
   .exact absurd b k.2
   exact Or.inr (Or.inr (Or.inl b))
  exact Or.inr (Or.inr (Or.inr b))
 .show (s.line++frx (lgT T s.d) s.en n).Nodup;rw[hfr,List.nodup_append];refine⟨h.nd1,hz.1.imp (fun hab=>by omega),fun a ha b hb=> ?_⟩;exact fun e=>(h.line a ha).2 (by rw[e];exact zwt b hb)
 .rcases (lix m).1 hm with a|a
  .exact h.nd3 m a (hrp m hr)
  exact (h.pass m (hrp m hr)).2 (zwt m a)
 .rcases (lix _).1 hm with a|a
  .exact (h.nd4 i f hi e).1 a
  exact (h.lane i f hi e).2 (zwt _ a)
 .rcases hm with hm|hm
  .exact ((lix m).1 hm).imp id (zwt m)
  exact Or.inr ((wtx m).1 hm).1
 refine h.fin m ?_ x hx;rcases hm with hm|hm|rfl
 .exact Or.inl (hrp m hm)
 .exact Or.inr hm
 exact Or.inl hnp
end
open Classical in
def lnW(o:Option Hl):Nat:=match o with|none=>0|some h=>2*h.l.length+h.out+2
def sumW(f:Nat->Option Hl):Nat->Nat
 |0=>0
 |n+1=>sumW f n+lnW (f n)
theorem zfl(f:Nat->Option Hl)(i:Nat)(o:Option Hl):∀n,i<n->sumW (upd f i o) n+lnW (f i)=sumW f n+lnW o
 |0,h=>by omega
 |n+1,h=>by
  rw[sumW,sumW];by_cases e:i=n
  .subst e;have:∀m,m<=i->sumW (upd f i o) m=sumW f m:=by
    intro m;induction m with
    |zero=>intro _;rfl
    |succ m ih=>intro hm;rw[sumW,sumW,ih (by omega),zac _ _ (by omega)]
   rw[this i (Nat.le_refl _),zad];omega
  rw[zac _ _ (by omega)];have:=zfl f i o n (by omega);omega
section
variable{c:Cf}{T:List Tx}{s:Ms}
theorem zkp{q:Nat->List Qe}{f:Int}:∀{m:Nat}{j:Nat}{e:Qe},j<m->e∈q j->e.f=f->1<=outs q f m
 |0,j,e,hj,_,_=>by omega
 |m+1,j,e,hj,he,hf=>by
  rw[outs];by_cases h:j=m
  .subst h;have:0<((q j).filter fun e=>decide (e.f=f)).length:=List.length_pos_of_mem (List.mem_filter.2 ⟨he,by simpa using hf⟩);omega
  have:=zkp (m:=m) (by omega) he hf;omega
end
noncomputable def cst (T:List Tx) (n:Int):Nat:=2*(dd (wsAt T n)).length
noncomputable def rdS (T:List Tx):Nat->Nat
 |0=>0
 |k+1=>rdS T k+(5+cst T ((k+1:Nat):Int))
open Classical in
noncomputable def wtS (T:List Tx) (wt:Int->Prop):Nat->Nat
 |0=>0
 |d+1=>wtS T wt d+(if wt ((d+1:Nat):Int) then 3+cst T ((d+1:Nat):Int) else 0)
noncomputable def liS (T:List Tx):List Int->Nat
 | []=>0
 |n::r=>(3+cst T n)+liS T r
theorem zms(T:List Tx):∀a b:List Int,liS T (a++b)=liS T a+liS T b
 | [],b=>by simp[liS]
 |n::r,b=>by rw[List.cons_append,liS,liS,zms T r b];omega
theorem zks(T:List Tx){a b:Nat}(h:a<=b):rdS T a<=rdS T b:=by
 induction b with
 |zero=>rw[show a=0 by omega];exact Nat.le_refl _
 |succ b ih=>
  by_cases e:a=b+1
  .rw[e];exact Nat.le_refl _
  have:=ih (by omega);rw[rdS];omega
noncomputable def nu (c:Cf) (T:List Tx) (s:Ms):Nat:=(rdS T s.fd-rdS T s.rd)+(if s.hv=true then 4+cst T (s.rd:Int) else 0)+(wtS T s.wt s.d+liS T s.line)+sumW s.ln c.l.toNat+s.pass.length
theorem zfo(T:List Tx){wt wt':Int->Prop}:∀d:Nat,(∀n:Int,1<=n->n<=d->(wt n↔wt' n))->wtS T wt d=wtS T wt' d
 |0,_=>rfl
 |d+1,h=>by
  rw[wtS,wtS,zfo T d (fun n h1 h2=>h n h1 (by omega))]
  congr 1
  have:=h ((d+1:Nat):Int) (by omega) (Int.le_refl _);by_cases e:wt ((d+1:Nat):Int)
  .rw[if_pos e,if_pos (this.1 e)]
  rw[if_neg e,if_neg (fun x=>e (this.2 x))]
theorem zuf(T:List Tx){wt:Int->Prop}{z:Int}:∀d:Nat,1<=z->z<=(d:Int)->wt z->wtS T (fun m=>wt m/\m≠z) d+(3+cst T z)=wtS T wt d
 |0,h1,h2,_=>by omega
 |d+1,h1,h2,hw=>by
  rw[wtS,wtS];by_cases e:z=((d+1:Nat):Int)
  .rw[if_neg (fun x=>x.2 e.symm),zfo T (wt:=fun m=>wt m/\m≠z) (wt':=wt) d (fun n a b=>⟨fun x=>x.1,fun x=>⟨x,by omega⟩⟩),<-e,if_pos hw];omega
  have ih:=zuf T d h1 (by omega) hw;by_cases k:wt ((d+1:Nat):Int)
  .rw[if_pos k,if_pos ⟨k,fun x=>e x.symm⟩];omega
  rw[if_neg k,if_neg (fun x=>k x.1)];omega
theorem zrd(T:List Tx){wt:Int->Prop}{d:Nat}:∀zs:List Int,zs.Nodup->(∀m∈zs,wt m/\1<=m/\m<=(d:Int))->wtS T (fun m=>wt m/\m∉zs) d+liS T zs=wtS T wt d
 | [],_,_=>by
  rw[liS,zfo T (wt:=fun m=>wt m/\m∉[]) (wt':=wt) d (fun n a b=>⟨fun x=>x.1,fun x=>⟨x,by simp⟩⟩)];omega
 |z::zs,hn,hw=>by
  obtain⟨hz,hn'⟩:=List.nodup_cons.1 hn;have h1:=zrd T (wt:=wt) (d:=d) zs hn' (fun m hm=>hw m (List.mem_cons_of_mem _ hm));obtain⟨k1,k2,k3⟩:=hw z List.mem_cons_self;have h2:=zuf T (wt:=fun m=>wt m/\m∉zs) d k2 k3 ⟨k1,hz⟩;rw[zfo T (wt:=fun m=>wt m/\m∉z::zs) (wt':=fun m=>(wt m/\m∉zs)/\m≠z) d (fun n a b=>by
   constructor
   .rintro⟨x,y⟩;exact⟨⟨x,fun e=>y (List.mem_cons_of_mem _ e)⟩,fun e=>y (by rw[e];exact List.mem_cons_self)⟩
   rintro⟨⟨x,y⟩,z'⟩;exact⟨x,fun e=>by
    rcases List.mem_cons.1 e with e|e
    .exact z' e
    exact y e⟩)]
  rw[liS];omega
section
variable{c:Cf}{T:List Tx}{s:Ms}
theorem zafy(h:Wf c T s)(hv:s.hv=false)(hr:s.rd<s.fd):nu c T (zjo s)+1=nu c T s:=by
 have hm:=zks T (show s.rd+1<=s.fd by omega);show (rdS T s.fd-rdS T (s.rd+1))+(if true=true then 4+cst T ((s.rd+1:Nat):Int) else 0)+(wtS T s.wt s.d+liS T s.line)+sumW s.ln c.l.toNat+s.pass.length+1=(rdS T s.fd-rdS T s.rd)+(if s.hv=true then 4+cst T (s.rd:Int) else 0)+(wtS T s.wt s.d+liS T s.line)+sumW s.ln c.l.toNat+s.pass.length;rw[hv,if_pos rfl,if_neg (by simp)];rw[rdS]at hm ⊢
 omega
theorem zafz(h:Wf c T s)(hv:s.hv=true):nu c T (zay T s)+1=nu c T s:=by
 have hrd:=h.hol hv;have key:wtS T (zay T s).wt (s.d+1)+liS T (zay T s).line=wtS T s.wt s.d+liS T s.line+(3+cst T (s.rd:Int)):=by
  have hno:¬s.wt (s.rd:Int):=fun e=>by have:=(h.op.1 ((h.wait _).1 e).1).1;omega
  have hrd':((s.d+1:Nat):Int)=(s.rd:Int):=by omega
  show wtS T (if zax T s=[] then s.wt else fun m=>s.wt m\/m=(s.rd:Int)) (s.d+1)+liS T (if zax T s=[] then s.line++[(s.rd:Int)] else s.line)=_;by_cases e:zax T s=[]
  .rw[if_pos e,if_pos e,wtS,hrd',if_neg hno,zms];simp only[liS];omega
  rw[if_neg e,if_neg e,wtS,hrd',if_pos (Or.inr rfl),zfo T (wt:=fun m=>s.wt m\/m=(s.rd:Int)) (wt':=s.wt) s.d (fun n h1 h2=>⟨fun x=>x.resolve_right (by omega),Or.inl⟩)];omega
 show (rdS T s.fd-rdS T s.rd)+(if false=true then 4+cst T (s.rd:Int) else 0)+(wtS T (zay T s).wt (s.d+1)+liS T (zay T s).line)+sumW s.ln c.l.toNat+s.pass.length+1=(rdS T s.fd-rdS T s.rd)+(if s.hv=true then 4+cst T (s.rd:Int) else 0)+(wtS T s.wt s.d+liS T s.line)+sumW s.ln c.l.toNat+s.pass.length;rw[key,hv,if_pos rfl,if_neg (by simp)];omega
theorem zaga(h:Wf c T s){i:Nat}(hi:i<c.l.toNat)(hn:s.ln i=none){n:Int}{r:List Int}(hl:s.line=n::r):nu c T (zev T s i n r)+1=nu c T s:=by
 have hs:=zfl s.ln i (some ⟨n,dd (wsAt T n),0⟩) c.l.toNat hi;rw[hn]at hs
 simp only[lnW]at hs;show (rdS T s.fd-rdS T s.rd)+(if s.hv=true then 4+cst T (s.rd:Int) else 0)+(wtS T s.wt s.d+liS T r)+sumW (upd s.ln i (some ⟨n,dd (wsAt T n),0⟩)) c.l.toNat+s.pass.length+1=(rdS T s.fd-rdS T s.rd)+(if s.hv=true then 4+cst T (s.rd:Int) else 0)+(wtS T s.wt s.d+liS T s.line)+sumW s.ln c.l.toNat+s.pass.length;rw[hl,liS];unfold cst;omega
theorem zagb(h:Wf c T s){i:Nat}(hi:i<c.l.toNat){g:Hl}{y:Wt}{r:List Wt}(hn:s.ln i=some g)(hl:g.l=y::r):nu c T (zbz c s i g y r)+1=nu c T s:=by
 have hs:=zfl s.ln i (some ⟨g.n,r,g.out+1⟩) c.l.toNat hi;rw[hn]at hs
 simp only[lnW,hl,List.length_cons]at hs;show (rdS T s.fd-rdS T s.rd)+(if s.hv=true then 4+cst T (s.rd:Int) else 0)+(wtS T s.wt s.d+liS T s.line)+sumW (upd s.ln i (some ⟨g.n,r,g.out+1⟩)) c.l.toNat+s.pass.length+1=(rdS T s.fd-rdS T s.rd)+(if s.hv=true then 4+cst T (s.rd:Int) else 0)+(wtS T s.wt s.d+liS T s.line)+sumW s.ln c.l.toNat+s.pass.length;omega
theorem zagc(h:Wf c T s){i:Nat}(hi:i<c.l.toNat){n:Int}(hn:s.ln i=some ⟨n,[],0⟩):nu c T (zfu s i n)+1=nu c T s:=by
 have hs:=zfl s.ln i none c.l.toNat hi;rw[hn]at hs
 simp only[lnW,List.length_nil]at hs;show (rdS T s.fd-rdS T s.rd)+(if s.hv=true then 4+cst T (s.rd:Int) else 0)+(wtS T s.wt s.d+liS T s.line)+sumW (upd s.ln i none) c.l.toNat+(s.pass++[n]).length+1=(rdS T s.fd-rdS T s.rd)+(if s.hv=true then 4+cst T (s.rd:Int) else 0)+(wtS T s.wt s.d+liS T s.line)+sumW s.ln c.l.toNat+s.pass.length;rw[List.length_append];simp only[List.length_cons,List.length_nil];omega
theorem zacg(h:Wf c T s){j:Nat}(hj:j<c.s.toNat){e:Qe}{r:List Qe}(hq:s.qs j=e::r){i:Nat}{g:Hl}(hi:i<c.l.toNat)(hf:e.f=((i+1:Nat):Int))(hn:s.ln i=some g)(M':ByteArray->List O.Vn):nu c T (zaz s j e r g M')+1=nu c T s:=by
 have hidx:e.f.toNat-1=i:=by omega
 have hs:=zfl s.ln i (some (ackH g)) c.l.toNat hi;have ho:=h.out i g hi hn;have hp:=zkp (q:=s.qs) hj (by rw[hq];simp) hf;rw[hn]at hs
 simp only[lnW,ackH]at hs;show (rdS T s.fd-rdS T s.rd)+(if s.hv=true then 4+cst T (s.rd:Int) else 0)+(wtS T s.wt s.d+liS T s.line)+sumW (upd s.ln (e.f.toNat-1) (some (ackH g))) c.l.toNat+s.pass.length+1=(rdS T s.fd-rdS T s.rd)+(if s.hv=true then 4+cst T (s.rd:Int) else 0)+(wtS T s.wt s.d+liS T s.line)+sumW s.ln c.l.toNat+s.pass.length;rw[hidx];unfold ackH;omega
theorem zagd(h:Wf c T s){n:Int}{r:List Int}(hp:s.pass=n::r){zs:List Int}(hz:DoT (lgT T s.d) (Op11 (lgT T s.d) s.en) n zs):nu c T (zcf T s n r)+1=nu c T s:=by
 have hfr:frx (lgT T s.d) s.en n=zs:=zir hz;have hno:=(h.pass n (by rw[hp];simp)).1;have hw:∀m∈zs,s.wt m/\1<=m/\m<=(s.d:Int):=fun m hm=>by
  obtain⟨h1,h2,_⟩:=(hz.2 m).1 hm;have:=(h.op.1 h1).1;exact⟨(h.wait m).2 ⟨h1,n,hno,h2⟩,this⟩
 have hl:=zrd T zs (hz.1.imp (fun hab=>by omega)) hw;show (rdS T s.fd-rdS T s.rd)+(if s.hv=true then 4+cst T (s.rd:Int) else 0)+(wtS T (fun m=>s.wt m/\m∉frx (lgT T s.d) s.en n) s.d+liS T (s.line++frx (lgT T s.d) s.en n))+sumW s.ln c.l.toNat+r.length+1=(rdS T s.fd-rdS T s.rd)+(if s.hv=true then 4+cst T (s.rd:Int) else 0)+(wtS T s.wt s.d+liS T s.line)+sumW s.ln c.l.toNat+s.pass.length;rw[hfr,hp,zms,List.length_cons];omega
theorem zny(f:Nat->Option Hl):∀n,(∀i,i<n->f i=none)->sumW f n=0
 |0,_=>rfl
 |n+1,h=>by rw[sumW,zny f n (fun i hi=>h i (by omega)),h n (by omega)];rfl
end
end Go.Proofs.YtojjdnjfaelnfaaGreatDoor
