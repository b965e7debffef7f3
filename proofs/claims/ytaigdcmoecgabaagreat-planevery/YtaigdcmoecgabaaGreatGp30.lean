/- Contracts and lemmas. -/
import Derived.Test.YtaigdcmoecgabaaGreatGp28
import Derived.Test.YtaigdcmoecgabaaGreatGp29
set_option maxHeartbeats 1000000
set_option linter.unusedSimpArgs false
set_option linter.unusedVariables false
namespace Go.Proofs.YtaigdcmoecgabaaGreat.O
open Go.ChangeShapes Go.WideShapes Go.ChangeAt Go.RowKit Go.Lib Go.Maps Go.Proofs.Tryz
theorem zka{w:World}{g C:Nat}{pb:Option Nat}{xs:List Rv}{cl:Bool}(h:Rg w g pb C xs cl){j:Nat}(hj:j∈Rg.own g pb):∃cur t,w.heap[j]? = some (.cells cur t (0,0))/\(t=332\/t=310):=by
 obtain⟨N,F,K,ps,hR⟩:=h;simp only[Rg.own,List.mem_cons,Option.mem_toList]at hj;rcases hj with rfl|hj
 .exact⟨_,_,hR.box,Or.inl rfl⟩
 exact⟨_,_,hR.row j hj,Or.inr rfl⟩
def OM(w:World)(b gg:Nat)(pp:Option Nat)(j:Nat):Prop:=j=gg\/pp=some j\/j=b\/((∃cur,w.heap[j]? = some (.cells cur 304 (0,0)))/\RowOf w b j)
def OwF(b gg:Nat)(pp:Option Nat)(w w':World):Prop:=∃S,Fr S w w'/\(b<w.heap.size->(∀j∈S,j<w.heap.size->OM w b gg pp j)/\∀j,RowOf w' b j->RowOf w b j\/w.heap.size<=j)
section
variable{w0 w w' w1 w2:World}{b gg:Nat}{pp:Option Nat}{t:Nat->Prop}
theorem OwF.of(h:Fr [] w w'):OwF b gg pp w w':=⟨[],h,fun hb=>⟨by simp,fun j hr=>Or.inl (hr.back h (by simp) hb)⟩⟩
theorem OwF.ofS(h:FrS w0 b w w'):OwF b gg pp w w':=by
 obtain⟨S,h1,h2⟩:=h;refine⟨S,h1,fun hb=> ?_⟩;obtain⟨k1,k2⟩:=h2 hb;refine⟨fun j hj hl=> ?_,k2⟩;rcases k1 j hj hl with e|⟨⟨_,e⟩,f⟩
 .exact Or.inr (Or.inr (Or.inl e))
 exact Or.inr (Or.inr (Or.inr ⟨e,f⟩))
theorem zmq{g C:Nat}{pb:Option Nat}{xs:List Rv}{cl:Bool}(hR:Rg w g pb C xs cl)(hb:∃es c,w.heap[b]? = some (.map es c)):b∉Rg.own g pb:=fun hm=>by
 obtain⟨cur,t,e,_⟩:=zka hR hm;obtain⟨es,c,e2⟩:=hb;rw[e2]at e
 cases e
theorem OwF.ofR{g C:Nat}{pb:Option Nat}{xs:List Rv}{cl:Bool}(hR:Rg w g pb C xs cl)(hb:∃es c,w.heap[b]? = some (.map es c))(h:Fr (Rg.own g pb) w w'):OwF b g pb w w':=by
 refine⟨_,h,fun hl=>⟨fun j hj _=> ?_,fun j hr=>Or.inl (hr.back h (zmq hR hb) hl)⟩⟩;simp only[Rg.own,List.mem_cons,Option.mem_toList]at hj;rcases hj with rfl|hj
 .exact Or.inl rfl
 exact Or.inr (Or.inl hj)
theorem OwF.then(h:OwF b gg pp w w1)(k:OwF b gg pp w1 w2):OwF b gg pp w w2:=by
 obtain⟨S,hS,hm⟩:=h;obtain⟨T,hT,kn⟩:=k;refine⟨S++T,hS.trans hT (fun x hx _=>List.mem_append_left _ hx) (fun x hx _=>List.mem_append_right _ hx),fun hb=> ?_⟩;obtain⟨m1,m2⟩:=hm hb;obtain⟨k1,k2⟩:=kn (Nat.lt_of_lt_of_le hb hS.size);refine⟨fun j hj hlt=> ?_,fun j hr=> ?_⟩
 .by_cases hjS:j∈S
  .exact m1 j hjS hlt
  have hjT:j∈T:=(List.mem_append.1 hj).resolve_left hjS;have e:=hS.block j hlt hjS;rcases k1 j hjT (Nat.lt_of_lt_of_le hlt hS.size) with q|q|q|⟨⟨c,q⟩,r⟩
  .exact Or.inl q
  .exact Or.inr (Or.inl q)
  .exact Or.inr (Or.inr (Or.inl q))
  rcases m2 j r with r|r
  .exact Or.inr (Or.inr (Or.inr ⟨⟨c,by rw[<-e];exact q⟩,r⟩))
  omega
 rcases k2 j hr with h1|h1
 .exact m2 j h1
 exact Or.inr (Nat.le_trans hS.size h1)
structure One15(w0:World)(t:Nat->Prop)(w:World)(x:Rv)(r:Rq):Prop where
 is:x.q r.bs=r
 ok:okR r
 len:x.bl=r.bs.length
 row:IRs w x.bo r.bs
 nb:Nb w w0.heap.size x.bo
 av:∀a,x.bo=some a->¬t a.block
inductive Wt15(w0:World)(t:Nat->Prop)(w:World):List Rv->List Rq->Prop
 |nil:Wt15 w0 t w [] []
 |cons {x:Rv} {r:Rq} {xs:List Rv} {rs:List Rq}:One15 w0 t w x r->Wt15 w0 t w xs rs->Wt15 w0 t w (x::xs) (r::rs)
theorem Wt15.len{xs:List Rv}{rs:List Rq}(h:Wt15 w0 t w xs rs):xs.length=rs.length:=by
 induction h with
 |nil=>rfl
 |cons _ _ ih=>simp[ih]
theorem Wt15.snoc{xs:List Rv}{rs:List Rq}{x:Rv}{r:Rq}(h:Wt15 w0 t w xs rs)(hx:One15 w0 t w x r):Wt15 w0 t w (xs++[x]) (rs++[r]):=by
 induction h with
 |nil=>exact .cons hx .nil
 |cons h1 _ ih=>exact .cons h1 ih
theorem One15.keep{x:Rv}{r:Rq}(h:One15 w0 t w x r)(hk:∀(j:Nat) (cs:Array Value),w.heap[j]? = some (.cells cs 3 (0,0))->w'.heap[j]? = some (.cells cs 3 (0,0)))(hs:w.heap.size<=w'.heap.size):One15 w0 t w' x r:=by
 refine⟨h.is,h.ok,h.len,⟨fun h0=> ?_,h.row.few⟩,fun a e=> ?_,h.av⟩
 .obtain⟨bb,off,e,hb,hc⟩:=h.row.lies h0;obtain⟨_,cur,hcur⟩:=h.nb _ e;have hcur':=hk _ _ hcur;refine⟨bb,off,e,Nat.lt_of_lt_of_le hb hs,fun i hi=> ?_⟩;rw[<-hc i hi];exact World.cell?_of_block (hcur'.trans hcur.symm)
 obtain⟨h1,cur,hcur⟩:=h.nb a e;exact⟨h1,cur,hk _ _ hcur⟩
theorem Wt15.keep{xs:List Rv}{rs:List Rq}(h:Wt15 w0 t w xs rs)(hk:∀(j:Nat) (cs:Array Value),w.heap[j]? = some (.cells cs 3 (0,0))->w'.heap[j]? = some (.cells cs 3 (0,0)))(hs:w.heap.size<=w'.heap.size):Wt15 w0 t w' xs rs:=by
 induction h with
 |nil=>exact .nil
 |cons h1 _ ih=>exact .cons (h1.keep hk hs) ih
structure OwS(w0:World)(t:Nat->Prop)(w:World)(ob sb b n g:Nat)(pb:Option Nat)(C:Nat)(M:ByteArray->List Vn)(rs:List Rq):Prop where
 q:∃xs,OwQ w ob g ⟨sb,0,none⟩ pb C xs/\Wt15 w0 t w xs rs
 sh:Sh w0 w sb b n M
 fr:Fr [] w0 w
 gn:w0.heap.size<=g
 on:w0.heap.size<=ob
 pn:∀k,pb=some k->w0.heap.size<=k
section
variable{ob sb n g C:Nat}{pb:Option Nat}{M:ByteArray->List Vn}{rs:List Rq}
theorem OwS.same(h:OwS w0 t w ob sb b n g pb C M rs)(hf:Fr [] w w'):OwS w0 t w' ob sb b n g pb C M rs:=by
 obtain⟨xs,hq,hw⟩:=h.q;exact⟨⟨xs,hq.same hf,hw.keep (fun j cs hj=>hf.keep hj (by simp)) hf.size⟩,h.sh.keep hf,h.fr.then hf,h.gn,h.on,h.pn⟩
theorem OwS.own(h:OwS w0 t w ob sb b n g pb C M rs):∀j∈Rg.own g pb,w0.heap.size<=j:=by
 intro j hj;simp only[Rg.own,List.mem_cons,Option.mem_toList]at hj;rcases hj with rfl|hj
 .exact h.gn
 exact h.pn j hj
theorem Wt15.at{xs:List Rv}{rs:List Rq}(h:Wt15 w0 t w xs rs){t':Nat->Prop}(ht:∀k,t' k->t k\/w.heap.size<=k):Wt15 w0 t' w xs rs:=by
 induction h with
 |nil=>exact .nil
 |cons h1 _ ih=>
  refine .cons ⟨h1.is,h1.ok,h1.len,h1.row,h1.nb,fun a e q=> ?_⟩ ih;rcases ht _ q with r|r
  .exact h1.av a e r
  obtain⟨_,cur,hc⟩:=h1.nb a e;have:=lt_of_block hc;omega
theorem OwS.at(h:OwS w0 t w ob sb b n g pb C M rs){t':Nat->Prop}(ht:∀k,t' k->t k\/w.heap.size<=k):OwS w0 t' w ob sb b n g pb C M rs:=by
 obtain⟨xs,hq,hw⟩:=h.q;exact⟨⟨xs,hq,hw.at ht⟩,h.sh,h.fr,h.gn,h.on,h.pn⟩
def OwnA(ob sb b g:Nat)(pb:Option Nat)(w:World)(j:Nat):Prop:=j=ob\/j=sb\/j=b\/j=g\/pb=some j\/RowOf w b j
theorem OwS.far{S0:List Nat}(h:OwS w0 t w ob sb b n g pb C M rs)(hf0:Fr S0 w w')(hS0:∀j∈S0,j<w.heap.size->w0.heap.size<=j/\¬OwnA ob sb b g pb w j/\(t j\/∃cur tt,w.heap[j]? = some (.cells cur tt (0,0))/\tt≠3)):OwS w0 t w' ob sb b n g pb C M rs:=by
 classical
 obtain⟨S,hf,hS⟩:∃S,Fr S w w'/\∀j∈S,w0.heap.size<=j/\¬OwnA ob sb b g pb w j/\(t j\/∃cur tt,w.heap[j]? = some (.cells cur tt (0,0))/\tt≠3):=by
  refine⟨S0.filter fun j=>decide (j<w.heap.size),hf0.mono (fun x hx hl=>List.mem_filter.2 ⟨hx,by simpa using hl⟩),fun j hj=> ?_⟩;obtain⟨a,b⟩:=List.mem_filter.1 hj;exact hS0 j a (by simpa using b)
 obtain⟨xs,hq,hw⟩:=h.q;have no:∀j,OwnA ob sb b g pb w j->j∉S:=fun j hj hm=>(hS j hm).2.1 hj;refine⟨⟨xs,⟨hf.keep hq.box (no ob (Or.inl rfl)),hq.rg.keep hf (no g (Or.inr (Or.inr (Or.inr (Or.inl rfl))))) (fun k e=>no k (Or.inr (Or.inr (Or.inr (Or.inr (Or.inl e))))))⟩,?_⟩,h.sh.keepS hf (no sb (Or.inr (Or.inl rfl))) (fun j hj hm=> ?_),h.fr.on hf (fun y hy=>(hS y hy).1),h.gn,h.on,h.pn⟩
 .clear hq h no;induction hw with
  |nil=>exact .nil
  | @cons x r xs rs h1 _ ih=>
   have hav:∀a,x.bo=some a->a.block∉S:=fun a e hm=>by
    rcases (hS _ hm).2.2 with q|⟨cur,tt,q1,q2⟩
    .exact h1.av a e q
    obtain⟨_,c2,e2⟩:=h1.nb a e;rw[q1]at e2
    simp only[Option.some.injEq,Obj.cells.injEq]at e2;exact q2 e2.2.1
   refine .cons ⟨h1.is,h1.ok,h1.len,h1.row.keepS hf (fun _ a e=>hav a e),fun a e=> ?_,h1.av⟩ ih;obtain⟨k1,cur,hc⟩:=h1.nb a e;exact⟨k1,cur,hf.keep hc (hav a e)⟩
 rcases hm with rfl|⟨_,hr⟩
 .exact no _ (Or.inr (Or.inr (Or.inl rfl))) hj
 exact no j (Or.inr (Or.inr (Or.inr (Or.inr (Or.inr hr))))) hj
theorem OwS.shR(h:OwS w0 t w ob sb b n g pb C M rs)(hf:Fr (Rg.own g pb) w w'):Sh w0 w' sb b n M:=by
 obtain⟨xs,hq,hw⟩:=h.q;refine h.sh.keepS hf (zef hq.rg h.sh.box (by decide) (by decide)) (fun j hj hm=> ?_);obtain⟨cur,t,e,ht⟩:=zka hq.rg hj;rcases hm with rfl|⟨⟨_,c2,e2⟩,_⟩
 .exact zmq hq.rg h.sh.mb hj
 rw[e]at e2
 simp only[Option.some.injEq,Obj.cells.injEq]at e2;rcases ht with rfl|rfl<;>exact absurd e2.2.1 (by decide)
end
end
theorem Rg.move{w w':World}{g C:Nat}{pb:Option Nat}{xs:List Rv}{cl:Bool}(h:Rg w g pb C xs cl)(hk:∀j∈Rg.own g pb,w'.heap[j]? = w.heap[j]?):Rg w' g pb C xs cl:=by
 obtain⟨N,F,K,ps,hR⟩:=h;exact⟨N,F,K,ps,(hk g (by simp[Rg.own])).trans hR.box,hR.pl,fun b e=>(hk b (by simp[Rg.own,e])).trans (hR.row b e),hR.none_,hR.cap⟩
theorem OwF.new{w w1 w2:World}{b gg:Nat}{pp:Option Nat}{T:List Nat}(h:OwF b gg pp w w1)(hf:Fr T w1 w2)(hT:∀j∈T,w.heap.size<=j)(hb:b<w.heap.size):OwF b gg pp w w2:=by
 obtain⟨S,hS,hm⟩:=h;refine⟨S,hS.trans hf (fun x hx _=>hx) (fun x hx hl=>absurd (hT x hx) (by omega)),fun hb'=>⟨(hm hb').1,fun j hr=>(hm hb').2 j (hr.back hf (fun hm=>absurd (hT b hm) (by omega)) (Nat.lt_of_lt_of_le hb hS.size))⟩⟩
section
variable{t:Nat->Prop}{w0 w:World}{ob sb b n g C:Nat}{pb:Option Nat}{M:ByteArray->List Vn}{rs:List Rq}{xs:List Rv}
theorem OwS.old(h:OwS w0 t w ob sb b n g pb C M rs){W Wd:World}(hFW:Fr (Rg.own g pb) w W)(hd:Fr [] W Wd){j:Nat}(hr:RowOf Wd b j):j<w.heap.size:=by
 obtain⟨xs,hq,_⟩:=h.q;have hb:=zmq hq.rg h.sh.mb;have r2:=(hr.back hd (by simp) (Nat.lt_of_lt_of_le h.sh.bl hFW.size)).back hFW hb h.sh.bl;obtain⟨_,cur,e⟩:=h.sh.rowLt r2;exact lt_of_block e
theorem zyb(h:OwS w0 t w ob sb b n g pb C M rs){W Wd w1 w2:World}(hFW:Fr (Rg.own g pb) w W)(hQ:OwQ W ob g ⟨sb,0,none⟩ pb C xs)(hd:Fr [] W Wd)(hS:FrS w0 b Wd w1)(hf:Fr [W.heap.size+1] w1 w2) :
  W.heap.size<=w2.heap.size/\(∀j,w.heap.size<=j->j<W.heap.size->w2.heap[j]? = W.heap[j]?)/\w2.heap[ob]? = W.heap[ob]? :=by
 have hbl:=h.sh.bl;have s1:=hFW.size;have s2:=hd.size;have s3:=hS.size;have s4:=hf.size;refine⟨by omega,fun j h1 h2=> ?_,?_⟩
 .have e:W.heap[j]? = some W.heap[j]:=Array.getElem?_eq_getElem h2;have e2:Wd.heap[j]? = some W.heap[j]:=(hd.block j h2 (by simp)).trans e;have e3:=hS.apart (by omega) e2 (by omega) (fun hr=>by have:=h.old hFW hd hr;omega);rw[e,hf.block j (by omega) (by simp;omega)];exact e3
 have e:=hQ.box;have hmb:∃es c,Wd.heap[b]? = some (.map es c):=((h.shR hFW).keep hd).mb;have e3:=hS.keep (hd.keep e (by simp)) hmb (by decide);have:=hQ.lt;rw[e,hf.block ob (by omega) (by simp;omega)];exact e3
theorem zyc{r:Rq}{x:Rv}{xs:List Rv}(h:OwS w0 t w ob sb b n g pb C M (r::rs))(hw:OwQ w ob g ⟨sb,0,none⟩ pb C (x::xs))(ht:Wt15 w0 t w xs rs){W Wd w1 w2 w3:World}{T:List Nat}{n':Nat}{M':ByteArray->List Vn}(hFW:Fr (Rg.own g pb) w W)(hQ:OwQ W ob g ⟨sb,0,none⟩ pb C xs)(hd:Fr [] W Wd)(hds:W.heap.size+2<=Wd.heap.size)(hS:FrS w0 b Wd w1)(hf:Fr [W.heap.size+1] w1 w2)(hT:Fr T w2 w3)(hT2:∀j∈T,w.heap.size<=j/\j<W.heap.size)(hSh:Sh w0 w1 sb b n' M') :
  OwS w0 t w3 ob sb b n' g pb C M' rs/\OwF b g pb w w3/\(∀j,Wd.heap.size<=j->j<w1.heap.size->w3.heap[j]? = w1.heap[j]?)/\(∀j,w1.heap.size<=j->j<w2.heap.size->w3.heap[j]? = w2.heap[j]?):=by
 have hbl:=h.sh.bl;have s1:=hFW.size;have s2:=hd.size;have s3:=hS.size;have s4:=hf.size;have s5:=hT.size;have s0:=h.fr.size;have hmb:∃es c,Wd.heap[b]? = some (.map es c):=((h.shR hFW).keep hd).mb;have olds:∀j,RowOf w1 b j->j<w.heap.size\/Wd.heap.size<=j:=fun j hr=>by
  rcases hS.rows (by omega) hr with q|q
  .exact Or.inl (h.old hFW hd q)
  exact Or.inr q
 have zlr:∀j cs t,w.heap[j]? = some (.cells cs t (0,0))->j∉Rg.own g pb->t≠304->w3.heap[j]? = some (.cells cs t (0,0)):=fun j cs t e ho hv=>by
  have hl:=lt_of_block e;have e2:=hS.keep (hd.keep (hFW.keep e ho) (by simp)) hmb hv;exact hT.keep (hf.keep e2 (by simp;omega)) (fun hm=>by have:=(hT2 j hm).1;omega)
 have bS:sb<w.heap.size:=lt_of_block h.sh.box;refine⟨⟨⟨xs,⟨?_,?_⟩,ht.keep (fun j cs hj=>zlr j cs _ hj (zef hw.rg hj (by decide) (by decide)) (by decide)) (by omega)⟩,?_,?_,h.gn,h.on,h.pn⟩,?_,?_,?_⟩
 .exact zlr ob _ _ hw.box hw.no (by decide)
 .refine hQ.rg.move (fun j hj=> ?_);obtain⟨cur,t,e,htt⟩:=zka hQ.rg hj;obtain⟨cur0,t0,e0,_⟩:=zka hw.rg hj;have hl:=lt_of_block e0;have hv:t≠304:=by rcases htt with rfl|rfl<;>decide
  have e2:=hS.keep (hd.keep e (by simp)) hmb hv;rw[e];exact hT.keep (hf.keep e2 (by simp;omega)) (fun hm=>by have:=(hT2 j hm).1;omega)
 .have k1:Sh w0 w2 sb b n' M':=hSh.keepS hf (by simp;omega) (fun j hj hm=>by
   simp only[List.mem_singleton]at hj;subst hj;rcases hm with e|⟨_,e⟩
   .omega
   rcases olds _ e with q|q<;>omega)
  refine k1.keepS hT (fun hm=>by have:=(hT2 sb hm).1;omega) (fun j hj hm=> ?_);obtain⟨q1,q2⟩:=hT2 j hj;rcases hm with e|⟨_,e⟩
  .omega
  rcases olds _ (e.back hf (by simp;omega) (by omega)) with q|q<;>omega
 .have f1:Fr [] w0 W:=h.fr.on hFW h.own;have f2:Fr [] w0 w1:=hS.below h.sh.bn (f1.then hd) (by omega);exact (f2.on hf (by intro y hy;simp at hy;omega)).on hT (fun y hy=>by have:=(hT2 y hy).1;omega)
 .have f1:=((OwF.ofR hw.rg h.sh.mb hFW).then (OwF.of hd)).then (OwF.ofS hS);exact (f1.new hf (by intro y hy;simp at hy;omega) hbl).new hT (fun y hy=>(hT2 y hy).1) hbl
 .intro j h1 h2;rw[hT.block j (by omega) (fun hm=>by have:=(hT2 j hm).2;omega),hf.block j h2 (by simp;omega)]
 intro j h1 h2;exact hT.block j h2 (fun hm=>by have:=(hT2 j hm).2;omega)
def Rep(M:ByteArray->List Vn)(r:Rq)(M':ByteArray->List Vn)(ok:Bool)(eo:Option Addr)(el ec:Nat)(ho:Option Addr)(hl hc:Nat)(c:Int):Prop:=
 (eo=none/\el=0/\ec=0)/\(ho=none/\hl=0/\hc=0)/\c=0/\∃cc,zln M ⟨r.n,r.wk,r.wv,r.wd⟩ M' ok cc
theorem zafc{W:World}{k f n:Int}{wk wv:ByteArray}{wd:Bool}{key en:ByteArray}{bo:Option Addr}{bl bc:Nat}:W.heap.size+2<=(dW W k f n wk wv wd key en bo bl bc).heap.size:=by unfold dW;simp
theorem zabk{W w1:World}{k f n:Int}{wk wv:ByteArray}{wd:Bool}{key en:ByteArray}{bo:Option Addr}{bl bc:Nat}(hS:FrS w0 b (dW W k f n wk wv wd key en bo bl bc) w1)(hm:∃es c,(dW W k f n wk wv wd key en bo bl bc).heap[b]? = some (.map es c)):w1.heap[W.heap.size+1]? = some (.cells #[.int .i64 0,.bool false,.slice none 0 0,.slice none 0 0,.int .i64 0] 394 (0,0)):=hS.keep zaip hm (by decide)
theorem os_serve{r:Rq}(h:OwS w0 t w ob sb b n g pb C M (r::rs))(hk1:r.k=1)(hn:n<3518437208882):Calls prog 304 #[.pointer (some ⟨ob,0,none⟩)] w fun e w'=>∃ok eo el ec ho hl hc c M',e=.returned (.tuple #[.agg #[.int .i64 r.f,.bool ok,.slice eo el ec,.slice ho hl hc,.int .i64 c],.int .i64 0])/\OwS w0 t w' ob sb b (n+1) g pb C M' rs/\OwF b g pb w w'/\Rep M r M' ok eo el ec ho hl hc c:=by
 obtain⟨xs',hq,hw⟩:=h.q;cases hw with
 |cons h1 ht=>
  rename_i x xs;obtain⟨xk,xf,xn,xa,xb,xd,xc,xe,xo,xl,xm⟩:=x;obtain⟨hi,hok,hlen,hrow,hnb,hav⟩:=h1;obtain⟨rk,rf,rn,ra,rb,rd,rc,re,rbs⟩:=r;simp only[Rv.q,Rq.mk.injEq]at hi;obtain⟨rfl,rfl,rfl,rfl,rfl,rfl,rfl,rfl,_⟩:=hi;simp only at hlen hrow hk1;obtain⟨o1,o2,o3,ho⟩:=hok;simp only at o1 o2 o3 ho;have s0:=h.fr.size;have mb:∀{W:World}(hFW:Fr (Rg.own g pb) w W),∃es c,(dW W xk xf xn xa xb xd xc xe xo xl xm).heap[b]? = some (.map es c):=fun hFW=>((h.shR hFW).keep zlq).mb;rcases ho with⟨rfl,⟨e1,e2⟩,e3,e4,e5,e6⟩|⟨rfl,e1,e2,e3,e4⟩|⟨rfl,e1,e2,e3,e4⟩|⟨rfl,e1,e2,e3⟩|⟨rfl,e1,e2,e3⟩
  .refine (zabj hq (fun ok eo el ec ho hl hc c W w'=>∃M' w1 cc,(eo=none/\el=0/\ec=0)/\(ho=none/\hl=0/\hc=0)/\c=0/\zln M ⟨xn,xa,xb,xd⟩ M' ok cc/\Sh w0 w1 sb b (n+1) M'/\FrS w0 b (dW W 1 xf xn xa xb xd xc xe xo xl xm) w1/\Fr [W.heap.size+1] w1 w') (fun W Q hFW hs hQ hc=> ?_)).mono ?_
   .refine (zxz hc (fun ok c w1=>∃M' cc,zln M ⟨xn,xa,xb,xd⟩ M' ok cc/\Sh w0 w1 sb b (n+1) M'/\FrS w0 b (dW W 1 xf xn xa xb xd xc xe xo xl xm) w1) ((zpz xn xa xb xd _ ((h.shR hFW).keep zlq) (by have:=hFW.size;have:=(zlq (w:=W) (k:=1) (f:=xf) (n:=xn) (wk:=xa) (wv:=xb) (wd:=xd) (key:=xc) (en:=xe) (bo:=xo) (bl:=xl) (bc:=xm)).size;omega) ⟨by have:=e6.1.2;simp only;omega,by have:=e6.2.1;simp only;omega,by simp only;omega,by simp only;omega⟩ (by omega)).mono ?_)).mono ?_
    .rintro e w1⟨ok,cc,M',rfl,hI,hSh,hF⟩;exact⟨ok,_,rfl,⟨M',cc,hI,hSh,hF⟩,zabk hF (mb hFW)⟩
    rintro e w2⟨ok,c,w1,rfl,⟨M',cc,hI,hSh,hF⟩,hf⟩;exact⟨ok,none,0,0,none,0,0,0,rfl,⟨M',w1,cc,⟨rfl,rfl,rfl⟩,⟨rfl,rfl,rfl⟩,rfl,hI,hSh,hF,hf⟩,zyb h hFW hQ zlq hF hf⟩
   rintro e w3⟨ok,eo,el,ec,ho,hl,hc,c,W,w2,rfl,hFW,hs,hQ,⟨M',w1,cc,a1,a2,a3,hI,hSh,hF,hf⟩,_,T,hT,hT2⟩;obtain⟨z1,z2,z3,z4⟩:=zyc h hq ht hFW hQ zlq zafc hF hf hT hT2 hSh;exact⟨ok,eo,el,ec,ho,hl,hc,c,M',rfl,z1,z2,a1,a2,a3,cc,hI⟩
  .omega
  .omega
  .omega
  omega
end
section
variable{t:Nat->Prop}{w0 w:World}{ob sb b n g C:Nat}{pb:Option Nat}{M:ByteArray->List Vn}{rs:List Rq}
theorem os_ask(h:OwS w0 t w ob sb b n g pb C M rs)(hT:∀k,t k->k<w.heap.size)(x:Rv)(ns:List Int)(hR:RqB w x ns):Calls prog 276 #[.pointer (some ⟨ob,0,none⟩),x.v] w fun e w'=>
  (¬okR (x.q ns)/\e=.returned (.tuple #[.bool false,.int .i64 1])/\OwS w0 t w' ob sb b n g pb C M rs/\Fr [] w w') \/
  (okR (x.q ns)/\rs.length=C/\e=.returned (.tuple #[.bool false,.int .i64 0])/\OwS w0 t w' ob sb b n g pb C M rs/\Fr [] w w') \/
  (okR (x.q ns)/\rs.length<C/\e=.returned (.tuple #[.bool true,.int .i64 0])/\∃pb',OwS w0 t w' ob sb b n g pb' C M (rs++[x.q ns])/\OwF b g pb w w'/\(∀k,pb'=some k->pb=some k\/w.heap.size<=k)):=by
 obtain⟨xs,hq,hw⟩:=h.q;by_cases hB:okR (x.q ns)
 .refine (zabi hq x ns hR hB).mono ?_;rintro e w' (⟨h1,rfl,hF⟩|⟨h1,rfl,ro,rc,pb',hQ,hI,hN,hF,hM⟩)
  .exact Or.inr (Or.inl ⟨hB,by rw[<-hw.len];exact h1,rfl,h.same hF,hF⟩)
  refine Or.inr (Or.inr ⟨hB,by rw[<-hw.len];exact h1,rfl,pb',⟨⟨_,hQ,(hw.keep (fun j cs hj=>hF.keep hj (zef hq.rg hj (by decide) (by decide))) hF.size).snoc ⟨rfl,hB,hR.len,hI,fun a e=> ?_,fun a e q=>by have:=hT _ q;have:=(hN a e).1;omega⟩⟩,h.shR hF,h.fr.on hF h.own,h.gn,h.on,fun k e=> ?_⟩,OwF.ofR hq.rg h.sh.mb hF,fun k e=> ?_⟩)
  .obtain⟨k1,k2⟩:=hN a e;exact⟨by have:=h.fr.size;omega,k2⟩
  .rcases hM with rfl|⟨k',rfl,hk⟩
   .exact h.pn k e
   cases e;have:=h.fr.size;omega
  rcases hM with rfl|⟨k',rfl,hk⟩
  .exact Or.inl e
  cases e;exact Or.inr hk
 refine (zafb hq x ns hR hB).mono ?_;rintro e w'⟨rfl,hF⟩;exact Or.inl ⟨hB,rfl,h.same hF,hF⟩
theorem os_len(h:OwS w0 t w ob sb b n g pb C M rs)(K:Nat)(hK:rs.length=K):Calls prog 244 #[.pointer (some ⟨ob,0,none⟩)] w fun e w'=>e=.returned (.int .i64 (K:Int))/\w=w':=by
 obtain⟨xs,hq,hw⟩:=h.q;exact zabh hq K (by rw[hw.len];exact hK)
theorem os_room(h:OwS w0 t w ob sb b n g pb C M rs)(K:Nat)(hK:C-rs.length=K):Calls prog 272 #[.pointer (some ⟨ob,0,none⟩)] w fun e w'=>e=.returned (.int .i64 (K:Int))/\Fr [] w w':=by
 obtain⟨xs,hq,hw⟩:=h.q;exact zya hq K (by rw[hw.len];exact hK)
end
def okN(sh q:Int):Prop:=0<=sh/\sh<16/\1<=q/\q<=16
theorem zyd(q:Int)(ao:Option Addr)(L cap:Nat)(hs:List Hd)(w:World)(hq:1<=q/\q<=16)(hH:HRs w ao hs)(hL:L=hs.length):Calls prog 172 #[.int .i64 q,.slice ao L cap] w fun e w'=>
  (¬LoOk hs/\e=.returned (.tuple #[.pointer none,.int .i64 1])/\Fr [] w w')\/(LoOk hs/\∃ob sb b g,e=.returned (.tuple #[.pointer (some ⟨ob,0,none⟩),.int .i64 0])/\OwS w (fun _=>False) w' ob sb b L g none q.toNat (mOf hs) []):=by
 have HLd:Hid (Calls ..):=hload_any ao L cap hs w hH hL;have HG:Hid (∀W,Calls ..):=fun W=>gnew_any q W (by omega);clear hH hL;go_enter func172,ntmps172;go_wp2_with fail
 refine Calls.mono HLd.out ?_;rintro e w1 (⟨hl,sb,b,rfl,hS,hF1⟩|⟨hl,rfl,hF1⟩)
 .have HS:Hid (Sh w w1 sb b L (mOf hs)/\Fr [] w w1/\LoOk hs):=⟨hS,hF1,hl⟩;clear hS hF1 hl HLd;go_wp2_with fail
  refine Calls.mono (HG.out _) ?_;rintro e w2⟨g,rfl,hg,hR,hF2⟩;have HR:Hid (Rg w2 g none q.toNat [] false/\Fr [] w1 w2/\w1.heap.size<=g):=⟨hR,hF2,hg⟩;clear hR hF2 hg HG;go_wp2;go_ret2;have s1:=HS.out.2.1.size;have s2:=HR.out.2.1.size;have fA:=Fr.alloc [] w2 (.cells #[.pointer (some ⟨sb,0,none⟩),.pointer (some ⟨g,0,none⟩)] 312);exact Or.inr ⟨HS.out.2.2,w2.heap.size,sb,b,g,rfl,⟨[],⟨heap_alloc_new w2 _,HR.out.1.same fA⟩,.nil⟩,HS.out.1.keep (HR.out.2.1.then fA),HS.out.2.1.then (HR.out.2.1.then fA),by have:=HR.out.2.2;omega,by omega,fun k e=>by cases e⟩
 have HS:Hid (Fr [] w w1/\¬LoOk hs):=⟨hF1,hl⟩;clear hF1 hl HLd;go_wp2;go_ret2;exact Or.inl ⟨HS.out.2,rfl,HS.out.1⟩
theorem onew_any(sh q:Int)(ao:Option Addr)(L cap:Nat)(hs:List Hd)(w:World)(h:okN sh q)(hH:HRs w ao hs)(hL:L=hs.length):Calls prog 138 #[.int .i64 sh,.int .i64 q,.slice ao L cap] w fun e w'=>
  (¬LoOk hs/\e=.returned (.tuple #[.pointer none,.int .i64 1])/\Fr [] w w')\/(LoOk hs/\∃ob sb b g,e=.returned (.tuple #[.pointer (some ⟨ob,0,none⟩),.int .i64 0])/\OwS w (fun _=>False) w' ob sb b L g none q.toNat (mOf hs) []):=by
 obtain⟨h1,h2,h3,h4⟩:=h;have HLd:Hid (Calls ..):=zyd q ao L cap hs w ⟨h3,h4⟩ hH hL;clear hH hL;go_enter func138,ntmps138;go_wp2_with fail
 refine Calls.mono HLd.out ?_;rintro e w1 (⟨hl,rfl,hF1⟩|⟨hl,ob,sb,b,g,rfl,hO⟩)
 .go_wp2;go_ret2;exact Or.inl ⟨hl,rfl,hF1⟩
 have HO:Hid (OwS w (fun _=>False) w1 ob sb b L g none q.toNat (mOf hs) []):=hO;clear hO HLd;go_wp2;go_ret2;exact Or.inr ⟨hl,ob,sb,b,g,rfl,HO.out⟩
end Go.Proofs.YtaigdcmoecgabaaGreat.O
