/- Contracts and lemmas. -/
import Derived.Test.YtojjdnjfaelnfaaGreatDoorGp32
set_option maxHeartbeats 8000000
set_option maxRecDepth 100000
set_option linter.unusedSimpArgs false
set_option linter.unusedVariables false
namespace Go.Proofs.YtojjdnjfaelnfaaGreatDoor.Ap
open Go.ChangeShapes Go.WideShapes Go.ChangeAt Go.RowKit Go.Lib Go.Proofs.Tryz
def blP(w0:World)(l:List (Nat×Obj)):Part:=⟨fun w=>∀p∈l,w.heap[p.1]? = some p.2/\w0.heap.size<=p.1,fun _ b=>∃p∈l,p.1=b⟩
theorem zre(w0:World)(l:List (Nat×Obj)):(blP w0 l).Ok w0:=
 ⟨
  fun w b hm hb=>by obtain⟨p,hp,rfl⟩:=hb;exact⟨(hm p hp).2,lt_of_block (hm p hp).1⟩,
  fun S w w' hm h0 hf hS=>⟨fun p hp=>⟨hf.keep (hm p hp).1 (fun hx=>(hS _ hx (lt_of_block (hm p hp).1)).2 ⟨p,hp,rfl⟩),(hm p hp).2⟩,fun b hb=>hb⟩⟩
def RowL(l:List (Nat×Obj))(e:TypeId)(v:Value)(n:Nat)(xs:List Value):Prop:=
 xs.length=n/\((v=.slice none 0 0/\n=0)\/∃g cap cur,v=.slice (some ⟨g,0,none⟩) n cap/\(g,Obj.cells cur e (0,0))∈l/\n<=cap/\cap<=maxLen/\cur.size=cap*1/\cur.toList.take (n*1)=xs)
theorem RowL.nil(l:List (Nat×Obj))(e:TypeId):RowL l e (.slice none 0 0) 0 []:=⟨rfl,Or.inl ⟨rfl,rfl⟩⟩
theorem RowL.own{w0 w:World}{l:List (Nat×Obj)}{e:TypeId}{v:Value}{n:Nat}{xs:List Value}(h:RowL l e v n xs)(hm:(blP w0 l).M w):w.ownsRow 0 e 1 v n xs:=by
 obtain⟨h1,h2⟩:=h;refine⟨by omega,?_⟩;rcases h2 with h2|⟨g,cap,cur,e1,e2,e3,e4,e5,e6⟩
 .exact .inl h2
 exact .inr ⟨g,cap,cur,e1,Nat.zero_le _,(hm _ e2).1,e3,e4,e5,e6⟩
theorem RowL.mono{l l':List (Nat×Obj)}{e:TypeId}{v:Value}{n:Nat}{xs:List Value}(h:RowL l e v n xs)(hl:∀g cur,(g,Obj.cells cur e (0,0))∈l->(g,Obj.cells cur e (0,0))∈l'):RowL l' e v n xs:=by
 obtain⟨h1,h2⟩:=h;refine⟨h1,h2.imp id ?_⟩;rintro⟨g,cap,cur,e1,e2,e3⟩;exact⟨g,cap,cur,e1,hl _ _ e2,e3⟩
theorem RowL.cells{l:List (Nat×Obj)}{e:TypeId}{v:Value}{n:Nat}{xs:List Value}(h:RowL l e v n xs)(h0:0<n):∃g cap cur,v=.slice (some ⟨g,0,none⟩) n cap/\(g,Obj.cells cur e (0,0))∈l/\n<=cap/\∀i,i<n->cur[i]? = xs[i]? :=by
 obtain⟨h1,h2⟩:=h;rcases h2 with⟨_,h2⟩|⟨g,cap,cur,e1,e2,e3,e4,e5,e6⟩
 .omega
 refine⟨g,cap,cur,e1,e2,e3,fun i hi=> ?_⟩;rw[<-e6,List.getElem?_take,if_pos (by omega),Array.getElem?_toList]
def putL(l:List (Nat×Obj))(g:Nat)(o:Obj):List (Nat×Obj):=(g,o)::l.filter fun p=>decide (p.1≠g)
theorem zeh(l:List (Nat×Obj))(g:Nat)(o:Obj):(g,o)∈putL l g o:=List.mem_cons_self
theorem zei{l:List (Nat×Obj)}{g b:Nat}{o q:Obj}(h:(b,q)∈l)(hn:b≠g):(b,q)∈putL l g o:=List.mem_cons_of_mem _ (List.mem_filter.2 ⟨h,by simpa using hn⟩)
theorem zagi{w0 w1 w:World}{t t':Nat->Prop}{ob sb b n g C:Nat}{pb:Option Nat}{M:ByteArray->List O.Vn}(h:O.OwS w1 t w ob sb b n g pb C M [])(hf:Fr [] w0 w1):O.OwS w0 t' w ob sb b n g pb C M []:=by
 obtain⟨xs,hq,hw⟩:=h.q;have hz:=hf.size;cases hw;refine⟨⟨[],hq,.nil⟩,⟨h.sh.box,Nat.le_trans hz h.sh.sbn,Nat.le_trans hz h.sh.bn,h.sh.ok,?_⟩,hf.then h.fr,Nat.le_trans hz h.gn,Nat.le_trans hz h.on,fun k e=>Nat.le_trans hz (h.pn k e)⟩;obtain⟨G,h1,h2,h3,h4⟩:=h.sh.map;exact⟨G,h1,h2,fun k g L c e=>⟨(h3 k g L c e).1.later hz,(h3 k g L c e).2⟩,h4⟩
def bQ(w0:World)(c:Cf)(Q:Ix->Part)(la:Nat->Nat)(nl:Nat)(ob:Nat->Nat)(oy:Nat->Oy)(no:Nat)(l:List (Nat×Obj)):Ix->Part
 | .st=>blP w0 l
 | .la i=>if i<nl then lnP w0 c (la i) i none [] else nilP
 | .ow j=>if j<no then owP w0 c (ob j) (oy j) (fun _=>[]) [] else nilP
 | .fe=>Q .fe
 | .de=>Q .de
 | .ga=>Q .ga
 | .wa=>Q .wa
 | .li=>Q .li
 | .pa=>Q .pa
 | .re=>Q .re
def Bd(w0 w:World)(c:Cf)(Q:Ix->Part)(la:Nat->Nat)(nl:Nat)(ob:Nat->Nat)(oy:Nat->Oy)(no:Nat)(l:List (Nat×Obj)):Prop:=Mach w0 w (bQ w0 c Q la nl ob oy no l)
section
variable{w0 w w':World}{c:Cf}{Q:Ix->Part}{la:Nat->Nat}{nl:Nat}{ob:Nat->Nat}{oy:Nat->Oy}{no:Nat}{l:List (Nat×Obj)}
theorem Bd.quiet(h:Bd w0 w c Q la nl ob oy no l)(hf:Fr [] w w'):Bd w0 w' c Q la nl ob oy no l:=Mach.quiet h hf
theorem Bd.ls(h:Bd w0 w c Q la nl ob oy no l):(blP w0 l).M w:=h.m .st
theorem Bd.at(h:Bd w0 w c Q la nl ob oy no l){b:Nat}{o:Obj}(hb:(b,o)∈l):w.heap[b]? = some o:=(h.ls _ hb).1
theorem Bd.ge(h:Bd w0 w c Q la nl ob oy no l){b:Nat}{o:Obj}(hb:(b,o)∈l):w0.heap.size<=b:=(h.ls _ hb).2
theorem Bd.cell(h:Bd w0 w c Q la nl ob oy no l){b:Nat}{cs:Array Value}{t:TypeId}(hb:(b,Obj.cells cs t (0,0))∈l)(j:Nat):w.cell? ⟨b,j,none⟩=cs[j]? :=crw (h.at hb)
theorem Bd.free(h:Bd w0 w c Q la nl ob oy no l){b:Nat}{cs:Array Value}{t:TypeId}(hb:(b,Obj.cells cs t (0,0))∈l)(j:Nat):w.frozen? ⟨b,j,none⟩=false:=by simp[World.frozen?,h.at hb]
theorem Bd.same(h:Bd w0 w c Q la nl ob oy no l){b b':Nat}{cs cs':Array Value}{t t':TypeId}(hb:(b,Obj.cells cs t (0,0))∈l)(hb':(b',Obj.cells cs' t' (0,0))∈l)(ht:t≠t'):b≠b':=ne_types (h.at hb) (h.at hb') ht
theorem Bd.chg(h:Bd w0 w c Q la nl ob oy no l){S:List Nat}{l':List (Nat×Obj)}(hf:Fr S w w')(hS:∀b∈S,b<w.heap.size->∃p∈l,p.1=b)(hm:∀p∈l',w'.heap[p.1]? = some p.2)(hO:∀p∈l',(∃q∈l,q.1=p.1)\/w.heap.size<=p.1):Bd w0 w' c Q la nl ob oy no l':=by
 have h0:w0.heap.size<=w.heap.size:=(Mach.fr h).size;refine (Mach.one (P':=bQ w0 c Q la nl ob oy no l') h .st (blP w0 l') hf hS (fun j hj=> ?_) rfl (zre w0 l') (fun p hp=>⟨hm p hp,?_⟩) (fun b hb=> ?_)).1
 .cases j<;>first|rfl|exact absurd rfl hj
 .rcases hO p hp with⟨q,hq,e⟩|e
  .rw[<-e];exact (h.ls q hq).2
  omega
 obtain⟨p,hp,rfl⟩:=hb;exact hO p hp
theorem Bd.new(h:Bd w0 w c Q la nl ob oy no l){g:Nat}{o:Obj}(hf:Fr [] w w')(hg:w'.heap[g]? = some o)(hn:w.heap.size<=g):Bd w0 w' c Q la nl ob oy no ((g,o)::l):=by
 refine h.chg hf (by simp) (fun p hp=> ?_) (fun p hp=> ?_)
 .rcases List.mem_cons.1 hp with e|e
  .rw[e];exact hg
  exact hf.keep (h.ls p e).1 (by simp)
 rcases List.mem_cons.1 hp with e|e
 .rw[e];exact Or.inr hn
 exact Or.inl ⟨p,e,rfl⟩
theorem Bd.put(h:Bd w0 w c Q la nl ob oy no l){g:Nat}{o o':Obj}(hg0:(g,o)∈l)(hf:Fr [g] w w')(hg:w'.heap[g]? = some o'):Bd w0 w' c Q la nl ob oy no (putL l g o'):=by
 refine h.chg hf (fun b hb _=>⟨_,hg0,(List.mem_singleton.1 hb).symm⟩) (fun p hp=> ?_) (fun p hp=> ?_)
 .rcases List.mem_cons.1 hp with e|e
  .rw[e];exact hg
  obtain⟨e1,e2⟩:=List.mem_filter.1 e;exact hf.keep (h.ls p e1).1 (by simpa using e2)
 rcases List.mem_cons.1 hp with e|e
 .rw[e];exact Or.inl ⟨_,hg0,rfl⟩
 exact Or.inl ⟨p,(List.mem_filter.1 e).1,rfl⟩
theorem Bd.set(h:Bd w0 w c Q la nl ob oy no l){g:Nat}{cs:Array Value}{t:TypeId}(hg0:(g,Obj.cells cs t (0,0))∈l)(j:Nat)(v:Value):Bd w0 (w.setCell ⟨g,j,none⟩ v) c Q la nl ob oy no (putL l g (.cells (cs.setIfInBounds j v) t (0,0))):=
 h.put hg0 (Fr.set _ _ _ (by simp)) (row_setCell v (h.at hg0))
theorem Bd.app(h:Bd w0 w c Q la nl ob oy no l){e:TypeId}{v:Value}{n g cap:Nat}{xs ys:List Value}(hr:RowL l e v n xs)(hown:w'.ownsRow 0 e 1 (.slice (some ⟨g,0,none⟩) (n+1) cap) (n+1) ys)(hw:Went w v g w') :
  ∃l',Bd w0 w' c Q la nl ob oy no l'/\RowL l' e (.slice (some ⟨g,0,none⟩) (n+1) cap) (n+1) ys/\∀b cs t,t≠e->(b,Obj.cells cs t (0,0))∈l->(b,Obj.cells cs t (0,0))∈l':=by
 obtain⟨cur,hcur,hrow⟩:∃cur,w'.heap[g]? = some (.cells cur e (0,0))/\∀l',(g,Obj.cells cur e (0,0))∈l'->RowL l' e (.slice (some ⟨g,0,none⟩) (n+1) cap) (n+1) ys:=by
  obtain⟨h1,h2⟩:=hown;rcases h2 with⟨h2,_⟩|⟨g',cap',cur,h2,h3,h4,h5,h6,h7,h8⟩
  .cases h2
  cases h2;exact⟨cur,h4,fun l' hl=>⟨by omega,Or.inr ⟨g,cap,cur,rfl,hl,h5,h6,h7,h8⟩⟩⟩
 rcases hw with⟨h1,h2⟩|⟨h1,h2⟩
 .obtain⟨cur0,hl0⟩:∃cur0,(g,Obj.cells cur0 e (0,0))∈l:=by
   rcases hr.2 with⟨h3,_⟩|⟨g',cap',cur0,h3,h4,_⟩
   .rw[h3]at h1;cases h1
   rw[h3]at h1;cases h1;exact⟨cur0,h4⟩
  have hf:Fr [g] w w':=Fr.grown h2 (by intro k hk _;cases hk;simp);refine⟨_,h.put hl0 hf hcur,hrow _ (zeh _ _ _),fun b cs t ht hb=>zei hb ?_⟩;exact h.same hb hl0 ht
 have hf:Fr [] w w':=Fr.grown h2 (by simp);exact⟨_,h.new hf hcur h1,hrow _ List.mem_cons_self,fun b cs t ht hb=>List.mem_cons_of_mem _ hb⟩
theorem Bd.lane(h:Bd w0 w c Q la nl ob oy no l){lb:Nat}(hf:Fr [] w w')(hl:LnM w' lb ((nl+1:Nat):Int) c.l c.s c.w c.q none [])(hn:w.heap.size<=lb):Bd w0 w' c Q (upd la nl lb) (nl+1) ob oy no l:=by
 have h0:w0.heap.size<=w.heap.size:=(Mach.fr h).size;refine (Mach.one (P':=bQ w0 c Q (upd la nl lb) (nl+1) ob oy no l) h (.la nl) (lnP w0 c lb nl none []) hf (by simp) (fun j hj=> ?_) ?_ (zqt _ _ _ _ _ _) ⟨hl,fun b hb=> ?_⟩ (fun b hb=> ?_)).1
 .cases j with
  |la i=>
   have hi:i≠nl:=fun e=>hj (by rw[e]);simp only[bQ];by_cases h1:i<nl
   .rw[if_pos h1,if_pos (by omega),zac _ _ hi]
   .rw[if_neg h1,if_neg (by omega)]
  |_=>rfl
 .simp only[bQ];rw[if_pos (by omega),zad]
 .rcases hb with rfl|hb
  .exact⟨by omega,hl.lt⟩
  cases hb
 rcases hb with rfl|hb
 .exact Or.inr hn
 cases hb
theorem Bd.owner(h:Bd w0 w c Q la nl ob oy no l){ok sb b g:Nat}{t:Nat->Prop}(ho:O.OwS w t w' ok sb b 0 g none c.q.toNat (fun _=>[]) []):Bd w0 w' c Q la nl (upd ob no ok) (upd oy no ⟨sb,b,g,none,fun _=>False,0⟩) (no+1) l:=by
 have h0:=Mach.fr h;refine (Mach.one (P':=bQ w0 c Q la nl (upd ob no ok) (upd oy no ⟨sb,b,g,none,fun _=>False,0⟩) (no+1) l) h (.ow no) (owP w0 c ok ⟨sb,b,g,none,fun _=>False,0⟩ (fun _=>[]) []) ho.fr (by simp) (fun j hj=> ?_) ?_ (zqu _ _ _ _ _ _) ⟨zagi ho h0,fun j hj=>hj.elim⟩ (fun j hj=> ?_)).1
 .cases j with
  |ow i=>
   have hi:i≠no:=fun e=>hj (by rw[e]);simp only[bQ];by_cases h1:i<no
   .rw[if_pos h1,if_pos (by omega),zac _ _ hi,zac _ _ hi]
   .rw[if_neg h1,if_neg (by omega)]
  |_=>rfl
 .simp only[bQ];rw[if_pos (by omega),zad,zad]
 rcases hj with h1|h1
 .exact Or.inr (zys ho h1).1
 exact h1.elim
theorem Bd.part(h:Bd w0 w c Q la nl ob oy no l){Q':Ix->Part}(i:Ix)(hi:i=.fe\/i=.de\/i=.ga\/i=.wa\/i=.li\/i=.pa\/i=.re)(hf:Fr [] w w')(hs:∀j,j≠i->Q' j=Q j)(hok:(Q' i).Ok w0)(hm:(Q' i).M w')(hO:∀b,(Q' i).O w' b->w.heap.size<=b):Bd w0 w' c Q' la nl ob oy no l:=by
 have e:bQ w0 c Q' la nl ob oy no l i=Q' i:=by rcases hi with rfl|rfl|rfl|rfl|rfl|rfl|rfl<;>rfl
 refine (Mach.one (P':=bQ w0 c Q' la nl ob oy no l) h i (Q' i) hf (by simp) (fun j hj=> ?_) e hok hm (fun b hb=>Or.inr (hO b hb))).1;cases j<;>first|rfl|exact hs _ hj
end
theorem Bd.none{w0 w:World}{c:Cf}(la:Nat->Nat)(ob:Nat->Nat)(oy:Nat->Oy)(hf:Fr [] w0 w):Bd w0 w c (fun _=>nilP) la 0 ob oy 0 []:=by
 have ho:∀i b,¬(bQ w0 c (fun _=>nilP) la 0 ob oy 0 [] i).O w b:=fun i b hb=>by
  cases i with
  |st=>obtain⟨p,hp,_⟩:=hb;cases hp
  |la i=>simp only[bQ]at hb;rw[if_neg (by omega)]at hb;exact hb
  |ow i=>simp only[bQ]at hb;rw[if_neg (by omega)]at hb;exact hb
  |_=>exact hb
 refine⟨fun i=> ?_,fun i=> ?_,fun i j b h=>absurd h (ho i b),hf⟩
 .cases i with
  |st=>exact zre w0 []
  |la i=>simp only[bQ];rw[if_neg (by omega)];exact zgy w0
  |ow i=>simp only[bQ];rw[if_neg (by omega)];exact zgy w0
  |_=>exact zgy w0
 cases i with
 |st=>intro p hp;cases hp
 |la i=>simp only[bQ];rw[if_neg (by omega)];trivial
 |ow i=>simp only[bQ];rw[if_neg (by omega)];trivial
 |_=>trivial
theorem zhz:prog.underlying 167=some (.slice 150):=by kernel_rfl
theorem zaci:(prog.info? 150).map (fun i=>(i.zero,i.size,i.bytes))=some (some .nilIface,1,16):=by kernel_rfl
theorem zrh{P:Program}{t:TypeId}{z:Value}{n m:Nat}(h:(P.info? t).map (fun i=>(i.zero,i.size,i.bytes))=some (some z,n,m)):∃i,P.info? t=some i/\i.zero=some z/\i.size=n/\i.bytes=m:=by
 cases hi:P.info? t with
 |none=>rw[hi]at h;cases h
 |some i=>
  rw[hi]at h
  simp only[Option.map_some,Option.some.injEq,Prod.mk.injEq]at h;exact⟨i,rfl,h.1,h.2.1,h.2.2⟩
theorem zej{W:World}{b:Nat}{t:TypeId}{v:Value}(h:W.heap[b]? = some (.cells #[v] t (0,0))):∀j u,[v][j]? = some u->W.cell? ((⟨b,0,none⟩:Addr).add j)=some u:=by
 intro j u hj;cases j with
 |zero=>
  simp only[List.getElem?_cons_zero,Option.some.injEq]at hj;subst hj;rw[Addr.add_lit,crw h];rfl
 |succ j=>simp at hj
theorem zge(t:TypeId)(v:Value):∀u∈[Value.iface t v],u.oneCell'=true:=by
 intro u hu;rw[List.mem_singleton]at hu
 subst hu;rfl
theorem zlt(w:World)(A:Obj)(t:TypeId)(v:Value):((w.alloc A).alloc (.cells #[v] t)).heap[w.heap.size+1]? = some (.cells #[v] t (0,0)):=by
 have e:(w.alloc A).heap.size=w.heap.size+1:=by simp
 rw[<-e];exact heap_alloc_new _ _
theorem zlu(w:World)(cs:Array Value)(t:TypeId)(B:Obj):((w.alloc (.cells cs t)).alloc B).heap[w.heap.size]? = some (.cells cs t (0,0)):=
 (Fr.alloc [] (w.alloc (.cells cs t)) B).keep (heap_alloc_new w _) (by simp)
theorem fr2(w:World)(A B:Obj):Fr [] w ((w.alloc A).alloc B):=(Fr.alloc [] w A).then (Fr.alloc [] _ B)
structure Sq(w0 w:World)(c:Cf)(Q:Ix->Part)(la:Nat->Nat)(nl:Nat)(ob:Nat->Nat)(oy:Nat->Oy)(no:Nat)(mb:Nat)(cs:Array Value)(v:Value)(n:Nat)(xs:List Value)(l:List (Nat×Obj)):Prop where
 bd:Bd w0 w c Q la nl ob oy no l
 box:(mb,Obj.cells cs 171 (0,0))∈l
 sz:cs.size=19
 at13:cs[13]? = some v
 row:RowL l 150 v n xs
section
variable{w0 w w':World}{c:Cf}{Q:Ix->Part}{la:Nat->Nat}{nl:Nat}{ob:Nat->Nat}{oy:Nat->Oy}{no:Nat}{mb:Nat}{cs:Array Value}{o:Option Addr}{n k:Nat}{xs:List Value}{l:List (Nat×Obj)}
theorem Sq.quiet{v:Value}(h:Sq w0 w c Q la nl ob oy no mb cs v n xs l)(hf:Fr [] w w'):Sq w0 w' c Q la nl ob oy no mb cs v n xs l:=⟨h.bd.quiet hf,h.box,h.sz,h.at13,h.row⟩
theorem Sq.c13{v:Value}(h:Sq w0 w c Q la nl ob oy no mb cs v n xs l):w.cell? ⟨mb,13,none⟩=some v:=by rw[h.bd.cell h.box];exact h.at13
def HxP(w:World)(mb:Nat)(o:Option Addr)(n k:Nat)(xs:List Value):Prop:=∀W,Fr [] w W->W.cell? ⟨mb,13,none⟩=some (.slice o n k)/\W.ownsRow 0 150 1 (.slice o n k) n xs/\Hid (Calls prog 181 #[.pointer (some ⟨mb,0,none⟩)] W fun e w'=>e=.returned (.agg #[.pointer (some ⟨mb,0,none⟩),.int .i64 (n:Int)])/\Fr [] W w'/\w'.cell? ⟨mb,13,none⟩=some (.slice o n k)/\Hid (Fr [] w w')/\(∀b,(w'.alloc b).cell? ⟨mb,13,none⟩=some (.slice o n k))/\(∀b c,((w'.alloc b).alloc c).cell? ⟨mb,13,none⟩=some (.slice o n k)))
theorem Sq.hx(h:Sq w0 w c Q la nl ob oy no mb cs (.slice o n k) n xs l)(hn:n<=100):HxP w mb o n k xs:=fun W hf=>by
 have h1:=h.quiet hf;refine⟨h1.c13,h1.row.own h1.bd.ls,?_⟩;refine Calls.mono (zrg h1.c13 hn) ?_;rintro e w'⟨rfl,hf'⟩;exact⟨rfl,hf',(h1.quiet hf').c13,hf.then hf',fun b=>(h1.quiet (hf'.then (Fr.alloc _ _ _))).c13,fun b d=>(h1.quiet (hf'.then (fr2 _ _ _))).c13⟩
theorem Sq.step(h:Sq w0 w c Q la nl ob oy no mb cs (.slice o n k) n xs l){K:Array Value}{tK tI:TypeId}(hK:tK≠150/\tK≠171) :
  ∀W bx g cap w',Fr [] w W->W.heap[bx]? = some (.cells K tK (0,0))->w.heap.size<=bx->w'.ownsRow 0 150 1 (.slice (some ⟨g,0,none⟩) (n+1) cap) (n+1) (xs++[.iface tI (.pointer (some ⟨bx,0,none⟩))])->Went W (.slice o n k) g w' ->
   w'.cell? ⟨mb,13,none⟩=some (.slice o n k)/\w'.frozen? ⟨mb,13,none⟩=false /\
   Hid (∃l' cs',Sq w0 (w'.setCell ⟨mb,13,none⟩ (.slice (some ⟨g,0,none⟩) (n+1) cap)) c Q la nl ob oy no mb cs' (.slice (some ⟨g,0,none⟩) (n+1) cap) (n+1) (xs++[.iface tI (.pointer (some ⟨bx,0,none⟩))]) l'/\(bx,Obj.cells K tK (0,0))∈l'/\(∀j,j≠13->cs'[j]? = cs[j]?)/\∀b ds t,t≠150->t≠171->(b,Obj.cells ds t (0,0))∈l->(b,Obj.cells ds t (0,0))∈l'):=by
 intro W bx g cap w' hf hb hbx hown hw;have h1:=h.bd.new hf hb hbx;have hr:RowL ((bx,Obj.cells K tK (0,0))::l) 150 (.slice o n k) n xs:=h.row.mono fun _ _ hm=>List.mem_cons_of_mem _ hm;obtain⟨l2,h2,hr2,hk2⟩:=h1.app hr hown hw;have hm2:(mb,Obj.cells cs 171 (0,0))∈l2:=hk2 _ _ _ (by decide) (List.mem_cons_of_mem _ h.box);have hb2:(bx,Obj.cells K tK (0,0))∈l2:=hk2 _ _ _ hK.1 List.mem_cons_self;refine⟨by rw[h2.cell hm2];exact h.at13,h2.free hm2 13,?_⟩;refine⟨_,_,⟨h2.set hm2 13 _,zeh _ _ _,by simpa using h.sz,?_,?_⟩,zei hb2 (h2.same hb2 hm2 hK.2),fun j hj=> ?_,fun b ds t ht1 ht2 hm=> ?_⟩
 .rw[Array.getElem?_setIfInBounds_self_of_lt (by rw[h.sz];omega)]
 .exact hr2.mono fun b cur hm=>zei hm (h2.same hm hm2 (by decide))
 .rw[Array.getElem?_setIfInBounds_ne (fun e=>hj e.symm)]
 have hm':=hk2 _ _ _ ht1 (List.mem_cons_of_mem _ hm);exact zei hm' (h2.same hm' hm2 ht2)
end
def tv(nl kd:Nat)(kw kk:Nat->Nat)(i:Nat):Value:=if i=0 then .iface 295 (.pointer (some ⟨kd,0,none⟩)) else if i<=nl then .iface 301 (.pointer (some ⟨kw (i-1),0,none⟩)) else .iface 304 (.pointer (some ⟨kk (i-nl-1),0,none⟩))
structure Sf(l:List (Nat×Obj))(cs cs0:Array Value)(xs:List Value)(mb:Nat)(la:Nat->Nat)(nl:Nat)(ob:Nat->Nat)(no lsB osB kd:Nat)(kw kk:Nat->Nat)(a b:Nat):Prop where
 hc:∀j,j≠13->cs[j]? = cs0[j]?
 lr:∃cur,(lsB,Obj.cells cur 172 (0,0))∈l/\∀i,i<nl->cur[i]? = some (pv (la i))
 wr:∃cur,(osB,Obj.cells cur 262 (0,0))∈l/\∀i,i<no->cur[i]? = some (pv (ob i))
 hd:(kd,Obj.cells #[pv mb,.int .i64 0] 300 (0,0))∈l
 hw:∀i,i<a->(kw i,Obj.cells #[pv mb,.int .i64 ((i+1:Nat):Int),pv (la i)] 303 (0,0))∈l
 hk:∀j,j<b->(kk j,Obj.cells #[pv mb,.int .i64 ((nl+1+j:Nat):Int),.int .i64 (j:Int),pv (ob j)] 306 (0,0))∈l
 len:xs.length=1+a+b
 ht:∀i,i<1+a+b->xs[i]? = some (tv nl kd kw kk i)
section
variable{l l':List (Nat×Obj)}{cs cs' cs0:Array Value}{xs:List Value}{mb nl no lsB osB kd:Nat}{la ob kw kk:Nat->Nat}{a b bx:Nat}
theorem Sf.rest(h:Sf l cs cs0 xs mb la nl ob no lsB osB kd kw kk a b)(hc:∀j,j≠13->cs'[j]? = cs[j]?)(hl:∀b ds t,t≠150->t≠171->(b,Obj.cells ds t (0,0))∈l->(b,Obj.cells ds t (0,0))∈l'):Sf l' cs' cs0 xs mb la nl ob no lsB osB kd kw kk a b:=by
 refine⟨fun j hj=>(hc j hj).trans (h.hc j hj),?_,?_,hl _ _ _ (by decide) (by decide) h.hd,fun i hi=>hl _ _ _ (by decide) (by decide) (h.hw i hi),fun i hi=>hl _ _ _ (by decide) (by decide) (h.hk i hi),h.len,h.ht⟩
 .obtain⟨cur,h1,h2⟩:=h.lr;exact⟨cur,hl _ _ _ (by decide) (by decide) h1,h2⟩
 obtain⟨cur,h1,h2⟩:=h.wr;exact⟨cur,hl _ _ _ (by decide) (by decide) h1,h2⟩
theorem Sf.lane(h:Sf l cs cs0 xs mb la nl ob no lsB osB kd kw kk a 0)(ha:a<nl)(hb:(bx,Obj.cells #[pv mb,.int .i64 ((a+1:Nat):Int),pv (la a)] 303 (0,0))∈l):Sf l cs cs0 (xs++[.iface 301 (.pointer (some ⟨bx,0,none⟩))]) mb la nl ob no lsB osB kd (upd kw a bx) kk (a+1) 0:=by
 refine⟨h.hc,h.lr,h.wr,h.hd,fun i hi=> ?_,fun j hj=>absurd hj (by omega),by rw[List.length_append,h.len];simp only[List.length_cons,List.length_nil];omega,fun i hi=> ?_⟩
 .by_cases e:i=a
  .subst e;rw[zad];exact hb
  rw[zac _ _ e];exact h.hw i (by omega)
 by_cases e:i=1+a
 .subst e;rw[List.getElem?_append_right (by rw[h.len];omega),h.len];simp only[tv];rw[if_neg (by omega),if_pos (by omega),show 1+a-1=a by omega,zad,show 1+a-(1+a+0)=0 by omega];first|done|rfl
 rw[List.getElem?_append_left (by rw[h.len];omega),h.ht i (by omega)];simp only[tv];by_cases e0:i=0
 .rw[if_pos e0,if_pos e0]
 rw[if_neg e0,if_neg e0,if_pos (by omega),if_pos (by omega),zac _ _ (by omega)]
theorem Sf.owner(h:Sf l cs cs0 xs mb la nl ob no lsB osB kd kw kk nl b)(hb:(bx,Obj.cells #[pv mb,.int .i64 ((nl+1+b:Nat):Int),.int .i64 (b:Int),pv (ob b)] 306 (0,0))∈l):Sf l cs cs0 (xs++[.iface 304 (.pointer (some ⟨bx,0,none⟩))]) mb la nl ob no lsB osB kd kw (upd kk b bx) nl (b+1):=by
 refine⟨h.hc,h.lr,h.wr,h.hd,h.hw,fun i hi=> ?_,by rw[List.length_append,h.len];simp only[List.length_cons,List.length_nil];omega,fun i hi=> ?_⟩
 .by_cases e:i=b
  .subst e;rw[zad];exact hb
  rw[zac _ _ e];exact h.hk i (by omega)
 by_cases e:i=1+nl+b
 .subst e;rw[List.getElem?_append_right (by rw[h.len];omega),h.len];simp only[tv];rw[if_neg (by omega),if_neg (by omega),show 1+nl+b-nl-1=b by omega,zad,show 1+nl+b-(1+nl+b)=0 by omega];first|done|rfl
 rw[List.getElem?_append_left (by rw[h.len];omega),h.ht i (by omega)];simp only[tv];by_cases e0:i=0
 .rw[if_pos e0,if_pos e0]
 rw[if_neg e0,if_neg e0];by_cases e1:i<=nl
 .rw[if_pos e1,if_pos e1]
 rw[if_neg e1,if_neg e1,zac _ _ (by omega)]
end
def SaP(w0:World)(c:Cf)(Q:Ix->Part)(la:Nat->Nat)(nl:Nat)(ob:Nat->Nat)(oy:Nat->Oy)(no mb lsB osB:Nat)(cs0:Array Value)(a b:Nat)(w:World):Prop:=
 ∃l cs xs so k kd kw kk,Sq w0 w c Q la nl ob oy no mb cs (.slice so (1+a+b) k) (1+a+b) xs l/\Sf l cs cs0 xs mb la nl ob no lsB osB kd kw kk a b
def SaE(w0:World)(c:Cf)(Q:Ix->Part)(la:Nat->Nat)(nl:Nat)(ob:Nat->Nat)(oy:Nat->Oy)(no mb lsB osB:Nat)(cs0:Array Value)(w:World):Prop:=
 ∃l cs xs so k kd kw kk kg,Sq w0 w c Q la nl ob oy no mb cs (.slice so (1+nl+no+1) k) (1+nl+no+1) (xs++[.iface 307 (.pointer (some ⟨kg,0,none⟩))]) l/\Sf l cs cs0 xs mb la nl ob no lsB osB kd kw kk nl no/\(kg,Obj.cells #[.pointer (some ⟨mb,0,none⟩),.int .i64 ((1+nl+no:Nat):Int)] 308 (0,0))∈l
section
variable{w0 w:World}{c:Cf}{Q:Ix->Part}{la:Nat->Nat}{nl:Nat}{ob:Nat->Nat}{oy:Nat->Oy}{no mb lsB osB:Nat}{cs0:Array Value}
theorem ztc{l:List (Nat×Obj)}{lk ok:Nat}{curL curO:Array Value}(h:Bd w0 w c Q la nl ob oy no l)(hm:(mb,Obj.cells cs0 171 (0,0))∈l)(hsz:cs0.size=19)(h13:cs0[13]? = some (.slice none 0 0))(h10:cs0[10]? = some (.slice (some ⟨lsB,0,none⟩) nl lk))(h11:cs0[11]? = some (.slice (some ⟨osB,0,none⟩) no ok))(hL:(lsB,Obj.cells curL 172 (0,0))∈l)(hL2:∀i,i<nl->curL[i]? = some (pv (la i)))(hO:(osB,Obj.cells curO 262 (0,0))∈l)(hO2:∀i,i<no->curO[i]? = some (pv (ob i)))(hnl:nl<=16)(hno:no<=16) :
  Calls prog 157 #[.pointer (some ⟨mb,0,none⟩)] w fun e w'=>(∃v,e=.returned v)/\SaE w0 c Q la nl ob oy no mb lsB osB cs0 w':=by
 obtain⟨iT,hiT,hzT,hsT,hbT⟩:=zrh zaci;have hs0:Sq w0 w c Q la nl ob oy no mb cs0 (.slice none 0 0) 0 [] l:=⟨h,hm,hsz,h13,RowL.nil _ _⟩;obtain⟨o,n,k,xs,ho,hn,hk,hxs⟩:∃(o:Option Addr)(n k:Nat)(xs:List Value),o=none/\n=0/\k=0/\xs=[]:=⟨_,_,_,_,rfl,rfl,rfl,rfl⟩;have hs1:Sq w0 w c Q la nl ob oy no mb cs0 (.slice o n k) n xs l:=by rw[ho,hn,hk,hxs];exact hs0
 have HX:Hid (HxP w mb o n k xs):=hs1.hx (by omega);have HA:Hid (∀W bx g cap w',Fr [] w W->W.heap[bx]? = some (.cells #[.pointer (some ⟨mb,0,none⟩),.int .i64 (n:Int)] 300 (0,0))->w.heap.size<=bx->w'.ownsRow 0 150 1 (.slice (some ⟨g,0,none⟩) (n+1) cap) (n+1) (xs++[.iface 295 (.pointer (some ⟨bx,0,none⟩))])->Went W (.slice o n k) g w' ->
   w'.cell? ⟨mb,13,none⟩=some (.slice o n k)/\w'.frozen? ⟨mb,13,none⟩=false/\Hid (SaP w0 c Q la nl ob oy no mb lsB osB cs0 0 0 (w'.setCell ⟨mb,13,none⟩ (.slice (some ⟨g,0,none⟩) (n+1) cap)))):=fun W bx g cap w' a1 a2 a3 a4 a5=>by
  obtain⟨q1,q2,q3⟩:=hs1.step (tK:=300) (tI:=295) ⟨by decide,by decide⟩ W bx g cap w' a1 a2 a3 a4 a5;refine⟨q1,q2,?_⟩;obtain⟨l',cs',r1,r2,r3,r4⟩:=q3.out;rw[hn,hxs]at r1
  rw[hn]at r2
  refine⟨l',cs',_,_,cap,bx,fun _=>0,fun _=>0,(by rw[hn];exact r1),⟨r3,⟨curL,r4 _ _ _ (by decide) (by decide) hL,hL2⟩,⟨curO,r4 _ _ _ (by decide) (by decide) hO,hO2⟩,r2,fun i hi=>absurd hi (by omega),fun i hi=>absurd hi (by omega),rfl,fun i hi=> ?_⟩⟩;obtain rfl:i=0:=by omega
  rfl
 obtain⟨c13,ow0,HN⟩:=HX.out _ (Fr.drew [] w);have hn2:n<=50:=by omega
 have H10:Hid (cs0[10]? = some (.slice (some ⟨lsB,0,none⟩) nl lk)):=h10;have H11:Hid (cs0[11]? = some (.slice (some ⟨osB,0,none⟩) no ok)):=h11;clear h hm hsz h13 h10 h11 hL hL2 hO hO2 hs0 hs1 ho hn hk hxs ow0;go_enter func157,ntmps157;go_upto_region 0 with fail
 go_cut [6] from 6 to 19 (fun p wx=>p=.pointer (some ⟨mb,0,none⟩)/\SaP w0 c Q la nl ob oy no mb lsB osB cs0 0 0 wx)
 case first=>
  go_region_law (first
  |(refine zeg _ rfl (.tmp 10) (.tmp 16) 167 rfl 150 iT .nilIface 1 16 zhz hiT hzT hsT hbT rfl (by decide) (.slice o n k) n xs (by rfl) (HX.out _ (HF2.out.then (fr2 _ _ _))).2.1 ⟨w2.heap.size+1,0,none⟩ 1 [.iface 295 (.pointer (some ⟨w2.heap.size,0,none⟩))] (by rfl) rfl (zej (zlt _ _ _ _)) (zge _ _) (by omega) (by unfold maxLen;omega) ?_;intro g cap w4 hO hW;obtain⟨e13,ef,HP⟩:=HA.out _ _ g cap w4 (HF2.out.then (fr2 _ _ _)) (zlu _ _ _ _) HF2.out.size hO hW)
  |(go_simp;go_at_call 181;with_reducible refine Calls.mono HN.out ?_;rintro e w2⟨rfl,hf2,d13,HF2,d14,d15⟩;dsimp only))
  all_goals (go_wp2;go_meet;exact⟨rfl,HP.out⟩)
 obtain⟨rfl,hS⟩:=hcut;have HS0:Hid (SaP w0 c Q la nl ob oy no mb lsB osB cs0 0 0 wc):=hS;clear hS HX HA HN c13 hn2;have c10:wc.cell? ⟨mb,10,none⟩=some (.slice (some ⟨lsB,0,none⟩) nl lk):=by
  obtain⟨l,cs,xs,so,k,kd,kw,kk,q1,q2⟩:=HS0.out;rw[q1.bd.cell q1.box,q2.hc 10 (by decide)];exact H10.out
 go_wp2_with fail
 go_loopw [25] (fun ii wr=>∃(i:Nat),ii=.int .i64 i/\i<=nl/\Hid (SaP w0 c Q la nl ob oy no mb lsB osB cs0 i 0 wr)) (fun ii _=>nl-(RowKit.intOf ii).toNat)
 case atStart=>exact⟨0,rfl,Nat.zero_le _,HS0⟩
 case round=>
  obtain⟨i,rfl,hin,HS⟩:=hrel;by_cases hi:i<nl
  .have hlt:(i:Int)<nl:=by omega
   obtain⟨l,cs,xs,so,k,kd,kw,kk,q1,q2⟩:=HS.out;obtain⟨n,hn⟩:∃n,n=1+i+0:=⟨_,rfl⟩;rw[<-hn]at q1
   obtain⟨o,ho⟩:∃o,o=so:=⟨_,rfl⟩;rw[<-ho]at q1
   have HX:Hid (HxP wr mb o n k xs):=q1.hx (by omega);obtain⟨cur,hcur,hcur2⟩:=q2.lr;have cl:wr.cell? ⟨lsB,i,none⟩=some (.pointer (some ⟨la i,0,none⟩)):=by rw[q1.bd.cell hcur];exact hcur2 i hi
   have HA:Hid (∀W bx g cap w',Fr [] wr W->W.heap[bx]? = some (.cells #[.pointer (some ⟨mb,0,none⟩),.int .i64 (n:Int),.pointer (some ⟨la i,0,none⟩)] 303 (0,0))->wr.heap.size<=bx->w'.ownsRow 0 150 1 (.slice (some ⟨g,0,none⟩) (n+1) cap) (n+1) (xs++[.iface 301 (.pointer (some ⟨bx,0,none⟩))])->Went W (.slice o n k) g w' ->
     w'.cell? ⟨mb,13,none⟩=some (.slice o n k)/\w'.frozen? ⟨mb,13,none⟩=false/\Hid (SaP w0 c Q la nl ob oy no mb lsB osB cs0 (i+1) 0 (w'.setCell ⟨mb,13,none⟩ (.slice (some ⟨g,0,none⟩) (n+1) cap)))):=fun W bx g cap w' a1 a2 a3 a4 a5=>by
    obtain⟨p1,p2,p3⟩:=q1.step (tK:=303) (tI:=301) ⟨by decide,by decide⟩ W bx g cap w' a1 a2 a3 a4 a5;refine⟨p1,p2,?_⟩;obtain⟨l',cs',r1,r2,r3,r4⟩:=p3.out;have e:1+(i+1)+0=n+1:=(by omega);have hf:=(q2.rest r3 r4).lane (bx:=bx) hi (by rw[hn]at r2;have e1:1+i+0=i+1:=(by omega);rw[e1]at r2;exact r2);exact⟨l',cs',_,some ⟨g,0,none⟩,cap,kd,upd kw i bx,kk,by rw[e];exact r1,hf⟩
   obtain⟨c13,_,HN⟩:=HX.out _ (Fr.drew [] wr);have hn2:n<=50:=by omega
   clear q1 q2 hcur hcur2 hn ho HS;go_wp2_with fail
   go_region_law (first
 |(refine zeg _ rfl (.tmp 33) (.tmp 40) 167 rfl 150 iT .nilIface 1 16 zhz hiT hzT hsT hbT rfl (by decide) (.slice o n k) n xs (by rfl) (HX.out _ (HF2.out.then (fr2 _ _ _))).2.1 ⟨w2.heap.size+1,0,none⟩ 1 [.iface 301 (.pointer (some ⟨w2.heap.size,0,none⟩))] (by rfl) rfl (zej (zlt _ _ _ _)) (zge _ _) (by omega) (by unfold maxLen;omega) ?_;intro g cap w4 hO hW;obtain⟨e13,ef,HP⟩:=HA.out _ _ g cap w4 (HF2.out.then (fr2 _ _ _)) (zlu _ _ _ _) HF2.out.size hO hW)
 |(go_simp;go_at_call 181;with_reducible refine Calls.mono HN.out ?_;rintro e w2⟨rfl,hf2,d13,HF2,d14,d15⟩;dsimp only))
   all_goals (
    go_wp2_with fail
    go_roundw;case rel=>exact⟨i+1,by simp,by omega,HP⟩
    case measure=>simp[RowKit.intOf];omega)
  .have hil:i=nl:=by omega
   rw[hil]at HS
   have hlt:¬(i:Int)<nl:=by omega
   have c11:wr.cell? ⟨mb,11,none⟩=some (.slice (some ⟨osB,0,none⟩) no ok):=by
    obtain⟨l,cs,xs,so,k,kd,kw,kk,q1,q2⟩:=HS.out;rw[q1.bd.cell q1.box,q2.hc 11 (by decide)];exact H11.out
   clear hil c10 HS0;obtain⟨wq,hwq⟩:∃wq,wq=wr:=⟨_,rfl⟩;subst hwq;go_wp2_with fail
   go_loopw [50] (fun jj wr=>∃(j:Nat),jj=.int .i64 j/\j<=no/\Hid (SaP w0 c Q la nl ob oy no mb lsB osB cs0 nl j wr)) (fun jj _=>no-(RowKit.intOf jj).toNat)
   case atStart=>exact⟨0,rfl,Nat.zero_le _,HS⟩
   case round=>
    obtain⟨j,rfl,hjn,HSj⟩:=hrel;by_cases hj:j<no
    .have hlj:(j:Int)<no:=(by omega);obtain⟨l,cs,xs,so,k,kd,kw,kk,q1,q2⟩:=HSj.out;obtain⟨n,hn⟩:∃n,n=1+nl+j:=⟨_,rfl⟩;rw[<-hn]at q1
     obtain⟨o,ho⟩:∃o,o=so:=⟨_,rfl⟩;rw[<-ho]at q1
     have HX:Hid (HxP wr mb o n k xs):=q1.hx (by omega);obtain⟨cur,hcur,hcur2⟩:=q2.wr;have cl:wr.cell? ⟨osB,j,none⟩=some (.pointer (some ⟨ob j,0,none⟩)):=by rw[q1.bd.cell hcur];exact hcur2 j hj
     have HA:Hid (∀W bx g cap w',Fr [] wr W->W.heap[bx]? = some (.cells #[.pointer (some ⟨mb,0,none⟩),.int .i64 (n:Int),.int .i64 (j:Int),.pointer (some ⟨ob j,0,none⟩)] 306 (0,0))->wr.heap.size<=bx->w'.ownsRow 0 150 1 (.slice (some ⟨g,0,none⟩) (n+1) cap) (n+1) (xs++[.iface 304 (.pointer (some ⟨bx,0,none⟩))])->Went W (.slice o n k) g w' ->
       w'.cell? ⟨mb,13,none⟩=some (.slice o n k)/\w'.frozen? ⟨mb,13,none⟩=false/\Hid (SaP w0 c Q la nl ob oy no mb lsB osB cs0 nl (j+1) (w'.setCell ⟨mb,13,none⟩ (.slice (some ⟨g,0,none⟩) (n+1) cap)))):=fun W bx g cap w' a1 a2 a3 a4 a5=>by
      obtain⟨p1,p2,p3⟩:=q1.step (tK:=306) (tI:=304) ⟨by decide,by decide⟩ W bx g cap w' a1 a2 a3 a4 a5;refine⟨p1,p2,?_⟩;obtain⟨l',cs',r1,r2,r3,r4⟩:=p3.out;have e:1+nl+(j+1)=n+1:=(by omega);have hf:=(q2.rest r3 r4).owner (bx:=bx) (by rw[hn]at r2;have e1:1+nl+j=nl+1+j:=(by omega);rw[e1]at r2;exact r2);exact⟨l',cs',_,some ⟨g,0,none⟩,cap,kd,kw,upd kk j bx,by rw[e];exact r1,hf⟩
     obtain⟨c13,_,HN⟩:=HX.out _ (Fr.drew [] wr);have hn2:n<=50:=(by omega);clear q1 q2 hcur hcur2 hn ho HSj;go_wp2_with fail
     go_region_law (first
 |(refine zeg _ rfl (.tmp 59) (.tmp 67) 167 rfl 150 iT .nilIface 1 16 zhz hiT hzT hsT hbT rfl (by decide) (.slice o n k) n xs (by rfl) (HX.out _ (HF2.out.then (fr2 _ _ _))).2.1 ⟨w2.heap.size+1,0,none⟩ 1 [.iface 304 (.pointer (some ⟨w2.heap.size,0,none⟩))] (by rfl) rfl (zej (zlt _ _ _ _)) (zge _ _) (by omega) (by unfold maxLen;omega) ?_;intro g cap w4 hO hW;obtain⟨e13,ef,HP⟩:=HA.out _ _ g cap w4 (HF2.out.then (fr2 _ _ _)) (zlu _ _ _ _) HF2.out.size hO hW)
 |(go_simp;go_at_call 181;with_reducible refine Calls.mono HN.out ?_;rintro e w2⟨rfl,hf2,d13,HF2,d14,d15⟩;dsimp only))
     all_goals (
      go_wp2_with fail
      go_roundw;case rel=>exact⟨j+1,by simp,by omega,HP⟩
      case measure=>simp[RowKit.intOf];omega)
    .have hjl:j=no:=(by omega);rw[hjl]at HSj
     have hlj:¬(j:Int)<no:=(by omega);obtain⟨l,cs,xs,so,k,kd,kw,kk,q1,q2⟩:=HSj.out;obtain⟨n,hn⟩:∃n,n=1+nl+no:=⟨_,rfl⟩;rw[<-hn]at q1
     obtain⟨o,ho⟩:∃o,o=so:=⟨_,rfl⟩;rw[<-ho]at q1
     have HX:Hid (HxP wr mb o n k xs):=q1.hx (by omega);have HA:Hid (∀W bx g cap w',Fr [] wr W->W.heap[bx]? = some (.cells #[.pointer (some ⟨mb,0,none⟩),.int .i64 (n:Int)] 308 (0,0))->wr.heap.size<=bx->w'.ownsRow 0 150 1 (.slice (some ⟨g,0,none⟩) (n+1) cap) (n+1) (xs++[.iface 307 (.pointer (some ⟨bx,0,none⟩))])->Went W (.slice o n k) g w' ->
       w'.cell? ⟨mb,13,none⟩=some (.slice o n k)/\w'.frozen? ⟨mb,13,none⟩=false/\Hid (SaE w0 c Q la nl ob oy no mb lsB osB cs0 (w'.setCell ⟨mb,13,none⟩ (.slice (some ⟨g,0,none⟩) (n+1) cap)))):=fun W bx g cap w' a1 a2 a3 a4 a5=>by
      obtain⟨p1,p2,p3⟩:=q1.step (tK:=308) (tI:=307) ⟨by decide,by decide⟩ W bx g cap w' a1 a2 a3 a4 a5;refine⟨p1,p2,?_⟩;obtain⟨l',cs',r1,r2,r3,r4⟩:=p3.out;rw[hn]at r1 r2
      exact⟨l',cs',xs,some ⟨g,0,none⟩,cap,kd,kw,kk,bx,(by rw[hn];exact r1),q2.rest r3 r4,r2⟩
     obtain⟨c13,_,HN⟩:=HX.out _ (Fr.drew [] wr);have hn2:n<=50:=(by omega);clear q1 q2 hn ho HSj hjl HS;go_wp2_with fail
     go_region_law (first
 |(refine zeg _ rfl (.tmp 76) (.tmp 82) 167 rfl 150 iT .nilIface 1 16 zhz hiT hzT hsT hbT rfl (by decide) (.slice o n k) n xs (by rfl) (HX.out _ (HF2.out.then (fr2 _ _ _))).2.1 ⟨w2.heap.size+1,0,none⟩ 1 [.iface 307 (.pointer (some ⟨w2.heap.size,0,none⟩))] (by rfl) rfl (zej (zlt _ _ _ _)) (zge _ _) (by omega) (by unfold maxLen;omega) ?_;intro g cap w4 hO hW;obtain⟨e13,ef,HP⟩:=HA.out _ _ g cap w4 (HF2.out.then (fr2 _ _ _)) (zlu _ _ _ _) HF2.out.size hO hW)
 |(go_simp;go_at_call 181;with_reducible refine Calls.mono HN.out ?_;rintro e w2⟨rfl,hf2,d13,HF2,d14,d15⟩;dsimp only))
     all_goals (
      go_wp2
      go_end0
      exact⟨⟨_,rfl⟩,HP.out⟩)
end
end Go.Proofs.YtojjdnjfaelnfaaGreatDoor.Ap
