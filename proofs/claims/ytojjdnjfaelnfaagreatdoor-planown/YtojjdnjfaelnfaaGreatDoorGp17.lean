/- Contracts and lemmas. -/
import Derived.Test.YtojjdnjfaelnfaaGreatDoorGp15
import Derived.Test.YtojjdnjfaelnfaaGreatDoorGp16
import Derived.Sort.KeysCollected
import Derived.WalkSpells
set_option maxHeartbeats 1000000
set_option linter.unusedSimpArgs false
set_option linter.unusedVariables false
namespace Go.Proofs.YtojjdnjfaelnfaaGreatDoor.O
open Go.ChangeShapes Go.WideShapes Go.ChangeAt Go.RowKit Go.Lib Go.Maps Go.Proofs.Tryz
theorem zmm:prog.underlying 353=some (.map 9 99):=by kernel_rfl
theorem keyedStr:Keyed prog 9:=string_keyed zeo
theorem zaer(w:World):(zeroValue 99).run prog w=.ok (.slice none 0 0) w:=by kernel_rfl
theorem zlh(s:ByteArray)(hs:s.size<=maxLen):keyOf prog 9 (.string s)=some (kl7 s):=Go.WideMaps.keyOf_string_mk zeo hs
abbrev Sl3:=Option (Nat×Nat×Nat)
def slV:Sl3->Value
 |none=> .slice none 0 0
 |some (g,L,c)=> .slice (some ⟨g,0,none⟩) L c
def slD:Sl3->DataW Unit
 |none=> .agg []
 |some (g,L,c)=> .agg [.lit (.int .i64 g),.lit (.int .i64 L),.lit (.int .i64 c)]
def zli(v:Value):Option (DataW Unit×List MemPlace):=
 match v with
 | .slice none 0 0=>some (slD none,[])
 | .slice (some ⟨g,0,none⟩) L c=>some (slD (some (g,L,c)),[])
 |_=>none
theorem znm(s:Sl3):zli (slV s)=some (slD s,[]):=by
 rcases s with _|⟨g,L,c⟩<;>rfl
theorem zvk{v:Value}{y:DataW Unit×List MemPlace}(h:zli v=some y):∃s,v=slV s/\y=(slD s,[]):=by
 unfold zli at h;split at h
 .simp only[Option.some.injEq]at h;exact⟨none,rfl,h.symm⟩
 .rename_i g L c;simp only[Option.some.injEq]at h;exact⟨some (g,L,c),rfl,h.symm⟩
 cases h
theorem zty{s t:Sl3}(h:slD s=slD t):s=t:=by
 rcases s with _|⟨g,L,c⟩<;>rcases t with _|⟨g',L',c'⟩
 .rfl
 .simp[slD]at h
 .simp[slD]at h
 simp[slD]at h
 obtain⟨h1,h2,h3⟩:=h;have e1:g=g':=by omega
 have e2:L=L':=by omega
 have e3:c=c':=by omega
 rw[e1,e2,e3]
def MapV(w:World)(b n:Nat)(G:ByteArray->Sl3):Prop:=
 ∃D:DataW Unit,w.ownsMap prog 9 zli b n D/\(∀s,has D (kl7 s)=(G s).isSome)/\∀s,(G s).isSome=true->∀z,D.atKey (kl7 s) z=slD (G s)
theorem MapV.lt{w:World}{b n:Nat}{G:ByteArray->Sl3}(h:MapV w b n G):b<w.heap.size:=by
 obtain⟨D,hD,_⟩:=h;exact hD.lt
theorem MapV.block{w:World}{b n:Nat}{G:ByteArray->Sl3}(h:MapV w b n G):∃es c,w.heap[b]? = some (.map es c):=by
 obtain⟨D,⟨es,clock,hb,hr⟩,h2⟩:=h;exact⟨es,clock,hb⟩
theorem MapV.keep{S:List Nat}{w w':World}{b n:Nat}{G:ByteArray->Sl3}(h:MapV w b n G)(hf:Fr S w w')(hn:b∉S):MapV w' b n G:=by
 have hlt:=h.lt;obtain⟨D,⟨es,clock,hb,hr⟩,h2⟩:=h;exact⟨D,⟨es,clock,(hf.block b hlt hn).trans hb,hr⟩,h2⟩
theorem MapV.mono{w:World}{b n m:Nat}{G:ByteArray->Sl3}(h:MapV w b n G)(hn:n<=m):MapV w b m G:=by
 obtain⟨D,hD,h2⟩:=h;exact⟨D,hD.mono hn,h2⟩
theorem MapV.made(w:World):MapV (w.alloc (.map #[] 0)) w.heap.size 0 (fun _=>none):=
 ⟨.map [],World.ownsMap_made w _ _ _,fun s=>rfl,fun s h=>by cases h⟩
theorem MapV.look{w:World}{b n:Nat}{G:ByteArray->Sl3}(h:MapV w b n G)(key:ByteArray)(hs:key.size<=maxLen) :
  (Instr.lookup 353 (.map (some b)) (.string key) false).run prog w=.ok (slV (G key)) w:=by
 obtain⟨D,hD,hH,hA⟩:=h;have hk:=zlh key hs;obtain⟨v,ps,hrun,hv⟩:=hD.lookup keyedStr zmm (zaer _) (znm none) hk;rw[hrun];obtain⟨s,rfl,e⟩:=zvk hv;simp only[Prod.mk.injEq]at e;cases hG:G key with
 |some x=>
  rw[hA key (by rw[hG];rfl),hG]at e
  rw[zty e.1]
 |none=>
  have hh:has D (kl7 key)=false:=by rw[hH key,hG];rfl
  rw[atKey_of_not_has hh]at e
  rw[zty e.1]
def updG(G:ByteArray->Sl3)(key:ByteArray)(s:Nat×Nat×Nat):ByteArray->Sl3:=fun k=>if k=key then some s else G k
theorem MapV.store{w:World}{b n:Nat}{G:ByteArray->Sl3}(h:MapV w b n G)(key:ByteArray)(s:Nat×Nat×Nat)(hs:key.size<=maxLen)(hn:n<maxLen) :
  ∃w',(Instr.mapUpdate 353 (.map (some b)) (.string key) (slV (some s))).run prog w=.ok () w'/\MapV w' b (n+1) (updG G key s)/\Fr [b] w w':=by
 obtain⟨D,hD,hH,hA⟩:=h;have hk:=zlh key hs;have hI:=hD.isMap;obtain⟨w',hrun,hO,hg⟩:=hD.update keyedStr zmm hn hk (znm (some s));refine⟨w',hrun,⟨_,hO,?_,?_⟩,Fr.grown hg (by intro k hk _;cases hk;simp)⟩
 .intro t;unfold updG;by_cases he:t=key
  .subst he;rw[if_pos rfl,has_put_same hI (keyedStr.key hk)];rfl
  rw[if_neg he,has_put_other (fun e=>he (ztw e)),hH t]
 intro t ht z;unfold updG at ht ⊢;by_cases he:t=key
 .subst he;rw[if_pos rfl];exact atKey_put_same hI (keyedStr.key hk) _ _
 rw[if_neg he]at ht ⊢
 rw[atKey_put_other (fun e=>he (ztw e))];exact hA t ht z
def okK9(k:ByteArray):Prop:=1<=k.size/\k.size<=64
structure Sh(w0 w:World)(sb b n:Nat)(M:ByteArray->List Vn):Prop where
 box:w.heap[sb]? = some (.cells #[.map (some b)] 357 (0,0))
 sbn:w0.heap.size<=sb
 bn:w0.heap.size<=b
 ok:∀k,okV (M k)
 map:∃G,MapV w b n G/\(∀k,G k=none->M k=[])/\(∀k g L c,G k=some (g,L,c)->VOut w0 w (some ⟨g,0,none⟩) L c (M k)/\0<L/\okK9 k)/\(∀k k' g L c L' c',G k=some (g,L,c)->G k'=some (g,L',c')->k=k')
theorem zaes{s t:Sl3}(h:slV s=slV t):s=t:=by
 rcases s with _|⟨g,L,c⟩<;>rcases t with _|⟨g',L',c'⟩
 .rfl
 .simp[slV]at h
 .simp[slV]at h
 simp[slV]at h
 obtain⟨h1,h2,h3⟩:=h;rw[h1,h2,h3]
theorem MapV.one{w:World}{b n m:Nat}{G G':ByteArray->Sl3}(h:MapV w b n G)(h':MapV w b m G')(k:ByteArray)(hk:k.size<=maxLen):G k=G' k:=by
 have e1:=h.look k hk;have e2:=h'.look k hk;rw[e1]at e2
 simp only[Result.ok.injEq,and_true]at e2;exact zaes e2
def RowOf(w:World)(b j:Nat):Prop:=∃G n k L c,MapV w b n G/\k.size<=maxLen/\G k=some (j,L,c)
theorem RowOf.back{S:List Nat}{w w':World}{b j:Nat}(h:RowOf w' b j)(hf:Fr S w w')(hb:b∉S)(hlt:b<w.heap.size):RowOf w b j:=by
 obtain⟨G,n,k,L,c,⟨D,⟨es,clock,hb',hr⟩,h2⟩,hk,hG⟩:=h;exact⟨G,n,k,L,c,⟨D,⟨es,clock,(hf.block b hlt hb).symm.trans hb',hr⟩,h2⟩,hk,hG⟩
def Mine(w0 w:World)(b j:Nat):Prop:=j=b\/((w0.heap.size<=j/\∃cur,w.heap[j]? = some (.cells cur 103 (0,0)))/\RowOf w b j)
def FrS(w0:World)(b:Nat)(w w':World):Prop:=∃S,Fr S w w'/\(b<w.heap.size->(∀j∈S,j<w.heap.size->Mine w0 w b j)/\∀j,RowOf w' b j->RowOf w b j\/w.heap.size<=j)
theorem FrS.of{w0:World}{b:Nat}{w w':World}(h:Fr [] w w'):FrS w0 b w w':=⟨[],h,fun hb=>⟨by simp,fun j hr=>Or.inl (hr.back h (by simp) hb)⟩⟩
theorem FrS.size{w0:World}{b:Nat}{w w':World}(h:FrS w0 b w w'):w.heap.size<=w'.heap.size:=by
 obtain⟨S,h,_⟩:=h;exact h.size
theorem FrS.then{w0:World}{b:Nat}{w w1 w2:World}(h:FrS w0 b w w1)(k:FrS w0 b w1 w2):FrS w0 b w w2:=by
 obtain⟨S,hS,hm⟩:=h;obtain⟨T,hT,kn⟩:=k;refine⟨S++T,hS.trans hT (fun x hx _=>List.mem_append_left _ hx) (fun x hx _=>List.mem_append_right _ hx),fun hb=> ?_⟩;obtain⟨m1,m2⟩:=hm hb;obtain⟨k1,k2⟩:=kn (Nat.lt_of_lt_of_le hb hS.size);refine⟨fun j hj hlt=> ?_,fun j hr=> ?_⟩
 .rcases List.mem_append.1 hj with h1|h1
  .exact m1 j h1 hlt
  by_cases hjS:j∈S
  .exact m1 j hjS hlt
  rcases k1 j h1 (Nat.lt_of_lt_of_le hlt hS.size) with e|⟨⟨e1,cur,e2⟩,e3⟩
  .exact Or.inl e
  rcases m2 j e3 with e4|e4
  .exact Or.inr ⟨⟨e1,cur,by rw[<-hS.block j hlt hjS];exact e2⟩,e4⟩
  omega
 rcases k2 j hr with h1|h1
 .exact m2 j h1
 exact Or.inr (Nat.le_trans hS.size h1)
theorem FrS.apart{w0:World}{b:Nat}{w w':World}(h:FrS w0 b w w')(hb:b<w.heap.size){j:Nat}{o:Obj}(hj:w.heap[j]? = some o)(hjb:j≠b)(hr:¬RowOf w b j):w'.heap[j]? = some o:=by
 obtain⟨S,hS,hm⟩:=h;have hlt:j<w.heap.size:=by
  rcases Nat.lt_or_ge j w.heap.size with h1|h1
  .exact h1
  rw[Array.getElem?_eq_none h1]at hj;cases hj
 rw[<-hj];refine hS.block j hlt (fun hjS=> ?_);rcases (hm hb).1 j hjS hlt with e|e
 .exact hjb e
 exact hr e.2
theorem FrS.rows{w0:World}{b:Nat}{w w':World}(h:FrS w0 b w w')(hb:b<w.heap.size){j:Nat}(hr:RowOf w' b j):RowOf w b j\/w.heap.size<=j:=by
 obtain⟨S,hS,hm⟩:=h;exact (hm hb).2 j hr
theorem FrS.keep{w0:World}{b:Nat}{w w':World}(h:FrS w0 b w w'){j:Nat}{cs:Array Value}{t:TypeId}{fr:Nat×Nat}(hj:w.heap[j]? = some (.cells cs t fr))(hb:∃es c,w.heap[b]? = some (.map es c))(ht:t≠103):w'.heap[j]? = some (.cells cs t fr):=by
 obtain⟨S,hS,hm⟩:=h;have hbl:b<w.heap.size:=by
  obtain⟨es,c,hb⟩:=hb;rcases Nat.lt_or_ge b w.heap.size with h1|h1
  .exact h1
  rw[Array.getElem?_eq_none h1]at hb;cases hb
 refine hS.keep hj (fun hjS=> ?_);rcases (hm hbl).1 j hjS (lt_of_block hj) with e|⟨⟨e1,cur,e2⟩,_⟩
 .obtain⟨es,c,hb⟩:=hb;rw[<-e,hj]at hb
  cases hb
 rw[hj]at e2
 simp only[Option.some.injEq,Obj.cells.injEq]at e2;exact ht e2.2.1
theorem FrS.below{w0:World}{b:Nat}{w w':World}(h:FrS w0 b w w')(hb:w0.heap.size<=b)(h0:Fr [] w0 w)(hbl:b<w.heap.size):Fr [] w0 w':=by
 obtain⟨S,hS,hm⟩:=h;refine h0.trans (hS.mono (T:=S) (fun _ x _=>x)) (fun _ x _=>x) (fun x hx hlt=> ?_);rcases (hm hbl).1 x hx (Nat.lt_of_lt_of_le hlt h0.size) with e|⟨⟨e1,_⟩,_⟩<;>omega
theorem Sh.mb{w0 w:World}{sb b n:Nat}{M:ByteArray->List Vn}(h:Sh w0 w sb b n M):∃es c,w.heap[b]? = some (.map es c):=by
 obtain⟨G,hM,_⟩:=h.map;exact hM.block
theorem Sh.bl{w0 w:World}{sb b n:Nat}{M:ByteArray->List Vn}(h:Sh w0 w sb b n M):b<w.heap.size:=by
 obtain⟨G,hM,_⟩:=h.map;exact hM.lt
theorem Sh.rowLt{w0 w:World}{sb b n:Nat}{M:ByteArray->List Vn}(h:Sh w0 w sb b n M){j:Nat}(hr:RowOf w b j):w0.heap.size<=j/\∃cur,w.heap[j]? = some (.cells cur 103 (0,0)):=by
 obtain⟨G,hM,h0,hg,hu⟩:=h.map;obtain⟨G',n',k,L,c,hM',hk,hG⟩:=hr;rw[hM'.one hM k hk]at hG
 exact (hg k j L c hG).1.blk j (by simp[Value.ownBlock])
theorem Sh.keepS{S:List Nat}{w0 w w':World}{sb b n:Nat}{M:ByteArray->List Vn}(h:Sh w0 w sb b n M)(hf:Fr S w w')(hs:sb∉S)(hn:∀j∈S,¬Mine w0 w b j):Sh w0 w' sb b n M:=by
 obtain⟨G,hM,h0,hr,hu⟩:=h.map;refine⟨hf.keep h.box hs,h.sbn,h.bn,h.ok,G,hM.keep hf (fun hb=>hn b hb (Or.inl rfl)),h0,fun k g L c hG=> ?_,hu⟩;obtain⟨hV,h1,h2⟩:=hr k g L c hG;refine⟨hV.keepS hf (fun j hj hjS=>hn j hjS (Or.inr ⟨hV.blk j hj,G,n,k,L,c,hM,(by have:=h2.2;unfold maxLen;omega),by simp[Value.ownBlock]at hj;subst hj;exact hG⟩)),h1,h2⟩
theorem Sh.keep{w0 w w':World}{sb b n:Nat}{M:ByteArray->List Vn}(h:Sh w0 w sb b n M)(hf:Fr [] w w'):Sh w0 w' sb b n M:=h.keepS hf (by simp) (by simp)
theorem Sh.mono{w0 w:World}{sb b n m:Nat}{M:ByteArray->List Vn}(h:Sh w0 w sb b n M)(hn:n<=m):Sh w0 w sb b m M:=by
 obtain⟨G,hM,hr⟩:=h.map;exact⟨h.box,h.sbn,h.bn,h.ok,G,hM.mono hn,hr⟩
theorem Sh.look{w0 w:World}{sb b n:Nat}{M:ByteArray->List Vn}(h:Sh w0 w sb b n M)(key:ByteArray)(hs:key.size<=maxLen) :
  ∃ro N rc,(Instr.lookup 353 (.map (some b)) (.string key) false).run prog w=.ok (.slice ro N rc) w/\VOut w0 w ro N rc (M key)/\(N=0\/okK9 key):=by
 obtain⟨G,hM,h0,hr,hu⟩:=h.map;rw[hM.look key hs];cases hG:G key with
 |none=>
  refine⟨none,0,0,rfl,?_,Or.inl rfl⟩;rw[h0 key hG];exact VOut.of ⟨rfl,.inl ⟨rfl,rfl⟩⟩ rfl
 |some x=>
  obtain⟨g,L,c⟩:=x;obtain⟨hV,h1,h2⟩:=hr key g L c hG;exact⟨_,L,c,rfl,hV,Or.inr h2⟩
def updM(M:ByteArray->List Vn)(key:ByteArray)(us:List Vn):ByteArray->List Vn:=fun k=>if k=key then us else M k
theorem Sh.lay{w0 w w1:World}{sb b n:Nat}{M:ByteArray->List Vn}(h:Sh w0 w sb b n M)(key:ByteArray)(hk:okK9 key)(hn:n<9007199254740992){ro ro':Option Addr}{N rc N' rc':Nat}{us:List Vn}(hlk:(Instr.lookup 353 (.map (some b)) (.string key) false).run prog w=.ok (.slice ro N rc) w)(hF:Fr (Value.slice ro N rc).ownBlock.toList w w1)(hV:VOut w0 w1 ro' N' rc' us)(hnew:∀g,(Value.slice ro' N' rc').ownBlock=some g->(Value.slice ro N rc).ownBlock=some g\/w.heap.size<=g)(hus:okV us)(h1:0<N') :
  ∃w2,(Instr.mapUpdate 353 (.map (some b)) (.string key) (.slice ro' N' rc')).run prog w1=.ok () w2/\Sh w0 w2 sb b (n+1) (updM M key us)/\FrS w0 b w w2/\Fr [b] w1 w2/\Fr ((Value.slice ro N rc).ownBlock.toList++[b]) w w2:=by
 have hmx:9007199254740992<=maxLen:=by unfold maxLen;omega
 obtain⟨G,hM,h0,hr,hu⟩:=h.map;have hlk2:=hM.look key (by have:=hk.2;omega);rw[hlk]at hlk2
 simp only[Result.ok.injEq,and_true]at hlk2;have hbk:=hM.block;have hmine:∀j∈(Value.slice ro N rc).ownBlock.toList,w0.heap.size<=j/\∃cur,w.heap[j]? = some (.cells cur 103 (0,0)):=by
  intro j hj;cases hG:G key with
  |none=>rw[hG]at hlk2;rw[hlk2]at hj;simp[slV,Value.ownBlock]at hj
  |some x=>
   obtain⟨g,L,c⟩:=x;rw[hG]at hlk2
   rw[hlk2]at hj
   exact (hr key g L c hG).1.blk j hj
 have hbn:b∉(Value.slice ro N rc).ownBlock.toList:=fun hj=>by
  obtain⟨_,cur,e⟩:=hmine b hj;obtain⟨es,c,e2⟩:=hbk;rw[e2]at e
  cases e
 have hsbn:sb∉(Value.slice ro N rc).ownBlock.toList:=fun hj=>by
  obtain⟨_,cur,e⟩:=hmine sb hj;rw[h.box]at e
  simp only[Option.some.injEq,Obj.cells.injEq]at e;exact absurd e.2.1 (by decide)
 have hM1:=hM.keep hF hbn;obtain⟨g',hg'⟩:∃g',ro'=some ⟨g',0,none⟩:=by
  obtain⟨rf,_,ho⟩:=hV.own;rcases ho.2 with⟨_,hz⟩|⟨g,cap,cur,e,_⟩
  .omega
  cases e;exact⟨g,rfl⟩
 subst hg';obtain⟨w2,hrun,hM2,hF2⟩:=hM1.store key (g',N',rc') (by have:=hk.2;omega) (by omega);obtain⟨_,cur',hcur'⟩:=hV.blk g' (by simp[Value.ownBlock]);have hg'b:g'≠b:=fun e=>by
  obtain⟨es,c,e2⟩:=hM1.block;rw[<-e,hcur']at e2
  cases e2
 have hsbb:sb≠b:=fun e=>by
  obtain⟨es,c,e2⟩:=hbk;rw[<-e,h.box]at e2
  cases e2
 refine⟨w2,hrun,⟨hF2.keep (hF.keep h.box hsbn) (by simpa using hsbb),h.sbn,h.bn,?_,updG G key (g',N',rc'),hM2,?_,?_,?_⟩,?_,hF2,hF.trans hF2 (fun x hx _=>List.mem_append_left _ hx) (fun x hx _=>List.mem_append_right _ hx)⟩
 .intro k;unfold updM;split
  .exact hus
  exact h.ok k
 .intro k hG;unfold updG at hG;unfold updM;by_cases e:k=key
  .rw[if_pos e]at hG;cases hG
  rw[if_neg e]at hG ⊢
  exact h0 k hG
 .intro k g L c hG;unfold updG at hG;unfold updM;by_cases e:k=key
  .rw[if_pos e]at hG ⊢
   simp only[Option.some.injEq,Prod.mk.injEq]at hG;obtain⟨rfl,rfl,rfl⟩:=hG;exact⟨hV.keepS hF2 (fun j hj=>by simp[Value.ownBlock]at hj;subst hj;simpa using hg'b),h1,by rw[e];exact hk⟩
  rw[if_neg e]at hG ⊢
  obtain⟨hV2,h2,h3⟩:=hr k g L c hG;have hgb:g≠b:=fun e=>by
   obtain⟨_,cur,e1⟩:=hV2.blk g (by simp[Value.ownBlock]);obtain⟨es,c,e2⟩:=hbk;rw[e,e2]at e1
   cases e1
  refine⟨(hV2.keepS hF (fun j hj hj2=> ?_)).keepS hF2 (fun j hj=>by simp[Value.ownBlock]at hj;subst hj;simpa using hgb),h2,h3⟩;simp[Value.ownBlock]at hj
  subst hj;cases hG2:G key with
  |none=>rw[hG2]at hlk2;rw[hlk2]at hj2;simp[slV,Value.ownBlock]at hj2
  |some x=>
   obtain⟨g2,L2,c2⟩:=x;rw[hG2]at hlk2
   rw[hlk2]at hj2
   simp[slV,Value.ownBlock]at hj2
   subst hj2;exact e (hu k key _ _ _ _ _ hG hG2)
 .have hfresh:∀k g L c,k≠key->G k=some (g,L,c)->g≠g':=by
   intro k g L c e hG e2;subst e2;rcases hnew g (by simp[Value.ownBlock]) with h4|h4
   .cases hG2:G key with
    |none=>rw[hG2]at hlk2;rw[hlk2]at h4;simp[slV,Value.ownBlock]at h4
    |some x=>
     obtain⟨g2,L2,c2⟩:=x;rw[hG2]at hlk2
     rw[hlk2]at h4
     simp[slV,Value.ownBlock]at h4
     subst h4;exact e (hu k key _ _ _ _ _ hG hG2)
   obtain⟨_,cur,e1⟩:=(hr k g L c hG).1.blk g (by simp[Value.ownBlock]);have:=lt_of_block e1;omega
  intro k k' g L c L' c' hG hG';unfold updG at hG hG';by_cases e:k=key<;>by_cases e':k'=key
  .rw[e,e']
  .rw[if_pos e]at hG
   rw[if_neg e']at hG'
   simp only[Option.some.injEq,Prod.mk.injEq]at hG;exact absurd hG.1.symm (hfresh k' g L' c' e' hG')
  .rw[if_neg e]at hG
   rw[if_pos e']at hG'
   simp only[Option.some.injEq,Prod.mk.injEq]at hG';exact absurd hG'.1.symm (hfresh k g L c e hG)
  rw[if_neg e]at hG
  rw[if_neg e']at hG'
  exact hu k k' g L c L' c' hG hG'
 have hrow:∀j∈(Value.slice ro N rc).ownBlock.toList,RowOf w b j:=by
  intro j hj;cases hG:G key with
  |none=>rw[hG]at hlk2;rw[hlk2]at hj;simp[slV,Value.ownBlock]at hj
  |some x=>
   obtain⟨g,L,c⟩:=x;rw[hG]at hlk2
   rw[hlk2]at hj
   simp[slV,Value.ownBlock]at hj
   subst hj;exact⟨G,n,key,L,c,hM,by have:=hk.2;omega,hG⟩
 refine⟨(Value.slice ro N rc).ownBlock.toList++[b],hF.trans hF2 (fun x hx _=>List.mem_append_left _ hx) (fun x hx _=>List.mem_append_right _ hx),fun hbl=>⟨fun j hj hlt=> ?_,fun j hj=> ?_⟩⟩
 .rcases List.mem_append.1 hj with h4|h4
  .exact Or.inr ⟨hmine j h4,hrow j h4⟩
  exact Or.inl (by simpa using h4)
 obtain⟨G',n',k',L',c',hM',hk',hG'⟩:=hj;rw[hM'.one hM2 k' hk']at hG'
 unfold updG at hG';by_cases e:k'=key
 .rw[if_pos e]at hG'
  simp only[Option.some.injEq,Prod.mk.injEq]at hG';obtain⟨rfl,rfl,rfl⟩:=hG';rcases hnew g' (by simp[Value.ownBlock]) with h4|h4
  .exact Or.inl (hrow g' (by rw[h4];simp))
  exact Or.inr h4
 rw[if_neg e]at hG'
 exact Or.inl ⟨G,n,k',L',c',hM,hk',hG'⟩
theorem Sh.made(w0 w:World)(hs:w0.heap.size<=w.heap.size):Sh w0 ((w.alloc (.map #[] 0)).alloc (.cells #[.map (some w.heap.size)] 357)) (w.heap.size+1) w.heap.size 0 (fun _=>[]):=by
 have e:(w.alloc (.map #[] 0)).heap.size=w.heap.size+1:=by simp
 refine⟨?_,by omega,hs,fun _=>ztt,fun _=>none,(MapV.made w).keep (Fr.alloc [] _ _) (by simp),fun _ _=>rfl,fun k g L c h=>(by cases h),fun k k' g L c L' c' h=>(by cases h)⟩;rw[<-e];exact heap_alloc_new _ _
structure Pt where
 num:Int
 key:ByteArray
 val:ByteArray
 drop:Bool
def Pt.v(p:Pt):Vn:=⟨p.num,p.val,p.drop⟩
structure PEach(x:Pt):Prop where
 k:x.key.size<=140737488355328
 v:x.val.size<=140737488355328
 lo: -9223372036854775808<=x.num
 hi:x.num<=9223372036854775807
section
variable{H:Type}{enc:TypeId×Value->H}
end
def PutM(M:ByteArray->List Vn)(key:ByteArray)(v:Vn)(M':ByteArray->List Vn)(ok:Bool):Prop:=
 (ok=false/\M'=M/\∃y∈M key,y.num=v.num)\/(ok=true/\(∀y∈M key,y.num≠v.num)/\∃us,M'=updM M key us/\okV us/\∀x,x∈us↔x∈M key\/x=v)
theorem zaet{M:ByteArray->List Vn}{key:ByteArray}{v:Vn}{us:List Vn}{ok:Bool}{c:Nat}(hM:okV (M key))(hv:okX v)(h:zqd (M key) v us ok c):c=0/\((ok=false/\PutM M key v M false)\/(ok=true/\okV us/\0<us.length/\PutM M key v (updM M key us) true)):=by
 rcases h with⟨_,h,_⟩|⟨hc,_,_,d,hd,h⟩
 .exact absurd ⟨hM,hv⟩ h
 refine⟨hc,?_⟩;have ht:=znl (v:=v) hM.2 hd;rcases h with⟨h1,h2,h3⟩|⟨h1,h2,h3⟩
 .exact Or.inl ⟨h3,Or.inl ⟨rfl,rfl,ht.1 h1⟩⟩
 have hus:okV us:=by rw[h2];exact zaeq hM hv hd h1
 refine Or.inr ⟨h3,hus,by rw[h2,zaep hd.le];omega,Or.inr ⟨rfl,fun y hy e=>h1 (ht.2 ⟨y,hy,e⟩),us,rfl,hus,fun x=> ?_⟩⟩;rw[h2,ztx];exact⟨fun h=>h.symm,fun h=>h.symm⟩
theorem znn{M:ByteArray->List Vn}{key:ByteArray}{v:Vn}(hM:okV (M key))(hv:okX v)(hl:∀y∈M key,y.num<v.num):okV (M key++[v])/\PutM M key v (updM M key (M key++[v])) true:=by
 have h1:okV (M key++[v]):=okV_snoc.2 ⟨hM,hv,hl⟩;exact⟨h1,Or.inr ⟨rfl,fun y hy e=>by have:=hl y hy;omega,_,rfl,h1,fun x=>by simp⟩⟩
theorem zaeu{vs:List Vn}{k:Int}(h:Ris vs)(h0:0<vs.length)(hl:(vs.getD (vs.length-1) Vn.zero).num<k):∀y∈vs,y.num<k:=by
 intro y hy;obtain⟨j,hj,e⟩:=zjn hy;rw[<-e];by_cases hjl:j=vs.length-1
 .rw[hjl];exact hl
 have:=zgs h (show j<vs.length-1 by omega) (by omega);omega
def okP(p:Pt):Prop:=okK9 p.key/\okX p.v
def zlj(M:ByteArray->List Vn)(p:Pt)(M':ByteArray->List Vn)(ok:Bool)(c:Nat):Prop:=
 (c=1/\ok=false/\¬okP p/\M'=M)\/(c=0/\okP p/\PutM M p.key p.v M' ok)
theorem zabi(w:World):Calls prog 213 #[] w fun e w'=>∃sb b,e=.returned (.pointer (some ⟨sb,0,none⟩))/\Sh w w' sb b 0 (fun _=>[])/\Fr [] w w':=by
 have hmm:=@run_makeMap prog;have HS:Hid (Sh w ((w.alloc (.map #[] 0)).alloc (.cells #[.map (some w.heap.size)] 357)) (w.heap.size+1) w.heap.size 0 (fun _=>[])):=Sh.made w w (Nat.le_refl _);have HF:Hid (Fr [] w ((w.alloc (.map #[] 0)).alloc (.cells #[.map (some w.heap.size)] 357))):=(Fr.alloc [] _ _).then (Fr.alloc [] _ _);go_enter func213,ntmps213;go_wp2;go_ret;exact⟨w.heap.size+1,w.heap.size,rfl,HS.out,HF.out⟩
theorem Sh.cell{w0 w:World}{sb b n:Nat}{M:ByteArray->List Vn}(h:Sh w0 w sb b n M):w.cell? ⟨sb,0,none⟩=some (.map (some b)):=by
 rw[crw h.box];rfl
theorem zvr{w0:World}{sb b n:Nat}{M:ByteArray->List Vn}(w:World)(h:Sh w0 w sb b n M):Calls prog 339 #[.pointer (some ⟨sb,0,none⟩)] w fun e w'=>e=.returned (.bool true)/\Fr [] w w':=by
 have qT:∀(w:World)(r:Option Nat),(binOp .neq 353 (.map r) (.map none)).run prog w=.ok (.bool (!r.isNone)) w:=fun w r=>run_neq_map_nil w _ _ _ r zmm;have c0:=h.cell;go_enter func339,ntmps339;go_wp2;go_ret;exact⟨rfl,Fr.refl _ _⟩
theorem zhq(key:ByteArray)(B:Bool)(w:World)(hB:B=true↔okK9 key):Calls prog 214 #[.string key] w fun e w'=>e=.returned (.bool B)/\Fr [] w w':=by
 have hE0:(⟨#[]⟩:ByteArray).toList=[]:=(zca _).2 rfl;by_cases h1:key.toList=[]
 .obtain⟨E,hE⟩:∃E,(key.toList==([]:List UInt8))=E:=⟨_,rfl⟩;have hE1:E=true:=by rw[<-hE,h1];rfl
  have hE2:(key.toList != ([]:List UInt8))=false:=by rw[bne,hE,hE1];rfl
  have hBf:B=false:=by
   cases B with
   |false=>rfl
   |true=>have:=(hB.1 rfl).1;have:=(zca key).1 h1;omega
  subst hBf;clear hB h1;go_enter func214,ntmps214;go_wp2;all_goals (go_ret;exact⟨rfl,Fr.refl _ _⟩)
 obtain⟨E,hE⟩:∃E,(key.toList==([]:List UInt8))=E:=⟨_,rfl⟩;have hE1:E=false:=by rw[<-hE];simpa using h1
 have hE2:(key.toList != ([]:List UInt8))=true:=by rw[bne,hE,hE1];rfl
 have hpos:1<=key.size:=by
  rcases Nat.eq_zero_or_pos key.size with h|h
  .exact absurd ((zca key).2 h) h1
  exact h
 have hBf:B=decide ((key.size:Int)<=64):=by
  by_cases h2:key.size<=64
  .rw[hB.2 ⟨hpos,h2⟩];symm;simp;omega
  have:B=false:=by
   cases B with
   |false=>rfl
   |true=>exact absurd (hB.1 rfl).2 h2
  rw[this];symm;simp;omega
 rw[hBf];clear hB h1 hBf hpos;go_enter func214,ntmps214;go_wp2;all_goals (go_ret;exact⟨rfl,Fr.refl _ _⟩)
theorem VOut.each{w0 w:World}{ro:Option Addr}{N rc:Nat}{vs:List Vn}(h:VOut w0 w ro N rc vs)(ho:okV vs):VRs w ro vs:=h.rs (by have:=zml ho;omega) (fun x hx=>zqc (ho.1 x hx))
end Go.Proofs.YtojjdnjfaelnfaaGreatDoor.O
