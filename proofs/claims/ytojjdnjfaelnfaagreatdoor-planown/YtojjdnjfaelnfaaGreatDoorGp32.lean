/- Contracts and lemmas. -/
import Derived.Test.YtojjdnjfaelnfaaGreatDoorGp20
import Derived.Test.YtojjdnjfaelnfaaGreatDoorGp29
import Derived.Test.YtojjdnjfaelnfaaGreatDoorGp30
import Derived.Test.YtojjdnjfaelnfaaGreatDoorGp31
set_option linter.unusedSimpArgs false
set_option linter.unusedVariables false
namespace Go.Proofs.YtojjdnjfaelnfaaGreatDoor
open Go.ChangeShapes Go.WideShapes Go.ChangeAt Go.RowKit Go.Lib Go.Maps Go.Proofs.Tryz
def pv(b:Nat):Value:=.pointer (some ⟨b,0,none⟩)
structure St where
 mb:Nat
 fb:Nat
 tb:Nat
 gb:Nat
 wb:Nat
 lr:Nat
 pr:Nat
 ab:Nat
 lsB:Nat
 osB:Nat
 orB:Nat
 lsC:Nat
 osC:Nat
 orC:Nat
 kd:Nat
 kg:Nat
 la:Nat->Nat
 ob:Nat->Nat
 kw:Nat->Nat
 kk:Nat->Nat
 dk:Option Addr
def mC(c:Cf)(Z:St):List Value:=
 [.int .i64 c.l,.int .i64 c.s,.int .i64 c.w,.int .i64 c.q,.pointer Z.dk,.pointer (some ⟨Z.fb,0,none⟩),.pointer (some ⟨Z.tb,0,none⟩),.map (some Z.wb),.pointer (some ⟨Z.lr,0,none⟩),.pointer (some ⟨Z.pr,0,none⟩),
  .slice (some ⟨Z.lsB,0,none⟩) c.l.toNat Z.lsC,.slice (some ⟨Z.osB,0,none⟩) c.s.toNat Z.osC,.pointer (some ⟨Z.gb,0,none⟩),.slice (some ⟨Z.orB,0,none⟩) (c.l.toNat+c.s.toNat+2) Z.orC,.slice none 0 0,.int .i64 0,.map (some Z.ab),.bool false,.bool false]
def zbn(c:Cf)(Z:St)(i:Nat):Value:=
 if i=0 then .iface 295 (.pointer (some ⟨Z.kd,0,none⟩)) else if i<=c.l.toNat then .iface 301 (.pointer (some ⟨Z.kw (i-1),0,none⟩)) else if i<=c.l.toNat+c.s.toNat then .iface 304 (.pointer (some ⟨Z.kk (i-c.l.toNat-1),0,none⟩)) else .iface 307 (.pointer (some ⟨Z.kg,0,none⟩))
structure StM(c:Cf)(Z:St)(w:World):Prop where
 may:c.may
 box:w.heap[Z.mb]? = some (.cells (mC c Z).toArray 171 (0,0))
 ls:∃cur,w.heap[Z.lsB]? = some (.cells cur 172 (0,0))/\∀i,i<c.l.toNat->cur[i]? = some (pv (Z.la i))
 os:∃cur,w.heap[Z.osB]? = some (.cells cur 262 (0,0))/\∀i,i<c.s.toNat->cur[i]? = some (pv (Z.ob i))
 order:∃cur,w.heap[Z.orB]? = some (.cells cur 150 (0,0))/\∀i,i<c.l.toNat+c.s.toNat+2->cur[i]? = some (zbn c Z i)
 kd:w.heap[Z.kd]? = some (.cells #[pv Z.mb,.int .i64 0] 300 (0,0))
 kw:∀i,i<c.l.toNat->w.heap[Z.kw i]? = some (.cells #[pv Z.mb,.int .i64 ((i+1:Nat):Int),pv (Z.la i)] 303 (0,0))
 kk:∀j,j<c.s.toNat->w.heap[Z.kk j]? = some (.cells #[pv Z.mb,.int .i64 ((c.l.toNat+1+j:Nat):Int),.int .i64 (j:Int),pv (Z.ob j)] 306 (0,0))
 kg:w.heap[Z.kg]? = some (.cells #[pv Z.mb,.int .i64 ((c.l.toNat+c.s.toNat+1:Nat):Int)] 308 (0,0))
 caps:c.l.toNat<=Z.lsC/\c.s.toNat<=Z.osC/\c.l.toNat+c.s.toNat+2<=Z.orC
def St.own(c:Cf)(Z:St)(b:Nat):Prop:=b=Z.mb\/b=Z.lsB\/b=Z.osB\/b=Z.orB\/b=Z.kd\/b=Z.kg\/(∃i,i<c.l.toNat/\b=Z.kw i)\/∃j,j<c.s.toNat/\b=Z.kk j
def stP(w0:World)(c:Cf)(Z:St):Part:=⟨fun w=>StM c Z w/\∀b,St.own c Z b->w0.heap.size<=b,fun _ b=>St.own c Z b⟩
theorem StM.has{c:Cf}{Z:St}{w:World}(h:StM c Z w){b:Nat}(hb:St.own c Z b):∃cs t,w.heap[b]? = some (.cells cs t (0,0)):=by
 rcases hb with rfl|rfl|rfl|rfl|rfl|rfl|⟨i,hi,rfl⟩|⟨j,hj,rfl⟩
 .exact⟨_,_,h.box⟩
 .obtain⟨cur,h1,_⟩:=h.ls;exact⟨_,_,h1⟩
 .obtain⟨cur,h1,_⟩:=h.os;exact⟨_,_,h1⟩
 .obtain⟨cur,h1,_⟩:=h.order;exact⟨_,_,h1⟩
 .exact⟨_,_,h.kd⟩
 .exact⟨_,_,h.kg⟩
 .exact⟨_,_,h.kw i hi⟩
 exact⟨_,_,h.kk j hj⟩
theorem StM.keep{c:Cf}{Z:St}{w w':World}{S:List Nat}(h:StM c Z w)(hf:Fr S w w')(hS:∀b,St.own c Z b->b∉S):StM c Z w':=by
 refine⟨h.may,hf.keep h.box (hS _ (Or.inl rfl)),?_,?_,?_,hf.keep h.kd (hS _ (by simp[St.own])),fun i hi=>hf.keep (h.kw i hi) (hS _ ?_),fun j hj=>hf.keep (h.kk j hj) (hS _ ?_),hf.keep h.kg (hS _ (by simp[St.own])),h.caps⟩
 .obtain⟨cur,h1,h2⟩:=h.ls;exact⟨cur,hf.keep h1 (hS _ (by simp[St.own])),h2⟩
 .obtain⟨cur,h1,h2⟩:=h.os;exact⟨cur,hf.keep h1 (hS _ (by simp[St.own])),h2⟩
 .obtain⟨cur,h1,h2⟩:=h.order;exact⟨cur,hf.keep h1 (hS _ (by simp[St.own])),h2⟩
 .exact Or.inr (Or.inr (Or.inr (Or.inr (Or.inr (Or.inr (Or.inl ⟨i,hi,rfl⟩))))))
 exact Or.inr (Or.inr (Or.inr (Or.inr (Or.inr (Or.inr (Or.inr ⟨j,hj,rfl⟩))))))
theorem zee{w:World}{O:Nat->Prop}{S:List Nat}{n0:Nat}(hlt:∀b,O b->b<w.heap.size)(hS:∀b∈S,b<w.heap.size->n0<=b/\¬O b):∀b,O b->b∉S:=fun b hb hm=>(hS b hm (hlt b hb)).2 hb
theorem zyn(w0:World)(c:Cf)(Z:St):(stP w0 c Z).Ok w0:=by
 refine⟨fun w b hm hb=> ?_,fun S w w' hm h0 hf hS=> ?_⟩
 .obtain⟨cs,t,h1⟩:=hm.1.has hb;exact⟨hm.2 b hb,lt_of_block h1⟩
 have hlt:∀b,St.own c Z b->b<w.heap.size:=fun b hb=>by obtain⟨cs,t,h1⟩:=hm.1.has hb;exact lt_of_block h1
 exact⟨⟨hm.1.keep hf (zee hlt hS),hm.2⟩,fun b hb=>hb⟩
structure Ly where
 g:Nat
 lb:Nat
 B0:Nat
 ts:List Tm
 fmb:Nat
def askd(d:Nat):List Nat:=(List.range d).map (· + 1)
theorem zyo(d:Nat):askd (d+1)=askd d++[d+1]:=by simp[askd,List.range_succ]
structure FeM(w0 w:World)(c:Cf)(f:Nat)(Y:Ly)(v hw:Value)(rd fd:Nat)(hv:Bool):Prop where
 m:F.FdM w0 w f Y.g Y.lb Y.ts.length Y.ts v (askd rd) Y.fmb [] ⟨rd,fd,c.w.toNat,hv,false⟩ hw
 f0:f<Y.B0
 g0:Y.g<Y.B0
 l0:Y.lb<Y.B0
 m0:Y.fmb<Y.B0
 t0:∀t∈Y.ts,∀k,t.ao=some ⟨k,0,none⟩->k<Y.B0
 b0:Y.B0<=w.heap.size
 h0:∀k,hw.ownBlock=some k->w0.heap.size<=k/\k<w.heap.size
 hB:∀k,hw.ownBlock=some k->Y.B0<=k
def zey(w0:World)(Y:Ly)(v hw:Value)(b:Nat):Prop:=(w0.heap.size<=b/\b<Y.B0)\/v.ownBlock=some b\/hw.ownBlock=some b
def feP(w0:World)(c:Cf)(f:Nat)(Y:Ly)(v hw:Value)(rd fd:Nat)(hv:Bool):Part:=⟨fun w=>FeM w0 w c f Y v hw rd fd hv,fun _ b=>zey w0 Y v hw b⟩
theorem FeM.keep{w0 w w':World}{c:Cf}{f:Nat}{Y:Ly}{v hw:Value}{rd fd:Nat}{hv:Bool}{S:List Nat}(h:FeM w0 w c f Y v hw rd fd hv)(hf:Fr S w w')(hS:∀b,zey w0 Y v hw b->b∉S):FeM w0 w' c f Y v hw rd fd hv:=by
 have hm:=h.m;have hs:=hm.src;have old:∀b,w0.heap.size<=b->b<Y.B0->b∉S:=fun b h1 h2=>hS b (Or.inl ⟨h1,h2⟩);refine⟨⟨⟨hf.keep hs.box (old _ hs.gn h.g0),hf.keep hs.log (old _ hs.ln h.l0),hs.len,hs.few,fun t ht=> ?_,zaj hs.row hf (fun k hk=>hS k (Or.inr (Or.inl hk))),hs.gn,hs.ln,hs.rn⟩,hm.ok,hf.keep hm.box (old _ hm.fn h.f0),?_,hm.rf,hm.fl,hm.wn,fun e=> ?_,hm.slot,hm.fn,hm.mn⟩,h.f0,h.g0,h.l0,h.m0,h.t0,Nat.le_trans h.b0 hf.size,fun k hk=>⟨(h.h0 k hk).1,Nat.lt_of_lt_of_le (h.h0 k hk).2 hf.size⟩,h.hB⟩
 .obtain⟨k,e1,e2,e3,e4,e5,e6⟩:=hs.each t ht;exact⟨k,e1,e2,e3,e4,hf.keep e5 (old k e4 (h.t0 t ht k e1)),e6⟩
 .obtain⟨n,G,h1,h2⟩:=hm.map;exact⟨n,G,h1.keep hf (old _ hm.mn h.m0),h2⟩
 obtain⟨h1,k,e1,e2,e3⟩:=hm.held e;exact⟨h1,k,e1,hf.keep e2 (hS k (Or.inr (Or.inr (by rw[e1];simp[Value.ownBlock])))),e3⟩
theorem zqn(w0:World)(c:Cf)(f:Nat)(Y:Ly)(v hw:Value)(rd fd:Nat)(hv:Bool):(feP w0 c f Y v hw rd fd hv).Ok w0:=by
 have hlt:∀w,FeM w0 w c f Y v hw rd fd hv->∀b,zey w0 Y v hw b->w0.heap.size<=b/\b<w.heap.size:=fun w hm b hb=>by
  rcases hb with h1|h1|h1
  .exact⟨h1.1,Nat.lt_of_lt_of_le h1.2 hm.b0⟩
  .exact⟨hm.m.src.rn b h1,(hm.m.src.row.lt b h1).2⟩
  exact hm.h0 b h1
 exact⟨fun w b hm hb=>hlt w hm b hb,fun S w w' hm h0 hf hS=>⟨hm.keep hf (zee (fun b hb=>(hlt w hm b hb).2) hS),fun b hb=>hb⟩⟩
def deP(w0:World)(tb:Nat)(B:List Nat)(n:Nat)(L:Lg)(en:Int->Prop):Part:=⟨fun w=>Tl w tb B n L en/\∀b∈B,w0.heap.size<=b,fun _ b=>b∈B⟩
theorem zqo(w0:World)(tb:Nat)(B:List Nat)(n:Nat)(L:Lg)(en:Int->Prop):(deP w0 tb B n L en).Ok w0:=
 ⟨fun w b hm hb=>⟨hm.2 b hb,hm.1.mine b hb⟩,fun S w w' hm h0 hf hS=>⟨⟨hm.1.keep hf (zee hm.1.mine hS),hm.2⟩,fun b hb=>hb⟩⟩
def gaP(w0:World)(g:Nat)(m:Int)(xs:List Int):Part:=⟨fun w=>GG w g m xs/\w0.heap.size<=g,fun _ b=>b=g⟩
theorem zqp(w0:World)(g:Nat)(m:Int)(xs:List Int):(gaP w0 g m xs).Ok w0:=
 ⟨fun w b hm hb=>by rw[hb];exact⟨hm.2,hm.1.lt⟩,fun S w w' hm h0 hf hS=>⟨⟨hm.1.keep hf (fun hx=>(hS _ hx hm.1.lt).2 rfl),hm.2⟩,fun b hb=>hb⟩⟩
open Classical in
noncomputable def wtF (T:List Tx) (kb:Int->Nat) (wt:Int->Prop):Int->Option Tx3:=fun n=>if wt n then some (some (n,kb n,(wsAt T n).length)) else none
noncomputable def waP (w0:World) (b n:Nat) (T:List Tx) (kb:Int->Nat) (wt:Int->Prop):Part:=⟨fun w=>MapG kTx w b n (wtF T kb wt)/\w0.heap.size<=b,fun _ j=>j=b⟩
theorem zqq(w0:World)(b n:Nat)(T:List Tx)(kb:Int->Nat)(wt:Int->Prop):(waP w0 b n T kb wt).Ok w0:=
 ⟨fun w j hm hb=>by rw[hb];exact⟨hm.2,hm.1.lt⟩,fun S w w' hm h0 hf hS=>⟨⟨hm.1.keep hf (fun hx=>(hS _ hx hm.1.lt).2 rfl),hm.2⟩,fun b hb=>hb⟩⟩
def txR(T:List Tx)(kb:Int->Nat)(n:Int):GT.Rv:=⟨n,some ⟨kb n,0,none⟩,(wsAt T n).length,(wsAt T n).length⟩
def liP(w0:World)(g:Nat)(pb:Option Nat)(C:Nat)(T:List Tx)(kb:Int->Nat)(line:List Int):Part:=⟨fun w=>GT.Rg w g pb C (line.map (txR T kb)) false/\∀b∈GT.Rg.own g pb,w0.heap.size<=b,fun _ b=>b∈GT.Rg.own g pb⟩
theorem zyp{w:World}{g C:Nat}{pb:Option Nat}{xs:List GT.Rv}{cl:Bool}(h:GT.Rg w g pb C xs cl):∀b,b∈GT.Rg.own g pb->b<w.heap.size:=fun b hb=>by
 simp only[GT.Rg.own,List.mem_cons,Option.mem_toList]at hb;rcases hb with rfl|hb
 .exact h.lt
 exact h.plt hb
theorem zqr(w0:World)(g:Nat)(pb:Option Nat)(C:Nat)(T:List Tx)(kb:Int->Nat)(line:List Int):(liP w0 g pb C T kb line).Ok w0:=
 ⟨fun w b hm hb=>⟨hm.2 b hb,zyp hm.1 b hb⟩,fun S w w' hm h0 hf hS=>by
  have no:=zee (zyp hm.1) hS;exact⟨⟨hm.1.keep hf (no g (by simp[GT.Rg.own])) (fun b e=>no b (by simp[GT.Rg.own,e])),hm.2⟩,fun b hb=>hb⟩⟩
def paP(w0:World)(g:Nat)(pb:Option Nat)(C:Nat)(pass:List Int):Part:=⟨fun w=>GI.Rg w g pb C pass false/\∀b∈GI.Rg.own g pb,w0.heap.size<=b,fun _ b=>b∈GI.Rg.own g pb⟩
theorem zyq{w:World}{g C:Nat}{pb:Option Nat}{xs:List Int}{cl:Bool}(h:GI.Rg w g pb C xs cl):∀b,b∈GI.Rg.own g pb->b<w.heap.size:=fun b hb=>by
 simp only[GI.Rg.own,List.mem_cons,Option.mem_toList]at hb;rcases hb with rfl|hb
 .exact h.lt
 exact h.plt hb
theorem zqs(w0:World)(g:Nat)(pb:Option Nat)(C:Nat)(pass:List Int):(paP w0 g pb C pass).Ok w0:=
 ⟨fun w b hm hb=>⟨hm.2 b hb,zyq hm.1 b hb⟩,fun S w w' hm h0 hf hS=>by
  have no:=zee (zyq hm.1) hS;exact⟨⟨hm.1.keep hf (no g (by simp[GI.Rg.own])) (fun b e=>no b (by simp[GI.Rg.own,e])),hm.2⟩,fun b hb=>hb⟩⟩
def reP(w0:World)(T:List Tx)(kb:Int->Nat)(d:Nat):Part:=
 ⟨fun w=>∀n:Int,1<=n->n<=d->w.heap[kb n]? = some (.cells (wtsC (wsAt T n)).toArray 91 (0,0))/\w0.heap.size<=kb n,fun _ b=>∃n:Int,1<=n/\n<=d/\b=kb n⟩
theorem zyr(w0:World)(T:List Tx)(kb:Int->Nat)(d:Nat):(reP w0 T kb d).Ok w0:=
 ⟨
  fun w b hm hb=>by obtain⟨n,h1,h2,rfl⟩:=hb;exact⟨(hm n h1 h2).2,lt_of_block (hm n h1 h2).1⟩,
  fun S w w' hm h0 hf hS=>⟨fun n h1 h2=>⟨hf.keep (hm n h1 h2).1 (fun hx=>(hS _ hx (lt_of_block (hm n h1 h2).1)).2 ⟨n,h1,h2,rfl⟩),(hm n h1 h2).2⟩,fun b hb=>hb⟩⟩
def lnP(w0:World)(c:Cf)(lb:Nat)(i:Nat)(st:Option Hl)(S:List Nat):Part:=⟨fun w=>LnM w lb ((i+1:Nat):Int) c.l c.s c.w c.q st S/\∀b,b=lb\/b∈S->w0.heap.size<=b/\b<w.heap.size,fun _ b=>b=lb\/b∈S⟩
theorem zqt(w0:World)(c:Cf)(lb:Nat)(i:Nat)(st:Option Hl)(S:List Nat):(lnP w0 c lb i st S).Ok w0:=
 ⟨fun w b hm hb=>hm.2 b hb,fun S' w w' hm h0 hf hS=>by
  have no:=zee (fun b hb=>(hm.2 b hb).2) hS;exact⟨⟨hm.1.keep hf (no lb (Or.inl rfl)) (fun k hk=>no k (Or.inr hk)),fun b hb=>⟨(hm.2 b hb).1,Nat.lt_of_lt_of_le (hm.2 b hb).2 hf.size⟩⟩,fun b hb=>hb⟩⟩
def Qe.rq(e:Qe):O.Rq:=⟨1,e.f,e.n,e.x.key,e.x.val,e.x.drop,⟨#[]⟩,⟨#[]⟩,[]⟩
structure Oy where
 sb:Nat
 b:Nat
 g:Nat
 pb:Option Nat
 BB:Nat->Prop
 n:Nat
def owP(w0:World)(c:Cf)(ob:Nat)(Y:Oy)(M:ByteArray->List O.Vn)(q:List Qe):Part:=
 ⟨fun w=>O.OwS w0 (fun j=>¬Y.BB j) w ob Y.sb Y.b Y.n Y.g Y.pb c.q.toNat M (q.map Qe.rq)/\∀j,Y.BB j->w0.heap.size<=j/\j<w.heap.size,fun w b=>O.OwnA ob Y.sb Y.b Y.g Y.pb w b\/Y.BB b⟩
theorem zys{w0 w:World}{t:Nat->Prop}{ob sb b n g C:Nat}{pb:Option Nat}{M:ByteArray->List O.Vn}{rs:List O.Rq}(h:O.OwS w0 t w ob sb b n g pb C M rs){j:Nat}(hj:O.OwnA ob sb b g pb w j):w0.heap.size<=j/\j<w.heap.size:=by
 obtain⟨xs,hq,hw⟩:=h.q;rcases hj with rfl|rfl|rfl|rfl|e|e
 .exact⟨h.on,hq.lt⟩
 .exact⟨h.sh.sbn,lt_of_block h.sh.box⟩
 .exact⟨h.sh.bn,h.sh.bl⟩
 .exact⟨h.gn,hq.rg.lt⟩
 .exact⟨h.pn j e,hq.rg.plt e⟩
 obtain⟨h1,cur,h2⟩:=h.sh.rowLt e;exact⟨h1,lt_of_block h2⟩
theorem zqu(w0:World)(c:Cf)(ob:Nat)(Y:Oy)(M:ByteArray->List O.Vn)(q:List Qe):(owP w0 c ob Y M q).Ok w0:=by
 have hlt:∀w,(owP w0 c ob Y M q).M w->∀b,(owP w0 c ob Y M q).O w b->w0.heap.size<=b/\b<w.heap.size:=fun w hm b hb=>by
  rcases hb with h1|h1
  .exact zys hm.1 h1
  exact hm.2 b h1
 refine⟨fun w b hm hb=>hlt w hm b hb,fun S w w' hm h0 hf hS=> ?_⟩;have no:=zee (fun b hb=>(hlt w hm b hb).2) hS;refine⟨⟨hm.1.far hf (fun j hj hl=>⟨(hS j hj hl).1,fun ha=>(hS j hj hl).2 (Or.inl ha),Or.inl fun hb=>(hS j hj hl).2 (Or.inr hb)⟩),fun j hj=>⟨(hm.2 j hj).1,Nat.lt_of_lt_of_le (hm.2 j hj).2 hf.size⟩⟩,fun b hb=> ?_⟩;rcases hb with h1|h1
 .refine Or.inl ?_;rcases h1 with e|e|e|e|e|e
  .exact Or.inl e
  .exact Or.inr (Or.inl e)
  .exact Or.inr (Or.inr (Or.inl e))
  .exact Or.inr (Or.inr (Or.inr (Or.inl e)))
  .exact Or.inr (Or.inr (Or.inr (Or.inr (Or.inl e))))
  exact Or.inr (Or.inr (Or.inr (Or.inr (Or.inr (e.back hf (no Y.b (Or.inl (Or.inr (Or.inr (Or.inl rfl))))) hm.1.sh.bl)))))
 exact Or.inr h1
inductive Ix where
 |st|fe|de|ga|wa|li|pa|re
 |la (i:Nat)
 |ow (j:Nat)
structure Lay where
 z:St
 y:Ly
 v:Value
 hw:Value
 B:List Nat
 lp:Option Nat
 pp:Option Nat
 kb:Int->Nat
 S:Nat->List Nat
 o:Nat->Oy
 nd:Nat
 nw:Nat
 nr:Nat
def nilP:Part:=⟨fun _=>True,fun _ _=>False⟩
theorem zgy(w0:World):nilP.Ok w0:=⟨fun _ _ _ h=>h.elim,fun _ _ _ _ _ _ _=>⟨trivial,fun _ h=>h⟩⟩
noncomputable def mP (w0:World) (c:Cf) (T:List Tx) (Z:Lay) (s:Ms):Ix->Part
 | .st=>stP w0 c Z.z
 | .fe=>feP w0 c Z.z.fb Z.y Z.v Z.hw s.rd s.fd s.hv
 | .de=>deP w0 Z.z.tb Z.B Z.nd (lgT T s.d) s.en
 | .ga=>gaP w0 Z.z.gb s.ma s.bx
 | .wa=>waP w0 Z.z.wb Z.nw T Z.kb s.wt
 | .li=>liP w0 Z.z.lr Z.lp c.w.toNat T Z.kb s.line
 | .pa=>paP w0 Z.z.pr Z.pp c.w.toNat s.pass
 | .re=>reP w0 T Z.kb Z.nr
 | .la i=>if i<c.l.toNat then lnP w0 c (Z.z.la i) i (s.ln i) (Z.S i) else nilP
 | .ow j=>if j<c.s.toNat then owP w0 c (Z.z.ob j) (Z.o j) (s.M j) (s.qs j) else nilP
theorem zakn(w0:World)(c:Cf)(T:List Tx)(Z:Lay)(s:Ms):∀i,(mP w0 c T Z s i).Ok w0
 | .st=>zyn _ _ _
 | .fe=>zqn _ _ _ _ _ _ _ _ _
 | .de=>zqo _ _ _ _ _ _
 | .ga=>zqp _ _ _ _
 | .wa=>zqq _ _ _ _ _ _
 | .li=>zqr _ _ _ _ _ _ _
 | .pa=>zqs _ _ _ _ _
 | .re=>zyr _ _ _ _
 | .la i=>by
  by_cases hi:i<c.l.toNat
  .simp only[mP,if_pos hi];exact zqt _ _ _ _ _ _
  .simp only[mP,if_neg hi];exact zgy _
 | .ow j=>by
  by_cases hj:j<c.s.toNat
  .simp only[mP,if_pos hj];exact zqu _ _ _ _ _ _
  simp only[mP,if_neg hj];exact zgy _
structure MaM(w0 w:World)(c:Cf)(T:List Tx)(Z:Lay)(s:Ms):Prop where
 m:Mach w0 w (mP w0 c T Z s)
 log:txs Z.y.ts=T
 rows:s.d<=Z.nr
 few:Z.nd<=65*s.k/\Z.nw<=s.k/\∀j,j<c.s.toNat->(Z.o j).n<=s.k
structure Wq(w1:World) where
 W:World
 h:Fr [] w1 W
instance (w1:World):Nonempty (Wq w1):=⟨⟨w1,Fr.refl _ _⟩⟩
theorem zfk{P:Program}{w1 wr:World}{id:Nat}{Q:Exit->Act->World->Prop}{a:Act}{l:List Oper}(hm:P.follows .mixedOrders=true)(hB:Region.lexB .any l.toArray=true)(hf:Fr [] w1 wr)(h:wpQuiet P l.toArray (fun w'=>∃x:Wq w1,w'=x.W) (fun a'=>∀w',(∃x:Wq w1,w'=x.W)->Q .normal a' w') l a):(Code.region id l.toArray true).wp P Q a wr:=
 wp_region_quiet (C:=fun w'=>∃x:Wq w1,w'=x.W) hm hB ⟨⟨_,hf.then (Fr.drew [] wr)⟩,rfl⟩ (by simpa using h)
section
variable{w0 w w':World}{c:Cf}{T:List Tx}{Z:Lay}{s:Ms}
theorem MaM.st(h:MaM w0 w c T Z s):StM c Z.z w:=(h.m.m .st).1
theorem MaM.may(h:MaM w0 w c T Z s):c.may:=h.st.may
theorem MaM.fe(h:MaM w0 w c T Z s):FeM w0 w c Z.z.fb Z.y Z.v Z.hw s.rd s.fd s.hv:=h.m.m .fe
theorem MaM.de(h:MaM w0 w c T Z s):Tl w Z.z.tb Z.B Z.nd (lgT T s.d) s.en:=(h.m.m .de).1
theorem MaM.ga(h:MaM w0 w c T Z s):GG w Z.z.gb s.ma s.bx:=(h.m.m .ga).1
theorem MaM.wa(h:MaM w0 w c T Z s):MapG kTx w Z.z.wb Z.nw (wtF T Z.kb s.wt):=(h.m.m .wa).1
theorem MaM.li(h:MaM w0 w c T Z s):GT.Rg w Z.z.lr Z.lp c.w.toNat (s.line.map (txR T Z.kb)) false:=(h.m.m .li).1
theorem MaM.pa(h:MaM w0 w c T Z s):GI.Rg w Z.z.pr Z.pp c.w.toNat s.pass false:=(h.m.m .pa).1
theorem MaM.re(h:MaM w0 w c T Z s):∀n:Int,1<=n->n<=Z.nr->w.heap[Z.kb n]? = some (.cells (wtsC (wsAt T n)).toArray 91 (0,0))/\w0.heap.size<=Z.kb n:=h.m.m .re
theorem zpb{i:Nat}(hi:i<c.l.toNat):mP w0 c T Z s (.la i)=lnP w0 c (Z.z.la i) i (s.ln i) (Z.S i):=by simp only[mP,if_pos hi]
theorem zpc{j:Nat}(hj:j<c.s.toNat):mP w0 c T Z s (.ow j)=owP w0 c (Z.z.ob j) (Z.o j) (s.M j) (s.qs j):=by simp only[mP,if_pos hj]
theorem MaM.la'(h:MaM w0 w c T Z s){i:Nat}(hi:i<c.l.toNat):(lnP w0 c (Z.z.la i) i (s.ln i) (Z.S i)).M w:=by rw[<-zpb (w0:=w0) (T:=T) hi];exact h.m.m _
theorem MaM.la(h:MaM w0 w c T Z s){i:Nat}(hi:i<c.l.toNat):LnM w (Z.z.la i) ((i+1:Nat):Int) c.l c.s c.w c.q (s.ln i) (Z.S i):=(h.la' hi).1
theorem MaM.ow'(h:MaM w0 w c T Z s){j:Nat}(hj:j<c.s.toNat):(owP w0 c (Z.z.ob j) (Z.o j) (s.M j) (s.qs j)).M w:=by rw[<-zpc (w0:=w0) (T:=T) hj];exact h.m.m _
theorem MaM.ow(h:MaM w0 w c T Z s){j:Nat}(hj:j<c.s.toNat):O.OwS w0 (fun k=>¬(Z.o j).BB k) w (Z.z.ob j) (Z.o j).sb (Z.o j).b (Z.o j).n (Z.o j).g (Z.o j).pb c.q.toNat (s.M j) ((s.qs j).map Qe.rq):=(h.ow' hj).1
theorem MaM.quiet(h:MaM w0 w c T Z s)(hf:Fr [] w w'):MaM w0 w' c T Z s:=⟨h.m.quiet hf,h.log,h.rows,h.few⟩
theorem MaM.fr(h:MaM w0 w c T Z s):Fr [] w0 w:=h.m.fr
def MaM.off(w0 w:World)(c:Cf)(T:List Tx)(Z:Lay)(s:Ms)(b:Nat):Prop:=∀i,¬(mP w0 c T Z s i).O w b
structure Dn(w0:World)(c:Cf)(T:List Tx)(w:World)(Z:Lay)(s:Ms)(w':World)(Z':Lay)(s':Ms):Prop where
 m:MaM w0 w' c T Z' s'
 x:Mx w (mP w0 c T Z s) w' (mP w0 c T Z' s')
 z:Z'.z=Z.z
 y:Z'.y=Z.y
theorem Dn.trans{w'':World}{Z' Z'':Lay}{s' s'':Ms}(h:Dn w0 c T w Z s w' Z' s')(k:Dn w0 c T w' Z' s' w'' Z'' s''):Dn w0 c T w Z s w'' Z'' s'':=⟨k.m,h.x.trans k.x,k.z.trans h.z,k.y.trans h.y⟩
theorem MaM.dn(h:MaM w0 w c T Z s)(hf:Fr [] w w'):Dn w0 c T w Z s w' Z s:=⟨h.quiet hf,(h.m.quiet2 hf).2,rfl,rfl⟩
theorem MaM.offNew(h:MaM w0 w c T Z s){b:Nat}(hb:w.heap.size<=b):MaM.off w0 w c T Z s b:=fun i hi=>by
 have:=((h.m.ok i).lt w b (h.m.m i) hi).2;omega
theorem Dn.off{Z':Lay}{s':Ms}(h:Dn w0 c T w Z s w' Z' s'){b:Nat}(hb:b<w.heap.size)(hn:MaM.off w0 w c T Z s b):MaM.off w0 w' c T Z' s' b:=h.x.not hb hn
theorem Dn.keep{Z':Lay}{s':Ms}(h:Dn w0 c T w Z s w' Z' s'){b:Nat}{o:Obj}(hb:w.heap[b]? = some o)(hn:MaM.off w0 w c T Z s b):w'.heap[b]? = some o:=h.x.keep hb hn
theorem MaM.other(h:MaM w0 w c T Z s){S:List Nat}(hf:Fr S w w')(hS:∀b∈S,w0.heap.size<=b/\MaM.off w0 w c T Z s b):MaM w0 w' c T Z s:=by
 have hk:∀i,((mP w0 c T Z s i).M w'/\∀b,(mP w0 c T Z s i).O w' b->(mP w0 c T Z s i).O w b):=fun i=>(h.m.ok i).keep S w w' (h.m.m i) h.m.fr hf fun b hb hl=>⟨(hS b hb).1,(hS b hb).2 i⟩;exact⟨⟨h.m.ok,fun i=>(hk i).1,fun i j b h1 h2=>h.m.ap i j b ((hk i).2 b h1) ((hk j).2 b h2),hf.within h.m.fr fun b hb _=>(hS b hb).1⟩,h.log,h.rows,h.few⟩
theorem MaM.otherO(h:MaM w0 w c T Z s){S:List Nat}(hf:Fr S w w')(hS:∀b∈S,w0.heap.size<=b/\MaM.off w0 w c T Z s b){b:Nat}(hb:MaM.off w0 w c T Z s b):MaM.off w0 w' c T Z s b:=fun i hi=>
 hb i (((h.m.ok i).keep S w w' (h.m.m i) h.m.fr hf fun b hb hl=>⟨(hS b hb).1,(hS b hb).2 i⟩).2 b hi)
theorem MaM.mc(h:MaM w0 w c T Z s){j:Nat}{v:Value}(hv:(mC c Z.z)[j]? = some v):w.cell? ⟨Z.z.mb,j,none⟩=some v:=by
 rw[crw h.st.box,List.getElem?_toArray];exact hv
theorem MaM.lt(h:MaM w0 w c T Z s){b:Nat}(hb:St.own c Z.z b):b<w.heap.size:=by
 obtain⟨cs,t,e⟩:=h.st.has hb;exact lt_of_block e
theorem MaM.kdc(h:MaM w0 w c T Z s):w.cell? ⟨Z.z.kd,0,none⟩=some (.pointer (some ⟨Z.z.mb,0,none⟩))/\w.cell? ⟨Z.z.kd,1,none⟩=some (.int .i64 0):=by
 constructor<;>(rw[crw h.st.kd];rfl)
theorem MaM.kgc(h:MaM w0 w c T Z s):w.cell? ⟨Z.z.kg,0,none⟩=some (.pointer (some ⟨Z.z.mb,0,none⟩))/\w.cell? ⟨Z.z.kg,1,none⟩=some (.int .i64 ((c.l.toNat+c.s.toNat+1:Nat):Int)):=by
 constructor<;>(rw[crw h.st.kg];rfl)
theorem MaM.kwc(h:MaM w0 w c T Z s){i:Nat}(hi:i<c.l.toNat):w.cell? ⟨Z.z.kw i,0,none⟩=some (.pointer (some ⟨Z.z.mb,0,none⟩))/\w.cell? ⟨Z.z.kw i,1,none⟩=some (.int .i64 ((i+1:Nat):Int))/\w.cell? ⟨Z.z.kw i,2,none⟩=some (.pointer (some ⟨Z.z.la i,0,none⟩)):=by
 refine⟨?_,?_,?_⟩<;>(rw[crw (h.st.kw i hi)];rfl)
theorem MaM.kkc(h:MaM w0 w c T Z s){j:Nat}(hj:j<c.s.toNat):w.cell? ⟨Z.z.kk j,0,none⟩=some (.pointer (some ⟨Z.z.mb,0,none⟩))/\w.cell? ⟨Z.z.kk j,1,none⟩=some (.int .i64 ((c.l.toNat+1+j:Nat):Int))/\w.cell? ⟨Z.z.kk j,2,none⟩=some (.int .i64 (j:Int))/\w.cell? ⟨Z.z.kk j,3,none⟩=some (.pointer (some ⟨Z.z.ob j,0,none⟩)):=by
 refine⟨?_,?_,?_,?_⟩<;>(rw[crw (h.st.kk j hj)];rfl)
theorem MaM.osc(h:MaM w0 w c T Z s){j:Nat}(hj:j<c.s.toNat):w.cell? ⟨Z.z.osB,j,none⟩=some (.pointer (some ⟨Z.z.ob j,0,none⟩)):=by
 obtain⟨cur,h1,h2⟩:=h.st.os;rw[crw h1];exact h2 j hj
theorem MaM.orc(h:MaM w0 w c T Z s){i:Nat}(hi:i<c.l.toNat+c.s.toNat+2):w.cell? ⟨Z.z.orB,i,none⟩=some (zbn c Z.z i):=by
 obtain⟨cur,h1,h2⟩:=h.st.order;rw[crw h1];exact h2 i hi
theorem zail(hm:c.may):(F.Fe.can ⟨s.rd,s.fd,c.w.toNat,s.hv,false⟩ [] s.ma)=canD c s:=by
 have hw:((c.w.toNat:Nat):Int)=c.w:=by have:=hm.2.2.1;omega
 simp only[F.Fe.can,canD,F.Fe.near,hw];cases s.hv
 .simp
 simp only[Bool.true_eq_false,if_false,List.not_mem_nil,decide_eq_true_eq];by_cases h:(s.rd:Int)<=s.ma+c.w
 .rw[if_pos (by omega),if_pos h]
 rw[if_neg (by omega),if_neg h]
end
end Go.Proofs.YtojjdnjfaelnfaaGreatDoor
