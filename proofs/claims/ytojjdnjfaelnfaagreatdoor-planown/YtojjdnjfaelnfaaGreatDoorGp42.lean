/- Contracts and lemmas. -/
import Derived.Test.YtojjdnjfaelnfaaGreatDoorGp40
import Derived.Test.YtojjdnjfaelnfaaGreatDoorGp41
set_option maxHeartbeats 8000000
set_option maxRecDepth 100000
namespace Go.Proofs.YtojjdnjfaelnfaaGreatDoor
set_option linter.unusedSimpArgs false
set_option linter.unusedVariables false
section
open Go.ChangeShapes Go.WideShapes Go.ChangeAt Go.RowKit Go.Lib Go.Maps Go.Proofs.Tryz
section
variable{w0 w w':World}{p:Nat}{c:Cf}{T:List Tx}{Z:Lay}{s:Ms}
theorem zja{fn:Func}{p q:Tmp}{ty:TypeId}(h:fn.results= #[.cell p ty,.tmp q])(tmps:Array Value)(P:Program)(w:World)(g:Nat)(v:Value)(hp:tmps.getD p undef=.pointer (some ⟨g,0,none⟩))(hld:(loadVar ty ⟨g,0,none⟩).run P w=.ok v w) :
  (results fn tmps).run P w=.ok (.tuple #[v,tmps.getD q undef]) w:=by
 simp only[results,h];simp[Sem.run_bind,Result.andThen,<-Array.getD_eq_getD_getElem?,hp,asAddr,hld]
end
section
variable{w0 w w':World}{p:Nat}{c:Cf}{T:List Tx}{Z:Lay}{s:Ms}
end
section
variable{w0 w w':World}{p:Nat}{c:Cf}{T:List Tx}{Z:Lay}{s:Ms}
def zbj(T:List Tx)(fd:Nat)(n:Int):Nat:=if n<fd\/(T.length:Int)<n then fd else n.toNat
theorem MaM.moreF(h:MaM w0 w c T Z s)(n:Int):Calls prog 112 #[.pointer (some ⟨Z.z.fb,0,none⟩),.int .i64 n] w fun e w'=>(∃v,e=.returned v/\∃k:Int,v=.int .i64 k)/\Dn w0 c T w Z s w' {Z with v:=Z.v,hw:=Z.hw} {s with fd:=zbj T s.fd n}:=by
 have hfe:=h.fe;have hm:=hfe.m;have hlen:T.length=Z.y.ts.length:=by rw[<-h.log,zah]
 refine (F.fMore_any hm n).mono ?_;rintro e w'⟨rfl,k1,k2⟩;have hms:(⟨s.rd,s.fd,c.w.toNat,s.hv,false⟩:F.Fe).moreS Z.y.ts.length n=⟨s.rd,zbj T s.fd n,c.w.toNat,s.hv,false⟩:=by
  unfold F.Fe.moreS F.Fe.moreC zbj;rw[hlen];simp only[Bool.false_eq_true,if_false];split
  .rw[if_neg (by decide)]
  rw[if_pos rfl]
 rw[hms]at k1
 refine⟨⟨_,rfl,_,rfl⟩,?_⟩;have hd:=h.setFe k2 (fun b hb _=> ?_) (v':=Z.v) (hw':=Z.hw) (rd:=s.rd) (fd:=zbj T s.fd n) (hv:=s.hv) (k:=s.k) ⟨k1,hfe.f0,hfe.g0,hfe.l0,hfe.m0,hfe.t0,Nat.le_trans hfe.b0 k2.size,fun k hk=>⟨(hfe.h0 k hk).1,Nat.lt_of_lt_of_le (hfe.h0 k hk).2 k2.size⟩,hfe.hB⟩ (fun b hb=>Or.inl hb) (Nat.le_refl _)
 .exact hd
 rw[List.mem_singleton.1 hb];exact Or.inl ⟨hm.fn,hfe.f0⟩
theorem zzi(h:RP w0 w p c T Z s)(n:Int):Calls prog 87 #[.pointer (some ⟨p,0,none⟩),.int .i64 n] w fun e w'=>(∃v,e=.returned v)/\Dn w0 c T w Z s w' {Z with v:=Z.v,hw:=Z.hw} {s with fd:=zbj T s.fd n}:=by
 have HT:Hid (Calls ..):=ziz h;have c0:=h.c0;have c5:w.cell? ⟨Z.z.mb,5,none⟩=some (.pointer (some ⟨Z.z.fb,0,none⟩)):=h.m.mc rfl;have HM:Hid (Calls ..):=h.m.moreF n;clear h;go_enter func87,ntmps87;go_wp2_with fail
 refine Calls.mono HT.out ?_;rintro e w1⟨rfl,rfl⟩;go_wp2_with fail
 refine Calls.mono HM.out ?_;rintro e w1⟨⟨_,rfl,k,rfl⟩,hD⟩;have HD:Hid (Dn _ _ _ _ _ _ _ _ _):=hD;clear hD;go_wp2;go_ret;exact⟨⟨_,rfl⟩,HD.out⟩
theorem Wf.feed(h:Wf c T s)(n:Int):Wf c T {s with fd:=zbj T s.fd n}:=by
 have hf:=h.fdl;have h1:s.fd<=zbj T s.fd n/\zbj T s.fd n<=T.length:=by
  unfold zbj;split<;>omega
 exact {h with fdl:=⟨by show s.rd<=zbj T s.fd n;omega,h1.2⟩}
end
def ms0:Ms:=⟨0,false,0,0,fun _=>False,0,[],fun _=>False,[],[],fun _=>none,fun _=>[],fun _ _=>[],0⟩
theorem zri(T:List Tx)(n:Int):¬Opn T ms0 n:=fun h=>by
 have:=(op_iff.1 h).1;have e:ms0.d=0:=rfl;rw[e]at this
 omega
theorem Wf.zero{c:Cf}{T:List Tx}(hm:c.may)(hok:okL 1 T):Wf c T ms0:=by
 refine⟨hm,hok,fun _=>rfl,fun h=>(by cases h),⟨Nat.le_refl _,Nat.zero_le _⟩,?_,fun n=> ?_,fun n h=>h.elim,?_,fun n=>⟨fun h=>h.elim,fun h=>(zri T n h.1).elim⟩,fun n h=>(by cases h),fun n h=>(by cases h),fun i h hi hl=>(by cases hl),fun n h=>(zri T n h).elim,List.nodup_nil,List.nodup_nil,fun n h=>(by cases h),fun i h hi hl=>(by cases hl),fun i j h g hi hj hl=>(by cases hl),fun i h hi hl=>(by cases hl),fun i h hi hl=>(by cases hl),fun j e hj he=>(by cases he),fun j hj=>List.Pairwise.nil,fun j e hj he=>(by cases he),fun j hj=> ?_,fun j k v hj hv=>(by cases hv),fun n h j k v hj hv=>(by cases hv),fun n h=> ?_,fun j k=> ?_⟩
 .exact⟨⟨Int.le_refl _,by show (0:Int)<=65536;omega,List.Pairwise.nil,fun x hx=>(by cases hx)⟩,fun h=>(by cases h)⟩
 .constructor
  .exact fun h=>h.elim
  rintro⟨h1,h2|h2⟩
  .have e:ms0.ma=0:=rfl;rw[e]at h2
   omega
  cases h2
 .have:=hm.2.2.1;show ((0:Nat):Int)<=0+c.w;omega
 .have:=hm.2.2.2;show (([]:List Qe).length:Int)<=c.q;simp only[List.length_nil];omega
 .rcases h with h|h
  .cases h
  exact h.elim
 exact⟨fun x hx=>(by cases hx),List.Pairwise.nil⟩
end
namespace Ap
open Go.ChangeShapes Go.WideShapes Go.ChangeAt Go.RowKit Go.Lib Go.Maps Go.Proofs.Tryz
section
variable{w0 w w':World}{c:Cf}{Q Q':Ix->Part}{la:Nat->Nat}{nl:Nat}{ob:Nat->Nat}{oy:Nat->Oy}{no:Nat}{l:List (Nat×Obj)}
theorem Bd.start(h:Bd w0 w c Q la nl ob oy no [])(hf:Fr [] w w')(hs:∀j,j≠ .de->j≠ .wa->Q' j=Q j)(hok:(Q' .de).Ok w0/\(Q' .wa).Ok w0)(hm:(Q' .de).M w'/\(Q' .wa).M w')(hO:(∀b,(Q' .de).O w' b->w.heap.size<=b)/\∀b,(Q' .wa).O w' b->w.heap.size<=b){mb:Nat}{o:Obj}(hb:w'.heap[mb]? = some o)(hbn:w.heap.size<=mb)(h1:∀b,(Q' .de).O w' b->¬(Q' .wa).O w' b)(h2:¬(Q' .de).O w' mb)(h3:¬(Q' .wa).O w' mb):Bd w0 w' c Q' la nl ob oy no [(mb,o)]:=by
 have h0:w0.heap.size<=w.heap.size:=(Mach.fr h).size;have hin:∀b,(∃p∈[(mb,o)],p.1=b)->b=mb:=fun b ⟨p,hp,e⟩=>by rw[List.mem_singleton.1 hp]at e;exact e.symm
 refine (Mach.step (P':=bQ w0 c Q' la nl ob oy no [(mb,o)]) h (fun i=>i=.st\/i=.de\/i=.wa) hf (by simp) (fun j hj=> ?_) (fun j hj=> ?_) (fun j hj=> ?_) (fun j hj b hb=> ?_) (fun i j b hi hj hbi hbj=> ?_)).1
 .cases j<;>first|rfl|exact absurd (Or.inl rfl) hj|exact absurd (Or.inr (Or.inl rfl)) hj|exact absurd (Or.inr (Or.inr rfl)) hj|exact hs _ (by simp) (by simp)
 .rcases hj with rfl|rfl|rfl
  .exact zre _ _
  .exact hok.1
  exact hok.2
 .rcases hj with rfl|rfl|rfl
  .intro p hp;rw[List.mem_singleton.1 hp];exact⟨hb,by show w0.heap.size<=mb;omega⟩
  .exact hm.1
  exact hm.2
 .refine Or.inr ?_;rcases hj with rfl|rfl|rfl
  .rw[hin b hb];exact hbn
  .exact hO.1 b hb
  exact hO.2 b hb
 rcases hi with rfl|rfl|rfl<;>rcases hj with rfl|rfl|rfl
 .rfl
 .rw[hin b hbi]at hbj;exact absurd hbj h2
 .rw[hin b hbi]at hbj;exact absurd hbj h3
 .rw[hin b hbj]at hbi;exact absurd hbi h2
 .rfl
 .exact absurd hbj (h1 b hbi)
 .rw[hin b hbj]at hbi;exact absurd hbi h3
 .exact absurd hbi (h1 b hbj)
 rfl
structure Rw(w0 w:World)(c:Cf)(Q:Ix->Part)(la:Nat->Nat)(nl:Nat)(ob:Nat->Nat)(oy:Nat->Oy)(no:Nat)(mb:Nat)(cs:Array Value)(J:Nat)(e:TypeId)(v:Value)(n:Nat)(xs:List Value)(l:List (Nat×Obj)):Prop where
 bd:Bd w0 w c Q la nl ob oy no l
 box:(mb,Obj.cells cs 171 (0,0))∈l
 sz:cs.size=19
 atJ:cs[J]? = some v
 row:RowL l e v n xs
variable{mb:Nat}{cs:Array Value}{J:Nat}{e:TypeId}{o:Option Addr}{n k:Nat}{xs:List Value}
theorem Rw.quiet{v:Value}(h:Rw w0 w c Q la nl ob oy no mb cs J e v n xs l)(hf:Fr [] w w'):Rw w0 w' c Q la nl ob oy no mb cs J e v n xs l:=⟨h.bd.quiet hf,h.box,h.sz,h.atJ,h.row⟩
theorem Rw.cJ{v:Value}(h:Rw w0 w c Q la nl ob oy no mb cs J e v n xs l):w.cell? ⟨mb,J,none⟩=some v:=by rw[h.bd.cell h.box];exact h.atJ
theorem Rw.step(h:Rw w0 w c Q la nl ob oy no mb cs J e (.slice o n k) n xs l)(he:e≠171)(hJ:J<19){u:Value} :
  ∀W g cap w',Fr [] w W->w'.ownsRow 0 e 1 (.slice (some ⟨g,0,none⟩) (n+1) cap) (n+1) (xs++[u])->Went W (.slice o n k) g w' ->
   w'.cell? ⟨mb,J,none⟩=some (.slice o n k)/\w'.frozen? ⟨mb,J,none⟩=false /\
   Hid (∃l' cs',Rw w0 (w'.setCell ⟨mb,J,none⟩ (.slice (some ⟨g,0,none⟩) (n+1) cap)) c Q la nl ob oy no mb cs' J e (.slice (some ⟨g,0,none⟩) (n+1) cap) (n+1) (xs++[u]) l'/\(∀j,j≠J->cs'[j]? = cs[j]?)/\∀b ds t,t≠e->t≠171->(b,Obj.cells ds t (0,0))∈l->(b,Obj.cells ds t (0,0))∈l'):=by
 intro W g cap w' hf hown hw;obtain⟨l2,h2,hr2,hk2⟩:=(h.bd.quiet hf).app h.row hown hw;have hm2:(mb,Obj.cells cs 171 (0,0))∈l2:=hk2 _ _ _ (fun x=>he x.symm) h.box;refine⟨by rw[h2.cell hm2];exact h.atJ,h2.free hm2 J,?_⟩;refine⟨_,_,⟨h2.set hm2 J _,zeh _ _ _,by simpa using h.sz,?_,?_⟩,fun j hj=> ?_,fun b ds t ht1 ht2 hm=> ?_⟩
 .rw[Array.getElem?_setIfInBounds_self_of_lt (by rw[h.sz];omega)]
 .exact hr2.mono fun b cur hm=>zei hm (h2.same hm hm2 he)
 .rw[Array.getElem?_setIfInBounds_ne (fun e=>hj e.symm)]
 have hm':=hk2 _ _ _ ht1 hm;exact zei hm' (h2.same hm' hm2 ht2)
theorem zuh(a:Option Addr):∀u∈[Value.pointer a],u.oneCell'=true:=by
 intro u hu;rw[List.mem_singleton]at hu
 subst hu;rfl
theorem Bd.fin{T:List Tx}{Z:Lay}(h:Bd w0 w c Q la c.l.toNat ob oy c.s.toNat l)(hla:Z.z.la=la)(hob:Z.z.ob=ob)(hoy:Z.o=oy)(hS:Z.S=fun _=>[])(hQ:Q .fe=mP w0 c T Z ms0 .fe/\Q .de=mP w0 c T Z ms0 .de/\Q .ga=mP w0 c T Z ms0 .ga/\Q .wa=mP w0 c T Z ms0 .wa/\Q .li=mP w0 c T Z ms0 .li/\Q .pa=mP w0 c T Z ms0 .pa/\Q .re=mP w0 c T Z ms0 .re)(hm:StM c Z.z w)(hown:∀b,St.own c Z.z b->∃q∈l,q.1=b)(hT:txs Z.y.ts=T)(hnd:Z.nd=0)(hnw:Z.nw=0)(hn:∀j,(Z.o j).n=0):MaM w0 w c T Z ms0:=by
 refine⟨(Mach.one (P':=mP w0 c T Z ms0) h .st (stP w0 c Z.z) (Fr.refl [] w) (by simp) (fun j hj=> ?_) rfl (zyn _ _ _) ⟨hm,fun b hb=> ?_⟩ (fun b hb=>Or.inl (hown b hb))).1,hT,Nat.zero_le _,by rw[hnd];exact Nat.zero_le _,by rw[hnw];exact Nat.zero_le _,fun j _=>by rw[hn j];exact Nat.zero_le _⟩
 .obtain⟨q1,q2,q3,q4,q5,q6,q7⟩:=hQ;cases j with
  |st=>exact absurd rfl hj
  |fe=>exact q1.symm
  |de=>exact q2.symm
  |ga=>exact q3.symm
  |wa=>exact q4.symm
  |li=>exact q5.symm
  |pa=>exact q6.symm
  |re=>exact q7.symm
  |la i=>simp only[mP,bQ,hla,hS];rfl
  |ow i=>simp only[mP,bQ,hob,hoy];rfl
 obtain⟨q,hq,e⟩:=hown b hb;rw[<-e];exact (h.ls q hq).2
end
open Classical in
noncomputable def setQ (Q:Ix->Part) (i:Ix) (p:Part):Ix->Part:=fun j=>if j=i then p else Q j
theorem zbe(Q:Ix->Part)(i:Ix)(p:Part):setQ Q i p i=p:=if_pos rfl
theorem zal(Q:Ix->Part){i j:Ix}(p:Part)(h:j≠i):setQ Q i p j=Q j:=if_neg h
theorem zajb{w0 w:World}{c:Cf}{f g lb L fmb:Nat}{ts:List Tm}{v:Value}(h:F.FdM w0 w f g lb L ts v [] fmb [] ⟨0,0,c.w.toNat,false,false⟩ (.slice none 0 0)):FeM w0 w c f ⟨g,lb,w.heap.size,ts,fmb⟩ v (.slice none 0 0) 0 0 false:=by
 have hs:=h.src;have hL:L=ts.length:=hs.len;subst hL;refine⟨h,h.lt,hs.lt,lt_of_block hs.log,h.mlt,fun t ht k e=> ?_,Nat.le_refl _,fun k e=>(by cases e),fun k e=>(by cases e)⟩;obtain⟨k',e1,_,_,_,e5,_⟩:=hs.each t ht;rw[e]at e1
 cases e1;exact lt_of_block e5
def mcl2(c:Cf)(dk:Option Addr)(f tb wb ab lr pr gb:Nat)(v10 v11 v13:Value):Array Value:=#[.int .i64 c.l,.int .i64 c.s,.int .i64 c.w,.int .i64 c.q,.pointer dk,.pointer (some ⟨f,0,none⟩),.pointer (some ⟨tb,0,none⟩),.map (some wb),.pointer (some ⟨lr,0,none⟩),.pointer (some ⟨pr,0,none⟩),v10,v11,.pointer (some ⟨gb,0,none⟩),v13,.slice none 0 0,.int .i64 0,.map (some ab),.bool false,.bool false]
theorem zagk(c:Cf)(dk:Option Addr)(f tb wb ab lr pr gb:Nat):(((Mk.mcl c dk f tb wb ab).setIfInBounds 8 (.pointer (some ⟨lr,0,none⟩))).setIfInBounds 9 (.pointer (some ⟨pr,0,none⟩))).setIfInBounds 12 (.pointer (some ⟨gb,0,none⟩))=mcl2 c dk f tb wb ab lr pr gb (.slice none 0 0) (.slice none 0 0) (.slice none 0 0):=rfl
theorem zrl{cs:Array Value}{c:Cf}{dk:Option Addr}{f tb wb ab lr pr gb:Nat}{v10 v11 v13:Value}(hz:cs.size=19)(h10:cs[10]? = some v10)(h11:cs[11]? = some v11)(h13:cs[13]? = some v13)(h:∀j,j≠10->j≠11->j≠13->cs[j]? = (mcl2 c dk f tb wb ab lr pr gb (.slice none 0 0) (.slice none 0 0) (.slice none 0 0))[j]?):cs=mcl2 c dk f tb wb ab lr pr gb v10 v11 v13:=by
 refine Array.ext_getElem? fun j=> ?_;by_cases hj:j<19
 .by_cases h1:j=10
  .subst h1;rw[h10];rfl
  by_cases h2:j=11
  .subst h2;rw[h11];rfl
  by_cases h3:j=13
  .subst h3;rw[h13];rfl
  rw[h j h1 h2 h3];have:j=0\/j=1\/j=2\/j=3\/j=4\/j=5\/j=6\/j=7\/j=8\/j=9\/j=12\/j=14\/j=15\/j=16\/j=17\/j=18:=by omega
  rcases this with rfl|rfl|rfl|rfl|rfl|rfl|rfl|rfl|rfl|rfl|rfl|rfl|rfl|rfl|rfl|rfl<;>rfl
 rw[Array.getElem?_eq_none (by omega),Array.getElem?_eq_none (by show 19<=j;omega)]
section
variable{w0 w:World}{c:Cf}{T:List Tx}{Q:Ix->Part}{la ob:Nat->Nat}{oy:Nat->Oy}{mb lsB osB:Nat}{cs0:Array Value}
theorem zack{dk:Option Addr}{f tb wb ab lr pr gb lk ok:Nat}{Y:Ly}{v:Value}{B:List Nat}(hc:c.may)(h:SaE w0 c Q la c.l.toNat ob oy c.s.toNat mb lsB osB cs0 w)(h0:cs0=mcl2 c dk f tb wb ab lr pr gb (.slice (some ⟨lsB,0,none⟩) c.l.toNat lk) (.slice (some ⟨osB,0,none⟩) c.s.toNat ok) (.slice none 0 0))(hlk:c.l.toNat<=lk)(hok:c.s.toNat<=ok)(hoy:∀j,(oy j).n=0)(hT:txs Y.ts=T)(q1:Q .fe=feP w0 c f Y v (.slice none 0 0) 0 0 false)(q2:Q .de=deP w0 tb B 0 [] (fun _=>False))(q3:Q .ga=gaP w0 gb 0 [])(q4:Q .wa=waP w0 wb 0 T (fun _=>0) (fun _=>False))(q5:Q .li=liP w0 lr none c.w.toNat T (fun _=>0) [])(q6:Q .pa=paP w0 pr none c.w.toNat [])(q7:Q .re=reP w0 T (fun _=>0) 0) :
  ∃Z:Lay,Z.z.mb=mb/\MaM w0 w c T Z ms0/\Z.nr=0:=by
 obtain⟨l,cs,xs,so,k,kd,kw,kk,kg,hS,hF,hg⟩:=h;have hrow:=hS.row;obtain⟨orB,orC,cur,e1,e2,e3,e4⟩:=hrow.cells (by omega);cases e1;have hlen:=hF.len;have hcs:cs=mcl2 c dk f tb wb ab lr pr gb (.slice (some ⟨lsB,0,none⟩) c.l.toNat lk) (.slice (some ⟨osB,0,none⟩) c.s.toNat ok) (.slice (some ⟨orB,0,none⟩) (1+c.l.toNat+c.s.toNat+1) k):=by
  refine zrl hS.sz ?_ ?_ hS.at13 fun j h1 h2 h3=> ?_
  .rw[hF.hc 10 (by decide),h0];rfl
  .rw[hF.hc 11 (by decide),h0];rfl
  rw[hF.hc j h3,h0];by_cases hj:j<19
  .have:j=0\/j=1\/j=2\/j=3\/j=4\/j=5\/j=6\/j=7\/j=8\/j=9\/j=12\/j=14\/j=15\/j=16\/j=17\/j=18:=by omega
   rcases this with rfl|rfl|rfl|rfl|rfl|rfl|rfl|rfl|rfl|rfl|rfl|rfl|rfl|rfl|rfl|rfl<;>rfl
  rw[Array.getElem?_eq_none (by show 19<=j;omega),Array.getElem?_eq_none (by show 19<=j;omega)]
 obtain⟨curL,l1,l2⟩:=hF.lr;obtain⟨curO,o1,o2⟩:=hF.wr;have en:1+c.l.toNat+c.s.toNat+1=c.l.toNat+c.s.toNat+2:=by omega
 rw[en]at hcs e3 e4
 let Z:Lay:=⟨⟨mb,f,tb,gb,wb,lr,pr,ab,lsB,osB,orB,lk,ok,k,kd,kg,la,ob,kw,kk,dk⟩,Y,v,.slice none 0 0,B,none,none,fun _=>0,fun _=>[],oy,0,0,0⟩
 have hm:StM c Z.z w:=by
  refine⟨hc,?_,⟨curL,hS.bd.at l1,l2⟩,⟨curO,hS.bd.at o1,o2⟩,⟨cur,hS.bd.at e2,fun i hi=> ?_⟩,hS.bd.at hF.hd,fun i hi=>hS.bd.at (hF.hw i hi),fun j hj=>hS.bd.at (hF.hk j hj),?_,hlk,hok,e3⟩
  .have:=hS.bd.at hS.box;rw[hcs]at this
   exact this
  .rw[e4 i (by omega)];by_cases hi2:i<1+c.l.toNat+c.s.toNat
   .rw[List.getElem?_append_left (by omega),hF.ht i hi2];simp only[tv,zbn];by_cases h1:i=0
    .rw[if_pos h1,if_pos h1]
    rw[if_neg h1,if_neg h1];by_cases h2:i<=c.l.toNat
    .rw[if_pos h2,if_pos h2]
    rw[if_neg h2,if_neg h2,if_pos (by omega)]
   have hi3:i=1+c.l.toNat+c.s.toNat:=by omega
   rw[List.getElem?_append_right (by omega),hlen,hi3,Nat.sub_self];simp only[zbn];rw[if_neg (by omega),if_neg (by omega),if_neg (by omega)];rfl
  have:=hS.bd.at hg;have e5:1+c.l.toNat+c.s.toNat=c.l.toNat+c.s.toNat+1:=by omega
  rw[e5]at this
  exact this
 refine⟨Z,rfl,Bd.fin (Q:=Q) (la:=la) (ob:=ob) (oy:=oy) (l:=l) hS.bd rfl rfl rfl rfl ⟨q1,q2,q3,q4,q5,q6,q7⟩ hm (fun b hb=> ?_) hT rfl rfl hoy,rfl⟩;rcases hb with rfl|rfl|rfl|rfl|rfl|rfl|⟨i,hi,rfl⟩|⟨j,hj,rfl⟩
 .exact⟨_,hS.box,rfl⟩
 .exact⟨_,l1,rfl⟩
 .exact⟨_,o1,rfl⟩
 .exact⟨_,e2,rfl⟩
 .exact⟨_,hF.hd,rfl⟩
 .exact⟨_,hg,rfl⟩
 .exact⟨_,hF.hw i hi,rfl⟩
 exact⟨_,hF.hk j hj,rfl⟩
end
theorem zagm:prog.underlying 164=some (.slice 172):=by kernel_rfl
theorem zagn:(prog.info? 172).map (fun i=>(i.zero,i.size,i.bytes))=some (some (.pointer none),1,8):=by kernel_rfl
theorem zago:prog.underlying 165=some (.slice 262):=by kernel_rfl
theorem zagp:(prog.info? 262).map (fun i=>(i.zero,i.size,i.bytes))=some (some (.pointer none),1,8):=by kernel_rfl
def LaS(w0:World)(c:Cf)(Q:Ix->Part)(mb:Nat)(M:Array Value)(n:Nat)(w:World):Prop:=
 ∃la l cs so k xs,Rw w0 w c Q la n (fun _=>0) (fun _=>⟨0,0,0,none,fun _=>False,0⟩) 0 mb cs 10 172 (.slice so n k) n xs l/\(∀j,j≠10->cs[j]? = M[j]?)/\∀i,i<n->xs[i]? = some (.pointer (some ⟨la i,0,none⟩))
def OwS2(w0:World)(c:Cf)(Q:Ix->Part)(mb:Nat)(M:Array Value)(nl:Nat)(la:Nat->Nat)(lsB lk:Nat)(n:Nat)(w:World):Prop:=
 ∃ob oy l cs so k xs,Rw w0 w c Q la nl ob oy n mb cs 11 262 (.slice so n k) n xs l/\(∀j,j≠10->j≠11->cs[j]? = M[j]?)/\cs[10]? = some (.slice (some ⟨lsB,0,none⟩) nl lk)/\(∃cur,(lsB,Obj.cells cur 172 (0,0))∈l/\∀i,i<nl->cur[i]? = some (pv (la i)))/\(∀i,i<n->xs[i]? = some (.pointer (some ⟨ob i,0,none⟩)))/\∀j,(oy j).n=0
theorem Bd.past{w0 w:World}{c:Cf}{Q:Ix->Part}{la:Nat->Nat}{nl:Nat}{ob:Nat->Nat}{oy:Nat->Oy}{no:Nat}{l:List (Nat×Obj)}(h:Bd w0 w c Q la nl ob oy no l){c':Cf}{f:Nat}{Y:Ly}{v hw:Value}{rd fd:Nat}{hv:Bool}(hq:Q .fe=feP w0 c' f Y v hw rd fd hv){g:Nat}{o:Obj}(hg:(g,o)∈l):Y.B0<=g:=by
 apply Classical.byContradiction;intro hlt;have h1:(bQ w0 c Q la nl ob oy no l .fe).O w g:=by
  show (Q .fe).O w g;rw[hq];exact Or.inl ⟨h.ge hg,by omega⟩
 have h2:(bQ w0 c Q la nl ob oy no l .st).O w g:=⟨_,hg,rfl⟩;exact absurd (Mach.ap h .fe .st g h1 h2) (by simp)
theorem Rw.frame{w0 w w1 w':World}{c:Cf}{Q:Ix->Part}{la:Nat->Nat}{nl:Nat}{ob:Nat->Nat}{oy:Nat->Oy}{no mb:Nat}{cs:Array Value}{J:Nat}{e:TypeId}{v u:Value}{n g:Nat}{xs:List Value}{l:List (Nat×Obj)}(h:Rw w0 w c Q la nl ob oy no mb cs J e v n xs l){c':Cf}{f:Nat}{Y:Ly}{v' hw:Value}{rd fd:Nat}{hv:Bool}(hq:Q .fe=feP w0 c' f Y v' hw rd fd hv)(h1:w1.heap.size<=Y.B0)(hF:Fr [] w1 w){pb S:Nat}(hN:Dp.NilR w pb S)(he:e≠110)(hW:Went w v g w'):Fr [] w1 (w'.setCell ⟨mb,J,none⟩ u)/\Dp.NilR (w'.setCell ⟨mb,J,none⟩ u) pb S:=by
 have hrow:∀y∈v.ownBlock.toList,∃cur,(y,Obj.cells cur e (0,0))∈l:=by
  intro y hy;rcases h.row.2 with⟨h2,_⟩|⟨g',cap,cur,h2,h3,_⟩
  .rw[h2]at hy;simp[Value.ownBlock]at hy
  rw[h2]at hy
  simp[Value.ownBlock]at hy
  subst hy;exact⟨cur,h3⟩
 obtain⟨curN,n1,n2⟩:=hN;have hmb:=h.bd.past hq h.box;refine⟨(hF.on hW.fr (fun y hy=> ?_)).on (Fr.set _ _ _ (by simp):Fr [mb] _ _) (fun y hy=>by rw[List.mem_singleton.1 hy];omega),Dp.NilR.keep (Dp.NilR.keep ⟨curN,n1,n2⟩ hW.fr (fun hm=> ?_)) (Fr.set _ _ _ (by simp):Fr [mb] _ _) (fun hm=> ?_)⟩
 .obtain⟨cur,hc⟩:=hrow y hy;have:=h.bd.past hq hc;omega
 .obtain⟨cur,hc⟩:=hrow pb hm;exact ne_types n1 (h.bd.at hc) (fun e'=>he e'.symm) rfl
 exact ne_types n1 (h.bd.at h.box) (by decide) (List.mem_singleton.1 hm)
theorem zmt{w0 w:World}{l s x q:Int}{g lb L:Nat}{ts:List Tm}{v:Value}{dk:Option Addr}(h:F.Src w0 w g lb L ts v [])(hok:okL 1 (txs ts))(hc:Cf.may ⟨l,s,x,q⟩)(h0:Fr [] w0 w) :
  Calls prog 126 #[.agg #[.int .i64 l,.int .i64 s,.int .i64 x,.int .i64 q],.pointer (some ⟨g,0,none⟩),.pointer dk,.agg #[.int .i64 0,.slice none 0 0,.slice none 0 0]] w fun e w'=>∃Z:Lay,e=.returned (.tuple #[.pointer (some ⟨Z.z.mb,0,none⟩),.int .i64 0])/\MaM w0 w' ⟨l,s,x,q⟩ (txs ts) Z ms0/\Z.nr=0:=by
 obtain⟨nl,rfl⟩:∃nl:Nat,l=(nl:Int):=⟨l.toNat,by have:=hc.1;simp only at this;omega⟩;obtain⟨S,rfl⟩:∃S:Nat,s=(S:Int):=⟨s.toNat,by have:=hc.2.1;simp only at this;omega⟩;obtain⟨⟨hl1,hl2⟩,⟨hs1,hs2⟩,_,⟨hq1,hq2⟩⟩:=id hc;simp only at hl1 hl2 hs1 hs2 hq1 hq2;obtain⟨w1,HW1⟩:∃w1,Hid ((w.alloc (.cells #[.int .i64 (nl:Int),.int .i64 (S:Int),.int .i64 x,.int .i64 q] 23)).alloc (.cells #[.int .i64 0,.slice none 0 0,.slice none 0 0] 218)=w1):=⟨_,rfl⟩;obtain⟨A,HAe⟩:∃A,Hid (w.heap.size=A):=⟨_,rfl⟩;have hF1:Fr [] w w1:=by rw[<-HW1.out];exact (Fr.alloc [] w _).then (Fr.alloc [] _ _)
 have e1:(w.alloc (.cells #[.int .i64 (nl:Int),.int .i64 (S:Int),.int .i64 x,.int .i64 q] 23)).heap.size=w.heap.size+1:=by simp
 have hC1:CfM w1 A (nl:Int) (S:Int) x q:=by rw[<-HW1.out,<-HAe.out];exact (CfM.new _ _ _ _ _ _).keep (Fr.alloc [] _ _)
 have hb1:w1.heap[A+1]? = some (.cells #[.int .i64 0,.slice none 0 0,.slice none 0 0] 218 (0,0)):=by rw[<-HW1.out,<-HAe.out,<-e1];exact heap_alloc_new _ _
 have HC1:Hid (∀W,Fr [] w1 W->CfM W A (nl:Int) (S:Int) x q):=fun W hf=>hC1.keep hf;have HBx:Hid (∀W,Fr [] w1 W->W.cell? ⟨A+1,0,none⟩=some (.int .i64 0)/\W.cell? ⟨A+1,1,none⟩=some (.slice none 0 0)/\W.cell? ⟨A+1,2,none⟩=some (.slice none 0 0)):=fun W hf=>by
  have hr:=hf.keep hb1 (by simp);exact⟨by rw[crw hr];rfl,by rw[crw hr];rfl,by rw[crw hr];rfl⟩
 have HF1:Hid (Fr [] w w1):=hF1;have hx1:=hc.2.2.1;simp only at hx1;have hnc:F.newC 0 [] x L=0:=by
  unfold F.newC;rw[if_neg,if_neg]
  .simp[F.grB]
  rintro (h1|h1|h1|h1)
  .omega
  .exact h1 ⟨fun j hj=>by simp at hj,fun h=>by simp at h⟩
  .omega
  omega
 have HFe:Hid (Calls ..):=F.fNew_ok 0 none 0 0 [] x (h.keep hF1) hok ⟨fun h=>absurd h (by simp),by simp⟩ rfl (by simp) ⟨by omega,by omega⟩ hnc;obtain⟨_,f0,f1,f2,f3⟩:=HC1.out _ (Fr.refl _ _);obtain⟨k0,k1,k2⟩:=HBx.out _ (Fr.refl _ _);have HH0:Hid (Fr [] w0 w):=h0;have HM:Hid (Cf.may ⟨(nl:Int),(S:Int),x,q⟩):=hc;obtain⟨hx1a,hx1b⟩:=hx1;clear h hok hc hF1 e1 hC1 hb1 hnc h0;go_enter func126,ntmps126;go_upto_region 1 with fail
 rw[HW1.out,HAe.out];clear HW1;go_wp2_with fail
 refine Calls.mono HFe.out ?_;rintro e w2⟨f,fmb,rfl,hFd,hF2⟩;have HF2:Hid (Fr [] w1 w2):=hF2;have HFM:Hid (FeM w0 w2 ⟨(nl:Int),(S:Int),x,q⟩ f ⟨g,lb,w2.heap.size,ts,fmb⟩ v (.slice none 0 0) 0 0 false):=zajb hFd;clear HFe hFd k0 k1 k2;go_upto_region 4 with fail
 refine Mk.reg4 (c:=⟨(nl:Int),(S:Int),x,q⟩) (dk:=dk) (f:=f) (b4:=A) rfl rfl rfl rfl (HC1.out _ hF2) ?_;intro w4 mb tb wb ab B hMd;clear hF2 f0 f1 f2 f3;obtain⟨Q1,HQ1⟩:∃Q1,Hid (setQ (setQ (fun _=>nilP) .re (reP w0 (txs ts) (fun _=>0) 0)) .fe (feP w0 ⟨(nl:Int),(S:Int),x,q⟩ f ⟨g,lb,w2.heap.size,ts,fmb⟩ v (.slice none 0 0) 0 0 false)=Q1):=⟨_,rfl⟩;have hB1:Bd w0 w2 ⟨(nl:Int),(S:Int),x,q⟩ Q1 (fun _=>0) 0 (fun _=>0) (fun _=>⟨0,0,0,none,fun _=>False,0⟩) 0 []:=by
  have a0:=Bd.none (w0:=w0) (w:=w0) (c:=⟨(nl:Int),(S:Int),x,q⟩) (fun _=>0) (fun _=>0) (fun _=>⟨0,0,0,none,fun _=>False,0⟩) (Fr.refl [] w0);have a1:=a0.part (Q':=setQ (fun _=>nilP) .re (reP w0 (txs ts) (fun _=>0) 0)) .re (by simp) (Fr.refl [] w0) (fun j hj=>zal _ _ hj) (by rw[zbe];exact zyr _ _ _ _) (by rw[zbe];exact fun n h1 h2=>by omega) (fun b hb=>by
   rw[zbe]at hb
   obtain⟨n,h1,h2,_⟩:=hb;omega)
  refine a1.part (Q':=Q1) .fe (by simp) (HH0.out.then (HF1.out.then HF2.out)) (fun j hj=>by rw[<-HQ1.out];exact zal _ _ hj) (by rw[<-HQ1.out,zbe];exact zqn _ _ _ _ _ _ _ _ _) (by rw[<-HQ1.out,zbe];exact HFM.out) (fun b hb=>by
   rw[<-HQ1.out,zbe]at hb
   rcases hb with hb|hb|hb
   .exact hb.1
   .exact HFM.out.m.src.rn b hb
   cases hb)
 have q1re:Q1 .re=reP w0 (txs ts) (fun _=>0) 0:=by rw[<-HQ1.out,zal _ _ (by simp),zbe]
 have q1fe:Q1 .fe=feP w0 ⟨(nl:Int),(S:Int),x,q⟩ f ⟨g,lb,w2.heap.size,ts,fmb⟩ v (.slice none 0 0) 0 0 false:=by rw[<-HQ1.out,zbe]
 clear HQ1;obtain⟨Q2,HQ2⟩:∃Q2,Hid (setQ (setQ Q1 .de (deP w0 tb B 0 [] (fun _=>False))) .wa (waP w0 wb 0 (txs ts) (fun _=>0) (fun _=>False))=Q2):=⟨_,rfl⟩;have q2de:Q2 .de=deP w0 tb B 0 [] (fun _=>False):=by rw[<-HQ2.out,zal _ _ (by simp),zbe]
 have q2wa:Q2 .wa=waP w0 wb 0 (txs ts) (fun _=>0) (fun _=>False):=by rw[<-HQ2.out,zbe]
 have q2re:Q2 .re=reP w0 (txs ts) (fun _=>0) 0:=by rw[<-HQ2.out,zal _ _ (by simp),zal _ _ (by simp),q1re]
 have q2fe:Q2 .fe=feP w0 ⟨(nl:Int),(S:Int),x,q⟩ f ⟨g,lb,w2.heap.size,ts,fmb⟩ v (.slice none 0 0) 0 0 false:=by rw[<-HQ2.out,zal _ _ (by simp),zal _ _ (by simp),q1fe]
 have z02:w0.heap.size<=w2.heap.size:=(HH0.out.then (HF1.out.then HF2.out)).size;have hwt:wtF (txs ts) (fun _=>0) (fun _=>False)=fun _=>none:=by funext n;simp[wtF]
 have HB2:Hid (Bd w0 w4 ⟨(nl:Int),(S:Int),x,q⟩ Q2 (fun _=>0) 0 (fun _=>0) (fun _=>⟨0,0,0,none,fun _=>False,0⟩) 0 [(mb,.cells (Mk.mcl ⟨(nl:Int),(S:Int),x,q⟩ dk f tb wb ab) 171 (0,0))]):=by
  refine hB1.start hMd.fr (fun j h1 h2=>by rw[<-HQ2.out,zal _ _ h2,zal _ _ h1]) ⟨by rw[q2de];exact zqo _ _ _ _ _ _,by rw[q2wa];exact zqq _ _ _ _ _ _⟩ ⟨by rw[q2de];exact⟨hMd.tl,fun b hb=>Nat.le_trans z02 (hMd.nB b hb)⟩,by rw[q2wa];exact⟨by rw[hwt];exact hMd.mp,Nat.le_trans z02 hMd.nw⟩⟩ ⟨fun b hb=>by rw[q2de]at hb;exact hMd.nB b hb,fun b hb=>by rw[q2wa]at hb;have e:b=wb:=hb;rw[e];exact hMd.nw⟩ hMd.box hMd.nm (fun b hb hb2=> ?_) (fun hb=> ?_) (fun hb=> ?_)
  .rw[q2de]at hb
   rw[q2wa]at hb2
   have e:b=wb:=hb2;exact hMd.a1 (e▸hb)
  .rw[q2de]at hb;exact hMd.a2 hb
  rw[q2wa]at hb;exact hMd.a3 hb
 have HF4:Hid (Fr [] w1 w4):=HF2.out.then hMd.fr;have HMb:Hid (w1.heap.size<=mb):=Nat.le_trans HF2.out.size hMd.nm;have hMv:=hMd.mv;clear hB1 hMd q1re q1fe HQ2 HFM hMv;simp only[Mk.prs,puts,Act.put];rename_i KK hKK;show KK _ _;refine hKK _ _ ?_;clear hKK;obtain⟨iL,hiL,hzL,hsL,hbL⟩:=zrh zagn;obtain⟨iO,hiO,hzO,hsO,hbO⟩:=zrh zagp;obtain⟨_,f0,f1,f2,f3⟩:=HC1.out _ HF4.out;have HG5:Hid (Calls ..):=GT.gnew_any x w4 ⟨by omega,by omega⟩;go_wp2_with fail
 refine Calls.mono HG5.out ?_;rintro e w5⟨lr,rfl,hlr,hRg,hf5⟩;clear HG5 f0 f1 f2 f3;obtain⟨Q3,HQ3⟩:∃Q3,Hid (setQ Q2 .li (liP w0 lr none x.toNat (txs ts) (fun _=>0) [])=Q3):=⟨_,rfl⟩;have q3li:Q3 .li=liP w0 lr none x.toNat (txs ts) (fun _=>0) []:=by rw[<-HQ3.out,zbe]
 have q3de:Q3 .de=deP w0 tb B 0 [] (fun _=>False):=by rw[<-HQ3.out,zal _ _ (by simp),q2de]
 have q3wa:Q3 .wa=waP w0 wb 0 (txs ts) (fun _=>0) (fun _=>False):=by rw[<-HQ3.out,zal _ _ (by simp),q2wa]
 have q3re:Q3 .re=reP w0 (txs ts) (fun _=>0) 0:=by rw[<-HQ3.out,zal _ _ (by simp),q2re]
 have q3fe:Q3 .fe=feP w0 ⟨(nl:Int),(S:Int),x,q⟩ f ⟨g,lb,w2.heap.size,ts,fmb⟩ v (.slice none 0 0) 0 0 false:=by rw[<-HQ3.out,zal _ _ (by simp),q2fe]
 have z04:w0.heap.size<=w4.heap.size:=(HH0.out.then (HF1.out.then HF4.out)).size;have own1:∀(lr b:Nat),b∈GT.Rg.own lr none->b=lr:=fun lr b hb=>by simpa[GT.Rg.own]using hb
 have own2:∀(lr b:Nat),b∈GI.Rg.own lr none->b=lr:=fun lr b hb=>by simpa[GI.Rg.own]using hb
 have hB5:=HB2.out.part (Q':=Q3) .li (by simp) hf5 (fun j hj=>by rw[<-HQ3.out,zal _ _ hj]) (by rw[q3li];exact zqr _ _ _ _ _ _ _) (by rw[q3li];exact⟨hRg,fun b hb=>by rw[own1 lr b hb];omega⟩) (fun b hb=>by rw[q3li]at hb;rw[own1 lr b hb];exact hlr);have c8:w5.cell? ⟨mb,8,none⟩=some (.pointer none):=by rw[hB5.cell List.mem_cons_self];rfl
 have d8:w5.frozen? ⟨mb,8,none⟩=false:=hB5.free List.mem_cons_self 8;obtain⟨w6,HW6⟩:∃w6,Hid (w5.setCell ⟨mb,8,none⟩ (.pointer (some ⟨lr,0,none⟩))=w6):=⟨_,rfl⟩;obtain⟨M6,HM6⟩:∃M6,Hid ((Mk.mcl ⟨(nl:Int),(S:Int),x,q⟩ dk f tb wb ab).setIfInBounds 8 (.pointer (some ⟨lr,0,none⟩))=M6):=⟨_,rfl⟩;have hB6:=hB5.set List.mem_cons_self 8 (.pointer (some ⟨lr,0,none⟩));rw[HW6.out,HM6.out]at hB6
 have HB6:Hid (∃l6,Bd w0 w6 ⟨(nl:Int),(S:Int),x,q⟩ Q3 (fun _=>0) 0 (fun _=>0) (fun _=>⟨0,0,0,none,fun _=>False,0⟩) 0 l6/\(mb,Obj.cells M6 171 (0,0))∈l6):=⟨_,hB6,zeh _ _ _⟩;have HF6:Hid (Fr [] w1 w6):=by
  rw[<-HW6.out];exact (HF4.out.then hf5).on (Fr.set _ _ _ (by simp):Fr [mb] _ _) (fun y hy=>by rw[List.mem_singleton.1 hy];exact HMb.out)
 have hm69:M6[9]? = some (.pointer none):=by rw[<-HM6.out];rfl
 clear HB2 q2de q2wa q2re q2fe HQ3 hB5 hB6 hlr hRg hf5 HF4 z04;obtain⟨_,f0,f1,f2,f3⟩:=HC1.out _ HF6.out;have HG6:Hid (Calls ..):=GI.gnew_any x w6 ⟨by omega,by omega⟩;go_upto_region 6 with fail
 rw[HW6.out];clear HW6 c8 d8;go_wp2_with fail
 refine Calls.mono HG6.out ?_;rintro e w7⟨pr,rfl,hpr,hRg,hf7⟩;clear HG6 f0 f1 f2 f3;obtain⟨Q4,HQ4⟩:∃Q4,Hid (setQ Q3 .pa (paP w0 pr none x.toNat [])=Q4):=⟨_,rfl⟩;have q4pa:Q4 .pa=paP w0 pr none x.toNat []:=by rw[<-HQ4.out,zbe]
 have q4li:Q4 .li=liP w0 lr none x.toNat (txs ts) (fun _=>0) []:=by rw[<-HQ4.out,zal _ _ (by simp),q3li]
 have q4de:Q4 .de=deP w0 tb B 0 [] (fun _=>False):=by rw[<-HQ4.out,zal _ _ (by simp),q3de]
 have q4wa:Q4 .wa=waP w0 wb 0 (txs ts) (fun _=>0) (fun _=>False):=by rw[<-HQ4.out,zal _ _ (by simp),q3wa]
 have q4re:Q4 .re=reP w0 (txs ts) (fun _=>0) 0:=by rw[<-HQ4.out,zal _ _ (by simp),q3re]
 have q4fe:Q4 .fe=feP w0 ⟨(nl:Int),(S:Int),x,q⟩ f ⟨g,lb,w2.heap.size,ts,fmb⟩ v (.slice none 0 0) 0 0 false:=by rw[<-HQ4.out,zal _ _ (by simp),q3fe]
 have z06:w0.heap.size<=w6.heap.size:=(HH0.out.then (HF1.out.then HF6.out)).size;obtain⟨l6,b6,m6⟩:=HB6.out;have hB7:=b6.part (Q':=Q4) .pa (by simp) hf7 (fun j hj=>by rw[<-HQ4.out,zal _ _ hj]) (by rw[q4pa];exact zqs _ _ _ _ _) (by rw[q4pa];exact⟨hRg,fun b hb=>by rw[own2 pr b hb];omega⟩) (fun b hb=>by rw[q4pa]at hb;rw[own2 pr b hb];exact hpr);have c9:w7.cell? ⟨mb,9,none⟩=some (.pointer none):=by rw[hB7.cell m6];exact hm69
 have d9:w7.frozen? ⟨mb,9,none⟩=false:=hB7.free m6 9;obtain⟨w8,HW8⟩:∃w8,Hid (w7.setCell ⟨mb,9,none⟩ (.pointer (some ⟨pr,0,none⟩))=w8):=⟨_,rfl⟩;obtain⟨M8,HM8⟩:∃M8,Hid (M6.setIfInBounds 9 (.pointer (some ⟨pr,0,none⟩))=M8):=⟨_,rfl⟩;have hB8:=hB7.set m6 9 (.pointer (some ⟨pr,0,none⟩));rw[HW8.out,HM8.out]at hB8
 have HB8:Hid (∃l8,Bd w0 w8 ⟨(nl:Int),(S:Int),x,q⟩ Q4 (fun _=>0) 0 (fun _=>0) (fun _=>⟨0,0,0,none,fun _=>False,0⟩) 0 l8/\(mb,Obj.cells M8 171 (0,0))∈l8):=⟨_,hB8,zeh _ _ _⟩;have HF8:Hid (Fr [] w1 w8):=by
  rw[<-HW8.out];exact (HF6.out.then hf7).on (Fr.set _ _ _ (by simp):Fr [mb] _ _) (fun y hy=>by rw[List.mem_singleton.1 hy];exact HMb.out)
 have hm812:M8[12]? = some (.pointer none):=by rw[<-HM8.out,<-HM6.out];rfl
 clear HB6 q3de q3wa q3re q3fe q3li HQ4 hB7 hB8 hpr hRg hf7 HF6 z06 b6 m6 l6 hm69;obtain⟨k0,k1,k2⟩:=HBx.out _ HF8.out;have HG8:Hid (Calls ..):=zahu 0 none 0 0 [] w8 ⟨fun h=>absurd h (by simp),by simp⟩ rfl ⟨⟨Int.le_refl _,by omega,List.Pairwise.nil,fun x hx=>(by cases hx)⟩,fun h=>(by cases h)⟩;go_upto_region 7 with fail
 rw[HW8.out];clear HW8 c9 d9;go_wp2_with fail
 refine Calls.mono HG8.out ?_;rintro e w9⟨gb,rfl,hgb,hGG,hf9⟩;clear HG8 k0 k1 k2;obtain⟨Q5,HQ5⟩:∃Q5,Hid (setQ Q4 .ga (gaP w0 gb 0 [])=Q5):=⟨_,rfl⟩;have q5ga:Q5 .ga=gaP w0 gb 0 []:=by rw[<-HQ5.out,zbe]
 have q5pa:Q5 .pa=paP w0 pr none x.toNat []:=by rw[<-HQ5.out,zal _ _ (by simp),q4pa]
 have q5li:Q5 .li=liP w0 lr none x.toNat (txs ts) (fun _=>0) []:=by rw[<-HQ5.out,zal _ _ (by simp),q4li]
 have q5de:Q5 .de=deP w0 tb B 0 [] (fun _=>False):=by rw[<-HQ5.out,zal _ _ (by simp),q4de]
 have q5wa:Q5 .wa=waP w0 wb 0 (txs ts) (fun _=>0) (fun _=>False):=by rw[<-HQ5.out,zal _ _ (by simp),q4wa]
 have q5re:Q5 .re=reP w0 (txs ts) (fun _=>0) 0:=by rw[<-HQ5.out,zal _ _ (by simp),q4re]
 have q5fe:Q5 .fe=feP w0 ⟨(nl:Int),(S:Int),x,q⟩ f ⟨g,lb,w2.heap.size,ts,fmb⟩ v (.slice none 0 0) 0 0 false:=by rw[<-HQ5.out,zal _ _ (by simp),q4fe]
 have z08:w0.heap.size<=w8.heap.size:=(HH0.out.then (HF1.out.then HF8.out)).size;obtain⟨l8,b8,m8⟩:=HB8.out;have hB9:=b8.part (Q':=Q5) .ga (by simp) hf9 (fun j hj=>by rw[<-HQ5.out,zal _ _ hj]) (by rw[q5ga];exact zqp _ _ _ _) (by rw[q5ga];exact⟨hGG,by omega⟩) (fun b hb=>by rw[q5ga]at hb;have e:b=gb:=hb;rw[e];exact hgb);have c12:w9.cell? ⟨mb,12,none⟩=some (.pointer none):=by rw[hB9.cell m8];exact hm812
 have d12:w9.frozen? ⟨mb,12,none⟩=false:=hB9.free m8 12;obtain⟨wA,HWA⟩:∃wA,Hid (w9.setCell ⟨mb,12,none⟩ (.pointer (some ⟨gb,0,none⟩))=wA):=⟨_,rfl⟩;obtain⟨MA,HMA⟩:∃MA,Hid (M8.setIfInBounds 12 (.pointer (some ⟨gb,0,none⟩))=MA):=⟨_,rfl⟩;have hBA:=hB9.set m8 12 (.pointer (some ⟨gb,0,none⟩));rw[HWA.out,HMA.out]at hBA
 have HBA:Hid (∃lA,Bd w0 wA ⟨(nl:Int),(S:Int),x,q⟩ Q5 (fun _=>0) 0 (fun _=>0) (fun _=>⟨0,0,0,none,fun _=>False,0⟩) 0 lA/\(mb,Obj.cells MA 171 (0,0))∈lA):=⟨_,hBA,zeh _ _ _⟩;have HFA:Hid (Fr [] w1 wA):=by
  rw[<-HWA.out];exact (HF8.out.then hf9).on (Fr.set _ _ _ (by simp):Fr [mb] _ _) (fun y hy=>by rw[List.mem_singleton.1 hy];exact HMb.out)
 have HMA2:Hid (MA=mcl2 ⟨(nl:Int),(S:Int),x,q⟩ dk f tb wb ab lr pr gb (.slice none 0 0) (.slice none 0 0) (.slice none 0 0)):=by
  rw[<-HMA.out,<-HM8.out,<-HM6.out];exact zagk _ _ _ _ _ _ _ _ _
 clear HB8 q4de q4wa q4re q4fe q4li q4pa HQ5 hB9 hBA hgb hGG hf9 HF8 z08 b8 m8 l8 hm812 HM6 HM8 HMA;obtain⟨_,f0,f1,f2,f3⟩:=HC1.out _ HFA.out;obtain⟨k0,k1,k2⟩:=HBx.out _ HFA.out;have HGA:Hid (Calls ..):=Dp.split_nil (nl:Int) (S:Int) x q HM.out wA;go_upto_region 8 with fail
 rw[HWA.out];clear HWA c12 d12;go_wp2_with fail
 refine Calls.mono HGA.out ?_;rintro e wB⟨pb,rfl,hNil,hpb,hfB⟩;clear HGA k0 k1 k2 f0 f1 f2 f3;simp only[Int.toNat_natCast]at hNil;have HFB:Hid (Fr [] w1 wB/\Dp.NilR wB pb S):=⟨HFA.out.then hfB,hNil⟩;have HLa0:Hid (LaS w0 ⟨(nl:Int),(S:Int),x,q⟩ Q5 mb MA 0 wB):=by
  obtain⟨lA,bA,mA⟩:=HBA.out;exact⟨fun _=>0,lA,MA,none,0,[],⟨bA.quiet hfB,mA,by rw[HMA2.out];rfl,by rw[HMA2.out];rfl,RowL.nil _ _⟩,fun j _=>rfl,fun i hi=>absurd hi (by omega)⟩
 have HZ:Hid (w1.heap.size<=w2.heap.size):=HF2.out.size;clear hNil hfB hpb HBA HFA HF2;obtain⟨_,f0,f1,f2,f3⟩:=HC1.out _ HFB.out.1;go_wp2_with fail
 go_loopw [81] (fun ii wr=>∃(i:Nat),ii=.int .i64 i/\i<=nl/\Hid (LaS w0 ⟨(nl:Int),(S:Int),x,q⟩ Q5 mb MA i wr)/\Hid (Fr [] w1 wr/\Dp.NilR wr pb S)) (fun ii _=>nl-(RowKit.intOf ii).toNat)
 case atStart=>exact⟨0,rfl,Nat.zero_le _,HLa0,HFB⟩
 obtain⟨i,rfl,hin,HLa,HFr⟩:=hrel;by_cases hi:i<nl
 .have hlt:(i:Int)<nl:=by omega
  obtain⟨la,l1,cs,so,k,xs,hR,hcs,hxs⟩:=HLa.out;obtain⟨_,f0,f1,f2,f3⟩:=HC1.out _ HFr.out.1;have hE:newE ⟨(nl:Int),(S:Int),x,q⟩ ((i:Int)+1)=0:=by
   unfold newE;rw[if_neg (by simpa using HM.out),if_pos ⟨by omega,by show (i:Int)+1<=nl;omega⟩]
  have HLn:Hid (Calls prog 155 #[.int .i64 ((i:Int)+1),.agg #[.int .i64 (nl:Int),.int .i64 (S:Int),.int .i64 x,.int .i64 q]] wr fun e w'=>∃lb,e=.returned (.tuple #[.pointer (some ⟨lb,0,none⟩),.int .i64 0])/\w'.cell? ⟨mb,10,none⟩=some (.slice so i k)/\Hid (Rw w0 w' ⟨(nl:Int),(S:Int),x,q⟩ Q5 (upd la i lb) (i+1) (fun _=>0) (fun _=>⟨0,0,0,none,fun _=>False,0⟩) 0 mb cs 10 172 (.slice so i k) i xs l1/\Fr [] w1 w'/\Dp.NilR w' pb S)):=by
   refine Calls.mono (zabh hE wr) ?_;rintro e w'⟨lb',rfl,hlb,hL,hf⟩;have hR':Rw w0 w' ⟨(nl:Int),(S:Int),x,q⟩ Q5 (upd la i lb') (i+1) (fun _=>0) (fun _=>⟨0,0,0,none,fun _=>False,0⟩) 0 mb cs 10 172 (.slice so i k) i xs l1:=⟨hR.bd.lane hf hL hlb,hR.box,hR.sz,hR.atJ,hR.row⟩;exact⟨lb',rfl,hR'.cJ,hR',HFr.out.1.then hf,HFr.out.2.keep hf (by simp)⟩
  have HCs:Hid ((∀j,j≠10->cs[j]? = MA[j]?)/\(∀t,t<i->xs[t]? = some (.pointer (some ⟨la t,0,none⟩)))/\xs.length=i):=⟨hcs,hxs,hR.row.1⟩;clear hR hcs hxs hE HLa HFr;go_wp2_with fail
  refine Calls.mono HLn.out ?_;rintro e wC⟨lb',rfl,c10,HRC⟩;have HX:Hid ((wC.alloc (.cells #[.pointer (some ⟨lb',0,none⟩)] 172)).ownsRow 0 172 1 (.slice so i k) i xs):=by
   have h2:=HRC.out.1.quiet (Fr.alloc [] wC (.cells #[.pointer (some ⟨lb',0,none⟩)] 172));exact h2.row.own h2.bd.ls
  have HA:Hid (∀g cap w',w'.ownsRow 0 172 1 (.slice (some ⟨g,0,none⟩) (i+1) cap) (i+1) (xs++[.pointer (some ⟨lb',0,none⟩)])->Went (wC.alloc (.cells #[.pointer (some ⟨lb',0,none⟩)] 172)) (.slice so i k) g w' ->
    w'.cell? ⟨mb,10,none⟩=some (.slice so i k)/\w'.frozen? ⟨mb,10,none⟩=false/\Hid (LaS w0 ⟨(nl:Int),(S:Int),x,q⟩ Q5 mb MA (i+1) (w'.setCell ⟨mb,10,none⟩ (.slice (some ⟨g,0,none⟩) (i+1) cap)))/\Hid (Fr [] w1 (w'.setCell ⟨mb,10,none⟩ (.slice (some ⟨g,0,none⟩) (i+1) cap))/\Dp.NilR (w'.setCell ⟨mb,10,none⟩ (.slice (some ⟨g,0,none⟩) (i+1) cap)) pb S)):=fun g cap w' hO hW=>by
   have hfa:=Fr.alloc [] wC (.cells #[.pointer (some ⟨lb',0,none⟩)] 172);obtain⟨r1,r2,r3⟩:=HRC.out.1.step (by decide) (by decide) (u:=.pointer (some ⟨lb',0,none⟩)) _ g cap w' hfa hO hW;have hfr:=(HRC.out.1.quiet hfa).frame (u:=.slice (some ⟨g,0,none⟩) (i+1) cap) q5fe HZ.out (HRC.out.2.1.then hfa) (HRC.out.2.2.keep hfa (by simp)) (by decide) hW;refine⟨r1,r2,?_,hfr⟩;obtain⟨l',cs',p1,p2,p3⟩:=r3.out;refine⟨_,l',cs',_,_,_,p1,fun j hj=>(p2 j hj).trans (HCs.out.1 j hj),fun t ht=> ?_⟩;by_cases e:t=i
   .subst e;rw[List.getElem?_append_right (by rw[HCs.out.2.2];exact Nat.le_refl _),HCs.out.2.2,Nat.sub_self,zad];rfl
   rw[List.getElem?_append_left (by rw[HCs.out.2.2];omega),zac _ _ e];exact HCs.out.2.1 t (by omega)
  have ca:(wC.alloc (.cells #[.pointer (some ⟨lb',0,none⟩)] 172)).heap[wC.heap.size]? = some (.cells #[.pointer (some ⟨lb',0,none⟩)] 172 (0,0)):=heap_alloc_new _ _;have HCA:Hid (∀j u,[Value.pointer (some ⟨lb',0,none⟩)][j]? = some u->(wC.alloc (.cells #[.pointer (some ⟨lb',0,none⟩)] 172)).cell? ((⟨wC.heap.size,0,none⟩:Addr).add j)=some u):=zej ca;have hn2:i<=50:=by omega
  clear HLn HCs ca f0 f1 f2 f3;go_wp2_with (first
   |(at_builtin;refine wpList_app _ rfl (.tmp 95) (.tmp 97) 164 rfl 172 iL (.pointer none) 1 8 zagm hiL hzL hsL hbL rfl (by decide) (.slice so i k) i xs (by rfl) HX.out ⟨wC.heap.size,0,none⟩ 1 [.pointer (some ⟨lb',0,none⟩)] (by rfl) rfl HCA.out (zuh _) (by omega) (by unfold maxLen;omega) ?_;intro gg cap w4' hO hW;obtain⟨e10,ef,HP,HP2⟩:=HA.out gg cap w4' hO hW)
   |fail)
  go_roundw;case rel=>exact⟨i+1,by simp,by omega,HP,HP2⟩
  case measure=>simp[RowKit.intOf];omega
 have hil:i=nl:=by omega
 have hlt:¬(i:Int)<nl:=by omega
 rw[hil]at HLa
 obtain⟨la,l1,cs,so,k,xs,hR,hcs,hxs⟩:=HLa.out;obtain⟨lsB,lk,curL,e1,e2,e3,e4⟩:=hR.row.cells (by omega);have hso:so=some ⟨lsB,0,none⟩/\k=lk:=by
  simp only[Value.slice.injEq]at e1;exact⟨e1.1,e1.2.2⟩
 obtain⟨rfl,rfl⟩:=hso;have HOw0:Hid (OwS2 w0 ⟨(nl:Int),(S:Int),x,q⟩ Q5 mb MA nl la lsB k 0 wr):=by
  refine⟨fun _=>0,fun _=>⟨0,0,0,none,fun _=>False,0⟩,l1,cs,none,0,[],⟨hR.bd,hR.box,hR.sz,?_,RowL.nil _ _⟩,fun j h10 _=>hcs j h10,hR.atJ,⟨curL,e2,fun t ht=> ?_⟩,fun t ht=>absurd ht (by omega),fun _=>rfl⟩
  .rw[hcs 11 (by decide),HMA2.out];rfl
  rw[e4 t ht];exact hxs t ht
 have HCap:Hid (nl<=k):=e3;clear hR hcs hxs e1 e2 e3 e4 HLa HLa0 hil hi hin HFB;obtain⟨wE,hwE⟩:∃wE,wE=wr:=⟨_,rfl⟩;subst hwE;go_wp2_with fail
 go_loopw [104] (fun jj wr=>∃(j:Nat),jj=.int .i64 j/\j<=S/\Hid (OwS2 w0 ⟨(nl:Int),(S:Int),x,q⟩ Q5 mb MA nl la lsB k j wr)/\Hid (Fr [] w1 wr/\Dp.NilR wr pb S)) (fun jj _=>S-(RowKit.intOf jj).toNat)
 case atStart=>exact⟨0,rfl,Nat.zero_le _,HOw0,HFr⟩
 obtain⟨j,rfl,hjn,HOw,HGr⟩:=hrel;by_cases hj:j<S
 .have hlj:(j:Int)<S:=by omega
  obtain⟨ob,oy,l2,cs,oo,ko,xs,hR,hcs,h10,hlr,hxs,hoy⟩:=HOw.out;obtain⟨_,f0,f1,f2,f3⟩:=HC1.out _ HGr.out.1;have cp:=HGr.out.2.cell hj;have HOn:Hid (Calls prog 156 #[.int .i64 (j:Int),.int .i64 q,.slice none 0 0] wr fun e w'=>∃ok',e=.returned (.tuple #[.pointer (some ⟨ok',0,none⟩),.int .i64 0])/\w'.cell? ⟨mb,11,none⟩=some (.slice oo j ko)/\Hid (∃sb b g',Rw w0 w' ⟨(nl:Int),(S:Int),x,q⟩ Q5 la nl (upd ob j ok') (upd oy j ⟨sb,b,g',none,fun _=>False,0⟩) (j+1) mb cs 11 262 (.slice oo j ko) j xs l2/\Fr [] w1 w'/\Dp.NilR w' pb S)):=by
   refine Calls.mono (O.onew_any (j:Int) q none 0 0 [] wr ⟨by omega,by omega,hq1,hq2⟩ ⟨fun h=>absurd h (by simp),by simp,by simp⟩ rfl) ?_;rintro e w' (⟨hno,_⟩|⟨_,ok',sb,b,g',rfl,hO⟩)
   .exact absurd (⟨List.Pairwise.nil,by simp⟩:O.LoOk []) hno
   rw[O.mOf_nil]at hO
   have hB:=hR.bd.owner hO;have hR':Rw w0 w' ⟨(nl:Int),(S:Int),x,q⟩ Q5 la nl (upd ob j ok') (upd oy j ⟨sb,b,g',none,fun _=>False,0⟩) (j+1) mb cs 11 262 (.slice oo j ko) j xs l2:=⟨hB,hR.box,hR.sz,hR.atJ,hR.row⟩;exact⟨ok',rfl,hR'.cJ,sb,b,g',hR',HGr.out.1.then hO.fr,HGr.out.2.keep hO.fr (by simp)⟩
  have HCs:Hid ((∀t,t≠10->t≠11->cs[t]? = MA[t]?)/\cs[10]? = some (.slice (some ⟨lsB,0,none⟩) nl k)/\(∃cur,(lsB,Obj.cells cur 172 (0,0))∈l2/\∀t,t<nl->cur[t]? = some (pv (la t)))/\(∀t,t<j->xs[t]? = some (.pointer (some ⟨ob t,0,none⟩)))/\xs.length=j/\∀t,(oy t).n=0):=⟨hcs,h10,hlr,hxs,hR.row.1,hoy⟩;clear hR hcs h10 hlr hxs hoy HOw HGr;go_wp2_with fail
  refine Calls.mono HOn.out ?_;rintro e wC⟨ok',rfl,c11,HRC⟩;obtain⟨sb,b,g',hRC,hFC,hNC⟩:=HRC.out;have HX:Hid ((wC.alloc (.cells #[.pointer (some ⟨ok',0,none⟩)] 262)).ownsRow 0 262 1 (.slice oo j ko) j xs):=by
   have h2:=hRC.quiet (Fr.alloc [] wC (.cells #[.pointer (some ⟨ok',0,none⟩)] 262));exact h2.row.own h2.bd.ls
  have HA:Hid (∀g cap w',w'.ownsRow 0 262 1 (.slice (some ⟨g,0,none⟩) (j+1) cap) (j+1) (xs++[.pointer (some ⟨ok',0,none⟩)])->Went (wC.alloc (.cells #[.pointer (some ⟨ok',0,none⟩)] 262)) (.slice oo j ko) g w' ->
    w'.cell? ⟨mb,11,none⟩=some (.slice oo j ko)/\w'.frozen? ⟨mb,11,none⟩=false/\Hid (OwS2 w0 ⟨(nl:Int),(S:Int),x,q⟩ Q5 mb MA nl la lsB k (j+1) (w'.setCell ⟨mb,11,none⟩ (.slice (some ⟨g,0,none⟩) (j+1) cap)))/\Hid (Fr [] w1 (w'.setCell ⟨mb,11,none⟩ (.slice (some ⟨g,0,none⟩) (j+1) cap))/\Dp.NilR (w'.setCell ⟨mb,11,none⟩ (.slice (some ⟨g,0,none⟩) (j+1) cap)) pb S)):=fun g cap w' hO hW=>by
   have hfa:=Fr.alloc [] wC (.cells #[.pointer (some ⟨ok',0,none⟩)] 262);obtain⟨r1,r2,r3⟩:=hRC.step (by decide) (by decide) (u:=.pointer (some ⟨ok',0,none⟩)) _ g cap w' hfa hO hW;have hfr:=(hRC.quiet hfa).frame (u:=.slice (some ⟨g,0,none⟩) (j+1) cap) q5fe HZ.out (hFC.then hfa) (hNC.keep hfa (by simp)) (by decide) hW;refine⟨r1,r2,?_,hfr⟩;obtain⟨l',cs',p1,p2,p3⟩:=r3.out;obtain⟨cur,n1,n2⟩:=HCs.out.2.2.1;refine⟨_,_,l',cs',_,_,_,p1,fun t h10 h11=>(p2 t h11).trans (HCs.out.1 t h10 h11),(p2 10 (by decide)).trans HCs.out.2.1,⟨cur,p3 _ _ _ (by decide) (by decide) n1,n2⟩,fun t ht=> ?_,fun t=> ?_⟩
   .by_cases e:t=j
    .subst e;rw[List.getElem?_append_right (by rw[HCs.out.2.2.2.2.1];exact Nat.le_refl _),HCs.out.2.2.2.2.1,Nat.sub_self,zad];rfl
    rw[List.getElem?_append_left (by rw[HCs.out.2.2.2.2.1];omega),zac _ _ e];exact HCs.out.2.2.2.1 t (by omega)
   by_cases e:t=j
   .rw[e,zad]
   rw[zac _ _ e];exact HCs.out.2.2.2.2.2 t
  have ca:(wC.alloc (.cells #[.pointer (some ⟨ok',0,none⟩)] 262)).heap[wC.heap.size]? = some (.cells #[.pointer (some ⟨ok',0,none⟩)] 262 (0,0)):=heap_alloc_new _ _;have HCA:Hid (∀t u,[Value.pointer (some ⟨ok',0,none⟩)][t]? = some u->(wC.alloc (.cells #[.pointer (some ⟨ok',0,none⟩)] 262)).cell? ((⟨wC.heap.size,0,none⟩:Addr).add t)=some u):=zej ca;have hn2:j<=50:=by omega
  clear HOn HCs HRC ca f0 f1 f2 f3 cp hRC hFC hNC;go_wp2_with (first
   |(at_builtin;refine wpList_app _ rfl (.tmp 121) (.tmp 123) 165 rfl 262 iO (.pointer none) 1 8 zago hiO hzO hsO hbO rfl (by decide) (.slice oo j ko) j xs (by rfl) HX.out ⟨wC.heap.size,0,none⟩ 1 [.pointer (some ⟨ok',0,none⟩)] (by rfl) rfl HCA.out (zuh _) (by omega) (by unfold maxLen;omega) ?_;intro gg cap w4' hO hW;obtain⟨e11,ef,HP,HP2⟩:=HA.out gg cap w4' hO hW)
   |fail)
  go_roundw;case rel=>exact⟨j+1,by simp,by omega,HP,HP2⟩
  case measure=>simp[RowKit.intOf];omega
 have hjl:j=S:=by omega
 have hlj:¬(j:Int)<S:=by omega
 rw[hjl]at HOw
 obtain⟨ob,oy,l2,cs,oo,ko,xs,hR,hcs,h10,⟨curL,hl1,hl2'⟩,hxs,hoy⟩:=HOw.out;obtain⟨osB,ok,curO,e1,e2,e3,e4⟩:=hR.row.cells (by omega);have hoo:oo=some ⟨osB,0,none⟩/\ko=ok:=by
  simp only[Value.slice.injEq]at e1;exact⟨e1.1,e1.2.2⟩
 obtain⟨rfl,rfl⟩:=hoo;have hcs2:cs=mcl2 ⟨(nl:Int),(S:Int),x,q⟩ dk f tb wb ab lr pr gb (.slice (some ⟨lsB,0,none⟩) nl k) (.slice (some ⟨osB,0,none⟩) S ko) (.slice none 0 0):=by
  refine zrl hR.sz h10 hR.atJ ?_ fun t t1 t2 t3=> ?_
  .rw[hcs 13 (by decide) (by decide),HMA2.out];rfl
  rw[hcs t t1 t2,HMA2.out]
 have HSA:Hid (Calls prog 157 #[.pointer (some ⟨mb,0,none⟩)] wr fun e w'=>(∃v,e=.returned v)/\Hid (∃Z:Lay,Z.z.mb=mb/\MaM w0 w' ⟨(nl:Int),(S:Int),x,q⟩ (txs ts) Z ms0/\Z.nr=0)):=by
  refine Calls.mono (ztc (lsB:=lsB) (osB:=osB) (cs0:=cs) hR.bd hR.box hR.sz (by rw[hcs2];rfl) h10 hR.atJ hl1 hl2' e2 (fun t ht=>by rw[e4 t ht];exact hxs t ht) (by omega) (by omega)) ?_;rintro e w'⟨he,hSE⟩;exact⟨he,zack (c:=⟨(nl:Int),(S:Int),x,q⟩) (Y:=⟨g,lb,w2.heap.size,ts,fmb⟩) HM.out hSE hcs2 HCap.out e3 hoy rfl q5fe q5de q5ga q5wa q5li q5pa q5re⟩
 clear hR hcs h10 hl1 hl2' hxs hoy e1 e2 e3 e4 hcs2 HOw HOw0 HGr HFr hj hjl hjn HCap curL curO;go_wp2_with fail
 refine Calls.mono HSA.out ?_;rintro e wF⟨⟨_,rfl⟩,HZf⟩;clear HSA;go_wp2;go_ret2;obtain⟨Z,z1,z2,z3⟩:=HZf.out;exact⟨Z,by rw[z1];rfl,z2,z3⟩
end Ap
end Go.Proofs.YtojjdnjfaelnfaaGreatDoor
