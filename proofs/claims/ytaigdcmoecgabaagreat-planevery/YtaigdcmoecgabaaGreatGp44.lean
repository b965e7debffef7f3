/- Contracts and lemmas. -/
import Derived.Test.YtaigdcmoecgabaaGreatGp42
import Derived.Test.YtaigdcmoecgabaaGreatGp43
namespace Go.Proofs.YtaigdcmoecgabaaGreat
set_option linter.unusedSimpArgs false
set_option linter.unusedVariables false
section
open Go.ChangeShapes Go.WideShapes Go.ChangeAt Go.RowKit Go.Lib Go.Maps Go.Proofs.Tryz
section
variable{w0 w w':World}{p:Nat}{c:Cf}{T:List Tx}{Z:Lay}{s:Ms}
theorem zjl{fn:Func}{p q:Tmp}{ty:TypeId}(h:fn.results= #[.cell p ty,.tmp q])(tmps:Array Value)(P:Program)(w:World)(g:Nat)(v:Value)(hp:tmps.getD p undef=.pointer (some ⟨g,0,none⟩))(hld:(loadVar ty ⟨g,0,none⟩).run P w=.ok v w) :
  (results fn tmps).run P w=.ok (.tuple #[v,tmps.getD q undef]) w:=by
 simp only[results,h];simp[Sem.run_bind,Result.andThen,<-Array.getD_eq_getD_getElem?,hp,asAddr,hld]
end
section
variable{w0 w w':World}{p:Nat}{c:Cf}{T:List Tx}{Z:Lay}{s:Ms}
end
section
variable{w0 w w':World}{p:Nat}{c:Cf}{T:List Tx}{Z:Lay}{s:Ms}
def zbj(T:List Tx)(fd:Nat)(n:Int):Nat:=if n<fd\/(T.length:Int)<n then fd else n.toNat
theorem MaM.moreF(h:MaM w0 w c T Z s)(n:Int):Calls prog 54 #[.pointer (some ⟨Z.z.fb,0,none⟩),.int .i64 n] w fun e w'=>(∃v,e=.returned v/\∃k:Int,v=.int .i64 k)/\Dn w0 c T w Z s w' {Z with v:=Z.v,hw:=Z.hw} {s with fd:=zbj T s.fd n}:=by
 have hfe:=h.fe;have hm:=hfe.m;have hlen:T.length=Z.y.ts.length:=by rw[<-h.log,zaf]
 refine (F.fMore_any hm n).mono ?_;rintro e w'⟨rfl,k1,k2⟩;have hms:(⟨s.rd,s.fd,c.w.toNat,s.hv,false⟩:F.Fe).moreS Z.y.ts.length n=⟨s.rd,zbj T s.fd n,c.w.toNat,s.hv,false⟩:=by
  unfold F.Fe.moreS F.Fe.moreC zbj;rw[hlen];simp only[Bool.false_eq_true,if_false];split
  .rw[if_neg (by decide)]
  rw[if_pos rfl]
 rw[hms]at k1
 refine⟨⟨_,rfl,_,rfl⟩,?_⟩;have hd:=h.setFe k2 (fun b hb _=> ?_) (v':=Z.v) (hw':=Z.hw) (rd:=s.rd) (fd:=zbj T s.fd n) (hv:=s.hv) (k:=s.k) ⟨k1,hfe.f0,hfe.g0,hfe.l0,hfe.m0,hfe.t0,Nat.le_trans hfe.b0 k2.size,fun k hk=>⟨(hfe.h0 k hk).1,Nat.lt_of_lt_of_le (hfe.h0 k hk).2 k2.size⟩,hfe.hB⟩ (fun b hb=>Or.inl hb) (Nat.le_refl _)
 .exact hd
 rw[List.mem_singleton.1 hb];exact Or.inl ⟨hm.fn,hfe.f0⟩
theorem zyz(h:RP w0 w p c T Z s)(n:Int):Calls prog 23 #[.pointer (some ⟨p,0,none⟩),.int .i64 n] w fun e w'=>(∃v,e=.returned v)/\Dn w0 c T w Z s w' {Z with v:=Z.v,hw:=Z.hw} {s with fd:=zbj T s.fd n}:=by
 have HT:Hid (Calls ..):=zjk h;have c0:=h.c0;have c5:w.cell? ⟨Z.z.mb,5,none⟩=some (.pointer (some ⟨Z.z.fb,0,none⟩)):=h.m.mc rfl;have HM:Hid (Calls ..):=h.m.moreF n;clear h;go_enter func23,ntmps23;go_wp2_with fail
 refine Calls.mono HT.out ?_;rintro e w1⟨rfl,rfl⟩;go_wp2_with fail
 refine Calls.mono HM.out ?_;rintro e w1⟨⟨_,rfl,k,rfl⟩,hD⟩;have HD:Hid (Dn _ _ _ _ _ _ _ _ _):=hD;clear hD;go_wp2;go_ret;exact⟨⟨_,rfl⟩,HD.out⟩
theorem Wf.feed(h:Wf c T s)(n:Int):Wf c T {s with fd:=zbj T s.fd n}:=by
 have hf:=h.fdl;have h1:s.fd<=zbj T s.fd n/\zbj T s.fd n<=T.length:=by
  unfold zbj;split<;>omega
 exact {h with fdl:=⟨by show s.rd<=zbj T s.fd n;omega,h1.2⟩}
end
def ms0:Ms:=⟨0,false,0,0,fun _=>False,0,[],fun _=>False,[],[],fun _=>none,fun _=>[],fun _ _=>[],0⟩
theorem zqy(T:List Tx)(n:Int):¬Opn T ms0 n:=fun h=>by
 have:=(op_iff.1 h).1;have e:ms0.d=0:=rfl;rw[e]at this
 omega
theorem Wf.zero{c:Cf}{T:List Tx}(hm:c.may)(hok:okL 1 T):Wf c T ms0:=by
 refine⟨hm,hok,fun _=>rfl,fun h=>(by cases h),⟨Nat.le_refl _,Nat.zero_le _⟩,?_,fun n=> ?_,fun n h=>h.elim,?_,fun n=>⟨fun h=>h.elim,fun h=>(zqy T n h.1).elim⟩,fun n h=>(by cases h),fun n h=>(by cases h),fun i h hi hl=>(by cases hl),fun n h=>(zqy T n h).elim,List.nodup_nil,List.nodup_nil,fun n h=>(by cases h),fun i h hi hl=>(by cases hl),fun i j h g hi hj hl=>(by cases hl),fun i h hi hl=>(by cases hl),fun i h hi hl=>(by cases hl),fun j e hj he=>(by cases he),fun j hj=>List.Pairwise.nil,fun j e hj he=>(by cases he),fun j hj=> ?_,fun j k v hj hv=>(by cases hv),fun n h j k v hj hv=>(by cases hv),fun n h=> ?_,fun j k=> ?_⟩
 .exact⟨⟨Int.le_refl _,by show (0:Int)<=65536;omega,List.Pairwise.nil,fun x hx=>(by cases hx)⟩,fun h=>(by cases h)⟩
 .constructor
  .exact fun h=>h.elim
  rintro⟨h1,h2|h2⟩
  .have e:ms0.ma=0:=rfl;rw[e]at h2
   omega
  cases h2
 .have:=hm.2.2.1;show ((0:Nat):Int)<=0+c.w;omega
 .have:=hm.2.2.2;show (([]:List Qe).length:Int)<=c.q;simp only[List.length_nil];omega
 .rcases h with h|h
  .cases h
  exact h.elim
 exact⟨fun x hx=>(by cases hx),List.Pairwise.nil⟩
end
namespace Ap
open Go.ChangeShapes Go.WideShapes Go.ChangeAt Go.RowKit Go.Lib Go.Maps Go.Proofs.Tryz
section
variable{w0 w w':World}{c:Cf}{Q Q':Ix->Part}{la:Nat->Nat}{nl:Nat}{ob:Nat->Nat}{oy:Nat->Oy}{no:Nat}{l:List (Nat×Obj)}
theorem Bd.start(h:Bd w0 w c Q la nl ob oy no [])(hf:Fr [] w w')(hs:∀j,j≠ .de->j≠ .wa->Q' j=Q j)(hok:(Q' .de).Ok w0/\(Q' .wa).Ok w0)(hm:(Q' .de).M w'/\(Q' .wa).M w')(hO:(∀b,(Q' .de).O w' b->w.heap.size<=b)/\∀b,(Q' .wa).O w' b->w.heap.size<=b){mb:Nat}{o:Obj}(hb:w'.heap[mb]? = some o)(hbn:w.heap.size<=mb)(h1:∀b,(Q' .de).O w' b->¬(Q' .wa).O w' b)(h2:¬(Q' .de).O w' mb)(h3:¬(Q' .wa).O w' mb):Bd w0 w' c Q' la nl ob oy no [(mb,o)]:=by
 have h0:w0.heap.size<=w.heap.size:=(Mach.fr h).size;have hin:∀b,(∃p∈[(mb,o)],p.1=b)->b=mb:=fun b ⟨p,hp,e⟩=>by rw[List.mem_singleton.1 hp]at e;exact e.symm
 refine (Mach.step (P':=bQ w0 c Q' la nl ob oy no [(mb,o)]) h (fun i=>i=.st\/i=.de\/i=.wa) hf (by simp) (fun j hj=> ?_) (fun j hj=> ?_) (fun j hj=> ?_) (fun j hj b hb=> ?_) (fun i j b hi hj hbi hbj=> ?_)).1
 .cases j<;>first|rfl|exact absurd (Or.inl rfl) hj|exact absurd (Or.inr (Or.inl rfl)) hj|exact absurd (Or.inr (Or.inr rfl)) hj|exact hs _ (by simp) (by simp)
 .rcases hj with rfl|rfl|rfl
  .exact zqu _ _
  .exact hok.1
  exact hok.2
 .rcases hj with rfl|rfl|rfl
  .intro p hp;rw[List.mem_singleton.1 hp];exact⟨hb,by show w0.heap.size<=mb;omega⟩
  .exact hm.1
  exact hm.2
 .refine Or.inr ?_;rcases hj with rfl|rfl|rfl
  .rw[hin b hb];exact hbn
  .exact hO.1 b hb
  exact hO.2 b hb
 rcases hi with rfl|rfl|rfl<;>rcases hj with rfl|rfl|rfl
 .rfl
 .rw[hin b hbi]at hbj;exact absurd hbj h2
 .rw[hin b hbi]at hbj;exact absurd hbj h3
 .rw[hin b hbj]at hbi;exact absurd hbi h2
 .rfl
 .exact absurd hbj (h1 b hbi)
 .rw[hin b hbj]at hbi;exact absurd hbi h3
 .exact absurd hbi (h1 b hbj)
 rfl
structure Rw(w0 w:World)(c:Cf)(Q:Ix->Part)(la:Nat->Nat)(nl:Nat)(ob:Nat->Nat)(oy:Nat->Oy)(no:Nat)(mb:Nat)(cs:Array Value)(J:Nat)(e:TypeId)(v:Value)(n:Nat)(xs:List Value)(l:List (Nat×Obj)):Prop where
 bd:Bd w0 w c Q la nl ob oy no l
 box:(mb,Obj.cells cs 111 (0,0))∈l
 sz:cs.size=19
 atJ:cs[J]? = some v
 row:RowL l e v n xs
variable{mb:Nat}{cs:Array Value}{J:Nat}{e:TypeId}{o:Option Addr}{n k:Nat}{xs:List Value}
theorem Rw.quiet{v:Value}(h:Rw w0 w c Q la nl ob oy no mb cs J e v n xs l)(hf:Fr [] w w'):Rw w0 w' c Q la nl ob oy no mb cs J e v n xs l:=⟨h.bd.quiet hf,h.box,h.sz,h.atJ,h.row⟩
theorem Rw.cJ{v:Value}(h:Rw w0 w c Q la nl ob oy no mb cs J e v n xs l):w.cell? ⟨mb,J,none⟩=some v:=by rw[h.bd.cell h.box];exact h.atJ
theorem Rw.step(h:Rw w0 w c Q la nl ob oy no mb cs J e (.slice o n k) n xs l)(he:e≠111)(hJ:J<19){u:Value} :
  ∀W g cap w',Fr [] w W->w'.ownsRow 0 e 1 (.slice (some ⟨g,0,none⟩) (n+1) cap) (n+1) (xs++[u])->Went W (.slice o n k) g w' ->
   w'.cell? ⟨mb,J,none⟩=some (.slice o n k)/\w'.frozen? ⟨mb,J,none⟩=false /\
   Hid (∃l' cs',Rw w0 (w'.setCell ⟨mb,J,none⟩ (.slice (some ⟨g,0,none⟩) (n+1) cap)) c Q la nl ob oy no mb cs' J e (.slice (some ⟨g,0,none⟩) (n+1) cap) (n+1) (xs++[u]) l'/\(∀j,j≠J->cs'[j]? = cs[j]?)/\∀b ds t,t≠e->t≠111->(b,Obj.cells ds t (0,0))∈l->(b,Obj.cells ds t (0,0))∈l'):=by
 intro W g cap w' hf hown hw;obtain⟨l2,h2,hr2,hk2⟩:=(h.bd.quiet hf).app h.row hown hw;have hm2:(mb,Obj.cells cs 111 (0,0))∈l2:=hk2 _ _ _ (fun x=>he x.symm) h.box;refine⟨by rw[h2.cell hm2];exact h.atJ,h2.free hm2 J,?_⟩;refine⟨_,_,⟨h2.set hm2 J _,zei _ _ _,by simpa using h.sz,?_,?_⟩,fun j hj=> ?_,fun b ds t ht1 ht2 hm=> ?_⟩
 .rw[Array.getElem?_setIfInBounds_self_of_lt (by rw[h.sz];omega)]
 .exact hr2.mono fun b cur hm=>zej hm (h2.same hm hm2 he)
 .rw[Array.getElem?_setIfInBounds_ne (fun e=>hj e.symm)]
 have hm':=hk2 _ _ _ ht1 hm;exact zej hm' (h2.same hm' hm2 ht2)
theorem zto(a:Option Addr):∀u∈[Value.pointer a],u.oneCell'=true:=by
 intro u hu;rw[List.mem_singleton]at hu
 subst hu;rfl
theorem Bd.fin{T:List Tx}{Z:Lay}(h:Bd w0 w c Q la c.l.toNat ob oy c.s.toNat l)(hla:Z.z.la=la)(hob:Z.z.ob=ob)(hoy:Z.o=oy)(hS:Z.S=fun _=>[])(hQ:Q .fe=mP w0 c T Z ms0 .fe/\Q .de=mP w0 c T Z ms0 .de/\Q .ga=mP w0 c T Z ms0 .ga/\Q .wa=mP w0 c T Z ms0 .wa/\Q .li=mP w0 c T Z ms0 .li/\Q .pa=mP w0 c T Z ms0 .pa/\Q .re=mP w0 c T Z ms0 .re)(hm:StM c Z.z w)(hown:∀b,St.own c Z.z b->∃q∈l,q.1=b)(hT:txs Z.y.ts=T)(hnd:Z.nd=0)(hnw:Z.nw=0)(hn:∀j,(Z.o j).n=0):MaM w0 w c T Z ms0:=by
 refine⟨(Mach.one (P':=mP w0 c T Z ms0) h .st (stP w0 c Z.z) (Fr.refl [] w) (by simp) (fun j hj=> ?_) rfl (zyf _ _ _) ⟨hm,fun b hb=> ?_⟩ (fun b hb=>Or.inl (hown b hb))).1,hT,Nat.zero_le _,by rw[hnd];exact Nat.zero_le _,by rw[hnw];exact Nat.zero_le _,fun j _=>by rw[hn j];exact Nat.zero_le _⟩
 .obtain⟨q1,q2,q3,q4,q5,q6,q7⟩:=hQ;cases j with
  |st=>exact absurd rfl hj
  |fe=>exact q1.symm
  |de=>exact q2.symm
  |ga=>exact q3.symm
  |wa=>exact q4.symm
  |li=>exact q5.symm
  |pa=>exact q6.symm
  |re=>exact q7.symm
  |la i=>simp only[mP,bQ,hla,hS];rfl
  |ow i=>simp only[mP,bQ,hob,hoy];rfl
 obtain⟨q,hq,e⟩:=hown b hb;rw[<-e];exact (h.ls q hq).2
end
open Classical in
noncomputable def setQ (Q:Ix->Part) (i:Ix) (p:Part):Ix->Part:=fun j=>if j=i then p else Q j
theorem zbf(Q:Ix->Part)(i:Ix)(p:Part):setQ Q i p i=p:=if_pos rfl
theorem zak(Q:Ix->Part){i j:Ix}(p:Part)(h:j≠i):setQ Q i p j=Q j:=if_neg h
theorem zajf{w0 w:World}{c:Cf}{f g lb L fmb:Nat}{ts:List Tm}{v:Value}(h:F.FdM w0 w f g lb L ts v [] fmb [] ⟨0,0,c.w.toNat,false,false⟩ (.slice none 0 0)):FeM w0 w c f ⟨g,lb,w.heap.size,ts,fmb⟩ v (.slice none 0 0) 0 0 false:=by
 have hs:=h.src;have hL:L=ts.length:=hs.len;subst hL;refine⟨h,h.lt,hs.lt,lt_of_block hs.log,h.mlt,fun t ht k e=> ?_,Nat.le_refl _,fun k e=>(by cases e),fun k e=>(by cases e)⟩;obtain⟨k',e1,_,_,_,e5,_⟩:=hs.each t ht;rw[e]at e1
 cases e1;exact lt_of_block e5
def mcl2(c:Cf)(dk:Option Addr)(f tb wb ab lr pr gb:Nat)(v10 v11 v13:Value):Array Value:=#[.int .i64 c.l,.int .i64 c.s,.int .i64 c.w,.int .i64 c.q,.pointer dk,.pointer (some ⟨f,0,none⟩),.pointer (some ⟨tb,0,none⟩),.map (some wb),.pointer (some ⟨lr,0,none⟩),.pointer (some ⟨pr,0,none⟩),v10,v11,.pointer (some ⟨gb,0,none⟩),v13,.slice none 0 0,.int .i64 0,.map (some ab),.bool false,.bool false]
theorem zagb(c:Cf)(dk:Option Addr)(f tb wb ab lr pr gb:Nat):(((Mk.mcl c dk f tb wb ab).setIfInBounds 8 (.pointer (some ⟨lr,0,none⟩))).setIfInBounds 9 (.pointer (some ⟨pr,0,none⟩))).setIfInBounds 12 (.pointer (some ⟨gb,0,none⟩))=mcl2 c dk f tb wb ab lr pr gb (.slice none 0 0) (.slice none 0 0) (.slice none 0 0):=rfl
theorem zrb{cs:Array Value}{c:Cf}{dk:Option Addr}{f tb wb ab lr pr gb:Nat}{v10 v11 v13:Value}(hz:cs.size=19)(h10:cs[10]? = some v10)(h11:cs[11]? = some v11)(h13:cs[13]? = some v13)(h:∀j,j≠10->j≠11->j≠13->cs[j]? = (mcl2 c dk f tb wb ab lr pr gb (.slice none 0 0) (.slice none 0 0) (.slice none 0 0))[j]?):cs=mcl2 c dk f tb wb ab lr pr gb v10 v11 v13:=by
 refine Array.ext_getElem? fun j=> ?_;by_cases hj:j<19
 .by_cases h1:j=10
  .subst h1;rw[h10];rfl
  by_cases h2:j=11
  .subst h2;rw[h11];rfl
  by_cases h3:j=13
  .subst h3;rw[h13];rfl
  rw[h j h1 h2 h3];have:j=0\/j=1\/j=2\/j=3\/j=4\/j=5\/j=6\/j=7\/j=8\/j=9\/j=12\/j=14\/j=15\/j=16\/j=17\/j=18:=by omega
  rcases this with rfl|rfl|rfl|rfl|rfl|rfl|rfl|rfl|rfl|rfl|rfl|rfl|rfl|rfl|rfl|rfl<;>rfl
 rw[Array.getElem?_eq_none (by omega),Array.getElem?_eq_none (by show 19<=j;omega)]
section
variable{w0 w:World}{c:Cf}{T:List Tx}{Q:Ix->Part}{la ob:Nat->Nat}{oy:Nat->Oy}{mb lsB osB:Nat}{cs0:Array Value}
theorem zacb{dk:Option Addr}{f tb wb ab lr pr gb lk ok:Nat}{Y:Ly}{v:Value}{B:List Nat}(hc:c.may)(h:SaE w0 c Q la c.l.toNat ob oy c.s.toNat mb lsB osB cs0 w)(h0:cs0=mcl2 c dk f tb wb ab lr pr gb (.slice (some ⟨lsB,0,none⟩) c.l.toNat lk) (.slice (some ⟨osB,0,none⟩) c.s.toNat ok) (.slice none 0 0))(hlk:c.l.toNat<=lk)(hok:c.s.toNat<=ok)(hoy:∀j,(oy j).n=0)(hT:txs Y.ts=T)(q1:Q .fe=feP w0 c f Y v (.slice none 0 0) 0 0 false)(q2:Q .de=deP w0 tb B 0 [] (fun _=>False))(q3:Q .ga=gaP w0 gb 0 [])(q4:Q .wa=waP w0 wb 0 T (fun _=>0) (fun _=>False))(q5:Q .li=liP w0 lr none c.w.toNat T (fun _=>0) [])(q6:Q .pa=paP w0 pr none c.w.toNat [])(q7:Q .re=reP w0 T (fun _=>0) 0) :
  ∃Z:Lay,Z.z.mb=mb/\MaM w0 w c T Z ms0/\Z.nr=0:=by
 obtain⟨l,cs,xs,so,k,kd,kw,kk,kg,hS,hF,hg⟩:=h;have hrow:=hS.row;obtain⟨orB,orC,cur,e1,e2,e3,e4⟩:=hrow.cells (by omega);cases e1;have hlen:=hF.len;have hcs:cs=mcl2 c dk f tb wb ab lr pr gb (.slice (some ⟨lsB,0,none⟩) c.l.toNat lk) (.slice (some ⟨osB,0,none⟩) c.s.toNat ok) (.slice (some ⟨orB,0,none⟩) (1+c.l.toNat+c.s.toNat+1) k):=by
  refine zrb hS.sz ?_ ?_ hS.at13 fun j h1 h2 h3=> ?_
  .rw[hF.hc 10 (by decide),h0];rfl
  .rw[hF.hc 11 (by decide),h0];rfl
  rw[hF.hc j h3,h0];by_cases hj:j<19
  .have:j=0\/j=1\/j=2\/j=3\/j=4\/j=5\/j=6\/j=7\/j=8\/j=9\/j=12\/j=14\/j=15\/j=16\/j=17\/j=18:=by omega
   rcases this with rfl|rfl|rfl|rfl|rfl|rfl|rfl|rfl|rfl|rfl|rfl|rfl|rfl|rfl|rfl|rfl<;>rfl
  rw[Array.getElem?_eq_none (by show 19<=j;omega),Array.getElem?_eq_none (by show 19<=j;omega)]
 obtain⟨curL,l1,l2⟩:=hF.lr;obtain⟨curO,o1,o2⟩:=hF.wr;have en:1+c.l.toNat+c.s.toNat+1=c.l.toNat+c.s.toNat+2:=by omega
 rw[en]at hcs e3 e4
 let Z:Lay:=⟨⟨mb,f,tb,gb,wb,lr,pr,ab,lsB,osB,orB,lk,ok,k,kd,kg,la,ob,kw,kk,dk⟩,Y,v,.slice none 0 0,B,none,none,fun _=>0,fun _=>[],oy,0,0,0⟩
 have hm:StM c Z.z w:=by
  refine⟨hc,?_,⟨curL,hS.bd.at l1,l2⟩,⟨curO,hS.bd.at o1,o2⟩,⟨cur,hS.bd.at e2,fun i hi=> ?_⟩,hS.bd.at hF.hd,fun i hi=>hS.bd.at (hF.hw i hi),fun j hj=>hS.bd.at (hF.hk j hj),?_,hlk,hok,e3⟩
  .have:=hS.bd.at hS.box;rw[hcs]at this
   exact this
  .rw[e4 i (by omega)];by_cases hi2:i<1+c.l.toNat+c.s.toNat
   .rw[List.getElem?_append_left (by omega),hF.ht i hi2];simp only[tv,zbn];by_cases h1:i=0
    .rw[if_pos h1,if_pos h1]
    rw[if_neg h1,if_neg h1];by_cases h2:i<=c.l.toNat
    .rw[if_pos h2,if_pos h2]
    rw[if_neg h2,if_neg h2,if_pos (by omega)]
   have hi3:i=1+c.l.toNat+c.s.toNat:=by omega
   rw[List.getElem?_append_right (by omega),hlen,hi3,Nat.sub_self];simp only[zbn];rw[if_neg (by omega),if_neg (by omega),if_neg (by omega)];rfl
  have:=hS.bd.at hg;have e5:1+c.l.toNat+c.s.toNat=c.l.toNat+c.s.toNat+1:=by omega
  rw[e5]at this
  exact this
 refine⟨Z,rfl,Bd.fin (Q:=Q) (la:=la) (ob:=ob) (oy:=oy) (l:=l) hS.bd rfl rfl rfl rfl ⟨q1,q2,q3,q4,q5,q6,q7⟩ hm (fun b hb=> ?_) hT rfl rfl hoy,rfl⟩;rcases hb with rfl|rfl|rfl|rfl|rfl|rfl|⟨i,hi,rfl⟩|⟨j,hj,rfl⟩
 .exact⟨_,hS.box,rfl⟩
 .exact⟨_,l1,rfl⟩
 .exact⟨_,o1,rfl⟩
 .exact⟨_,e2,rfl⟩
 .exact⟨_,hF.hd,rfl⟩
 .exact⟨_,hg,rfl⟩
 .exact⟨_,hF.hw i hi,rfl⟩
 exact⟨_,hF.hk j hj,rfl⟩
end
end Ap
section
open Go.ChangeShapes Go.WideShapes Go.ChangeAt Go.RowKit Go.Lib Go.Proofs.Tryz
section
variable{w0 w:World}{g lb L:Nat}{ts:List Tm}{v:Value}{qs:List Nat}
theorem zrd(h:F.Src w0 w g lb L ts v qs):Calls prog 83 #[.pointer (some ⟨g,0,none⟩)] w fun e w'=>e=.returned (.bool true)/\Fr [] w w':=by
 have HG:Hid (Calls ..):=F.get_no h 0 (Or.inl (by omega)) (by omega);clear h;go_enter func83,ntmps83;go_wp2_with fail
 refine Calls.mono HG.out ?_;rintro e w1⟨rfl,hf⟩;have HF:Hid (Fr [] w w1):=hf;clear hf;go_wp2;go_ret;exact⟨rfl,HF.out.then (Fr.alloc _ _ _)⟩
end
end
end Go.Proofs.YtaigdcmoecgabaaGreat
