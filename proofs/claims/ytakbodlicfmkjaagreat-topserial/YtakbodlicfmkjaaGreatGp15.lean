/- Contracts and lemmas. -/
import Derived.Test.YtakbodlicfmkjaaGreatGp13
import Derived.Test.YtakbodlicfmkjaaGreatGp14
set_option maxHeartbeats 4000000
set_option maxRecDepth 100000
set_option linter.unusedSimpArgs false
set_option linter.unusedVariables false
namespace Go.Proofs.YtakbodlicfmkjaaGreat.O
open Go.ChangeShapes Go.WideShapes Go.ChangeAt Go.RowKit Go.Lib Go.Maps
theorem zbs{a b:ByteArray}(h:a.data.toList=b.data.toList):a=b:=by
 cases a;cases b;simp only at h
 congr
 exact Array.toList_inj.1 h
def kl7(s:ByteArray):Lit:=.string s.data.toList
theorem zef{s t:ByteArray}(h:kl7 s=kl7 t):s=t:=zbs (by simpa[kl7]using h)
abbrev Pr:=ByteArray×ByteArray
def celE(x:Pr):List Value:=[.string x.1,.string x.2]
def celsE(ps:List Pr):List Value:=ps.flatMap celE
theorem zbg(ps:List Pr):(celsE ps).length=2*ps.length:=by
 induction ps with
 |nil=>rfl
 |cons p ps ih=>simp[celsE,celE]at *;omega
theorem Tryz.undEns:Tryz.prog.underlying 40=some (.slice 61):=by kernel_rfl
theorem Tryz.infoEn:(Tryz.prog.info? 61).map (fun i=>(i.zero,i.size,i.bytes))=some (some (.agg #[.string ⟨#[]⟩,.string ⟨#[]⟩]),2,32):=by kernel_rfl
theorem Tryz.infoEn':∃i,Tryz.prog.info? 61=some i/\i.zero=some (.agg #[.string ⟨#[]⟩,.string ⟨#[]⟩])/\i.size=2/\i.bytes=32:=by
 have h:=Tryz.infoEn;cases hi:Tryz.prog.info? 61 with
 |none=>rw[hi]at h;cases h
 |some i=>
  rw[hi]at h
  simp only[Option.map_some,Option.some.injEq,Prod.mk.injEq]at h;exact⟨i,rfl,h.1,h.2.1,h.2.2⟩
theorem owns_keepB{S:List Nat}{w w':World}{base:Nat}{e:TypeId}{size:Nat}{v:Value}{n:Nat}{xs:List Value}(h:w.ownsRow base e size v n xs)(hf:Fr S w w')(hn:∀k,v.ownBlock=some k->k∉S):w'.ownsRow base e size v n xs:=by
 refine⟨h.1,?_⟩;rcases h.2 with h0|⟨g,cap,cur,hv,hb,hg,hr⟩
 .exact Or.inl h0
 exact Or.inr ⟨g,cap,cur,hv,hb,hf.keep hg (hn g (by rw[hv];rfl)),hr⟩
theorem owns_cells{w:World}{base:Nat}{e:TypeId}{size:Nat}{v:Value}{n:Nat}{xs:List Value}(h:w.ownsRow base e size v n xs){k:Nat}(hk:v.ownBlock=some k):base<=k/\∃cur,w.heap[k]? = some (.cells cur e (0,0)):=by
 rcases h.2 with⟨rfl,_⟩|⟨g,cap,cur,rfl,hb,hg,hr⟩
 .simp[Value.ownBlock]at hk
 simp[Value.ownBlock]at hk
 subst hk;exact⟨hb,cur,hg⟩
theorem zhv(w:World)(x:Pr):∀(j:Nat)(u:Value),[Value.string x.1,Value.string x.2][j]? = some u->(w.alloc (.cells #[.string x.1,.string x.2] 61)).cell? ((⟨w.heap.size,0,none⟩:Addr).add j)=some u:=by
 intro j u hu;have hr:=heap_alloc_new w (.cells #[.string x.1,.string x.2] 61)
 match j,hu with
 |0,hu=>show World.cell? _ ⟨w.heap.size,0,none⟩=_;rw[crw hr];exact hu
 |1,hu=>show World.cell? _ ⟨w.heap.size,1,none⟩=_;rw[crw hr];exact hu
 |(j+2),hu=>simp at hu
theorem zhw(x:Pr):∀u∈[Value.string x.1,Value.string x.2],u.oneCell'=true:=by
 intro u hu;simp only[List.mem_cons,List.not_mem_nil,or_false]at hu;rcases hu with rfl|rfl<;>rfl
theorem zeg:∀(ps:List Pr)(t:Nat),t<ps.length*2->(celsE ps)[t]? = some ((celE ps[t/2]!)[t%2]!)
 | [],t,h=>by simp at h
 |p::ps,0,h=>by simp[celsE,celE]
 |p::ps,1,h=>by simp[celsE,celE]
 |p::ps,(t+2),h=>by
  have ih:=zeg ps t (by simp at h;omega);have e1:(t+2)/2=t/2+1:=by omega
  have e2:(t+2)%2=t%2:=by omega
  rw[e1,e2];have e3:(celsE (p::ps))[t+2]? = (celsE ps)[t]? :=by simp[celsE,celE]
  rw[e3,ih];simp
theorem zku(x:Pr):∀v∈celE x,v.oneCell'=true:=zhw x
structure EOut(w w':World)(ro:Option Addr)(N rc:Nat)(ps:List Pr):Prop where
 len:N=ps.length
 row:w'.ownsRow w.heap.size 61 2 (.slice ro N rc) N (celsE ps)
theorem own_base{w:World}{base base':Nat}{e:TypeId}{size:Nat}{v:Value}{n:Nat}{xs:List Value}(h:w.ownsRow base e size v n xs)(hb:base'<=base):w.ownsRow base' e size v n xs:=by
 refine⟨h.1,?_⟩;rcases h.2 with h0|⟨g,cap,cur,hv,hg,hr⟩
 .exact Or.inl h0
 exact Or.inr ⟨g,cap,cur,hv,by omega,hr⟩
theorem own_shape2{w:World}{base:Nat}{e:TypeId}{v:Value}{n:Nat}{xs:List Value}(h:w.ownsRow base e 2 v n xs):∃ao cap,v=.slice ao n cap:=by
 rcases h.2 with⟨rfl,h0⟩|⟨g,cap,_,rfl,_⟩
 .exact⟨none,0,by rw[h0]⟩
 exact⟨_,cap,rfl⟩
structure ERs(w:World)(ro:Option Addr)(ps:List Pr):Prop where
 few:ps.length<3518437208883
 lies:0<ps.length->∃g cur,ro=some ⟨g,0,none⟩/\w.heap[g]? = some (.cells cur 61 (0,0))/\cur.toList.take (ps.length*2)=celsE ps
theorem ERs.keep{w w':World}{ro:Option Addr}{ps:List Pr}(h:ERs w ro ps)(hf:Fr [] w w'):ERs w' ro ps:=
 ⟨h.few,fun h0=>by obtain⟨g,cur,e,hb,ht⟩:=h.lies h0;exact⟨g,cur,e,hf.keep hb (by simp),ht⟩⟩
theorem ers_of{w:World}{base:Nat}{ro:Option Addr}{N rc:Nat}{ps:List Pr}(h:w.ownsRow base 61 2 (.slice ro N rc) N (celsE ps))(hN:N=ps.length)(hf:ps.length<3518437208883):ERs w ro ps:=by
 refine⟨hf,fun h0=> ?_⟩;rcases h.2 with⟨_,h1⟩|⟨g,cap,cur,hv,_,hg,_,_,_,ht⟩
 .omega
 cases hv;exact⟨g,cur,rfl,hg,by rw[<-hN];exact ht⟩
def e0:Pr:=(⟨#[]⟩,⟨#[]⟩)
theorem zvj(ps:List Pr)(i:Nat)(h:i<ps.length):(celsE ps)[i*2]? = some (.string (ps.getD i e0).1)/\(celsE ps)[i*2+1]? = some (.string (ps.getD i e0).2):=by
 have a:=zeg ps (i*2) (by omega);have b:=zeg ps (i*2+1) (by omega);have e1:i*2/2=i:=by omega
 have e2:i*2%2=0:=by omega
 have e3:(i*2+1)/2=i:=by omega
 have e4:(i*2+1)%2=1:=by omega
 rw[e1,e2]at a
 rw[e3,e4]at b
 rw[a,b];simp[celE,List.getD,h]
theorem ERs.at{w:World}{ro:Option Addr}{ps:List Pr}(h:ERs w ro ps)(i:Nat)(hi:i<ps.length):∃g,ro=some ⟨g,0,none⟩/\w.cell? ⟨g,i*2,none⟩=some (.string (ps.getD i e0).1)/\w.cell? ⟨g,i*2+1,none⟩=some (.string (ps.getD i e0).2):=by
 obtain⟨g,cur,e,hb,ht⟩:=h.lies (by omega);obtain⟨a,b⟩:=zvj ps i hi;refine⟨g,e,?_,?_⟩
 .rw[crw hb,<-Array.getElem?_toList,<-a,<-ht,List.getElem?_take_of_lt (by omega)]
 rw[crw hb,<-Array.getElem?_toList,<-b,<-ht,List.getElem?_take_of_lt (by omega)]
theorem zot(ps qs:List Pr):celsE (ps++qs)=celsE ps++celsE qs:=by simp[celsE]
theorem ztd(ps:List Pr):∀u∈celsE ps,u.oneCell'=true:=by
 intro u hu;obtain⟨p,_,hp⟩:=List.mem_flatMap.1 hu;exact zku p u hp
structure ESl(w:World)(xo:Option Addr)(m:Nat)(rs:List Pr):Prop where
 len:m=rs.length
 lies:∀ad,xo=some ad->∀j u,(celsE rs)[j]? = some u->w.cell? (ad.add j)=some u
 none:xo=none->m=0
theorem run_append_noneB{P:Program}(w:World)(t ty e:TypeId)(i:TypeInfo)(size c base:Nat)(ht:P.underlying t=some (.slice e))(hi:P.info? e=some i)(v:Value)(n:Nat)(xs:List Value)(hown:w.ownsRow base e size v n xs) :
  (Builtin.append_ #[t,t] ty #[v,.slice none 0 c]).run P w=.ok v w:=by
 rcases hown.2 with⟨rfl,rfl⟩|⟨g,cap,cur,rfl,_,_,hnc,_⟩
 .simp[Builtin.append_,run_underlying ht,sizeOf,typeInfo,hi,Builtin.lenOf,Builtin.firstCells]
 simp[Builtin.append_,run_underlying ht,sizeOf,typeInfo,hi,Builtin.lenOf,Builtin.firstCells,hnc,storeCells]
theorem esl_new(w:World)(x:Pr):ESl (w.alloc (.cells #[.string x.1,.string x.2] 61)) (some ⟨w.heap.size,0,none⟩) 1 [x]:=
 ⟨rfl,fun ad e j u hu=>by cases e;exact zhv w x j u (by simpa[celsE,celE]using hu),fun h=>by cases h⟩
theorem wpList_appE(w:World){ops:Array Oper}{rest:List Oper}{o:Oper}{a:Act}{Q:Exit->Act->World->Prop}(hgd:o.guard=none)(s x:Operand)(ho:o.op=.call {callee:=.builtin .append,args:=#[s,x],argTypes:=#[40,40]})(base:Nat)(v:Value)(qs:List Pr)(hs:a.eval s=v)(hown:w.ownsRow base 61 2 v qs.length (celsE qs))(xo:Option Addr)(m c:Nat)(rs:List Pr)(hx:a.eval x=.slice xo m c)(hB:ESl w xo m rs)(hn:qs.length+m<3518437208884)(hbase:base<=w.heap.size)(h:∀bo n' cap' w',n'=(qs++rs).length->w'.ownsRow base 61 2 (.slice bo n' cap') n' (celsE (qs++rs))->Fr v.ownBlock.toList w w'->wpList Tryz.prog ops Q rest (a.put o.dst (.slice bo n' cap')) w'):wpList Tryz.prog ops Q (o::rest) a w:=by
 obtain⟨i0,hi,hz0,hz1,hz2⟩:=Tryz.infoEn';have hl:(celsE rs).length=m*2:=by rw[zbg,hB.len];omega
 have hmx:3518437208884<=maxLen:=by unfold maxLen;omega
 cases xo with
 |none=>
  refine wpList_plain hgd fun K hK=> ?_;obtain rfl:m=0:=hB.none rfl;have hrs:rs=[]:=List.eq_nil_of_length_eq_zero hB.len.symm;subst hrs;have hr:=run_append_noneB (P:=Tryz.prog) w 40 o.type 61 i0 2 c base Tryz.undEns hi v qs.length (celsE qs) hown;obtain⟨bo,cap',rfl⟩:=own_shape2 hown;unfold Oper.wp execOp;simp only[ho,resolve,invoke,builtin,Sem.run_bind,Sem.run_pure,Result.andThen_ok,List.map_toArray,List.map_cons,List.map_nil,hs,hx,hr];exact hK _ _ (h bo _ cap' w (by simp) (by simpa using hown) (Fr.refl _ _))
 |some ad=>
  refine wpList_append_own w hgd s x 40 ho base 61 i0 _ 2 32 Tryz.undEns hi hz0 hz1 hz2 rfl (by decide) v qs.length (celsE qs) hs hown ad m c (celsE rs) hx hl (hB.lies ad rfl) (ztd rs) (by omega) (by omega) hbase ?_;intro v' w' hown' hg' _;have hlen:(qs++rs).length=qs.length+m:=by rw[List.length_append,hB.len]
  obtain⟨bo,cap',rfl⟩:=own_shape2 hown';exact h bo _ cap' w' hlen.symm (by rw[zot];exact hown') (Fr.grown hg' (fun y hy _=>Option.mem_toList.2 hy))
def Inc(ps:List Pr):Prop:=ps.Pairwise fun a b=>Op.bytesLess a.1.toList b.1.toList=true
structure Is(E:ByteArray->Option ByteArray)(ps:List Pr):Prop where
 inc:Inc ps
 mem:∀p,p∈ps↔E p.1=some p.2
def inS(key en s:ByteArray):Bool:= !(Op.bytesLess s.toList key.toList)&&(en.toList==[]||Op.bytesLess s.toList en.toList)
theorem zkv(s:ByteArray):inS ⟨#[]⟩ ⟨#[]⟩ s=true:=by
 have hE0:(⟨#[]⟩:ByteArray).toList=[]:=(zbm _).2 rfl;unfold inS;rw[hE0];cases s.toList<;>simp[Op.bytesLess]
theorem sameEntries_any(ro ro':Option Addr)(N rc rc':Nat)(ps:List Pr)(w:World)(h1:ERs w ro ps)(h2:ERs w ro' ps)(hN:N=ps.length) :
  Calls Tryz.prog 11 #[.slice ro N rc,.slice ro' N rc'] w fun e w'=>e=.returned (.bool true)/\Fr [] w w':=by
 have HN:Hid (N=ps.length):=hN;have hNf:N<3518437208883:=by rw[hN];exact h1.few
 have HE:Hid (∀W,Fr [] w W->ERs W ro ps/\ERs W ro' ps):=fun W hf=>⟨h1.keep hf,h2.keep hf⟩;clear hN h1 h2;go_enter Tryz.func11,Tryz.ntmps11;go_wp2_with fail
 go_loopw [5] (fun ii wr=>∃(i:Nat),ii=.int .i64 i/\i<=N/\Fr [] w wr) (fun ii _=>N-(RowKit.intOf ii).toNat)
 case atStart=>exact⟨0,rfl,Nat.zero_le _,Fr.refl _ _⟩
 obtain⟨i,rfl,hiN,hFr⟩:=hrel;by_cases hi:i<N
 .have hi':i<ps.length:=by rw[<-HN.out];exact hi
  obtain⟨g,rfl,d0,d1⟩:=(HE.out _ hFr).1.at i hi';obtain⟨g',rfl,d2,d3⟩:=(HE.out _ hFr).2.at i hi';obtain⟨⟨k2,v2⟩,hyy⟩:∃y,y=ps.getD i e0:=⟨_,rfl⟩;rw[<-hyy]at d0 d1 d2 d3
  simp only at d0 d1 d2 d3;clear hyy;go_wp2_with fail
  go_quiet (fail)
  go_wp2;exact⟨⟨i+1,by simp,by omega,hFr.then (Fr.drewN _ _ _)⟩,by simp[RowKit.intOf];omega⟩
 go_wp2;go_ret;exact⟨rfl,hFr⟩
end Go.Proofs.YtakbodlicfmkjaaGreat.O
