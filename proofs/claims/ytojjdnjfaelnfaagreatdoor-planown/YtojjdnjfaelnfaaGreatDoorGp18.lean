/- Contracts and lemmas. -/
import Derived.Test.YtojjdnjfaelnfaaGreatDoorGp6
set_option maxHeartbeats 8000000
set_option maxRecDepth 100000
set_option linter.unusedSimpArgs false
set_option linter.unusedVariables false
namespace Go.Proofs.YtojjdnjfaelnfaaGreatDoor.F
open Go.ChangeShapes Go.WideShapes Go.ChangeAt Go.RowKit Go.Lib Go.Proofs.Tryz
theorem zqh{P:Program}(w:World)(dT sT ty elem:TypeId)(size g L dCap:Nat)(a:Addr)(sCap:Nat)(cur:Array Value)(t:TypeId)(cs:List Value)(hu:P.underlying dT=some (.slice elem))(hs:(P.info? elem).map (·.size)=some size)(hg:w.heap[g]? = some (.cells cur t (0,0)))(hn:cs.length=L*size)(hsrc:∀j v,cs[j]? = some v->w.cell? (a.add j)=some v)(hfit:cs.length=cur.size)(h1:∀v∈cs,v.oneCell'=true) :
  (Builtin.copy_ #[dT,sT] ty #[.slice (some ⟨g,0,none⟩) L dCap,.slice (some a) L sCap]).run P w=.ok (goInt L) (w.setRow g cs.toArray):=by
 have hl:=run_loadCells_list (P:=P) w a cs hsrc;have hst:=run_storeCells_at P g 0 t cs 0 cur w hg (by omega) h1;have hm:Nat.min L L=L:=Nat.min_self L;have hd:cur.toList.drop cs.length=[]:=by rw[hfit];simp
 cases hq:P.info? elem with
 |none=>simp[hq]at hs
 |some i=>
  have hi:i.size=size:=by simpa[hq]using hs
  simp[Builtin.copy_,run_underlying hu,Builtin.lenOf,Builtin.firstCells,sizeOf,typeInfo,hq,hi,<-hn,hl,hst,hd]
theorem zco{P:Program}(w:World)(dT sT ty elem:TypeId)(size:Nat)(d a:Option Addr)(dCap sCap:Nat)(hu:P.underlying dT=some (.slice elem))(hs:(P.info? elem).map (·.size)=some size) :
  (Builtin.copy_ #[dT,sT] ty #[.slice d 0 dCap,.slice a 0 sCap]).run P w=.ok (goInt 0) w:=by
 cases hq:P.info? elem with
 |none=>simp[hq]at hs
 |some i=>
  have hl:∀(x:Addr),(loadCells x 0).run P w=.ok #[] w:=fun x=>by simpa using run_loadCells_list (P:=P) w x [] (by simp)
  cases d<;>cases a<;>simp[Builtin.copy_,run_underlying hu,Builtin.lenOf,Builtin.firstCells,sizeOf,typeInfo,hq,storeCells,hl]
theorem zxt:(prog.info? 91).map (·.size)=some 3:=by kernel_rfl
theorem ziq{fn:Func}{p:Tmp}{t:TypeId}(h:fn.results= #[.cell p t])(tmps:Array Value)(P:Program)(w:World) :
  (results fn tmps).run P w=((asAddr (tmps.getD p undef)).run P w).andThen fun a w₁=>(loadVar t a).run P w₁:=by
 simp only[results,h];simp[Sem.run_bind,Result.andThen]
theorem _root_.Go.Proofs.YtojjdnjfaelnfaaGreatDoor.WRs.src{w:World}{b off:Nat}{ws:List Wt}(h:WRs w (some ⟨b,off,none⟩) ws)(h0:0<ws.length):∀j u,(wtsC ws)[j]? = some u->w.cell? ((⟨b,off,none⟩:Addr).add j)=some u:=by
 intro j u hj;obtain⟨b',off',e,_,hc⟩:=h.lies h0;cases e;have hlt:j<ws.length*3:=by have:=(List.getElem?_eq_some_iff.1 hj).1;rwa [zek]at this
 have hi:j/3<ws.length:=by omega
 have hr:j%3<3:=Nat.mod_lt _ (by omega);have hjj:j/3*3+j%3=j:=by omega
 have h1:=zkl ws (j/3) (j%3) hi hr;rw[hjj,hj]at h1
 have hA:=hc (j/3) hi;rw[Addr.add_lit];have hcase:j%3=0\/j%3=1\/j%3=2:=by omega
 rcases hcase with h2|h2|h2
 .rw[h2]at h1
  have e1:off+j=off+j/3*3:=by omega
  rw[e1,hA.c0];simpa[wtC]using h1.symm
 .rw[h2]at h1
  have e1:off+j=off+j/3*3+1:=by omega
  rw[e1,hA.c1];simpa[wtC]using h1.symm
 rw[h2]at h1
 have e1:off+j=off+j/3*3+2:=by omega
 rw[e1,hA.c2];simpa[wtC]using h1.symm
theorem zlk(n:Int)(ao:Option Addr)(L cap:Nat)(ws:List Wt)(w:World)(ht:TArg w n ao L cap ws)(hL:L<=32) :
  Calls prog 122 #[.agg #[.int .i64 n,.slice ao L cap]] w fun e w'=>∃k,e=.returned (.agg #[.int .i64 n,.slice (some ⟨k,0,none⟩) L L])/\w.heap.size<=k/\w'.heap[k]? = some (.cells (wtsC ws).toArray 91 (0,0))/\Fr [] w w':=by
 have HL:Hid (L=ws.length):=ht.len;obtain⟨iW,hiW,hzW,hsW⟩:=zsr zaia;have hbW:iW.bytes<=64:=by have:=zaev;rw[hiW]at this;simpa using this
 obtain⟨w0,HW0⟩:∃w0,Hid ((w.alloc (.cells #[.int .i64 n,.slice ao L cap] 108)).alloc (.cells #[.int .i64 0,.slice none 0 0] 108)=w0):=⟨_,rfl⟩;have hF0:Fr [] w w0:=by rw[<-HW0.out];exact (Fr.alloc [] w _).then (Fr.alloc [] _ _)
 have hP0:B2 w0 w.heap.size (.int .i64 n) (.slice ao L cap):=⟨by rw[<-HW0.out];exact (Below.heap_alloc _ _ _ (by simp)).trans (heap_alloc_new w _)⟩;have hT0:B2 w0 (w.heap.size+1) (.int .i64 0) (.slice none 0 0):=⟨by rw[<-HW0.out];have:=heap_alloc_new (w.alloc (.cells #[.int .i64 n,.slice ao L cap] 108)) (.cells #[.int .i64 0,.slice none 0 0] 108);rw[World.size_alloc]at this;exact this⟩;have hs0:w.heap.size+2<=w0.heap.size:=by rw[<-HW0.out];simp
 obtain⟨p0,p1⟩:_/\_:=⟨hP0.c0,hP0.c1⟩;have hW0:=ht.rs.keep hF0;go_enter func122,ntmps122;go_upto_region 1 with fail
 rw[HW0.out];clear HW0;go_wp2_with (at_make;refine wpList_make_full _ rfl (.tmp 6) (.tmp 6) 87 rfl 0 91 iW _ 3 zvn hiW hzW hsW .i64 .i64 L L L rfl rfl rfl rfl ?b2 ?b3 ?b4 ?_)
 case b2=>have:iW.bytes*L<=64*32:=Nat.mul_le_mul hbW hL;omega
 case b3=>unfold maxLen;omega
 case b4=>exact Nat.zero_le _
 intro w1 hown hgrow;obtain⟨R0,hR0,hM0⟩:=zabd hown;have hF1:Fr [] w0 w1:=Fr.grown (S:=[]) hgrow (by simp);obtain⟨k,hk⟩:∃k,k=w0.heap.size:=⟨_,rfl⟩;have hk0:w.heap.size+2<=k:=by omega
 rw[<-hk]at hM0 ⊢
 have hrow1:w1.heap[k]? = some (.cells R0.toArray 91 (0,0)):=by have:=hM0.box;simpa[wtsC]using this
 have hP1:=hP0.keep hF1;have hT1:=hT0.keep hF1;have hW1:=hW0.keep hF1;have hG1:=hF0.then hF1;obtain⟨q0,q1⟩:_/\_:=⟨hP1.c0,hP1.c1⟩;clear hown hgrow hM0 hk p0 p1 hP0 hT0 hW0 hF0 hF1;by_cases h0:0<L
 .obtain⟨b,off,e1,_,_⟩:=hW1.lies (by have:=HL.out;omega);subst e1;have hcp:=zqh (P:=prog) w1 87 87 3 91 3 k L L ⟨b,off,none⟩ cap R0.toArray 91 (wtsC ws) zvn zxt hrow1 (by rw[zek,HL.out]) (hW1.src (by have:=HL.out;omega)) (by rw[zek,<-HL.out];simp[hR0]) (zim ws);have hrow2:=setRow_heap w1 k R0.toArray (wtsC ws).toArray 91 (0,0) hrow1;have hF2:=Fr.setRow w1 k (wtsC ws).toArray;obtain⟨w2,HW2⟩:∃w2,Hid (w1.setRow k (wtsC ws).toArray=w2):=⟨_,rfl⟩;rw[HW2.out]at hcp hrow2 hF2
  have hP2:=hP1.keepS hF2 (by simp;omega);have hT2:=hT1.keepS hF2 (by simp;omega);obtain⟨r0,r1,s0,s1,s2,s3⟩:_/\_/\_/\_/\_/\_:=⟨hP2.c0,hP2.c1,hT2.c0,hT2.c1,hT2.f0,hT2.f1⟩;have hG2:=hG1.on hF2 (by intro x hx;simp at hx;omega);have hF3:=Fr.box2 w2 (w.heap.size+1) (.int .i64 n) (.slice (some ⟨k,0,none⟩) L L);have HF:Hid (_/\_):=⟨hF3.keep hrow2 (by simp;omega),hG2.on hF3 (by intro x hx;simp at hx;omega)⟩;clear hP2 hT2 hG2 hF3 hrow2 hF2 HW2 hP1 hT1 hW1 hG1 hrow1;go_wp2_with fail
  refine bodyPost_ret (v:=.agg #[.int .i64 n,.slice (some ⟨k,0,none⟩) L L]) (by rw[ziq rfl];go_simp) rfl ⟨k,rfl,by omega,HF.out⟩
 have hL0:L=0:=by omega
 subst hL0;have hws:ws=[]:=List.eq_nil_of_length_eq_zero HL.out.symm;subst hws;have hR00:R0=[]:=List.eq_nil_of_length_eq_zero (by omega);subst hR00;have hcp:=zco (P:=prog) w1 87 87 3 91 3 (some ⟨k,0,none⟩) ao 0 cap zvn zxt;obtain⟨s0,s1,s2,s3⟩:_/\_/\_/\_:=⟨hT1.c0,hT1.c1,hT1.f0,hT1.f1⟩;have hF3:=Fr.box2 w1 (w.heap.size+1) (.int .i64 n) (.slice (some ⟨k,0,none⟩) 0 0);have HF:Hid (_/\_):=⟨hF3.keep hrow1 (by simp;omega),hG1.on hF3 (by intro x hx;simp at hx;omega)⟩;clear hF3 hP1 hT1 hW1 hG1 hrow1;go_wp2_with fail
 refine bodyPost_ret (v:=.agg #[.int .i64 n,.slice (some ⟨k,0,none⟩) 0 0]) (by rw[ziq rfl];go_simp) rfl ⟨k,rfl,by omega,HF.out⟩
def ints(xs:List Nat):List Value:=xs.map fun(x:Nat)=>Value.int .i64 (x:Int)
theorem zss(xs ys:List Nat):ints (xs++ys)=ints xs++ints ys:=by simp[ints]
structure Src(w0 w:World)(g lb L:Nat)(ts:List Tm)(v:Value)(qs:List Nat):Prop where
 box:w.heap[g]? = some (.cells #[.bool true,.slice (some ⟨lb,0,none⟩) L L,v] 211 (0,0))
 log:w.heap[lb]? = some (.cells (tmsC ts).toArray 108 (0,0))
 len:L=ts.length
 few:L<=65536
 each:∀t∈ts,Tnew w0 w t
 row:w.ownsRow 0 3 1 v qs.length (ints qs)
 gn:w0.heap.size<=g
 ln:w0.heap.size<=lb
 rn:∀k,v.ownBlock=some k->w0.heap.size<=k
section
variable{w0 w w':World}{g lb L:Nat}{ts:List Tm}{v:Value}{qs:List Nat}
theorem Src.lt(h:Src w0 w g lb L ts v qs):g<w.heap.size:=lt_of_block h.box
theorem Src.c0(h:Src w0 w g lb L ts v qs):w.cell? ⟨g,0,none⟩=some (.bool true):=by simp[World.cell?,h.box]
theorem Src.c1(h:Src w0 w g lb L ts v qs):w.cell? ⟨g,1,none⟩=some (.slice (some ⟨lb,0,none⟩) L L):=by simp[World.cell?,h.box]
theorem Src.c2(h:Src w0 w g lb L ts v qs):w.cell? ⟨g,2,none⟩=some v:=by simp[World.cell?,h.box]
theorem Src.f2(h:Src w0 w g lb L ts v qs):w.frozen? ⟨g,2,none⟩=false:=by simp[World.frozen?,h.box]
theorem Src.rowNe(h:Src w0 w g lb L ts v qs){x:Nat}(hx:v.ownBlock=some x):∃cur,w.heap[x]? = some (.cells cur 3 (0,0)):=by
 rcases h.row.2 with⟨rfl,_⟩|⟨g',cap,cur,rfl,_,hgg,_⟩
 .simp[Value.ownBlock]at hx
 simp[Value.ownBlock]at hx
 subst hx;exact⟨cur,hgg⟩
theorem Src.keep(h:Src w0 w g lb L ts v qs)(hf:Fr [] w w'):Src w0 w' g lb L ts v qs:=
 ⟨hf.keep h.box (by simp),hf.keep h.log (by simp),h.len,h.few,fun t ht=>(h.each t ht).keepS hf (by simp),zaj h.row hf (by simp),h.gn,h.ln,h.rn⟩
theorem Src.trs(h:Src w0 w g lb L ts v qs):TRs w (some ⟨lb,0,none⟩) ts:=
 TRs.of_row (rest:=[]) (t:=108) (f:=(0,0)) (by rw[List.append_nil];exact h.log) (by have:=h.len;have:=h.few;omega) (fun t ht=>(h.each t ht).at)
theorem zhm(h:Src w0 w g lb L ts v qs):Calls prog 159 #[.pointer (some ⟨g,0,none⟩)] w fun e w'=>e=.returned (.bool true)/\w=w':=by
 have c0:=h.c0;go_enter func159,ntmps159;go_wp2;go_ret;exact⟨rfl,rfl⟩
theorem zno(h:Src w0 w g lb L ts v qs):Calls prog 132 #[.pointer (some ⟨g,0,none⟩)] w fun e w'=>e=.returned (.int .i64 (L:Int))/\w=w':=by
 have c1:=h.c1;go_enter func132,ntmps132;go_wp2_with fail
 refine (zhm h).mono ?_;rintro e w1⟨rfl,rfl⟩;go_wp2;go_ret;exact⟨rfl,rfl⟩
end
structure Wt2(w:World)(k:Nat)(ds:List Tm)(R:List Value):Prop where
 box:w.heap[k]? = some (.cells (tmsC ds++R).toArray 108 (0,0))
theorem Wt2.keep{S:List Nat}{w w':World}{k:Nat}{ds:List Tm}{R:List Value}(h:Wt2 w k ds R)(hf:Fr S w w')(hn:k∉S):Wt2 w' k ds R:=⟨hf.keep h.box hn⟩
theorem Wt2.lt{w:World}{k:Nat}{ds:List Tm}{R:List Value}(h:Wt2 w k ds R):k<w.heap.size:=lt_of_block h.box
theorem Wt2.cell{w:World}{k:Nat}{ds:List Tm}{a b:Value}{R:List Value}(h:Wt2 w k ds (a::b::R)) :
  w.cell? ⟨k,ds.length*2,none⟩=some a/\w.cell? ⟨k,ds.length*2+1,none⟩=some b:=by
 refine⟨?_,?_⟩<;>(rw[crw h.box];simp only[List.getElem?_toArray];rw[List.getElem?_append_right (by rw[zel];omega),zel])
 .simp
 rw[show ds.length*2+1-ds.length*2=1 by omega];rfl
theorem Wt2.free{w:World}{k:Nat}{ds:List Tm}{R:List Value}(h:Wt2 w k ds R)(j:Nat):w.frozen? ⟨k,j,none⟩=false:=by simp[World.frozen?,h.box]
theorem set2(xs R:List Value)(a b x y:Value)(n:Nat)(hn:xs.length=n):((xs++a::b::R).set n x).set (n+1) y=xs++x::y::R:=by
 subst hn;rw[List.set_append_right _ _ (by omega),List.set_append_right _ _ (by omega)];simp
theorem Wt2.put{w:World}{k:Nat}{ds:List Tm}{a b:Value}{R:List Value}(h:Wt2 w k ds (a::b::R))(t:Tm) :
  Wt2 ((w.setCell ⟨k,ds.length*2,none⟩ (.int .i64 t.n)).setCell ⟨k,ds.length*2+1,none⟩ (.slice t.ao t.L t.cap)) k (ds++[t]) R:=by
 refine⟨?_⟩;rw[row_setCell _ (row_setCell _ h.box)]
 congr 2
 apply Array.toList_inj.1;simp only[Array.toList_setIfInBounds];rw[set2 (tmsC ds) R a b _ _ _ (zel ds),zsj];simp[tmsC,tmC]
theorem zxu{w':World}{b C:Nat}{ys:List Value}(h:w'.ownsRow 0 108 2 (.slice (some ⟨b,0,none⟩) C C) C ys):∃R:List Value,R.length=C*2/\Wt2 w' b [] R:=by
 rcases h.2 with⟨hh,_⟩|⟨g',cap',cur,hh,hb,hg,hnc,hcm,hcs,ht⟩
 .cases hh
 cases hh;exact⟨cur.toList,by simpa using hcs,⟨by simpa[tmsC]using hg⟩⟩
theorem zaki{R:List Value}{m:Nat}(h:R.length=(m+1)*2):∃a b S,R=a::b::S/\S.length=m*2:=by
 match R,h with
 |a::b::S,h=>exact⟨a,b,S,rfl,by simp at h;omega⟩
 | [],h=>simp at h
 | [_],h=>simp at h;omega
theorem _root_.Go.Proofs.YtojjdnjfaelnfaaGreatDoor.Fr.at2(w:World)(k a b:Nat)(x y:Value):Fr [k] w ((w.setCell ⟨k,a,none⟩ x).setCell ⟨k,b,none⟩ y):=
 (Fr.set w ⟨k,a,none⟩ x (by simp)).then (Fr.set _ ⟨k,b,none⟩ y (by simp))
theorem new_ok(ao:Option Addr)(L cap:Nat)(ts:List Tm)(w:World)(hT:TRs w ao ts)(hL:L=ts.length)(hok:okL 1 (txs ts)) :
  Calls prog 101 #[.slice ao L cap] w fun e w'=>∃g lb ds,e=.returned (.tuple #[.pointer (some ⟨g,0,none⟩),.int .i64 0])/\Src w w' g lb L ds (.slice none 0 0) []/\txs ds=txs ts/\Fr [] w w':=by
 have HK:Hid (okL 1 (txs ts)):=hok;have HL:Hid (L=ts.length):=hL;have hL2:L<=65536:=by have:=zdb hok;rw[zah]at this;omega
 obtain⟨iT,hiT,hzT,hsT,hbT⟩:=info_parts zakg;clear hok hL;go_enter func101,ntmps101;go_wp2_with fail
 refine (lcheck_any ao L cap 0 ts _ hT HL.out (zgp HK.out)).mono ?_;rintro e w1⟨rfl,hF1⟩;go_wp2_with (at_make;refine wpList_make_full _ rfl (.tmp 14) (.tmp 14) 24 rfl 0 108 iT _ 2 zakh hiT hzT hsT .i64 .i64 L L L rfl rfl rfl rfl ?b2 ?b3 ?b4 ?_)
 case b2=>rw[hbT];omega
 case b3=>unfold maxLen;omega
 case b4=>exact Nat.zero_le _
 intro w2 hown hgrow;obtain⟨R0,hR0,hW0⟩:=zxu hown;have hF2:Fr [] w1 w2:=Fr.grown (S:=[]) hgrow (by simp);obtain⟨k,hk⟩:∃k,k=w1.heap.size:=⟨_,rfl⟩;have hkw:w.heap.size<=k:=by have:=hF1.size;omega
 rw[<-hk]at hW0 ⊢
 have hG2:=hF1.then hF2;clear hown hgrow hF1 hF2 hk;go_wp2_with fail
 go_loopw [18] (fun ii wr=>∃(i:Nat)(ds:List Tm)(R:List Value),ii=.int .i64 i/\i<=L/\Hid (ds.length=i)/\Hid (R.length=(L-i)*2)/\Hid (txs ds=(txs ts).take i)/\(∀t∈ds,Tnew w wr t)/\Wt2 wr k ds R/\Fr [] w wr) (fun ii _=>L-(RowKit.intOf ii).toNat)
 case atStart=>exact⟨0,[],R0,rfl,Nat.zero_le _,rfl,hR0,rfl,by simp,hW0,hG2⟩
 obtain⟨i,ds,R,rfl,hiL,HI,HRl,HTX,hEa,hWr,hFr⟩:=hrel;by_cases hi:i<L
 .obtain⟨m,hm⟩:∃m,L-i=m+1:=⟨L-i-1,by omega⟩;obtain⟨a,b,S,rfl,hS⟩:=zaki (hm▸HRl.out);have hi':i<ts.length:=by rw[<-HL.out];exact hi
  obtain⟨bb,off,rfl,_,hc⟩:=(hT.keep hFr).lies (by omega);have hx:=hc i hi';have hat:=(hT.keep hFr).each _ (zbw ts i hi');have hokx:=(zea HK.out i (by rw[zah];exact hi')).1;rw[zeb]at hokx
  have HTX2:Hid (txs ds++[(ts.getD i Tm.zero).tx]=(txs ts).take (i+1)):=by
   show _=_;rw[zpt,zhh ts i hi',zhg,HTX.out,zpt];rfl
  obtain⟨x,hxx⟩:∃x,x=ts.getD i Tm.zero:=⟨_,rfl⟩;rw[<-hxx]at hx hat hokx HTX2
  clear hxx hc;obtain⟨n,xo,M,cm,ws⟩:=x;obtain⟨c0,c1⟩:=hx;simp only at c0 c1;have hF3:Fr [] wr (wr.alloc (.cells #[.int .i64 n,.slice xo M cm] 108)):=Fr.alloc _ _ _;have hat3:TArg (wr.alloc (.cells #[.int .i64 n,.slice xo M cm] 108)) n xo M cm ws:=TArg.keep hat hF3;have HOK:Hid (okT n ws):=hokx;have HM:Hid (M=ws.length):=hat3.len;have hM32:M<=32:=by have:=hokx.2.2.1;have:=hat3.len;simp only[Tm.tx]at *;omega
  clear hokx hat
  go_wp2_with fail
  refine (zlk n xo M cm ws _ hat3 hM32).mono ?_;rintro e w4⟨kk,rfl,hkk,hrow4,hF4⟩;have hG4:=hF3.then hF4;have hW4:=hWr.keep hG4 (by simp);obtain⟨q0,q1⟩:=hW4.cell;have p0:=hW4.free (ds.length*2);have p1:=hW4.free (ds.length*2+1);rw[HI.out]at q0 q1 p0 p1
  have hW5:=hW4.put ⟨n,some ⟨kk,0,none⟩,M,M,ws⟩;rw[HI.out]at hW5
  have hF5:=Fr.at2 w4 k (i*2) (i*2+1) (.int .i64 n) (.slice (some ⟨kk,0,none⟩) M M);have hkkk:kk∉[k]:=by
   have:=hWr.lt;have:=hF3.size;simp;omega
  have HN:Hid (_/\_/\_):=⟨fun t (ht:t∈ds++[(⟨n,some ⟨kk,0,none⟩,M,M,ws⟩:Tm)])=>(by
   rcases List.mem_append.1 ht with h1|h1
   .refine ((hEa t h1).keepS hG4 (by simp)).keepS hF5 (fun j hj hh=> ?_);simp only[List.mem_singleton]at hh;subst hh;rw[hW4.box]at hj
    simp at hj
   simp only[List.mem_singleton]at h1;subst h1;exact⟨kk,rfl,rfl,HM.out,by have:=hFr.size;have:=hF3.size;omega,hF5.keep hrow4 hkkk,HOK.out⟩:Tnew w _ t),hW5,(hFr.then hG4).on hF5 (by intro x hx;simp at hx;omega)⟩
  clear hW4 hW5 hF5 hG4 hF4 hF3 hrow4 hat3 hWr hEa hFr;go_wp2;go_roundw;case rel=>exact⟨i+1,_,S,by simp,by omega,by show _=_;simp[HI.out],by show _=_;rw[hS];congr 1;omega,by show _=_;rw[zhg];exact HTX2.out,HN.out.1,HN.out.2.1,HN.out.2.2⟩
  case measure=>simp[RowKit.intOf];omega
 have hLi:L-i=0:=by omega
 have hR0':R=[]:=List.eq_nil_of_length_eq_zero (by rw[HRl.out,hLi]);subst hR0';have HT2:Hid (txs ds=txs ts):=by show _=_;rw[HTX.out,List.take_of_length_le (by rw[zah,<-HL.out];omega)]
 have HDL:Hid (L=ds.length):=by show _=_;have:=congrArg List.length HT2.out;rw[zah,zah]at this;have:=HL.out;omega
 have hFz:Fr [] wr (wr.alloc (.cells #[.bool true,.slice (some ⟨k,0,none⟩) L L,.slice none 0 0] 211)):=Fr.alloc _ _ _;have hklt:=hWr.lt;have HE:Hid (Src w (wr.alloc (.cells #[.bool true,.slice (some ⟨k,0,none⟩) L L,.slice none 0 0] 211)) wr.heap.size k L ds (.slice none 0 0) []/\Fr [] w (wr.alloc (.cells #[.bool true,.slice (some ⟨k,0,none⟩) L L,.slice none 0 0] 211))):=
  ⟨⟨heap_alloc_new _ _,by have:=(hWr.keep hFz (by simp)).box;rw[List.append_nil]at this;exact this,HDL.out,hL2,fun t ht=>(hEa t ht).keepS hFz (by simp),⟨rfl,.inl ⟨rfl,rfl⟩⟩,hFr.size,hkw,fun j hj=>by simp[Value.ownBlock]at hj⟩,hFr.then hFz⟩
 clear hFz hWr hEa hFr;go_wp2;go_ret2;exact⟨_,k,ds,rfl,HE.out.1,HT2.out,HE.out.2⟩
theorem zakj:(prog.info? 3).map (fun i=>(i.zero,i.size,i.bytes))=some (some (.int .i64 0),1,8):=by kernel_rfl
theorem zakk:prog.underlying 25=some (.slice 3):=by kernel_rfl
section
variable{w0 w w':World}{g lb L:Nat}{ts:List Tm}{v:Value}{qs:List Nat}
theorem Src.apart(h:Src w0 w g lb L ts v qs){k:Nat}{cs:Array Value}{t:TypeId}{f:Nat×Nat}(hk:w.heap[k]? = some (.cells cs t f))(ht:t≠3):v.ownBlock≠some k:=by
 intro hv;obtain⟨cur,hc⟩:=h.rowNe hv;rw[hc]at hk
 simp only[Option.some.injEq,Obj.cells.injEq]at hk;exact ht hk.2.1.symm
def Src.own(g:Nat)(v:Value):List Nat:=g::v.ownBlock.toList
theorem Src.put{w1:World}{v':Value}{n N:Nat}{cs:List Value}(h:Src w0 w g lb L ts v qs)(hown:w1.ownsRow 0 3 1 v' N cs)(hN:N=(qs++[n]).length)(hcs:cs=ints (qs++[n]))(hg:w.grownBy w1 v.ownBlock){k:Nat}(hm:Moved k v v')(hk:w0.heap.size<=k) :
  Src w0 (w1.setCell ⟨g,2,none⟩ v') g lb L ts v' (qs++[n])/\Fr (Src.own g v) w (w1.setCell ⟨g,2,none⟩ v'):=by
 subst hN;subst hcs;have hog:=h.apart h.box (by decide);have hol:=h.apart h.log (by decide);have hbox:=(hg.block g h.lt (fun e=>hog e.symm)).trans h.box;have hlog:=(hg.block lb (lt_of_block h.log) (fun e=>hol e.symm)).trans h.log;have hoth:v'.ownBlock≠some g:=by
  intro hv;rcases hown.2 with⟨rfl,_⟩|⟨g',cap,cur,rfl,_,hgg,_⟩
  .simp[Value.ownBlock]at hv
  simp[Value.ownBlock]at hv
  subst hv;rw[hgg]at hbox
  simp at hbox
 have hlg:lb≠g:=by
  intro e;subst e;have:=h.box;rw[h.log]at this
  simp at this
 have hF:Fr (Src.own g v) w (w1.setCell ⟨g,2,none⟩ v'):=(Fr.grown (S:=Src.own g v) hg (by intro k hk _;simp[Src.own,hk])).then (Fr.set _ _ _ (by simp[Src.own]));refine⟨⟨zmn hbox,(Fr.set (S:=[g]) w1 ⟨g,2,none⟩ v' (by simp)).keep hlog (by simpa using hlg),h.len,h.few,fun t ht=>(h.each t ht).keepS hF ?_,ownsRow_setCell_other hown hoth _,h.gn,h.ln,hm.lt hk h.rn⟩,hF⟩;intro j hj hh;simp only[Src.own,List.mem_cons,Option.mem_toList]at hh;rcases hh with rfl|hh
 .rw[h.box]at hj;simp at hj
 exact h.apart hj (by decide) hh
theorem get_no(h:Src w0 w g lb L ts v qs)(n:Nat)(hn:n<1\/L<n)(hn2:n<2 ^ 40) :
  Calls prog 146 #[.pointer (some ⟨g,0,none⟩),.int .i64 (n:Int)] w fun e w'=>e=.returned (.tuple #[.agg #[.int .i64 0,.slice none 0 0],.int .i64 1])/\Fr [] w w':=by
 have hF0:Fr [] w (w.alloc (.cells #[.int .i64 0,.slice none 0 0] 108)):=Fr.alloc _ _ _;have h0:=h.keep hF0;have c1:=h0.c1;have hfew:=h.few;have hB:B2 (w.alloc (.cells #[.int .i64 0,.slice none 0 0] 108)) w.heap.size (.int .i64 0) (.slice none 0 0):=⟨heap_alloc_new _ _⟩;obtain⟨s0,s1,s2,s3⟩:_/\_/\_/\_:=⟨hB.c0,hB.c1,hB.f0,hB.f1⟩;have hF1:=hF0.on (Fr.box2 (w.alloc (.cells #[.int .i64 0,.slice none 0 0] 108)) w.heap.size (.int .i64 0) (.slice none 0 0)) (by simp);obtain⟨W,HW⟩:∃W,Hid (w.alloc (.cells #[.int .i64 0,.slice none 0 0] 108)=W):=⟨_,rfl⟩;rw[HW.out]at h0 c1 s0 s1 s2 s3 hF1
 have HF:Hid (Fr [] w ((W.setCell ⟨w.heap.size,0,none⟩ (.int .i64 0)).setCell ⟨w.heap.size,1,none⟩ (.slice none 0 0))):=hF1;clear hF0 hB hF1;go_enter func146,ntmps146;go_upto_region 1 with fail
 rw[HW.out];clear HW;go_wp2_with fail
 refine (zhm h0).mono ?_;rintro e w1⟨rfl,rfl⟩;rcases hn with hn|hn
 .obtain rfl:n=0:=by omega
  go_wp2;refine bodyPost_ret (v:=.tuple #[.agg #[.int .i64 0,.slice none 0 0],.int .i64 1]) (by rw[results_cell_tmp rfl];go_simp) rfl ⟨rfl,HF.out⟩
 have hn1:¬n<1:=by omega
 go_wp2;refine bodyPost_ret (v:=.tuple #[.agg #[.int .i64 0,.slice none 0 0],.int .i64 1]) (by rw[results_cell_tmp rfl];go_simp) rfl ⟨rfl,HF.out⟩
theorem zaib(h:Src w0 w g lb L ts v qs)(n:Nat)(hn:1<=n)(hnL:n<=L)(hq:qs.length<2 ^ 40)(h00:w0.heap.size<=w.heap.size)(t:Tm)(ht:t=ts.getD (n-1) Tm.zero) :
  Calls prog 146 #[.pointer (some ⟨g,0,none⟩),.int .i64 (n:Int)] w fun e w'=>∃k v',e=.returned (.tuple #[.agg #[.int .i64 t.n,.slice (some ⟨k,0,none⟩) t.L t.L],.int .i64 0])/\w.heap.size<=k/\w'.heap[k]? = some (.cells (wtsC t.ws).toArray 91 (0,0)) /\
   Src w0 w' g lb L ts v' (qs++[n])/\Fr (Src.own g v) w w'/\Moved w.heap.size v v':=by
 obtain⟨iI,hiI,hzI,hsI,hbI⟩:=info_parts zakj;have hfew:=h.few;have HN:Hid (n-1<ts.length):=by show _<_;have:=h.len;omega
 have HT:Hid (t=ts.getD (n-1) Tm.zero):=ht;obtain⟨ao,cap,hv⟩:=zxv w h.row;obtain⟨N,hN⟩:∃N,N=qs.length:=⟨_,rfl⟩;rw[<-hN]at hv hq
 have HL:Hid (N=qs.length):=hN;subst hv;clear hN ht;have hF0:Fr [] w (w.alloc (.cells #[.int .i64 0,.slice none 0 0] 108)):=Fr.alloc _ _ _;have h0:=h.keep hF0;have hB:B2 (w.alloc (.cells #[.int .i64 0,.slice none 0 0] 108)) w.heap.size (.int .i64 0) (.slice none 0 0):=⟨heap_alloc_new _ _⟩;have hs0:(w.alloc (.cells #[.int .i64 0,.slice none 0 0] 108)).heap.size=w.heap.size+1:=by simp
 obtain⟨W,HW⟩:∃W,Hid (w.alloc (.cells #[.int .i64 0,.slice none 0 0] 108)=W):=⟨_,rfl⟩;rw[HW.out]at h0 hB hF0 hs0
 have HS0:Hid (W.heap.size=w.heap.size+1):=hs0;clear hs0;obtain⟨c1,c2,f2⟩:_/\_/\_:=⟨h0.c1,h0.c2,h0.f2⟩;have hgW:=h0.lt;have HR:Hid (W.ownsRow 0 3 1 (.slice ao N cap) N (ints qs)):=by show World.ownsRow _ _ _ _ _ _ _;have:=h0.row;rw[<-HL.out]at this;exact this
 have hn1:¬n<1:=by omega
 have hnL2:¬L<n:=by omega
 go_enter func146,ntmps146;go_upto_region 1 with fail
 rw[HW.out];clear HW;go_wp2_with fail
 refine (zhm h0).mono ?_;rintro e w1⟨rfl,rfl⟩;go_upto_region 5 with fail
 go_wp2_with (at_builtin;go_loud (refine zse _ rfl (.tmp 28) (.tmp 30) 25 rfl 3 iI (.int .i64 0) 1 8 zakk hiI hzI hsI hbI rfl (by decide) _ N _ rfl (HR.out.alloc _) ⟨W.heap.size,0,none⟩ 1 [.int .i64 (n:Int)] rfl rfl ?c1 ?c2 ?c3 ?c4 ?_))
 case c1=>intro j u hj;match j,hj with|0,hj=>simp at hj;subst hj;simp[Addr.add]
 case c2=>intro u hu;simp at hu;subst hu;rfl
 case c3=>omega
 case c4=>unfold maxLen;omega
 intro g' cap' w1 hown hgrow hmov;have hFa:Fr [] W (W.alloc (.cells #[.int .i64 (n:Int)] 3)):=Fr.alloc _ _ _;have hSa:=h0.keep hFa;have hka:w.heap.size+2<=(W.alloc (.cells #[.int .i64 (n:Int)] 3)).heap.size:=by have:=HS0.out;simp;omega
 obtain⟨hS1,hF1⟩:=hSa.put (n:=n) hown (by simp[HL.out]) (by rw[zss];rfl) hgrow hmov (by have:=HS0.out;omega);have hbB:B2 (W.alloc (.cells #[.int .i64 (n:Int)] 3)) w.heap.size (.int .i64 0) (.slice none 0 0):=hB.keep hFa;have hb1:=hSa.apart hbB.box (by decide);have hgw:=h.lt;have hlw:=lt_of_block h.log;have hB1:B2 (w1.setCell ⟨g,2,none⟩ (.slice (some ⟨g',0,none⟩) (N+1) cap')) w.heap.size (.int .i64 0) (.slice none 0 0):=⟨hF1.keep hbB.box (by
  simp only[Src.own,List.mem_cons,Option.mem_toList,not_or];exact⟨by omega,fun hh=>hb1 hh⟩)⟩
 have c2':w1.cell? ⟨g,2,none⟩=some (.slice ao N cap):=by
  have:=hgrow.block g hSa.lt (fun e=>hSa.apart hSa.box (by decide) e.symm);simp[World.cell?,this,hSa.box]
 have f2':w1.frozen? ⟨g,2,none⟩=false:=by
  have:=hgrow.block g hSa.lt (fun e=>hSa.apart hSa.box (by decide) e.symm);simp[World.frozen?,this,hSa.box]
 have hG1:Fr (Src.own g (.slice ao N cap)) w (w1.setCell ⟨g,2,none⟩ (.slice (some ⟨g',0,none⟩) (N+1) cap')):=((hF0.then hFa).mono (by simp)).then hF1;have hM1:Moved w.heap.size (.slice ao N cap) (.slice (some ⟨g',0,none⟩) (N+1) cap'):=(Moved.refl _ _).trans hmov (by have:=HS0.out;omega);obtain⟨w2,HW2⟩:∃w2,Hid (w1.setCell ⟨g,2,none⟩ (.slice (some ⟨g',0,none⟩) (N+1) cap')=w2):=⟨_,rfl⟩;rw[HW2.out]at hS1 hB1 hG1
 obtain⟨v',hv'⟩:∃v':Value,v'=.slice (some ⟨g',0,none⟩) (N+1) cap':=⟨_,rfl⟩;have d1:=hS1.c1;have hTR:=hS1.trs;have hx:=hTR.each _ (zbw ts (n-1) HN.out);have hokx:=(hS1.each _ (zbw ts (n-1) HN.out));obtain⟨bb,off,e9,_,hc⟩:=hTR.lies (by have:=HN.out;omega);cases e9;have hcx:=hc (n-1) HN.out;rw[<-HT.out]at hx hokx hcx
 obtain⟨tn,xo,M,cm,ws⟩:=t;obtain⟨x0,x1⟩:=hcx;simp only at x0 x1;have hxa:TArg w2 tn xo M cm ws:=hx;have hM32:M<=32:=by obtain⟨_,_,_,e5,_,_,e6⟩:=hokx;have:=e6.2.2.1;simp only at e5 this;omega
 have hnn:(n:Int)-1=((n-1:Nat):Int):=by omega
 obtain⟨m,hm⟩:∃m,n=m+1:=⟨n-1,by omega⟩;subst hm;simp only[Nat.add_sub_cancel,Nat.zero_add]at x0 x1;clear hown hgrow hmov hbB hb1 hSa hFa hF1 hB hF0 hc hnn hx hokx c1 c2 f2 HR h h0;go_upto_region 6 with fail
 rw[HW2.out];clear HW2 c2' f2';go_wp2_with fail
 refine (zlk tn xo M cm ws _ hxa hM32).mono ?_;rintro e w4⟨k,rfl,hk,hrow4,hF4⟩;have hB4:=hB1.keep hF4;obtain⟨s0,s1,s2,s3⟩:_/\_/\_/\_:=⟨hB4.c0,hB4.c1,hB4.f0,hB4.f1⟩;have hF5:=Fr.box2 w4 w.heap.size (.int .i64 tn) (.slice (some ⟨k,0,none⟩) M M);have hwk:w.heap.size<k:=by have:=hB1.lt;omega
 have hS4:=hS1.keep hF4;have hS5:Src w0 ((w4.setCell ⟨w.heap.size,0,none⟩ (.int .i64 tn)).setCell ⟨w.heap.size,1,none⟩ (.slice (some ⟨k,0,none⟩) M M)) g lb L ts (.slice (some ⟨g',0,none⟩) (N+1) cap') (qs++[m+1]):=by
  have a1:=hS4.apart hB4.box (by decide);refine⟨hF5.keep hS4.box (by simp;omega),hF5.keep hS4.log ?_,hS4.len,hS4.few,fun t ht=>(hS4.each t ht).keepS hF5 ?_,zaj hS4.row hF5 ?_,hS4.gn,hS4.ln,hS4.rn⟩
  .simp;omega
  .intro j hj hh;simp only[List.mem_singleton]at hh;subst hh;rw[hB4.box]at hj
   simp at hj
  intro j hj hh;simp only[List.mem_singleton]at hh;subst hh;exact a1 hj
 have HE:Hid (_/\_/\_):=⟨hF5.keep hrow4 (by simp;omega),hS5,(hG1.then (hF4.mono (by simp))).trans hF5 (U:=Src.own g (.slice ao N cap)) (fun _ x _=>x) (by intro x hx hl;simp at hx;omega)⟩;clear hF5 hS5 hS4 hS1 hB4 hB1 hG1 hF4 hrow4;go_wp2;refine bodyPost_ret (v:=.tuple #[.agg #[.int .i64 tn,.slice (some ⟨k,0,none⟩) M M],.int .i64 0]) (by rw[results_cell_tmp rfl];go_simp) rfl ⟨k,rfl,by omega,HE.out.1,_,HE.out.2.1,HE.out.2.2,hM1⟩
end
section
variable{w0 w w':World}{g lb L:Nat}{ts:List Tm}{v:Value}{qs:List Nat}
end
structure IRs(w:World)(ao:Option Addr)(ns:List Int):Prop where
 lies:0<ns.length->∃b off,ao=some ⟨b,off,none⟩/\b<w.heap.size/\∀i,i<ns.length->w.cell? ⟨b,off+i,none⟩=some (.int .i64 (ns.getD i 0))
 few:ns.length<=17592186044416
theorem IRs.keepS{S:List Nat}{w w':World}{ao:Option Addr}{ns:List Int}(h:IRs w ao ns)(hf:Fr S w w')(hn:0<ns.length->∀a,ao=some a->a.block∉S):IRs w' ao ns:=by
 refine⟨fun h0=> ?_,h.few⟩;obtain⟨b,off,e,hb,hc⟩:=h.lies h0;exact⟨b,off,e,Nat.lt_of_lt_of_le hb hf.size,fun i hi=>(World.cell?_of_block (hf.block b hb (hn h0 _ e))).trans (hc i hi)⟩
theorem IRs.keep{w w':World}{ao:Option Addr}{ns:List Int}(h:IRs w ao ns)(hf:Fr [] w w'):IRs w' ao ns:=h.keepS hf (by simp)
theorem zeu(ns:List Int)(i:Nat)(h:i<ns.length):ns.take (i+1)=ns.take i++[ns.getD i 0]:=by
 rw[List.take_add_one];simp[List.getD,h]
end Go.Proofs.YtojjdnjfaelnfaaGreatDoor.F
