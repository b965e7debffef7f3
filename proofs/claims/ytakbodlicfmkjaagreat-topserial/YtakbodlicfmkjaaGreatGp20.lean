/- Contracts and lemmas. -/
import Derived.Test.YtakbodlicfmkjaaGreatGp6
import Derived.Laws.Cover1
import Derived.Maps.OwnSet
set_option maxHeartbeats 8000000
set_option maxRecDepth 100000
set_option linter.unusedSimpArgs false
set_option linter.unusedVariables false
namespace Go.Proofs.YtakbodlicfmkjaaGreat.Fo
open Go.ChangeShapes Go.WideShapes Go.ChangeAt Go.RowKit Go.Lib Go.Maps
theorem Tryz.undS7:Tryz.prog.underlying 9=some .string:=by kernel_rfl
def SBox(w:World)(b:Nat)(s:ByteArray):Prop:=w.heap[b]? = some (.cells #[.string s] 9 (0,0))
theorem SBox.c{w:World}{b:Nat}{s:ByteArray}(h:SBox w b s):w.cell? ⟨b,0,none⟩=some (.string s):=by unfold SBox at h;simp[World.cell?,h]
theorem SBox.keep{S:List Nat}{w w':World}{b:Nat}{s:ByteArray}(h:SBox w b s)(hf:Fr S w w')(hn:b∉S):SBox w' b s:=hf.keep h hn
theorem zkj(key en:ByteArray)(w:World):Calls Tryz.prog 38 #[.string key,.string en] w fun e w'=>∃b c,e=.returned (.func (Fn.func 71) #[] #[.pointer (some ⟨b,0,none⟩),.pointer (some ⟨c,0,none⟩)])/\SBox w' b key/\SBox w' c en/\w.heap.size<=b/\w.heap.size<=c/\Fr [] w w':=by
 go_enter Tryz.func38,Tryz.ntmps38;go_wp2;go_ret;refine⟨_,_,rfl,?_,?_,Nat.le_refl _,Nat.le_succ _,(Fr.alloc [] w _).then (Fr.alloc [] _ _)⟩
 .exact (Fr.alloc [] _ _).keep (heap_alloc_new w (.cells #[.string key] 9)) (by simp)
 have:=heap_alloc_new (w.alloc (.cells #[.string key] 9)) (.cells #[.string en] 9);simpa[SBox]using this
def inS(key en s:ByteArray):Bool:= !(Op.bytesLess s.toList key.toList)&&(en.toList==[]||Op.bytesLess s.toList en.toList)
theorem zpx(b c:Nat)(key en s:ByteArray)(B:Bool)(w:World)(hb:SBox w b key)(hc:SBox w c en)(hB:B=inS key en s):Calls Tryz.prog 71 #[.string s,.pointer (some ⟨b,0,none⟩),.pointer (some ⟨c,0,none⟩)] w fun e w'=>e=.returned (.bool B)/\Fr [] w w':=by
 have c0:=hb.c;have c1:=hc.c;have hE0:(⟨#[]⟩:ByteArray).toList=[]:=(zbm _).2 rfl;obtain⟨G,hG⟩:∃G,Op.bytesLess s.toList key.toList=G:=⟨_,rfl⟩;obtain⟨E,hE⟩:∃E,(en.toList==([]:List UInt8))=E:=⟨_,rfl⟩;obtain⟨K,hK⟩:∃K,Op.bytesLess s.toList en.toList=K:=⟨_,rfl⟩;have hB':B=(!G&&(E||K)):=by rw[hB,<-hG,<-hE,<-hK];rfl
 have HB:Hid (B=(!G&&(E||K))):=hB';clear hB hB';have hundef:undef=Value.tuple #[]:=rfl;cases G<;>cases E<;>cases K<;>(go_enter Tryz.func71,Tryz.ntmps71;go_wp2;go_ret;exact⟨by rw[HB.out];rfl,Fr.refl _ _⟩)
theorem zacy{ts:List Tm}{i:Nat}(h:i<ts.length):txs (ts.take (i+1))=txs (ts.take i)++[(ts.getD i Tm.zero).tx]:=by rw[zlc ts i h,zhr];rfl
theorem Tryz.undTsE:Tryz.prog.underlying 24=some (.slice (Tryz.prog.elem 24)):=by kernel_rfl
theorem Tryz.elemTs:Tryz.prog.elem 24=59:=by kernel_rfl
theorem Tryz.sizeT(w:World):(sizeOf 59).run Tryz.prog w=.ok 2 w:=by kernel_rfl
theorem Tryz.undMap:Tryz.prog.underlying 108=some (.map 9 61):=by kernel_rfl
theorem Tryz.keyedStr:Keyed Tryz.prog 9:=string_keyed Tryz.undS7
def entD(k s:ByteArray):DataW Unit:=.agg [.lit (.string k.data.toList),.lit (.string s.data.toList)]
def zds(v:Value):Option (DataW Unit×List MemPlace):=
 match v with
 | .agg cs=>match cs.toList with
  | [.string k,.string s]=>some (entD k s,[])
  |_=>none
 |_=>none
theorem zts(k s:ByteArray):zds (.agg #[.string k,.string s])=some (entD k s,[]):=rfl
theorem zkk{v:Value}{y:DataW Unit×List MemPlace}(h:zds v=some y):∃k s,v=.agg #[.string k,.string s]/\y=(entD k s,[]):=by
 unfold zds at h;split at h
 .rename_i cs;split at h
  .rename_i k s hcs;simp only[Option.some.injEq]at h;exact⟨k,s,by rw[<-Array.toArray_toList (xs:=cs),hcs],h.symm⟩
  cases h
 cases h
theorem zbs{a b:ByteArray}(h:a.data.toList=b.data.toList):a=b:=by
 cases a;cases b;simp only at h
 congr
 exact Array.toList_inj.1 h
theorem zzv{k s k' s':ByteArray}(h:entD k s=entD k' s'):k=k'/\s=s':=by
 simp only[entD,DataW.agg.injEq,List.cons.injEq,DataW.lit.injEq,Lit.string.injEq,and_true]at h;exact⟨zbs h.1,zbs h.2⟩
def kl7(s:ByteArray):Lit:=.string s.data.toList
theorem zef{s t:ByteArray}(h:kl7 s=kl7 t):s=t:=zbs (by simpa[kl7]using h)
theorem zda(s:ByteArray)(hs:s.size<=maxLen):keyOf Tryz.prog 9 (.string s)=some (kl7 s):=Go.WideMaps.keyOf_string_mk Tryz.undS7 hs
def MapE(w:World)(b n:Nat)(E:ByteArray->Option ByteArray):Prop:=
 ∃D:DataW Unit,w.ownsMap Tryz.prog 9 zds b n D/\(∀s,has D (kl7 s)=(E s).isSome)/\∀s v,E s=some v->∀z,D.atKey (kl7 s) z=entD s v
theorem MapE.lt{w:World}{b n:Nat}{E:ByteArray->Option ByteArray}(h:MapE w b n E):b<w.heap.size:=by
 obtain⟨D,hD,_⟩:=h;exact hD.lt
theorem MapE.keep{S:List Nat}{w w':World}{b n:Nat}{E:ByteArray->Option ByteArray}(h:MapE w b n E)(hf:Fr S w w')(hn:b∉S):MapE w' b n E:=by
 have hlt:=h.lt;obtain⟨D,⟨es,clock,hb,hr⟩,h2⟩:=h;exact⟨D,⟨es,clock,(hf.block b hlt hn).trans hb,hr⟩,h2⟩
theorem MapE.mono{w:World}{b n m:Nat}{E:ByteArray->Option ByteArray}(h:MapE w b n E)(hn:n<=m):MapE w b m E:=by
 obtain⟨D,hD,h2⟩:=h;exact⟨D,hD.mono hn,h2⟩
theorem MapE.made(w:World):MapE (w.alloc (.map #[] 0)) w.heap.size 0 (fun _=>none):=
 ⟨.map [],World.ownsMap_made w _ _ _,fun s=>rfl,fun s v h=>by cases h⟩
def applyE(E:ByteArray->Option ByteArray)(x:Wt):ByteArray->Option ByteArray:=fun s=>if s=x.key then (if x.drop=true then none else some x.val) else E s
theorem MapE.store{w:World}{b n:Nat}{E:ByteArray->Option ByteArray}(h:MapE w b n E)(key val:ByteArray)(hs:key.size<=maxLen)(hn:n<maxLen) :
  ∃w',(Instr.mapUpdate 108 (.map (some b)) (.string key) (.agg #[.string key,.string val])).run Tryz.prog w=.ok () w'/\MapE w' b (n+1) (applyE E ⟨key,val,false⟩)/\Fr [b] w w':=by
 obtain⟨D,hD,hH,hA⟩:=h;have hk:=zda key hs;have hI:=hD.isMap;obtain⟨w',hrun,hO,hg⟩:=hD.update Tryz.keyedStr Tryz.undMap hn hk (zts key val);refine⟨w',hrun,⟨_,hO,?_,?_⟩,Fr.grown hg (by intro k hk _;cases hk;simp)⟩
 .intro s;unfold applyE;by_cases he:s=key
  .subst he;rw[if_pos rfl,has_put_same hI (Tryz.keyedStr.key hk)];rfl
  rw[if_neg he,has_put_other (fun e=>he (zef e)),hH s]
 intro s v hv z;unfold applyE at hv;by_cases he:s=key
 .subst he;rw[if_pos rfl]at hv
  simp only[Bool.false_eq_true,if_false,Option.some.injEq]at hv;subst hv;exact atKey_put_same hI (Tryz.keyedStr.key hk) _ _
 rw[if_neg he]at hv
 rw[atKey_put_other (fun e=>he (zef e))];exact hA s v hv z
theorem MapE.drop{w:World}{b n:Nat}{E:ByteArray->Option ByteArray}(h:MapE w b n E)(key val:ByteArray)(hs:key.size<=maxLen)(ty:TypeId) :
  ∃w',(Builtin.delete_ #[108,9] ty #[.map (some b),.string key]).run Tryz.prog w=.ok (.tuple #[]) w'/\MapE w' b n (applyE E ⟨key,val,true⟩)/\Fr [b] w w':=by
 obtain⟨D,hD,hH,hA⟩:=h;have hk:=zda key hs;obtain⟨w',hrun,hO,ht⟩:=hD.drop Tryz.keyedStr Tryz.undMap hk ty;refine⟨w',hrun,⟨_,hO,?_,?_⟩,Fr.grown ht.grown (by intro k hk _;cases hk;simp)⟩
 .intro s;unfold applyE;by_cases he:s=key
  .subst he;rw[if_pos rfl,has_del_same];rfl
  rw[if_neg he,has_del_other (fun e=>he (zef e)),hH s]
 intro s v hv z;unfold applyE at hv;by_cases he:s=key
 .rw[if_pos he]at hv
  cases hv
 rw[if_neg he]at hv
 rw[atKey_del_other (fun e=>he (zef e))];exact hA s v hv z
theorem zxd(b n:Nat)(E:ByteArray->Option ByteArray)(key val:ByteArray)(drop:Bool)(w:World)(h:MapE w b n E)(hs:key.size<=64)(hn:n<9007199254740992) :
  Calls Tryz.prog 70 #[.map (some b),.agg #[.string key,.string val,.bool drop]] w fun e w'=>e=.returned (.tuple #[])/\MapE w' b (n+1) (applyE E ⟨key,val,drop⟩)/\Fr [b] w w':=by
 have hsm:key.size<=maxLen:=by unfold maxLen;omega
 obtain⟨w0,HW0⟩:∃w0,Hid (w.alloc (.cells #[.string key,.string val,.bool drop] 56)=w0):=⟨_,rfl⟩;have hF0:Fr [] w w0:=by rw[<-HW0.out];exact Fr.alloc [] w _
 have hb0:w0.heap[w.heap.size]? = some (.cells #[.string key,.string val,.bool drop] 56 (0,0)):=by rw[<-HW0.out];exact heap_alloc_new w _
 have c0:w0.cell? ⟨w.heap.size,0,none⟩=some (.string key):=by rw[crw hb0];rfl
 have c1:w0.cell? ⟨w.heap.size,1,none⟩=some (.string val):=by rw[crw hb0];rfl
 have c2:w0.cell? ⟨w.heap.size,2,none⟩=some (.bool drop):=by rw[crw hb0];rfl
 have h0:=h.keep hF0 (by simp);cases drop with
 |true=>
  have hdr:∀ty,∃w',(Builtin.delete_ #[108,9] ty #[.map (some b),.string key]).run Tryz.prog w0=.ok (.tuple #[]) w'/\MapE w' b n (applyE E ⟨key,val,true⟩)/\Fr [b] w0 w':=fun ty=>h0.drop key val hsm ty;obtain⟨w1,hr1,hM1,hG1⟩:=hdr 0;have HR:Hid (MapE w1 b (n+1) (applyE E ⟨key,val,true⟩)/\Fr [b] w w1):=⟨hM1.mono (by omega),(hF0.mono (by simp)).then hG1⟩;clear h h0 hM1 hG1 hb0 hdr;go_enter Tryz.func70,Tryz.ntmps70;go_upto_region 1 with fail
  rw[HW0.out];go_wp2;refine bodyPost_ret (results_none rfl _ _ _) rfl ?_;exact⟨rfl,HR.out⟩
 |false=>
  obtain⟨w1,hr1,hM1,hG1⟩:=h0.store key val hsm (by unfold maxLen;omega);have HR:Hid (MapE w1 b (n+1) (applyE E ⟨key,val,false⟩)/\Fr [b] w w1):=⟨hM1,(hF0.mono (by simp)).then hG1⟩;clear h h0 hM1 hG1 hb0;go_enter Tryz.func70,Tryz.ntmps70;go_upto_region 1 with fail
  rw[HW0.out];go_wp2
  go_end0
  exact⟨rfl,HR.out⟩
def capply(Pk:ByteArray->Bool)(E:ByteArray->Option ByteArray)(x:Wt):ByteArray->Option ByteArray:=if Pk x.key=true then applyE E x else E
def capplys(Pk:ByteArray->Bool)(E:ByteArray->Option ByteArray)(ws:List Wt):ByteArray->Option ByteArray:=ws.foldl (capply Pk) E
def call(Pk:ByteArray->Bool)(E:ByteArray->Option ByteArray)(l:List Tx):ByteArray->Option ByteArray:=l.foldl (fun E t=>capplys Pk E t.ws) E
theorem capplys_snoc(Pk:ByteArray->Bool)(E:ByteArray->Option ByteArray)(ws:List Wt)(x:Wt):capplys Pk E (ws++[x])=capply Pk (capplys Pk E ws) x:=by simp[capplys]
theorem call_snoc(Pk:ByteArray->Bool)(E:ByteArray->Option ByteArray)(l:List Tx)(t:Tx):call Pk E (l++[t])=capplys Pk (call Pk E l) t.ws:=by simp[call]
def CoTold(l:List Tx)(f:Int)(c:Nat):Prop:=(Bad 1 l c/\c≠0)\/(okL 1 l/\¬(0<=f/\f<=(l.length:Int))/\c=1)\/(okL 1 l/\(0<=f/\f<=(l.length:Int))/\c=0)
theorem zzw(ab:Option Addr)(L cap J0:Nat)(h2:J0<=cap)(h3:¬cap=0)(w:World):(Instr.slice 24 (.slice ab L cap) none (some (.int .i64 (J0:Int))) none).run Tryz.prog w=.ok (.slice ab J0 cap) w:=by
 rw[run_slice_h w 24 _ _ _ Tryz.undTsE .i64 (J0:Int) (by omega) (by omega),Tryz.elemTs,Tryz.sizeT];cases ab<;>simp[Result.andThen,sliced,h3,Addr.add]
theorem ztt(ab:Option Addr)(L cap J0:Nat)(h2:J0<=cap)(h3:¬cap=0)(w:World):(Instr.sliceAt 24 (.slice ab L cap) none (some (.int .i64 (J0:Int))) none).run Tryz.prog w=.ok (.slice ab J0 cap) w:=by
 rw[run_sliceAt_slice w 24 _ _ _ _ Tryz.undTsE];exact zzw ab L cap J0 h2 h3 w
theorem zzx(ab:Option Addr)(w:World):(Instr.slice 24 (.slice ab 0 0) none (some (.int .i64 0)) none).run Tryz.prog w=.ok (.slice ab 0 0) w:=by
 rw[run_slice_h w 24 _ _ _ Tryz.undTsE .i64 0 (by omega) (by omega),Tryz.elemTs,Tryz.sizeT];simp[Result.andThen,sliced]
theorem ztu(ab:Option Addr)(w:World):(Instr.sliceAt 24 (.slice ab 0 0) none (some (.int .i64 0)) none).run Tryz.prog w=.ok (.slice ab 0 0) w:=by
 rw[run_sliceAt_slice w 24 _ _ _ _ Tryz.undTsE];exact zzx ab w
theorem zrs(ab:Option Addr)(L cap J0:Nat)(h1:L<=cap)(h2:J0<=L)(w:World):(Instr.sliceAt 24 (.slice ab L cap) none (some (.int .i64 (J0:Int))) none).run Tryz.prog w=.ok (.slice ab J0 cap) w:=by
 by_cases h:cap=0
 .subst h;obtain rfl:L=0:=by omega
  obtain rfl:J0=0:=by omega
  exact ztu ab w
 exact ztt ab L cap J0 (by omega) h w
theorem zzy(ao:Option Addr)(L cap:Nat)(f:Int)(c:Nat)(ts:List Tm)(kb ke:Nat)(key0 en0:ByteArray)(w:World)(hT:TRs w ao ts)(hLe:L=ts.length)(hf0: -9223372036854775808<=f)(hf1:f<=9223372036854775807)(h:CoTold (txs ts) f c)(hc:c≠0) :
  Calls Tryz.prog 37 #[.slice ao L cap,.int .i64 f,.func (Fn.func 71) #[] #[.pointer (some ⟨kb,0,none⟩),.pointer (some ⟨ke,0,none⟩)]] w fun e w'=>e=.returned (.tuple #[.map none,.int .i64 (c:Int)])/\Fr [] w w':=by
 have HL:Hid (L=ts.length):=hLe;rcases h with⟨hb,h0⟩|⟨hok,hb,rfl⟩|⟨_,_,h0⟩
 .have HB:Hid (Bad 1 (txs ts) c):=hb;have hcb:((c:Int) != 0)=true:=by rw[bne_iff_ne];omega
  clear hb h0 hLe hc;go_enter Tryz.func37,Tryz.ntmps37;go_wp2_with fail
  refine (zfi ao L cap c ts _ hT HL.out HB.out).mono ?_;rintro e w1⟨rfl,hF1⟩;go_wp2;go_ret2;exact⟨rfl,hF1⟩
 .have HK:Hid (okL 1 (txs ts)):=hok;have hL2:L<=65536:=by have:=zdo hok;rw[zau]at this;omega
  rw[zau,<-hLe]at hb
  clear hok hLe;by_cases h1:f<0
  .have h1':decide (f<0)=true:=by simpa using h1
   go_enter Tryz.func37,Tryz.ntmps37;go_wp2_with fail
   refine (zfi ao L cap 0 ts _ hT HL.out (zjt HK.out)).mono ?_;rintro e w1⟨rfl,hF1⟩;go_wp2;go_ret2;exact⟨rfl,hF1⟩
  have h3:(L:Int)<f:=by
   by_cases h3:(L:Int)<f
   .exact h3
   exact absurd ⟨by omega,by omega⟩ hb
  go_enter Tryz.func37,Tryz.ntmps37;go_wp2_with fail
  refine (zfi ao L cap 0 ts _ hT HL.out (zjt HK.out)).mono ?_;rintro e w1⟨rfl,hF1⟩;go_wp2;go_ret2;exact⟨rfl,hF1⟩
 exact absurd h0 hc
theorem zzz(ao:Option Addr)(L cap f:Nat)(ts:List Tm)(kb ke:Nat)(key0 en0:ByteArray)(w:World)(hT:TRs w ao ts)(hLe:L=ts.length)(hcap:L<=cap)(hk:SBox w kb key0)(he:SBox w ke en0)(hok:okL 1 (txs ts))(hf:f<=L) :
  Calls Tryz.prog 37 #[.slice ao L cap,.int .i64 (f:Int),.func (Fn.func 71) #[] #[.pointer (some ⟨kb,0,none⟩),.pointer (some ⟨ke,0,none⟩)]] w fun e w'=>∃b,e=.returned (.tuple #[.map (some b),.int .i64 0])/\w.heap.size<=b/\MapE w' b 9000000 (call (inS key0 en0) (fun _=>none) ((txs ts).take f))/\Fr [] w w':=by
 have HL:Hid (L=ts.length):=hLe;have HK:Hid (okL 1 (txs ts)):=hok;have hL2:L<=65536:=by have:=zdo hok;rw[zau]at this;omega
 have HNn:Hid (∀t∈ts,t.L<=32/\∀x∈t.ws,x.key.size<=64):=fun t ht=>by
  have ho:okT t.n t.ws:=zma hok t.tx (List.mem_map.2 ⟨t,ht,rfl⟩);have ha:=hT.each t ht;exact⟨by rw[ha.len];exact ho.2.2.1,fun x hx=>(ho.2.2.2 x hx).2.1⟩
 have hmm:=@run_makeMap Tryz.prog;have HI:Hid (∀W,Fr [] w W->TRs W ao ts):=fun W hf=>hT.keep hf;have HKb:Hid (∀W,Fr [] w W->SBox W kb key0):=fun W hf=>hk.keep hf (by simp);have HKe:Hid (∀W,Fr [] w W->SBox W ke en0):=fun W hf=>he.keep hf (by simp);clear hk he;have hfL:(f:Int)<=(L:Int):=by omega
 have hfn:¬((f:Int)<0):=by omega
 have hsl:=zrs ao L cap f hcap hf;clear hLe hok hT;go_enter Tryz.func37,Tryz.ntmps37;go_wp2_with fail
 refine (zfi ao L cap 0 ts _ (HI.out _ (Fr.refl _ _)) HL.out (zjt HK.out)).mono ?_;rintro e w0⟨rfl,hFc⟩;have hM0:=MapE.made w0;have hF0:Fr [] w (w0.alloc (.map #[] 0)):=hFc.then (Fr.alloc [] w0 _);have hs0:=hFc.size;clear hFc;go_wp2_with fail
 obtain⟨b,hb⟩:∃b,b=w0.heap.size:=⟨_,rfl⟩;rw[<-hb]at hM0 ⊢
 have hbw:w.heap.size<=b:=by omega
 have hd1:decide ((f:Int)<0)=false:=by simp
 have hd2:decide (L<f)=false:=by simp;omega
 clear hb;simp only[hd1,hd2,Bool.or_self];go_loopw [32] (fun ii wr=>∃(i:Nat)(E:ByteArray->Option ByteArray),ii=.int .i64 i/\i<=f/\Hid (MapE wr b (32*i) E)/\Hid (E=call (inS key0 en0) (fun _=>none) (txs (ts.take i)))/\Fr [] w wr) (fun ii _=>f-(RowKit.intOf ii).toNat)
 case atStart=>exact⟨0,_,rfl,Nat.zero_le _,hM0,by simp[Hid,call,txs],hF0⟩
 obtain⟨i,E,rfl,hiL,HM,HFe,hFr⟩:=hrel;by_cases hi:i<f
 .have hi':i<ts.length:=by rw[<-HL.out];omega
  have hTr:=HI.out _ hFr;obtain⟨bb,off,rfl,_,hc⟩:=hTr.lies (by omega);have hx:=hc i hi';have HAt:Hid (∀W,Fr [] w W->(ts.getD i Tm.zero).at W):=fun W hf=>(HI.out W hf).each _ (zcp ts i hi');have hnx:=HNn.out _ (zcp ts i hi');have HTx:Hid (txs (ts.take (i+1))=txs (ts.take i)++[(ts.getD i Tm.zero).tx]):=zacy hi';obtain⟨x,hxx⟩:∃x,x=ts.getD i Tm.zero:=⟨_,rfl⟩;rw[<-hxx]at hx HAt hnx HTx
  clear hxx hc hTr;obtain⟨n,xo,M,cm,ws⟩:=x;obtain⟨c0,c1⟩:=hx;simp only at c0 c1 hnx;obtain⟨hM32,hks⟩:=hnx;have HKs:Hid (∀x∈ws,x.key.size<=64):=hks;have HMl:Hid (M=ws.length):=(HAt.out wr hFr).len;obtain⟨w1,HW1⟩:∃w1,Hid (wr.alloc (.cells #[.int .i64 n,.slice xo M cm] 59)=w1):=⟨_,rfl⟩;obtain⟨B7,HB7⟩:∃B7,Hid (B7=wr.heap.size):=⟨_,rfl⟩;have hF1:Fr [] wr w1:=by rw[<-HW1.out];exact Fr.alloc [] wr _
  have hbx:w1.heap[B7]? = some (.cells #[.int .i64 n,.slice xo M cm] 59 (0,0)):=by rw[<-HW1.out,HB7.out];exact heap_alloc_new wr _
  have hG1:=hFr.then hF1;have hbB:b≠B7:=by have:=HM.out.lt;rw[HB7.out];omega
  have HM1:Hid (MapE w1 b (32*i) E):=HM.out.keep hF1 (by simp);have k1:w1.cell? ⟨B7,1,none⟩=some (.slice xo M cm):=by rw[crw hbx];rfl
  clear hF1 hbx HM hks;go_upto_region 10 with fail
  rw[HW1.out,<-HB7.out];clear c0 c1 HW1 HB7 hFr;go_wp2_with fail
  go_loopw [39] (fun jj wr=>∃(j:Nat)(E2:ByteArray->Option ByteArray),jj=.int .i64 j/\j<=M/\Hid (MapE wr b (32*i+j) E2)/\Hid (E2=capplys (inS key0 en0) E (ws.take j))/\Fr [b] w1 wr) (fun jj _=>M-(RowKit.intOf jj).toNat)
  case atStart=>exact⟨0,E,rfl,Nat.zero_le _,HM1,by simp[Hid,capplys],Fr.refl _ _⟩
  obtain⟨j,E2,rfl,hjM,HM2,HFe2,hFr2⟩:=hrel;have hGr:Fr [] w wr:=hG1.on hFr2 (by intro x hx;simp at hx;omega);by_cases hj:j<M
  .have hj':j<ws.length:=by rw[<-HMl.out];exact hj
   have hat:TArg wr n xo M cm ws:=HAt.out _ hGr;obtain⟨b2,o2,rfl,_,hc2⟩:=hat.rs.lies (by omega);obtain⟨d0,d1,d2⟩:=hc2 j hj';have hkz:=HKs.out _ (zdn ws j hj');have HTk:Hid (ws.take (j+1)=ws.take j++[ws.getD j Wt.zero]):=zhm ws j hj';obtain⟨y,hyy⟩:∃y,y=ws.getD j Wt.zero:=⟨_,rfl⟩;rw[<-hyy]at d0 d1 d2 HTk hkz
   clear hyy hc2 hat
   obtain⟨key,val,drop⟩:=y;simp only at d0 d1 d2 hkz;obtain⟨w3,HW3⟩:∃w3,Hid (wr.alloc (.cells #[.string key,.string val,.bool drop] 56)=w3):=⟨_,rfl⟩;obtain⟨B9,HB9⟩:∃B9,Hid (B9=wr.heap.size):=⟨_,rfl⟩;have hF3:Fr [] wr w3:=by rw[<-HW3.out];exact Fr.alloc [] wr _
   have hby:w3.heap[B9]? = some (.cells #[.string key,.string val,.bool drop] 56 (0,0)):=by rw[<-HW3.out,HB9.out];exact heap_alloc_new wr _
   have hG3:Fr [b] w1 w3:=hFr2.then (hF3.mono (by simp));have hGr3:Fr [] w w3:=hGr.then hF3;have HM3:Hid (MapE w3 b (32*i+j) E2):=HM2.out.keep hF3 (by simp);have e0:w3.cell? ⟨B9,0,none⟩=some (.string key):=by rw[crw hby];rfl
   obtain⟨R,HR⟩:∃R:Bool,Hid (R=(inS key0 en0) key):=⟨_,rfl⟩;have HAsk:Hid _:=zpx kb ke key0 en0 key R w3 (HKb.out _ hGr3) (HKe.out _ hGr3) HR.out;clear HM2 hF3;go_upto_region 13 with fail
   rw[HW3.out,<-HB9.out];clear d0 d1 d2 HW3 HB9 hGr;go_wp2_with fail
   refine Calls.mono HAsk.out ?_;rintro e w4⟨rfl,hF4⟩;have hby4:=hF4.keep hby (by simp);have f0:w4.cell? ⟨B9,0,none⟩=some (.string key):=by rw[crw hby4];rfl
   have f1:w4.cell? ⟨B9,1,none⟩=some (.string val):=by rw[crw hby4];rfl
   have f2:w4.cell? ⟨B9,2,none⟩=some (.bool drop):=by rw[crw hby4];rfl
   have hG4:Fr [b] w1 w4:=hG3.then (hF4.mono (by simp));have HM4:Hid (MapE w4 b (32*i+j) E2):=HM3.out.keep hF4 (by simp);clear HAsk hby hby4 e0 HM3 hG3 hF4 hGr3;cases R with
   |true=>
    have HNt:Hid _:=zxd b (32*i+j) E2 key val drop w4 HM4.out hkz (by omega);have HS:Hid (applyE E2 ⟨key,val,drop⟩=capplys (inS key0 en0) E (ws.take (j+1))):=by
     show _=_;rw[HTk.out,capplys_snoc,<-HFe2.out];unfold capply;rw[if_pos HR.out.symm]
    clear HM4;go_wp2_with fail
    refine Calls.mono HNt.out ?_;rintro e w5⟨rfl,hM5,hF5⟩;have HM5:Hid (MapE w5 b (32*i+(j+1)) (applyE E2 ⟨key,val,drop⟩)):=hM5.mono (by omega);have hG5:=hG4.then hF5;clear hM5 hF5 HNt hG4 f0 f1 f2;go_wp2;go_roundw;case rel=>exact⟨j+1,_,by simp,by omega,HM5,HS,hG5⟩
    case measure=>simp[RowKit.intOf];omega
   |false=>
    have HS:Hid (E2=capplys (inS key0 en0) E (ws.take (j+1))):=by
     show _=_;rw[HTk.out,capplys_snoc,<-HFe2.out];unfold capply;rw[if_neg (fun h=>Bool.noConfusion (HR.out.trans h))]
    have HM5:Hid (MapE w4 b (32*i+(j+1)) E2):=HM4.out.mono (by omega);clear HM4 f0 f1 f2;go_wp2;go_roundw;case rel=>exact⟨j+1,E2,by simp,by omega,HM5,HS,hG4⟩
    case measure=>simp[RowKit.intOf];omega
  have HM5:Hid (MapE wr b (32*(i+1)) E2):=HM2.out.mono (by omega);have HS:Hid (E2=call (inS key0 en0) (fun _=>none) (txs (ts.take (i+1)))):=by
   show _=_;rw[HTx.out,call_snoc,<-HFe.out,HFe2.out,List.take_of_length_le (by rw[<-HMl.out];omega)];rfl
  clear HM2;go_wp2;go_roundw;case rel=>exact⟨i+1,E2,by simp,by omega,HM5,HS,hGr⟩
  case measure=>simp[RowKit.intOf];omega
 obtain rfl:i=f:=by omega
 have HS:Hid (E=call (inS key0 en0) (fun _=>none) ((txs ts).take i)):=by
  show _=_;rw[HFe.out,zkr]
 have HM5:Hid (MapE wr b 9000000 E):=HM.out.mono (by omega);clear HM;go_wp2;go_ret2;exact⟨b,rfl,hbw,by rw[<-HS.out];exact HM5.out,hFr⟩
theorem zlw(Pk:ByteArray->Bool)(s:ByteArray)(hs:Pk s=true):∀(ws:List Wt)(E E':ByteArray->Option ByteArray),E s=E' s->capplys Pk E ws s=capplys (fun _=>true) E' ws s
 | [],E,E',h=>h
 |x::ws,E,E',h=>by
  show capplys Pk (capply Pk E x) ws s=capplys (fun _=>true) (capply (fun _=>true) E' x) ws s;refine zlw Pk s hs ws _ _ ?_;unfold capply;rw[if_pos rfl];by_cases hk:Pk x.key=true
  .rw[if_pos hk];unfold applyE;rw[h]
  rw[if_neg hk];unfold applyE;rw[if_neg (fun e=>hk (by rw[<-e];exact hs)),h]
theorem zkl(Pk:ByteArray->Bool)(s:ByteArray)(hs:Pk s=false):∀(ws:List Wt)(E:ByteArray->Option ByteArray),capplys Pk E ws s=E s
 | [],E=>rfl
 |x::ws,E=>by
  show capplys Pk (capply Pk E x) ws s=E s;rw[zkl Pk s hs ws];unfold capply;by_cases hk:Pk x.key=true
  .rw[if_pos hk];unfold applyE;rw[if_neg (fun e=>by rw[e]at hs;rw[hs]at hk;cases hk)]
  rw[if_neg hk]
theorem zqk(Pk:ByteArray->Bool)(s:ByteArray)(hs:Pk s=true):∀(l:List Tx)(E E':ByteArray->Option ByteArray),E s=E' s->call Pk E l s=call (fun _=>true) E' l s
 | [],E,E',h=>h
 |t::l,E,E',h=>zqk Pk s hs l _ _ (zlw Pk s hs t.ws E E' h)
theorem zni(Pk:ByteArray->Bool)(s:ByteArray)(hs:Pk s=false):∀(l:List Tx)(E:ByteArray->Option ByteArray),call Pk E l s=E s
 | [],E=>rfl
 |t::l,E=>by
  show call Pk (capplys Pk E t.ws) l s=E s;rw[zni Pk s hs l,zkl Pk s hs]
def fo(l:List Tx):ByteArray->Option ByteArray:=call (fun _=>true) (fun _=>none) l
theorem zadx(Pk:ByteArray->Bool)(l:List Tx)(s:ByteArray):call Pk (fun _=>none) l s=if Pk s=true then fo l s else none:=by
 by_cases h:Pk s=true
 .rw[if_pos h];exact zqk Pk s h l _ _ rfl
 rw[if_neg h];exact zni Pk s (by simpa using h) l _
theorem CoTold.ok0{l:List Tx}{f:Int}(h:CoTold l f 0):okL 1 l/\0<=f/\f<=(l.length:Int):=by
 rcases h with⟨_,h0⟩|⟨_,_,h0⟩|⟨h1,h2,_⟩
 .exact absurd rfl h0
 .cases h0
 exact⟨h1,h2⟩
end Go.Proofs.YtakbodlicfmkjaaGreat.Fo
