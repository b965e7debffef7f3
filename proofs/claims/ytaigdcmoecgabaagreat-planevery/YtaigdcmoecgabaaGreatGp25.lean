/- Contracts and lemmas. -/
import Derived.Test.YtaigdcmoecgabaaGreatGp23
import Derived.Test.YtaigdcmoecgabaaGreatGp24
set_option maxHeartbeats 4000000
set_option maxRecDepth 100000
set_option linter.unusedSimpArgs false
set_option linter.unusedVariables false
namespace Go.Proofs.YtaigdcmoecgabaaGreat.O
open Go.ChangeShapes Go.WideShapes Go.ChangeAt Go.RowKit Go.Lib Go.Proofs.Tryz
structure RqB(w:World)(r:Rv)(ns:List Int):Prop where
 k:0<=r.k/\r.k<=255
 f: -9223372036854775808<=r.f/\r.f<=9223372036854775807
 n: -9223372036854775808<=r.n/\r.n<=9223372036854775807
 wk:r.wk.size<=140737488355328
 wv:r.wv.size<=140737488355328
 key:r.key.size<=140737488355328
 en:r.en.size<=140737488355328
 is:IRs w r.bo ns
 len:r.bl=ns.length
 cap:r.bl<=r.bc
theorem RqB.keep{w w':World}{r:Rv}{ns:List Int}(h:RqB w r ns)(hf:Fr [] w w'):RqB w' r ns:=⟨h.k,h.f,h.n,h.wk,h.wv,h.key,h.en,h.is.keep hf,h.len,h.cap⟩
section
variable{H:Type}{enc:TypeId×Value->H}
end
theorem zaez:prog.underlying 51=some (.struct (prog.fieldsOf 51)):=by kernel_rfl
theorem zabg:prog.stoodInHeld 51=false:=by kernel_rfl
theorem zvd:(prog.fieldsOf 51).toList.map (fun f=>(f.name == "_",f.type,f.offset))=[(false,9,0),(false,9,1),(false,4,2)]:=by kernel_rfl
theorem znj:prog.underlying 4=some .bool:=by kernel_rfl
theorem zez(w:World)(cs:Array Value)(off:Nat)(v:Value)(h:cs[off]? = some v):(part 9 cs off).run prog w=.ok v w:=by
 simp[part,isAgg,run_underlying zdg,h,Sem.run_bind]
theorem zkm(w:World)(cs:Array Value)(off:Nat)(v:Value)(h:cs[off]? = some v):(part 4 cs off).run prog w=.ok v w:=by
 simp[part,isAgg,run_underlying znj,h,Sem.run_bind]
theorem zqa(w:World)(a b:ByteArray):(Op.equalIn 9999 9 (.string a) (.string b)).run prog w=.ok (a.toList==b.toList) w:=run_equalIn_string w 9998 _ a b zdg
theorem zxt(w:World)(a b:Bool):(Op.equalIn 9999 4 (.bool a) (.bool b)).run prog w=.ok (a==b) w:=run_equalIn_bool w 9998 _ a b znj
theorem zfo{P:Program}{w:World}{A B:Sem Value}{E:Value->Value->Sem Bool}{K:Sem Bool}{a b:Value}{r:Bool}(hA:A.run P w=.ok a w)(hB:B.run P w=.ok b w)(hE:(E a b).run P w=.ok r w) :
  (do let a <- A;let b <- B;let r <- E a b;if (!r)=true then pure false else K:Sem Bool).run P w=if r=true then K.run P w else .ok false w:=by
 simp only[Sem.run_bind,hA,hB,hE,Result.andThen_ok];cases r<;>simp
theorem zsk(w:World)(k1 v1 k2 v2:ByteArray)(p1 p2:Bool):(Op.equalIn 10000 51 (.agg #[.string k1,.string v1,.bool p1]) (.agg #[.string k2,.string v2,.bool p2])).run prog w=.ok (k1.toList==k2.toList&&(v1.toList==v2.toList&&p1==p2)) w:=by
 rw[run_equalIn_struct w 9999 _ _ _ zaez zabg];have hF:=zvd;obtain⟨l,hl⟩:∃l,l=(prog.fieldsOf 51).toList:=⟨_,rfl⟩;rw[<-hl]at hF ⊢
 match l,hF with
 | [f0,f1,f2],hF=>
  simp only[List.map_cons,List.map_nil,List.cons.injEq,Prod.mk.injEq,and_true]at hF;obtain⟨⟨n0,t0,o0⟩,⟨n1,t1,o1⟩,⟨n2,t2,o2⟩⟩:=hF;have m0:f0.name≠ "_" :=by simpa using n0
  have m1:f1.name≠ "_" :=by simpa using n1
  have m2:f2.name≠ "_" :=by simpa using n2
  simp only[Op.eqFields,if_pos m0,if_pos m1,if_pos m2,t0,t1,t2,o0,o1,o2];rw[zfo (zez w _ 0 _ rfl) (zez w _ 0 _ rfl) (zqa w k1 k2)];rw[zfo (zez w _ 1 _ rfl) (zez w _ 1 _ rfl) (zqa w v1 v2)];rw[zfo (zkm w _ 2 _ rfl) (zkm w _ 2 _ rfl) (zxt w p1 p2)];cases (k1.toList==k2.toList)<;>cases (v1.toList==v2.toList)<;>cases (p1==p2)<;>simp
theorem zee(w:World)(k1 v1 k2 v2:ByteArray)(p1 p2:Bool):(binOp .eql 51 (.agg #[.string k1,.string v1,.bool p1]) (.agg #[.string k2,.string v2,.bool p2])).run prog w=.ok (.bool (k1.toList==k2.toList&&(v1.toList==v2.toList&&p1==p2))) w:=by
 rw[run_eql_struct,zsk];rfl
theorem eNil:(⟨#[]⟩:ByteArray).toList=[]:=(zca _).2 rfl
structure Rq where
 k:Int
 f:Int
 n:Int
 wk:ByteArray
 wv:ByteArray
 wd:Bool
 key:ByteArray
 en:ByteArray
 bs:List Int
def Rv.q(r:Rv)(ns:List Int):Rq:=⟨r.k,r.f,r.n,r.wk,r.wv,r.wd,r.key,r.en,ns⟩
instance (k:ByteArray):Decidable (okK9 k):=by unfold okK9;infer_instance
def okWr(k v:ByteArray)(d:Bool):Prop:=okK9 k/\v.size<=1024/\(v.size=0\/d=false)
instance (k v:ByteArray) (d:Bool):Decidable (okWr k v d):=by unfold okWr;infer_instance
def noWr(k v:ByteArray)(d:Bool):Prop:=k.size=0/\v.size=0/\d=false
instance (k v:ByteArray) (d:Bool):Decidable (noWr k v d):=by unfold noWr;infer_instance
def Ab:Int->List Int->Prop
 |_,[]=>True
 |a,n::ns=>a<n/\n<=65536/\Ab n ns
def okR(r:Rq):Prop:=r.f≠0/\0<=r.n/\r.n<=65536 /\
 (
  (r.k=1/\(r.key.size=0/\r.en.size=0)/\r.bs=[]/\0<r.f/\0<r.n/\okWr r.wk r.wv r.wd) \/
  (r.k=2/\noWr r.wk r.wv r.wd/\r.bs=[]/\okK9 r.key/\r.en.size=0) \/
  (r.k=3/\noWr r.wk r.wv r.wd/\r.bs=[]/\r.key.size<=64/\r.en.size<=64) \/
  (r.k=4/\noWr r.wk r.wv r.wd/\(r.key.size=0/\r.en.size=0)/\r.bs=[]) \/
  (r.k=5/\noWr r.wk r.wv r.wd/\(r.key.size=0/\r.en.size=0)/\Ab r.n r.bs))
theorem zbq(s:ByteArray):(s.toList==([]:List UInt8))=decide (s.size=0):=by
 have:=zca s;by_cases h:s.size=0
 .rw[this.2 h];simp[h]
 simp[h,this]
theorem zde(key:ByteArray)(w:World):Calls prog 293 #[.string key] w fun e w'=>e=.returned (.bool (decide (okK9 key)))/\w=w':=by
 have hE:=zbq key;have hE2:(key.toList != ([]:List UInt8))= !decide (key.size=0):=by rw[bne,hE]
 by_cases h:key.size=0
 .have hd:decide (okK9 key)=false:=decide_eq_false (fun h2=>by have:=h2.1;omega);rw[hd];simp only[h,decide_true,Bool.not_true]at hE hE2;have e0:=eNil;clear hd;go_enter func293,ntmps293;go_wp2;all_goals (go_ret;exact⟨rfl,rfl⟩)
 have hd:decide (okK9 key)=decide ((key.size:Int)<=64):=by
  rw[Bool.eq_iff_iff,decide_eq_true_eq,decide_eq_true_eq];unfold okK9;omega
 rw[hd];simp only[h,decide_false,Bool.not_false]at hE hE2;have e0:=eNil;clear hd;go_enter func293,ntmps293;go_wp2;all_goals (go_ret;exact⟨rfl,rfl⟩)
theorem zjg(key:ByteArray)(w:World):Calls prog 294 #[.string key] w fun e w'=>e=.returned (.bool (decide (key.size<=64)))/\w=w':=by
 have hE:=zbq key;have e0:=eNil;by_cases h:key.size=0
 .have hd:decide (key.size<=64)=true:=by simp;omega
  rw[hd];simp only[h,decide_true]at hE;clear hd;go_enter func294,ntmps294;go_wp2;all_goals (go_ret;exact⟨rfl,rfl⟩)
 have hd:decide (key.size<=64)=decide (okK9 key):=by
  rw[Bool.eq_iff_iff,decide_eq_true_eq,decide_eq_true_eq];unfold okK9;omega
 rw[hd];simp only[h,decide_false]at hE;clear hd;go_enter func294,ntmps294;go_wp2_with (first|(refine (zde key _).mono ?_;rintro e w1⟨rfl,rfl⟩))
 all_goals (go_ret;exact⟨rfl,rfl⟩)
theorem zqb(k v:ByteArray)(d:Bool)(w:World):Calls prog 292 #[.agg #[.string k,.string v,.bool d]] w fun e w'=>e=.returned (.bool (decide (okWr k v d)))/\Fr [] w w':=by
 have hE:=zbq v;have e0:=eNil;have HF:Hid (Fr [] w (w.alloc (.cells #[.string k,.string v,.bool d] 51))):=Fr.alloc _ _ _;by_cases hk:okK9 k
 .by_cases hv:v.size<=1024
  .by_cases h0:v.size=0
   .have hd:decide (okWr k v d)=true:=(by simp[okWr,hk,h0]);rw[hd];have hv1:(v.size:Int)<=1024:=(by omega);simp only[h0,decide_true]at hE;go_enter func292,ntmps292;go_wp2_with fail
    refine (zde k _).mono ?_;rw[decide_eq_true hk];rintro e w1⟨rfl,rfl⟩;go_wp2;all_goals (go_ret;exact⟨rfl,HF.out⟩)
   have hd:decide (okWr k v d)= !d:=by cases d<;>simp[okWr,hk,hv,h0]
   rw[hd];have hv1:(v.size:Int)<=1024:=by omega
   simp only[h0,decide_false]at hE;go_enter func292,ntmps292;go_wp2_with fail
   refine (zde k _).mono ?_;rw[decide_eq_true hk];rintro e w1⟨rfl,rfl⟩;go_wp2;all_goals (go_ret;exact⟨rfl,HF.out⟩)
  have hd:decide (okWr k v d)=false:=by simp[okWr,hv]
  rw[hd];have hv1:¬(v.size:Int)<=1024:=by omega
  go_enter func292,ntmps292;go_wp2_with fail
  refine (zde k _).mono ?_;rw[decide_eq_true hk];rintro e w1⟨rfl,rfl⟩;go_wp2;all_goals (go_ret;exact⟨rfl,HF.out⟩)
 have hd:decide (okWr k v d)=false:=by simp[okWr,hk]
 rw[hd];go_enter func292,ntmps292;go_wp2_with fail
 refine (zde k _).mono ?_;rw[decide_eq_false hk];rintro e w1⟨rfl,rfl⟩;go_wp2;all_goals (go_ret;exact⟨rfl,HF.out⟩)
theorem zxu(ns:List Int)(i:Nat)(h:i<ns.length):ns.drop i=ns.getD i 0::ns.drop (i+1):=by
 rw[List.drop_eq_getElem_cons h];simp[List.getD,h]
theorem zxv(a:Int)(ao:Option Addr)(L cap:Nat)(ns:List Int)(B:Bool)(w:World)(hI:IRs w ao ns)(hL:L=ns.length)(hB:B=true↔Ab a ns) :
  Calls prog 295 #[.int .i64 a,.slice ao L cap] w fun e w'=>e=.returned (.bool B)/\w=w':=by
 have HI:Hid (IRs w ao ns):=hI;have HL:Hid (L=ns.length):=hL;have HB:Hid (B=true↔Ab a ns):=hB;have hLm:L<=17592186044416:=by have:=hI.few;omega
 clear hI hL hB;go_enter func295,ntmps295;go_wp2_with fail
 go_loopw [0,9] (fun cc ii wr=>∃(c:Int)(i:Nat),cc=.int .i64 c/\ii=.int .i64 i/\i<=L/\Hid (Ab a ns↔Ab c (ns.drop i))/\Hid (w=wr)) (fun _ ii _=>L-(RowKit.intOf ii).toNat)
 case atStart=>exact⟨a,0,rfl,rfl,Nat.zero_le _,Iff.rfl,rfl⟩
 obtain⟨c,i,rfl,rfl,hiL,HA,HW⟩:=hrel;by_cases hi:i<L
 .have hi':i<ns.length:=by rw[<-HL.out];exact hi
  obtain⟨b,off,rfl,hb,hc⟩:=HI.out.lies (by omega);have c0:=hc i hi';rw[HW.out]at c0
  have HD:Hid (ns.drop i=ns.getD i 0::ns.drop (i+1)):=zxu ns i hi';obtain⟨n,hn⟩:∃n,n=ns.getD i 0:=⟨_,rfl⟩;rw[<-hn]at c0 HD
  clear hc hb hn;by_cases h1:n<=c
  .have hN:B=false:=by
    cases B with
    |false=>rfl
    |true=>have:=HA.out.1 (HB.out.1 rfl);rw[HD.out]at this;have:=this.1;omega
   clear HA HB HD;subst hN;go_wp2;go_ret;exact⟨rfl,HW.out⟩
  by_cases h2:65536<n
  .have hN:B=false:=by
    cases B with
    |false=>rfl
    |true=>have:=HA.out.1 (HB.out.1 rfl);rw[HD.out]at this;have:=this.2.1;omega
   clear HA HB HD;subst hN;go_wp2;go_ret;exact⟨rfl,HW.out⟩
  have HA2:Hid (Ab a ns↔Ab n (ns.drop (i+1))):=HA.out.trans (by rw[HD.out];exact⟨fun h=>h.2.2,fun h=>⟨by omega,by omega,h⟩⟩);clear HA HD;go_wp2_with fail
  go_roundw;case rel=>exact⟨n,i+1,rfl,by simp,by omega,HA2,HW⟩
  case measure=>simp[RowKit.intOf];omega
 have hN:B=true:=by
  refine HB.out.2 (HA.out.2 ?_);rw[List.drop_of_length_le (by have:=HL.out;omega)];trivial
 clear HA HB;subst hN;go_wp2;go_ret;exact⟨rfl,HW.out⟩
theorem ztk:prog.underlying 28=some (.slice 3):=by kernel_rfl
theorem zafa:(prog.info? 3).map (fun i=>(i.zero,i.size,i.bytes))=some (some (.int .i64 0),1,8):=by kernel_rfl
theorem zog:∃i,prog.info? 3=some i/\i.zero=some (.int .i64 0)/\i.size=1/\i.bytes=8:=by
 have h:=zafa;cases hi:prog.info? 3 with
 |none=>rw[hi]at h;cases h
 |some i=>
  rw[hi]at h
  simp only[Option.map_some,Option.some.injEq,Prod.mk.injEq]at h;exact⟨i,rfl,h.1,h.2.1,h.2.2⟩
def zie(ns:List Int):List Value:=ns.map fun n=> .int .i64 n
theorem zjh(ns:List Int):(zie ns).length=ns.length:=by simp[zie]
theorem znk(ns:List Int)(j:Nat)(h:j<ns.length):(zie ns)[j]? = some (.int .i64 (ns.getD j 0)):=by simp[zie,List.getD,h]
theorem zve(ao:Option Addr)(L cap:Nat)(ns:List Int)(w:World)(hI:IRs w ao ns)(hL:L=ns.length)(hc:L<=131072) :
  Calls prog 286 #[.slice ao L cap] w fun e w'=>∃ro rc,e=.returned (.slice ro L rc)/\IRs w' ro ns/\(∀a,ro=some a->w.heap.size<=a.block/\∃cur,w'.heap[a.block]? = some (.cells cur 3 (0,0)))/\Fr [] w w':=by
 have q22:∀(w:World)(a:Option Addr)(n c n' c':Nat),(binOp .eql 28 (.slice a n c) (.slice none n' c')).run prog w=.ok (.bool a.isNone) w:=fun w a n c n' c'=>Lib.run_eql_slice_nil w _ _ a n c n' c' ztk;cases ao with
 |none=>
  obtain rfl:L=0:=by
   rcases Nat.eq_zero_or_pos ns.length with h|h
   .omega
   obtain⟨b,off,e,_⟩:=hI.lies h;cases e
  obtain rfl:ns=[]:=List.eq_nil_of_length_eq_zero hL.symm;clear hI hL;go_enter func286,ntmps286;go_wp2;go_ret;exact⟨none,0,rfl,⟨fun h=>by simp at h,by simp⟩,fun a e=>(by cases e),Fr.refl _ _⟩
 |some a=>
  obtain⟨i0,hi,hz0,hz1,hz2⟩:=zog;have hc2:Hid (∀j u,(zie ns)[j]? = some u->w.cell? (a.add j)=some u):=by
   intro j u hu;have hj:j<ns.length:=by have:=(List.getElem?_eq_some_iff.1 hu).1;rwa [zjh]at this
   obtain⟨b,off,e,_,hcc⟩:=hI.lies (by omega);cases e;rw[Addr.add_lit,hcc j hj];rw[znk ns j hj]at hu
   exact hu
  have HL:Hid (L=ns.length):=hL;have HF:Hid (ns.length<=131072):=by show _<=_;omega
  clear hI hL;go_enter func286,ntmps286;go_wp2_with (at_builtin;refine wpList_append_own _ rfl _ _ 28 rfl w.heap.size 3 i0 (.int .i64 0) 1 8 ztk hi hz0 hz1 hz2 rfl (by decide) _ _ _ rfl (World.ownsRow_made w #[] 0 (Nat.le_refl _) (Nat.zero_le _) (by simp)) a L cap (zie ns) rfl ?qc1 ?qc2 ?qc3 ?qc4 ?qc5 ?qc6 ?_)
  case qc1=>rw[zjh,HL.out,Nat.mul_one]
  case qc2=>
   intro j u hj;exact Lib.cell?_alloc_some _ (hc2.out j u hj)
  case qc3=>
   intro u hu;obtain⟨_,_,rfl⟩:=List.mem_map.1 hu;rfl
  case qc4=>rw[Nat.zero_add];have:=HL.out;have:=HF.out;simp only[maxLen];omega
  case qc5=>rw[Nat.zero_add];have:=HL.out;have:=HF.out;omega
  case qc6=>simp
  intro v' w1 hown hgrow hnil;obtain⟨ro,rc,rfl⟩:∃ro rc,v'=.slice ro L rc:=by
   rcases hown.2 with⟨hh,h0⟩|⟨g,cap',_,hh,_⟩
   .exact⟨none,0,by
     rw[hh];have:L=0:=by omega
     rw[this]⟩
   exact⟨_,cap',by rw[hh]⟩
  have HO:Hid (IRs w1 ro ns/\(∀a,ro=some a->w.heap.size<=a.block/\∃cur,w1.heap[a.block]? = some (.cells cur 3 (0,0)))/\Fr [] w w1):=by
   have hown2:w1.ownsRow w.heap.size 3 1 (.slice ro L rc) L (zie ns):=by simpa using hown
   refine⟨?_,?_,(Fr.alloc [] w _).on (Fr.grown (S:=[w.heap.size]) hgrow (by intro k hk _;simp[Value.ownBlock]at hk;simp[hk])) (by simp)⟩
   .rcases hown2.2 with⟨hv,h0⟩|⟨g,cap',cur,hv,hbase,hg,h1,h2,h3,ht⟩
    .have:ns=[]:=List.eq_nil_of_length_eq_zero (by have:=HL.out;omega);subst this;exact⟨fun h=>by simp at h,by simp⟩
    cases hv;refine⟨fun h0=>⟨g,0,rfl,lt_of_block hg,fun i hi=> ?_⟩,by have:=HF.out;omega⟩;rw[crw hg,Nat.zero_add,<-Array.getElem?_toList,<-znk ns i hi,<-ht,List.getElem?_take_of_lt (by have:=HL.out;omega)]
   intro a' e;rcases hown2.2 with⟨hv,h0⟩|⟨g,cap',cur,hv,hbase,hg,h1,h2,h3,ht⟩
   .cases hv;cases e
   cases hv;cases e;exact⟨hbase,cur,hg⟩
  clear hown hgrow hnil;go_wp2;go_ret;exact⟨ro,rc,rfl,HO.out⟩
section
variable{k f n:Int}{wk wv:ByteArray}{wd:Bool}{key en:ByteArray}{bo:Option Addr}{bl bc:Nat}{ns:List Int}
theorem zaii(w:World)(h:f=0\/n<0\/65536<n):Calls prog 285 #[.agg #[.int .u8 k,.int .i64 f,.int .i64 n,.string wk,.string wv,.bool wd,.string key,.string en,.slice bo bl bc]] w fun e w'=>e=.returned (.bool false)/\Fr [] w w':=by
 have HF:Hid (Fr [] w (w.alloc (.cells #[.int .u8 k,.int .i64 f,.int .i64 n,.string wk,.string wv,.bool wd,.string key,.string en,.slice bo bl bc] 310))):=Fr.alloc _ _ _;have e0:=eNil;by_cases h1:f=0
 .subst h1;clear h;go_enter func285,ntmps285;go_wp2;go_ret;exact⟨rfl,HF.out⟩
 by_cases h2:n<0
 .clear h;go_enter func285,ntmps285;go_wp2;go_ret;exact⟨rfl,HF.out⟩
 have h3:65536<n:=by omega
 clear h;go_enter func285,ntmps285;go_wp2;go_ret;exact⟨rfl,HF.out⟩
theorem zaij(w:World)(h1:¬f=0)(h2:¬n<0)(h3:¬65536<n)(KE EE NB NW:Bool)(hKE:(key.toList==([]:List UInt8))=KE)(hEE:(en.toList==([]:List UInt8))=EE)(hNB:decide (bl=0)=NB)(hNW:(wk.toList==([]:List UInt8)&&(wv.toList==([]:List UInt8)&&wd==false))=NW) :
  Calls prog 285 #[.agg #[.int .u8 1,.int .i64 f,.int .i64 n,.string wk,.string wv,.bool wd,.string key,.string en,.slice bo bl bc]] w fun e w'=>e=.returned (.bool (KE&&EE&&NB&&decide (0<f)&&decide (0<n)&&decide (okWr wk wv wd)))/\Fr [] w w':=by
 have HF:Hid (Fr [] w (w.alloc (.cells #[.int .u8 1,.int .i64 f,.int .i64 n,.string wk,.string wv,.bool wd,.string key,.string en,.slice bo bl bc] 310))):=Fr.alloc _ _ _;have e0:=eNil;have hq:∀W,(binOp .eql 51 (.agg #[.string wk,.string wv,.bool wd]) (.agg #[.string ⟨#[]⟩,.string ⟨#[]⟩,.bool false])).run prog W=.ok (.bool NW) W:=fun W=>by rw[zee,eNil,hNW]
 have hNB2:decide ((bl:Int)=0)=NB:=by rw[<-hNB,Bool.eq_iff_iff,decide_eq_true_eq,decide_eq_true_eq];omega
 have hNB3:((bl:Int)==0)=NB:=by rw[<-hNB2];rfl
 clear hNW hNB;cases KE<;>cases EE<;>cases NB
 all_goals (
  go_enter func285,ntmps285;go_wp2_with fail
  go_quiet (fail)
  go_wp2_with (first|(refine (zqb wk wv wd _).mono ?_;rintro e w1⟨rfl,hF1⟩)))
 all_goals (first
  |(go_ret;exact⟨by first|(simp[*];done)|(simp[*];intros;omega),HF.out.then (Fr.drewN _ _ _)⟩)
  |(go_ret;exact⟨by simp[*],(HF.out.then (Fr.drewN _ _ _)).then hF1⟩))
theorem zaik(w:World)(h1:¬f=0)(h2:¬n<0)(h3:¬65536<n)(KE EE NB NW:Bool)(hKE:(key.toList==([]:List UInt8))=KE)(hEE:(en.toList==([]:List UInt8))=EE)(hNB:decide (bl=0)=NB)(hNW:(wk.toList==([]:List UInt8)&&(wv.toList==([]:List UInt8)&&wd==false))=NW) :
  Calls prog 285 #[.agg #[.int .u8 2,.int .i64 f,.int .i64 n,.string wk,.string wv,.bool wd,.string key,.string en,.slice bo bl bc]] w fun e w'=>e=.returned (.bool (NW&&NB&&decide (okK9 key)&&EE))/\Fr [] w w':=by
 have HF:Hid (Fr [] w (w.alloc (.cells #[.int .u8 2,.int .i64 f,.int .i64 n,.string wk,.string wv,.bool wd,.string key,.string en,.slice bo bl bc] 310))):=Fr.alloc _ _ _;have e0:=eNil;have hq:∀W,(binOp .eql 51 (.agg #[.string wk,.string wv,.bool wd]) (.agg #[.string ⟨#[]⟩,.string ⟨#[]⟩,.bool false])).run prog W=.ok (.bool NW) W:=fun W=>by rw[zee,eNil,hNW]
 have hNB2:decide ((bl:Int)=0)=NB:=by rw[<-hNB,Bool.eq_iff_iff,decide_eq_true_eq,decide_eq_true_eq];omega
 have hNB3:((bl:Int)==0)=NB:=by rw[<-hNB2];rfl
 clear hNW hNB;cases KE<;>cases NW<;>cases NB
 all_goals (
  go_enter func285,ntmps285;go_wp2_with fail
  go_quiet (fail)
  go_wp2_with (first|(refine (zde key _).mono ?_;rintro e w1⟨rfl,rfl⟩)))
 all_goals (first
  |(go_ret;exact⟨by first|(simp[*];done)|(simp[*];intros;omega),HF.out.then (Fr.drewN _ _ _)⟩)
  |(go_ret;exact⟨by simp[*],(HF.out.then (Fr.drewN _ _ _)).then hF1⟩))
theorem zail(w:World)(h1:¬f=0)(h2:¬n<0)(h3:¬65536<n)(KE EE NB NW:Bool)(hKE:(key.toList==([]:List UInt8))=KE)(hEE:(en.toList==([]:List UInt8))=EE)(hNB:decide (bl=0)=NB)(hNW:(wk.toList==([]:List UInt8)&&(wv.toList==([]:List UInt8)&&wd==false))=NW) :
  Calls prog 285 #[.agg #[.int .u8 3,.int .i64 f,.int .i64 n,.string wk,.string wv,.bool wd,.string key,.string en,.slice bo bl bc]] w fun e w'=>e=.returned (.bool (NW&&NB&&decide (key.size<=64)&&decide (en.size<=64)))/\Fr [] w w':=by
 have HF:Hid (Fr [] w (w.alloc (.cells #[.int .u8 3,.int .i64 f,.int .i64 n,.string wk,.string wv,.bool wd,.string key,.string en,.slice bo bl bc] 310))):=Fr.alloc _ _ _;have e0:=eNil;have hq:∀W,(binOp .eql 51 (.agg #[.string wk,.string wv,.bool wd]) (.agg #[.string ⟨#[]⟩,.string ⟨#[]⟩,.bool false])).run prog W=.ok (.bool NW) W:=fun W=>by rw[zee,eNil,hNW]
 have hNB2:decide ((bl:Int)=0)=NB:=by rw[<-hNB,Bool.eq_iff_iff,decide_eq_true_eq,decide_eq_true_eq];omega
 have hNB3:((bl:Int)==0)=NB:=by rw[<-hNB2];rfl
 clear hNW hNB;cases KE<;>cases NW<;>cases NB
 all_goals (
  go_enter func285,ntmps285;go_wp2_with fail
  go_quiet (fail)
  go_wp2_with (first|(with_reducible refine (zjg key _).mono ?_;rintro e w1⟨rfl,rfl⟩)|(with_reducible refine (zjg en _).mono ?_;rintro e w1⟨rfl,rfl⟩)))
 all_goals (first
  |(go_ret;exact⟨by first|(simp[*];done)|(simp[*];intros;omega),HF.out.then (Fr.drewN _ _ _)⟩)
  |(go_ret;exact⟨by simp[*],(HF.out.then (Fr.drewN _ _ _)).then hF1⟩))
theorem zaim(w:World)(h1:¬f=0)(h2:¬n<0)(h3:¬65536<n)(KE EE NB NW:Bool)(hKE:(key.toList==([]:List UInt8))=KE)(hEE:(en.toList==([]:List UInt8))=EE)(hNB:decide (bl=0)=NB)(hNW:(wk.toList==([]:List UInt8)&&(wv.toList==([]:List UInt8)&&wd==false))=NW) :
  Calls prog 285 #[.agg #[.int .u8 4,.int .i64 f,.int .i64 n,.string wk,.string wv,.bool wd,.string key,.string en,.slice bo bl bc]] w fun e w'=>e=.returned (.bool (NW&&(KE&&EE)&&NB))/\Fr [] w w':=by
 have HF:Hid (Fr [] w (w.alloc (.cells #[.int .u8 4,.int .i64 f,.int .i64 n,.string wk,.string wv,.bool wd,.string key,.string en,.slice bo bl bc] 310))):=Fr.alloc _ _ _;have e0:=eNil;have hq:∀W,(binOp .eql 51 (.agg #[.string wk,.string wv,.bool wd]) (.agg #[.string ⟨#[]⟩,.string ⟨#[]⟩,.bool false])).run prog W=.ok (.bool NW) W:=fun W=>by rw[zee,eNil,hNW]
 have hNB2:decide ((bl:Int)=0)=NB:=by rw[<-hNB,Bool.eq_iff_iff,decide_eq_true_eq,decide_eq_true_eq];omega
 have hNB3:((bl:Int)==0)=NB:=by rw[<-hNB2];rfl
 clear hNW hNB;cases KE<;>cases EE<;>cases NW<;>cases NB
 all_goals (
  go_enter func285,ntmps285;go_wp2_with fail
  go_quiet (fail)
  go_wp2_with (fail))
 all_goals (first
  |(go_ret;exact⟨by first|(simp[*];done)|(simp[*];intros;omega),HF.out.then (Fr.drewN _ _ _)⟩)
  |(go_ret;exact⟨by simp[*],(HF.out.then (Fr.drewN _ _ _)).then hF1⟩))
theorem zain(w:World)(h1:¬f=0)(h2:¬n<0)(h3:¬65536<n)(KE EE NB NW:Bool)(hKE:(key.toList==([]:List UInt8))=KE)(hEE:(en.toList==([]:List UInt8))=EE)(hNB:decide (bl=0)=NB)(hNW:(wk.toList==([]:List UInt8)&&(wv.toList==([]:List UInt8)&&wd==false))=NW)(RS:Bool)(hI:IRs w bo ns)(hL:bl=ns.length)(hRS:RS=true↔Ab n ns) :
  Calls prog 285 #[.agg #[.int .u8 5,.int .i64 f,.int .i64 n,.string wk,.string wv,.bool wd,.string key,.string en,.slice bo bl bc]] w fun e w'=>e=.returned (.bool (NW&&(KE&&EE)&&RS))/\Fr [] w w':=by
 have HF:Hid (Fr [] w (w.alloc (.cells #[.int .u8 5,.int .i64 f,.int .i64 n,.string wk,.string wv,.bool wd,.string key,.string en,.slice bo bl bc] 310))):=Fr.alloc _ _ _;have e0:=eNil;have hq:∀W,(binOp .eql 51 (.agg #[.string wk,.string wv,.bool wd]) (.agg #[.string ⟨#[]⟩,.string ⟨#[]⟩,.bool false])).run prog W=.ok (.bool NW) W:=fun W=>by rw[zee,eNil,hNW]
 have hNB2:decide ((bl:Int)=0)=NB:=by rw[<-hNB,Bool.eq_iff_iff,decide_eq_true_eq,decide_eq_true_eq];omega
 have hNB3:((bl:Int)==0)=NB:=by rw[<-hNB2];rfl
 have HRi:Hid (∀W,Fr [] (w.alloc (.cells #[.int .u8 5,.int .i64 f,.int .i64 n,.string wk,.string wv,.bool wd,.string key,.string en,.slice bo bl bc] 310)) W->Calls prog 295 #[.int .i64 n,.slice bo bl bc] W fun e w1=>e=.returned (.bool RS)/\W=w1):=fun W hf=>zxv n bo bl bc ns RS W (hI.keep (HF.out.then hf)) hL hRS;clear hI hL hRS;clear hNW hNB;cases KE<;>cases EE<;>cases NW
 all_goals (
  go_enter func285,ntmps285;go_wp2_with fail
  go_quiet (fail)
  go_wp2_with (first|(with_reducible refine (HRi.out _ (Fr.drewN _ _ _)).mono ?_;rintro e w1⟨rfl,rfl⟩)))
 all_goals (first
  |(go_ret;exact⟨by first|(simp[*];done)|(simp[*];intros;omega),HF.out.then (Fr.drewN _ _ _)⟩)
  |(go_ret;exact⟨by simp[*],(HF.out.then (Fr.drewN _ _ _)).then hF1⟩))
theorem zaio(w:World)(h1:¬f=0)(h2:¬n<0)(h3:¬65536<n)(KE EE NB NW:Bool)(hKE:(key.toList==([]:List UInt8))=KE)(hEE:(en.toList==([]:List UInt8))=EE)(hNB:decide (bl=0)=NB)(hNW:(wk.toList==([]:List UInt8)&&(wv.toList==([]:List UInt8)&&wd==false))=NW)(g1:¬k=1)(g2:¬k=2)(g3:¬k=3)(g4:¬k=4)(g5:¬k=5) :
  Calls prog 285 #[.agg #[.int .u8 k,.int .i64 f,.int .i64 n,.string wk,.string wv,.bool wd,.string key,.string en,.slice bo bl bc]] w fun e w'=>e=.returned (.bool (false))/\Fr [] w w':=by
 have HF:Hid (Fr [] w (w.alloc (.cells #[.int .u8 k,.int .i64 f,.int .i64 n,.string wk,.string wv,.bool wd,.string key,.string en,.slice bo bl bc] 310))):=Fr.alloc _ _ _;have e0:=eNil;have hq:∀W,(binOp .eql 51 (.agg #[.string wk,.string wv,.bool wd]) (.agg #[.string ⟨#[]⟩,.string ⟨#[]⟩,.bool false])).run prog W=.ok (.bool NW) W:=fun W=>by rw[zee,eNil,hNW]
 have hNB2:decide ((bl:Int)=0)=NB:=by rw[<-hNB,Bool.eq_iff_iff,decide_eq_true_eq,decide_eq_true_eq];omega
 have hNB3:((bl:Int)==0)=NB:=by rw[<-hNB2];rfl
 clear hNW hNB;cases KE;all_goals (
  go_enter func285,ntmps285;go_wp2_with fail
  go_quiet (fail)
  go_wp2_with (fail))
 all_goals (first
  |(go_ret;exact⟨by first|(simp[*];done)|(simp[*];intros;omega),HF.out.then (Fr.drewN _ _ _)⟩)
  |(go_ret;exact⟨by simp[*],(HF.out.then (Fr.drewN _ _ _)).then hF1⟩))
theorem zqc(x:Rv)(ns:List Int)(B:Bool)(w:World)(h:RqB w x ns)(hB:B=true↔okR (x.q ns)):Calls prog 285 #[x.v] w fun e w'=>e=.returned (.bool B)/\Fr [] w w':=by
 obtain⟨k,f,n,wk,wv,wd,key,en,bo,bl,bc⟩:=x;have hlen:bl=ns.length:=h.len;have hI:IRs w bo ns:=h.is;by_cases h0:f=0\/n<0\/65536<n
 .have hBf:B=false:=by
   cases B with
   |false=>rfl
   |true=>obtain⟨a1,a2,a3,_⟩:=hB.1 rfl;simp only[Rv.q]at a1 a2 a3;omega
  subst hBf;exact zaii w h0
 have h1:¬f=0:=by omega
 have h2:¬n<0:=by omega
 have h3:¬65536<n:=by omega
 have h2':0<=n:=by omega
 have h3':n<=65536:=by omega
 have hnb:decide (bl=0)=decide (ns=[]):=by
  rw[Bool.eq_iff_iff,decide_eq_true_eq,decide_eq_true_eq,hlen];exact List.length_eq_zero_iff
 have hnw:(wk.toList==([]:List UInt8)&&(wv.toList==([]:List UInt8)&&wd==false))=decide (noWr wk wv wd):=by
  rw[zbq,zbq];cases wd<;>simp[noWr]
 obtain⟨RS,hRS⟩:∃RS:Bool,RS=true↔Ab n ns:=by
  by_cases hh:Ab n ns
  .exact⟨true,fun _=>hh,fun _=>rfl⟩
  exact⟨false,fun e=>(by cases e),fun e=>absurd e hh⟩
 have fin:∀R:Bool,(R=true↔okR ⟨k,f,n,wk,wv,wd,key,en,ns⟩)->R=B:=fun R hR=>by
  rw[Bool.eq_iff_iff,hR];exact hB.symm
 by_cases g1:k=1
 .subst g1;rw[<-fin _ ?_]
  .exact zaij w h1 h2 h3 _ _ _ _ (zbq key) (zbq en) hnb hnw
  simp[okR,h1,h2',h3',and_assoc]
 by_cases g2:k=2
 .subst g2;rw[<-fin _ ?_]
  .exact zaik w h1 h2 h3 _ _ _ _ (zbq key) (zbq en) hnb hnw
  simp[okR,h1,h2',h3',and_assoc]
 by_cases g3:k=3
 .subst g3;rw[<-fin _ ?_]
  .exact zail w h1 h2 h3 _ _ _ _ (zbq key) (zbq en) hnb hnw
  simp[okR,h1,h2',h3',and_assoc]
 by_cases g4:k=4
 .subst g4;rw[<-fin _ ?_]
  .exact zaim w h1 h2 h3 _ _ _ _ (zbq key) (zbq en) hnb hnw
  simp[okR,h1,h2',h3',and_assoc]
 by_cases g5:k=5
 .subst g5;rw[<-fin _ ?_]
  .exact zain w h1 h2 h3 _ _ _ _ (zbq key) (zbq en) hnb hnw RS hI hlen hRS
  simp[okR,hRS,h1,h2',h3',and_assoc]
 rw[<-fin _ ?_]
 .exact zaio w h1 h2 h3 _ _ _ _ (zbq key) (zbq en) hnb hnw g1 g2 g3 g4 g5
 simp[okR,g1,g2,g3,g4,g5]
end
end Go.Proofs.YtaigdcmoecgabaaGreat.O
