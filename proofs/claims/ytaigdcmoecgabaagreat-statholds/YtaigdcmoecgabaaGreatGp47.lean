/- Contracts and lemmas. -/
import Derived.Test.YtaigdcmoecgabaaGreatGp46
import Derived.Test.YtaigdcmoecgabaaGreatGp4
set_option maxHeartbeats 32000000
set_option maxRecDepth 100000
set_option linter.unusedSimpArgs false
set_option linter.unusedVariables false
namespace Go.Proofs.YtaigdcmoecgabaaGreat.S6
open Go.ChangeShapes Go.WideShapes Go.ChangeAt Go.RowKit Go.Lib
def NR(w:World)(g:Nat)(ns:List Int):Prop:=w.heap[g]? = some (.cells (ns.map (Value.int .i64)).toArray 3 (0,0))
theorem NR.keep{S:List Nat}{w w':World}{g:Nat}{ns:List Int}(h:NR w g ns)(hf:Fr S w w')(hn:g∉S):NR w' g ns:=hf.keep h hn
theorem NR.cell{w:World}{g:Nat}{ns:List Int}(h:NR w g ns)(i:Nat)(hi:i<ns.length):w.cell? ⟨g,i,none⟩=some (.int .i64 (ns.getD i 0)):=by
 rw[crw h];simp[List.getD,hi]
theorem NR.free{w:World}{g:Nat}{ns:List Int}(h:NR w g ns)(i:Nat):w.frozen? ⟨g,i,none⟩=false:=by
 unfold World.frozen?;rw[h];rfl
theorem NR.put{w:World}{g j:Nat}{ns:List Int}(x:Int)(h:NR w g ns):NR (w.setCell ⟨g,j,none⟩ (.int .i64 x)) g (ns.set j x):=by
 have h0:w.heap[g]? = some (.cells (ns.map (Value.int .i64)).toArray 3 (0,0)):=h;have hlt:=lt_of_block h0;have h':w.heap[g]=.cells (ns.map (Value.int .i64)).toArray 3 (0,0):=by simpa[Array.getElem?_eq_getElem hlt]using h0
 show (w.heap.modify g _)[g]? = _;rw[Array.getElem?_eq_getElem (by simpa using hlt),Array.getElem_modify_self,h'];simp[List.map_set]
theorem zux(n:Nat):(madeCells #[Value.int .i64 0] n).toList=(List.replicate n (0:Int)).map (Value.int .i64):=by
 apply List.ext_getElem?;intro i;by_cases h:i<n
 .simp[madeCells,h,Nat.mod_one]
 simp[madeCells,h]
def lnM(L:Nat)(es:List Ev)(i j:Nat):List Int:=(List.range L).map fun(k:Nat)=>if k<j then cntL es ((k:Int)+1) (i+1) else cntL es ((k:Int)+1) i
theorem zeq(L:Nat)(es:List Ev)(i j:Nat):(lnM L es i j).length=L:=by simp[lnM]
theorem zya(L:Nat)(es:List Ev)(i:Nat):lnM L es i 0=lnS L es i:=by simp[lnM,lnS]
theorem zaam(L:Nat)(es:List Ev)(i:Nat):lnM L es i L=lnS L es (i+1):=by
 apply List.ext_getElem
 .simp[lnM,lnS]
 intro k h1 h2;rw[zeq]at h1
 simp[lnM,lnS,h1]
theorem zyb(L:Nat)(es:List Ev)(i j:Nat)(h:j<L):(lnM L es i j).getD j 0=cntL es ((j:Int)+1) i:=by simp[lnM,List.getD,h]
theorem zaan(L:Nat)(es:List Ev)(i j:Nat)(h:j<L)(hh:hold es ((j:Int)+1) (i+1)=true):(lnM L es i j).set j (cntL es ((j:Int)+1) i+1)=lnM L es i (j+1):=by
 apply List.ext_getElem
 .simp[lnM]
 intro k h1 h2;rw[zeq]at h2
 rw[List.getElem_set];by_cases e:j=k
 .subst e;simp[lnM,cntL,hh]
 rw[if_neg e];by_cases h3:k<j
 .simp[lnM,h3,Nat.lt_succ_of_lt h3]
 simp[lnM,h3,show ¬k<j+1 by omega]
theorem zyc(L:Nat)(es:List Ev)(i j:Nat)(hh:hold es ((j:Int)+1) (i+1)=false):lnM L es i j=lnM L es i (j+1):=by
 apply List.ext_getElem
 .simp[lnM]
 intro k h1 h2;rw[zeq]at h2
 by_cases e:j=k
 .subst e;simp[lnM,cntL,hh]
 by_cases h3:k<j
 .simp[lnM,h3,Nat.lt_succ_of_lt h3]
 simp[lnM,h3,show ¬k<j+1 by omega]
def LnP(g m:Nat)(wS:World)(h:List Bool)(ns:List Int)(W:World):Prop:=BR W g h/\NR W m ns/\Fr [g,m] wS W
theorem ln_ok(L:Nat)(s x q:Int)(eo:Option Addr)(en ec:Nat)(es:List Ev)(w:World)(hc:Cf.may ⟨L,s,x,q⟩)(hE:ERs w eo es)(hen:en=es.length) :
  Calls Tryz.prog 26 #[.agg #[.int .i64 (L:Int),.int .i64 s,.int .i64 x,.int .i64 q],.slice eo en ec] w fun e w'=>∃m,e=.returned (.tuple #[.slice (some ⟨m,0,none⟩) L L,.int .i64 0])/\w.heap.size<=m/\NR w' m (lnS L es en)/\Fr [] w w':=by
 have HC:Hid (∀W,Calls Tryz.prog 56 #[.agg #[.int .i64 (L:Int),.int .i64 s,.int .i64 x,.int .i64 q]] W fun e w'=>e=.returned (.int .i64 0)/\Fr [] W w'):=fun W=>(zbx L s x q W).mono fun e w' h=>⟨by rw[h.1,Cf.err,if_pos hc],h.2⟩;have hL:L<=16:=by have:=hc.1.2;simp only at this;omega
 obtain⟨iB,hiB,hzB,hsB,hbB⟩:=zjd;obtain⟨iI,hiI,hzI,hsI,hbI⟩:=ziu;obtain⟨wb,HW⟩:∃wb,Hid (w.alloc (.cells #[.int .i64 (L:Int),.int .i64 s,.int .i64 x,.int .i64 q] 23)=wb):=⟨_,rfl⟩;have hM:CfM wb w.heap.size L s x q:=by rw[<-HW.out];exact CfM.new w L s x q 23
 have HF:Hid (Fr [] w wb):=by rw[<-HW.out];exact Fr.alloc [] w _
 obtain⟨b,HB⟩:∃b,Hid (w.heap.size=b):=⟨_,rfl⟩;rw[HB.out]at hM
 have HM:Hid (∀W,Fr [] wb W->W.cell? ⟨b,0,none⟩=some (.int .i64 (L:Int))):=fun W hf=>(hM.keep hf).2.1;have HE:Hid (∀W,Fr [] w W->ERs W eo es):=fun W hf=>hE.keep hf;have HL:Hid (en=es.length):=hen;have HFew:Hid (es.length<=4398046511104):=hE.few;have hbb:b<wb.heap.size:=hM.1;obtain⟨_,m0,m1,m2,m3⟩:=hM;clear hE hen hc;go_enter Tryz.func26,Tryz.ntmps26;go_upto_region 1 with fail
 rw[HW.out,HB.out];go_wp2_with fail
 with_reducible refine (HC.out _).mono ?_
 rintro e w1⟨rfl,hF1⟩;have hb1:b<w1.heap.size:=Nat.lt_of_lt_of_le hbb hF1.size;have HF1:Hid (Fr [] wb w1):=hF1;have m0:=HM.out _ hF1;clear hF1 m1 m2 m3;go_upto_region 5 with (at_make;refine wpList_make_full _ rfl (.tmp 19) (.tmp 19) 121 rfl 0 4 iB _ 1 Tryz.undBools hiB hzB hsB .i64 .i64 (L:Int) (L:Int) L rfl rfl rfl rfl ?b2 ?b3 ?b4 ?_)
 case b2=>rw[hbB];omega
 case b3=>unfold maxLen;omega
 case b4=>exact Nat.zero_le _
 intro w3 hown hgrow;rw[zki]at hown
 have hrow:BR w3 w1.heap.size (List.replicate L false):=zkj hown;have hF3:Fr [] w1 w3:=Fr.grown (S:=[]) hgrow (by simp);obtain⟨g,HG⟩:∃g,Hid (w1.heap.size=g):=⟨_,rfl⟩;rw[HG.out]at hrow ⊢
 have hbg:b<g:=by rw[<-HG.out];exact hb1
 have HF3:Hid (Fr [] wb w3):=HF1.out.then hF3;have HG3:Hid (BR w3 g (hs L es 0)):=by show BR _ _ _;rw[zpx];exact hrow
 have m0:=HM.out _ HF3.out;clear hown hgrow hrow hF3 hiB hzB hsB hbB;go_upto_region 6 with (at_make;refine wpList_make_full _ rfl (.tmp 22) (.tmp 22) 28 rfl 0 3 iI _ 1 Tryz.undIs11 hiI hzI hsI .i64 .i64 (L:Int) (L:Int) L rfl rfl rfl rfl ?b2 ?b3 ?b4 ?_)
 case b2=>rw[hbI];omega
 case b3=>unfold maxLen;omega
 case b4=>exact Nat.zero_le _
 intro wS hown hgrow;rw[zux]at hown
 have hrow:NR wS w3.heap.size (List.replicate L 0):=zsk hown;have hF4:Fr [] w3 wS:=Fr.grown (S:=[]) hgrow (by simp);obtain⟨m,HMm⟩:∃m,Hid (w3.heap.size=m):=⟨_,rfl⟩;rw[HMm.out]at hrow ⊢
 have hgm:g<m:=by rw[<-HMm.out];exact lt_of_block HG3.out
 have HFS:Hid (Fr [] w wS):=HF.out.then (HF3.out.then hF4);have H0:Hid (LnP g m wS (hs L es 0) (lnS L es 0) wS):=⟨HG3.out.keep hF4 (by simp),by rw[zxs];exact hrow,Fr.refl _ _⟩;have HW0:Hid (∀W,Fr [g,m] wS W->Fr [] w W):=fun W hf=>HFS.out.on hf (by intro y hy;have:=HB.out;simp at hy;omega);have hmS:m<wS.heap.size:=lt_of_block hrow;clear hown hgrow hrow hF4 hiI hzI hsI hbI m0;go_wp2_with fail
 go_loopw [26] (fun ii wr=>∃(i:Nat),ii=.int .i64 i/\i<=en/\Hid (LnP g m wS (hs L es i) (lnS L es i) wr)) (fun ii _=>en-(RowKit.intOf ii).toNat)
 case atStart=>exact⟨0,rfl,Nat.zero_le _,H0⟩
 obtain⟨i,rfl,hin,HP⟩:=hrel;by_cases hi:i<en
 .have hi':i<es.length:=by rw[<-HL.out];exact hi
  obtain⟨bb,off,rfl,_,hcE⟩:=(HE.out _ (HW0.out _ HP.out.2.2)).lies (by omega);obtain⟨d0,d1,d2,d3,d4,d5⟩:=hcE i hi';obtain⟨E,hEE⟩:∃E,E=es.getD i Ev.no:=⟨_,rfl⟩;rw[<-hEE]at d0 d1 d2 d3 d4 d5
  have HEE:Hid (E=es.getD i Ev.no):=hEE;obtain⟨w5,HW5⟩:∃w5,Hid (wr.alloc (.cells #[.int .i64 E.t,.int .u8 E.k,.int .i64 E.n,.int .i64 E.s,.int .i64 E.c,.int .i64 E.m] 40)=w5):=⟨_,rfl⟩;obtain⟨eb,HEb⟩:∃eb,Hid (wr.heap.size=eb):=⟨_,rfl⟩;have hF5:Fr [] wr w5:=by rw[<-HW5.out];exact Fr.alloc _ _ _
  have hby:w5.heap[eb]? = some (.cells (evA E.t E.k E.n E.s E.c E.m) 40 (0,0)):=by rw[<-HW5.out,<-HEb.out];exact heap_alloc_new wr _
  obtain⟨y0,y1,y2,y3,y4,y5⟩:=zcd hby;have HSee:Hid (Calls Tryz.prog 58 #[.slice (some ⟨g,0,none⟩) L L,.agg #[.int .i64 E.t,.int .u8 E.k,.int .i64 E.n,.int .i64 E.s,.int .i64 E.c,.int .i64 E.m]] w5 fun x w'=>x=.returned (.tuple #[])/\Hid (LnP g m wS (hs L es (i+1)) (lnM L es i 0) w')):=by
   have hz:=zpw g (hs L es i) E w5 (HP.out.1.keep hF5 (by simp)) (by rw[zat];exact hL);rw[zat]at hz
   refine Calls.mono hz fun e w' hh=>⟨hh.1,?_⟩;refine⟨?_,?_,(HP.out.2.2.then (hF5.mono (by simp))).then (hh.2.2.mono (by simp))⟩
   .rw[zpz,<-HEE.out];exact hh.2.1
   rw[zya];exact (HP.out.2.1.keep hF5 (by simp)).keep hh.2.2 (by simp;omega)
  clear hEE hby hF5 hcE;go_upto_region 9 with fail
  rw[HW5.out,HEb.out];clear HW5 HEb;go_wp2_with fail
  with_reducible refine HSee.out.mono ?_
  rintro e w6⟨rfl,HI6⟩;clear d0 d1 d2 d3 d4 d5 y0 y1 y2 y3 y4 y5 HSee;go_wp2_with fail
  go_loopw [35] (fun jj wr=>∃(j:Nat),jj=.int .i64 j/\j<=L/\Hid (LnP g m wS (hs L es (i+1)) (lnM L es i j) wr)) (fun jj _=>L-(RowKit.intOf jj).toNat)
  case atStart=>exact⟨0,rfl,by omega,HI6⟩
  obtain⟨j,rfl,hjL,HI⟩:=hrel;by_cases hj:j<L
  .have z0:=HI.out.1.cell j (by rw[zat];exact hj);rw[zpy L es (i+1) j hj]at z0
   have z1:=HI.out.2.1.cell j (by rw[zeq];exact hj);rw[zyb L es i j hj]at z1
   have z2:=HI.out.2.1.free j;cases hh:hold es ((j:Int)+1) (i+1) with
   |true=>
    rw[hh]at z0
    have HN:Hid (∀W,W=wr.setCell ⟨m,j,none⟩ (.int .i64 (cntL es ((j:Int)+1) i+1))->LnP g m wS (hs L es (i+1)) (lnM L es i (j+1)) W):=by
     rintro W rfl;refine⟨HI.out.1.keep (S:=[m]) (Fr.set _ _ _ (by simp)) (by simp;omega),?_,HI.out.2.2.then (Fr.set _ _ _ (by simp))⟩;rw[<-zaan L es i j hj hh];exact HI.out.2.1.put _
    have hcb:=cntL_le es ((j:Int)+1) i;have hfe:=HFew.out;have hle:=HL.out;generalize cntL es ((j:Int)+1) i=C at z1 HN hcb;have hwr:IntKind.i64.wrap (C+1)=C+1:=by rw[IntKind.wrap_i64];omega
    have hwj:IntKind.i64.wrap ((j:Int)+1)=(j:Int)+1:=by rw[IntKind.wrap_i64];omega
    have HR:Hid (LnP g m wS (hs L es (i+1)) (lnM L es i (j+1)) (wr.setCell ⟨m,j,none⟩ (.int .i64 (C+1)))):=HN.out _ rfl;clear HN hh HI hcb hfe hle;go_wp2_with fail
    go_roundw;case rel=>exact⟨j+1,by simp,by omega,HR⟩
    case measure=>simp[RowKit.intOf];omega
   |false=>
    rw[hh]at z0
    have HR:Hid (LnP g m wS (hs L es (i+1)) (lnM L es i (j+1)) wr):=by
     refine⟨HI.out.1,?_,HI.out.2.2⟩;rw[<-zyc L es i j hh];exact HI.out.2.1
    have hwj:IntKind.i64.wrap ((j:Int)+1)=(j:Int)+1:=by rw[IntKind.wrap_i64];omega
    clear z1 z2 hh HI;go_wp2_with fail
    go_roundw;case rel=>exact⟨j+1,by simp,by omega,HR⟩
    case measure=>simp[RowKit.intOf];omega
  obtain rfl:j=L:=by omega
  have HO:Hid (LnP g m wS (hs j es (i+1)) (lnS j es (i+1)) wr):=by
   rw[<-zaam];exact HI.out
  have hwi:IntKind.i64.wrap ((i:Int)+1)=(i:Int)+1:=by
   have h1:=HFew.out;have h2:=HL.out;rw[IntKind.wrap_i64];omega
  clear HI hj hjL;go_wp2_with fail
  go_roundw;case rel=>exact⟨i+1,by simp,by omega,HO⟩
  case measure=>simp[RowKit.intOf];omega
 obtain rfl:i=en:=by omega
 clear hi hin;go_wp2_with fail
 refine bodyPost_ret (results_tmp2 rfl _ _ _) rfl ?_;exact⟨m,rfl,by have:=HB.out;omega,HP.out.2.1,HW0.out _ HP.out.2.2⟩
theorem Tryz.undSt:Tryz.prog.underlying 65=some (.struct (Tryz.prog.fieldsOf 65)):=by kernel_rfl
theorem Tryz.heldSt:Tryz.prog.stoodInHeld 65=false:=by kernel_rfl
theorem Tryz.fieldsSt:(Tryz.prog.fieldsOf 65).toList.map (fun f=>(f.name == "_",f.type,f.offset))=[(false,3,0),(false,3,1),(false,3,2),(false,3,3),(false,3,4)]:=by kernel_rfl
def zny(x y:Sst):Bool:=x.n==y.n&&(x.i==y.i&&(x.g==y.g&&(x.b==y.b&&x.r==y.r)))
theorem zuy(w:World)(x y:Sst):(Op.equalIn 10000 65 (.agg #[.int .i64 x.n,.int .i64 x.i,.int .i64 x.g,.int .i64 x.b,.int .i64 x.r]) (.agg #[.int .i64 y.n,.int .i64 y.i,.int .i64 y.g,.int .i64 y.b,.int .i64 y.r])).run Tryz.prog w=.ok (zny x y) w:=by
 rw[run_equalIn_struct w 9999 _ _ _ Tryz.undSt Tryz.heldSt];have hF:=Tryz.fieldsSt;obtain⟨l,hl⟩:∃l,l=(Tryz.prog.fieldsOf 65).toList:=⟨_,rfl⟩;rw[<-hl]at hF ⊢
 match l,hF with
 | [f0,f1,f2,f3,f4],hF=>
  simp only[List.map_cons,List.map_nil,List.cons.injEq,Prod.mk.injEq,and_true]at hF;obtain⟨⟨n0,t0,o0⟩,⟨n1,t1,o1⟩,⟨n2,t2,o2⟩,⟨n3,t3,o3⟩,⟨n4,t4,o4⟩⟩:=hF;have m0:f0.name≠ "_" :=by simpa using n0
  have m1:f1.name≠ "_" :=by simpa using n1
  have m2:f2.name≠ "_" :=by simpa using n2
  have m3:f3.name≠ "_" :=by simpa using n3
  have m4:f4.name≠ "_" :=by simpa using n4
  simp only[Op.eqFields,if_pos m0,if_pos m1,if_pos m2,if_pos m3,if_pos m4,t0,t1,t2,t3,t4,o0,o1,o2,o3,o4];rw[zda (zbm w _ 0 _ rfl) (zbm w _ 0 _ rfl) (zgo w x.n y.n)];rw[zda (zbm w _ 1 _ rfl) (zbm w _ 1 _ rfl) (zgo w x.i y.i)];rw[zda (zbm w _ 2 _ rfl) (zbm w _ 2 _ rfl) (zgo w x.g y.g)];rw[zda (zbm w _ 3 _ rfl) (zbm w _ 3 _ rfl) (zgo w x.b y.b)];rw[zda (zbm w _ 4 _ rfl) (zbm w _ 4 _ rfl) (zgo w x.r y.r)];unfold zny;cases (x.n==y.n)<;>cases (x.i==y.i)<;>cases (x.g==y.g)<;>cases (x.b==y.b)<;>cases (x.r==y.r)<;>simp
theorem zacz(w:World)(x y:Sst):(binOp .eql 65 (.agg #[.int .i64 x.n,.int .i64 x.i,.int .i64 x.g,.int .i64 x.b,.int .i64 x.r]) (.agg #[.int .i64 y.n,.int .i64 y.i,.int .i64 y.g,.int .i64 y.b,.int .i64 y.r])).run Tryz.prog w=.ok (.bool (zny x y)) w:=by
 rw[run_eql_struct,zuy];rfl
def lE:List Ev:=[⟨0,3,3,0,0,1⟩,⟨1,4,0,0,0,0⟩,⟨2,4,0,0,0,0⟩,⟨0,7,3,0,0,0⟩,⟨0,7,-1,0,0,0⟩,⟨1,6,0,0,0,0⟩,⟨0,12,-1,0,0,0⟩]
theorem zadr:sta 2 lE 7=⟨7,1,2,2,1⟩:=by rfl
theorem zads:lnS 2 lE 7=[4,5]:=by rfl
def evV(e:Ev):List Value:=[.int .i64 e.t,.int .u8 e.k,.int .i64 e.n,.int .i64 e.s,.int .i64 e.c,.int .i64 e.m]
def bA:Obj:=.cells #[.int .i64 2,.int .i64 1,.int .i64 4,.int .i64 1] 23
def bE:Obj:=.cells (lE.flatMap evV).toArray 40
def wLv(w:World):World:=(w.alloc bA).alloc bE
theorem zada(w:World):Fr [] w (wLv w):=(Fr.alloc [] w _).then (Fr.alloc [] _ _)
theorem zadt(w:World):(wLv w).heap[w.heap.size]? = some bA:=by
 unfold wLv;exact (Fr.alloc [] _ _).keep (heap_alloc_new w bA) (by simp)
theorem zadu(w:World):(wLv w).heap[w.heap.size+1]? = some bE:=by
 unfold wLv;have:=heap_alloc_new (w.alloc bA) bE
 rwa [World.size_alloc]at this
theorem zaao:∀x∈lE,zro x:=fun _ _=>trivial
theorem zqb(w:World):ERs (wLv w) (some ⟨w.heap.size+1,0,none⟩) lE:=by
 have h:=zadu w;refine⟨fun _=>⟨_,0,rfl,lt_of_block h,fun i hi=> ?_⟩,by simp[lE],zaao⟩;have hi7:i<7:=hi;have key:∀j,(wLv w).cell? ⟨w.heap.size+1,j,none⟩=((lE.flatMap evV).toArray)[j]? :=fun j=>crw h;obtain rfl|rfl|rfl|rfl|rfl|rfl|rfl:i=0\/i=1\/i=2\/i=3\/i=4\/i=5\/i=6:=by omega
 all_goals exact⟨by rw[key];rfl,by rw[key];rfl,by rw[key];rfl,by rw[key];rfl,by rw[key];rfl,by rw[key];rfl⟩
theorem zys:Cf.may ⟨(2:Nat),1,4,1⟩:=by simp[Cf.may]
theorem lives_any(w:World):Calls Tryz.prog 22 #[] w fun e w'=>e=.returned (.bool true)/\Fr [] w w':=by
 have HC1:Hid (∀W,Fr [] (wLv w) W->Calls Tryz.prog 25 #[.agg #[.int .i64 2,.int .i64 1,.int .i64 4,.int .i64 1],.slice (some ⟨w.heap.size+1,0,none⟩) 7 7] W fun e w'=>e=.returned (.tuple #[.agg #[.int .i64 7,.int .i64 1,.int .i64 2,.int .i64 2,.int .i64 1],.int .i64 0])/\Fr [] W w'):=fun W hf=>by
  have:=of_ok 2 1 4 1 (some ⟨w.heap.size+1,0,none⟩) 7 7 lE W zys ((zqb w).keep hf) rfl;rw[zadr]at this
  exact this
 have HC2:Hid (∀W,Fr [] (wLv w) W->Calls Tryz.prog 26 #[.agg #[.int .i64 2,.int .i64 1,.int .i64 4,.int .i64 1],.slice (some ⟨w.heap.size+1,0,none⟩) 7 7] W fun e w'=>∃m,e=.returned (.tuple #[.slice (some ⟨m,0,none⟩) 2 2,.int .i64 0])/\W.heap.size<=m/\NR w' m [4,5]/\Fr [] W w'):=fun W hf=>by
  have:=ln_ok 2 1 4 1 (some ⟨w.heap.size+1,0,none⟩) 7 7 lE W zys ((zqb w).keep hf) rfl;rw[zads]at this
  exact this
 have HCf:Hid (∀W,Fr [] (wLv w) W->W.cell? ⟨w.heap.size,0,none⟩=some (.int .i64 2)/\W.cell? ⟨w.heap.size,1,none⟩=some (.int .i64 1)/\W.cell? ⟨w.heap.size,2,none⟩=some (.int .i64 4)/\W.cell? ⟨w.heap.size,3,none⟩=some (.int .i64 1)):=fun W hf=>by
  have h:=hf.keep (zadt w) (by simp);exact⟨by rw[crw h];rfl,by rw[crw h];rfl,by rw[crw h];rfl,by rw[crw h];rfl⟩
 have HF:Hid (Fr [] w (wLv w)):=zada w;obtain⟨wl,hwl⟩:∃wl,wl=wLv w:=⟨_,rfl⟩;have HW:Hid ((w.alloc (.cells #[.int .i64 2,.int .i64 1,.int .i64 4,.int .i64 1] 23)).alloc (.cells #[.int .i64 0,.int .u8 3,.int .i64 3,.int .i64 0,.int .i64 0,.int .i64 1,.int .i64 1,.int .u8 4,.int .i64 0,.int .i64 0,.int .i64 0,.int .i64 0,.int .i64 2,.int .u8 4,.int .i64 0,.int .i64 0,.int .i64 0,.int .i64 0,.int .i64 0,.int .u8 7,.int .i64 3,.int .i64 0,.int .i64 0,.int .i64 0,.int .i64 0,.int .u8 7,.int .i64 (-1),.int .i64 0,.int .i64 0,.int .i64 0,.int .i64 1,.int .u8 6,.int .i64 0,.int .i64 0,.int .i64 0,.int .i64 0,.int .i64 0,.int .u8 12,.int .i64 (-1),.int .i64 0,.int .i64 0,.int .i64 0] 40)=wl):=hwl.symm;rw[<-hwl]at HC1 HC2 HCf HF
 obtain⟨n,hn⟩:∃n,n=w.heap.size:=⟨_,rfl⟩;have HNn:Hid (w.heap.size=n):=hn.symm;rw[<-hn]at HC1 HC2 HCf
 clear hwl hn;go_enter Tryz.func22,Tryz.ntmps22;go_upto_region 3 with fail
 rw[HW.out,HNn.out];obtain⟨k0,k1,k2,k3⟩:=HCf.out wl (Fr.refl _ _);go_wp2_with fail
 with_reducible refine Calls.mono (HC1.out wl (Fr.refl _ _)) ?_
 rintro e w1⟨rfl,hf1⟩;obtain⟨w2,HW2⟩:∃w2,Hid (w1.alloc (.cells #[.int .i64 7,.int .i64 1,.int .i64 2,.int .i64 2,.int .i64 1] 65)=w2):=⟨_,rfl⟩;obtain⟨sb,HSb⟩:∃sb,Hid (w1.heap.size=sb):=⟨_,rfl⟩;have hf2:Fr [] w1 w2:=by rw[<-HW2.out];exact Fr.alloc _ _ _
 have hs2:w2.heap[sb]? = some (.cells (stA 7 1 2 2 1) 65 (0,0)):=by rw[<-HW2.out,<-HSb.out];exact heap_alloc_new _ _
 have HS2:Hid (∀W,Fr [] w2 W->W.heap[sb]? = some (.cells (stA 7 1 2 2 1) 65 (0,0))):=fun W hf=>hf.keep hs2 (by simp);have HF2:Hid (Fr [] wl w2):=hf1.then hf2;clear hf1 k0 k1 k2 k3 HC1 HW hf2 hs2;obtain⟨k0,k1,k2,k3⟩:=HCf.out w2 HF2.out;go_upto_region 4 with fail
 rw[HW2.out,HSb.out];go_wp2_with fail
 with_reducible refine Calls.mono (HC2.out w2 HF2.out) ?_
 rintro e w3⟨m,rfl,_,hN,hf3⟩;have HF3:Hid (Fr [] w2 w3):=hf3;have hr:=HS2.out _ hf3;have q0:w3.cell? ⟨sb,0,none⟩=some (.int .i64 7):=by rw[crw hr];rfl
 have q1:w3.cell? ⟨sb,1,none⟩=some (.int .i64 1):=by rw[crw hr];rfl
 have q2:w3.cell? ⟨sb,2,none⟩=some (.int .i64 2):=by rw[crw hr];rfl
 have q3:w3.cell? ⟨sb,3,none⟩=some (.int .i64 2):=by rw[crw hr];rfl
 have q4:w3.cell? ⟨sb,4,none⟩=some (.int .i64 1):=by rw[crw hr];rfl
 have z0:w3.cell? ⟨m,0,none⟩=some (.int .i64 4):=hN.cell 0 (by simp);have z1:w3.cell? ⟨m,1,none⟩=some (.int .i64 5):=hN.cell 1 (by simp);have he:(binOp .eql 65 (.agg #[.int .i64 7,.int .i64 1,.int .i64 2,.int .i64 2,.int .i64 1]) (.agg #[.int .i64 7,.int .i64 1,.int .i64 2,.int .i64 2,.int .i64 1])).run Tryz.prog w3=.ok (.bool true) w3:=zacz w3 ⟨7,1,2,2,1⟩ ⟨7,1,2,2,1⟩;clear hf3 k0 k1 k2 k3 hN hr;go_wp2_with fail
 go_ret;exact⟨rfl,HF.out.then (HF2.out.then HF3.out)⟩
def evsC:List Ev->List Value
 | []=>[]
 |e::r=>evV e++evsC r
theorem evsC_append(a b:List Ev):evsC (a++b)=evsC a++evsC b:=by
 induction a with
 |nil=>rfl
 |cons v r ih=>simp[evsC,ih]
theorem zyd(a:List Ev)(j c:Nat)(hj:j<a.length)(hc:c<6):(evsC a)[j*6+c]? = (evV (a.getD j Ev.no))[c]? :=by
 induction a generalizing j with
 |nil=>simp at hj
 |cons v r ih=>
  cases j with
  |zero=>
   simp only[evsC,Nat.zero_mul,Nat.zero_add];rw[List.getElem?_append_left (by simp[evV];omega)];simp
  |succ j=>
   simp only[evsC];rw[List.getElem?_append_right (by simp[evV];omega)];have e:(j+1)*6+c-(evV v).length=j*6+c:=by simp[evV];omega
   rw[e,ih j (by simpa using hj)];simp
theorem ERs.of_own{w:World}{base:Nat}{ro:Option Addr}{N rc:Nat}{es:List Ev}(h:w.ownsRow base 40 6 (.slice ro N rc) N (evsC es))(hN:N=es.length)(hl:es.length<=4398046511104)(he:∀x∈es,zro x):ERs w ro es:=by
 rcases h.2 with⟨_,h1⟩|⟨g,cap,cur,hv,_,hg,_,_,_,ht⟩
 .have:es=[]:=List.eq_nil_of_length_eq_zero (by omega);subst this;exact ERs.nil _ _
 cases hv;refine⟨fun h0=>⟨g,0,rfl,lt_of_block hg,fun i hi=> ?_⟩,hl,he⟩;have key:∀c u,c<6->(evV (es.getD i Ev.no))[c]? = some u->w.cell? ⟨g,0+i*6+c,none⟩=some u:=by
  intro c u hc hu;rw[<-zyd es i c hi hc]at hu
  rw[crw hg,<-Array.getElem?_toList,<-hu,<-ht,List.getElem?_take_of_lt (by omega)]
  congr 1
  omega
 exact⟨key 0 _ (by omega) rfl,key 1 _ (by omega) rfl,key 2 _ (by omega) rfl,key 3 _ (by omega) rfl,key 4 _ (by omega) rfl,key 5 _ (by omega) rfl⟩
theorem Tryz.infoEvt:(Tryz.prog.info? 40).map (fun i=>(i.zero,i.size,i.bytes))=some (some (.agg #[.int .i64 0,.int .u8 0,.int .i64 0,.int .i64 0,.int .i64 0,.int .i64 0]),6,48):=by kernel_rfl
def sumL(xs:List Int):Nat->Int
 |0=>0
 |j+1=>sumL xs j+xs.getD j 0
theorem sumL_bound(xs:List Int)(M:Int)(hM:0<=M)(h:∀j,0<=xs.getD j 0/\xs.getD j 0<=M):∀j:Nat,0<=sumL xs j/\sumL xs j<=j*M
 |0=>⟨Int.le_refl _,by simp[sumL]⟩
 |j+1=>by
  obtain⟨h1,h2⟩:=sumL_bound xs M hM h j;obtain⟨h3,h4⟩:=h j;refine⟨by rw[sumL];omega,?_⟩;rw[sumL];have:((j+1:Nat):Int)*M=j*M+M:=by rw[Int.natCast_add];simp[Int.add_mul]
  omega
def zdm(es:List Ev)(m:Nat):Nat->Int
 |0=>0
 |j+1=>zdm es m j+cntL es ((j:Int)+1) m
theorem zlq(L:Nat)(es:List Ev)(m:Nat):∀j,j<=L->sumL (lnS L es m) j=zdm es m j
 |0,_=>rfl
 |j+1,h=>by rw[sumL,zdm,zlq L es m j (by omega),lnS_getD L es m j (by omega)]
theorem zfg(es:List Ev)(m:Nat):∀j,0<=zdm es m j
 |0=>Int.le_refl _
 |j+1=>by have:=zfg es m j;have:=(cntL_le es ((j:Int)+1) m).1;rw[zdm];omega
theorem zkl(es:List Ev)(m:Nat)(L:Nat):∀j,j<=L->zdm es (m+1) j=zdm es m j+(zbv ((hs L es (m+1)).take j):Nat)
 |0,_=>by simp[zdm,zbv]
 |j+1,h=>by
  rw[zdm,zdm,zkl es m L j (by omega),zlp _ j (by rw[zat];omega),zpy L es (m+1) j (by omega)];have e:cntL es ((j:Int)+1) (m+1)=cntL es ((j:Int)+1) m+(if hold es ((j:Int)+1) (m+1)=true then 1 else 0):=rfl;rw[e];split<;>simp<;>omega
theorem znz(L:Nat)(es:List Ev):∀m,(sta L es m).b<=zdm es m L
 |0=>by show (0:Int)<=_;exact zfg es 0 L
 |m+1=>by
  have h1:=znz L es m;have h2:=zkl es m L L (Nat.le_refl _);rw[List.take_of_length_le (by rw[zat];exact Nat.le_refl _)]at h2
  have h3:(sta L es (m+1)).b=max (sta L es m).b (zbv (hs L es (m+1)):Nat):=rfl;have h4:=zfg es m L;have h5:=(sta_b L es m).1;rw[h3];omega
theorem busy_sum(L:Nat)(es:List Ev)(m:Nat):(sta L es m).b<=sumL (lnS L es m) L:=by rw[zlq L es m L (Nat.le_refl _)];exact znz L es m
theorem lag_in(L:Nat)(es:List Ev)(x:Int)(hx:0<=x)(h:∀e∈es,e.k=3->e.n-e.m<=x):∀m,(sta L es m).g<=x
 |0=>hx
 |m+1=>by
  have h1:=lag_in L es x hx h m;have h3:(sta L es (m+1)).g=max (sta L es m).g (dspE (es.getD m Ev.no)):=rfl;have h4:dspE (es.getD m Ev.no)<=x:=by
   unfold dspE;split
   .rename_i hk;unfold lagE;split
    .by_cases hm:m<es.length
     .exact h _ (zul es m hm) hk
     rw[show es.getD m Ev.no=Ev.no by simp[List.getD,List.getElem?_eq_none (by omega:es.length<=m)]]at hk
     cases hk
    exact hx
   exact hx
  rw[h3];omega
def insL:List Ev->Int
 | []=>0
 |e::r=>insE e+insL r
theorem insL_snoc(es:List Ev)(e:Ev):insL (es++[e])=insL es+insE e:=by
 induction es with
 |nil=>simp[insL]
 |cons a r ih=>rw[List.cons_append,insL,insL,ih];omega
theorem zlr(L:Nat)(es:List Ev):∀m,m<=es.length->(sta L es m).i=insL (es.take m)
 |0,_=>rfl
 |m+1,h=>by
  have h3:(sta L es (m+1)).i=(sta L es m).i+insE (es.getD m Ev.no):=rfl;rw[h3,zlr L es m (by omega),zrp es m (by omega),insL_snoc]
theorem sta_ins(L:Nat)(es:List Ev):(sta L es es.length).i=insL es:=by rw[zlr L es es.length (Nat.le_refl _),List.take_length]
end Go.Proofs.YtaigdcmoecgabaaGreat.S6
