/- Contracts and lemmas. -/
import Derived.Test.YtaigdcmoecgabaaGreatGp6
import Derived.Deep.RegionHeld3
set_option maxHeartbeats 8000000
set_option maxRecDepth 100000
set_option linter.unusedSimpArgs false
set_option linter.unusedVariables false
namespace Go.Proofs.YtaigdcmoecgabaaGreat
open Go.ChangeShapes Go.WideShapes Go.ChangeAt Go.RowKit Go.Lib Go.Proofs.Tryz
theorem zfs(s:ByteArray)(B:Bool)(w:World)(hs:s.size<=140737488355328)(hB:B=true↔1<=s.size/\s.size<=64):Calls prog 147 #[.string s] w fun e w'=>e=.returned (.bool B)/\w=w':=by
 have HB:Hid (B=true↔1<=s.size/\s.size<=64):=hB;clear hB;by_cases h1:1<=s.size
 .have h1':(1:Int)<=s.size:=by omega
  by_cases h2:s.size<=64
  .have h2':(s.size:Int)<=64:=by omega
   have HR:Hid (B=true):=HB.out.2 ⟨h1,h2⟩;go_enter func147,ntmps147;go_wp2;go_ret;rw[HR.out];simp[h2']
  have h2':decide ((s.size:Int)<=64)=false:=by simp;omega
  have HR:Hid (B=false):=by show B=false;simpa using fun h:B=true=>h2 (HB.out.1 h).2
  clear h2;go_enter func147,ntmps147;go_wp2;go_ret;rw[HR.out];simp[h2']
 have h1':decide ((1:Int)<=s.size)=false:=by simp;omega
 have h1'':(s.size:Int)<1:=by omega
 have HR:Hid (B=false):=by show B=false;simpa using fun h:B=true=>h1 (HB.out.1 h).1
 clear h1;go_enter func147,ntmps147;go_wp2;go_ret;rw[HR.out];simp
theorem zii(s:ByteArray)(B:Bool)(w:World)(hs:s.size<=140737488355328)(hB:B=true↔s.size<=1024):Calls prog 148 #[.string s] w fun e w'=>e=.returned (.bool B)/\w=w':=by
 have HB:Hid (decide ((s.size:Int)<=1024)=B):=by
  show _=_;cases B with
  |true=>have:=hB.1 rfl;simp;omega
  |false=>
   have:¬s.size<=1024:=fun h=>by have:=hB.2 h;simp at this
   simp;omega
 clear hB;go_enter func148,ntmps148;go_wp2;go_ret;rw[<-HB.out];exact⟨rfl,rfl⟩
def zaiw(e:Ending)(x:Wt):Prop:=∃B:Bool,e=.returned (.bool B)/\(B=true↔okW x)
theorem zvg(key val:ByteArray)(drop:Bool)(w:World)(hk:key.size<=140737488355328)(hv:val.size<=140737488355328) :
  Calls prog 108 #[.agg #[.string key,.string val,.bool drop]] w fun e w'=>zaiw e ⟨key,val,drop⟩/\Fr [] w w':=by
 have hF0:Fr [] w (w.alloc (.cells #[.string key,.string val,.bool drop] 51)):=Fr.alloc [] w _;have HO:Hid (okW ⟨key,val,drop⟩↔(1<=key.size/\key.size<=64)/\val.size<=1024/\(drop=true->val.size=0)):=by
  show _↔_;unfold okW;rw[<-zfc];simp only;constructor
  .rintro⟨a,b,c,d⟩;exact⟨⟨a,b⟩,c,d⟩
  rintro⟨⟨a,b⟩,c,d⟩;exact⟨a,b,c,d⟩
 by_cases h1:1<=key.size/\key.size<=64
 .by_cases h2:val.size<=1024
  .cases drop with
   |true=>
    by_cases h3:val.size=0
    .have h3':((val.size:Int)==0)=true:=by rw[h3];rfl
     have HA:Hid (okW ⟨key,val,true⟩):=HO.out.2 ⟨h1,h2,fun _=>h3⟩;go_enter func108,ntmps108;go_wp2_with fail
     refine (zfs key true _ hk (by simpa using h1)).mono ?_;rintro e w1⟨rfl,rfl⟩;go_wp2_with fail
     refine (zii val true _ hv (by simpa using h2)).mono ?_;rintro e w1⟨rfl,rfl⟩;go_wp2;go_ret;exact⟨⟨true,by simp[h3'],by simp[HA.out]⟩,hF0⟩
    .have h3':((val.size:Int)==0)=false:=by rw[beq_eq_false_iff_ne];omega
     have HA:Hid (¬okW ⟨key,val,true⟩):=fun h=>h3 ((HO.out.1 h).2.2 rfl);clear h3;go_enter func108,ntmps108;go_wp2_with fail
     refine (zfs key true _ hk (by simpa using h1)).mono ?_;rintro e w1⟨rfl,rfl⟩;go_wp2_with fail
     refine (zii val true _ hv (by simpa using h2)).mono ?_;rintro e w1⟨rfl,rfl⟩;go_wp2;go_ret;exact⟨⟨false,by simp[h3'],by simp[HA.out]⟩,hF0⟩
   |false=>
    have HA:Hid (okW ⟨key,val,false⟩):=HO.out.2 ⟨h1,h2,fun h=>by simp at h⟩;go_enter func108,ntmps108;go_wp2_with fail
    refine (zfs key true _ hk (by simpa using h1)).mono ?_;rintro e w1⟨rfl,rfl⟩;go_wp2_with fail
    refine (zii val true _ hv (by simpa using h2)).mono ?_;rintro e w1⟨rfl,rfl⟩;go_wp2;go_ret;exact⟨⟨true,by simp,by simp[HA.out]⟩,hF0⟩
  have HA:Hid (¬okW ⟨key,val,drop⟩):=fun h=>h2 (HO.out.1 h).2.1;go_enter func108,ntmps108;go_wp2_with fail
  refine (zfs key true _ hk (by simpa using h1)).mono ?_;rintro e w1⟨rfl,rfl⟩;go_wp2_with fail
  refine (zii val false _ hv (by simpa using h2)).mono ?_;rintro e w1⟨rfl,rfl⟩;go_wp2;go_ret;exact⟨⟨false,by simp,by simp[HA.out]⟩,hF0⟩
 have HA:Hid (¬okW ⟨key,val,drop⟩):=fun h=>h1 (HO.out.1 h).1;have HB:Hid (false=true↔1<=key.size/\key.size<=64):=⟨fun h=>by simp at h,fun h=>absurd h h1⟩;clear h1;go_enter func108,ntmps108;go_wp2_with fail
 refine (zfs key false _ hk HB.out).mono ?_;rintro e w1⟨rfl,rfl⟩;go_wp2;go_ret;exact⟨⟨false,by simp,by simp[HA.out]⟩,hF0⟩
theorem zkn(n:Int)(B:Bool)(w:World)(hB:B=true↔1<=n/\n<=65536):Calls prog 107 #[.int .i64 n] w fun e w'=>e=.returned (.bool B)/\w=w':=by
 have HB:Hid (B=true↔1<=n/\n<=65536):=hB;clear hB;by_cases h1:1<=n
 .have HR:Hid (decide (n<=65536)=B):=by
   show _=_;cases B with
   |true=>have:=HB.out.1 rfl;simp;omega
   |false=>
    have:¬n<=65536:=fun h=>by have:=HB.out.2 ⟨h1,h⟩;simp at this
    simp;omega
  go_enter func107,ntmps107;go_wp2;go_ret;rw[<-HR.out];exact⟨by simp,rfl⟩
 have h1':n<1:=by omega
 have HR:Hid (B=false):=by show B=false;simpa using fun h:B=true=>h1 (HB.out.1 h).1
 clear h1;go_enter func107,ntmps107;go_wp2;go_ret;rw[HR.out];simp
theorem zfb(n:Int)(ao:Option Addr)(L cap c:Nat)(ws:List Wt)(w:World)(hW:WRs w ao ws)(hL:L=ws.length)(hn0: -9223372036854775808<=n)(hn1:n<=9223372036854775807)(hc:(okT n ws/\c=0)\/(¬okT n ws/\c=1)) :
  Calls prog 68 #[.agg #[.int .i64 n,.slice ao L cap]] w fun e w'=>e=.returned (.int .i64 (c:Int))/\Fr [] w w':=by
 have HC:Hid (_\/_):=hc;have HL:Hid (L=ws.length):=hL;have hLm:L<=140737488355328:=by have:=hW.few;omega
 have hF0:Fr [] w (w.alloc (.cells #[.int .i64 n,.slice ao L cap] 54)):=Fr.alloc _ _ _;have hW1:=hW.keep hF0;clear hc hL;by_cases h1:1<=n/\n<=65536
 .have hN:=fun w=>zkn n true w (by simpa using h1);by_cases h3:32<L
  .have hc1:c=1:=by
    rcases HC.out with⟨h,_⟩|⟨_,h⟩;· exact absurd h.2.2.1 (by rw[<-HL.out];omega)
    exact h
   subst hc1;clear HC;have h3':(32:Int)<L:=by omega
   go_enter func68,ntmps68;go_wp2_with fail
   refine (hN _).mono ?_;rintro e w1⟨rfl,rfl⟩;clear hN;go_wp2;go_ret;exact⟨rfl,hF0⟩
  have h3':(L:Int)<=32:=by omega
  have hd3:decide ((32:Int)<L)=false:=by simp;omega
  clear h3;have c1:(w.alloc (.cells #[.int .i64 n,.slice ao L cap] 54)).cell? ⟨w.heap.size,1,none⟩=some (.slice ao L cap):=crw (heap_alloc_new w _);go_enter func68,ntmps68;go_wp2_with fail
  refine (hN _).mono ?_;rintro e w1⟨rfl,rfl⟩;clear hN;go_wp2_with fail
  obtain⟨w1,HW1⟩:∃w1,Hid (w.alloc (.cells #[.int .i64 n,.slice ao L cap] 54)=w1):=⟨_,rfl⟩;rw[HW1.out]at c1 hF0 hW1 ⊢
  have hlt:w.heap.size<w1.heap.size:=by rw[<-HW1.out];simp
  go_loopw [3] (fun ii wr=>∃(i:Nat),ii=.int .i64 i/\i<=L/\Hid (∀j,j<i->okW (ws.getD j Wt.zero))/\Fr [] w1 wr) (fun ii _=>L-(RowKit.intOf ii).toNat)
  case atStart=>exact⟨0,rfl,Nat.zero_le _,fun j hj=>by omega,Fr.refl _ _⟩
  obtain⟨i,rfl,hiL,HE,hFr⟩:=hrel;have c1r:wr.cell? ⟨w.heap.size,1,none⟩=some (.slice ao L cap):=(World.cell?_of_block (hFr.block _ hlt (by simp))).trans c1;by_cases hi:i<L
  .have hi':i<ws.length:=by rw[<-HL.out];exact hi
   obtain⟨b,off,rfl,_,hc⟩:=(hW1.keep hFr).lies (by omega);obtain⟨d0,d1,d2⟩:=hc i hi';have hm:=hW.each _ (zbz ws i hi');obtain⟨x,hxx⟩:∃x,x=ws.getD i Wt.zero:=⟨_,rfl⟩;rw[<-hxx]at d0 d1 d2 hm
   have HX:Hid (x=ws.getD i Wt.zero):=hxx;clear hxx hc;obtain⟨key,val,drop⟩:=x;simp only at d0 d1 d2 hm;go_wp2_with fail
   refine (zvg key val drop _ hm.1 hm.2).mono ?_;rintro e w2⟨⟨B,rfl,hB⟩,hF2⟩;cases B with
   |false=>
    have hno:¬okW ⟨key,val,drop⟩:=fun h=>by have:=hB.2 h;simp at this
    have hc1:c=1:=by
     rcases HC.out with⟨h,_⟩|⟨_,h⟩;· exact absurd h (zws hi' (HX.out▸hno))
     exact h
    subst hc1;clear HC hB hno;go_wp2;go_ret;exact⟨rfl,hF0.then (hFr.then hF2)⟩
   |true=>
    have HE2:Hid (∀j,j<i+1->okW (ws.getD j Wt.zero)):=by
     intro j hj;by_cases hji:j=i
     .subst hji;rw[<-HX.out];exact hB.1 rfl
     exact HE.out j (by omega)
    clear hB;go_wp2;go_roundw;case rel=>exact⟨i+1,by simp,by omega,HE2,hFr.then hF2⟩
    case measure=>simp[RowKit.intOf];omega
  have hc0:c=0:=by
   rcases HC.out with⟨_,h⟩|⟨h,_⟩
   .exact h
   refine absurd ⟨h1.1,h1.2,by rw[<-HL.out];omega,?_⟩ h;intro x hx;obtain⟨j,hj,rfl⟩:=List.getElem_of_mem hx;have:=HE.out j (by have:=HL.out;omega);simpa[List.getD,hj]using this
  subst hc0;clear HC;go_wp2;go_ret;exact⟨rfl,hF0.then hFr⟩
 have hN:=fun w=>zkn n false w ⟨fun h=>by simp at h,fun h=>absurd h h1⟩;have hc1:c=1:=by
  rcases HC.out with⟨h,_⟩|⟨_,h⟩;· exact absurd ⟨h.1,h.2.1⟩ h1
  exact h
 subst hc1;clear HC h1;go_enter func68,ntmps68;go_wp2_with fail
 refine (hN _).mono ?_;rintro e w1⟨rfl,rfl⟩;clear hN;go_wp2;go_ret;exact⟨rfl,hF0⟩
theorem zko(ts:List Tm)(i:Nat)(h:i<ts.length):ts.drop i=ts.getD i Tm.zero::ts.drop (i+1):=by
 rw[List.drop_eq_getElem_cons h];simp[List.getD,h]
theorem zvh(ao:Option Addr)(L cap c:Nat)(ts:List Tm)(w:World)(hT:TRs w ao ts)(hL:L=ts.length)(hc:Bad 1 (txs ts) c) :
  Calls prog 36 #[.slice ao L cap] w fun e w'=>e=.returned (.int .i64 (c:Int))/\Fr [] w w':=by
 have HC:Hid (Bad 1 (txs ts) c):=hc;have HL:Hid (L=ts.length):=hL;have hLm:L<=140737488355328:=by have:=hT.few;omega
 clear hc hL;go_enter func36,ntmps36;go_wp2_with fail
 go_loopw [3] (fun ii wr=>∃(i:Nat),ii=.int .i64 i/\i<=L/\Hid (Bad (1+i) (txs (ts.drop i)) c)/\Fr [] w wr) (fun ii _=>L-(RowKit.intOf ii).toNat)
 case atStart=>exact⟨0,rfl,Nat.zero_le _,HC.out,Fr.refl _ _⟩
 obtain⟨i,rfl,hiL,HE,hFr⟩:=hrel;by_cases hi:i<L
 .have hi':i<ts.length:=by rw[<-HL.out];exact hi
  obtain⟨bb,off,rfl,hbl,hc⟩:=(hT.keep hFr).lies (by omega);have hx:=hc i hi';have hat:=(hT.keep hFr).each _ (zap ts i hi');obtain⟨x,hxx⟩:∃x,x=ts.getD i Tm.zero:=⟨_,rfl⟩;rw[<-hxx]at hx hat
  have HX:Hid (x=ts.getD i Tm.zero):=hxx;clear hxx hc;obtain⟨n,xo,M,cm,ws⟩:=x;obtain⟨c0,c1⟩:=hx;simp only at c0 c1;have e1:=HE.out;rw[zko ts i hi',<-HX.out]at e1
  have hn0:=hat.n0;have hn1:=hat.n1;simp only at hn0 hn1;have hG:=hFr;have hat1:TArg wr n xo M cm ws:=hat
  have HCe:Hid (∀W,Fr [] wr W->W.cell? ⟨bb,off+i*2,none⟩=some (.int .i64 n)):=fun W hf=>(World.cell?_of_block (hf.block bb hbl (by simp))).trans c0;clear hat
  clear HE HC;rcases e1 with⟨h1,rfl⟩|⟨h1,h2,rfl⟩|⟨h1,h2,h3⟩
  .have HN:Hid (¬okT n ws):=h1;clear h1;go_wp2_with fail
   refine (zfb n xo M cm 1 ws _ hat1.rs hat1.len hn0 hn1 (Or.inr ⟨HN.out,rfl⟩)).mono ?_;rintro e w2⟨rfl,hF2⟩;have hG2:=hG.then hF2;clear hG hF2 hat1;go_wp2;go_ret;exact⟨rfl,hG2⟩
  .have HN:Hid (okT n ws):=h1;have hne:(n != (i:Int)+1)=true:=by rw[bne_iff_ne];have h2':n≠((1+i:Nat):Int):=h2;omega
   clear h1 h2;go_wp2_with fail
   refine (zfb n xo M cm 0 ws _ hat1.rs hat1.len hn0 hn1 (Or.inl ⟨HN.out,rfl⟩)).mono ?_;rintro e w2⟨rfl,hF2⟩;have hG2:=hG.then hF2;have k0:=HCe.out _ hF2;clear hG hF2 hat1 c0 c1;go_wp2;go_ret;exact⟨rfl,hG2⟩
  have HN:Hid (okT n ws/\Bad (1+i+1) (txs (ts.drop (i+1))) c):=⟨h1,h3⟩;have hne:(n != (i:Int)+1)=false:=by rw[bne_eq_false_iff_eq];have h2':n=((1+i:Nat):Int):=h2;omega
  clear h1 h2 h3;go_wp2_with fail
  refine (zfb n xo M cm 0 ws _ hat1.rs hat1.len hn0 hn1 (Or.inl ⟨HN.out.1,rfl⟩)).mono ?_;rintro e w2⟨rfl,hF2⟩;have hG2:=hG.then hF2;have k0:=HCe.out _ hF2;clear hG hF2 hat1 c0 c1;go_wp2;go_roundw;case rel=>exact⟨i+1,by simp,by omega,by show Bad _ _ _;rw[show 1+(i+1)=1+i+1 by omega];exact HN.out.2,hG2⟩
  case measure=>simp[RowKit.intOf];omega
 have hc0:c=0:=by
  have e1:=HE.out;rw[List.drop_eq_nil_of_le (by rw[<-HL.out];omega)]at e1
  exact e1
 subst hc0;clear HC HE;go_wp2;go_ret;exact⟨rfl,hFr⟩
theorem zakr(ao:Option Addr)(L cap c:Nat)(ts:List Tm)(w:World)(hT:TRs w ao ts)(hL:L=ts.length)(hc:Bad 1 (txs ts) c) :
  Calls prog 69 #[.slice ao L cap] w fun e w'=>e=.returned (.int .i64 (c:Int))/\Fr [] w w':=by
 have HC:Hid (Bad 1 (txs ts) c):=hc;have HL:Hid (L=ts.length):=hL;have hLm:L<=140737488355328:=by have:=hT.few;omega
 clear hc hL;go_enter func69,ntmps69;go_wp2_with fail
 go_loopw [3] (fun ii wr=>∃(i:Nat),ii=.int .i64 i/\i<=L/\Hid (Bad (1+i) (txs (ts.drop i)) c)/\Fr [] w wr) (fun ii _=>L-(RowKit.intOf ii).toNat)
 case atStart=>exact⟨0,rfl,Nat.zero_le _,HC.out,Fr.refl _ _⟩
 obtain⟨i,rfl,hiL,HE,hFr⟩:=hrel;by_cases hi:i<L
 .have hi':i<ts.length:=by rw[<-HL.out];exact hi
  obtain⟨bb,off,rfl,hbl,hc⟩:=(hT.keep hFr).lies (by omega);have hx:=hc i hi';have hat:=(hT.keep hFr).each _ (zap ts i hi');obtain⟨x,hxx⟩:∃x,x=ts.getD i Tm.zero:=⟨_,rfl⟩;rw[<-hxx]at hx hat
  have HX:Hid (x=ts.getD i Tm.zero):=hxx;clear hxx hc;obtain⟨n,xo,M,cm,ws⟩:=x;obtain⟨c0,c1⟩:=hx;simp only at c0 c1;have e1:=HE.out;rw[zko ts i hi',<-HX.out]at e1
  have hn0:=hat.n0;have hn1:=hat.n1;simp only at hn0 hn1;have hG:=hFr;have hat1:TArg wr n xo M cm ws:=hat
  have HCe:Hid (∀W,Fr [] wr W->W.cell? ⟨bb,off+i*2,none⟩=some (.int .i64 n)):=fun W hf=>(World.cell?_of_block (hf.block bb hbl (by simp))).trans c0;clear hat
  clear HE HC;rcases e1 with⟨h1,rfl⟩|⟨h1,h2,rfl⟩|⟨h1,h2,h3⟩
  .have HN:Hid (¬okT n ws):=h1;clear h1;go_wp2_with fail
   refine (zfb n xo M cm 1 ws _ hat1.rs hat1.len hn0 hn1 (Or.inr ⟨HN.out,rfl⟩)).mono ?_;rintro e w2⟨rfl,hF2⟩;have hG2:=hG.then hF2;clear hG hF2 hat1;go_wp2;go_ret;exact⟨rfl,hG2⟩
  .have HN:Hid (okT n ws):=h1;have hne:(n != (i:Int)+1)=true:=by rw[bne_iff_ne];have h2':n≠((1+i:Nat):Int):=h2;omega
   clear h1 h2;go_wp2_with fail
   refine (zfb n xo M cm 0 ws _ hat1.rs hat1.len hn0 hn1 (Or.inl ⟨HN.out,rfl⟩)).mono ?_;rintro e w2⟨rfl,hF2⟩;have hG2:=hG.then hF2;have k0:=HCe.out _ hF2;clear hG hF2 hat1 c0 c1;go_wp2;go_ret;exact⟨rfl,hG2⟩
  have HN:Hid (okT n ws/\Bad (1+i+1) (txs (ts.drop (i+1))) c):=⟨h1,h3⟩;have hne:(n != (i:Int)+1)=false:=by rw[bne_eq_false_iff_eq];have h2':n=((1+i:Nat):Int):=h2;omega
  clear h1 h2 h3;go_wp2_with fail
  refine (zfb n xo M cm 0 ws _ hat1.rs hat1.len hn0 hn1 (Or.inl ⟨HN.out.1,rfl⟩)).mono ?_;rintro e w2⟨rfl,hF2⟩;have hG2:=hG.then hF2;have k0:=HCe.out _ hF2;clear hG hF2 hat1 c0 c1;go_wp2;go_roundw;case rel=>exact⟨i+1,by simp,by omega,by show Bad _ _ _;rw[show 1+(i+1)=1+i+1 by omega];exact HN.out.2,hG2⟩
  case measure=>simp[RowKit.intOf];omega
 have hc0:c=0:=by
  have e1:=HE.out;rw[List.drop_eq_nil_of_le (by rw[<-HL.out];omega)]at e1
  exact e1
 subst hc0;clear HC HE;go_wp2;go_ret;exact⟨rfl,hFr⟩
theorem zdx(ao:Option Addr)(L cap c:Nat)(ts:List Tm)(w:World)(hT:TRs w ao ts)(hL:L=ts.length)(hc:Bad 1 (txs ts) c) :
  Calls prog 97 #[.slice ao L cap] w fun e w'=>e=.returned (.int .i64 (c:Int))/\Fr [] w w':=by
 have HC:Hid (Bad 1 (txs ts) c):=hc;have HL:Hid (L=ts.length):=hL;have hLm:L<=140737488355328:=by have:=hT.few;omega
 clear hc hL;go_enter func97,ntmps97;go_wp2_with fail
 go_loopw [8] (fun ii wr=>∃(i:Nat),ii=.int .i64 i/\i<=L/\Hid (Bad (1+i) (txs (ts.drop i)) c)/\Fr [] w wr) (fun ii _=>L-(RowKit.intOf ii).toNat)
 case atStart=>exact⟨0,rfl,Nat.zero_le _,HC.out,Fr.refl _ _⟩
 obtain⟨i,rfl,hiL,HE,hFr⟩:=hrel;by_cases hi:i<L
 .have hi':i<ts.length:=by rw[<-HL.out];exact hi
  obtain⟨bb,off,rfl,hbl,hc⟩:=(hT.keep hFr).lies (by omega);have hx:=hc i hi';have hat:=(hT.keep hFr).each _ (zap ts i hi');obtain⟨x,hxx⟩:∃x,x=ts.getD i Tm.zero:=⟨_,rfl⟩;rw[<-hxx]at hx hat
  have HX:Hid (x=ts.getD i Tm.zero):=hxx;clear hxx hc;obtain⟨n,xo,M,cm,ws⟩:=x;obtain⟨c0,c1⟩:=hx;simp only at c0 c1;have e1:=HE.out;rw[zko ts i hi',<-HX.out]at e1
  have hn0:=hat.n0;have hn1:=hat.n1;simp only at hn0 hn1;have hF1:Fr [] wr (wr.alloc (.cells #[.int .i64 n,.slice xo M cm] 54)):=Fr.alloc _ _ _;have hbx:(wr.alloc (.cells #[.int .i64 n,.slice xo M cm] 54)).heap[wr.heap.size]? = some (.cells #[.int .i64 n,.slice xo M cm] 54 (0,0)):=heap_alloc_new wr _;have hG:=hFr.then hF1;obtain⟨w1,HW1⟩:∃w1,Hid (wr.alloc (.cells #[.int .i64 n,.slice xo M cm] 54)=w1):=⟨_,rfl⟩;rw[HW1.out]at hF1 hbx hG
  have hat1:TArg w1 n xo M cm ws:=TArg.keep hat hF1;have HCe:Hid (∀W,Fr [] w1 W->W.cell? ⟨wr.heap.size,0,none⟩=some (.int .i64 n)):=fun W hf=>by
   have hb:=hf.keep hbx (by simp);rw[crw hb];rfl
  clear hat hF1 hbx;clear HE HC;rcases e1 with⟨h1,rfl⟩|⟨h1,h2,rfl⟩|⟨h1,h2,h3⟩
  .have HN:Hid (¬okT n ws):=h1;clear h1;go_wp2_with fail
   rw[HW1.out];refine (zck n xo M cm 1 ws _ hat1.rs hat1.len hn0 hn1 (Or.inr ⟨HN.out,rfl⟩)).mono ?_;rintro e w2⟨rfl,hF2⟩;have hG2:=hG.then hF2;clear hG hF2 hat1;go_wp2;go_ret;exact⟨rfl,hG2⟩
  .have HN:Hid (okT n ws):=h1;have hne:(n != (i:Int)+1)=true:=by rw[bne_iff_ne];have h2':n≠((1+i:Nat):Int):=h2;omega
   clear h1 h2;go_wp2_with fail
   rw[HW1.out];refine (zck n xo M cm 0 ws _ hat1.rs hat1.len hn0 hn1 (Or.inl ⟨HN.out,rfl⟩)).mono ?_;rintro e w2⟨rfl,hF2⟩;have hG2:=hG.then hF2;have k0:=HCe.out _ hF2;clear hG hF2 hat1 c0 c1;go_wp2;go_ret;exact⟨rfl,hG2⟩
  have HN:Hid (okT n ws/\Bad (1+i+1) (txs (ts.drop (i+1))) c):=⟨h1,h3⟩;have hne:(n != (i:Int)+1)=false:=by rw[bne_eq_false_iff_eq];have h2':n=((1+i:Nat):Int):=h2;omega
  clear h1 h2 h3;go_wp2_with fail
  rw[HW1.out];refine (zck n xo M cm 0 ws _ hat1.rs hat1.len hn0 hn1 (Or.inl ⟨HN.out.1,rfl⟩)).mono ?_;rintro e w2⟨rfl,hF2⟩;have hG2:=hG.then hF2;have k0:=HCe.out _ hF2;clear hG hF2 hat1 c0 c1;go_wp2;go_roundw;case rel=>exact⟨i+1,by simp,by omega,by show Bad _ _ _;rw[show 1+(i+1)=1+i+1 by omega];exact HN.out.2,hG2⟩
  case measure=>simp[RowKit.intOf];omega
 have hc0:c=0:=by
  have e1:=HE.out;rw[List.drop_eq_nil_of_le (by rw[<-HL.out];omega)]at e1
  exact e1
 subst hc0;clear HC HE;go_wp2;go_ret;exact⟨rfl,hFr⟩
def spW:Wt:=⟨⟨#[115,112,97,114,101]⟩,⟨#[]⟩,false⟩
theorem zahb:(prog.info? 51).map (fun i=>(i.zero,i.size,i.bytes))=some (some (.agg #[.string ⟨#[]⟩,.string ⟨#[]⟩,.bool false]),3,40):=by kernel_rfl
theorem zrn:prog.underlying 52=some (.slice 51):=by kernel_rfl
theorem zvx{fn:Func}{p:Tmp}{ty:TypeId}(h:fn.results= #[.cell p ty])(tmps:Array Value)(P:Program)(w:World) :
  (results fn tmps).run P w=((asAddr (tmps.getD p undef)).run P w).andThen fun a w₁=>(loadVar ty a).run P w₁:=by
 simp only[results,h];simp[Sem.run_bind,Result.andThen]
theorem zzo{w:World}{g n:Nat}{xs:List Value}(h:w.ownsRow 0 51 3 (.slice (some ⟨g,0,none⟩) n n) n xs):w.heap[g]? = some (.cells xs.toArray 51 (0,0)):=by
 have hl:=h.1;rcases h.2 with⟨hh,_⟩|⟨g',cap',cur,hh,_,hg,_,_,hcs,ht⟩
 .cases hh
 cases hh;rw[hg]
 congr 2
 rw[<-Array.toList_inj];simp only;rw[<-ht,List.take_of_length_le (by simp[hcs])]
theorem zvy(ao:Option Addr)(L cap:Nat)(ws:List Wt)(w:World)(h:WRs w ao ws)(hLe:L=ws.length)(hL:L<2^21) :
  Calls prog 59 #[.slice ao L cap] w fun e w'=>∃b,e=.returned (.slice (some ⟨b,0,none⟩) L (L+1))/\w.heap.size<=b/\w'.heap[b]? = some (.cells (wtsC (ws++[spW])).toArray 51 (0,0))/\Fr [] w w':=by
 obtain⟨i0,hi,hz0,hz1,hz2⟩:=info_parts zahb;have HL:Hid (L=ws.length):=hLe;clear hLe;go_enter func59,ntmps59;go_wp2_with (at_make;refine wpList_make_own _ rfl (.const (.int .i64 0)) (.tmp 7) 52 rfl 0 51 i0 _ 3 zrn hi hz0 hz1 .i64 .i64 ((L:Int)+1) (L+1) rfl rfl ?bC ?b2 ?b3 ?b4 ?_)
 case bC=>simp
 case b2=>rw[hz2];omega
 case b3=>unfold maxLen;omega
 case b4=>exact Nat.zero_le _
 intro w1 hown hgrow;obtain⟨g,hg⟩:∃g,g=w.heap.size:=⟨_,rfl⟩;have hgw:w.heap.size<=g:=by omega
 rw[<-hg]at hown ⊢
 have h01:Fr [] w w1:=Fr.grown (S:=[]) hgrow (by simp);clear hgrow hg;go_wp2_with fail
 go_loopw [3,4] (fun vv ii wr=>∃i:Nat,vv=.slice (some ⟨g,0,none⟩) i (L+1)/\ii=.int .i64 i/\i<=L/\wr.ownsRow 0 51 3 (.slice (some ⟨g,0,none⟩) i (L+1)) i (wtsC (ws.take i))/\Fr [] w wr) (fun _ ii _=>L-(RowKit.intOf ii).toNat)
 case atStart=>exact⟨0,rfl,rfl,Nat.zero_le _,hown,h01⟩
 obtain⟨i,rfl,rfl,hiL,hO,hF⟩:=hrel;have hsz:=(hO.lt g rfl).2;by_cases hil:i<L
 .have hi':i<ws.length:=by rw[<-HL.out];exact hil
  obtain⟨b,off,e,_,hc⟩:=(h.keep hF).lies (by omega);subst e;obtain⟨d0,d1,d2⟩:=hc i hi';obtain⟨x,hx⟩:∃x,x=ws.getD i Wt.zero:=⟨_,rfl⟩;rw[<-hx]at d0 d1 d2
  have HE:Hid (wtsC (ws.take (i+1))=wtsC (ws.take i)++[.string x.key,.string x.val,.bool x.drop]):=by
   show _=_;rw[zle ws i hi',zel,<-hx];rfl
  clear hc hx;obtain⟨key,val,drop⟩:=x;simp only at d0 d1 d2 HE;go_wp2_with (at_builtin;refine wpList_append_fits _ rfl (.tmp 15) (.tmp 20) 52 rfl 0 51 i0 3 zrn hi hz1 g i (L+1) _ rfl (hO.alloc _) ⟨wr.heap.size,0,none⟩ 1 1 [.string key,.string val,.bool drop] rfl rfl ?c1 ?c2 ?c3 ?_)
  case c1=>intro j u hj;match j,hj with|0,hj=>simp at hj;subst hj;simp[Addr.add]|1,hj=>simp at hj;subst hj;simp[Addr.add]|2,hj=>simp at hj;subst hj;simp[Addr.add]
  case c2=>intro u hu;simp at hu;rcases hu with rfl|rfl|rfl<;>rfl
  case c3=>omega
  intro w2 hO2 hg2;rw[<-HE.out]at hO2
  have hF2:Fr [] w w2:=(hF.then (Fr.alloc [] wr _)).on (Fr.grown (S:=[g]) hg2 (by intro k hk _;cases hk;simp)) (by intro y hy;simp at hy;omega);clear hO hg2 hF d0 d1 d2;go_wp2;go_roundw;case rel=>exact⟨i+1,rfl,by simp,by omega,hO2,hF2⟩
  case measure=>simp[RowKit.intOf];omega
 have hiL':L<=i:=by omega
 obtain rfl:i=L:=by omega
 have HE:Hid (wtsC (ws++[spW])=wtsC (ws.take i)++[.string ⟨#[115,112,97,114,101]⟩,.string ⟨#[]⟩,.bool false]):=by
  show _=_;rw[List.take_of_length_le (by rw[<-HL.out];omega),zel];rfl
 go_wp2_with (at_builtin;refine wpList_append_fits _ rfl (.tmp 22) (.tmp 24) 52 rfl 0 51 i0 3 zrn hi hz1 g i (i+1) _ rfl (hO.alloc _) ⟨wr.heap.size,0,none⟩ 1 1 [.string ⟨#[115,112,97,114,101]⟩,.string ⟨#[]⟩,.bool false] rfl rfl ?c1 ?c2 ?c3 ?_)
 case c1=>intro j u hj;match j,hj with|0,hj=>simp at hj;subst hj;simp[Addr.add]|1,hj=>simp at hj;subst hj;simp[Addr.add]|2,hj=>simp at hj;subst hj;simp[Addr.add]
 case c2=>intro u hu;simp at hu;rcases hu with rfl|rfl|rfl<;>rfl
 case c3=>omega
 intro w2 hO2 hg2;rw[<-HE.out]at hO2
 have hF2:Fr [] w w2:=(hF.then (Fr.alloc [] wr _)).on (Fr.grown (S:=[g]) hg2 (by intro k hk _;cases hk;simp)) (by intro y hy;simp at hy;omega);have HRow:Hid (w2.heap[g]? = some (.cells (wtsC (ws++[spW])).toArray 51 (0,0))):=zzo hO2;clear hO hg2 hF hO2;go_wp2;go_ret;exact⟨g,rfl,hgw,HRow.out,hF2⟩
theorem zsu(n:Int)(ao:Option Addr)(L cap:Nat)(ws:List Wt)(w:World)(h:WRs w ao ws)(hLe:L=ws.length)(hL:L<2^21) :
  Calls prog 28 #[.agg #[.int .i64 n,.slice ao L cap]] w fun e w'=>∃b,e=.returned (.agg #[.int .i64 n,.slice (some ⟨b,0,none⟩) L (L+1)])/\w.heap.size<=b/\w'.heap[b]? = some (.cells (wtsC (ws++[spW])).toArray 51 (0,0))/\Fr [] w w':=by
 have HLe:Hid (L=ws.length):=hLe;clear hLe;obtain⟨w0,HW0⟩:∃w0,Hid ((w.alloc (.cells #[.int .i64 n,.slice ao L cap] 54)).alloc (.cells #[.int .i64 0,.slice none 0 0] 54)=w0):=⟨_,rfl⟩;have hF0:Fr [] w w0:=by rw[<-HW0.out];exact (Fr.alloc [] w _).then (Fr.alloc [] _ _)
 have hb0:w0.heap[w.heap.size]? = some (.cells #[.int .i64 n,.slice ao L cap] 54 (0,0)):=by rw[<-HW0.out];exact (Fr.alloc [] _ _).keep (heap_alloc_new w _) (by simp)
 have hb1:w0.heap[w.heap.size+1]? = some (.cells #[.int .i64 0,.slice none 0 0] 54 (0,0)):=by
  rw[<-HW0.out];have:=heap_alloc_new (w.alloc (.cells #[.int .i64 n,.slice ao L cap] 54)) (.cells #[.int .i64 0,.slice none 0 0] 54);simpa using this
 have HB:Hid (∀W,Fr [] w0 W->W.heap[w.heap.size]? = some (.cells #[.int .i64 n,.slice ao L cap] 54 (0,0))/\W.heap[w.heap.size+1]? = some (.cells #[.int .i64 0,.slice none 0 0] 54 (0,0))):=fun W hf=>⟨hf.keep hb0 (by simp),hf.keep hb1 (by simp)⟩;have hcell:∀W,Fr [] w0 W->W.cell? ⟨w.heap.size,0,none⟩=some (.int .i64 n)/\W.cell? ⟨w.heap.size,1,none⟩=some (.slice ao L cap)/\W.cell? ⟨w.heap.size+1,0,none⟩=some (.int .i64 0)/\W.cell? ⟨w.heap.size+1,1,none⟩=some (.slice none 0 0)/\W.frozen? ⟨w.heap.size+1,0,none⟩=false/\W.frozen? ⟨w.heap.size+1,1,none⟩=false:=by
  intro W hf;obtain⟨a,b⟩:=HB.out W hf;refine⟨?_,?_,?_,?_,?_,?_⟩
  .rw[crw a];rfl
  .rw[crw a];rfl
  .rw[crw b];rfl
  .rw[crw b];rfl
  .simp[World.frozen?,b]
  simp[World.frozen?,b]
 have HCe:Hid (∀W,Fr [] w0 W->_):=hcell;obtain⟨k0,k1,k2,k3,k4,k5⟩:=hcell _ (Fr.drew [] w0);have hT:=zvy ao L cap ws w0.drew (h.keep (hF0.then (Fr.drew [] w0))) HLe.out hL;clear hcell hb0 hb1;have hs0:w0.heap.size=w.heap.size+2:=by rw[<-HW0.out];simp
 go_enter func28,ntmps28;go_upto_region 1 with fail
 rw[HW0.out];first
  |go_loud (go_region_held3 (fun W=>W.cell? ⟨w.heap.size,0,none⟩=some (.int .i64 n)/\W.cell? ⟨w.heap.size,1,none⟩=some (.slice ao L cap)) (go_keep)
    (first
    |(go_at_call 59;with_reducible refine hT.mono ?_;rintro e w1⟨b,rfl,hb,hrow,hF1⟩;have hG1:=(Fr.drew [] w0).then hF1;obtain⟨j0,j1,j2,j3,j4,j5⟩:=HCe.out _ hG1)))
  |fail
 have hbb:b≠w.heap.size+1:=by have:w0.drew.heap.size=w0.heap.size:=rfl;omega
 have hFs:Fr [w.heap.size+1] w1 ((w1.setCell ⟨w.heap.size+1,0,none⟩ (.int .i64 n)).setCell ⟨w.heap.size+1,1,none⟩ (.slice (some ⟨b,0,none⟩) L (L+1))):=(Fr.set w1 ⟨w.heap.size+1,0,none⟩ _ (by simp)).then (Fr.set _ ⟨w.heap.size+1,1,none⟩ _ (by simp));have HR:Hid (_/\_):=⟨hFs.keep hrow (by simp;exact hbb),(hF0.then hG1).on hFs (by intro x hx;simp at hx;omega)⟩;have hbw:w.heap.size<=b:=by have:w0.drew.heap.size=w0.heap.size:=rfl;omega
 clear hFs hrow hF1 hG1 hT;go_wp2;refine bodyPost_ret (v:=(.agg #[.int .i64 n,.slice (some ⟨b,0,none⟩) L (L+1)])) (by rw[zvx rfl];go_simp) rfl ⟨b,rfl,hbw,HR.out.1,HR.out.2⟩
theorem zvz(t:Nat)(ao:Option Addr)(L cap:Nat)(ws:List Wt)(w:World)(h:WRs w ao ws)(hLe:L=ws.length)(hL:L<2^21)(hrow:w.heap[t]? = some (.cells (wtsC (ws++[spW])).toArray 51 (0,0))) :
  Calls prog 71 #[.slice (some ⟨t,0,none⟩) L (L+1),.slice ao L cap] w fun e w'=>e=.returned (.bool true)/\Fr [] w w':=by
 have HL:Hid (L=ws.length):=hLe;clear hLe;have hct:∀j,j<L->WAt w t (j*3) (ws.getD j Wt.zero):=by
  intro j hj;have key:∀c,c<3->w.cell? ⟨t,j*3+c,none⟩=(wtC (ws.getD j Wt.zero))[c]? :=by
   intro c hc;rw[crw hrow];have:=zfk (ws++[spW]) j c (by rw[List.length_append,<-HL.out];simp;omega) hc;have e:(ws++[spW]).getD j Wt.zero=ws.getD j Wt.zero:=by simp[List.getD,List.getElem?_append_left (show j<ws.length by rw[<-HL.out];exact hj)]
   rw[e]at this
   simpa using this
  exact⟨key 0 (by omega),key 1 (by omega),key 2 (by omega)⟩
 have hsp:WAt w t (L*3) spW:=by
  have key:∀c,c<3->w.cell? ⟨t,L*3+c,none⟩=(wtC spW)[c]? :=by
   intro c hc;rw[crw hrow];have:=zfk (ws++[spW]) L c (by rw[List.length_append,<-HL.out];simp) hc;have e:(ws++[spW]).getD L Wt.zero=spW:=by simp[List.getD,HL.out]
   rw[e]at this
   simpa using this
  exact⟨key 0 (by omega),key 1 (by omega),key 2 (by omega)⟩
 have hne:((L:Int) != L)=false:=by simp
 have hgd:=zaew;clear hrow;go_enter func71,ntmps71;go_wp2_with fail
 go_loopw [5] (fun ii wr=>∃(i q:Nat),ii=.int .i64 i/\i<=L/\Hid (wr=w.drewN q)) (fun ii _=>L-(RowKit.intOf ii).toNat)
 case atStart=>exact⟨0,0,rfl,Nat.zero_le _,rfl⟩
 obtain⟨i,q,rfl,hiL,HQ⟩:=hrel;have hce:∀a,wr.cell? a=w.cell? a:=fun a=>by rw[HQ.out];rfl
 by_cases hi:i<L
 .have hi':i<ws.length:=by rw[<-HL.out];exact hi
  obtain⟨b,off,e,_,hc⟩:=h.lies (by omega);subst e;obtain⟨c0,c1,c2⟩:=hct i hi;obtain⟨d0,d1,d2⟩:=hc i hi';obtain⟨x,hxx⟩:∃x,x=ws.getD i Wt.zero:=⟨_,rfl⟩;rw[<-hxx,<-hce]at c0 c1 c2 d0 d1 d2
  clear hxx hct hc hsp hce;have hq:∀w',(Op.equalIn 10000 51 (.agg #[.string x.key,.string x.val,.bool x.drop]) (.agg #[.string x.key,.string x.val,.bool x.drop])).run prog w'=.ok true w':=fun w'=>by rw[zadn w' x x,(zni x x).2 rfl]
  go_wp2_with fail
  go_quiet (fail)
  go_wp2;go_roundw;case rel=>exact⟨i+1,q+nq,by simp,by omega,by show _=_;rw[HQ.out];simp⟩
  case measure=>simp[RowKit.intOf];omega
 have hiL':L<=i:=by omega
 obtain⟨c0,c1,c2⟩:=hsp;rw[<-hce]at c0 c1 c2
 have hFq:Fr [] w wr:=by rw[HQ.out];exact Fr.drewN _ _ _
 clear hct hce;have hq:∀w',(Op.equalIn 10000 51 (.agg #[.string ⟨#[115,112,97,114,101]⟩,.string ⟨#[]⟩,.bool false]) (.agg #[.string ⟨#[115,112,97,114,101]⟩,.string ⟨#[]⟩,.bool false])).run prog w'=.ok true w':=fun w'=>by
  have:=zadn w' spW spW;rw[(zni spW spW).2 rfl]at this
  exact this
 simp only[spW]at c0 c1 c2;go_wp2;go_ret;exact⟨by simp,hFq.then (Fr.alloc [] _ _)⟩
theorem zsv(n:Int)(t:Nat)(ao:Option Addr)(L cap:Nat)(ws:List Wt)(w:World)(h:WRs w ao ws)(hLe:L=ws.length)(hL:L<2^21)(hrow:w.heap[t]? = some (.cells (wtsC (ws++[spW])).toArray 51 (0,0))) :
  Calls prog 38 #[.agg #[.int .i64 n,.slice (some ⟨t,0,none⟩) L (L+1)],.agg #[.int .i64 n,.slice ao L cap]] w fun e w'=>e=.returned (.bool true)/\Fr [] w w':=by
 have HL:Hid (L=ws.length):=hLe;clear hLe;have hF0:Fr [] w ((w.alloc (.cells #[.int .i64 n,.slice (some ⟨t,0,none⟩) L (L+1)] 54)).alloc (.cells #[.int .i64 n,.slice ao L cap] 54)):=(Fr.alloc [] w _).then (Fr.alloc [] _ _);have hX:=zvz t ao L cap ws _ (h.keep hF0) HL.out hL (hF0.keep hrow (by simp));have hnn:(n==n)=true:=by simp
 go_enter func38,ntmps38;go_wp2_with fail
 refine hX.mono ?_;rintro e w1⟨rfl,hF1⟩;have HG:Hid (Fr [] w w1):=hF0.then hF1;clear hX hF1;go_wp2;go_ret;exact⟨by simp,HG.out⟩
def spT:Tm:=⟨7777,none,0,0,[]⟩
def twT(t:Tm)(b:Nat):Tm:=⟨t.n,some ⟨b,0,none⟩,t.L,t.L+1,t.ws⟩
def twTs(ts:List Tm)(ks:List Nat):List Tm:=List.zipWith twT ts ks
theorem zbv(ts:List Tm)(ks:List Nat)(h:ks.length=ts.length):(twTs ts ks).length=ts.length:=by simp[twTs,h]
theorem zzp(ts:List Tm)(ks:List Nat)(t:Tm)(k:Nat)(h:ks.length=ts.length):twTs (ts++[t]) (ks++[k])=twTs ts ks++[twT t k]:=by
 unfold twTs;rw[List.zipWith_append h.symm];rfl
theorem zro{ts:List Tm}{ks:List Nat}{i:Nat}{u:Tm}(h:(twTs ts ks)[i]? = some u):∃t k,ts[i]? = some t/\ks[i]? = some k/\u=twT t k:=by
 unfold twTs at h;rw[List.getElem?_zipWith]at h
 cases ht:ts[i]? with
 |none=>simp[ht]at h
 |some t=>
  cases hk:ks[i]? with
  |none=>simp[ht,hk]at h
  |some k=>simp[ht,hk]at h;exact⟨t,k,rfl,rfl,h.symm⟩
theorem zacw(ts:List Tm)(ks:List Nat)(h:ks.length=ts.length):txs (twTs ts ks)=txs ts:=by
 apply List.ext_getElem?;intro i;unfold txs;rw[List.getElem?_map,List.getElem?_map];by_cases hi:i<ts.length
 .have h1:i<(twTs ts ks).length:=by rw[zbv ts ks h];exact hi
  obtain⟨u,hu⟩:∃u,(twTs ts ks)[i]? = some u:=⟨_,List.getElem?_eq_getElem h1⟩;obtain⟨t,k,ht,hk,rfl⟩:=zro hu;rw[hu,ht];rfl
 rw[List.getElem?_eq_none (by rw[zbv ts ks h];omega),List.getElem?_eq_none (by omega)]
structure Twd(w w':World)(ts:List Tm)(ks:List Nat):Prop where
 len:ks.length=ts.length
 new:∀k∈ks,w.heap.size<=k
 row:∀(i:Nat)(t:Tm)(k:Nat),ts[i]? = some t->ks[i]? = some k->w'.heap[k]? = some (.cells (wtsC (t.ws++[spW])).toArray 51 (0,0))
 apart:ks.Nodup
theorem Twd.nil(w w':World):Twd w w' [] []:=⟨rfl,by simp,by simp,by simp⟩
theorem Twd.keep{S:List Nat}{w w1 w2:World}{ts:List Tm}{ks:List Nat}(h:Twd w w1 ts ks)(hf:Fr S w1 w2)(hn:∀k∈ks,k∉S):Twd w w2 ts ks:=
 ⟨h.len,h.new,fun i t k ht hk=>hf.keep (h.row i t k ht hk) (hn k (List.mem_of_getElem? hk)),h.apart⟩
theorem Twd.lt{w w':World}{ts:List Tm}{ks:List Nat}(h:Twd w w' ts ks):∀k∈ks,k<w'.heap.size:=by
 intro k hk;obtain⟨i,hi⟩:=List.getElem?_of_mem hk;have hl:i<ts.length:=by rw[<-h.len];exact (List.getElem?_eq_some_iff.1 hi).1
 exact lt_of_block (h.row i _ k (List.getElem?_eq_getElem hl) hi)
theorem Twd.snoc{w w1 w2:World}{ts:List Tm}{ks:List Nat}(h:Twd w w1 ts ks)(hf:Fr [] w1 w2)(hw:w.heap.size<=w1.heap.size)(t:Tm)(k:Nat)(hk:w1.heap.size<=k)(hr:w2.heap[k]? = some (.cells (wtsC (t.ws++[spW])).toArray 51 (0,0))):Twd w w2 (ts++[t]) (ks++[k]):=by
 have hl:=h.len;refine⟨by simp[hl],?_,?_,?_⟩
 .intro j hj;rcases List.mem_append.1 hj with hj|hj
  .exact h.new j hj
  simp at hj;omega
 .intro i u j hu hj;by_cases hi:i<ts.length
  .rw[List.getElem?_append_left hi]at hu
   rw[List.getElem?_append_left (by omega)]at hj
   exact hf.keep (h.row i u j hu hj) (by simp)
  have hi2:i=ts.length:=by have:=(List.getElem?_eq_some_iff.1 hu).1;simp at this;omega
  subst hi2;rw[List.getElem?_append_right (Nat.le_refl _)]at hu
  rw[<-hl,List.getElem?_append_right (Nat.le_refl _)]at hj
  simp at hu hj;subst hu hj;exact hr
 rw[List.nodup_append];refine⟨h.apart,by simp,?_⟩;intro a ha b hb;simp at hb;have:=h.lt a ha;omega
def Few(ts:List Tm):Prop:=∀t∈ts,t.L<2^21
theorem zacx{w:World}{g n:Nat}{xs:List Value}(h:w.ownsRow 0 54 2 (.slice (some ⟨g,0,none⟩) n n) n xs):w.heap[g]? = some (.cells xs.toArray 54 (0,0)):=by
 have hl:=h.1;rcases h.2 with⟨hh,_⟩|⟨g',cap',cur,hh,_,hg,_,_,hcs,ht⟩
 .cases hh
 cases hh;rw[hg]
 congr 2
 rw[<-Array.toList_inj];simp only;rw[<-ht,List.take_of_length_le (by simp[hcs])]
theorem zoa{w:World}{e:TypeId}{size:Nat}{v:Value}{n:Nat}{vs:List Value}(h:w.ownsRow 0 e size v n vs):∀k,v.ownBlock=some k->∃cs,w.heap[k]? = some (.cells cs e (0,0)):=by
 intro k hk;rcases h.2 with⟨rfl,_⟩|⟨g,cap,cur,rfl,_,hg,_⟩
 .simp[Value.ownBlock]at hk
 simp[Value.ownBlock]at hk
 subst hk;exact⟨_,hg⟩
theorem zajo:(prog.info? 54).map (fun i=>(i.zero,i.size,i.bytes))=some (some (.agg #[.int .i64 0,.slice none 0 0]),2,32):=by kernel_rfl
theorem zrp:prog.underlying 24=some (.slice 54):=by kernel_rfl
theorem zwa(ao:Option Addr)(L cap:Nat)(ts:List Tm)(w:World)(h:TRs w ao ts)(hLe:L=ts.length)(hL:L<2^21)(hfew:Few ts) :
  Calls prog 7 #[.slice ao L cap] w fun e w'=>∃b ks,e=.returned (.slice (some ⟨b,0,none⟩) L (L+1))/\w.heap.size<=b/\w'.heap[b]? = some (.cells (tmsC (twTs ts ks++[spT])).toArray 54 (0,0))/\Twd w w' ts ks/\Fr [] w w':=by
 obtain⟨i0,hi,hz0,hz1,hz2⟩:=info_parts zajo;have HL:Hid (L=ts.length):=hLe;have HFew:Hid (Few ts):=hfew;clear hLe hfew;go_enter func7,ntmps7;go_wp2_with (at_make;refine wpList_make_own _ rfl (.const (.int .i64 0)) (.tmp 7) 24 rfl 0 54 i0 _ 2 zrp hi hz0 hz1 .i64 .i64 ((L:Int)+1) (L+1) rfl rfl ?bC ?b2 ?b3 ?b4 ?_)
 case bC=>simp
 case b2=>rw[hz2];omega
 case b3=>unfold maxLen;omega
 case b4=>exact Nat.zero_le _
 intro w1 hown hgrow;obtain⟨g,hg⟩:∃g,g=w.heap.size:=⟨_,rfl⟩;have hgw:w.heap.size<=g:=by omega
 rw[<-hg]at hown ⊢
 have h01:Fr [] w w1:=Fr.grown (S:=[]) hgrow (by simp);clear hgrow hg;go_wp2_with fail
 go_loopw [3,4] (fun vv ii wr=>∃(i:Nat)(ks:List Nat),vv=.slice (some ⟨g,0,none⟩) i (L+1)/\ii=.int .i64 i/\i<=L/\wr.ownsRow 0 54 2 (.slice (some ⟨g,0,none⟩) i (L+1)) i (tmsC (twTs (ts.take i) ks))/\Hid (Twd w wr (ts.take i) ks)/\Fr [] w wr) (fun _ ii _=>L-(RowKit.intOf ii).toNat)
 case atStart=>exact⟨0,[],rfl,rfl,Nat.zero_le _,by simpa[twTs,tmsC]using hown,Twd.nil _ _,h01⟩
 obtain⟨i,ks,rfl,rfl,hiL,hO,HW,hF⟩:=hrel;have hsz:=(hO.lt g rfl).2;by_cases hil:i<L
 .have hi':i<ts.length:=by rw[<-HL.out];exact hil
  obtain⟨b,off,e,_,hc⟩:=(h.keep hF).lies (by omega);subst e;obtain⟨d0,d1⟩:=hc i hi';have hat:=(h.keep hF).each _ (zap ts i hi');have hfw:=HFew.out _ (zap ts i hi');obtain⟨x,hx⟩:∃x,x=ts.getD i Tm.zero:=⟨_,rfl⟩;rw[<-hx]at d0 d1 hat hfw
  have HTK:Hid (ts.take (i+1)=ts.take i++[x]):=by show _=_;rw[zex ts i hi',hx]
  clear hc hx;obtain⟨n,xo,M,cm,ws⟩:=x;simp only at d0 d1 hfw;have hat':TArg wr n xo M cm ws:=hat
  go_wp2_with fail
  refine (zsu n xo M cm ws _ hat'.rs hat'.len hfw).mono ?_;rintro e w2⟨k,rfl,hk,hrow2,hF2⟩;have hO2:=zao hO hF2 (by simp);have HW2:Hid (Twd w w2 (ts.take (i+1)) (ks++[k])):=by
   show Twd _ _ _ _;rw[HTK.out];exact HW.out.snoc hF2 hF.size ⟨n,xo,M,cm,ws⟩ k hk hrow2
  have HE:Hid (tmsC (twTs (ts.take (i+1)) (ks++[k]))=tmsC (twTs (ts.take i) ks)++[.int .i64 n,.slice (some ⟨k,0,none⟩) M (M+1)]):=by
   show _=_;rw[HTK.out,zzp _ _ _ _ HW.out.len,zen];rfl
  have hG2:=hF.then hF2;have hs2:=hF2.size;have hgk:g∉(ks++[k]):=by
   intro hm;obtain⟨j,hj⟩:=List.getElem?_of_mem hm;have hl:j<(ts.take (i+1)).length:=by rw[<-HW2.out.len];exact (List.getElem?_eq_some_iff.1 hj).1
   have h1:=HW2.out.row j _ g (List.getElem?_eq_getElem hl) hj;obtain⟨cs,h2⟩:=zoa hO2 g rfl;rw[h1]at h2
   simp at h2
  clear hat hat' hO hrow2 hF2 d0 d1 hF HW;go_wp2_with (at_builtin;refine wpList_append_fits _ rfl (.tmp 15) (.tmp 21) 24 rfl 0 54 i0 2 zrp hi hz1 g i (L+1) _ rfl (hO2.alloc _) ⟨w2.heap.size,0,none⟩ 1 1 [.int .i64 n,.slice (some ⟨k,0,none⟩) M (M+1)] rfl rfl ?c1 ?c2 ?c3 ?_)
  case c1=>intro j u hj;match j,hj with|0,hj=>simp at hj;subst hj;simp[Addr.add]|1,hj=>simp at hj;subst hj;simp[Addr.add]
  case c2=>intro u hu;simp at hu;rcases hu with rfl|rfl<;>rfl
  case c3=>omega
  intro w3 hO3 hg3;rw[<-HE.out]at hO3
  have hF3:Fr [g] w2 w3:=((Fr.alloc [] w2 _).mono (by simp)).then (Fr.grown (S:=[g]) hg3 (by intro k hk _;cases hk;simp));have HW3:Hid (Twd w w3 (ts.take (i+1)) (ks++[k])):=HW2.out.keep hF3 (fun j hj=>by intro hh;simp at hh;subst hh;exact hgk hj);have hG3:Fr [] w w3:=hG2.on hF3 (by intro y hy;simp at hy;omega);clear hO2 hg3 hF3 hG2 HW2 hgk;go_wp2;go_roundw;case rel=>exact⟨i+1,ks++[k],rfl,by simp,by omega,hO3,HW3,hG3⟩
  case measure=>simp[RowKit.intOf];omega
 have hiL':L<=i:=by omega
 obtain rfl:i=L:=by omega
 have HTK:Hid (ts.take i=ts):=List.take_of_length_le (by rw[<-HL.out];omega);have HE:Hid (tmsC (twTs ts ks++[spT])=tmsC (twTs (ts.take i) ks)++[.int .i64 7777,.slice none 0 0]):=by
  show _=_;rw[HTK.out,zen];rfl
 have hgk:g∉ks:=by
  intro hm;obtain⟨j,hj⟩:=List.getElem?_of_mem hm;have hl:j<(ts.take i).length:=by rw[<-HW.out.len];exact (List.getElem?_eq_some_iff.1 hj).1
  have h1:=HW.out.row j _ g (List.getElem?_eq_getElem hl) hj;obtain⟨cs,h2⟩:=zoa hO g rfl;rw[h1]at h2
  simp at h2
 go_wp2_with (at_builtin;refine wpList_append_fits _ rfl (.tmp 23) (.tmp 25) 24 rfl 0 54 i0 2 zrp hi hz1 g i (i+1) _ rfl (hO.alloc _) ⟨wr.heap.size,0,none⟩ 1 1 [.int .i64 7777,.slice none 0 0] rfl rfl ?c1 ?c2 ?c3 ?_)
 case c1=>intro j u hj;match j,hj with|0,hj=>simp at hj;subst hj;simp[Addr.add]|1,hj=>simp at hj;subst hj;simp[Addr.add]
 case c2=>intro u hu;simp at hu;rcases hu with rfl|rfl<;>rfl
 case c3=>omega
 intro w2 hO2 hg2;rw[<-HE.out]at hO2
 have hF1:Fr [g] wr w2:=((Fr.alloc [] wr _).mono (by simp)).then (Fr.grown (S:=[g]) hg2 (by intro k hk _;cases hk;simp));have hF2:Fr [] w w2:=hF.on hF1 (by intro y hy;simp at hy;omega);have HRow:Hid (w2.heap[g]? = some (.cells (tmsC (twTs ts ks++[spT])).toArray 54 (0,0))):=zacx hO2;have HW2:Hid (Twd w w2 ts ks):=by
  have:=HW.out.keep hF1 (fun j hj=>by intro hh;simp at hh;subst hh;exact hgk hj);rw[HTK.out]at this
  exact this
 clear hO hg2 hF hO2 hF1 HW hgk;go_wp2;go_ret;exact⟨g,ks,rfl,hgw,HRow.out,HW2.out,hF2⟩
theorem zwb(b:Nat)(ks:List Nat)(w0:World)(ao:Option Addr)(L cap:Nat)(ts:List Tm)(w:World)(h:TRs w ao ts)(hLe:L=ts.length)(hL:L<2^21)(hfew:Few ts)(hT:Twd w0 w ts ks)(hrow:w.heap[b]? = some (.cells (tmsC (twTs ts ks++[spT])).toArray 54 (0,0))) :
  Calls prog 10 #[.slice (some ⟨b,0,none⟩) L (L+1),.slice ao L cap] w fun e w'=>e=.returned (.bool true)/\Fr [] w w':=by
 have HL:Hid (L=ts.length):=hLe;have HFew:Hid (Few ts):=hfew;have HT:Hid (Twd w0 w ts ks):=hT;have hcl:∀j c,j<L+1->c<2->w.cell? ⟨b,j*2+c,none⟩=(tmC ((twTs ts ks++[spT]).getD j Tm.zero))[c]? :=by
  intro j c hj hc;rw[crw hrow];have:=zpj (twTs ts ks++[spT]) j c (by rw[List.length_append,zbv ts ks hT.len,<-hLe];simpa using hj) hc;simpa using this
 have hlb:=lt_of_block hrow;have hct:∀j t k,ts[j]? = some t->ks[j]? = some k->w.cell? ⟨b,j*2,none⟩=some (.int .i64 t.n)/\w.cell? ⟨b,j*2+1,none⟩=some (.slice (some ⟨k,0,none⟩) t.L (t.L+1)):=by
  intro j t k ht hk;have hj:j<ts.length:=(List.getElem?_eq_some_iff.1 ht).1;have hu:(twTs ts ks)[j]? = some (twT t k):=by
   unfold twTs;rw[List.getElem?_zipWith,ht,hk]
  have e:(twTs ts ks++[spT]).getD j Tm.zero=twT t k:=by
   rw[List.getD,List.getElem?_append_left (by rw[zbv ts ks hT.len];exact hj),hu];rfl
  have a:=hcl j 0 (by omega) (by omega);have c:=hcl j 1 (by omega) (by omega);rw[e]at a c
  exact⟨a,c⟩
 have hsp:w.cell? ⟨b,L*2,none⟩=some (.int .i64 7777)/\w.cell? ⟨b,L*2+1,none⟩=some (.slice none 0 0):=by
  have e:(twTs ts ks++[spT]).getD L Tm.zero=spT:=by
   rw[List.getD,List.getElem?_append_right (by rw[zbv ts ks hT.len];omega),zbv ts ks hT.len,hLe];simp
  have a:=hcl L 0 (by omega) (by omega);have c:=hcl L 1 (by omega) (by omega);rw[e]at a c
  exact⟨a,c⟩
 have HCT:Hid (∀j t k,ts[j]? = some t->ks[j]? = some k->_):=hct;have hne:((L:Int) != L)=false:=by simp
 clear hLe hfew hT hrow hcl hct;go_enter func10,ntmps10;go_wp2_with fail
 go_loopw [5] (fun ii wr=>∃(i:Nat),ii=.int .i64 i/\i<=L/\Fr [] w wr) (fun ii _=>L-(RowKit.intOf ii).toNat)
 case atStart=>exact⟨0,rfl,Nat.zero_le _,Fr.refl _ _⟩
 obtain⟨i,rfl,hiL,hFr⟩:=hrel;by_cases hi:i<L
 .have hix:i<ts.length:=by rw[<-HL.out];exact hi
  have hik:i<ks.length:=by rw[HT.out.len];exact hix
  obtain⟨b2,o2,rfl,hlt2,hc2⟩:=(h.keep hFr).lies (by omega);have hy:=hc2 i hix;have haty:=(h.keep hFr).each _ (zap ts i hix);have hfw:=HFew.out _ (zap ts i hix);have hty:ts[i]? = some (ts.getD i Tm.zero):=by simp[List.getD,hix]
  obtain⟨k,hk⟩:∃k,ks[i]? = some k:=⟨_,List.getElem?_eq_getElem hik⟩;obtain⟨c0,c1⟩:=HCT.out i _ k hty hk;have hrowk:=HT.out.row i _ k hty hk;obtain⟨y,hyy⟩:∃y,y=ts.getD i Tm.zero:=⟨_,rfl⟩;rw[<-hyy]at hy haty c0 c1 hrowk hfw
  clear hyy hc2 hty hk;obtain⟨n2,x2,m2,k2,ws2⟩:=y;obtain⟨d0,d1⟩:=hy;simp only at c0 c1 d0 d1 hrowk hfw;have hay:TArg wr n2 x2 m2 k2 ws2:=haty;have hST:=zsv n2 k x2 m2 k2 ws2 wr.drew (hay.rs.keep (Fr.drew [] wr)) hay.len hfw ((hFr.then (Fr.drew [] wr)).keep hrowk (by simp));have p0:wr.drew.cell? ⟨b,i*2,none⟩=some (.int .i64 n2):=(World.cell?_of_block ((hFr.then (Fr.drew [] wr)).block b hlb (by simp))).trans c0;have p1:wr.drew.cell? ⟨b,i*2+1,none⟩=some (.slice (some ⟨k,0,none⟩) m2 (m2+1)):=(World.cell?_of_block ((hFr.then (Fr.drew [] wr)).block b hlb (by simp))).trans c1;have g0:wr.drew.cell? ⟨b2,o2+i*2,none⟩=some (.int .i64 n2):=d0;have g1:wr.drew.cell? ⟨b2,o2+i*2+1,none⟩=some (.slice x2 m2 k2):=d1;have hq1:b<wr.drew.heap.size:=by have:=(hFr.then (Fr.drew [] wr)).size;omega
  have hq2:b2<wr.drew.heap.size:=hlt2;have r0:wr.cell? ⟨b,i*2,none⟩=some (.int .i64 n2):=p0;have r1:wr.cell? ⟨b,i*2+1,none⟩=some (.slice (some ⟨k,0,none⟩) m2 (m2+1)):=p1;clear haty hay hlt2 c0 c1 hrowk;go_wp2_with fail
  go_region_held3 (fun W=>W.cell? ⟨b,i*2,none⟩=some (.int .i64 n2)/\W.cell? ⟨b,i*2+1,none⟩=some (.slice (some ⟨k,0,none⟩) m2 (m2+1))/\W.cell? ⟨b2,o2+i*2,none⟩=some (.int .i64 n2)/\W.cell? ⟨b2,o2+i*2+1,none⟩=some (.slice x2 m2 k2)) (go_keep)
   (with_reducible refine hST.mono ?_;rintro e w2⟨rfl,hF2⟩;have z0:=(World.cell?_of_block (hF2.block b hq1 (by simp))).trans p0;have z1:=(World.cell?_of_block (hF2.block b hq1 (by simp))).trans p1;have z2:=(World.cell?_of_block (hF2.block b2 hq2 (by simp))).trans g0;have z3:=(World.cell?_of_block (hF2.block b2 hq2 (by simp))).trans g1)
  have hG2:=hFr.then ((Fr.drew [] wr).then hF2);clear hST hF2 d0 d1 p0 p1 g0 g1 r0 r1 z0 z1 z2 z3;go_wp2;go_roundw;case rel=>exact⟨i+1,by simp,by omega,hG2⟩
  case measure=>simp[RowKit.intOf];omega
 obtain rfl:i=L:=by omega
 have c0:wr.cell? ⟨b,i*2,none⟩=some (.int .i64 7777):=(World.cell?_of_block (hFr.block b hlb (by simp))).trans hsp.1;have c1:wr.cell? ⟨b,i*2+1,none⟩=some (.slice none 0 0):=(World.cell?_of_block (hFr.block b hlb (by simp))).trans hsp.2;go_wp2;go_ret;exact⟨by simp,hFr.then (Fr.alloc [] _ _)⟩
theorem zahc{w w':World}{t:Tm}{k:Nat}(h:t.at w)(hr:w'.heap[k]? = some (.cells (wtsC (t.ws++[spW])).toArray 51 (0,0))):(twT t k).at w':=
 ⟨WRs.of_row (rest:=wtsC [spW]) (t:=51) (f:=(0,0)) (by rw[<-zel];exact hr) h.rs.few h.rs.each,h.len,h.n0,h.n1⟩
theorem zzq{w0 w w':World}{ts:List Tm}{ks:List Nat}{b:Nat}{ao:Option Addr}(h:TRs w0 ao ts)(hT:Twd w w' ts ks)(hb:w'.heap[b]? = some (.cells (tmsC (twTs ts ks++[spT])).toArray 54 (0,0))):TRs w' (some ⟨b,0,none⟩) (twTs ts ks):=by
 refine TRs.of_row (rest:=tmsC [spT]) (t:=54) (f:=(0,0)) (by rw[<-zen];exact hb) (by rw[zbv ts ks hT.len];exact h.few) ?_;intro u hu;obtain⟨i,hi⟩:=List.getElem?_of_mem hu;obtain⟨t,k,ht,hk,rfl⟩:=zro hi;exact zahc (h.each t (List.mem_of_getElem? ht)) (hT.row i t k ht hk)
end Go.Proofs.YtaigdcmoecgabaaGreat
