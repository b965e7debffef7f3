/- Contracts and plain lemmas of this claim. -/
import Derived.Test.YtaaghcimfcjehaaGreatDoorGp8
import Derived.Deep.RegionLaw
import Derived.Deep.RegionWith
import Derived.Deep.RegionHeld3
import Derived.Deep.CutRange
import Derived.Test.YtaaghcimfcjehaaGreatDoorGp19
import Derived.Test.YtaaghcimfcjehaaGreatDoorGp3
import Derived.Laws.AppendOwn
set_option linter.unusedSimpArgs false
set_option linter.unusedVariables false
set_option maxHeartbeats 16000000
set_option maxRecDepth 100000
namespace Go.Proofs.YtaaghcimfcjehaaGreatDoor
open Go.ChangeShapes Go.WideShapes Go.ChangeAt Go.RowKit Go.Lib
theorem zdk (s:ByteArray) (B:Bool) (w:World) (hs:s.size<=140737488355328) (hB:B=true↔1<=s.size/\s.size<=64):Calls Tryz.prog 155 #[.string s] w fun e w'=>e= .returned (.bool B)/\w=w':=by
 have HB:Hid (B=true↔1<=s.size/\s.size<=64):=hB
 clear hB
 by_cases h1:1<=s.size
 ·have h1':(1:Int)<=s.size:=by omega
  by_cases h2:s.size<=64
  ·have h2':(s.size:Int)<=64:=by omega
   have HR:Hid (B=true):=HB.out.2 ⟨h1,h2⟩
   go_enter Tryz.func155,Tryz.ntmps155
   go_wp2
   go_ret
   rw[HR.out]
   simp[h2']
  ·have h2':decide ((s.size:Int)<=64)=false:=by simp;omega
   have HR:Hid (B=false):=by show B=false;simpa using fun h:B=true=>h2 (HB.out.1 h).2
   clear h2
   go_enter Tryz.func155,Tryz.ntmps155
   go_wp2
   go_ret
   rw[HR.out]
   simp[h2']
 ·have h1':decide ((1:Int)<=s.size)=false:=by simp;omega
  have h1'':(s.size:Int)<1:=by omega
  have HR:Hid (B=false):=by show B=false;simpa using fun h:B=true=>h1 (HB.out.1 h).1
  clear h1
  go_enter Tryz.func155,Tryz.ntmps155
  go_wp2
  go_ret
  rw[HR.out]
  simp
theorem zer (s:ByteArray) (B:Bool) (w:World) (hs:s.size<=140737488355328) (hB:B=true↔s.size<=1024):Calls Tryz.prog 156 #[.string s] w fun e w'=>e= .returned (.bool B)/\w=w':=by
 have HB:Hid (decide ((s.size:Int)<=1024)=B):=by
  show _=_
  cases B with
  | true=>have:=hB.1 rfl;simp;omega
  | false =>
   have: ¬s.size<=1024:=fun h=>by have:=hB.2 h;simp at this
   simp;omega
 clear hB
 go_enter Tryz.func156,Tryz.ntmps156
 go_wp2
 go_ret
 rw[<-HB.out]
 exact⟨rfl,rfl⟩
def zyt (e:Ending) (x:Wt):Prop:= ∃B:Bool,e= .returned (.bool B)/\(B=true↔okW x)
theorem znx (key val:ByteArray) (drop:Bool) (w:World) (hk:key.size<=140737488355328) (hv:val.size<=140737488355328) :
  Calls Tryz.prog 128 #[.agg #[.string key,.string val,.bool drop]] w fun e w'=>zyt e ⟨key,val,drop⟩/\Fr [] w w':=by
 have hF0:Fr [] w (w.alloc (.cells #[.string key,.string val,.bool drop] 92)):=Fr.alloc [] w _
 have HO:Hid (okW ⟨key,val,drop⟩↔(1<=key.size/\key.size<=64)/\val.size<=1024/\(drop=true->val.size=0)):=by
  show _↔_
  unfold okW
  rw[<-zmo]
  simp only
  constructor
  ·rintro⟨a,b,c,d⟩;exact⟨⟨a,b⟩,c,d⟩
  ·rintro⟨⟨a,b⟩,c,d⟩;exact⟨a,b,c,d⟩
 by_cases h1:1<=key.size/\key.size<=64
 ·by_cases h2:val.size<=1024
  ·cases drop with
   | true =>
    by_cases h3:val.size=0
    ·have h3':((val.size:Int)==0)=true:=by rw[h3];rfl
     have HA:Hid (okW ⟨key,val,true⟩):=HO.out.2 ⟨h1,h2,fun _=>h3⟩
     go_enter Tryz.func128,Tryz.ntmps128
     go_wp2_with fail
     refine (zdk key true _ hk (by simpa using h1)).mono ?_
     rintro e w1 ⟨rfl,rfl⟩
     go_wp2_with fail
     refine (zer val true _ hv (by simpa using h2)).mono ?_
     rintro e w1 ⟨rfl,rfl⟩
     go_wp2
     go_ret
     exact⟨⟨true,by simp[h3'],by simp[HA.out]⟩,hF0⟩
    ·have h3':((val.size:Int)==0)=false:=by rw[beq_eq_false_iff_ne];omega
     have HA:Hid (¬okW ⟨key,val,true⟩):=fun h=>h3 ((HO.out.1 h).2.2 rfl)
     clear h3
     go_enter Tryz.func128,Tryz.ntmps128
     go_wp2_with fail
     refine (zdk key true _ hk (by simpa using h1)).mono ?_
     rintro e w1 ⟨rfl,rfl⟩
     go_wp2_with fail
     refine (zer val true _ hv (by simpa using h2)).mono ?_
     rintro e w1 ⟨rfl,rfl⟩
     go_wp2
     go_ret
     exact⟨⟨false,by simp[h3'],by simp[HA.out]⟩,hF0⟩
   | false =>
    have HA:Hid (okW ⟨key,val,false⟩):=HO.out.2 ⟨h1,h2,fun h=>by simp at h⟩
    go_enter Tryz.func128,Tryz.ntmps128
    go_wp2_with fail
    refine (zdk key true _ hk (by simpa using h1)).mono ?_
    rintro e w1 ⟨rfl,rfl⟩
    go_wp2_with fail
    refine (zer val true _ hv (by simpa using h2)).mono ?_
    rintro e w1 ⟨rfl,rfl⟩
    go_wp2
    go_ret
    exact⟨⟨true,by simp,by simp[HA.out]⟩,hF0⟩
  ·have HA:Hid (¬okW ⟨key,val,drop⟩):=fun h=>h2 (HO.out.1 h).2.1
   go_enter Tryz.func128,Tryz.ntmps128
   go_wp2_with fail
   refine (zdk key true _ hk (by simpa using h1)).mono ?_
   rintro e w1 ⟨rfl,rfl⟩
   go_wp2_with fail
   refine (zer val false _ hv (by simpa using h2)).mono ?_
   rintro e w1 ⟨rfl,rfl⟩
   go_wp2
   go_ret
   exact⟨⟨false,by simp,by simp[HA.out]⟩,hF0⟩
 ·have HA:Hid (¬okW ⟨key,val,drop⟩):=fun h=>h1 (HO.out.1 h).1
  have HB:Hid (false=true↔1<=key.size/\key.size<=64):=⟨fun h=>by simp at h,fun h=>absurd h h1⟩
  clear h1
  go_enter Tryz.func128,Tryz.ntmps128
  go_wp2_with fail
  refine (zdk key false _ hk HB.out).mono ?_
  rintro e w1 ⟨rfl,rfl⟩
  go_wp2
  go_ret
  exact⟨⟨false,by simp,by simp[HA.out]⟩,hF0⟩
theorem zgf (n:Int) (B:Bool) (w:World) (hB:B=true↔1<=n/\n<=65536):Calls Tryz.prog 127 #[.int .i64 n] w fun e w'=>e= .returned (.bool B)/\w=w':=by
 have HB:Hid (B=true↔1<=n/\n<=65536):=hB
 clear hB
 by_cases h1:1<=n
 ·have HR:Hid (decide (n<=65536)=B):=by
   show _=_
   cases B with
   | true=>have:=HB.out.1 rfl;simp;omega
   | false =>
    have: ¬n<=65536:=fun h=>by have:=HB.out.2 ⟨h1,h⟩;simp at this
    simp;omega
  go_enter Tryz.func127,Tryz.ntmps127
  go_wp2
  go_ret
  rw[<-HR.out]
  exact⟨by simp,rfl⟩
 ·have h1':n<1:=by omega
  have HR:Hid (B=false):=by show B=false;simpa using fun h:B=true=>h1 (HB.out.1 h).1
  clear h1
  go_enter Tryz.func127,Tryz.ntmps127
  go_wp2
  go_ret
  rw[HR.out]
  simp
theorem zcy (n:Int) (ao:Option Addr) (L cap c:Nat) (ws:List Wt) (w:World) (hW:WRs w ao ws) (hL:L=ws.length) (hn0: -9223372036854775808<=n) (hn1:n<=9223372036854775807)
  (hc:(okT n ws/\c=0)\/(¬okT n ws/\c=1)) :
  Calls Tryz.prog 80 #[.agg #[.int .i64 n,.slice ao L cap]] w fun e w'=>e= .returned (.int .i64 (c:Int))/\Fr [] w w':=by
 have HC:Hid (_\/_):=hc
 have HL:Hid (L=ws.length):=hL
 have hLm:L<=140737488355328:=by have:=hW.few;omega
 have hF0:Fr [] w (w.alloc (.cells #[.int .i64 n,.slice ao L cap] 66)):=Fr.alloc _ _ _
 have hW1:=hW.keep hF0
 clear hc hL
 by_cases h1:1<=n/\n<=65536
 ·have hN:=fun w=>zgf n true w (by simpa using h1)
  by_cases h3:32<L
  ·have hc1:c=1:=by
    rcases HC.out with ⟨h,_⟩|⟨_,h⟩;· exact absurd h.2.2.1 (by rw[<-HL.out];omega)
    ·exact h
   subst hc1
   clear HC
   have h3':(32:Int)<L:=by omega
   go_enter Tryz.func80,Tryz.ntmps80
   go_wp2_with fail
   refine (hN _).mono ?_
   rintro e w1 ⟨rfl,rfl⟩
   clear hN
   go_wp2
   go_ret
   exact⟨rfl,hF0⟩
  ·have h3':(L:Int)<=32:=by omega
   have hd3:decide ((32:Int)<L)=false:=by simp;omega
   clear h3
   have c1:(w.alloc (.cells #[.int .i64 n,.slice ao L cap] 66)).cell? ⟨w.heap.size,1,none⟩=some (.slice ao L cap):=cell_of_row _ _ _ _ _ _ (heap_alloc_new w _)
   go_enter Tryz.func80,Tryz.ntmps80
   go_wp2_with fail
   refine (hN _).mono ?_
   rintro e w1 ⟨rfl,rfl⟩
   clear hN
   go_wp2_with fail
   obtain⟨w1,HW1⟩: ∃w1,Hid (w.alloc (.cells #[.int .i64 n,.slice ao L cap] 66)=w1):=⟨_,rfl⟩
   rw[HW1.out]at c1 hF0 hW1 ⊢
   have hlt:w.heap.size<w1.heap.size:=by rw[<-HW1.out];simp
   go_loopw [3] (fun ii wr=> ∃(i:Nat),ii= .int .i64 i/\i<=L/\Hid (∀j,j<i->okW (ws.getD j Wt.zero))/\Fr [] w1 wr) (fun ii _=>L-(RowKit.intOf ii).toNat)
   case atStart=>exact⟨0,rfl,Nat.zero_le _,fun j hj=>by omega,Fr.refl _ _⟩
   case round =>
    obtain⟨i,rfl,hiL,HE,hFr⟩:=hrel
    have c1r:wr.cell? ⟨w.heap.size,1,none⟩=some (.slice ao L cap):=(World.cell?_of_block (hFr.block _ hlt (by simp))).trans c1
    by_cases hi:i<L
    ·have hi':i<ws.length:=by rw[<-HL.out];exact hi
     obtain⟨b,off,rfl,_,hc⟩:=(hW1.keep hFr).lies (by omega)
     obtain⟨d0,d1,d2⟩:=hc i hi'
     have hm:=hW.each _ (zbw ws i hi')
     obtain⟨x,hxx⟩: ∃x,x=ws.getD i Wt.zero:=⟨_,rfl⟩
     rw[<-hxx]at d0 d1 d2 hm
     have HX:Hid (x=ws.getD i Wt.zero):=hxx
     clear hxx hc
     obtain⟨key,val,drop⟩:=x
     simp only at d0 d1 d2 hm
     go_wp2_with fail
     refine (znx key val drop _ hm.1 hm.2).mono ?_
     rintro e w2 ⟨⟨B,rfl,hB⟩,hF2⟩
     cases B with
     | false =>
      have hno: ¬okW ⟨key,val,drop⟩:=fun h=>by have:=hB.2 h;simp at this
      have hc1:c=1:=by
       rcases HC.out with ⟨h,_⟩|⟨_,h⟩;· exact absurd h (zqj hi' (HX.out▸hno))
       ·exact h
      subst hc1
      clear HC hB hno
      go_wp2
      go_ret
      exact⟨rfl,hF0.then (hFr.then hF2)⟩
     | true =>
      have HE2:Hid (∀j,j<i+1->okW (ws.getD j Wt.zero)):=by
       intro j hj
       by_cases hji:j=i
       ·subst hji
        rw[<-HX.out]
        exact hB.1 rfl
       ·exact HE.out j (by omega)
      clear hB
      go_wp2
      go_roundw
      case rel=>exact⟨i+1,by simp,by omega,HE2,hFr.then hF2⟩
      case measure=>simp[RowKit.intOf];omega
    ·have hc0:c=0:=by
      rcases HC.out with ⟨_,h⟩|⟨h,_⟩
      ·exact h
      ·refine absurd ⟨h1.1,h1.2,by rw[<-HL.out];omega,?_⟩ h
       intro x hx
       obtain⟨j,hj,rfl⟩:=List.getElem_of_mem hx
       have:=HE.out j (by have:=HL.out;omega)
       simpa[List.getD,hj]using this
     subst hc0
     clear HC
     go_wp2
     go_ret
     exact⟨rfl,hF0.then hFr⟩
 ·have hN:=fun w=>zgf n false w ⟨fun h=>by simp at h,fun h=>absurd h h1⟩
  have hc1:c=1:=by
   rcases HC.out with ⟨h,_⟩|⟨_,h⟩;· exact absurd ⟨h.1,h.2.1⟩ h1
   ·exact h
  subst hc1
  clear HC h1
  go_enter Tryz.func80,Tryz.ntmps80
  go_wp2_with fail
  refine (hN _).mono ?_
  rintro e w1 ⟨rfl,rfl⟩
  clear hN
  go_wp2
  go_ret
  exact⟨rfl,hF0⟩
theorem zgg (ts:List Tm) (i:Nat) (h:i<ts.length):ts.drop i=ts.getD i Tm.zero::ts.drop (i+1):=by
 rw[List.drop_eq_getElem_cons h]
 simp[List.getD,h]
theorem zny (ao:Option Addr) (L cap c:Nat) (ts:List Tm) (w:World) (hT:TRs w ao ts) (hL:L=ts.length) (hc:Bad 1 (txs ts) c) :
  Calls Tryz.prog 28 #[.slice ao L cap] w fun e w'=>e= .returned (.int .i64 (c:Int))/\Fr [] w w':=by
 have HC:Hid (Bad 1 (txs ts) c):=hc
 have HL:Hid (L=ts.length):=hL
 have hLm:L<=140737488355328:=by have:=hT.few;omega
 clear hc hL
 go_enter Tryz.func28,Tryz.ntmps28
 go_wp2_with fail
 go_loopw [3] (fun ii wr=> ∃(i:Nat),ii= .int .i64 i/\i<=L/\Hid (Bad (1+i) (txs (ts.drop i)) c)/\Fr [] w wr) (fun ii _=>L-(RowKit.intOf ii).toNat)
 case atStart=>exact⟨0,rfl,Nat.zero_le _,HC.out,Fr.refl _ _⟩
 case round =>
  obtain⟨i,rfl,hiL,HE,hFr⟩:=hrel
  by_cases hi:i<L
  ·have hi':i<ts.length:=by rw[<-HL.out];exact hi
   obtain⟨bb,off,rfl,hbl,hc⟩:=(hT.keep hFr).lies (by omega)
   have hx:=hc i hi'
   have hat:=(hT.keep hFr).each _ (zbf ts i hi')
   obtain⟨x,hxx⟩: ∃x,x=ts.getD i Tm.zero:=⟨_,rfl⟩
   rw[<-hxx]at hx hat
   have HX:Hid (x=ts.getD i Tm.zero):=hxx
   clear hxx hc
   obtain⟨n,xo,M,cm,ws⟩:=x
   obtain⟨c0,c1⟩:=hx
   simp only at c0 c1
   have e1:=HE.out
   rw[zgg ts i hi',<-HX.out]at e1
   have hn0:=hat.n0
   have hn1:=hat.n1
   simp only at hn0 hn1
   have hG:=hFr
   have hat1:TArg wr n xo M cm ws:=hat
   have HCe:Hid (∀W,Fr [] wr W->W.cell? ⟨bb,off+i*2,none⟩=some (.int .i64 n)):=fun W hf=>(World.cell?_of_block (hf.block bb hbl (by simp))).trans c0
   clear hat
   clear HE HC
   rcases e1 with ⟨h1,rfl⟩|⟨h1,h2,rfl⟩|⟨h1,h2,h3⟩
   ·have HN:Hid (¬okT n ws):=h1
    clear h1
    go_wp2_with fail
    refine (zcy n xo M cm 1 ws _ hat1.rs hat1.len hn0 hn1 (Or.inr ⟨HN.out,rfl⟩)).mono ?_
    rintro e w2 ⟨rfl,hF2⟩
    have hG2:=hG.then hF2
    clear hG hF2 hat1
    go_wp2
    go_ret
    exact⟨rfl,hG2⟩
   ·have HN:Hid (okT n ws):=h1
    have hne:(n !=(i:Int)+1)=true:=by rw[bne_iff_ne];have h2':n≠((1+i:Nat):Int):=h2;omega
    clear h1 h2
    go_wp2_with fail
    refine (zcy n xo M cm 0 ws _ hat1.rs hat1.len hn0 hn1 (Or.inl ⟨HN.out,rfl⟩)).mono ?_
    rintro e w2 ⟨rfl,hF2⟩
    have hG2:=hG.then hF2
    have k0:=HCe.out _ hF2
    clear hG hF2 hat1 c0 c1
    go_wp2
    go_ret
    exact⟨rfl,hG2⟩
   ·have HN:Hid (okT n ws/\Bad (1+i+1) (txs (ts.drop (i+1))) c):=⟨h1,h3⟩
    have hne:(n !=(i:Int)+1)=false:=by rw[bne_eq_false_iff_eq];have h2':n=((1+i:Nat):Int):=h2;omega
    clear h1 h2 h3
    go_wp2_with fail
    refine (zcy n xo M cm 0 ws _ hat1.rs hat1.len hn0 hn1 (Or.inl ⟨HN.out.1,rfl⟩)).mono ?_
    rintro e w2 ⟨rfl,hF2⟩
    have hG2:=hG.then hF2
    have k0:=HCe.out _ hF2
    clear hG hF2 hat1 c0 c1
    go_wp2
    go_roundw
    case rel=>exact⟨i+1,by simp,by omega,by show Bad _ _ _;rw[show 1+(i+1)=1+i+1 by omega];exact HN.out.2,hG2⟩
    case measure=>simp[RowKit.intOf];omega
  ·have hc0:c=0:=by
    have e1:=HE.out
    rw[List.drop_eq_nil_of_le (by rw[<-HL.out];omega)]at e1
    exact e1
   subst hc0
   clear HC HE
   go_wp2
   go_ret
   exact⟨rfl,hFr⟩
theorem zcz (ao:Option Addr) (L cap c:Nat) (ts:List Tm) (w:World) (hT:TRs w ao ts) (hL:L=ts.length) (hc:Bad 1 (txs ts) c) :
  Calls Tryz.prog 164 #[.slice ao L cap] w fun e w'=>e= .returned (.int .i64 (c:Int))/\Fr [] w w':=by
 have HC:Hid (Bad 1 (txs ts) c):=hc
 have HL:Hid (L=ts.length):=hL
 have hLm:L<=140737488355328:=by have:=hT.few;omega
 clear hc hL
 go_enter Tryz.func164,Tryz.ntmps164
 go_wp2_with fail
 go_loopw [8] (fun ii wr=> ∃(i:Nat),ii= .int .i64 i/\i<=L/\Hid (Bad (1+i) (txs (ts.drop i)) c)/\Fr [] w wr) (fun ii _=>L-(RowKit.intOf ii).toNat)
 case atStart=>exact⟨0,rfl,Nat.zero_le _,HC.out,Fr.refl _ _⟩
 case round =>
  obtain⟨i,rfl,hiL,HE,hFr⟩:=hrel
  by_cases hi:i<L
  ·have hi':i<ts.length:=by rw[<-HL.out];exact hi
   obtain⟨bb,off,rfl,hbl,hc⟩:=(hT.keep hFr).lies (by omega)
   have hx:=hc i hi'
   have hat:=(hT.keep hFr).each _ (zbf ts i hi')
   obtain⟨x,hxx⟩: ∃x,x=ts.getD i Tm.zero:=⟨_,rfl⟩
   rw[<-hxx]at hx hat
   have HX:Hid (x=ts.getD i Tm.zero):=hxx
   clear hxx hc
   obtain⟨n,xo,M,cm,ws⟩:=x
   obtain⟨c0,c1⟩:=hx
   simp only at c0 c1
   have e1:=HE.out
   rw[zgg ts i hi',<-HX.out]at e1
   have hn0:=hat.n0
   have hn1:=hat.n1
   simp only at hn0 hn1
   have hF1:Fr [] wr (wr.alloc (.cells #[.int .i64 n,.slice xo M cm] 66)):=Fr.alloc _ _ _
   have hbx:(wr.alloc (.cells #[.int .i64 n,.slice xo M cm] 66)).heap[wr.heap.size]? = some (.cells #[.int .i64 n,.slice xo M cm] 66 (0,0)):=heap_alloc_new wr _
   have hG:=hFr.then hF1
   obtain⟨w1,HW1⟩: ∃w1,Hid (wr.alloc (.cells #[.int .i64 n,.slice xo M cm] 66)=w1):=⟨_,rfl⟩
   rw[HW1.out]at hF1 hbx hG
   have hat1:TArg w1 n xo M cm ws:=TArg.keep hat hF1
   have HCe:Hid (∀W,Fr [] w1 W->W.cell? ⟨wr.heap.size,0,none⟩=some (.int .i64 n)):=fun W hf=>by
    have hb:=hf.keep hbx (by simp)
    rw[cell_of_row _ _ _ _ _ _ hb];rfl
   clear hat hF1 hbx
   clear HE HC
   rcases e1 with ⟨h1,rfl⟩|⟨h1,h2,rfl⟩|⟨h1,h2,h3⟩
   ·have HN:Hid (¬okT n ws):=h1
    clear h1
    go_wp2_with fail
    rw[HW1.out]
    refine (zdo n xo M cm 1 ws _ hat1.rs hat1.len hn0 hn1 (Or.inr ⟨HN.out,rfl⟩)).mono ?_
    rintro e w2 ⟨rfl,hF2⟩
    have hG2:=hG.then hF2
    clear hG hF2 hat1
    go_wp2
    go_ret
    exact⟨rfl,hG2⟩
   ·have HN:Hid (okT n ws):=h1
    have hne:(n !=(i:Int)+1)=true:=by rw[bne_iff_ne];have h2':n≠((1+i:Nat):Int):=h2;omega
    clear h1 h2
    go_wp2_with fail
    rw[HW1.out]
    refine (zdo n xo M cm 0 ws _ hat1.rs hat1.len hn0 hn1 (Or.inl ⟨HN.out,rfl⟩)).mono ?_
    rintro e w2 ⟨rfl,hF2⟩
    have hG2:=hG.then hF2
    have k0:=HCe.out _ hF2
    clear hG hF2 hat1 c0 c1
    go_wp2
    go_ret
    exact⟨rfl,hG2⟩
   ·have HN:Hid (okT n ws/\Bad (1+i+1) (txs (ts.drop (i+1))) c):=⟨h1,h3⟩
    have hne:(n !=(i:Int)+1)=false:=by rw[bne_eq_false_iff_eq];have h2':n=((1+i:Nat):Int):=h2;omega
    clear h1 h2 h3
    go_wp2_with fail
    rw[HW1.out]
    refine (zdo n xo M cm 0 ws _ hat1.rs hat1.len hn0 hn1 (Or.inl ⟨HN.out.1,rfl⟩)).mono ?_
    rintro e w2 ⟨rfl,hF2⟩
    have hG2:=hG.then hF2
    have k0:=HCe.out _ hF2
    clear hG hF2 hat1 c0 c1
    go_wp2
    go_roundw
    case rel=>exact⟨i+1,by simp,by omega,by show Bad _ _ _;rw[show 1+(i+1)=1+i+1 by omega];exact HN.out.2,hG2⟩
    case measure=>simp[RowKit.intOf];omega
  ·have hc0:c=0:=by
    have e1:=HE.out
    rw[List.drop_eq_nil_of_le (by rw[<-HL.out];omega)]at e1
    exact e1
   subst hc0
   clear HC HE
   go_wp2
   go_ret
   exact⟨rfl,hFr⟩
open Go.Maps
theorem zjj {w:World} {b:Nat} {cur:Array Value} {t:TypeId} (h:w.heap[b]? = some (.cells cur t (0,0))) (i:Nat):w.frozen? ⟨b,i,none⟩=false:=by
 unfold World.frozen?
 rw[h]
 rfl
theorem Rt.rowb {w:World} {g n c b:Nat} {OB:List Nat} {rs:List Ro} (h:Rt w g OB (some ⟨b,0,none⟩) n c rs) (h0:0<n): ∃cur,w.heap[b]? = some (.cells cur 249 (0,0)):=by
 obtain⟨b',e,_,cur,hc,_⟩:=h.lies h0
 cases e
 exact⟨cur,hc⟩
theorem zom (m:Int) (rs:List Ro) (i:Nat) (h:i<rs.length):freed m (rs.take (i+1))=if (rs.getD i Ro.zero).xs≠[]/\((rs.getD i Ro.zero).xs.filter fun x=>x !=m)=[] then freed m (rs.take i)++[(rs.getD i Ro.zero).num] else freed m (rs.take i):=by
 have e:rs.take (i+1)=rs.take i++[rs.getD i Ro.zero]:=by rw[List.take_add_one];simp[List.getD,h]
 rw[e]
 unfold freed
 rw[List.filter_append,List.map_append]
 split
 ·rename_i hc
  rw[List.filter_cons_of_pos (by simpa using hc)]
  rfl
 ·rename_i hc
  rw[List.filter_cons_of_neg (by simpa using hc)]
  simp
def Half (m:Int) (k i:Nat) (rs qs:List Ro):Prop:=qs.length=rs.length/\ ∀j,j<rs.length->(qs.getD j Ro.zero).num=(rs.getD j Ro.zero).num/\(qs.getD j Ro.zero).ws=(rs.getD j Ro.zero).ws/\((qs.getD j Ro.zero).en=true↔(rs.getD j Ro.zero).en=true\/j=k)/\(qs.getD j Ro.zero).xs=if j<i then (rs.getD j Ro.zero).xs.filter (fun x=>x !=m) else (rs.getD j Ro.zero).xs
theorem zry {rs:List Ro} {i j:Nat} {r:Ro} (hi:i<rs.length):(rs.set i r).getD j Ro.zero=if i=j then r else rs.getD j Ro.zero:=by
 by_cases h:i=j
 ·subst h;simp[List.getD,hi]
 ·simp[List.getD,h,List.getElem?_set]
theorem Half.step {m:Int} {k i:Nat} {rs qs:List Ro} (h:Half m k i rs qs) (hi:i<rs.length) {r:Ro} (h1:r.num=(qs.getD i Ro.zero).num) (h2:r.ws=(qs.getD i Ro.zero).ws) (h3:r.en=(qs.getD i Ro.zero).en) (h4:r.xs=(qs.getD i Ro.zero).xs.filter fun x=>x !=m):Half m k (i+1) rs (qs.set i r):=by
 refine⟨by simpa using h.1,fun j hj=> ?_⟩
 rw[zry (by rw[h.1];exact hi)]
 obtain⟨g1,g2,g3,g4⟩:=h.2 j hj
 by_cases e:i=j
 ·subst e
  rw[if_pos rfl,if_pos (by omega),h1,h2,h3,h4,g4,if_neg (by omega)]
  exact⟨g1,g2,g3,rfl⟩
 ·rw[if_neg e]
  refine⟨g1,g2,g3,?_⟩
  rw[g4]
  by_cases hlt:j<i
  ·rw[if_pos hlt,if_pos (by omega)]
  ·rw[if_neg hlt,if_neg (by omega)]
theorem zrz {wr W:World} {g b n c i:Nat} {OB':List Nat} {qs:List Ro} {m:Int} {so2:Option Addr} {M2 sc2:Nat} (hR:Rt W g OB' (some ⟨b,0,none⟩) n c qs) (hi:i<n) (hO:IOw wr.heap.size W so2 M2 sc2 ((qs.getD i Ro.zero).xs.filter fun x=>x !=m)) (hgb:g<wr.heap.size/\b<wr.heap.size) :
  Rt (W.setCell ⟨b,i*4+2,none⟩ (.slice so2 M2 sc2)) g ((Value.slice so2 M2 sc2).ownBlock.toList++OB') (some ⟨b,0,none⟩) n c (qs.set i { qs.getD i Ro.zero with ao:=so2,an:=M2,ac:=sc2,xs:=(qs.getD i Ro.zero).xs.filter fun x=>x !=m }):=by
 have hE:=hR.each _ (zbi (rs:=qs) (i:=i) (by rw[<-hR.len];exact hi))
 refine hR.set rfl hi (by omega) rfl (fun k hk=>by simp[hk]) (fun k hk=> ?_) ?_
 ·rcases List.mem_append.1 hk with e|e
  ·obtain⟨h1,cur,h2⟩:=hO.blk (Option.mem_toList.1 e)
   exact Or.inr ⟨by omega,by omega,lt_of_block h2⟩
  ·exact Or.inl e
 ·have hE2:=hE.more (OB':=(Value.slice so2 M2 sc2).ownBlock.toList++OB') (fun j hj=>by simp[hj])
  refine⟨hE2.wl,hE2.wr,hE2.wb,hE2.ok,hO.len,hO.rd,fun h0 a ha=> ?_,?_⟩
  ·have ha:so2=some a:=ha
   subst ha
   simp[Value.ownBlock]
  ·have h1:=hO.len
   have h2:=List.length_filter_le (fun x=>x !=m) (qs.getD i Ro.zero).xs
   have h3:=hE.al
   have h4:=hE.af
   show M2<=65536
   omega
section
variable {g n c:Nat} {OB:List Nat} {lo:Option Addr} {rs:List Ro}
theorem zuu (m:Int) (w:World) (h:Rt w g OB lo n c rs) (hno: ∀k,k<n-> ¬isAt rs m k) :
  Calls Tryz.prog 133 #[.pointer (some ⟨g,0,none⟩),.int .i64 m] w fun e w'=>e= .returned (.tuple #[.slice none 0 0,.int .i64 1])/\Fr [] w w':=by
 have HC:Hid (Calls _ _ _ _ _):=zeu m w h
 clear h
 go_enter Tryz.func133,Tryz.ntmps133
 go_wp2_with fail
 refine Calls.mono HC.out ?_
 rintro e w1 ⟨⟨j,rfl,hjn,hj⟩|⟨rfl,_⟩,hF⟩
 ·exact absurd hj (hno j hjn)
 ·clear hno
  go_wp2
  refine bodyPost_ret (results_tmp2 rfl _ _ _) rfl ?_
  exact⟨rfl,hF⟩
theorem zma (m:Int) (w:World) (h:Rt w g OB lo n c rs) {k:Nat} (hk:k<n) (hat:isAt rs m k) (huni: ∀j,j<n->isAt rs m j->j=k) (hx:(rs.getD k Ro.zero).xs≠[]) :
  Calls Tryz.prog 133 #[.pointer (some ⟨g,0,none⟩),.int .i64 m] w fun e w'=>e= .returned (.tuple #[.slice none 0 0,.int .i64 6])/\Fr [] w w':=by
 have HC:Hid (Calls _ _ _ _ _):=zeu m w h
 have HR:Hid (∀W,Fr [] w W->Rt W g OB lo n c rs):=fun W hf=>h.quiet hf
 have hn:=h.few
 have hl:=h.len
 have hap:0<(rs.getD k Ro.zero).an:=by
  rw[(h.each _ (zbi (by omega))).al]
  exact Nat.pos_of_ne_zero (fun e=>hx (List.eq_nil_of_length_eq_zero e))
 clear h hl
 go_enter Tryz.func133,Tryz.ntmps133
 go_wp2_with fail
 refine Calls.mono HC.out ?_
 rintro e w1 ⟨⟨j,rfl,hjn,hj⟩|⟨rfl,hno⟩,hF⟩
 ·obtain rfl:j=k:=huni j hjn hj
  have hR:=HR.out _ hF
  have c0:=hR.c0
  obtain⟨b,rfl,_,_⟩:=hR.lies (by omega)
  have d2:=(hR.cells rfl j hjn).2.2.1
  obtain⟨an,han⟩: ∃an,an=(rs.getD j Ro.zero).an:=⟨_,rfl⟩
  rw[<-han]at d2 hap
  have hap2:(0:Int)<(an:Int):=by omega
  clear han hR hj hat huni hx
  go_wp2
  refine bodyPost_ret (results_tmp2 rfl _ _ _) rfl ?_
  exact⟨rfl,hF⟩
 ·exact absurd hat (hno k hk)
theorem zsa (m:Int) (w:World) (h:Rt w g OB lo n c rs) {k:Nat} (hk:k<n) (hat:isAt rs m k) (huni: ∀j,j<n->isAt rs m j->j=k) (hx:(rs.getD k Ro.zero).xs=[]) :
  Calls Tryz.prog 133 #[.pointer (some ⟨g,0,none⟩),.int .i64 m] w fun e w'=> ∃so N sc qs OB',e= .returned (.tuple #[.slice so N sc,.int .i64 0])/\IOw w.heap.size w' so N sc (freed m rs)/\Rt w' g OB' lo n c qs/\Half m k n rs qs/\(∀j∈OB',j∈OB\/w.heap.size<=j)/\Fr (rall g lo OB) w w':=by
 have HC:Hid (Calls _ _ _ _ _):=zeu m w h
 have HR:Hid (∀W,Fr [] w W->Rt W g OB lo n c rs):=fun W hf=>h.quiet hf
 have hn:=h.few
 have HL:Hid (n=rs.length):=h.len
 have hal:(rs.getD k Ro.zero).an=0:=by
  rw[(h.each _ (zbi (by rw[<-h.len];exact hk))).al,hx]
  rfl
 have HX:Hid ((rs.getD k Ro.zero).xs=[]):=hx
 clear h hx
 go_enter Tryz.func133,Tryz.ntmps133
 go_wp2_with fail
 refine Calls.mono HC.out ?_
 rintro e w1 ⟨⟨j,rfl,hjn,hj⟩|⟨rfl,hno⟩,hF1⟩
 ·obtain rfl:j=k:=huni j hjn hj
  have hR:=HR.out _ hF1
  have c0:=hR.c0
  obtain⟨b,rfl,hbg,cur,hcur,_⟩:=hR.lies (by omega)
  obtain⟨_,_,d2,d3⟩:=hR.cells rfl j hjn
  have hfz:w1.frozen? ⟨b,j*4+3,none⟩=false:=zjj hcur _
  have hR2:Rt (w1.setCell ⟨b,j*4+3,none⟩ (.bool true)) g OB (some ⟨b,0,none⟩) n c (rs.set j { rs.getD j Ro.zero with en:=true }) :=
   hR.set rfl hjn (by omega) rfl (fun k hk=>hk) (fun k hk=>Or.inl hk) (by
    have:=hR.each _ (zbi (by rw[<-hR.len];exact hjn))
    exact⟨this.wl,this.wr,this.wb,this.ok,this.al,this.ar,this.ab,this.af⟩)
  have HH0:Hid (Half m j 0 rs (rs.set j { rs.getD j Ro.zero with en:=true })):=by
   refine⟨by simp,fun q hq=> ?_⟩
   rw[zry (by rw[<-HL.out];exact hjn)]
   by_cases e:j=q
   ·subst e;rw[if_pos rfl,if_neg (by omega)];exact⟨rfl,rfl,by simp,rfl⟩
   ·rw[if_neg e,if_neg (by omega)]
    exact⟨rfl,rfl,⟨Or.inl,fun h=>h.resolve_right (fun h=>e h.symm)⟩,rfl⟩
  obtain⟨an,han⟩: ∃an,an=(rs.getD j Ro.zero).an:=⟨_,rfl⟩
  obtain⟨ao,hao⟩: ∃ao,ao=(rs.getD j Ro.zero).ao:=⟨_,rfl⟩
  obtain⟨ac,hac⟩: ∃ac,ac=(rs.getD j Ro.zero).ac:=⟨_,rfl⟩
  obtain⟨e0,he0⟩: ∃e0,e0=(rs.getD j Ro.zero).en:=⟨_,rfl⟩
  rw[<-hao,<-han,<-hac]at d2
  rw[<-he0]at d3
  rw[<-han]at hal
  subst hal
  have HR2:Hid _:=hR2
  have hF2:Fr [b] w1 (w1.setCell ⟨b,j*4+3,none⟩ (.bool true)):=Fr.set _ _ _ (by simp)
  have HF2:Hid (Fr (rall g (some ⟨b,0,none⟩) OB) w (w1.setCell ⟨b,j*4+3,none⟩ (.bool true))):=hF1.trans hF2 (by simp) (fun x hx _=>by simp at hx;simp[rall,Value.ownBlock,hx])
  obtain⟨w2,HW2⟩: ∃w2,Hid (w1.setCell ⟨b,j*4+3,none⟩ (.bool true)=w2):=⟨_,rfl⟩
  rw[HW2.out]at HR2 HF2
  have hb1:b<w1.heap.size:=lt_of_block hcur
  clear hao hac he0 han hR hR2 hF2 hj hat huni HC hcur
  go_wp2_with fail
  rw[HW2.out]
  clear HW2 c0 d2 d3 hfz
  go_loopw [7,8] (fun ll ii wr=> ∃(i N:Nat) (so:Option Addr) (sc:Nat) (qs:List Ro) (OB':List Nat),ll= .slice so N sc/\ii= .int .i64 i/\i<=n/\N<=i/\Hid (IOw w.heap.size wr so N sc (freed m (rs.take i)))/\Hid (Rt wr g OB' (some ⟨b,0,none⟩) n c qs)/\Hid (Half m j i rs qs)/\Hid ((∀j∈OB',j∈OB\/w.heap.size<=j)/\(∀k,(Value.slice so N sc).ownBlock=some k->k∉OB'))/\Hid (Fr (rall g (some ⟨b,0,none⟩) OB) w wr)) (fun _ ii _=>n-(RowKit.intOf ii).toNat)
  case atStart=>exact⟨0,0,none,0,_,OB,rfl,rfl,Nat.zero_le _,Nat.le_refl _,IOw.nil _ _,HR2,HH0,⟨fun j hj=>Or.inl hj,fun k hk=>by simp[Value.ownBlock]at hk⟩,HF2⟩
  case round =>
   clear HR2 HH0 HF2
   obtain⟨i,N,so,sc,qs,OB',rfl,rfl,hi1,hN,HO,HQ,HH,HB,HF⟩:=hrel
   have hR:=HQ.out
   have c0:=hR.c0
   by_cases hi:i<n
   ·have hil:i<rs.length:=by rw[<-HL.out];exact hi
    have hiq:i<qs.length:=by rw[HH.out.1];exact hil
    obtain⟨d0,d1,d2,d3⟩:=hR.cells rfl i hi
    obtain⟨cur,hcur⟩:=hR.rowb (by omega)
    have hE:=hR.each _ (zbi hiq)
    obtain⟨g1,g2,g3,g4⟩:=HH.out.2 i hil
    rw[if_neg (by omega)]at g4
    have HS:=zom m rs i hil
    rw[<-g4,<-g1]at HS
    have HSt:Hid (∀(W:World) (so2:Option Addr) (M2 sc2:Nat),Rt W g OB' (some ⟨b,0,none⟩) n c qs->IOw wr.heap.size W so2 M2 sc2 ((qs.getD i Ro.zero).xs.filter fun x=>x !=m)->Rt (W.setCell ⟨b,i*4+2,none⟩ (.slice so2 M2 sc2)) g ((Value.slice so2 M2 sc2).ownBlock.toList++OB') (some ⟨b,0,none⟩) n c (qs.set i { qs.getD i Ro.zero with ao:=so2,an:=M2,ac:=sc2,xs:=(qs.getD i Ro.zero).xs.filter fun x=>x !=m })):=fun W so2 M2 sc2 h1 h2=>zrz h1 hi h2 ⟨hR.mineA g (by simp[rall]),hR.mineA b (by simp[rall,Value.ownBlock])⟩
    have HHs:Hid (∀(so2:Option Addr) (M2 sc2:Nat),Half m j (i+1) rs (qs.set i { qs.getD i Ro.zero with ao:=so2,an:=M2,ac:=sc2,xs:=(qs.getD i Ro.zero).xs.filter fun x=>x !=m })):=fun so2 M2 sc2=>HH.out.step hil rfl rfl rfl rfl
    have hEar:=hE.ar
    have hEal:=hE.al
    have hEaf:=hE.af
    have HW:Hid (Calls _ _ _ _ _):=zly (qs.getD i Ro.zero).ao (qs.getD i Ro.zero).an (qs.getD i Ro.zero).ac (qs.getD i Ro.zero).xs m wr hEar hEal (by omega)
    have HD:Hid (∀W,Fr [] wr W->W.cell? ⟨g,0,none⟩=some (.slice (some ⟨b,0,none⟩) n c)/\W.cell? ⟨b,i*4,none⟩=some (.int .i64 (qs.getD i Ro.zero).num)/\W.cell? ⟨b,i*4+2,none⟩=some (.slice (qs.getD i Ro.zero).ao (qs.getD i Ro.zero).an (qs.getD i Ro.zero).ac)/\W.frozen? ⟨b,i*4+2,none⟩=false):=fun W hf=>by
     have h2:=HQ.out.quiet hf
     obtain⟨k0,k1,k2,k3⟩:=h2.cells rfl i hi
     refine⟨h2.c0,k0,k2,?_⟩
     exact zjj (hf.keep hcur (by simp)) _
    have HBl:Hid (∀k,(Value.slice so N sc).ownBlock=some k->w.heap.size<=k/\k<wr.heap.size):=fun k hk=>by
     obtain⟨h1,cc,h2⟩:=HO.out.blk hk
     exact⟨h1,lt_of_block h2⟩
    have hgw:g<w.heap.size/\b<w.heap.size:=⟨(HR.out _ (Fr.refl _ _)).mineA g (by simp[rall]),(HR.out _ (Fr.refl _ _)).mineA b (by simp[rall,Value.ownBlock])⟩
    obtain⟨num,hnum⟩: ∃num,num=(qs.getD i Ro.zero).num:=⟨_,rfl⟩
    obtain⟨ao,hao⟩: ∃ao,ao=(qs.getD i Ro.zero).ao:=⟨_,rfl⟩
    obtain⟨an,han⟩: ∃an,an=(qs.getD i Ro.zero).an:=⟨_,rfl⟩
    obtain⟨ac,hac⟩: ∃ac,ac=(qs.getD i Ro.zero).ac:=⟨_,rfl⟩
    obtain⟨xs,hxs⟩: ∃xs,xs=(qs.getD i Ro.zero).xs:=⟨_,rfl⟩
    rw[<-hao,<-han,<-hac]at d2 HD HW
    rw[<-hnum]at HD HS
    rw[<-hxs]at HS HW hEal HSt HHs
    rw[<-han]at hEal hEaf
    clear hnum hao han hac hxs hE hEar d0 d1 d3 g1 g2 g3 g4 hcur hR HH
    have HEal:Hid (an=xs.length):=hEal
    clear hEal
    have hil2:(i:Int)<(n:Int):=by omega
    go_wp2_with fail
    refine Calls.mono HW.out ?_
    rintro e w3 ⟨so2,M2,sc2,rfl,hO3,hF3⟩
    obtain⟨k0,k1,k2,k3⟩:=HD.out _ hF3
    have hM2:=hO3.len
    have HR3:Hid (Rt w3 g OB' (some ⟨b,0,none⟩) n c qs):=HQ.out.quiet hF3
    have HO3:Hid (IOw wr.heap.size w3 so2 M2 sc2 (xs.filter fun x=>x !=m)):=hO3
    have HF3:Hid (Fr [] wr w3):=hF3
    have HOb:Hid (∀k,(Value.slice so2 M2 sc2).ownBlock=some k->wr.heap.size<=k/\k<w3.heap.size):=fun k hk=>by
     obtain⟨h1,cc,h2⟩:=hO3.blk hk
     exact⟨h1,lt_of_block h2⟩
    have hs3:=hF3.size
    have hsw:=HF.out.size
    have hM2b:M2<=65536:=by
     have h2:=List.length_filter_le (fun x=>x !=m) xs
     have:=HEal.out
     omega
    by_cases hcond:M2=0/\0<an
    ·have HS2:Hid (freed m (rs.take (i+1))=freed m (rs.take i)++[num]):=by
      rw[if_pos ⟨fun e=>by have:=HEal.out;rw[e]at this;simp at this;omega,List.eq_nil_of_length_eq_zero (by omega)⟩]at HS
      exact HS
     obtain⟨hc1,hc2⟩:=hcond
     have hc2i:(0:Int)<(an:Int):=by omega
     subst hc1
     have HO2:Hid (∀W,Fr [] w3 W->IOw w.heap.size W so N sc (freed m (rs.take i))):=fun W hf=>(HO.out.keep HF3.out).keep hf
     clear hM2 hO3 hF3 HS HW HD
     go_upto_region 16 with (at_builtin;refine zat w.heap.size _ rfl (.tmp 68) (.tmp 77) rfl so N sc _ rfl (HO2.out _ (Fr.alloc [] _ _)) ⟨w3.heap.size,0,none⟩ 1 num rfl (zaw _ _ _) ?c2 ?c3 ?_)
     case c2=>omega
     case c3=>first|omega|(simp;omega)
     intro o' c' w5 hO5 hF5 hm5
     rw[<-HS2.out]at hO5
     have hFa:Fr [] w3 (w3.alloc (.cells #[.int .i64 num] 3)):=Fr.alloc _ _ _
     have hno: ∀x∈(Value.slice so N sc).ownBlock.toList,w.heap.size<=x/\x<wr.heap.size/\x∉OB':=fun x hx=>⟨(HBl.out x (Option.mem_toList.1 hx)).1,(HBl.out x (Option.mem_toList.1 hx)).2,HB.out.2 x (Option.mem_toList.1 hx)⟩
     have hR5:Rt w5 g OB' (some ⟨b,0,none⟩) n c qs:=(HR3.out.quiet hFa).keep hF5 (fun q hq hm=>by
      obtain⟨h1,h2,h3⟩:=hno q hm
      simp only[rall,List.mem_cons,List.mem_append,Option.mem_toList,Value.ownBlock]at hq
      rcases hq with rfl|hq|hq
      ·omega
      ·simp at hq;omega
      ·exact h3 hq)
     have hL5:IOw wr.heap.size w5 so2 0 sc2 (xs.filter fun x=>x !=m):=(HO3.out.keep hFa).keepS hF5 (fun q hq hm=>by
      have:=(HOb.out q hq).1
      have:=(hno q hm).2.1
      omega)
     have hR6:=HSt.out w5 so2 0 sc2 hR5 hL5
     have k5:=hR5.c0
     have k6:=(hR5.cells rfl i hi).2.2.1
     obtain⟨cur5,hcur5⟩:=hR5.rowb (by omega)
     have k7:w5.frozen? ⟨b,i*4+2,none⟩=false:=zjj hcur5 _
     have hF6:Fr [b] w5 (w5.setCell ⟨b,i*4+2,none⟩ (.slice so2 0 sc2)):=Fr.set _ _ _ (by simp)
     have hown5: ∀q,(Value.slice o' (N+1) c').ownBlock=some q->w.heap.size<=q/\q∉((Value.slice so2 0 sc2).ownBlock.toList++OB'):=fun q hq=>by
      refine⟨(hO5.blk hq).1,fun hm=> ?_⟩
      have hsz3:(w3.alloc (.cells #[.int .i64 num] 3)).heap.size=w3.heap.size+1:=by simp
      rcases List.mem_append.1 hm with e|e
      ·have h1:=HOb.out q (Option.mem_toList.1 e)
       rcases hm5 q hq with e2|e2
       ·have:=(HBl.out q e2).2;omega
       ·omega
      ·rcases hm5 q hq with e2|e2
       ·exact HB.out.2 q e2 e
       ·have:=HR3.out.mine q e;omega
     have HO6:Hid (IOw w.heap.size (w5.setCell ⟨b,i*4+2,none⟩ (.slice so2 0 sc2)) o' (N+1) c' (freed m (rs.take (i+1)))):=hO5.keepS hF6 (fun q hq hm=>by simp at hm;have:=(hown5 q hq).1;omega)
     have HF6:Hid (Fr (rall g (some ⟨b,0,none⟩) OB) w (w5.setCell ⟨b,i*4+2,none⟩ (.slice so2 0 sc2))):=by
      have h1:Fr (rall g (some ⟨b,0,none⟩) OB) w w5:=(HF.out.trans ((HF3.out.then hFa).trans hF5 (by simp) (fun x hx _=>hx)) (fun x hx _=>hx) (fun x hx hl=>by have:=(hno x hx).1;omega))
      exact h1.trans hF6 (fun x hx _=>hx) (fun x hx _=>by simp at hx;simp[rall,Value.ownBlock,hx])
     have HB6:Hid ((∀q∈(Value.slice so2 0 sc2).ownBlock.toList++OB',q∈OB\/w.heap.size<=q)/\(∀q,(Value.slice o' (N+1) c').ownBlock=some q->q∉(Value.slice so2 0 sc2).ownBlock.toList++OB')):=⟨fun q hq=>by
      rcases List.mem_append.1 hq with e|e
      ·have:=(HOb.out q (Option.mem_toList.1 e)).1;exact Or.inr (by omega)
      ·exact HB.out.1 q e,fun q hq=>(hown5 q hq).2⟩
     have HR6:Hid _:=hR6
     have HH6:Hid _:=HHs.out so2 0 sc2
     obtain⟨w6,HW6⟩: ∃w6,Hid (w5.setCell ⟨b,i*4+2,none⟩ (.slice so2 0 sc2)=w6):=⟨_,rfl⟩
     rw[HW6.out]at HR6 HO6 HF6
     clear hR5 hL5 hR6 hcur5 hF6 hown5 hO5 hF5 hm5 hFa hno HO HO2 HF HB HR3 HO3 HF3 HQ HSt HHs HBl HOb
     go_wp2
     rw[HW6.out]
     go_roundw
     case rel=>exact⟨i+1,N+1,o',c',_,_,rfl,by simp,by omega,by omega,HO6,HR6,HH6,HB6,HF6⟩
     case measure=>simp[RowKit.intOf];omega
    ·have HS2:Hid (freed m (rs.take (i+1))=freed m (rs.take i)):=by
      rw[if_neg (fun hc=>hcond ⟨by rw[hM2,hc.2];rfl,by rw[HEal.out];exact Nat.pos_of_ne_zero (fun e=>hc.1 (List.eq_nil_of_length_eq_zero e))⟩)]at HS
      exact HS
     have hR6:=HSt.out w3 so2 M2 sc2 HR3.out HO3.out
     have hF6:Fr [b] w3 (w3.setCell ⟨b,i*4+2,none⟩ (.slice so2 M2 sc2)):=Fr.set _ _ _ (by simp)
     have HO6:Hid (IOw w.heap.size (w3.setCell ⟨b,i*4+2,none⟩ (.slice so2 M2 sc2)) so N sc (freed m (rs.take (i+1)))):=by
      rw[Hid,HS2.out]
      exact (HO.out.keep HF3.out).keepS hF6 (fun q hq hm=>by simp at hm;have:=(HBl.out q hq).1;omega)
     have HF6:Hid (Fr (rall g (some ⟨b,0,none⟩) OB) w (w3.setCell ⟨b,i*4+2,none⟩ (.slice so2 M2 sc2))):=(HF.out.trans HF3.out (fun x hx _=>hx) (by simp)).trans hF6 (fun x hx _=>hx) (fun x hx _=>by simp at hx;simp[rall,Value.ownBlock,hx])
     have HB6:Hid ((∀q∈(Value.slice so2 M2 sc2).ownBlock.toList++OB',q∈OB\/w.heap.size<=q)/\(∀q,(Value.slice so N sc).ownBlock=some q->q∉(Value.slice so2 M2 sc2).ownBlock.toList++OB')):=⟨fun q hq=>by
      rcases List.mem_append.1 hq with e|e
      ·have:=(HOb.out q (Option.mem_toList.1 e)).1;exact Or.inr (by omega)
      ·exact HB.out.1 q e,fun q hq hm=>by
      rcases List.mem_append.1 hm with e|e
      ·have:=(HOb.out q (Option.mem_toList.1 e)).1;have:=(HBl.out q hq).2;omega
      ·exact HB.out.2 q hq e⟩
     have HR6:Hid _:=hR6
     have HH6:Hid _:=HHs.out so2 M2 sc2
     obtain⟨w6,HW6⟩: ∃w6,Hid (w3.setCell ⟨b,i*4+2,none⟩ (.slice so2 M2 sc2)=w6):=⟨_,rfl⟩
     rw[HW6.out]at HR6 HO6 HF6
     clear hR6 hF6 HO HF HB HR3 HO3 HF3 HQ HSt HHs HBl HOb hO3 hF3 HS HW HD hM2
     by_cases hM0:M2=0
     ·have han: ¬0<an:=fun e=>hcond ⟨hM0,e⟩
      have hani: ¬(0:Int)<(an:Int):=by omega
      subst hM0
      clear hcond
      go_wp2
      rw[HW6.out]
      go_roundw
      case rel=>exact⟨i+1,N,so,sc,_,_,rfl,by simp,by omega,by omega,HO6,HR6,HH6,HB6,HF6⟩
      case measure=>simp[RowKit.intOf];omega
     ·have hM1:((M2:Int)==0)=false:=by rw[beq_eq_false_iff_ne];omega
      clear hcond
      go_wp2
      rw[HW6.out]
      go_roundw
      case rel=>exact⟨i+1,N,so,sc,_,_,rfl,by simp,by omega,by omega,HO6,HR6,HH6,HB6,HF6⟩
      case measure=>simp[RowKit.intOf];omega
   ·have HE:Hid (rs.take i=rs):=List.take_of_length_le (by rw[<-HL.out];omega)
    have hin:i=n:=by omega
    clear hR
    go_wp2
    refine bodyPost_ret (results_tmp2 rfl _ _ _) rfl ?_
    refine⟨so,N,sc,qs,OB',rfl,by have:=HO.out;rwa [HE.out]at this,HQ.out,by rw[<-hin];exact HH.out,HB.out.1,HF.out⟩
 ·exact absurd hat (hno k hk)
end
theorem Tryz.undROs:Tryz.prog.underlying 125=some (.slice 249):=by kernel_rfl
theorem Tryz.infoRO:(Tryz.prog.info? 249).map (fun i=>(i.zero,i.size,i.bytes))=some (some (.agg #[.int .i64 0,.slice none 0 0,.slice none 0 0,.bool false]),4,64):=by kernel_rfl
theorem Tryz.undWsU:Tryz.prog.underlying 64=some (.slice 92):=by kernel_rfl
theorem Tryz.infoWtU:(Tryz.prog.info? 92).map (fun i=>(i.zero,i.size,i.bytes))=some (some (.agg #[.string ⟨#[]⟩,.string ⟨#[]⟩,.bool false]),3,40):=by kernel_rfl
theorem WRs.src {w:World} {b off:Nat} {ws:List Wt} (h:WRs w (some ⟨b,off,none⟩) ws) (h0:0<ws.length): ∀j u,(wtsC ws)[j]? = some u->w.cell? ((⟨b,off,none⟩:Addr).add j)=some u:=by
 intro j u hj
 obtain⟨b',off',e,_,hc⟩:=h.lies h0
 cases e
 have hlt:j<ws.length*3:=by have:=(List.getElem?_eq_some_iff.1 hj).1;rwa [zdw]at this
 have hi:j/3<ws.length:=by omega
 have hr:j%3<3:=Nat.mod_lt _ (by omega)
 have hjj:j/3*3+j%3=j:=by omega
 have h1:=zdg ws (j/3) (j%3) hi hr
 rw[hjj,hj]at h1
 have hA:=hc (j/3) hi
 rw[Addr.add_lit]
 have hcase:j%3=0\/j%3=1\/j%3=2:=by omega
 rcases hcase with h2|h2|h2
 ·rw[h2]at h1
  have e1:off+j=off+j/3*3:=by omega
  rw[e1,hA.c0]
  simpa[wtC]using h1.symm
 ·rw[h2]at h1
  have e1:off+j=off+j/3*3+1:=by omega
  rw[e1,hA.c1]
  simpa[wtC]using h1.symm
 ·rw[h2]at h1
  have e1:off+j=off+j/3*3+2:=by omega
  rw[e1,hA.c2]
  simpa[wtC]using h1.symm
theorem zsb (w:World) {ops:Array Oper} {o:Oper} {a:Act} {K:Act->World->Prop} {Q:Exit->Act->World->Prop} {E:Prop} (hg:o.guard=none) (s x:Operand)
  (ho:o.op= .call { callee:= .builtin .append,args:= #[s,x],argTypes:= #[64,64] })
  (hs:a.eval s= .slice none 0 0) (wo:Option Addr) (M mc:Nat) (ws:List Wt) (hx:a.eval x= .slice wo M mc) (hW:WRs w wo ws) (hM:M=ws.length) (hMb:M<=1048576)
  (h: ∀wo2 wc2 w',w'.ownsRow w.heap.size 92 3 (.slice wo2 M wc2) M (wtsC ws)->Fr [] w w'->K (a.put o.dst (.slice wo2 M wc2)) w') :
  if Region.wanted o (yielded ops a.tmps)=true then Oper.wp Tryz.prog o a w K Q else E:=by
 have hw:Region.wanted o (yielded ops a.tmps)=true:=by simp[Region.wanted,hg]
 rw[if_pos hw]
 obtain⟨i0,hi,hz0,hz1,hz2⟩:=info_parts Tryz.infoWtU
 by_cases h0:0<M
 ·obtain⟨b,off,rfl,_,hc⟩:=hW.lies (by omega)
  obtain⟨v',w',hr,h2,h3,h4⟩:=run_append_own (P:=Tryz.prog) w w.heap.size 64 o.type 92 i0 _ 3 40 Tryz.undWsU hi hz0 hz1 hz2 rfl (by decide) (.slice none 0 0) 0 [] (World.ownsRow_nil _ _ _ _) ⟨b,off,none⟩ M mc (wtsC ws) (by rw[zdw,hM]) (hW.src (by omega)) (zfg ws) (by unfold maxLen;omega) (by omega) (Nat.le_refl _)
  rw[Nat.zero_add,List.nil_append]at h2
  obtain⟨wo2,wc2,rfl⟩: ∃wo2 wc2,v'= .slice wo2 M wc2:=by
   rcases h2.2 with ⟨_,hh⟩|⟨g,cap',_,hh,_⟩
   ·omega
   ·exact⟨_,cap',hh⟩
  unfold Oper.wp execOp
  simp only[ho,resolve,invoke,builtin,Sem.run_bind,Sem.run_pure,Result.andThen_ok,List.map_toArray,List.map_cons,List.map_nil,hs,hx,hr]
  exact h wo2 wc2 w' h2 (Fr.grown (S:=[]) h3 (fun k hk=>by simp[Value.ownBlock]at hk))
 ·obtain rfl:M=0:=by omega
  have hvs:ws=[]:=List.eq_nil_of_length_eq_zero hM.symm
  subst hvs
  have hl: ∀(x:Addr),(loadCells x 0).run Tryz.prog w= .ok #[] w:=fun x=>by simpa using run_loadCells_list (P:=Tryz.prog) w x [] (by simp)
  have hrun:(Builtin.append_ #[64,64] o.type #[.slice none 0 0,.slice wo 0 mc]).run Tryz.prog w= .ok (.slice none 0 0) w:=by
   cases wo<;>simp[Builtin.append_,run_underlying Tryz.undWsU,sizeOf,typeInfo,hi,Builtin.lenOf,Builtin.firstCells,hl,storeCells]
  unfold Oper.wp
  simp[execOp,ho,resolve,invoke,builtin,hs,hx,hrun,Result.andThen]
  exact h none 0 w (World.ownsRow_nil _ _ _ _) (Fr.refl _ _)
theorem zxk {base:Nat} {w:World} {wo2:Option Addr} {M wc2:Nat} {ws:List Wt} (h:w.ownsRow base 92 3 (.slice wo2 M wc2) M (wtsC ws)) (hM:M=ws.length) (hl:ws.length<=140737488355328) (he: ∀x∈ws,x.key.size<=140737488355328/\x.val.size<=140737488355328):WRs w wo2 ws/\(0<ws.length-> ∀a,wo2=some a->(Value.slice wo2 M wc2).ownBlock=some a.block):=by
 rcases h.2 with ⟨hh,h1⟩|⟨g,cap,cur,hv,_,hg,_,_,_,ht⟩
 ·have:ws=[]:=List.eq_nil_of_length_eq_zero (by omega)
  subst this
  exact⟨WRs.nil _ _,fun h0=>by simp at h0⟩
 ·cases hv
  refine⟨?_,fun _ a ha=>by cases ha;rfl⟩
  refine WRs.of_row (rest:=cur.toList.drop (M*3)) (t:=92) (f:=(0,0)) ?_ hl he
  rw[hg,<-ht,List.take_append_drop]
theorem zon (ws:List Wt) (i:Nat) (h:i<ws.length):zah (ws.take (i+1))=zah (ws.take i)++[(ws.getD i Wt.zero).key]:=by
 have e:ws.take (i+1)=ws.take i++[ws.getD i Wt.zero]:=by rw[List.take_add_one];simp[List.getD,h]
 rw[e]
 simp[zah]
theorem AdT.same {L:Lg} {en:Int->Prop} {ks:List ByteArray} {xs:List Int} {k:ByteArray} (h:AdT L en ks xs) (hk: ¬Op11 L en (lst L k)):AdT L en (ks++[k]) xs:=by
 refine⟨h.1,fun m=> ?_⟩
 rw[h.2 m]
 constructor
 ·rintro⟨h1,q,hq,e⟩;exact⟨h1,q,by simp[hq],e⟩
 ·rintro⟨h1,q,hq,e⟩
  rcases List.mem_append.1 hq with h2|h2
  ·exact⟨h1,q,h2,e⟩
  ·rw[List.mem_singleton]at h2
   subst h2
   rw[e]at hk
   exact absurd h1 hk
theorem AdT.more {L:Lg} {en:Int->Prop} {ks:List ByteArray} {xs ys:List Int} {k:ByteArray} (h:AdT L en ks xs) (hk:Op11 L en (lst L k)) (hr:Ris ys) (hy: ∀m,m∈ys↔m∈xs\/m=lst L k):AdT L en (ks++[k]) ys:=by
 refine⟨hr,fun m=> ?_⟩
 rw[hy,h.2 m]
 constructor
 ·rintro (⟨h1,q,hq,e⟩|rfl)
  ·exact⟨h1,q,by simp[hq],e⟩
  ·exact⟨hk,k,by simp,rfl⟩
 ·rintro⟨h1,q,hq,e⟩
  rcases List.mem_append.1 hq with h2|h2
  ·exact Or.inl ⟨h1,q,h2,e⟩
  ·rw[List.mem_singleton]at h2
   subst h2
   exact Or.inr e.symm
theorem AdT.few {L:Lg} {en:Int->Prop} {ks:List ByteArray} {xs:List Int} (h:AdT L en ks xs) (hb: ∀x,Op11 L en x->1<=x/\x<=65536):xs.length<=65536:=Ris.few (a:=1) h.1 (fun x hx=>by have:=hb x ((h.2 x).1 hx).1;omega)
section
variable {g n c:Nat} {OB:List Nat} {lo:Option Addr} {rs:List Ro} {L:Lg} {en:Int->Prop}
theorem Rt.small {w:World} (h:Rt w g OB lo n c rs) (hl:Rel rs L en): ∀x,Op11 L en x->1<=x/\x<=65536:=by
 rintro x ⟨⟨p,hp,rfl⟩,_⟩
 obtain⟨r,hr,rfl⟩:=hl.of hp
 exact⟨(h.each r hr).ok.1,(h.each r hr).ok.2.1⟩
theorem Rt.room {w:World} (h:Rt w g OB lo n c rs) (hl:Rel rs L en) {nn:Int} (h1:1<=nn) (h2:nn<=65536) (hnew: ∀p∈L,p.1<nn):n+1<=65536:=by
 have hr:=hl.ris.ris
 have hs:=Ris.snoc (xs:=L.map (·.1)) (n:=nn) hr (fun x hx=>by obtain⟨p,hp,rfl⟩:=List.mem_map.1 hx;exact hnew p hp)
 have:=Ris.few (a:=1) (n:=65536) hs (fun x hx=>by
  rcases List.mem_append.1 hx with e|e
  ·obtain⟨p,hp,rfl⟩:=List.mem_map.1 e
   have:=hl.ris.pos p hp
   have:=hnew p hp
   omega
  ·rw[List.mem_singleton]at e;omega)
 rw[List.length_append,List.length_map,hl.len,<-h.len]at this
 exact this
end
end Go.Proofs.YtaaghcimfcjehaaGreatDoor
