/- Contracts and plain lemmas of this claim. -/
import Derived.Test.YtaaghcimfcjehaaGreatDoorGp1
import Derived.Test.YtaaghcimfcjehaaGreatDoorGp3
import Derived.Laws.ShiftsVarLaws
import Derived.Laws.BitsAllLaws
import Derived.Laws.Bits64b
import Derived.Laws.Tables
import Derived.Deep.RegionHeld3
import Derived.Deep.Slices
import Derived.Deep.LoopGhost
import Derived.Laws.AppendOwn
set_option linter.unusedSimpArgs false
set_option linter.unusedVariables false
set_option maxHeartbeats 8000000
set_option maxRecDepth 100000
namespace Go.Proofs.YtaaghcimfcjehaaGreatDoor
open Go.ChangeShapes Go.WideShapes Go.ChangeAt Go.RowKit Go.Lib Go.Maps
def u64s (ws:List Nat):List Value:=ws.map fun (x:Nat)=>Value.int .u64 (x:Int)
theorem zek {w:World} {g j:Nat} {xs:List Value} {t:TypeId} (v:Value) (h:w.heap[g]? = some (.cells xs.toArray t (0,0))):(w.setCell ⟨g,j,none⟩ v).heap[g]? = some (.cells (xs.set j v).toArray t (0,0)):=by
 have hlt:=lt_of_block h
 have h':w.heap[g]= .cells xs.toArray t (0,0):=by simpa[Array.getElem?_eq_getElem hlt]using h
 show (w.heap.modify g _)[g]? = _
 rw[Array.getElem?_eq_getElem (by simpa using hlt),Array.getElem_modify_self,h']
 simp
structure GM (w:World) (g:Nat) (m:Int) (ws:List Nat):Prop where
 box:w.heap[g]? = some (.cells (Value.bool true::Value.int .i64 m::u64s ws).toArray 193 (0,0))
section
variable {w w':World} {g:Nat} {m:Int} {ws:List Nat}
theorem GM.lt (h:GM w g m ws):g<w.heap.size:=lt_of_block h.box
theorem GM.keep {S:List Nat} (h:GM w g m ws) (hf:Fr S w w') (hn:g∉S):GM w' g m ws:=⟨hf.keep h.box hn⟩
theorem GM.c0 (h:GM w g m ws):w.cell? ⟨g,0,none⟩=some (.bool true):=by rw[cell_of_row _ _ _ _ _ _ h.box];rfl
theorem GM.c1 (h:GM w g m ws):w.cell? ⟨g,1,none⟩=some (.int .i64 m):=by rw[cell_of_row _ _ _ _ _ _ h.box];rfl
theorem GM.cw (h:GM w g m ws) (i:Nat) (hi:i<ws.length):w.cell? ⟨g,2+i,none⟩=some (.int .u64 ((ws.getD i 0:Nat):Int)):=by
 rw[cell_of_row _ _ _ _ _ _ h.box,List.getElem?_toArray,Nat.add_comm,List.getElem?_cons_succ,List.getElem?_cons_succ]
 simp[u64s,List.getD,hi]
theorem GM.free (h:GM w g m ws) (i:Nat):w.frozen? ⟨g,i,none⟩=false:=by
 unfold World.frozen?
 rw[h.box]
 rfl
theorem GM.mark (h:GM w g m ws) (n:Int):GM (w.setCell ⟨g,1,none⟩ (.int .i64 n)) g n ws:=⟨zek _ h.box⟩
theorem GM.put (h:GM w g m ws) (i x:Nat):GM (w.setCell ⟨g,2+i,none⟩ (.int .u64 (x:Int))) g m (ws.set i x):=by
 refine⟨?_⟩
 have:=zek (j:=2+i) (.int .u64 (x:Int)) h.box
 rw[this]
 congr 2
 rw[Nat.add_comm]
 simp[u64s,List.map_set]
end
theorem zyr (n:Int):(2:Int) ^ btOf n=((pw2 (btOf n):Nat):Int):=by simp[pw2]
theorem zel (n:Int) (w:World) (h1:1<=n) (h2:n<=65536) :
  Calls Tryz.prog 142 #[.int .i64 n] w fun e w'=>e= .returned (.tuple #[.int .i64 ((wdOf n:Nat):Int),.int .u64 ((pw2 (btOf n):Nat):Int)])/\Fr [] w w':=by
 go_enter Tryz.func142,Tryz.ntmps142
 go_wp2_with fail
 go_quiet (fail)
 go_wp2
 refine bodyPost_ret (results_tmp2 rfl _ _ _) rfl ?_
 have e1:(n-1)/64=((wdOf n:Nat):Int):=by unfold wdOf;omega
 have e2:((n-1)%64).toNat=btOf n:=by unfold btOf;omega
 have e3:IntKind.u64.wrap (2 ^ ((n-1)%64).toNat)=((pw2 (btOf n):Nat):Int):=by
  rw[e2,zyr,IntKind.wrap_u64]
  have:=zeb (zdc n)
  omega
 refine⟨?_,Fr.drewN _ _ _⟩
 show Ending.returned (.tuple #[.int .i64 ((n-1)/64),.int .u64 (IntKind.u64.wrap (2 ^ ((n-1)%64).toNat))])=_
 rw[e1,e3]
theorem zjs {g:Nat} {m:Int} {ws:List Nat} {xs:List Int} (n:Int) (w:World) (h:GM w g m ws) (hx:Wds ws xs) (h1:1<=n) (h2:n<=65536) :
  Calls Tryz.prog 114 #[.pointer (some ⟨g,0,none⟩),.int .i64 n] w fun e w'=>e= .returned (.tuple #[])/\GM w' g m (ws.set (wdOf n) (ws.getD (wdOf n) 0 ||| pw2 (btOf n)))/\Fr [g] w w':=by
 have HP:Hid (Calls _ _ _ _ _):=zel n w h1 h2
 have hi:=zdd h1 h2
 have hB:=zeb (zdc n)
 have hX:=hx.at (wdOf n)
 obtain⟨X,hXX⟩: ∃X,X=ws.getD (wdOf n) 0:=⟨_,rfl⟩
 obtain⟨i,hii⟩: ∃i,i=wdOf n:=⟨_,rfl⟩
 obtain⟨B,hBB⟩: ∃B,B=pw2 (btOf n):=⟨_,rfl⟩
 rw[<-hXX]at hX ⊢
 rw[<-hii]at hi HP hXX ⊢
 rw[<-hBB]at hB HP ⊢
 obtain⟨Y,hY⟩: ∃Y:Nat,Y=X ||| B:=⟨_,rfl⟩
 have hor:bits .or .u64 (X:Int) (B:Int)=(Y:Int):=by rw[hY];exact u64_or_nat X B hX hB
 have HM:Hid (∀W,Fr [] w W->GM W g m ws):=fun W hf=>h.keep hf (by simp)
 have HC:Hid (∀W,Fr [] w W->W.cell? ⟨g,2+i,none⟩=some (.int .u64 (X:Int))):=fun W hf=>by rw[hXX];exact (h.keep hf (by simp)).cw i (by rw[hx.len];exact hi)
 rw[<-hY]
 clear h hx hii hBB hXX hY h1 h2
 go_enter Tryz.func114,Tryz.ntmps114
 go_wp2_with fail
 refine Calls.mono HP.out ?_
 rintro e w1 ⟨rfl,hF⟩
 have hc:=HC.out _ hF
 have hfz:=(HM.out _ hF).free (2+i)
 have hii:(i:Int)<1024:=by omega
 clear HP HC
 go_wp2_with fail
 go_region
 go_wp2
 go_end0
 refine⟨rfl,((HM.out _ hF).put i Y).keep (Fr.drew [] _) (by simp),?_⟩
 exact (hF.trans ((Fr.set (S:=[g]) w1 ⟨g,2+i,none⟩ _ (by simp)).then (Fr.drew _ _)) (by simp) (fun x hx _=>hx))
theorem zlh {X k:Nat} (hk:k<64) (b:Nat):(X &&& (18446744073709551615-pw2 k)).testBit b=(decide (b<64)&&X.testBit b && !decide (k=b)):=by
 have e:18446744073709551615-pw2 k=2 ^ 64-(pw2 k+1):=by omega
 rw[Nat.testBit_and,e,Nat.testBit_two_pow_sub_succ (zeb hk),pw2,Nat.testBit_two_pow]
 by_cases h1:b<64<;>by_cases h2:k=b<;>simp[h1,h2]
theorem ztg {X b:Nat} (hX:X<2 ^ 64) (hb:X.testBit b=true):b<64:=by
 apply Nat.lt_of_not_le
 intro h
 rw[Nat.testBit_lt_two_pow (Nat.lt_of_lt_of_le hX (Nat.pow_le_pow_right (by decide) h))]at hb
 cases hb
theorem zni {g:Nat} {m:Int} {ws:List Nat} {xs:List Int} (n:Int) (w:World) (h:GM w g m ws) (hx:Wds ws xs) (h1:1<=n) (h2:n<=65536) :
  Calls Tryz.prog 174 #[.pointer (some ⟨g,0,none⟩),.int .i64 n] w fun e w'=>e= .returned (.tuple #[])/\(∃v,GM w' g m (ws.set (wdOf n) v)/\ ∀b,v.testBit b=((ws.getD (wdOf n) 0).testBit b && !decide (btOf n=b)))/\Fr [g] w w':=by
 have HP:Hid (Calls _ _ _ _ _):=zel n w h1 h2
 have hi:=zdd h1 h2
 have hB:=zeb (zdc n)
 have hX:=hx.at (wdOf n)
 have HV:Hid (∀b,((ws.getD (wdOf n) 0) &&& (18446744073709551615-pw2 (btOf n))).testBit b=((ws.getD (wdOf n) 0).testBit b && !decide (btOf n=b))):=by
  intro b
  rw[zlh (zdc n)]
  cases hb:(ws.getD (wdOf n) 0).testBit b with
  | false=>simp
  | true=>simp[ztg hX hb]
 obtain⟨X,hXX⟩: ∃X,X=ws.getD (wdOf n) 0:=⟨_,rfl⟩
 obtain⟨i,hii⟩: ∃i,i=wdOf n:=⟨_,rfl⟩
 obtain⟨B,hBB⟩: ∃B,B=pw2 (btOf n):=⟨_,rfl⟩
 rw[<-hXX]at hX HV ⊢
 rw[<-hii]at hi HP hXX ⊢
 rw[<-hBB]at hB HP HV
 obtain⟨Y,hY⟩: ∃Y:Nat,Y=X &&& (18446744073709551615-B):=⟨_,rfl⟩
 have hor:bits .andNot .u64 (X:Int) (B:Int)=(Y:Int):=by rw[hY];exact u64_andNot_nat X B hX hB
 have HM:Hid (∀W,Fr [] w W->GM W g m ws):=fun W hf=>h.keep hf (by simp)
 have HC:Hid (∀W,Fr [] w W->W.cell? ⟨g,2+i,none⟩=some (.int .u64 (X:Int))):=fun W hf=>by rw[hXX];exact (h.keep hf (by simp)).cw i (by rw[hx.len];exact hi)
 rw[<-hY]at HV
 clear h hx hii hBB hXX hY h1 h2
 go_enter Tryz.func174,Tryz.ntmps174
 go_wp2_with fail
 refine Calls.mono HP.out ?_
 rintro e w1 ⟨rfl,hF⟩
 have hc:=HC.out _ hF
 have hfz:=(HM.out _ hF).free (2+i)
 have hii:(i:Int)<1024:=by omega
 clear HP HC
 go_wp2_with fail
 go_region
 go_wp2
 go_end0
 refine⟨rfl,⟨Y,((HM.out _ hF).put i Y).keep (Fr.drew [] _) (by simp),HV.out⟩,?_⟩
 exact (hF.trans ((Fr.set (S:=[g]) w1 ⟨g,2+i,none⟩ _ (by simp)).then (Fr.drew _ _)) (by simp) (fun x hx _=>hx))
theorem zwp {X k:Nat}:((X &&& pw2 k:Nat)!=0)=X.testBit k:=by
 have hb: ∀b,(X &&& pw2 k).testBit b=(X.testBit b&&decide (k=b)):=fun b=>by rw[Nat.testBit_and,pw2,Nat.testBit_two_pow]
 cases h:X.testBit k with
 | true =>
  have h1:=hb k
  rw[h]at h1
  have:X &&& pw2 k≠0:=fun e=>by rw[e]at h1;simp at h1
  simp[this]
 | false =>
  have:X &&& pw2 k=0:=Nat.eq_of_testBit_eq (fun b=>by
   rw[hb b]
   by_cases e:k=b
   ·subst e;simp[h]
   ·simp[e])
  simp[this]
theorem zem {g:Nat} {m:Int} {ws:List Nat} {xs:List Int} (n:Int) (b:Bool) (w:World) (h:GM w g m ws) (hx:Wds ws xs) (h1:1<=n) (hxs: ∀x∈xs,x<=65536) (hb:b=true↔n∈xs) :
  Calls Tryz.prog 171 #[.pointer (some ⟨g,0,none⟩),.int .i64 n] w fun e w'=>e= .returned (.bool b)/\Fr [] w w':=by
 by_cases h2:n<=65536
 ·have HP:Hid (Calls _ _ _ _ _):=zel n w h1 h2
  have hi:=zdd h1 h2
  have hB:=zeb (zdc n)
  have hX:=hx.at (wdOf n)
  have hbit:(((ws.getD (wdOf n) 0) &&& pw2 (btOf n):Nat)!=0)=b:=by
   rw[zwp]
   have:=hx.bits n h1 h2
   unfold zhe at this
   cases hb2:b with
   | true=>exact this.2 (hb.1 hb2)
   | false =>
    cases hc:(ws.getD (wdOf n) 0).testBit (btOf n) with
    | false=>rfl
    | true=>exact absurd (hb.2 (this.1 hc)) (by simp[hb2])
  obtain⟨X,hXX⟩: ∃X,X=ws.getD (wdOf n) 0:=⟨_,rfl⟩
  obtain⟨i,hii⟩: ∃i,i=wdOf n:=⟨_,rfl⟩
  obtain⟨B,hBB⟩: ∃B,B=pw2 (btOf n):=⟨_,rfl⟩
  rw[<-hXX]at hX hbit
  rw[<-hii]at hi HP hXX
  rw[<-hBB]at hB HP hbit
  obtain⟨Y,hY⟩: ∃Y:Nat,Y=X &&& B:=⟨_,rfl⟩
  have hor:bits .and .u64 (X:Int) (B:Int)=(Y:Int):=by rw[hY];exact u64_and_nat X B hX hB
  have HC:Hid (∀W,Fr [] w W->W.cell? ⟨g,2+i,none⟩=some (.int .u64 (X:Int))):=fun W hf=>by rw[hXX];exact (h.keep hf (by simp)).cw i (by rw[hx.len];exact hi)
  rw[<-hY]at hbit
  have hq:((Y:Int)!=0)=b:=by
   rw[<-hbit]
   by_cases h0:Y=0
   ·rw[h0];rfl
   ·have h3:(Y:Int)≠0:=by omega
    rw[bne_iff_ne.2 h3,bne_iff_ne.2 h0]
  clear h hx hii hBB hXX hY hbit hb
  go_enter Tryz.func171,Tryz.ntmps171
  go_wp2_with fail
  refine Calls.mono HP.out ?_
  rintro e w1 ⟨rfl,hF⟩
  have hc:=HC.out _ hF
  have hii:(i:Int)<1024:=by omega
  clear HP HC
  go_wp2
  go_ret
  exact⟨rfl,hF⟩
 ·have hbf:b=false:=by
   cases hbb:b with
   | false=>rfl
   | true=>have:=hxs n (hb.1 hbb);omega
  subst hbf
  clear h hx hb hxs
  go_enter Tryz.func171,Tryz.ntmps171
  go_wp2
  go_ret
  exact⟨rfl,Fr.refl _ _⟩
theorem zcx {g:Nat} {m:Int} {ws:List Nat} (w:World) (h:GM w g m ws):Calls Tryz.prog 154 #[.pointer (some ⟨g,0,none⟩)] w fun e w'=>e= .returned (.bool true)/\w=w':=by
 have c0:=h.c0
 clear h
 go_enter Tryz.func154,Tryz.ntmps154
 go_wp2
 go_ret
 exact⟨rfl,rfl⟩
theorem zii {g:Nat} {m:Int} {ws:List Nat} (w:World) (h:GM w g m ws):Calls Tryz.prog 126 #[.pointer (some ⟨g,0,none⟩)] w fun e w'=>e= .returned (.int .i64 m)/\w=w':=by
 have HT:Hid (Calls _ _ _ _ _):=zcx w h
 have c1:=h.c1
 clear h
 go_enter Tryz.func126,Tryz.ntmps126
 go_wp2_with fail
 refine Calls.mono HT.out ?_
 rintro e w1 ⟨rfl,rfl⟩
 go_wp2
 go_ret
 exact⟨rfl,rfl⟩
theorem zgq {g:Nat} {m:Int} {ws:List Nat} {xs:List Int} (n:Int) (b:Bool) (w:World) (h:GM w g m ws) (hx:Wds ws xs) (hxs: ∀x∈xs,x<=65536) (hb:b=true↔1<=n/\(n<=m\/n∈xs)) :
  Calls Tryz.prog 143 #[.pointer (some ⟨g,0,none⟩),.int .i64 n] w fun e w'=>e= .returned (.bool b)/\Fr [] w w':=by
 have HT:Hid (Calls _ _ _ _ _):=zcx w h
 have c1:=h.c1
 by_cases h1:1<=n
 ·by_cases h2:n<=m
  ·have hbt:b=true:=hb.2 ⟨h1,Or.inl h2⟩
   subst hbt
   clear h hx hxs hb
   go_enter Tryz.func143,Tryz.ntmps143
   go_wp2_with fail
   refine Calls.mono HT.out ?_
   rintro e w1 ⟨rfl,rfl⟩
   go_wp2
   go_ret
   exact⟨rfl,Fr.refl _ _⟩
  ·have HI:Hid (Calls _ _ _ _ _):=zem n b w h hx h1 hxs (by
    rw[hb];constructor
    ·rintro⟨_,h3|h3⟩
     ·exact absurd h3 h2
     ·exact h3
    ·intro h3;exact⟨h1,Or.inr h3⟩)
   have hd:decide (n<=m)=false:=by simpa using h2
   clear h hx hxs hb
   go_enter Tryz.func143,Tryz.ntmps143
   go_wp2_with fail
   refine Calls.mono HT.out ?_
   rintro e w1 ⟨rfl,rfl⟩
   go_wp2_with fail
   refine Calls.mono HI.out ?_
   rintro e w1 ⟨rfl,hF⟩
   go_wp2
   go_ret
   exact⟨rfl,hF⟩
 ·have hbf:b=false:=by
   cases hbb:b with
   | false=>rfl
   | true=>exact absurd (hb.1 hbb).1 h1
  subst hbf
  clear h hx hxs hb
  go_enter Tryz.func143,Tryz.ntmps143
  go_wp2_with fail
  refine Calls.mono HT.out ?_
  rintro e w1 ⟨rfl,rfl⟩
  go_wp2
  go_ret
  exact⟨rfl,Fr.refl _ _⟩
structure IRs (w:World) (ao:Option Addr) (ns:List Int):Prop where
 lies:0<ns.length-> ∃b off,ao=some ⟨b,off,none⟩/\b<w.heap.size/\ ∀i,i<ns.length->w.cell? ⟨b,off+i,none⟩=some (.int .i64 (ns.getD i 0))
 few:ns.length<=17592186044416
theorem IRs.keepS {S:List Nat} {w w':World} {ao:Option Addr} {ns:List Int} (h:IRs w ao ns) (hf:Fr S w w') (hn:0<ns.length-> ∀a,ao=some a->a.block∉S):IRs w' ao ns:=by
 refine⟨fun h0=> ?_,h.few⟩
 obtain⟨b,off,e,hb,hc⟩:=h.lies h0
 exact⟨b,off,e,Nat.lt_of_lt_of_le hb hf.size,fun i hi=>(World.cell?_of_block (hf.block b hb (hn h0 _ e))).trans (hc i hi)⟩
theorem IRs.keep {w w':World} {ao:Option Addr} {ns:List Int} (h:IRs w ao ns) (hf:Fr [] w w'):IRs w' ao ns:=h.keepS hf (by simp)
theorem zbm (ns:List Int) (i:Nat) (h:i<ns.length):ns.take (i+1)=ns.take i++[ns.getD i 0]:=by
 rw[List.take_add_one]
 simp[List.getD,h]
theorem IRs.of_open {w:World} {a:Addr} {len cap:Nat} {zs:List Int} (hl:len<=cap) (hz:zs.length=cap) (hc: ∀i,i<zs.length->w.cell? (a.add i)=some (.int .i64 (zs.getD i 0))) (hb:len<=17592186044416):IRs w (some a) (zs.take len):=by
 refine⟨fun h0=> ?_,by simp;omega⟩
 rw[List.length_take]at h0
 obtain⟨b,off,spot⟩:=a
 have hspot:spot=none:=by simpa[Addr.add]using World.cell?_spot (hc 0 (by omega))
 subst hspot
 refine⟨b,off,rfl,?_,fun j hj=> ?_⟩
 ·have:=World.block_lt_of_cell? w _ (hc 0 (by omega))
  simpa[Addr.add]using this
 ·rw[List.length_take]at hj
  have h1:=hc j (by omega)
  rw[show (⟨b,off,none⟩:Addr).add j=⟨b,off+j,none⟩ from by simp[Addr.add]]at h1
  rw[h1]
  congr 2
  simp only[List.getD]
  rw[List.getElem?_take_of_lt (by omega)]
def Gok (m:Int) (xs:List Int):Prop:=Gt m xs/\m+1∉xs
def newC (m:Int):Array Value:=(Value.bool true::Value.int .i64 m::u64s (List.replicate 1024 0)).toArray
theorem zqo (m:Int):(Tryz.zeroCells193.setIfInBounds 0 (Value.bool true)).setIfInBounds 1 (Value.int .i64 m)=newC m:=by kernel_rfl
theorem zth (m:Int) (ao:Option Addr) (L cap:Nat) (xs:List Int) (w:World) (hX:IRs w ao xs) (hL:L=xs.length) :
  Calls Tryz.prog 74 #[.int .i64 m,.slice ao L cap] w fun e w'=>Fr [] w w'/\((Gok m xs/\ ∃g ws,e= .returned (.tuple #[.pointer (some ⟨g,0,none⟩),.int .i64 0])/\w.heap.size<=g/\GM w' g m ws/\Wds ws xs)\/(¬Gok m xs/\e= .returned (.tuple #[.pointer none,.int .i64 1]))):=by
 by_cases h0:m<0
 ·have HN:Hid (¬Gok m xs):=fun h=>by have:=h.1.low;omega
  go_enter Tryz.func74,Tryz.ntmps74
  go_wp2
  refine bodyPost_ret (results_tmp2 rfl _ _ _) rfl ?_
  exact⟨Fr.refl _ _,Or.inr ⟨HN.out,rfl⟩⟩
 by_cases h1:65536<m
 ·have HN:Hid (¬Gok m xs):=fun h=>by have:=h.1.top;omega
  go_enter Tryz.func74,Tryz.ntmps74
  go_wp2
  refine bodyPost_ret (results_tmp2 rfl _ _ _) rfl ?_
  exact⟨Fr.refl _ _,Or.inr ⟨HN.out,rfl⟩⟩
 have HL:Hid (L=xs.length):=hL
 have hLL:L<=17592186044416:=by rw[hL];exact hX.few
 have HX:Hid (∀W,Fr [] w W->IRs W ao xs):=fun W hf=>hX.keep hf
 have HM:Hid (GM (w.alloc (.cells ((Tryz.zeroCells193.setIfInBounds 0 (Value.bool true)).setIfInBounds 1 (Value.int .i64 m)) 193)) w.heap.size m (List.replicate 1024 0)):=⟨by rw[zqo];exact heap_alloc_new w _⟩
 clear hX hL
 go_enter Tryz.func74,Tryz.ntmps74
 go_wp2_with fail
 obtain⟨g,hg⟩: ∃g,g=w.heap.size:=⟨_,rfl⟩
 have hgw:w.heap.size<=g:=by omega
 rw[<-hg]at HM ⊢
 clear hg
 have HI0:Hid (Fr [] w (w.alloc (.cells ((Tryz.zeroCells193.setIfInBounds 0 (Value.bool true)).setIfInBounds 1 (Value.int .i64 m)) 193))):=Fr.alloc _ _ _
 go_loopw [7,9,23] (fun ll nn ii wr=> ∃(i:Nat) (lst:Int) (ws:List Nat),ll= .int .i64 lst/\ii= .int .i64 i/\i<=L/\m+2<=lst/\lst<=65537+1/\Hid (GM wr g m ws/\Wds ws (xs.take i))/\Hid (Fr [] w wr)/\Hid (Gok m (xs.take i)/\(∀x∈xs.take i,x<lst)/\(lst=m+2\/lst-1∈xs.take i))) (fun _ _ ii _=>L-(RowKit.intOf ii).toNat)
 case atStart=>exact⟨0,m+2,List.replicate 1024 0,rfl,rfl,Nat.zero_le _,by omega,by omega,⟨HM.out,Wds.zero⟩,HI0,⟨⟨⟨h0,h1,List.Pairwise.nil,by simp⟩,by simp⟩,by simp,Or.inl rfl⟩⟩
 case round =>
  obtain⟨i,lst,ws,rfl,rfl,hi1,hl1,hl2,HG,HF,HI⟩:=hrel
  by_cases hi:i<L
  ·have hix:i<xs.length:=by rw[<-HL.out];exact hi
   obtain⟨b,off,rfl,_,hc⟩:=(HX.out _ HF.out).lies (by omega)
   have hci:=hc i hix
   have HT:=zbm xs i hix
   have hmem:xs.getD i 0∈xs:=by simp[List.getD,hix]
   have hprec: ∀y∈xs.take i,Ris xs->y<xs.getD i 0:=by
    intro y hy hr
    have h3:Ris (xs.take (i+1)):=List.Pairwise.sublist (List.take_sublist _ _) hr
    rw[HT]at h3
    exact (List.pairwise_append.1 h3).2.2 y hy _ (by simp)
   obtain⟨x,hx⟩: ∃x,x=xs.getD i 0:=⟨_,rfl⟩
   rw[<-hx]at hci HT hmem hprec
   have HT:Hid (xs.take (i+1)=xs.take i++[x]):=HT
   clear hx hc
   by_cases h2:x<lst
   ·have HN:Hid (¬Gok m xs):=by
     intro hG
     have hb:=hG.1.bey x hmem
     have hne:x≠m+1:=fun e=>hG.2 (e▸hmem)
     rcases HI.out.2.2 with e|e
     ·omega
     ·have:=hprec _ e hG.1.ris
      omega
    clear hprec hmem
    go_wp2
    refine bodyPost_ret (results_tmp2 rfl _ _ _) rfl ?_
    exact⟨HF.out,Or.inr ⟨HN.out,rfl⟩⟩
   by_cases h3:65536<x
   ·have HN:Hid (¬Gok m xs):=by
     intro hG
     have hb:=hG.1.bey x hmem
     omega
    clear hprec hmem
    go_wp2
    refine bodyPost_ret (results_tmp2 rfl _ _ _) rfl ?_
    exact⟨HF.out,Or.inr ⟨HN.out,rfl⟩⟩
   have HS:Hid (Calls _ _ _ _ _):=zjs x wr HG.out.1 HG.out.2 (by omega) (by omega)
   have HW:Hid (Wds (ws.set (wdOf x) (ws.getD (wdOf x) 0 ||| pw2 (btOf x))) (xs.take (i+1))):=by
    show Wds _ _
    rw[HT.out]
    exact HG.out.2.put (by omega) (by omega) (fun y=>by simp[or_comm])
   have HI2:Hid (Gok m (xs.take (i+1))/\(∀y∈xs.take (i+1),y<x+1)/\(x+1=m+2\/x+1-1∈xs.take (i+1))):=by
    obtain⟨⟨g1,g2⟩,g3,_⟩:=HI.out
    rw[Hid,HT.out]
    refine⟨⟨⟨g1.low,g1.top,Ris.snoc g1.ris (fun y hy=>by have:=g3 y hy;omega),fun y hy=> ?_⟩,fun hy=> ?_⟩,fun y hy=> ?_,Or.inr (by rw[show x+1-1=x by omega];simp)⟩
    ·rcases List.mem_append.1 hy with e|e
     ·exact g1.bey y e
     ·simp at e;subst e;omega
    ·rcases List.mem_append.1 hy with e|e
     ·exact g2 e
     ·simp at e;omega
    ·rcases List.mem_append.1 hy with e|e
     ·have:=g3 y e;omega
     ·simp at e;omega
   clear hprec hmem HI
   go_wp2_with fail
   refine Calls.mono HS.out ?_
   rintro e w3 ⟨rfl,hG3,hF3⟩
   have HG3:Hid (GM w3 g m (ws.set (wdOf x) (ws.getD (wdOf x) 0 ||| pw2 (btOf x)))/\Wds (ws.set (wdOf x) (ws.getD (wdOf x) 0 ||| pw2 (btOf x))) (xs.take (i+1))):=⟨hG3,HW.out⟩
   have HF3:Hid (Fr [] w w3):=HF.out.on hF3 (by simpa using hgw)
   clear hG3 hF3 HG HF HS HW
   go_wp2
   go_roundw
   case rel=>exact⟨i+1,x+1,_,rfl,by simp,by omega,by omega,by omega,HG3,HF3,HI2⟩
   case measure=>simp[RowKit.intOf];omega
  ·have HE:Hid (xs.take i=xs):=List.take_of_length_le (by rw[<-HL.out];omega)
   go_wp2
   refine bodyPost_ret (results_tmp2 rfl _ _ _) rfl ?_
   have h5:=HI.out.1
   have h6:=HG.out
   rw[HE.out]at h5 h6
   exact⟨HF.out,Or.inl ⟨h5,g,ws,rfl,hgw,h6.1,h6.2⟩⟩
theorem Gt.ins {m n:Int} {xs:List Int} (h:Gt m xs) (h1:1<=n) (h2:n<=65536) (hn: ¬(n<=m\/n∈xs)):Gt m (insI n xs):=by
 refine⟨h.low,h.top,zej n xs h.ris (fun e=>hn (Or.inr e)),fun y hy=> ?_⟩
 rcases (zcc n y xs).1 hy with e|e
 ·subst e
  have: ¬y<=m:=fun e=>hn (Or.inl e)
  omega
 ·exact h.bey y e
theorem zqp {g:Nat} {m:Int} {ws:List Nat} {xs:List Int} (n:Int) (w:World) (h:GM w g m ws) (hx:Wds ws xs) (hok:Gok m xs) (h1:1<=n) (h2:n<=65536) (hn: ¬(n<=m\/n∈xs)) :
  Calls Tryz.prog 148 #[.pointer (some ⟨g,0,none⟩),.int .i64 n] w fun e w'=>e= .returned (.tuple #[.int .i64 ((adv m (insI n xs)).1-m),.int .i64 0])/\(∃ws',GM w' g (adv m (insI n xs)).1 ws'/\Wds ws' (adv m (insI n xs)).2)/\Fr [g] w w':=by
 have HTh:Hid (Calls _ _ _ _ _):=zcx w h
 have hxs: ∀x∈xs,x<=65536:=fun x hx=>(hok.1.bey x hx).2
 have HHas:Hid (Calls _ _ _ _ _):=zgq n false w h hx hxs ⟨fun e=>(by cases e),fun e=>absurd e.2 hn⟩
 have hGi:=hok.1.ins h1 h2 hn
 have HM:Hid (∀W,Fr [] w W->GM W g m ws):=fun W hf=>h.keep hf (by simp)
 have hm0:=hok.1.low
 have hm1:=hok.1.top
 have HW:Hid (Wds (ws.set (wdOf n) (ws.getD (wdOf n) 0 ||| pw2 (btOf n))) (insI n xs)):=hx.put h1 h2 (fun y=>zcc n y xs)
 obtain⟨A,hA⟩: ∃A,A=adv m (insI n xs):=⟨_,rfl⟩
 have HG0:Hid (Gt m (insI n xs)/\adv m (insI n xs)=A):=⟨hGi,hA.symm⟩
 rw[<-hA]
 have HX:Hid (Wds ws xs):=hx
 clear h hx hok hxs hn hGi hA
 go_enter Tryz.func148,Tryz.ntmps148
 go_wp2_with fail
 refine Calls.mono HTh.out ?_
 rintro e w1 ⟨rfl,rfl⟩
 go_wp2_with fail
 refine Calls.mono HHas.out ?_
 rintro e w1 ⟨rfl,hF1⟩
 have c1:=(HM.out _ hF1).c1
 have HS:Hid (Calls _ _ _ _ _):=zjs n w1 (HM.out _ hF1) HX.out h1 h2
 go_wp2_with fail
 refine Calls.mono HS.out ?_
 rintro e w3 ⟨rfl,hG3,hF3⟩
 have HG3:Hid (GM w3 g m (ws.set (wdOf n) (ws.getD (wdOf n) 0 ||| pw2 (btOf n)))):=hG3
 have HF3:Hid (Fr [g] w w3):=hF1.trans hF3 (by simp) (fun x hx _=>hx)
 obtain⟨ws3,hws3⟩: ∃ws3,ws3=ws.set (wdOf n) (ws.getD (wdOf n) 0 ||| pw2 (btOf n)):=⟨_,rfl⟩
 rw[<-hws3]at HG3 HW
 clear hws3 hG3 hF3 hF1 c1 HS HM HX HTh HHas
 go_wp2_with fail
 go_loopg [28] ((65537-m).toNat) (fun k v28 wr=> ∃(M:Int) (ys:List Int) (vs:List Nat),(k:Int)=65537-M/\0<=M/\M<=65536/\Hid (GM wr g M vs/\Wds vs ys)/\Hid (Gt M ys/\adv M ys=A)/\Hid (Fr [g] w wr))
 case atStart=>exact⟨m,insI n xs,ws3,by omega,hm0,hm1,⟨HG3.out,HW.out⟩,HG0,HF3⟩
 case round =>
  obtain⟨M,ys,vs,hk,hM0,hM1,HG,HI,HF⟩:=hrel
  have HK:Hid ((gk:Int)=65537-M):=hk
  clear hk HG0 HG3 HW HF3
  have c1:=HG.out.1.c1
  have hys: ∀x∈ys,x<=65536:=fun x hx=>(HI.out.1.bey x hx).2
  by_cases hb:M+1∈ys
  ·have HIs:Hid (Calls _ _ _ _ _):=zem (M+1) true wr HG.out.1 HG.out.2 (by omega) hys (by simp[hb])
   have hM2:M+1<=65536:=hys _ hb
   obtain⟨r,hr⟩: ∃r,ys=(M+1)::r:=by
    cases ys with
    | nil=>simp at hb
    | cons y r=>exact⟨r,by rw[HI.out.1.head.1 hb]⟩
   have HR:Hid (∀y,y∈r↔y≠M+1/\y∈ys):=by
    intro y
    rw[hr]
    have hp:=List.pairwise_cons.1 (hr▸HI.out.1.ris)
    constructor
    ·intro hy
     exact⟨by have:=hp.1 y hy;omega,by simp[hy]⟩
    ·rintro⟨h3,h4⟩
     rcases List.mem_cons.1 h4 with e|e
     ·exact absurd e h3
     ·exact e
   have HI2:Hid (Gt (M+1) r/\adv (M+1) r=A):=by
    refine⟨(hr▸HI.out.1).tail rfl,?_⟩
    rw[<-HI.out.2,hr]
    exact (zjp rfl).symm
   clear hys hb hr
   go_wp2_with fail
   refine Calls.mono HIs.out ?_
   rintro e w4 ⟨rfl,hF4⟩
   have hG4:=HG.out.1.keep hF4 (by simp)
   have c4:=hG4.c1
   have f4:=hG4.free 1
   have hG5:=hG4.mark (M+1)
   have c5:=hG5.c1
   have HCl:Hid (Calls _ _ _ _ _):=zni (M+1) _ hG5 HG.out.2 (by omega) hM2
   have HF5:Hid (Fr [g] w (w4.setCell ⟨g,1,none⟩ (.int .i64 (M+1)))):=HF.out.then (hF4.trans (Fr.set (S:=[g]) w4 ⟨g,1,none⟩ _ (by simp)) (by simp) (fun x hx _=>hx))
   clear hG4 hG5 hF4 HIs
   go_wp2_with fail
   refine Calls.mono HCl.out ?_
   rintro e w6 ⟨rfl,⟨v,hG6,hv⟩,hF6⟩
   have HG6:Hid (GM w6 g (M+1) (vs.set (wdOf (M+1)) v)/\Wds (vs.set (wdOf (M+1)) v) r):=⟨hG6,HG.out.2.cut (by omega) hM2 HR.out hv⟩
   have HF6:Hid (Fr [g] w w6):=HF5.out.then hF6
   clear hG6 hv hF6 HF5 HCl HG HF c1 c4 c5 f4
   go_wp2_with fail
   go_roundg (gk-1)
   case measure=>have:=HK.out;omega
   case rel=>exact⟨M+1,r,_,by have:=HK.out;omega,by omega,by omega,HG6,HI2,HF6⟩
  ·have HIs:Hid (Calls _ _ _ _ _):=zem (M+1) false wr HG.out.1 HG.out.2 (by omega) hys (by simp[hb])
   have HE:Hid (A=(M,ys)):=by
    rw[Hid,<-HI.out.2]
    exact zjq HI.out.1 hb
   clear hys hb
   go_wp2_with fail
   refine Calls.mono HIs.out ?_
   rintro e w4 ⟨rfl,hF4⟩
   have hG4:=HG.out.1.keep hF4 (by simp)
   have c4:=hG4.c1
   have HG4:Hid (GM w4 g M vs):=hG4
   clear hG4
   go_wp2
   refine bodyPost_ret (results_tmp2 rfl _ _ _) rfl ?_
   rw[HE.out]
   exact⟨rfl,⟨vs,HG4.out,HG.out.2⟩,HF.out.then (hF4.mono (by simp))⟩
theorem zti {g:Nat} {m:Int} {ws:List Nat} {xs:List Int} (n:Int) (w:World) (h:GM w g m ws) (hx:Wds ws xs) (hok:Gok m xs) (hn:n<1\/65536<n\/n<=m\/n∈xs) :
  Calls Tryz.prog 148 #[.pointer (some ⟨g,0,none⟩),.int .i64 n] w fun e w'=>e= .returned (.tuple #[.int .i64 0,.int .i64 1])/\Fr [] w w':=by
 have HTh:Hid (Calls _ _ _ _ _):=zcx w h
 have hxs: ∀x∈xs,x<=65536:=fun x hx=>(hok.1.bey x hx).2
 by_cases h1:n<1
 ·clear hn h hx hok hxs
  go_enter Tryz.func148,Tryz.ntmps148
  go_wp2_with fail
  refine Calls.mono HTh.out ?_
  rintro e w1 ⟨rfl,rfl⟩
  go_wp2
  refine bodyPost_ret (results_tmp2 rfl _ _ _) rfl ?_
  exact⟨rfl,Fr.refl _ _⟩
 by_cases h2:65536<n
 ·clear hn h hx hok hxs
  go_enter Tryz.func148,Tryz.ntmps148
  go_wp2_with fail
  refine Calls.mono HTh.out ?_
  rintro e w1 ⟨rfl,rfl⟩
  go_wp2
  refine bodyPost_ret (results_tmp2 rfl _ _ _) rfl ?_
  exact⟨rfl,Fr.refl _ _⟩
 have hq:n<=m\/n∈xs:=by
  rcases hn with e|e|e
  ·exact absurd e h1
  ·exact absurd e h2
  ·exact e
 have HHas:Hid (Calls _ _ _ _ _):=zgq n true w h hx hxs ⟨fun e=>⟨by omega,hq⟩,fun e=>rfl⟩
 clear hn h hx hok hxs hq
 go_enter Tryz.func148,Tryz.ntmps148
 go_wp2_with fail
 refine Calls.mono HTh.out ?_
 rintro e w1 ⟨rfl,rfl⟩
 go_wp2_with fail
 refine Calls.mono HHas.out ?_
 rintro e w1 ⟨rfl,hF1⟩
 go_wp2
 refine bodyPost_ret (results_tmp2 rfl _ _ _) rfl ?_
 exact⟨rfl,hF1⟩
structure GG (w:World) (g:Nat) (m:Int) (xs:List Int):Prop where
 mem: ∃ws,GM w g m ws/\Wds ws xs
 ok:Gok m xs
theorem GG.keep {S:List Nat} {w w':World} {g:Nat} {m:Int} {xs:List Int} (h:GG w g m xs) (hf:Fr S w w') (hn:g∉S):GG w' g m xs:=by
 obtain⟨ws,h1,h2⟩:=h.mem
 exact⟨⟨ws,h1.keep hf hn,h2⟩,h.ok⟩
theorem GG.lt {w:World} {g:Nat} {m:Int} {xs:List Int} (h:GG w g m xs):g<w.heap.size:=by
 obtain⟨ws,h1,_⟩:=h.mem
 exact h1.lt
structure GDo (m:Int) (xs:List Int) (n:Int) (up er m':Int) (xs':List Int):Prop where
 ok:Gok m' xs'
 or:(¬(1<=n/\n<=65536/\ ¬(n<=m\/n∈xs))/\up=0/\er=1/\m'=m/\xs'=xs)\/((1<=n/\n<=65536/\ ¬(n<=m\/n∈xs))/\up=m'-m/\er=0/\(m',xs')=adv m (insI n xs))
theorem GDo.ex (m:Int) (xs:List Int) (n:Int) (hok:Gok m xs): ∃up er m' xs',GDo m xs n up er m' xs':=by
 by_cases h:1<=n/\n<=65536/\ ¬(n<=m\/n∈xs)
 ·have:=zfi (insI n xs) m (hok.1.ins h.1 h.2.1 h.2.2)
  exact⟨_,0,_,_,⟨this.1,this.2.1⟩,Or.inr ⟨h,rfl,rfl,rfl⟩⟩
 ·exact⟨0,1,m,xs,hok,Or.inl ⟨h,rfl,rfl,rfl,rfl⟩⟩
theorem zwq {w:World} {g:Nat} {m n up er m':Int} {xs xs':List Int} (h:GG w g m xs) (hd:GDo m xs n up er m' xs') :
  Calls Tryz.prog 148 #[.pointer (some ⟨g,0,none⟩),.int .i64 n] w fun e w'=>e= .returned (.tuple #[.int .i64 up,.int .i64 er])/\GG w' g m' xs'/\Fr [g] w w':=by
 obtain⟨ws,h1,h2⟩:=h.mem
 rcases hd.or with ⟨k1,rfl,rfl,rfl,rfl⟩|⟨k1,rfl,rfl,k2⟩
 ·refine (zti n w h1 h2 h.ok ?_).mono ?_
  ·apply Classical.byContradiction
   intro hc
   exact k1 ⟨by have:=mt Or.inl hc;omega,by have:=mt (fun e=>Or.inr (Or.inl e)) hc;omega,fun e=>hc (Or.inr (Or.inr e))⟩
  ·rintro e w' ⟨rfl,hF⟩
   exact⟨rfl,h.keep hF (by simp),hF.mono (by simp)⟩
 ·refine (zqp n w h1 h2 h.ok k1.1 k1.2.1 k1.2.2).mono ?_
  rintro e w' ⟨rfl,⟨ws',h3,h4⟩,hF⟩
  rw[<-k2]at h3 h4 ⊢
  exact⟨rfl,⟨⟨ws',h3,h4⟩,hd.ok⟩,hF⟩
theorem zwr {w:World} {g:Nat} {m:Int} {xs:List Int} (h:GG w g m xs):Calls Tryz.prog 126 #[.pointer (some ⟨g,0,none⟩)] w fun e w'=>e= .returned (.int .i64 m)/\Fr [] w w':=by
 obtain⟨ws,h1,_⟩:=h.mem
 refine (zii w h1).mono ?_
 rintro e w' ⟨rfl,rfl⟩
 exact⟨rfl,Fr.refl _ _⟩
theorem zqq {w:World} {g:Nat} {m:Int} {xs:List Int} (h:GG w g m xs) (n:Int) (b:Bool) (hb:b=true↔1<=n/\(n<=m\/n∈xs)):Calls Tryz.prog 143 #[.pointer (some ⟨g,0,none⟩),.int .i64 n] w fun e w'=>e= .returned (.bool b)/\Fr [] w w':=by
 obtain⟨ws,h1,h2⟩:=h.mem
 exact zgq n b w h1 h2 (fun x hx=>(h.ok.1.bey x hx).2) hb
structure Qr (w:World) (lo:Option Addr) (n c:Nat) (xs:List Int):Prop where
 len:n=xs.length
 fit:n<=c
 row:(lo=none/\c=0)\/ ∃b off cur,lo=some ⟨b,off,none⟩/\w.heap[b]? = some (.cells cur 3 (0,0))/\ ∀i,i<n->cur[off+i]? = some (.int .i64 (xs.getD i 0))
theorem Qr.keep {S:List Nat} {w w':World} {lo:Option Addr} {n c:Nat} {xs:List Int} (h:Qr w lo n c xs) (hf:Fr S w w') (hn: ∀b,qb lo=some b->b∉S):Qr w' lo n c xs:=by
 refine⟨h.len,h.fit,?_⟩
 rcases h.row with h|⟨b,off,cur,rfl,hb,h⟩
 ·exact .inl h
 ·exact .inr ⟨b,off,cur,rfl,hf.keep hb (hn b rfl),h⟩
theorem Qr.ty {w:World} {lo:Option Addr} {n c b:Nat} {xs:List Int} (h:Qr w lo n c xs) (hb:qb lo=some b): ∃cur,w.heap[b]? = some (.cells cur 3 (0,0)):=by
 rcases h.row with ⟨rfl,_⟩|⟨b',off,cur,rfl,h1,_⟩
 ·cases hb
 ·cases hb;exact⟨cur,h1⟩
theorem Qr.at_ {w:World} {lo:Option Addr} {n c:Nat} {xs:List Int} (h:Qr w lo n c xs) {i:Nat} (hi:i<n): ∃b off,lo=some ⟨b,off,none⟩/\b<w.heap.size/\w.cell? ⟨b,off+i,none⟩=some (.int .i64 (xs.getD i 0)):=by
 rcases h.row with ⟨_,h0⟩|⟨b,off,cur,rfl,hb,hc⟩
 ·have:=h.fit;omega
 ·exact⟨b,off,rfl,lt_of_block hb,by rw[cell_of_row _ _ _ _ _ _ hb];exact hc i hi⟩
theorem IOw.qr {base:Nat} {w:World} {o:Option Addr} {n c:Nat} {xs:List Int} (h:IOw base w o n c xs):Qr w o n c xs:=by
 refine⟨h.len,h.cap,?_⟩
 rcases h.row.2 with ⟨hh,h0⟩|⟨g,cap,cur,hh,hb,hg,hc,_,_,ht⟩
 ·cases hh;exact .inl ⟨rfl,rfl⟩
 ·cases hh
  refine .inr ⟨g,0,cur,rfl,hg,fun i hi=> ?_⟩
  obtain⟨g',e,_,h2⟩:=h.at i (by rw[<-h.len];exact hi)
  cases e
  rw[Nat.zero_add,<-cell_of_row w g i cur 3 (0,0) hg]
  exact h2
theorem IOw.qb {base:Nat} {w:World} {o:Option Addr} {n c b:Nat} {xs:List Int} (h:IOw base w o n c xs) (hb:qb o=some b):(Value.slice o n c).ownBlock=some b/\base<=b:=by
 rcases h.row.2 with ⟨hh,h0⟩|⟨g,cap,cur,hh,hb2,hg,hc,_,_,ht⟩
 ·cases hh;cases hb
 ·cases hh;cases hb;exact⟨rfl,hb2⟩
structure OG (w:World) (g:Nat) (lo:Option Addr) (n c:Nat) (m:Int) (xs:List Int):Prop where
 box:w.heap[g]? = some (.cells #[.int .i64 m,.slice lo n c] 124 (0,0))
 row:Qr w lo n c xs
 ok:Gok m xs
section
variable {w w':World} {g n c:Nat} {lo:Option Addr} {m:Int} {xs:List Int}
theorem OG.lt (h:OG w g lo n c m xs):g<w.heap.size:=lt_of_block h.box
theorem OG.c0 (h:OG w g lo n c m xs):w.cell? ⟨g,0,none⟩=some (.int .i64 m):=by rw[cell_of_row _ _ _ _ _ _ h.box];rfl
theorem OG.c1 (h:OG w g lo n c m xs):w.cell? ⟨g,1,none⟩=some (.slice lo n c):=by rw[cell_of_row _ _ _ _ _ _ h.box];rfl
theorem OG.keep {S:List Nat} (h:OG w g lo n c m xs) (hf:Fr S w w') (hg:g∉S) (hn: ∀b,qb lo=some b->b∉S):OG w' g lo n c m xs:=⟨hf.keep h.box hg,h.row.keep hf hn,h.ok⟩
theorem OG.few (h:OG w g lo n c m xs):n<=65536:=by rw[h.row.len];exact h.ok.1.few
end
theorem zfo {P:Program} {w:World} {ops:Array Oper} {rest:List Oper} {o:Oper} {a:Act} {Q:Exit->Act->World->Prop} (hgd:o.guard=none) (s x:Operand) (t:TypeId)
  (ho:o.op= .call { callee:= .builtin .append,args:= #[s,x],argTypes:= #[t,t] })
  (e:TypeId) (i:TypeInfo) (ht:P.underlying t=some (.slice e)) (hi:P.info? e=some i)
  (hs:a.eval s= .slice none 0 0) (xo:Option Addr) (xc:Nat) (hx:a.eval x= .slice xo 0 xc)
  (h:wpList P ops Q rest (a.put o.dst (.slice none 0 0)) w):wpList P ops Q (o::rest) a w:=by
 refine wpList_plain hgd fun K hK=> ?_
 have hl: ∀(x:Addr),(loadCells x 0).run P w= .ok #[] w:=fun x=>by simpa using run_loadCells_list (P:=P) w x [] (by simp)
 have hrun:(Builtin.append_ #[t,t] o.type #[.slice none 0 0,.slice xo 0 xc]).run P w= .ok (.slice none 0 0) w:=by
  cases xo<;>simp[Builtin.append_,run_underlying ht,sizeOf,typeInfo,hi,Builtin.lenOf,Builtin.firstCells,hl,storeCells]
 unfold Oper.wp
 simp[execOp,ho,resolve,invoke,builtin,hs,hx,hrun,Result.andThen]
 exact hK _ _ h
theorem zmb (w:World) {ops:Array Oper} {rest:List Oper} {o:Oper} {a:Act} {Q:Exit->Act->World->Prop} (hgd:o.guard=none) (s x:Operand)
  (ho:o.op= .call { callee:= .builtin .append,args:= #[s,x],argTypes:= #[25,25] })
  (hs:a.eval s= .slice none 0 0) (xo:Option Addr) (M xc:Nat) (xs:List Int) (hx:a.eval x= .slice xo M xc) (hV:IRs w xo xs) (hM:M=xs.length) (hMb:M<=1099511627776)
  (h: ∀bo rc w',IOw w.heap.size w' bo M rc xs->Fr [] w w'->wpList Tryz.prog ops Q rest (a.put o.dst (.slice bo M rc)) w'):wpList Tryz.prog ops Q (o::rest) a w:=by
 obtain⟨i0,hi,hz0,hz1,hz2⟩:=zdu
 by_cases h0:0<M
 ·obtain⟨b,off,rfl,_,hc⟩:=hV.lies (by omega)
  refine wpList_append_own w hgd s x 25 ho w.heap.size 3 i0 _ 1 8 Tryz.undIs11 hi hz0 hz1 hz2 rfl (by decide) (.slice none 0 0) 0 [] hs (World.ownsRow_nil _ _ _ _) ⟨b,off,none⟩ M xc (ints xs) hx (by rw[zbj,hM];omega) (fun j u hu=> ?_) (fun u hu=>by obtain⟨_,_,rfl⟩:=List.mem_map.1 hu;rfl) (by unfold maxLen;omega) (by omega) (Nat.le_refl _) ?_
  ·have hj:j<xs.length:=by have:=(List.getElem?_eq_some_iff.1 hu).1;rwa [zbj]at this
   rw[Addr.add_lit,hc j hj]
   simp[ints,hj]at hu
   simp[List.getD,hj,hu]
  ·intro v' w' hown hg _
   rw[Nat.zero_add,List.nil_append]at hown
   obtain⟨bo,rc,rfl⟩: ∃bo rc,v'= .slice bo M rc:=by
    rcases hown.2 with ⟨_,hh⟩|⟨g,cap',_,hh,_⟩
    ·omega
    ·exact⟨_,cap',hh⟩
   exact h bo rc w' ⟨hM,hown⟩ (Fr.grown (S:=[]) hg (fun k hk=>by simp[Value.ownBlock]at hk))
 ·obtain rfl:M=0:=by omega
  have hvs:xs=[]:=List.eq_nil_of_length_eq_zero hM.symm
  subst hvs
  exact zfo hgd s x 25 ho 3 i0 Tryz.undIs11 hi hs xo xc hx (h none 0 w (IOw.nil _ _) (Fr.refl _ _))
section
variable {g N c:Nat} {lo:Option Addr} {m:Int} {xs:List Int}
theorem zkp (n:Int) (b:Bool) (w:World) (h:OG w g lo N c m xs) (hb:b=true↔1<=n/\(n<=m\/n∈xs)):Calls Tryz.prog 162 #[.pointer (some ⟨g,0,none⟩),.int .i64 n] w fun e w'=>e= .returned (.bool b)/\Fr [] w w':=by
 by_cases h1:n<1
 ·have hbf:b=false:=by
   cases hbb:b with
   | false=>rfl
   | true=>have:=(hb.1 hbb).1;omega
  subst hbf
  clear h hb
  go_enter Tryz.func162,Tryz.ntmps162
  go_wp2
  go_ret
  exact⟨rfl,Fr.refl _ _⟩
 have c0:=h.c0
 have c1:=h.c1
 have HQ:Hid (∀W,Fr [] w W->Qr W lo N c xs/\W.cell? ⟨g,0,none⟩=some (.int .i64 m)/\W.cell? ⟨g,1,none⟩=some (.slice lo N c)):=fun W hf=>by
  have h2:=h.keep hf (by simp) (by simp)
  exact⟨h2.row,h2.c0,h2.c1⟩
 have HN:Hid (N=xs.length):=h.row.len
 have hN:=h.few
 have HB:Hid (b=true↔1<=n/\(n<=m\/n∈xs)):=hb
 clear h hb c0 c1
 go_enter Tryz.func162,Tryz.ntmps162
 go_wp2_with fail
 go_loopw [5] (fun ii wr=> ∃i:Nat,ii= .int .i64 i/\i<=N/\Hid (n∉xs.take i)/\Hid (Fr [] w wr)) (fun ii _=>N-(RowKit.intOf ii).toNat)
 case atStart=>exact⟨0,rfl,Nat.zero_le _,(by simp:n∉xs.take 0),Fr.refl _ _⟩
 case round =>
  obtain⟨i,rfl,hi1,HI,HF⟩:=hrel
  obtain⟨hq,c0,c1⟩:=HQ.out _ HF.out
  by_cases hi:i<N
  ·have hix:i<xs.length:=by rw[<-HN.out];exact hi
   obtain⟨bb,off,rfl,_,hci⟩:=hq.at_ hi
   have HT:=zbm xs i hix
   have hmem:xs.getD i 0∈xs:=by simp[List.getD,hix]
   obtain⟨x,hx⟩: ∃x,x=xs.getD i 0:=⟨_,rfl⟩
   rw[<-hx]at hci HT hmem
   clear hx hq
   by_cases he:x=n
   ·have hbt:b=true:=HB.out.2 ⟨by omega,Or.inr (he▸hmem)⟩
    have hxn:(x==n)=true:=by simpa using he
    subst hbt
    clear he hmem HT
    go_wp2
    go_ret
    exact⟨rfl,HF.out⟩
   ·have hxn:(x==n)=false:=by simpa using he
    have HI2:Hid (n∉xs.take (i+1)):=by
     rw[Hid,HT]
     intro hm
     rcases List.mem_append.1 hm with e|e
     ·exact HI.out e
     ·simp at e;exact he e.symm
    clear he hmem HT
    go_wp2
    go_roundw
    case rel=>exact⟨i+1,by simp,by omega,HI2,HF⟩
    case measure=>simp[RowKit.intOf];omega
  ·have hno:n∉xs:=by
    have:=HI.out
    rwa [List.take_of_length_le (by rw[<-HN.out];omega)]at this
   have hbe:b=decide (n<=m):=by
    have h2:=HB.out
    by_cases h3:n<=m
    ·rw[h2.2 ⟨by omega,Or.inl h3⟩];simp[h3]
    ·cases hbb:b with
     | false=>simp[h3]
     | true =>
      rcases (h2.1 hbb).2 with e|e
      ·exact absurd e h3
      ·exact absurd e hno
   subst hbe
   clear hno hq HB
   go_wp2
   go_ret
   exact⟨rfl,HF.out⟩
end
theorem zuw {xs:List Int} {i:Nat} (h:Ris (xs.take (i+1))) (hi:i<xs.length): ∀z∈xs.take (i+1),z<=xs.getD i 0:=by
 intro z hz
 rw[zbm xs i hi]at h hz
 rcases List.mem_append.1 hz with e|e
 ·have:=(List.pairwise_append.1 h).2.2 z e (xs.getD i 0) (List.mem_singleton.2 rfl);omega
 ·rw[List.mem_singleton]at e;omega
theorem zux (m:Int) (ao:Option Addr) (L cap:Nat) (xs:List Int) (b:Bool) (w:World) (hX:IRs w ao xs) (hL:L=xs.length) (hb:b=true↔Gok m xs) :
  Calls Tryz.prog 81 #[.int .i64 m,.slice ao L cap] w fun e w'=>e= .returned (.bool b)/\Fr [] w w':=by
 have hbf: ¬Gok m xs->b=false:=fun h=>by
  cases hbb:b with
  | false=>rfl
  | true=>exact absurd (hb.1 hbb) h
 by_cases h0:m<0
 ·have hb0:=hbf (fun h=>by have:=h.1.low;omega)
  subst hb0
  clear hb hbf
  go_enter Tryz.func81,Tryz.ntmps81
  go_wp2
  go_ret
  exact⟨rfl,Fr.refl _ _⟩
 by_cases h1:65536<m
 ·have hb0:=hbf (fun h=>by have:=h.1.top;omega)
  subst hb0
  clear hb hbf
  go_enter Tryz.func81,Tryz.ntmps81
  go_wp2
  go_ret
  exact⟨rfl,Fr.refl _ _⟩
 have HL:Hid (L=xs.length):=hL
 have hLL:L<=17592186044416:=by rw[hL];exact hX.few
 have HX:Hid (∀W,Fr [] w W->IRs W ao xs):=fun W hf=>hX.keep hf
 have HB:Hid ((b=true↔Gok m xs)/\(¬Gok m xs->b=false)):=⟨hb,hbf⟩
 clear hX hL hb hbf
 go_enter Tryz.func81,Tryz.ntmps81
 go_wp2_with fail
 go_loopw [5] (fun ii wr=> ∃i:Nat,ii= .int .i64 i/\i<=L/\Hid (Gok m (xs.take i))/\Hid (Fr [] w wr)) (fun ii _=>L-(RowKit.intOf ii).toNat)
 case atStart=>exact⟨0,rfl,Nat.zero_le _,⟨⟨by omega,by omega,List.Pairwise.nil,by simp⟩,by simp⟩,Fr.refl _ _⟩
 case round =>
  obtain⟨i,rfl,hi1,HG,HF⟩:=hrel
  by_cases hi:i<L
  ·have hix:i<xs.length:=by rw[<-HL.out];exact hi
   obtain⟨bb,off,rfl,_,hc⟩:=(HX.out _ HF.out).lies (by omega)
   have hci:=hc i hix
   have HT:=zbm xs i hix
   have hmem:xs.getD i 0∈xs:=by simp[List.getD,hix]
   have hil:(i:Int)<(L:Int):=by omega
   cases i with
   | zero =>
    obtain⟨x,hx⟩: ∃x,x=xs.getD 0 0:=⟨_,rfl⟩
    rw[<-hx]at hci HT hmem
    clear hx hc
    rw[Nat.add_zero]at hci
    by_cases h2:x<m+2
    ·have hb0:b=false:=HB.out.2 (fun hG=>by
      have:=hG.1.bey x hmem
      have hne:x≠m+1:=fun e=>hG.2 (e▸hmem)
      omega)
     subst hb0
     have d1:decide (x<m+2)=true:=by simpa using h2
     clear hmem HT HB
     go_wp2_with fail
     go_quiet (fail)
     go_wp2
     go_ret
     exact⟨rfl,HF.out.then (Fr.drewN _ _ _)⟩
    have d1:decide (x<m+2)=false:=by simpa using h2
    by_cases h3:65536<x
    ·have hb0:b=false:=HB.out.2 (fun hG=>by
      have:=hG.1.bey x hmem
      omega)
     subst hb0
     have d2:decide (65536<x)=true:=by simpa using h3
     clear hmem HT HB
     go_wp2_with fail
     go_quiet (fail)
     go_wp2
     go_ret
     exact⟨rfl,HF.out.then (Fr.drewN _ _ _)⟩
    have d2:decide (65536<x)=false:=by simpa using h3
    have HG2:Hid (Gok m (xs.take (0+1))):=by
     rw[Hid,HT]
     refine⟨⟨by omega,by omega,by simp[Ris],fun y hy=> ?_⟩,fun hy=> ?_⟩
     ·simp at hy;omega
     ·simp at hy;omega
    clear hmem HT
    go_wp2_with fail
    go_quiet (fail)
    have HF2:Hid (Fr [] w (wr.drewN nq)):=HF.out.then (Fr.drewN _ _ _)
    go_wp2
    go_roundw
    case rel=>exact⟨1,by simp,by omega,HG2,HF2⟩
    case measure=>simp[RowKit.intOf];omega
   | succ i =>
    have hcp:=hc i (by omega)
    have hlast:=zuw (i:=i) HG.out.1.ris (by omega)
    have hpr:Ris xs->xs.getD i 0<xs.getD (i+1) 0:=fun hr=>by
     have:=List.pairwise_iff_getElem.1 hr i (i+1) (by omega) hix (by omega)
     have h3:i<xs.length:=by omega
     simpa[List.getD,h3,hix]using this
    obtain⟨x,hx⟩: ∃x,x=xs.getD (i+1) 0:=⟨_,rfl⟩
    obtain⟨y,hy⟩: ∃y,y=xs.getD i 0:=⟨_,rfl⟩
    rw[<-hx]at hci HT hmem hpr
    rw[<-hy]at hcp hlast hpr
    clear hx hy hc
    have hiw:IntKind.i64.wrap ((i:Int))=(i:Int):=by rw[IntKind.wrap_i64];omega
    have d0:decide ((0:Int)<((i+1:Nat):Int))=true:=by simp
    by_cases h2:x<m+2
    ·have hb0:b=false:=HB.out.2 (fun hG=>by
      have:=hG.1.bey x hmem
      have hne:x≠m+1:=fun e=>hG.2 (e▸hmem)
      omega)
     subst hb0
     have d1:decide (x<m+2)=true:=by simpa using h2
     clear hmem HT HB hpr hlast
     go_wp2_with fail
     go_quiet (fail)
     go_wp2
     go_ret
     exact⟨rfl,HF.out.then (Fr.drewN _ _ _)⟩
    have d1:decide (x<m+2)=false:=by simpa using h2
    by_cases h3:65536<x
    ·have hb0:b=false:=HB.out.2 (fun hG=>by
      have:=hG.1.bey x hmem
      omega)
     subst hb0
     have d2:decide (65536<x)=true:=by simpa using h3
     clear hmem HT HB hpr hlast
     go_wp2_with fail
     go_quiet (fail)
     go_wp2
     go_ret
     exact⟨rfl,HF.out.then (Fr.drewN _ _ _)⟩
    have d2:decide (65536<x)=false:=by simpa using h3
    by_cases h4:x<=y
    ·have hb0:b=false:=HB.out.2 (fun hG=>by
      have:=hpr hG.1.ris
      omega)
     subst hb0
     have d3:decide (x<=y)=true:=by simpa using h4
     clear hmem HT HB hpr hlast
     go_wp2_with fail
     go_quiet (fail)
     go_wp2
     go_ret
     exact⟨rfl,HF.out.then (Fr.drewN _ _ _)⟩
    have d3:decide (x<=y)=false:=by simpa using h4
    have HG2:Hid (Gok m (xs.take (i+1+1))):=by
     rw[Hid,HT]
     obtain⟨g1,g2⟩:=HG.out
     refine⟨⟨by omega,by omega,Ris.snoc g1.ris (fun z hz=>by have:=hlast z hz;omega),fun z hz=> ?_⟩,fun hz=> ?_⟩
     ·rcases List.mem_append.1 hz with e|e
      ·exact g1.bey z e
      ·simp at e;omega
     ·rcases List.mem_append.1 hz with e|e
      ·exact g2 e
      ·simp at e;omega
    clear hmem HT hpr hlast
    go_wp2_with fail
    go_quiet (fail)
    have HF2:Hid (Fr [] w (wr.drewN nq)):=HF.out.then (Fr.drewN _ _ _)
    go_wp2
    go_roundw
    case rel=>exact⟨i+1+1,by simp,by omega,HG2,HF2⟩
    case measure=>simp[RowKit.intOf];omega
  ·have hb1:b=true:=HB.out.1.2 (by
    have:=HG.out
    rwa [List.take_of_length_le (by rw[<-HL.out];omega)]at this)
   subst hb1
   go_wp2
   go_ret
   exact⟨rfl,HF.out⟩
end Go.Proofs.YtaaghcimfcjehaaGreatDoor
