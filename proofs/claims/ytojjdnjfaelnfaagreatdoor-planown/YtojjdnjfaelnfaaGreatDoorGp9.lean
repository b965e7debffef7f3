/- Contracts and lemmas. -/
import Derived.Test.YtojjdnjfaelnfaaGreatDoorGp5
import Derived.Deep.RegionHeld3
import Derived.Deep.LoopGhost
set_option maxHeartbeats 4000000
set_option maxRecDepth 100000
set_option linter.unusedSimpArgs false
set_option linter.unusedVariables false
namespace Go.Proofs.YtojjdnjfaelnfaaGreatDoor
open Go.ChangeShapes Go.WideShapes Go.ChangeAt Go.RowKit Go.Lib Go.Maps Go.Proofs.Tryz
def u64s(ws:List Nat):List Value:=ws.map fun(x:Nat)=>Value.int .u64 (x:Int)
theorem zpp{w:World}{g j:Nat}{xs:List Value}{t:TypeId}(v:Value)(h:w.heap[g]? = some (.cells xs.toArray t (0,0))):(w.setCell ⟨g,j,none⟩ v).heap[g]? = some (.cells (xs.set j v).toArray t (0,0)):=by
 have hlt:=lt_of_block h;have h':w.heap[g]=.cells xs.toArray t (0,0):=by simpa[Array.getElem?_eq_getElem hlt]using h
 show (w.heap.modify g _)[g]? = _;rw[Array.getElem?_eq_getElem (by simpa using hlt),Array.getElem_modify_self,h'];simp
structure GM(w:World)(g:Nat)(m:Int)(ws:List Nat):Prop where
 box:w.heap[g]? = some (.cells (Value.bool true::Value.int .i64 m::u64s ws).toArray 207 (0,0))
section
variable{w w':World}{g:Nat}{m:Int}{ws:List Nat}
theorem GM.lt(h:GM w g m ws):g<w.heap.size:=lt_of_block h.box
theorem GM.keep{S:List Nat}(h:GM w g m ws)(hf:Fr S w w')(hn:g∉S):GM w' g m ws:=⟨hf.keep h.box hn⟩
theorem GM.c0(h:GM w g m ws):w.cell? ⟨g,0,none⟩=some (.bool true):=by rw[crw h.box];rfl
theorem GM.c1(h:GM w g m ws):w.cell? ⟨g,1,none⟩=some (.int .i64 m):=by rw[crw h.box];rfl
theorem GM.cw(h:GM w g m ws)(i:Nat)(hi:i<ws.length):w.cell? ⟨g,2+i,none⟩=some (.int .u64 ((ws.getD i 0:Nat):Int)):=by
 rw[crw h.box,List.getElem?_toArray,Nat.add_comm,List.getElem?_cons_succ,List.getElem?_cons_succ];simp[u64s,List.getD,hi]
theorem GM.free(h:GM w g m ws)(i:Nat):w.frozen? ⟨g,i,none⟩=false:=by
 unfold World.frozen?;rw[h.box];rfl
theorem GM.mark(h:GM w g m ws)(n:Int):GM (w.setCell ⟨g,1,none⟩ (.int .i64 n)) g n ws:=⟨zpp _ h.box⟩
theorem GM.put(h:GM w g m ws)(i x:Nat):GM (w.setCell ⟨g,2+i,none⟩ (.int .u64 (x:Int))) g m (ws.set i x):=by
 refine⟨?_⟩;have:=zpp (j:=2+i) (.int .u64 (x:Int)) h.box;rw[this]
 congr 2
 rw[Nat.add_comm];simp[u64s,List.map_set]
end
theorem zaht(n:Int):(2:Int) ^ btOf n=((pw2 (btOf n):Nat):Int):=by simp[pw2]
theorem zhe(n:Int)(w:World)(h1:1<=n)(h2:n<=65536) :
  Calls prog 194 #[.int .i64 n] w fun e w'=>e=.returned (.tuple #[.int .i64 ((wdOf n:Nat):Int),.int .u64 ((pw2 (btOf n):Nat):Int)])/\Fr [] w w':=by
 go_enter func194,ntmps194;go_wp2_with fail
 go_quiet (fail)
 go_wp2;refine bodyPost_ret (results_tmp2 rfl _ _ _) rfl ?_;have e1:(n-1)/64=((wdOf n:Nat):Int):=by unfold wdOf;omega
 have e2:((n-1)%64).toNat=btOf n:=by unfold btOf;omega
 have e3:IntKind.u64.wrap (2 ^ ((n-1)%64).toNat)=((pw2 (btOf n):Nat):Int):=by
  rw[e2,zaht,IntKind.wrap_u64];have:=zgo (zez n);omega
 refine⟨?_,Fr.drewN _ _ _⟩;show Ending.returned (.tuple #[.int .i64 ((n-1)/64),.int .u64 (IntKind.u64.wrap (2 ^ ((n-1)%64).toNat))])=_;rw[e1,e3]
theorem zpq{g:Nat}{m:Int}{ws:List Nat}{xs:List Int}(n:Int)(w:World)(h:GM w g m ws)(hx:Wds ws xs)(h1:1<=n)(h2:n<=65536) :
  Calls prog 176 #[.pointer (some ⟨g,0,none⟩),.int .i64 n] w fun e w'=>e=.returned (.tuple #[])/\GM w' g m (ws.set (wdOf n) (ws.getD (wdOf n) 0 ||| pw2 (btOf n)))/\Fr [g] w w':=by
 have HP:Hid (Calls ..):=zhe n w h1 h2;have hi:=zfa h1 h2;have hB:=zgo (zez n);have hX:=hx.at (wdOf n);obtain⟨X,hXX⟩:∃X,X=ws.getD (wdOf n) 0:=⟨_,rfl⟩;obtain⟨i,hii⟩:∃i,i=wdOf n:=⟨_,rfl⟩;obtain⟨B,hBB⟩:∃B,B=pw2 (btOf n):=⟨_,rfl⟩;rw[<-hXX]at hX ⊢
 rw[<-hii]at hi HP hXX ⊢
 rw[<-hBB]at hB HP ⊢
 obtain⟨Y,hY⟩:∃Y:Nat,Y=X ||| B:=⟨_,rfl⟩;have hor:bits .or .u64 (X:Int) (B:Int)=(Y:Int):=by rw[hY];exact u64_or_nat X B hX hB
 have HM:Hid (∀W,Fr [] w W->GM W g m ws):=fun W hf=>h.keep hf (by simp);have HC:Hid (∀W,Fr [] w W->W.cell? ⟨g,2+i,none⟩=some (.int .u64 (X:Int))):=fun W hf=>by rw[hXX];exact (h.keep hf (by simp)).cw i (by rw[hx.len];exact hi)
 rw[<-hY];clear h hx hii hBB hXX hY h1 h2;go_enter func176,ntmps176;go_wp2_with fail
 refine Calls.mono HP.out ?_;rintro e w1⟨rfl,hF⟩;have hc:=HC.out _ hF;have hfz:=(HM.out _ hF).free (2+i);have hii:(i:Int)<1024:=by omega
 clear HP HC;go_wp2_with fail
 go_region
 go_wp2
 go_end0
 refine⟨rfl,((HM.out _ hF).put i Y).keep (Fr.drew [] _) (by simp),?_⟩;exact (hF.trans ((Fr.set (S:=[g]) w1 ⟨g,2+i,none⟩ _ (by simp)).then (Fr.drew _ _)) (by simp) (fun x hx _=>hx))
theorem zsi{X k:Nat}(hk:k<64)(b:Nat):(X &&& (18446744073709551615-pw2 k)).testBit b=(decide (b<64)&&X.testBit b && !decide (k=b)):=by
 have e:18446744073709551615-pw2 k=2 ^ 64-(pw2 k+1):=by omega
 rw[Nat.testBit_and,e,Nat.testBit_two_pow_sub_succ (zgo hk),pw2,Nat.testBit_two_pow];by_cases h1:b<64<;>by_cases h2:k=b<;>simp[h1,h2]
theorem zaal{X b:Nat}(hX:X<2 ^ 64)(hb:X.testBit b=true):b<64:=by
 apply Nat.lt_of_not_le;intro h;rw[Nat.testBit_lt_two_pow (Nat.lt_of_lt_of_le hX (Nat.pow_le_pow_right (by decide) h))]at hb
 cases hb
theorem zux{g:Nat}{m:Int}{ws:List Nat}{xs:List Int}(n:Int)(w:World)(h:GM w g m ws)(hx:Wds ws xs)(h1:1<=n)(h2:n<=65536) :
  Calls prog 382 #[.pointer (some ⟨g,0,none⟩),.int .i64 n] w fun e w'=>e=.returned (.tuple #[])/\(∃v,GM w' g m (ws.set (wdOf n) v)/\∀b,v.testBit b=((ws.getD (wdOf n) 0).testBit b && !decide (btOf n=b)))/\Fr [g] w w':=by
 have HP:Hid (Calls ..):=zhe n w h1 h2;have hi:=zfa h1 h2;have hB:=zgo (zez n);have hX:=hx.at (wdOf n);have HV:Hid (∀b,((ws.getD (wdOf n) 0) &&& (18446744073709551615-pw2 (btOf n))).testBit b=((ws.getD (wdOf n) 0).testBit b && !decide (btOf n=b))):=by
  intro b;rw[zsi (zez n)];cases hb:(ws.getD (wdOf n) 0).testBit b with
  |false=>simp
  |true=>simp[zaal hX hb]
 obtain⟨X,hXX⟩:∃X,X=ws.getD (wdOf n) 0:=⟨_,rfl⟩;obtain⟨i,hii⟩:∃i,i=wdOf n:=⟨_,rfl⟩;obtain⟨B,hBB⟩:∃B,B=pw2 (btOf n):=⟨_,rfl⟩;rw[<-hXX]at hX HV ⊢
 rw[<-hii]at hi HP hXX ⊢
 rw[<-hBB]at hB HP HV
 obtain⟨Y,hY⟩:∃Y:Nat,Y=X &&& (18446744073709551615-B):=⟨_,rfl⟩;have hor:bits .andNot .u64 (X:Int) (B:Int)=(Y:Int):=by rw[hY];exact u64_andNot_nat X B hX hB
 have HM:Hid (∀W,Fr [] w W->GM W g m ws):=fun W hf=>h.keep hf (by simp);have HC:Hid (∀W,Fr [] w W->W.cell? ⟨g,2+i,none⟩=some (.int .u64 (X:Int))):=fun W hf=>by rw[hXX];exact (h.keep hf (by simp)).cw i (by rw[hx.len];exact hi)
 rw[<-hY]at HV
 clear h hx hii hBB hXX hY h1 h2;go_enter func382,ntmps382;go_wp2_with fail
 refine Calls.mono HP.out ?_;rintro e w1⟨rfl,hF⟩;have hc:=HC.out _ hF;have hfz:=(HM.out _ hF).free (2+i);have hii:(i:Int)<1024:=by omega
 clear HP HC;go_wp2_with fail
 go_region
 go_wp2
 go_end0
 refine⟨rfl,⟨Y,((HM.out _ hF).put i Y).keep (Fr.drew [] _) (by simp),HV.out⟩,?_⟩;exact (hF.trans ((Fr.set (S:=[g]) w1 ⟨g,2+i,none⟩ _ (by simp)).then (Fr.drew _ _)) (by simp) (fun x hx _=>hx))
theorem zaed{X k:Nat}:((X &&& pw2 k:Nat) != 0)=X.testBit k:=by
 have hb:∀b,(X &&& pw2 k).testBit b=(X.testBit b&&decide (k=b)):=fun b=>by rw[Nat.testBit_and,pw2,Nat.testBit_two_pow]
 cases h:X.testBit k with
 |true=>
  have h1:=hb k;rw[h]at h1
  have:X &&& pw2 k≠0:=fun e=>by rw[e]at h1;simp at h1
  simp[this]
 |false=>
  have:X &&& pw2 k=0:=Nat.eq_of_testBit_eq (fun b=>by
   rw[hb b];by_cases e:k=b
   .subst e;simp[h]
   simp[e])
  simp[this]
theorem zhf{g:Nat}{m:Int}{ws:List Nat}{xs:List Int}(n:Int)(b:Bool)(w:World)(h:GM w g m ws)(hx:Wds ws xs)(h1:1<=n)(hxs:∀x∈xs,x<=65536)(hb:b=true↔n∈xs) :
  Calls prog 381 #[.pointer (some ⟨g,0,none⟩),.int .i64 n] w fun e w'=>e=.returned (.bool b)/\Fr [] w w':=by
 by_cases h2:n<=65536
 .have HP:Hid (Calls ..):=zhe n w h1 h2;have hi:=zfa h1 h2;have hB:=zgo (zez n);have hX:=hx.at (wdOf n);have hbit:(((ws.getD (wdOf n) 0) &&& pw2 (btOf n):Nat) != 0)=b:=by
   rw[zaed];have:=hx.bits n h1 h2;unfold zla at this;cases hb2:b with
   |true=>exact this.2 (hb.1 hb2)
   |false=>
    cases hc:(ws.getD (wdOf n) 0).testBit (btOf n) with
    |false=>rfl
    |true=>exact absurd (hb.2 (this.1 hc)) (by simp[hb2])
  obtain⟨X,hXX⟩:∃X,X=ws.getD (wdOf n) 0:=⟨_,rfl⟩;obtain⟨i,hii⟩:∃i,i=wdOf n:=⟨_,rfl⟩;obtain⟨B,hBB⟩:∃B,B=pw2 (btOf n):=⟨_,rfl⟩;rw[<-hXX]at hX hbit
  rw[<-hii]at hi HP hXX
  rw[<-hBB]at hB HP hbit
  obtain⟨Y,hY⟩:∃Y:Nat,Y=X &&& B:=⟨_,rfl⟩;have hor:bits .and .u64 (X:Int) (B:Int)=(Y:Int):=by rw[hY];exact u64_and_nat X B hX hB
  have HC:Hid (∀W,Fr [] w W->W.cell? ⟨g,2+i,none⟩=some (.int .u64 (X:Int))):=fun W hf=>by rw[hXX];exact (h.keep hf (by simp)).cw i (by rw[hx.len];exact hi)
  rw[<-hY]at hbit
  have hq:((Y:Int) != 0)=b:=by
   rw[<-hbit];by_cases h0:Y=0
   .rw[h0];rfl
   have h3:(Y:Int)≠0:=by omega
   rw[bne_iff_ne.2 h3,bne_iff_ne.2 h0]
  clear h hx hii hBB hXX hY hbit hb;go_enter func381,ntmps381;go_wp2_with fail
  refine Calls.mono HP.out ?_;rintro e w1⟨rfl,hF⟩;have hc:=HC.out _ hF;have hii:(i:Int)<1024:=by omega
  clear HP HC;go_wp2;go_ret;exact⟨rfl,hF⟩
 have hbf:b=false:=by
  cases hbb:b with
  |false=>rfl
  |true=>have:=hxs n (hb.1 hbb);omega
 subst hbf;clear h hx hb hxs;go_enter func381,ntmps381;go_wp2;go_ret;exact⟨rfl,Fr.refl _ _⟩
theorem zet{g:Nat}{m:Int}{ws:List Nat}(w:World)(h:GM w g m ws):Calls prog 118 #[.pointer (some ⟨g,0,none⟩)] w fun e w'=>e=.returned (.bool true)/\w=w':=by
 have c0:=h.c0;clear h;go_enter func118,ntmps118;go_wp2;go_ret;exact⟨rfl,rfl⟩
theorem zxh{g:Nat}{m:Int}{ws:List Nat}(w:World)(h:GM w g m ws):Calls prog 95 #[.pointer (some ⟨g,0,none⟩)] w fun e w'=>e=.returned (.int .i64 m)/\w=w':=by
 have HT:Hid (Calls ..):=zet w h;have c1:=h.c1;clear h;go_enter func95,ntmps95;go_wp2_with fail
 refine Calls.mono HT.out ?_;rintro e w1⟨rfl,rfl⟩;go_wp2;go_ret;exact⟨rfl,rfl⟩
theorem zpr{g:Nat}{m:Int}{ws:List Nat}{xs:List Int}(n:Int)(b:Bool)(w:World)(h:GM w g m ws)(hx:Wds ws xs)(hxs:∀x∈xs,x<=65536)(hb:b=true↔1<=n/\(n<=m\/n∈xs)) :
  Calls prog 380 #[.pointer (some ⟨g,0,none⟩),.int .i64 n] w fun e w'=>e=.returned (.bool b)/\Fr [] w w':=by
 have HT:Hid (Calls ..):=zet w h;have c1:=h.c1;by_cases h1:1<=n
 .by_cases h2:n<=m
  .have hbt:b=true:=hb.2 ⟨h1,Or.inl h2⟩;subst hbt;clear h hx hxs hb;go_enter func380,ntmps380;go_wp2_with fail
   refine Calls.mono HT.out ?_;rintro e w1⟨rfl,rfl⟩;go_wp2;go_ret;exact⟨rfl,Fr.refl _ _⟩
  have HI:Hid (Calls ..):=zhf n b w h hx h1 hxs (by
   rw[hb];constructor
   .rintro⟨_,h3|h3⟩
    .exact absurd h3 h2
    exact h3
   intro h3;exact⟨h1,Or.inr h3⟩)
  have hd:decide (n<=m)=false:=by simpa using h2
  clear h hx hxs hb;go_enter func380,ntmps380;go_wp2_with fail
  refine Calls.mono HT.out ?_;rintro e w1⟨rfl,rfl⟩;go_wp2_with fail
  refine Calls.mono HI.out ?_;rintro e w1⟨rfl,hF⟩;go_wp2;go_ret;exact⟨rfl,hF⟩
 have hbf:b=false:=by
  cases hbb:b with
  |false=>rfl
  |true=>exact absurd (hb.1 hbb).1 h1
 subst hbf;clear h hx hxs hb;go_enter func380,ntmps380;go_wp2_with fail
 refine Calls.mono HT.out ?_;rintro e w1⟨rfl,rfl⟩;go_wp2;go_ret;exact⟨rfl,Fr.refl _ _⟩
def Gok(m:Int)(xs:List Int):Prop:=Gt m xs/\m+1∉xs
def newC(m:Int):Array Value:=(Value.bool true::Value.int .i64 m::u64s (List.replicate 1024 0)).toArray
theorem zxi(m:Int):(zeroCells207.setIfInBounds 0 (Value.bool true)).setIfInBounds 1 (Value.int .i64 m)=newC m:=by kernel_rfl
theorem zaam(m:Int)(ao:Option Addr)(L cap:Nat)(xs:List Int)(w:World)(hX:IRs w ao xs)(hL:L=xs.length) :
  Calls prog 153 #[.int .i64 m,.slice ao L cap] w fun e w'=>Fr [] w w'/\((Gok m xs/\∃g ws,e=.returned (.tuple #[.pointer (some ⟨g,0,none⟩),.int .i64 0])/\w.heap.size<=g/\GM w' g m ws/\Wds ws xs)\/(¬Gok m xs/\e=.returned (.tuple #[.pointer none,.int .i64 1]))):=by
 by_cases h0:m<0
 .have HN:Hid (¬Gok m xs):=fun h=>by have:=h.1.low;omega
  go_enter func153,ntmps153;go_wp2;refine bodyPost_ret (results_tmp2 rfl _ _ _) rfl ?_;exact⟨Fr.refl _ _,Or.inr ⟨HN.out,rfl⟩⟩
 by_cases h1:65536<m
 .have HN:Hid (¬Gok m xs):=fun h=>by have:=h.1.top;omega
  go_enter func153,ntmps153;go_wp2;refine bodyPost_ret (results_tmp2 rfl _ _ _) rfl ?_;exact⟨Fr.refl _ _,Or.inr ⟨HN.out,rfl⟩⟩
 have HL:Hid (L=xs.length):=hL;have hLL:L<=17592186044416:=by rw[hL];exact hX.few
 have HX:Hid (∀W,Fr [] w W->IRs W ao xs):=fun W hf=>hX.keep hf;have HM:Hid (GM (w.alloc (.cells ((zeroCells207.setIfInBounds 0 (Value.bool true)).setIfInBounds 1 (Value.int .i64 m)) 207)) w.heap.size m (List.replicate 1024 0)):=⟨by rw[zxi];exact heap_alloc_new w _⟩;clear hX hL;go_enter func153,ntmps153;go_wp2_with fail
 obtain⟨g,hg⟩:∃g,g=w.heap.size:=⟨_,rfl⟩;have hgw:w.heap.size<=g:=by omega
 rw[<-hg]at HM ⊢
 clear hg;have HI0:Hid (Fr [] w (w.alloc (.cells ((zeroCells207.setIfInBounds 0 (Value.bool true)).setIfInBounds 1 (Value.int .i64 m)) 207))):=Fr.alloc _ _ _;go_loopw [7,9,23] (fun ll nn ii wr=>∃(i:Nat)(lst:Int)(ws:List Nat),ll=.int .i64 lst/\ii=.int .i64 i/\i<=L/\m+2<=lst/\lst<=65537+1/\Hid (GM wr g m ws/\Wds ws (xs.take i))/\Hid (Fr [] w wr)/\Hid (Gok m (xs.take i)/\(∀x∈xs.take i,x<lst)/\(lst=m+2\/lst-1∈xs.take i))) (fun _ _ ii _=>L-(RowKit.intOf ii).toNat)
 case atStart=>exact⟨0,m+2,List.replicate 1024 0,rfl,rfl,Nat.zero_le _,by omega,by omega,⟨HM.out,Wds.zero⟩,HI0,⟨⟨⟨h0,h1,List.Pairwise.nil,by simp⟩,by simp⟩,by simp,Or.inl rfl⟩⟩
 obtain⟨i,lst,ws,rfl,rfl,hi1,hl1,hl2,HG,HF,HI⟩:=hrel;by_cases hi:i<L
 .have hix:i<xs.length:=by rw[<-HL.out];exact hi
  obtain⟨b,off,rfl,_,hc⟩:=(HX.out _ HF.out).lies (by omega);have hci:=hc i hix;have HT:=zeu xs i hix;have hmem:xs.getD i 0∈xs:=by simp[List.getD,hix]
  have hprec:∀y∈xs.take i,Ris xs->y<xs.getD i 0:=by
   intro y hy hr;have h3:Ris (xs.take (i+1)):=List.Pairwise.sublist (List.take_sublist _ _) hr;rw[HT]at h3
   exact (List.pairwise_append.1 h3).2.2 y hy _ (by simp)
  obtain⟨x,hx⟩:∃x,x=xs.getD i 0:=⟨_,rfl⟩;rw[<-hx]at hci HT hmem hprec
  have HT:Hid (xs.take (i+1)=xs.take i++[x]):=HT;clear hx hc;by_cases h2:x<lst
  .have HN:Hid (¬Gok m xs):=by
    intro hG;have hb:=hG.1.bey x hmem;have hne:x≠m+1:=fun e=>hG.2 (e▸hmem);rcases HI.out.2.2 with e|e
    .omega
    have:=hprec _ e hG.1.ris;omega
   clear hprec hmem;go_wp2;refine bodyPost_ret (results_tmp2 rfl _ _ _) rfl ?_;exact⟨HF.out,Or.inr ⟨HN.out,rfl⟩⟩
  by_cases h3:65536<x
  .have HN:Hid (¬Gok m xs):=by
    intro hG;have hb:=hG.1.bey x hmem;omega
   clear hprec hmem;go_wp2;refine bodyPost_ret (results_tmp2 rfl _ _ _) rfl ?_;exact⟨HF.out,Or.inr ⟨HN.out,rfl⟩⟩
  have HS:Hid (Calls ..):=zpq x wr HG.out.1 HG.out.2 (by omega) (by omega);have HW:Hid (Wds (ws.set (wdOf x) (ws.getD (wdOf x) 0 ||| pw2 (btOf x))) (xs.take (i+1))):=by
   show Wds _ _;rw[HT.out];exact HG.out.2.put (by omega) (by omega) (fun y=>by simp[or_comm])
  have HI2:Hid (Gok m (xs.take (i+1))/\(∀y∈xs.take (i+1),y<x+1)/\(x+1=m+2\/x+1-1∈xs.take (i+1))):=by
   obtain⟨⟨g1,g2⟩,g3,_⟩:=HI.out;rw[Hid,HT.out];refine⟨⟨⟨g1.low,g1.top,Ris.snoc g1.ris (fun y hy=>by have:=g3 y hy;omega),fun y hy=> ?_⟩,fun hy=> ?_⟩,fun y hy=> ?_,Or.inr (by rw[show x+1-1=x by omega];simp)⟩
   .rcases List.mem_append.1 hy with e|e
    .exact g1.bey y e
    simp at e;subst e;omega
   .rcases List.mem_append.1 hy with e|e
    .exact g2 e
    simp at e;omega
   rcases List.mem_append.1 hy with e|e
   .have:=g3 y e;omega
   simp at e;omega
  clear hprec hmem HI;go_wp2_with fail
  refine Calls.mono HS.out ?_;rintro e w3⟨rfl,hG3,hF3⟩;have HG3:Hid (GM w3 g m (ws.set (wdOf x) (ws.getD (wdOf x) 0 ||| pw2 (btOf x)))/\Wds (ws.set (wdOf x) (ws.getD (wdOf x) 0 ||| pw2 (btOf x))) (xs.take (i+1))):=⟨hG3,HW.out⟩;have HF3:Hid (Fr [] w w3):=HF.out.on hF3 (by simpa using hgw);clear hG3 hF3 HG HF HS HW;go_wp2;go_roundw;case rel=>exact⟨i+1,x+1,_,rfl,by simp,by omega,by omega,by omega,HG3,HF3,HI2⟩
  case measure=>simp[RowKit.intOf];omega
 have HE:Hid (xs.take i=xs):=List.take_of_length_le (by rw[<-HL.out];omega);go_wp2;refine bodyPost_ret (results_tmp2 rfl _ _ _) rfl ?_;have h5:=HI.out.1;have h6:=HG.out;rw[HE.out]at h5 h6
 exact⟨HF.out,Or.inl ⟨h5,g,ws,rfl,hgw,h6.1,h6.2⟩⟩
theorem Gt.ins{m n:Int}{xs:List Int}(h:Gt m xs)(h1:1<=n)(h2:n<=65536)(hn:¬(n<=m\/n∈xs)):Gt m (insI n xs):=by
 refine⟨h.low,h.top,zpn n xs h.ris (fun e=>hn (Or.inr e)),fun y hy=> ?_⟩;rcases (zfd n y xs).1 hy with e|e
 .subst e;have:¬y<=m:=fun e=>hn (Or.inl e);omega
 exact h.bey y e
theorem zxj{g:Nat}{m:Int}{ws:List Nat}{xs:List Int}(n:Int)(w:World)(h:GM w g m ws)(hx:Wds ws xs)(hok:Gok m xs)(h1:1<=n)(h2:n<=65536)(hn:¬(n<=m\/n∈xs)) :
  Calls prog 377 #[.pointer (some ⟨g,0,none⟩),.int .i64 n] w fun e w'=>e=.returned (.tuple #[.int .i64 ((adv m (insI n xs)).1-m),.int .i64 0])/\(∃ws',GM w' g (adv m (insI n xs)).1 ws'/\Wds ws' (adv m (insI n xs)).2)/\Fr [g] w w':=by
 have HTh:Hid (Calls ..):=zet w h;have hxs:∀x∈xs,x<=65536:=fun x hx=>(hok.1.bey x hx).2;have HHas:Hid (Calls ..):=zpr n false w h hx hxs ⟨fun e=>(by cases e),fun e=>absurd e.2 hn⟩;have hGi:=hok.1.ins h1 h2 hn;have HM:Hid (∀W,Fr [] w W->GM W g m ws):=fun W hf=>h.keep hf (by simp);have hm0:=hok.1.low;have hm1:=hok.1.top;have HW:Hid (Wds (ws.set (wdOf n) (ws.getD (wdOf n) 0 ||| pw2 (btOf n))) (insI n xs)):=hx.put h1 h2 (fun y=>zfd n y xs);obtain⟨A,hA⟩:∃A,A=adv m (insI n xs):=⟨_,rfl⟩;have HG0:Hid (Gt m (insI n xs)/\adv m (insI n xs)=A):=⟨hGi,hA.symm⟩;rw[<-hA];have HX:Hid (Wds ws xs):=hx;clear h hx hok hxs hn hGi hA;go_enter func377,ntmps377;go_wp2_with fail
 refine Calls.mono HTh.out ?_;rintro e w1⟨rfl,rfl⟩;go_wp2_with fail
 refine Calls.mono HHas.out ?_;rintro e w1⟨rfl,hF1⟩;have c1:=(HM.out _ hF1).c1;have HS:Hid (Calls ..):=zpq n w1 (HM.out _ hF1) HX.out h1 h2;go_wp2_with fail
 refine Calls.mono HS.out ?_;rintro e w3⟨rfl,hG3,hF3⟩;have HG3:Hid (GM w3 g m (ws.set (wdOf n) (ws.getD (wdOf n) 0 ||| pw2 (btOf n)))):=hG3;have HF3:Hid (Fr [g] w w3):=hF1.trans hF3 (by simp) (fun x hx _=>hx);obtain⟨ws3,hws3⟩:∃ws3,ws3=ws.set (wdOf n) (ws.getD (wdOf n) 0 ||| pw2 (btOf n)):=⟨_,rfl⟩;rw[<-hws3]at HG3 HW
 clear hws3 hG3 hF3 hF1 c1 HS HM HX HTh HHas;go_wp2_with fail
 go_loopg [28] ((65537-m).toNat) (fun k v28 wr=>∃(M:Int)(ys:List Int)(vs:List Nat),(k:Int)=65537-M/\0<=M/\M<=65536/\Hid (GM wr g M vs/\Wds vs ys)/\Hid (Gt M ys/\adv M ys=A)/\Hid (Fr [g] w wr))
 case atStart=>exact⟨m,insI n xs,ws3,by omega,hm0,hm1,⟨HG3.out,HW.out⟩,HG0,HF3⟩
 obtain⟨M,ys,vs,hk,hM0,hM1,HG,HI,HF⟩:=hrel;have HK:Hid ((gk:Int)=65537-M):=hk;clear hk HG0 HG3 HW HF3;have c1:=HG.out.1.c1;have hys:∀x∈ys,x<=65536:=fun x hx=>(HI.out.1.bey x hx).2;by_cases hb:M+1∈ys
 .have HIs:Hid (Calls ..):=zhf (M+1) true wr HG.out.1 HG.out.2 (by omega) hys (by simp[hb]);have hM2:M+1<=65536:=hys _ hb;obtain⟨r,hr⟩:∃r,ys=(M+1)::r:=by
   cases ys with
   |nil=>simp at hb
   |cons y r=>exact⟨r,by rw[HI.out.1.head.1 hb]⟩
  have HR:Hid (∀y,y∈r↔y≠M+1/\y∈ys):=by
   intro y;rw[hr];have hp:=List.pairwise_cons.1 (hr▸HI.out.1.ris);constructor
   .intro hy;exact⟨by have:=hp.1 y hy;omega,by simp[hy]⟩
   rintro⟨h3,h4⟩;rcases List.mem_cons.1 h4 with e|e
   .exact absurd e h3
   exact e
  have HI2:Hid (Gt (M+1) r/\adv (M+1) r=A):=by
   refine⟨(hr▸HI.out.1).tail rfl,?_⟩;rw[<-HI.out.2,hr];exact (zaaj rfl).symm
  clear hys hb hr;go_wp2_with fail
  refine Calls.mono HIs.out ?_;rintro e w4⟨rfl,hF4⟩;have hG4:=HG.out.1.keep hF4 (by simp);have c4:=hG4.c1;have f4:=hG4.free 1;have hG5:=hG4.mark (M+1);have c5:=hG5.c1;have HCl:Hid (Calls ..):=zux (M+1) _ hG5 HG.out.2 (by omega) hM2;have HF5:Hid (Fr [g] w (w4.setCell ⟨g,1,none⟩ (.int .i64 (M+1)))):=HF.out.then (hF4.trans (Fr.set (S:=[g]) w4 ⟨g,1,none⟩ _ (by simp)) (by simp) (fun x hx _=>hx));clear hG4 hG5 hF4 HIs;go_wp2_with fail
  refine Calls.mono HCl.out ?_;rintro e w6⟨rfl,⟨v,hG6,hv⟩,hF6⟩;have HG6:Hid (GM w6 g (M+1) (vs.set (wdOf (M+1)) v)/\Wds (vs.set (wdOf (M+1)) v) r):=⟨hG6,HG.out.2.cut (by omega) hM2 HR.out hv⟩;have HF6:Hid (Fr [g] w w6):=HF5.out.then hF6;clear hG6 hv hF6 HF5 HCl HG HF c1 c4 c5 f4;go_wp2_with fail
  go_roundg (gk-1)
  case measure=>have:=HK.out;omega
  case rel=>exact⟨M+1,r,_,by have:=HK.out;omega,by omega,by omega,HG6,HI2,HF6⟩
 have HIs:Hid (Calls ..):=zhf (M+1) false wr HG.out.1 HG.out.2 (by omega) hys (by simp[hb]);have HE:Hid (A=(M,ys)):=by
  rw[Hid,<-HI.out.2];exact zaak HI.out.1 hb
 clear hys hb;go_wp2_with fail
 refine Calls.mono HIs.out ?_;rintro e w4⟨rfl,hF4⟩;have hG4:=HG.out.1.keep hF4 (by simp);have c4:=hG4.c1;have HG4:Hid (GM w4 g M vs):=hG4;clear hG4;go_wp2;refine bodyPost_ret (results_tmp2 rfl _ _ _) rfl ?_;rw[HE.out];exact⟨rfl,⟨vs,HG4.out,HG.out.2⟩,HF.out.then (hF4.mono (by simp))⟩
theorem zaan{g:Nat}{m:Int}{ws:List Nat}{xs:List Int}(n:Int)(w:World)(h:GM w g m ws)(hx:Wds ws xs)(hok:Gok m xs)(hn:n<1\/65536<n\/n<=m\/n∈xs) :
  Calls prog 377 #[.pointer (some ⟨g,0,none⟩),.int .i64 n] w fun e w'=>e=.returned (.tuple #[.int .i64 0,.int .i64 1])/\Fr [] w w':=by
 have HTh:Hid (Calls ..):=zet w h;have hxs:∀x∈xs,x<=65536:=fun x hx=>(hok.1.bey x hx).2;by_cases h1:n<1
 .clear hn h hx hok hxs;go_enter func377,ntmps377;go_wp2_with fail
  refine Calls.mono HTh.out ?_;rintro e w1⟨rfl,rfl⟩;go_wp2;refine bodyPost_ret (results_tmp2 rfl _ _ _) rfl ?_;exact⟨rfl,Fr.refl _ _⟩
 by_cases h2:65536<n
 .clear hn h hx hok hxs;go_enter func377,ntmps377;go_wp2_with fail
  refine Calls.mono HTh.out ?_;rintro e w1⟨rfl,rfl⟩;go_wp2;refine bodyPost_ret (results_tmp2 rfl _ _ _) rfl ?_;exact⟨rfl,Fr.refl _ _⟩
 have hq:n<=m\/n∈xs:=by
  rcases hn with e|e|e
  .exact absurd e h1
  .exact absurd e h2
  exact e
 have HHas:Hid (Calls ..):=zpr n true w h hx hxs ⟨fun e=>⟨by omega,hq⟩,fun e=>rfl⟩;clear hn h hx hok hxs hq;go_enter func377,ntmps377;go_wp2_with fail
 refine Calls.mono HTh.out ?_;rintro e w1⟨rfl,rfl⟩;go_wp2_with fail
 refine Calls.mono HHas.out ?_;rintro e w1⟨rfl,hF1⟩;go_wp2;refine bodyPost_ret (results_tmp2 rfl _ _ _) rfl ?_;exact⟨rfl,hF1⟩
structure GG(w:World)(g:Nat)(m:Int)(xs:List Int):Prop where
 mem:∃ws,GM w g m ws/\Wds ws xs
 ok:Gok m xs
theorem GG.keep{S:List Nat}{w w':World}{g:Nat}{m:Int}{xs:List Int}(h:GG w g m xs)(hf:Fr S w w')(hn:g∉S):GG w' g m xs:=by
 obtain⟨ws,h1,h2⟩:=h.mem;exact⟨⟨ws,h1.keep hf hn,h2⟩,h.ok⟩
theorem GG.lt{w:World}{g:Nat}{m:Int}{xs:List Int}(h:GG w g m xs):g<w.heap.size:=by
 obtain⟨ws,h1,_⟩:=h.mem;exact h1.lt
structure GDo(m:Int)(xs:List Int)(n:Int)(up er m':Int)(xs':List Int):Prop where
 ok:Gok m' xs'
 or:(¬(1<=n/\n<=65536/\¬(n<=m\/n∈xs))/\up=0/\er=1/\m'=m/\xs'=xs)\/((1<=n/\n<=65536/\¬(n<=m\/n∈xs))/\up=m'-m/\er=0/\(m',xs')=adv m (insI n xs))
theorem zaee{w:World}{g:Nat}{m n up er m':Int}{xs xs':List Int}(h:GG w g m xs)(hd:GDo m xs n up er m' xs') :
  Calls prog 377 #[.pointer (some ⟨g,0,none⟩),.int .i64 n] w fun e w'=>e=.returned (.tuple #[.int .i64 up,.int .i64 er])/\GG w' g m' xs'/\Fr [g] w w':=by
 obtain⟨ws,h1,h2⟩:=h.mem;rcases hd.or with⟨k1,rfl,rfl,rfl,rfl⟩|⟨k1,rfl,rfl,k2⟩
 .refine (zaan n w h1 h2 h.ok ?_).mono ?_
  .apply Classical.byContradiction;intro hc;exact k1 ⟨by have:=mt Or.inl hc;omega,by have:=mt (fun e=>Or.inr (Or.inl e)) hc;omega,fun e=>hc (Or.inr (Or.inr e))⟩
  rintro e w'⟨rfl,hF⟩;exact⟨rfl,h.keep hF (by simp),hF.mono (by simp)⟩
 refine (zxj n w h1 h2 h.ok k1.1 k1.2.1 k1.2.2).mono ?_;rintro e w'⟨rfl,⟨ws',h3,h4⟩,hF⟩;rw[<-k2]at h3 h4 ⊢
 exact⟨rfl,⟨⟨ws',h3,h4⟩,hd.ok⟩,hF⟩
theorem zahu(m:Int)(ao:Option Addr)(L cap:Nat)(xs:List Int)(w:World)(hX:IRs w ao xs)(hL:L=xs.length)(hok:Gok m xs) :
  Calls prog 153 #[.int .i64 m,.slice ao L cap] w fun e w'=>∃g,e=.returned (.tuple #[.pointer (some ⟨g,0,none⟩),.int .i64 0])/\w.heap.size<=g/\GG w' g m xs/\Fr [] w w':=by
 refine (zaam m ao L cap xs w hX hL).mono ?_;rintro e w'⟨hF,⟨_,g,ws,rfl,h1,h2,h3⟩|⟨h1,_⟩⟩
 .exact⟨g,rfl,h1,⟨⟨ws,h2,h3⟩,hok⟩,hF⟩
 exact absurd hok h1
theorem zjk{w:World}{g:Nat}{m:Int}{xs:List Int}(h:GG w g m xs):Calls prog 95 #[.pointer (some ⟨g,0,none⟩)] w fun e w'=>e=.returned (.int .i64 m)/\Fr [] w w':=by
 obtain⟨ws,h1,_⟩:=h.mem;refine (zxh w h1).mono ?_;rintro e w'⟨rfl,rfl⟩;exact⟨rfl,Fr.refl _ _⟩
end Go.Proofs.YtojjdnjfaelnfaaGreatDoor
