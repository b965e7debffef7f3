/- Contracts and lemmas. -/
import Derived.Test.YtaigdcmoecgabaaGreatGp6
import Derived.Maps.RangeWalk
import Derived.Deep.RegionHeld3
import Derived.Test.YtaigdcmoecgabaaGreatGp5
set_option maxHeartbeats 8000000
set_option maxRecDepth 100000
namespace Go.Proofs.YtaigdcmoecgabaaGreat
set_option linter.unusedSimpArgs false
set_option linter.unusedVariables false
section
open Go.ChangeShapes Go.WideShapes Go.ChangeAt Go.RowKit Go.Lib Go.Proofs.Tryz
theorem zlh{S:List Nat}{w w':World}{base:Nat}{e:TypeId}{size:Nat}{v:Value}{n:Nat}{xs:List Value}(h:w.ownsRow base e size v n xs)(hf:Fr S w w')(hn:∀k,v.ownBlock=some k->k∉S):w'.ownsRow base e size v n xs:=by
 refine⟨h.1,?_⟩;rcases h.2 with h0|⟨g,cap,cur,hv,hb,hg,hr⟩
 .exact Or.inl h0
 exact Or.inr ⟨g,cap,cur,hv,hb,hf.keep hg (hn g (by rw[hv];rfl)),hr⟩
theorem zhp{w:World}{base:Nat}{e:TypeId}{size:Nat}{v:Value}{n:Nat}{xs:List Value}(h:w.ownsRow base e size v n xs){k:Nat}(hk:v.ownBlock=some k):base<=k/\∃cur,w.heap[k]? = some (.cells cur e (0,0)):=by
 rcases h.2 with⟨rfl,_⟩|⟨g,cap,cur,rfl,hb,hg,hr⟩
 .simp[Value.ownBlock]at hk
 simp[Value.ownBlock]at hk
 subst hk;exact⟨hb,cur,hg⟩
theorem zaak{w:World}{base base':Nat}{e:TypeId}{size:Nat}{v:Value}{n:Nat}{xs:List Value}(h:w.ownsRow base e size v n xs)(hb:base'<=base):w.ownsRow base' e size v n xs:=by
 refine⟨h.1,?_⟩;rcases h.2 with h0|⟨g,cap,cur,hv,hg,hr⟩
 .exact Or.inl h0
 exact Or.inr ⟨g,cap,cur,hv,by omega,hr⟩
structure WOw(w0 w:World)(ro:Option Addr)(N rc:Nat)(ws:List Wt):Prop where
 len:N=ws.length
 row:w.ownsRow w0.heap.size 51 3 (.slice ro N rc) N (wtsC ws)
theorem WOw.rs{w0 w:World}{ro:Option Addr}{N rc:Nat}{ws:List Wt}(h:WOw w0 w ro N rc ws)(hl:ws.length<=140737488355328)(he:∀x∈ws,x.key.size<=140737488355328/\x.val.size<=140737488355328):WRs w ro ws:=by
 rcases h.row.2 with⟨_,h1⟩|⟨g,cap,cur,hv,_,hg,_,_,_,ht⟩
 .have:ws=[]:=List.eq_nil_of_length_eq_zero (by have:=h.len;omega);subst this;exact WRs.nil _ _
 cases hv;refine⟨fun h0=>⟨g,0,rfl,lt_of_block hg,fun i hi=> ?_⟩,hl,he⟩;have hN:=h.len;have key:∀c u,c<3->(wtC (ws.getD i Wt.zero))[c]? = some u->w.cell? ⟨g,0+i*3+c,none⟩=some u:=by
  intro c u hc hu;rw[<-zfk ws i c hi hc]at hu
  rw[crw hg,Nat.zero_add,<-Array.getElem?_toList,<-hu,<-ht,List.getElem?_take_of_lt (by omega)]
 exact⟨key 0 _ (by omega) rfl,key 1 _ (by omega) rfl,key 2 _ (by omega) rfl⟩
theorem WOw.keepS{S:List Nat}{w0 w w':World}{ro:Option Addr}{N rc:Nat}{ws:List Wt}(h:WOw w0 w ro N rc ws)(hf:Fr S w w')(hn:∀k,(Value.slice ro N rc).ownBlock=some k->k∉S):WOw w0 w' ro N rc ws:=⟨h.len,zlh h.row hf hn⟩
theorem WOw.later{w0 w1 w:World}{ro:Option Addr}{N rc:Nat}{ws:List Wt}(h:WOw w1 w ro N rc ws)(hs:w0.heap.size<=w1.heap.size):WOw w0 w ro N rc ws:=⟨h.len,zaak h.row hs⟩
theorem zahz:prog.underlying 52=some (.slice 51):=by kernel_rfl
theorem zaej:(prog.info? 51).map (fun i=>(i.zero,i.size,i.bytes))=some (some (.agg #[.string ⟨#[]⟩,.string ⟨#[]⟩,.bool false]),3,40):=by kernel_rfl
theorem zki(w0 w:World){ops:Array Oper}{rest:List Oper}{o:Oper}{a:Act}{Q:Exit->Act->World->Prop}(hgd:o.guard=none)(s x:Operand)(ho:o.op=.call {callee:=.builtin .append,args:=#[s,x],argTypes:=#[52,52]})(so:Option Addr)(N c:Nat)(us:List Wt)(hs:a.eval s=.slice so N c)(hK:WOw w0 w so N c us)(hN:N<1000000)(h0:w0.heap.size<=w.heap.size)(p:Wt)(hx:a.eval x=.slice (some ⟨w.heap.size,0,none⟩) 1 1)(h:∀so' c' w',WOw w0 w' so' (N+1) c' (us++[p])->Fr (Value.slice so N c).ownBlock.toList w w'->wpList prog ops Q rest (a.put o.dst (.slice so' (N+1) c')) w'):wpList prog ops Q (o::rest) a (w.alloc (.cells #[.string p.key,.string p.val,.bool p.drop] 51)):=by
 obtain⟨i0,hi,hz0,hz1,hz2⟩:=info_parts zaej;refine wpList_append_own (w.alloc (.cells #[.string p.key,.string p.val,.bool p.drop] 51)) hgd s x 52 ho w0.heap.size 51 i0 _ 3 40 zahz hi hz0 hz1 hz2 rfl (by decide) (.slice so N c) N (wtsC us) hs (zlh hK.row (Fr.alloc [] w _) (by simp)) ⟨w.heap.size,0,none⟩ 1 1 (wtC p) hx rfl ?_ (fun u hu=>ziz [p] u (by simpa[wtsC]using hu)) (by unfold maxLen;omega) (by omega) (by simp;omega) ?_
 .intro j u hu;have hr:=heap_alloc_new w (.cells #[.string p.key,.string p.val,.bool p.drop] 51);rw[Addr.add_lit,crw hr,Nat.zero_add];simpa[wtC]using hu
 intro v' w' hown' hg' _;obtain⟨bo,cap',rfl⟩:∃bo cap',v'=.slice bo (N+1) cap':=by
  rcases hown'.2 with⟨_,h1⟩|⟨g,cap,_,rfl,_⟩
  .omega
  exact⟨_,cap,rfl⟩
 have hst:wtsC (us++[p])=wtsC us++wtC p:=by rw[zel];simp[wtsC]
 rw[<-hst]at hown'
 have hF:Fr (Value.slice so N c).ownBlock.toList w w':=((Fr.alloc [] w _).mono (by simp)).then (Fr.grown (S:=(Value.slice so N c).ownBlock.toList) hg' (fun y hy _=>Option.mem_toList.2 hy));exact h bo cap' w' ⟨by rw[hK.len];simp,hown'⟩ hF
theorem WOw.cap{w0 w:World}{ro:Option Addr}{N rc:Nat}{ws:List Wt}(h:WOw w0 w ro N rc ws):N<=rc:=by
 rcases h.row.2 with⟨h0,h1⟩|⟨g,cap,cur,hv,_,hg,hc,_,_,ht⟩
 .omega
 cases hv;omega
theorem WOw.new{w0 w:World}{ro:Option Addr}{N rc:Nat}{ws:List Wt}(h:WOw w0 w ro N rc ws):∀a,ro=some a->w0.heap.size<=a.block:=by
 intro a ha;rcases h.row.2 with⟨h0,h1⟩|⟨g,cap,cur,hv,hb,hg,_⟩
 .cases h0;cases ha
 cases hv;cases ha;exact hb
theorem WOw.old{w0 w:World}{ro:Option Addr}{N rc:Nat}{ws:List Wt}(h:WOw w0 w ro N rc ws):∀a,ro=some a->a.block<w.heap.size:=by
 intro a ha;rcases h.row.2 with⟨h0,h1⟩|⟨g,cap,cur,hv,hb,hg,_⟩
 .cases h0;cases ha
 cases hv;cases ha;exact lt_of_block hg
end
section
open Go.ChangeShapes Go.WideShapes Go.ChangeAt Go.RowKit Go.Lib Go.Maps Go.Proofs.Tryz
theorem zui(ws:List Wt)(i:Nat):zbd ws (i+1)=updF (zbd ws i) (kAt ws i) (some (i:Int)):=by
 funext k
 by_cases e:k=kAt ws i
 .simp only[zbd,if_pos e];rw[e,zae]
 simp only[zbd,if_neg e];rw[zab _ _ e]
theorem zpm(n:Int)(w:World):(Instr.makeMap 205 (some (.int .i64 n))).run prog w=.ok (.map (some w.heap.size)) (w.alloc (.map #[] 0)):=by
 simp[Instr.makeMap,run_underlying zmj,asInt,asIntOf]
theorem WOw.none14(w0 w:World):WOw w0 w none 0 0 []:=⟨rfl,rfl,.inl ⟨rfl,rfl⟩⟩
theorem zpn(ao:Option Addr)(L cap:Nat)(ws:List Wt)(w:World)(hW:WRs w ao ws)(hL:L=ws.length)(hLb:L<=32)(hks:∀x∈ws,x.key.size<=64) :
  Calls prog 284 #[.slice ao L cap] w fun e w'=>∃ro N rc,e=.returned (.slice ro N rc)/\WOw w w' ro N rc (dd ws)/\Fr [] w w':=by
 have HL:Hid (L=ws.length):=hL;have HKs:Hid (∀x∈ws,x.key.size<=64):=hks;have hmm:=fun w=>zpm (L:Int) w;have HI:Hid (∀W,Fr [] w W->WRs W ao ws):=fun W hf=>hW.keep hf;have hM0:MapG kLast (w.alloc (.map #[] 0)) w.heap.size 0 (zbd ws 0):=MapG.made w;have hF0:Fr [] w (w.alloc (.map #[] 0)):=Fr.alloc [] w _;clear hL hW hks;go_enter func284,ntmps284;go_wp2_with fail
 obtain⟨b,hb⟩:∃b,b=w.heap.size:=⟨_,rfl⟩;rw[<-hb]at hM0 ⊢
 have hbw:w.heap.size<=b:=by omega
 clear hb;go_loopw [14] (fun ii wr=>∃(i:Nat),ii=.int .i64 i/\i<=L/\Hid (MapG kLast wr b i (zbd ws i))/\Fr [] w wr) (fun ii _=>L-(RowKit.intOf ii).toNat)
 case atStart=>exact⟨0,rfl,Nat.zero_le _,hM0,hF0⟩
 obtain⟨i,rfl,hiL,HM,hFr⟩:=hrel;by_cases hi:i<L
 .have hi':i<ws.length:=by rw[<-HL.out];exact hi
  obtain⟨bb,off,rfl,_,hc⟩:=(HI.out _ hFr).lies (by omega);obtain⟨d0,d1,d2⟩:=hc i hi';have hkz:=HKs.out _ (zbz ws i hi');have HKa:Hid (kAt ws i=(ws.getD i Wt.zero).key):=rfl;obtain⟨y,hyy⟩:∃y,y=ws.getD i Wt.zero:=⟨_,rfl⟩;rw[<-hyy]at d0 d1 d2 hkz HKa
  clear hyy hc;obtain⟨key,val,drop⟩:=y;simp only at d0 d1 d2 hkz HKa;obtain⟨w3,HW3⟩:∃w3,Hid (wr.alloc (.cells #[.string key,.string val,.bool drop] 51)=w3):=⟨_,rfl⟩;obtain⟨B9,HB9⟩:∃B9,Hid (B9=wr.heap.size):=⟨_,rfl⟩;have hF3:Fr [] wr w3:=by rw[<-HW3.out];exact Fr.alloc [] wr _
  have hby:w3.heap[B9]? = some (.cells #[.string key,.string val,.bool drop] 51 (0,0)):=by rw[<-HW3.out,HB9.out];exact heap_alloc_new wr _
  have e0:w3.cell? ⟨B9,0,none⟩=some (.string key):=by rw[crw hby];rfl
  have hG3:Fr [] w w3:=hFr.then hF3;have hM3:=HM.out.keep hF3 (by simp);obtain⟨w4,hst,hM4,hF4⟩:=hM3.store key (i:Int) (by show key.size<=maxLen;unfold maxLen;omega) (by unfold maxLen;omega);have HM4:Hid (MapG kLast w4 b (i+1) (zbd ws (i+1))):=by
   show MapG _ _ _ _ _;rw[zui,HKa.out];exact hM4
  have hG4:Fr [] w w4:=hG3.on hF4 (by intro x hx;simp at hx;omega)
  change (Instr.mapUpdate 205 (.map (some b)) (.string key) (.int .i64 (i:Int))).run prog w3=.ok () w4 at hst
  clear hM3 hM4 hF4 HM hF3 hG3 hby;go_upto_region 5 with fail
  rw[HW3.out,<-HB9.out];clear HW3 HB9 d0 d1 d2;go_wp2_with fail
  go_roundw;case rel=>exact⟨i+1,by simp,by omega,HM4,hG4⟩
  case measure=>simp[RowKit.intOf];omega
 obtain rfl:i=L:=by omega
 clear hi hiL;have HM1:Hid (MapG kLast wr b i (zbd ws ws.length)):=by rw[<-HL.out];exact HM
 have HF1:Hid (Fr [] w wr):=hFr;have hblt:=HM1.out.lt;clear HM hFr;go_wp2_with fail
 obtain⟨w1,HW1⟩:∃w1,Hid (wr=w1):=⟨_,rfl⟩;rw[HW1.out]at HM1 HF1 hblt ⊢
 clear HW1;go_loopw [6,26] (fun ll ii wr=>∃(ro:Option Addr)(N rc k:Nat),ll=.slice ro N rc/\ii=.int .i64 k/\k<=i/\N<=k/\Hid (WOw w1 wr ro N rc (ddTo ws k))/\Hid (Fr [] w1 wr)) (fun _ ii _=>i-(RowKit.intOf ii).toNat)
 case atStart=>exact⟨none,0,0,0,rfl,rfl,Nat.zero_le _,Nat.le_refl _,WOw.none14 _ _,Fr.refl _ _⟩
 obtain⟨ro,N,rc,k,rfl,rfl,hk,hN,HO,HF⟩:=hrel;by_cases hki:k<i
 .have hk':k<ws.length:=by rw[<-HL.out];exact hki
  obtain⟨bb,off,rfl,_,hc⟩:=(HI.out _ (HF1.out.then HF.out)).lies (by omega);obtain⟨d0,d1,d2⟩:=hc k hk';have hkz:=HKs.out _ (zbz ws k hk');have HKa:Hid (kAt ws k=(ws.getD k Wt.zero).key):=rfl;have HKt:=zrz ws k hk';have HKy:Hid (Kept ws k->ddTo ws (k+1)=ddTo ws k++[ws.getD k Wt.zero]):=fun h=>zed h;have HKn:Hid (¬Kept ws k->ddTo ws (k+1)=ddTo ws k):=fun h=>zfg h;obtain⟨y,hyy⟩:∃y,y=ws.getD k Wt.zero:=⟨_,rfl⟩;rw[<-hyy]at d0 d1 d2 hkz HKa HKy
  clear hyy hc;obtain⟨key,val,drop⟩:=y;simp only at d0 d1 d2 hkz HKa;rw[HKa.out]at HKt
  obtain⟨J,hJ⟩:∃J:Int,J=(zbd ws ws.length key).getD 0:=⟨_,rfl⟩;rw[<-hJ]at HKt
  obtain⟨w3,HW3⟩:∃w3,Hid (wr.alloc (.cells #[.string key,.string val,.bool drop] 51)=w3):=⟨_,rfl⟩;obtain⟨B9,HB9⟩:∃B9,Hid (B9=wr.heap.size):=⟨_,rfl⟩;have hF3:Fr [] wr w3:=by rw[<-HW3.out];exact Fr.alloc [] wr _
  have hby:w3.heap[B9]? = some (.cells #[.string key,.string val,.bool drop] 51 (0,0)):=by rw[<-HW3.out,HB9.out];exact heap_alloc_new wr _
  have e0:w3.cell? ⟨B9,0,none⟩=some (.string key):=by rw[crw hby];rfl
  have e1:w3.cell? ⟨B9,1,none⟩=some (.string val):=by rw[crw hby];rfl
  have e2:w3.cell? ⟨B9,2,none⟩=some (.bool drop):=by rw[crw hby];rfl
  have hG3:Fr [] w1 w3:=HF.out.then hF3;have hlk:=(HM1.out.keep hG3 (by simp)).look key (by show key.size<=maxLen;unfold maxLen;omega)
  change (Instr.lookup 205 (.map (some b)) (.string key) false).run prog w3=.ok (.int .i64 ((zbd ws ws.length key).getD 0)) w3 at hlk
  rw[<-hJ]at hlk
  have HO3:Hid (WOw w1 w3 ro N rc (ddTo ws k)):=HO.out.keepS hF3 (by simp);have HG3:Hid (Fr [] w1 w3):=hG3;clear hJ HO hF3 hG3 hby HF;by_cases hJk:J=(k:Int)
  .have heq:(J==(k:Int))=true:=by simp[hJk]
   have HY:Hid (ddTo ws (k+1)=ddTo ws k++[⟨key,val,drop⟩]):=HKy.out (HKt.1 hJk);clear HKt HKy HKn hJk;go_upto_region 11 with fail
   rw[HW3.out,<-HB9.out];clear HW3 HB9 d0 d1 d2;have HSz:Hid (w1.heap.size<=w3.heap.size):=HG3.out.size;have hN1:N<1000000:=by omega
   go_wp2_with (first
    |(
     at_builtin;refine zki w1 _ rfl _ _ rfl ro N rc (ddTo ws k) rfl HO3.out hN1 HSz.out ⟨key,val,drop⟩ rfl ?_
     intro so' c' w5 hO5 hF5;have HO5:Hid (WOw w1 w5 so' (N+1) c' (ddTo ws (k+1))):=by rw[HY.out];exact hO5
     have HF5:Hid (Fr [] w1 w5):=HG3.out.on hF5 (fun x hx=>(zhp HO3.out.row (Option.mem_toList.1 hx)).1);clear hO5 hF5;go_frame)
    |fail)
   go_roundw;case rel=>exact⟨_,N+1,_,k+1,rfl,by simp,by omega,by omega,HO5,HF5⟩
   case measure=>simp[RowKit.intOf];omega
  have heq:(J==(k:Int))=false:=by simp[hJk]
  have HY:Hid (ddTo ws (k+1)=ddTo ws k):=HKn.out (fun h=>hJk (HKt.2 h));have HO5:Hid (WOw w1 w3 ro N rc (ddTo ws (k+1))):=by rw[HY.out];exact HO3
  clear HKt HKy HKn hJk HO3;go_upto_region 11 with fail
  rw[HW3.out,<-HB9.out];clear HW3 HB9 d0 d1 d2;go_wp2_with fail
  go_roundw;case rel=>exact⟨_,N,_,k+1,rfl,by simp,by omega,by omega,HO5,HG3⟩
  case measure=>simp[RowKit.intOf];omega
 obtain rfl:k=i:=by omega
 clear hki hk;have HO1:Hid (WOw w wr ro N rc (dd ws)):=by
  show WOw _ _ _ _ _ _;unfold dd;rw[<-HL.out];exact HO.out.later HF1.out.size
 have HF2:Hid (Fr [] w wr):=HF1.out.then HF.out;clear HO HF;go_wp2_with fail
 go_ret;exact⟨ro,N,rc,rfl,HO1.out,HF2.out⟩
theorem zoi(n:Int)(ao:Option Addr)(L cap:Nat)(ws:List Wt)(w:World)(hW:WRs w ao ws)(hL:L=ws.length)(hLb:L<=32) :
  Calls prog 27 #[.agg #[.int .i64 n,.slice ao L cap]] w fun e w'=>∃ro N rc,e=.returned (.slice ro N rc)/\WOw w w' ro N rc (dd ws)/\Fr [] w w':=by
 have HL:Hid (L=ws.length):=hL;have hF0:Fr [] w (w.alloc (.cells #[.int .i64 n,.slice ao L cap] 54)):=Fr.alloc _ _ _;have hrow0:=heap_alloc_new w (.cells #[.int .i64 n,.slice ao L cap] 54);obtain⟨w1,HW1⟩:∃w1,Hid (w.alloc (.cells #[.int .i64 n,.slice ao L cap] 54)=w1):=⟨_,rfl⟩;obtain⟨B,HB⟩:∃B,Hid (w.heap.size=B):=⟨_,rfl⟩;rw[HW1.out]at hF0 hrow0
 rw[HB.out]at hrow0
 have HI:Hid (∀W,Fr [] w1 W->WRs W ao ws):=fun W hf=>hW.keep (hF0.then hf);have HT:Hid (∀W,Fr [] w1 W->W.cell? ⟨B,1,none⟩=some (.slice ao L cap)):=fun W hf=>by
  rw[crw (hf.keep hrow0 (by simp))];rfl
 have HF0:Hid (Fr [] w w1):=hF0;clear hL hW hF0 hrow0;go_enter func27,ntmps27;go_upto_region 1 with fail
 rw[HW1.out,HB.out];clear HW1 HB;go_wp2_with fail
 go_loopw [3,4] (fun ll ii wr=>∃(ro:Option Addr)(N rc k:Nat),ll=.slice ro N rc/\ii=.int .i64 k/\k<=L/\N<=k/\Hid (WOw w1 wr ro N rc (ddTo ws k))/\Fr [] w1 wr) (fun _ ii _=>L-(RowKit.intOf ii).toNat)
 case atStart=>exact⟨none,0,0,0,rfl,rfl,Nat.zero_le _,Nat.le_refl _,WOw.none14 _ _,Fr.refl _ _⟩
 obtain⟨ro,N,rc,k,rfl,rfl,hk,hN,HO,hF⟩:=hrel;have b1:=HT.out _ hF;by_cases hki:k<L
 .have hk':k<ws.length:=by rw[<-HL.out];exact hki
  obtain⟨bb,off,rfl,_,hc⟩:=(HI.out _ hF).lies (by omega);rw[<-HL.out]at hc
  obtain⟨d0,d1,d2⟩:=hc k hki;have HKa:Hid (kAt ws k=(ws.getD k Wt.zero).key):=rfl;have HKy:Hid (Kept ws k->ddTo ws (k+1)=ddTo ws k++[ws.getD k Wt.zero]):=fun h=>zed h;have HKn:Hid (¬Kept ws k->ddTo ws (k+1)=ddTo ws k):=fun h=>zfg h;obtain⟨y,hyy⟩:∃y,y=ws.getD k Wt.zero:=⟨_,rfl⟩;rw[<-hyy]at d0 d1 d2 HKa HKy
  clear hyy;obtain⟨ky,vl,dp⟩:=y;simp only at d0 d1 d2 HKa;go_wp2_with fail
  go_loopw [5,6] (fun vv mm w'=>∃(Bf:Bool)(m z:Nat),vv=.bool Bf/\mm=.int .i64 m/\k+1<=m/\m<=L/\Hid (Bf=false↔ ∃j,k<j/\j<m/\kAt ws j=ky)/\w'=wr.drewN z) (fun _ mm _=>L-(RowKit.intOf mm).toNat)
  case atStart=>exact⟨true,k+1,0,rfl,by simp,Nat.le_refl _,by omega,(by show _↔_;constructor;(intro h;cases h);rintro⟨j,h1,h2,_⟩;omega),rfl⟩
  obtain⟨Bf,m,z,rfl,rfl,hkm,hmM,HB,rfl⟩:=hrel;by_cases hm:m<L
  .obtain⟨p0,_,_⟩:=hc m hm;have HKm:Hid (kAt ws m=(ws.getD m Wt.zero).key):=rfl;obtain⟨km,hkmm⟩:∃km,km=(ws.getD m Wt.zero).key:=⟨_,rfl⟩;rw[<-hkmm]at p0 HKm
   clear hkmm;cases Bf with
   |false=>
    have HB2:Hid (∃j,k<j/\j<m+1/\kAt ws j=ky):=by
     obtain⟨j,h1,h2,h3⟩:=HB.out.1 rfl;exact⟨j,h1,by omega,h3⟩
    go_wp2_with fail
    go_quiet (fail)
    go_wp2_with fail
    go_roundw;case rel=>exact⟨false,m+1,_,rfl,by simp,by omega,by omega,(by show _↔_;exact⟨fun _=>HB2.out,fun _=>rfl⟩),rfl⟩
    case measure=>simp[RowKit.intOf];omega
   |true=>
    have HB2:Hid ((!(km.toList==ky.toList))=false↔ ∃j,k<j/\j<m+1/\kAt ws j=ky):=by
     show _↔_;rw[Bool.not_eq_false',beq_iff_eq,zwr];constructor
     .intro h;exact⟨m,by omega,by omega,by rw[HKm.out];exact h⟩
     rintro⟨j,h1,h2,h3⟩;by_cases hj:j=m
     .subst hj;rw[<-HKm.out];exact h3
     have:=HB.out.2 ⟨j,h1,by omega,h3⟩;cases this
    go_wp2_with fail
    go_quiet (fail)
    go_wp2_with fail
    go_roundw;case rel=>exact⟨_,m+1,_,rfl,by simp,by omega,by omega,HB2,rfl⟩
    case measure=>simp[RowKit.intOf];omega
  obtain rfl:m=L:=by omega
  clear hm hkm hmM;have hG2:=hF.then (Fr.drewN [] _ z);have HO2:Hid (WOw w1 (wr.drewN z) ro N rc (ddTo ws k)):=HO.out.keepS (Fr.drewN [] _ z) (by simp);cases Bf with
  |false=>
   have HNk:Hid (¬Kept ws k):=by
    obtain⟨j,h1,h2,h3⟩:=HB.out.1 rfl;exact fun hK=>hK j h1 (by rw[<-HL.out];exact h2) (by rw[h3,HKa.out])
   have HO3:Hid (WOw w1 (wr.drewN z) ro N rc (ddTo ws (k+1))):=by rw[HKn.out HNk.out];exact HO2
   go_wp2_with fail
   go_roundw;case rel=>exact⟨ro,N,rc,k+1,rfl,by simp,by omega,by omega,HO3,hG2⟩
   case measure=>simp[RowKit.intOf];omega
  |true=>
   have HKp:Hid (Kept ws k):=by
    intro j h1 h2 h3;have:=HB.out.2 ⟨j,h1,by rw[HL.out];exact h2,by rw[h3,HKa.out]⟩;cases this
   have HY:Hid (ddTo ws (k+1)=ddTo ws k++[⟨ky,vl,dp⟩]):=HKy.out HKp.out;have HSz:Hid (w1.heap.size<=(wr.drewN z).heap.size):=hG2.size;have hN1:N<1000000:=by omega
   have HG2:Hid (Fr [] w1 (wr.drewN z)):=hG2;go_wp2_with (first
    |(
     at_builtin;refine zki w1 (wr.drewN z) rfl _ _ rfl ro N rc (ddTo ws k) rfl HO2.out hN1 HSz.out ⟨ky,vl,dp⟩ rfl ?_
     intro so' c' w5 hO5 hF5;have HO5:Hid (WOw w1 w5 so' (N+1) c' (ddTo ws (k+1))):=by rw[HY.out];exact hO5
     have hF5':Fr [] w1 w5:=HG2.out.on hF5 (fun x hx=>(zhp HO2.out.row (Option.mem_toList.1 hx)).1);clear hO5 hF5;go_frame)
    |fail)
   go_roundw;case rel=>exact⟨_,N+1,_,k+1,rfl,by simp,by omega,by omega,HO5,hF5'⟩
   case measure=>simp[RowKit.intOf];omega
 obtain rfl:k=L:=by omega
 have HO1:Hid (WOw w wr ro N rc (dd ws)):=by
  show WOw _ _ _ _ _ _;unfold dd;rw[<-HL.out];exact HO.out.later HF0.out.size
 have HF2:Hid (Fr [] w wr):=HF0.out.then hF;have hk2:¬((k:Int)<(k:Int)):=by omega
 go_wp2_with fail
 go_ret;exact⟨ro,N,rc,rfl,HO1.out,HF2.out⟩
theorem zmv:prog.underlying 275=some (.map 9 241):=by kernel_rfl
theorem zrk:prog.underlying 9=some .string:=by kernel_rfl
def SetN(w:World)(b n:Nat)(ks:List ByteArray):Prop:=
 ∃D:DataW Unit,w.ownsMap prog 9 zgu b n D/\(∀x:ByteArray,x.size<=maxLen->(has D (.string x.data.toList)=true↔x∈ks))/\Maps.size D=ks.length
theorem SetN.lt{w:World}{b n:Nat}{ks:List ByteArray}(h:SetN w b n ks):b<w.heap.size:=by
 obtain⟨D,hD,_⟩:=h;exact hD.lt
theorem SetN.keep{S:List Nat}{w w':World}{b n:Nat}{ks:List ByteArray}(h:SetN w b n ks)(hf:Fr S w w')(hn:b∉S):SetN w' b n ks:=by
 have hlt:=h.lt;obtain⟨D,⟨es,clock,hb,hr⟩,h2⟩:=h;exact⟨D,⟨es,clock,(hf.block b hlt hn).trans hb,hr⟩,h2⟩
theorem SetN.made(w:World):SetN (w.alloc (.map #[] 0)) w.heap.size 0 []:=
 ⟨.map [],World.ownsMap_made w _ _ _,fun s _=>by simp[has],rfl⟩
theorem SetN.len{w:World}{b n:Nat}{ks:List ByteArray}(h:SetN w b n ks)(ty:TypeId):(Builtin.len_ #[275] ty #[.map (some b)]).run prog w=.ok (.int .i64 (ks.length:Int)) w:=by
 obtain⟨D,hD,_,h3⟩:=h;rw[hD.len zmv,h3]
open Classical in
theorem SetN.store{w:World}{b n:Nat}{ks:List ByteArray}(h:SetN w b n ks)(x:ByteArray)(hx:x.size<=maxLen)(hn:n<maxLen) :
  ∃w',(Instr.mapUpdate 275 (.map (some b)) (.string x) (.agg #[])).run prog w=.ok () w'/\SetN w' b (n+1) (if x∈ks then ks else ks++[x])/\Fr [b] w w':=by
 obtain⟨D,hD,hA,hS⟩:=h;have K:=string_keyed (P:=prog) zrk;have hI:=hD.isMap;have hk:=Go.WideMaps.keyOf_string_mk (P:=prog) zrk hx;obtain⟨w',hrun,hO,hg⟩:=hD.update K zmv hn hk (val:=.agg #[]) (d:=.agg []) (ps:=[]) rfl;refine⟨w',hrun,⟨_,hO,fun y hy=> ?_,?_⟩,Fr.grown hg (by intro k hk _;cases hk;simp)⟩
 .by_cases he:y=x
  .subst he;rw[has_put_same hI (K.key hk)];split<;>simp_all
  have hne:Lit.string y.data.toList≠Lit.string x.data.toList:=fun e=>he (by
   have:y.data.toList=x.data.toList:=by simpa using e
   have h2:y.data=x.data:=Array.toList_inj.1 this;cases y;cases x;simp_all)
  rw[has_put_other hne,hA y hy];split
  .exact Iff.rfl
  simp[he]
 rw[size_put (hD.tidy K)];by_cases hm:x∈ks
 .rw[if_pos ((hA x hx).2 hm),if_pos hm,hS]
 rw[if_neg (fun h=>hm ((hA x hx).1 h)),if_neg hm,hS,List.length_append];rfl
theorem zsr(w:World):(Instr.makeMap 275 Option.none).run prog w=.ok (.map (some w.heap.size)) (w.alloc (.map #[] 0)):=by
 simp[Instr.makeMap,run_underlying zmv]
open Classical in
theorem zzi(ws:List Wt)(i:Nat):fl22 ws (i+1)=if kAt ws i∈fl22 ws i then fl22 ws i else fl22 ws i++[kAt ws i]:=by simp only[fl22]
theorem zoj(ao:Option Addr)(L cap:Nat)(ws:List Wt)(w:World)(hW:WRs w ao ws)(hL:L=ws.length)(hLb:L<=32)(hks:∀x∈ws,x.key.size<=64) :
  Calls prog 146 #[.slice ao L cap] w fun e w'=>e=.returned (.int .i64 ((dd ws).length:Int))/\Fr [] w w':=by
 have HL:Hid (L=ws.length):=hL;have HKs:Hid (∀x∈ws,x.key.size<=64):=hks;have hmm:=fun w=>zsr w;have HI:Hid (∀W,Fr [] w W->WRs W ao ws):=fun W hf=>hW.keep hf;have hM0:SetN (w.alloc (.map #[] 0)) w.heap.size 0 (fl22 ws 0):=SetN.made w;have hF0:Fr [] w (w.alloc (.map #[] 0)):=Fr.alloc [] w _;clear hL hW hks;go_enter func146,ntmps146;go_wp2_with fail
 obtain⟨b,hb⟩:∃b,b=w.heap.size:=⟨_,rfl⟩;rw[<-hb]at hM0 ⊢
 have hbw:w.heap.size<=b:=by omega
 clear hb;go_loopw [9] (fun ii wr=>∃(i:Nat),ii=.int .i64 i/\i<=L/\Hid (SetN wr b i (fl22 ws i))/\Fr [] w wr) (fun ii _=>L-(RowKit.intOf ii).toNat)
 case atStart=>exact⟨0,rfl,Nat.zero_le _,hM0,hF0⟩
 obtain⟨i,rfl,hiL,HM,hFr⟩:=hrel;by_cases hi:i<L
 .have hi':i<ws.length:=by rw[<-HL.out];exact hi
  obtain⟨bb,off,rfl,_,hc⟩:=(HI.out _ hFr).lies (by omega);obtain⟨d0,d1,d2⟩:=hc i hi';have hkz:=HKs.out _ (zbz ws i hi');have HKa:Hid (kAt ws i=(ws.getD i Wt.zero).key):=rfl;obtain⟨y,hyy⟩:∃y,y=ws.getD i Wt.zero:=⟨_,rfl⟩;rw[<-hyy]at d0 d1 d2 hkz HKa
  clear hyy hc;obtain⟨key,val,drop⟩:=y;simp only at d0 d1 d2 hkz HKa;obtain⟨w3,HW3⟩:∃w3,Hid (wr.alloc (.cells #[.string key,.string val,.bool drop] 51)=w3):=⟨_,rfl⟩;obtain⟨B9,HB9⟩:∃B9,Hid (B9=wr.heap.size):=⟨_,rfl⟩;have hF3:Fr [] wr w3:=by rw[<-HW3.out];exact Fr.alloc [] wr _
  have hby:w3.heap[B9]? = some (.cells #[.string key,.string val,.bool drop] 51 (0,0)):=by rw[<-HW3.out,HB9.out];exact heap_alloc_new wr _
  have e0:w3.cell? ⟨B9,0,none⟩=some (.string key):=by rw[crw hby];rfl
  have hG3:Fr [] w w3:=hFr.then hF3;have hM3:=HM.out.keep hF3 (by simp);obtain⟨w4,hst,hM4,hF4⟩:=hM3.store key (by unfold maxLen;omega) (by unfold maxLen;omega);have HM4:Hid (SetN w4 b (i+1) (fl22 ws (i+1))):=by
   show SetN _ _ _ _;rw[zzi,HKa.out];exact hM4
  have hG4:Fr [] w w4:=hG3.on hF4 (by intro x hx;simp at hx;omega);clear hM3 hM4 hF4 HM hF3 hG3 hby;go_upto_region 5 with fail
  rw[HW3.out,<-HB9.out];clear HW3 HB9 d0 d1 d2;go_wp2_with fail
  go_roundw;case rel=>exact⟨i+1,by simp,by omega,HM4,hG4⟩
  case measure=>simp[RowKit.intOf];omega
 obtain rfl:i=L:=by omega
 clear hi hiL;have hlen:=fun ty=>HM.out.len ty;have HE:Hid ((fl22 ws i).length=(dd ws).length):=by
  show _=_;rw[HL.out];exact zafe ws
 rw[HE.out]at hlen
 have HF1:Hid (Fr [] w wr):=hFr;clear hFr;go_wp2_with fail
 go_ret;exact⟨rfl,HF1.out⟩
end
end Go.Proofs.YtaigdcmoecgabaaGreat
