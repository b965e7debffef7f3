/- Contracts and lemmas. -/
import Derived.Test.YtojjdnjfaelnfaaGreatDoorGp6
import Derived.Maps.RangeWalk
import Derived.Test.YtojjdnjfaelnfaaGreatDoorGp5
set_option maxHeartbeats 8000000
set_option maxRecDepth 100000
namespace Go.Proofs.YtojjdnjfaelnfaaGreatDoor
set_option linter.unusedSimpArgs false
set_option linter.unusedVariables false
section
open Go.ChangeShapes Go.WideShapes Go.ChangeAt Go.RowKit Go.Lib Go.Proofs.Tryz
theorem zlc{S:List Nat}{w w':World}{base:Nat}{e:TypeId}{size:Nat}{v:Value}{n:Nat}{xs:List Value}(h:w.ownsRow base e size v n xs)(hf:Fr S w w')(hn:∀k,v.ownBlock=some k->k∉S):w'.ownsRow base e size v n xs:=by
 refine⟨h.1,?_⟩;rcases h.2 with h0|⟨g,cap,cur,hv,hb,hg,hr⟩
 .exact Or.inl h0
 exact Or.inr ⟨g,cap,cur,hv,hb,hf.keep hg (hn g (by rw[hv];rfl)),hr⟩
theorem zld{w:World}{base:Nat}{e:TypeId}{size:Nat}{v:Value}{n:Nat}{xs:List Value}(h:w.ownsRow base e size v n xs){k:Nat}(hk:v.ownBlock=some k):base<=k/\∃cur,w.heap[k]? = some (.cells cur e (0,0)):=by
 rcases h.2 with⟨rfl,_⟩|⟨g,cap,cur,rfl,hb,hg,hr⟩
 .simp[Value.ownBlock]at hk
 simp[Value.ownBlock]at hk
 subst hk;exact⟨hb,cur,hg⟩
theorem zaar{w:World}{base base':Nat}{e:TypeId}{size:Nat}{v:Value}{n:Nat}{xs:List Value}(h:w.ownsRow base e size v n xs)(hb:base'<=base):w.ownsRow base' e size v n xs:=by
 refine⟨h.1,?_⟩;rcases h.2 with h0|⟨g,cap,cur,hv,hg,hr⟩
 .exact Or.inl h0
 exact Or.inr ⟨g,cap,cur,hv,by omega,hr⟩
structure WOw(w0 w:World)(ro:Option Addr)(N rc:Nat)(ws:List Wt):Prop where
 len:N=ws.length
 row:w.ownsRow w0.heap.size 91 3 (.slice ro N rc) N (wtsC ws)
theorem WOw.rs{w0 w:World}{ro:Option Addr}{N rc:Nat}{ws:List Wt}(h:WOw w0 w ro N rc ws)(hl:ws.length<=140737488355328)(he:∀x∈ws,x.key.size<=140737488355328/\x.val.size<=140737488355328):WRs w ro ws:=by
 rcases h.row.2 with⟨_,h1⟩|⟨g,cap,cur,hv,_,hg,_,_,_,ht⟩
 .have:ws=[]:=List.eq_nil_of_length_eq_zero (by have:=h.len;omega);subst this;exact WRs.nil _ _
 cases hv;refine⟨fun h0=>⟨g,0,rfl,lt_of_block hg,fun i hi=> ?_⟩,hl,he⟩;have hN:=h.len;have key:∀c u,c<3->(wtC (ws.getD i Wt.zero))[c]? = some u->w.cell? ⟨g,0+i*3+c,none⟩=some u:=by
  intro c u hc hu;rw[<-zkl ws i c hi hc]at hu
  rw[crw hg,Nat.zero_add,<-Array.getElem?_toList,<-hu,<-ht,List.getElem?_take_of_lt (by omega)]
 exact⟨key 0 _ (by omega) rfl,key 1 _ (by omega) rfl,key 2 _ (by omega) rfl⟩
theorem WOw.keepS{S:List Nat}{w0 w w':World}{ro:Option Addr}{N rc:Nat}{ws:List Wt}(h:WOw w0 w ro N rc ws)(hf:Fr S w w')(hn:∀k,(Value.slice ro N rc).ownBlock=some k->k∉S):WOw w0 w' ro N rc ws:=⟨h.len,zlc h.row hf hn⟩
theorem WOw.later{w0 w1 w:World}{ro:Option Addr}{N rc:Nat}{ws:List Wt}(h:WOw w1 w ro N rc ws)(hs:w0.heap.size<=w1.heap.size):WOw w0 w ro N rc ws:=⟨h.len,zaar h.row hs⟩
theorem zahv:prog.underlying 87=some (.slice 91):=by kernel_rfl
theorem zaek:(prog.info? 91).map (fun i=>(i.zero,i.size,i.bytes))=some (some (.agg #[.string ⟨#[]⟩,.string ⟨#[]⟩,.bool false]),3,40):=by kernel_rfl
theorem zsl(w0 w:World){ops:Array Oper}{rest:List Oper}{o:Oper}{a:Act}{Q:Exit->Act->World->Prop}(hgd:o.guard=none)(s x:Operand)(ho:o.op=.call {callee:=.builtin .append,args:=#[s,x],argTypes:=#[87,87]})(so:Option Addr)(N c:Nat)(us:List Wt)(hs:a.eval s=.slice so N c)(hK:WOw w0 w so N c us)(hN:N<1000000)(h0:w0.heap.size<=w.heap.size)(p:Wt)(hx:a.eval x=.slice (some ⟨w.heap.size,0,none⟩) 1 1)(h:∀so' c' w',WOw w0 w' so' (N+1) c' (us++[p])->Fr (Value.slice so N c).ownBlock.toList w w'->wpList prog ops Q rest (a.put o.dst (.slice so' (N+1) c')) w'):wpList prog ops Q (o::rest) a (w.alloc (.cells #[.string p.key,.string p.val,.bool p.drop] 91)):=by
 obtain⟨i0,hi,hz0,hz1,hz2⟩:=info_parts zaek;refine wpList_append_own (w.alloc (.cells #[.string p.key,.string p.val,.bool p.drop] 91)) hgd s x 87 ho w0.heap.size 91 i0 _ 3 40 zahv hi hz0 hz1 hz2 rfl (by decide) (.slice so N c) N (wtsC us) hs (zlc hK.row (Fr.alloc [] w _) (by simp)) ⟨w.heap.size,0,none⟩ 1 1 (wtC p) hx rfl ?_ (fun u hu=>zim [p] u (by simpa[wtsC]using hu)) (by unfold maxLen;omega) (by omega) (by simp;omega) ?_
 .intro j u hu;have hr:=heap_alloc_new w (.cells #[.string p.key,.string p.val,.bool p.drop] 91);rw[Addr.add_lit,crw hr,Nat.zero_add];simpa[wtC]using hu
 intro v' w' hown' hg' _;obtain⟨bo,cap',rfl⟩:∃bo cap',v'=.slice bo (N+1) cap':=by
  rcases hown'.2 with⟨_,h1⟩|⟨g,cap,_,rfl,_⟩
  .omega
  exact⟨_,cap,rfl⟩
 have hst:wtsC (us++[p])=wtsC us++wtC p:=by rw[zsg];simp[wtsC]
 rw[<-hst]at hown'
 have hF:Fr (Value.slice so N c).ownBlock.toList w w':=((Fr.alloc [] w _).mono (by simp)).then (Fr.grown (S:=(Value.slice so N c).ownBlock.toList) hg' (fun y hy _=>Option.mem_toList.2 hy));exact h bo cap' w' ⟨by rw[hK.len];simp,hown'⟩ hF
theorem WOw.cap{w0 w:World}{ro:Option Addr}{N rc:Nat}{ws:List Wt}(h:WOw w0 w ro N rc ws):N<=rc:=by
 rcases h.row.2 with⟨h0,h1⟩|⟨g,cap,cur,hv,_,hg,hc,_,_,ht⟩
 .omega
 cases hv;omega
theorem WOw.new{w0 w:World}{ro:Option Addr}{N rc:Nat}{ws:List Wt}(h:WOw w0 w ro N rc ws):∀a,ro=some a->w0.heap.size<=a.block:=by
 intro a ha;rcases h.row.2 with⟨h0,h1⟩|⟨g,cap,cur,hv,hb,hg,_⟩
 .cases h0;cases ha
 cases hv;cases ha;exact hb
theorem WOw.old{w0 w:World}{ro:Option Addr}{N rc:Nat}{ws:List Wt}(h:WOw w0 w ro N rc ws):∀a,ro=some a->a.block<w.heap.size:=by
 intro a ha;rcases h.row.2 with⟨h0,h1⟩|⟨g,cap,cur,hv,hb,hg,_⟩
 .cases h0;cases ha
 cases hv;cases ha;exact lt_of_block hg
end
section
open Go.ChangeShapes Go.WideShapes Go.ChangeAt Go.RowKit Go.Lib Go.Maps Go.Proofs.Tryz
theorem zuz(ws:List Wt)(i:Nat):zbc ws (i+1)=updF (zbc ws i) (kAt ws i) (some (i:Int)):=by
 funext k
 by_cases e:k=kAt ws i
 .simp only[zbc,if_pos e];rw[e,zae]
 simp only[zbc,if_neg e];rw[zab _ _ e]
theorem zpw(n:Int)(w:World):(Instr.makeMap 280 (some (.int .i64 n))).run prog w=.ok (.map (some w.heap.size)) (w.alloc (.map #[] 0)):=by
 simp[Instr.makeMap,run_underlying zmj,asInt,asIntOf]
theorem WOw.none14(w0 w:World):WOw w0 w none 0 0 []:=⟨rfl,rfl,.inl ⟨rfl,rfl⟩⟩
theorem zpx(ao:Option Addr)(L cap:Nat)(ws:List Wt)(w:World)(hW:WRs w ao ws)(hL:L=ws.length)(hLb:L<=32)(hks:∀x∈ws,x.key.size<=64) :
  Calls prog 304 #[.slice ao L cap] w fun e w'=>∃ro N rc,e=.returned (.slice ro N rc)/\WOw w w' ro N rc (dd ws)/\Fr [] w w':=by
 have HL:Hid (L=ws.length):=hL;have HKs:Hid (∀x∈ws,x.key.size<=64):=hks;have hmm:=fun w=>zpw (L:Int) w;have HI:Hid (∀W,Fr [] w W->WRs W ao ws):=fun W hf=>hW.keep hf;have hM0:MapG kLast (w.alloc (.map #[] 0)) w.heap.size 0 (zbc ws 0):=MapG.made w;have hF0:Fr [] w (w.alloc (.map #[] 0)):=Fr.alloc [] w _;clear hL hW hks;go_enter func304,ntmps304;go_wp2_with fail
 obtain⟨b,hb⟩:∃b,b=w.heap.size:=⟨_,rfl⟩;rw[<-hb]at hM0 ⊢
 have hbw:w.heap.size<=b:=by omega
 clear hb;go_loopw [14] (fun ii wr=>∃(i:Nat),ii=.int .i64 i/\i<=L/\Hid (MapG kLast wr b i (zbc ws i))/\Fr [] w wr) (fun ii _=>L-(RowKit.intOf ii).toNat)
 case atStart=>exact⟨0,rfl,Nat.zero_le _,hM0,hF0⟩
 obtain⟨i,rfl,hiL,HM,hFr⟩:=hrel;by_cases hi:i<L
 .have hi':i<ws.length:=by rw[<-HL.out];exact hi
  obtain⟨bb,off,rfl,_,hc⟩:=(HI.out _ hFr).lies (by omega);obtain⟨d0,d1,d2⟩:=hc i hi';have hkz:=HKs.out _ (zcj ws i hi');have HKa:Hid (kAt ws i=(ws.getD i Wt.zero).key):=rfl;obtain⟨y,hyy⟩:∃y,y=ws.getD i Wt.zero:=⟨_,rfl⟩;rw[<-hyy]at d0 d1 d2 hkz HKa
  clear hyy hc;obtain⟨key,val,drop⟩:=y;simp only at d0 d1 d2 hkz HKa;obtain⟨w3,HW3⟩:∃w3,Hid (wr.alloc (.cells #[.string key,.string val,.bool drop] 91)=w3):=⟨_,rfl⟩;obtain⟨B9,HB9⟩:∃B9,Hid (B9=wr.heap.size):=⟨_,rfl⟩;have hF3:Fr [] wr w3:=by rw[<-HW3.out];exact Fr.alloc [] wr _
  have hby:w3.heap[B9]? = some (.cells #[.string key,.string val,.bool drop] 91 (0,0)):=by rw[<-HW3.out,HB9.out];exact heap_alloc_new wr _
  have e0:w3.cell? ⟨B9,0,none⟩=some (.string key):=by rw[crw hby];rfl
  have hG3:Fr [] w w3:=hFr.then hF3;have hM3:=HM.out.keep hF3 (by simp);obtain⟨w4,hst,hM4,hF4⟩:=hM3.store key (i:Int) (by show key.size<=maxLen;unfold maxLen;omega) (by unfold maxLen;omega);have HM4:Hid (MapG kLast w4 b (i+1) (zbc ws (i+1))):=by
   show MapG _ _ _ _ _;rw[zuz,HKa.out];exact hM4
  have hG4:Fr [] w w4:=hG3.on hF4 (by intro x hx;simp at hx;omega)
  change (Instr.mapUpdate 280 (.map (some b)) (.string key) (.int .i64 (i:Int))).run prog w3=.ok () w4 at hst
  clear hM3 hM4 hF4 HM hF3 hG3 hby;go_upto_region 5 with fail
  rw[HW3.out,<-HB9.out];clear HW3 HB9 d0 d1 d2;go_wp2_with fail
  go_roundw;case rel=>exact⟨i+1,by simp,by omega,HM4,hG4⟩
  case measure=>simp[RowKit.intOf];omega
 obtain rfl:i=L:=by omega
 clear hi hiL;have HM1:Hid (MapG kLast wr b i (zbc ws ws.length)):=by rw[<-HL.out];exact HM
 have HF1:Hid (Fr [] w wr):=hFr;have hblt:=HM1.out.lt;clear HM hFr;go_wp2_with fail
 obtain⟨w1,HW1⟩:∃w1,Hid (wr=w1):=⟨_,rfl⟩;rw[HW1.out]at HM1 HF1 hblt ⊢
 clear HW1;go_loopw [6,26] (fun ll ii wr=>∃(ro:Option Addr)(N rc k:Nat),ll=.slice ro N rc/\ii=.int .i64 k/\k<=i/\N<=k/\Hid (WOw w1 wr ro N rc (ddTo ws k))/\Hid (Fr [] w1 wr)) (fun _ ii _=>i-(RowKit.intOf ii).toNat)
 case atStart=>exact⟨none,0,0,0,rfl,rfl,Nat.zero_le _,Nat.le_refl _,WOw.none14 _ _,Fr.refl _ _⟩
 obtain⟨ro,N,rc,k,rfl,rfl,hk,hN,HO,HF⟩:=hrel;by_cases hki:k<i
 .have hk':k<ws.length:=by rw[<-HL.out];exact hki
  obtain⟨bb,off,rfl,_,hc⟩:=(HI.out _ (HF1.out.then HF.out)).lies (by omega);obtain⟨d0,d1,d2⟩:=hc k hk';have hkz:=HKs.out _ (zcj ws k hk');have HKa:Hid (kAt ws k=(ws.getD k Wt.zero).key):=rfl;have HKt:=zsk ws k hk';have HKy:Hid (Kept ws k->ddTo ws (k+1)=ddTo ws k++[ws.getD k Wt.zero]):=fun h=>zfe h;have HKn:Hid (¬Kept ws k->ddTo ws (k+1)=ddTo ws k):=fun h=>zgq h;obtain⟨y,hyy⟩:∃y,y=ws.getD k Wt.zero:=⟨_,rfl⟩;rw[<-hyy]at d0 d1 d2 hkz HKa HKy
  clear hyy hc;obtain⟨key,val,drop⟩:=y;simp only at d0 d1 d2 hkz HKa;rw[HKa.out]at HKt
  obtain⟨J,hJ⟩:∃J:Int,J=(zbc ws ws.length key).getD 0:=⟨_,rfl⟩;rw[<-hJ]at HKt
  obtain⟨w3,HW3⟩:∃w3,Hid (wr.alloc (.cells #[.string key,.string val,.bool drop] 91)=w3):=⟨_,rfl⟩;obtain⟨B9,HB9⟩:∃B9,Hid (B9=wr.heap.size):=⟨_,rfl⟩;have hF3:Fr [] wr w3:=by rw[<-HW3.out];exact Fr.alloc [] wr _
  have hby:w3.heap[B9]? = some (.cells #[.string key,.string val,.bool drop] 91 (0,0)):=by rw[<-HW3.out,HB9.out];exact heap_alloc_new wr _
  have e0:w3.cell? ⟨B9,0,none⟩=some (.string key):=by rw[crw hby];rfl
  have e1:w3.cell? ⟨B9,1,none⟩=some (.string val):=by rw[crw hby];rfl
  have e2:w3.cell? ⟨B9,2,none⟩=some (.bool drop):=by rw[crw hby];rfl
  have hG3:Fr [] w1 w3:=HF.out.then hF3;have hlk:=(HM1.out.keep hG3 (by simp)).look key (by show key.size<=maxLen;unfold maxLen;omega)
  change (Instr.lookup 280 (.map (some b)) (.string key) false).run prog w3=.ok (.int .i64 ((zbc ws ws.length key).getD 0)) w3 at hlk
  rw[<-hJ]at hlk
  have HO3:Hid (WOw w1 w3 ro N rc (ddTo ws k)):=HO.out.keepS hF3 (by simp);have HG3:Hid (Fr [] w1 w3):=hG3;clear hJ HO hF3 hG3 hby HF;by_cases hJk:J=(k:Int)
  .have heq:(J==(k:Int))=true:=by simp[hJk]
   have HY:Hid (ddTo ws (k+1)=ddTo ws k++[⟨key,val,drop⟩]):=HKy.out (HKt.1 hJk);clear HKt HKy HKn hJk;go_upto_region 11 with fail
   rw[HW3.out,<-HB9.out];clear HW3 HB9 d0 d1 d2;have HSz:Hid (w1.heap.size<=w3.heap.size):=HG3.out.size;have hN1:N<1000000:=by omega
   go_wp2_with (first
    |(
     at_builtin;refine zsl w1 _ rfl _ _ rfl ro N rc (ddTo ws k) rfl HO3.out hN1 HSz.out ⟨key,val,drop⟩ rfl ?_
     intro so' c' w5 hO5 hF5;have HO5:Hid (WOw w1 w5 so' (N+1) c' (ddTo ws (k+1))):=by rw[HY.out];exact hO5
     have HF5:Hid (Fr [] w1 w5):=HG3.out.on hF5 (fun x hx=>(zld HO3.out.row (Option.mem_toList.1 hx)).1);clear hO5 hF5;go_frame)
    |fail)
   go_roundw;case rel=>exact⟨_,N+1,_,k+1,rfl,by simp,by omega,by omega,HO5,HF5⟩
   case measure=>simp[RowKit.intOf];omega
  have heq:(J==(k:Int))=false:=by simp[hJk]
  have HY:Hid (ddTo ws (k+1)=ddTo ws k):=HKn.out (fun h=>hJk (HKt.2 h));have HO5:Hid (WOw w1 w3 ro N rc (ddTo ws (k+1))):=by rw[HY.out];exact HO3
  clear HKt HKy HKn hJk HO3;go_upto_region 11 with fail
  rw[HW3.out,<-HB9.out];clear HW3 HB9 d0 d1 d2;go_wp2_with fail
  go_roundw;case rel=>exact⟨_,N,_,k+1,rfl,by simp,by omega,by omega,HO5,HG3⟩
  case measure=>simp[RowKit.intOf];omega
 obtain rfl:k=i:=by omega
 clear hki hk;have HO1:Hid (WOw w wr ro N rc (dd ws)):=by
  show WOw _ _ _ _ _ _;unfold dd;rw[<-HL.out];exact HO.out.later HF1.out.size
 have HF2:Hid (Fr [] w wr):=HF1.out.then HF.out;clear HO HF;go_wp2_with fail
 go_ret;exact⟨ro,N,rc,rfl,HO1.out,HF2.out⟩
theorem zmv:prog.underlying 241=some (.map 9 242):=by kernel_rfl
theorem zrs:prog.underlying 9=some .string:=by kernel_rfl
def SetN(w:World)(b n:Nat)(ks:List ByteArray):Prop:=
 ∃D:DataW Unit,w.ownsMap prog 9 zgm b n D/\(∀x:ByteArray,x.size<=maxLen->(has D (.string x.data.toList)=true↔x∈ks))/\Maps.size D=ks.length
theorem SetN.lt{w:World}{b n:Nat}{ks:List ByteArray}(h:SetN w b n ks):b<w.heap.size:=by
 obtain⟨D,hD,_⟩:=h;exact hD.lt
theorem SetN.keep{S:List Nat}{w w':World}{b n:Nat}{ks:List ByteArray}(h:SetN w b n ks)(hf:Fr S w w')(hn:b∉S):SetN w' b n ks:=by
 have hlt:=h.lt;obtain⟨D,⟨es,clock,hb,hr⟩,h2⟩:=h;exact⟨D,⟨es,clock,(hf.block b hlt hn).trans hb,hr⟩,h2⟩
theorem SetN.made(w:World):SetN (w.alloc (.map #[] 0)) w.heap.size 0 []:=
 ⟨.map [],World.ownsMap_made w _ _ _,fun s _=>by simp[has],rfl⟩
theorem SetN.len{w:World}{b n:Nat}{ks:List ByteArray}(h:SetN w b n ks)(ty:TypeId):(Builtin.len_ #[241] ty #[.map (some b)]).run prog w=.ok (.int .i64 (ks.length:Int)) w:=by
 obtain⟨D,hD,_,h3⟩:=h;rw[hD.len zmv,h3]
open Classical in
theorem SetN.store{w:World}{b n:Nat}{ks:List ByteArray}(h:SetN w b n ks)(x:ByteArray)(hx:x.size<=maxLen)(hn:n<maxLen) :
  ∃w',(Instr.mapUpdate 241 (.map (some b)) (.string x) (.agg #[])).run prog w=.ok () w'/\SetN w' b (n+1) (if x∈ks then ks else ks++[x])/\Fr [b] w w':=by
 obtain⟨D,hD,hA,hS⟩:=h;have K:=string_keyed (P:=prog) zrs;have hI:=hD.isMap;have hk:=Go.WideMaps.keyOf_string_mk (P:=prog) zrs hx;obtain⟨w',hrun,hO,hg⟩:=hD.update K zmv hn hk (val:=.agg #[]) (d:=.agg []) (ps:=[]) rfl;refine⟨w',hrun,⟨_,hO,fun y hy=> ?_,?_⟩,Fr.grown hg (by intro k hk _;cases hk;simp)⟩
 .by_cases he:y=x
  .subst he;rw[has_put_same hI (K.key hk)];split<;>simp_all
  have hne:Lit.string y.data.toList≠Lit.string x.data.toList:=fun e=>he (by
   have:y.data.toList=x.data.toList:=by simpa using e
   have h2:y.data=x.data:=Array.toList_inj.1 this;cases y;cases x;simp_all)
  rw[has_put_other hne,hA y hy];split
  .exact Iff.rfl
  simp[he]
 rw[size_put (hD.tidy K)];by_cases hm:x∈ks
 .rw[if_pos ((hA x hx).2 hm),if_pos hm,hS]
 rw[if_neg (fun h=>hm ((hA x hx).1 h)),if_neg hm,hS,List.length_append];rfl
theorem zte(w:World):(Instr.makeMap 241 Option.none).run prog w=.ok (.map (some w.heap.size)) (w.alloc (.map #[] 0)):=by
 simp[Instr.makeMap,run_underlying zmv]
open Classical in
theorem zzp(ws:List Wt)(i:Nat):fl22 ws (i+1)=if kAt ws i∈fl22 ws i then fl22 ws i else fl22 ws i++[kAt ws i]:=by simp only[fl22]
theorem zon(ao:Option Addr)(L cap:Nat)(ws:List Wt)(w:World)(hW:WRs w ao ws)(hL:L=ws.length)(hLb:L<=32)(hks:∀x∈ws,x.key.size<=64) :
  Calls prog 121 #[.slice ao L cap] w fun e w'=>e=.returned (.int .i64 ((dd ws).length:Int))/\Fr [] w w':=by
 have HL:Hid (L=ws.length):=hL;have HKs:Hid (∀x∈ws,x.key.size<=64):=hks;have hmm:=fun w=>zte w;have HI:Hid (∀W,Fr [] w W->WRs W ao ws):=fun W hf=>hW.keep hf;have hM0:SetN (w.alloc (.map #[] 0)) w.heap.size 0 (fl22 ws 0):=SetN.made w;have hF0:Fr [] w (w.alloc (.map #[] 0)):=Fr.alloc [] w _;clear hL hW hks;go_enter func121,ntmps121;go_wp2_with fail
 obtain⟨b,hb⟩:∃b,b=w.heap.size:=⟨_,rfl⟩;rw[<-hb]at hM0 ⊢
 have hbw:w.heap.size<=b:=by omega
 clear hb;go_loopw [9] (fun ii wr=>∃(i:Nat),ii=.int .i64 i/\i<=L/\Hid (SetN wr b i (fl22 ws i))/\Fr [] w wr) (fun ii _=>L-(RowKit.intOf ii).toNat)
 case atStart=>exact⟨0,rfl,Nat.zero_le _,hM0,hF0⟩
 obtain⟨i,rfl,hiL,HM,hFr⟩:=hrel;by_cases hi:i<L
 .have hi':i<ws.length:=by rw[<-HL.out];exact hi
  obtain⟨bb,off,rfl,_,hc⟩:=(HI.out _ hFr).lies (by omega);obtain⟨d0,d1,d2⟩:=hc i hi';have hkz:=HKs.out _ (zcj ws i hi');have HKa:Hid (kAt ws i=(ws.getD i Wt.zero).key):=rfl;obtain⟨y,hyy⟩:∃y,y=ws.getD i Wt.zero:=⟨_,rfl⟩;rw[<-hyy]at d0 d1 d2 hkz HKa
  clear hyy hc;obtain⟨key,val,drop⟩:=y;simp only at d0 d1 d2 hkz HKa;obtain⟨w3,HW3⟩:∃w3,Hid (wr.alloc (.cells #[.string key,.string val,.bool drop] 91)=w3):=⟨_,rfl⟩;obtain⟨B9,HB9⟩:∃B9,Hid (B9=wr.heap.size):=⟨_,rfl⟩;have hF3:Fr [] wr w3:=by rw[<-HW3.out];exact Fr.alloc [] wr _
  have hby:w3.heap[B9]? = some (.cells #[.string key,.string val,.bool drop] 91 (0,0)):=by rw[<-HW3.out,HB9.out];exact heap_alloc_new wr _
  have e0:w3.cell? ⟨B9,0,none⟩=some (.string key):=by rw[crw hby];rfl
  have hG3:Fr [] w w3:=hFr.then hF3;have hM3:=HM.out.keep hF3 (by simp);obtain⟨w4,hst,hM4,hF4⟩:=hM3.store key (by unfold maxLen;omega) (by unfold maxLen;omega);have HM4:Hid (SetN w4 b (i+1) (fl22 ws (i+1))):=by
   show SetN _ _ _ _;rw[zzp,HKa.out];exact hM4
  have hG4:Fr [] w w4:=hG3.on hF4 (by intro x hx;simp at hx;omega);clear hM3 hM4 hF4 HM hF3 hG3 hby;go_upto_region 5 with fail
  rw[HW3.out,<-HB9.out];clear HW3 HB9 d0 d1 d2;go_wp2_with fail
  go_roundw;case rel=>exact⟨i+1,by simp,by omega,HM4,hG4⟩
  case measure=>simp[RowKit.intOf];omega
 obtain rfl:i=L:=by omega
 clear hi hiL;have hlen:=fun ty=>HM.out.len ty;have HE:Hid ((fl22 ws i).length=(dd ws).length):=by
  show _=_;rw[HL.out];exact zafd ws
 rw[HE.out]at hlen
 have HF1:Hid (Fr [] w wr):=hFr;clear hFr;go_wp2_with fail
 go_ret;exact⟨rfl,HF1.out⟩
def sumI:List Int->Int
 | []=>0
 |x::r=>x+sumI r
theorem zkt:∀(a b:List Int),sumI (a++b)=sumI a+sumI b
 | [],b=>by simp[sumI]
 |x::r,b=>by simp[sumI,zkt r b];omega
theorem zzq(a:List Int)(x:Int):sumI (a++[x])=sumI a+x:=by rw[zkt];simp[sumI]
theorem zlx{M:Nat}:∀(a:List Int),(∀x∈a,0<=x/\x<=(M:Int))->0<=sumI a/\sumI a<=(a.length*M:Nat)
 | [],_=>by simp[sumI]
 |x::r,h=>by
  obtain⟨h1,h2⟩:=zlx r fun y hy=>h y (List.mem_cons_of_mem _ hy);have h3:=h x List.mem_cons_self;simp only[sumI,List.length_cons,Nat.add_mul,Nat.one_mul];omega
theorem zacs(xs:List Int)(i:Nat)(h:i<xs.length):xs.getD i 0∈xs:=by
 simp[List.getD,h]
theorem zly(ao:Option Addr)(L cap:Nat)(xs:List Int)(w:World)(hI:IRs w ao xs)(hL:L=xs.length)(hb:∀x∈xs,0<=x/\x<=((1048576:Nat):Int))(hLb:L<=4194304) :
  Calls prog 100 #[.slice ao L cap] w fun e w'=>e=.returned (.int .i64 (sumI xs))/\Fr [] w w':=by
 have HL:Hid (L=xs.length):=hL;have HI:Hid (∀W,Fr [] w W->IRs W ao xs):=fun W hf=>hI.keep hf;have HB:Hid (∀i,i<L->(0<=xs.getD i 0/\xs.getD i 0<=1048576)/\sumI (xs.take (i+1))=sumI (xs.take i)+xs.getD i 0/\0<=sumI (xs.take i)/\sumI (xs.take i)<=4398046511104):=fun i hi=>by
  refine⟨by have:=hb _ (zacs xs i (by omega));omega,by rw[zeu xs i (by omega),zzq],?_⟩;have h2:=zlx (M:=1048576) (xs.take i) (fun x hx=>hb x (List.mem_of_mem_take hx));have h3:(xs.take i).length<=4194304:=by rw[List.length_take];omega
  have h4:(xs.take i).length*1048576<=4194304*1048576:=Nat.mul_le_mul_right _ h3;omega
 clear hI hb hL;go_enter func100,ntmps100;go_wp2_with fail
 go_loopw [3,8] (fun ss ii wr=>∃(i:Nat),ss=.int .i64 (sumI (xs.take i))/\ii=.int .i64 i/\i<=L/\Fr [] w wr) (fun _ ii _=>L-(RowKit.intOf ii).toNat)
 case atStart=>exact⟨0,rfl,rfl,Nat.zero_le _,Fr.refl _ _⟩
 obtain⟨i,rfl,rfl,hiL,hF⟩:=hrel;by_cases hi:i<L
 .obtain⟨bb,off,rfl,_,hc⟩:=(HI.out _ hF).lies (by rw[<-HL.out];omega);have d0:=hc i (by rw[<-HL.out];exact hi);obtain⟨⟨x0,x1⟩,HE,s0,s1⟩:=HB.out i hi;have HE':Hid (_=_):=HE;clear HE;generalize xs.getD i 0=x at d0 x0 x1 HE';generalize hS:sumI (xs.take i)=S at s0 s1 HE' ⊢;clear hc hS;go_wp2_with fail
  go_roundw;case rel=>exact⟨i+1,by rw[HE'.out],by simp,by omega,hF⟩
  case measure=>simp[RowKit.intOf];omega
 obtain rfl:i=L:=by omega
 have HE:Hid (sumI (xs.take i)=sumI xs):=by
  show _=_;rw[HL.out,List.take_length]
 rw[HE.out];clear HE hi hiL;go_wp2_with fail
 go_ret;exact⟨rfl,hF⟩
noncomputable def tnC (ws:List Wt) (sk:Bool):Nat:=if sk then 2 else 5+2*(dd ws).length
theorem zajg{ws:List Wt}(h:ws.length<=32)(sk:Bool):tnC ws sk<=69:=by
 have:=zlb ws;unfold tnC;split<;>omega
theorem zwh(n:Int)(ao:Option Addr)(L cap:Nat)(ws:List Wt)(sk:Bool)(w:World)(hT:TArg w n ao L cap ws)(hok:okT n ws) :
  Calls prog 99 #[.agg #[.int .i64 n,.slice ao L cap],.bool sk] w fun e w'=>e=.returned (.int .i64 (tnC ws sk:Int))/\Fr [] w w':=by
 have HQ:Hid (∀W,Fr [] w W->Calls prog 121 #[.slice ao L cap] W fun e w'=>e=.returned (.int .i64 ((dd ws).length:Int))/\Fr [] W w'):=fun W hf=>zon ao L cap ws W (hT.rs.keep hf) hT.len (by have:=hok.2.2.1;have:=hT.len;omega) (fun y hy=>(hok.2.2.2 y hy).2.1);have hdl:(dd ws).length<=32:=by have:=hok.2.2.1;have:=zlb ws;omega
 have hF0:Fr [] w (w.alloc (.cells #[.int .i64 n,.slice ao L cap] 108)):=Fr.alloc _ _ _;have hrow0:=heap_alloc_new w (.cells #[.int .i64 n,.slice ao L cap] 108);obtain⟨w1,HW1⟩:∃w1,Hid (w.alloc (.cells #[.int .i64 n,.slice ao L cap] 108)=w1):=⟨_,rfl⟩;obtain⟨B,HB⟩:∃B,Hid (w.heap.size=B):=⟨_,rfl⟩;rw[HW1.out]at hF0 hrow0
 rw[HB.out]at hrow0
 have b1:w1.cell? ⟨B,1,none⟩=some (.slice ao L cap):=by rw[crw hrow0];rfl
 have HF0:Hid (Fr [] w w1):=hF0;have HE:Hid (tnC ws true=2/\tnC ws false=5+2*(dd ws).length):=⟨rfl,rfl⟩;generalize (dd ws).length=D at HQ hdl HE;clear hT hok hF0 hrow0;cases sk with
 |true=>
  go_enter func99,ntmps99;go_upto_region 1 with fail
  rw[HW1.out,HB.out];go_wp2_with fail
  go_ret;exact⟨by rw[HE.out.1];rfl,HF0.out⟩
 |false=>
  go_enter func99,ntmps99;go_upto_region 1 with fail
  rw[HW1.out,HB.out];go_wp2_with fail
  refine (HQ.out _ HF0.out).mono ?_;rintro e w2⟨rfl,hF2⟩;have HF2:Hid (Fr [] w w2):=HF0.out.then hF2;have HT:Hid (∀W,Fr [] (w2.alloc (.cells #[.int .i64 5,.int .i64 (2*(D:Int))] 3)) W->Calls prog 100 #[.slice (some ⟨w2.heap.size,0,none⟩) 2 2] W fun e w'=>e=.returned (.int .i64 (5+2*(D:Int)))/\Fr [] W w'):=fun W hf=>by
   have hr:=hf.keep (heap_alloc_new w2 (.cells #[.int .i64 5,.int .i64 (2*(D:Int))] 3)) (by simp);refine (zly (some ⟨w2.heap.size,0,none⟩) 2 2 [5,2*(D:Int)] W ⟨fun _=>⟨_,0,rfl,lt_of_block hr,fun i hi=> ?_⟩,by simp⟩ rfl ?_ (by omega)).mono ?_
   .have:i=0\/i=1:=by simp at hi;omega
    rcases this with rfl|rfl<;>(rw[crw hr];rfl)
   .intro x hx;simp at hx;rcases hx with rfl|rfl<;>omega
   rintro e w3⟨rfl,h3⟩;exact⟨by simp[sumI],h3⟩
  go_wp2_with fail
  refine (HT.out _ (Fr.refl _ _)).mono ?_;rintro e w3⟨rfl,hF3⟩;go_wp2_with fail
  go_ret;exact⟨by rw[HE.out.2];simp,(HF2.out.then (Fr.alloc _ _ _)).then hF3⟩
def Rise(p N:Int):List Int->Prop
 | []=>True
 |x::r=>p<x/\x<=N/\Rise x N r
theorem zwi(xs:List Int)(i:Nat)(h:i<xs.length):xs.drop i=xs.getD i 0::xs.drop (i+1):=by
 rw[List.drop_eq_getElem_cons h];simp[List.getD,h]
theorem zagv(xs:List Tm)(i:Nat)(h:i<xs.length):xs.drop i=xs.getD i Tm.zero::xs.drop (i+1):=by
 rw[List.drop_eq_getElem_cons h];simp[List.getD,h]
def hits(n:Int):List Int->Bool
 | []=>false
 |b::_=>b==n
def nxt(n:Int)(bs:List Int):List Int:=if hits n bs then bs.tail else bs
noncomputable def stL:List Tm->List Int->List Int
 | [],_=>[]
 |t::r,bs=>((tnC t.ws (hits t.n bs):Nat):Int)::stL r (nxt t.n bs)
theorem zzr:∀(ts:List Tm)(bs:List Int),(∀t∈ts,okT t.n t.ws)->∀x∈stL ts bs,0<=x/\x<=((1048576:Nat):Int)
 | [],_,_,x,hx=>by cases hx
 |t::r,bs,h,x,hx=>by
  rcases List.mem_cons.1 hx with rfl|hx
  .have:=zajg (h t List.mem_cons_self).2.2.1 (hits t.n bs);omega
  exact zzr r _ (fun u hu=>h u (List.mem_cons_of_mem _ hu)) x hx
def LgOk(ts:List Tm)(m:Int)(bs:List Int):Prop:=okL 1 (txs ts)/\0<=m/\m<=(ts.length:Int)/\Rise (m+1) (ts.length:Int) bs
theorem zrt:∀{l:List Tx}{k:Nat},okL k l->∀t∈l,t.ok
 | [],_,_,t,ht=>by cases ht
 |x::r,k,h,t,ht=>by
  rcases List.mem_cons.1 ht with rfl|ht
  .exact h.1
  exact zrt h.2.2 t ht
theorem zajh{ts:List Tm}(h:okL 1 (txs ts)):(∀t∈ts,okT t.n t.ws)/\ts.length<=65536:=by
 refine⟨fun t ht=>zrt h t.tx (List.mem_map.2 ⟨t,ht,rfl⟩),?_⟩;have:=zdb h;rw[zah]at this
 exact this
theorem TRs.drop22{w:World}{ao so:Option Addr}{ts:List Tm}(h:TRs w ao ts)(K:Nat)(hso:K<ts.length->∀b off,ao=some ⟨b,off,none⟩->so=some ⟨b,off+K*2,none⟩):TRs w so (ts.drop K):=by
 refine⟨fun h0=> ?_,by have:=h.few;rw[List.length_drop];omega,fun t ht=>h.each t (List.mem_of_mem_drop ht)⟩;rw[List.length_drop]at h0
 obtain⟨b,off,e,hb,hc⟩:=h.lies (by omega);refine⟨b,off+K*2,hso (by omega) b off e,hb,fun i hi=> ?_⟩;rw[List.length_drop]at hi
 have e2:(ts.drop K).getD i Tm.zero=ts.getD (K+i) Tm.zero:=by simp[List.getD]
 rw[e2,show off+K*2+i*2=off+(K+i)*2 from by omega];exact hc _ (by omega)
theorem IRs.drop22{w:World}{ao so:Option Addr}{x:Int}{xs:List Int}(h:IRs w ao (x::xs))(hso:0<xs.length->∀b off,ao=some ⟨b,off,none⟩->so=some ⟨b,off+1,none⟩):IRs w so xs:=by
 refine⟨fun h0=> ?_,by have:=h.few;simp at this;omega⟩;obtain⟨b,off,e,hb,hc⟩:=h.lies (by simp);refine⟨b,off+1,hso h0 b off e,hb,fun i hi=> ?_⟩;have:=hc (i+1) (by simp;omega);rw[show off+1+i=off+(i+1) from by omega,this];simp[List.getD]
theorem IRs.cell22{w:World}{ao:Option Addr}{x:Int}{xs:List Int}(h:IRs w ao (x::xs)):∃b off,ao=some ⟨b,off,none⟩/\w.cell? ⟨b,off,none⟩=some (.int .i64 x):=by
 obtain⟨b,off,e,hb,hc⟩:=h.lies (by simp);exact⟨b,off,e,by simpa using hc 0 (by simp)⟩
theorem IOw.irs22{base:Nat}{w:World}{o:Option Addr}{n c:Nat}{xs:List Int}(h:IOw base w o n c xs)(hn:n<=17592186044416):IRs w o xs:=by
 refine⟨fun h0=> ?_,by rw[<-h.len];exact hn⟩;obtain⟨g,e,_,hg,hc⟩:=h.cells (by rw[h.len];exact h0);exact⟨g,0,e,hg,fun i hi=>by simpa using hc i (by rw[h.len];exact hi)⟩
theorem zui:prog.underlying 24=some (.slice (prog.elem 24)):=by kernel_rfl
theorem zact:prog.elem 24=108:=by kernel_rfl
theorem zagw(w:World):(sizeOf 108).run prog w=.ok 2 w:=by kernel_rfl
theorem zuj:prog.underlying 25=some (.slice (prog.elem 25)):=by kernel_rfl
theorem zacu:prog.elem 25=3:=by kernel_rfl
theorem zagx(w:World):(sizeOf 3).run prog w=.ok 1 w:=by kernel_rfl
theorem zwj(ao:Option Addr)(L cap K:Nat)(h1:K<=L)(h2:L<=cap) :
  ∃so,(∀w,(Instr.slice 24 (.slice ao L cap) (some (.int .i64 (K:Int))) Option.none Option.none).run prog w=.ok (.slice so (L-K) (cap-K)) w)/\(∀w,(Instr.sliceAt 24 (.slice ao L cap) (some (.int .i64 (K:Int))) Option.none Option.none).run prog w=.ok (.slice so (L-K) (cap-K)) w)/\(K<L->∀b off,ao=some ⟨b,off,none⟩->so=some ⟨b,off+K*2,none⟩):=by
 have key:∀w,(Instr.slice 24 (.slice ao L cap) (some (.int .i64 (K:Int))) Option.none Option.none).run prog w=.ok (.slice (if cap=K then ao else ao.map (·.add (K*2))) (L-K) (cap-K)) w:=fun w=>by
  rw[run_slice_l w 24 _ _ _ zui .i64 (K:Int) (by omega) (by omega),zact,zagw];simp[Result.andThen,sliced]
 refine⟨_,key,fun w=>by rw[run_sliceAt_slice w 24 _ _ _ _ zui];exact key w,fun h b off e=> ?_⟩;rw[if_neg (by omega),e];simp[Addr.add]
theorem zwk(ao:Option Addr)(L cap:Nat)(h1:1<=L)(h2:L<=cap) :
  ∃so,(∀w,(Instr.slice 25 (.slice ao L cap) (some (.int .i64 1)) Option.none Option.none).run prog w=.ok (.slice so (L-1) (cap-1)) w)/\(∀w,(Instr.sliceAt 25 (.slice ao L cap) (some (.int .i64 1)) Option.none Option.none).run prog w=.ok (.slice so (L-1) (cap-1)) w)/\(1<L->∀b off,ao=some ⟨b,off,none⟩->so=some ⟨b,off+1,none⟩):=by
 have key:∀w,(Instr.slice 25 (.slice ao L cap) (some (.int .i64 1)) Option.none Option.none).run prog w=.ok (.slice (if cap=1 then ao else ao.map (·.add 1)) (L-1) (cap-1)) w:=fun w=>by
  rw[run_slice_l w 25 _ _ _ zuj .i64 1 (by omega) (by omega),zacu,zagx];simp[Result.andThen,sliced]
 refine⟨_,key,fun w=>by rw[run_sliceAt_slice w 25 _ _ _ _ zuj];exact key w,fun h b off e=> ?_⟩;rw[if_neg (by omega),e];simp[Addr.add]
def zaji(e:Ending)(P:Prop):Prop:=∃B:Bool,e=.returned (.bool B)/\(B=true↔P)
theorem zzs(bo:Option Addr)(Lb cb:Nat)(bs:List Int)(m N:Int)(w:World)(hI:IRs w bo bs)(hL:Lb=bs.length)(hm:0<=m/\m<=140737488355328) :
  Calls prog 98 #[.slice bo Lb cb,.int .i64 m,.int .i64 N] w fun e w'=>zaji e (Rise (m+1) N bs)/\Fr [] w w':=by
 have HL:Hid (Lb=bs.length):=hL;have HI:Hid (∀W,Fr [] w W->IRs W bo bs):=fun W hf=>hI.keep hf;have hfew:=hI.few;rw[<-hL]at hfew
 have HR0:Hid (Rise (m+1) N bs↔Rise (m+1) N (bs.drop 0)):=by show _↔_;simp
 clear hI hL;go_enter func98,ntmps98;go_wp2_with fail
 go_loopw [7,14] (fun vv ii wr=>∃(v:Int)(i:Nat),vv=.int .i64 v/\ii=.int .i64 i/\i<=Lb/\Hid (Rise (m+1) N bs↔Rise v N (bs.drop i))/\Fr [] w wr) (fun _ ii _=>Lb-(RowKit.intOf ii).toNat)
 case atStart=>exact⟨m+1,0,rfl,rfl,Nat.zero_le _,HR0,Fr.refl _ _⟩
 obtain⟨v,i,rfl,rfl,hiL,HR,hF⟩:=hrel;by_cases hi:i<Lb
 .obtain⟨bb,off,rfl,_,hc⟩:=(HI.out _ hF).lies (by rw[<-HL.out];omega);have d0:=hc i (by rw[<-HL.out];exact hi);have HD:Hid (bs.drop i=bs.getD i 0::bs.drop (i+1)):=zwi bs i (by rw[<-HL.out];exact hi);generalize bs.getD i 0=x at d0 HD;have HR2:Hid (Rise (m+1) N bs↔v<x/\x<=N/\Rise x N (bs.drop (i+1))):=by
   show _↔_;rw[HR.out,HD.out];exact Iff.rfl
  clear hc HR HD HR0;by_cases h1:x<=v
  .have e1:decide (x<=v)=true:=by simp[h1]
   have HN:Hid (¬Rise (m+1) N bs):=fun h=>by have:=(HR2.out.1 h).1;omega
   clear HR2;go_wp2_with fail
   go_ret;exact⟨⟨false,rfl,⟨fun h=>(by cases h),fun h=>absurd h HN.out⟩⟩,hF⟩
  have e1:decide (x<=v)=false:=by simp[h1]
  by_cases h2:N<x
  .have e2:decide (N<x)=true:=by simp[h2]
   have HN:Hid (¬Rise (m+1) N bs):=fun h=>by have:=(HR2.out.1 h).2.1;omega
   clear HR2;go_wp2_with fail
   go_ret;exact⟨⟨false,rfl,⟨fun h=>(by cases h),fun h=>absurd h HN.out⟩⟩,hF⟩
  have e2:decide (N<x)=false:=by simp[h2]
  have HR3:Hid (Rise (m+1) N bs↔Rise x N (bs.drop (i+1))):=by
   show _↔_;rw[HR2.out];exact⟨fun h=>h.2.2,fun h=>⟨by omega,by omega,h⟩⟩
  clear HR2;go_wp2_with fail
  go_roundw;case rel=>exact⟨x,i+1,rfl,by simp,by omega,HR3,hF⟩
  case measure=>simp[RowKit.intOf];omega
 obtain rfl:i=Lb:=by omega
 have HY:Hid (Rise (m+1) N bs):=by
  rw[HL.out,List.drop_length]at HR
  exact HR.out.2 trivial
 clear HR HR0 hi hiL;go_wp2_with fail
 go_ret;exact⟨⟨true,rfl,⟨fun _=>HY.out,fun _=>rfl⟩⟩,hF⟩
structure LgI(base:Nat)(w wr:World)(ds:List Tm)(bs:List Int)(i:Nat)(v2 v8:Value):Prop where
 ex:∃(q acc:List Int)(so:Option Addr)(n c:Nat)(eo:Option Addr)(N ec:Nat),v2=.slice so n c/\v8=.slice eo N ec/\n=q.length/\n<=c/\N=i/\Hid (∀W,Fr [] w W->IRs W so q)/\Hid (IOw base wr eo N ec acc)/\Hid (acc++stL (ds.drop i) q=stL ds bs)
 fr:Fr [] w wr
theorem zagy(ao:Option Addr)(L cap:Nat)(ts:List Tm)(M:Nat)(bo:Option Addr)(Lb cb:Nat)(bs:List Int)(w:World)(hT:TRs w ao ts)(hL:L=ts.length)(hcap:L<=cap)(hI:IRs w bo bs)(hLb:Lb=bs.length)(hcb:Lb<=cb)(hok:LgOk ts (M:Int) bs) :
  Calls prog 57 #[.slice ao L cap,.int .i64 (M:Int),.slice bo Lb cb] w fun e w'=>e=.returned (.tuple #[.int .i64 (sumI (stL (ts.drop M) bs)),.int .i64 0])/\Fr [] w w':=by
 obtain⟨ho1,_,ho2,ho3⟩:=hok;obtain⟨hok1,hfew⟩:=zajh ho1;have hML:M<=L:=by omega
 have hL6:L<=65536:=by omega
 obtain⟨cc,hcc⟩:=Bad.ex (txs ts) 1;have hc0:cc=0:=hcc.ok.2 ho1;subst hc0;have HCk:Hid (∀W,Fr [] w W->Calls prog 56 #[.slice ao L cap] W fun e w'=>e=.returned (.int .i64 0)/\Fr [] W w'):=fun W hf=>F.lcheck_any ao L cap 0 ts W (hT.keep hf) hL hcc;have HMb:Hid (∀W,Fr [] w W->Calls prog 98 #[.slice bo Lb cb,.int .i64 (M:Int),.int .i64 (L:Int)] W fun e w'=>e=.returned (.bool true)/\Fr [] W w'):=fun W hf=>(zzs bo Lb cb bs M L W (hI.keep hf) hLb (by omega)).mono (by
  rintro e w'⟨⟨B,rfl,hB⟩,h2⟩;have:B=true:=hB.2 (by rw[hL];exact ho3);subst this;exact⟨rfl,h2⟩)
 obtain⟨so,hs1,hs2,hs3⟩:=zwj ao L cap M hML hcap;have HTd:Hid (∀W,Fr [] w W->TRs W so (ts.drop M)):=fun W hf=>(hT.keep hf).drop22 M (fun h=>hs3 (by omega));have HI0:Hid (∀W,Fr [] w W->IRs W bo bs):=fun W hf=>hI.keep hf;have hDl:(ts.drop M).length=L-M:=by rw[List.length_drop];omega
 have HOk:Hid (∀t∈ts.drop M,okT t.n t.ws):=fun t ht=>hok1 t (List.mem_of_mem_drop ht);have HLb:Hid (Lb=bs.length):=hLb;generalize ts.drop M=ds at HTd hDl HOk ⊢;clear hok1 hfew ho1 ho2 ho3 hT hI hcc hs3 hL hLb;obtain⟨D,hD⟩:∃D,D=L-M:=⟨_,rfl⟩;rw[<-hD]at hDl hs1 hs2
 have HDl:Hid (ds.length=D):=hDl;have hD6:D<=65536:=by omega
 have hcM:D<=cap-M:=by omega
 generalize cap-M=cM at hs1 hs2 hcM;clear hDl hD;have n1:((0:Int) != 0)=false:=rfl;have n2:decide ((M:Int)<0)=false:=by simp
 have n3:decide ((L:Int)<(M:Int))=false:=by simp;omega
 have hn2:¬((M:Int)<0):=by omega
 have hn3:¬((L:Int)<(M:Int)):=by omega
 go_enter func57,ntmps57;go_wp2_with fail
 refine (HCk.out _ (Fr.refl _ _)).mono ?_;rintro e w1⟨rfl,hF1⟩;go_wp2_with fail
 refine (HMb.out _ hF1).mono ?_;rintro e w2⟨rfl,hF2⟩;have HF2:Hid (Fr [] w w2):=hF1.then hF2;clear HCk HMb hF1 hF2;go_wp2_with fail
 have n4:decide (L<M)=false:=by simp;omega
 simp only[n4];go_loopw [2,8,37] (fun v2 v8 ii wr=>∃(i:Nat),ii=.int .i64 i/\i<=D/\LgI w.heap.size w wr ds bs i v2 v8) (fun _ _ ii _=>D-(RowKit.intOf ii).toNat)
 case atStart=>exact⟨0,rfl,Nat.zero_le _,⟨⟨bs,[],bo,Lb,cb,none,0,0,rfl,rfl,HLb.out,hcb,rfl,HI0.out,IOw.nil _ _,by show _=_;simp⟩,HF2.out⟩⟩
 obtain⟨i,rfl,hiD,⟨⟨q,acc,qo,n,c,eo,N,ec,rfl,rfl,hn,hnc,hN,HQ,HE,HS⟩,hF⟩⟩:=hrel;subst hN;by_cases hi:N<D
 .have hi':N<ds.length:=by rw[HDl.out];exact hi
  have hT:=HTd.out _ hF;obtain⟨bb,off,rfl,_,hc⟩:=hT.lies (by omega);obtain⟨d0,d1⟩:=hc N hi';have hk:=HOk.out _ (zbw ds N hi');have hat:=(HTd.out _ (Fr.refl _ _)).each _ (zbw ds N hi');have HS1:Hid (acc++stL (ds.getD N Tm.zero::ds.drop (N+1)) q=stL ds bs):=by
   show _=_;rw[<-zagv ds N hi'];exact HS.out
  generalize ds.getD N Tm.zero=t at d0 d1 hk hat HS1;obtain⟨num,wo,wL,wc,ws⟩:=t;simp only at d0 d1 hk hat
  have HOf:Hid (∀sk W,Fr [] w W->Calls prog 99 #[.agg #[.int .i64 num,.slice wo wL wc],.bool sk] W fun e w'=>e=.returned (.int .i64 (tnC ws sk:Int))/\Fr [] W w'):=fun sk W hf=>zwh num wo wL wc ws sk W (TArg.keep hat hf) hk;have HSn:Hid (acc++((tnC ws (hits num q):Nat):Int)::stL (ds.drop (N+1)) (nxt num q)=stL ds bs):=HS1.out;clear HS HS1 hk hat hc hT;obtain⟨w3,HW3⟩:∃w3,Hid (wr.alloc (.cells #[.int .i64 num,.slice wo wL wc] 108)=w3):=⟨_,rfl⟩;obtain⟨B9,HB9⟩:∃B9,Hid (B9=wr.heap.size):=⟨_,rfl⟩;have hF3:Fr [] wr w3:=by rw[<-HW3.out];exact Fr.alloc [] wr _
  have hby:w3.heap[B9]? = some (.cells #[.int .i64 num,.slice wo wL wc] 108 (0,0)):=by rw[<-HW3.out,HB9.out];exact heap_alloc_new wr _
  have e0:w3.cell? ⟨B9,0,none⟩=some (.int .i64 num):=by rw[crw hby];rfl
  have e1:w3.cell? ⟨B9,1,none⟩=some (.slice wo wL wc):=by rw[crw hby];rfl
  have hG3:Fr [] w w3:=hF.then hF3;clear hby;go_upto_region 7 with fail
  rw[HW3.out,<-HB9.out];clear HW3 HB9 d0 d1;cases q with
  |nil=>
   obtain rfl:n=0:=hn;have HS2:Hid ((acc++[((tnC ws false:Nat):Int)])++stL (ds.drop (N+1)) []=stL ds bs):=by
    show _=_;rw[List.append_assoc];exact HSn.out
   clear HSn
   go_quiet (fail)
   go_wp2_with fail
   refine (HOf.out false _ (hG3.then (by first|exact Fr.drewN [] _ _|exact Fr.drew [] _|exact Fr.refl _ _))).mono ?_;rintro e w5⟨rfl,hF5⟩;have HW:Hid (Fr [] wr w5):=(hF3.then (by first|exact Fr.drewN [] _ _|exact Fr.drew [] _|exact Fr.refl _ _)).then hF5;have HO2:Hid (∀W,Fr [] w5 W->IOw w.heap.size W eo N ec acc):=fun W hf=>HE.out.keep (HW.out.then hf);have HB2:Hid (∀W W',Fr [] w5 W->Fr (Value.slice eo N ec).ownBlock.toList W W'->Fr [] w W'):=fun W W' h1 h2=>HE.out.on (Nat.le_refl _) hF (HW.out.then h1) h2;have hsz:w.heap.size<=w5.heap.size:=Nat.le_trans hF.size HW.out.size;clear hF5 hF3 hG3 e0 e1;go_wp2_with (first
    |(
     at_builtin;refine zcq w.heap.size _ rfl _ _ rfl eo N ec acc rfl (HO2.out _ (Fr.alloc [] _ _)) _ _ ((tnC ws false:Nat):Int) rfl ?hcell (by omega) ?hsize ?_
     case hcell=>exact zct _ _ _
     case hsize=>simp;omega
     intro o' c' w9 hO9 hF9 _;have HR9:Hid (_/\_):=⟨hO9,HB2.out _ _ (Fr.alloc [] _ _) hF9⟩;clear hO9 hF9;go_frame)
    |fail)
   go_roundw;case rel=>exact⟨N+1,by simp,by omega,⟨⟨[],acc++[((tnC ws false:Nat):Int)],qo,0,c,o',N+1,c',rfl,rfl,rfl,hnc,rfl,HQ,HR9.out.1,HS2.out⟩,HR9.out.2⟩⟩
   case measure=>simp[RowKit.intOf];omega
  |cons x q=>
   obtain⟨n,rfl⟩:∃m,n=m+1:=⟨q.length,hn⟩;obtain⟨qb,qf,rfl,g0⟩:=(HQ.out _ hG3).cell22;have hnq:n=q.length:=by simpa using hn
   have HNq:Hid (n=q.length):=hnq;clear hnq hn;by_cases hx:x=num
   .have hxe:(x==num)=true:=(by simp[hx]);have HS2:Hid ((acc++[((tnC ws true:Nat):Int)])++stL (ds.drop (N+1)) q=stL ds bs):=by
     show _=_;have h:=HSn.out;simp only[hits,nxt,hxe,if_true,List.tail_cons]at h;rw[List.append_assoc];exact h
    obtain⟨so2,hz1,hz2,hz3⟩:=zwk (some ⟨qb,qf,none⟩) (n+1) c (by omega) hnc;have HQ2:Hid (∀W,Fr [] w W->IRs W so2 q):=fun W hf=>(HQ.out W hf).drop22 (fun h=>hz3 (by rw[HNq.out];omega));rw[show n+1-1=n from by omega]at hz1 hz2
    have hnc2:n<=c-1:=(by omega);generalize c-1=c1 at hz1 hz2 hnc2;clear HSn hx hz3
    go_quiet (fail)
    go_wp2_with fail
    refine (HOf.out true _ (hG3.then (by first|exact Fr.drewN [] _ _|exact Fr.drew [] _|exact Fr.refl _ _))).mono ?_;rintro e w5⟨rfl,hF5⟩;have HW:Hid (Fr [] wr w5):=(hF3.then (by first|exact Fr.drewN [] _ _|exact Fr.drew [] _|exact Fr.refl _ _)).then hF5;have HO2:Hid (∀W,Fr [] w5 W->IOw w.heap.size W eo N ec acc):=fun W hf=>HE.out.keep (HW.out.then hf);have HB2:Hid (∀W W',Fr [] w5 W->Fr (Value.slice eo N ec).ownBlock.toList W W'->Fr [] w W'):=fun W W' h1 h2=>HE.out.on (Nat.le_refl _) hF (HW.out.then h1) h2;have hsz:w.heap.size<=w5.heap.size:=Nat.le_trans hF.size HW.out.size;clear hF5 hF3 hG3 e0 e1;go_wp2_with (first
     |(
      at_builtin;refine zcq w.heap.size _ rfl _ _ rfl eo N ec acc rfl (HO2.out _ (Fr.alloc [] _ _)) _ _ ((tnC ws true:Nat):Int) rfl ?hcell (by omega) ?hsize ?_
      case hcell=>exact zct _ _ _
      case hsize=>simp;omega
      intro o' c' w9 hO9 hF9 _;have HR9:Hid (_/\_):=⟨hO9,HB2.out _ _ (Fr.alloc [] _ _) hF9⟩;clear hO9 hF9;go_frame)
     |fail)
    go_roundw;case rel=>exact⟨N+1,by simp,by omega,⟨⟨q,acc++[((tnC ws true:Nat):Int)],so2,n,c1,o',N+1,c',rfl,rfl,HNq.out,hnc2,rfl,HQ2,HR9.out.1,HS2.out⟩,HR9.out.2⟩⟩
    case measure=>simp[RowKit.intOf];omega
   have hxe:(x==num)=false:=by simp[hx]
   have HS2:Hid ((acc++[((tnC ws false:Nat):Int)])++stL (ds.drop (N+1)) (x::q)=stL ds bs):=by
    show _=_;have h:=HSn.out;simp only[hits,nxt,hxe,Bool.false_eq_true,if_false]at h;rw[List.append_assoc];exact h
   clear HSn hx
   go_quiet (fail)
   go_wp2_with fail
   refine (HOf.out false _ (hG3.then (by first|exact Fr.drewN [] _ _|exact Fr.drew [] _|exact Fr.refl _ _))).mono ?_;rintro e w5⟨rfl,hF5⟩;have HW:Hid (Fr [] wr w5):=(hF3.then (by first|exact Fr.drewN [] _ _|exact Fr.drew [] _|exact Fr.refl _ _)).then hF5;have HO2:Hid (∀W,Fr [] w5 W->IOw w.heap.size W eo N ec acc):=fun W hf=>HE.out.keep (HW.out.then hf);have HB2:Hid (∀W W',Fr [] w5 W->Fr (Value.slice eo N ec).ownBlock.toList W W'->Fr [] w W'):=fun W W' h1 h2=>HE.out.on (Nat.le_refl _) hF (HW.out.then h1) h2;have hsz:w.heap.size<=w5.heap.size:=Nat.le_trans hF.size HW.out.size;clear hF5 hF3 hG3 e0 e1;go_wp2_with (first
    |(
     at_builtin;refine zcq w.heap.size _ rfl _ _ rfl eo N ec acc rfl (HO2.out _ (Fr.alloc [] _ _)) _ _ ((tnC ws false:Nat):Int) rfl ?hcell (by omega) ?hsize ?_
     case hcell=>exact zct _ _ _
     case hsize=>simp;omega
     intro o' c' w9 hO9 hF9 _;have HR9:Hid (_/\_):=⟨hO9,HB2.out _ _ (Fr.alloc [] _ _) hF9⟩;clear hO9 hF9;go_frame)
    |fail)
   go_roundw;case rel=>exact⟨N+1,by simp,by omega,⟨⟨x::q,acc++[((tnC ws false:Nat):Int)],(some ⟨qb,qf,none⟩),n+1,c,o',N+1,c',rfl,rfl,(by rw[HNq.out];rfl),hnc,rfl,HQ,HR9.out.1,HS2.out⟩,HR9.out.2⟩⟩
   case measure=>simp[RowKit.intOf];omega
 obtain rfl:N=D:=by omega
 have HS2:Hid (acc=stL ds bs):=by
  have h:=HS.out;rw[<-HDl.out,List.drop_length]at h
  show _=_;simpa[stL]using h
 have HT:Hid (Calls prog 100 #[.slice eo N ec] wr fun e w'=>e=.returned (.int .i64 (sumI (stL ds bs)))/\Fr [] wr w'):=by
  have h:=zly eo N ec acc wr (HE.out.irs22 (by omega)) HE.out.len (by rw[HS2.out];exact zzr ds bs HOk.out) (by omega);rw[HS2.out]at h
  exact h
 clear hi hiD HS;go_wp2_with fail
 refine HT.out.mono ?_;rintro e w4⟨rfl,hF4⟩;go_wp2_with fail
 go_ret2;exact⟨rfl,hF.then hF4⟩
end
end Go.Proofs.YtojjdnjfaelnfaaGreatDoor
