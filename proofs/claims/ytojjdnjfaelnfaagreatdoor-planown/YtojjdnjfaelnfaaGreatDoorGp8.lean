/- Contracts and lemmas. -/
import Derived.Test.YtojjdnjfaelnfaaGreatDoorGp7
import Derived.Deep.RegionHeldLaw
set_option maxHeartbeats 8000000
set_option maxRecDepth 100000
namespace Go.Proofs.YtojjdnjfaelnfaaGreatDoor
set_option linter.unusedSimpArgs false
set_option linter.unusedVariables false
section
open Go.ChangeShapes Go.WideShapes Go.ChangeAt Go.RowKit Go.Lib Go.Maps Go.Sort Go.Shelf Go.Proofs.Tryz
open Classical in
noncomputable def Dt.mid (D:Dt) (nn:Int) (ys:List Int):Dt:={D with bh:=fun m=>if m∈ys then D.bh m++[nn] else D.bh m,wt:=fun a m=>D.wt a m\/(a=nn/\m∈ys)}
open Classical in
theorem Dt.mid_nil(D:Dt)(nn:Int):D.mid nn []=D:=by
 unfold Dt.mid;cases D;simp
open Classical in
theorem Dt.mid_snoc(D:Dt)(nn m:Int)(ys:List Int)(h:m∉ys):((D.mid nn ys).wait nn m).behind m nn=D.mid nn (ys++[m]):=by
 unfold Dt.mid Dt.wait Dt.behind;simp only[Dt.mk.injEq,true_and];constructor
 .funext y
  by_cases hy:y=m
  .subst hy;simp[h]
  simp[hy]
 funext x y
 simp only[List.mem_append,List.mem_singleton,eq_iff_iff];constructor
 .rintro ((h1|h1)|h1)
  .exact Or.inl h1
  .exact Or.inr ⟨h1.1,Or.inl h1.2⟩
  exact Or.inr ⟨h1.1,Or.inr h1.2⟩
 rintro (h1|⟨h1,h2|h2⟩)
 .exact Or.inl (Or.inl h1)
 .exact Or.inl (Or.inr ⟨h1,h2⟩)
 exact Or.inr ⟨h1,h2⟩
open Classical in
noncomputable def Dt.wroteAll (D:Dt) (ks:List ByteArray) (nn:Int):Dt:={D with last:=fun k=>if k∈ks then nn else D.last k}
open Classical in
theorem Dt.wroteAll_nil(D:Dt)(nn:Int):D.wroteAll [] nn=D:=by
 unfold Dt.wroteAll;cases D;simp
open Classical in
theorem Dt.wroteAll_snoc(D:Dt)(key:ByteArray)(nn:Int)(ks:List ByteArray):(D.wroteAll ks nn).wrote key nn=D.wroteAll (ks++[key]) nn:=by
 unfold Dt.wroteAll Dt.wrote;simp only[Dt.mk.injEq,and_true]
 funext k
 by_cases hk:k=key
 .subst hk;simp
 simp[hk]
open Classical in
theorem Dt.add_is(D:Dt)(nn:Int)(ks:List ByteArray)(xs:List Int):{ (((D.mid nn xs).wroteAll ks nn).opened nn xs) with newest:=nn}=D.add nn ks xs:=rfl
theorem zuw(ws:List Wt)(i:Nat)(h:i<ws.length):zar (ws.take (i+1))=zar (ws.take i)++[(ws.getD i Wt.zero).key]:=by
 unfold zar;rw[List.take_add_one,List.map_append]
 congr 1
 simp[List.getD,h]
theorem zbm{S:List Nat}{w w':World}(hf:Fr S w w'){k o:Nat}{x:Value}(hc:w.cell? ⟨k,o,none⟩=some x)(hl:k<w.heap.size)(hn:k∉S):w'.cell? ⟨k,o,none⟩=some x:=(World.cell?_of_block (hf.block k hl hn)).trans hc
theorem zpl(ns:List Int)(i:Nat)(h:i<ns.length):ns.take (i+1)=ns.take i++[ns.getD i 0]:=by
 rw[List.take_add_one];simp[List.getD,h]
theorem zpm(xs:List Int)(h:Ris xs)(i:Nat)(hi:i<xs.length):xs.getD i 0∉xs.take i:=by
 intro hm;obtain⟨j,hj,e⟩:=List.mem_iff_getElem.1 hm;rw[List.getElem_take]at e
 have hj2:j<i:=by rw[List.length_take]at hj;omega
 have:=List.pairwise_iff_getElem.1 h j i (by omega) hi hj2;rw[e]at this
 simp[List.getD,hi]at this
theorem zxf{w:World}{tb lb ob wb:Nat}{B:List Nat}{n:Nat}{D:Dt}{E:Int->Option En}(h:TbI w tb lb ob wb B n D E)(m nn:Int)(hm:D.op m)(hmi:i64 m)(hni:i64 nn)(hn:n<1099511627776)(hb:(D.bh m).length<1099511627776) :
  ∃eg bo bn bc,bn<1099511627776/\eg∈B/\eg≠tb/\(∀k,(Value.slice bo bn bc).ownBlock=some k->k∈B) /\
   ∀W,Fr [] w W->(∃w1,(Instr.mapUpdate 282 (.map (some wb)) (.agg #[.int .i64 nn,.int .i64 m]) (.agg #[])).run prog W=.ok () w1/\(Fr [wb] W w1 /\
    (∀V,Fr [] w1 V->(Instr.lookup 281 (.map (some ob)) (.int .i64 m) false).run prog V=.ok (.pointer (some ⟨eg,0,none⟩)) V/\V.cell? ⟨eg,1,none⟩=some (.slice bo bn bc)/\V.cell? ⟨tb,2,none⟩=some (.map (some ob)) /\
     IOw 0 V bo bn bc (D.bh m) /\
     ∀V' o' c',IOw 0 V' o' (bn+1) c' (D.bh m++[nn])->Fr (Value.slice bo bn bc).ownBlock.toList V V'->(∀g,(Value.slice o' (bn+1) c').ownBlock=some g->(Value.slice bo bn bc).ownBlock=some g\/V.heap.size<=g) ->
      (V'.cell? ⟨eg,1,none⟩=some (.slice bo bn bc)/\V'.frozen? ⟨eg,1,none⟩=false) /\
      (Instr.lookup 281 (.map (some ob)) (.int .i64 m) false).run prog V'=.ok (.pointer (some ⟨eg,0,none⟩)) V'/\V'.cell? ⟨tb,2,none⟩=some (.map (some ob))/\∃B' E',TbI (V'.setCell ⟨eg,1,none⟩ (.slice o' (bn+1) c')) tb lb ob wb B' (n+1) ((D.wait nn m).behind m nn) E'/\(∀j∈B',j∈B\/w.heap.size<=j)/\Fr B w (V'.setCell ⟨eg,1,none⟩ (.slice o' (bn+1) c'))))):=by
 obtain⟨e,he⟩:∃e,E m=some e:=Option.isSome_iff_exists.1 ((h.opn m).2 hm);obtain⟨h1,h2,h3,h4,h5,h6⟩:=h.ent m e he;have hmx:1099511627776<=maxLen:=by unfold maxLen;omega
 refine⟨e.g,e.b.o,e.b.n,e.b.c,by rw[h4.len];exact hb,h2,zav h1 h.box (by decide),h6,fun W hW=> ?_⟩;obtain⟨w1,hrun,hT,hF⟩:=(h.keep hW (by simp)).storeW nn m hni hmi (by omega);refine⟨w1,hrun,hF,fun V hV=> ?_⟩;have hTV:=hT.keep hV (by simp);obtain⟨g1,g2,g3,g4,g5,g6⟩:=hTV.ent m e he;refine⟨hTV.lookE m hmi e he,by rw[crw g1];rfl,hTV.c2,g4,fun V' o' c' f1 f2 f3=> ?_⟩;obtain⟨B',k1,k2,k3,k4,k5⟩:=hTV.behind m nn e he f1 f2 f3;have hob:ob∉e.b.bl.toList:=fun hj=>by
  obtain⟨_,cur,hc⟩:=g4.blk (Option.mem_toList.1 hj);exact zai hc hTV.bO rfl
 have htb:tb∉e.b.bl.toList:=fun hj=>by
  obtain⟨_,cur,hc⟩:=g4.blk (Option.mem_toList.1 hj);exact zav hc hTV.box (by decide) rfl
 have hlk:=(hTV.mapO.keep f2 hob).look m hmi;rw[he]at hlk
 refine⟨k5,hlk,zbm f2 hTV.c2 (lt_of_block hTV.box) htb,B',_,k1,fun j hj=> ?_,?_⟩
 .rcases k2 j hj with h7|h7
  .exact Or.inl h7
  exact Or.inr (Nat.le_trans (Nat.le_trans hW.size hF.size) (Nat.le_trans hV.size h7))
 exact ((hW.trans hF (U:=B) (by simp) (fun x hx _=>by simp at hx;rw[hx];exact h.bw)).trans hV (fun x hx _=>hx) (by simp)).trans k3 (fun x hx _=>hx) (fun x hx _=>hx)
theorem zaai{tb:Nat}{B:List Nat}{n:Nat}{D:Dt}(nn:Int)(wo:Option Addr)(M mc:Nat)(ws:List Wt)(w:World)(h:Tb w tb B n D)(G:Good D)(hW:WRs w wo ws)(hM:M=ws.length)(hok:okT nn ws)(hnew:D.newest<nn)(hop:¬D.op nn)(hn:n<1073741824)(hWB:0<ws.length->∀a,wo=some a->a.block∉B) :
  Calls prog 276 #[.pointer (some ⟨tb,0,none⟩),.agg #[.int .i64 nn,.slice wo M mc]] w fun e w'=>∃xs B',e=.returned (.tuple #[.int .i64 ((xs.length:Nat):Int),.int .i64 0])/\AhT D (zar ws) xs/\Tb w' tb B' (n+65) (D.add nn (zar ws) xs)/\(∀j∈B',j∈B\/w.heap.size<=j)/\Fr B w w':=by
 have hni:i64 nn:=.of ⟨hok.1,hok.2.1⟩;have hM32:M<=32:=by rw[hM];exact hok.2.2.1
 obtain⟨w0,HW0⟩:∃w0,Hid (w.alloc (.cells #[.int .i64 nn,.slice wo M mc] 108)=w0):=⟨_,rfl⟩;have hF0:Fr [] w w0:=by rw[<-HW0.out];exact Fr.alloc [] w _
 have hb0:w0.heap[w.heap.size]? = some (.cells #[.int .i64 nn,.slice wo M mc] 108 (0,0)):=by rw[<-HW0.out];exact heap_alloc_new w _
 have hs0:w.heap.size<w0.heap.size:=lt_of_block hb0;have HBX:Hid (∀W S,Fr S w0 W->(w.heap.size∉S)->W.cell? ⟨w.heap.size,0,none⟩=some (.int .i64 nn)/\W.cell? ⟨w.heap.size,1,none⟩=some (.slice wo M mc)):=fun W S hf hS=>by
  have hb:=hf.keep hb0 hS;exact⟨by rw[crw hb];rfl,by rw[crw hb];rfl⟩
 obtain⟨lb,ob,wb,E,hT⟩:=h;have HT0:Hid (TbI w tb lb ob wb B n D E):=hT;have HG:Hid (Good D):=G;have HM:Hid (M=ws.length):=hM;have HOK:Hid (okT nn ws):=hok;have HNo:Hid (¬D.op nn):=hop;have HNe:Hid (D.newest<nn):=hnew;have hnl:nn<=65536:=hok.2.1;have hn1:1<=nn:=hok.1;have HWr:Hid (∀W,Fr B w W->WRs W wo ws):=fun W hf=>hW.keepS hf hWB;have HBn:Hid (∀j∈B,j<w.heap.size):=hT.mine;obtain⟨N0,hN0⟩:∃N0,N0=D.newest:=⟨_,rfl⟩;have hlt0:N0<nn:=by rw[hN0];exact hnew
 have hb00:=hT.few;rw[<-hN0]at hb00
 have HT1:Hid (∀W,Fr [] w W->W.cell? ⟨tb,1,none⟩=some (.int .i64 N0)):=fun W hf=>by rw[hN0];exact (hT.keep hf (by simp)).c1
 have HTb:Hid (∀W,Fr [] w W->Tb W tb B n D):=fun W hf=>⟨_,_,_,_,hT.keep hf (by simp)⟩;clear hT G hM hok hop hnew hW hWB hb0 hN0;go_enter func276,ntmps276;go_upto_region 1 with fail
 rw[HW0.out];clear HW0;go_wp2_with fail
 refine (zhc _ (HTb.out _ hF0)).mono ?_;rintro e w1⟨rfl,hF1⟩;have hG1:=hF0.then hF1;obtain⟨d0,d1⟩:=HBX.out w1 [] hF1 (by simp);go_wp2_with fail
 refine (zck nn wo M mc 0 ws _ (HWr.out _ (hG1.mono (by simp))) HM.out hni.1 hni.2 (Or.inl ⟨HOK.out,rfl⟩)).mono ?_;rintro e w2⟨rfl,hF2⟩;have hG2:=hG1.then hF2;have hF02:=hF1.then hF2;clear d0 d1 hG1 hF1 hF2;obtain⟨d0,d1⟩:=HBX.out w2 [] hF02 (by simp);have t1:=HT1.out _ hG2;have hle:decide (nn<=N0)=false:=by simp;omega
 go_wp2_with fail
 go_quiet (fail)
 obtain⟨w3,HW3⟩:∃w3,Hid (w2.drewN nq=w3):=⟨_,rfl⟩;rw[HW3.out];have hG3:Fr [] w w3:=by rw[<-HW3.out];exact hG2.then (Fr.drewN _ _ _)
 have hF03:Fr [] w0 w3:=by rw[<-HW3.out];exact hF02.then (Fr.drewN _ _ _)
 clear HW3 d0 d1 t1 hG2 hF02;obtain⟨d0,d1⟩:=HBX.out w3 [] hF03 (by simp);go_wp2_with fail
 refine (zpk wo M mc ws _ (HTb.out _ hG3) (HWr.out _ (hG3.mono (by simp))) HM.out (by omega) HG.out.last).mono ?_;rintro e w4⟨so,N,c,xs,rfl,hO,hA,hNM,hF4⟩;have hG4:=hG3.then hF4;have hF04:=hF03.then hF4;have HA:Hid (AhT D (zar ws) xs):=hA;have HN:Hid (N=xs.length):=hO.len;have HR:Hid (∀W,Fr B w4 W->IOw w3.heap.size W so N c xs):=fun W hf=>hO.keepS hf (fun k hk hB=>by
  have:=(hO.blk hk).1;have:=HBn.out k hB;have:=hG3.size;omega)
 have HOb:Hid (∀k,(Value.slice so N c).ownBlock=some k->w.heap.size<=k/\k<w4.heap.size):=fun k hk=>by
  obtain⟨h1,cur,h2⟩:=hO.blk hk;exact⟨Nat.le_trans hG3.size h1,lt_of_block h2⟩
 have HT4:Hid (TbI w4 tb lb ob wb B n D E):=HT0.out.keep hG4 (by simp);have hNf:N<=32:=by omega
 clear hO hA hF4 d0 d1 hG3 hF03 HT0;have HX0:Hid (∀W,Fr B w4 W->W.cell? ⟨w.heap.size,0,none⟩=some (.int .i64 nn)/\W.cell? ⟨w.heap.size,1,none⟩=some (.slice wo M mc)):=fun W hf=>HBX.out W B ((hF04.mono (by simp)).then hf) (fun hj=>by have:=HBn.out _ hj;omega);have hX4:=HX0.out w4 (Fr.refl _ _);obtain⟨x40,x41⟩:=hX4;go_wp2_with fail
 go_loopw [30] (fun ii wr=>∃(i:Nat)(Bi:List Nat)(Ei:Int->Option En),ii=.int .i64 i/\i<=N/\Hid (TbI wr tb lb ob wb Bi (n+i) (D.mid nn (xs.take i)) Ei)/\Hid (∀j∈Bi,j∈B\/w4.heap.size<=j)/\Hid (Fr B w4 wr)) (fun ii _=>N-(RowKit.intOf ii).toNat)
 case atStart=>exact⟨0,B,E,rfl,Nat.zero_le _,(by rw[List.take_zero,Dt.mid_nil];exact HT4.out),fun j hj=>Or.inl hj,Fr.refl _ _⟩
 obtain⟨i,Bi,Ei,rfl,hiN,HTi,HBi,HFi⟩:=hrel;by_cases hi:i<N
 .obtain⟨g,rfl,_,_,hcs⟩:=(HR.out wr HFi.out).cells (by omega);have hg:=hcs i hi;have hil:i<xs.length:=by rw[<-HN.out];exact hi
  obtain⟨m,hme⟩:∃m,m=xs.getD i 0:=⟨_,rfl⟩;rw[<-hme]at hg
  have hmx:m∈xs:=by rw[hme];exact zik xs i hil
  have hmo:D.op m:=((HA.out.2 m).1 hmx).1;have hmg:=HG.out.op m hmo;have hmi:i64 m:=.of hmg;have hnt:m∉xs.take i:=by rw[hme];exact zpm xs HA.out.1 i hil
  have hbm:((D.mid nn (xs.take i)).bh m).length<1099511627776:=by
   show (if m∈xs.take i then D.bh m++[nn] else D.bh m).length<_;rw[if_neg hnt];have:=(HG.out.bh m hmo).1;omega
  obtain⟨eg,bo,bn,bc,hbn,hegB,hegt,hown,hU⟩:=zxf HTi.out m nn hmo hmi hni (by omega) hbm;have c3:=HTi.out.c3;obtain⟨x0,x1⟩:=HX0.out wr HFi.out;have HBs:Hid (∀B':List Nat,(∀j∈B',j∈Bi\/wr.heap.size<=j)->Hid (∀j∈B',j∈B\/w4.heap.size<=j)):=fun B' h j hj=>by
   rcases h j hj with h1|h1
   .exact HBi.out j h1
   exact Or.inr (Nat.le_trans HFi.out.size h1)
  have HFs:Hid (∀(S:List Nat)(W:World),S=Bi->Fr S wr W->Hid (Fr B w4 W)):=fun S W e hf=>HFi.out.trans hf (fun x hx _=>hx) (fun x hx hl=>by
   rw[e]at hx
   rcases HBi.out x hx with h1|h1
   .exact h1
   omega)
  have HS:Hid (((D.mid nn (xs.take i)).wait nn m).behind m nn=D.mid nn (xs.take (i+1))):=by
   rw[zpl xs i hil,<-hme];exact Dt.mid_snoc D nn m _ hnt
  have hwX:¬w.heap.size=wb:=fun e=>by
   rcases HBi.out wb HTi.out.bw with h1|h1
   .have:=HBn.out _ h1;omega
   have:=hG4.size;have:=hF04.size;omega
  have htw:¬tb=wb:=zai HTi.out.box HTi.out.bW;obtain⟨w5,hr5,hF5,hV5⟩:=hU wr.drew (Fr.drew _ _);have e0:=zbm hF5 (w:=wr.drew) c3 (lt_of_block HTi.out.box) (by simpa using htw);have e1:=zbm hF5 (w:=wr.drew) x0 (World.block_lt_of_cell? wr _ (by rw[x0])) (by simpa using hwX);have HV5:Hid (∀V,Fr [] w5 V->_):=hV5;have HF5:Hid (Fr [wb] wr.drew w5):=hF5;clear hcs hme hnt hbm hU hmx hV5 hF5;go_upto_region 11 with fail
  go_region_held3 (fun W=>W.cell? ⟨tb,3,none⟩=some (.map (some wb))/\W.cell? ⟨w.heap.size,0,none⟩=some (.int .i64 nn)) (go_keep) (fail)
  obtain⟨l5,b5,o5,i5,r5⟩:=HV5.out w5.drew (Fr.drew _ _);obtain⟨l6,b6,o6,i6,r6⟩:=HV5.out (w5.alloc (.cells #[.int .i64 nn] 3)).drew ((Fr.alloc _ _ _).then (Fr.drew _ _));have HI6:Hid (_/\_):=⟨i6,r6⟩;have hxl:w.heap.size<w5.heap.size:=World.block_lt_of_cell? w5 _ (by rw[e1]);have HFar:Hid (∀V',Fr (Value.slice bo bn bc).ownBlock.toList (w5.alloc (.cells #[.int .i64 nn] 3)).drew V'->V'.cell? ⟨w.heap.size,0,none⟩=some (.int .i64 nn)):=by
   intro V' hf;have hfa:Fr [] w5 (w5.alloc (.cells #[.int .i64 nn] 3)).drew:=(Fr.alloc _ _ _).then (Fr.drew _ _);refine zbm hf (zbm hfa e1 hxl (by simp)) (Nat.lt_of_lt_of_le hxl hfa.size) (fun hj=> ?_);rcases HBi.out _ (hown _ (Option.mem_toList.1 hj)) with h1|h1
   .have:=HBn.out _ h1;omega
   have:=hG4.size;have:=hF04.size;omega
  have hq1:¬tb=eg:=fun e=>hegt e.symm;have hq2:¬eg=tb:=hegt;have hegx:eg≠w.heap.size:=fun e=>by
   rcases HBi.out eg hegB with h1|h1
   .have:=HBn.out _ h1;omega
   have:=hG4.size;have:=hF04.size;omega
  have hq3:¬w.heap.size=eg:=fun e=>hegx e.symm;have hq4:¬eg=w.heap.size:=hegx;obtain⟨o',c',V',hr,f1,f2,f3⟩:=zpi 0 _ 25 bo bn bc _ i6 ⟨w5.heap.size,0,none⟩ 1 nn (zct _ _ _) (by omega) (Nat.zero_le _);obtain⟨⟨k1,k2⟩,z2,z0,B',E',k3,k4,k5⟩:=r6 V' o' c' f1 f2 f3;have z1:=HFar.out V' f2;obtain⟨v7,hv7⟩:∃v7,v7=Value.slice bo bn bc:=⟨_,rfl⟩;rw[<-hv7]at hr b5 b6 k1
  have HV7:Hid (v7=Value.slice bo bn bc):=hv7;have HZ:Hid (_/\_/\_):=⟨k3,k4,k5⟩;clear i5 r5 i6 r6 hegt hegx hv7 f1 f2 f3 k3 k4 k5;simp[go_sem]at hr
  go_upto_region 12 with fail
  go_region
  all_goals (go_wp2;exact⟨⟨i+1,B',E',rfl,by omega,(by rw[<-HS.out,<-Nat.add_assoc];exact HZ.out.1),HBs.out B' HZ.out.2.1,HFs.out Bi _ rfl HZ.out.2.2⟩,by simp[RowKit.intOf];omega⟩)
 obtain rfl:N=i:=by omega
 rw[List.take_of_length_le (by rw[<-HN.out];exact Nat.le_refl _)]at HTi
 obtain⟨wp,hwp⟩:∃wp,wp=wr:=⟨_,rfl⟩;subst hwp;obtain⟨x0,x1⟩:=HX0.out wp HFi.out;have HK:Hid (zar (ws.take 0)=[]):=rfl;have hXB:w.heap.size∉Bi:=fun hj=>by
  rcases HBi.out _ hj with h1|h1
  .have:=HBn.out _ h1;omega
  have:=hG4.size;have:=hF04.size;omega
 have HXB:Hid (w.heap.size∉Bi):=hXB;have HFs:Hid (∀(S:List Nat)(W:World),(∀j∈S,j∈Bi)->Fr S wp W->Hid (Fr B w4 W)):=fun S W e hf=>HFi.out.trans hf (fun x hx _=>hx) (fun x hx hl=>by
  rcases HBi.out x (e x hx) with h1|h1
  .exact h1
  omega)
 clear hXB;go_wp2_with fail
 go_loopw [68] (fun ii wr=>∃(i:Nat),ii=.int .i64 i/\i<=M/\Hid (TbI wr tb lb ob wb Bi (n+32+i) ((D.mid nn xs).wroteAll (zar (ws.take i)) nn) Ei)/\Hid (Fr [lb] wp wr)) (fun ii _=>M-(RowKit.intOf ii).toNat)
 case atStart=>exact⟨0,rfl,Nat.zero_le _,(by rw[List.take_zero,show zar []=[] from rfl,Dt.wroteAll_nil];exact HTi.out.mono (by omega)),Fr.refl _ _⟩
 obtain⟨i,rfl,hiM,HTj,HFj⟩:=hrel;have hFB:Fr B w4 wr:=(HFs.out [lb] wr (by simpa using HTi.out.bl) HFj.out).out;have hwB:Fr B w wr:=(hG4.mono (by simp)).then hFB;obtain⟨y0,y1⟩:=HX0.out wr hFB;by_cases hi:i<M
 .have hi':i<ws.length:=by rw[<-HM.out];exact hi
  obtain⟨b2,o2,e2,_,hc2⟩:=(HWr.out _ hwB).lies (by omega);obtain⟨d0,d1,d2⟩:=hc2 i hi';have hm:=zkb ws i hi';have hkz:=((HWr.out _ hwB).each _ hm).1;obtain⟨y,hyy⟩:∃y,y=ws.getD i Wt.zero:=⟨_,rfl⟩;rw[<-hyy]at d0 d1 d2 hkz
  have HS:Hid (((D.mid nn xs).wroteAll (zar (ws.take i)) nn).wrote y.key nn=(D.mid nn xs).wroteAll (zar (ws.take (i+1))) nn):=by
   rw[show zar (ws.take (i+1))=zar (ws.take i)++[y.key] from by rw[hyy];exact zuw ws i hi'];exact Dt.wroteAll_snoc _ _ _ _
  obtain⟨key,val,drop⟩:=y;simp only at d0 d1 d2 hkz HS;clear hyy hc2 hm;subst e2;obtain⟨w6,HW6⟩:∃w6,Hid (wr.alloc (.cells #[.string key,.string val,.bool drop] 91)=w6):=⟨_,rfl⟩;have hF6:Fr [] wr w6:=by rw[<-HW6.out];exact Fr.alloc _ _ _
  have hT6:=HTj.out.keep hF6 (by simp);have t0:=hT6.c0;have hb6:w6.heap[wr.heap.size]? = some (.cells #[.string key,.string val,.bool drop] 91 (0,0)):=by rw[<-HW6.out];exact heap_alloc_new _ _
  have k0:w6.cell? ⟨wr.heap.size,0,none⟩=some (.string key):=by rw[crw hb6];rfl
  have hxlt:w.heap.size<wr.heap.size:=World.block_lt_of_cell? wr _ (by rw[y0]);have y6:w6.cell? ⟨w.heap.size,0,none⟩=some (.int .i64 nn):=zbm hF6 y0 hxlt (by simp);obtain⟨w7,hr7,hT7,hF7⟩:=(hT6.keep (Fr.drew [] w6) (by simp)).storeL key nn (by unfold maxLen;omega) (by unfold maxLen;omega);have q0:=hT7.c0;have hlx:w.heap.size∉[lb]:=by simpa using fun e=>HXB.out (by rw[e];exact HTi.out.bl)
  have hlk:wr.heap.size∉[lb]:=by simpa using fun e=>by have:=HTj.out.mine lb HTi.out.bl;omega
  have q1:w7.cell? ⟨w.heap.size,0,none⟩=some (.int .i64 nn):=zbm hF7 y6 (Nat.lt_of_lt_of_le hxlt hF6.size) hlx;have q2:w7.cell? ⟨wr.heap.size,0,none⟩=some (.string key):=zbm hF7 k0 (lt_of_block hb6) hlk;have HR:Hid (_/\_):=⟨hT7,(HFj.out.trans (hF6.mono (T:=[lb]) (by simp)) (fun x hx _=>hx) (fun x hx _=>hx)).trans ((Fr.drew [lb] w6).then hF7) (fun x hx _=>hx) (fun x hx _=>hx)⟩;rw[HS.out]at HR
  clear hT6 hT7 hF7 hF6 hb6 hlx hlk HS hxlt hwB hFB;go_upto_region 17 with fail
  rw[HW6.out];clear HW6;go_region_held3 (fun W=>W.cell? ⟨tb,0,none⟩=some (.map (some lb))/\W.cell? ⟨w.heap.size,0,none⟩=some (.int .i64 nn)/\W.cell? ⟨wr.heap.size,0,none⟩=some (.string key)) (go_keep) (fail)
  go_wp2_with fail
  go_roundw;case rel=>exact⟨i+1,rfl,by omega,(by rw[<-Nat.add_assoc];exact HR.out.1),HR.out.2⟩
  case measure=>simp[RowKit.intOf];omega
 obtain rfl:M=i:=by omega
 rw[List.take_of_length_le (by rw[<-HM.out];exact Nat.le_refl _)]at HTj
 obtain⟨w6,hw6⟩:∃w6,w6=wr.alloc (.cells #[.slice so N c,.slice none 0 0] 405):=⟨_,rfl⟩;have hF6:Fr [] wr w6:=by rw[hw6];exact Fr.alloc _ _ _
 have hT6:=(HTj.out.keep hF6 (by simp)).keep (Fr.drew [] w6) (by simp);have hb6:w6.drew.heap[wr.heap.size]? = some (.cells #[.slice so N c,.slice none 0 0] 405 (0,0)):=by rw[hw6];exact heap_alloc_new _ _
 have hO6:IOw 0 w6.drew so N c xs:=((HR.out wr hFB).low (Nat.zero_le _)).keep (hF6.then (Fr.drew _ _));have hEn:Ei nn=none:=by
  cases hE:Ei nn with
  |none=>rfl
  |some e=>exact absurd ((HTj.out.opn nn).1 (by rw[hE];rfl)) HNo.out
 have hoB:∀k,(Value.slice so N c).ownBlock=some k->k∉Bi:=fun k hk hj=>by
  have:=HOb.out k hk;rcases HBi.out k hj with h1|h1
  .have:=HBn.out k h1;omega
  omega
 obtain⟨w7,hr7,hT7,hF7⟩:=hT6.storeO nn hni (by unfold maxLen;omega) hEn wr.heap.size ⟨so,N,c⟩ xs hb6 (fun hj=>by have:=HTj.out.mine _ hj;omega) hO6 hoB;have hxlt:w.heap.size<wr.heap.size:=World.block_lt_of_cell? wr _ (by rw[y0]);have hox:w.heap.size∉[ob]:=by simpa using fun e=>HXB.out (by rw[e];exact HTi.out.bo)
 have t2:=HTj.out.c2;have t6:=hT6.c2;have y6:w6.drew.cell? ⟨w.heap.size,0,none⟩=some (.int .i64 nn):=zbm (hF6.then (Fr.drew _ _)) y0 hxlt (by simp);have t7:=hT7.c2;have y7:w7.cell? ⟨w.heap.size,0,none⟩=some (.int .i64 nn):=zbm hF7 y6 (Nat.lt_of_lt_of_le hxlt hF6.size) hox;have t71:=hT7.c1;have z71:w7.frozen? ⟨tb,1,none⟩=false:=by unfold World.frozen?;rw[hT7.box];rfl
 obtain⟨hT8,hF8⟩:=hT7.setN nn ⟨by omega,hnl⟩;rw[Dt.add_is]at hT8
 have HR8:Hid (∃B',Tb (w7.setCell ⟨tb,1,none⟩ (.int .i64 nn)) tb B' (n+65) (D.add nn (zar ws) xs)/\(∀j∈B',j∈B\/w.heap.size<=j)/\Fr B w (w7.setCell ⟨tb,1,none⟩ (.int .i64 nn))):=by
  refine⟨_,⟨lb,ob,wb,_,hT8.mono (by omega)⟩,fun j hj=> ?_,?_⟩
  .rcases List.mem_cons.1 hj with rfl|hj
   .exact Or.inr (by omega)
   rcases List.mem_append.1 hj with hj|hj
   .exact Or.inr (HOb.out j (Option.mem_toList.1 hj)).1
   rcases HBi.out j hj with h1|h1
   .exact Or.inl h1
   exact Or.inr (Nat.le_trans hG4.size h1)
  have f1:Fr Bi wr w7:=(hF6.mono (T:=Bi) (by simp)).then ((Fr.drew Bi w6).then (hF7.mono (by simpa using fun _=>HTi.out.bo)));have f2:Fr Bi wp (w7.setCell ⟨tb,1,none⟩ (.int .i64 nn)):=((HFj.out.mono (T:=Bi) (by simpa using fun _=>HTi.out.bl)).then f1).then (hF8.mono (by simpa using fun _=>HTi.out.bt));exact (hG4.mono (by simp)).then (HFs.out Bi _ (fun j hj=>hj) f2).out
 have hlN:Hid ((N:Int)=((xs.length:Nat):Int)):=by show (N:Int)=_;rw[HN.out]
 rw[hw6]at hr7 t6 y6
 clear hT6 hT7 hT8 hF6 hF7 hF8 hb6 hO6 hEn hoB hox hw6 hFB hwB;go_upto_region 19 with fail
 go_region_held3 (fun W=>W.cell? ⟨tb,2,none⟩=some (.map (some ob))/\W.cell? ⟨w.heap.size,0,none⟩=some (.int .i64 nn)) (go_keep) (fail)
 go_wp2;refine bodyPost_ret (results_tmp2 rfl _ _ _) rfl ?_;obtain⟨B',h1,h2,h3⟩:=HR8.out;refine⟨xs,B',?_,HA.out,h1,h2,h3⟩;rw[<-hlN.out];rfl
def Op11(L:Lg)(en:Int->Prop)(x:Int):Prop:=(∃p∈L,p.1=x)/\¬en x
def Tl(w:World)(tb:Nat)(B:List Nat)(n:Nat)(L:Lg)(en:Int->Prop):Prop:=∃D,Tb w tb B n D/\Inv D L en/\D.newest<=65536
section
variable{w w':World}{tb:Nat}{B:List Nat}{n:Nat}{L:Lg}{en:Int->Prop}
theorem Inv.op_eq{D:Dt}(h:Inv D L en):D.op=Op11 L en:=funext fun x=>propext (h.op x)
theorem Tl.keep{S:List Nat}(h:Tl w tb B n L en)(hf:Fr S w w')(hS:∀j∈B,j∉S):Tl w' tb B n L en:=by
 obtain⟨D,h1,h2⟩:=h;exact⟨D,h1.keep hf hS,h2⟩
theorem Tl.mine(h:Tl w tb B n L en):∀j∈B,j<w.heap.size:=by
 obtain⟨D,h1,h2⟩:=h;exact h1.mine
theorem zahr(w:World):Calls prog 150 #[] w fun e w'=>∃tb B,e=.returned (.pointer (some ⟨tb,0,none⟩))/\Tl w' tb B 0 [] (fun _=>False)/\(∀j∈B,w.heap.size<=j)/\Fr [] w w':=by
 refine (zaag w).mono ?_;rintro e w'⟨tb,B,rfl,h1,h2,h3⟩;exact⟨tb,B,rfl,⟨_,h1,Inv.none,by show (0:Int)<=65536;omega⟩,h2,h3⟩
def AdT(L:Lg)(en:Int->Prop)(ks:List ByteArray)(xs:List Int):Prop:=Ris xs/\∀m,m∈xs↔Op11 L en m/\∃k∈ks,lst L k=m
theorem zahs(nn:Int)(wo:Option Addr)(M mc:Nat)(ws:List Wt)(w:World)(h:Tl w tb B n L en)(hW:WRs w wo ws)(hM:M=ws.length)(hok:okT nn ws)(hnew:∀p∈L,p.1<nn)(hn:n<1073741824)(hWB:0<ws.length->∀a,wo=some a->a.block∉B) :
  Calls prog 276 #[.pointer (some ⟨tb,0,none⟩),.agg #[.int .i64 nn,.slice wo M mc]] w fun e w'=>∃xs B',e=.returned (.tuple #[.int .i64 ((xs.length:Nat):Int),.int .i64 0])/\AdT L en (zar ws) xs/\Tl w' tb B' (n+65) (L++[(nn,zar ws)]) en/\(∀j∈B',j∈B\/w.heap.size<=j)/\Fr B w w':=by
 obtain⟨D,h1,h2,h3⟩:=h;have hlt:D.newest<nn:=by
  rcases h2.tip with e|⟨p,hp,e⟩
  .have:=hok.1;omega
  have:=hnew p hp;omega
 refine (zaai nn wo M mc ws w h1 (h2.good h3) hW hM hok hlt (fun ho=> ?_) hn hWB).mono ?_
 .obtain⟨⟨p,hp,e⟩,_⟩:=(h2.op nn).1 ho;have:=hnew p hp;omega
 rintro e w'⟨xs,B',rfl,k1,k2,k3,k4⟩;refine⟨xs,B',rfl,⟨k1.1,fun m=> ?_⟩,⟨_,k2,h2.add hlt k1,hok.2.1⟩,k3,k4⟩;rw[k1.2 m,h2.op_eq];simp only[h2.last]
theorem zaec(m:Int)(w:World)(h:Tl w tb B n L en)(hm:Op11 L en m)(hf:∀y,Op11 L en y->¬Dep L m y) :
  Calls prog 378 #[.pointer (some ⟨tb,0,none⟩),.int .i64 m] w fun e w'=>∃so N c zs,e=.returned (.tuple #[.slice so N c,.int .i64 0])/\IOw w.heap.size w' so N c zs/\DoT L (Op11 L en) m zs/\Tl w' tb B n L (fun x=>en x\/x=m)/\Fr B w w':=by
 obtain⟨D,h1,h2,h3⟩:=h;rw[<-h2.op_eq]at hm hf ⊢
 refine (zxg m w h1 (h2.good h3) hm (fun x hx hw=> ?_) (fun x hx=>(((h2.bh m hm).2 x).1 hx).1) (fun a ha=> ?_)).mono ?_
 .obtain⟨_,j1,j2⟩:=(h2.wt m x).1 hw;exact hf x j1 j2
 .obtain⟨j0,j1,j2⟩:=(h2.wt a m).1 ha;exact ((h2.bh m hm).2 a).2 ⟨j0,j2⟩
 rintro e w'⟨so,N,c,zs,rfl,k1,k2,k3,k4⟩;exact⟨so,N,c,zs,rfl,k1,k2.of h2 hm,⟨_,k3,h2.done hm hf,h3⟩,k4⟩
end
section
variable{w:World}{tb:Nat}{B:List Nat}{n:Nat}{L:Lg}{en:Int->Prop}
end
end
namespace Mk
open Go.ChangeShapes Go.WideShapes Go.ChangeAt Go.RowKit Go.Lib Go.Maps Go.Proofs.Tryz
def ops4:Array Oper:=#[⟨some 36,.load 23 (.tmp 4),23, "machine.go:48",#[],none⟩,⟨some 37,.move (.tmp 2),142, "machine.go:48",#[],none⟩,⟨some 38,.move (.tmp 10),159, "machine.go:48",#[],none⟩,⟨some 39,.call {callee:=.value (.func 150),args:=#[],argTypes:=#[]},160, "machine.go:48",#[],none⟩,⟨some 40,.makeMap 161 none,161, "machine.go:48",#[],none⟩,⟨some 41,.makeMap 169 none,169, "machine.go:48",#[],none⟩,⟨some 42,.build 171 #[(0,.tmp 36),(1,.tmp 37),(2,.tmp 38),(3,.tmp 39),(4,.tmp 40),(13,.tmp 41)],171, "machine.go:48",#[⟨0,.data⟩,⟨1,.data⟩,⟨2,.data⟩,⟨3,.data⟩,⟨4,.data⟩,⟨5,.data⟩],none⟩,⟨some 43,.box 171 (.tmp 42),152, "machine.go:48",#[⟨6,.data⟩],none⟩,⟨some 12,.assign (.tmp 43),152, "machine.go:48",#[⟨7,.data⟩,⟨3,.chain⟩,⟨0,.phase⟩,⟨1,.phase⟩,⟨2,.phase⟩,⟨3,.phase⟩,⟨4,.phase⟩,⟨5,.phase⟩,⟨6,.phase⟩,⟨7,.phase⟩],none⟩]
def mc0(c:Cf)(v1 v2 v3 v4 v5:Value):Array Value:=#[.int .i64 c.l,.int .i64 c.s,.int .i64 c.w,.int .i64 c.q,v1,v2,v3,v4,.pointer none,.pointer none,.slice none 0 0,.slice none 0 0,.pointer none,.slice none 0 0,.slice none 0 0,.int .i64 0,v5,.bool false,.bool false]
def Ph(c:Cf)(dk:Option Addr)(f:Nat):Nat->(Nat->Value)->List Nat->World->Prop
 |0,r,B,w=>r 0=.agg #[.int .i64 c.l,.int .i64 c.s,.int .i64 c.w,.int .i64 c.q]
 |1,r,B,w=>r 1=.pointer dk
 |2,r,B,w=>r 2=.pointer (some ⟨f,0,none⟩)
 |3,r,B,w=>∃tb,r 3=.pointer (some ⟨tb,0,none⟩)/\Tl w tb B 0 [] (fun _=>False)
 |4,r,B,w=>∃wb,r 4=.map (some wb)/\B=[wb]/\MapG kTx w wb 0 (fun _=>none)
 |5,r,B,w=>∃ab,r 5=.map (some ab)
 |6,r,B,w=>r 6=.agg (mc0 c (r 1) (r 2) (r 3) (r 4) (r 5))
 |7,r,B,w=>∃sb cells,r 6=.agg cells/\r 7=.pointer (some ⟨sb,0,none⟩)/\B=[sb]/\w.heap[sb]? = some (.cells cells 171 (0,0))
 |8,r,B,w=>r 8=r 7
 |_,_,_,_=>True
theorem hPh{c:Cf}{dk:Option Addr}{f:Nat}:∀i (r r':Nat->Value) B w w',Fr [] w w'->r' i=r i->(∀j,dep ops4 i j=true->r' j=r j)->Ph c dk f i r B w->Ph c dk f i r' B w'
 |0,_,_,_,_,_,_,e,_,h=>e.trans h
 |1,_,_,_,_,_,_,e,_,h=>e.trans h
 |2,_,_,_,_,_,_,e,_,h=>e.trans h
 |3,_,_,_,_,_,hf,e,_,h=>by obtain⟨b,h1,h2⟩:=h;exact⟨b,e.trans h1,h2.keep hf (by simp)⟩
 |4,_,_,_,_,_,hf,e,_,h=>by obtain⟨b,h1,h2,h3⟩:=h;exact⟨b,e.trans h1,h2,h3.keep hf (by simp)⟩
 |5,_,_,_,_,_,_,e,_,h=>by obtain⟨b,h1⟩:=h;exact⟨b,e.trans h1⟩
 |6,_,_,_,_,_,_,e,d,h=>by
  simp only[Ph]at h ⊢;rw[e,h,d 1 (by kernel_rfl),d 2 (by kernel_rfl),d 3 (by kernel_rfl),d 4 (by kernel_rfl),d 5 (by kernel_rfl)]
 |7,_,_,_,_,_,hf,e,d,h=>by obtain⟨b,cs,h1,h2,h3,h4⟩:=h;exact⟨b,cs,(d 6 (by kernel_rfl)).trans h1,e.trans h2,h3,hf.keep h4 (by simp)⟩
 |8,_,_,_,_,_,_,e,d,h=>e.trans (h.trans (d 7 (by kernel_rfl)).symm)
 |_+9,_,_,_,_,_,_,_,_,_=>trivial
section
variable{ρ:Operand->Value}{w:World}{o:Oper}
theorem rn3(ho:o.op=.call {callee:=.value (.func 150),args:=#[],argTypes:=#[]})(h:ρ (.func 150)=.func (.func 150) #[] #[]):(execOp ρ o).run prog w=.ok (.enter 150 #[]) w:=by
 obtain⟨d,op,ty,ps,af,gd⟩:=o;simp only at ho;subst ho
 go_simp
theorem rn4{t:TypeId}(ho:o.op=.makeMap t none)(ht:t=161\/t=169):(execOp ρ o).run prog w=.ok (.value (.map (some w.heap.size))) (w.alloc (.map #[] 0)):=by
 obtain⟨d,op,ty,ps,af,gd⟩:=o;simp only at ho;subst ho;have hm:=@run_makeMap prog;rcases ht with rfl|rfl<;>go_simp
theorem rn6{c:Cf}{v1 v2 v3 v4 v5:Value}(ho:o.op=.build 171 #[(0,.tmp 36),(1,.tmp 37),(2,.tmp 38),(3,.tmp 39),(4,.tmp 40),(13,.tmp 41)])(h36:ρ (.tmp 36)=.agg #[.int .i64 c.l,.int .i64 c.s,.int .i64 c.w,.int .i64 c.q])(h37:ρ (.tmp 37)=v1)(h38:ρ (.tmp 38)=v2)(h39:ρ (.tmp 39)=v3)(h40:ρ (.tmp 40)=v4)(h41:ρ (.tmp 41)=v5)(k1:∃x,v1=.pointer x)(k2:∃x,v2=.pointer x)(k3:∃x,v3=.pointer x)(k4:∃x,v4=.map x)(k5:∃x,v5=.map x) :
  (execOp ρ o).run prog w=.ok (.value (.agg (mc0 c v1 v2 v3 v4 v5))) w:=by
 obtain⟨d,op,ty,ps,af,gd⟩:=o;obtain⟨x1,rfl⟩:=k1;obtain⟨x2,rfl⟩:=k2;obtain⟨x3,rfl⟩:=k3;obtain⟨x4,rfl⟩:=k4;obtain⟨x5,rfl⟩:=k5;simp only at ho;subst ho;unfold mc0
 go_simp
theorem rn7{cells:Array Value}(ho:o.op=.box 171 (.tmp 42))(h:ρ (.tmp 42)=.agg cells):(execOp ρ o).run prog w=.ok (.value (.pointer (some ⟨w.heap.size,0,none⟩))) (w.alloc (.cells cells 171)):=by
 obtain⟨d,op,ty,ps,af,gd⟩:=o;simp only at ho;subst ho
 go_simp
end
structure MadeM(w0 w:World)(c:Cf)(dk:Option Addr)(f:Nat)(mv:Value)(mb tb wb ab:Nat)(B:List Nat):Prop where
 mv:mv=.pointer (some ⟨mb,0,none⟩)
 fr:Fr [] w0 w
 box:w.heap[mb]? = some (.cells #[.int .i64 c.l,.int .i64 c.s,.int .i64 c.w,.int .i64 c.q,.pointer dk,.pointer (some ⟨f,0,none⟩),.pointer (some ⟨tb,0,none⟩),.map (some wb),.pointer none,.pointer none,.slice none 0 0,.slice none 0 0,.pointer none,.slice none 0 0,.slice none 0 0,.int .i64 0,.map (some ab),.bool false,.bool false] 171 (0,0))
 tl:Tl w tb B 0 [] (fun _=>False)
 mp:MapG kTx w wb 0 (fun _=>none)
 nm:w0.heap.size<=mb
 nw:w0.heap.size<=wb
 nB:∀j∈B,w0.heap.size<=j
 a1:wb∉B
 a2:mb∉B
 a3:mb≠wb
def mcl(c:Cf)(dk:Option Addr)(f tb wb ab:Nat):Array Value:=#[.int .i64 c.l,.int .i64 c.s,.int .i64 c.w,.int .i64 c.q,.pointer dk,.pointer (some ⟨f,0,none⟩),.pointer (some ⟨tb,0,none⟩),.map (some wb),.pointer none,.pointer none,.slice none 0 0,.slice none 0 0,.pointer none,.slice none 0 0,.slice none 0 0,.int .i64 0,.map (some ab),.bool false,.bool false]
def prs(c:Cf)(dk:Option Addr)(f mb tb wb ab:Nat):List (Nat×Value):=
 [(36,.agg #[.int .i64 c.l,.int .i64 c.s,.int .i64 c.w,.int .i64 c.q]),(37,.pointer dk),(38,.pointer (some ⟨f,0,none⟩)),(39,.pointer (some ⟨tb,0,none⟩)),(40,.map (some wb)),(41,.map (some ab)),(42,.agg (mcl c dk f tb wb ab)),(43,.pointer (some ⟨mb,0,none⟩)),(12,.pointer (some ⟨mb,0,none⟩))]
def dl4:List (Option Nat):=[some 36,some 37,some 38,some 39,some 40,some 41,some 42,some 43,some 12]
theorem reg4{Q:Exit->Act->World->Prop}{a0:Act}{w0:World}{id:Nat}{c:Cf}{dk:Option Addr}{f b4:Nat}(hz:a0.tmps.size=131)(t2:env a0 2=.pointer dk)(t4:env a0 4=.pointer (some ⟨b4,0,none⟩))(t10:env a0 10=.pointer (some ⟨f,0,none⟩))(hcf:CfM w0 b4 c.l c.s c.w c.q)(hend:∀w mb tb wb ab B,MadeM w0 w c dk f (.pointer (some ⟨mb,0,none⟩)) mb tb wb ab B->Q .normal (puts a0 (prs c dk f mb tb wb ab)) w):(Code.region id ops4 true).wp prog Q a0 w0:=by
 refine zfr dl4 131 (Ph c dk f) (by kernel_rfl) (by kernel_rfl) (by kernel_rfl) hz hPh (fun i o ho r a w hf hsame hv hd=> ?_) (fun r B w hf hP hnew hap=> ?_)
 .have s2:=(hsame 2 (by decide)).trans t2;have s4:=(hsame 4 (by decide)).trans t4;have s10:=(hsame 10 (by decide)).trans t10;obtain⟨_,k0,k1,k2,k3⟩:=hcf.keep hf
  match i,ho with
  |0,ho=>cases ho;exact zag (zph _ rfl s4 k0 k1 k2 k3) ⟨_,[],rfl,Fr.refl _ _,fun _ e _=>e,by simp⟩
  |1,ho=>cases ho;exact zag (zcg _ rfl) ⟨_,[],rfl,Fr.refl _ _,fun _ e _=>e.trans s2,by simp⟩
  |2,ho=>cases ho;exact zag (zcg _ rfl) ⟨_,[],rfl,Fr.refl _ _,fun _ e _=>e.trans s10,by simp⟩
  |3,ho=>
   cases ho;refine zbg (rn3 rfl rfl) (Calls.mono (zahr w) ?_);rintro e w'⟨tb,B,rfl,hT,hB,hf'⟩;exact⟨_,rfl,_,B,rfl,hf',fun _ e _=>⟨tb,e,hT⟩,fun x hx=>⟨hB x hx,hT.mine x hx⟩⟩
  |4,ho=>cases ho;exact zag (rn4 rfl (by simp)) ⟨_,[w.heap.size],rfl,Fr.alloc _ _ _,fun _ e _=>⟨_,e,rfl,MapG.made w⟩,by simp⟩
  |5,ho=>cases ho;exact zag (rn4 rfl (by simp)) ⟨_,[w.heap.size],rfl,Fr.alloc _ _ _,fun _ e _=>⟨_,e⟩,by simp⟩
  |6,ho=>
   cases ho;obtain⟨_,p0⟩:=hd 0 (by kernel_rfl);obtain⟨_,p1⟩:=hd 1 (by kernel_rfl);obtain⟨_,p2⟩:=hd 2 (by kernel_rfl);obtain⟨_,tb,p3,_⟩:=hd 3 (by kernel_rfl);obtain⟨_,wb,p4,_⟩:=hd 4 (by kernel_rfl);obtain⟨_,ab,p5⟩:=hd 5 (by kernel_rfl);exact zag (rn6 rfl ((hv 0 36 (by kernel_rfl) rfl).trans p0) (hv 1 37 (by kernel_rfl) rfl) (hv 2 38 (by kernel_rfl) rfl) (hv 3 39 (by kernel_rfl) rfl) (hv 4 40 (by kernel_rfl) rfl) (hv 5 41 (by kernel_rfl) rfl) ⟨_,p1⟩ ⟨_,p2⟩ ⟨_,p3⟩ ⟨_,p4⟩ ⟨_,p5⟩) ⟨_,[],rfl,Fr.refl _ _,fun r' e q=>by
    show r' 6=_;rw[e,q 1 (by kernel_rfl),q 2 (by kernel_rfl),q 3 (by kernel_rfl),q 4 (by kernel_rfl),q 5 (by kernel_rfl)],by simp⟩
  |7,ho=>
   cases ho;obtain⟨_,p6⟩:=hd 6 (by kernel_rfl);exact zag (rn7 rfl ((hv 6 42 (by kernel_rfl) rfl).trans p6)) ⟨_,[w.heap.size],rfl,Fr.alloc _ _ _,fun r' e q=>⟨_,_,(q 6 (by kernel_rfl)).trans p6,e,rfl,heap_alloc_new _ _⟩,by simp⟩
  |8,ho=>cases ho;exact zag (zbp _ rfl) ⟨_,[],rfl,Fr.refl _ _,fun r' e q=>by
    show r' 8=r' 7;rw[e,q 7 (by kernel_rfl)];exact hv 7 43 (by kernel_rfl) rfl,by simp⟩
  |n+9,ho=>cases ho
 have p0:=hP 0 (by decide);have p1:=hP 1 (by decide);have p2:=hP 2 (by decide);obtain⟨tb,p3,q3⟩:=hP 3 (by decide);obtain⟨wb,p4,q4,r4⟩:=hP 4 (by decide);obtain⟨ab,p5⟩:=hP 5 (by decide);have p6:=hP 6 (by decide);obtain⟨mb,cells,p7,q7,r7,s7⟩:=hP 7 (by decide);have p8:=hP 8 (by decide);simp only[Ph]at p0 p1 p2 p6 p8;rw[p1,p2,p3,p4,p5]at p6
 rw[p6]at p7
 cases p7;have hw:wb∈B 4:=by rw[q4];simp
 have hm:mb∈B 7:=by rw[r7];simp
 have hM:MadeM w0 w c dk f (.pointer (some ⟨mb,0,none⟩)) mb tb wb ab (B 3):=⟨rfl,hf,s7,q3,r4,(hnew 7 (by decide) mb hm).1,(hnew 4 (by decide) wb hw).1,fun j hj=>(hnew 3 (by decide) j hj).1,hap 4 3 (by decide) (by decide) (by decide) wb hw,hap 7 3 (by decide) (by decide) (by decide) mb hm,fun e=>hap 7 4 (by decide) (by decide) (by decide) mb hm (by rw[e];exact hw)⟩;have e:zbt dl4 ((List.range ops4.size).map r)=prs c dk f mb tb wb ab:=by
  show [(36,r 0),(37,r 1),(38,r 2),(39,r 3),(40,r 4),(41,r 5),(42,r 6),(43,r 7),(12,r 8)]=_;rw[p8,q7,p6,p5,p4,p3,p2,p1,p0];rfl
 rw[e];exact hend w mb tb wb ab (B 3) hM
end Mk
end Go.Proofs.YtojjdnjfaelnfaaGreatDoor
