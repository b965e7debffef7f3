/- Contracts and lemmas. -/
import Derived.Test.YtaigdcmoecgabaaGreatGp7
import Derived.Deep.RegionHeldLaw
set_option maxHeartbeats 8000000
set_option maxRecDepth 100000
namespace Go.Proofs.YtaigdcmoecgabaaGreat
set_option linter.unusedSimpArgs false
set_option linter.unusedVariables false
section
open Go.ChangeShapes Go.WideShapes Go.ChangeAt Go.RowKit Go.Lib Go.Maps Go.Sort Go.Shelf
open Classical in
noncomputable def Dt.mid (D:Dt) (nn:Int) (ys:List Int):Dt:={D with bh:=fun m=>if m∈ys then D.bh m++[nn] else D.bh m,wt:=fun a m=>D.wt a m\/(a=nn/\m∈ys)}
open Classical in
theorem Dt.mid_nil(D:Dt)(nn:Int):D.mid nn []=D:=by
 unfold Dt.mid;cases D;simp
open Classical in
theorem Dt.mid_snoc(D:Dt)(nn m:Int)(ys:List Int)(h:m∉ys):((D.mid nn ys).wait nn m).behind m nn=D.mid nn (ys++[m]):=by
 unfold Dt.mid Dt.wait Dt.behind;simp only[Dt.mk.injEq,true_and];constructor
 .funext y
  by_cases hy:y=m
  .subst hy;simp[h]
  simp[hy]
 funext x y
 simp only[List.mem_append,List.mem_singleton,eq_iff_iff];constructor
 .rintro ((h1|h1)|h1)
  .exact Or.inl h1
  .exact Or.inr ⟨h1.1,Or.inl h1.2⟩
  exact Or.inr ⟨h1.1,Or.inr h1.2⟩
 rintro (h1|⟨h1,h2|h2⟩)
 .exact Or.inl (Or.inl h1)
 .exact Or.inl (Or.inr ⟨h1,h2⟩)
 exact Or.inr ⟨h1,h2⟩
open Classical in
noncomputable def Dt.wroteAll (D:Dt) (ks:List ByteArray) (nn:Int):Dt:={D with last:=fun k=>if k∈ks then nn else D.last k}
open Classical in
theorem Dt.wroteAll_nil(D:Dt)(nn:Int):D.wroteAll [] nn=D:=by
 unfold Dt.wroteAll;cases D;simp
open Classical in
theorem Dt.wroteAll_snoc(D:Dt)(key:ByteArray)(nn:Int)(ks:List ByteArray):(D.wroteAll ks nn).wrote key nn=D.wroteAll (ks++[key]) nn:=by
 unfold Dt.wroteAll Dt.wrote;simp only[Dt.mk.injEq,and_true]
 funext k
 by_cases hk:k=key
 .subst hk;simp
 simp[hk]
open Classical in
theorem Dt.add_is(D:Dt)(nn:Int)(ks:List ByteArray)(xs:List Int):{ (((D.mid nn xs).wroteAll ks nn).opened nn xs) with newest:=nn}=D.add nn ks xs:=rfl
theorem zqm(ws:List Wt)(i:Nat)(h:i<ws.length):zaq (ws.take (i+1))=zaq (ws.take i)++[(ws.getD i Wt.zero).key]:=by
 unfold zaq;rw[List.take_add_one,List.map_append]
 congr 1
 simp[List.getD,h]
theorem zbg{S:List Nat}{w w':World}(hf:Fr S w w'){k o:Nat}{x:Value}(hc:w.cell? ⟨k,o,none⟩=some x)(hl:k<w.heap.size)(hn:k∉S):w'.cell? ⟨k,o,none⟩=some x:=(World.cell?_of_block (hf.block k hl hn)).trans hc
theorem zmg(ns:List Int)(i:Nat)(h:i<ns.length):ns.take (i+1)=ns.take i++[ns.getD i 0]:=by
 rw[List.take_add_one];simp[List.getD,h]
theorem zmh(xs:List Int)(h:Ris xs)(i:Nat)(hi:i<xs.length):xs.getD i 0∉xs.take i:=by
 intro hm;obtain⟨j,hj,e⟩:=List.mem_iff_getElem.1 hm;rw[List.getElem_take]at e
 have hj2:j<i:=by rw[List.length_take]at hj;omega
 have:=List.pairwise_iff_getElem.1 h j i (by omega) hi hj2;rw[e]at this
 simp[List.getD,hi]at this
theorem zsh{w:World}{tb lb ob wb:Nat}{B:List Nat}{n:Nat}{D:Dt}{E:Int->Option En}(h:TbI w tb lb ob wb B n D E)(m nn:Int)(hm:D.op m)(hmi:i64 m)(hni:i64 nn)(hn:n<1099511627776)(hb:(D.bh m).length<1099511627776) :
  ∃eg bo bn bc,bn<1099511627776/\eg∈B/\eg≠tb/\(∀k,(Value.slice bo bn bc).ownBlock=some k->k∈B) /\
   ∀W,Fr [] w W->(∃w1,(Instr.mapUpdate 206 (.map (some wb)) (.agg #[.int .i64 nn,.int .i64 m]) (.agg #[])).run Tryz.prog W=.ok () w1/\(Fr [wb] W w1 /\
    (∀V,Fr [] w1 V->(Instr.lookup 203 (.map (some ob)) (.int .i64 m) false).run Tryz.prog V=.ok (.pointer (some ⟨eg,0,none⟩)) V/\V.cell? ⟨eg,1,none⟩=some (.slice bo bn bc)/\V.cell? ⟨tb,2,none⟩=some (.map (some ob)) /\
     IOw 0 V bo bn bc (D.bh m) /\
     ∀V' o' c',IOw 0 V' o' (bn+1) c' (D.bh m++[nn])->Fr (Value.slice bo bn bc).ownBlock.toList V V'->(∀g,(Value.slice o' (bn+1) c').ownBlock=some g->(Value.slice bo bn bc).ownBlock=some g\/V.heap.size<=g) ->
      (V'.cell? ⟨eg,1,none⟩=some (.slice bo bn bc)/\V'.frozen? ⟨eg,1,none⟩=false) /\
      (Instr.lookup 203 (.map (some ob)) (.int .i64 m) false).run Tryz.prog V'=.ok (.pointer (some ⟨eg,0,none⟩)) V'/\V'.cell? ⟨tb,2,none⟩=some (.map (some ob))/\∃B' E',TbI (V'.setCell ⟨eg,1,none⟩ (.slice o' (bn+1) c')) tb lb ob wb B' (n+1) ((D.wait nn m).behind m nn) E'/\(∀j∈B',j∈B\/w.heap.size<=j)/\Fr B w (V'.setCell ⟨eg,1,none⟩ (.slice o' (bn+1) c'))))):=by
 obtain⟨e,he⟩:∃e,E m=some e:=Option.isSome_iff_exists.1 ((h.opn m).2 hm);obtain⟨h1,h2,h3,h4,h5,h6⟩:=h.ent m e he;have hmx:1099511627776<=maxLen:=by unfold maxLen;omega
 refine⟨e.g,e.b.o,e.b.n,e.b.c,by rw[h4.len];exact hb,h2,zau h1 h.box (by decide),h6,fun W hW=> ?_⟩;obtain⟨w1,hrun,hT,hF⟩:=(h.keep hW (by simp)).storeW nn m hni hmi (by omega);refine⟨w1,hrun,hF,fun V hV=> ?_⟩;have hTV:=hT.keep hV (by simp);obtain⟨g1,g2,g3,g4,g5,g6⟩:=hTV.ent m e he;refine⟨hTV.lookE m hmi e he,by rw[crw g1];rfl,hTV.c2,g4,fun V' o' c' f1 f2 f3=> ?_⟩;obtain⟨B',k1,k2,k3,k4,k5⟩:=hTV.behind m nn e he f1 f2 f3;have hob:ob∉e.b.bl.toList:=fun hj=>by
  obtain⟨_,cur,hc⟩:=g4.blk (Option.mem_toList.1 hj);exact zai hc hTV.bO rfl
 have htb:tb∉e.b.bl.toList:=fun hj=>by
  obtain⟨_,cur,hc⟩:=g4.blk (Option.mem_toList.1 hj);exact zau hc hTV.box (by decide) rfl
 have hlk:=(hTV.mapO.keep f2 hob).look m hmi;rw[he]at hlk
 refine⟨k5,hlk,zbg f2 hTV.c2 (lt_of_block hTV.box) htb,B',_,k1,fun j hj=> ?_,?_⟩
 .rcases k2 j hj with h7|h7
  .exact Or.inl h7
  exact Or.inr (Nat.le_trans (Nat.le_trans hW.size hF.size) (Nat.le_trans hV.size h7))
 exact ((hW.trans hF (U:=B) (by simp) (fun x hx _=>by simp at hx;rw[hx];exact h.bw)).trans hV (fun x hx _=>hx) (by simp)).trans k3 (fun x hx _=>hx) (fun x hx _=>hx)
theorem zvj{tb:Nat}{B:List Nat}{n:Nat}{D:Dt}(nn:Int)(wo:Option Addr)(M mc:Nat)(ws:List Wt)(w:World)(h:Tb w tb B n D)(G:Good D)(hW:WRs w wo ws)(hM:M=ws.length)(hok:okT nn ws)(hnew:D.newest<nn)(hop:¬D.op nn)(hn:n<1073741824)(hWB:0<ws.length->∀a,wo=some a->a.block∉B) :
  Calls Tryz.prog 256 #[.pointer (some ⟨tb,0,none⟩),.agg #[.int .i64 nn,.slice wo M mc]] w fun e w'=>∃xs B',e=.returned (.tuple #[.int .i64 ((xs.length:Nat):Int),.int .i64 0])/\AhT D (zaq ws) xs/\Tb w' tb B' (n+65) (D.add nn (zaq ws) xs)/\(∀j∈B',j∈B\/w.heap.size<=j)/\Fr B w w':=by
 have hni:i64 nn:=.of ⟨hok.1,hok.2.1⟩;have hM32:M<=32:=by rw[hM];exact hok.2.2.1
 obtain⟨w0,HW0⟩:∃w0,Hid (w.alloc (.cells #[.int .i64 nn,.slice wo M mc] 54)=w0):=⟨_,rfl⟩;have hF0:Fr [] w w0:=by rw[<-HW0.out];exact Fr.alloc [] w _
 have hb0:w0.heap[w.heap.size]? = some (.cells #[.int .i64 nn,.slice wo M mc] 54 (0,0)):=by rw[<-HW0.out];exact heap_alloc_new w _
 have hs0:w.heap.size<w0.heap.size:=lt_of_block hb0;have HBX:Hid (∀W S,Fr S w0 W->(w.heap.size∉S)->W.cell? ⟨w.heap.size,0,none⟩=some (.int .i64 nn)/\W.cell? ⟨w.heap.size,1,none⟩=some (.slice wo M mc)):=fun W S hf hS=>by
  have hb:=hf.keep hb0 hS;exact⟨by rw[crw hb];rfl,by rw[crw hb];rfl⟩
 obtain⟨lb,ob,wb,E,hT⟩:=h;have HT0:Hid (TbI w tb lb ob wb B n D E):=hT;have HG:Hid (Good D):=G;have HM:Hid (M=ws.length):=hM;have HOK:Hid (okT nn ws):=hok;have HNo:Hid (¬D.op nn):=hop;have HNe:Hid (D.newest<nn):=hnew;have hnl:nn<=65536:=hok.2.1;have hn1:1<=nn:=hok.1;have HWr:Hid (∀W,Fr B w W->WRs W wo ws):=fun W hf=>hW.keepS hf hWB;have HBn:Hid (∀j∈B,j<w.heap.size):=hT.mine;obtain⟨N0,hN0⟩:∃N0,N0=D.newest:=⟨_,rfl⟩;have hlt0:N0<nn:=by rw[hN0];exact hnew
 have hb00:=hT.few;rw[<-hN0]at hb00
 have HT1:Hid (∀W,Fr [] w W->W.cell? ⟨tb,1,none⟩=some (.int .i64 N0)):=fun W hf=>by rw[hN0];exact (hT.keep hf (by simp)).c1
 have HTb:Hid (∀W,Fr [] w W->Tb W tb B n D):=fun W hf=>⟨_,_,_,_,hT.keep hf (by simp)⟩;clear hT G hM hok hop hnew hW hWB hb0 hN0;go_enter Tryz.func256,Tryz.ntmps256;go_upto_region 1 with fail
 rw[HW0.out];clear HW0;go_wp2_with fail
 refine (zgp _ (HTb.out _ hF0)).mono ?_;rintro e w1⟨rfl,hF1⟩;have hG1:=hF0.then hF1;obtain⟨d0,d1⟩:=HBX.out w1 [] hF1 (by simp);go_wp2_with fail
 refine (zee nn wo M mc 0 ws _ (HWr.out _ (hG1.mono (by simp))) HM.out hni.1 hni.2 (Or.inl ⟨HOK.out,rfl⟩)).mono ?_;rintro e w2⟨rfl,hF2⟩;have hG2:=hG1.then hF2;have hF02:=hF1.then hF2;clear d0 d1 hG1 hF1 hF2;obtain⟨d0,d1⟩:=HBX.out w2 [] hF02 (by simp);have t1:=HT1.out _ hG2;have hle:decide (nn<=N0)=false:=by simp;omega
 go_wp2_with fail
 go_quiet (fail)
 obtain⟨w3,HW3⟩:∃w3,Hid (w2.drewN nq=w3):=⟨_,rfl⟩;rw[HW3.out];have hG3:Fr [] w w3:=by rw[<-HW3.out];exact hG2.then (Fr.drewN _ _ _)
 have hF03:Fr [] w0 w3:=by rw[<-HW3.out];exact hF02.then (Fr.drewN _ _ _)
 clear HW3 d0 d1 t1 hG2 hF02;obtain⟨d0,d1⟩:=HBX.out w3 [] hF03 (by simp);go_wp2_with fail
 refine (zmf wo M mc ws _ (HTb.out _ hG3) (HWr.out _ (hG3.mono (by simp))) HM.out (by omega) HG.out.last).mono ?_;rintro e w4⟨so,N,c,xs,rfl,hO,hA,hNM,hF4⟩;have hG4:=hG3.then hF4;have hF04:=hF03.then hF4;have HA:Hid (AhT D (zaq ws) xs):=hA;have HN:Hid (N=xs.length):=hO.len;have HR:Hid (∀W,Fr B w4 W->IOw w3.heap.size W so N c xs):=fun W hf=>hO.keepS hf (fun k hk hB=>by
  have:=(hO.blk hk).1;have:=HBn.out k hB;have:=hG3.size;omega)
 have HOb:Hid (∀k,(Value.slice so N c).ownBlock=some k->w.heap.size<=k/\k<w4.heap.size):=fun k hk=>by
  obtain⟨h1,cur,h2⟩:=hO.blk hk;exact⟨Nat.le_trans hG3.size h1,lt_of_block h2⟩
 have HT4:Hid (TbI w4 tb lb ob wb B n D E):=HT0.out.keep hG4 (by simp);have hNf:N<=32:=by omega
 clear hO hA hF4 d0 d1 hG3 hF03 HT0;have HX0:Hid (∀W,Fr B w4 W->W.cell? ⟨w.heap.size,0,none⟩=some (.int .i64 nn)/\W.cell? ⟨w.heap.size,1,none⟩=some (.slice wo M mc)):=fun W hf=>HBX.out W B ((hF04.mono (by simp)).then hf) (fun hj=>by have:=HBn.out _ hj;omega);have hX4:=HX0.out w4 (Fr.refl _ _);obtain⟨x40,x41⟩:=hX4;go_wp2_with fail
 go_loopw [30] (fun ii wr=>∃(i:Nat)(Bi:List Nat)(Ei:Int->Option En),ii=.int .i64 i/\i<=N/\Hid (TbI wr tb lb ob wb Bi (n+i) (D.mid nn (xs.take i)) Ei)/\Hid (∀j∈Bi,j∈B\/w4.heap.size<=j)/\Hid (Fr B w4 wr)) (fun ii _=>N-(RowKit.intOf ii).toNat)
 case atStart=>exact⟨0,B,E,rfl,Nat.zero_le _,(by rw[List.take_zero,Dt.mid_nil];exact HT4.out),fun j hj=>Or.inl hj,Fr.refl _ _⟩
 obtain⟨i,Bi,Ei,rfl,hiN,HTi,HBi,HFi⟩:=hrel;by_cases hi:i<N
 .obtain⟨g,rfl,_,_,hcs⟩:=(HR.out wr HFi.out).cells (by omega);have hg:=hcs i hi;have hil:i<xs.length:=by rw[<-HN.out];exact hi
  obtain⟨m,hme⟩:∃m,m=xs.getD i 0:=⟨_,rfl⟩;rw[<-hme]at hg
  have hmx:m∈xs:=by rw[hme];exact zhw xs i hil
  have hmo:D.op m:=((HA.out.2 m).1 hmx).1;have hmg:=HG.out.op m hmo;have hmi:i64 m:=.of hmg;have hnt:m∉xs.take i:=by rw[hme];exact zmh xs HA.out.1 i hil
  have hbm:((D.mid nn (xs.take i)).bh m).length<1099511627776:=by
   show (if m∈xs.take i then D.bh m++[nn] else D.bh m).length<_;rw[if_neg hnt];have:=(HG.out.bh m hmo).1;omega
  obtain⟨eg,bo,bn,bc,hbn,hegB,hegt,hown,hU⟩:=zsh HTi.out m nn hmo hmi hni (by omega) hbm;have c3:=HTi.out.c3;obtain⟨x0,x1⟩:=HX0.out wr HFi.out;have HBs:Hid (∀B':List Nat,(∀j∈B',j∈Bi\/wr.heap.size<=j)->Hid (∀j∈B',j∈B\/w4.heap.size<=j)):=fun B' h j hj=>by
   rcases h j hj with h1|h1
   .exact HBi.out j h1
   exact Or.inr (Nat.le_trans HFi.out.size h1)
  have HFs:Hid (∀(S:List Nat)(W:World),S=Bi->Fr S wr W->Hid (Fr B w4 W)):=fun S W e hf=>HFi.out.trans hf (fun x hx _=>hx) (fun x hx hl=>by
   rw[e]at hx
   rcases HBi.out x hx with h1|h1
   .exact h1
   omega)
  have HS:Hid (((D.mid nn (xs.take i)).wait nn m).behind m nn=D.mid nn (xs.take (i+1))):=by
   rw[zmg xs i hil,<-hme];exact Dt.mid_snoc D nn m _ hnt
  have hwX:¬w.heap.size=wb:=fun e=>by
   rcases HBi.out wb HTi.out.bw with h1|h1
   .have:=HBn.out _ h1;omega
   have:=hG4.size;have:=hF04.size;omega
  have htw:¬tb=wb:=zai HTi.out.box HTi.out.bW;obtain⟨w5,hr5,hF5,hV5⟩:=hU wr.drew (Fr.drew _ _);have e0:=zbg hF5 (w:=wr.drew) c3 (lt_of_block HTi.out.box) (by simpa using htw);have e1:=zbg hF5 (w:=wr.drew) x0 (World.block_lt_of_cell? wr _ (by rw[x0])) (by simpa using hwX);have HV5:Hid (∀V,Fr [] w5 V->_):=hV5;have HF5:Hid (Fr [wb] wr.drew w5):=hF5;clear hcs hme hnt hbm hU hmx hV5 hF5;go_upto_region 11 with fail
  go_region_held3 (fun W=>W.cell? ⟨tb,3,none⟩=some (.map (some wb))/\W.cell? ⟨w.heap.size,0,none⟩=some (.int .i64 nn)) (go_keep) (fail)
  obtain⟨l5,b5,o5,i5,r5⟩:=HV5.out w5.drew (Fr.drew _ _);obtain⟨l6,b6,o6,i6,r6⟩:=HV5.out (w5.alloc (.cells #[.int .i64 nn] 3)).drew ((Fr.alloc _ _ _).then (Fr.drew _ _));have HI6:Hid (_/\_):=⟨i6,r6⟩;have hxl:w.heap.size<w5.heap.size:=World.block_lt_of_cell? w5 _ (by rw[e1]);have HFar:Hid (∀V',Fr (Value.slice bo bn bc).ownBlock.toList (w5.alloc (.cells #[.int .i64 nn] 3)).drew V'->V'.cell? ⟨w.heap.size,0,none⟩=some (.int .i64 nn)):=by
   intro V' hf;have hfa:Fr [] w5 (w5.alloc (.cells #[.int .i64 nn] 3)).drew:=(Fr.alloc _ _ _).then (Fr.drew _ _);refine zbg hf (zbg hfa e1 hxl (by simp)) (Nat.lt_of_lt_of_le hxl hfa.size) (fun hj=> ?_);rcases HBi.out _ (hown _ (Option.mem_toList.1 hj)) with h1|h1
   .have:=HBn.out _ h1;omega
   have:=hG4.size;have:=hF04.size;omega
  have hq1:¬tb=eg:=fun e=>hegt e.symm;have hq2:¬eg=tb:=hegt;have hegx:eg≠w.heap.size:=fun e=>by
   rcases HBi.out eg hegB with h1|h1
   .have:=HBn.out _ h1;omega
   have:=hG4.size;have:=hF04.size;omega
  have hq3:¬w.heap.size=eg:=fun e=>hegx e.symm;have hq4:¬eg=w.heap.size:=hegx;obtain⟨o',c',V',hr,f1,f2,f3⟩:=zmc 0 _ 28 bo bn bc _ i6 ⟨w5.heap.size,0,none⟩ 1 nn (zec _ _ _) (by omega) (Nat.zero_le _);obtain⟨⟨k1,k2⟩,z2,z0,B',E',k3,k4,k5⟩:=r6 V' o' c' f1 f2 f3;have z1:=HFar.out V' f2;obtain⟨v7,hv7⟩:∃v7,v7=Value.slice bo bn bc:=⟨_,rfl⟩;rw[<-hv7]at hr b5 b6 k1
  have HV7:Hid (v7=Value.slice bo bn bc):=hv7;have HZ:Hid (_/\_/\_):=⟨k3,k4,k5⟩;clear i5 r5 i6 r6 hegt hegx hv7 f1 f2 f3 k3 k4 k5;simp[go_sem]at hr
  go_upto_region 12 with fail
  go_region
  all_goals (go_wp2;exact⟨⟨i+1,B',E',rfl,by omega,(by rw[<-HS.out,<-Nat.add_assoc];exact HZ.out.1),HBs.out B' HZ.out.2.1,HFs.out Bi _ rfl HZ.out.2.2⟩,by simp[RowKit.intOf];omega⟩)
 obtain rfl:N=i:=by omega
 rw[List.take_of_length_le (by rw[<-HN.out];exact Nat.le_refl _)]at HTi
 obtain⟨wp,hwp⟩:∃wp,wp=wr:=⟨_,rfl⟩;subst hwp;obtain⟨x0,x1⟩:=HX0.out wp HFi.out;have HK:Hid (zaq (ws.take 0)=[]):=rfl;have hXB:w.heap.size∉Bi:=fun hj=>by
  rcases HBi.out _ hj with h1|h1
  .have:=HBn.out _ h1;omega
  have:=hG4.size;have:=hF04.size;omega
 have HXB:Hid (w.heap.size∉Bi):=hXB;have HFs:Hid (∀(S:List Nat)(W:World),(∀j∈S,j∈Bi)->Fr S wp W->Hid (Fr B w4 W)):=fun S W e hf=>HFi.out.trans hf (fun x hx _=>hx) (fun x hx hl=>by
  rcases HBi.out x (e x hx) with h1|h1
  .exact h1
  omega)
 clear hXB;go_wp2_with fail
 go_loopw [68] (fun ii wr=>∃(i:Nat),ii=.int .i64 i/\i<=M/\Hid (TbI wr tb lb ob wb Bi (n+32+i) ((D.mid nn xs).wroteAll (zaq (ws.take i)) nn) Ei)/\Hid (Fr [lb] wp wr)) (fun ii _=>M-(RowKit.intOf ii).toNat)
 case atStart=>exact⟨0,rfl,Nat.zero_le _,(by rw[List.take_zero,show zaq []=[] from rfl,Dt.wroteAll_nil];exact HTi.out.mono (by omega)),Fr.refl _ _⟩
 obtain⟨i,rfl,hiM,HTj,HFj⟩:=hrel;have hFB:Fr B w4 wr:=(HFs.out [lb] wr (by simpa using HTi.out.bl) HFj.out).out;have hwB:Fr B w wr:=(hG4.mono (by simp)).then hFB;obtain⟨y0,y1⟩:=HX0.out wr hFB;by_cases hi:i<M
 .have hi':i<ws.length:=by rw[<-HM.out];exact hi
  obtain⟨b2,o2,e2,_,hc2⟩:=(HWr.out _ hwB).lies (by omega);obtain⟨d0,d1,d2⟩:=hc2 i hi';have hm:=ziw ws i hi';have hkz:=((HWr.out _ hwB).each _ hm).1;obtain⟨y,hyy⟩:∃y,y=ws.getD i Wt.zero:=⟨_,rfl⟩;rw[<-hyy]at d0 d1 d2 hkz
  have HS:Hid (((D.mid nn xs).wroteAll (zaq (ws.take i)) nn).wrote y.key nn=(D.mid nn xs).wroteAll (zaq (ws.take (i+1))) nn):=by
   rw[show zaq (ws.take (i+1))=zaq (ws.take i)++[y.key] from by rw[hyy];exact zqm ws i hi'];exact Dt.wroteAll_snoc _ _ _ _
  obtain⟨key,val,drop⟩:=y;simp only at d0 d1 d2 hkz HS;clear hyy hc2 hm;subst e2;obtain⟨w6,HW6⟩:∃w6,Hid (wr.alloc (.cells #[.string key,.string val,.bool drop] 51)=w6):=⟨_,rfl⟩;have hF6:Fr [] wr w6:=by rw[<-HW6.out];exact Fr.alloc _ _ _
  have hT6:=HTj.out.keep hF6 (by simp);have t0:=hT6.c0;have hb6:w6.heap[wr.heap.size]? = some (.cells #[.string key,.string val,.bool drop] 51 (0,0)):=by rw[<-HW6.out];exact heap_alloc_new _ _
  have k0:w6.cell? ⟨wr.heap.size,0,none⟩=some (.string key):=by rw[crw hb6];rfl
  have hxlt:w.heap.size<wr.heap.size:=World.block_lt_of_cell? wr _ (by rw[y0]);have y6:w6.cell? ⟨w.heap.size,0,none⟩=some (.int .i64 nn):=zbg hF6 y0 hxlt (by simp);obtain⟨w7,hr7,hT7,hF7⟩:=(hT6.keep (Fr.drew [] w6) (by simp)).storeL key nn (by unfold maxLen;omega) (by unfold maxLen;omega);have q0:=hT7.c0;have hlx:w.heap.size∉[lb]:=by simpa using fun e=>HXB.out (by rw[e];exact HTi.out.bl)
  have hlk:wr.heap.size∉[lb]:=by simpa using fun e=>by have:=HTj.out.mine lb HTi.out.bl;omega
  have q1:w7.cell? ⟨w.heap.size,0,none⟩=some (.int .i64 nn):=zbg hF7 y6 (Nat.lt_of_lt_of_le hxlt hF6.size) hlx;have q2:w7.cell? ⟨wr.heap.size,0,none⟩=some (.string key):=zbg hF7 k0 (lt_of_block hb6) hlk;have HR:Hid (_/\_):=⟨hT7,(HFj.out.trans (hF6.mono (T:=[lb]) (by simp)) (fun x hx _=>hx) (fun x hx _=>hx)).trans ((Fr.drew [lb] w6).then hF7) (fun x hx _=>hx) (fun x hx _=>hx)⟩;rw[HS.out]at HR
  clear hT6 hT7 hF7 hF6 hb6 hlx hlk HS hxlt hwB hFB;go_upto_region 17 with fail
  rw[HW6.out];clear HW6;go_region_held3 (fun W=>W.cell? ⟨tb,0,none⟩=some (.map (some lb))/\W.cell? ⟨w.heap.size,0,none⟩=some (.int .i64 nn)/\W.cell? ⟨wr.heap.size,0,none⟩=some (.string key)) (go_keep) (fail)
  go_wp2_with fail
  go_roundw;case rel=>exact⟨i+1,rfl,by omega,(by rw[<-Nat.add_assoc];exact HR.out.1),HR.out.2⟩
  case measure=>simp[RowKit.intOf];omega
 obtain rfl:M=i:=by omega
 rw[List.take_of_length_le (by rw[<-HM.out];exact Nat.le_refl _)]at HTj
 obtain⟨w6,hw6⟩:∃w6,w6=wr.alloc (.cells #[.slice so N c,.slice none 0 0] 363):=⟨_,rfl⟩;have hF6:Fr [] wr w6:=by rw[hw6];exact Fr.alloc _ _ _
 have hT6:=(HTj.out.keep hF6 (by simp)).keep (Fr.drew [] w6) (by simp);have hb6:w6.drew.heap[wr.heap.size]? = some (.cells #[.slice so N c,.slice none 0 0] 363 (0,0)):=by rw[hw6];exact heap_alloc_new _ _
 have hO6:IOw 0 w6.drew so N c xs:=((HR.out wr hFB).low (Nat.zero_le _)).keep (hF6.then (Fr.drew _ _));have hEn:Ei nn=none:=by
  cases hE:Ei nn with
  |none=>rfl
  |some e=>exact absurd ((HTj.out.opn nn).1 (by rw[hE];rfl)) HNo.out
 have hoB:∀k,(Value.slice so N c).ownBlock=some k->k∉Bi:=fun k hk hj=>by
  have:=HOb.out k hk;rcases HBi.out k hj with h1|h1
  .have:=HBn.out k h1;omega
  omega
 obtain⟨w7,hr7,hT7,hF7⟩:=hT6.storeO nn hni (by unfold maxLen;omega) hEn wr.heap.size ⟨so,N,c⟩ xs hb6 (fun hj=>by have:=HTj.out.mine _ hj;omega) hO6 hoB;have hxlt:w.heap.size<wr.heap.size:=World.block_lt_of_cell? wr _ (by rw[y0]);have hox:w.heap.size∉[ob]:=by simpa using fun e=>HXB.out (by rw[e];exact HTi.out.bo)
 have t2:=HTj.out.c2;have t6:=hT6.c2;have y6:w6.drew.cell? ⟨w.heap.size,0,none⟩=some (.int .i64 nn):=zbg (hF6.then (Fr.drew _ _)) y0 hxlt (by simp);have t7:=hT7.c2;have y7:w7.cell? ⟨w.heap.size,0,none⟩=some (.int .i64 nn):=zbg hF7 y6 (Nat.lt_of_lt_of_le hxlt hF6.size) hox;have t71:=hT7.c1;have z71:w7.frozen? ⟨tb,1,none⟩=false:=by unfold World.frozen?;rw[hT7.box];rfl
 obtain⟨hT8,hF8⟩:=hT7.setN nn ⟨by omega,hnl⟩;rw[Dt.add_is]at hT8
 have HR8:Hid (∃B',Tb (w7.setCell ⟨tb,1,none⟩ (.int .i64 nn)) tb B' (n+65) (D.add nn (zaq ws) xs)/\(∀j∈B',j∈B\/w.heap.size<=j)/\Fr B w (w7.setCell ⟨tb,1,none⟩ (.int .i64 nn))):=by
  refine⟨_,⟨lb,ob,wb,_,hT8.mono (by omega)⟩,fun j hj=> ?_,?_⟩
  .rcases List.mem_cons.1 hj with rfl|hj
   .exact Or.inr (by omega)
   rcases List.mem_append.1 hj with hj|hj
   .exact Or.inr (HOb.out j (Option.mem_toList.1 hj)).1
   rcases HBi.out j hj with h1|h1
   .exact Or.inl h1
   exact Or.inr (Nat.le_trans hG4.size h1)
  have f1:Fr Bi wr w7:=(hF6.mono (T:=Bi) (by simp)).then ((Fr.drew Bi w6).then (hF7.mono (by simpa using fun _=>HTi.out.bo)));have f2:Fr Bi wp (w7.setCell ⟨tb,1,none⟩ (.int .i64 nn)):=((HFj.out.mono (T:=Bi) (by simpa using fun _=>HTi.out.bl)).then f1).then (hF8.mono (by simpa using fun _=>HTi.out.bt));exact (hG4.mono (by simp)).then (HFs.out Bi _ (fun j hj=>hj) f2).out
 have hlN:Hid ((N:Int)=((xs.length:Nat):Int)):=by show (N:Int)=_;rw[HN.out]
 rw[hw6]at hr7 t6 y6
 clear hT6 hT7 hT8 hF6 hF7 hF8 hb6 hO6 hEn hoB hox hw6 hFB hwB;go_upto_region 19 with fail
 go_region_held3 (fun W=>W.cell? ⟨tb,2,none⟩=some (.map (some ob))/\W.cell? ⟨w.heap.size,0,none⟩=some (.int .i64 nn)) (go_keep) (fail)
 go_wp2;refine bodyPost_ret (results_tmp2 rfl _ _ _) rfl ?_;obtain⟨B',h1,h2,h3⟩:=HR8.out;refine⟨xs,B',?_,HA.out,h1,h2,h3⟩;rw[<-hlN.out];rfl
def Op11(L:Lg)(en:Int->Prop)(x:Int):Prop:=(∃p∈L,p.1=x)/\¬en x
def Tl(w:World)(tb:Nat)(B:List Nat)(n:Nat)(L:Lg)(en:Int->Prop):Prop:=∃D,Tb w tb B n D/\Inv D L en/\D.newest<=65536
section
variable{w w':World}{tb:Nat}{B:List Nat}{n:Nat}{L:Lg}{en:Int->Prop}
theorem Inv.op_eq{D:Dt}(h:Inv D L en):D.op=Op11 L en:=funext fun x=>propext (h.op x)
theorem Tl.keep{S:List Nat}(h:Tl w tb B n L en)(hf:Fr S w w')(hS:∀j∈B,j∉S):Tl w' tb B n L en:=by
 obtain⟨D,h1,h2⟩:=h;exact⟨D,h1.keep hf hS,h2⟩
theorem Tl.mine(h:Tl w tb B n L en):∀j∈B,j<w.heap.size:=by
 obtain⟨D,h1,h2⟩:=h;exact h1.mine
theorem zabq(w:World):Calls Tryz.prog 132 #[] w fun e w'=>∃tb B,e=.returned (.pointer (some ⟨tb,0,none⟩))/\Tl w' tb B 0 [] (fun _=>False)/\(∀j∈B,w.heap.size<=j)/\Fr [] w w':=by
 refine (zvi w).mono ?_;rintro e w'⟨tb,B,rfl,h1,h2,h3⟩;exact⟨tb,B,rfl,⟨_,h1,Inv.none,by show (0:Int)<=65536;omega⟩,h2,h3⟩
def AdT(L:Lg)(en:Int->Prop)(ks:List ByteArray)(xs:List Int):Prop:=Ris xs/\∀m,m∈xs↔Op11 L en m/\∃k∈ks,lst L k=m
theorem zabr(nn:Int)(wo:Option Addr)(M mc:Nat)(ws:List Wt)(w:World)(h:Tl w tb B n L en)(hW:WRs w wo ws)(hM:M=ws.length)(hok:okT nn ws)(hnew:∀p∈L,p.1<nn)(hn:n<1073741824)(hWB:0<ws.length->∀a,wo=some a->a.block∉B) :
  Calls Tryz.prog 256 #[.pointer (some ⟨tb,0,none⟩),.agg #[.int .i64 nn,.slice wo M mc]] w fun e w'=>∃xs B',e=.returned (.tuple #[.int .i64 ((xs.length:Nat):Int),.int .i64 0])/\AdT L en (zaq ws) xs/\Tl w' tb B' (n+65) (L++[(nn,zaq ws)]) en/\(∀j∈B',j∈B\/w.heap.size<=j)/\Fr B w w':=by
 obtain⟨D,h1,h2,h3⟩:=h;have hlt:D.newest<nn:=by
  rcases h2.tip with e|⟨p,hp,e⟩
  .have:=hok.1;omega
  have:=hnew p hp;omega
 refine (zvj nn wo M mc ws w h1 (h2.good h3) hW hM hok hlt (fun ho=> ?_) hn hWB).mono ?_
 .obtain⟨⟨p,hp,e⟩,_⟩:=(h2.op nn).1 ho;have:=hnew p hp;omega
 rintro e w'⟨xs,B',rfl,k1,k2,k3,k4⟩;refine⟨xs,B',rfl,⟨k1.1,fun m=> ?_⟩,⟨_,k2,h2.add hlt k1,hok.2.1⟩,k3,k4⟩;rw[k1.2 m,h2.op_eq];simp only[h2.last]
theorem zyv(w:World)(h:Tl w tb B n L en)(hn:n<1099511627776) :
  Calls Tryz.prog 81 #[.pointer (some ⟨tb,0,none⟩)] w fun e w'=>∃so N c ys,e=.returned (.slice so N c)/\IOw w.heap.size w' so N c ys/\Ris ys/\(∀x,x∈ys↔Op11 L en x)/\Fr [] w w':=by
 obtain⟨D,h1,h2,h3⟩:=h;rw[<-h2.op_eq];exact zsf w h1 (h2.good h3) hn
theorem zyw(m:Int)(w:World)(h:Tl w tb B n L en)(hm:Op11 L en m)(hf:∀y,Op11 L en y->¬Dep L m y) :
  Calls Tryz.prog 358 #[.pointer (some ⟨tb,0,none⟩),.int .i64 m] w fun e w'=>∃so N c zs,e=.returned (.tuple #[.slice so N c,.int .i64 0])/\IOw w.heap.size w' so N c zs/\DoT L (Op11 L en) m zs/\Tl w' tb B n L (fun x=>en x\/x=m)/\Fr B w w':=by
 obtain⟨D,h1,h2,h3⟩:=h;rw[<-h2.op_eq]at hm hf ⊢
 refine (zsi m w h1 (h2.good h3) hm (fun x hx hw=> ?_) (fun x hx=>(((h2.bh m hm).2 x).1 hx).1) (fun a ha=> ?_)).mono ?_
 .obtain⟨_,j1,j2⟩:=(h2.wt m x).1 hw;exact hf x j1 j2
 .obtain⟨j0,j1,j2⟩:=(h2.wt a m).1 ha;exact ((h2.bh m hm).2 a).2 ⟨j0,j2⟩
 rintro e w'⟨so,N,c,zs,rfl,k1,k2,k3,k4⟩;exact⟨so,N,c,zs,rfl,k1,k2.of h2 hm,⟨_,k3,h2.done hm hf,h3⟩,k4⟩
end
section
variable{w:World}{tb:Nat}{B:List Nat}{n:Nat}{L:Lg}{en:Int->Prop}
end
end
namespace Mk
open Go.ChangeShapes Go.WideShapes Go.ChangeAt Go.RowKit Go.Lib Go.Maps
def n0:Oper:={dst:=some 36,op:=Op.load 23 (Operand.tmp 4),type:=23,pos:= "machine.go:48",after:=#[],guard:=none}
def n1:Oper:={dst:=some 37,op:=Op.move (Operand.tmp 2),type:=59,pos:= "machine.go:48",after:=#[],guard:=none}
def n2:Oper:={dst:=some 38,op:=Op.move (Operand.tmp 10),type:=99,pos:= "machine.go:48",after:=#[],guard:=none}
def n3:Oper:={dst:=some 39,op:=Op.call {callee:=Callee.value (Operand.func 132),args:=#[],argTypes:=#[]},type:=100,pos:= "machine.go:48",after:=#[],guard:=none}
def n4:Oper:={dst:=some 40,op:=Op.makeMap 101 none,type:=101,pos:= "machine.go:48",after:=#[],guard:=none}
def n5:Oper:={dst:=some 41,op:=Op.makeMap 109 none,type:=109,pos:= "machine.go:48",after:=#[],guard:=none}
def n6:Oper:={dst:=some 42,op:=Op.build 111 #[(0,Operand.tmp 36),(1,Operand.tmp 37),(2,Operand.tmp 38),(3,Operand.tmp 39),(4,Operand.tmp 40),(13,Operand.tmp 41)],type:=111,pos:= "machine.go:48",after:=#[{on:=0,ground:=Ground.data},{on:=1,ground:=Ground.data},{on:=2,ground:=Ground.data},{on:=3,ground:=Ground.data},{on:=4,ground:=Ground.data},{on:=5,ground:=Ground.data}],guard:=none}
def n7:Oper:={dst:=some 43,op:=Op.box 111 (Operand.tmp 42),type:=92,pos:= "machine.go:48",after:=#[{on:=6,ground:=Ground.data}],guard:=none}
def n8:Oper:={dst:=some 12,op:=Op.assign (Operand.tmp 43),type:=92,pos:= "machine.go:48",after:=#[{on:=7,ground:=Ground.data},{on:=3,ground:=Ground.chain},{on:=0,ground:=Ground.phase},{on:=1,ground:=Ground.phase},{on:=2,ground:=Ground.phase},{on:=3,ground:=Ground.phase},{on:=4,ground:=Ground.phase},{on:=5,ground:=Ground.phase},{on:=6,ground:=Ground.phase},{on:=7,ground:=Ground.phase}],guard:=none}
def ops4:Array Oper:=#[n0,n1,n2,n3,n4,n5,n6,n7,n8]
def dl4:List Nat:=[36,37,38,39,40,41,42,43,12]
theorem dst4:∀i,zah ops4 i=dl4[i]?
 |0=>rfl
 |1=>rfl
 |2=>rfl
 |3=>rfl
 |4=>rfl
 |5=>rfl
 |6=>rfl
 |7=>rfl
 |8=>rfl
 |n+9=>by simp[zah,ops4,dl4]
theorem o4:∀(i:Nat)(o:Oper),ops4[i]? = some o->(i=0/\o=n0)\/(i=1/\o=n1)\/(i=2/\o=n2)\/(i=3/\o=n3)\/(i=4/\o=n4)\/(i=5/\o=n5)\/(i=6/\o=n6)\/(i=7/\o=n7)\/(i=8/\o=n8)
 |0,o,h=>by have h2:some n0=some o:=h;cases h2;simp
 |1,o,h=>by have h2:some n1=some o:=h;cases h2;simp
 |2,o,h=>by have h2:some n2=some o:=h;cases h2;simp
 |3,o,h=>by have h2:some n3=some o:=h;cases h2;simp
 |4,o,h=>by have h2:some n4=some o:=h;cases h2;simp
 |5,o,h=>by have h2:some n5=some o:=h;cases h2;simp
 |6,o,h=>by have h2:some n6=some o:=h;cases h2;simp
 |7,o,h=>by have h2:some n7=some o:=h;cases h2;simp
 |8,o,h=>by have h2:some n8=some o:=h;cases h2;simp
 |n+9,o,h=>by simp[ops4]at h
theorem hN4:∀i j d,zah ops4 i=some d->zah ops4 j=some d->i=j:=by
 intro i j d h1 h2;rw[dst4]at h1 h2
 have hi:=(List.getElem?_eq_some_iff.1 h1).1;have hj:=(List.getElem?_eq_some_iff.1 h2).1;have key:∀i,i<9->∀j,j<9->dl4[i]? = dl4[j]? -> i=j:=by decide
 exact key i hi j hj (h1.trans h2.symm)
theorem zadv:∀(i:Nat)(o:Oper),ops4[i]? = some o->∀e∈o.after,Region.binds .any e=true->e.on<i:=by
 intro i o h e he hb;have key:∀(k:Nat)(p:Oper),(p.after.all fun e=> !Region.binds .any e||decide (e.on<k))=true->∀e∈p.after,Region.binds .any e=true->e.on<k:=by
  intro k p hp e he hb;rw[Array.all_eq_true_iff_forall_mem]at hp
  have:=hp e he;simpa[hb]using this
 rcases o4 i o h with⟨rfl,rfl⟩|⟨rfl,rfl⟩|⟨rfl,rfl⟩|⟨rfl,rfl⟩|⟨rfl,rfl⟩|⟨rfl,rfl⟩|⟨rfl,rfl⟩|⟨rfl,rfl⟩|⟨rfl,rfl⟩
 .exact key 0 n0 (by simp[n0,Region.binds]) e he hb
 .exact key 1 n1 (by simp[n1,Region.binds]) e he hb
 .exact key 2 n2 (by simp[n2,Region.binds]) e he hb
 .exact key 3 n3 (by simp[n3,Region.binds]) e he hb
 .exact key 4 n4 (by simp[n4,Region.binds]) e he hb
 .exact key 5 n5 (by simp[n5,Region.binds]) e he hb
 .exact key 6 n6 (by simp[n6,Region.binds]) e he hb
 .exact key 7 n7 (by simp[n7,Region.binds]) e he hb
 exact key 8 n8 (by simp[n8,Region.binds]) e he hb
theorem hg4{a0:Act}(hz:a0.tmps.size=131):∀(i:Nat)(o:Oper),ops4[i]? = some o->o.guard=none/\∃d,o.dst=some d/\d<a0.tmps.size:=by
 intro i o h;rw[hz];rcases o4 i o h with⟨rfl,rfl⟩|⟨rfl,rfl⟩|⟨rfl,rfl⟩|⟨rfl,rfl⟩|⟨rfl,rfl⟩|⟨rfl,rfl⟩|⟨rfl,rfl⟩|⟨rfl,rfl⟩|⟨rfl,rfl⟩
 .exact⟨rfl,36,rfl,by decide⟩
 .exact⟨rfl,37,rfl,by decide⟩
 .exact⟨rfl,38,rfl,by decide⟩
 .exact⟨rfl,39,rfl,by decide⟩
 .exact⟨rfl,40,rfl,by decide⟩
 .exact⟨rfl,41,rfl,by decide⟩
 .exact⟨rfl,42,rfl,by decide⟩
 .exact⟨rfl,43,rfl,by decide⟩
 exact⟨rfl,12,rfl,by decide⟩
def Ph(c:Cf)(dk:Option Addr)(f b4:Nat):Nat->(Nat->Value)->List Nat->World->Prop
 |0,ρ,B,w=>B=[]/\ρ 36=.agg #[.int .i64 c.l,.int .i64 c.s,.int .i64 c.w,.int .i64 c.q]
 |1,ρ,B,w=>B=[]/\ρ 37=.pointer dk
 |2,ρ,B,w=>B=[]/\ρ 38=.pointer (some ⟨f,0,none⟩)
 |3,ρ,B,w=>∃tb,ρ 39=.pointer (some ⟨tb,0,none⟩)/\Tl w tb B 0 [] (fun _=>False)
 |4,ρ,B,w=>∃wb,ρ 40=.map (some wb)/\B=[wb]/\MapG kTx w wb 0 (fun _=>none)
 |5,ρ,B,w=>∃ab,ρ 41=.map (some ab)/\B=[ab]
 |6,ρ,B,w=>B=[]/\ρ 42=.agg #[.int .i64 c.l,.int .i64 c.s,.int .i64 c.w,.int .i64 c.q,ρ 37,ρ 38,ρ 39,ρ 40,.pointer none,.pointer none,.slice none 0 0,.slice none 0 0,.pointer none,.slice none 0 0,.slice none 0 0,.int .i64 0,ρ 41,.bool false,.bool false]
 |7,ρ,B,w=>∃sb cells,ρ 42=.agg cells/\ρ 43=.pointer (some ⟨sb,0,none⟩)/\B=[sb]/\w.heap[sb]? = some (.cells cells 111 (0,0))
 |8,ρ,B,w=>B=[]/\ρ 12=ρ 43
 |_,ρ,B,w=>True
theorem hPh4(c:Cf)(dk:Option Addr)(f b4:Nat):∀i ρ ρ' B w w',Fr [] w w'->(∀t,(zah ops4 i=some t\/∃j,dep ops4 i j=true/\zah ops4 j=some t)->ρ' t=ρ t)->Ph c dk f b4 i ρ B w->Ph c dk f b4 i ρ' B w'
 |0,ρ,ρ',B,w,w',hf,hρ,h=>by have e36:=hρ 36 (Or.inl rfl);simp only[Ph]at h ⊢;rw[e36];exact h
 |1,ρ,ρ',B,w,w',hf,hρ,h=>by have e37:=hρ 37 (Or.inl rfl);simp only[Ph]at h ⊢;rw[e37];exact h
 |2,ρ,ρ',B,w,w',hf,hρ,h=>by have e38:=hρ 38 (Or.inl rfl);simp only[Ph]at h ⊢;rw[e38];exact h
 |3,ρ,ρ',B,w,w',hf,hρ,h=>by have e39:=hρ 39 (Or.inl rfl);simp only[Ph]at h ⊢;rw[e39];obtain⟨tb,h1,h2⟩:=h;exact⟨tb,h1,h2.keep hf (by simp)⟩
 |4,ρ,ρ',B,w,w',hf,hρ,h=>by have e40:=hρ 40 (Or.inl rfl);simp only[Ph]at h ⊢;rw[e40];obtain⟨b,h1,h2,h3⟩:=h;exact⟨b,h1,h2,h3.keep hf (by simp)⟩
 |5,ρ,ρ',B,w,w',hf,hρ,h=>by have e41:=hρ 41 (Or.inl rfl);simp only[Ph]at h ⊢;rw[e41];exact h
 |6,ρ,ρ',B,w,w',hf,hρ,h=>by have e37:=hρ 37 (Or.inr ⟨1,by simp[dep,ops4,n6,Region.binds],by rfl⟩);have e38:=hρ 38 (Or.inr ⟨2,by simp[dep,ops4,n6,Region.binds],by rfl⟩);have e39:=hρ 39 (Or.inr ⟨3,by simp[dep,ops4,n6,Region.binds],by rfl⟩);have e40:=hρ 40 (Or.inr ⟨4,by simp[dep,ops4,n6,Region.binds],by rfl⟩);have e41:=hρ 41 (Or.inr ⟨5,by simp[dep,ops4,n6,Region.binds],by rfl⟩);have e42:=hρ 42 (Or.inl rfl);simp only[Ph]at h ⊢;rw[e37,e38,e39,e40,e41,e42];exact h
 |7,ρ,ρ',B,w,w',hf,hρ,h=>by have e42:=hρ 42 (Or.inr ⟨6,by simp[dep,ops4,n7,Region.binds],by rfl⟩);have e43:=hρ 43 (Or.inl rfl);simp only[Ph]at h ⊢;rw[e42,e43];obtain⟨b,cs,h1,h2,h3,h4⟩:=h;exact⟨b,cs,h1,h2,h3,hf.keep h4 (by simp)⟩
 |8,ρ,ρ',B,w,w',hf,hρ,h=>by have e12:=hρ 12 (Or.inl rfl);have e43:=hρ 43 (Or.inr ⟨7,by simp[dep,ops4,n8,Region.binds],by rfl⟩);simp only[Ph]at h ⊢;rw[e12,e43];exact h
 |n+9,ρ,ρ',B,w,w',hf,hρ,h=>trivial
section
variable(ρ:Operand->Value)(w:World){c:Cf}{dk:Option Addr}{f b4:Nat}
theorem rn0(h:ρ (.tmp 4)=.pointer (some ⟨b4,0,none⟩))(c0:w.cell? ⟨b4,0,none⟩=some (.int .i64 c.l))(c1:w.cell? ⟨b4,1,none⟩=some (.int .i64 c.s))(c2:w.cell? ⟨b4,2,none⟩=some (.int .i64 c.w))(c3:w.cell? ⟨b4,3,none⟩=some (.int .i64 c.q)):(execOp ρ n0).run Tryz.prog w=.ok (.value (.agg #[.int .i64 c.l,.int .i64 c.s,.int .i64 c.w,.int .i64 c.q])) w:=by
 unfold n0
 go_simp
theorem rn1:(execOp ρ n1).run Tryz.prog w=.ok (.value (ρ (.tmp 2))) w:=by
 unfold n1
 go_simp
theorem rn2:(execOp ρ n2).run Tryz.prog w=.ok (.value (ρ (.tmp 10))) w:=by
 unfold n2
 go_simp
theorem rn3(h:ρ (.func 132)=.func (.func 132) #[] #[]):(execOp ρ n3).run Tryz.prog w=.ok (.enter 132 #[]) w:=by
 unfold n3
 go_simp
theorem rn4:(execOp ρ n4).run Tryz.prog w=.ok (.value (.map (some w.heap.size))) (w.alloc (.map #[] 0)):=by
 have hm:=@run_makeMap Tryz.prog;unfold n4
 go_simp
theorem rn5:(execOp ρ n5).run Tryz.prog w=.ok (.value (.map (some w.heap.size))) (w.alloc (.map #[] 0)):=by
 have hm:=@run_makeMap Tryz.prog;unfold n5
 go_simp
theorem rn6{tb wb ab:Nat}(h36:ρ (.tmp 36)=.agg #[.int .i64 c.l,.int .i64 c.s,.int .i64 c.w,.int .i64 c.q])(h37:ρ (.tmp 37)=.pointer dk)(h38:ρ (.tmp 38)=.pointer (some ⟨f,0,none⟩))(h39:ρ (.tmp 39)=.pointer (some ⟨tb,0,none⟩))(h40:ρ (.tmp 40)=.map (some wb))(h41:ρ (.tmp 41)=.map (some ab)) :
  (execOp ρ n6).run Tryz.prog w=.ok (.value (.agg #[.int .i64 c.l,.int .i64 c.s,.int .i64 c.w,.int .i64 c.q,.pointer dk,.pointer (some ⟨f,0,none⟩),.pointer (some ⟨tb,0,none⟩),.map (some wb),.pointer none,.pointer none,.slice none 0 0,.slice none 0 0,.pointer none,.slice none 0 0,.slice none 0 0,.int .i64 0,.map (some ab),.bool false,.bool false])) w:=by
 unfold n6
 go_simp
theorem rn7(cells:Array Value)(h:ρ (.tmp 42)=.agg cells):(execOp ρ n7).run Tryz.prog w=.ok (.value (.pointer (some ⟨w.heap.size,0,none⟩))) (w.alloc (.cells cells 111)):=by
 unfold n7
 go_simp
theorem rn8:(execOp ρ n8).run Tryz.prog w=.ok (.value (ρ (.tmp 43))) w:=by
 unfold n8
 go_simp
end
theorem zei{P:Program}{o:Oper}{a:Act}{w w':World}{v:Value}{K:Act->World->Prop}{Q:Exit->Act->World->Prop}(hr:(execOp a.eval o).run P w=.ok (.value v) w')(h:K (a.put o.dst v) w'):o.wp P a w K Q:=by
 unfold Oper.wp;rw[hr];exact h
theorem zch{a:Act}{d:Nat}{v:Value}(h:d<a.tmps.size):env (a.put (some d) v) d=v:=Act.eval_put_same a d v h
theorem zfh{a:Act}{d j:Nat}{v:Value}(h:d≠j):env (a.put (some d) v) j=env a j:=Act.eval_put_ne a d j v h
theorem hs4{Q:Exit->Act->World->Prop}{a0:Act}{w0:World}{c:Cf}{dk:Option Addr}{f b4:Nat}(hz:a0.tmps.size=131)(t2:env a0 2=.pointer dk)(t4:env a0 4=.pointer (some ⟨b4,0,none⟩))(t10:env a0 10=.pointer (some ⟨f,0,none⟩))(hcf:CfM w0 b4 c.l c.s c.w c.q):Mkg Tryz.prog ops4 Q a0 w0 (Ph c dk f b4):=by
 intro i o ho a w hza hf hsame hdep;have hno:∀t,t∉dl4->env a t=env a0 t:=fun t ht=>hsame t (fun j hj=>by rw[dst4]at hj;exact ht (List.mem_of_getElem? hj));have s2:env a 2=.pointer dk:=(hno 2 (by decide)).trans t2;have s4:env a 4=.pointer (some ⟨b4,0,none⟩):=(hno 4 (by decide)).trans t4;have s10:env a 10=.pointer (some ⟨f,0,none⟩):=(hno 10 (by decide)).trans t10;have hsz:∀d,d<131->d<a.tmps.size:=fun d hd=>by rw[hza,hz];exact hd
 obtain⟨_,k0,k1,k2,k3⟩:=hcf.keep hf;rcases o4 i o ho with⟨rfl,rfl⟩|⟨rfl,rfl⟩|⟨rfl,rfl⟩|⟨rfl,rfl⟩|⟨rfl,rfl⟩|⟨rfl,rfl⟩|⟨rfl,rfl⟩|⟨rfl,rfl⟩|⟨rfl,rfl⟩
 .exact zei (rn0 _ _ s4 k0 k1 k2 k3) ⟨_,[],rfl,Fr.refl _ _,⟨rfl,zch (hsz 36 (by omega))⟩,by simp⟩
 .exact zei (rn1 _ _) ⟨_,[],rfl,Fr.refl _ _,⟨rfl,(zch (hsz 37 (by omega))).trans s2⟩,by simp⟩
 .exact zei (rn2 _ _) ⟨_,[],rfl,Fr.refl _ _,⟨rfl,(zch (hsz 38 (by omega))).trans s10⟩,by simp⟩
 .unfold Oper.wp;rw[rn3 _ _ rfl];refine Calls.mono (zabq w) ?_;rintro e w'⟨tb,B,rfl,hT,hB,hf'⟩;exact⟨_,B,rfl,hf',⟨tb,zch (hsz 39 (by omega)),hT⟩,fun x hx=>⟨hB x hx,hT.mine x hx⟩⟩
 .exact zei (rn4 _ _) ⟨_,[w.heap.size],rfl,Fr.alloc _ _ _,⟨_,zch (hsz 40 (by omega)),rfl,MapG.made w⟩,by simp⟩
 .exact zei (rn5 _ _) ⟨_,[w.heap.size],rfl,Fr.alloc _ _ _,⟨_,zch (hsz 41 (by omega)),rfl⟩,by simp⟩
 .obtain⟨_,_,h36⟩:=hdep 0 (by simp[dep,ops4,n6,Region.binds]);obtain⟨_,_,h37⟩:=hdep 1 (by simp[dep,ops4,n6,Region.binds]);obtain⟨_,_,h38⟩:=hdep 2 (by simp[dep,ops4,n6,Region.binds]);obtain⟨_,tb,h39,_⟩:=hdep 3 (by simp[dep,ops4,n6,Region.binds]);obtain⟨_,wb,h40,_⟩:=hdep 4 (by simp[dep,ops4,n6,Region.binds]);obtain⟨_,ab,h41,_⟩:=hdep 5 (by simp[dep,ops4,n6,Region.binds]);refine zei (rn6 _ _ h36 h37 h38 h39 h40 h41) ⟨_,[],rfl,Fr.refl _ _,⟨rfl,?_⟩,by simp⟩;show env (a.put (some 42) _) 42=.agg #[.int .i64 c.l,.int .i64 c.s,.int .i64 c.w,.int .i64 c.q,env (a.put (some 42) _) 37,env (a.put (some 42) _) 38,env (a.put (some 42) _) 39,env (a.put (some 42) _) 40,.pointer none,.pointer none,.slice none 0 0,.slice none 0 0,.pointer none,.slice none 0 0,.slice none 0 0,.int .i64 0,env (a.put (some 42) _) 41,.bool false,.bool false];rw[zch (hsz 42 (by omega)),zfh (by decide),zfh (by decide),zfh (by decide),zfh (by decide),zfh (by decide),h37,h38,h39,h40,h41]
 .obtain⟨_,_,h42⟩:=hdep 6 (by simp[dep,ops4,n7,Region.binds]);refine zei (rn7 _ _ _ h42) ⟨_,[w.heap.size],rfl,Fr.alloc _ _ _,⟨_,_,(zfh (by decide)).trans h42,zch (hsz 43 (by omega)),rfl,heap_alloc_new _ _⟩,by simp⟩
 refine zei (rn8 _ _) ⟨_,[],rfl,Fr.refl _ _,⟨rfl,?_⟩,by simp⟩;exact (zch (hsz 12 (by omega))).trans (zfh (by decide)).symm
structure MadeM(w0 w:World)(c:Cf)(dk:Option Addr)(f:Nat)(mv:Value)(mb tb wb ab:Nat)(B:List Nat):Prop where
 mv:mv=.pointer (some ⟨mb,0,none⟩)
 fr:Fr [] w0 w
 box:w.heap[mb]? = some (.cells #[.int .i64 c.l,.int .i64 c.s,.int .i64 c.w,.int .i64 c.q,.pointer dk,.pointer (some ⟨f,0,none⟩),.pointer (some ⟨tb,0,none⟩),.map (some wb),.pointer none,.pointer none,.slice none 0 0,.slice none 0 0,.pointer none,.slice none 0 0,.slice none 0 0,.int .i64 0,.map (some ab),.bool false,.bool false] 111 (0,0))
 tl:Tl w tb B 0 [] (fun _=>False)
 mp:MapG kTx w wb 0 (fun _=>none)
 nm:w0.heap.size<=mb
 nw:w0.heap.size<=wb
 nB:∀j∈B,w0.heap.size<=j
 a1:wb∉B
 a2:mb∉B
 a3:mb≠wb
def mcl(c:Cf)(dk:Option Addr)(f tb wb ab:Nat):Array Value:=#[.int .i64 c.l,.int .i64 c.s,.int .i64 c.w,.int .i64 c.q,.pointer dk,.pointer (some ⟨f,0,none⟩),.pointer (some ⟨tb,0,none⟩),.map (some wb),.pointer none,.pointer none,.slice none 0 0,.slice none 0 0,.pointer none,.slice none 0 0,.slice none 0 0,.int .i64 0,.map (some ab),.bool false,.bool false]
def prs(c:Cf)(dk:Option Addr)(f mb tb wb ab:Nat):List (Nat×Value):=
 [(36,.agg #[.int .i64 c.l,.int .i64 c.s,.int .i64 c.w,.int .i64 c.q]),(37,.pointer dk),(38,.pointer (some ⟨f,0,none⟩)),(39,.pointer (some ⟨tb,0,none⟩)),(40,.map (some wb)),(41,.map (some ab)),(42,.agg (mcl c dk f tb wb ab)),(43,.pointer (some ⟨mb,0,none⟩)),(12,.pointer (some ⟨mb,0,none⟩))]
theorem reg4{Q:Exit->Act->World->Prop}{a0:Act}{w0:World}{id:Nat}{c:Cf}{dk:Option Addr}{f b4:Nat}(hz:a0.tmps.size=131)(t2:env a0 2=.pointer dk)(t4:env a0 4=.pointer (some ⟨b4,0,none⟩))(t10:env a0 10=.pointer (some ⟨f,0,none⟩))(hcf:CfM w0 b4 c.l c.s c.w c.q)(hend:∀w mb tb wb ab B,MadeM w0 w c dk f (.pointer (some ⟨mb,0,none⟩)) mb tb wb ab B->Q .normal (puts a0 (prs c dk f mb tb wb ab)) w):(Code.region id ops4 true).wp Tryz.prog Q a0 w0:=by
 refine zky (by kernel_rfl) hN4 (hg4 hz) (hPh4 c dk f b4) (hs4 hz t2 t4 t10 hcf) zadv ?_;intro a w B hfr hsz hdf hsame hP hnew hap;obtain⟨_,p0⟩:=hP 0 (by decide);obtain⟨_,p1⟩:=hP 1 (by decide);obtain⟨_,p2⟩:=hP 2 (by decide);obtain⟨tb,p3,q3⟩:=hP 3 (by decide);obtain⟨wb,p4,q4,r4⟩:=hP 4 (by decide);obtain⟨ab,p5,q5⟩:=hP 5 (by decide);obtain⟨_,p6⟩:=hP 6 (by decide);obtain⟨mb,cells,p7,q7,r7,s7⟩:=hP 7 (by decide);obtain⟨_,p8⟩:=hP 8 (by decide);rw[p1,p2,p3,p4,p5]at p6
 rw[p6]at p7
 cases p7;have hw:wb∈B 4:=by rw[q4];simp
 have hm:mb∈B 7:=by rw[r7];simp
 have hM:MadeM w0 w c dk f (.pointer (some ⟨mb,0,none⟩)) mb tb wb ab (B 3):=⟨rfl,hfr,s7,q3,r4,(hnew 7 (by decide) mb hm).1,(hnew 4 (by decide) wb hw).1,fun j hj=>(hnew 3 (by decide) j hj).1,hap 4 3 (by decide) (by decide) (by decide) wb hw,hap 7 3 (by decide) (by decide) (by decide) mb hm,fun e=>hap 7 4 (by decide) (by decide) (by decide) mb hm (by rw[e];exact hw)⟩;have hnd:((prs c dk f mb tb wb ab).map (·.1)).Nodup:=by
  show ([36,37,38,39,40,41,42,43,12]:List Nat).Nodup;decide
 have hall:∀p∈prs c dk f mb tb wb ab,env a p.1=p.2/\p.1<131:=by
  intro p hp;simp only[prs,List.mem_cons,List.not_mem_nil,or_false]at hp;rcases hp with rfl|rfl|rfl|rfl|rfl|rfl|rfl|rfl|rfl
  .exact⟨p0,by simp⟩
  .exact⟨p1,by simp⟩
  .exact⟨p2,by simp⟩
  .exact⟨p3,by simp⟩
  .exact⟨p4,by simp⟩
  .exact⟨p5,by simp⟩
  .exact⟨p6,by simp⟩
  .exact⟨q7,by simp⟩
  exact⟨p8.trans q7,by simp⟩
 have e:a=puts a0 (prs c dk f mb tb wb ab):=by
  refine zpj (by rw[zht];exact hsz) (by rw[zfw];exact hdf) fun t ht=> ?_;by_cases hx:∃p∈prs c dk f mb tb wb ab,p.1=t
  .obtain⟨p,hp,rfl⟩:=hx;have h2:=hall p hp;exact h2.1.trans (zkp a0 _ p.1 p.2 hnd hp (by rw[hz];exact h2.2)).symm
  refine (hsame t (fun j hj=> ?_)).trans (zel a0 _ t (fun p hp e=>hx ⟨p,hp,e⟩)).symm;rw[dst4]at hj
  have hm:=List.mem_of_getElem? hj;simp only[dl4,List.mem_cons,List.not_mem_nil,or_false]at hm;apply hx;rcases hm with rfl|rfl|rfl|rfl|rfl|rfl|rfl|rfl|rfl<;>simp[prs]
 rw[e];exact hend w mb tb wb ab (B 3) hM
end Mk
end Go.Proofs.YtaigdcmoecgabaaGreat
