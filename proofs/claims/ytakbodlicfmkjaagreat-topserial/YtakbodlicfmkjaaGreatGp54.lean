/- Contracts and lemmas. -/
import Derived.Test.YtakbodlicfmkjaaGreatGp51
import Derived.Test.YtakbodlicfmkjaaGreatGp52
import Derived.Test.YtakbodlicfmkjaaGreatGp53
set_option maxHeartbeats 8000000
set_option maxRecDepth 100000
set_option linter.unusedSimpArgs false
set_option linter.unusedVariables false
namespace Go.Proofs.YtakbodlicfmkjaaGreat.Ap
open Go.ChangeShapes Go.WideShapes Go.ChangeAt Go.RowKit Go.Lib Go.Maps
def NewR(w0:World)(c:Cf)(T:List Tx)(e:Ending)(w':World):Prop:=∃(p:Nat)(Z:Lay),e=.returned (.tuple #[.pointer (some ⟨p,0,none⟩),.int .i64 0])/\RP w0 w' p c T Z ms0/\Z.nr=0
section
variable{w0 w:World}{l s x q:Int}{g lb L db:Nat}{ts:List Tm}{v:Value}{C:Int}
theorem zaeh(h:F.Src w0 w g lb L ts v [])(hok:okL 1 (txs ts))(hd:Dz.D0 w db C)(hc:Cf.may ⟨l,s,x,q⟩)(h0:Fr [] w0 w) :
  Calls Tryz.prog 15 #[.agg #[.int .i64 l,.int .i64 s,.int .i64 x,.int .i64 q],.pointer (some ⟨g,0,none⟩),.pointer (some ⟨db,0,none⟩)] w fun e w'=>NewR w0 ⟨l,s,x,q⟩ (txs ts) e w':=by
 obtain⟨w1,HW1⟩:∃w1,Hid (w.alloc (.cells #[.int .i64 l,.int .i64 s,.int .i64 x,.int .i64 q] 23)=w1):=⟨_,rfl⟩;obtain⟨A,HA⟩:∃A,Hid (w.heap.size=A):=⟨_,rfl⟩;have hF1:Fr [] w w1:=by rw[<-HW1.out];exact Fr.alloc [] w _
 have hC1:CfM w1 A l s x q:=by rw[<-HW1.out,<-HA.out];exact CfM.new _ _ _ _ _ _
 have HC1:Hid (∀W,Fr [] w1 W->CfM W A l s x q):=fun W hf=>hC1.keep hf;have HS1:Hid (∀W,Fr [] w1 W->F.Src w0 W g lb L ts v []/\Dz.D0 W db C/\Fr [] w0 W):=fun W hf=>⟨h.keep (hF1.then hf),hd.keep (hF1.then hf) (by simp),h0.then (hF1.then hf)⟩;have HI:Hid (Calls ..):=zjr (HS1.out _ (Fr.refl _ _)).1;have HOK:Hid (okL 1 (txs ts)):=hok;have HM:Hid (Cf.may ⟨l,s,x,q⟩):=hc;clear h hok hd hc h0 hF1 hC1;go_enter Tryz.func15,Tryz.ntmps15;go_upto_region 1 with fail
 rw[HW1.out,HA.out];clear HW1 HA;go_wp2_with fail
 refine Calls.mono HI.out ?_;rintro e w2⟨rfl,hf2⟩;have HF2:Hid (Fr [] w1 w2):=hf2;have HID:Hid (Calls ..):=Dz.isDisk_any (HS1.out _ hf2).2.1;clear hf2 HI;go_wp2_with fail
 refine Calls.mono HID.out ?_;rintro e w3⟨rfl,rfl⟩;obtain⟨_,f0,f1,f2,f3⟩:=HC1.out _ HF2.out;have hCk:=zde l s x q w2;rw[show Cf.err ⟨l,s,x,q⟩=0 from if_pos HM.out]at hCk
 have HCk:Hid (Calls ..):=hCk;clear hCk HID;go_wp2_with fail
 refine Calls.mono HCk.out ?_;rintro e w3⟨rfl,hf3⟩;have HF3:Hid (Fr [] w1 w3):=HF2.out.then hf3;have HNw:Hid (Calls ..):=Dz.newest_nil (HS1.out _ HF3.out).2.1;clear HCk hf3 HF2 f0 f1 f2 f3;go_wp2_with fail
 refine Calls.mono HNw.out ?_;rintro e w4⟨rfl,hf4⟩;obtain⟨w5,HW5⟩:∃w5,Hid (w4.alloc (.cells #[.int .i64 0,.slice none 0 0,.slice none 0 0] 96)=w5):=⟨_,rfl⟩;obtain⟨Q,HQ⟩:∃Q,Hid (w4.heap.size=Q):=⟨_,rfl⟩;have hf5:Fr [] w4 w5:=by rw[<-HW5.out];exact Fr.alloc _ _ _
 have HSB:Dz.SB w5 Q:=⟨by rw[<-HW5.out,<-HQ.out];exact heap_alloc_new _ _⟩;have a0:=HSB.c0;have a1:=HSB.c1;have a2:=HSB.c2;have HF5:Hid (Fr [] w1 w5):=(HF3.out.then hf4).then hf5;obtain⟨_,f0,f1,f2,f3⟩:=HC1.out _ HF5.out;have HNM:Hid (Calls ..):=zmr (dk:=some ⟨db,0,none⟩) (HS1.out _ HF5.out).1 HOK.out HM.out (HS1.out _ HF5.out).2.2;clear HNw hf4 hf5 HSB HF3;go_upto_region 7 with fail
 rw[HW5.out,HQ.out];clear HW5 HQ;go_wp2_with fail
 refine Calls.mono HNM.out ?_;rintro e w6⟨Z,rfl,hM,hnr⟩;have HR:Hid (RP w0 (w6.alloc (.cells #[.pointer (some ⟨Z.z.mb,0,none⟩)] 80)) w6.heap.size ⟨l,s,x,q⟩ (txs ts) Z ms0/\Z.nr=0):=
  ⟨⟨hM.quiet (Fr.alloc _ _ _),heap_alloc_new _ _,hM.otherO (S:=[]) (Fr.alloc [] _ _) (fun b hb=>by cases hb) (hM.offNew (Nat.le_refl _))⟩,hnr⟩
 clear hM hnr HNM;go_wp2;go_ret2;exact⟨_,Z,rfl,HR.out.1,HR.out.2⟩
theorem zaei(h:F.Src w0 w g lb L ts v [])(hd:Dz.D0 w db C)(hc:¬Cf.may ⟨l,s,x,q⟩) :
  Calls Tryz.prog 15 #[.agg #[.int .i64 l,.int .i64 s,.int .i64 x,.int .i64 q],.pointer (some ⟨g,0,none⟩),.pointer (some ⟨db,0,none⟩)] w fun e w'=>e=.returned (.tuple #[.pointer none,.int .i64 7])/\Fr [] w w':=by
 obtain⟨w1,HW1⟩:∃w1,Hid (w.alloc (.cells #[.int .i64 l,.int .i64 s,.int .i64 x,.int .i64 q] 23)=w1):=⟨_,rfl⟩;obtain⟨A,HA⟩:∃A,Hid (w.heap.size=A):=⟨_,rfl⟩;have hF1:Fr [] w w1:=by rw[<-HW1.out];exact Fr.alloc [] w _
 have hC1:CfM w1 A l s x q:=by rw[<-HW1.out,<-HA.out];exact CfM.new _ _ _ _ _ _
 have HC1:Hid (∀W,Fr [] w1 W->CfM W A l s x q):=fun W hf=>hC1.keep hf;have HS1:Hid (∀W,Fr [] w1 W->F.Src w0 W g lb L ts v []/\Dz.D0 W db C):=fun W hf=>⟨h.keep (hF1.then hf),hd.keep (hF1.then hf) (by simp)⟩;have HI:Hid (Calls ..):=zjr (HS1.out _ (Fr.refl _ _)).1;have HM:Hid (¬Cf.may ⟨l,s,x,q⟩):=hc;have HF1:Hid (Fr [] w w1):=hF1;clear h hd hc hF1 hC1;go_enter Tryz.func15,Tryz.ntmps15;go_upto_region 1 with fail
 rw[HW1.out,HA.out];clear HW1 HA;go_wp2_with fail
 refine Calls.mono HI.out ?_;rintro e w2⟨rfl,hf2⟩;have HF2:Hid (Fr [] w1 w2):=hf2;have HID:Hid (Calls ..):=Dz.isDisk_any (HS1.out _ hf2).2;clear hf2 HI;go_wp2_with fail
 refine Calls.mono HID.out ?_;rintro e w3⟨rfl,rfl⟩;obtain⟨_,f0,f1,f2,f3⟩:=HC1.out _ HF2.out;have hCk:=zde l s x q w2;rw[show Cf.err ⟨l,s,x,q⟩=7 from if_neg HM.out]at hCk
 have HCk:Hid (Calls ..):=hCk;clear hCk HID;go_wp2_with fail
 refine Calls.mono HCk.out ?_;rintro e w3⟨rfl,hf3⟩;have HF3:Hid (Fr [] w w3):=HF1.out.then (HF2.out.then hf3);clear hf3 HCk;go_wp2;go_ret2;exact⟨rfl,HF3.out⟩
end
def wdC(l s x q:Int)(ao:Option Addr)(L cap:Nat)(C fd:Int)(po:Option Addr)(P pc:Nat):Array Value:=#[.int .i64 l,.int .i64 s,.int .i64 x,.int .i64 q,.slice ao L cap,.int .i64 C,.int .i64 fd,.slice po P pc]
def StR(w:World)(c:Cf)(T:List Tx)(fd:Int)(e:Ending)(w':World):Prop:=∃(p:Nat)(dv:Value)(Z:Lay)(w0:World),e=.returned (.tuple #[.pointer (some ⟨p,0,none⟩),dv])/\Fr [] w w0/\RP w0 w' p c T Z {ms0 with fd:=zbu T 0 fd}/\Z.nr=0
section
variable{w:World}{l s x q C fd:Int}{ao po:Option Addr}{L cap P pc:Nat}{ts:List Tm}
theorem zly(hT:TRs w ao ts)(hL:L=ts.length)(hok:okL 1 (txs ts))(hC0:0<=C)(hC1:C<=16777216)(hc:Cf.may ⟨l,s,x,q⟩) :
  Calls Tryz.prog 4 #[.agg (wdC l s x q ao L cap C fd po P pc)] w fun e w'=>StR w ⟨l,s,x,q⟩ (txs ts) fd e w':=by
 obtain⟨w1,HW1⟩:∃w1,Hid (w.alloc (.cells (wdC l s x q ao L cap C fd po P pc) 27)=w1):=⟨_,rfl⟩;obtain⟨A,HA⟩:∃A,Hid (w.heap.size=A):=⟨_,rfl⟩;have hF1:Fr [] w w1:=by rw[<-HW1.out];exact Fr.alloc [] w _
 have hb1:w1.heap[A]? = some (.cells (wdC l s x q ao L cap C fd po P pc) 27 (0,0)):=by rw[<-HW1.out,<-HA.out];exact heap_alloc_new _ _
 have HBx:Hid (∀W,Fr [] w1 W->W.cell? ⟨A,0,none⟩=some (.int .i64 l)/\W.cell? ⟨A,1,none⟩=some (.int .i64 s)/\W.cell? ⟨A,2,none⟩=some (.int .i64 x)/\W.cell? ⟨A,3,none⟩=some (.int .i64 q)/\W.cell? ⟨A,4,none⟩=some (.slice ao L cap)/\W.cell? ⟨A,5,none⟩=some (.int .i64 C)/\W.cell? ⟨A,6,none⟩=some (.int .i64 fd)):=fun W hf=>by
  have hr:=hf.keep hb1 (by simp);refine⟨?_,?_,?_,?_,?_,?_,?_⟩<;>(rw[crw hr];rfl)
 have HT:Hid (∀W,Fr [] w1 W->TRs W ao ts):=fun W hf=>hT.keep (hF1.then hf);have HD:Hid (Calls ..):=Dz.dnew_ok C w1 hC0 hC1;have HF1:Hid (Fr [] w w1):=hF1;have HL:Hid (L=ts.length):=hL;have HOK:Hid (okL 1 (txs ts)):=hok;have HM:Hid (Cf.may ⟨l,s,x,q⟩):=hc;obtain⟨f0,f1,f2,f3,f4,f5,f6⟩:=HBx.out _ (Fr.refl _ _);clear hT hL hok hc hF1 hb1;unfold wdC at HW1;unfold wdC;go_enter Tryz.func4,Tryz.ntmps4;go_upto_region 1 with fail
 rw[HW1.out,HA.out];clear HW1 HA;go_wp2_with fail
 refine Calls.mono HD.out ?_;rintro e w2⟨rfl,hd,hf2⟩;obtain⟨db,hdb⟩:∃db,db=w1.heap.size:=⟨_,rfl⟩;rw[<-hdb]at hd ⊢
 have HD2:Hid (∀W,Fr [] w2 W->Dz.D0 W db C):=fun W hf=>hd.keep hf (by simp);have HF2:Hid (Fr [] w1 w2):=hf2;obtain⟨g0,g1,g2,g3,g4,g5,g6⟩:=HBx.out _ hf2;have HLg:Hid (Calls ..):=F.new_ok ao L cap ts w2 (HT.out _ hf2) HL.out HOK.out;clear hd hf2 HD hdb f0 f1 f2 f3 f4 f5 f6 HT;go_wp2_with fail
 refine Calls.mono HLg.out ?_;rintro e w3⟨g,lb,ds,rfl,hS,hts,hf3⟩;have HF3:Hid (Fr [] w2 w3):=hf3;obtain⟨f0,f1,f2,f3,f4,f5,f6⟩:=HBx.out _ (HF2.out.then hf3);have HN:Hid (Calls ..):=zaeh (w0:=w2) hS (by rw[hts];exact HOK.out) (HD2.out _ hf3) HM.out hf3;rw[hts]at HN
 clear hS hts hf3 HLg g0 g1 g2 g3 g4 g5 g6;go_wp2_with fail
 refine Calls.mono HN.out ?_;rintro e w4⟨p,Z,rfl,hR,hnr⟩;have hf4:Fr [] w2 w4:=hR.m.fr;obtain⟨g0,g1,g2,g3,g4,g5,g6⟩:=HBx.out _ (HF2.out.then hf4);have HFd:Hid (Calls Tryz.prog 16 #[.pointer (some ⟨p,0,none⟩),.int .i64 fd] w4 fun e w'=>(∃v,e=.returned v)/\Hid (∃Z':Lay,RP w2 w' p ⟨l,s,x,q⟩ (txs ts) Z' {ms0 with fd:=zbu (txs ts) 0 fd}/\Z'.nr=0)):=by
  refine Calls.mono (zxq hR fd) ?_;rintro e w'⟨he,hD⟩;exact⟨he,_,hR.dn hD,hnr⟩
 clear hR hnr hf4 HN f0 f1 f2 f3 f4 f5 f6;go_wp2_with fail
 refine Calls.mono HFd.out ?_;rintro e w5⟨⟨_,rfl⟩,HE⟩;clear HFd g0 g1 g2 g3 g4 g5 g6;go_wp2;go_ret2;obtain⟨Z',hR',hn'⟩:=HE.out;exact⟨p,_,Z',w2,rfl,HF1.out.then HF2.out,hR',hn'⟩
theorem zum(hT:TRs w ao ts)(hL:L=ts.length)(h:¬(okL 1 (txs ts)/\(0<=C/\C<=16777216)/\Cf.may ⟨l,s,x,q⟩)) :
  Calls Tryz.prog 4 #[.agg (wdC l s x q ao L cap C fd po P pc)] w fun e w'=>(∃v,e=.returned (.tuple #[.pointer none,v]))/\Fr [] w w':=by
 obtain⟨w1,HW1⟩:∃w1,Hid (w.alloc (.cells (wdC l s x q ao L cap C fd po P pc) 27)=w1):=⟨_,rfl⟩;obtain⟨A,HA⟩:∃A,Hid (w.heap.size=A):=⟨_,rfl⟩;have hF1:Fr [] w w1:=by rw[<-HW1.out];exact Fr.alloc [] w _
 have hb1:w1.heap[A]? = some (.cells (wdC l s x q ao L cap C fd po P pc) 27 (0,0)):=by rw[<-HW1.out,<-HA.out];exact heap_alloc_new _ _
 have HBx:Hid (∀W,Fr [] w1 W->W.cell? ⟨A,0,none⟩=some (.int .i64 l)/\W.cell? ⟨A,1,none⟩=some (.int .i64 s)/\W.cell? ⟨A,2,none⟩=some (.int .i64 x)/\W.cell? ⟨A,3,none⟩=some (.int .i64 q)/\W.cell? ⟨A,4,none⟩=some (.slice ao L cap)/\W.cell? ⟨A,5,none⟩=some (.int .i64 C)/\W.cell? ⟨A,6,none⟩=some (.int .i64 fd)):=fun W hf=>by
  have hr:=hf.keep hb1 (by simp);refine⟨?_,?_,?_,?_,?_,?_,?_⟩<;>(rw[crw hr];rfl)
 have HT:Hid (∀W,Fr [] w1 W->TRs W ao ts):=fun W hf=>hT.keep (hF1.then hf);have HF1:Hid (Fr [] w w1):=hF1;have HL:Hid (L=ts.length):=hL;obtain⟨bc,hbc⟩:=Bad.ex (txs ts) 1;have HB:Hid (Bad 1 (txs ts) bc):=hbc;have HK:Hid (bc=0↔okL 1 (txs ts)):=Bad.ok hbc;have HH:Hid (¬(okL 1 (txs ts)/\(0<=C/\C<=16777216)/\Cf.may ⟨l,s,x,q⟩)):=h;obtain⟨f0,f1,f2,f3,f4,f5,f6⟩:=HBx.out _ (Fr.refl _ _);clear hT hL h hF1 hb1 hbc;by_cases hC:0<=C/\C<=16777216
 .have HD:Hid (Calls ..):=Dz.dnew_ok C w1 hC.1 hC.2;have HCC:Hid (0<=C/\C<=16777216):=hC;clear hC;by_cases hb:bc=0
  .have HOK:Hid (okL 1 (txs ts)):=HK.out.1 hb;have HM:Hid (¬Cf.may ⟨l,s,x,q⟩):=fun hm=>HH.out ⟨HOK.out,HCC.out,hm⟩;clear hb HB HK HH;unfold wdC at HW1;unfold wdC;go_enter Tryz.func4,Tryz.ntmps4;go_upto_region 1 with fail
   rw[HW1.out,HA.out];clear HW1 HA;go_wp2_with fail
   refine Calls.mono HD.out ?_;rintro e w2⟨rfl,hd,hf2⟩;obtain⟨db,hdb⟩:∃db,db=w1.heap.size:=⟨_,rfl⟩;rw[<-hdb]at hd ⊢
   have HD2:Hid (∀W,Fr [] w2 W->Dz.D0 W db C):=fun W hf=>hd.keep hf (by simp);have HF2:Hid (Fr [] w1 w2):=hf2;obtain⟨g0,g1,g2,g3,g4,g5,g6⟩:=HBx.out _ hf2;have HLg:Hid (Calls ..):=F.new_ok ao L cap ts w2 (HT.out _ hf2) HL.out HOK.out;clear hd hf2 HD hdb f0 f1 f2 f3 f4 f5 f6 HT;go_wp2_with fail
   refine Calls.mono HLg.out ?_;rintro e w3⟨g,lb,ds,rfl,hS,hts,hf3⟩;have HF3:Hid (Fr [] w2 w3):=hf3;obtain⟨f0,f1,f2,f3,f4,f5,f6⟩:=HBx.out _ (HF2.out.then hf3);have HN:Hid (Calls ..):=zaei (w0:=w2) hS (HD2.out _ hf3) HM.out;clear hS hts hf3 HLg g0 g1 g2 g3 g4 g5 g6;go_wp2_with fail
   refine Calls.mono HN.out ?_;rintro e w4⟨rfl,hf4⟩;have HF4:Hid (Fr [] w w4):=HF1.out.then (HF2.out.then (HF3.out.then hf4));clear hf4 HN f0 f1 f2 f3 f4 f5 f6;go_wp2;go_ret2;exact⟨⟨_,rfl⟩,HF4.out⟩
  have hcb:((bc:Int) != 0)=true:=by rw[bne_iff_ne];omega
  have HNB:Hid (bc≠0):=hb;clear hb HK HH;unfold wdC at HW1;unfold wdC;go_enter Tryz.func4,Tryz.ntmps4;go_upto_region 1 with fail
  rw[HW1.out,HA.out];clear HW1 HA;go_wp2_with fail
  refine Calls.mono HD.out ?_;rintro e w2⟨rfl,hd,hf2⟩;have HF2:Hid (Fr [] w1 w2):=hf2;obtain⟨g0,g1,g2,g3,g4,g5,g6⟩:=HBx.out _ hf2;have HLg:Hid (Calls ..):=F.new_no ao L cap bc ts w2 (HT.out _ hf2) HL.out HB.out HNB.out;clear hd hf2 HD f0 f1 f2 f3 f4 f5 f6 HT;go_wp2_with fail
  refine Calls.mono HLg.out ?_;rintro e w3⟨rfl,hf3⟩;have HF3:Hid (Fr [] w w3):=HF1.out.then (HF2.out.then hf3);clear hf3 HLg g0 g1 g2 g3 g4 g5 g6;go_wp2;go_ret2;exact⟨⟨_,rfl⟩,HF3.out⟩
 have HD:Hid (Calls ..):=Dz.dnew_no C w1 (by omega);by_cases hb:bc=0
 .have HOK:Hid (okL 1 (txs ts)):=HK.out.1 hb;clear hb HB HK HH hC;unfold wdC at HW1;unfold wdC;go_enter Tryz.func4,Tryz.ntmps4;go_upto_region 1 with fail
  rw[HW1.out,HA.out];clear HW1 HA;go_wp2_with fail
  refine Calls.mono HD.out ?_;rintro e w2⟨rfl,rfl⟩;have HLg:Hid (Calls ..):=F.new_ok ao L cap ts w1 (HT.out _ (Fr.refl _ _)) HL.out HOK.out;clear HD;go_wp2_with fail
  refine Calls.mono HLg.out ?_;rintro e w3⟨g,lb,ds,rfl,_,_,hf3⟩;have HF3:Hid (Fr [] w w3):=HF1.out.then hf3;clear hf3 HLg;go_wp2;go_ret2;exact⟨⟨_,rfl⟩,HF3.out⟩
 have hcb:((bc:Int) != 0)=true:=by rw[bne_iff_ne];omega
 have HNB:Hid (bc≠0):=hb;clear hb HK HH hC;unfold wdC at HW1;unfold wdC;go_enter Tryz.func4,Tryz.ntmps4;go_upto_region 1 with fail
 rw[HW1.out,HA.out];clear HW1 HA;go_wp2_with fail
 refine Calls.mono HD.out ?_;rintro e w2⟨rfl,rfl⟩;have HLg:Hid (Calls ..):=F.new_no ao L cap bc ts w1 (HT.out _ (Fr.refl _ _)) HL.out HB.out HNB.out;clear HD;go_wp2_with fail
 refine Calls.mono HLg.out ?_;rintro e w3⟨rfl,hf3⟩;have HF3:Hid (Fr [] w w3):=HF1.out.then hf3;clear hf3 HLg;go_wp2;go_ret2;exact⟨⟨_,rfl⟩,HF3.out⟩
end
def kA:ByteArray:=⟨#[97]⟩
def vOne:ByteArray:=⟨#[49]⟩
def vTwo:ByteArray:=⟨#[50]⟩
def T20:List Tx:=[⟨1,[⟨kA,vOne,false⟩]⟩,⟨2,[⟨kA,vTwo,false⟩]⟩]
def c20:Cf:=⟨2,1,2,1⟩
theorem zsl:c20.may:=by unfold Cf.may c20;decide
theorem znu(v:ByteArray)(h:v.size=1):okW ⟨kA,v,false⟩:=⟨by show 1<=kA.size;decide,by show kA.size<=64;decide,by show v.size<=1024;omega,fun e=>by cases e⟩
theorem zyd:okL 1 T20:=by
 refine⟨⟨by decide,by decide,by decide,fun x hx=> ?_⟩,rfl,⟨by decide,by decide,by decide,fun x hx=> ?_⟩,rfl,trivial⟩
 .rw[List.mem_singleton.1 hx];exact znu _ rfl
 rw[List.mem_singleton.1 hx];exact znu _ rfl
theorem zye(x:Wt):dd [x]=[x]:=by
 show ddTo [x] 1=[x];rw[zdj (fun m h1 h2=>by simp at h2;omega)];rfl
theorem zabk(n:Int)(h:n=1\/n=2):cst T20 n=2:=by
 unfold cst;rcases h with rfl|rfl
 .show 2*(dd [⟨kA,vOne,false⟩]).length=2;rw[zye];rfl
 show 2*(dd [⟨kA,vTwo,false⟩]).length=2;rw[zye];rfl
theorem zagp:rdS T20 2=14:=by
 have h1:=zabk 1 (Or.inl rfl);have h2:=zabk 2 (Or.inr rfl);show 0+(5+cst T20 1)+(5+cst T20 2)=14;rw[h1,h2]
theorem zafy(c:Cf)(T:List Tx)(n:Nat):nu c T {ms0 with fd:=n}=rdS T n:=by
 unfold nu;show (rdS T n-rdS T 0)+(if false=true then _ else 0)+(wtS T (fun _=>False) 0+liS T [])+sumW (fun _=>none) c.l.toNat+0=rdS T n;rw[zqm];simp[rdS,wtS,liS]
theorem zabl:zbu T20 0 2=2:=by decide
theorem fo20:Fo.Is (Fo.fo (T20.take 2)) [(kA,vTwo)]:=by
 refine⟨List.pairwise_singleton _ _,fun p=> ?_⟩;have e:Fo.fo (T20.take 2) p.1=if p.1=kA then some vTwo else if p.1=kA then some vOne else none:=rfl
 rw[e,List.mem_singleton];obtain⟨a,b⟩:=p;simp only[Prod.mk.injEq];by_cases h:a=kA
 .rw[if_pos h];constructor
  .rintro⟨_,rfl⟩;rfl
  intro h2;cases h2;exact⟨h,rfl⟩
 rw[if_neg h,if_neg h];constructor
 .rintro⟨h2,_⟩;exact absurd h2 h
 intro h2;cases h2
def KnS(w:World)(p:Nat)(n:Nat)(w':World):Prop:=∃(w0:World)(Z:Lay)(s:Ms),Fr [] w w0/\RP w0 w' p c20 T20 Z s/\Z.nr=s.d/\Wf c20 T20 s/\s.fd=2/\s.k=n/\nu c20 T20 s+n=14
theorem zaba{w w':World}{p:Nat}{w0:World}{Z:Lay}(hf:Fr [] w w0)(h:RP w0 w' p c20 T20 Z {ms0 with fd:=zbu T20 0 2})(hn:Z.nr=0):KnS w p 0 w':=by
 refine⟨w0,Z,_,hf,h,hn,(Wf.zero zsl zyd).feed 2,zabl,rfl,?_⟩;rw[zabl,zafy,zagp]
theorem zagq{w w':World}{p n:Nat}(h:KnS w p n w'):n<=14:=by
 obtain⟨_,_,_,_,_,_,_,_,_,e⟩:=h;omega
theorem zaej{w w':World}{p n:Nat}(h:KnS w p n w'):Calls Tryz.prog 6 #[.pointer (some ⟨p,0,none⟩),.int .i64 0] w' fun e w2=>
  (∃t k m sh ct ma,e=.returned (.tuple #[.agg #[.int .i64 t,.int .u8 k,.int .i64 m,.int .i64 sh,.int .i64 ct,.int .i64 ma],.int .i64 0])/\KnS w p (n+1) w2) \/
  (e=.returned (.tuple #[.agg #[.int .i64 0,.int .u8 0,.int .i64 0,.int .i64 0,.int .i64 0,.int .i64 0],.int .i64 9])/\n=14/\KnS w p n w2/\∃(w0:World)(Z:Lay)(s:Ms),RP w0 w2 p c20 T20 Z s/\Wf c20 T20 s/\s.fd=2/\s.k=n/\rdyL c20 s (c20.l.toNat+c20.s.toNat+2)=[]):=by
 obtain⟨w0,Z,s,h1,h2,h3,h4,h5,h6,h7⟩:=h;by_cases hr:rdyL c20 s (c20.l.toNat+c20.s.toNat+2)=[]
 .obtain⟨i1,i2,i3,i4,i5,i6⟩:=zik h4 hr;have hz:=zadq h4 i1 i2 i5;refine Calls.mono (zng h2 h4 0 hr) ?_;rintro e w2⟨rfl,hf⟩;exact Or.inr ⟨rfl,by omega,⟨w0,Z,s,h1,h2.quiet hf,h3,h4,h5,h6,h7⟩,w0,Z,s,h2.quiet hf,h4,h5,h6,hr⟩
 refine Calls.mono (zsi h2 h3 h4 (by omega) 0 ⟨by omega,by omega⟩ hr) ?_;rintro e w2⟨t,k,m,sh,ct,ma,s',rfl,⟨Z',hD,hn'⟩,hN⟩;refine Or.inl ⟨t,k,m,sh,ct,ma,rfl,w0,Z',s',h1,h2.dn hD,hn',hN.wf,by rw[hN.fd];exact h5,by rw[hN.k,h6],?_⟩;have:=hN.nu;omega
section
variable{w0 w w':World}{p:Nat}{c:Cf}{T:List Tx}{Z:Lay}{s:Ms}
theorem zlz(h:RP w0 w p c T Z s)(hW:Wf c T s)(hk:s.k<16000000)(hr:rdyL c s (c.l.toNat+c.s.toNat+2)=[]):Calls Tryz.prog 12 #[.pointer (some ⟨p,0,none⟩)] w fun e w'=>∃ro N rc ps,e=.returned (.slice ro N rc)/\N=ps.length/\Fo.Is (Fo.fo (T.take s.fd)) ps/\N<=32*T.length/\O.ERs w' ro ps/\N<=rc/\Fr [] w w':=by
 obtain⟨i1,i2,i3,i4,i5,i6⟩:=zik hW hr;refine Calls.mono (zxw h hW hk) ?_;rintro e w'⟨hs,v,rfl,h1,⟨acc,h2,h3⟩,h4,h5⟩;have hfd:=hW.fdl.2;have hIs:=zaav hW i4 (fun n a b=>(i6 n).2 ⟨a,b⟩) hfd h1 h2 h3;obtain⟨qs,q1,q2⟩:=Fo.fo_len (T.take s.fd) (fun t ht=>(zma hW.ok t (List.mem_of_mem_take ht)).2.2.1);have e:hs.filterMap (enOf s.ma)=qs:=Fo.Is.unique hIs q1;have hl:(T.take s.fd).length<=T.length:=by rw[List.length_take];exact Nat.min_le_right _ _
 have hT:=zdo hW.ok;rw[e]at h4 hIs
 obtain⟨ro,rc,rfl⟩:=O.own_shape2 h4;refine⟨ro,_,rc,qs,rfl,rfl,hIs,by omega,O.ers_of h4 rfl (by omega),?_,h5⟩;rcases h4.2 with⟨h6,h7⟩|⟨g,cap,cur,h6,_,_,h7,_⟩
 .rw[h7];exact Nat.zero_le _
 cases h6;exact h7
end
theorem Tryz.undEnK:Tryz.prog.underlying 61=some (.struct (Tryz.prog.fieldsOf 61)):=by kernel_rfl
theorem Tryz.heldEnK:Tryz.prog.stoodInHeld 61=false:=by kernel_rfl
theorem Tryz.guardEnK:Tryz.prog.eqGuardType Tryz.prog.depth 61=false:=by kernel_rfl
theorem Tryz.fieldsEnK:(Tryz.prog.fieldsOf 61).toList.map (fun f=>(f.name == "_",f.type,f.offset))=[(false,9,0),(false,9,1)]:=by kernel_rfl
theorem zyh(w:World)(k1 k2 v1 v2:ByteArray):(Op.equalIn 10000 61 (.agg #[.string k1,.string v1]) (.agg #[.string k2,.string v2])).run Tryz.prog w=.ok (k1.toList==k2.toList&&v1.toList==v2.toList) w:=by
 rw[run_equalIn_struct w 9999 _ _ _ Tryz.undEnK Tryz.heldEnK];have hF:=Tryz.fieldsEnK;obtain⟨l,hl⟩:∃l,l=(Tryz.prog.fieldsOf 61).toList:=⟨_,rfl⟩;rw[<-hl]at hF ⊢
 match l,hF with
 | [f0,f1],hF=>
  simp only[List.map_cons,List.map_nil,List.cons.injEq,Prod.mk.injEq,and_true]at hF;obtain⟨⟨n0,t0,o0⟩,⟨n1,t1,o1⟩⟩:=hF;have m0:f0.name≠ "_" :=by simpa using n0
  have m1:f1.name≠ "_" :=by simpa using n1
  simp only[Op.eqFields,if_pos m0,if_pos m1,t0,t1,o0,o1];rw[O.step_field15 (O.part_str15 w _ 0 _ rfl) (O.part_str15 w _ 0 _ rfl) (O.eq_str15 w k1 k2)];rw[O.step_field15 (O.part_str15 w _ 1 _ rfl) (O.part_str15 w _ 1 _ rfl) (O.eq_str15 w v1 v2)];cases (k1.toList==k2.toList)<;>cases (v1.toList==v2.toList)<;>simp
theorem KnS.quiet{w w1 w2:World}{p n:Nat}(h:KnS w p n w1)(hf:Fr [] w1 w2):KnS w p n w2:=by
 obtain⟨w0,Z,s,h1,h2,h3⟩:=h;exact⟨w0,Z,s,h1,h2.quiet hf,h3⟩
theorem KnS.fr{w w1:World}{p n:Nat}(h:KnS w p n w1):Fr [] w w1:=by
 obtain⟨w0,Z,s,h1,h2,h3⟩:=h;exact h1.then h2.m.fr
theorem zabb{w1 w2:World}{p n:Nat}{w0:World}{Z:Lay}{s:Ms}(h:RP w0 w2 p c20 T20 Z s)(hW:Wf c20 T20 s)(hfd:s.fd=2)(hk:s.k=n)(hn:n<=14)(hr:rdyL c20 s (c20.l.toNat+c20.s.toNat+2)=[]) :
  Calls Tryz.prog 12 #[.pointer (some ⟨p,0,none⟩)] w2 fun e w'=>∃g rc,e=.returned (.slice (some ⟨g,0,none⟩) 1 rc)/\1<=rc/\w'.cell? ⟨g,0,none⟩=some (.string ⟨#[97]⟩)/\w'.cell? ⟨g,1,none⟩=some (.string ⟨#[50]⟩)/\Fr [] w2 w':=by
 refine Calls.mono (zlz h hW (by omega) hr) ?_;rintro e w'⟨ro,N,rc,ps,rfl,h1,h2,h3,h4,h5,h6⟩;rw[hfd]at h2
 have e:ps=[(kA,vTwo)]:=Fo.Is.unique h2 fo20;subst e;have hN:N=1:=h1;subst hN;obtain⟨g,e1,e2,e3⟩:=h4.at 0 (by simp);subst e1;exact⟨g,rc,rfl,h5,e2,e3,h6⟩
theorem zjs(w:World):Calls Tryz.prog 5 #[] w fun e w'=>e=.returned (.bool true)/\Fr [] w w':=by
 obtain⟨N,hN⟩:∃N,w.heap.size=N:=⟨_,rfl⟩;have HN:Hid (w.heap.size=N):=hN;obtain⟨w4,hw4⟩:∃w4,((((w.alloc (.cells #[.string ⟨#[97]⟩,.string ⟨#[49]⟩,.bool false] 56)).alloc (.cells #[.int .i64 1,.slice (some ⟨N,0,none⟩) 1 1] 59)).alloc (.cells #[.string ⟨#[97]⟩,.string ⟨#[50]⟩,.bool false] 56)).alloc (.cells #[.int .i64 2,.slice (some ⟨N+1+1,0,none⟩) 1 1] 59))=w4:=⟨_,rfl⟩;have s1:(w.alloc (.cells #[.string ⟨#[97]⟩,.string ⟨#[49]⟩,.bool false] 56)).heap.size=N+1:=by simp[hN]
 have s2:((w.alloc (.cells #[.string ⟨#[97]⟩,.string ⟨#[49]⟩,.bool false] 56)).alloc (.cells #[.int .i64 1,.slice (some ⟨N,0,none⟩) 1 1] 59)).heap.size=N+1+1:=by simp[hN]
 have s3:(((w.alloc (.cells #[.string ⟨#[97]⟩,.string ⟨#[49]⟩,.bool false] 56)).alloc (.cells #[.int .i64 1,.slice (some ⟨N,0,none⟩) 1 1] 59)).alloc (.cells #[.string ⟨#[97]⟩,.string ⟨#[50]⟩,.bool false] 56)).heap.size=N+1+1+1:=by simp[hN]
 have r0:w4.heap[N]? = some (.cells #[.string ⟨#[97]⟩,.string ⟨#[49]⟩,.bool false] 56 (0,0)):=by
  rw[<-hw4];exact (((Fr.alloc [] _ _).then (Fr.alloc [] _ _)).then (Fr.alloc [] _ _)).keep (by rw[<-hN];exact heap_alloc_new _ _) (by simp)
 have r1:w4.heap[N+1]? = some (.cells #[.int .i64 1,.slice (some ⟨N,0,none⟩) 1 1] 59 (0,0)):=by
  rw[<-hw4];exact ((Fr.alloc [] _ _).then (Fr.alloc [] _ _)).keep (by rw[<-s1];exact heap_alloc_new _ _) (by simp)
 have r2:w4.heap[N+1+1]? = some (.cells #[.string ⟨#[97]⟩,.string ⟨#[50]⟩,.bool false] 56 (0,0)):=by
  rw[<-hw4];exact (Fr.alloc [] _ _).keep (by rw[<-s2];exact heap_alloc_new _ _) (by simp)
 have r3:w4.heap[N+1+1+1]? = some (.cells #[.int .i64 2,.slice (some ⟨N+1+1,0,none⟩) 1 1] 59 (0,0)):=by
  rw[<-hw4,<-s3];exact heap_alloc_new _ _
 have hf4:Fr [] w w4:=by
  rw[<-hw4];exact (((Fr.alloc [] _ _).then (Fr.alloc [] _ _)).then (Fr.alloc [] _ _)).then (Fr.alloc [] _ _)
 have c0:w4.cell? ⟨N+1,0,none⟩=some (.int .i64 1):=by rw[crw r1];rfl
 have c1:w4.cell? ⟨N+1,1,none⟩=some (.slice (some ⟨N,0,none⟩) 1 1):=by rw[crw r1];rfl
 have d0:w4.cell? ⟨N+1+1+1,0,none⟩=some (.int .i64 2):=by rw[crw r3];rfl
 have d1:w4.cell? ⟨N+1+1+1,1,none⟩=some (.slice (some ⟨N+1+1,0,none⟩) 1 1):=by rw[crw r3];rfl
 obtain⟨K,hK⟩:∃K,w4.heap.size=K:=⟨_,rfl⟩;obtain⟨w5,hw5⟩:∃w5,w4.alloc (.cells #[.int .i64 1,.slice (some ⟨N,0,none⟩) 1 1,.int .i64 2,.slice (some ⟨N+1+1,0,none⟩) 1 1] 59)=w5:=⟨_,rfl⟩;have hf5:Fr [] w4 w5:=by rw[<-hw5];exact Fr.alloc _ _ _
 have r5:w5.heap[K]? = some (.cells #[.int .i64 1,.slice (some ⟨N,0,none⟩) 1 1,.int .i64 2,.slice (some ⟨N+1+1,0,none⟩) 1 1] 59 (0,0)):=by rw[<-hw5,<-hK];exact heap_alloc_new _ _
 have hTs:TRs w5 (some ⟨K,0,none⟩) [⟨1,some ⟨N,0,none⟩,1,1,[⟨kA,vOne,false⟩]⟩,⟨2,some ⟨N+1+1,0,none⟩,1,1,[⟨kA,vTwo,false⟩]⟩]:=by
  refine⟨fun _=>⟨K,0,rfl,lt_of_block r5,fun i hi=> ?_⟩,by simp,fun t ht=> ?_⟩
  .have:i=0\/i=1:=by simp at hi;omega
   rcases this with rfl|rfl
   .exact⟨by rw[crw r5];rfl,by rw[crw r5];rfl⟩
   exact⟨by rw[crw r5];rfl,by rw[crw r5];rfl⟩
  simp only[List.mem_cons,List.not_mem_nil,or_false]at ht;rcases ht with rfl|rfl
  .exact⟨WRs.of_ok (n:=1) ⟨by decide,by decide,by simp,fun x hx=>by rw[List.mem_singleton.1 hx];exact znu _ rfl⟩ (hf5.keep r0 (by simp)),rfl,by show (-9223372036854775808:Int)<=1;decide,by show (1:Int)<=9223372036854775807;decide⟩
  exact⟨WRs.of_ok (n:=2) ⟨by decide,by decide,by simp,fun x hx=>by rw[List.mem_singleton.1 hx];exact znu _ rfl⟩ (hf5.keep r2 (by simp)),rfl,by show (-9223372036854775808:Int)<=2;decide,by show (2:Int)<=9223372036854775807;decide⟩
 have hSt:=zly (w:=w5) (l:=2) (s:=1) (x:=2) (q:=1) (C:=0) (fd:=2) (ao:=some ⟨K,0,none⟩) (po:=none) (L:=2) (cap:=2) (P:=0) (pc:=0) hTs rfl zyd (by decide) (by decide) zsl;unfold wdC at hSt;have HSt:Hid (Calls Tryz.prog 4 #[.agg #[.int .i64 2,.int .i64 1,.int .i64 2,.int .i64 1,.slice (some ⟨K,0,none⟩) 2 2,.int .i64 0,.int .i64 2,.slice none 0 0]] w5 fun e w'=>∃(p:Nat)(dv:Value),e=.returned (.tuple #[.pointer (some ⟨p,0,none⟩),dv])/\Hid (KnS w p 0 w')):=by
  refine Calls.mono hSt ?_;rintro e w'⟨p,dv,Z,w0,rfl,h1,h2,h3⟩;exact⟨p,dv,rfl,zaba (hf4.then (hf5.then h1)) h2 h3⟩
 have HW4:Hid (_=w4):=hw4;have HW5:Hid (_=w5):=hw5;have HK:Hid (w4.heap.size=K):=hK;have hg:=Tryz.guardEnK;have he:∀w,(Op.equalIn 10000 61 (.agg #[.string ⟨#[97]⟩,.string ⟨#[50]⟩]) (.agg #[.string ⟨#[97]⟩,.string ⟨#[50]⟩])).run Tryz.prog w=.ok true w:=fun w=>by rw[zyh];simp
 clear hN hw4 s1 s2 s3 r0 r1 r2 r3 hf4 hK hw5 hf5 r5 hTs hSt;go_enter Tryz.func5,Tryz.ntmps5;go_upto_region 3 with fail
 rw[HN.out,HW4.out];clear HW4 HN;go_wp2_with fail
 rw[HK.out,HW5.out];refine Calls.mono HSt.out ?_;rintro e w6⟨p,dv,rfl,HS⟩;clear HSt HW5 HK c0 c1 d0 d1;go_wp2_with fail
 go_loopw [5] (fun nn wr=>∃n:Nat,nn=.int .i64 n/\Hid (KnS w p n wr)) (fun nn _=>50-(RowKit.intOf nn).toNat)
 case atStart=>exact⟨0,rfl,HS⟩
 obtain⟨n,rfl,HR⟩:=hrel;have hle:=zagq HR.out;have hlt:(n:Int)<50:=by omega
 have HP:Hid (Calls ..):=zaej HR.out;clear HR;go_wp2_with fail
 refine Calls.mono HP.out ?_;rintro e w7 (⟨t,k,m,sh,ct,ma,rfl,h7⟩|⟨rfl,h7,h8,w0,Z,s,q1,q2,q3,q4,q5⟩)
 .have H7:Hid (KnS w p (n+1) (w7.alloc (.cells #[.int .i64 t,.int .u8 k,.int .i64 m,.int .i64 sh,.int .i64 ct,.int .i64 ma] 35))):=h7.quiet (Fr.alloc _ _ _);clear h7 HP;go_wp2_with fail
  go_roundw;case rel=>exact⟨n+1,by simp,H7⟩
  case measure=>simp[RowKit.intOf];omega
 subst h7;have HQ:Hid (Calls ..):=zabb (w1:=w) (q1.quiet (Fr.alloc [] w7 (.cells #[.int .i64 0,.int .u8 0,.int .i64 0,.int .i64 0,.int .i64 0,.int .i64 0] 35))) q2 q3 q4 (by omega) q5;have HF:Hid (Fr [] w (w7.alloc (.cells #[.int .i64 0,.int .u8 0,.int .i64 0,.int .i64 0,.int .i64 0,.int .i64 0] 35))):=h8.fr.then (Fr.alloc _ _ _);clear h8 q1 q2 q3 q4 q5 HP;go_wp2_with fail
 refine Calls.mono HQ.out ?_;rintro e w8⟨g,rc,rfl,hrc,e0,e1,hf8⟩;have HF8:Hid (Fr [] w w8):=HF.out.then hf8;clear hf8 HQ HF;go_wp2;go_ret;exact⟨rfl,HF8.out⟩
def TsS(w:World)(p:Nat)(c:Cf)(T:List Tx)(F:Nat)(n:Nat)(w':World):Prop:=∃(w0:World)(Z:Lay)(s:Ms),Fr [] w w0/\RP w0 w' p c T Z s/\Z.nr=s.d/\Wf c T s/\s.fd=F/\s.k=n/\mu c s+n<=69*F
theorem zabc{w w':World}{p:Nat}{c:Cf}{T:List Tx}{fd:Int}{w0:World}{Z:Lay}(hc:c.may)(hok:okL 1 T)(hf:Fr [] w w0)(h:RP w0 w' p c T Z {ms0 with fd:=zbu T 0 fd})(hn:Z.nr=0):TsS w p c T (zbu T 0 fd) 0 w':=
 ⟨w0,Z,_,hf,h,hn,(Wf.zero hc hok).feed fd,rfl,rfl,by rw[zafw];exact Nat.le_refl _⟩
theorem TsS.fr{w w1:World}{p n F:Nat}{c:Cf}{T:List Tx}(h:TsS w p c T F n w1):Fr [] w w1:=by
 obtain⟨w0,Z,s,h1,h2,h3⟩:=h;exact h1.then h2.m.fr
theorem TsS.quiet{w w1 w2:World}{p n F:Nat}{c:Cf}{T:List Tx}(h:TsS w p c T F n w1)(hf:Fr [] w1 w2):TsS w p c T F n w2:=by
 obtain⟨w0,Z,s,h1,h2,h3⟩:=h;exact⟨w0,Z,s,h1,h2.quiet hf,h3⟩
theorem TsS.le{w w1:World}{p n F:Nat}{c:Cf}{T:List Tx}(h:TsS w p c T F n w1):n<=69*F/\F<=T.length:=by
 obtain⟨w0,Z,s,h1,h2,h3,h4,h5,h6,h7⟩:=h;have:=h4.fdl.2;exact⟨by omega,by omega⟩
theorem zaek{w w':World}{p n F:Nat}{c:Cf}{T:List Tx}(h:TsS w p c T F n w')(hF:F<=65536){m:Int}(hm:i64 m):Calls Tryz.prog 6 #[.pointer (some ⟨p,0,none⟩),.int .i64 m] w' fun e w2=>
  (∃t k m sh ct ma,e=.returned (.tuple #[.agg #[.int .i64 t,.int .u8 k,.int .i64 m,.int .i64 sh,.int .i64 ct,.int .i64 ma],.int .i64 0])/\TsS w p c T F (n+1) w2) \/
  (e=.returned (.tuple #[.agg #[.int .i64 0,.int .u8 0,.int .i64 0,.int .i64 0,.int .i64 0,.int .i64 0],.int .i64 9])/\Hid (Fr [] w w2/\∃(w0:World)(Z:Lay)(s:Ms),RP w0 w2 p c T Z s/\Wf c T s/\s.fd=F/\s.k=n/\rdyL c s (c.l.toNat+c.s.toNat+2)=[])):=by
 have hle:=h.le;obtain⟨w0,Z,s,h1,h2,h3,h4,h5,h6,h7⟩:=h;by_cases hr:rdyL c s (c.l.toNat+c.s.toNat+2)=[]
 .refine Calls.mono (zng h2 h4 m hr) ?_;rintro e w2⟨rfl,hf⟩;exact Or.inr ⟨rfl,h1.then (h2.m.fr.then hf),w0,Z,s,h2.quiet hf,h4,h5,h6,hr⟩
 refine Calls.mono (zsi h2 h3 h4 (by omega) m hm hr) ?_;rintro e w2⟨t,k,m,sh,ct,ma,s',rfl,⟨Z',hD,hn'⟩,hN⟩;refine Or.inl ⟨t,k,m,sh,ct,ma,rfl,w0,Z',s',h1,h2.dn hD,hn',hN.wf,by rw[hN.fd];exact h5,by rw[hN.k,h6],?_⟩;have:=hN.mu;omega
structure EndC(w1 w:World)(p F:Nat)(T:List Tx):Prop where
 over:∀W,Fr [] w W->Calls Tryz.prog 9 #[.pointer (some ⟨p,0,none⟩)] W fun e w'=>e=.returned (.bool true)/\Fr [] W w'
 mark:∀W,Fr [] w W->Calls Tryz.prog 10 #[.pointer (some ⟨p,0,none⟩)] W fun e w'=>e=.returned (.int .i64 (F:Int))/\Fr [] W w'
 store:∀W,Fr [] w W->Calls Tryz.prog 12 #[.pointer (some ⟨p,0,none⟩)] W fun e w'=>∃ro N rc ps,e=.returned (.slice ro N rc)/\Hid (N=ps.length/\Fo.Is (Fo.fo (T.take F)) ps/\O.ERs w' ro ps/\Fr [] W w')
theorem zagr{w1 w:World}{p n F:Nat}{c:Cf}{T:List Tx}{w0:World}{Z:Lay}{s:Ms}(h:RP w0 w p c T Z s)(hW:Wf c T s)(hfd:s.fd=F)(hk:s.k=n)(hn:n<16000000)(hr:rdyL c s (c.l.toNat+c.s.toNat+2)=[]):EndC w1 w p F T:=by
 refine⟨fun W hf=>zaaq (h.quiet hf) hW (by omega) hr,fun W hf=> ?_,fun W hf=> ?_⟩
 .have:=zxn (h.quiet hf);rw[(zik hW hr).2.2.2.1,hfd]at this
  exact this
 refine Calls.mono (zlz (h.quiet hf) hW (by omega) hr) ?_;rintro e w'⟨ro,N,rc,ps,rfl,h1,h2,h3,h4,h5,h6⟩;rw[hfd]at h2
 exact⟨ro,N,rc,ps,rfl,h1,h2,h4,h6⟩
section
variable{w:World}{l s x q C fd:Int}{ao po:Option Addr}{L cap P pc:Nat}{ts:List Tm}{xs:List Int}
theorem topSerial_any(hT:TRs w ao ts)(hL:L=ts.length)(hcap:L<=cap)(hP:Pks w po xs)(hPl:P=xs.length)(hpc:P<=pc)(hfd:i64 fd) :
  Calls Tryz.prog 3 #[.agg (wdC l s x q ao L cap C fd po P pc)] w fun e w'=>e=.returned (.bool true)/\Fr [] w w':=by
 obtain⟨w1,HW1⟩:∃w1,Hid (w.alloc (.cells (wdC l s x q ao L cap C fd po P pc) 27)=w1):=⟨_,rfl⟩;obtain⟨A,HA⟩:∃A,Hid (w.heap.size=A):=⟨_,rfl⟩;have hF1:Fr [] w w1:=by rw[<-HW1.out];exact Fr.alloc [] w _
 have hb1:w1.heap[A]? = some (.cells (wdC l s x q ao L cap C fd po P pc) 27 (0,0)):=by rw[<-HW1.out,<-HA.out];exact heap_alloc_new _ _
 have HBx:Hid (∀W,Fr [] w1 W->W.cell? ⟨A,0,none⟩=some (.int .i64 l)/\W.cell? ⟨A,1,none⟩=some (.int .i64 s)/\W.cell? ⟨A,2,none⟩=some (.int .i64 x)/\W.cell? ⟨A,3,none⟩=some (.int .i64 q)/\W.cell? ⟨A,4,none⟩=some (.slice ao L cap)/\W.cell? ⟨A,5,none⟩=some (.int .i64 C)/\W.cell? ⟨A,6,none⟩=some (.int .i64 fd)/\W.cell? ⟨A,7,none⟩=some (.slice po P pc)):=fun W hf=>by
  have hr:=hf.keep hb1 (by simp);refine⟨?_,?_,?_,?_,?_,?_,?_,?_⟩<;>(rw[crw hr];rfl)
 have HT:Hid (∀W,Fr [] w1 W->TRs W ao ts/\Pks W po xs):=fun W hf=>⟨hT.keep (hF1.then hf),hP.keep (hF1.then hf)⟩;have HF1:Hid (Fr [] w w1):=hF1;have HL:Hid (L=ts.length/\P=xs.length):=⟨hL,hPl⟩;obtain⟨f0,f1,f2,f3,f4,f5,f6,f7⟩:=HBx.out _ (Fr.refl _ _);by_cases hgood:okL 1 (txs ts)/\(0<=C/\C<=16777216)/\Cf.may ⟨l,s,x,q⟩
 .have hSt:=zly (w:=w1) (l:=l) (s:=s) (x:=x) (q:=q) (C:=C) (fd:=fd) (ao:=ao) (po:=po) (L:=L) (cap:=cap) (P:=P) (pc:=pc) (HT.out _ (Fr.refl _ _)).1 hL hgood.1 hgood.2.1.1 hgood.2.1.2 hgood.2.2;unfold wdC at hSt;obtain⟨F,hF⟩:∃F,zbu (txs ts) 0 fd=F:=⟨_,rfl⟩;have HSt:Hid (Calls Tryz.prog 4 #[.agg #[.int .i64 l,.int .i64 s,.int .i64 x,.int .i64 q,.slice ao L cap,.int .i64 C,.int .i64 fd,.slice po P pc]] w1 fun e w'=>∃(p:Nat)(dv:Value),e=.returned (.tuple #[.pointer (some ⟨p,0,none⟩),dv])/\Hid (TsS w1 p ⟨l,s,x,q⟩ (txs ts) F 0 w')):=by
   refine Calls.mono hSt ?_;rintro e w'⟨p,dv,Z,w0,rfl,h1,h2,h3⟩;refine⟨p,dv,rfl,?_⟩;have:=zabc hgood.2.2 hgood.1 h1 h2 h3;rw[hF]at this
   exact this
  have HOK:Hid (okL 1 (txs ts)):=hgood.1;have hL6:L<=65536:=by have:=zdo hgood.1;rw[zau]at this;omega
  have hFe:(fd<0\/(L:Int)<fd)/\F=0\/(0<=fd/\fd<=(L:Int))/\fd=(F:Int):=by
   rw[<-hF];unfold zbu;rw[zau,<-hL];by_cases h1:fd<(0:Nat)\/(L:Int)<fd
   .rw[if_pos h1];exact Or.inl ⟨by simpa using h1,rfl⟩
   rw[if_neg h1];have h2:0<=fd/\fd<=(L:Int):=by
    constructor<;>(apply Classical.byContradiction;intro h3;apply h1;simp;omega)
   exact Or.inr ⟨h2,by omega⟩
  have hFL:F<=L:=by rcases hFe with⟨_,h⟩|⟨h,h'⟩<;>omega
  clear hT hL hP hPl hF1 hb1 hSt hF hgood;by_cases hbig:100<L
  .have hbig':(100:Int)<(L:Int):=by omega
   unfold wdC at HW1;unfold wdC;go_enter Tryz.func3,Tryz.ntmps3;go_upto_region 1 with fail
   rw[HW1.out,HA.out];clear HW1 HA;go_wp2_with fail
   refine Calls.mono HSt.out ?_;rintro e w2⟨p,dv,rfl,HS⟩;have HF2:Hid (Fr [] w w2):=HF1.out.then HS.out.fr;obtain⟨g0,g1,g2,g3,g4,g5,g6,g7⟩:=HBx.out _ HS.out.fr;have HKn:Hid (Calls ..):=zjs w2;clear HSt f0 f1 f2 f3 f4 f5 f6 f7 HS;go_wp2_with fail
   refine Calls.mono HKn.out ?_;rintro e w3⟨rfl,hf3⟩;have HF3:Hid (Fr [] w w3):=HF2.out.then hf3;clear hf3 HKn;go_wp2;go_ret;exact⟨rfl,HF3.out⟩
  have hbig':¬(100:Int)<(L:Int):=by omega
  have HFe:Hid ((fd<0\/(L:Int)<fd)/\F=0\/(0<=fd/\fd<=(L:Int))/\fd=(F:Int)):=hFe;clear hFe;unfold wdC at HW1;unfold wdC;go_enter Tryz.func3,Tryz.ntmps3;go_upto_region 1 with fail
  rw[HW1.out,HA.out];clear HW1 HA;go_wp2_with fail
  refine Calls.mono HSt.out ?_;rintro e w2⟨p,dv,rfl,HS⟩;have HF2:Hid (Fr [] w1 w2):=HS.out.fr;obtain⟨g0,g1,g2,g3,g4,g5,g6,g7⟩:=HBx.out _ HS.out.fr;clear HSt f0 f1 f2 f3 f4 f5 f6 f7;go_upto_region 5 with fail
  go_cut [35] from 27 to 35 (fun v wx=>∃bb:Bool,v=.bool bb/\Hid (bb=true↔(fd<0\/(L:Int)<fd))/\w2=wx)
  case first=>
   by_cases h0:fd<0
   .go_wp2;go_meet;exact⟨true,rfl,⟨fun _=>Or.inl h0,fun _=>rfl⟩,rfl⟩
   by_cases h4:(L:Int)<fd
   .go_wp2;go_meet;exact⟨true,rfl,⟨fun _=>Or.inr h4,fun _=>rfl⟩,rfl⟩
   go_wp2;go_meet;exact⟨false,rfl,⟨fun h=>(by cases h),fun h=>(by omega)⟩,rfl⟩
  obtain⟨bb,rfl,HBb,rfl⟩:=hcut;rename_i hK5;refine hK5 _ _ ?_;clear hK5;go_cut [5] from 27 to 35 (fun v wx=>v=.int .i64 (F:Int)/\w2=wx)
  case first=>
   rcases HFe.out with⟨h1,h2⟩|⟨⟨h1,h2⟩,h3⟩
   .obtain rfl:=HBb.out.2 h1;go_wp2;go_meet;exact⟨by rw[h2];rfl,rfl⟩
   obtain rfl:bb=false:=by
    cases bb with
    |false=>rfl
    |true=>have:=HBb.out.1 rfl;omega
   go_wp2;go_meet;exact⟨by rw[h3],rfl⟩
  obtain⟨rfl,rfl⟩:=hcut;clear HBb HFe g0 g1 g2 g3 g4 g5 g6 g7 HF2;go_wp2_with fail
  go_loopw [6] (fun ii wr=>∃n:Nat,ii=.int .i64 n/\Hid (TsS w1 p ⟨l,s,x,q⟩ (txs ts) F n wr)) (fun ii _=>70*L+1-(RowKit.intOf ii).toNat)
  case atStart=>exact⟨0,rfl,HS⟩
  clear HS;obtain⟨n,rfl,HR⟩:=hrel;have hle:=HR.out.le;have hnL:n<=70*L:=by omega
  have hlt:(n:Int)<=70*(L:Int):=by omega
  have hn7:n<=7000:=by omega
  clear hle;obtain⟨wt,hwt⟩:∃wt,wt=wr:=⟨_,rfl⟩;subst hwt;obtain⟨g0,g1,g2,g3,g4,g5,g6,g7⟩:=HBx.out _ HR.out.fr;have hP:=(HT.out _ HR.out.fr).2;obtain⟨m,hm⟩:∃m,m=pkI xs n:=⟨_,rfl⟩;have hPk:=zyc hP HL.out.2 hpc n (by omega);have hmi:=zaeg hP (i:=n) (by omega);rw[<-hm]at hPk hmi
  have HPk:Hid (Calls ..):=hPk;have HP:Hid (Calls ..):=zaek HR.out (by omega) hmi;clear hm hPk hmi hP HR;go_wp2_with fail
  refine Calls.mono HPk.out ?_;rintro e w5⟨rfl,rfl⟩;clear HPk;go_wp2_with fail
  refine Calls.mono HP.out ?_;rintro e w7 (⟨t,k,m,sh,ct,ma,rfl,h7⟩|⟨rfl,h7⟩)
  .have H7:Hid (TsS w1 p ⟨l,s,x,q⟩ (txs ts) F (n+1) (w7.alloc (.cells #[.int .i64 t,.int .u8 k,.int .i64 m,.int .i64 sh,.int .i64 ct,.int .i64 ma] 35))):=h7.quiet (Fr.alloc _ _ _);clear h7 HP g0 g1 g2 g3 g4 g5 g6 g7;go_wp2_with fail
   go_roundw;case rel=>exact⟨n+1,by simp,H7⟩
   case measure=>simp[RowKit.intOf];omega
  obtain⟨hf7,w0,Z,S,q1,q2,q3,q4,q5⟩:=h7.out;obtain⟨ps,hps,hpl⟩:=Fo.fo_len ((txs ts).take F) (fun t ht=>(zma HOK.out t (List.mem_of_mem_take ht)).2.2.1);have hpl2:ps.length<=3200:=by rw[List.length_take]at hpl;omega
  obtain⟨Nx,hNx⟩:∃Nx,Nx=ps.length:=⟨_,rfl⟩;have HNx:Hid (Nx=ps.length):=hNx;have hNx2:Nx<=3200:=by omega
  have HPs:Hid (Fo.Is (Fo.fo ((txs ts).take F)) ps):=hps;have HSc:Hid (Fo.ScTold (txs ts) (F:Int) ⟨#[]⟩ ⟨#[]⟩ ps 0):=Fo.sc_of HOK.out (by rw[zau,<-HL.out.1];exact hFL) hps;have HG:Hid (Fr [] w1 (w7.alloc (.cells #[.int .i64 0,.int .u8 0,.int .i64 0,.int .i64 0,.int .i64 0,.int .i64 0] 35))):=hf7.then (Fr.alloc _ _ _);have HE:Hid (EndC w1 (w7.alloc (.cells #[.int .i64 0,.int .u8 0,.int .i64 0,.int .i64 0,.int .i64 0,.int .i64 0] 35)) p F (txs ts)):=zagr (q1.quiet (Fr.alloc _ _ _)) q2 q3 q4 (by omega) q5;clear hf7 q1 q2 q3 q4 q5 hps hpl hpl2 hNx h7 HP g0 g1 g2 g3 g4 g5 g6 g7;obtain⟨g0,g1,g2,g3,g4,g5,g6,g7⟩:=HBx.out _ HG.out;go_wp2_with fail
  refine Calls.mono (Fo.fStore_any ao L cap (F:Int) ps Nx 0 ts _ (HT.out _ HG.out).1 HL.out.1 hcap (by omega) (by omega) HSc.out HNx.out) ?_;rintro e w9⟨ro,rc,rfl,hE9,hF9⟩;have HF9:Hid (Fr [] _ w9):=hF9;have HR9:Hid (O.ERs w9 ro ps):=O.ers_of hE9.row hE9.len (by rw[<-HNx.out];omega);clear hE9 hF9 g0 g1 g2 g3 g4 g5 g6 g7;have HOv:Hid (Calls ..):=HE.out.over w9 HF9.out;go_upto_region 15 with fail
  go_wp2_with fail
  refine Calls.mono HOv.out ?_;rintro e w10⟨rfl,hf10⟩;have HF10:Hid (Fr [] w9 w10):=hf10;clear hf10 HOv;have HMk:Hid (Calls ..):=HE.out.mark w10 (HF9.out.then HF10.out);go_wp2_with fail
  refine Calls.mono HMk.out ?_;rintro e w11⟨rfl,hf11⟩;have HF11:Hid (Fr [] w9 w11):=HF10.out.then hf11;clear hf11 HMk HF10;have HStr:Hid (Calls ..):=HE.out.store w11 (HF9.out.then HF11.out);go_wp2_with fail
  refine Calls.mono HStr.out ?_;rintro e w12⟨ro2,N2,rc2,qs,rfl,hq⟩;obtain⟨hq1,hq2,hq3,hq4⟩:=hq.out;obtain rfl:qs=ps:=Fo.Is.unique hq2 HPs.out;obtain rfl:N2=Nx:=hq1.trans HNx.out.symm;have HF12:Hid (Fr [] w9 w12):=HF11.out.then hq4;have HSa:Hid (Calls ..):=O.sameEntries_any ro2 ro N2 rc2 rc qs w12 hq3 (HR9.out.keep HF12.out) HNx.out;clear hq hq1 hq2 hq3 hq4 HF11 HStr;go_wp2_with fail
  refine Calls.mono HSa.out ?_;rintro e w13⟨rfl,hf13⟩;have HF13:Hid (Fr [] w w13):=HF1.out.then (HG.out.then (HF9.out.then (HF12.out.then hf13)));have HKn:Hid (Calls ..):=zjs w13;clear hf13 HSa HF12 HE HG HF9;go_wp2_with fail
  refine Calls.mono HKn.out ?_;rintro e w14⟨rfl,hf14⟩;have HF14:Hid (Fr [] w w14):=HF13.out.then hf14;clear hf14 HKn HF13;go_wp2;go_ret;exact⟨rfl,HF14.out⟩
 have hSt:=zum (w:=w1) (l:=l) (s:=s) (x:=x) (q:=q) (C:=C) (fd:=fd) (ao:=ao) (po:=po) (L:=L) (cap:=cap) (P:=P) (pc:=pc) (HT.out _ (Fr.refl _ _)).1 hL hgood;unfold wdC at hSt;have HSt:Hid (Calls ..):=hSt;clear hT hL hP hPl hF1 hb1 hSt hgood;unfold wdC at HW1;unfold wdC;go_enter Tryz.func3,Tryz.ntmps3;go_upto_region 1 with fail
 rw[HW1.out,HA.out];clear HW1 HA;go_wp2_with fail
 refine Calls.mono HSt.out ?_;rintro e w2⟨⟨v,rfl⟩,hf2⟩;have HF2:Hid (Fr [] w w2):=HF1.out.then hf2;have HKn:Hid (Calls ..):=zjs w2;clear HSt f0 f1 f2 f3 f4 f5 f6 f7 hf2;go_wp2_with fail
 refine Calls.mono HKn.out ?_;rintro e w3⟨rfl,hf3⟩;have HF3:Hid (Fr [] w w3):=HF2.out.then hf3;clear hf3 HKn;go_wp2;go_ret;exact⟨rfl,HF3.out⟩
end
end Go.Proofs.YtakbodlicfmkjaaGreat.Ap
