/- Contracts and lemmas. -/
import Derived.Test.YtaigdcmoecgabaaGreatGp51
import Derived.Test.YtaigdcmoecgabaaGreatGp52
import Derived.Test.YtaigdcmoecgabaaGreatGp44
import Derived.Test.YtaigdcmoecgabaaGreatGp47
import Derived.Test.YtaigdcmoecgabaaGreatGp53
set_option maxHeartbeats 16000000
set_option maxRecDepth 100000
set_option linter.unusedSimpArgs false
set_option linter.unusedVariables false
namespace Go.Proofs.YtaigdcmoecgabaaGreat.Ap
open Go.ChangeShapes Go.WideShapes Go.ChangeAt Go.RowKit Go.Lib Go.Maps
def NewR(w0:World)(c:Cf)(T:List Tx)(e:Ending)(w':World):Prop:=∃(p:Nat)(Z:Lay),e=.returned (.tuple #[.pointer (some ⟨p,0,none⟩),.int .i64 0])/\RP w0 w' p c T Z ms0/\Z.nr=0
section
variable{w0 w:World}{l s x q:Int}{g lb L db:Nat}{ts:List Tm}{v:Value}{C:Int}
theorem zaba(h:F.Src w0 w g lb L ts v [])(hok:okL 1 (txs ts))(hd:Dz.D0 w db C)(hc:Cf.may ⟨l,s,x,q⟩)(h0:Fr [] w0 w) :
  Calls Tryz.prog 53 #[.agg #[.int .i64 l,.int .i64 s,.int .i64 x,.int .i64 q],.pointer (some ⟨g,0,none⟩),.pointer (some ⟨db,0,none⟩)] w fun e w'=>NewR w0 ⟨l,s,x,q⟩ (txs ts) e w':=by
 obtain⟨w1,HW1⟩:∃w1,Hid (w.alloc (.cells #[.int .i64 l,.int .i64 s,.int .i64 x,.int .i64 q] 23)=w1):=⟨_,rfl⟩;obtain⟨A,HA⟩:∃A,Hid (w.heap.size=A):=⟨_,rfl⟩;have hF1:Fr [] w w1:=by rw[<-HW1.out];exact Fr.alloc [] w _
 have hC1:CfM w1 A l s x q:=by rw[<-HW1.out,<-HA.out];exact CfM.new _ _ _ _ _ _
 have HC1:Hid (∀W,Fr [] w1 W->CfM W A l s x q):=fun W hf=>hC1.keep hf;have HS1:Hid (∀W,Fr [] w1 W->F.Src w0 W g lb L ts v []/\Dz.D0 W db C/\Fr [] w0 W):=fun W hf=>⟨h.keep (hF1.then hf),hd.keep (hF1.then hf) (by simp),h0.then (hF1.then hf)⟩;have HI:Hid (Calls ..):=zii (HS1.out _ (Fr.refl _ _)).1;have HOK:Hid (okL 1 (txs ts)):=hok;have HM:Hid (Cf.may ⟨l,s,x,q⟩):=hc;clear h hok hd hc h0 hF1 hC1;go_enter Tryz.func53,Tryz.ntmps53;go_upto_region 1 with fail
 rw[HW1.out,HA.out];clear HW1 HA;go_wp2_with fail
 refine Calls.mono HI.out ?_;rintro e w2⟨rfl,hf2⟩;have HF2:Hid (Fr [] w1 w2):=hf2;have HID:Hid (Calls ..):=Dz.isDisk_any (HS1.out _ hf2).2.1;clear hf2 HI;go_wp2_with fail
 refine Calls.mono HID.out ?_;rintro e w3⟨rfl,rfl⟩;obtain⟨_,f0,f1,f2,f3⟩:=HC1.out _ HF2.out;have hCk:=zbx l s x q w2;rw[show Cf.err ⟨l,s,x,q⟩=0 from if_pos HM.out]at hCk
 have HCk:Hid (Calls ..):=hCk;clear hCk HID;go_wp2_with fail
 refine Calls.mono HCk.out ?_;rintro e w3⟨rfl,hf3⟩;have HF3:Hid (Fr [] w1 w3):=HF2.out.then hf3;have HNw:Hid (Calls ..):=Dz.newest_nil (HS1.out _ HF3.out).2.1;clear HCk hf3 HF2 f0 f1 f2 f3;go_wp2_with fail
 refine Calls.mono HNw.out ?_;rintro e w4⟨rfl,hf4⟩;obtain⟨w5,HW5⟩:∃w5,Hid (w4.alloc (.cells #[.int .i64 0,.slice none 0 0,.slice none 0 0] 163)=w5):=⟨_,rfl⟩;obtain⟨Q,HQ⟩:∃Q,Hid (w4.heap.size=Q):=⟨_,rfl⟩;have hf5:Fr [] w4 w5:=by rw[<-HW5.out];exact Fr.alloc _ _ _
 have HSB:Dz.SB w5 Q:=⟨by rw[<-HW5.out,<-HQ.out];exact heap_alloc_new _ _⟩;have a0:=HSB.c0;have a1:=HSB.c1;have a2:=HSB.c2;have HF5:Hid (Fr [] w1 w5):=(HF3.out.then hf4).then hf5;obtain⟨_,f0,f1,f2,f3⟩:=HC1.out _ HF5.out;have HNM:Hid (Calls ..):=zkz (dk:=some ⟨db,0,none⟩) (HS1.out _ HF5.out).1 HOK.out HM.out (HS1.out _ HF5.out).2.2;clear HNw hf4 hf5 HSB HF3;go_upto_region 7 with fail
 rw[HW5.out,HQ.out];clear HW5 HQ;go_wp2_with fail
 refine Calls.mono HNM.out ?_;rintro e w6⟨Z,rfl,hM,hnr⟩;have HR:Hid (RP w0 (w6.alloc (.cells #[.pointer (some ⟨Z.z.mb,0,none⟩)] 94)) w6.heap.size ⟨l,s,x,q⟩ (txs ts) Z ms0/\Z.nr=0):=
  ⟨⟨hM.quiet (Fr.alloc _ _ _),heap_alloc_new _ _,hM.otherO (S:=[]) (Fr.alloc [] _ _) (fun b hb=>by cases hb) (hM.offNew (Nat.le_refl _))⟩,hnr⟩
 clear hM hnr HNM;go_wp2;go_ret2;exact⟨_,Z,rfl,HR.out.1,HR.out.2⟩
theorem zabb(h:F.Src w0 w g lb L ts v [])(hd:Dz.D0 w db C)(hc:¬Cf.may ⟨l,s,x,q⟩) :
  Calls Tryz.prog 53 #[.agg #[.int .i64 l,.int .i64 s,.int .i64 x,.int .i64 q],.pointer (some ⟨g,0,none⟩),.pointer (some ⟨db,0,none⟩)] w fun e w'=>e=.returned (.tuple #[.pointer none,.int .i64 7])/\Fr [] w w':=by
 obtain⟨w1,HW1⟩:∃w1,Hid (w.alloc (.cells #[.int .i64 l,.int .i64 s,.int .i64 x,.int .i64 q] 23)=w1):=⟨_,rfl⟩;obtain⟨A,HA⟩:∃A,Hid (w.heap.size=A):=⟨_,rfl⟩;have hF1:Fr [] w w1:=by rw[<-HW1.out];exact Fr.alloc [] w _
 have hC1:CfM w1 A l s x q:=by rw[<-HW1.out,<-HA.out];exact CfM.new _ _ _ _ _ _
 have HC1:Hid (∀W,Fr [] w1 W->CfM W A l s x q):=fun W hf=>hC1.keep hf;have HS1:Hid (∀W,Fr [] w1 W->F.Src w0 W g lb L ts v []/\Dz.D0 W db C):=fun W hf=>⟨h.keep (hF1.then hf),hd.keep (hF1.then hf) (by simp)⟩;have HI:Hid (Calls ..):=zii (HS1.out _ (Fr.refl _ _)).1;have HM:Hid (¬Cf.may ⟨l,s,x,q⟩):=hc;have HF1:Hid (Fr [] w w1):=hF1;clear h hd hc hF1 hC1;go_enter Tryz.func53,Tryz.ntmps53;go_upto_region 1 with fail
 rw[HW1.out,HA.out];clear HW1 HA;go_wp2_with fail
 refine Calls.mono HI.out ?_;rintro e w2⟨rfl,hf2⟩;have HF2:Hid (Fr [] w1 w2):=hf2;have HID:Hid (Calls ..):=Dz.isDisk_any (HS1.out _ hf2).2;clear hf2 HI;go_wp2_with fail
 refine Calls.mono HID.out ?_;rintro e w3⟨rfl,rfl⟩;obtain⟨_,f0,f1,f2,f3⟩:=HC1.out _ HF2.out;have hCk:=zbx l s x q w2;rw[show Cf.err ⟨l,s,x,q⟩=7 from if_neg HM.out]at hCk
 have HCk:Hid (Calls ..):=hCk;clear hCk HID;go_wp2_with fail
 refine Calls.mono HCk.out ?_;rintro e w3⟨rfl,hf3⟩;have HF3:Hid (Fr [] w w3):=HF1.out.then (HF2.out.then hf3);clear hf3 HCk;go_wp2;go_ret2;exact⟨rfl,HF3.out⟩
end
def wC(l s x q:Int)(ao:Option Addr)(L cap:Nat)(C:Int):Array Value:=#[.int .i64 l,.int .i64 s,.int .i64 x,.int .i64 q,.slice ao L cap,.int .i64 C]
theorem zhn{w W:World}{A:Nat}{l s x q C:Int}{ao:Option Addr}{L cap:Nat}(h:w.heap[A]? = some (.cells (wC l s x q ao L cap C) 57 (0,0)))(hf:Fr [] w W):W.cell? ⟨A,0,none⟩=some (.int .i64 l)/\W.cell? ⟨A,1,none⟩=some (.int .i64 s)/\W.cell? ⟨A,2,none⟩=some (.int .i64 x)/\W.cell? ⟨A,3,none⟩=some (.int .i64 q)/\W.cell? ⟨A,4,none⟩=some (.slice ao L cap)/\W.cell? ⟨A,5,none⟩=some (.int .i64 C):=by
 have hr:=hf.keep h (by simp);refine⟨?_,?_,?_,?_,?_,?_⟩<;>(rw[crw hr];rfl)
section
variable{w:World}{l s x q C:Int}{ao:Option Addr}{L cap:Nat}{ts:List Tm}
theorem zabc(hT:TRs w ao ts)(hL:L=ts.length)(hok:okL 1 (txs ts))(hC0:0<=C)(hC1:C<=16777216)(hc:Cf.may ⟨l,s,x,q⟩) :
  Calls Tryz.prog 21 #[.agg (wC l s x q ao L cap C)] w fun e w'=>∃(p:Nat)(sv dv:Value)(Z:Lay)(w0:World),e=.returned (.tuple #[.pointer (some ⟨p,0,none⟩),sv,dv])/\Fr [] w w0/\RP w0 w' p ⟨l,s,x,q⟩ (txs ts) Z ms0/\Z.nr=0:=by
 obtain⟨w1,HW1⟩:∃w1,Hid (w.alloc (.cells (wC l s x q ao L cap C) 57)=w1):=⟨_,rfl⟩;obtain⟨A,HA⟩:∃A,Hid (w.heap.size=A):=⟨_,rfl⟩;have hF1:Fr [] w w1:=by rw[<-HW1.out];exact Fr.alloc [] w _
 have hb1:w1.heap[A]? = some (.cells (wC l s x q ao L cap C) 57 (0,0)):=by rw[<-HW1.out,<-HA.out];exact heap_alloc_new _ _
 have HBx:Hid (∀W,Fr [] w1 W->_):=fun W hf=>zhn hb1 hf;have HLg:Hid (Calls ..):=F.new_ok ao L cap ts w1 (hT.keep hF1) hL hok;have HD:Hid (∀W,Calls Tryz.prog 52 #[.int .i64 C] W _):=fun W=>Dz.dnew_ok C W hC0 hC1;have HF1:Hid (Fr [] w w1):=hF1;have HOK:Hid (okL 1 (txs ts)):=hok;have HM:Hid (Cf.may ⟨l,s,x,q⟩):=hc;obtain⟨f0,f1,f2,f3,f4,f5⟩:=HBx.out _ (Fr.refl _ _);clear hT hL hok hc hF1 hb1;unfold wC at HW1;unfold wC;go_enter Tryz.func21,Tryz.ntmps21;go_upto_region 1 with fail
 rw[HW1.out,HA.out];clear HW1 HA;go_wp2_with fail
 refine Calls.mono HLg.out ?_;rintro e w2⟨g,lb,ds,rfl,hS,hts,hf2⟩;have HF2:Hid (Fr [] w1 w2):=hf2;have HS:Hid (F.Src _ _ _ _ _ _ _ _):=hS;have HTs:Hid (txs ds=txs ts):=hts;obtain⟨g0,g1,g2,g3,g4,g5⟩:=HBx.out _ hf2;have HD2:Hid (Calls ..):=HD.out w2;clear hS hts hf2 HLg HD f0 f1 f2 f3 f4 f5;go_wp2_with fail
 refine Calls.mono HD2.out ?_;rintro e w3⟨rfl,hd,hf3⟩;obtain⟨db,hdb⟩:∃db,db=w2.heap.size:=⟨_,rfl⟩;rw[<-hdb]at hd ⊢
 have HF3:Hid (Fr [] w1 w3):=HF2.out.then hf3;obtain⟨f0,f1,f2,f3,f4,f5⟩:=HBx.out _ HF3.out;have HN:Hid (Calls ..):=zaba (w0:=w1) (HS.out.keep hf3) (by rw[HTs.out];exact HOK.out) hd HM.out HF3.out;rw[HTs.out]at HN
 clear hd hf3 HD2 hdb g0 g1 g2 g3 g4 g5 HS HTs;go_wp2_with fail
 refine Calls.mono HN.out ?_;rintro e w4⟨p,Z,rfl,hR,hnr⟩;have HR:Hid (RP _ _ _ _ _ _ _/\_):=⟨hR,hnr⟩;clear hR hnr HN f0 f1 f2 f3 f4 f5;go_wp2_with fail
 refine bodyPost_ret (results_tmp3 rfl _ _ _) rfl ?_;exact⟨p,_,_,Z,w1,rfl,HF1.out,HR.out.1,HR.out.2⟩
theorem zabd(hT:TRs w ao ts)(hL:L=ts.length)(h:¬(okL 1 (txs ts)/\(0<=C/\C<=16777216)/\Cf.may ⟨l,s,x,q⟩)) :
  Calls Tryz.prog 21 #[.agg (wC l s x q ao L cap C)] w fun e w'=>(∃sv dv,e=.returned (.tuple #[.pointer none,sv,dv]))/\Fr [] w w':=by
 obtain⟨w1,HW1⟩:∃w1,Hid (w.alloc (.cells (wC l s x q ao L cap C) 57)=w1):=⟨_,rfl⟩;obtain⟨A,HA⟩:∃A,Hid (w.heap.size=A):=⟨_,rfl⟩;have hF1:Fr [] w w1:=by rw[<-HW1.out];exact Fr.alloc [] w _
 have hb1:w1.heap[A]? = some (.cells (wC l s x q ao L cap C) 57 (0,0)):=by rw[<-HW1.out,<-HA.out];exact heap_alloc_new _ _
 have HBx:Hid (∀W,Fr [] w1 W->_):=fun W hf=>zhn hb1 hf;have HT:Hid (TRs w1 ao ts):=hT.keep hF1;have HF1:Hid (Fr [] w w1):=hF1;have HL:Hid (L=ts.length):=hL;obtain⟨bc,hbc⟩:=Bad.ex (txs ts) 1;have HB:Hid (Bad 1 (txs ts) bc):=hbc;have HK:Hid (bc=0↔okL 1 (txs ts)):=Bad.ok hbc;have HH:Hid (¬(okL 1 (txs ts)/\(0<=C/\C<=16777216)/\Cf.may ⟨l,s,x,q⟩)):=h;obtain⟨f0,f1,f2,f3,f4,f5⟩:=HBx.out _ (Fr.refl _ _);clear hT hL h hF1 hb1 hbc;by_cases hb:bc=0
 .have HOK:Hid (okL 1 (txs ts)):=HK.out.1 hb;have HLg:Hid (Calls ..):=F.new_ok ao L cap ts w1 HT.out HL.out HOK.out;clear hb HB HK;by_cases hC:0<=C/\C<=16777216
  .have HD:Hid (∀W,Calls Tryz.prog 52 #[.int .i64 C] W _):=fun W=>Dz.dnew_ok C W hC.1 hC.2;have HM:Hid (¬Cf.may ⟨l,s,x,q⟩):=fun hm=>HH.out ⟨HOK.out,hC,hm⟩;clear hC HH;unfold wC at HW1;unfold wC;go_enter Tryz.func21,Tryz.ntmps21;go_upto_region 1 with fail
   rw[HW1.out,HA.out];clear HW1 HA;go_wp2_with fail
   refine Calls.mono HLg.out ?_;rintro e w2⟨g,lb,ds,rfl,hS,hts,hf2⟩;have HF2:Hid (Fr [] w1 w2):=hf2;have HS:Hid (F.Src _ _ _ _ _ _ _ _):=hS;obtain⟨g0,g1,g2,g3,g4,g5⟩:=HBx.out _ hf2;have HD2:Hid (Calls ..):=HD.out w2;clear hS hts hf2 HLg HD f0 f1 f2 f3 f4 f5;go_wp2_with fail
   refine Calls.mono HD2.out ?_;rintro e w3⟨rfl,hd,hf3⟩;obtain⟨db,hdb⟩:∃db,db=w2.heap.size:=⟨_,rfl⟩;rw[<-hdb]at hd ⊢
   have HF3:Hid (Fr [] w1 w3):=HF2.out.then hf3;obtain⟨f0,f1,f2,f3,f4,f5⟩:=HBx.out _ HF3.out;have HN:Hid (Calls ..):=zabb (w0:=w1) (HS.out.keep hf3) hd HM.out;clear hd hf3 HD2 hdb g0 g1 g2 g3 g4 g5 HS;go_wp2_with fail
   refine Calls.mono HN.out ?_;rintro e w4⟨rfl,hf4⟩;have HF4:Hid (Fr [] w w4):=HF1.out.then (HF3.out.then hf4);clear hf4 HN f0 f1 f2 f3 f4 f5;go_wp2_with fail
   refine bodyPost_ret (results_tmp3 rfl _ _ _) rfl ?_;exact⟨⟨_,_,rfl⟩,HF4.out⟩
  have HD:Hid (∀W,Calls Tryz.prog 52 #[.int .i64 C] W _):=fun W=>Dz.dnew_no C W (by omega);clear hC HH;unfold wC at HW1;unfold wC;go_enter Tryz.func21,Tryz.ntmps21;go_upto_region 1 with fail
  rw[HW1.out,HA.out];clear HW1 HA;go_wp2_with fail
  refine Calls.mono HLg.out ?_;rintro e w2⟨g,lb,ds,rfl,_,_,hf2⟩;have HF2:Hid (Fr [] w1 w2):=hf2;obtain⟨g0,g1,g2,g3,g4,g5⟩:=HBx.out _ hf2;have HD2:Hid (Calls ..):=HD.out w2;clear hf2 HLg HD f0 f1 f2 f3 f4 f5;go_wp2_with fail
  refine Calls.mono HD2.out ?_;rintro e w3⟨rfl,rfl⟩;clear HD2 g0 g1 g2 g3 g4 g5;go_wp2_with fail
  refine bodyPost_ret (results_tmp3 rfl _ _ _) rfl ?_;exact⟨⟨_,_,rfl⟩,HF1.out.then HF2.out⟩
 have hcb:((bc:Int) != 0)=true:=by rw[bne_iff_ne];omega
 have HNB:Hid (bc≠0):=hb;have HLg:Hid (Calls ..):=F.new_no ao L cap bc ts w1 HT.out HL.out HB.out HNB.out;have HD:Hid (∀W,Calls Tryz.prog 52 #[.int .i64 C] W fun e w'=>(∃v k,e=.returned (.tuple #[v,.int .i64 k]))/\Fr [] W w'):=fun W=>by
  by_cases hC:0<=C/\C<=16777216
  .refine (Dz.dnew_ok C W hC.1 hC.2).mono ?_;rintro e w'⟨rfl,_,hf⟩;exact⟨⟨_,_,rfl⟩,hf⟩
  refine (Dz.dnew_no C W (by omega)).mono ?_;rintro e w'⟨rfl,rfl⟩;exact⟨⟨_,_,rfl⟩,Fr.refl _ _⟩
 clear hb HB HK HH;unfold wC at HW1;unfold wC;go_enter Tryz.func21,Tryz.ntmps21;go_upto_region 1 with fail
 rw[HW1.out,HA.out];clear HW1 HA;go_wp2_with fail
 refine Calls.mono HLg.out ?_;rintro e w2⟨rfl,hf2⟩;have HF2:Hid (Fr [] w1 w2):=hf2;obtain⟨g0,g1,g2,g3,g4,g5⟩:=HBx.out _ hf2;have HD2:Hid (Calls ..):=HD.out w2;clear hf2 HLg HD f0 f1 f2 f3 f4 f5;go_wp2_with fail
 refine Calls.mono HD2.out ?_;rintro e w3⟨⟨v,k,rfl⟩,hf3⟩;have HF3:Hid (Fr [] w w3):=HF1.out.then (HF2.out.then hf3);clear HD2 g0 g1 g2 g3 g4 g5 hf3;go_wp2_with fail
 refine bodyPost_ret (results_tmp3 rfl _ _ _) rfl ?_;exact⟨⟨_,_,rfl⟩,HF3.out⟩
end
theorem zyl{w0 w w':World}{p:Nat}{c:Cf}{T:List Tx}{Z:Lay}{s:Ms}(h:RP w0 w p c T Z s){S:List Nat}(hf:Fr S w w')(hS:∀b∈S,w0.heap.size<=b/\MaM.off w0 w c T Z s b)(hp:p∉S):RP w0 w' p c T Z s:=
 ⟨h.m.other hf hS,hf.keep h.box hp,h.m.otherO hf hS h.off⟩
theorem zvg:∃i,Tryz.prog.info? 40=some i/\i.zero=some (.agg #[.int .i64 0,.int .u8 0,.int .i64 0,.int .i64 0,.int .i64 0,.int .i64 0])/\i.size=6/\i.bytes=48:=by
 have h:=S6.Tryz.infoEvt;cases hi:Tryz.prog.info? 40 with
 |none=>rw[hi]at h;cases h
 |some i=>
  rw[hi]at h
  simp only[Option.map_some,Option.some.injEq,Prod.mk.injEq]at h;exact⟨i,rfl,h.1,h.2.1,h.2.2⟩
structure Vr(w0 W:World)(p:Nat)(c:Cf)(T:List Tx)(Z:Lay)(s:Ms)(v:Value)(n:Nat)(es:List S6.Ev):Prop where
 own:W.ownsRow 0 40 6 v n (S6.evsC es)
 off:∀b,v.ownBlock=some b->w0.heap.size<=b/\MaM.off w0 W c T Z s b/\b≠p
section
variable{w0 W W':World}{p:Nat}{c:Cf}{T:List Tx}{Z:Lay}{s:Ms}{v:Value}{n:Nat}{es:List S6.Ev}
theorem Vr.lt(h:Vr w0 W p c T Z s v n es):∀k,v.ownBlock=some k->k<W.heap.size:=fun k hk=>by
 obtain⟨cs,e⟩:=zye h.own k hk;exact lt_of_block e
theorem Vr.dn{Z':Lay}{s':Ms}(h:Vr w0 W p c T Z s v n es)(hD:Dn w0 c T W Z s W' Z' s'):Vr w0 W' p c T Z' s' v n es:=by
 obtain⟨S,sf,sS⟩:=hD.x.fr;refine⟨zca h.own sf (fun k hk hm=> ?_),fun b hb=> ?_⟩
 .obtain⟨j,hj⟩:=sS k hm (h.lt k hk);exact (h.off k hk).2.1 j hj
 obtain⟨a1,a2,a3⟩:=h.off b hb;exact⟨a1,hD.off (h.lt b hb) a2,a3⟩
theorem Vr.app(h:Vr w0 W p c T Z s v n es)(hR:RP w0 W p c T Z s){g cap m:Nat}{fs:List S6.Ev}(hw:Went W v g W')(ho:W'.ownsRow 0 40 6 (.slice (some ⟨g,0,none⟩) m cap) m (S6.evsC fs)):RP w0 W' p c T Z s/\Vr w0 W' p c T Z s (.slice (some ⟨g,0,none⟩) m cap) m fs:=by
 have hS:∀b∈v.ownBlock.toList,w0.heap.size<=b/\MaM.off w0 W c T Z s b:=fun b hb=>⟨(h.off b (Option.mem_toList.1 hb)).1,(h.off b (Option.mem_toList.1 hb)).2.1⟩;have hf:=hw.fr;refine⟨zyl hR hf hS (fun hp=>(h.off p (Option.mem_toList.1 hp)).2.2 rfl),ho,fun b hb=> ?_⟩;have e:g=b:=by simpa[Value.ownBlock]using hb
 subst e;rcases hw with⟨h1,_⟩|⟨h1,_⟩
 .obtain⟨a1,a2,a3⟩:=h.off g h1;exact⟨a1,hR.m.otherO hf hS a2,a3⟩
 have h2:=hR.m.fr.size;have h3:=lt_of_block hR.box;exact⟨by omega,hR.m.otherO hf hS (hR.m.offNew h1),by omega⟩
end
def EvF(c:Cf)(T:List Tx)(s:Ms)(es:List S6.Ev):Prop:=(S6.insL es+(nuV c T s:Nat)=(rdV T T.length:Nat))/\∀e∈es,e.k=3->e.n-e.m<=c.w
def ShS(w:World)(p:Nat)(c:Cf)(T:List Tx)(n:Nat)(v:Value)(es:List S6.Ev)(W:World):Prop:=
 ∃(w0:World)(Z:Lay)(s:Ms),Fr [] w w0/\RP w0 W p c T Z s/\Z.nr=s.d/\Wf c T s/\s.k=n/\Vr w0 W p c T Z s v n es/\EvF c T s es/\es.length=n
def ShA(w:World)(p:Nat)(c:Cf)(T:List Tx)(n:Nat)(v:Value)(es:List S6.Ev)(ev:S6.Ev)(W:World):Prop:=
 ∃(w0:World)(Z:Lay)(s:Ms),Fr [] w w0/\RP w0 W p c T Z s/\Z.nr=s.d/\Wf c T s/\s.k=n+1/\Vr w0 W p c T Z s v n es/\EvF c T s (es++[ev])/\es.length=n
section
variable{w W W':World}{p n:Nat}{c:Cf}{T:List Tx}{v:Value}{es:List S6.Ev}{ev:S6.Ev}
theorem ShS.fr(h:ShS w p c T n v es W):Fr [] w W:=by
 obtain⟨w0,Z,s,h1,h2,_⟩:=h;exact h1.then h2.m.fr
theorem ShS.quiet(h:ShS w p c T n v es W)(hf:Fr [] W W'):ShS w p c T n v es W':=by
 obtain⟨w0,Z,s,h1,h2,h3,h4,h5,h6,h7⟩:=h;exact⟨w0,Z,s,h1,h2.quiet hf,h3,h4,h5,h6.dn (h2.m.dn hf),h7⟩
theorem ShA.quiet(h:ShA w p c T n v es ev W)(hf:Fr [] W W'):ShA w p c T n v es ev W':=by
 obtain⟨w0,Z,s,h1,h2,h3,h4,h5,h6,h7⟩:=h;exact⟨w0,Z,s,h1,h2.quiet hf,h3,h4,h5,h6.dn (h2.m.dn hf),h7⟩
theorem ShA.own(h:ShA w p c T n v es ev W):W.ownsRow 0 40 6 v n (S6.evsC es):=by
 obtain⟨w0,Z,s,h1,h2,h3,h4,h5,h6,h7⟩:=h;exact h6.own
theorem ShA.app(h:ShA w p c T n v es ev W){g cap:Nat}(hw:Went W v g W')(ho:W'.ownsRow 0 40 6 (.slice (some ⟨g,0,none⟩) (n+1) cap) (n+1) (S6.evsC es++S6.evV ev)):ShS w p c T (n+1) (.slice (some ⟨g,0,none⟩) (n+1) cap) (es++[ev]) W':=by
 obtain⟨w0,Z,s,h1,h2,h3,h4,h5,h6,h7,h8⟩:=h;have e:S6.evsC (es++[ev])=S6.evsC es++S6.evV ev:=by rw[S6.evsC_append];simp[S6.evsC]
 obtain⟨k1,k2⟩:=h6.app (fs:=es++[ev]) h2 hw (by rw[e];exact ho);exact⟨w0,Z,s,h1,k1,h3,h4,h5,k2,h7,by simp[h8]⟩
theorem zabi(h:ShS w p c T n v es W)(hn:n<16000000){m:Int}(hm:i64 m):Calls Tryz.prog 24 #[.pointer (some ⟨p,0,none⟩),.int .i64 m] W fun e w2=>
  (∃t k m sh ct ma,e=.returned (.tuple #[.agg #[.int .i64 t,.int .u8 k,.int .i64 m,.int .i64 sh,.int .i64 ct,.int .i64 ma],.int .i64 0])/\Hid (ShA w p c T n v es ⟨t,k,m,sh,ct,ma⟩ w2)) \/
  (e=.returned (.tuple #[.agg #[.int .i64 0,.int .u8 0,.int .i64 0,.int .i64 0,.int .i64 0,.int .i64 0],.int .i64 9])/\Hid (ShS w p c T n v es w2)):=by
 obtain⟨w0,Z,s,h1,h2,h3,h4,h5,h6,h7,h8⟩:=h;by_cases hr:rdyL c s (c.l.toNat+c.s.toNat+2)=[]
 .refine Calls.mono (zva h2 h4 m hr) ?_;rintro e w2⟨rfl,hf⟩;exact Or.inr ⟨rfl,w0,Z,s,h1,h2.quiet hf,h3,h4,h5,h6.dn (h2.m.dn hf),h7,h8⟩
 refine Calls.mono (zaas h2 h3 h4 (by omega) m hm hr) ?_;rintro e w2⟨t,k,m,sh,ct,ma,s',rfl,⟨Z',hD,hn'⟩,hN⟩;refine Or.inl ⟨t,k,m,sh,ct,ma,rfl,w0,Z',s',h1,h2.dn hD,hn',hN.wf,by rw[hN.k,h5],h6.dn hD,⟨?_,fun e he=> ?_⟩,h8⟩
 .have h9:=(hN.tells h4).2;have h10:=h7.1;rw[S6.insL_snoc];unfold S6.insE;simp only;split at h9<;>rename_i hc
  .rw[if_pos hc];omega
  rw[if_neg hc];omega
 rcases List.mem_append.1 he with he|he
 .exact h7.2 e he
 rw[List.mem_singleton.1 he];exact (hN.tells h4).1
theorem zqd(h:ShS w p c T n v es W)(hn:n<16000000):Calls Tryz.prog 20 #[.pointer (some ⟨p,0,none⟩)] W fun e w2=>OvP (S6.insL es=(rdV T T.length:Nat)) e/\Fr [] W w2:=by
 obtain⟨w0,Z,s,h1,h2,h3,h4,h5,h6,h7,h8⟩:=h;refine Calls.mono (zabh h2 h4 (by omega)) ?_;rintro e w2⟨⟨b,rfl,hb⟩,hf⟩;refine⟨⟨b,rfl,fun e=> ?_⟩,hf⟩;obtain⟨k1,k2,k3⟩:=hb e;have:=zxi h4 k1 k2 k3;have:=h7.1;omega
theorem ShS.len(h:ShS w p c T n v es W):es.length=n:=by
 obtain⟨w0,Z,s,h1,h2,h3,h4,h5,h6,h7,h8⟩:=h;exact h8
theorem ShS.lag(h:ShS w p c T n v es W):∀e∈es,e.k=3->e.n-e.m<=c.w:=by
 obtain⟨w0,Z,s,h1,h2,h3,h4,h5,h6,h7,h8⟩:=h;exact h7.2
theorem ShS.ers{vo:Option Addr}{vc:Nat}(h:ShS w p c T n (.slice vo n vc) es W)(hn:n<=4398046511104):S6.ERs W vo es:=by
 obtain⟨w0,Z,s,h1,h2,h3,h4,h5,h6,h7,h8⟩:=h;exact S6.ERs.of_own h6.own h8.symm (by omega) (fun _ _=>trivial)
theorem zym{w0 w':World}(hc:c.may)(hok:okL 1 T)(hf:Fr [] w w0){Z:Lay}(h:RP w0 w' p c T Z {ms0 with fd:=zcx T 0 (T.length:Int)})(hn:Z.nr=0):ShS w p c T 0 (.slice none 0 0) [] w':=by
 have e:zcx T 0 (T.length:Int)=T.length:=by unfold zcx;rw[if_neg (by omega)];omega
 refine⟨w0,Z,_,hf,h,hn,(Wf.zero hc hok).feed _,rfl,⟨World.ownsRow_nil _ _ _ _,fun b hb=>by simp[Value.ownBlock]at hb⟩,⟨?_,fun e he=>by cases he⟩,rfl⟩;rw[e];unfold nuV;show (0:Int)+(((rdV T T.length-rdV T 0)+(if false=true then _ else 0)+(wtV T (fun _=>False) 0+liV T [])+sumV (fun _=>none) c.l.toNat:Nat):Int)=_;rw[zih _ _ (fun _ _=>rfl)];simp[liV,wtV,rdV]
end
theorem zabj(ts:List Tm)(i:Nat)(h:i<ts.length):wsAt (txs ts) ((i+1:Nat):Int)=(ts.getD i Tm.zero).ws:=by
 unfold wsAt txs;rw[show (((i+1:Nat):Int)-1).toNat=i by omega];simp[List.getD,h,Tm.tx]
theorem zoj(ts:List Tm)(i:Nat)(h:i<ts.length):rdV (txs ts) (i+1)=rdV (txs ts) i+(dd (ts.getD i Tm.zero).ws).length:=by
 rw[rdV,cn,zabj ts i h]
theorem zok(ts:List Tm)(hok:okL 1 (txs ts)):∀i,i<=ts.length->rdV (txs ts) i<=32*i
 |0,_=>by simp[rdV]
 |i+1,h=>by
  rw[zoj ts i (by omega)];have h1:=zok ts hok i (by omega);have h2:=zjt (ts.getD i Tm.zero).ws;have hm:(ts.getD i Tm.zero).tx∈txs ts:=by
   unfold txs;exact List.mem_map.2 ⟨_,zcb ts i (by omega),rfl⟩
  have h3:=(zpl hok _ hm).2.2.1;have h4:(ts.getD i Tm.zero).tx.ws=(ts.getD i Tm.zero).ws:=rfl;rw[h4]at h3
  omega
theorem zvh(ts:List Tm)(hok:okL 1 (txs ts))(i:Nat)(h:i<ts.length):(ts.getD i Tm.zero).ws.length<=32:=by
 have hm:(ts.getD i Tm.zero).tx∈txs ts:=by
  unfold txs;exact List.mem_map.2 ⟨_,zcb ts i h,rfl⟩
 exact (zpl hok _ hm).2.2.1
section
variable{w:World}{s x q C:Int}{ao po:Option Addr}{L cap P pc M:Nat}{ts:List Tm}{xs:List Int}
theorem zol(hT:TRs w ao ts)(hM:M=ts.length)(hcap:M<=cap)(hP:Pks w po xs)(hPl:P=xs.length)(hpc:P<=pc)(hgood:okL 1 (txs ts)/\(0<=C/\C<=16777216)/\Cf.may ⟨(L:Int),s,x,q⟩) :
  Calls Tryz.prog 6 #[.agg (wC (L:Int) s x q ao M cap C),.slice po P pc] w fun e w'=>e=.returned (.bool true)/\Fr [] w w':=by
 obtain⟨w1,HW1⟩:∃w1,Hid (w.alloc (.cells (wC (L:Int) s x q ao M cap C) 57)=w1):=⟨_,rfl⟩;obtain⟨A,HA⟩:∃A,Hid (w.heap.size=A):=⟨_,rfl⟩;have hF1:Fr [] w w1:=by rw[<-HW1.out];exact Fr.alloc [] w _
 have hb1:w1.heap[A]? = some (.cells (wC (L:Int) s x q ao M cap C) 57 (0,0)):=by rw[<-HW1.out,<-HA.out];exact heap_alloc_new _ _
 have HBx:Hid (∀W,Fr [] w1 W->_):=fun W hf=>zhn hb1 hf;have HT:Hid (∀W,Fr [] w1 W->TRs W ao ts/\Pks W po xs):=fun W hf=>⟨hT.keep (hF1.then hf),hP.keep (hF1.then hf)⟩;have HF1:Hid (Fr [] w w1):=hF1;have HL:Hid (M=ts.length/\P=xs.length):=⟨hM,hPl⟩;have HOK:Hid (okL 1 (txs ts)):=hgood.1;have HMay:Hid (Cf.may ⟨(L:Int),s,x,q⟩):=hgood.2.2;have hL16:1<=L/\L<=16:=by have:=hgood.2.2.1;simp only at this;omega
 have hx64:1<=x/\x<=64:=by have:=hgood.2.2.2.2.1;simpa using this
 have hM6:M<=65536:=by have:=zge hgood.1;rw[zbf]at this;omega
 have hPf:P<=17592186044416:=by have:=hP.few;omega
 have HO:Hid (Calls ..):=zabc (w:=w1) (l:=(L:Int)) (s:=s) (x:=x) (q:=q) (C:=C) (ao:=ao) (L:=M) (cap:=cap) (hT.keep hF1) hM hgood.1 hgood.2.1.1 hgood.2.1.2 hgood.2.2;have HLv:Hid (∀W,Calls Tryz.prog 22 #[] W fun e w'=>e=.returned (.bool true)/\Fr [] W w'):=fun W=>S6.lives_any W;obtain⟨f0,f1,f2,f3,f4,f5⟩:=HBx.out _ (Fr.refl _ _);obtain⟨iE,hiE,hzE,hsE,hbE⟩:=zvg;clear hT hM hP hPl hF1 hb1 hgood;unfold wC at HW1 HO;unfold wC;go_enter Tryz.func6,Tryz.ntmps6;go_upto_region 1 with fail
 rw[HW1.out,HA.out];clear HW1 HA;go_wp2_with fail
 refine Calls.mono HO.out ?_;rintro e w2⟨p,sv,dv,Z,w0,rfl,hf0,hR,hnr⟩;have HF2:Hid (Fr [] w1 w2):=hf0.then hR.m.fr;have HFd:Hid (Calls Tryz.prog 23 #[.pointer (some ⟨p,0,none⟩),.int .i64 (M:Int)] w2 fun e w'=>(∃v,e=.returned v)/\Hid (ShS w1 p ⟨(L:Int),s,x,q⟩ (txs ts) 0 (.slice none 0 0) [] w')):=by
  refine Calls.mono (zvc hR (M:Int)) ?_;rintro e w'⟨he,hD⟩;refine⟨he,?_⟩;have e1:(M:Int)=((txs ts).length:Int):=by rw[zbf,<-HL.out.1]
  rw[e1]at hD
  exact zym HMay.out HOK.out hf0 (hR.dn hD) hnr
 obtain⟨g0,g1,g2,g3,g4,g5⟩:=HBx.out _ HF2.out;clear hf0 hR hnr HO f0 f1 f2 f3 f4 f5;go_wp2_with fail
 refine Calls.mono HFd.out ?_;rintro e w3⟨⟨_,rfl⟩,HS⟩;clear HFd g0 g1 g2 g3 g4 g5 HF2;go_wp2_with fail
 go_loopw [8,9] (fun vv ii wr=>∃(n:Nat)(vo:Option Addr)(vc:Nat)(es:List S6.Ev),vv=.slice vo n vc/\ii=.int .i64 n/\n<=2000/\Hid (ShS w1 p ⟨(L:Int),s,x,q⟩ (txs ts) n (.slice vo n vc) es wr)) (fun _ ii _=>2001-(RowKit.intOf ii).toNat)
 case atStart=>exact⟨0,none,0,[],rfl,rfl,by omega,HS⟩
 clear HS;obtain⟨n,vo,vc,es,rfl,rfl,hn,HR⟩:=hrel;by_cases hn2:n<2000
 .have hlt:(n:Int)<2000:=by omega
  have hpk:pkI xs n=(if n<P then xs.getD n 0 else (n:Int)):=by unfold pkI;rw[<-HL.out.2]
  have hP:=(HT.out _ HR.out.fr).2;have hmi:=zaaz hP (i:=n) (by omega);obtain⟨m,hm⟩:∃m,m=pkI xs n:=⟨_,rfl⟩;have HP:Hid (Calls ..):=zabi HR.out (by omega) hmi;rw[<-hm]at HP
  have HMk:Hid (m=if n<P then xs.getD n 0 else (n:Int)):=by show _=_;rw[hm,hpk]
  have HPc:Hid (n<P->∃g off,po=some ⟨g,off,none⟩/\wr.cell? ⟨g,off+n,none⟩=some (.int .i64 m)):=fun h=>by
   obtain⟨g,off,e,_,hc⟩:=hP.lies (by rw[<-HL.out.2];omega);refine⟨g,off,e,?_⟩;rw[hc n (by rw[<-HL.out.2];exact h),HMk.out,if_pos h]
  have HFr:Hid (Fr [] w1 wr):=HR.out.fr;clear hpk hP hmi hm;go_upto_region 10 with fail
  go_cut [43] from 40 to 43 (fun v wx=>∃bb:Bool,v=.bool bb/\Hid (bb=true↔n<P)/\wr=wx)
  case first=>
   by_cases hnP:n<P
   .have hltP:(n:Int)<(P:Int):=(by omega);clear HPc HMk;go_wp2;go_meet;exact⟨true,rfl,⟨fun _=>hnP,fun _=>rfl⟩,rfl⟩
   have hltP:¬(n:Int)<(P:Int):=by omega
   clear HPc HMk;go_wp2;go_meet;exact⟨false,rfl,⟨fun h=>(by cases h),fun h=>absurd h hnP⟩,rfl⟩
  obtain⟨bb,rfl,HBb,rfl⟩:=hcut;rename_i hK5;refine hK5 _ _ ?_;clear hK5;go_cut [10] from 40 to 47 (fun v wx=>v=.int .i64 m/\wr=wx)
  case first=>
   by_cases hnP:n<P
   .obtain rfl:=HBb.out.2 hnP;obtain⟨g,off,rfl,hc⟩:=HPc.out hnP;have hltP:(n:Int)<(P:Int):=(by omega);clear HPc HMk HBb;go_wp2;go_meet;exact⟨rfl,rfl⟩
   obtain rfl:bb=false:=by
    cases bb with
    |false=>rfl
    |true=>exact absurd (HBb.out.1 rfl) hnP
   have HMe:Hid (m=(n:Int)):=by show _=_;rw[HMk.out,if_neg hnP]
   clear HPc HMk HBb;go_wp2;go_meet;exact⟨by rw[HMe.out],rfl⟩
  case rest=>
  obtain⟨rfl,rfl⟩:=hcut;clear HBb;clear HPc HMk;go_wp2_with fail
  refine Calls.mono HP.out ?_;rintro e w7 (⟨t,k,m',sh,ct,ma,rfl,h7⟩|⟨rfl,h7⟩)
  .have H7:Hid (ShA w1 p ⟨(L:Int),s,x,q⟩ (txs ts) n (.slice vo n vc) es ⟨t,k,m',sh,ct,ma⟩ ((w7.alloc (.cells #[.int .i64 t,.int .u8 k,.int .i64 m',.int .i64 sh,.int .i64 ct,.int .i64 ma] 40)).alloc (.cells #[.int .i64 t,.int .u8 k,.int .i64 m',.int .i64 sh,.int .i64 ct,.int .i64 ma] 40))):=(h7.out.quiet (Fr.alloc _ _ _)).quiet (Fr.alloc _ _ _);obtain⟨w8,HW8⟩:∃w8,Hid (w7.alloc (.cells #[.int .i64 t,.int .u8 k,.int .i64 m',.int .i64 sh,.int .i64 ct,.int .i64 ma] 40)=w8):=⟨_,rfl⟩;obtain⟨xb,HXb⟩:∃xb,Hid (w7.heap.size=xb):=⟨_,rfl⟩;have hx8:w8.heap[xb]? = some (.cells #[.int .i64 t,.int .u8 k,.int .i64 m',.int .i64 sh,.int .i64 ct,.int .i64 ma] 40 (0,0)):=by rw[<-HW8.out,<-HXb.out];exact heap_alloc_new _ _
   have z0:w8.cell? ⟨xb,0,none⟩=some (.int .i64 t):=by rw[crw hx8];rfl
   have z1:w8.cell? ⟨xb,1,none⟩=some (.int .u8 k):=by rw[crw hx8];rfl
   have z2:w8.cell? ⟨xb,2,none⟩=some (.int .i64 m'):=by rw[crw hx8];rfl
   have z3:w8.cell? ⟨xb,3,none⟩=some (.int .i64 sh):=by rw[crw hx8];rfl
   have z4:w8.cell? ⟨xb,4,none⟩=some (.int .i64 ct):=by rw[crw hx8];rfl
   have z5:w8.cell? ⟨xb,5,none⟩=some (.int .i64 ma):=by rw[crw hx8];rfl
   rw[HW8.out]at H7
   have hbl:=heap_alloc_new w8 (.cells #[.int .i64 t,.int .u8 k,.int .i64 m',.int .i64 sh,.int .i64 ct,.int .i64 ma] 40);have HCA:Hid (∀j u,(S6.evV ⟨t,k,m',sh,ct,ma⟩)[j]? = some u->(w8.alloc (.cells #[.int .i64 t,.int .u8 k,.int .i64 m',.int .i64 sh,.int .i64 ct,.int .i64 ma] 40)).cell? ((⟨w8.heap.size,0,none⟩:Addr).add j)=some u):=fun j u hu=>by
    rw[Addr.add_lit,Nat.zero_add,crw hbl,<-hu];simp[S6.evV]
   have HOne:Hid (∀u∈S6.evV ⟨t,k,m',sh,ct,ma⟩,u.oneCell'=true):=fun u hu=>by
    simp only[S6.evV,List.mem_cons,List.not_mem_nil,or_false]at hu;rcases hu with rfl|rfl|rfl|rfl|rfl|rfl<;>rfl
   clear h7 HP hx8 hbl HR;go_upto_region 13 with fail
   rw[HW8.out,HXb.out];clear HW8 HXb;go_upto_region 14 with fail
   go_wp2_with (first
    |(at_builtin;refine zhk _ rfl (.tmp 56) (.tmp 58) 63 rfl 40 iE (.agg #[.int .i64 0,.int .u8 0,.int .i64 0,.int .i64 0,.int .i64 0,.int .i64 0]) 6 48 S6.Tryz.undEvs' hiE hzE hsE hbE rfl (by decide) (.slice vo n vc) n (S6.evsC es) (by rfl) H7.out.own ⟨w8.heap.size,0,none⟩ 1 (S6.evV ⟨t,k,m',sh,ct,ma⟩) (by rfl) rfl HCA.out HOne.out (by omega) (by unfold maxLen;omega) ?_;intro g' cap' w9 hO9 hW9;have H9:Hid (ShS w1 p ⟨(L:Int),s,x,q⟩ (txs ts) (n+1) (.slice (some ⟨g',0,none⟩) (n+1) cap') (es++[⟨t,k,m',sh,ct,ma⟩]) w9):=H7.out.app hW9 hO9;clear hO9 hW9)
    |fail)
   go_roundw;case rel=>exact⟨n+1,some ⟨g',0,none⟩,cap',es++[⟨t,k,m',sh,ct,ma⟩],rfl,by simp,by omega,H9⟩
   case measure=>simp[RowKit.intOf];omega
  have HR:Hid (ShS w1 p ⟨(L:Int),s,x,q⟩ (txs ts) n (.slice vo n vc) es (w7.alloc (.cells #[.int .i64 0,.int .u8 0,.int .i64 0,.int .i64 0,.int .i64 0,.int .i64 0] 40))):=h7.out.quiet (Fr.alloc _ _ _);obtain⟨w8,HW8⟩:∃w8,Hid (w7.alloc (.cells #[.int .i64 0,.int .u8 0,.int .i64 0,.int .i64 0,.int .i64 0,.int .i64 0] 40)=w8):=⟨_,rfl⟩;rw[HW8.out]at HR
  clear h7 HP;rw[<-HW8.out]at HR
  clear HW8 w8;obtain⟨w8,HW8⟩:∃w8,Hid (w7.alloc (.cells #[.int .i64 0,.int .u8 0,.int .i64 0,.int .i64 0,.int .i64 0,.int .i64 0] 40)=w8):=⟨_,rfl⟩;rw[HW8.out]at HR
  have hEs:es.length=n:=HR.out.len;have HOf:Hid (Calls Tryz.prog 25 #[.agg #[.int .i64 (L:Int),.int .i64 s,.int .i64 x,.int .i64 q],.slice vo n vc] w8 fun e w'=>e=.returned (.tuple #[.agg (S6.sta L es n).a,.int .i64 0])/\Fr [] w8 w'):=S6.of_ok L s x q vo n vc es w8 HMay.out (HR.out.ers (by omega)) hEs.symm;have HLn:Hid (∀W,Fr [] w8 W->Calls Tryz.prog 26 #[.agg #[.int .i64 (L:Int),.int .i64 s,.int .i64 x,.int .i64 q],.slice vo n vc] W fun e w'=>∃m,e=.returned (.tuple #[.slice (some ⟨m,0,none⟩) L L,.int .i64 0])/\W.heap.size<=m/\S6.NR w' m (S6.lnS L es n)/\Fr [] W w'):=fun W hf=>S6.ln_ok L s x q vo n vc es W HMay.out ((HR.out.quiet hf).ers (by omega)) hEs.symm;have HSum:Hid ((S6.sta L es n).b<=S6.sumL (S6.lnS L es n) L):=S6.busy_sum L es n;have hlag:(S6.sta L es n).g<=x:=S6.lag_in L es x (by omega) HR.out.lag n;have hsb:=S6.sta_b L es n;have HI:Hid ((S6.sta L es n).i=S6.insL es):=by show _=_;rw[<-hEs];exact S6.sta_ins L es
  have HNl:Hid ((S6.lnS L es n).length=L):=S6.lnS_length L es n;have HNb:Hid (∀j,0<=(S6.lnS L es n).getD j 0/\(S6.lnS L es n).getD j 0<=2000):=fun j=>by
   by_cases hj:j<L
   .rw[S6.lnS_getD L es n j hj];have:=S6.cntL_le es ((j:Int)+1) n;omega
   rw[show (S6.lnS L es n).getD j 0=0 by rw[List.getD,List.getElem?_eq_none (by rw[S6.lnS_length];omega)];rfl];omega
  have HOv:Hid (∀W,Fr [] w8 W->Calls Tryz.prog 20 #[.pointer (some ⟨p,0,none⟩)] W fun e w2=>OvP (S6.insL es=(rdV (txs ts) (txs ts).length:Nat)) e/\Fr [] W w2):=fun W hf=>by
   refine (zqd (HR.out.quiet hf) (by omega)).mono ?_;rintro e w2⟨h1,h3⟩;exact⟨h1,h3⟩
  have HF8:Hid (Fr [] w1 w8):=HR.out.fr;generalize S6.sta L es n=S at HOf HSum hlag hsb HI;generalize S6.lnS L es n=ns at HLn HSum HNl HNb;obtain⟨sn,si,sg,sbu,sr⟩:=S;simp only[S6.Sst.a,S6.stA]at HOf HSum hlag hsb HI;obtain⟨g0,g1,g2,g3,g4,g5⟩:=HBx.out _ HF8.out;clear HR hEs;go_upto_region 15 with fail
  rw[HW8.out];clear HW8;go_wp2_with fail
  refine Calls.mono HOf.out ?_;rintro e w9⟨rfl,hf9⟩;obtain⟨w10,HW10⟩:∃w10,Hid (w9.alloc (.cells #[.int .i64 sn,.int .i64 si,.int .i64 sg,.int .i64 sbu,.int .i64 sr] 65)=w10):=⟨_,rfl⟩;obtain⟨sb,HSb⟩:∃sb,Hid (w9.heap.size=sb):=⟨_,rfl⟩;have hr10:w10.heap[sb]? = some (.cells #[.int .i64 sn,.int .i64 si,.int .i64 sg,.int .i64 sbu,.int .i64 sr] 65 (0,0)):=by rw[<-HW10.out,<-HSb.out];exact heap_alloc_new _ _
  have hf10:Fr [] w9 w10:=by rw[<-HW10.out];exact Fr.alloc _ _ _
  have HF10:Hid (Fr [] w8 w10):=hf9.then hf10;have HS10:Hid (∀W,Fr [] w10 W->W.cell? ⟨sb,1,none⟩=some (.int .i64 si)/\W.cell? ⟨sb,2,none⟩=some (.int .i64 sg)/\W.cell? ⟨sb,3,none⟩=some (.int .i64 sbu)):=fun W hf=>by
   have hr:=hf.keep hr10 (by simp);exact⟨by rw[crw hr];rfl,by rw[crw hr];rfl,by rw[crw hr];rfl⟩
  clear hr10 hf9 hf10 g0 g1 g2 g3 g4 g5 HOf;obtain⟨g0,g1,g2,g3,g4,g5⟩:=HBx.out _ (HF8.out.then HF10.out);have HLn1:Hid (Calls ..):=HLn.out w10 HF10.out;go_upto_region 16 with fail
  rw[HW10.out,HSb.out];clear HW10 HSb HLn;go_wp2_with fail
  refine Calls.mono HLn1.out ?_;rintro e w11⟨lm,rfl,hlm,hN,hf11⟩;have HN11:Hid (∀W,Fr [] w11 W->S6.NR W lm ns):=fun W hf=>hN.keep hf (by simp);have HF11:Hid (Fr [] w10 w11):=hf11;clear g0 g1 g2 g3 g4 g5 HLn1 hN hlm hf11;obtain⟨g0,g1,g2,g3,g4,g5⟩:=HBx.out _ (HF8.out.then (HF10.out.then HF11.out));obtain⟨y1,y2,y3⟩:=HS10.out _ HF11.out;have hlL:((L:Int) != L)=false:=by simp
  have hng:¬x<sg:=by omega
  have hnb:¬(L:Int)<sbu:=by omega
  go_wp2_with fail
  go_loopw [17,18] (fun ss ii wr=>∃j:Nat,ss=.int .i64 (S6.sumL ns j)/\ii=.int .i64 j/\j<=L/\Hid (Fr [] w11 wr)) (fun _ ii _=>L-(RowKit.intOf ii).toNat)
  case atStart=>exact⟨0,rfl,rfl,Nat.zero_le _,Fr.refl _ _⟩
  clear g0 g1 g2 g3 g4 g5 y1 y2 y3;obtain⟨j,rfl,rfl,hjL,HFj⟩:=hrel;by_cases hj:j<L
  .have hjl:(j:Int)<(L:Int):=by omega
   have zj:=(HN11.out _ HFj.out).cell j (by rw[HNl.out];exact hj);have hb1:=S6.sumL_bound ns 2000 (by omega) HNb.out j;have hb2:=HNb.out j;have HSs:Hid (S6.sumL ns (j+1)=S6.sumL ns j+ns.getD j 0):=rfl;generalize S6.sumL ns j=U at hb1 HSs;generalize ns.getD j 0=z at zj hb2 HSs;have hwz:IntKind.i64.wrap (U+z)=U+z:=by rw[IntKind.wrap_i64];omega
   clear hb1 hb2;go_wp2_with fail
   go_roundw;case rel=>exact⟨j+1,by rw[HSs.out],by simp,by omega,HFj⟩
   case measure=>simp[RowKit.intOf];omega
  obtain rfl:j=L:=by omega
  have hsum:¬S6.sumL ns j<sbu:=by have:=HSum.out;omega
  obtain⟨y1,y2,y3⟩:=HS10.out _ (HF11.out.then HFj.out);have HOv1:Hid (Calls ..):=HOv.out wr (HF10.out.then (HF11.out.then HFj.out));generalize S6.sumL ns j=U at hsum;clear hj hjL HSum;go_wp2_with fail
  refine Calls.mono HOv1.out ?_;rintro e w12⟨⟨b,rfl,hb⟩,hf12⟩;have HB:Hid (b=true->S6.insL es=(rdV (txs ts) (txs ts).length:Nat)):=hb;have HF12:Hid (Fr [] w11 w12):=HFj.out.then hf12;clear hb hf12 HOv1 HOv y1 y2 y3;cases b with
  |false=>
   clear HB;go_wp2_with fail
   refine Calls.mono (HLv.out w12) ?_;rintro e w13⟨rfl,hf13⟩;have HF13:Hid (Fr [] w w13):=HF1.out.then (HF8.out.then (HF10.out.then (HF11.out.then (HF12.out.then hf13))));clear hf13;go_wp2_with fail
   go_ret;exact⟨rfl,HF13.out⟩
  |true=>
   obtain⟨R,hR⟩:∃R,rdV (txs ts) M=R:=⟨_,rfl⟩;have hsi:si=(R:Int):=by
    have h1:=HI.out;have h2:=HB.out (by first|rfl|trivial);rw[zbf,<-HL.out.1,hR]at h2
    omega
   have HRM:Hid (rdV (txs ts) M=R):=hR;clear HB HI hR;subst hsi;obtain⟨g0,g1,g2,g3,g4,g5⟩:=HBx.out _ (HF8.out.then (HF10.out.then (HF11.out.then HF12.out)));go_wp2_with fail
   go_loopw [19,20] (fun nn ii wr=>∃i:Nat,nn=.int .i64 ((rdV (txs ts) i:Nat):Int)/\ii=.int .i64 i/\i<=M/\Hid (Fr [] w12 wr)) (fun _ ii _=>M-(RowKit.intOf ii).toNat)
   case atStart=>exact⟨0,rfl,rfl,Nat.zero_le _,Fr.refl _ _⟩
   clear g0 g1 g2 g3 g4 g5;obtain⟨i,rfl,rfl,hiM,HFi⟩:=hrel;have HFw:Hid (Fr [] w1 wr):=HF8.out.then (HF10.out.then (HF11.out.then (HF12.out.then HFi.out)));obtain⟨g0,g1,g2,g3,g4,g5⟩:=HBx.out _ HFw.out;by_cases hi:i<M
   .have hil:(i:Int)<(M:Int):=(by omega);have hi':i<ts.length:=by rw[<-HL.out.1];exact hi
    have hTw:=(HT.out _ HFw.out).1;obtain⟨bb,off,rfl,_,hc⟩:=hTw.lies (by omega);have hat:=hTw.each _ (zcb ts i hi');obtain⟨c0,c1⟩:=hc i hi';have hr1:=zoj ts i hi';have hr2:=zok ts HOK.out i (by omega);have hfew:=zvh ts HOK.out i hi';generalize ts.getD i Tm.zero=X at hat c0 c1 hr1 hfew;obtain⟨tn,xo,XL,xc,xws⟩:=X;simp only at c0 c1 hr1 hfew;have hat1:TArg wr tn xo XL xc xws:=hat
    have hdl:=zjt xws;have HCo:Hid (Calls Tryz.prog 27 #[.agg #[.int .i64 tn,.slice xo XL xc]] wr fun e w'=>∃ro N rc,e=.returned (.slice ro N rc)/\N=(dd xws).length/\Fr [] wr w'):=by
     refine (zhp tn xo XL xc xws wr hat1.rs hat1.len (by rw[hat1.len];exact hfew)).mono ?_;rintro e w'⟨ro,N,rc,rfl,hO,hf⟩;exact⟨ro,N,rc,rfl,hO.1,hf⟩
    have HR1:Hid (rdV (txs ts) (i+1)=rdV (txs ts) i+(dd xws).length):=hr1;have HDl:Hid ((dd xws).length<=32):=by show _<=_;omega
    generalize rdV (txs ts) i=U at hr2 HR1;clear hTw hc hat hat1 hr1 hfew hdl hi';go_wp2_with fail
    refine Calls.mono HCo.out ?_;rintro e w14⟨ro,N,rc,rfl,hN,hf14⟩;have HN:Hid (N=(dd xws).length):=hN;have hN2:N<=32:=by have:=HDl.out;omega
    have HF14:Hid (Fr [] w12 w14):=HFi.out.then hf14;have hwU:IntKind.i64.wrap ((U:Int)+(N:Int))=((U+N:Nat):Int):=by rw[IntKind.wrap_i64];omega
    clear hN hf14 HCo c0 c1 g0 g1 g2 g3 g4 g5;go_wp2_with fail
    go_roundw;case rel=>exact⟨i+1,by rw[HR1.out,HN.out];first|rfl|simp,by simp,by omega,HF14⟩
    case measure=>simp[RowKit.intOf];omega
   obtain rfl:i=M:=by omega
   rw[HRM.out];obtain⟨y1,y2,y3⟩:=HS10.out _ (HF11.out.then (HF12.out.then HFi.out));have HLv1:Hid (Calls ..):=HLv.out wr;clear hi hiM;go_wp2_with fail
   refine Calls.mono HLv1.out ?_;rintro e w15⟨rfl,hf15⟩;have HF15:Hid (Fr [] w w15):=HF1.out.then (HFw.out.then hf15);clear hf15 HLv1;go_wp2_with fail
   go_ret;exact⟨rfl,HF15.out⟩
 obtain⟨w8,HW8⟩:∃w8,Hid (wr=w8):=⟨_,rfl⟩;rw[HW8.out]at HR
 have hge:¬(n:Int)<2000:=by omega
 clear hn2;have hEs:es.length=n:=HR.out.len;have HOf:Hid (Calls Tryz.prog 25 #[.agg #[.int .i64 (L:Int),.int .i64 s,.int .i64 x,.int .i64 q],.slice vo n vc] w8 fun e w'=>e=.returned (.tuple #[.agg (S6.sta L es n).a,.int .i64 0])/\Fr [] w8 w'):=S6.of_ok L s x q vo n vc es w8 HMay.out (HR.out.ers (by omega)) hEs.symm;have HLn:Hid (∀W,Fr [] w8 W->Calls Tryz.prog 26 #[.agg #[.int .i64 (L:Int),.int .i64 s,.int .i64 x,.int .i64 q],.slice vo n vc] W fun e w'=>∃m,e=.returned (.tuple #[.slice (some ⟨m,0,none⟩) L L,.int .i64 0])/\W.heap.size<=m/\S6.NR w' m (S6.lnS L es n)/\Fr [] W w'):=fun W hf=>S6.ln_ok L s x q vo n vc es W HMay.out ((HR.out.quiet hf).ers (by omega)) hEs.symm;have HSum:Hid ((S6.sta L es n).b<=S6.sumL (S6.lnS L es n) L):=S6.busy_sum L es n;have hlag:(S6.sta L es n).g<=x:=S6.lag_in L es x (by omega) HR.out.lag n;have hsb:=S6.sta_b L es n;have HI:Hid ((S6.sta L es n).i=S6.insL es):=by show _=_;rw[<-hEs];exact S6.sta_ins L es
 have HNl:Hid ((S6.lnS L es n).length=L):=S6.lnS_length L es n;have HNb:Hid (∀j,0<=(S6.lnS L es n).getD j 0/\(S6.lnS L es n).getD j 0<=2000):=fun j=>by
  by_cases hj:j<L
  .rw[S6.lnS_getD L es n j hj];have:=S6.cntL_le es ((j:Int)+1) n;omega
  rw[show (S6.lnS L es n).getD j 0=0 by rw[List.getD,List.getElem?_eq_none (by rw[S6.lnS_length];omega)];rfl];omega
 have HOv:Hid (∀W,Fr [] w8 W->Calls Tryz.prog 20 #[.pointer (some ⟨p,0,none⟩)] W fun e w2=>OvP (S6.insL es=(rdV (txs ts) (txs ts).length:Nat)) e/\Fr [] W w2):=fun W hf=>by
  refine (zqd (HR.out.quiet hf) (by omega)).mono ?_;rintro e w2⟨h1,h3⟩;exact⟨h1,h3⟩
 have HF8:Hid (Fr [] w1 w8):=HR.out.fr;generalize S6.sta L es n=S at HOf HSum hlag hsb HI;generalize S6.lnS L es n=ns at HLn HSum HNl HNb;obtain⟨sn,si,sg,sbu,sr⟩:=S;simp only[S6.Sst.a,S6.stA]at HOf HSum hlag hsb HI;obtain⟨g0,g1,g2,g3,g4,g5⟩:=HBx.out _ HF8.out;clear HR hEs;go_upto_region 15 with fail
 rw[HW8.out];clear HW8;go_wp2_with fail
 refine Calls.mono HOf.out ?_;rintro e w9⟨rfl,hf9⟩;obtain⟨w10,HW10⟩:∃w10,Hid (w9.alloc (.cells #[.int .i64 sn,.int .i64 si,.int .i64 sg,.int .i64 sbu,.int .i64 sr] 65)=w10):=⟨_,rfl⟩;obtain⟨sb,HSb⟩:∃sb,Hid (w9.heap.size=sb):=⟨_,rfl⟩;have hr10:w10.heap[sb]? = some (.cells #[.int .i64 sn,.int .i64 si,.int .i64 sg,.int .i64 sbu,.int .i64 sr] 65 (0,0)):=by rw[<-HW10.out,<-HSb.out];exact heap_alloc_new _ _
 have hf10:Fr [] w9 w10:=by rw[<-HW10.out];exact Fr.alloc _ _ _
 have HF10:Hid (Fr [] w8 w10):=hf9.then hf10;have HS10:Hid (∀W,Fr [] w10 W->W.cell? ⟨sb,1,none⟩=some (.int .i64 si)/\W.cell? ⟨sb,2,none⟩=some (.int .i64 sg)/\W.cell? ⟨sb,3,none⟩=some (.int .i64 sbu)):=fun W hf=>by
  have hr:=hf.keep hr10 (by simp);exact⟨by rw[crw hr];rfl,by rw[crw hr];rfl,by rw[crw hr];rfl⟩
 clear hr10 hf9 hf10 g0 g1 g2 g3 g4 g5 HOf;obtain⟨g0,g1,g2,g3,g4,g5⟩:=HBx.out _ (HF8.out.then HF10.out);have HLn1:Hid (Calls ..):=HLn.out w10 HF10.out;go_upto_region 16 with fail
 rw[HW10.out,HSb.out];clear HW10 HSb HLn;go_wp2_with fail
 refine Calls.mono HLn1.out ?_;rintro e w11⟨lm,rfl,hlm,hN,hf11⟩;have HN11:Hid (∀W,Fr [] w11 W->S6.NR W lm ns):=fun W hf=>hN.keep hf (by simp);have HF11:Hid (Fr [] w10 w11):=hf11;clear g0 g1 g2 g3 g4 g5 HLn1 hN hlm hf11;obtain⟨g0,g1,g2,g3,g4,g5⟩:=HBx.out _ (HF8.out.then (HF10.out.then HF11.out));obtain⟨y1,y2,y3⟩:=HS10.out _ HF11.out;have hlL:((L:Int) != L)=false:=by simp
 have hng:¬x<sg:=by omega
 have hnb:¬(L:Int)<sbu:=by omega
 go_wp2_with fail
 go_loopw [17,18] (fun ss ii wr=>∃j:Nat,ss=.int .i64 (S6.sumL ns j)/\ii=.int .i64 j/\j<=L/\Hid (Fr [] w11 wr)) (fun _ ii _=>L-(RowKit.intOf ii).toNat)
 case atStart=>exact⟨0,rfl,rfl,Nat.zero_le _,Fr.refl _ _⟩
 clear g0 g1 g2 g3 g4 g5 y1 y2 y3;obtain⟨j,rfl,rfl,hjL,HFj⟩:=hrel;by_cases hj:j<L
 .have hjl:(j:Int)<(L:Int):=by omega
  have zj:=(HN11.out _ HFj.out).cell j (by rw[HNl.out];exact hj);have hb1:=S6.sumL_bound ns 2000 (by omega) HNb.out j;have hb2:=HNb.out j;have HSs:Hid (S6.sumL ns (j+1)=S6.sumL ns j+ns.getD j 0):=rfl;generalize S6.sumL ns j=U at hb1 HSs;generalize ns.getD j 0=z at zj hb2 HSs;have hwz:IntKind.i64.wrap (U+z)=U+z:=by rw[IntKind.wrap_i64];omega
  clear hb1 hb2;go_wp2_with fail
  go_roundw;case rel=>exact⟨j+1,by rw[HSs.out],by simp,by omega,HFj⟩
  case measure=>simp[RowKit.intOf];omega
 obtain rfl:j=L:=by omega
 have hsum:¬S6.sumL ns j<sbu:=by have:=HSum.out;omega
 obtain⟨y1,y2,y3⟩:=HS10.out _ (HF11.out.then HFj.out);have HOv1:Hid (Calls ..):=HOv.out wr (HF10.out.then (HF11.out.then HFj.out));generalize S6.sumL ns j=U at hsum;clear hj hjL HSum;go_wp2_with fail
 refine Calls.mono HOv1.out ?_;rintro e w12⟨⟨b,rfl,hb⟩,hf12⟩;have HB:Hid (b=true->S6.insL es=(rdV (txs ts) (txs ts).length:Nat)):=hb;have HF12:Hid (Fr [] w11 w12):=HFj.out.then hf12;clear hb hf12 HOv1 HOv y1 y2 y3;cases b with
 |false=>
  clear HB;go_wp2_with fail
  refine Calls.mono (HLv.out w12) ?_;rintro e w13⟨rfl,hf13⟩;have HF13:Hid (Fr [] w w13):=HF1.out.then (HF8.out.then (HF10.out.then (HF11.out.then (HF12.out.then hf13))));clear hf13;go_wp2_with fail
  go_ret;exact⟨rfl,HF13.out⟩
 |true=>
  obtain⟨R,hR⟩:∃R,rdV (txs ts) M=R:=⟨_,rfl⟩;have hsi:si=(R:Int):=by
   have h1:=HI.out;have h2:=HB.out (by first|rfl|trivial);rw[zbf,<-HL.out.1,hR]at h2
   omega
  have HRM:Hid (rdV (txs ts) M=R):=hR;clear HB HI hR;subst hsi;obtain⟨g0,g1,g2,g3,g4,g5⟩:=HBx.out _ (HF8.out.then (HF10.out.then (HF11.out.then HF12.out)));go_wp2_with fail
  go_loopw [19,20] (fun nn ii wr=>∃i:Nat,nn=.int .i64 ((rdV (txs ts) i:Nat):Int)/\ii=.int .i64 i/\i<=M/\Hid (Fr [] w12 wr)) (fun _ ii _=>M-(RowKit.intOf ii).toNat)
  case atStart=>exact⟨0,rfl,rfl,Nat.zero_le _,Fr.refl _ _⟩
  clear g0 g1 g2 g3 g4 g5;obtain⟨i,rfl,rfl,hiM,HFi⟩:=hrel;have HFw:Hid (Fr [] w1 wr):=HF8.out.then (HF10.out.then (HF11.out.then (HF12.out.then HFi.out)));obtain⟨g0,g1,g2,g3,g4,g5⟩:=HBx.out _ HFw.out;by_cases hi:i<M
  .have hil:(i:Int)<(M:Int):=by omega
   have hi':i<ts.length:=by rw[<-HL.out.1];exact hi
   have hTw:=(HT.out _ HFw.out).1;obtain⟨bb,off,rfl,_,hc⟩:=hTw.lies (by omega);have hat:=hTw.each _ (zcb ts i hi');obtain⟨c0,c1⟩:=hc i hi';have hr1:=zoj ts i hi';have hr2:=zok ts HOK.out i (by omega);have hfew:=zvh ts HOK.out i hi';generalize ts.getD i Tm.zero=X at hat c0 c1 hr1 hfew;obtain⟨tn,xo,XL,xc,xws⟩:=X;simp only at c0 c1 hr1 hfew;have hat1:TArg wr tn xo XL xc xws:=hat
   have hdl:=zjt xws;have HCo:Hid (Calls Tryz.prog 27 #[.agg #[.int .i64 tn,.slice xo XL xc]] wr fun e w'=>∃ro N rc,e=.returned (.slice ro N rc)/\N=(dd xws).length/\Fr [] wr w'):=by
    refine (zhp tn xo XL xc xws wr hat1.rs hat1.len (by rw[hat1.len];exact hfew)).mono ?_;rintro e w'⟨ro,N,rc,rfl,hO,hf⟩;exact⟨ro,N,rc,rfl,hO.1,hf⟩
   have HR1:Hid (rdV (txs ts) (i+1)=rdV (txs ts) i+(dd xws).length):=hr1;have HDl:Hid ((dd xws).length<=32):=by show _<=_;omega
   generalize rdV (txs ts) i=U at hr2 HR1;clear hTw hc hat hat1 hr1 hfew hdl hi';go_wp2_with fail
   refine Calls.mono HCo.out ?_;rintro e w14⟨ro,N,rc,rfl,hN,hf14⟩;have HN:Hid (N=(dd xws).length):=hN;have hN2:N<=32:=by have:=HDl.out;omega
   have HF14:Hid (Fr [] w12 w14):=HFi.out.then hf14;have hwU:IntKind.i64.wrap ((U:Int)+(N:Int))=((U+N:Nat):Int):=by rw[IntKind.wrap_i64];omega
   clear hN hf14 HCo c0 c1 g0 g1 g2 g3 g4 g5;go_wp2_with fail
   go_roundw;case rel=>exact⟨i+1,by rw[HR1.out,HN.out];first|rfl|simp,by simp,by omega,HF14⟩
   case measure=>simp[RowKit.intOf];omega
  obtain rfl:i=M:=by omega
  rw[HRM.out];obtain⟨y1,y2,y3⟩:=HS10.out _ (HF11.out.then (HF12.out.then HFi.out));have HLv1:Hid (Calls ..):=HLv.out wr;clear hi hiM;go_wp2_with fail
  refine Calls.mono HLv1.out ?_;rintro e w15⟨rfl,hf15⟩;have HF15:Hid (Fr [] w w15):=HF1.out.then (HFw.out.then hf15);clear hf15 HLv1;go_wp2_with fail
  go_ret;exact⟨rfl,HF15.out⟩
theorem zom{l:Int}(hT:TRs w ao ts)(hM:M=ts.length)(hbad:¬(okL 1 (txs ts)/\(0<=C/\C<=16777216)/\Cf.may ⟨l,s,x,q⟩)) :
  Calls Tryz.prog 6 #[.agg (wC l s x q ao M cap C),.slice po P pc] w fun e w'=>e=.returned (.bool true)/\Fr [] w w':=by
 obtain⟨w1,HW1⟩:∃w1,Hid (w.alloc (.cells (wC l s x q ao M cap C) 57)=w1):=⟨_,rfl⟩;obtain⟨A,HA⟩:∃A,Hid (w.heap.size=A):=⟨_,rfl⟩;have hF1:Fr [] w w1:=by rw[<-HW1.out];exact Fr.alloc [] w _
 have hb1:w1.heap[A]? = some (.cells (wC l s x q ao M cap C) 57 (0,0)):=by rw[<-HW1.out,<-HA.out];exact heap_alloc_new _ _
 have HO:Hid (Calls ..):=zabd (w:=w1) (cap:=cap) (hT.keep hF1) hM hbad;have HF1:Hid (Fr [] w w1):=hF1;have HLv:Hid (∀W,Calls Tryz.prog 22 #[] W fun e w'=>e=.returned (.bool true)/\Fr [] W w'):=fun W=>S6.lives_any W;obtain⟨f0,f1,f2,f3,f4,f5⟩:=zhn hb1 (Fr.refl _ _);clear hT hM hF1 hb1 hbad;unfold wC at HW1 HO;unfold wC;go_enter Tryz.func6,Tryz.ntmps6;go_upto_region 1 with fail
 rw[HW1.out,HA.out];clear HW1 HA;go_wp2_with fail
 refine Calls.mono HO.out ?_;rintro e w2⟨⟨sv,dv,rfl⟩,hf2⟩;have HF2:Hid (Fr [] w w2):=HF1.out.then hf2;have HLv1:Hid (Calls ..):=HLv.out w2;clear HO hf2 f0 f1 f2 f3 f4 f5;go_wp2_with fail
 refine Calls.mono HLv1.out ?_;rintro e w3⟨rfl,hf3⟩;have HF3:Hid (Fr [] w w3):=HF2.out.then hf3;clear hf3 HLv1;go_wp2_with fail
 go_ret;exact⟨rfl,HF3.out⟩
theorem statHolds_any{l:Int}(hT:TRs w ao ts)(hM:M=ts.length)(hcap:M<=cap)(hP:Pks w po xs)(hPl:P=xs.length)(hpc:P<=pc) :
  Calls Tryz.prog 6 #[.agg (wC l s x q ao M cap C),.slice po P pc] w fun e w'=>e=.returned (.bool true)/\Fr [] w w':=by
 by_cases h:okL 1 (txs ts)/\(0<=C/\C<=16777216)/\Cf.may ⟨l,s,x,q⟩
 .obtain⟨L,rfl⟩:∃L:Nat,l=(L:Int):=⟨l.toNat,by have:=h.2.2.1.1;simp only at this;omega⟩;exact zol hT hM hcap hP hPl hpc h
 exact zom hT hM h
end
end Go.Proofs.YtaigdcmoecgabaaGreat.Ap
