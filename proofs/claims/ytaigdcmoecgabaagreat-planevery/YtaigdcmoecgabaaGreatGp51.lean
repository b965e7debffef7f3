/- Contracts and lemmas. -/
import Derived.Test.YtaigdcmoecgabaaGreatGp47
import Derived.Test.YtaigdcmoecgabaaGreatGp48
import Derived.Test.YtaigdcmoecgabaaGreatGp50
set_option maxHeartbeats 8000000
set_option maxRecDepth 100000
namespace Go.Proofs.YtaigdcmoecgabaaGreat
set_option linter.unusedSimpArgs false
set_option linter.unusedVariables false
namespace Ap
open Go.ChangeShapes Go.WideShapes Go.ChangeAt Go.RowKit Go.Lib Go.Maps Go.Proofs.Tryz
def NewR(w0:World)(c:Cf)(T:List Tx)(e:Ending)(w':World):Prop:=∃(p:Nat)(Z:Lay),e=.returned (.tuple #[.pointer (some ⟨p,0,none⟩),.int .i64 0])/\RP w0 w' p c T Z ms0/\Z.nr=0
section
variable{w0 w:World}{l s x q:Int}{g lb L db:Nat}{ts:List Tm}{v:Value}{C:Int}
theorem rnew_ok(h:F.Src w0 w g lb L ts v [])(hok:okL 1 (txs ts))(hd:Dz.D0 w db C)(hc:Cf.may ⟨l,s,x,q⟩)(h0:Fr [] w0 w) :
  Calls prog 53 #[.agg #[.int .i64 l,.int .i64 s,.int .i64 x,.int .i64 q],.pointer (some ⟨g,0,none⟩),.pointer (some ⟨db,0,none⟩)] w fun e w'=>NewR w0 ⟨l,s,x,q⟩ (txs ts) e w':=by
 obtain⟨w1,HW1⟩:∃w1,Hid (w.alloc (.cells #[.int .i64 l,.int .i64 s,.int .i64 x,.int .i64 q] 23)=w1):=⟨_,rfl⟩;obtain⟨A,HA⟩:∃A,Hid (w.heap.size=A):=⟨_,rfl⟩;have hF1:Fr [] w w1:=by rw[<-HW1.out];exact Fr.alloc [] w _
 have hC1:CfM w1 A l s x q:=by rw[<-HW1.out,<-HA.out];exact CfM.new _ _ _ _ _ _
 have HC1:Hid (∀W,Fr [] w1 W->CfM W A l s x q):=fun W hf=>hC1.keep hf;have HS1:Hid (∀W,Fr [] w1 W->F.Src w0 W g lb L ts v []/\Dz.D0 W db C/\Fr [] w0 W):=fun W hf=>⟨h.keep (hF1.then hf),hd.keep (hF1.then hf) (by simp),h0.then (hF1.then hf)⟩;have HI:Hid (Calls ..):=zrd (HS1.out _ (Fr.refl _ _)).1;have HOK:Hid (okL 1 (txs ts)):=hok;have HM:Hid (Cf.may ⟨l,s,x,q⟩):=hc;clear h hok hd hc h0 hF1 hC1;go_enter func53,ntmps53;go_upto_region 1 with fail
 rw[HW1.out,HA.out];clear HW1 HA;go_wp2_with fail
 refine Calls.mono HI.out ?_;rintro e w2⟨rfl,hf2⟩;have HF2:Hid (Fr [] w1 w2):=hf2;have HID:Hid (Calls ..):=Dz.isDisk_any (HS1.out _ hf2).2.1;clear hf2 HI;go_wp2_with fail
 refine Calls.mono HID.out ?_;rintro e w3⟨rfl,rfl⟩;obtain⟨_,f0,f1,f2,f3⟩:=HC1.out _ HF2.out;have hCk:=zdi l s x q w2;rw[show Cf.err ⟨l,s,x,q⟩=0 from if_pos HM.out]at hCk
 have HCk:Hid (Calls ..):=hCk;clear hCk HID;go_wp2_with fail
 refine Calls.mono HCk.out ?_;rintro e w3⟨rfl,hf3⟩;have HF3:Hid (Fr [] w1 w3):=HF2.out.then hf3;have HNw:Hid (Calls ..):=Dz.newest_nil (HS1.out _ HF3.out).2.1;clear HCk hf3 HF2 f0 f1 f2 f3;go_wp2_with fail
 refine Calls.mono HNw.out ?_;rintro e w4⟨rfl,hf4⟩;obtain⟨w5,HW5⟩:∃w5,Hid (w4.alloc (.cells #[.int .i64 0,.slice none 0 0,.slice none 0 0] 163)=w5):=⟨_,rfl⟩;obtain⟨Q,HQ⟩:∃Q,Hid (w4.heap.size=Q):=⟨_,rfl⟩;have hf5:Fr [] w4 w5:=by rw[<-HW5.out];exact Fr.alloc _ _ _
 have HSB:Dz.SB w5 Q:=⟨by rw[<-HW5.out,<-HQ.out];exact heap_alloc_new _ _⟩;have a0:=HSB.c0;have a1:=HSB.c1;have a2:=HSB.c2;have HF5:Hid (Fr [] w1 w5):=(HF3.out.then hf4).then hf5;obtain⟨_,f0,f1,f2,f3⟩:=HC1.out _ HF5.out;have HNM:Hid (Calls ..):=zms (dk:=some ⟨db,0,none⟩) (HS1.out _ HF5.out).1 HOK.out HM.out (HS1.out _ HF5.out).2.2;clear HNw hf4 hf5 HSB HF3;go_upto_region 7 with fail
 rw[HW5.out,HQ.out];clear HW5 HQ;go_wp2_with fail
 refine Calls.mono HNM.out ?_;rintro e w6⟨Z,rfl,hM,hnr⟩;have HR:Hid (RP w0 (w6.alloc (.cells #[.pointer (some ⟨Z.z.mb,0,none⟩)] 94)) w6.heap.size ⟨l,s,x,q⟩ (txs ts) Z ms0/\Z.nr=0):=
  ⟨⟨hM.quiet (Fr.alloc _ _ _),heap_alloc_new _ _,hM.otherO (S:=[]) (Fr.alloc [] _ _) (fun b hb=>by cases hb) (hM.offNew (Nat.le_refl _))⟩,hnr⟩
 clear hM hnr HNM;go_wp2;go_ret2;exact⟨_,Z,rfl,HR.out.1,HR.out.2⟩
end
def wC(l s x q:Int)(ao:Option Addr)(L cap:Nat)(C:Int):Array Value:=#[.int .i64 l,.int .i64 s,.int .i64 x,.int .i64 q,.slice ao L cap,.int .i64 C]
theorem zacg{w W:World}{A:Nat}{l s x q C:Int}{ao:Option Addr}{L cap:Nat}(h:w.heap[A]? = some (.cells (wC l s x q ao L cap C) 57 (0,0)))(hf:Fr [] w W):W.cell? ⟨A,0,none⟩=some (.int .i64 l)/\W.cell? ⟨A,1,none⟩=some (.int .i64 s)/\W.cell? ⟨A,2,none⟩=some (.int .i64 x)/\W.cell? ⟨A,3,none⟩=some (.int .i64 q)/\W.cell? ⟨A,4,none⟩=some (.slice ao L cap)/\W.cell? ⟨A,5,none⟩=some (.int .i64 C):=by
 have hr:=hf.keep h (by simp);refine⟨?_,?_,?_,?_,?_,?_⟩<;>(rw[crw hr];rfl)
section
variable{w:World}{l s x q C:Int}{ao:Option Addr}{L cap:Nat}{ts:List Tm}
theorem open_ok(hT:TRs w ao ts)(hL:L=ts.length)(hok:okL 1 (txs ts))(hC0:0<=C)(hC1:C<=16777216)(hc:Cf.may ⟨l,s,x,q⟩) :
  Calls prog 21 #[.agg (wC l s x q ao L cap C)] w fun e w'=>∃(p:Nat)(sv dv:Value)(Z:Lay)(w0:World),e=.returned (.tuple #[.pointer (some ⟨p,0,none⟩),sv,dv])/\Fr [] w w0/\RP w0 w' p ⟨l,s,x,q⟩ (txs ts) Z ms0/\Z.nr=0:=by
 obtain⟨w1,HW1⟩:∃w1,Hid (w.alloc (.cells (wC l s x q ao L cap C) 57)=w1):=⟨_,rfl⟩;obtain⟨A,HA⟩:∃A,Hid (w.heap.size=A):=⟨_,rfl⟩;have hF1:Fr [] w w1:=by rw[<-HW1.out];exact Fr.alloc [] w _
 have hb1:w1.heap[A]? = some (.cells (wC l s x q ao L cap C) 57 (0,0)):=by rw[<-HW1.out,<-HA.out];exact heap_alloc_new _ _
 have HBx:Hid (∀W,Fr [] w1 W->_):=fun W hf=>zacg hb1 hf;have HLg:Hid (Calls ..):=F.new_ok ao L cap ts w1 (hT.keep hF1) hL hok;have HD:Hid (∀W,Calls prog 52 #[.int .i64 C] W _):=fun W=>Dz.dnew_ok C W hC0 hC1;have HF1:Hid (Fr [] w w1):=hF1;have HOK:Hid (okL 1 (txs ts)):=hok;have HM:Hid (Cf.may ⟨l,s,x,q⟩):=hc;obtain⟨f0,f1,f2,f3,f4,f5⟩:=HBx.out _ (Fr.refl _ _);clear hT hL hok hc hF1 hb1;unfold wC at HW1;unfold wC;go_enter func21,ntmps21;go_upto_region 1 with fail
 rw[HW1.out,HA.out];clear HW1 HA;go_wp2_with fail
 refine Calls.mono HLg.out ?_;rintro e w2⟨g,lb,ds,rfl,hS,hts,hf2⟩;have HF2:Hid (Fr [] w1 w2):=hf2;have HS:Hid (F.Src _ _ _ _ _ _ _ _):=hS;have HTs:Hid (txs ds=txs ts):=hts;obtain⟨g0,g1,g2,g3,g4,g5⟩:=HBx.out _ hf2;have HD2:Hid (Calls ..):=HD.out w2;clear hS hts hf2 HLg HD f0 f1 f2 f3 f4 f5;go_wp2_with fail
 refine Calls.mono HD2.out ?_;rintro e w3⟨rfl,hd,hf3⟩;obtain⟨db,hdb⟩:∃db,db=w2.heap.size:=⟨_,rfl⟩;rw[<-hdb]at hd ⊢
 have HF3:Hid (Fr [] w1 w3):=HF2.out.then hf3;obtain⟨f0,f1,f2,f3,f4,f5⟩:=HBx.out _ HF3.out;have HN:Hid (Calls ..):=rnew_ok (w0:=w1) (HS.out.keep hf3) (by rw[HTs.out];exact HOK.out) hd HM.out HF3.out;rw[HTs.out]at HN
 clear hd hf3 HD2 hdb g0 g1 g2 g3 g4 g5 HS HTs;go_wp2_with fail
 refine Calls.mono HN.out ?_;rintro e w4⟨p,Z,rfl,hR,hnr⟩;have HR:Hid (RP _ _ _ _ _ _ _/\_):=⟨hR,hnr⟩;clear hR hnr HN f0 f1 f2 f3 f4 f5;go_wp2_with fail
 refine bodyPost_ret (results_tmp3 rfl _ _ _) rfl ?_;exact⟨p,_,_,Z,w1,rfl,HF1.out,HR.out.1,HR.out.2⟩
end
end Ap
section
open Go.ChangeShapes Go.WideShapes Go.ChangeAt Go.RowKit Go.Lib Go.Proofs.Tryz
section
variable{w0 w:World}{c:Cf}{T:List Tx}{Z:Lay}{s:Ms}{p B P:Nat}{v:Value}{xs:List Int}
theorem zacl(h:Nt w0 w c T Z s p B P v xs):Calls prog 106 #[.pointer (some ⟨B,0,none⟩)] w fun e w'=>e=.returned v/\Fr [] w w':=by
 obtain⟨ao,cap,hv⟩:=Ap.own_slice h.own;subst hv;have b3:w.cell? ⟨B,0,none⟩=some (.slice ao xs.length cap):=by rw[crw h.cB];rfl
 clear h;go_enter func106,ntmps106;go_wp2;go_ret;exact⟨rfl,Fr.refl _ _⟩
theorem zvr(h:RP w0 w p c T Z s)(hz:Z.nr=s.d)(hw:Wf c T s):Calls prog 63 #[.pointer (some ⟨p,0,none⟩)] w fun e w'=>∃P B,e=.returned (.tuple #[.func (Fn.func 105) #[] #[.pointer (some ⟨P,0,none⟩),.pointer (some ⟨B,0,none⟩)],.func (Fn.func 106) #[] #[.pointer (some ⟨B,0,none⟩)]])/\Fr [] w w'/\Nt w0 w' c T Z s p B P (.slice none 0 0) []:=by
 have hmf:∀(fn:Fn)(first cap:Array Value)(w:World),(Instr.makeFunc fn first cap).run prog w=.ok (.func fn first cap) w:=fun _ _ _ _=>rfl;obtain⟨w2,HW2⟩:∃w2,Hid ((w.alloc (.cells #[.pointer (some ⟨p,0,none⟩)] 35)).alloc (.cells #[.slice none 0 0] 28)=w2):=⟨_,rfl⟩;have hF:Fr [] w w2:=by rw[<-HW2.out];exact (Fr.alloc [] w _).then (Fr.alloc [] _ _)
 have hP:w2.heap[w.heap.size]? = some (.cells #[.pointer (some ⟨p,0,none⟩)] 35 (0,0)):=by rw[<-HW2.out];exact (Below.heap_alloc _ _ _ (by simp)).trans (heap_alloc_new _ _)
 have hB:w2.heap[w.heap.size+1]? = some (.cells #[.slice none 0 0] 28 (0,0)):=by
  rw[<-HW2.out];have:=heap_alloc_new (w.alloc (.cells #[.pointer (some ⟨p,0,none⟩)] 35)) (.cells #[.slice none 0 0] 28);simpa using this
 have ho:∀b,w.heap.size<=b->w0.heap.size<=b/\MaM.off w0 w2 c T Z s b:=fun b hb=>⟨by have:=h.m.fr.size;omega,h.m.otherO hF (by simp) (h.m.offNew hb)⟩;have HN:Hid (Fr [] w w2/\Nt w0 w2 c T Z s p (w.heap.size+1) w.heap.size (.slice none 0 0) []):=⟨hF,⟨h.quiet hF,hz,hw,hB,hP,World.ownsRow_nil _ _ _ _,ho _ (by omega),ho _ (Nat.le_refl _),fun b hb=>by simp[Value.ownBlock]at hb⟩⟩;obtain⟨A,HA⟩:∃A,Hid (w.heap.size=A):=⟨_,rfl⟩;rw[HA.out]at HN
 clear h hz hw hF hP hB ho;go_enter func63,ntmps63;go_wp2;refine bodyPost_ret (results_tmp2 rfl _ _ _) rfl ?_;refine⟨A,A+1,?_,?_⟩
 .rw[<-HA.out];simp
 rw[HW2.out];exact HN.out
end
section
variable{w:World}{l s x q:Int}{ao:Option Addr}{L cap:Nat}{ts:List Tm}
theorem zagu(hT:TRs w ao ts)(hL:L=ts.length)(hok:okL 1 (txs ts))(hc:Cf.may ⟨l,s,x,q⟩) :
  Calls prog 62 #[.agg #[.int .i64 l,.int .i64 s,.int .i64 x,.int .i64 q],.slice ao L cap] w fun e w'=>∃(p:Nat)(Z:Lay)(w0:World),e=.returned (.pointer (some ⟨p,0,none⟩))/\Fr [] w w0/\RP w0 w' p ⟨l,s,x,q⟩ (txs ts) Z {ms0 with fd:=L}/\Z.nr=0:=by
 obtain⟨w1,HW1⟩:∃w1,Hid (w.alloc (.cells #[.int .i64 l,.int .i64 s,.int .i64 x,.int .i64 q] 23)=w1):=⟨_,rfl⟩;obtain⟨A,HA⟩:∃A,Hid (w.heap.size=A):=⟨_,rfl⟩;have hF1:Fr [] w w1:=by rw[<-HW1.out];exact Fr.alloc [] w _
 have hb1:w1.heap[A]? = some (.cells #[.int .i64 l,.int .i64 s,.int .i64 x,.int .i64 q] 23 (0,0)):=by rw[<-HW1.out,<-HA.out];exact heap_alloc_new _ _
 have HBx:Hid (∀W,Fr [] w1 W->W.cell? ⟨A,0,none⟩=some (.int .i64 l)/\W.cell? ⟨A,1,none⟩=some (.int .i64 s)/\W.cell? ⟨A,2,none⟩=some (.int .i64 x)/\W.cell? ⟨A,3,none⟩=some (.int .i64 q)):=fun W hf=>by
  have hr:=hf.keep hb1 (by simp);refine⟨?_,?_,?_,?_⟩<;>(rw[crw hr];rfl)
 have HLg:Hid (Calls ..):=F.new_ok ao L cap ts w1 (hT.keep hF1) hL hok;have HD:Hid (∀W,Calls prog 52 #[.int .i64 0] W _):=fun W=>Dz.dnew_ok 0 W (by omega) (by omega);have HF1:Hid (Fr [] w w1):=hF1;have HOK:Hid (okL 1 (txs ts)):=hok;have HM:Hid (Cf.may ⟨l,s,x,q⟩):=hc;have HLn:Hid (L=ts.length):=hL;clear hT hL hok hc hF1 hb1;go_enter func62,ntmps62;go_upto_region 1 with fail
 rw[HW1.out,HA.out];clear HW1 HA;go_wp2_with fail
 refine Calls.mono HLg.out ?_;rintro e w2⟨g,lb,ds,rfl,hS,hts,hf2⟩;have HF2:Hid (Fr [] w1 w2):=hf2;have HS:Hid (F.Src _ _ _ _ _ _ _ _):=hS;have HTs:Hid (txs ds=txs ts):=hts;have HD2:Hid (Calls ..):=HD.out w2;clear hS hts hf2 HLg HD;go_wp2_with fail
 refine Calls.mono HD2.out ?_;rintro e w3⟨rfl,hd,hf3⟩;obtain⟨db,hdb⟩:∃db,db=w2.heap.size:=⟨_,rfl⟩;rw[<-hdb]at hd ⊢
 have HF3:Hid (Fr [] w1 w3):=HF2.out.then hf3;obtain⟨f0,f1,f2,f3⟩:=HBx.out _ HF3.out;have HN:Hid (Calls ..):=Ap.rnew_ok (w0:=w1) (HS.out.keep hf3) (by rw[HTs.out];exact HOK.out) hd HM.out HF3.out;rw[HTs.out]at HN
 clear hd hf3 HD2 hdb HS HTs;go_wp2_with fail
 refine Calls.mono HN.out ?_;rintro e w4⟨p,Z,rfl,hR,hnr⟩;have HFd:Hid (Calls prog 23 #[.pointer (some ⟨p,0,none⟩),.int .i64 (L:Int)] w4 fun e w'=>(∃v,e=.returned v)/\∃Z',RP w1 w' p ⟨l,s,x,q⟩ (txs ts) Z' {ms0 with fd:=L}/\Z'.nr=0):=by
  refine Calls.mono (zyz hR (L:Int)) ?_;rintro e w'⟨he,hD⟩;have e1:zbj (txs ts) ms0.fd (L:Int)=L:=by
   unfold zbj;rw[zaf,<-HLn.out,if_neg (by have:ms0.fd=0:=rfl;omega)];omega
  rw[e1]at hD
  exact⟨he,_,hR.dn hD,hnr⟩
 clear hR hnr HN f0 f1 f2 f3 HF2;go_wp2_with fail
 refine Calls.mono HFd.out ?_;rintro e w5⟨⟨_,rfl⟩,Z',hR,hz⟩;have HR:Hid _:=hR;have HZ:Hid _:=hz;clear hR hz HFd;go_wp2_with fail
 go_ret;exact⟨p,Z',w1,rfl,HF1.out,HR.out,HZ.out⟩
end
theorem zrf(c:Cf)(T:List Tx)(n:Nat):nu c T {ms0 with fd:=n}=rdS T n:=by
 unfold nu;show (rdS T n-rdS T 0)+(if false=true then 4+cst T ((0:Nat):Int) else 0)+(wtS T (fun _=>False) 0+liS T [])+sumW (fun _=>none) c.l.toNat+0=rdS T n;rw[zns _ _ (fun _ _=>rfl),if_neg (by simp)];simp[rdS,wtS,liS]
theorem zlz{c:Cf}{T:List Tx}(hc:c.may)(hok:okL 1 T):∀k,k<=T.length->rdS T k<=69*k
 |0,_=>by simp[rdS]
 |k+1,h=>by
  have h1:=zlz hc hok k (by omega);have h2:=((Wf.zero hc hok).txn (n:=((k+1:Nat):Int)) (by omega) (by omega)).2.2.1;have h3:=zgx (wsAt T ((k+1:Nat):Int));rw[rdS];unfold cst;omega
theorem StepR.sh0{c:Cf}{T:List Tx}{s s':Ms}{q:Nat}{k n sh ct:Int}(hc:c.may)(h:StepR c T s q k n sh ct s'):0<=sh/\sh<=1000:=by
 have h2:=hc.2.1;cases h with
 |read h1 hv hr hk hn h2 h3 e=>omega
 |disp h1 hv hr hk hn h2 h3 e=>omega
 |take i r h1 hi hn hl hk h2 h3 e=>omega
 |send i g y r h1 hi hn hl hq hk hnn h2 h3 e=>have:=zajc hc y;omega
 |done i h1 hi hn hk h2 h3 e=>omega
 |serve j e0 r i g M' h1 hj hq hi hf hn hP hk hnn h2 h3 e=>omega
 |gate r h1 hp hk h2 h3 e=>omega
theorem zajj{W:World}{N:Int}{v:Value}{B:List Nat}{tk:Bool}(h:UnF W N v B tk):∃uf ua,v=.func (Fn.func uf) #[] #[.pointer (some ⟨ua,0,none⟩)]/\(∀args w,(callFunc uf args).run prog w=.ok (.enter uf args) w)/\∀t k n sh ct m W',Fr [] W W'->Calls prog uf #[evV t k n sh ct m,.pointer (some ⟨ua,0,none⟩)] W' fun e w'=>(∃b:Bool,e=.returned (.bool b)/\(b=true↔Unt tk N k n m))/\Fr [] W' w':=by
 cases h with
 |mark a hv hB ha=>
  refine⟨_,a,hv,enters_of func65 (by kernel_rfl) rfl,fun t k n sh ct m W' hf=>(zsq t k n sh ct m (hf.keep ha (by simp))).mono ?_⟩;rintro e w'⟨rfl,hf2⟩;exact⟨⟨_,rfl,by simp[Unt]⟩,hf2⟩
 |take a hv hB ha=>
  refine⟨_,a,hv,enters_of func66 (by kernel_rfl) rfl,fun t k n sh ct m W' hf=>(zvq t k n sh ct m (hf.keep ha (by simp))).mono ?_⟩;rintro e w'⟨⟨b,rfl,hb⟩,hf2⟩;exact⟨⟨b,rfl,by simpa[Unt]using hb⟩,hf2⟩
theorem zmu{w:World}{ops:Array Oper}{rest:List Oper}{o:Oper}{a:Act}{Q:Exit->Act->World->Prop}(hgd:o.guard=none)(x y:Operand)(ho:o.op=.store 79 x y)(g fa fb:Nat)(ca cb:Array Value)(hx:a.eval x=.pointer (some ⟨g,0,none⟩))(hy:a.eval y=.agg #[.func (Fn.func fa) #[] ca,.func (Fn.func fb) #[] cb])(hg:w.heap[g]? = some (.cells #[.nilFunc,.nilFunc] 79 (0,0)))(h:∀w',Hid (w'.heap[g]? = some (.cells #[.func (Fn.func fa) #[] ca,.func (Fn.func fb) #[] cb] 79 (0,0)))->Fr [g] w w'->wpList prog ops Q rest (a.put o.dst undef) w'):wpList prog ops Q (o::rest) a w:=
 wpList_store_row hgd 79 x y ho g _ hx hy 79 _ hg (by kernel_rfl) rfl (by simp[Value.oneCell']) (h _ (setRow_heap w g _ _ _ _ hg) (Fr.setRow _ _ _))
def lenB(B:Nat)(W:World):Nat:=match W.cell? ⟨B,0,none⟩ with|some (.slice _ n _)=>n|_=>0
def DS(w0:World)(c:Cf)(T:List Tx)(R:Ms->Int->Ms->Prop)(s0:Ms)(p B P:Nat)(J:Ms->Prop)(W:World):Prop:=∃Z s v xs,Nt w0 W c T Z s p B P v xs/\Fw c T R s0 xs s/\J s
def evA(t k n sh ct m:Int):Array Value:=#[.int .i64 t,.int .u8 k,.int .i64 n,.int .i64 sh,.int .i64 ct,.int .i64 m]
def DI(w0:World)(c:Cf)(T:List Tx)(R:Ms->Int->Ms->Prop)(s0:Ms)(p B P G E:Nat)(nv uv:Value)(I:Ms->Int->Int->Int->Int->Prop)(t k n sh ct m:Int)(W:World):Prop:=
 (∃Z s v xs,Nt w0 W c T Z s p B P v xs/\Fw c T R s0 xs s/\I s k n sh ct/\m=s.ma/\(w0.heap.size<=G/\Nt.off w0 W c T Z s B v G)/\(w0.heap.size<=E/\Nt.off w0 W c T Z s B v E)) /\
 W.heap[G]? = some (.cells #[nv,uv] 79 (0,0))/\W.heap[E]? = some (.cells (evA t k n sh ct m) 40 (0,0))/\0<=sh/\sh<=1000
section
variable{w0 W W':World}{c:Cf}{T:List Tx}{R:Ms->Int->Ms->Prop}{s0:Ms}{p B P G E:Nat}{nv uv:Value}{I:Ms->Int->Int->Int->Int->Prop}{J:Ms->Prop}{t k n sh ct m:Int}
theorem DS.fr(h:DS w0 c T R s0 p B P J W):Fr [] w0 W:=by
 obtain⟨Z,s,v,xs,h1,h2,h3⟩:=h;exact h1.R.m.fr
theorem DI.fr(h:DI w0 c T R s0 p B P G E nv uv I t k n sh ct m W):Fr [] w0 W:=by
 obtain⟨⟨Z,s,v,xs,h1,_⟩,_⟩:=h;exact h1.R.m.fr
theorem DI.quiet(h:DI w0 c T R s0 p B P G E nv uv I t k n sh ct m W)(hf:Fr [] W W'):DI w0 c T R s0 p B P G E nv uv I t k n sh ct m W':=by
 obtain⟨⟨Z,s,v,xs,h1,h2,h3,h4,h5,h6⟩,h7,h8,h9⟩:=h;obtain⟨k1,k2⟩:=h1.quiet hf;exact⟨⟨Z,s,v,xs,k1,h2,h3,h4,⟨h5.1,(k2 G _ h7 h5.2).2⟩,⟨h6.1,(k2 E _ h8 h6.2).2⟩⟩,hf.keep h7 (by simp),hf.keep h8 (by simp),h9⟩
theorem DS.begin(h:DS w0 c T R s0 p B P (fun s=>I s 0 0 0 0/\m=s.ma) W)(hf:Fr [] W W')(hG:W.heap.size<=G)(hE:W.heap.size<=E)(h1:W'.heap[G]? = some (.cells #[nv,uv] 79 (0,0)))(h2:W'.heap[E]? = some (.cells (evA 0 0 0 0 0 m) 40 (0,0))):DI w0 c T R s0 p B P G E nv uv I 0 0 0 0 0 m W':=by
 obtain⟨Z,s,v,xs,a1,a2,a3⟩:=h;have ho:∀b,W.heap.size<=b->w0.heap.size<=b/\Nt.off w0 W' c T Z s B v b:=fun b hb=>⟨by have:=a1.R.m.fr.size;omega,a1.R.m.otherO hf (by simp) (a1.R.m.offNew hb),by have:=lt_of_block a1.cB;omega,fun e=>by have:=a1.vlt b e;omega⟩;exact⟨⟨Z,s,v,xs,(a1.quiet hf).1,a2,a3.1,a3.2,ho G hG,ho E hE⟩,h1,h2,by omega,by omega⟩
theorem DI.fin(h:DI w0 c T R s0 p B P G E nv uv I t k n sh ct m W)(hJ:∀s,I s k n sh ct->m=s.ma->J s):DS w0 c T R s0 p B P J W:=by
 obtain⟨⟨Z,s,v,xs,h1,h2,h3,h4,h5,h6⟩,h7⟩:=h;exact⟨Z,s,v,xs,h1,h2,hJ s h3 h4⟩
theorem DS.mark(h:DS w0 c T R s0 p B P J W):∃m:Int,DS w0 c T R s0 p B P (fun s=>J s/\m=s.ma) W/\∀W',Fr [] W W'->Calls prog 17 #[.pointer (some ⟨p,0,none⟩)] W' fun e w'=>e=.returned (.int .i64 m)/\Fr [] W' w':=by
 obtain⟨Z,s,v,xs,h1,h2,h3⟩:=h;exact⟨s.ma,⟨Z,s,v,xs,h1,h2,h3,rfl⟩,fun W' hf=>znr (h1.R.quiet hf)⟩
theorem Nt.lenB{Z:Lay}{s:Ms}{v:Value}{xs:List Int}(h:Nt w0 W c T Z s p B P v xs):lenB B W=xs.length:=by
 obtain⟨ao,cap,hv⟩:=Ap.own_slice h.own;subst hv;unfold Go.Proofs.YtaigdcmoecgabaaGreat.lenB;rw[crw h.cB];rfl
theorem DI.ask{z:Nat}{U:Int->Int->Int->Prop}(h:DI w0 c T R s0 p B P G E nv uv I t k n sh ct m W)(hg:Gl c T z R I U)(hU:¬U k n m)(hs:s0.k+nu c T s0<16000000):∃q:Nat,goB c ((z+1:Nat):Int) k sh ct=(q:Int)/\Calls prog 105 #[.int .i64 (q:Int),.pointer (some ⟨P,0,none⟩),.pointer (some ⟨B,0,none⟩)] W fun e w'=>∃k' n' sh' ct' m',e=.returned (.tuple #[evV (q:Int) k' n' sh' ct' m',.int .i64 0]) /\
  Hid (w'.heap[E]? = some (.cells (evA t k n sh ct m) 40 (0,0))/\∀w'',Fr [E] w' w''->w''.heap[E]? = some (.cells (evA (q:Int) k' n' sh' ct' m') 40 (0,0))->DI w0 c T R s0 p B P G E nv uv I (q:Int) k' n' sh' ct' m' w''/\nu c T s0-Go.Proofs.YtaigdcmoecgabaaGreat.lenB B w''<nu c T s0-Go.Proofs.YtaigdcmoecgabaaGreat.lenB B W):=by
 obtain⟨⟨Z,s,v,xs,h1,h2,h3,h4,h5,h6⟩,h7,h8,h9⟩:=h;obtain⟨q,e1,e2,e3,e4⟩:=hg.go s k n sh ct h3 (by rw[<-h4];exact hU);obtain⟨n1,n2,n3⟩:=h2.nu;refine⟨q,e1,(zagt h1 (by omega) (by omega) e2 e3).mono ?_⟩;rintro e w'⟨k',n',sh',ct',s',Z',v',rfl,hN,hr,hk⟩;obtain⟨i1,i2⟩:=e4 k' n' sh' ct' s' hN.wf hr;obtain⟨g1,g2⟩:=hk G _ h7 h5.2;obtain⟨f1,f2⟩:=hk E _ h8 h6.2;refine⟨k',n',sh',ct',s'.ma,rfl,f1,fun w'' hf hE=> ?_⟩;have hEp:E≠p:=Ap.ne_types f1 hN.R.box (by decide);have hEP:E≠P:=Ap.ne_types f1 hN.cP (by decide);have hEG:E≠G:=Ap.ne_types f1 g1 (by decide);obtain⟨a1,a2⟩:=hN.others hf (fun b hb=>by rw[List.mem_singleton.1 hb];exact⟨h6.1,f2⟩) (by simp;exact fun e=>hEp e.symm) (by simp;exact fun e=>hEP e.symm);have hFw:=h2.snoc h1.wf e2 e3 hr i2;obtain⟨m1,_,_⟩:=hFw.nu;refine⟨⟨⟨Z',s',v',_,a1,hFw,i1,rfl,⟨h5.1,a2 G _ g1 g2⟩,⟨h6.1,a2 E _ f1 f2⟩⟩,hf.keep g1 (by simp;exact fun e=>hEG e.symm),hE,hr.sh0 h1.wf.may⟩,?_⟩;rw[a1.lenB,h1.lenB];rw[List.length_append]at m1 ⊢
 simp only[List.length_cons,List.length_nil]at m1 ⊢;omega
end
def GlM(W:World)(c:Cf)(g:Nat)(z:Nat)(tk:Bool)(N:Int)(i:Nat):Prop:=∃nv uv na nl B cs,W.heap[g]? = some (.cells cs 79 (0,0))/\cs[i*2]? = some nv/\cs[i*2+1]? = some uv/\nv=.func (Fn.func 64) #[] #[.pointer (some ⟨nl,0,none⟩),.pointer (some ⟨na,0,none⟩)]/\W.heap[na]? = some (.cells #[.int .i64 c.l,.int .i64 c.s,.int .i64 c.w,.int .i64 c.q] 23 (0,0))/\W.heap[nl]? = some (.cells #[.int .i64 ((z+1:Nat):Int)] 3 (0,0))/\UnF W N uv B tk
def zadt(w:World)(c:Cf)(T:List Tx)(R:Ms->Int->Ms->Prop)(s0:Ms)(J:Ms->Prop)(e:Ending)(w':World):Prop:=Fr [] w w'/\∃v xs s',e=.returned v/\w'.ownsRow 0 3 1 v xs.length (tkC xs)/\Fw c T R s0 xs s'/\J s'/\∀b,v.ownBlock=some b->w.heap.size<=b
section
variable{w:World}{l s x q:Int}{ao:Option Addr}{L cap g m mc:Nat}{ts:List Tm}{R:Ms->Int->Ms->Prop}{I:Nat->Ms->Int->Int->Int->Int->Prop}{z:Nat->Nat}{tk:Nat->Bool}{N:Nat->Int}
theorem znw(hT:TRs w ao ts)(hL:L=ts.length)(hok:okL 1 (txs ts))(hc:Cf.may ⟨l,s,x,q⟩)(hm:m<=100)(hmc:m<=mc)(hG:∀i,i<m->GlM w ⟨l,s,x,q⟩ g (z i) (tk i) (N i) i)(hGl:∀i,i<m->Gl ⟨l,s,x,q⟩ (txs ts) (z i) R (I i) (Unt (tk i) (N i)))(hlink:∀i,i<m->∀s k n sh ct,I i s k n sh ct->Unt (tk i) (N i) k n s.ma->I (i+1) s 0 0 0 0)(hI:I 0 {ms0 with fd:=L} 0 0 0 0) :
  Calls prog 31 #[.agg #[.int .i64 l,.int .i64 s,.int .i64 x,.int .i64 q],.slice ao L cap,.slice (some ⟨g,0,none⟩) m mc] w fun e w'=>zadt w ⟨l,s,x,q⟩ (txs ts) R {ms0 with fd:=L} (fun s'=>I m s' 0 0 0 0) e w':=by
 obtain⟨w1,HW1⟩:∃w1,Hid (w.alloc (.cells #[.int .i64 l,.int .i64 s,.int .i64 x,.int .i64 q] 23)=w1):=⟨_,rfl⟩;obtain⟨A,HA⟩:∃A,Hid (w.heap.size=A):=⟨_,rfl⟩;have hF1:Fr [] w w1:=by rw[<-HW1.out];exact Fr.alloc [] w _
 have hb1:w1.heap[A]? = some (.cells #[.int .i64 l,.int .i64 s,.int .i64 x,.int .i64 q] 23 (0,0)):=by rw[<-HW1.out,<-HA.out];exact heap_alloc_new _ _
 have f0:w1.cell? ⟨A,0,none⟩=some (.int .i64 l):=by rw[crw hb1];rfl
 have f1:w1.cell? ⟨A,1,none⟩=some (.int .i64 s):=by rw[crw hb1];rfl
 have f2:w1.cell? ⟨A,2,none⟩=some (.int .i64 x):=by rw[crw hb1];rfl
 have f3:w1.cell? ⟨A,3,none⟩=some (.int .i64 q):=by rw[crw hb1];rfl
 have HFd:Hid (Calls ..):=zagu (cap:=cap) (hT.keep hF1) hL hok hc;have HB0:Hid ({ms0 with fd:=L}.k+nu ⟨l,s,x,q⟩ (txs ts) {ms0 with fd:=L}<16000000):=by
  have h1:=zlz hc hok L (by rw[zaf];omega);have h2:L<=65536:=by have:=zcr hok;rw[zaf]at this;omega
  show 0+_<_;rw[zrf];omega
 have HF1:Hid (Fr [] w w1):=hF1;have HG:Hid (∀i,i<m->GlM w ⟨l,s,x,q⟩ g (z i) (tk i) (N i) i):=hG;have HGl:Hid (∀i,i<m->Gl ⟨l,s,x,q⟩ (txs ts) (z i) R (I i) (Unt (tk i) (N i))):=hGl;have HLk:Hid (∀i,i<m->∀s k n sh ct,I i s k n sh ct->Unt (tk i) (N i) k n s.ma->I (i+1) s 0 0 0 0):=hlink;have HI:Hid (I 0 {ms0 with fd:=L} 0 0 0 0):=hI;have HWf:Hid (Wf ⟨l,s,x,q⟩ (txs ts) {ms0 with fd:=L}):=by
  have h:=(Wf.zero hc hok).feed (L:Int);have e1:zbj (txs ts) ms0.fd (L:Int)=L:=by
   unfold zbj;rw[zaf,<-hL,if_neg (by have:ms0.fd=0:=rfl;omega)];omega
  rw[e1]at h
  exact h
 have hmf:∀(fn:Fn)(first cap:Array Value)(w:World),(Instr.makeFunc fn first cap).run prog w=.ok (.func fn first cap) w:=fun _ _ _ _=>rfl;clear hT hL hok hc hF1 hb1 hG hGl hlink hI;go_enter func31,ntmps31;go_upto_region 1 with fail
 rw[HW1.out,HA.out];clear HW1 HA;go_wp2_with fail
 refine Calls.mono HFd.out ?_;rintro e w2⟨p,Z,w0,rfl,hf0,hR,hz⟩;have HF0:Hid (Fr [] w w0):=HF1.out.then hf0;have HNo:Hid (Calls ..):=zvr hR hz HWf.out;clear hf0 hR hz HFd HF1 HWf f0 f1 f2 f3;go_wp2_with fail
 refine Calls.mono HNo.out ?_;rintro e w3⟨P,B,rfl,_,hN⟩;have HS:Hid (DS w0 ⟨l,s,x,q⟩ (txs ts) R {ms0 with fd:=L} p B P (fun s=>I 0 s 0 0 0 0) w3):=⟨Z,_,_,_,hN,.nil _,HI.out⟩;clear hN HNo HI;go_wp2_with fail
 go_loopw [24] (fun ii wr=>∃i:Nat,ii=.int .i64 i/\i<=m/\Hid (DS w0 ⟨l,s,x,q⟩ (txs ts) R {ms0 with fd:=L} p B P (fun s=>I i s 0 0 0 0) wr)) (fun ii _=>m-(RowKit.intOf ii).toNat)
 case atStart=>exact⟨0,rfl,Nat.zero_le _,HS⟩
 obtain⟨i,rfl,him,HR⟩:=hrel;clear HS;by_cases hi:i<m
 .obtain⟨nv,uv,na,nl,BB,cs,g2,g0,g1,hnv,hna,hnl,hun⟩:=HG.out i hi;obtain⟨uf,ua,huv,EU,HU⟩:=zajj hun;have hwr:Fr [] w wr:=HF0.out.then HR.out.fr;have g0:wr.cell? ⟨g,i*2,none⟩=some nv:=by rw[crw (hwr.keep g2 (by simp))];exact g0
  have g1:wr.cell? ⟨g,i*2+1,none⟩=some uv:=by rw[crw (hwr.keep g2 (by simp))];exact g1
  obtain⟨G,HGs⟩:∃G,Hid (wr.heap.size=G):=⟨_,rfl⟩;have HU:Hid (∀t k n sh ct m W',Fr [] w W'->Calls prog uf _ W' _):=HU;have HBy:Hid (∀t k n sh ct m' W',0<=sh/\sh<=1000->Fr [] w W'->Calls prog 64 #[evV t k n sh ct m',.pointer (some ⟨nl,0,none⟩),.pointer (some ⟨na,0,none⟩)] W' fun e w'=>e=.returned (.int .i64 (goB ⟨l,s,x,q⟩ ((z i+1:Nat):Int) k sh ct))/\Fr [] W' w'):=fun t k n sh ct m' W' hs hf=>by
   have hmay:Cf.may ⟨l,s,x,q⟩:=by obtain⟨Z',s',v',xs',h1,_⟩:=HR.out;exact h1.wf.may
   exact zags (c:=⟨l,s,x,q⟩) t k n sh ct m' hmay hs (hf.keep hna (by simp)) (hf.keep hnl (by simp))
  clear hna hnl hun g2 hwr;subst hnv huv;go_upto_region 6 with (first
   |(refine zmu rfl _ _ rfl wr.heap.size _ _ _ _ rfl rfl (heap_alloc_new _ _) ?_;intro w4 hw4 hf4;rw[HGs.out]at hw4 hf4 ⊢)
   |fail)
  have hf4':Fr [] wr w4:=(Fr.alloc [] wr _).on hf4 (by rw[<-HGs.out];simp);obtain⟨ma,HM,hmk⟩:=DS.mark HR.out;have HMk:Hid (Calls ..):=hmk w4 hf4';have HM:Hid (DS w0 ⟨l,s,x,q⟩ (txs ts) R {ms0 with fd:=L} p B P (fun s=>I i s 0 0 0 0/\ma=s.ma) wr):=HM;have HF4:Hid (Fr [] wr w4):=hf4';have HGr:Hid (w4.heap[G]? = some (.cells #[.func (Fn.func 64) #[] #[.pointer (some ⟨nl,0,none⟩),.pointer (some ⟨na,0,none⟩)],.func (Fn.func uf) #[] #[.pointer (some ⟨ua,0,none⟩)]] 79 (0,0))):=hw4.out;clear hf4 hf4' hmk hw4;go_wp2_with fail
  refine Calls.mono HMk.out ?_;rintro e w5⟨rfl,hf5⟩;have HF5:Hid (Fr [] wr w5/\Fr [] w4 w5):=⟨HF4.out.then hf5,hf5⟩;clear hf5 HMk HF4;go_upto_region 7 with fail
  obtain⟨w6,HW6⟩:∃w6,Hid (w5.alloc (.cells #[.int .i64 0,.int .u8 0,.int .i64 0,.int .i64 0,.int .i64 0,.int .i64 ma] 40)=w6):=⟨_,rfl⟩;obtain⟨E,HE⟩:∃E,Hid (w5.heap.size=E):=⟨_,rfl⟩;have HDI:Hid (DI w0 ⟨l,s,x,q⟩ (txs ts) R {ms0 with fd:=L} p B P G E (.func (Fn.func 64) #[] #[.pointer (some ⟨nl,0,none⟩),.pointer (some ⟨na,0,none⟩)]) (.func (Fn.func uf) #[] #[.pointer (some ⟨ua,0,none⟩)]) (I i) 0 0 0 0 0 ma w6):=by
   have hf6:Fr [] w5 w6:=by rw[<-HW6.out];exact Fr.alloc _ _ _
   refine HM.out.begin (HF5.out.1.then hf6) (by rw[HGs.out];exact Nat.le_refl _) (by rw[<-HE.out];exact HF5.out.1.size) ((HF5.out.2.then hf6).keep HGr.out (by simp)) ?_;rw[<-HW6.out,<-HE.out];exact heap_alloc_new _ _
  rw[HW6.out,HE.out];clear HW6 HE HGs HGr HM;go_loopw [13] (fun cc wx=>cc=.int .i64 0/\∃t k n sh ct ma,Hid (DI w0 ⟨l,s,x,q⟩ (txs ts) R {ms0 with fd:=L} p B P G E (.func (Fn.func 64) #[] #[.pointer (some ⟨nl,0,none⟩),.pointer (some ⟨na,0,none⟩)]) (.func (Fn.func uf) #[] #[.pointer (some ⟨ua,0,none⟩)]) (I i) t k n sh ct ma wx)) (fun _ wx=>nu ⟨l,s,x,q⟩ (txs ts) {ms0 with fd:=L}-lenB B wx)
  case atStart=>exact⟨rfl,0,0,0,0,0,ma,HDI⟩
  obtain⟨rfl,t,k,n,sh,ct,ma,HD⟩:=hrel;clear HDI;have hG0:=HD.out.2.1;have hE0:=HD.out.2.2.1;have y0:wr.cell? ⟨G,0,none⟩=some (.func (Fn.func 64) #[] #[.pointer (some ⟨nl,0,none⟩),.pointer (some ⟨na,0,none⟩)]):=by rw[crw hG0];rfl
  have y1:wr.cell? ⟨G,1,none⟩=some (.func (Fn.func uf) #[] #[.pointer (some ⟨ua,0,none⟩)]):=by rw[crw hG0];rfl
  have e0:wr.cell? ⟨E,0,none⟩=some (.int .i64 t):=by rw[crw hE0];rfl
  have e1:wr.cell? ⟨E,1,none⟩=some (.int .u8 k):=by rw[crw hE0];rfl
  have e2:wr.cell? ⟨E,2,none⟩=some (.int .i64 n):=by rw[crw hE0];rfl
  have e3:wr.cell? ⟨E,3,none⟩=some (.int .i64 sh):=by rw[crw hE0];rfl
  have e4:wr.cell? ⟨E,4,none⟩=some (.int .i64 ct):=by rw[crw hE0];rfl
  have e5:wr.cell? ⟨E,5,none⟩=some (.int .i64 ma):=by rw[crw hE0];rfl
  have HF:Hid (Fr [] w wr):=HF0.out.then HD.out.fr;have HUn:Hid (Calls ..):=HU.out t k n sh ct ma wr HF.out;clear hG0 hE0;unfold evV at HUn;go_wp2_with (simp[go_sem,EU])
  refine Calls.mono HUn.out ?_;rintro e w8⟨⟨b,rfl,hb⟩,hf8⟩;have HF8:Hid (Fr [] w w8):=HF.out.then hf8;have HD8:Hid (DI w0 _ _ _ _ _ _ _ _ _ _ _ _ _ _ _ _ _ _ _):=HD.out.quiet hf8;have HLb:Hid (lenB B w8=lenB B wr):=by
   obtain⟨⟨Z1,s1,v1,xs1,h1,_⟩,_⟩:=HD.out;show lenB B w8=lenB B wr;rw[h1.lenB,(h1.quiet hf8).1.lenB]
  have HB:Hid (b=true↔Unt (tk i) (N i) k n ma):=hb;clear hf8 hb HUn HF HD y0 y1 e0 e1 e2 e3 e4 e5;cases b with
  |true=>
   have HS':Hid (DS w0 ⟨l,s,x,q⟩ (txs ts) R {ms0 with fd:=L} p B P (fun s=>I (i+1) s 0 0 0 0) w8):=HD8.out.fin fun s1 h1 h2=>HLk.out i hi s1 k n sh ct h1 (by rw[<-h2];exact HB.out.1 rfl);clear HB HD8 HLb;go_wp2_with fail
   go_roundw;case rel=>exact⟨i+1,by simp,by omega,HS'⟩
   case measure=>first|omega|(simp[RowKit.intOf];omega)
  |false=>
   have hG0:=HD8.out.2.1;have hE0:=HD8.out.2.2.1;have y0:w8.cell? ⟨G,0,none⟩=some (.func (Fn.func 64) #[] #[.pointer (some ⟨nl,0,none⟩),.pointer (some ⟨na,0,none⟩)]):=by rw[crw hG0];rfl
   have e0:w8.cell? ⟨E,0,none⟩=some (.int .i64 t):=by rw[crw hE0];rfl
   have e1:w8.cell? ⟨E,1,none⟩=some (.int .u8 k):=by rw[crw hE0];rfl
   have e2:w8.cell? ⟨E,2,none⟩=some (.int .i64 n):=by rw[crw hE0];rfl
   have e3:w8.cell? ⟨E,3,none⟩=some (.int .i64 sh):=by rw[crw hE0];rfl
   have e4:w8.cell? ⟨E,4,none⟩=some (.int .i64 ct):=by rw[crw hE0];rfl
   have e5:w8.cell? ⟨E,5,none⟩=some (.int .i64 ma):=by rw[crw hE0];rfl
   have HBn:Hid (Calls ..):=HBy.out t k n sh ct ma w8 HD8.out.2.2.2 HF8.out;unfold evV at HBn;clear hG0 hE0;go_wp2_with fail
   refine Calls.mono HBn.out ?_;rintro e w9⟨rfl,hf9⟩;have HD9:DI w0 _ _ _ _ _ _ _ _ _ _ _ _ _ _ _ _ _ _ _:=HD8.out.quiet hf9;have HLb9:lenB B w9=lenB B wr:=by
    obtain⟨⟨Z1,s1,v1,xs1,h1,_⟩,_⟩:=HD8.out;rw[<-HLb.out,h1.lenB,(h1.quiet hf9).1.lenB]
   obtain⟨qq,hqq,hask⟩:=HD9.ask (HGl.out i hi) (fun h=>absurd (HB.out.2 h) (by simp)) HB0.out;rw[hqq];have HA:Hid (Calls ..):=hask;have HLm:Hid (lenB B w9=lenB B wr):=HLb9;clear HD8 HF8 HB HBn hf9 HD9 HLb HLb9 hqq hask y0 e0 e1 e2 e3 e4 e5;go_wp2_with fail
   refine Calls.mono HA.out ?_;rintro e wa⟨k',n',sh',ct',m',rfl,hwa⟩;have hEa:=hwa.out.1;have HWa:Hid (∀w'',Fr [E] wa w''->_):=hwa.out.2;clear hwa HA;unfold evV;unfold evA at hEa;go_wp2_with (first
    |(refine zaj rfl _ _ rfl E (qq:Int) k' n' sh' ct' m' rfl rfl t k n sh ct ma hEa ?_;intro wb hwb hfb;have HWb:Hid _:=HWa.out wb hfb hwb.out;clear hfb hwb)
    |fail)
   go_roundw;case rel=>exact⟨rfl,_,k',n',sh',ct',m',HWb.out.1⟩
   case measure=>rw[<-HLm.out];exact HWb.out.2
 have hmi:i=m:=by omega
 subst hmi;obtain⟨Z1,s1,v1,xs1,h1,h2,h3⟩:=HR.out;have HT:Hid (Calls ..):=zacl h1;have HE:Hid (∀w',Fr [] wr w'->zadt w ⟨l,s,x,q⟩ (txs ts) R {ms0 with fd:=L} (fun s'=>I i s' 0 0 0 0) (.returned v1) w'):=fun w' hf=>⟨(HF0.out.then h1.R.m.fr).then hf,v1,xs1,s1,rfl,(h1.quiet hf).1.own,h2,h3,fun b hb=>by have:=(h1.oV b hb).1;have:=HF0.out.size;omega⟩;clear h1 h2 h3 HR;go_wp2_with fail
 refine Calls.mono HT.out ?_;rintro e w8⟨rfl,hf8⟩;have HE8:Hid _:=HE.out w8 hf8;clear HE hf8 HT;go_wp2_with fail
 go_ret;exact HE8.out
end
end
end Go.Proofs.YtaigdcmoecgabaaGreat
