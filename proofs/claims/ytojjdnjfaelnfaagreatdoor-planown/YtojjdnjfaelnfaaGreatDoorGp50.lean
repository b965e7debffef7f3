/- Contracts and lemmas. -/
import Derived.Test.YtojjdnjfaelnfaaGreatDoorGp46
set_option maxHeartbeats 16000000
set_option maxRecDepth 100000
namespace Go.Proofs.YtojjdnjfaelnfaaGreatDoor
set_option linter.unusedSimpArgs false
set_option linter.unusedVariables false
section
open Go.ChangeShapes Go.WideShapes Go.ChangeAt Go.RowKit Go.Lib Go.Maps Go.Proofs.Tryz
section
variable{w0 w w':World}{p:Nat}{c:Cf}{T:List Tx}{Z:Lay}{s:Ms}
theorem MaM.more0(h:MaM w0 w c T Z s)(n:Int)(hn:(s.fd:Int)<=n/\n<=(T.length:Int)):Calls prog 112 #[.pointer (some ⟨Z.z.fb,0,none⟩),.int .i64 n] w fun e w'=>e=.returned (.int .i64 0)/\Dn w0 c T w Z s w' {Z with v:=Z.v,hw:=Z.hw} {s with fd:=zbj T s.fd n}:=by
 have hfe:=h.fe;have hm:=hfe.m;have hlen:T.length=Z.y.ts.length:=by rw[<-h.log,zah]
 refine (F.fMore_any hm n).mono ?_;rintro e w'⟨rfl,k1,k2⟩;have hms:(⟨s.rd,s.fd,c.w.toNat,s.hv,false⟩:F.Fe).moreS Z.y.ts.length n=⟨s.rd,zbj T s.fd n,c.w.toNat,s.hv,false⟩:=by
  unfold F.Fe.moreS F.Fe.moreC zbj;rw[hlen];simp only[Bool.false_eq_true,if_false];split
  .rw[if_neg (by decide)]
  rw[if_pos rfl]
 rw[hms]at k1
 have hmc:(⟨s.rd,s.fd,c.w.toNat,s.hv,false⟩:F.Fe).moreC Z.y.ts.length n=0:=by
  unfold F.Fe.moreC;rw[<-hlen];simp only[Bool.false_eq_true,if_false];rw[if_neg (by omega)]
 refine⟨by rw[hmc];rfl,?_⟩;have hd:=h.setFe k2 (fun b hb _=> ?_) (v':=Z.v) (hw':=Z.hw) (rd:=s.rd) (fd:=zbj T s.fd n) (hv:=s.hv) (k:=s.k) ⟨k1,hfe.f0,hfe.g0,hfe.l0,hfe.m0,hfe.t0,Nat.le_trans hfe.b0 k2.size,fun k hk=>⟨(hfe.h0 k hk).1,Nat.lt_of_lt_of_le (hfe.h0 k hk).2 k2.size⟩,hfe.hB⟩ (fun b hb=>Or.inl hb) (Nat.le_refl _)
 .exact hd
 rw[List.mem_singleton.1 hb];exact Or.inl ⟨hm.fn,hfe.f0⟩
theorem zajq(h:RP w0 w p c T Z s)(n:Int)(hn:(s.fd:Int)<=n/\n<=(T.length:Int)):Calls prog 87 #[.pointer (some ⟨p,0,none⟩),.int .i64 n] w fun e w'=>e=.returned (.int .i64 0)/\Dn w0 c T w Z s w' {Z with v:=Z.v,hw:=Z.hw} {s with fd:=zbj T s.fd n}:=by
 have HT:Hid (Calls ..):=ziz h;have c0:=h.c0;have c5:w.cell? ⟨Z.z.mb,5,none⟩=some (.pointer (some ⟨Z.z.fb,0,none⟩)):=h.m.mc rfl;have HM:Hid (Calls ..):=h.m.more0 n hn;clear h hn;go_enter func87,ntmps87;go_wp2_with fail
 refine Calls.mono HT.out ?_;rintro e w1⟨rfl,rfl⟩;go_wp2_with fail
 refine Calls.mono HM.out ?_;rintro e w1⟨rfl,hD⟩;have HD:Hid (Dn _ _ _ _ _ _ _ _ _):=hD;clear hD;go_wp2;go_ret;exact⟨rfl,HD.out⟩
end
end
namespace Ap
open Go.ChangeShapes Go.WideShapes Go.ChangeAt Go.RowKit Go.Lib Go.Maps Go.Proofs.Tryz
def wC(l s x q:Int)(ao:Option Addr)(L cap:Nat)(C:Int):Array Value:=#[.int .i64 l,.int .i64 s,.int .i64 x,.int .i64 q,.slice ao L cap,.int .i64 C]
theorem zadh{w W:World}{A:Nat}{l s x q C:Int}{ao:Option Addr}{L cap:Nat}(h:w.heap[A]? = some (.cells (wC l s x q ao L cap C) 146 (0,0)))(hf:Fr [] w W):W.cell? ⟨A,0,none⟩=some (.int .i64 l)/\W.cell? ⟨A,1,none⟩=some (.int .i64 s)/\W.cell? ⟨A,2,none⟩=some (.int .i64 x)/\W.cell? ⟨A,3,none⟩=some (.int .i64 q)/\W.cell? ⟨A,4,none⟩=some (.slice ao L cap)/\W.cell? ⟨A,5,none⟩=some (.int .i64 C):=by
 have hr:=hf.keep h (by simp);refine⟨?_,?_,?_,?_,?_,?_⟩<;>(rw[crw hr];rfl)
section
variable{w:World}{l s x q C:Int}{ao:Option Addr}{L cap:Nat}{ts:List Tm}
theorem open_ok(hT:TRs w ao ts)(hL:L=ts.length)(hok:okL 1 (txs ts))(hC0:0<=C)(hC1:C<=16777216)(hc:Cf.may ⟨l,s,x,q⟩) :
  Calls prog 86 #[.agg (wC l s x q ao L cap C)] w fun e w'=>∃(p:Nat)(sv dv:Value)(Z:Lay)(w0:World),e=.returned (.tuple #[.pointer (some ⟨p,0,none⟩),sv,dv])/\Fr [] w w0/\RP w0 w' p ⟨l,s,x,q⟩ (txs ts) Z ms0/\Z.nr=0:=by
 obtain⟨w1,HW1⟩:∃w1,Hid (w.alloc (.cells (wC l s x q ao L cap C) 146)=w1):=⟨_,rfl⟩;obtain⟨A,HA⟩:∃A,Hid (w.heap.size=A):=⟨_,rfl⟩;have hF1:Fr [] w w1:=by rw[<-HW1.out];exact Fr.alloc [] w _
 have hb1:w1.heap[A]? = some (.cells (wC l s x q ao L cap C) 146 (0,0)):=by rw[<-HW1.out,<-HA.out];exact heap_alloc_new _ _
 have HBx:Hid (∀W,Fr [] w1 W->_):=fun W hf=>zadh hb1 hf;have HLg:Hid (Calls ..):=F.new_ok ao L cap ts w1 (hT.keep hF1) hL hok;have HD:Hid (∀W,Calls prog 102 #[.int .i64 C] W _):=fun W=>Dz.dnew_ok C W hC0 hC1;have HF1:Hid (Fr [] w w1):=hF1;have HOK:Hid (okL 1 (txs ts)):=hok;have HM:Hid (Cf.may ⟨l,s,x,q⟩):=hc;obtain⟨f0,f1,f2,f3,f4,f5⟩:=HBx.out _ (Fr.refl _ _);clear hT hL hok hc hF1 hb1;unfold wC at HW1;unfold wC;go_enter func86,ntmps86;go_upto_region 1 with fail
 rw[HW1.out,HA.out];clear HW1 HA;go_wp2_with fail
 refine Calls.mono HLg.out ?_;rintro e w2⟨g,lb,ds,rfl,hS,hts,hf2⟩;have HF2:Hid (Fr [] w1 w2):=hf2;have HS:Hid (F.Src _ _ _ _ _ _ _ _):=hS;have HTs:Hid (txs ds=txs ts):=hts;obtain⟨g0,g1,g2,g3,g4,g5⟩:=HBx.out _ hf2;have HD2:Hid (Calls ..):=HD.out w2;clear hS hts hf2 HLg HD f0 f1 f2 f3 f4 f5;go_wp2_with fail
 refine Calls.mono HD2.out ?_;rintro e w3⟨rfl,hd,hf3⟩;obtain⟨db,hdb⟩:∃db,db=w2.heap.size:=⟨_,rfl⟩;rw[<-hdb]at hd ⊢
 have HF3:Hid (Fr [] w1 w3):=HF2.out.then hf3;obtain⟨f0,f1,f2,f3,f4,f5⟩:=HBx.out _ HF3.out;have HN:Hid (Calls ..):=rnew_ok (w0:=w1) (HS.out.keep hf3) (by rw[HTs.out];exact HOK.out) hd HM.out HF3.out;rw[HTs.out]at HN
 clear hd hf3 HD2 hdb g0 g1 g2 g3 g4 g5 HS HTs;go_wp2_with fail
 refine Calls.mono HN.out ?_;rintro e w4⟨p,Z,rfl,hR,hnr⟩;have HR:Hid (RP _ _ _ _ _ _ _/\_):=⟨hR,hnr⟩;clear hR hnr HN f0 f1 f2 f3 f4 f5;go_wp2_with fail
 refine bodyPost_ret (results_tmp3 rfl _ _ _) rfl ?_;exact⟨p,_,_,Z,w1,rfl,HF1.out,HR.out.1,HR.out.2⟩
end
end Ap
section
open Go.ChangeShapes Go.WideShapes Go.ChangeAt Go.RowKit Go.Lib Go.Proofs.Tryz
section
variable{w:World}{l s x q:Int}{ao:Option Addr}{L cap:Nat}{ts:List Tm}
theorem zwv(w:World)(hT:TRs w ao ts)(hL:L=ts.length)(hok:okL 1 (txs ts))(hc:Cf.may ⟨l,s,x,q⟩) :
  Calls prog 51 #[cfV ⟨l,s,x,q⟩,.slice ao L cap] w fun e w'=>∃(p:Nat)(Z:Lay)(w0:World),e=.returned (.pointer (some ⟨p,0,none⟩))/\Fr [] w w0/\RP w0 w' p ⟨l,s,x,q⟩ (txs ts) Z {ms0 with fd:=L}/\Z.nr=0:=by
 obtain⟨w1,HW1⟩:∃w1,Hid (w.alloc (.cells #[.int .i64 l,.int .i64 s,.int .i64 x,.int .i64 q] 23)=w1):=⟨_,rfl⟩;obtain⟨A,HA⟩:∃A,Hid (w.heap.size=A):=⟨_,rfl⟩;have HB:Hid (CfB w w1 A l s x q):=by rw[<-HW1.out,<-HA.out];exact CfB.made w l s x q
 obtain⟨f0,f1,f2,f3⟩:=HB.out.cells (Fr.refl _ _);have HO:Hid (Calls ..):=Ap.open_ok (w:=w1) (l:=l) (s:=s) (x:=x) (q:=q) (C:=0) (ao:=ao) (L:=L) (cap:=cap) (hT.keep HB.out.fr) hL hok (by omega) (by omega) hc;have HLn:Hid (L=ts.length):=hL;clear hT hL hok hc;unfold Ap.wC at HO;unfold cfV;go_enter func51,ntmps51;go_upto_region 1 with fail
 rw[HW1.out,HA.out];clear HW1 HA;go_wp2_with fail
 refine Calls.mono HO.out ?_;rintro e w2⟨p,sv,dv,Z,w0,rfl,hf0,hR,hnr⟩;have HF0:Hid (Fr [] w w0):=HB.out.fr.then hf0;have HFd:Hid (Calls prog 87 #[.pointer (some ⟨p,0,none⟩),.int .i64 (L:Int)] w2 fun e w'=>e=.returned (.int .i64 0)/\∃Z',RP w0 w' p ⟨l,s,x,q⟩ (txs ts) Z' {ms0 with fd:=L}/\Z'.nr=0):=by
  have e0:ms0.fd=0:=rfl;have e2:(txs ts).length=L:=by rw[zah,<-HLn.out]
  refine Calls.mono (zajq hR (L:Int) ⟨by omega,by omega⟩) ?_;rintro e w'⟨he,hD⟩;have e1:zbj (txs ts) ms0.fd (L:Int)=L:=by
   unfold zbj;rw[if_neg (by omega)];omega
  rw[e1]at hD
  exact⟨he,_,hR.dn hD,hnr⟩
 clear hf0 hR hnr HO f0 f1 f2 f3 HB;go_wp2_with fail
 refine Calls.mono HFd.out ?_;rintro e w3⟨rfl,Z',hR,hz⟩;have HR:Hid _:=hR;have HZ:Hid _:=hz;clear hR hz HFd;go_wp2_with fail
 go_ret;exact⟨p,Z',w0,rfl,HF0.out,HR.out,HZ.out⟩
end
end
section
open Go.ChangeShapes Go.WideShapes Go.ChangeAt Go.RowKit Go.Lib Go.Maps Go.Sort Go.Shelf Go.Proofs.Tryz
def zbo(ln:Nat->Option Hl):Nat->List Int
 |0=>[]
 |m+1=>zbo ln m++(if 0<zcu (ln m) then [zcu (ln m)] else [])
theorem zjg(ln:Nat->Option Hl):∀m,(zbo ln m).length<=m
 |0=>Nat.le_refl _
 |m+1=>by
  have:=zjg ln m;rw[zbo,List.length_append];split<;>simp<;>omega
theorem zajr{w:World}{v:Value}{n:Nat}{xs:List Int}(h:w.ownsRow 0 3 1 v n (tkC xs))(hn:n=xs.length)(hs:n<1000000):Calls prog 94 #[v] w fun e w'=>e=.returned (.tuple #[])/\w'.ownsRow 0 3 1 v n (tkC (xs.mergeSort fun x y=>decide (x<=y)))/\Fr v.ownBlock.toList w w':=by
 subst hn;rcases h.2 with⟨rfl,h0⟩|⟨g,cap,cur,rfl,hb,hg,hnc,hcm,hcs,ht⟩
 .have e:xs=[]:=List.eq_nil_of_length_eq_zero h0;subst e;refine Calls.mono (AnyM.slices_Sort_int_none sortA none 0 w) ?_;rintro e w'⟨rfl,rfl⟩;exact⟨rfl,by rw[show ([]:List Int).mergeSort (fun x y=>decide (x<=y))=[] from by simp];exact h,Fr.refl _ _⟩
 have ht':cur.toList.take xs.length=xs.map (Value.int .i64):=by rw[Nat.mul_one]at ht;exact ht
 refine Calls.mono (AnyM.slices_Sort_int sortA g 0 cap xs w (holds_of_blockI hg ht') (lt_of_block hg) (by omega)) ?_;rintro e w'⟨rfl,n,os,rfl⟩;have hgb:=grownBy_sortedI (w:=w) (g:=g) (n:=n) (os:=os) (xs.mergeSort fun x y=>decide (x<=y)).toArray;refine⟨rfl,?_,Fr.grown hgb (fun k hk _=>by cases hk;simp[Value.ownBlock])⟩;have:=ownsRow_sortedI (n:=n) (os:=os) (ts:=xs.mergeSort fun x y=>decide (x<=y)) (by rw[List.length_mergeSort]) (Nat.zero_le g) hg hnc hcm hcs;exact this
section
variable{w0 w w':World}{p:Nat}{c:Cf}{T:List Tx}{Z:Lay}{s:Ms}
theorem zadi(h:RP w0 w p c T Z s):Calls prog 53 #[.pointer (some ⟨p,0,none⟩)] w fun e w'=>(∃v n,e=.returned v/\n=(zbo s.ln c.l.toNat).length/\w'.ownsRow 0 3 1 v n (tkC ((zbo s.ln c.l.toNat).mergeSort fun x y=>decide (x<=y))))/\Fr [] w w':=by
 have HT:Hid (Calls ..):=ziy h;have c0:=h.c0;have c10:w.cell? ⟨Z.z.mb,10,none⟩=some (.slice (some ⟨Z.z.lsB,0,none⟩) c.l.toNat Z.z.lsC):=h.m.mc rfl;obtain⟨N,hN⟩:∃N,c.l.toNat=N:=⟨_,rfl⟩;have HLn:Hid (∀i,i<N->∀W,Fr [] w W->W.cell? ⟨Z.z.lsB,i,none⟩=some (.pointer (some ⟨Z.z.la i,0,none⟩))/\Hid (Calls prog 93 #[.pointer (some ⟨Z.z.la i,0,none⟩)] W fun e w'=>e=.returned (.int .i64 (zcu (s.ln i)))/\Fr [] W w')):=fun i hi W hf=>by
  have hM:=h.m.quiet hf;refine⟨?_,zcb (hM.la (by omega))⟩;obtain⟨cur,h1,h2⟩:=hM.st.ls;rw[crw h1];exact h2 i (by omega)
 have hN16:N<=16:=by have:=h.m.may.1;omega
 have hcap:N<=Z.z.lsC:=by have:=h.m.st.caps.1;omega
 obtain⟨iI,hiI,hzI,hsI,hbI⟩:=zob;rw[hN]at c10 ⊢
 clear h hN;go_enter func53,ntmps53;go_wp2_with fail
 refine Calls.mono HT.out ?_;rintro e w2⟨rfl,rfl⟩;clear HT;go_wp2_with fail
 go_loopw [3,18] (fun vv ii wr=>∃(i:Nat)(ao:Option Addr)(cap:Nat),vv=.slice ao (zbo s.ln i).length cap/\ii=.int .i64 i/\i<=N/\Hid (wr.ownsRow 0 3 1 (.slice ao (zbo s.ln i).length cap) (zbo s.ln i).length (tkC (zbo s.ln i))/\(∀b,(Value.slice ao (zbo s.ln i).length cap).ownBlock=some b->w.heap.size<=b)/\Fr [] w wr)) (fun _ ii _=>N-(RowKit.intOf ii).toNat)
 case atStart=>exact⟨0,none,0,rfl,rfl,Nat.zero_le _,World.ownsRow_nil _ _ _ _,fun b hb=>by simp[Value.ownBlock]at hb,Fr.refl _ _⟩
 obtain⟨i,ao,cap,rfl,rfl,hiN,HR⟩:=hrel;by_cases hi:i<N
 .obtain⟨ci,HC⟩:=HLn.out i hi wr HR.out.2.2;have hl:=zjg s.ln i;have HS:Hid (zbo s.ln (i+1)=zbo s.ln i++(if 0<zcu (s.ln i) then [zcu (s.ln i)] else [])):=rfl;obtain⟨m,hm⟩:∃m,zcu (s.ln i)=m:=⟨_,rfl⟩;obtain⟨xs,hxs⟩:∃xs,zbo s.ln i=xs:=⟨_,rfl⟩;rw[hm]at HC HS
  rw[hxs]at HS HR hl ⊢
  clear hm hxs;go_wp2_with fail
  refine Calls.mono HC.out ?_;rintro e w3⟨rfl,hf3⟩;have HR3:Hid (w3.ownsRow 0 3 1 (.slice ao xs.length cap) xs.length (tkC xs)/\(∀b,(Value.slice ao xs.length cap).ownBlock=some b->w.heap.size<=b)/\Fr [] w w3):=⟨zaj HR.out.1 hf3 (fun _ _=>by simp),HR.out.2.1,HR.out.2.2.then hf3⟩;clear HR HC hf3 ci;by_cases hm0:0<m
  .have HS':Hid (zbo s.ln (i+1)=xs++[m]):=by show _=_;rw[HS.out,if_pos hm0]
   obtain⟨w4,HW4⟩:∃w4,Hid (w3.alloc (.cells #[.int .i64 m] 3)=w4):=⟨_,rfl⟩;obtain⟨Y,HY⟩:∃Y,Hid (w3.heap.size=Y):=⟨_,rfl⟩;have hF4:Fr [] w3 w4:=by rw[<-HW4.out];exact Fr.alloc _ _ _
   have hY4:w4.heap[Y]? = some (.cells #[.int .i64 m] 3 (0,0)):=by rw[<-HW4.out,<-HY.out];exact heap_alloc_new _ _
   have HO4:Hid (w4.ownsRow 0 3 1 (.slice ao xs.length cap) xs.length (tkC xs)/\Fr [] w w4):=⟨zaj HR3.out.1 hF4 (fun _ _=>by simp),HR3.out.2.2.then hF4⟩;have HCy:Hid (∀j u,([.int .i64 m]:List Value)[j]? = some u->w4.cell? ((⟨Y,0,none⟩:Addr).add j)=some u):=fun j u hu=>by
    rw[Addr.add_lit,Nat.zero_add,crw hY4,<-hu];simp
   have HB3:Hid (∀b,(Value.slice ao xs.length cap).ownBlock=some b->w.heap.size<=b):=HR3.out.2.1;have HZ:Hid (w.heap.size<=w4.heap.size):=HO4.out.2.size;clear hF4 hY4 HR3 HS;go_wp2_with (first
    |(at_builtin;rw[HW4.out,HY.out];clear HW4 HY;refine Ap.wpList_app _ rfl (.tmp 26) (.tmp 28) 25 rfl 3 iI (.int .i64 0) 1 8 zads hiI hzI hsI hbI rfl (by decide) (.slice ao xs.length cap) xs.length (tkC xs) (by rfl) HO4.out.1 ⟨Y,0,none⟩ 1 [.int .i64 m] (by rfl) rfl HCy.out (by simp[Value.oneCell']) (by omega) (by unfold maxLen;omega) ?_;intro g cap' w5 hO hW;have HN5:Hid (w5.ownsRow 0 3 1 (.slice (some ⟨g,0,none⟩) (xs.length+1) cap') (xs.length+1) (tkC (xs++[m]))/\w.heap.size<=g/\Fr [] w w5):=(by
       refine⟨by simpa[tkC]using hO,?_,HO4.out.2.on hW.fr (fun b hb=>HB3.out b (Option.mem_toList.1 hb))⟩;rcases hW with⟨e,_⟩|⟨e,_⟩
       .exact HB3.out g e
       .exact Nat.le_trans HZ.out e);clear hO hW)
    |fail)
   go_roundw;case rel=>
    refine⟨i+1,some ⟨g,0,none⟩,cap',?_,by simp,by omega,?_⟩
    .rw[HS'.out];simp
    rw[HS'.out];show _/\_/\_;rw[List.length_append];exact⟨HN5.out.1,fun b hb=>by
     have e:g=b:=(by simpa[Value.ownBlock]using hb);rw[<-e];exact HN5.out.2.1,HN5.out.2.2⟩
   case measure=>first|omega|(simp[RowKit.intOf];omega)
  have HS':Hid (zbo s.ln (i+1)=xs):=by show _=_;rw[HS.out,if_neg hm0];simp
  clear HS;go_wp2_with fail
  go_roundw;case rel=>
   refine⟨i+1,ao,cap,?_,by simp,by omega,?_⟩
   .rw[HS'.out]
   rw[HS'.out];exact HR3
  case measure=>first|omega|(simp[RowKit.intOf];omega)
 obtain rfl:i=N:=by omega
 have hl:=zjg s.ln i;have HSo:Hid (Calls ..):=zajr HR.out.1 rfl (by omega);have HB:Hid (∀b,(Value.slice ao (zbo s.ln i).length cap).ownBlock=some b->w.heap.size<=b):=HR.out.2.1;have HF:Hid (Fr [] w wr):=HR.out.2.2;clear HR HLn;go_wp2_with fail
 refine Calls.mono HSo.out ?_;rintro e w3⟨rfl,hO,hf3⟩;have HO:Hid (_/\Fr [] w w3):=⟨hO,HF.out.on hf3 (fun b hb=>HB.out b (Option.mem_toList.1 hb))⟩;clear hO hf3 HSo;go_wp2_with fail
 go_ret;exact⟨⟨_,_,rfl,rfl,HO.out.1⟩,HO.out.2⟩
end
theorem Sim.eqs{s t:Ms}(h:Sim s t):t.ln=s.ln/\t.ma=s.ma/\t.hv=s.hv/\t.rd=s.rd/\t.fd=s.fd/\t.d=s.d/\t.en=s.en:=by
 rw[<-h];exact⟨rfl,rfl,rfl,rfl,rfl,rfl,rfl⟩
def SS(wp:World)(p:Nat)(c:Cf)(T:List Tx)(R:Ms->Int->Ms->Prop)(L:Nat)(J:Ms->Prop)(xs:List Int)(k:Nat)(K:Ms->Prop)(W:World):Prop:=
 ∃(w0:World)(Z:Lay)(s t s':Ms),Fr [] wp w0/\RP w0 W p c T Z t/\Z.nr=t.d/\Wf c T t/\t.k=k/\t.fd=L/\Sim s t/\Fw c T R s (xs.drop k) s'/\J s'/\K s
section
variable{wp W W':World}{p L k:Nat}{c:Cf}{T:List Tx}{R:Ms->Int->Ms->Prop}{J K:Ms->Prop}{xs:List Int}
theorem SS.fr(h:SS wp p c T R L J xs k K W):Fr [] wp W:=by
 obtain⟨w0,Z,s,t,s',h1,h2,_⟩:=h;exact h1.then h2.m.fr
theorem SS.quiet(h:SS wp p c T R L J xs k K W)(hf:Fr [] W W'):SS wp p c T R L J xs k K W':=by
 obtain⟨w0,Z,s,t,s',h1,h2,h3⟩:=h;exact⟨w0,Z,s,t,s',h1,h2.quiet hf,h3⟩
theorem SS.step(h:SS wp p c T R L J xs k K W)(hk:k<xs.length)(hk6:k<16000000):Calls prog 52 #[.pointer (some ⟨p,0,none⟩),.int .i64 (xs.getD k 0)] W fun e W'=>∃t0 kk n sh ct m,e=.returned (.tuple #[evV t0 kk n sh ct m,.int .i64 0])/\SS wp p c T R L J xs (k+1) (fun s1=>∃s,K s/\R s kk s1) W':=by
 obtain⟨w0,Z,s,t,s',h1,h2,h3,h4,h5,h6,h7,h8,h9,h10⟩:=h;rw[List.drop_eq_getElem_cons hk]at h8
 have hq:xs.getD k 0=xs[k]:=by simp[List.getD,hk]
 rw[hq];generalize xs[k]=x at h8 ⊢;cases h8 with
 |cons a b d e f g=>
  refine (zzh h2 h3 h4 (by omega) b (by rw[h7.can];exact d)).mono ?_;rintro e2 W'⟨k2,n2,sh2,ct2,t',Z',rfl,hD,hz,hw,hr⟩;obtain⟨e1,e3,e4,e5,hs⟩:=e.sim hr h7;refine⟨_,k2,n2,sh2,ct2,_,rfl,w0,Z',_,t',s',h1,h2.dn hD,hz,hw,by rw[(hr.nu h4).2.1,h5],by rw[(hr.nu h4).2.2,h6],hs,g,h9,s,h10,by rw[<-e1];exact f⟩
theorem SS.held(h:SS wp p c T R L J xs k K W):Calls prog 53 #[.pointer (some ⟨p,0,none⟩)] W fun e W'=>(∃s ao n cap,K s/\e=.returned (.slice ao n cap)/\n=(zbo s.ln c.l.toNat).length/\W'.ownsRow 0 3 1 (.slice ao n cap) n (tkC ((zbo s.ln c.l.toNat).mergeSort fun x y=>decide (x<=y))))/\Fr [] W W':=by
 obtain⟨w0,Z,s,t,s',h1,h2,h3,h4,h5,h6,h7,h8,h9,h10⟩:=h;refine (zadi h2).mono ?_;rintro e W'⟨⟨v,n,rfl,hn,ho⟩,hf⟩;obtain⟨ao,cap,hv⟩:=Ap.own_slice ho;subst hv;rw[h7.eqs.1]at hn ho
 exact⟨⟨s,ao,n,cap,h10,rfl,hn,ho⟩,hf⟩
theorem SS.fin(h:SS wp p c T R L J xs xs.length K W):∃s,K s/\J s/\(∀W',Fr [] W W'->Calls prog 54 #[.pointer (some ⟨p,0,none⟩)] W' fun e w'=>e=.returned (.int .i64 s.ma)/\Fr [] W' w'):=by
 obtain⟨w0,Z,s,t,s',h1,h2,h3,h4,h5,h6,h7,h8,h9,h10⟩:=h;rw[List.drop_length]at h8
 cases h8;refine⟨s,h10,h9,fun W' hf=> ?_⟩;rw[<-h7.eqs.2.1];exact znx (h2.quiet hf)
theorem SS.close(h:SS wp p c T R L J xs xs.length K W):SS wp p c T R L J xs xs.length (fun s=>K s/\J s/\0<=s.ma) W:=by
 obtain⟨w0,Z,s,t,s',h1,h2,h3,h4,h5,h6,h7,h8,h9,h10⟩:=h;have h8':=h8;rw[List.drop_length]at h8'
 cases h8';exact⟨w0,Z,_,t,_,h1,h2,h3,h4,h5,h6,h7,h8,h9,h10,h9,by rw[<-h7.eqs.2.1];exact h4.gok.1.low⟩
theorem SS.first{w0:World}{Z:Lay}{s':Ms}(hf:Fr [] wp w0)(hR:RP w0 W p c T Z {ms0 with fd:=L})(hz:Z.nr=0)(hw:Wf c T {ms0 with fd:=L})(hF:Fw c T R {ms0 with fd:=L} xs s')(hJ:J s')(hK:K {ms0 with fd:=L}):SS wp p c T R L J xs 0 K W:=
 ⟨w0,Z,{ms0 with fd:=L},{ms0 with fd:=L},s',hf,hR,hz,hw,rfl,rfl,Sim.refl _,by rw[List.drop_zero];exact hF,hJ,hK⟩
theorem SS.weak{K':Ms->Prop}(h:SS wp p c T R L J xs k K W)(hK:∀s,K s->K' s):SS wp p c T R L J xs k K' W:=by
 obtain⟨w0,Z,s,t,s',h1,h2,h3,h4,h5,h6,h7,h8,h9,h10⟩:=h;exact⟨w0,Z,s,t,s',h1,h2,h3,h4,h5,h6,h7,h8,h9,hK s h10⟩
end
def wA:List Wt:=[⟨⟨#[97]⟩,⟨#[49]⟩,false⟩]
def wB:List Wt:=[⟨⟨#[98]⟩,⟨#[50]⟩,false⟩]
def T2:List Tx:=[⟨1,wA⟩,⟨2,wB⟩]
def c2:Cf:=⟨2,1,4,1⟩
theorem zmg:okL 1 T2:=by
 have h:∀(n:Int)(k v:ByteArray),1<=n->n<=65536->k.size=1->v.size=1->okT n [⟨k,v,false⟩]:=fun n k v h1 h2 h3 h4=>⟨h1,h2,by simp,fun x hx=>by
  rw[List.mem_singleton.1 hx];exact⟨by simp only;omega,by simp only;omega,by simp only;omega,fun h=>by cases h⟩⟩
 exact⟨h 1 ⟨#[97]⟩ ⟨#[49]⟩ (by omega) (by omega) rfl rfl,rfl,h 2 ⟨#[98]⟩ ⟨#[50]⟩ (by omega) (by omega) rfl rfl,rfl,trivial⟩
theorem zgz:c2.may:=by decide
theorem zadj:¬Ch.Rch T2 1 2:=fun h=>by
 obtain⟨m,h1,h2,k,h3,h4⟩:=h.inv (by omega);have:=h1.ge;obtain rfl:m=1:=by omega
 obtain⟨x,hx,e1⟩:=h3;obtain⟨y,hy,e2⟩:=h4;have hx:x∈wA:=hx;have hy:y∈wB:=hy;rw[List.mem_singleton.1 hx]at e1
 rw[List.mem_singleton.1 hy]at e2
 rw[<-e2]at e1
 exact absurd e1 (by decide)
def TwoV(v:Value)(w:World):Prop:=∃b ts,v=.slice (some ⟨b,0,none⟩) 2 2/\TRs w (some ⟨b,0,none⟩) ts/\txs ts=T2
theorem TwoV.keep{v:Value}{w w':World}(hf:Fr [] w w')(h:TwoV v w):TwoV v w':=by
 obtain⟨b,ts,h1,h2,h3⟩:=h;exact⟨b,ts,h1,h2.keep hf,h3⟩
theorem znf(w:World):Calls prog 50 #[] w fun e w'=>(∃v,e=.returned v/\TwoV v w')/\Fr [] w w':=by
 obtain⟨w3,HW3⟩:∃w3,Hid (((w.alloc (.cells #[.string ⟨#[97]⟩,.string ⟨#[49]⟩,.bool false] 91)).alloc (.cells #[.string ⟨#[98]⟩,.string ⟨#[50]⟩,.bool false] 91)).alloc (.cells #[.int .i64 1,.slice (some ⟨w.heap.size,0,none⟩) 1 1,.int .i64 2,.slice (some ⟨w.heap.size+1,0,none⟩) 1 1] 108)=w3):=⟨_,rfl⟩;have HF:Hid (Fr [] w w3):=by rw[<-HW3.out];exact ((Fr.alloc [] w _).then (Fr.alloc [] _ _)).then (Fr.alloc [] _ _)
 have hA:w3.heap[w.heap.size]? = some (.cells #[.string ⟨#[97]⟩,.string ⟨#[49]⟩,.bool false] 91 (0,0)):=by
  rw[<-HW3.out];exact (Below.heap_alloc _ _ _ (by simp;omega)).trans ((Below.heap_alloc _ _ _ (by simp)).trans (heap_alloc_new _ _))
 have hB:w3.heap[w.heap.size+1]? = some (.cells #[.string ⟨#[98]⟩,.string ⟨#[50]⟩,.bool false] 91 (0,0)):=by
  rw[<-HW3.out];refine (Below.heap_alloc _ _ _ (by simp)).trans ?_;have:=heap_alloc_new (w.alloc (.cells #[.string ⟨#[97]⟩,.string ⟨#[49]⟩,.bool false] 91)) (.cells #[.string ⟨#[98]⟩,.string ⟨#[50]⟩,.bool false] 91);simpa using this
 have hC:w3.heap[w.heap.size+2]? = some (.cells #[.int .i64 1,.slice (some ⟨w.heap.size,0,none⟩) 1 1,.int .i64 2,.slice (some ⟨w.heap.size+1,0,none⟩) 1 1] 108 (0,0)):=by
  rw[<-HW3.out];have:=heap_alloc_new ((w.alloc (.cells #[.string ⟨#[97]⟩,.string ⟨#[49]⟩,.bool false] 91)).alloc (.cells #[.string ⟨#[98]⟩,.string ⟨#[50]⟩,.bool false] 91)) (.cells #[.int .i64 1,.slice (some ⟨w.heap.size,0,none⟩) 1 1,.int .i64 2,.slice (some ⟨w.heap.size+1,0,none⟩) 1 1] 108);simpa using this
 have hs:∀(b:Nat)(k v:ByteArray),k.size=1->v.size=1->w3.heap[b]? = some (.cells #[.string k,.string v,.bool false] 91 (0,0))->WRs w3 (some ⟨b,0,none⟩) [⟨k,v,false⟩]:=fun b k v hk hv hb=>WRs.of_row (rest:=[]) (by simpa[wtsC,wtC]using hb) (by simp) (fun x hx=>by rw[List.mem_singleton.1 hx];exact⟨by simp only;omega,by simp only;omega⟩);have HT:Hid (TwoV (.slice (some ⟨w.heap.size+2,0,none⟩) 2 2) w3):=by
  refine⟨w.heap.size+2,[⟨1,some ⟨w.heap.size,0,none⟩,1,1,wA⟩,⟨2,some ⟨w.heap.size+1,0,none⟩,1,1,wB⟩],rfl,?_,rfl⟩;refine TRs.of_row (rest:=[]) (by simpa[tmsC,tmC]using hC) (by simp) (fun t ht=> ?_);simp only[List.mem_cons,List.not_mem_nil,or_false]at ht;rcases ht with rfl|rfl
  .exact⟨hs _ ⟨#[97]⟩ ⟨#[49]⟩ rfl rfl hA,rfl,by simp only;omega,by simp only;omega⟩
  exact⟨hs _ ⟨#[98]⟩ ⟨#[50]⟩ rfl rfl hB,rfl,by simp only;omega,by simp only;omega⟩
 clear hA hB hC hs;go_enter func50,ntmps50;go_wp2;go_ret;rw[HW3.out];exact⟨⟨_,rfl,HT.out⟩,HF.out⟩
theorem zki{ρ:Operand->Value}{w:World}{o:Oper}{x:Operand}{a b:Value}(ho:o.op=.extract x 0)(hx:ρ x=.tuple #[a,b]):(execOp ρ o).run prog w=.ok (.value a) w:=by
 obtain⟨d,op,ty,ps,af,gd⟩:=o;simp only at ho;subst ho
 go_simp
theorem zkj{ρ:Operand->Value}{w:World}{o:Oper}{x:Operand}{a b:Value}(ho:o.op=.extract x 1)(hx:ρ x=.tuple #[a,b]):(execOp ρ o).run prog w=.ok (.value b) w:=by
 obtain⟨d,op,ty,ps,af,gd⟩:=o;simp only at ho;subst ho
 go_simp
theorem zsc{ρ:Operand->Value}{w:World}{o:Oper}(ho:o.op=.call {callee:=.value (.func 50),args:=#[],argTypes:=#[]})(h:ρ (.func 50)=.func (Fn.func 50) #[] #[]):(execOp ρ o).run prog w=.ok (.enter 50 #[]) w:=by
 obtain⟨d,op,ty,ps,af,gd⟩:=o;simp only at ho;subst ho
 go_simp
theorem zsd{ρ:Operand->Value}{w:World}{o:Oper}{x y z u:Operand}(ho:o.op=.call {callee:=.value (.func 5),args:=#[x,y,z,u],argTypes:=#[23,24,3,3]})(h:ρ (.func 5)=.func (Fn.func 5) #[] #[]):(execOp ρ o).run prog w=.ok (.enter 5 #[ρ x,ρ y,ρ z,ρ u]) w:=by
 obtain⟨d,op,ty,ps,af,gd⟩:=o;simp only at ho;subst ho
 go_simp
theorem zaaa{ρ:Operand->Value}{w:World}{o:Oper}{x y:Operand}(ho:o.op=.call {callee:=.value (.func 51),args:=#[x,y],argTypes:=#[23,24]})(h:ρ (.func 51)=.func (Fn.func 51) #[] #[]):(execOp ρ o).run prog w=.ok (.enter 51 #[ρ x,ρ y]) w:=by
 obtain⟨d,op,ty,ps,af,gd⟩:=o;simp only at ho;subst ho
 go_simp
def P12(w0:World)(v:Value)(w:World):Prop:=PlV w0 c2 T2 (fun _ _ _=>True) {ms0 with fd:=2} (ApE 1 2) v w
def O12(w0:World)(v:Value)(w:World):Prop:=∃p Z w1,v=.pointer (some ⟨p,0,none⟩)/\Fr [] w0 w1/\RP w1 w p c2 T2 Z {ms0 with fd:=2}/\Z.nr=0
theorem O12.keep{w0 w w':World}{v:Value}(hf:Fr [] w w')(h:O12 w0 v w):O12 w0 v w':=by
 obtain⟨p,Z,w1,h1,h2,h3,h4⟩:=h;exact⟨p,Z,w1,h1,h2,h3.quiet hf,h4⟩
theorem cp12:CpP c2 T2 2 1 2 0:=Or.inr (Or.inr (Or.inr (Or.inr ⟨zgz,⟨zmg,by decide,by decide,by decide,by decide⟩,by decide,zadj,rfl⟩)))
theorem zahi{ao:Option Addr}{ts:List Tm}(w:World)(hT:TRs w ao ts)(ht:txs ts=T2):Calls prog 5 #[cfV c2,.slice ao 2 2,.int .i64 1,.int .i64 2] w fun e w'=>(∃v,e=.returned (.tuple #[v,.int .i64 0])/\P12 w v w')/\Fr [] w w':=by
 have hl:2=ts.length:=by have:=congrArg List.length ht;rw[zah]at this;exact this.symm
 refine (zie (l:=2) (s:=1) (x:=4) (q:=1) (L:=2) (cap:=2) (i:=1) (j:=2) w hT hl (Nat.le_refl _) ⟨by omega,by omega⟩ ⟨by omega,by omega⟩).mono ?_;rintro e w'⟨hf,v,r,rfl,hA,_,hP⟩;rw[ht]at hA hP
 have h0:AAns c2 T2 2 1 2 0:=Or.inr (Or.inr ⟨cp12,by have:=zlw zgz zmg 2 (Nat.le_refl _);show rdS T2 2<=_;omega,rfl⟩);obtain rfl:r=0:=AAns.uniq hA h0;exact⟨⟨v,rfl,hP rfl⟩,hf⟩
theorem zahj{ao:Option Addr}{ts:List Tm}(w:World)(hT:TRs w ao ts)(ht:txs ts=T2):Calls prog 5 #[cfV c2,.slice ao 2 2,.int .i64 2,.int .i64 2] w fun e w'=>(∃v,e=.returned (.tuple #[v,.int .i64 1]))/\Fr [] w w':=by
 have hl:2=ts.length:=by have:=congrArg List.length ht;rw[zah]at this;exact this.symm
 refine (zie (l:=2) (s:=1) (x:=4) (q:=1) (L:=2) (cap:=2) (i:=2) (j:=2) w hT hl (Nat.le_refl _) ⟨by omega,by omega⟩ ⟨by omega,by omega⟩).mono ?_;rintro e w'⟨hf,v,r,rfl,hA,_,_⟩;rw[ht]at hA
 have h0:AAns c2 T2 2 2 2 1:=Or.inl ⟨by decide,Or.inr (Or.inl ⟨zgz,fun h=>absurd h.2.2.1 (by decide),rfl⟩)⟩;obtain rfl:r=1:=AAns.uniq hA h0;exact⟨⟨v,rfl⟩,hf⟩
def lPhA(w0:World):Nat->Value->World->Prop
 |0,v,w=>v=cfV c2
 |1,v,w=>TwoV v w
 |2,v,w=>∃p,v=.tuple #[p,.int .i64 0]/\P12 w0 p w
 |3,v,w=>∃p,v=.tuple #[p,.int .i64 0]/\P12 w0 p w
 |4,v,w=>P12 w0 v w
 |5,v,w=>v=.int .i64 0
 |6,v,w=>P12 w0 v w
 |7,v,w=>v=.int .i64 0
 |_,_,_=>True
theorem zaab{w0:World}:∀i v w w',Fr [] w w'->lPhA w0 i v w->lPhA w0 i v w'
 |0,v,w,w',hf,h=>h
 |1,v,w,w',hf,h=>TwoV.keep hf h
 |2,v,w,w',hf,⟨p,h1,h2⟩=>⟨p,h1,PlV.keep hf h2⟩
 |3,v,w,w',hf,⟨p,h1,h2⟩=>⟨p,h1,PlV.keep hf h2⟩
 |4,v,w,w',hf,h=>PlV.keep hf h
 |5,v,w,w',hf,h=>h
 |6,v,w,w',hf,h=>PlV.keep hf h
 |7,v,w,w',hf,h=>h
 |n+8,v,w,w',hf,h=>trivial
def lPhB:Nat->Value->World->Prop
 |0,v,w=>v=cfV c2
 |1,v,w=>TwoV v w
 |2,v,w=>∃p,v=.tuple #[p,.int .i64 1]
 |3,v,w=>∃p,v=.tuple #[p,.int .i64 1]
 |5,v,w=>v=.int .i64 1
 |7,v,w=>v=.int .i64 1
 |_,_,_=>True
theorem zaac:∀i v w w',Fr [] w w'->lPhB i v w->lPhB i v w'
 |0,v,w,w',hf,h=>h
 |1,v,w,w',hf,h=>TwoV.keep hf h
 |2,v,w,w',hf,h=>h
 |3,v,w,w',hf,h=>h
 |4,v,w,w',hf,h=>trivial
 |5,v,w,w',hf,h=>h
 |6,v,w,w',hf,h=>trivial
 |7,v,w,w',hf,h=>h
 |n+8,v,w,w',hf,h=>trivial
def lPhC(w0:World):Nat->Value->World->Prop
 |0,v,w=>v=cfV c2
 |1,v,w=>TwoV v w
 |2,v,w=>O12 w0 v w
 |3,v,w=>O12 w0 v w
 |_,_,_=>True
theorem zaad{w0:World}:∀i v w w',Fr [] w w'->lPhC w0 i v w->lPhC w0 i v w'
 |0,v,w,w',hf,h=>h
 |1,v,w,w',hf,h=>TwoV.keep hf h
 |2,v,w,w',hf,h=>O12.keep hf h
 |3,v,w,w',hf,h=>O12.keep hf h
 |n+4,v,w,w',hf,h=>trivial
theorem zajs:([1,2]:List Int).mergeSort (fun x y=>decide (x<=y))=[1,2]:=List.mergeSort_of_pairwise (by decide)
theorem ztp(w:World):Calls prog 8 #[] w fun e w'=>e=.returned (.bool true)/\Fr [] w w':=by
 obtain⟨w1,HW1⟩:∃w1,Hid (w.alloc (.cells #[.int .i64 2,.int .i64 1,.int .i64 4,.int .i64 1] 23)=w1):=⟨_,rfl⟩;obtain⟨A,HA⟩:∃A,Hid (w.heap.size=A):=⟨_,rfl⟩;have HB:Hid (CfB w w1 A 2 1 4 1):=by rw[<-HW1.out,<-HA.out];exact CfB.made w 2 1 4 1
 have HF:Hid (Fr [] w w1/\Fr [] w1 w1):=⟨HB.out.fr,Fr.refl _ _⟩;go_enter func8,ntmps8;go_upto_region 2 with fail
 rw[HW1.out,HA.out];clear HW1 HA;refine zdg [13,14,15,12,16,17,2,3] 81 (lPhA w) (by kernel_rfl) (by kernel_rfl) (by kernel_rfl) rfl zaab ?_ ?_
 .intro i o ho a W hf hsame hdep;have h1:a.eval (.tmp 1)=.pointer (some ⟨A,0,none⟩):=(hsame 1 (by decide)).trans rfl;have hA:=(HF.out.2.then hf).keep HB.out.row (by simp)
  match i,ho with
  |0,ho=>
   obtain rfl:=Option.some.inj ho;exact zag (zdw (c:=c2) _ rfl h1 hA) ⟨_,rfl,Fr.refl _ _,rfl⟩
  |1,ho=>
   obtain rfl:=Option.some.inj ho;refine zbg (zsc rfl rfl) ?_;refine Calls.mono (znf W) ?_;rintro e w'⟨⟨v,rfl,hT⟩,hf'⟩;exact⟨v,rfl,v,rfl,hf',hT⟩
  |2,ho=>
   have hc:a.eval (.tmp 13)=cfV c2:=hdep 0 13 (by kernel_rfl) rfl;obtain⟨b,ts,ht,hT,hx⟩:TwoV (a.eval (.tmp 14)) W:=hdep 1 14 (by kernel_rfl) rfl;obtain rfl:=Option.some.inj ho;refine zbg (zsd rfl rfl) ?_;rw[hc,ht];refine Calls.mono (zahi W hT hx) ?_;rintro e w'⟨⟨v,rfl,hP⟩,hf'⟩;obtain⟨xs,s',k1,k2,k3,k4⟩:=hP;exact⟨_,rfl,_,rfl,hf',v,rfl,xs,s',k1,k2,k3,fun b hb=>Nat.le_trans (HF.out.1.then hf).size (k4 b hb)⟩
  |3,ho=>
   have hp:=hdep 2 15 (by kernel_rfl) rfl;obtain rfl:=Option.some.inj ho;exact zag (zcg (.tmp 15) rfl) ⟨_,rfl,Fr.refl _ _,hp⟩
  |4,ho=>
   have hp:=hdep 3 12 (by kernel_rfl) rfl;obtain rfl:=Option.some.inj ho;obtain⟨p,e1,e2⟩:=hp;exact zag (zki rfl e1) ⟨_,rfl,Fr.refl _ _,e2⟩
  |5,ho=>
   have hp:=hdep 3 12 (by kernel_rfl) rfl;obtain rfl:=Option.some.inj ho;obtain⟨p,e1,e2⟩:=hp;exact zag (zkj rfl e1) ⟨_,rfl,Fr.refl _ _,rfl⟩
  |6,ho=>
   have hp:=hdep 4 16 (by kernel_rfl) rfl;obtain rfl:=Option.some.inj ho;exact zag (zbp (.tmp 16) rfl) ⟨_,rfl,Fr.refl _ _,hp⟩
  |7,ho=>
   have hp:=hdep 5 17 (by kernel_rfl) rfl;obtain rfl:=Option.some.inj ho;exact zag (zbp (.tmp 17) rfl) ⟨_,rfl,Fr.refl _ _,hp⟩
  |n+8,ho=>exact absurd ho (by simp)
 intro vs w2 hlen hf hv;obtain⟨v0,v1,v2,v3,v4,v5,v6,v7,rfl⟩:∃v0 v1 v2 v3 v4 v5 v6 v7,vs=[v0,v1,v2,v3,v4,v5,v6,v7]:=by
  match vs,hlen with
  | [v0,v1,v2,v3,v4,v5,v6,v7],_=>exact⟨v0,v1,v2,v3,v4,v5,v6,v7,rfl⟩
 have HP:Hid (P12 w v6 w2):=hv 6 v6 rfl;obtain rfl:v7=.int .i64 0:=hv 7 v7 rfl;have HF2:Hid (Fr [] w w2/\Fr [] w1 w2):=⟨HF.out.1.then hf,HF.out.2.then hf⟩;clear hv hlen hf HF;rename_i hK;refine hK _ _ ?_;clear hK;simp only[List.zip_cons_cons,List.zip_nil_left,puts,Act.put,List.setIfInBounds_toArray,List.set_cons_succ,List.set_cons_zero];have HF:=HF2;go_upto_region 3 with fail
 refine zdg [19,20,21,18,22,23,4,5] 81 lPhB (by kernel_rfl) (by kernel_rfl) (by kernel_rfl) rfl zaac ?_ ?_
 .intro i o ho a W hf hsame hdep;have h1:a.eval (.tmp 1)=.pointer (some ⟨A,0,none⟩):=(hsame 1 (by decide)).trans rfl;have hA:=(HF.out.2.then hf).keep HB.out.row (by simp)
  match i,ho with
  |0,ho=>
   obtain rfl:=Option.some.inj ho;exact zag (zdw (c:=c2) _ rfl h1 hA) ⟨_,rfl,Fr.refl _ _,rfl⟩
  |1,ho=>
   obtain rfl:=Option.some.inj ho;refine zbg (zsc rfl rfl) ?_;refine Calls.mono (znf W) ?_;rintro e w'⟨⟨v,rfl,hT⟩,hf'⟩;exact⟨v,rfl,v,rfl,hf',hT⟩
  |2,ho=>
   have hc:a.eval (.tmp 19)=cfV c2:=hdep 0 19 (by kernel_rfl) rfl;obtain⟨b,ts,ht,hT,hx⟩:TwoV (a.eval (.tmp 20)) W:=hdep 1 20 (by kernel_rfl) rfl;obtain rfl:=Option.some.inj ho;refine zbg (zsd rfl rfl) ?_;rw[hc,ht];refine Calls.mono (zahj W hT hx) ?_;rintro e w'⟨⟨v,rfl⟩,hf'⟩;exact⟨_,rfl,_,rfl,hf',v,rfl⟩
  |3,ho=>
   have hp:=hdep 2 21 (by kernel_rfl) rfl;obtain rfl:=Option.some.inj ho;exact zag (zcg (.tmp 21) rfl) ⟨_,rfl,Fr.refl _ _,hp⟩
  |4,ho=>
   have hp:=hdep 3 18 (by kernel_rfl) rfl;obtain rfl:=Option.some.inj ho;obtain⟨p,e1⟩:=hp;exact zag (zki rfl e1) ⟨_,rfl,Fr.refl _ _,trivial⟩
  |5,ho=>
   have hp:=hdep 3 18 (by kernel_rfl) rfl;obtain rfl:=Option.some.inj ho;obtain⟨p,e1⟩:=hp;exact zag (zkj rfl e1) ⟨_,rfl,Fr.refl _ _,rfl⟩
  |6,ho=>
   have hp:=hdep 4 22 (by kernel_rfl) rfl;obtain rfl:=Option.some.inj ho;exact zag (zbp (.tmp 22) rfl) ⟨_,rfl,Fr.refl _ _,hp⟩
  |7,ho=>
   have hp:=hdep 5 23 (by kernel_rfl) rfl;obtain rfl:=Option.some.inj ho;exact zag (zbp (.tmp 23) rfl) ⟨_,rfl,Fr.refl _ _,hp⟩
  |n+8,ho=>exact absurd ho (by simp)
 intro us w3 hlen hf hv;obtain⟨u0,u1,u2,u3,u4,u5,u6,u7,rfl⟩:∃u0 u1 u2 u3 u4 u5 u6 u7,us=[u0,u1,u2,u3,u4,u5,u6,u7]:=by
  match us,hlen with
  | [u0,u1,u2,u3,u4,u5,u6,u7],_=>exact⟨u0,u1,u2,u3,u4,u5,u6,u7,rfl⟩
 obtain rfl:u7=.int .i64 1:=hv 7 u7 rfl;have HF3:Hid (Fr [] w w3/\Fr [] w1 w3/\Fr [] w2 w3):=⟨HF2.out.1.then hf,HF2.out.2.then hf,hf⟩;clear hv hlen hf HF HF2;rename_i hK;refine hK _ _ ?_;clear hK;simp only[List.zip_cons_cons,List.zip_nil_left,puts,Act.put,List.setIfInBounds_toArray,List.set_cons_succ,List.set_cons_zero];have HF:Hid (Fr [] w w3/\Fr [] w1 w3):=⟨HF3.out.1,HF3.out.2.1⟩;go_upto_region 4 with fail
 refine zdg [24,25,26,6] 81 (lPhC w3) (by kernel_rfl) (by kernel_rfl) (by kernel_rfl) rfl zaad ?_ ?_
 .intro i o ho a W hf hsame hdep;have h1:a.eval (.tmp 1)=.pointer (some ⟨A,0,none⟩):=(hsame 1 (by decide)).trans rfl;have hA:=(HF.out.2.then hf).keep HB.out.row (by simp)
  match i,ho with
  |0,ho=>
   obtain rfl:=Option.some.inj ho;exact zag (zdw (c:=c2) _ rfl h1 hA) ⟨_,rfl,Fr.refl _ _,rfl⟩
  |1,ho=>
   obtain rfl:=Option.some.inj ho;refine zbg (zsc rfl rfl) ?_;refine Calls.mono (znf W) ?_;rintro e w'⟨⟨v,rfl,hT⟩,hf'⟩;exact⟨v,rfl,v,rfl,hf',hT⟩
  |2,ho=>
   have hc:a.eval (.tmp 24)=cfV c2:=hdep 0 24 (by kernel_rfl) rfl;obtain⟨b,ts,ht,hT,hx⟩:TwoV (a.eval (.tmp 25)) W:=hdep 1 25 (by kernel_rfl) rfl;obtain rfl:=Option.some.inj ho;refine zbg (zaaa rfl rfl) ?_;rw[hc,ht];refine Calls.mono (zwv (l:=2) (s:=1) (x:=4) (q:=1) (L:=2) (cap:=2) W hT (by have:=congrArg List.length hx;rw[zah]at this;exact this.symm) (by rw[hx];exact zmg) zgz) ?_;rintro e w'⟨p,Z,w0,rfl,h0,hR,hz⟩;rw[hx]at hR
   exact⟨_,rfl,_,rfl,h0.then hR.m.fr,p,Z,w0,rfl,hf.then h0,hR,hz⟩
  |3,ho=>
   have hp:=hdep 2 26 (by kernel_rfl) rfl;obtain rfl:=Option.some.inj ho;exact zag (zbp (.tmp 26) rfl) ⟨_,rfl,Fr.refl _ _,hp⟩
  |n+4,ho=>exact absurd ho (by simp)
 intro ys w4 hlen hf hv;obtain⟨y0,y1,y2,y3,rfl⟩:∃y0 y1 y2 y3,ys=[y0,y1,y2,y3]:=by
  match ys,hlen with
  | [y0,y1,y2,y3],_=>exact⟨y0,y1,y2,y3,rfl⟩
 obtain⟨p,Z,w0,rfl,h0,hR,hz⟩:O12 w3 y3 w4:=hv 3 y3 rfl;obtain⟨xs,s',hown,hFw,hJ,hnew⟩:=HP.out;have hf34:Fr [] w3 w4:=hf;have hown4:=zaj hown (HF3.out.2.2.then hf34) (fun _ _=>by simp);obtain⟨vo,vc,hvv⟩:=Ap.own_slice hown4;subst hvv;have hwf:Wf c2 T2 {ms0 with fd:=2}:=Wf.first zgz zmg rfl;have HS:Hid (SS w3 p c2 T2 (fun _ _ _=>True) 2 (ApE 1 2) xs 0 (fun _=>True) w4):=SS.first h0 hR hz hwf hFw hJ trivial;have hx1:xs.length<=138:=by
  have h1:=hFw.nu.1;rw[zlv]at h1
  have h2:=zlw zgz zmg 2 (Nat.le_refl _);omega
 have hx0:0<xs.length:=by
  cases hFw with
  |nil=>obtain⟨⟨l,hl⟩,_⟩:=hJ;cases hl
  |cons=>simp
 have HRow:Hid (∀W,Fr [] w3 W->∀k,k<xs.length->∃g,vo=some ⟨g,0,none⟩/\W.cell? ⟨g,k,none⟩=some (.int .i64 (xs.getD k 0))):=fun W hf k hk=>by
  have ho:=zaj hown (HF3.out.2.2.then hf) (fun _ _=>by simp);rcases ho.2 with⟨_,h0⟩|⟨g,cap',cur,hvv,hb,hg,_,_,_,ht⟩
  .omega
  cases hvv;refine⟨g,rfl,?_⟩;rw[crw hg];have h1:(cur.toList.take xs.length)[k]? = (tkC xs)[k]? :=by rw[Nat.mul_one]at ht;rw[ht]
  rw[List.getElem?_take_of_lt hk]at h1
  rw[<-Array.getElem?_toList,h1];simp[tkC,List.getD,hk]
 have hvc:xs.length<=vc:=by
  rcases hown4.2 with⟨hh,h0⟩|⟨g,cap',cur,hvv,hb,hg,hnc,_⟩
  .omega
  cases hvv;exact hnc
 have hlz:((xs.length:Int)==0)=false:=by rw[beq_eq_false_iff_ne];omega
 clear hv hlen hf HP hown hFw hJ hnew hown4 hR hz h0 hwf hf34 HF;rename_i hK;refine hK _ _ ?_;clear hK;simp only[List.zip_cons_cons,List.zip_nil_left,puts,Act.put,List.setIfInBounds_toArray,List.set_cons_succ,List.set_cons_zero];go_wp2_with fail
 go_loopw [7] (fun kk wr=>∃k:Nat,kk=.int .i64 (k:Int)/\k<=xs.length/\Hid (SS w3 p c2 T2 (fun _ _ _=>True) 2 (ApE 1 2) xs k (fun _=>True) wr)) (fun kk _=>xs.length-(RowKit.intOf kk).toNat)
 case atStart=>exact⟨0,rfl,Nat.zero_le _,HS⟩
 obtain⟨k,rfl,hk,HSk⟩:=hrel;clear HS;by_cases hkl:k<xs.length
 .obtain⟨g,rfl,hcell⟩:=HRow.out wr HSk.out.fr k hkl;have HSt:Hid (Calls ..):=HSk.out.step hkl (by omega);obtain⟨y,hy⟩:∃y,xs.getD k 0=y:=⟨_,rfl⟩;rw[hy]at hcell HSt
  clear HSk hy;go_wp2_with fail
  refine Calls.mono HSt.out ?_;rintro e w7⟨t0,kk,n,sh,ct,m,rfl,hs7⟩;have HS8:Hid (∀W,Fr [] w7 W->SS w3 p c2 T2 (fun _ _ _=>True) 2 (ApE 1 2) xs (k+1) (fun _=>True) W):=fun W hf=>(hs7.quiet hf).weak fun _ _=>trivial;clear hs7 HSt hcell;unfold evV;go_wp2_with fail
  go_roundw;case rel=>exact⟨k+1,by simp,by omega,HS8.out _ (Fr.alloc _ _ _)⟩
  case measure=>first|omega|(simp[RowKit.intOf];omega)
 have hkx:k=xs.length:=by omega
 subst hkx;have hcl:=HSk.out.close;have HHd:Hid (Calls ..):=hcl.held;have HQ:Hid (∀W,Fr [] wr W->SS w3 p c2 T2 (fun _ _ _=>True) 2 (ApE 1 2) xs xs.length (fun s=>True/\ApE 1 2 s/\0<=s.ma) W):=fun W hf=>hcl.quiet hf;have HFr:Hid (Fr [] w wr):=HF3.out.1.then HSk.out.fr;clear hcl HSk HRow;go_wp2_with fail
 refine Calls.mono HHd.out ?_;rintro e wa⟨⟨s9,ho,n9,hc9,hK9,rfl,hn9,ho9⟩,hfa⟩;obtain⟨_,⟨⟨l1,hl1⟩,⟨l2,hl2⟩,_⟩,_⟩:=hK9;have hh:zbo s9.ln c2.l.toNat=[1,2]:=by
  show zbo s9.ln 2=[1,2];simp[zbo,hl1,hl2,zcu]
 rw[hh]at hn9 ho9
 rw[zajs]at ho9
 obtain rfl:n9=2:=hn9;obtain⟨g9,cap9,hv9,hc92⟩:=Ap.own_form ho9 (by omega);cases hv9;have q0:wa.cell? ⟨g9,0,none⟩=some (.int .i64 1):=ho9.cells (g:=g9) rfl 0 _ rfl;have q1:wa.cell? ⟨g9,1,none⟩=some (.int .i64 2):=ho9.cells (g:=g9) rfl 1 _ rfl;obtain⟨sm,hsm,hJm,hMm⟩:=(HQ.out wa hfa).fin;have hm0:sm.ma=0:=by
  have h1:=hsm.2.2;have h2:sm.ma<((1:Nat):Int):=hJm.2.2.1;omega
 rw[hm0]at hMm
 have HMk:Hid (Calls ..):=hMm wa (Fr.refl _ _);have HFa:Hid (Fr [] w wa):=HFr.out.then hfa;clear hl1 hl2 hh ho9 hfa HHd HQ hsm hJm hMm hm0 HFr;go_wp2_with fail
 refine Calls.mono HMk.out ?_;rintro e wb⟨rfl,hfb⟩;have HFb:Hid (Fr [] w wb):=HFa.out.then hfb;clear hfb HMk HFa;go_wp2_with fail
 go_ret;exact⟨rfl,HFb.out⟩
end
end Go.Proofs.YtojjdnjfaelnfaaGreatDoor
