/- Contracts and lemmas. -/
import Derived.Test.YtaigdcmoecgabaaGreatGp44
import Derived.Test.YtaigdcmoecgabaaGreatGp46
set_option maxHeartbeats 8000000
set_option maxRecDepth 100000
set_option linter.unusedSimpArgs false
set_option linter.unusedVariables false
namespace Go.Proofs.YtaigdcmoecgabaaGreat.Ap
open Go.ChangeShapes Go.WideShapes Go.ChangeAt Go.RowKit Go.Lib Go.Maps Go.Proofs.Tryz
theorem zagd:prog.underlying 104=some (.slice 112):=by kernel_rfl
theorem zage:(prog.info? 112).map (fun i=>(i.zero,i.size,i.bytes))=some (some (.pointer none),1,8):=by kernel_rfl
theorem zagf:prog.underlying 105=some (.slice 229):=by kernel_rfl
theorem zagg:(prog.info? 229).map (fun i=>(i.zero,i.size,i.bytes))=some (some (.pointer none),1,8):=by kernel_rfl
def LaS(w0:World)(c:Cf)(Q:Ix->Part)(mb:Nat)(M:Array Value)(n:Nat)(w:World):Prop:=
 ∃la l cs so k xs,Rw w0 w c Q la n (fun _=>0) (fun _=>⟨0,0,0,none,fun _=>False,0⟩) 0 mb cs 10 112 (.slice so n k) n xs l/\(∀j,j≠10->cs[j]? = M[j]?)/\∀i,i<n->xs[i]? = some (.pointer (some ⟨la i,0,none⟩))
def OwS2(w0:World)(c:Cf)(Q:Ix->Part)(mb:Nat)(M:Array Value)(nl:Nat)(la:Nat->Nat)(lsB lk:Nat)(n:Nat)(w:World):Prop:=
 ∃ob oy l cs so k xs,Rw w0 w c Q la nl ob oy n mb cs 11 229 (.slice so n k) n xs l/\(∀j,j≠10->j≠11->cs[j]? = M[j]?)/\cs[10]? = some (.slice (some ⟨lsB,0,none⟩) nl lk)/\(∃cur,(lsB,Obj.cells cur 112 (0,0))∈l/\∀i,i<nl->cur[i]? = some (pv (la i)))/\(∀i,i<n->xs[i]? = some (.pointer (some ⟨ob i,0,none⟩)))/\∀j,(oy j).n=0
theorem Bd.past{w0 w:World}{c:Cf}{Q:Ix->Part}{la:Nat->Nat}{nl:Nat}{ob:Nat->Nat}{oy:Nat->Oy}{no:Nat}{l:List (Nat×Obj)}(h:Bd w0 w c Q la nl ob oy no l){c':Cf}{f:Nat}{Y:Ly}{v hw:Value}{rd fd:Nat}{hv:Bool}(hq:Q .fe=feP w0 c' f Y v hw rd fd hv){g:Nat}{o:Obj}(hg:(g,o)∈l):Y.B0<=g:=by
 apply Classical.byContradiction;intro hlt;have h1:(bQ w0 c Q la nl ob oy no l .fe).O w g:=by
  show (Q .fe).O w g;rw[hq];exact Or.inl ⟨h.ge hg,by omega⟩
 have h2:(bQ w0 c Q la nl ob oy no l .st).O w g:=⟨_,hg,rfl⟩;exact absurd (Mach.ap h .fe .st g h1 h2) (by simp)
theorem Rw.frame{w0 w w1 w':World}{c:Cf}{Q:Ix->Part}{la:Nat->Nat}{nl:Nat}{ob:Nat->Nat}{oy:Nat->Oy}{no mb:Nat}{cs:Array Value}{J:Nat}{e:TypeId}{v u:Value}{n g:Nat}{xs:List Value}{l:List (Nat×Obj)}(h:Rw w0 w c Q la nl ob oy no mb cs J e v n xs l){c':Cf}{f:Nat}{Y:Ly}{v' hw:Value}{rd fd:Nat}{hv:Bool}(hq:Q .fe=feP w0 c' f Y v' hw rd fd hv)(h1:w1.heap.size<=Y.B0)(hF:Fr [] w1 w){pb S:Nat}(hN:Dp.NilR w pb S)(he:e≠161)(hW:Went w v g w'):Fr [] w1 (w'.setCell ⟨mb,J,none⟩ u)/\Dp.NilR (w'.setCell ⟨mb,J,none⟩ u) pb S:=by
 have hrow:∀y∈v.ownBlock.toList,∃cur,(y,Obj.cells cur e (0,0))∈l:=by
  intro y hy;rcases h.row.2 with⟨h2,_⟩|⟨g',cap,cur,h2,h3,_⟩
  .rw[h2]at hy;simp[Value.ownBlock]at hy
  rw[h2]at hy
  simp[Value.ownBlock]at hy
  subst hy;exact⟨cur,h3⟩
 obtain⟨curN,n1,n2⟩:=hN;have hmb:=h.bd.past hq h.box;refine⟨(hF.on hW.fr (fun y hy=> ?_)).on (Fr.set _ _ _ (by simp):Fr [mb] _ _) (fun y hy=>by rw[List.mem_singleton.1 hy];omega),Dp.NilR.keep (Dp.NilR.keep ⟨curN,n1,n2⟩ hW.fr (fun hm=> ?_)) (Fr.set _ _ _ (by simp):Fr [mb] _ _) (fun hm=> ?_)⟩
 .obtain⟨cur,hc⟩:=hrow y hy;have:=h.bd.past hq hc;omega
 .obtain⟨cur,hc⟩:=hrow pb hm;exact ne_types n1 (h.bd.at hc) (fun e'=>he e'.symm) rfl
 exact ne_types n1 (h.bd.at h.box) (by decide) (List.mem_singleton.1 hm)
theorem zms{w0 w:World}{l s x q:Int}{g lb L:Nat}{ts:List Tm}{v:Value}{dk:Option Addr}(h:F.Src w0 w g lb L ts v [])(hok:okL 1 (txs ts))(hc:Cf.may ⟨l,s,x,q⟩)(h0:Fr [] w0 w) :
  Calls prog 86 #[.agg #[.int .i64 l,.int .i64 s,.int .i64 x,.int .i64 q],.pointer (some ⟨g,0,none⟩),.pointer dk,.agg #[.int .i64 0,.slice none 0 0,.slice none 0 0]] w fun e w'=>∃Z:Lay,e=.returned (.tuple #[.pointer (some ⟨Z.z.mb,0,none⟩),.int .i64 0])/\MaM w0 w' ⟨l,s,x,q⟩ (txs ts) Z ms0/\Z.nr=0:=by
 obtain⟨nl,rfl⟩:∃nl:Nat,l=(nl:Int):=⟨l.toNat,by have:=hc.1;simp only at this;omega⟩;obtain⟨S,rfl⟩:∃S:Nat,s=(S:Int):=⟨s.toNat,by have:=hc.2.1;simp only at this;omega⟩;obtain⟨⟨hl1,hl2⟩,⟨hs1,hs2⟩,_,⟨hq1,hq2⟩⟩:=id hc;simp only at hl1 hl2 hs1 hs2 hq1 hq2;obtain⟨w1,HW1⟩:∃w1,Hid ((w.alloc (.cells #[.int .i64 (nl:Int),.int .i64 (S:Int),.int .i64 x,.int .i64 q] 23)).alloc (.cells #[.int .i64 0,.slice none 0 0,.slice none 0 0] 163)=w1):=⟨_,rfl⟩;obtain⟨A,HAe⟩:∃A,Hid (w.heap.size=A):=⟨_,rfl⟩;have hF1:Fr [] w w1:=by rw[<-HW1.out];exact (Fr.alloc [] w _).then (Fr.alloc [] _ _)
 have e1:(w.alloc (.cells #[.int .i64 (nl:Int),.int .i64 (S:Int),.int .i64 x,.int .i64 q] 23)).heap.size=w.heap.size+1:=by simp
 have hC1:CfM w1 A (nl:Int) (S:Int) x q:=by rw[<-HW1.out,<-HAe.out];exact (CfM.new _ _ _ _ _ _).keep (Fr.alloc [] _ _)
 have hb1:w1.heap[A+1]? = some (.cells #[.int .i64 0,.slice none 0 0,.slice none 0 0] 163 (0,0)):=by rw[<-HW1.out,<-HAe.out,<-e1];exact heap_alloc_new _ _
 have HC1:Hid (∀W,Fr [] w1 W->CfM W A (nl:Int) (S:Int) x q):=fun W hf=>hC1.keep hf;have HBx:Hid (∀W,Fr [] w1 W->W.cell? ⟨A+1,0,none⟩=some (.int .i64 0)/\W.cell? ⟨A+1,1,none⟩=some (.slice none 0 0)/\W.cell? ⟨A+1,2,none⟩=some (.slice none 0 0)):=fun W hf=>by
  have hr:=hf.keep hb1 (by simp);exact⟨by rw[crw hr];rfl,by rw[crw hr];rfl,by rw[crw hr];rfl⟩
 have HF1:Hid (Fr [] w w1):=hF1;have hx1:=hc.2.2.1;simp only at hx1;have hnc:F.newC 0 [] x L=0:=by
  unfold F.newC;rw[if_neg,if_neg]
  .simp[F.grB]
  rintro (h1|h1|h1|h1)
  .omega
  .exact h1 ⟨fun j hj=>by simp at hj,fun h=>by simp at h⟩
  .omega
  omega
 have HFe:Hid (Calls ..):=F.fNew_ok 0 none 0 0 [] x (h.keep hF1) hok ⟨fun h=>absurd h (by simp),by simp⟩ rfl (by simp) ⟨by omega,by omega⟩ hnc;obtain⟨_,f0,f1,f2,f3⟩:=HC1.out _ (Fr.refl _ _);obtain⟨k0,k1,k2⟩:=HBx.out _ (Fr.refl _ _);have HH0:Hid (Fr [] w0 w):=h0;have HM:Hid (Cf.may ⟨(nl:Int),(S:Int),x,q⟩):=hc;obtain⟨hx1a,hx1b⟩:=hx1;clear h hok hc hF1 e1 hC1 hb1 hnc h0;go_enter func86,ntmps86;go_upto_region 1 with fail
 rw[HW1.out,HAe.out];clear HW1;go_wp2_with fail
 refine Calls.mono HFe.out ?_;rintro e w2⟨f,fmb,rfl,hFd,hF2⟩;have HF2:Hid (Fr [] w1 w2):=hF2;have HFM:Hid (FeM w0 w2 ⟨(nl:Int),(S:Int),x,q⟩ f ⟨g,lb,w2.heap.size,ts,fmb⟩ v (.slice none 0 0) 0 0 false):=zajf hFd;clear HFe hFd k0 k1 k2;go_upto_region 4 with fail
 refine Mk.reg4 (c:=⟨(nl:Int),(S:Int),x,q⟩) (dk:=dk) (f:=f) (b4:=A) rfl rfl rfl rfl (HC1.out _ hF2) ?_;intro w4 mb tb wb ab B hMd;clear hF2 f0 f1 f2 f3;obtain⟨Q1,HQ1⟩:∃Q1,Hid (setQ (setQ (fun _=>nilP) .re (reP w0 (txs ts) (fun _=>0) 0)) .fe (feP w0 ⟨(nl:Int),(S:Int),x,q⟩ f ⟨g,lb,w2.heap.size,ts,fmb⟩ v (.slice none 0 0) 0 0 false)=Q1):=⟨_,rfl⟩;have hB1:Bd w0 w2 ⟨(nl:Int),(S:Int),x,q⟩ Q1 (fun _=>0) 0 (fun _=>0) (fun _=>⟨0,0,0,none,fun _=>False,0⟩) 0 []:=by
  have a0:=Bd.none (w0:=w0) (w:=w0) (c:=⟨(nl:Int),(S:Int),x,q⟩) (fun _=>0) (fun _=>0) (fun _=>⟨0,0,0,none,fun _=>False,0⟩) (Fr.refl [] w0);have a1:=a0.part (Q':=setQ (fun _=>nilP) .re (reP w0 (txs ts) (fun _=>0) 0)) .re (by simp) (Fr.refl [] w0) (fun j hj=>zak _ _ hj) (by rw[zbf];exact zyj _ _ _ _) (by rw[zbf];exact fun n h1 h2=>by omega) (fun b hb=>by
   rw[zbf]at hb
   obtain⟨n,h1,h2,_⟩:=hb;omega)
  refine a1.part (Q':=Q1) .fe (by simp) (HH0.out.then (HF1.out.then HF2.out)) (fun j hj=>by rw[<-HQ1.out];exact zak _ _ hj) (by rw[<-HQ1.out,zbf];exact zqe _ _ _ _ _ _ _ _ _) (by rw[<-HQ1.out,zbf];exact HFM.out) (fun b hb=>by
   rw[<-HQ1.out,zbf]at hb
   rcases hb with hb|hb|hb
   .exact hb.1
   .exact HFM.out.m.src.rn b hb
   cases hb)
 have q1re:Q1 .re=reP w0 (txs ts) (fun _=>0) 0:=by rw[<-HQ1.out,zak _ _ (by simp),zbf]
 have q1fe:Q1 .fe=feP w0 ⟨(nl:Int),(S:Int),x,q⟩ f ⟨g,lb,w2.heap.size,ts,fmb⟩ v (.slice none 0 0) 0 0 false:=by rw[<-HQ1.out,zbf]
 clear HQ1;obtain⟨Q2,HQ2⟩:∃Q2,Hid (setQ (setQ Q1 .de (deP w0 tb B 0 [] (fun _=>False))) .wa (waP w0 wb 0 (txs ts) (fun _=>0) (fun _=>False))=Q2):=⟨_,rfl⟩;have q2de:Q2 .de=deP w0 tb B 0 [] (fun _=>False):=by rw[<-HQ2.out,zak _ _ (by simp),zbf]
 have q2wa:Q2 .wa=waP w0 wb 0 (txs ts) (fun _=>0) (fun _=>False):=by rw[<-HQ2.out,zbf]
 have q2re:Q2 .re=reP w0 (txs ts) (fun _=>0) 0:=by rw[<-HQ2.out,zak _ _ (by simp),zak _ _ (by simp),q1re]
 have q2fe:Q2 .fe=feP w0 ⟨(nl:Int),(S:Int),x,q⟩ f ⟨g,lb,w2.heap.size,ts,fmb⟩ v (.slice none 0 0) 0 0 false:=by rw[<-HQ2.out,zak _ _ (by simp),zak _ _ (by simp),q1fe]
 have z02:w0.heap.size<=w2.heap.size:=(HH0.out.then (HF1.out.then HF2.out)).size;have hwt:wtF (txs ts) (fun _=>0) (fun _=>False)=fun _=>none:=by funext n;simp[wtF]
 have HB2:Hid (Bd w0 w4 ⟨(nl:Int),(S:Int),x,q⟩ Q2 (fun _=>0) 0 (fun _=>0) (fun _=>⟨0,0,0,none,fun _=>False,0⟩) 0 [(mb,.cells (Mk.mcl ⟨(nl:Int),(S:Int),x,q⟩ dk f tb wb ab) 111 (0,0))]):=by
  refine hB1.start hMd.fr (fun j h1 h2=>by rw[<-HQ2.out,zak _ _ h2,zak _ _ h1]) ⟨by rw[q2de];exact zqf _ _ _ _ _ _,by rw[q2wa];exact zqh _ _ _ _ _ _⟩ ⟨by rw[q2de];exact⟨hMd.tl,fun b hb=>Nat.le_trans z02 (hMd.nB b hb)⟩,by rw[q2wa];exact⟨by rw[hwt];exact hMd.mp,Nat.le_trans z02 hMd.nw⟩⟩ ⟨fun b hb=>by rw[q2de]at hb;exact hMd.nB b hb,fun b hb=>by rw[q2wa]at hb;have e:b=wb:=hb;rw[e];exact hMd.nw⟩ hMd.box hMd.nm (fun b hb hb2=> ?_) (fun hb=> ?_) (fun hb=> ?_)
  .rw[q2de]at hb
   rw[q2wa]at hb2
   have e:b=wb:=hb2;exact hMd.a1 (e▸hb)
  .rw[q2de]at hb;exact hMd.a2 hb
  rw[q2wa]at hb;exact hMd.a3 hb
 have HF4:Hid (Fr [] w1 w4):=HF2.out.then hMd.fr;have HMb:Hid (w1.heap.size<=mb):=Nat.le_trans HF2.out.size hMd.nm;have hMv:=hMd.mv;clear hB1 hMd q1re q1fe HQ2 HFM hMv;simp only[Mk.prs,puts,Act.put];rename_i KK hKK;show KK _ _;refine hKK _ _ ?_;clear hKK;obtain⟨iL,hiL,hzL,hsL,hbL⟩:=zqx zage;obtain⟨iO,hiO,hzO,hsO,hbO⟩:=zqx zagg;obtain⟨_,f0,f1,f2,f3⟩:=HC1.out _ HF4.out;have HG5:Hid (Calls ..):=GT.gnew_any x w4 ⟨by omega,by omega⟩;go_wp2_with fail
 refine Calls.mono HG5.out ?_;rintro e w5⟨lr,rfl,hlr,hRg,hf5⟩;clear HG5 f0 f1 f2 f3;obtain⟨Q3,HQ3⟩:∃Q3,Hid (setQ Q2 .li (liP w0 lr none x.toNat (txs ts) (fun _=>0) [])=Q3):=⟨_,rfl⟩;have q3li:Q3 .li=liP w0 lr none x.toNat (txs ts) (fun _=>0) []:=by rw[<-HQ3.out,zbf]
 have q3de:Q3 .de=deP w0 tb B 0 [] (fun _=>False):=by rw[<-HQ3.out,zak _ _ (by simp),q2de]
 have q3wa:Q3 .wa=waP w0 wb 0 (txs ts) (fun _=>0) (fun _=>False):=by rw[<-HQ3.out,zak _ _ (by simp),q2wa]
 have q3re:Q3 .re=reP w0 (txs ts) (fun _=>0) 0:=by rw[<-HQ3.out,zak _ _ (by simp),q2re]
 have q3fe:Q3 .fe=feP w0 ⟨(nl:Int),(S:Int),x,q⟩ f ⟨g,lb,w2.heap.size,ts,fmb⟩ v (.slice none 0 0) 0 0 false:=by rw[<-HQ3.out,zak _ _ (by simp),q2fe]
 have z04:w0.heap.size<=w4.heap.size:=(HH0.out.then (HF1.out.then HF4.out)).size;have own1:∀(lr b:Nat),b∈GT.Rg.own lr none->b=lr:=fun lr b hb=>by simpa[GT.Rg.own]using hb
 have own2:∀(lr b:Nat),b∈GI.Rg.own lr none->b=lr:=fun lr b hb=>by simpa[GI.Rg.own]using hb
 have hB5:=HB2.out.part (Q':=Q3) .li (by simp) hf5 (fun j hj=>by rw[<-HQ3.out,zak _ _ hj]) (by rw[q3li];exact zqi _ _ _ _ _ _ _) (by rw[q3li];exact⟨hRg,fun b hb=>by rw[own1 lr b hb];omega⟩) (fun b hb=>by rw[q3li]at hb;rw[own1 lr b hb];exact hlr);have c8:w5.cell? ⟨mb,8,none⟩=some (.pointer none):=by rw[hB5.cell List.mem_cons_self];rfl
 have d8:w5.frozen? ⟨mb,8,none⟩=false:=hB5.free List.mem_cons_self 8;obtain⟨w6,HW6⟩:∃w6,Hid (w5.setCell ⟨mb,8,none⟩ (.pointer (some ⟨lr,0,none⟩))=w6):=⟨_,rfl⟩;obtain⟨M6,HM6⟩:∃M6,Hid ((Mk.mcl ⟨(nl:Int),(S:Int),x,q⟩ dk f tb wb ab).setIfInBounds 8 (.pointer (some ⟨lr,0,none⟩))=M6):=⟨_,rfl⟩;have hB6:=hB5.set List.mem_cons_self 8 (.pointer (some ⟨lr,0,none⟩));rw[HW6.out,HM6.out]at hB6
 have HB6:Hid (∃l6,Bd w0 w6 ⟨(nl:Int),(S:Int),x,q⟩ Q3 (fun _=>0) 0 (fun _=>0) (fun _=>⟨0,0,0,none,fun _=>False,0⟩) 0 l6/\(mb,Obj.cells M6 111 (0,0))∈l6):=⟨_,hB6,zei _ _ _⟩;have HF6:Hid (Fr [] w1 w6):=by
  rw[<-HW6.out];exact (HF4.out.then hf5).on (Fr.set _ _ _ (by simp):Fr [mb] _ _) (fun y hy=>by rw[List.mem_singleton.1 hy];exact HMb.out)
 have hm69:M6[9]? = some (.pointer none):=by rw[<-HM6.out];rfl
 clear HB2 q2de q2wa q2re q2fe HQ3 hB5 hB6 hlr hRg hf5 HF4 z04;obtain⟨_,f0,f1,f2,f3⟩:=HC1.out _ HF6.out;have HG6:Hid (Calls ..):=GI.gnew_any x w6 ⟨by omega,by omega⟩;go_upto_region 6 with fail
 rw[HW6.out];clear HW6 c8 d8;go_wp2_with fail
 refine Calls.mono HG6.out ?_;rintro e w7⟨pr,rfl,hpr,hRg,hf7⟩;clear HG6 f0 f1 f2 f3;obtain⟨Q4,HQ4⟩:∃Q4,Hid (setQ Q3 .pa (paP w0 pr none x.toNat [])=Q4):=⟨_,rfl⟩;have q4pa:Q4 .pa=paP w0 pr none x.toNat []:=by rw[<-HQ4.out,zbf]
 have q4li:Q4 .li=liP w0 lr none x.toNat (txs ts) (fun _=>0) []:=by rw[<-HQ4.out,zak _ _ (by simp),q3li]
 have q4de:Q4 .de=deP w0 tb B 0 [] (fun _=>False):=by rw[<-HQ4.out,zak _ _ (by simp),q3de]
 have q4wa:Q4 .wa=waP w0 wb 0 (txs ts) (fun _=>0) (fun _=>False):=by rw[<-HQ4.out,zak _ _ (by simp),q3wa]
 have q4re:Q4 .re=reP w0 (txs ts) (fun _=>0) 0:=by rw[<-HQ4.out,zak _ _ (by simp),q3re]
 have q4fe:Q4 .fe=feP w0 ⟨(nl:Int),(S:Int),x,q⟩ f ⟨g,lb,w2.heap.size,ts,fmb⟩ v (.slice none 0 0) 0 0 false:=by rw[<-HQ4.out,zak _ _ (by simp),q3fe]
 have z06:w0.heap.size<=w6.heap.size:=(HH0.out.then (HF1.out.then HF6.out)).size;obtain⟨l6,b6,m6⟩:=HB6.out;have hB7:=b6.part (Q':=Q4) .pa (by simp) hf7 (fun j hj=>by rw[<-HQ4.out,zak _ _ hj]) (by rw[q4pa];exact zqj _ _ _ _ _) (by rw[q4pa];exact⟨hRg,fun b hb=>by rw[own2 pr b hb];omega⟩) (fun b hb=>by rw[q4pa]at hb;rw[own2 pr b hb];exact hpr);have c9:w7.cell? ⟨mb,9,none⟩=some (.pointer none):=by rw[hB7.cell m6];exact hm69
 have d9:w7.frozen? ⟨mb,9,none⟩=false:=hB7.free m6 9;obtain⟨w8,HW8⟩:∃w8,Hid (w7.setCell ⟨mb,9,none⟩ (.pointer (some ⟨pr,0,none⟩))=w8):=⟨_,rfl⟩;obtain⟨M8,HM8⟩:∃M8,Hid (M6.setIfInBounds 9 (.pointer (some ⟨pr,0,none⟩))=M8):=⟨_,rfl⟩;have hB8:=hB7.set m6 9 (.pointer (some ⟨pr,0,none⟩));rw[HW8.out,HM8.out]at hB8
 have HB8:Hid (∃l8,Bd w0 w8 ⟨(nl:Int),(S:Int),x,q⟩ Q4 (fun _=>0) 0 (fun _=>0) (fun _=>⟨0,0,0,none,fun _=>False,0⟩) 0 l8/\(mb,Obj.cells M8 111 (0,0))∈l8):=⟨_,hB8,zei _ _ _⟩;have HF8:Hid (Fr [] w1 w8):=by
  rw[<-HW8.out];exact (HF6.out.then hf7).on (Fr.set _ _ _ (by simp):Fr [mb] _ _) (fun y hy=>by rw[List.mem_singleton.1 hy];exact HMb.out)
 have hm812:M8[12]? = some (.pointer none):=by rw[<-HM8.out,<-HM6.out];rfl
 clear HB6 q3de q3wa q3re q3fe q3li HQ4 hB7 hB8 hpr hRg hf7 HF6 z06 b6 m6 l6 hm69;obtain⟨k0,k1,k2⟩:=HBx.out _ HF8.out;have HG8:Hid (Calls ..):=zahy 0 none 0 0 [] w8 ⟨fun h=>absurd h (by simp),by simp⟩ rfl ⟨⟨Int.le_refl _,by omega,List.Pairwise.nil,fun x hx=>(by cases hx)⟩,fun h=>(by cases h)⟩;go_upto_region 7 with fail
 rw[HW8.out];clear HW8 c9 d9;go_wp2_with fail
 refine Calls.mono HG8.out ?_;rintro e w9⟨gb,rfl,hgb,hGG,hf9⟩;clear HG8 k0 k1 k2;obtain⟨Q5,HQ5⟩:∃Q5,Hid (setQ Q4 .ga (gaP w0 gb 0 [])=Q5):=⟨_,rfl⟩;have q5ga:Q5 .ga=gaP w0 gb 0 []:=by rw[<-HQ5.out,zbf]
 have q5pa:Q5 .pa=paP w0 pr none x.toNat []:=by rw[<-HQ5.out,zak _ _ (by simp),q4pa]
 have q5li:Q5 .li=liP w0 lr none x.toNat (txs ts) (fun _=>0) []:=by rw[<-HQ5.out,zak _ _ (by simp),q4li]
 have q5de:Q5 .de=deP w0 tb B 0 [] (fun _=>False):=by rw[<-HQ5.out,zak _ _ (by simp),q4de]
 have q5wa:Q5 .wa=waP w0 wb 0 (txs ts) (fun _=>0) (fun _=>False):=by rw[<-HQ5.out,zak _ _ (by simp),q4wa]
 have q5re:Q5 .re=reP w0 (txs ts) (fun _=>0) 0:=by rw[<-HQ5.out,zak _ _ (by simp),q4re]
 have q5fe:Q5 .fe=feP w0 ⟨(nl:Int),(S:Int),x,q⟩ f ⟨g,lb,w2.heap.size,ts,fmb⟩ v (.slice none 0 0) 0 0 false:=by rw[<-HQ5.out,zak _ _ (by simp),q4fe]
 have z08:w0.heap.size<=w8.heap.size:=(HH0.out.then (HF1.out.then HF8.out)).size;obtain⟨l8,b8,m8⟩:=HB8.out;have hB9:=b8.part (Q':=Q5) .ga (by simp) hf9 (fun j hj=>by rw[<-HQ5.out,zak _ _ hj]) (by rw[q5ga];exact zqg _ _ _ _) (by rw[q5ga];exact⟨hGG,by omega⟩) (fun b hb=>by rw[q5ga]at hb;have e:b=gb:=hb;rw[e];exact hgb);have c12:w9.cell? ⟨mb,12,none⟩=some (.pointer none):=by rw[hB9.cell m8];exact hm812
 have d12:w9.frozen? ⟨mb,12,none⟩=false:=hB9.free m8 12;obtain⟨wA,HWA⟩:∃wA,Hid (w9.setCell ⟨mb,12,none⟩ (.pointer (some ⟨gb,0,none⟩))=wA):=⟨_,rfl⟩;obtain⟨MA,HMA⟩:∃MA,Hid (M8.setIfInBounds 12 (.pointer (some ⟨gb,0,none⟩))=MA):=⟨_,rfl⟩;have hBA:=hB9.set m8 12 (.pointer (some ⟨gb,0,none⟩));rw[HWA.out,HMA.out]at hBA
 have HBA:Hid (∃lA,Bd w0 wA ⟨(nl:Int),(S:Int),x,q⟩ Q5 (fun _=>0) 0 (fun _=>0) (fun _=>⟨0,0,0,none,fun _=>False,0⟩) 0 lA/\(mb,Obj.cells MA 111 (0,0))∈lA):=⟨_,hBA,zei _ _ _⟩;have HFA:Hid (Fr [] w1 wA):=by
  rw[<-HWA.out];exact (HF8.out.then hf9).on (Fr.set _ _ _ (by simp):Fr [mb] _ _) (fun y hy=>by rw[List.mem_singleton.1 hy];exact HMb.out)
 have HMA2:Hid (MA=mcl2 ⟨(nl:Int),(S:Int),x,q⟩ dk f tb wb ab lr pr gb (.slice none 0 0) (.slice none 0 0) (.slice none 0 0)):=by
  rw[<-HMA.out,<-HM8.out,<-HM6.out];exact zagb _ _ _ _ _ _ _ _ _
 clear HB8 q4de q4wa q4re q4fe q4li q4pa HQ5 hB9 hBA hgb hGG hf9 HF8 z08 b8 m8 l8 hm812 HM6 HM8 HMA;obtain⟨_,f0,f1,f2,f3⟩:=HC1.out _ HFA.out;obtain⟨k0,k1,k2⟩:=HBx.out _ HFA.out;have HGA:Hid (Calls ..):=Dp.split_nil (nl:Int) (S:Int) x q HM.out wA;go_upto_region 8 with fail
 rw[HWA.out];clear HWA c12 d12;go_wp2_with fail
 refine Calls.mono HGA.out ?_;rintro e wB⟨pb,rfl,hNil,hpb,hfB⟩;clear HGA k0 k1 k2 f0 f1 f2 f3;simp only[Int.toNat_natCast]at hNil;have HFB:Hid (Fr [] w1 wB/\Dp.NilR wB pb S):=⟨HFA.out.then hfB,hNil⟩;have HLa0:Hid (LaS w0 ⟨(nl:Int),(S:Int),x,q⟩ Q5 mb MA 0 wB):=by
  obtain⟨lA,bA,mA⟩:=HBA.out;exact⟨fun _=>0,lA,MA,none,0,[],⟨bA.quiet hfB,mA,by rw[HMA2.out];rfl,by rw[HMA2.out];rfl,RowL.nil _ _⟩,fun j _=>rfl,fun i hi=>absurd hi (by omega)⟩
 have HZ:Hid (w1.heap.size<=w2.heap.size):=HF2.out.size;clear hNil hfB hpb HBA HFA HF2;obtain⟨_,f0,f1,f2,f3⟩:=HC1.out _ HFB.out.1;go_wp2_with fail
 go_loopw [81] (fun ii wr=>∃(i:Nat),ii=.int .i64 i/\i<=nl/\Hid (LaS w0 ⟨(nl:Int),(S:Int),x,q⟩ Q5 mb MA i wr)/\Hid (Fr [] w1 wr/\Dp.NilR wr pb S)) (fun ii _=>nl-(RowKit.intOf ii).toNat)
 case atStart=>exact⟨0,rfl,Nat.zero_le _,HLa0,HFB⟩
 obtain⟨i,rfl,hin,HLa,HFr⟩:=hrel;by_cases hi:i<nl
 .have hlt:(i:Int)<nl:=by omega
  obtain⟨la,l1,cs,so,k,xs,hR,hcs,hxs⟩:=HLa.out;obtain⟨_,f0,f1,f2,f3⟩:=HC1.out _ HFr.out.1;have hE:newE ⟨(nl:Int),(S:Int),x,q⟩ ((i:Int)+1)=0:=by
   unfold newE;rw[if_neg (by simpa using HM.out),if_pos ⟨by omega,by show (i:Int)+1<=nl;omega⟩]
  have HLn:Hid (Calls prog 137 #[.int .i64 ((i:Int)+1),.agg #[.int .i64 (nl:Int),.int .i64 (S:Int),.int .i64 x,.int .i64 q]] wr fun e w'=>∃lb,e=.returned (.tuple #[.pointer (some ⟨lb,0,none⟩),.int .i64 0])/\w'.cell? ⟨mb,10,none⟩=some (.slice so i k)/\Hid (Rw w0 w' ⟨(nl:Int),(S:Int),x,q⟩ Q5 (upd la i lb) (i+1) (fun _=>0) (fun _=>⟨0,0,0,none,fun _=>False,0⟩) 0 mb cs 10 112 (.slice so i k) i xs l1/\Fr [] w1 w'/\Dp.NilR w' pb S)):=by
   refine Calls.mono (zabb hE wr) ?_;rintro e w'⟨lb',rfl,hlb,hL,hf⟩;have hR':Rw w0 w' ⟨(nl:Int),(S:Int),x,q⟩ Q5 (upd la i lb') (i+1) (fun _=>0) (fun _=>⟨0,0,0,none,fun _=>False,0⟩) 0 mb cs 10 112 (.slice so i k) i xs l1:=⟨hR.bd.lane hf hL hlb,hR.box,hR.sz,hR.atJ,hR.row⟩;exact⟨lb',rfl,hR'.cJ,hR',HFr.out.1.then hf,HFr.out.2.keep hf (by simp)⟩
  have HCs:Hid ((∀j,j≠10->cs[j]? = MA[j]?)/\(∀t,t<i->xs[t]? = some (.pointer (some ⟨la t,0,none⟩)))/\xs.length=i):=⟨hcs,hxs,hR.row.1⟩;clear hR hcs hxs hE HLa HFr;go_wp2_with fail
  refine Calls.mono HLn.out ?_;rintro e wC⟨lb',rfl,c10,HRC⟩;have HX:Hid ((wC.alloc (.cells #[.pointer (some ⟨lb',0,none⟩)] 112)).ownsRow 0 112 1 (.slice so i k) i xs):=by
   have h2:=HRC.out.1.quiet (Fr.alloc [] wC (.cells #[.pointer (some ⟨lb',0,none⟩)] 112));exact h2.row.own h2.bd.ls
  have HA:Hid (∀g cap w',w'.ownsRow 0 112 1 (.slice (some ⟨g,0,none⟩) (i+1) cap) (i+1) (xs++[.pointer (some ⟨lb',0,none⟩)])->Went (wC.alloc (.cells #[.pointer (some ⟨lb',0,none⟩)] 112)) (.slice so i k) g w' ->
    w'.cell? ⟨mb,10,none⟩=some (.slice so i k)/\w'.frozen? ⟨mb,10,none⟩=false/\Hid (LaS w0 ⟨(nl:Int),(S:Int),x,q⟩ Q5 mb MA (i+1) (w'.setCell ⟨mb,10,none⟩ (.slice (some ⟨g,0,none⟩) (i+1) cap)))/\Hid (Fr [] w1 (w'.setCell ⟨mb,10,none⟩ (.slice (some ⟨g,0,none⟩) (i+1) cap))/\Dp.NilR (w'.setCell ⟨mb,10,none⟩ (.slice (some ⟨g,0,none⟩) (i+1) cap)) pb S)):=fun g cap w' hO hW=>by
   have hfa:=Fr.alloc [] wC (.cells #[.pointer (some ⟨lb',0,none⟩)] 112);obtain⟨r1,r2,r3⟩:=HRC.out.1.step (by decide) (by decide) (u:=.pointer (some ⟨lb',0,none⟩)) _ g cap w' hfa hO hW;have hfr:=(HRC.out.1.quiet hfa).frame (u:=.slice (some ⟨g,0,none⟩) (i+1) cap) q5fe HZ.out (HRC.out.2.1.then hfa) (HRC.out.2.2.keep hfa (by simp)) (by decide) hW;refine⟨r1,r2,?_,hfr⟩;obtain⟨l',cs',p1,p2,p3⟩:=r3.out;refine⟨_,l',cs',_,_,_,p1,fun j hj=>(p2 j hj).trans (HCs.out.1 j hj),fun t ht=> ?_⟩;by_cases e:t=i
   .subst e;rw[List.getElem?_append_right (by rw[HCs.out.2.2];exact Nat.le_refl _),HCs.out.2.2,Nat.sub_self,zad];rfl
   rw[List.getElem?_append_left (by rw[HCs.out.2.2];omega),zac _ _ e];exact HCs.out.2.1 t (by omega)
  have ca:(wC.alloc (.cells #[.pointer (some ⟨lb',0,none⟩)] 112)).heap[wC.heap.size]? = some (.cells #[.pointer (some ⟨lb',0,none⟩)] 112 (0,0)):=heap_alloc_new _ _;have HCA:Hid (∀j u,[Value.pointer (some ⟨lb',0,none⟩)][j]? = some u->(wC.alloc (.cells #[.pointer (some ⟨lb',0,none⟩)] 112)).cell? ((⟨wC.heap.size,0,none⟩:Addr).add j)=some u):=zek ca;have hn2:i<=50:=by omega
  clear HLn HCs ca f0 f1 f2 f3;go_wp2_with (first
   |(at_builtin;refine wpList_app _ rfl (.tmp 95) (.tmp 97) 104 rfl 112 iL (.pointer none) 1 8 zagd hiL hzL hsL hbL rfl (by decide) (.slice so i k) i xs (by rfl) HX.out ⟨wC.heap.size,0,none⟩ 1 [.pointer (some ⟨lb',0,none⟩)] (by rfl) rfl HCA.out (zto _) (by omega) (by unfold maxLen;omega) ?_;intro gg cap w4' hO hW;obtain⟨e10,ef,HP,HP2⟩:=HA.out gg cap w4' hO hW)
   |fail)
  go_roundw;case rel=>exact⟨i+1,by simp,by omega,HP,HP2⟩
  case measure=>simp[RowKit.intOf];omega
 have hil:i=nl:=by omega
 have hlt:¬(i:Int)<nl:=by omega
 rw[hil]at HLa
 obtain⟨la,l1,cs,so,k,xs,hR,hcs,hxs⟩:=HLa.out;obtain⟨lsB,lk,curL,e1,e2,e3,e4⟩:=hR.row.cells (by omega);have hso:so=some ⟨lsB,0,none⟩/\k=lk:=by
  simp only[Value.slice.injEq]at e1;exact⟨e1.1,e1.2.2⟩
 obtain⟨rfl,rfl⟩:=hso;have HOw0:Hid (OwS2 w0 ⟨(nl:Int),(S:Int),x,q⟩ Q5 mb MA nl la lsB k 0 wr):=by
  refine⟨fun _=>0,fun _=>⟨0,0,0,none,fun _=>False,0⟩,l1,cs,none,0,[],⟨hR.bd,hR.box,hR.sz,?_,RowL.nil _ _⟩,fun j h10 _=>hcs j h10,hR.atJ,⟨curL,e2,fun t ht=> ?_⟩,fun t ht=>absurd ht (by omega),fun _=>rfl⟩
  .rw[hcs 11 (by decide),HMA2.out];rfl
  rw[e4 t ht];exact hxs t ht
 have HCap:Hid (nl<=k):=e3;clear hR hcs hxs e1 e2 e3 e4 HLa HLa0 hil hi hin HFB;obtain⟨wE,hwE⟩:∃wE,wE=wr:=⟨_,rfl⟩;subst hwE;go_wp2_with fail
 go_loopw [104] (fun jj wr=>∃(j:Nat),jj=.int .i64 j/\j<=S/\Hid (OwS2 w0 ⟨(nl:Int),(S:Int),x,q⟩ Q5 mb MA nl la lsB k j wr)/\Hid (Fr [] w1 wr/\Dp.NilR wr pb S)) (fun jj _=>S-(RowKit.intOf jj).toNat)
 case atStart=>exact⟨0,rfl,Nat.zero_le _,HOw0,HFr⟩
 obtain⟨j,rfl,hjn,HOw,HGr⟩:=hrel;by_cases hj:j<S
 .have hlj:(j:Int)<S:=by omega
  obtain⟨ob,oy,l2,cs,oo,ko,xs,hR,hcs,h10,hlr,hxs,hoy⟩:=HOw.out;obtain⟨_,f0,f1,f2,f3⟩:=HC1.out _ HGr.out.1;have cp:=HGr.out.2.cell hj;have HOn:Hid (Calls prog 138 #[.int .i64 (j:Int),.int .i64 q,.slice none 0 0] wr fun e w'=>∃ok',e=.returned (.tuple #[.pointer (some ⟨ok',0,none⟩),.int .i64 0])/\w'.cell? ⟨mb,11,none⟩=some (.slice oo j ko)/\Hid (∃sb b g',Rw w0 w' ⟨(nl:Int),(S:Int),x,q⟩ Q5 la nl (upd ob j ok') (upd oy j ⟨sb,b,g',none,fun _=>False,0⟩) (j+1) mb cs 11 229 (.slice oo j ko) j xs l2/\Fr [] w1 w'/\Dp.NilR w' pb S)):=by
   refine Calls.mono (O.onew_any (j:Int) q none 0 0 [] wr ⟨by omega,by omega,hq1,hq2⟩ ⟨fun h=>absurd h (by simp),by simp,by simp⟩ rfl) ?_;rintro e w' (⟨hno,_⟩|⟨_,ok',sb,b,g',rfl,hO⟩)
   .exact absurd (⟨List.Pairwise.nil,by simp⟩:O.LoOk []) hno
   rw[O.mOf_nil]at hO
   have hB:=hR.bd.owner hO;have hR':Rw w0 w' ⟨(nl:Int),(S:Int),x,q⟩ Q5 la nl (upd ob j ok') (upd oy j ⟨sb,b,g',none,fun _=>False,0⟩) (j+1) mb cs 11 229 (.slice oo j ko) j xs l2:=⟨hB,hR.box,hR.sz,hR.atJ,hR.row⟩;exact⟨ok',rfl,hR'.cJ,sb,b,g',hR',HGr.out.1.then hO.fr,HGr.out.2.keep hO.fr (by simp)⟩
  have HCs:Hid ((∀t,t≠10->t≠11->cs[t]? = MA[t]?)/\cs[10]? = some (.slice (some ⟨lsB,0,none⟩) nl k)/\(∃cur,(lsB,Obj.cells cur 112 (0,0))∈l2/\∀t,t<nl->cur[t]? = some (pv (la t)))/\(∀t,t<j->xs[t]? = some (.pointer (some ⟨ob t,0,none⟩)))/\xs.length=j/\∀t,(oy t).n=0):=⟨hcs,h10,hlr,hxs,hR.row.1,hoy⟩;clear hR hcs h10 hlr hxs hoy HOw HGr;go_wp2_with fail
  refine Calls.mono HOn.out ?_;rintro e wC⟨ok',rfl,c11,HRC⟩;obtain⟨sb,b,g',hRC,hFC,hNC⟩:=HRC.out;have HX:Hid ((wC.alloc (.cells #[.pointer (some ⟨ok',0,none⟩)] 229)).ownsRow 0 229 1 (.slice oo j ko) j xs):=by
   have h2:=hRC.quiet (Fr.alloc [] wC (.cells #[.pointer (some ⟨ok',0,none⟩)] 229));exact h2.row.own h2.bd.ls
  have HA:Hid (∀g cap w',w'.ownsRow 0 229 1 (.slice (some ⟨g,0,none⟩) (j+1) cap) (j+1) (xs++[.pointer (some ⟨ok',0,none⟩)])->Went (wC.alloc (.cells #[.pointer (some ⟨ok',0,none⟩)] 229)) (.slice oo j ko) g w' ->
    w'.cell? ⟨mb,11,none⟩=some (.slice oo j ko)/\w'.frozen? ⟨mb,11,none⟩=false/\Hid (OwS2 w0 ⟨(nl:Int),(S:Int),x,q⟩ Q5 mb MA nl la lsB k (j+1) (w'.setCell ⟨mb,11,none⟩ (.slice (some ⟨g,0,none⟩) (j+1) cap)))/\Hid (Fr [] w1 (w'.setCell ⟨mb,11,none⟩ (.slice (some ⟨g,0,none⟩) (j+1) cap))/\Dp.NilR (w'.setCell ⟨mb,11,none⟩ (.slice (some ⟨g,0,none⟩) (j+1) cap)) pb S)):=fun g cap w' hO hW=>by
   have hfa:=Fr.alloc [] wC (.cells #[.pointer (some ⟨ok',0,none⟩)] 229);obtain⟨r1,r2,r3⟩:=hRC.step (by decide) (by decide) (u:=.pointer (some ⟨ok',0,none⟩)) _ g cap w' hfa hO hW;have hfr:=(hRC.quiet hfa).frame (u:=.slice (some ⟨g,0,none⟩) (j+1) cap) q5fe HZ.out (hFC.then hfa) (hNC.keep hfa (by simp)) (by decide) hW;refine⟨r1,r2,?_,hfr⟩;obtain⟨l',cs',p1,p2,p3⟩:=r3.out;obtain⟨cur,n1,n2⟩:=HCs.out.2.2.1;refine⟨_,_,l',cs',_,_,_,p1,fun t h10 h11=>(p2 t h11).trans (HCs.out.1 t h10 h11),(p2 10 (by decide)).trans HCs.out.2.1,⟨cur,p3 _ _ _ (by decide) (by decide) n1,n2⟩,fun t ht=> ?_,fun t=> ?_⟩
   .by_cases e:t=j
    .subst e;rw[List.getElem?_append_right (by rw[HCs.out.2.2.2.2.1];exact Nat.le_refl _),HCs.out.2.2.2.2.1,Nat.sub_self,zad];rfl
    rw[List.getElem?_append_left (by rw[HCs.out.2.2.2.2.1];omega),zac _ _ e];exact HCs.out.2.2.2.1 t (by omega)
   by_cases e:t=j
   .rw[e,zad]
   rw[zac _ _ e];exact HCs.out.2.2.2.2.2 t
  have ca:(wC.alloc (.cells #[.pointer (some ⟨ok',0,none⟩)] 229)).heap[wC.heap.size]? = some (.cells #[.pointer (some ⟨ok',0,none⟩)] 229 (0,0)):=heap_alloc_new _ _;have HCA:Hid (∀t u,[Value.pointer (some ⟨ok',0,none⟩)][t]? = some u->(wC.alloc (.cells #[.pointer (some ⟨ok',0,none⟩)] 229)).cell? ((⟨wC.heap.size,0,none⟩:Addr).add t)=some u):=zek ca;have hn2:j<=50:=by omega
  clear HOn HCs HRC ca f0 f1 f2 f3 cp hRC hFC hNC;go_wp2_with (first
   |(at_builtin;refine wpList_app _ rfl (.tmp 121) (.tmp 123) 105 rfl 229 iO (.pointer none) 1 8 zagf hiO hzO hsO hbO rfl (by decide) (.slice oo j ko) j xs (by rfl) HX.out ⟨wC.heap.size,0,none⟩ 1 [.pointer (some ⟨ok',0,none⟩)] (by rfl) rfl HCA.out (zto _) (by omega) (by unfold maxLen;omega) ?_;intro gg cap w4' hO hW;obtain⟨e11,ef,HP,HP2⟩:=HA.out gg cap w4' hO hW)
   |fail)
  go_roundw;case rel=>exact⟨j+1,by simp,by omega,HP,HP2⟩
  case measure=>simp[RowKit.intOf];omega
 have hjl:j=S:=by omega
 have hlj:¬(j:Int)<S:=by omega
 rw[hjl]at HOw
 obtain⟨ob,oy,l2,cs,oo,ko,xs,hR,hcs,h10,⟨curL,hl1,hl2'⟩,hxs,hoy⟩:=HOw.out;obtain⟨osB,ok,curO,e1,e2,e3,e4⟩:=hR.row.cells (by omega);have hoo:oo=some ⟨osB,0,none⟩/\ko=ok:=by
  simp only[Value.slice.injEq]at e1;exact⟨e1.1,e1.2.2⟩
 obtain⟨rfl,rfl⟩:=hoo;have hcs2:cs=mcl2 ⟨(nl:Int),(S:Int),x,q⟩ dk f tb wb ab lr pr gb (.slice (some ⟨lsB,0,none⟩) nl k) (.slice (some ⟨osB,0,none⟩) S ko) (.slice none 0 0):=by
  refine zrb hR.sz h10 hR.atJ ?_ fun t t1 t2 t3=> ?_
  .rw[hcs 13 (by decide) (by decide),HMA2.out];rfl
  rw[hcs t t1 t2,HMA2.out]
 have HSA:Hid (Calls prog 139 #[.pointer (some ⟨mb,0,none⟩)] wr fun e w'=>(∃v,e=.returned v)/\Hid (∃Z:Lay,Z.z.mb=mb/\MaM w0 w' ⟨(nl:Int),(S:Int),x,q⟩ (txs ts) Z ms0/\Z.nr=0)):=by
  refine Calls.mono (zso (lsB:=lsB) (osB:=osB) (cs0:=cs) hR.bd hR.box hR.sz (by rw[hcs2];rfl) h10 hR.atJ hl1 hl2' e2 (fun t ht=>by rw[e4 t ht];exact hxs t ht) (by omega) (by omega)) ?_;rintro e w'⟨he,hSE⟩;exact⟨he,zacb (c:=⟨(nl:Int),(S:Int),x,q⟩) (Y:=⟨g,lb,w2.heap.size,ts,fmb⟩) HM.out hSE hcs2 HCap.out e3 hoy rfl q5fe q5de q5ga q5wa q5li q5pa q5re⟩
 clear hR hcs h10 hl1 hl2' hxs hoy e1 e2 e3 e4 hcs2 HOw HOw0 HGr HFr hj hjl hjn HCap curL curO;go_wp2_with fail
 refine Calls.mono HSA.out ?_;rintro e wF⟨⟨_,rfl⟩,HZf⟩;clear HSA;go_wp2;go_ret2;obtain⟨Z,z1,z2,z3⟩:=HZf.out;exact⟨Z,by rw[z1];rfl,z2,z3⟩
end Go.Proofs.YtaigdcmoecgabaaGreat.Ap
