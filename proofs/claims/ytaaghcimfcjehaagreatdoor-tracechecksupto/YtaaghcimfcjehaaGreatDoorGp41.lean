/- Contracts and plain lemmas of this claim. -/
import Derived.Test.YtaaghcimfcjehaaGreatDoorGp35
import Derived.Test.YtaaghcimfcjehaaGreatDoorGp14
import Derived.Test.YtaaghcimfcjehaaGreatDoorGp33
set_option linter.unusedSimpArgs false
set_option linter.unusedVariables false
namespace Go.Proofs.YtaaghcimfcjehaaGreatDoor
open Go.ChangeShapes Go.WideShapes Go.ChangeAt Go.RowKit Go.Lib Go.Maps
section
variable {wS w:World} {Z:Zd} {c:Cf} {ts:List Tm} {xs:List Int} {d:Ds}
set_option maxHeartbeats 8000000 in
set_option maxRecDepth 100000 in
theorem zsl (h:DsM wS w Z c ts xs d) (e:Ev) (het:e.t<0) (hcl:d.cal.length<=1099511627776) (hnd:(d.cal.map (fun x:Dc=>x.n)).Nodup) (j:Nat) (x:Dc) (hjx:d.cal[j]? = some x) (hxn:x.n=e.t) (hen:x.ended=false) (h10:e.k=10) (K:Nat) (hK:e.s=(K:Int)) (hKs:K<c.s.toNat) (hrm:((d.que K).length:Int)<c.q) (hqlK:(d.que K).length<=1099511627776) (hask:x.asked<1099511627776) :
  Calls Tryz.prog 82 #[.pointer (some ⟨Z.sb,0,none⟩),.agg #[.int .i64 e.t,.int .u8 e.k,.int .i64 e.n,.int .i64 e.s,.int .i64 e.c,.int .i64 e.m]] w (DstP wS w Z c ts xs (calD c d e)):=by
 obtain⟨w0,rb,eb,wb,HW0,HRB,HEB,HWB,hm,HFin,HBox⟩:=h.boxed3 e
 obtain⟨hj,hjx2⟩:=List.getElem?_eq_some_iff.1 hjx
 have hjn:d.cal[j].n=e.t:=by rw[hjx2];exact hxn
 have HO:Hid (calD c d e=((⟨10,e.t,e.s,0⟩,true),{ d with que:=upd d.que K (d.que K++[(e.t,e.t)]),cal:=d.cal.map (askC e.t) })):=by
  show calD c d e=_
  unfold calD
  rw[zby hnd hj hjn,hjx2]
  simp only
  rw[if_neg (by rw[hen];decide),if_pos h10,if_pos ⟨by omega,by omega,by rw[hK,Int.toNat_natCast];exact hrm⟩,hK,Int.toNat_natCast]
 obtain⟨b,off,hlo⟩:=hm.calRow.2.2 (by omega)
 have hblt0:b<w.heap.size:=(h.pm 7).lt b (by simp[Zd.part,hlo,qb])
 have hb1:b≠rb:=by have:=HRB.out;omega
 have hb2:rb≠b:=fun q=>hb1 q.symm
 have hb3:b≠wb:=by have:=HWB.out;omega
 have hb4:wb≠b:=fun q=>hb3 q.symm
 have HCj:Hid (∀W,Fr [] w0 W->(W.cell? ⟨b,off+j*4+1,none⟩=some (.int .i64 (x.asked:Int))/\W.cell? ⟨b,off+j*4+2,none⟩=some (.int .i64 (x.served:Int))/\W.cell? ⟨b,off+j*4+3,none⟩=some (.bool x.ended))/\W.heap[rb]? = some (.cells (evA 0 0 0 0 0 0) 62 (0,0))/\W.heap[eb]? = some (.cells (evA e.t e.k e.n e.s e.c e.m) 62 (0,0))/\W.heap[wb]? = some (.cells (evA 0 e.k e.t 0 0 0) 62 (0,0))):=by
  intro W hW
  have D:=hm.dr.quiet hW
  obtain⟨_,c1,c2,c3⟩:=D.m.calCell hlo hj
  rw[hjx2]at c1 c2 c3
  exact⟨⟨c1,c2,c3⟩,HBox.out _ _ _ D⟩
 have HCf:Hid (∀W,Fr [] w0 W->W.cell? ⟨Z.sb,1,none⟩=some (.int .i64 c.s)/\W.cell? ⟨Z.sb,3,none⟩=some (.int .i64 c.q)/\W.cell? ⟨Z.sb,13,none⟩=some (.slice (some ⟨Z.qq,0,none⟩) c.s.toNat c.s.toNat)):=fun W hW=>by
  have D:=hm.dr.quiet hW
  exact⟨D.m.cell rfl,D.m.cell rfl,D.m.cell rfl⟩
 have hQl:(Z.q K).n=(d.que K).length:=(show QW w0 _ _ _ _ from hm.pm (K+8)).len
 have HQc:Hid (∀W,Fr [] w0 W->W.cell? ⟨Z.qq,K,none⟩=some (.slice (Z.q K).lo (d.que K).length (Z.q K).c)/\QW W (Z.q K).lo (d.que K).length (Z.q K).c (d.que K)):=fun W hW=>by
  have D:=hm.dr.quiet hW
  have hQ:QW W (Z.q K).lo (Z.q K).n (Z.q K).c (d.que K):=D.m.pm (K+8)
  rw[<-hQl]
  exact⟨(D.m.queCell hKs).1,hQ⟩
 have HBl:Hid (∀W,Fr [] w0 W->(eb<W.heap.size/\eb∉(qb (Z.q K).lo).toList)/\(Z.qq<W.heap.size/\Z.qq∉(qb (Z.q K).lo).toList)/\(Z.sb<W.heap.size/\Z.sb∉(qb (Z.q K).lo).toList)/\ ∀W',Fr (qb (Z.q K).lo).toList W W'->W'.frozen? ⟨Z.qq,K,none⟩=false):=by
  intro W hW
  have D:=hm.dr.quiet hW
  obtain⟨cq,cq1,cq2,cq3⟩:=D.m.pm 3
  obtain⟨_,hE2,_⟩:=HBox.out _ _ _ D
  have hqn:Z.qq∉(qb (Z.q K).lo).toList:=fun hb=>by have:=D.m.ap (K+8) 3 Z.qq hb (by simp[Zd.part]);omega
  refine⟨⟨lt_of_block hE2,fun hb=> ?_⟩,⟨lt_of_block cq1,hqn⟩,⟨lt_of_block D.m.box,fun hb=> ?_⟩,fun W' hW'=> ?_⟩
  ·have h1:w.heap.size=eb:=HEB.out
   have:=(h.pm (K+8)).lt eb hb
   omega
  ·have:=D.m.ap (K+8) 0 Z.sb hb (by simp[Zd.part]);omega
  ·have:=hW'.keep cq1 hqn
   simp[World.frozen?,this]
 have HG:Hid (∀W W1 lo' c' w',Fr [] w0 W->Fr [] W W1->QW w' lo' ((d.que K).length+1) c' (d.que K++[(e.t,e.t)])->Fr (qb (Z.q K).lo).toList W1 w'->(qb lo'=qb (Z.q K).lo\/ ∃k,qb lo'=some k/\W1.heap.size<=k)-> ∃W4,w'.setCell ⟨Z.qq,K,none⟩ (.slice lo' ((d.que K).length+1) c')=W4/\W4.cell? ⟨b,off+j*4+1,none⟩=some (.int .i64 (x.asked:Int))/\W4.frozen? ⟨b,off+j*4+1,none⟩=false/\ ∃W5 Z5,W4.setCell ⟨b,off+j*4+1,none⟩ (.int .i64 ((x.asked:Int)+1))=W5/\Dr wS w0 W5 Z Z5 c ts xs { d with que:=upd d.que K (d.que K++[(e.t,e.t)]),cal:=d.cal.map (askC e.t) }/\ ∃W6,W5.setCell ⟨wb,3,none⟩ (.int .i64 e.s)=W6/\Fr [wb] W5 W6/\W6.heap[rb]? = some (.cells (evA 0 0 0 0 0 0) 62 (0,0))/\W6.heap[wb]? = some (.cells (evA 0 e.k e.t e.s 0 0) 62 (0,0))/\W5.cell? ⟨eb,3,none⟩=some (.int .i64 e.s)/\W5.cell? ⟨wb,3,none⟩=some (.int .i64 0)/\W5.frozen? ⟨wb,3,none⟩=false):=by
  intro W W1 lo' c' w' hW hW1 hQ hF hn
  have D1:=hm.dr.quiet (hW.then hW1)
  have D2:=D1.go (D1.m.queue hKs (w1:=w') ⟨lo',(d.que K).length+1,c'⟩ _ hF hQ hn)
  obtain⟨_,c1,_,_⟩:=D2.m.calCell hlo hj
  have c1':(w'.setCell ⟨Z.qq,K,none⟩ (.slice lo' ((d.que K).length+1) c')).cell? ⟨b,off+j*4+1,none⟩=some (.int .i64 (x.asked:Int)):=by rw[<-hjx2];exact c1
  have hy:(cC d.cal[j]).set 1 (.int .i64 ((x.asked:Int)+1))=cC { x with asked:=x.asked+1 }:=by rw[hjx2];rfl
  obtain⟨z1,D3⟩:=D2.m.calSet hlo hj (by decide) (.int .i64 ((x.asked:Int)+1)) { x with asked:=x.asked+1 } hy
  have D4:=D2.go D3
  have he:d.cal.map (askC e.t)=d.cal.set j { x with asked:=x.asked+1 }:=by
   rw[zna hnd (askC e.t) (fun y hy=>if_neg hy) hj hjn,hjx2]
   unfold askC
   rw[if_pos hxn]
  obtain⟨a1,a2,a3⟩:=HBox.out _ _ _ D4
  have f6:Fr [wb] ((w'.setCell ⟨Z.qq,K,none⟩ (.slice lo' ((d.que K).length+1) c')).setCell ⟨b,off+j*4+1,none⟩ (.int .i64 ((x.asked:Int)+1))) (((w'.setCell ⟨Z.qq,K,none⟩ (.slice lo' ((d.que K).length+1) c')).setCell ⟨b,off+j*4+1,none⟩ (.int .i64 ((x.asked:Int)+1))).setCell ⟨wb,3,none⟩ (.int .i64 e.s)):=Fr.set _ _ _ (by simp)
  have n1:rb≠wb:=by have:=HRB.out;have:=HWB.out;omega
  rw[he]
  exact⟨_,rfl,c1',z1,_,_,rfl,D4,_,rfl,f6,f6.keep a1 (by simpa using n1),zag _ a3,(zac a2).1.2.2.2.1,(zac a3).1.2.2.2.1,(zac a3).2 3⟩
 have hmay:=h.may.2.1
 have HKe:Hid (e.s=(K:Int)):=hK
 clear hK
 have H10:Hid (e.k=10):=h10
 clear h10
 have HLO:Hid (Z.cl.lo=some ⟨b,off,none⟩):=hlo
 clear hlo hjx hjx2 hxn hblt0
 have hn1:eb≠rb:=by have:=HRB.out;have:=HEB.out;omega
 have hn2:rb≠eb:=fun q=>hn1 q.symm
 have hn3:wb≠rb:=by have:=HRB.out;have:=HWB.out;omega
 have hn4:rb≠wb:=fun q=>hn3 q.symm
 have hn5:eb≠wb:=by have:=HEB.out;have:=HWB.out;omega
 have hn6:wb≠eb:=fun q=>hn5 q.symm
 have HDq:Hid (∀W,Fr [] w0 W->Dr wS w0 W Z Z c ts xs d):=fun W hW=>hm.dr.quiet hW
 have HRd:Hid (∀W,Fr [] w0 W->W.cell? ⟨eb,0,none⟩=some (.int .i64 e.t)/\W.cell? ⟨Z.sb,14,none⟩=some (.slice Z.cl.lo d.cal.length Z.cl.c)/\ ∀i (hi:i<d.cal.length),∃b off,Z.cl.lo=some ⟨b,off,none⟩/\W.cell? ⟨b,off+i*4,none⟩=some (.int .i64 d.cal[i].n)):=by
  intro W hW
  have D:=hm.dr.quiet hW
  obtain⟨_,b2,_⟩:=HBox.out _ _ _ D
  obtain⟨r1,r2,r3⟩:=D.m.calRow
  refine⟨(zac b2).1.1,r1,fun i hi=> ?_⟩
  obtain⟨b,off,hb⟩:=r3 (by omega)
  exact⟨b,off,hb,(D.m.calCell hb hi).1⟩
 obtain⟨N,HN⟩: ∃N,Hid (d.cal.length=N):=⟨_,rfl⟩
 have hN:N<=1099511627776:=by rw[<-HN.out];exact hcl
 obtain⟨tk,HTK⟩: ∃tk,Hid (e.t=tk):=⟨_,rfl⟩
 have HNe:Hid (∀i (hi:i<d.cal.length),i=j↔d.cal[i].n=tk):=fun i hi=>⟨fun q=>by subst q;rw[<-HTK.out];exact hjn,fun q=>zbr hnd hi hj (by rw[q,<-HTK.out];exact hjn.symm)⟩
 have hjN:j<N:=by rw[<-HN.out];exact hj
 clear h hm het hcl hnd hj hjn
 go_enter Tryz.func82,Tryz.ntmps82
 go_upto_region 3 with fail
 rw[HW0.out,HWB.out,HRB.out,HEB.out]
 obtain⟨y0,y14,_⟩:=HRd.out w0 (Fr.refl [] w0)
 rw[HTK.out]at y0
 rw[HN.out]at y14
 go_wp2_with fail
 go_loopw [7,8] (fun aa ii wr=> ∃i:Nat,ii= .int .i64 i/\i<=N/\aa= .int .i64 (if j<i then (j:Int) else -1)/\Hid (Fr [] w0 wr)) (fun _ ii _=>N-(RowKit.intOf ii).toNat)
 case atStart=>exact⟨0,rfl,Nat.zero_le _,by simp,Fr.refl _ _⟩
 case round =>
  obtain⟨i,rfl,hi1,rfl,HF⟩:=hrel
  obtain⟨z0,z14,zc⟩:=HRd.out _ HF.out
  rw[HTK.out]at z0
  rw[HN.out]at z14
  clear y0 y14
  by_cases hi:i<N
  ·obtain⟨b,off,hlo,zn⟩:=zc i (by rw[HN.out];exact hi)
   have hne:=HNe.out i (by rw[HN.out];exact hi)
   obtain⟨n,hn⟩: ∃n,n=(d.cal[i]'(by rw[HN.out];exact hi)).n:=⟨_,rfl⟩
   rw[<-hn]at zn hne
   rw[hlo]at z14
   have hiN:(i:Int)<(N:Int):=by omega
   have hi0:(0:Int)<=(i:Int):=by omega
   clear zc hlo hn
   obtain⟨aa,haa⟩: ∃aa,aa=(if j<i then (j:Int) else -1):=⟨_,rfl⟩
   rw[<-haa]
   by_cases hij:i=j
   ·have hnf:(n==tk)=true:=by simpa using hne.1 hij
    have HJ:Hid (i=j):=hij
    clear hne hij haa
    go_upto_region 6 with fail
    go_quiet (fail)
    go_wp2
    go_roundw
    case rel =>
     have:=HJ.out
     subst this
     exact⟨i+1,by simp,by omega,by simp,HF.out.then (Fr.drewN [] _ nq)⟩
    case measure=>simp[RowKit.intOf];omega
   ·have hnf:(n==tk)=false:=by simpa using fun q=>hij (hne.2 q)
    have HJ:Hid (aa=if j<i+1 then (j:Int) else -1):=by
     show aa=_
     rw[haa]
     by_cases q:j<i
     ·rw[if_pos q,if_pos (by omega)]
     ·rw[if_neg q,if_neg (by omega)]
    clear hne hij haa
    go_upto_region 6 with fail
    go_quiet (fail)
    go_wp2
    go_roundw
    case rel=>exact⟨i+1,by simp,by omega,by rw[HJ.out],HF.out.then (Fr.drewN [] _ nq)⟩
    case measure=>simp[RowKit.intOf];omega
  ·have hjj:(if j<i then (j:Int) else -1)=(j:Int):=if_pos (by omega)
   rw[hjj]
   have hiN: ¬(i:Int)<(N:Int):=by omega
   have hj0:(0:Int)<=(j:Int):=by omega
   have hj1:(j:Int)<(N:Int):=by omega
   have hj2:decide ((j:Int)<0)=false:=by simp
   clear zc hjj
   obtain⟨w7,hw7⟩: ∃w7,Hid (w7=wr):=⟨_,rfl⟩
   rw[<-hw7.out]at z0 z14 HF ⊢
   rw[HLO.out]at z14
   obtain⟨⟨q1,q2,q3⟩,b1,b2,b3⟩:=HCj.out w7 HF.out
   obtain⟨⟨r0,r1,r2,r3,r4,r5⟩,rz⟩:=zac b1
   obtain⟨⟨u0,u1,u2,u3,u4,u5⟩,uz⟩:=zac b3
   obtain⟨⟨v0,v1,v2,v3,v4,v5⟩,_⟩:=zac b2
   have HB1:Hid (w7.heap[rb]? = _):=b1
   have HB3:Hid (w7.heap[wb]? = _):=b3
   have HD7:Hid (Dr wS w0 w7 Z Z c ts xs d):=HDq.out w7 HF.out
   rw[HTK.out]at u2
   clear b2 b3 hw7 HNe HRd v0
   rw[hen]at q3
   rw[H10.out]at u1 v1
   obtain⟨cf1,cf3,cf13⟩:=HCf.out w7 HF.out
   obtain⟨cs,HCS⟩: ∃cs,Hid (c.s=cs):=⟨_,rfl⟩
   rw[HCS.out]at cf1
   obtain⟨cq,HCQ⟩: ∃cq,Hid (c.q=cq):=⟨_,rfl⟩
   rw[HCQ.out]at cf3
   obtain⟨cq0,_⟩:=HQc.out w7 HF.out
   rw[HKe.out]at v3
   obtain⟨Sn,hSn⟩: ∃Sn,Sn=c.s.toNat:=⟨_,rfl⟩
   rw[<-hSn]at cf13 HCf
   have hk0:(0:Int)<=(K:Int):=by omega
   have hk1:(K:Int)<(Sn:Int):=by omega
   have g1:decide ((K:Int)<0)=false:=by simp
   have g2:decide (cs<=(K:Int))=false:=by rw[<-HCS.out];simp;omega
   obtain⟨M,hM⟩: ∃M,M=(d.que K).length:=⟨_,rfl⟩
   rw[<-hM]at cq0 hrm HQc HG hqlK
   have g3:decide (cq<=(M:Int))=false:=by rw[<-HCQ.out];simpa using hrm
   obtain⟨qlo,hqlo⟩: ∃qlo,qlo=(Z.q K).lo:=⟨_,rfl⟩
   obtain⟨qc,hqc⟩: ∃qc,qc=(Z.q K).c:=⟨_,rfl⟩
   rw[<-hqlo,<-hqc]at HQc cq0
   rw[<-hqlo]at HBl HG
   rw[HTK.out,HKe.out,H10.out]at HG
   obtain⟨ak,hak⟩: ∃ak:Int,ak=(x.asked:Int):=⟨_,rfl⟩
   rw[<-hak]at HG
   have hak1:0<=ak:=by omega
   have hak2:ak<1099511627776:=by omega
   clear hrm hM hSn hKs hmay hqlo hqc hask hak HDq q1 q2
   go_upto_region 16 with fail
   go_quiet (fail)
   obtain⟨w8,hw8⟩: ∃w8,Hid (w8=w7.drewN nq):=⟨_,rfl⟩
   have HF8:Hid (Fr [] w0 w8):=by show Fr _ _ _;rw[hw8.out];exact HF.out.then (Fr.drewN [] w7 nq)
   rw[<-hw8.out]
   clear hw8 HB3 HB1 b1 z0 z14 q3 r0 r1 r2 r3 r4 r5 rz u0 u1 u2 u3 u4 u5 uz v1 v2 v3 v4 v5 HD7 cf1 cf3 cf13 cq0 HF
   obtain⟨_,_,b2,_⟩:=HCj.out w8 HF8.out
   obtain⟨⟨v0,_,_,v3,_,_⟩,_⟩:=zac b2
   rw[HTK.out]at v0
   rw[HKe.out]at v3
   obtain⟨_,_,cf13⟩:=HCf.out w8 HF8.out
   obtain⟨cq0,_⟩:=HQc.out w8 HF8.out
   obtain⟨k1,k2,k3,k4⟩:=HBl.out w8 HF8.out
   have HX:Hid (∀W',Fr [] w8 W'->QW W' qlo M qc (d.que K)):=fun W' hW'=>(HQc.out _ (HF8.out.then hW')).2
   have HGG:Hid (∀W1 lo' c' w',Fr [] w8 W1->_):=fun W1 lo' c' w' m1 m2 m3 m4=>HG.out w8 W1 lo' c' w' HF8.out m1 m2 m3 m4
   clear HQc HG HCf HCj b2 HBl
   go_upto_region 18 with fail
   refine Rc.reg rfl rfl rfl k1 k2 k3 cf13 cq0 v0 v3 hk0 hk1 k4 HX.out hqlK ?_
   clear k1 k2 k3 k4 cf13 cq0 v0 v3 HX
   rintro⟨xb,lo',c'⟩ W1 w3 m1 m2 m3 m4
   obtain⟨W4,hW4,p1,p2,W5,Z5,hW5,D5,W6,hW6,f6,i1,i2,i3,i4,i5⟩:=HGG.out W1 lo' c' w3 m1 m2 m3 m4
   simp only at hW4 ⊢
   rw[hW4]
   have HW5:Hid (W4.setCell ⟨b,off+j*4+1,none⟩ (.int .i64 (ak+1))=W5):=hW5
   have HW6:Hid (W5.setCell ⟨wb,3,none⟩ (.int .i64 (K:Int))=W6):=hW6
   have HD5:Hid (Dr _ _ _ _ _ _ _ _ _):=D5
   have HF6:Hid (Fr [wb] W5 W6):=f6
   obtain⟨⟨x0,x1,x2,x3,x4,x5⟩,xz⟩:=zac i2
   clear xz hW4 hW5 hW6 D5 f6 m1 m2 m3 m4 HGG i2
   simp only[Rc.pairs,puts,Act.put]
   rename_i KK hKK
   show KK _ _
   refine hKK _ _ ?_
   go_upto_region 20 with fail
   rw[HW5.out]
   clear p1 p2 HW5
   go_upto_region 21 with fail
   rw[HW6.out]
   clear i3 i4 i5 HW6
   go_wp2_with (refine zab rfl _ _ rfl rb 0 10 tk K 0 0 rfl rfl 0 0 0 0 0 0 i1 ?_;intro w6 hw6 hf6)
   refine bodyPost_ret (zai rfl _ _ _ rb _ rfl (zae hw6.out)) rfl ?_
   rw[HO.out,HTK.out,HKe.out]
   exact⟨Z5,rfl,HFin.out _ _ _ _ HD5.out ((HF6.out.mono (T:=[rb,wb]) (by simp)).then (hf6.mono (T:=[rb,wb]) (by simp)))⟩
end
end Go.Proofs.YtaaghcimfcjehaaGreatDoor
