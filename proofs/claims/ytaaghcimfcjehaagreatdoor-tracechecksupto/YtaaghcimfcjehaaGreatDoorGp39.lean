/- Contracts and plain lemmas of this claim. -/
import Derived.Test.YtaaghcimfcjehaaGreatDoorGp35
import Derived.Test.YtaaghcimfcjehaaGreatDoorGp14
set_option linter.unusedSimpArgs false
set_option linter.unusedVariables false
set_option maxHeartbeats 8000000
set_option maxRecDepth 100000
namespace Go.Proofs.YtaaghcimfcjehaaGreatDoor
open Go.ChangeShapes Go.WideShapes Go.ChangeAt Go.RowKit Go.Lib Go.Maps
section
variable {wS w:World} {Z:Zd} {c:Cf} {ts:List Tm} {xs:List Int} {d:Ds}
theorem zmg (h:DsM wS w Z c ts xs d) (e:Ev) (het:e.t<0) (hcl:d.cal.length<=1099511627776) (hnd:(d.cal.map (fun x:Dc=>x.n)).Nodup) (j:Nat) (x:Dc) (hjx:d.cal[j]? = some x) (hxn:x.n=e.t) (hen:x.ended=false) (h11:e.k=11) (hc:0<=e.c) :
  Calls Tryz.prog 82 #[.pointer (some ⟨Z.sb,0,none⟩),.agg #[.int .i64 e.t,.int .u8 e.k,.int .i64 e.n,.int .i64 e.s,.int .i64 e.c,.int .i64 e.m]] w (DstP wS w Z c ts xs (calD c d e)):=by
 obtain⟨w0,rb,eb,wb,HW0,HRB,HEB,HWB,hm,HFin,HBox⟩:=h.boxed3 e
 obtain⟨hj,hjx2⟩:=List.getElem?_eq_some_iff.1 hjx
 have hjn:d.cal[j].n=e.t:=by rw[hjx2];exact hxn
 have HO:Hid (calD c d e=((⟨11,e.t,0,e.c⟩,decide (0<=e.c/\x.served=x.asked)),d)):=by
  show calD c d e=_
  unfold calD
  rw[zby hnd hj hjn,hjx2]
  simp only
  rw[if_neg (by rw[hen];decide),if_neg (by omega),if_pos h11]
 obtain⟨b,off,hlo⟩:=hm.calRow.2.2 (by omega)
 have hblt0:b<w.heap.size:=(h.pm 7).lt b (by simp[Zd.part,hlo,qb])
 have hb1:b≠rb:=by have:=HRB.out;omega
 have hb2:rb≠b:=fun q=>hb1 q.symm
 have hb3:b≠wb:=by have:=HWB.out;omega
 have hb4:wb≠b:=fun q=>hb3 q.symm
 have HCj:Hid (∀W,Fr [] w0 W->(W.cell? ⟨b,off+j*4+1,none⟩=some (.int .i64 (x.asked:Int))/\W.cell? ⟨b,off+j*4+2,none⟩=some (.int .i64 (x.served:Int))/\W.cell? ⟨b,off+j*4+3,none⟩=some (.bool x.ended))/\W.heap[rb]? = some (.cells (evA 0 0 0 0 0 0) 62 (0,0))/\W.heap[eb]? = some (.cells (evA e.t e.k e.n e.s e.c e.m) 62 (0,0))/\W.heap[wb]? = some (.cells (evA 0 e.k e.t 0 0 0) 62 (0,0))):=by
  intro W hW
  have D:=hm.dr.quiet hW
  obtain⟨_,c1,c2,c3⟩:=D.m.calCell hlo hj
  rw[hjx2]at c1 c2 c3
  exact⟨⟨c1,c2,c3⟩,HBox.out _ _ _ D⟩
 have HCW:Hid (∀W,Fr [] w0 W-> ∃W4,W.setCell ⟨wb,4,none⟩ (.int .i64 e.c)=W4/\Fr [wb] W W4/\W4.heap[rb]? = some (.cells (evA 0 0 0 0 0 0) 62 (0,0))/\W4.heap[eb]? = some (.cells (evA e.t e.k e.n e.s e.c e.m) 62 (0,0))/\W4.heap[wb]? = some (.cells (evA 0 e.k e.t 0 e.c 0) 62 (0,0))/\W4.cell? ⟨b,off+j*4+1,none⟩=some (.int .i64 (x.asked:Int))/\W4.cell? ⟨b,off+j*4+2,none⟩=some (.int .i64 (x.served:Int))):=by
  intro W hW
  have D:=hm.dr.quiet hW
  obtain⟨⟨c1,c2,_⟩,a1,a2,a3⟩:=HCj.out W hW
  have f4:Fr [wb] W (W.setCell ⟨wb,4,none⟩ (.int .i64 e.c)):=Fr.set _ _ _ (by simp)
  have hwb:wb∉(qb Z.cl.lo).toList:=fun hb=>by
   have:=(h.pm 7).lt wb hb
   have:=HWB.out
   omega
  have hQ:QC W Z.cl.lo Z.cl.n Z.cl.c d.cal:=D.m.pm 7
  have hbb:b≠wb:=fun q=>hwb (by rw[hlo,q];simp[qb])
  have hblt:b<W.heap.size:=hQ.lt (by rw[hlo];rfl)
  have hcell: ∀o,(W.setCell ⟨wb,4,none⟩ (.int .i64 e.c)).cell? ⟨b,o,none⟩=W.cell? ⟨b,o,none⟩:=fun o=>World.cell?_of_block (a:=⟨b,o,none⟩) (f4.block b hblt (by simpa using hbb))
  have n1:rb≠wb:=by have:=HRB.out;have:=HWB.out;omega
  have n2:eb≠wb:=by have:=HEB.out;have:=HWB.out;omega
  refine⟨_,rfl,f4,f4.keep a1 (by simpa using n1),f4.keep a2 (by simpa using n2),zag _ a3,by rw[hcell];exact c1,by rw[hcell];exact c2⟩
 have H11:Hid (e.k=11):=h11
 clear h11
 have HLO:Hid (Z.cl.lo=some ⟨b,off,none⟩):=hlo
 clear hlo hjx hjx2 hxn hblt0
 have hn1:eb≠rb:=by have:=HRB.out;have:=HEB.out;omega
 have hn2:rb≠eb:=fun q=>hn1 q.symm
 have hn3:wb≠rb:=by have:=HRB.out;have:=HWB.out;omega
 have hn4:rb≠wb:=fun q=>hn3 q.symm
 have hn5:eb≠wb:=by have:=HEB.out;have:=HWB.out;omega
 have hn6:wb≠eb:=fun q=>hn5 q.symm
 have HDq:Hid (∀W,Fr [] w0 W->Dr wS w0 W Z Z c ts xs d):=fun W hW=>hm.dr.quiet hW
 have HRd:Hid (∀W,Fr [] w0 W->W.cell? ⟨eb,0,none⟩=some (.int .i64 e.t)/\W.cell? ⟨Z.sb,14,none⟩=some (.slice Z.cl.lo d.cal.length Z.cl.c)/\ ∀i (hi:i<d.cal.length),∃b off,Z.cl.lo=some ⟨b,off,none⟩/\W.cell? ⟨b,off+i*4,none⟩=some (.int .i64 d.cal[i].n)):=by
  intro W hW
  have D:=hm.dr.quiet hW
  obtain⟨_,b2,_⟩:=HBox.out _ _ _ D
  obtain⟨r1,r2,r3⟩:=D.m.calRow
  refine⟨(zac b2).1.1,r1,fun i hi=> ?_⟩
  obtain⟨b,off,hb⟩:=r3 (by omega)
  exact⟨b,off,hb,(D.m.calCell hb hi).1⟩
 obtain⟨N,HN⟩: ∃N,Hid (d.cal.length=N):=⟨_,rfl⟩
 have hN:N<=1099511627776:=by rw[<-HN.out];exact hcl
 obtain⟨tk,HTK⟩: ∃tk,Hid (e.t=tk):=⟨_,rfl⟩
 have HNe:Hid (∀i (hi:i<d.cal.length),i=j↔d.cal[i].n=tk):=fun i hi=>⟨fun q=>by subst q;rw[<-HTK.out];exact hjn,fun q=>zbr hnd hi hj (by rw[q,<-HTK.out];exact hjn.symm)⟩
 have hjN:j<N:=by rw[<-HN.out];exact hj
 clear h hm het hcl hnd hj hjn
 go_enter Tryz.func82,Tryz.ntmps82
 go_upto_region 3 with fail
 rw[HW0.out,HWB.out,HRB.out,HEB.out]
 obtain⟨y0,y14,_⟩:=HRd.out w0 (Fr.refl [] w0)
 rw[HTK.out]at y0
 rw[HN.out]at y14
 go_wp2_with fail
 go_loopw [7,8] (fun aa ii wr=> ∃i:Nat,ii= .int .i64 i/\i<=N/\aa= .int .i64 (if j<i then (j:Int) else -1)/\Hid (Fr [] w0 wr)) (fun _ ii _=>N-(RowKit.intOf ii).toNat)
 case atStart=>exact⟨0,rfl,Nat.zero_le _,by simp,Fr.refl _ _⟩
 case round =>
  obtain⟨i,rfl,hi1,rfl,HF⟩:=hrel
  obtain⟨z0,z14,zc⟩:=HRd.out _ HF.out
  rw[HTK.out]at z0
  rw[HN.out]at z14
  clear y0 y14
  by_cases hi:i<N
  ·obtain⟨b,off,hlo,zn⟩:=zc i (by rw[HN.out];exact hi)
   have hne:=HNe.out i (by rw[HN.out];exact hi)
   obtain⟨n,hn⟩: ∃n,n=(d.cal[i]'(by rw[HN.out];exact hi)).n:=⟨_,rfl⟩
   rw[<-hn]at zn hne
   rw[hlo]at z14
   have hiN:(i:Int)<(N:Int):=by omega
   have hi0:(0:Int)<=(i:Int):=by omega
   clear zc hlo hn
   obtain⟨aa,haa⟩: ∃aa,aa=(if j<i then (j:Int) else -1):=⟨_,rfl⟩
   rw[<-haa]
   by_cases hij:i=j
   ·have hnf:(n==tk)=true:=by simpa using hne.1 hij
    have HJ:Hid (i=j):=hij
    clear hne hij haa
    go_upto_region 6 with fail
    go_quiet (fail)
    go_wp2
    go_roundw
    case rel =>
     have:=HJ.out
     subst this
     exact⟨i+1,by simp,by omega,by simp,HF.out.then (Fr.drewN [] _ nq)⟩
    case measure=>simp[RowKit.intOf];omega
   ·have hnf:(n==tk)=false:=by simpa using fun q=>hij (hne.2 q)
    have HJ:Hid (aa=if j<i+1 then (j:Int) else -1):=by
     show aa=_
     rw[haa]
     by_cases q:j<i
     ·rw[if_pos q,if_pos (by omega)]
     ·rw[if_neg q,if_neg (by omega)]
    clear hne hij haa
    go_upto_region 6 with fail
    go_quiet (fail)
    go_wp2
    go_roundw
    case rel=>exact⟨i+1,by simp,by omega,by rw[HJ.out],HF.out.then (Fr.drewN [] _ nq)⟩
    case measure=>simp[RowKit.intOf];omega
  ·have hjj:(if j<i then (j:Int) else -1)=(j:Int):=if_pos (by omega)
   rw[hjj]
   have hiN: ¬(i:Int)<(N:Int):=by omega
   have hj0:(0:Int)<=(j:Int):=by omega
   have hj1:(j:Int)<(N:Int):=by omega
   have hj2:decide ((j:Int)<0)=false:=by simp
   clear zc hjj
   obtain⟨w7,hw7⟩: ∃w7,Hid (w7=wr):=⟨_,rfl⟩
   rw[<-hw7.out]at z0 z14 HF ⊢
   rw[HLO.out]at z14
   obtain⟨⟨q1,q2,q3⟩,b1,b2,b3⟩:=HCj.out w7 HF.out
   obtain⟨⟨r0,r1,r2,r3,r4,r5⟩,rz⟩:=zac b1
   obtain⟨⟨u0,u1,u2,u3,u4,u5⟩,uz⟩:=zac b3
   obtain⟨⟨v0,v1,v2,v3,v4,v5⟩,_⟩:=zac b2
   have HB1:Hid (w7.heap[rb]? = _):=b1
   have HB3:Hid (w7.heap[wb]? = _):=b3
   have HD7:Hid (Dr wS w0 w7 Z Z c ts xs d):=HDq.out w7 HF.out
   rw[HTK.out]at u2
   clear b2 b3 hw7 HNe HRd v0
   rw[hen]at q3
   rw[H11.out]at u1 v1
   obtain⟨sv,hsv⟩: ∃sv:Int,sv=(x.served:Int):=⟨_,rfl⟩
   obtain⟨ak,hak⟩: ∃ak:Int,ak=(x.asked:Int):=⟨_,rfl⟩
   obtain⟨W4,hW4,f4,b1,b2,b3,s2,s3⟩:=HCW.out w7 HF.out
   obtain⟨cc,HCC⟩: ∃cc,Hid (e.c=cc):=⟨_,rfl⟩
   have HSA:Hid (decide (0<=e.c/\x.served=x.asked)=(decide (0<=e.c)&&(sv==ak))):=by
    show _=_
    rw[hsv,hak]
    by_cases q:x.served=x.asked
    ·simp[q]
    ·have: ¬(x.served:Int)=(x.asked:Int):=by omega
     simp[q,this]
   rw[<-hsv]at s3
   rw[<-hak]at s2
   have HW4:Hid (w7.setCell ⟨wb,4,none⟩ (.int .i64 cc)=W4):=by rw[<-HCC.out];exact hW4
   have HF4:Hid (Fr [wb] w7 W4):=f4
   rw[HCC.out]at v4 hc HSA
   clear q1 q2 hsv hak hW4 f4 HCW HCj HDq
   go_upto_region 24 with fail
   rw[HW4.out]
   obtain⟨⟨r0,r1,r2,r3,r4,r5⟩,rz⟩:=zac b1
   obtain⟨⟨u0,u1,u2,u3,u4,u5⟩,uz⟩:=zac b3
   obtain⟨⟨_,_,_,_,v4,_⟩,_⟩:=zac b2
   have HB1:Hid (W4.heap[rb]? = _):=b1
   rw[H11.out]at u1
   rw[HTK.out]at u2
   rw[HCC.out]at u4 v4
   have hc2:decide (0<=cc)=true:=by simpa using hc
   have HC0:Hid (decide (0<=cc)=true):=hc2
   clear b1 b2 b3 v1 v2 v3 v5 HW4 z0 z14 q3
   go_region_held3 (fun W=>W.cell? ⟨wb,0,none⟩=some (.int .i64 0)/\W.cell? ⟨wb,1,none⟩=some (.int .u8 11)/\W.cell? ⟨wb,2,none⟩=some (.int .i64 tk)/\W.cell? ⟨wb,3,none⟩=some (.int .i64 0)/\W.cell? ⟨wb,4,none⟩=some (.int .i64 cc)/\W.cell? ⟨wb,5,none⟩=some (.int .i64 0)/\W.cell? ⟨eb,4,none⟩=some (.int .i64 cc)/\W.cell? ⟨b,off+j*4+1,none⟩=some (.int .i64 ak)/\W.cell? ⟨b,off+j*4+2,none⟩=some (.int .i64 sv)) (go_keep) (fail)
   obtain⟨W6,hW6⟩: ∃W6,zcl W4 rb (.int .i64 0) (.int .u8 11) (.int .i64 tk) (.int .i64 0) (.int .i64 cc) (.int .i64 0)=W6:=⟨_,rfl⟩
   have f6:=zdj W4 rb (.int .i64 0) (.int .u8 11) (.int .i64 tk) (.int .i64 0) (.int .i64 cc) (.int .i64 0)
   have r6:=zcw (b:=rb) (.int .i64 0) (.int .u8 11) (.int .i64 tk) (.int .i64 0) (.int .i64 cc) (.int .i64 0) HB1.out
   rw[hW6]at f6 r6
   unfold zcl at hW6
   rw[hW6]
   have HF6:Hid (Fr [rb,wb] W4 W6.drew):=(f6.mono (T:=[rb,wb]) (by simp)).then (Fr.drew [rb,wb] W6)
   have HR6:Hid (W6.drew.heap[rb]? = some (.cells (evA 0 11 tk 0 cc 0) 62 (0,0))):=r6
   clear hW6 f6 r6
   clear r0 r1 r2 r3 r4 r5 rz u0 u1 u2 u3 u4 u5 uz s2 s3 v4
   go_wp2_with fail
   refine bodyPost_ret (zai rfl _ _ _ rb _ rfl (zae HR6.out)) rfl ?_
   rw[HO.out,HTK.out,HCC.out,HSA.out,HC0.out]
   exact⟨Z,rfl,HFin.out _ _ _ _ HD7.out ((HF4.out.mono (T:=[rb,wb]) (by simp)).then HF6.out)⟩
theorem zie (h:DsM wS w Z c ts xs d) (e:Ev) (het:e.t<0) (hcl:d.cal.length<=1099511627776) (hnd:(d.cal.map (fun x:Dc=>x.n)).Nodup) (j:Nat) (x:Dc) (hjx:d.cal[j]? = some x) (hxn:x.n=e.t) (hen:x.ended=false) (h11:e.k=11) (hc: ¬0<=e.c) :
  Calls Tryz.prog 82 #[.pointer (some ⟨Z.sb,0,none⟩),.agg #[.int .i64 e.t,.int .u8 e.k,.int .i64 e.n,.int .i64 e.s,.int .i64 e.c,.int .i64 e.m]] w (DstP wS w Z c ts xs (calD c d e)):=by
 obtain⟨w0,rb,eb,wb,HW0,HRB,HEB,HWB,hm,HFin,HBox⟩:=h.boxed3 e
 obtain⟨hj,hjx2⟩:=List.getElem?_eq_some_iff.1 hjx
 have hjn:d.cal[j].n=e.t:=by rw[hjx2];exact hxn
 have HO:Hid (calD c d e=((⟨11,e.t,0,e.c⟩,decide (0<=e.c/\x.served=x.asked)),d)):=by
  show calD c d e=_
  unfold calD
  rw[zby hnd hj hjn,hjx2]
  simp only
  rw[if_neg (by rw[hen];decide),if_neg (by omega),if_pos h11]
 obtain⟨b,off,hlo⟩:=hm.calRow.2.2 (by omega)
 have hblt0:b<w.heap.size:=(h.pm 7).lt b (by simp[Zd.part,hlo,qb])
 have hb1:b≠rb:=by have:=HRB.out;omega
 have hb2:rb≠b:=fun q=>hb1 q.symm
 have hb3:b≠wb:=by have:=HWB.out;omega
 have hb4:wb≠b:=fun q=>hb3 q.symm
 have HCj:Hid (∀W,Fr [] w0 W->(W.cell? ⟨b,off+j*4+1,none⟩=some (.int .i64 (x.asked:Int))/\W.cell? ⟨b,off+j*4+2,none⟩=some (.int .i64 (x.served:Int))/\W.cell? ⟨b,off+j*4+3,none⟩=some (.bool x.ended))/\W.heap[rb]? = some (.cells (evA 0 0 0 0 0 0) 62 (0,0))/\W.heap[eb]? = some (.cells (evA e.t e.k e.n e.s e.c e.m) 62 (0,0))/\W.heap[wb]? = some (.cells (evA 0 e.k e.t 0 0 0) 62 (0,0))):=by
  intro W hW
  have D:=hm.dr.quiet hW
  obtain⟨_,c1,c2,c3⟩:=D.m.calCell hlo hj
  rw[hjx2]at c1 c2 c3
  exact⟨⟨c1,c2,c3⟩,HBox.out _ _ _ D⟩
 have HCW:Hid (∀W,Fr [] w0 W-> ∃W4,W.setCell ⟨wb,4,none⟩ (.int .i64 e.c)=W4/\Fr [wb] W W4/\W4.heap[rb]? = some (.cells (evA 0 0 0 0 0 0) 62 (0,0))/\W4.heap[eb]? = some (.cells (evA e.t e.k e.n e.s e.c e.m) 62 (0,0))/\W4.heap[wb]? = some (.cells (evA 0 e.k e.t 0 e.c 0) 62 (0,0))/\W4.cell? ⟨b,off+j*4+1,none⟩=some (.int .i64 (x.asked:Int))/\W4.cell? ⟨b,off+j*4+2,none⟩=some (.int .i64 (x.served:Int))):=by
  intro W hW
  have D:=hm.dr.quiet hW
  obtain⟨⟨c1,c2,_⟩,a1,a2,a3⟩:=HCj.out W hW
  have f4:Fr [wb] W (W.setCell ⟨wb,4,none⟩ (.int .i64 e.c)):=Fr.set _ _ _ (by simp)
  have hwb:wb∉(qb Z.cl.lo).toList:=fun hb=>by
   have:=(h.pm 7).lt wb hb
   have:=HWB.out
   omega
  have hQ:QC W Z.cl.lo Z.cl.n Z.cl.c d.cal:=D.m.pm 7
  have hbb:b≠wb:=fun q=>hwb (by rw[hlo,q];simp[qb])
  have hblt:b<W.heap.size:=hQ.lt (by rw[hlo];rfl)
  have hcell: ∀o,(W.setCell ⟨wb,4,none⟩ (.int .i64 e.c)).cell? ⟨b,o,none⟩=W.cell? ⟨b,o,none⟩:=fun o=>World.cell?_of_block (a:=⟨b,o,none⟩) (f4.block b hblt (by simpa using hbb))
  have n1:rb≠wb:=by have:=HRB.out;have:=HWB.out;omega
  have n2:eb≠wb:=by have:=HEB.out;have:=HWB.out;omega
  refine⟨_,rfl,f4,f4.keep a1 (by simpa using n1),f4.keep a2 (by simpa using n2),zag _ a3,by rw[hcell];exact c1,by rw[hcell];exact c2⟩
 have H11:Hid (e.k=11):=h11
 clear h11
 have HLO:Hid (Z.cl.lo=some ⟨b,off,none⟩):=hlo
 clear hlo hjx hjx2 hxn hblt0
 have hn1:eb≠rb:=by have:=HRB.out;have:=HEB.out;omega
 have hn2:rb≠eb:=fun q=>hn1 q.symm
 have hn3:wb≠rb:=by have:=HRB.out;have:=HWB.out;omega
 have hn4:rb≠wb:=fun q=>hn3 q.symm
 have hn5:eb≠wb:=by have:=HEB.out;have:=HWB.out;omega
 have hn6:wb≠eb:=fun q=>hn5 q.symm
 have HDq:Hid (∀W,Fr [] w0 W->Dr wS w0 W Z Z c ts xs d):=fun W hW=>hm.dr.quiet hW
 have HRd:Hid (∀W,Fr [] w0 W->W.cell? ⟨eb,0,none⟩=some (.int .i64 e.t)/\W.cell? ⟨Z.sb,14,none⟩=some (.slice Z.cl.lo d.cal.length Z.cl.c)/\ ∀i (hi:i<d.cal.length),∃b off,Z.cl.lo=some ⟨b,off,none⟩/\W.cell? ⟨b,off+i*4,none⟩=some (.int .i64 d.cal[i].n)):=by
  intro W hW
  have D:=hm.dr.quiet hW
  obtain⟨_,b2,_⟩:=HBox.out _ _ _ D
  obtain⟨r1,r2,r3⟩:=D.m.calRow
  refine⟨(zac b2).1.1,r1,fun i hi=> ?_⟩
  obtain⟨b,off,hb⟩:=r3 (by omega)
  exact⟨b,off,hb,(D.m.calCell hb hi).1⟩
 obtain⟨N,HN⟩: ∃N,Hid (d.cal.length=N):=⟨_,rfl⟩
 have hN:N<=1099511627776:=by rw[<-HN.out];exact hcl
 obtain⟨tk,HTK⟩: ∃tk,Hid (e.t=tk):=⟨_,rfl⟩
 have HNe:Hid (∀i (hi:i<d.cal.length),i=j↔d.cal[i].n=tk):=fun i hi=>⟨fun q=>by subst q;rw[<-HTK.out];exact hjn,fun q=>zbr hnd hi hj (by rw[q,<-HTK.out];exact hjn.symm)⟩
 have hjN:j<N:=by rw[<-HN.out];exact hj
 clear h hm het hcl hnd hj hjn
 go_enter Tryz.func82,Tryz.ntmps82
 go_upto_region 3 with fail
 rw[HW0.out,HWB.out,HRB.out,HEB.out]
 obtain⟨y0,y14,_⟩:=HRd.out w0 (Fr.refl [] w0)
 rw[HTK.out]at y0
 rw[HN.out]at y14
 go_wp2_with fail
 go_loopw [7,8] (fun aa ii wr=> ∃i:Nat,ii= .int .i64 i/\i<=N/\aa= .int .i64 (if j<i then (j:Int) else -1)/\Hid (Fr [] w0 wr)) (fun _ ii _=>N-(RowKit.intOf ii).toNat)
 case atStart=>exact⟨0,rfl,Nat.zero_le _,by simp,Fr.refl _ _⟩
 case round =>
  obtain⟨i,rfl,hi1,rfl,HF⟩:=hrel
  obtain⟨z0,z14,zc⟩:=HRd.out _ HF.out
  rw[HTK.out]at z0
  rw[HN.out]at z14
  clear y0 y14
  by_cases hi:i<N
  ·obtain⟨b,off,hlo,zn⟩:=zc i (by rw[HN.out];exact hi)
   have hne:=HNe.out i (by rw[HN.out];exact hi)
   obtain⟨n,hn⟩: ∃n,n=(d.cal[i]'(by rw[HN.out];exact hi)).n:=⟨_,rfl⟩
   rw[<-hn]at zn hne
   rw[hlo]at z14
   have hiN:(i:Int)<(N:Int):=by omega
   have hi0:(0:Int)<=(i:Int):=by omega
   clear zc hlo hn
   obtain⟨aa,haa⟩: ∃aa,aa=(if j<i then (j:Int) else -1):=⟨_,rfl⟩
   rw[<-haa]
   by_cases hij:i=j
   ·have hnf:(n==tk)=true:=by simpa using hne.1 hij
    have HJ:Hid (i=j):=hij
    clear hne hij haa
    go_upto_region 6 with fail
    go_quiet (fail)
    go_wp2
    go_roundw
    case rel =>
     have:=HJ.out
     subst this
     exact⟨i+1,by simp,by omega,by simp,HF.out.then (Fr.drewN [] _ nq)⟩
    case measure=>simp[RowKit.intOf];omega
   ·have hnf:(n==tk)=false:=by simpa using fun q=>hij (hne.2 q)
    have HJ:Hid (aa=if j<i+1 then (j:Int) else -1):=by
     show aa=_
     rw[haa]
     by_cases q:j<i
     ·rw[if_pos q,if_pos (by omega)]
     ·rw[if_neg q,if_neg (by omega)]
    clear hne hij haa
    go_upto_region 6 with fail
    go_quiet (fail)
    go_wp2
    go_roundw
    case rel=>exact⟨i+1,by simp,by omega,by rw[HJ.out],HF.out.then (Fr.drewN [] _ nq)⟩
    case measure=>simp[RowKit.intOf];omega
  ·have hjj:(if j<i then (j:Int) else -1)=(j:Int):=if_pos (by omega)
   rw[hjj]
   have hiN: ¬(i:Int)<(N:Int):=by omega
   have hj0:(0:Int)<=(j:Int):=by omega
   have hj1:(j:Int)<(N:Int):=by omega
   have hj2:decide ((j:Int)<0)=false:=by simp
   clear zc hjj
   obtain⟨w7,hw7⟩: ∃w7,Hid (w7=wr):=⟨_,rfl⟩
   rw[<-hw7.out]at z0 z14 HF ⊢
   rw[HLO.out]at z14
   obtain⟨⟨q1,q2,q3⟩,b1,b2,b3⟩:=HCj.out w7 HF.out
   obtain⟨⟨r0,r1,r2,r3,r4,r5⟩,rz⟩:=zac b1
   obtain⟨⟨u0,u1,u2,u3,u4,u5⟩,uz⟩:=zac b3
   obtain⟨⟨v0,v1,v2,v3,v4,v5⟩,_⟩:=zac b2
   have HB1:Hid (w7.heap[rb]? = _):=b1
   have HB3:Hid (w7.heap[wb]? = _):=b3
   have HD7:Hid (Dr wS w0 w7 Z Z c ts xs d):=HDq.out w7 HF.out
   rw[HTK.out]at u2
   clear b2 b3 hw7 HNe HRd v0
   rw[hen]at q3
   rw[H11.out]at u1 v1
   obtain⟨sv,hsv⟩: ∃sv:Int,sv=(x.served:Int):=⟨_,rfl⟩
   obtain⟨ak,hak⟩: ∃ak:Int,ak=(x.asked:Int):=⟨_,rfl⟩
   obtain⟨W4,hW4,f4,b1,b2,b3,s2,s3⟩:=HCW.out w7 HF.out
   obtain⟨cc,HCC⟩: ∃cc,Hid (e.c=cc):=⟨_,rfl⟩
   have HSA:Hid (decide (0<=e.c/\x.served=x.asked)=(decide (0<=e.c)&&(sv==ak))):=by
    show _=_
    rw[hsv,hak]
    by_cases q:x.served=x.asked
    ·simp[q]
    ·have: ¬(x.served:Int)=(x.asked:Int):=by omega
     simp[q,this]
   rw[<-hsv]at s3
   rw[<-hak]at s2
   have HW4:Hid (w7.setCell ⟨wb,4,none⟩ (.int .i64 cc)=W4):=by rw[<-HCC.out];exact hW4
   have HF4:Hid (Fr [wb] w7 W4):=f4
   rw[HCC.out]at v4 hc HSA
   clear q1 q2 hsv hak hW4 f4 HCW HCj HDq
   go_upto_region 24 with fail
   rw[HW4.out]
   obtain⟨⟨r0,r1,r2,r3,r4,r5⟩,rz⟩:=zac b1
   obtain⟨⟨u0,u1,u2,u3,u4,u5⟩,uz⟩:=zac b3
   obtain⟨⟨_,_,_,_,v4,_⟩,_⟩:=zac b2
   have HB1:Hid (W4.heap[rb]? = _):=b1
   rw[H11.out]at u1
   rw[HTK.out]at u2
   rw[HCC.out]at u4 v4
   have hc2:decide (0<=cc)=false:=by simpa using hc
   have HC0:Hid (decide (0<=cc)=false):=hc2
   have hc3:cc<0:=by omega
   clear b1 b2 b3 v1 v2 v3 v5 HW4 z0 z14 q3
   have hundef:undef=Value.tuple #[]:=rfl
   go_region
   obtain⟨W6,hW6⟩: ∃W6,zcl W4 rb (.int .i64 0) (.int .u8 11) (.int .i64 tk) (.int .i64 0) (.int .i64 cc) (.int .i64 0)=W6:=⟨_,rfl⟩
   have f6:=zdj W4 rb (.int .i64 0) (.int .u8 11) (.int .i64 tk) (.int .i64 0) (.int .i64 cc) (.int .i64 0)
   have r6:=zcw (b:=rb) (.int .i64 0) (.int .u8 11) (.int .i64 tk) (.int .i64 0) (.int .i64 cc) (.int .i64 0) HB1.out
   rw[hW6]at f6 r6
   unfold zcl at hW6
   rw[hW6]
   have HF6:Hid (Fr [rb,wb] W4 W6.drew):=(f6.mono (T:=[rb,wb]) (by simp)).then (Fr.drew [rb,wb] W6)
   have HR6:Hid (W6.drew.heap[rb]? = some (.cells (evA 0 11 tk 0 cc 0) 62 (0,0))):=r6
   clear hW6 f6 r6
   clear r0 r1 r2 r3 r4 r5 rz u0 u1 u2 u3 u4 u5 uz s2 s3 v4
   go_wp2_with fail
   refine bodyPost_ret (zai rfl _ _ _ rb _ rfl (zae HR6.out)) rfl ?_
   rw[HO.out,HTK.out,HCC.out,HSA.out,HC0.out]
   exact⟨Z,rfl,HFin.out _ _ _ _ HD7.out ((HF4.out.mono (T:=[rb,wb]) (by simp)).then HF6.out)⟩
end
end Go.Proofs.YtaaghcimfcjehaaGreatDoor
