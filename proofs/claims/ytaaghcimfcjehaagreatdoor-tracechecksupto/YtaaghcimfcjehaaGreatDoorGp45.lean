/- Contracts and plain lemmas of this claim. -/
import Derived.Test.YtaaghcimfcjehaaGreatDoorGp43
set_option linter.unusedSimpArgs false
set_option linter.unusedVariables false
namespace Go.Proofs.YtaaghcimfcjehaaGreatDoor
open Go.ChangeShapes Go.WideShapes Go.ChangeAt Go.RowKit Go.Lib Go.Maps
section
variable {wS w:World} {Z:Zd} {c:Cf} {ts:List Tm} {xs:List Int} {d:Ds}
set_option maxHeartbeats 8000000 in
set_option maxRecDepth 100000 in
theorem zpe (h:DsM wS w Z c ts xs d) (ho:DOk c ts xs d) (e:Ev) (ht:e.t=0) :
  Calls Tryz.prog 32 #[.pointer (some ⟨Z.sb,0,none⟩),.agg #[.int .i64 e.t,.int .u8 e.k,.int .i64 e.n,.int .i64 e.s,.int .i64 e.c,.int .i64 e.m]] w (NxP wS w Z c ts xs d e):=by
 obtain⟨et,ek,en,es,ec,em⟩:=e
 dsimp only at *
 obtain⟨wE,w0,eb,cb,wb,HWE,HW0,HEB,HCB,HWB,⟨ce0,ce1,ce2,ce3⟩,hm,HFin,HBx,HNo,HNe⟩:=h.boxed4 (⟨et,ek,en,es,ec,em⟩:Ev)
 dsimp only at HWE HBx ce0 ce1 ce2 ce3
 have hl:=h.may.1
 have hs:=h.may.2.1
 have HR:Hid (nxtD c (txs ts) xs d (⟨et,ek,en,es,ec,em⟩:Ev)=fedD c (txs ts) xs d):=by
  show nxtD c (txs ts) xs d (⟨et,ek,en,es,ec,em⟩:Ev)=_
  unfold nxtD
  dsimp only
  rw[if_neg (by omega),if_pos ht]
 have HCL:Hid (Calls Tryz.prog 83 #[.pointer (some ⟨Z.sb,0,none⟩),.agg #[.int .i64 et,.int .u8 ek,.int .i64 en,.int .i64 es,.int .i64 ec,.int .i64 em]] w0 (DstP wS w0 Z c ts xs (fedD c (txs ts) xs d))):=zsn hm (⟨et,ek,en,es,ec,em⟩:Ev) ho.at_ ho.held ho.ma ho.lk ho.hnew ho.line
 obtain⟨z0,z1,z2,z3⟩:=HBx.out _ _ _ hm.dr
 obtain⟨⟨e0,e1,e2,e3,e4,e5⟩,ez⟩:=zac z1
 have HQ:Hid (CanD c (txs ts) xs d (⟨et,ek,en,es,ec,em⟩:Ev)↔(fedD c (txs ts) xs d).1.2=true/\(⟨et,ek,en,es,ec,em⟩:Ev)=⟨et,(fedD c (txs ts) xs d).1.1.k,(fedD c (txs ts) xs d).1.1.n,(fedD c (txs ts) xs d).1.1.s,(fedD c (txs ts) xs d).1.1.c,(fedD c (txs ts) xs d).2.ma⟩):=by show _↔_;unfold CanD;rw[HR.out]
 obtain⟨RR,hRR⟩: ∃RR,RR=fedD c (txs ts) xs d:=⟨_,rfl⟩
 rw[<-hRR]at HR HQ HCL
 clear hRR
 obtain⟨⟨⟨ak,an,as_,ac⟩,ok⟩,d'⟩:=RR
 have HRet:Hid (∀W Z' bb,Dr wS w W Z Z' c ts xs d'->(bb=true↔ok=true/\(⟨et,ek,en,es,ec,em⟩:Ev)=⟨et,ak,an,as_,ac,d'.ma⟩)->NxP wS w Z c ts xs d (⟨et,ek,en,es,ec,em⟩:Ev) (.returned (.bool bb)) W):=fun W Z' bb hD hb=>⟨Z',bb,rfl,hb.trans HQ.out.symm,by rw[HR.out];exact hD⟩
 have HT:Hid (∀w1 Z1,Dr wS w0 w1 Z Z1 c ts xs d'->w1.heap[wb]? = some (.cells (evA 0 0 0 0 0 0) 62 (0,0))/\ ∀w6,w6.heap[wb]? = some (.cells (evA 0 ak an as_ ac 0) 62 (0,0))->Fr [wb] w1 w6->_):=fun w1 Z1 D1=>⟨(HBx.out _ _ _ D1).1,fun w6 a1 a2=>zde (te:=⟨ak,an,as_,ac⟩) D1 (HNo.out _ _ _ D1) HNe.out (HBx.out _ _ _ D1).2.1 a1 a2⟩
 have g1:decide (et<0)=false:=by simp[ht]
 have g2:(et==0)=true:=by simpa using ht
 clear h hm ho hl hs z0 z1 HR HQ HBx HNo HNe ht
 go_enter Tryz.func32,Tryz.ntmps32
 go_upto_region 1 with fail
 rw[HWE.out,HEB.out]
 go_upto_region 4 with fail
 rw[HW0.out,HWB.out,HCB.out]
 clear ce0 ce1 ce2 ce3
 go_wp2_with fail
 refine Calls.mono HCL.out ?_
 rintro r1 w1 ⟨Z1,rfl,D1⟩
 have D2:Dr wS w0 w1 Z Z1 c ts xs d':=⟨D1.m,D1.v⟩
 obtain⟨b1,hT⟩:=HT.out w1 Z1 D2
 have HT2:Hid (∀w6,w6.heap[wb]? = some (.cells (evA 0 ak an as_ ac 0) 62 (0,0))->Fr [wb] w1 w6->_):=hT
 have HD2:Hid (Dr wS w0 w1 Z Z1 c ts xs d'):=D2
 clear D1 D2 hT HT e0 e1 e2 e3 e4 e5 ez z2 z3 HCL
 go_upto_region 14 with (refine zab rfl _ _ rfl wb 0 ak an as_ ac 0 rfl rfl 0 0 0 0 0 0 b1 ?_;intro w6 hw6 hf6;obtain⟨j0,j1,j2,W7,HW7,j3,HMk,j4,j5,W8,HW8,HF8,HR8,HE8⟩:=HT2.out w6 hw6.out hf6;clear hw6 hf6)
 go_upto_region 15 with fail
 rw[HW7.out]
 clear j0 j1 j2 HW7
 go_wp2_with fail
 refine Calls.mono HMk.out ?_
 rintro r2 w9 ⟨rfl,rfl⟩
 go_upto_region 16 with fail
 rw[HW8.out]
 obtain⟨⟨x0,x1,x2,x3,x4,x5⟩,xz⟩:=zac HR8.out
 obtain⟨⟨y0,y1,y2,y3,y4,y5⟩,yz⟩:=zac HE8.out
 have HDr:=HFin.out _ _ _ _ HD2.out HF8.out
 have HDR:Hid (Dr _ _ _ _ _ _ _ _ _):=HDr
 clear HDr HR8 HE8 HF8 xz yz j3 j4 j5 HMk HW8 HT2 b1 HD2 HFin
 have hgd:=Tryz.guardEvt
 have heq: ∀W,(Op.equalIn 10000 62 (.agg #[.int .i64 et,.int .u8 ek,.int .i64 en,.int .i64 es,.int .i64 ec,.int .i64 em]) (.agg #[.int .i64 et,.int .u8 ak,.int .i64 an,.int .i64 as_,.int .i64 ac,.int .i64 d'.ma])).run Tryz.prog W= .ok (zbl ⟨et,ek,en,es,ec,em⟩ ⟨et,ak,an,as_,ac,d'.ma⟩) W:=fun W=>zbx W ⟨et,ek,en,es,ec,em⟩ ⟨et,ak,an,as_,ac,d'.ma⟩
 obtain⟨sm,hsm⟩: ∃sm,sm=zbl ⟨et,ek,en,es,ec,em⟩ ⟨et,ak,an,as_,ac,d'.ma⟩:=⟨_,rfl⟩
 have HSm:Hid (sm=true↔(⟨et,ek,en,es,ec,em⟩:Ev)=⟨et,ak,an,as_,ac,d'.ma⟩):=by show _↔_;rw[hsm];exact zbt _ _
 rw[<-hsm]at heq
 clear hsm
 cases ok with
 | true =>
  go_wp2_with fail
  go_ret
  refine HRet.out _ _ _ HDR.out ?_
  rw[HSm.out]
  simp
 | false =>
  have hundef:undef=Value.tuple #[]:=rfl
  go_wp2_with fail
  go_ret
  refine HRet.out _ _ _ HDR.out ?_
  simp
end
end Go.Proofs.YtaaghcimfcjehaaGreatDoor
