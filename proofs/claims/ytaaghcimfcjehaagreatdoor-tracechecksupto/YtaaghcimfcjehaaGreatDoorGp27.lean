/- Contracts and plain lemmas of this claim. -/
import Derived.Test.YtaaghcimfcjehaaGreatDoorGp26
import Derived.BigQuiet
import Derived.Test.YtaaghcimfcjehaaGreatDoorGp11
set_option linter.unusedSimpArgs false
set_option linter.unusedVariables false
set_option maxHeartbeats 4000000
set_option maxRecDepth 100000
namespace Go.Proofs.YtaaghcimfcjehaaGreatDoor
open Go.ChangeShapes Go.WideShapes Go.ChangeAt Go.RowKit Go.Lib Go.Maps
theorem zew {g N cc:Nat} {lo:Option Addr} {m:Int} {bx:List Int} (w:World) (h:OG w g lo N cc m bx):Calls Tryz.prog 87 #[.pointer (some ⟨g,0,none⟩)] w fun e w'=>e= .returned (.int .i64 m)/\w'=w:=by
 have c0:=h.c0
 clear h
 go_enter Tryz.func87,Tryz.ntmps87
 go_wp2
 go_ret
 exact⟨rfl,rfl⟩
section
variable {wS w:World} {Z:Zd} {c:Cf} {ts:List Tm} {xs:List Int} {d:Ds}
theorem DsM.boxed2 (h:DsM wS w Z c ts xs d) (e:Ev): ∃w0 rb eb,Hid ((w.alloc (.cells #[.int .i64 e.t,.int .u8 e.k,.int .i64 e.n,.int .i64 e.s,.int .i64 e.c,.int .i64 e.m] 62)).alloc (.cells #[.int .i64 0,.int .u8 0,.int .i64 0,.int .i64 0,.int .i64 0,.int .i64 0] 62)=w0)/\Hid (w.heap.size+1=rb)/\Hid (w.heap.size=eb)/\DsM wS w0 Z c ts xs d/\Hid (∀W W' Z' d',Dr wS w0 W Z Z' c ts xs d'->Fr [rb] W W'->Dr wS w W' Z Z' c ts xs d')/\Hid (∀W Z' d',Dr wS w0 W Z Z' c ts xs d'->W.heap[rb]? = some (.cells (evA 0 0 0 0 0 0) 62 (0,0)))/\Hid (∀W Z' d',Dr wS w0 W Z Z' c ts xs d'->W.heap[eb]? = some (.cells (evA e.t e.k e.n e.s e.c e.m) 62 (0,0))):=by
 obtain⟨w1,hw1⟩: ∃w1,w1=w.alloc (.cells (evA e.t e.k e.n e.s e.c e.m) 62):=⟨_,rfl⟩
 have hF1:Fr [] w w1:=by rw[hw1];exact Fr.alloc _ _ _
 have hs1:w1.heap.size=w.heap.size+1:=by rw[hw1];simp
 have hb1:w1.heap[w.heap.size]? = some (.cells (evA e.t e.k e.n e.s e.c e.m) 62 (0,0)):=by rw[hw1];exact heap_alloc_new _ _
 have hF0:Fr [] w1 (w1.alloc (.cells (evA 0 0 0 0 0 0) 62)):=Fr.alloc _ _ _
 have hb0:(w1.alloc (.cells (evA 0 0 0 0 0 0) 62)).heap[w.heap.size+1]? = some (.cells (evA 0 0 0 0 0 0) 62 (0,0)):=by rw[<-hs1];exact heap_alloc_new _ _
 have hl0:w.heap.size+1<(w1.alloc (.cells (evA 0 0 0 0 0 0) 62)).heap.size:=by simp;omega
 exact⟨w1.alloc (.cells (evA 0 0 0 0 0 0) 62),_,_,by rw[hw1];rfl,rfl,rfl,h.quiet (hF1.then hF0),fun W W' Z' d' hD hf=>hD.fin h (hF1.then hF0) (Nat.le_succ _) hl0 hf,fun W Z' d' hD=>hD.v.keep hb0 (fun p hp=>by have:=(h.pm p).lt _ hp;omega),fun W Z' d' hD=>hD.v.keep (hF0.keep hb1 (by simp)) (fun p hp=>by have:=(h.pm p).lt _ hp;omega)⟩
set_option maxHeartbeats 4000000 in
theorem zos (h:DsM wS w Z c ts xs d) (e:Ev) (hh:d.held=0) (h0:0<=d.at_) (h1:d.at_<(ts.length:Int)) (h2:ts.length<=65536) :
  Calls Tryz.prog 83 #[.pointer (some ⟨Z.sb,0,none⟩),.agg #[.int .i64 e.t,.int .u8 e.k,.int .i64 e.n,.int .i64 e.s,.int .i64 e.c,.int .i64 e.m]] w (DstP wS w Z c ts xs (fedD c (txs ts) xs d)):=by
 obtain⟨w0,rb,eb,HW0,HRB,HEB,hm,HFin,HBox,_⟩:=h.boxed2 e
 have c4:w0.cell? ⟨Z.sb,4,none⟩=some (.slice Z.logo Z.M Z.mc):=hm.cell rfl
 have c5:w0.cell? ⟨Z.sb,5,none⟩=some (.int .i64 d.at_):=hm.cell rfl
 have c6:w0.cell? ⟨Z.sb,6,none⟩=some (.int .i64 d.held):=hm.cell rfl
 have z5:=hm.fz 5
 have z6:=hm.fz 6
 rw[hh]at c6
 have hM:=hm.len.1
 have hM2:d.at_<(Z.M:Int):=by rw[hM];exact h1
 have HO:Hid (fedD c (txs ts) xs d=((⟨1,d.at_+1,0,0⟩,true),{ d with at_:=d.at_+1,held:=d.at_+1 })):=by
  show fedD c (txs ts) xs d=_
  unfold fedD
  rw[if_pos hh,if_pos (by rw[zap];exact h1)]
 have hmq:=hm.quiet (Fr.drew [] w0)
 have HD:Hid (∀W,Fr [] w0 W->Dr wS w0 ((W.setCell ⟨Z.sb,5,none⟩ (.int .i64 (d.at_+1))).setCell ⟨Z.sb,6,none⟩ (.int .i64 (d.at_+1))) Z Z c ts xs { d with at_:=d.at_+1,held:=d.at_+1 }):=by
  intro W hW
  have D0:=hm.dr.quiet hW
  have D1:=D0.go (D0.m.at_ (d.at_+1))
  exact D1.go (D1.m.held (d.at_+1))
 have hb6:d.at_<=65536:=by omega
 clear h hm hmq hh h1 h2 hM
 obtain⟨a,ha⟩: ∃a,a=d.at_:=⟨_,rfl⟩
 rw[<-ha]at c5 hM2 h0 hb6
 have HA:Hid (a=d.at_):=ha
 clear ha
 go_enter Tryz.func83,Tryz.ntmps83
 go_upto_region 1 with fail
 rw[HW0.out,HRB.out,HEB.out]
 go_upto_region 2 with fail
 go_quiet (fail)
 go_upto_region 6 with fail
 rw[HA.out]at *
 have HDq:=HD.out _ (Fr.drewN [] w0 nq)
 have HB:=HBox.out _ _ _ HDq
 have HDD:Hid (Dr _ _ _ _ _ _ _ _ _):=HDq
 clear HDq
 go_wp2_with (refine zab rfl _ _ rfl rb 0 1 (d.at_+1) 0 0 0 rfl rfl 0 0 0 0 0 0 HB ?_;intro w6 hw6 hf6)
 refine bodyPost_ret (zai rfl _ _ _ rb _ rfl (zae hw6.out)) rfl ?_
 rw[HO.out]
 exact⟨Z,rfl,HFin.out _ _ _ _ HDD.out hf6⟩
end
section
variable {wS w:World} {Z:Zd} {c:Cf} {ts:List Tm} {xs:List Int} {d:Ds}
theorem zsf (h:DsM wS w Z c ts xs d) (e:Ev) (hh:d.held=0) (h1: ¬d.at_<(ts.length:Int)) :
  Calls Tryz.prog 83 #[.pointer (some ⟨Z.sb,0,none⟩),.agg #[.int .i64 e.t,.int .u8 e.k,.int .i64 e.n,.int .i64 e.s,.int .i64 e.c,.int .i64 e.m]] w (DstP wS w Z c ts xs (fedD c (txs ts) xs d)):=by
 obtain⟨w0,rb,eb,HW0,HRB,HEB,hm,HFin,HBox,_⟩:=h.boxed2 e
 have c4:w0.cell? ⟨Z.sb,4,none⟩=some (.slice Z.logo Z.M Z.mc):=hm.cell rfl
 have c5:w0.cell? ⟨Z.sb,5,none⟩=some (.int .i64 d.at_):=hm.cell rfl
 have c6:w0.cell? ⟨Z.sb,6,none⟩=some (.int .i64 d.held):=hm.cell rfl
 rw[hh]at c6
 have hM:=hm.len.1
 have hM2: ¬d.at_<(Z.M:Int):=by rw[hM];exact h1
 have hM3:(Z.M:Int)<=d.at_:=by omega
 have HO:Hid (fedD c (txs ts) xs d=((Te.no,false),d)):=by
  show fedD c (txs ts) xs d=_
  unfold fedD
  rw[if_pos hh,if_neg (by rw[zap];exact h1)]
 have HD:Hid (∀W,Fr [] w0 W->Dr wS w0 W Z Z c ts xs d):=fun W hW=>hm.dr.quiet hW
 clear h hm hh h1 hM hM2
 go_enter Tryz.func83,Tryz.ntmps83
 go_upto_region 1 with fail
 rw[HW0.out,HRB.out,HEB.out]
 go_upto_region 2 with fail
 go_quiet (fail)
 have HDq:=HD.out _ (Fr.drewN [] w0 nq)
 have HB:=HBox.out _ _ _ HDq
 have HDD:Hid (Dr _ _ _ _ _ _ _ _ _):=HDq
 clear HDq
 go_wp2_with (refine zab rfl _ _ rfl rb 0 0 0 0 0 0 rfl rfl 0 0 0 0 0 0 HB ?_;intro w6 hw6 hf6)
 refine bodyPost_ret (zai rfl _ _ _ rb _ rfl (zae hw6.out)) rfl ?_
 rw[HO.out]
 exact⟨Z,rfl,HFin.out _ _ _ _ HDD.out hf6⟩
theorem zot (h:DsM wS w Z c ts xs d) (e:Ev) (hh:d.held≠0) (hx:d.held∈xs) :
  Calls Tryz.prog 83 #[.pointer (some ⟨Z.sb,0,none⟩),.agg #[.int .i64 e.t,.int .u8 e.k,.int .i64 e.n,.int .i64 e.s,.int .i64 e.c,.int .i64 e.m]] w (DstP wS w Z c ts xs (fedD c (txs ts) xs d)):=by
 obtain⟨w0,rb,eb,HW0,HRB,HEB,hm,HFin,HBox,_⟩:=h.boxed2 e
 have c7:w0.cell? ⟨Z.sb,7,none⟩=some (.slice Z.bo Z.bn Z.bc):=hm.cell rfl
 have c6:w0.cell? ⟨Z.sb,6,none⟩=some (.int .i64 d.held):=hm.cell rfl
 have z6:=hm.fz 6
 have hne:(d.held==0)=false:=by simpa using hh
 have HO:Hid (fedD c (txs ts) xs d=((⟨2,d.held,0,0⟩,true),{ d with held:=0 })):=by
  show fedD c (txs ts) xs d=_
  unfold fedD
  rw[if_neg hh,if_pos hx]
 have HC:Hid (Calls _ _ _ _ _):=zic Z.bo Z.bn Z.bc xs d.held true w0 (hm.byd.1.keep hm.fr) hm.byd.2.1 ⟨fun _=>hx,fun _=>rfl⟩
 have HF:Hid (∀W,Fr [] w0 W->W.cell? ⟨Z.sb,6,none⟩=some (.int .i64 d.held)/\W.frozen? ⟨Z.sb,6,none⟩=false/\Dr wS w0 (W.setCell ⟨Z.sb,6,none⟩ (.int .i64 0)) Z Z c ts xs { d with held:=0 }):=by
  intro W hW
  have D0:=hm.dr.quiet hW
  exact⟨D0.m.cell rfl,D0.m.fz 6,D0.go (D0.m.held 0)⟩
 clear h hm hh hx
 obtain⟨k,hk⟩: ∃k,k=d.held:=⟨_,rfl⟩
 rw[<-hk]at c6 hne HC HO HF
 clear hk
 go_enter Tryz.func83,Tryz.ntmps83
 go_upto_region 1 with fail
 rw[HW0.out,HRB.out,HEB.out]
 go_wp2_with fail
 refine Calls.mono HC.out ?_
 rintro e1 w1 ⟨rfl,hF1⟩
 obtain⟨i1,i2,i3⟩:=HF.out w1 hF1
 have HB:=HBox.out _ _ _ i3
 have HDD:Hid (Dr _ _ _ _ _ _ _ _ _):=i3
 clear i3 hF1 HF c6 c7 z6
 go_wp2_with (refine zab rfl _ _ rfl rb 0 2 k 0 0 0 rfl rfl 0 0 0 0 0 0 HB ?_;intro w6 hw6 hf6)
 refine bodyPost_ret (zai rfl _ _ _ rb _ rfl (zae hw6.out)) rfl ?_
 rw[HO.out]
 exact⟨Z,rfl,HFin.out _ _ _ _ HDD.out hf6⟩
theorem zou (h:DsM wS w Z c ts xs d) (e:Ev) (hh:d.held≠0) (hx:d.held∉xs) (hw:c.w<d.held-d.ma) (b1:0<=d.held/\d.held<=65536) (b2:0<=d.ma/\d.ma<=65536) :
  Calls Tryz.prog 83 #[.pointer (some ⟨Z.sb,0,none⟩),.agg #[.int .i64 e.t,.int .u8 e.k,.int .i64 e.n,.int .i64 e.s,.int .i64 e.c,.int .i64 e.m]] w (DstP wS w Z c ts xs (fedD c (txs ts) xs d)):=by
 obtain⟨w0,rb,eb,HW0,HRB,HEB,hm,HFin,HBox,_⟩:=h.boxed2 e
 have c7:w0.cell? ⟨Z.sb,7,none⟩=some (.slice Z.bo Z.bn Z.bc):=hm.cell rfl
 have c6:w0.cell? ⟨Z.sb,6,none⟩=some (.int .i64 d.held):=hm.cell rfl
 have z6:=hm.fz 6
 have hne:(d.held==0)=false:=by simpa using hh
 have HO:Hid (fedD c (txs ts) xs d=((Te.no,false),d)):=by
  show fedD c (txs ts) xs d=_
  unfold fedD
  rw[if_neg hh,if_neg hx,if_pos hw]
 have HC:Hid (Calls _ _ _ _ _):=zic Z.bo Z.bn Z.bc xs d.held false w0 (hm.byd.1.keep hm.fr) hm.byd.2.1 ⟨fun e=>(by cases e),fun e=>absurd e hx⟩
 have HF:Hid (∀W,Fr [] w0 W->W.cell? ⟨Z.sb,9,none⟩=some (.pointer (some ⟨Z.g,0,none⟩))/\W.cell? ⟨Z.sb,2,none⟩=some (.int .i64 c.w)/\Hid (∀n,Calls Tryz.prog 87 #[.pointer (some ⟨Z.g,0,none⟩)] (W.drewN n) fun e w'=>e= .returned (.int .i64 d.ma)/\w'=W.drewN n)/\Hid (∀n,Dr wS w0 (W.drewN n) Z Z c ts xs d)):=by
  intro W hW
  have D0:=hm.dr.quiet hW
  exact⟨D0.m.cell rfl,D0.m.cell rfl,fun n=>zew _ ((D0.quiet (Fr.drewN [] W n)).m.pm 1),fun n=>D0.quiet (Fr.drewN [] W n)⟩
 clear h hm hh hx
 obtain⟨k,hk⟩: ∃k,k=d.held:=⟨_,rfl⟩
 rw[<-hk]at c6 hne HC hw b1
 obtain⟨m,hm⟩: ∃m,m=d.ma:=⟨_,rfl⟩
 rw[<-hm]at HF hw b2
 clear hk hm
 obtain⟨b1,b1'⟩:=b1
 obtain⟨b2,b2'⟩:=b2
 go_enter Tryz.func83,Tryz.ntmps83
 go_upto_region 1 with fail
 rw[HW0.out,HRB.out,HEB.out]
 go_wp2_with fail
 refine Calls.mono HC.out ?_
 rintro e1 w1 ⟨rfl,hF1⟩
 obtain⟨i1,i2,HMk,HDn⟩:=HF.out w1 hF1
 clear hF1 HF c6 c7 z6
 go_upto_region 11 with fail
 go_quiet (first|(go_at_call 87;refine Calls.quiet_of_same (HMk.out _)))
 have HB:=HBox.out _ _ _ (HDn.out nq)
 go_wp2_with (refine zab rfl _ _ rfl rb 0 0 0 0 0 0 rfl rfl 0 0 0 0 0 0 HB ?_;intro w6 hw6 hf6)
 refine bodyPost_ret (zai rfl _ _ _ rb _ rfl (zae hw6.out)) rfl ?_
 rw[HO.out]
 exact⟨Z,rfl,HFin.out _ _ _ _ (HDn.out nq) hf6⟩
end
section
variable {wS w:World} {Z:Zd} {c:Cf} {ts:List Tm} {xs:List Int} {d:Ds}
theorem DsM.logAt (h:DsM wS w Z c ts xs d) (i:Nat) (hi:i<ts.length): ∃b off,Z.logo=some ⟨b,off,none⟩/\ ∀W,Fr [] wS W->W.cell? ⟨b,off+i*2,none⟩=some (.int .i64 (ts.getD i Tm.zero).n)/\W.cell? ⟨b,off+i*2+1,none⟩=some (.slice (ts.getD i Tm.zero).ao (ts.getD i Tm.zero).L (ts.getD i Tm.zero).cap)/\(ts.getD i Tm.zero).at W:=by
 obtain⟨b,off,e,_,_⟩:=h.log.lies (by omega)
 refine⟨b,off,e,fun W hW=> ?_⟩
 have hk:=h.log.keep hW
 obtain⟨b',off',e',_,hc⟩:=hk.lies (by omega)
 rw[e]at e'
 cases e'
 exact⟨(hc i hi).c0,(hc i hi).c1,hk.each _ (zbf ts i hi)⟩
set_option maxHeartbeats 8000000 in
theorem zve (h:DsM wS w Z c ts xs d) (e:Ev) (hx:d.held∉xs) (hw: ¬c.w<d.held-d.ma) (b1:1<=d.held/\d.held<=(ts.length:Int)) (b2:0<=d.ma/\d.ma<=65536) (hk:Lk (txs ts)) (hnew: ∀p∈d.L,p.1<d.held) (hl:d.line.length<=1099511627776) :
  Calls Tryz.prog 83 #[.pointer (some ⟨Z.sb,0,none⟩),.agg #[.int .i64 e.t,.int .u8 e.k,.int .i64 e.n,.int .i64 e.s,.int .i64 e.c,.int .i64 e.m]] w (DstP wS w Z c ts xs (fedD c (txs ts) xs d)):=by
 obtain⟨i,hi⟩: ∃i:Nat,d.held=(i:Int)+1:=⟨(d.held-1).toNat,by omega⟩
 have hit:i<ts.length:=by omega
 have hlen:ts.length<=65536:=by have:=hk.len;rwa [zap]at this
 obtain⟨w0,rb,eb,HW0,HRB,HEB,hm,HFin,HBox,_⟩:=h.boxed2 e
 have c7:w0.cell? ⟨Z.sb,7,none⟩=some (.slice Z.bo Z.bn Z.bc):=hm.cell rfl
 have c6:w0.cell? ⟨Z.sb,6,none⟩=some (.int .i64 d.held):=hm.cell rfl
 have z6:=hm.fz 6
 have hh:d.held≠0:=by omega
 have hne:((i:Int)+1==0)=false:=by
  have:(i:Int)+1≠0:=by omega
  simpa using this
 obtain⟨t,ht⟩: ∃t,t=ts.getD i Tm.zero:=⟨_,rfl⟩
 have hidx:(d.held-1).toNat=i:=by omega
 have hws:wsAt (txs ts) d.held=t.ws:=by unfold wsAt;rw[hidx,zcm,ht];rfl
 have htn:t.n=d.held:=by
  have:=hk.num d.held b1.1 (by rw[zap];exact b1.2)
  rw[hidx,zcm,<-ht]at this
  exact this
 have hok:okT d.held t.ws:=by
  have:=hk.tx d.held b1.1 (by rw[zap];exact b1.2)
  rwa [hws]at this
 obtain⟨K,hK⟩: ∃K,K=(adx d.L d.en (zah t.ws)).length:=⟨_,rfl⟩
 have HO:Hid (fedD c (txs ts) xs d=((⟨3,d.held,0,(K:Int)⟩,true),{ d with held:=0,L:=d.L++[(d.held,zah t.ws)],line:=if K=0 then d.line++[d.held] else d.line })):=by
  show fedD c (txs ts) xs d=_
  unfold fedD
  rw[if_neg hh,if_neg hx,if_neg hw,hws,<-hK]
 obtain⟨lgb,off,hlo,hlog⟩:=hm.logAt i hit
 rw[<-ht]at hlog
 have HC:Hid (Calls _ _ _ _ _):=zic Z.bo Z.bn Z.bc xs d.held false w0 (hm.byd.1.keep hm.fr) hm.byd.2.1 ⟨fun e=>(by cases e),fun e=>absurd e hx⟩
 have HF:Hid (∀W,Fr [] w0 W->W.cell? ⟨Z.sb,9,none⟩=some (.pointer (some ⟨Z.g,0,none⟩))/\W.cell? ⟨Z.sb,2,none⟩=some (.int .i64 c.w)/\W.cell? ⟨Z.sb,6,none⟩=some (.int .i64 d.held)/\W.frozen? ⟨Z.sb,6,none⟩=false/\Hid (∀n,Calls Tryz.prog 87 #[.pointer (some ⟨Z.g,0,none⟩)] (W.drewN n) fun e w'=>e= .returned (.int .i64 d.ma)/\w'=W.drewN n)/\Hid (∀n,∃W1,(W.drewN n).setCell ⟨Z.sb,6,none⟩ (.int .i64 0)=W1/\W1.cell? ⟨Z.sb,8,none⟩=some (.pointer (some ⟨Z.tb,0,none⟩))/\W1.cell? ⟨Z.sb,4,none⟩=some (.slice (some ⟨lgb,off,none⟩) Z.M Z.mc)/\W1.cell? ⟨lgb,off+i*2,none⟩=some (.int .i64 d.held)/\W1.cell? ⟨lgb,off+i*2+1,none⟩=some (.slice t.ao t.L t.cap)/\Hid (∀W2,Fr [] W1 W2->Calls Tryz.prog 130 #[.pointer (some ⟨Z.tb,0,none⟩),.agg #[.int .i64 d.held,.slice t.ao t.L t.cap]] W2 fun e w'=>e= .returned (.tuple #[.int .i64 (K:Int),.int .i64 0])/\(w'.cell? ⟨Z.sb,8,none⟩=some (.pointer (some ⟨Z.tb,0,none⟩))/\w'.cell? ⟨Z.sb,4,none⟩=some (.slice (some ⟨lgb,off,none⟩) Z.M Z.mc)/\w'.cell? ⟨lgb,off+i*2,none⟩=some (.int .i64 d.held)/\w'.cell? ⟨lgb,off+i*2+1,none⟩=some (.slice t.ao t.L t.cap))/\ ∃Z2:Zd,Z2.sb=Z.sb/\Dr wS w0 w' Z Z2 c ts xs { d with held:=0,L:=d.L++[(d.held,zah t.ws)] }))):=by
  intro W hW
  have D0:=hm.dr.quiet hW
  refine⟨D0.m.cell rfl,D0.m.cell rfl,D0.m.cell rfl,D0.m.fz 6,fun n=>zew _ ((D0.quiet (Fr.drewN [] W n)).m.pm 1),fun n=> ?_⟩
  have D1:=(D0.quiet (Fr.drewN [] W n))
  have D2:=D1.go (D1.m.held 0)
  obtain⟨l1,l2,l3⟩:=hlog _ D2.m.fr
  refine⟨_,rfl,D2.m.cell rfl,by rw[<-hlo];exact D2.m.cell rfl,by rw[<-htn];exact l1,l2,fun W2 hW2=> ?_⟩
  have D3:=D2.quiet hW2
  have hat:t.at W2:=Tm.at.keep l3 hW2
  obtain⟨a1,a2,a3,a4⟩:=hat
  rw[hK]
  refine (zze (show Td W2 Z.tb Z.RA d.L d.en from D3.m.pm 4) d.held t.ao t.L t.cap t.ws a1 a2 hok hnew).mono ?_
  rintro e w' ⟨RA',rfl,hT,hj,hF⟩
  have D4:=D3.go (D3.m.tab hF hT hj)
  obtain⟨l1,l2,_⟩:=hlog _ D4.m.fr
  exact⟨rfl,⟨D4.m.cell rfl,by rw[<-hlo];exact D4.m.cell rfl,by rw[<-htn];exact l1,l2⟩,{ Z with RA:=RA' },rfl,D4⟩
 have HL:Hid (∀W Z2,Z2.sb=Z.sb->Dr wS w0 W Z Z2 c ts xs { d with held:=0,L:=d.L++[(d.held,zah t.ws)] }-> ∃lo n cl,W.cell? ⟨Z.sb,10,none⟩=some (.slice lo n cl)/\n<=1099511627776/\Hid (QR W lo n cl d.line)/\Hid (∀lo' N' c' W',QR W' lo' N' c' (d.line++[d.held])->Fr (qb lo).toList W W'->(qb lo'=qb lo\/ ∃k,qb lo'=some k/\W.heap.size<=k)->W'.cell? ⟨Z.sb,10,none⟩=some (.slice lo n cl)/\W'.frozen? ⟨Z.sb,10,none⟩=false/\ ∃Z3,Dr wS w0 (W'.setCell ⟨Z.sb,10,none⟩ (.slice lo' N' c')) Z Z3 c ts xs { d with held:=0,L:=d.L++[(d.held,zah t.ws)],line:=d.line++[d.held] })):=by
  intro W Z2 z2 D
  have hq:QR W Z2.ln.lo Z2.ln.n Z2.ln.c d.line:=D.m.pm 5
  refine⟨Z2.ln.lo,Z2.ln.n,Z2.ln.c,by rw[<-z2];exact D.m.cell rfl,by rw[hq.len];exact hl,hq,fun lo' N' c' W' hQ hF hm=> ?_⟩
  have hbx:=hF.keep D.m.box (fun hb=>D.m.ne0 (p:=5) (b:=Z2.sb) hb (by decide) rfl)
  rw[<-z2]
  exact⟨by rw[cell_of_row _ _ _ _ _ _ hbx];rfl,by simp[World.frozen?,hbx],_,D.go (D.m.line (w1:=W') ⟨lo',N',c'⟩ _ hF hQ hm)⟩
 have hM:Z.M=ts.length:=hm.len.1
 have hiM:i<Z.M:=by rw[hM];exact hit
 have hiM2:(i:Int)<(Z.M:Int):=by omega
 have hMs:Z.M<=65536:=by omega
 obtain⟨k,hkk⟩: ∃k,k=d.held:=⟨_,rfl⟩
 have HI:Hid (d.held=(i:Int)+1):=hi
 rw[<-hkk]at HC HF HO HL c6 HI hw b1
 have hkp:k=(i:Int)+1:=HI.out
 have hwr:IntKind.i64.wrap (k-1)=(i:Int):=by rw[IntKind.wrap_i64];omega
 have hkne:(k==0)=false:=by
  have:k≠0:=by omega
  simpa using this
 have hk1:1<=k:=b1.1
 have hk2:k<=65536:=by omega
 have hi0:(0:Int)<=(i:Int):=by omega
 obtain⟨b2,b2'⟩:=b2
 have hw2:k-d.ma<=c.w:=by omega
 clear h hm hx hlog hlo hnew hok htn hws hK ht hidx hkk hl hh hi hlen hk b1 hit hM z6 HI hkp hne hw
 go_enter Tryz.func83,Tryz.ntmps83
 go_upto_region 1 with fail
 rw[HW0.out,HRB.out,HEB.out]
 go_wp2_with fail
 refine Calls.mono HC.out ?_
 rintro e1 w1 ⟨rfl,hF1⟩
 obtain⟨i1,i2,i3,i4,HMk,HW1⟩:=HF.out w1 hF1
 clear hF1 HF c6 c7
 go_upto_region 11 with fail
 go_quiet (first|(go_at_call 87;refine Calls.quiet_of_same (HMk.out _)))
 obtain⟨W1,hW1,j1,j2,j3,j4,HT⟩:=HW1.out nq
 have HWW:Hid (_=W1):=hW1
 clear hW1
 go_upto_region 14 with fail
 rw[HWW.out]
 clear HWW i1 i2 i3 i4 HMk HW1
 go_region_held3 (fun W=>W.cell? ⟨Z.sb,8,none⟩=some (.pointer (some ⟨Z.tb,0,none⟩))/\W.cell? ⟨Z.sb,4,none⟩=some (.slice (some ⟨lgb,off,none⟩) Z.M Z.mc)/\W.cell? ⟨lgb,off+i*2,none⟩=some (.int .i64 k)/\W.cell? ⟨lgb,off+i*2+1,none⟩=some (.slice t.ao t.L t.cap)) (go_keep)
  (first
   | (with_reducible refine Calls.mono (HT.out _ (Fr.drew _ _)) ?_;rintro e2 w2 ⟨rfl,⟨y1,y2,y3,y4⟩,Z2,z2,D2⟩))
 obtain⟨lo,n,cl,x1,x2,HQ,HLn⟩:=HL.out w2 Z2 z2 D2
 have HD2:Hid (Dr _ _ _ _ _ _ _ _ _):=D2
 clear y1 y2 y3 y4 j1 j2 j3 j4 HT HL D2 z2
 by_cases hK0:K=0
 ·subst hK0
  rw[if_pos rfl]at HO
  go_wp2_with (first
   | (at_builtin;refine zdi w2 rfl _ _ rfl lo n cl d.line k rfl HQ.out x2 rfl ?_;intro lo' c' w5 hQ5 hF5 hm5;obtain⟨p1,p2,Z3,p3⟩:=HLn.out lo' _ c' w5 hQ5 hF5 hm5;have HE:Hid (Dr _ _ _ _ _ _ _ _ _):=p3;have HB:=HBox.out _ _ _ p3;clear p3 hQ5 hF5 hm5)
   | (refine zab rfl _ _ rfl rb 0 3 k 0 0 0 rfl rfl 0 0 0 0 0 0 HB ?_;intro w6 hw6 hf6))
  refine bodyPost_ret (zai rfl _ _ _ rb _ rfl (zae hw6.out)) rfl ?_
  rw[HO.out]
  exact⟨Z3,rfl,HFin.out _ _ _ _ HE.out hf6⟩
 ·rw[if_neg hK0]at HO
  have hKf:((K:Int)==0)=false:=by
   have:(K:Int)≠0:=by omega
   simpa using this
  have HB:=HBox.out _ _ _ HD2.out
  clear hK0 x1
  go_wp2_with (refine zab rfl _ _ rfl rb 0 3 k 0 K 0 rfl rfl 0 0 0 0 0 0 HB ?_;intro w6 hw6 hf6)
  refine bodyPost_ret (zai rfl _ _ _ rb _ rfl (zae hw6.out)) rfl ?_
  rw[HO.out]
  exact⟨Z2,rfl,HFin.out _ _ _ _ HD2.out hf6⟩
end
section
variable {wS w:World} {Z:Zd} {c:Cf} {ts:List Tm} {xs:List Int} {d:Ds}
theorem DsM.queCell (h:DsM wS w Z c ts xs d) {j:Nat} (hj:j<c.s.toNat):w.cell? ⟨Z.qq,j,none⟩=some (.slice (Z.q j).lo (Z.q j).n (Z.q j).c)/\w.frozen? ⟨Z.qq,j,none⟩=false:=by
 obtain⟨cq,q1,q2,q3⟩:=h.pm 3
 exact⟨by rw[cell_of_row _ _ _ _ _ _ q1];exact q3 j hj,by simp[World.frozen?,q1]⟩
theorem DsM.lanCell (h:DsM wS w Z c ts xs d) {i:Nat} (hi:i<c.l.toNat):(w.cell? ⟨Z.lb,5*i,none⟩=some (.int .i64 (d.lan i).n)/\(∃wo M mc,w.cell? ⟨Z.lb,5*i+1,none⟩=some (.slice wo M mc)/\((d.lan i).has=true->1<=(d.lan i).n/\ ∃t,ts[((d.lan i).n-1).toNat]? = some t/\wo=t.ao/\M=t.L/\mc=t.cap))/\w.cell? ⟨Z.lb,5*i+2,none⟩=some (.bool (d.lan i).has)/\w.cell? ⟨Z.lb,5*i+3,none⟩=some (.int .i64 ((d.lan i).sent:Int))/\w.cell? ⟨Z.lb,5*i+4,none⟩=some (.int .i64 ((d.lan i).acked:Int)))/\ ∀j,w.frozen? ⟨Z.lb,j,none⟩=false:=by
 obtain⟨cq,q1,q2,q3⟩:=h.pm 2
 have hc:=q3 i hi
 obtain⟨wo,M,mc,hc1,hc2⟩:=hc.c1
 have hr: ∀j,w.cell? ⟨Z.lb,j,none⟩=cq[j]? :=fun j=>cell_of_row _ _ _ _ _ _ q1
 exact⟨⟨by rw[hr];exact hc.c0,⟨wo,M,mc,by rw[hr];exact hc1,hc2⟩,by rw[hr];exact hc.c2,by rw[hr];exact hc.c3,by rw[hr];exact hc.c4⟩,fun j=>by simp[World.frozen?,q1]⟩
theorem DsM.ack (h:DsM wS w Z c ts xs d) {i:Nat} (hi:i<c.l.toNat):DsM wS (w.setCell ⟨Z.lb,5*i+4,none⟩ (.int .i64 (((d.lan i).acked+1:Nat):Int))) Z c ts xs { d with lan:=upd d.lan i { d.lan i with acked:=(d.lan i).acked+1 } }/\Mvd w Z (w.setCell ⟨Z.lb,5*i+4,none⟩ (.int .i64 (((d.lan i).acked+1:Nat):Int))) Z:=by
 obtain⟨cq,q1,q2,q3⟩:=h.pm 2
 refine h.lans (Fr.set (S:=[Z.lb]) w _ _ (by simp)) ⟨_,zag _ q1,by simpa using q2,fun j hj=> ?_⟩
 have hc:=q3 j hj
 show LnAt _ j ts (upd d.lan i _ j)
 by_cases e:j=i
 ·subst e
  rw[zad]
  refine⟨?_,?_,?_,?_,?_⟩
  ·rw[Array.getElem?_setIfInBounds_ne (by omega)];exact hc.c0
  ·rw[Array.getElem?_setIfInBounds_ne (by omega)];exact hc.c1
  ·rw[Array.getElem?_setIfInBounds_ne (by omega)];exact hc.c2
  ·rw[Array.getElem?_setIfInBounds_ne (by omega)];exact hc.c3
  ·rw[Array.getElem?_setIfInBounds_self_of_lt (by omega)]
 ·rw[zaa _ _ e]
  refine⟨?_,?_,?_,?_,?_⟩
  ·rw[Array.getElem?_setIfInBounds_ne (by omega)];exact hc.c0
  ·rw[Array.getElem?_setIfInBounds_ne (by omega)];exact hc.c1
  ·rw[Array.getElem?_setIfInBounds_ne (by omega)];exact hc.c2
  ·rw[Array.getElem?_setIfInBounds_ne (by omega)];exact hc.c3
  ·rw[Array.getElem?_setIfInBounds_ne (by omega)];exact hc.c4
set_option maxHeartbeats 4000000 in
theorem zov (h:DsM wS w Z c ts xs d) (k:Nat) (hk:k<c.s.toNat) (hR:d.que k=[]) :
  Calls Tryz.prog 85 #[.pointer (some ⟨Z.sb,0,none⟩),.int .i64 (k:Int)] w (DstP wS w Z c ts xs (ownD d k)):=by
 obtain⟨w0,rb,HW0,HRB,h0,HFin,HBox⟩:=h.boxed
 have hs:=h.may.2.1
 clear h
 have hQ:QW w0 (Z.q k).lo (Z.q k).n (Z.q k).c (d.que k):=h0.pm (k+8)
 have c13:w0.cell? ⟨Z.sb,13,none⟩=some (.slice (some ⟨Z.qq,0,none⟩) c.s.toNat c.s.toNat):=h0.cell rfl
 obtain⟨cq,_⟩:=h0.queCell hk
 have hn:(Z.q k).n=0:=by rw[hQ.len,hR];rfl
 rw[hn]at cq
 have HO:Hid (ownD d k=((Te.no,false),d)):=by unfold ownD;show (match d.que k with|[]=>_|n::r=>_)=_;rw[hR]
 have HD:Hid (Dr wS w0 w0 Z Z c ts xs d):=h0.dr
 have HB:=HBox.out _ _ _ h0.dr
 obtain⟨S,hS⟩: ∃S,S=c.s.toNat:=⟨_,rfl⟩
 have hk2:(k:Int)<(S:Int):=by omega
 have hS2:S<=16:=by omega
 rw[<-hS]at c13 hk
 clear hQ hn h0 hS hs
 go_enter Tryz.func85,Tryz.ntmps85
 go_upto_region 1 with fail
 rw[HW0.out,HRB.out]
 go_wp2_with (refine zab rfl _ _ rfl rb 0 0 0 0 0 0 rfl rfl 0 0 0 0 0 0 HB ?_;intro w3 hw3 hf3)
 refine bodyPost_ret (zai rfl _ _ _ rb _ rfl (zae hw3.out)) rfl ?_
 rw[HO.out]
 exact⟨Z,rfl,HFin.out _ _ _ _ HD.out hf3⟩
end
section
variable {wS w:World} {Z:Zd} {c:Cf} {ts:List Tm} {xs:List Int} {d:Ds}
set_option maxHeartbeats 4000000 in
theorem zow (h:DsM wS w Z c ts xs d) (e:Ev) (i:Nat) (hi:i<c.l.toNat) (het:e.t=(i:Int)+1) (hh:(d.lan i).has=false) (hR:d.line=[]) :
  Calls Tryz.prog 84 #[.pointer (some ⟨Z.sb,0,none⟩),.agg #[.int .i64 e.t,.int .u8 e.k,.int .i64 e.n,.int .i64 e.s,.int .i64 e.c,.int .i64 e.m]] w (DstP wS w Z c ts xs (lanD c (txs ts) d i)):=by
 obtain⟨w0,rb,eb,HW0,HRB,HEB,hm,HFin,HBox,HEbx⟩:=h.boxed2 e
 have hls:=h.may.1
 have hE:=HEbx.out _ _ _ hm.dr
 have et:w0.cell? ⟨eb,0,none⟩=some (.int .i64 e.t):=by rw[cell_of_row _ _ _ _ _ _ hE];rfl
 have c12:w0.cell? ⟨Z.sb,12,none⟩=some (.slice (some ⟨Z.lb,0,none⟩) c.l.toNat c.l.toNat):=hm.cell rfl
 obtain⟨⟨_,_,l2,_,_⟩,_⟩:=hm.lanCell hi
 rw[hh,Nat.mul_comm 5 i]at l2
 have hQ:QR w0 Z.ln.lo Z.ln.n Z.ln.c d.line:=hm.pm 5
 have c10:w0.cell? ⟨Z.sb,10,none⟩=some (.slice Z.ln.lo Z.ln.n Z.ln.c):=hm.cell rfl
 have hn:Z.ln.n=0:=by rw[hQ.len,hR];rfl
 rw[hn]at c10
 have HO:Hid (lanD c (txs ts) d i=((Te.no,false),d)):=by
  show lanD c (txs ts) d i=_
  unfold lanD
  rw[if_pos hh,hR]
 have HD:Hid (∀W,Fr [] w0 W->Dr wS w0 W Z Z c ts xs d):=fun W hW=>hm.dr.quiet hW
 obtain⟨Ln,hLn⟩: ∃Ln,Ln=c.l.toNat:=⟨_,rfl⟩
 rw[<-hLn]at c12 hi
 obtain⟨t,ht⟩: ∃t,t=e.t:=⟨_,rfl⟩
 have hwr:IntKind.i64.wrap (t-1)=(i:Int):=by rw[IntKind.wrap_i64,ht,het];omega
 rw[<-ht]at et
 have hi2:(i:Int)<(Ln:Int):=by omega
 have hi0:(0:Int)<=(i:Int):=by omega
 have ht1:1<=t:=by omega
 have ht2:t<=65536:=by omega
 clear h hm hE hQ hn hLn het ht hR hh hls
 go_enter Tryz.func84,Tryz.ntmps84
 go_upto_region 1 with fail
 rw[HW0.out,HRB.out,HEB.out]
 go_quiet (fail)
 have HDq:=HD.out _ (Fr.drewN [] w0 nq)
 have HB:=HBox.out _ _ _ HDq
 have HDD:Hid (Dr _ _ _ _ _ _ _ _ _):=HDq
 clear HDq
 go_wp2_with (refine zab rfl _ _ rfl rb 0 0 0 0 0 0 rfl rfl 0 0 0 0 0 0 HB ?_;intro w6 hw6 hf6)
 refine bodyPost_ret (zai rfl _ _ _ rb _ rfl (zae hw6.out)) rfl ?_
 rw[HO.out]
 exact⟨Z,rfl,HFin.out _ _ _ _ HDD.out hf6⟩
end
def zex (W:World) (b o:Nat) (v0 v1 v2 v3 v4:Value):World:=((((W.setCell ⟨b,o,none⟩ v0).setCell ⟨b,o+1,none⟩ v1).setCell ⟨b,o+2,none⟩ v2).setCell ⟨b,o+3,none⟩ v3).setCell ⟨b,o+4,none⟩ v4
section
variable {wS w:World} {Z:Zd} {c:Cf} {ts:List Tm} {xs:List Int} {d:Ds}
theorem DsM.take (h:DsM wS w Z c ts xs d) {i:Nat} (hi:i<c.l.toNat) (t:Tm) (n:Int) (hn:1<=n) (ht:ts[(n-1).toNat]? = some t):DsM wS (zex w Z.lb (i*5) (.int .i64 n) (.slice t.ao t.L t.cap) (.bool true) (.int .i64 0) (.int .i64 0)) Z c ts xs { d with lan:=upd d.lan i ⟨n,true,0,0⟩ }/\Mvd w Z (zex w Z.lb (i*5) (.int .i64 n) (.slice t.ao t.L t.cap) (.bool true) (.int .i64 0) (.int .i64 0)) Z:=by
 obtain⟨cq,q1,q2,q3⟩:=h.pm 2
 have hF:Fr [Z.lb] w (zex w Z.lb (i*5) (.int .i64 n) (.slice t.ao t.L t.cap) (.bool true) (.int .i64 0) (.int .i64 0)):=((((Fr.set w _ _ (by simp)).then (Fr.set _ _ _ (by simp))).then (Fr.set _ _ _ (by simp))).then (Fr.set _ _ _ (by simp))).then (Fr.set _ _ _ (by simp))
 refine h.lans hF ⟨_,zag _ (zag _ (zag _ (zag _ (zag _ q1)))),by simpa using q2,fun j hj=> ?_⟩
 have hc:=q3 j hj
 show LnAt _ j ts (upd d.lan i _ j)
 by_cases e:j=i
 ·subst e
  rw[zad]
  refine⟨?_,⟨t.ao,t.L,t.cap,?_,fun _=>⟨hn,t,ht,rfl,rfl,rfl⟩⟩,?_,?_,?_⟩
  ·simp only[Array.getElem?_setIfInBounds,Array.size_setIfInBounds]
   rw[if_neg (by omega),if_neg (by omega),if_neg (by omega),if_neg (by omega),if_pos (by omega),if_pos (by omega)]
  ·simp only[Array.getElem?_setIfInBounds,Array.size_setIfInBounds]
   rw[if_neg (by omega),if_neg (by omega),if_neg (by omega),if_pos (by omega),if_pos (by omega)]
  ·simp only[Array.getElem?_setIfInBounds,Array.size_setIfInBounds]
   rw[if_neg (by omega),if_neg (by omega),if_pos (by omega),if_pos (by omega)]
  ·simp only[Array.getElem?_setIfInBounds,Array.size_setIfInBounds]
   rw[if_neg (by omega),if_pos (by omega),if_pos (by omega)]
   rfl
  ·simp only[Array.getElem?_setIfInBounds,Array.size_setIfInBounds]
   rw[if_pos (by omega),if_pos (by omega)]
   rfl
 ·rw[zaa _ _ e]
  obtain⟨wo,M,mc,h1,h2⟩:=hc.c1
  refine⟨?_,⟨wo,M,mc,?_,h2⟩,?_,?_,?_⟩
  ·simp only[Array.getElem?_setIfInBounds,Array.size_setIfInBounds]
   rw[if_neg (by omega),if_neg (by omega),if_neg (by omega),if_neg (by omega),if_neg (by omega)];exact hc.c0
  ·simp only[Array.getElem?_setIfInBounds,Array.size_setIfInBounds]
   rw[if_neg (by omega),if_neg (by omega),if_neg (by omega),if_neg (by omega),if_neg (by omega)];exact h1
  ·simp only[Array.getElem?_setIfInBounds,Array.size_setIfInBounds]
   rw[if_neg (by omega),if_neg (by omega),if_neg (by omega),if_neg (by omega),if_neg (by omega)];exact hc.c2
  ·simp only[Array.getElem?_setIfInBounds,Array.size_setIfInBounds]
   rw[if_neg (by omega),if_neg (by omega),if_neg (by omega),if_neg (by omega),if_neg (by omega)];exact hc.c3
  ·simp only[Array.getElem?_setIfInBounds,Array.size_setIfInBounds]
   rw[if_neg (by omega),if_neg (by omega),if_neg (by omega),if_neg (by omega),if_neg (by omega)];exact hc.c4
end
theorem zzg (xs:List Dc) (j:Nat) (v:Value) (h:(csC xs)[j]? = some v): ∃(hi:j/4<xs.length),(cC xs[j/4])[j%4]? = some v:=by
 have hl:=(List.getElem?_eq_some_iff.1 h).1
 rw[zev]at hl
 have hi:j/4<xs.length:=by omega
 have:=zgb xs (j/4) (j%4) hi (by omega)
 rw[show j/4*4+j%4=j by omega]at this
 exact⟨hi,this.symm.trans h⟩
theorem QC.set {w:World} {lo:Option Addr} {n c:Nat} {xs:List Dc} (h:QC w lo n c xs) (i k:Nat) (hi:i<xs.length) (hk:k<4) (v:Value) (y:Dc) (hy:(cC xs[i]).set k v=cC y) :
  ∃b off,lo=some ⟨b,off,none⟩/\QC (w.setCell ⟨b,off+i*4+k,none⟩ v) lo n c (xs.set i y)/\w.frozen? ⟨b,off+i*4+k,none⟩=false/\Fr (qb lo).toList w (w.setCell ⟨b,off+i*4+k,none⟩ v):=by
 have hl:=h.len
 have hf:=h.fit
 rcases h.row with ⟨_,h1⟩|⟨b,off,cur,rfl,hb,hoc,hc⟩
 ·omega
 ·refine⟨b,off,rfl,⟨by rw[List.length_set];exact hl,hf,.inr ⟨b,off,_,rfl,zag v hb,by simpa using hoc,fun j u hj=> ?_⟩⟩,by simp[World.frozen?,hb],(Fr.set (S:=[b]) w _ _ (by simp)).mono (by simp[qb])⟩
  obtain⟨hi2,hj2⟩:=zzg _ _ _ hj
  rw[List.length_set]at hi2
  have hsz:off+i*4+k<cur.size:=by omega
  by_cases e:j=i*4+k
  ·subst e
   have e1:(i*4+k)/4=i:=by omega
   have e2:(i*4+k)%4=k:=by omega
   simp only[e1,e2,List.getElem_set_self]at hj2
   rw[<-hy,List.getElem?_set_self (by show k<4;exact hk)]at hj2
   rw[<-Nat.add_assoc,Array.getElem?_setIfInBounds_self_of_lt hsz]
   exact hj2
  ·rw[Array.getElem?_setIfInBounds_ne (by omega)]
   refine hc j u ?_
   have hg:=zgb xs (j/4) (j%4) hi2 (by omega)
   rw[show j/4*4+j%4=j by omega]at hg
   rw[hg]
   by_cases e3:j/4=i
   ·have e4:j%4≠k:=by omega
    simp only[e3,List.getElem_set_self]at hj2
    rw[<-hy,List.getElem?_set_ne (fun q=>e4 q.symm)]at hj2
    simp only[e3]
    exact hj2
   ·rw[List.getElem_set_ne (fun q=>e3 q.symm)]at hj2
    exact hj2
theorem zsn {wS w:World} {Z:Zd} {c:Cf} {ts:List Tm} {xs:List Int} {d:Ds} (h:DsM wS w Z c ts xs d) (e:Ev) (h0:0<=d.at_) (b1:d.held≠0->1<=d.held/\d.held<=(ts.length:Int)) (b2:0<=d.ma/\d.ma<=65536) (hk:Lk (txs ts)) (hnew:d.held≠0->d.held∉xs-> ∀p∈d.L,p.1<d.held) (hl:d.line.length<=1099511627776) :
  Calls Tryz.prog 83 #[.pointer (some ⟨Z.sb,0,none⟩),.agg #[.int .i64 e.t,.int .u8 e.k,.int .i64 e.n,.int .i64 e.s,.int .i64 e.c,.int .i64 e.m]] w (DstP wS w Z c ts xs (fedD c (txs ts) xs d)):=by
 have hlen:ts.length<=65536:=by have:=hk.len;rwa [zap]at this
 by_cases hh:d.held=0
 ·by_cases h1:d.at_<(ts.length:Int)
  ·exact zos h e hh h0 h1 hlen
  ·exact zsf h e hh h1
 ·have b:=b1 hh
  by_cases hx:d.held∈xs
  ·exact zot h e hh hx
  ·by_cases hw:c.w<d.held-d.ma
   ·exact zou h e hh hx hw ⟨by omega,by omega⟩ b2
   ·exact zve h e hx hw b b2 hk (hnew hh hx) hl
end Go.Proofs.YtaaghcimfcjehaaGreatDoor
