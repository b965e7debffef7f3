/- Contracts and plain lemmas of this claim. -/
import Derived.Test.YtaaghcimfcjehaaGreatDoorGp27
set_option linter.unusedSimpArgs false
set_option linter.unusedVariables false
namespace Go.Proofs.YtaaghcimfcjehaaGreatDoor
open Go.ChangeShapes Go.WideShapes Go.ChangeAt Go.RowKit Go.Lib Go.Maps
section
variable {wS w:World} {Z:Zd} {c:Cf} {ts:List Tm} {xs:List Int} {d:Ds}
set_option maxHeartbeats 8000000 in
set_option maxRecDepth 100000 in
theorem zmh (h:DsM wS w Z c ts xs d) (k:Nat) (hk:k<c.s.toNat) (i:Nat) (nn:Int) (r:List (Int×Int)) (hR:d.que k=((i:Int)+1,nn)::r) (hi:i<c.l.toNat) (ha:(d.lan i).acked<1099511627776) :
  Calls Tryz.prog 85 #[.pointer (some ⟨Z.sb,0,none⟩),.int .i64 (k:Int)] w (DstP wS w Z c ts xs (ownD d k)):=by
 obtain⟨w0,rb,HW0,HRB,h0,HFin,HBox⟩:=h.boxed
 have hs:=h.may.2.1
 have hls:=h.may.1
 clear h
 have hQ:QW w0 (Z.q k).lo (Z.q k).n (Z.q k).c (((i:Int)+1,nn)::r):=by rw[<-hR];exact h0.pm (k+8)
 obtain⟨gb,off,e1,hc0,hN,hK⟩:=hQ.tail
 obtain⟨gb',off',e1',hgl,hcell⟩:=hQ.cell (by omega)
 rw[e1]at e1'
 cases e1'
 have hx0:w0.cell? ⟨gb,off,none⟩=some (.int .i64 ((i:Int)+1)):=hcell 0 0 (by simp) (by decide)
 have hx1:w0.cell? ⟨gb,off+1,none⟩=some (.int .i64 nn):=hcell 0 1 (by simp) (by decide)
 have hfit:=hQ.fit
 obtain⟨gc,hgc⟩: ∃gc,gc=(Z.q k).c:=⟨_,rfl⟩
 obtain⟨so,hso⟩: ∃so,so=(if gc=1 then some (⟨gb,off,none⟩:Addr) else some ⟨gb,off+2,none⟩):=⟨_,rfl⟩
 obtain⟨k1,k2⟩:=hK so (by rw[hso,hgc])
 have c13:w0.cell? ⟨Z.sb,13,none⟩=some (.slice (some ⟨Z.qq,0,none⟩) c.s.toNat c.s.toNat):=h0.cell rfl
 obtain⟨cq,_⟩:=h0.queCell hk
 rw[e1,hN,<-hgc]at cq
 rw[hN,<-hgc]at hfit k1
 rw[<-hgc]at hc0
 rw[Nat.add_sub_cancel]at k1
 have HO:Hid (ownD d k=((⟨7,nn,(k:Int),0⟩,true),{ d with que:=upd d.que k r,lan:=upd d.lan i { d.lan i with acked:=(d.lan i).acked+1 } })):=by
  show ownD d k=_
  unfold ownD
  rw[hR]
  have e:((i:Int)+1-1).toNat=i:=by omega
  simp only[e]
  rw[if_pos (by omega),if_pos (by omega)]
 obtain⟨wb,HWB⟩: ∃wb,Hid (w0.heap.size=wb):=⟨_,rfl⟩
 obtain⟨wa,HWA⟩: ∃wa,Hid (w0.alloc (.cells #[.int .i64 0,.int .i64 0] 210)=wa):=⟨_,rfl⟩
 have hA:Fr [] w0 wa:=by rw[<-HWA.out];exact Fr.alloc _ _ _
 have hbA:wa.heap[wb]? = some (.cells #[.int .i64 0,.int .i64 0] 210 (0,0)):=by rw[<-HWA.out,<-HWB.out];exact heap_alloc_new _ _
 have HF:Hid (∀W,Fr [wb] wa W->W.heap[wb]? = some (.cells #[.int .i64 ((i:Int)+1),.int .i64 nn] 210 (0,0))->(W.cell? ⟨Z.sb,13,none⟩=some (.slice (some ⟨Z.qq,0,none⟩) c.s.toNat c.s.toNat)/\W.cell? ⟨Z.qq,k,none⟩=some (.slice (some ⟨gb,off,none⟩) (r.length+1) gc)/\W.frozen? ⟨Z.qq,k,none⟩=false)/\Hid (∀W',Fr [] W W'-> ∃W2 Z2,Hid (W'.setCell ⟨Z.qq,k,none⟩ (.slice so r.length (gc-1))=W2)/\Dr wS w0 W2 Z Z2 c ts xs { d with que:=upd d.que k r }/\W2.cell? ⟨wb,0,none⟩=some (.int .i64 ((i:Int)+1))/\W2.cell? ⟨wb,1,none⟩=some (.int .i64 nn)/\W2.cell? ⟨Z.sb,12,none⟩=some (.slice (some ⟨Z.lb,0,none⟩) c.l.toNat c.l.toNat)/\W2.cell? ⟨Z.lb,5*i+4,none⟩=some (.int .i64 ((d.lan i).acked:Int))/\W2.frozen? ⟨Z.lb,5*i+4,none⟩=false/\Hid (∀W3,Fr [] W2 W3->Dr wS w0 (W3.setCell ⟨Z.lb,5*i+4,none⟩ (.int .i64 ((d.lan i).acked+1))) Z Z2 c ts xs { d with que:=upd d.que k r,lan:=upd d.lan i { d.lan i with acked:=(d.lan i).acked+1 } }/\(W3.setCell ⟨Z.lb,5*i+4,none⟩ (.int .i64 ((d.lan i).acked+1))).cell? ⟨wb,1,none⟩=some (.int .i64 nn)))):=by
  intro W hW hb
  have hW0:Fr [] w0 W:=hA.on hW (by intro x hx;simp at hx;rw[hx,HWB.out];exact Nat.le_refl _)
  have D0:=h0.dr.quiet hW0
  obtain⟨m1,m2⟩:=D0.m.queCell hk
  rw[e1,hN,<-hgc]at m1
  refine⟨⟨D0.m.cell rfl,m1,m2⟩,fun W' hW'=> ?_⟩
  have D1:=D0.quiet hW'
  have hwbn: ∀p,wb∉Z.part p:=fun p hp=>by have:=(h0.pm p).lt _ hp;have:=HWB.out;omega
  have hk1:QW W' so r.length (gc-1) r:=k1.keep (hW0.then hW') (by simp)
  have D2:=D1.go (D1.m.queue hk (w1:=W') ⟨so,r.length,gc-1⟩ r (Fr.refl _ _) hk1 (Or.inl k2))
  have hne:wb≠Z.qq:=fun e=>hwbn 3 (by simp[Zd.part,e])
  have hne2:wb≠Z.lb:=fun e=>hwbn 2 (by simp[Zd.part,e])
  have hb2:=(Fr.set (S:=[Z.qq]) W' ⟨Z.qq,k,none⟩ (.slice so r.length (gc-1)) (by simp)).keep (hW'.keep hb (by simp)) (by simpa using hne)
  obtain⟨⟨_,_,_,_,l4⟩,lf⟩:=D2.m.lanCell hi
  refine⟨_,_,rfl,D2,by rw[cell_of_row _ _ _ _ _ _ hb2];rfl,by rw[cell_of_row _ _ _ _ _ _ hb2];rfl,D2.m.cell rfl,l4,lf _,fun W3 hW3=> ?_⟩
  have D3:=D2.quiet hW3
  have D4:=D3.go (D3.m.ack hi)
  have hb3:=(Fr.set (S:=[Z.lb]) W3 ⟨Z.lb,5*i+4,none⟩ (.int .i64 ((d.lan i).acked+1)) (by simp)).keep (hW3.keep hb2 (by simp)) (by simpa using hne2)
  exact⟨D4,by rw[cell_of_row _ _ _ _ _ _ hb3];rfl⟩
 obtain⟨S,hS⟩: ∃S,S=c.s.toNat:=⟨_,rfl⟩
 obtain⟨Ln,hLn⟩: ∃Ln,Ln=c.l.toNat:=⟨_,rfl⟩
 have hk2:(k:Int)<(S:Int):=by omega
 have hS2:S<=16:=by omega
 have hi2:(i:Int)<(Ln:Int):=by omega
 have hL2:Ln<=16:=by omega
 rw[<-hS]at c13 hk HF
 rw[<-hLn]at hi HF
 rw[show 5*i=i*5 from Nat.mul_comm 5 i]at HF
 have HSO:Hid (so=(if gc=1 then some (⟨gb,off,none⟩:Addr) else some ⟨gb,off+2,none⟩)):=hso
 obtain⟨f,hf⟩: ∃f,f=(i:Int)+1:=⟨_,rfl⟩
 rw[<-hf]at hx0 HF
 have hwr:IntKind.i64.wrap (f-1)=(i:Int):=by rw[IntKind.wrap_i64];omega
 have hf0:0<f:=by omega
 have hi0:(0:Int)<=(i:Int):=by omega
 have hr1:(1:Int)<=(r.length:Int)+1:=by omega
 obtain⟨ac,hac⟩: ∃ac:Nat,ac=(d.lan i).acked:=⟨_,rfl⟩
 rw[<-hac]at ha
 clear hQ hN h0 hS hs hLn hls hK k1 k2 hcell hgc e1 hso hR hgl hA hf
 by_cases g1:gc=1
 ·have hs1:so=some ⟨gb,off,none⟩:=by rw[HSO.out,if_pos g1]
  clear HSO
  subst g1
  subst hs1
  have e0:1-1=0:=rfl
  obtain rfl:r=[]:=List.eq_nil_of_length_eq_zero (by omega)
  simp only[e0,List.length_nil,Nat.zero_add]at HF cq hr1 hfit
  go_enter Tryz.func85,Tryz.ntmps85
  go_upto_region 1 with fail
  rw[HW0.out,HRB.out]
  go_upto_region 4 with (rw[HWA.out,HWB.out];refine zbd rfl 210 _ _ rfl wb #[.int .i64 f,.int .i64 nn] rfl rfl 210 _ hbA (by kernel_rfl) rfl (by simp[Value.oneCell']) ?_;intro w1 hw1 hf1)
  obtain⟨⟨i1,i2,i3⟩,HG⟩:=HF.out w1 hf1 hw1.out
  clear c13 cq hx0 hx1 hbA hf1
  simp only[Act.put]
  go_region
  obtain⟨W2,Z2,HW2,j0,j1,j2,j3,j4,j5,HA⟩:=HG.out _ (Fr.refl [] w1)
  rw[HW2.out]
  clear HG HW2 i1 i2 i3 j0 HF
  rw[<-hac]at j4
  go_upto_region 6 with fail
  go_region
  obtain⟨D4,n1⟩:=HA.out _ (Fr.refl [] W2)
  have D5:=D4.quiet ((Fr.drew [] _).then (Fr.drew [] _))
  have HB:=HBox.out _ _ _ D5
  have HD5:Hid (Dr _ _ _ _ _ _ _ _ _):=D5
  clear HA D4 D5 j1 j2 j3 j4 j5
  go_wp2_with (refine zab rfl _ _ rfl rb 0 7 nn k 0 0 rfl rfl 0 0 0 0 0 0 HB ?_;intro w6 hw6 hf6)
  refine bodyPost_ret (zai rfl _ _ _ rb _ rfl (zae hw6.out)) rfl ?_
  rw[HO.out]
  exact⟨Z2,rfl,HFin.out _ _ _ _ HD5.out hf6⟩
 ·have hs1:so=some ⟨gb,off+2,none⟩:=by rw[HSO.out,if_neg g1]
  clear HSO
  subst hs1
  go_enter Tryz.func85,Tryz.ntmps85
  go_upto_region 1 with fail
  rw[HW0.out,HRB.out]
  go_upto_region 4 with (rw[HWA.out,HWB.out];refine zbd rfl 210 _ _ rfl wb #[.int .i64 f,.int .i64 nn] rfl rfl 210 _ hbA (by kernel_rfl) rfl (by simp[Value.oneCell']) ?_;intro w1 hw1 hf1)
  obtain⟨⟨i1,i2,i3⟩,HG⟩:=HF.out w1 hf1 hw1.out
  clear c13 cq hx0 hx1 hbA hf1
  simp only[Act.put]
  go_region
  obtain⟨W2,Z2,HW2,j0,j1,j2,j3,j4,j5,HA⟩:=HG.out _ (Fr.refl [] w1)
  rw[HW2.out]
  clear HG HW2 i1 i2 i3 j0 HF
  rw[<-hac]at j4
  go_upto_region 6 with fail
  go_region
  obtain⟨D4,n1⟩:=HA.out _ (Fr.refl [] W2)
  have D5:=D4.quiet ((Fr.drew [] _).then (Fr.drew [] _))
  have HB:=HBox.out _ _ _ D5
  have HD5:Hid (Dr _ _ _ _ _ _ _ _ _):=D5
  clear HA D4 D5 j1 j2 j3 j4 j5
  go_wp2_with (refine zab rfl _ _ rfl rb 0 7 nn k 0 0 rfl rfl 0 0 0 0 0 0 HB ?_;intro w6 hw6 hf6)
  refine bodyPost_ret (zai rfl _ _ _ rb _ rfl (zae hw6.out)) rfl ?_
  rw[HO.out]
  exact⟨Z2,rfl,HFin.out _ _ _ _ HD5.out hf6⟩
end
def srvd (f:Int) (l:List Dc) (i:Nat):List Dc:=(l.take i).map (srv f)++l.drop i
theorem zgx (f:Int) (l:List Dc) (i:Nat):(srvd f l i).length=l.length:=by simp[srvd];omega
theorem zso (f:Int) (l:List Dc):srvd f l 0=l:=by simp[srvd]
theorem zvh (f:Int) (l:List Dc) (i:Nat) (h:l.length<=i):srvd f l i=l.map (srv f):=by simp[srvd,List.take_of_length_le h,List.drop_eq_nil_of_le h]
theorem zky (f:Int) (l:List Dc) (i:Nat) (h:i<l.length) (h2:i<(srvd f l i).length):(srvd f l i)[i]=l[i]:=by
 simp only[srvd]
 rw[List.getElem_append_right (by simp;omega)]
 simp only[List.length_map,List.length_take,Nat.min_eq_left (Nat.le_of_lt h),Nat.sub_self,List.getElem_drop,Nat.add_zero]
theorem ziw (f:Int) (l:List Dc) (i:Nat) (h:i<l.length):srvd f l (i+1)=(srvd f l i).set i (srv f l[i]):=by
 have h1:l.take (i+1)=l.take i++[l[i]]:=by rw[List.take_add_one,List.getElem?_eq_getElem h];rfl
 have h2:l.drop i=l[i]::l.drop (i+1):=List.drop_eq_getElem_cons h
 simp only[srvd]
 rw[h1,h2,List.map_append,List.set_append_right _ _ (by simp;omega)]
 simp only[List.length_map,List.length_take,Nat.min_eq_left (Nat.le_of_lt h),Nat.sub_self,List.set_cons_zero,List.map_cons,List.map_nil,List.append_assoc,List.cons_append,List.nil_append]
theorem zxy (f:Int) (l:List Dc) (i:Nat) (h:i<l.length) (hn:l[i].n≠f):srvd f l (i+1)=srvd f l i:=by
 rw[ziw f l i h]
 have e:srv f l[i]=l[i]:=if_neg hn
 rw[e]
 have:=zky f l i h (by rw[zgx];exact h)
 conv=>lhs;rw[<-this]
 exact List.set_getElem_self _
section
variable {wS w:World} {Z:Zd} {c:Cf} {ts:List Tm} {xs:List Int} {d:Ds}
set_option maxHeartbeats 8000000 in
set_option maxRecDepth 100000 in
theorem zmi (h:DsM wS w Z c ts xs d) (k:Nat) (hk:k<c.s.toNat) (f nn:Int) (r:List (Int×Int)) (hR:d.que k=(f,nn)::r) (hf: ¬0<f) (hsv: ∀x∈d.cal,x.served<1099511627776) (hcl:d.cal.length<=1099511627776) :
  Calls Tryz.prog 85 #[.pointer (some ⟨Z.sb,0,none⟩),.int .i64 (k:Int)] w (DstP wS w Z c ts xs (ownD d k)):=by
 obtain⟨w0,rb,HW0,HRB,h0,HFin,HBox⟩:=h.boxed
 have hs:=h.may.2.1
 clear h
 have hQ:QW w0 (Z.q k).lo (Z.q k).n (Z.q k).c ((f,nn)::r):=by rw[<-hR];exact h0.pm (k+8)
 obtain⟨gb,off,e1,hc0,hN,hK⟩:=hQ.tail
 obtain⟨gb',off',e1',hgl,hcell⟩:=hQ.cell (by omega)
 rw[e1]at e1'
 cases e1'
 have hx0:w0.cell? ⟨gb,off,none⟩=some (.int .i64 f):=hcell 0 0 (by simp) (by decide)
 have hx1:w0.cell? ⟨gb,off+1,none⟩=some (.int .i64 nn):=hcell 0 1 (by simp) (by decide)
 have hfit:=hQ.fit
 obtain⟨gc,hgc⟩: ∃gc,gc=(Z.q k).c:=⟨_,rfl⟩
 obtain⟨so,hso⟩: ∃so,so=(if gc=1 then some (⟨gb,off,none⟩:Addr) else some ⟨gb,off+2,none⟩):=⟨_,rfl⟩
 obtain⟨k1,k2⟩:=hK so (by rw[hso,hgc])
 have c13:w0.cell? ⟨Z.sb,13,none⟩=some (.slice (some ⟨Z.qq,0,none⟩) c.s.toNat c.s.toNat):=h0.cell rfl
 obtain⟨cq,_⟩:=h0.queCell hk
 rw[e1,hN,<-hgc]at cq
 rw[hN,<-hgc]at hfit k1
 rw[<-hgc]at hc0
 rw[Nat.add_sub_cancel]at k1
 have HO:Hid (ownD d k=((⟨7,nn,(k:Int),0⟩,true),{ d with que:=upd d.que k r,cal:=d.cal.map (srv f) })):=by
  show ownD d k=_
  unfold ownD
  rw[hR]
  simp only
  rw[if_neg hf,if_neg hf]
 obtain⟨wb,HWB⟩: ∃wb,Hid (w0.heap.size=wb):=⟨_,rfl⟩
 obtain⟨wa,HWA⟩: ∃wa,Hid (w0.alloc (.cells #[.int .i64 0,.int .i64 0] 210)=wa):=⟨_,rfl⟩
 have hA:Fr [] w0 wa:=by rw[<-HWA.out];exact Fr.alloc _ _ _
 have hbA:wa.heap[wb]? = some (.cells #[.int .i64 0,.int .i64 0] 210 (0,0)):=by rw[<-HWA.out,<-HWB.out];exact heap_alloc_new _ _
 have hwbn: ∀p,wb∉Z.part p:=fun p hp=>by have:=(h0.pm p).lt _ hp;have:=HWB.out;omega
 obtain⟨Z2,hZ2⟩: ∃Z2:Zd,Z2={ Z with q:=upd Z.q k ⟨so,r.length,gc-1⟩ }:=⟨_,rfl⟩
 have HF:Hid (∀W,Fr [wb] wa W->W.heap[wb]? = some (.cells #[.int .i64 f,.int .i64 nn] 210 (0,0))->(W.cell? ⟨Z.sb,13,none⟩=some (.slice (some ⟨Z.qq,0,none⟩) c.s.toNat c.s.toNat)/\W.cell? ⟨Z.qq,k,none⟩=some (.slice (some ⟨gb,off,none⟩) (r.length+1) gc)/\W.frozen? ⟨Z.qq,k,none⟩=false)/\ ∃W2,Hid (W.setCell ⟨Z.qq,k,none⟩ (.slice so r.length (gc-1))=W2)/\Hid (Dr wS w0 W2 Z Z2 c ts xs { d with que:=upd d.que k r })/\Hid (W2.heap[wb]? = some (.cells #[.int .i64 f,.int .i64 nn] 210 (0,0)))):=by
  intro W hW hb
  have hW0:Fr [] w0 W:=hA.on hW (by intro x hx;simp at hx;rw[hx,HWB.out];exact Nat.le_refl _)
  have D0:=h0.dr.quiet hW0
  obtain⟨m1,m2⟩:=D0.m.queCell hk
  rw[e1,hN,<-hgc]at m1
  have hk1:QW W so r.length (gc-1) r:=k1.keep hW0 (by simp)
  have D2:=D0.go (D0.m.queue hk (w1:=W) ⟨so,r.length,gc-1⟩ r (Fr.refl _ _) hk1 (Or.inl k2))
  have hne:wb≠Z.qq:=fun e=>hwbn 3 (by simp[Zd.part,e])
  have hb2:=(Fr.set (S:=[Z.qq]) W ⟨Z.qq,k,none⟩ (.slice so r.length (gc-1)) (by simp)).keep hb (by simpa using hne)
  rw[hZ2]
  exact⟨⟨D0.m.cell rfl,m1,m2⟩,_,rfl,D2,hb2⟩
 have hz1:Z2.cl=Z.cl:=by rw[hZ2]
 have hz2:Z2.sb=Z.sb:=by rw[hZ2]
 have HR:Hid (∀W i,Dr wS w0 W Z Z2 c ts xs { d with que:=upd d.que k r,cal:=srvd f d.cal i }->W.heap[wb]? = some (.cells #[.int .i64 f,.int .i64 nn] 210 (0,0))->W.cell? ⟨wb,0,none⟩=some (.int .i64 f)/\W.cell? ⟨wb,1,none⟩=some (.int .i64 nn)/\W.cell? ⟨Z.sb,14,none⟩=some (.slice Z.cl.lo d.cal.length Z.cl.c)/\(i<d.cal.length-> ∃b o n sv,Z.cl.lo=some ⟨b,o,none⟩/\W.cell? ⟨b,o+i*4,none⟩=some (.int .i64 n)/\W.cell? ⟨b,o+i*4+2,none⟩=some (.int .i64 sv)/\0<=sv/\sv<1099511627776/\W.frozen? ⟨b,o+i*4+2,none⟩=false/\Hid (n=f-> ∀W',Fr [] W W'->Dr wS w0 (W'.setCell ⟨b,o+i*4+2,none⟩ (.int .i64 (sv+1))) Z Z2 c ts xs { d with que:=upd d.que k r,cal:=srvd f d.cal (i+1) }/\(W'.setCell ⟨b,o+i*4+2,none⟩ (.int .i64 (sv+1))).heap[wb]? = some (.cells #[.int .i64 f,.int .i64 nn] 210 (0,0)))/\Hid (n≠f->srvd f d.cal (i+1)=srvd f d.cal i))):=by
  intro W i D hb
  have hQC:QC W Z.cl.lo Z.cl.n Z.cl.c (srvd f d.cal i):=by have:=D.m.pm 7;rw[<-hz1];exact this
  have hn:Z.cl.n=d.cal.length:=by rw[hQC.len,zgx]
  refine⟨by rw[cell_of_row _ _ _ _ _ _ hb];rfl,by rw[cell_of_row _ _ _ _ _ _ hb];rfl,?_,fun hi=> ?_⟩
  ·have:=D.m.cell (j:=14) (v:=Z2.cl.v) rfl
   rw[hz2,hz1]at this
   rw[<-hn]
   exact this
  ·have hi2:i<(srvd f d.cal i).length:=by rw[zgx];exact hi
   have hg:=zky f d.cal i hi hi2
   obtain⟨b,o,e,_,hcc⟩:=hQC.cell (by omega)
   have q0:=hcc i 0 hi2 (by decide)
   have q2:=hcc i 2 hi2 (by decide)
   rw[hg]at q0 q2
   have hm:=hsv _ (List.getElem_mem hi)
   obtain⟨b',o',e',_,hz,_⟩:=hQC.set i 2 hi2 (by decide) (.int .i64 0) { d.cal[i] with served:=0 } (by rw[hg];rfl)
   rw[e]at e'
   cases e'
   refine⟨b,o,d.cal[i].n,(d.cal[i].served:Int),e,q0,q2,by omega,by omega,hz,fun hnf W' hW'=> ?_,fun hnf=>zxy f d.cal i hi hnf⟩
   have D1:=D.quiet hW'
   have hQ1:QC W' Z.cl.lo Z.cl.n Z.cl.c (srvd f d.cal i):=hQC.keep hW' (by simp)
   have hsr:srv f d.cal[i]={ d.cal[i] with served:=d.cal[i].served+1 }:=if_pos hnf
   obtain⟨b2,o2,e2,hQ2,_,hF2⟩:=hQ1.set i 2 hi2 (by decide) (.int .i64 ((d.cal[i].served:Int)+1)) (srv f d.cal[i]) (by rw[hg,hsr];rfl)
   rw[e]at e2
   cases e2
   rw[<-ziw f d.cal i hi]at hQ2
   rw[<-hz1]at hQ2 hF2
   refine⟨D1.go (D1.m.cals hF2 hQ2),hF2.keep (hW'.keep hb (by simp)) (fun hm2=> ?_)⟩
   rw[hz1]at hm2
   exact hwbn 7 hm2
 obtain⟨S,hS⟩: ∃S,S=c.s.toNat:=⟨_,rfl⟩
 have hk2:(k:Int)<(S:Int):=by omega
 have hS2:S<=16:=by omega
 rw[<-hS]at c13 hk HF
 have HSO:Hid (so=(if gc=1 then some (⟨gb,off,none⟩:Addr) else some ⟨gb,off+2,none⟩)):=hso
 have hf1:f<=0:=by omega
 have hr1:(1:Int)<=(r.length:Int)+1:=by omega
 have HSA:Hid (∀i,d.cal.length<=i->srvd f d.cal i=d.cal.map (srv f)):=fun i hi=>zvh f d.cal i hi
 have HS0:Hid (srvd f d.cal 0=d.cal):=zso f d.cal
 obtain⟨N,HN⟩: ∃N,Hid (d.cal.length=N):=⟨_,rfl⟩
 rw[HN.out]at hcl
 clear hQ hN h0 hS hs hK k1 k2 hcell hgc e1 hso hR hgl hA hf hZ2 hz1 hz2 hwbn hsv
 by_cases g1:gc=1
 ·have hs1:so=some ⟨gb,off,none⟩:=by rw[HSO.out,if_pos g1]
  clear HSO
  subst g1
  subst hs1
  have e0:1-1=0:=rfl
  obtain rfl:r=[]:=List.eq_nil_of_length_eq_zero (by omega)
  simp only[e0,List.length_nil,Nat.zero_add]at HF cq hr1 hfit
  go_enter Tryz.func85,Tryz.ntmps85
  go_upto_region 1 with fail
  rw[HW0.out,HRB.out]
  go_upto_region 4 with (rw[HWA.out,HWB.out];refine zbd rfl 210 _ _ rfl wb #[.int .i64 f,.int .i64 nn] rfl rfl 210 _ hbA (by kernel_rfl) rfl (by simp[Value.oneCell']) ?_;intro w1 hw1 hf1)
  obtain⟨⟨i1,i2,i3⟩,W2,HW2,HD2,HB2⟩:=HF.out w1 hf1 hw1.out
  clear c13 cq hx0 hx1 hbA hf1
  simp only[Act.put]
  go_region
  rw[HW2.out]
  have D2:=HD2.out.quiet (Fr.drew [] W2)
  have hb2:W2.drew.heap[wb]? = some (.cells #[.int .i64 f,.int .i64 nn] 210 (0,0)):=HB2.out
  obtain⟨W3,hW3⟩: ∃W3,W3=W2.drew:=⟨_,rfl⟩
  rw[<-hW3]at D2 hb2 ⊢
  have HD3:Hid (Dr wS w0 W3 Z Z2 c ts xs { d with que:=upd d.que k [],cal:=srvd f d.cal 0 }/\W3.heap[wb]? = some (.cells #[.int .i64 f,.int .i64 nn] 210 (0,0))):=⟨by rw[HS0.out];exact D2,hb2⟩
  obtain⟨j0,j1,j2,_⟩:=HR.out W3 0 HD3.out.1 HD3.out.2
  clear D2 hb2 hW3 HW2 HD2 HB2 i1 i2 i3 HF
  rw[HN.out]at j2
  go_wp2_with fail
  go_loopw [7] (fun ii wr=> ∃i:Nat,ii= .int .i64 i/\i<=N/\Hid (Dr wS w0 wr Z Z2 c ts xs { d with que:=upd d.que k [],cal:=srvd f d.cal i }/\wr.heap[wb]? = some (.cells #[.int .i64 f,.int .i64 nn] 210 (0,0)))) (fun ii _=>N-(RowKit.intOf ii).toNat)
  case atStart=>exact⟨0,rfl,Nat.zero_le _,HD3⟩
  case round =>
   obtain⟨i,rfl,hi1,HI⟩:=hrel
   obtain⟨m0,m1,m2,mm⟩:=HR.out _ i HI.out.1 HI.out.2
   rw[HN.out]at m2 mm
   clear j0 j1 j2
   by_cases hi:i<N
   ·obtain⟨b,o,n,sv,e,n1,n2,n3,n4,n5,HY,HX⟩:=mm hi
    rw[e]at m2
    have hiN:(i:Int)<(N:Int):=by omega
    clear mm e
    by_cases he:n=f
    ·have hnf:(n==f)=true:=by simpa using he
     have HE:Hid (n=f):=he
     clear he
     go_upto_region 10 with fail
     go_quiet (fail)
     go_wp2
     go_roundw
     case rel=>exact⟨i+1,by simp,by omega,HY.out HE.out _ (Fr.drewN [] _ nq)⟩
     case measure=>simp[RowKit.intOf];omega
    ·have hnf:(n==f)=false:=by simpa using he
     have HE:Hid (n≠f):=he
     clear he
     go_upto_region 10 with fail
     go_quiet (fail)
     go_wp2
     go_roundw
     case rel=>exact⟨i+1,by simp,by omega,by rw[HX.out HE.out];exact HI.out.1.quiet (Fr.drewN [] _ nq),HI.out.2⟩
     case measure=>simp[RowKit.intOf];omega
   ·have hD9:=HI.out.1
    rw[HSA.out i (by rw[HN.out];omega)]at hD9
    have HD9:Hid (Dr _ _ _ _ _ _ _ _ _):=hD9
    clear hD9
    have HB:=HBox.out _ _ _ HD9.out
    have hiN: ¬(i:Int)<(N:Int):=by omega
    clear mm
    go_wp2_with (refine zab rfl _ _ rfl rb 0 7 nn k 0 0 rfl rfl 0 0 0 0 0 0 HB ?_;intro w6 hw6 hf6)
    refine bodyPost_ret (zai rfl _ _ _ rb _ rfl (zae hw6.out)) rfl ?_
    rw[HO.out]
    exact⟨Z2,rfl,HFin.out _ _ _ _ HD9.out hf6⟩
 ·have hs1:so=some ⟨gb,off+2,none⟩:=by rw[HSO.out,if_neg g1]
  clear HSO
  subst hs1
  go_enter Tryz.func85,Tryz.ntmps85
  go_upto_region 1 with fail
  rw[HW0.out,HRB.out]
  go_upto_region 4 with (rw[HWA.out,HWB.out];refine zbd rfl 210 _ _ rfl wb #[.int .i64 f,.int .i64 nn] rfl rfl 210 _ hbA (by kernel_rfl) rfl (by simp[Value.oneCell']) ?_;intro w1 hw1 hf1)
  obtain⟨⟨i1,i2,i3⟩,W2,HW2,HD2,HB2⟩:=HF.out w1 hf1 hw1.out
  clear c13 cq hx0 hx1 hbA hf1
  simp only[Act.put]
  go_region
  rw[HW2.out]
  have D2:=HD2.out.quiet (Fr.drew [] W2)
  have hb2:W2.drew.heap[wb]? = some (.cells #[.int .i64 f,.int .i64 nn] 210 (0,0)):=HB2.out
  obtain⟨W3,hW3⟩: ∃W3,W3=W2.drew:=⟨_,rfl⟩
  rw[<-hW3]at D2 hb2 ⊢
  have HD3:Hid (Dr wS w0 W3 Z Z2 c ts xs { d with que:=upd d.que k r,cal:=srvd f d.cal 0 }/\W3.heap[wb]? = some (.cells #[.int .i64 f,.int .i64 nn] 210 (0,0))):=⟨by rw[HS0.out];exact D2,hb2⟩
  obtain⟨j0,j1,j2,_⟩:=HR.out W3 0 HD3.out.1 HD3.out.2
  clear D2 hb2 hW3 HW2 HD2 HB2 i1 i2 i3 HF
  rw[HN.out]at j2
  go_wp2_with fail
  go_loopw [7] (fun ii wr=> ∃i:Nat,ii= .int .i64 i/\i<=N/\Hid (Dr wS w0 wr Z Z2 c ts xs { d with que:=upd d.que k r,cal:=srvd f d.cal i }/\wr.heap[wb]? = some (.cells #[.int .i64 f,.int .i64 nn] 210 (0,0)))) (fun ii _=>N-(RowKit.intOf ii).toNat)
  case atStart=>exact⟨0,rfl,Nat.zero_le _,HD3⟩
  case round =>
   obtain⟨i,rfl,hi1,HI⟩:=hrel
   obtain⟨m0,m1,m2,mm⟩:=HR.out _ i HI.out.1 HI.out.2
   rw[HN.out]at m2 mm
   clear j0 j1 j2
   by_cases hi:i<N
   ·obtain⟨b,o,n,sv,e,n1,n2,n3,n4,n5,HY,HX⟩:=mm hi
    rw[e]at m2
    have hiN:(i:Int)<(N:Int):=by omega
    clear mm e
    by_cases he:n=f
    ·have hnf:(n==f)=true:=by simpa using he
     have HE:Hid (n=f):=he
     clear he
     go_upto_region 10 with fail
     go_quiet (fail)
     go_wp2
     go_roundw
     case rel=>exact⟨i+1,by simp,by omega,HY.out HE.out _ (Fr.drewN [] _ nq)⟩
     case measure=>simp[RowKit.intOf];omega
    ·have hnf:(n==f)=false:=by simpa using he
     have HE:Hid (n≠f):=he
     clear he
     go_upto_region 10 with fail
     go_quiet (fail)
     go_wp2
     go_roundw
     case rel=>exact⟨i+1,by simp,by omega,by rw[HX.out HE.out];exact HI.out.1.quiet (Fr.drewN [] _ nq),HI.out.2⟩
     case measure=>simp[RowKit.intOf];omega
   ·have hD9:=HI.out.1
    rw[HSA.out i (by rw[HN.out];omega)]at hD9
    have HD9:Hid (Dr _ _ _ _ _ _ _ _ _):=hD9
    clear hD9
    have HB:=HBox.out _ _ _ HD9.out
    have hiN: ¬(i:Int)<(N:Int):=by omega
    clear mm
    go_wp2_with (refine zab rfl _ _ rfl rb 0 7 nn k 0 0 rfl rfl 0 0 0 0 0 0 HB ?_;intro w6 hw6 hf6)
    refine bodyPost_ret (zai rfl _ _ _ rb _ rfl (zae hw6.out)) rfl ?_
    rw[HO.out]
    exact⟨Z2,rfl,HFin.out _ _ _ _ HD9.out hf6⟩
end
theorem zpc {wS w:World} {Z:Zd} {c:Cf} {ts:List Tm} {xs:List Int} {d:Ds} (h:DsM wS w Z c ts xs d) (k:Nat) (hk:k<c.s.toNat) (hq: ∀q∈d.que k,0<q.1->(q.1-1).toNat<c.l.toNat) (hac: ∀i,i<c.l.toNat->(d.lan i).acked<1099511627776) (hsv: ∀x∈d.cal,x.served<1099511627776) (hcl:d.cal.length<=1099511627776) :
  Calls Tryz.prog 85 #[.pointer (some ⟨Z.sb,0,none⟩),.int .i64 (k:Int)] w (DstP wS w Z c ts xs (ownD d k)):=by
 cases hR:d.que k with
 | nil=>exact zov h k hk hR
 | cons q r =>
  obtain⟨f,nn⟩:=q
  by_cases hf:0<f
  ·have hi:=hq (f,nn) (by rw[hR];simp) hf
   obtain⟨i,rfl⟩: ∃i:Nat,f=(i:Int)+1:=⟨(f-1).toNat,by omega⟩
   have e:((i:Int)+1-1).toNat=i:=by omega
   simp only[e]at hi
   exact zmh h k hk i nn r hR hi (hac i hi)
  ·exact zmi h k hk f nn r hR hf hsv hcl
end Go.Proofs.YtaaghcimfcjehaaGreatDoor
