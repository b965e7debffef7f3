/- Contracts and plain lemmas of this claim. -/
import Derived.Test.YtaaghcimfcjehaaGreatDoorGp35
import Derived.Test.YtaaghcimfcjehaaGreatDoorGp14
set_option linter.unusedSimpArgs false
set_option linter.unusedVariables false
namespace Go.Proofs.YtaaghcimfcjehaaGreatDoor
open Go.ChangeShapes Go.WideShapes Go.ChangeAt Go.RowKit Go.Lib Go.Maps
section
variable {wS w:World} {Z:Zd} {c:Cf} {ts:List Tm} {xs:List Int} {d:Ds}
set_option maxHeartbeats 8000000 in
set_option maxRecDepth 100000 in
theorem zsj (h:DsM wS w Z c ts xs d) (e:Ev) (het:e.t<0) (hcl:d.cal.length<=1099511627776) (hnd:(d.cal.map (fun x:Dc=>x.n)).Nodup) (hno: ∀j (hj:j<d.cal.length),d.cal[j].n≠e.t) :
  Calls Tryz.prog 82 #[.pointer (some ⟨Z.sb,0,none⟩),.agg #[.int .i64 e.t,.int .u8 e.k,.int .i64 e.n,.int .i64 e.s,.int .i64 e.c,.int .i64 e.m]] w (DstP wS w Z c ts xs (calD c d e)):=by
 obtain⟨w0,rb,eb,wb,HW0,HRB,HEB,HWB,hm,HFin,HBox⟩:=h.boxed3 e
 have HO:Hid (calD c d e=((⟨e.k,e.t,0,0⟩,decide (e.k=9)),{ d with cal:=d.cal++[⟨e.t,0,0,false⟩] })):=by
  show calD c d e=_
  unfold calD
  rw[zzh hno]
 have HA:Hid (∀W,Fr [] w0 W->(∀W',Fr [] W W'->QC W' Z.cl.lo d.cal.length Z.cl.c d.cal)/\ ∀W1 lo' c' w',Fr [] W W1->QC w' lo' (d.cal.length+1) c' (d.cal++[⟨e.t,0,0,false⟩])->Fr (qb Z.cl.lo).toList W1 w'->(qb lo'=qb Z.cl.lo\/ ∃k,qb lo'=some k/\W1.heap.size<=k)->(w'.cell? ⟨Z.sb,14,none⟩=some (.slice Z.cl.lo d.cal.length Z.cl.c)/\w'.frozen? ⟨Z.sb,14,none⟩=false)/\ ∃W4 Z4,w'.setCell ⟨Z.sb,14,none⟩ (.slice lo' (d.cal.length+1) c')=W4/\Dr wS w0 W4 Z Z4 c ts xs { d with cal:=d.cal++[⟨e.t,0,0,false⟩] }):=by
  intro W hW
  have D:=hm.dr.quiet hW
  have hq:QC W Z.cl.lo Z.cl.n Z.cl.c d.cal:=D.m.pm 7
  rw[hq.len]at hq
  refine⟨fun W' hW'=>hq.keep hW' (by simp),fun W1 lo' c' w' hW1 hQ hF hn=> ?_⟩
  have D1:=D.quiet hW1
  have hbx:=hF.keep D1.m.box (fun hb=>D1.m.ne0 (p:=7) (b:=Z.sb) hb (by decide) rfl)
  have D2:=D1.go (D1.m.calls (w1:=w') ⟨lo',d.cal.length+1,c'⟩ _ hF hQ hn)
  have hq2:QC W Z.cl.lo Z.cl.n Z.cl.c d.cal:=D.m.pm 7
  have hl:=hq2.len
  refine⟨⟨by rw[cell_of_row _ _ _ _ _ _ hbx,<-hl];rfl,by simp[World.frozen?,hbx]⟩,_,_,rfl,D2⟩
 have hn1:eb≠rb:=by have:=HRB.out;have:=HEB.out;omega
 have hn2:rb≠eb:=fun q=>hn1 q.symm
 have hn3:wb≠rb:=by have:=HRB.out;have:=HWB.out;omega
 have hn4:rb≠wb:=fun q=>hn3 q.symm
 have hn5:eb≠wb:=by have:=HEB.out;have:=HWB.out;omega
 have hn6:wb≠eb:=fun q=>hn5 q.symm
 have HDq:Hid (∀W,Fr [] w0 W->Dr wS w0 W Z Z c ts xs d):=fun W hW=>hm.dr.quiet hW
 have HRd:Hid (∀W,Fr [] w0 W->W.cell? ⟨eb,0,none⟩=some (.int .i64 e.t)/\W.cell? ⟨Z.sb,14,none⟩=some (.slice Z.cl.lo d.cal.length Z.cl.c)/\ ∀i (hi:i<d.cal.length),∃b off,Z.cl.lo=some ⟨b,off,none⟩/\W.cell? ⟨b,off+i*4,none⟩=some (.int .i64 d.cal[i].n)):=by
  intro W hW
  have D:=hm.dr.quiet hW
  obtain⟨_,b2,_⟩:=HBox.out _ _ _ D
  obtain⟨r1,r2,r3⟩:=D.m.calRow
  refine⟨(zac b2).1.1,r1,fun i hi=> ?_⟩
  obtain⟨b,off,hb⟩:=r3 (by omega)
  exact⟨b,off,hb,(D.m.calCell hb hi).1⟩
 obtain⟨N,HN⟩: ∃N,Hid (d.cal.length=N):=⟨_,rfl⟩
 have hN:N<=1099511627776:=by rw[<-HN.out];exact hcl
 obtain⟨tk,HTK⟩: ∃tk,Hid (e.t=tk):=⟨_,rfl⟩
 have HNe:Hid (∀i (hi:i<d.cal.length),d.cal[i].n≠tk):=fun i hi=>by rw[<-HTK.out];exact hno i hi
 clear h hm het hcl hnd hno
 go_enter Tryz.func82,Tryz.ntmps82
 go_upto_region 3 with fail
 rw[HW0.out,HWB.out,HRB.out,HEB.out]
 obtain⟨y0,y14,_⟩:=HRd.out w0 (Fr.refl [] w0)
 rw[HTK.out]at y0
 rw[HN.out]at y14
 go_wp2_with fail
 go_loopw [7,8] (fun aa ii wr=> ∃i:Nat,ii= .int .i64 i/\i<=N/\aa= .int .i64 (-1)/\Hid (Fr [] w0 wr)) (fun _ ii _=>N-(RowKit.intOf ii).toNat)
 case atStart=>exact⟨0,rfl,Nat.zero_le _,rfl,Fr.refl _ _⟩
 case round =>
  obtain⟨i,rfl,hi1,rfl,HF⟩:=hrel
  obtain⟨z0,z14,zc⟩:=HRd.out _ HF.out
  rw[HTK.out]at z0
  rw[HN.out]at z14
  clear y0 y14
  by_cases hi:i<N
  ·obtain⟨b,off,hlo,zn⟩:=zc i (by rw[HN.out];exact hi)
   have hne:=HNe.out i (by rw[HN.out];exact hi)
   obtain⟨n,hn⟩: ∃n,n=(d.cal[i]'(by rw[HN.out];exact hi)).n:=⟨_,rfl⟩
   rw[<-hn]at zn hne
   rw[hlo]at z14
   have hiN:(i:Int)<(N:Int):=by omega
   have hi0:(0:Int)<=(i:Int):=by omega
   clear zc hlo hn
   have hnf:(n==tk)=false:=by simpa using hne
   clear hne
   go_upto_region 6 with fail
   go_quiet (fail)
   go_wp2
   go_roundw
   case rel=>exact⟨i+1,by simp,by omega,rfl,HF.out.then (Fr.drewN [] _ nq)⟩
   case measure=>simp[RowKit.intOf];omega
  ·have hiN: ¬(i:Int)<(N:Int):=by omega
   clear zc
   obtain⟨w7,hw7⟩: ∃w7,Hid (w7=wr):=⟨_,rfl⟩
   rw[<-hw7.out]at z0 z14 HF ⊢
   obtain⟨hX,hG⟩:=HA.out w7 HF.out
   rw[HN.out,HTK.out]at hG
   rw[HN.out]at hX
   have HX:Hid (∀W',Fr [] w7 W'->QC W' Z.cl.lo N Z.cl.c d.cal):=hX
   have HG:Hid (∀W1 lo' c' w',Fr [] w7 W1->_):=hG
   obtain⟨q0,q14,_⟩:=HRd.out _ (HF.out.then (Fr.alloc [] w7 (.cells #[.int .i64 tk,.int .i64 0,.int .i64 0,.bool false] 206)))
   rw[HTK.out]at q0
   rw[HN.out]at q14
   clear hX hG HA HRd HNe hw7 HDq
   go_upto_region 9 with fail
   go_region_law (first
    | (refine zey _ (by rfl) _ _ (by rfl) Z.cl.lo N Z.cl.c _ tk (by rfl) (HX.out _ (Fr.drewN _ _ _)) hN (by rfl) ?_;intro lo' c' w3 hQ3 hF3 hm3;obtain⟨⟨e1,e2⟩,hG3⟩:=HG.out _ lo' c' w3 (Fr.drewN _ _ _) hQ3 hF3 hm3)
    | (refine zey _ (by rfl) _ _ (by rfl) Z.cl.lo N Z.cl.c _ tk (by rfl) (HX.out _ (Fr.drew _ _)) hN (by rfl) ?_;intro lo' c' w3 hQ3 hF3 hm3;obtain⟨⟨e1,e2⟩,hG3⟩:=HG.out _ lo' c' w3 (Fr.drew _ _) hQ3 hF3 hm3)
    | (refine zey _ (by rfl) _ _ (by rfl) Z.cl.lo N Z.cl.c _ tk (by rfl) (HX.out _ (Fr.refl _ _)) hN (by rfl) ?_;intro lo' c' w3 hQ3 hF3 hm3;obtain⟨⟨e1,e2⟩,hG3⟩:=HG.out _ lo' c' w3 (Fr.refl _ _) hQ3 hF3 hm3))
   all_goals
    obtain⟨W4,Z4,hW4,D4⟩:=hG3
    rw[hW4]
    obtain⟨b1,b2,b3⟩:=HBox.out _ _ _ D4
    obtain⟨⟨r0,r1,r2,r3,r4,r5⟩,rz⟩:=zac b1
    obtain⟨⟨u0,u1,u2,u3,u4,u5⟩,_⟩:=zac b3
    obtain⟨_,v1,_⟩:=(zac b2).1
    have HDD:Hid (Dr _ _ _ _ _ _ _ _ _):=D4
    have HB1:Hid (W4.heap[rb]? = _):=b1
    rw[HTK.out]at u2
    obtain⟨kk,HKK⟩: ∃kk,Hid (e.k=kk):=⟨_,rfl⟩
    rw[HKK.out]at u1 v1
    clear D4 b1 b2 b3 hW4 e1 e2 hQ3 hF3 hm3 HX HG q0 q14 z0 z14
    go_wp2_with fail
    go_region
    obtain⟨W6,hW6⟩: ∃W6,zcl W4 rb (.int .i64 0) (.int .u8 kk) (.int .i64 tk) (.int .i64 0) (.int .i64 0) (.int .i64 0)=W6:=⟨_,rfl⟩
    have f6:=zdj W4 rb (.int .i64 0) (.int .u8 kk) (.int .i64 tk) (.int .i64 0) (.int .i64 0) (.int .i64 0)
    have r6:=zcw (b:=rb) (.int .i64 0) (.int .u8 kk) (.int .i64 tk) (.int .i64 0) (.int .i64 0) (.int .i64 0) HB1.out
    rw[hW6]at f6 r6
    unfold zcl at hW6
    rw[hW6]
    have HF6:Hid (Fr [rb,wb] W4 W6.drew):=(f6.mono (T:=[rb,wb]) (by simp)).then (Fr.drew [rb,wb] W6)
    have HR6:Hid (W6.drew.heap[rb]? = some (.cells (evA 0 kk tk 0 0 0) 62 (0,0))):=r6
    clear hW6
    clear f6 r6 r0 r1 r2 r3 r4 r5 rz u0 u1 u2 u3 u4 u5 v1
    go_wp2_with fail
    refine bodyPost_ret (zai rfl _ _ _ rb _ rfl (zae HR6.out)) rfl ?_
    rw[HO.out,HTK.out,HKK.out]
    exact⟨Z4,rfl,HFin.out _ _ _ _ HDD.out HF6.out⟩
end
end Go.Proofs.YtaaghcimfcjehaaGreatDoor
