/- Contracts and plain lemmas of this claim. -/
import Derived.Test.YtaaghcimfcjehaaGreatDoorGp27
import Derived.Test.YtaaghcimfcjehaaGreatDoorGp8
set_option linter.unusedSimpArgs false
set_option linter.unusedVariables false
namespace Go.Proofs.YtaaghcimfcjehaaGreatDoor
open Go.ChangeShapes Go.WideShapes Go.ChangeAt Go.RowKit Go.Lib Go.Maps
section
variable {wS w:World} {Z:Zd} {c:Cf} {ts:List Tm} {xs:List Int} {d:Ds}
set_option maxHeartbeats 8000000 in
set_option maxRecDepth 100000 in
theorem zox (h:DsM wS w Z c ts xs d) (e:Ev) (i:Nat) (hi:i<c.l.toNat) (het:e.t=(i:Int)+1) (hh:(d.lan i).has=false) (n:Int) (r:List Int) (hR:d.line=n::r) (b1:1<=n/\n<=(ts.length:Int)) (hk:Lk (txs ts)) :
  Calls Tryz.prog 84 #[.pointer (some ⟨Z.sb,0,none⟩),.agg #[.int .i64 e.t,.int .u8 e.k,.int .i64 e.n,.int .i64 e.s,.int .i64 e.c,.int .i64 e.m]] w (DstP wS w Z c ts xs (lanD c (txs ts) d i)):=by
 obtain⟨w0,rb,eb,HW0,HRB,HEB,hm,HFin,HBox,HEbx⟩:=h.boxed2 e
 have hls:=h.may.1
 obtain⟨j,hj⟩: ∃j:Nat,n=(j:Int)+1:=⟨(n-1).toNat,by omega⟩
 have hjt:j<ts.length:=by omega
 have hlen:ts.length<=65536:=by have:=hk.len;rwa [zap]at this
 obtain⟨t,ht⟩: ∃t,t=ts.getD j Tm.zero:=⟨_,rfl⟩
 have hidx:(n-1).toNat=j:=by omega
 have htn:t.n=n:=by
  have:=hk.num n b1.1 (by rw[zap];exact b1.2)
  rw[hidx,zcm,<-ht]at this
  exact this
 have htt:ts[(n-1).toNat]? = some t:=by rw[hidx,ht];simp[List.getD,hjt]
 have hE:=HEbx.out _ _ _ hm.dr
 have et:w0.cell? ⟨eb,0,none⟩=some (.int .i64 e.t):=by rw[cell_of_row _ _ _ _ _ _ hE];rfl
 have c12:w0.cell? ⟨Z.sb,12,none⟩=some (.slice (some ⟨Z.lb,0,none⟩) c.l.toNat c.l.toNat):=hm.cell rfl
 have c4:w0.cell? ⟨Z.sb,4,none⟩=some (.slice Z.logo Z.M Z.mc):=hm.cell rfl
 obtain⟨⟨l0,⟨wo,wM,wc,l1,_⟩,l2,l3,l4⟩,lf⟩:=hm.lanCell hi
 rw[Nat.mul_comm 5 i]at l0 l1 l2 l3 l4
 rw[hh]at l2
 have z0:=lf (i*5)
 have z1:=lf (i*5+1)
 have z2:=lf (i*5+2)
 have z3:=lf (i*5+3)
 have z4:=lf (i*5+4)
 have hQ:QR w0 Z.ln.lo Z.ln.n Z.ln.c (n::r):=by rw[<-hR];exact hm.pm 5
 obtain⟨gb,off,e1,hx,hc0,hN,hK⟩:=hQ.first
 have hfit:=hQ.fit
 obtain⟨gc,hgc⟩: ∃gc,gc=Z.ln.c:=⟨_,rfl⟩
 obtain⟨so,hso⟩: ∃so,so=(if gc=1 then some (⟨gb,off,none⟩:Addr) else some ⟨gb,off+1,none⟩):=⟨_,rfl⟩
 obtain⟨k1,k2⟩:=hK so (by rw[hso,hgc])
 have c10:w0.cell? ⟨Z.sb,10,none⟩=some (.slice Z.ln.lo Z.ln.n Z.ln.c):=hm.cell rfl
 rw[e1,hN,<-hgc]at c10
 rw[hN,<-hgc]at hfit k1
 rw[<-hgc]at hc0
 rw[Nat.add_sub_cancel]at k1
 obtain⟨lgb,lof,hlo,hlog⟩:=hm.logAt j hjt
 obtain⟨g1,g2,_⟩:=hlog _ hm.fr
 rw[<-ht,htn]at g1
 rw[<-ht]at g2
 rw[hlo]at c4
 have HO:Hid (lanD c (txs ts) d i=((⟨4,n,0,0⟩,true),{ d with line:=r,lan:=upd d.lan i ⟨n,true,0,0⟩ })):=by
  show lanD c (txs ts) d i=_
  unfold lanD
  rw[if_pos hh,hR]
 have HD:Hid (∀W,Fr [] w0 W-> ∃W1,Hid (zex W Z.lb (i*5) (.int .i64 n) (.slice t.ao t.L t.cap) (.bool true) (.int .i64 0) (.int .i64 0)=W1)/\W1.cell? ⟨Z.sb,10,none⟩=some (.slice (some ⟨gb,off,none⟩) (r.length+1) gc)/\W1.frozen? ⟨Z.sb,10,none⟩=false/\Hid (∀W2,Fr [] W1 W2->Dr wS w0 (W2.setCell ⟨Z.sb,10,none⟩ (.slice so r.length (gc-1))) Z { Z with ln:=⟨so,r.length,gc-1⟩ } c ts xs { d with line:=r,lan:=upd d.lan i ⟨n,true,0,0⟩ }/\(W2.setCell ⟨Z.sb,10,none⟩ (.slice so r.length (gc-1))).cell? ⟨Z.lb,i*5,none⟩=some (.int .i64 n))):=by
  intro W hW
  have D0:=hm.dr.quiet hW
  have D1:=D0.go (D0.m.take hi t n b1.1 htt)
  refine⟨_,rfl,by have:=D1.m.cell (j:=10) (v:=Z.ln.v) rfl;rw[this,hgc,<-hN,<-e1];rfl,D1.m.fz 10,fun W2 hW2=> ?_⟩
  have D2:=D1.quiet hW2
  have hne: ∀b,qb so=some b->b∉[Z.lb]:=fun b hb hm2=>by
   rw[k2]at hb
   have:=hm.ap 5 2 b (by simp[Zd.part,hb]) (by simpa[Zd.part]using hm2)
   omega
  have hF:Fr [Z.lb] W (zex W Z.lb (i*5) (.int .i64 n) (.slice t.ao t.L t.cap) (.bool true) (.int .i64 0) (.int .i64 0)):=((((Fr.set W _ _ (by simp)).then (Fr.set _ _ _ (by simp))).then (Fr.set _ _ _ (by simp))).then (Fr.set _ _ _ (by simp))).then (Fr.set _ _ _ (by simp))
  have hq2:QR W2 so r.length (gc-1) r:=((k1.keep hW (by simp)).keep hF hne).keep hW2 (by simp)
  have D3:=D2.go (D2.m.line (w1:=W2) ⟨so,r.length,gc-1⟩ r (Fr.refl _ _) hq2 (Or.inl k2))
  refine⟨D3,?_⟩
  have:=(D3.m.lanCell hi).1.1
  rw[Nat.mul_comm 5 i]at this
  rw[show ({ d with line:=r,lan:=upd d.lan i ⟨n,true,0,0⟩ }:Ds).lan i=⟨n,true,0,0⟩ from zad _ _ _]at this
  exact this
 obtain⟨Ln,hLn⟩: ∃Ln,Ln=c.l.toNat:=⟨_,rfl⟩
 rw[<-hLn]at c12 hi
 obtain⟨tk,htk⟩: ∃tk,tk=e.t:=⟨_,rfl⟩
 have hwr:IntKind.i64.wrap (tk-1)=(i:Int):=by rw[IntKind.wrap_i64,htk,het];omega
 rw[<-htk]at et
 have hwn:IntKind.i64.wrap (n-1)=(j:Int):=by rw[IntKind.wrap_i64];omega
 have hi2:(i:Int)<(Ln:Int):=by omega
 have hi0:(0:Int)<=(i:Int):=by omega
 have hM:=hm.len.1
 have hj2:(j:Int)<(Z.M:Int):=by omega
 have hj0:(0:Int)<=(j:Int):=by omega
 have ht1:1<=tk:=by omega
 have ht2:tk<=65536:=by omega
 have hn1:1<=n:=by omega
 have hn2:n<=65536:=by omega
 have hr1:(1:Int)<=(r.length:Int)+1:=by omega
 have HSO:Hid (so=(if gc=1 then some (⟨gb,off,none⟩:Addr) else some ⟨gb,off+1,none⟩)):=hso
 clear h hm hE hQ hLn het htk hR hh hls hlog hlo hk ht htn htt hidx hj hlen hM hso hgc e1 hN hK k1 k2 lf b1 hjt
 by_cases q1:gc=1
 ·have hs1:so=some ⟨gb,off,none⟩:=by rw[HSO.out,if_pos q1]
  clear HSO
  subst q1
  subst hs1
  have e0:1-1=0:=rfl
  obtain rfl:r=[]:=List.eq_nil_of_length_eq_zero (by omega)
  simp only[e0,List.length_nil,Nat.zero_add]at HD c10 hr1 hfit
  go_enter Tryz.func84,Tryz.ntmps84
  go_upto_region 1 with fail
  rw[HW0.out,HRB.out,HEB.out]
  go_quiet (fail)
  go_upto_region 5 with fail
  go_region
  obtain⟨W1,HW1,i1,i2,HX⟩:=HD.out _ (Fr.drewN [] w0 (nq+1))
  have hw1:=HW1.out
  simp only[zex]at hw1
  rw[hw1]
  clear hw1 HW1 HD et c12 c4 l0 l1 l2 l3 l4 z0 z1 z2 z3 z4 hx c10 g1 g2
  go_upto_region 7 with fail
  obtain⟨D4,n1⟩:=HX.out W1 (Fr.refl [] W1)
  have HB:=HBox.out _ _ _ D4
  have HD4:Hid (Dr _ _ _ _ _ _ _ _ _):=D4
  clear HX D4
  go_wp2_with (refine zab rfl _ _ rfl rb 0 4 n 0 0 0 rfl rfl 0 0 0 0 0 0 HB ?_;intro w6 hw6 hf6)
  refine bodyPost_ret (zai rfl _ _ _ rb _ rfl (zae hw6.out)) rfl ?_
  rw[HO.out]
  exact⟨_,rfl,HFin.out _ _ _ _ HD4.out hf6⟩
 ·have hs1:so=some ⟨gb,off+1,none⟩:=by rw[HSO.out,if_neg q1]
  clear HSO
  subst hs1
  go_enter Tryz.func84,Tryz.ntmps84
  go_upto_region 1 with fail
  rw[HW0.out,HRB.out,HEB.out]
  go_quiet (fail)
  go_upto_region 5 with fail
  go_region
  obtain⟨W1,HW1,i1,i2,HX⟩:=HD.out _ (Fr.drewN [] w0 (nq+1))
  have hw1:=HW1.out
  simp only[zex]at hw1
  rw[hw1]
  clear hw1 HW1 HD et c12 c4 l0 l1 l2 l3 l4 z0 z1 z2 z3 z4 hx c10 g1 g2
  go_upto_region 7 with fail
  obtain⟨D4,n1⟩:=HX.out W1 (Fr.refl [] W1)
  have HB:=HBox.out _ _ _ D4
  have HD4:Hid (Dr _ _ _ _ _ _ _ _ _):=D4
  clear HX D4
  go_wp2_with (refine zab rfl _ _ rfl rb 0 4 n 0 0 0 rfl rfl 0 0 0 0 0 0 HB ?_;intro w6 hw6 hf6)
  refine bodyPost_ret (zai rfl _ _ _ rb _ rfl (zae hw6.out)) rfl ?_
  rw[HO.out]
  exact⟨_,rfl,HFin.out _ _ _ _ HD4.out hf6⟩
end
set_option maxHeartbeats 8000000 in
set_option maxRecDepth 100000 in
theorem zje (n:Int) (ao:Option Addr) (L cap:Nat) (ws:List Wt) (w:World) (hW:WRs w ao ws) (hL:L=ws.length) (hLb:L<=32) :
  Calls Tryz.prog 131 #[.agg #[.int .i64 n,.slice ao L cap]] w fun e w'=> ∃ro N rc,e= .returned (.slice ro N rc)/\WOw w w' ro N rc (dd ws)/\Fr [] w w':=by
 have HL:Hid (L=ws.length):=hL
 have hF0:Fr [] w (w.alloc (.cells #[.int .i64 n,.slice ao L cap] 66)):=Fr.alloc _ _ _
 have hrow0:=heap_alloc_new w (.cells #[.int .i64 n,.slice ao L cap] 66)
 obtain⟨w1,HW1⟩: ∃w1,Hid (w.alloc (.cells #[.int .i64 n,.slice ao L cap] 66)=w1):=⟨_,rfl⟩
 obtain⟨B,HB⟩: ∃B,Hid (w.heap.size=B):=⟨_,rfl⟩
 rw[HW1.out]at hF0 hrow0
 rw[HB.out]at hrow0
 have HI:Hid (∀W,Fr [] w1 W->WRs W ao ws):=fun W hf=>hW.keep (hF0.then hf)
 have HT:Hid (∀W,Fr [] w1 W->W.cell? ⟨B,1,none⟩=some (.slice ao L cap)):=fun W hf=>by
  rw[cell_of_row _ _ _ _ _ _ (hf.keep hrow0 (by simp))]
  rfl
 have HF0:Hid (Fr [] w w1):=hF0
 clear hL hW hF0 hrow0
 go_enter Tryz.func131,Tryz.ntmps131
 go_upto_region 1 with fail
 rw[HW1.out,HB.out]
 clear HW1 HB
 go_wp2_with fail
 go_loopw [3,4] (fun ll ii wr=> ∃(ro:Option Addr) (N rc k:Nat),ll= .slice ro N rc/\ii= .int .i64 k/\k<=L/\N<=k/\Hid (WOw w1 wr ro N rc (ddTo ws k))/\Fr [] w1 wr) (fun _ ii _=>L-(RowKit.intOf ii).toNat)
 case atStart=>exact⟨none,0,0,0,rfl,rfl,Nat.zero_le _,Nat.le_refl _,WOw.none14 _ _,Fr.refl _ _⟩
 case round =>
  obtain⟨ro,N,rc,k,rfl,rfl,hk,hN,HO,hF⟩:=hrel
  have b1:=HT.out _ hF
  by_cases hki:k<L
  ·have hk':k<ws.length:=by rw[<-HL.out];exact hki
   obtain⟨bb,off,rfl,_,hc⟩:=(HI.out _ hF).lies (by omega)
   rw[<-HL.out]at hc
   obtain⟨d0,d1,d2⟩:=hc k hki
   have HKa:Hid (kAt ws k=(ws.getD k Wt.zero).key):=rfl
   have HKy:Hid (Kept ws k->ddTo ws (k+1)=ddTo ws k++[ws.getD k Wt.zero]):=fun h=>zdh h
   have HKn:Hid (¬Kept ws k->ddTo ws (k+1)=ddTo ws k):=fun h=>zfv h
   obtain⟨y,hyy⟩: ∃y,y=ws.getD k Wt.zero:=⟨_,rfl⟩
   rw[<-hyy]at d0 d1 d2 HKa HKy
   clear hyy
   obtain⟨ky,vl,dp⟩:=y
   simp only at d0 d1 d2 HKa
   go_wp2_with fail
   go_loopw [5,6] (fun vv mm w'=> ∃(Bf:Bool) (m z:Nat),vv= .bool Bf/\mm= .int .i64 m/\k+1<=m/\m<=L/\Hid (Bf=false↔ ∃j,k<j/\j<m/\kAt ws j=ky)/\w'=wr.drewN z) (fun _ mm _=>L-(RowKit.intOf mm).toNat)
   case atStart=>exact⟨true,k+1,0,rfl,by simp,Nat.le_refl _,by omega,(by show _↔_;constructor;(intro h;cases h);rintro⟨j,h1,h2,_⟩;omega),rfl⟩
   case round =>
    obtain⟨Bf,m,z,rfl,rfl,hkm,hmM,HB,rfl⟩:=hrel
    by_cases hm:m<L
    ·obtain⟨p0,_,_⟩:=hc m hm
     have HKm:Hid (kAt ws m=(ws.getD m Wt.zero).key):=rfl
     obtain⟨km,hkmm⟩: ∃km,km=(ws.getD m Wt.zero).key:=⟨_,rfl⟩
     rw[<-hkmm]at p0 HKm
     clear hkmm
     cases Bf with
     | false =>
      have HB2:Hid (∃j,k<j/\j<m+1/\kAt ws j=ky):=by
       obtain⟨j,h1,h2,h3⟩:=HB.out.1 rfl
       exact⟨j,h1,by omega,h3⟩
      go_wp2_with fail
      go_quiet (fail)
      go_wp2_with fail
      go_roundw
      case rel=>exact⟨false,m+1,_,rfl,by simp,by omega,by omega,(by show _↔_;exact⟨fun _=>HB2.out,fun _=>rfl⟩),rfl⟩
      case measure=>simp[RowKit.intOf];omega
     | true =>
      have HB2:Hid ((!(km.toList==ky.toList))=false↔ ∃j,k<j/\j<m+1/\kAt ws j=ky):=by
       show _↔_
       rw[Bool.not_eq_false',beq_iff_eq,zhc]
       constructor
       ·intro h
        exact⟨m,by omega,by omega,by rw[HKm.out];exact h⟩
       ·rintro⟨j,h1,h2,h3⟩
        by_cases hj:j=m
        ·subst hj
         rw[<-HKm.out]
         exact h3
        ·have:=HB.out.2 ⟨j,h1,by omega,h3⟩
         cases this
      go_wp2_with fail
      go_quiet (fail)
      go_wp2_with fail
      go_roundw
      case rel=>exact⟨_,m+1,_,rfl,by simp,by omega,by omega,HB2,rfl⟩
      case measure=>simp[RowKit.intOf];omega
    ·obtain rfl:m=L:=by omega
     clear hm hkm hmM
     have hG2:=hF.then (Fr.drewN [] _ z)
     have HO2:Hid (WOw w1 (wr.drewN z) ro N rc (ddTo ws k)):=HO.out.keepS (Fr.drewN [] _ z) (by simp)
     cases Bf with
     | false =>
      have HNk:Hid (¬Kept ws k):=by
       obtain⟨j,h1,h2,h3⟩:=HB.out.1 rfl
       exact fun hK=>hK j h1 (by rw[<-HL.out];exact h2) (by rw[h3,HKa.out])
      have HO3:Hid (WOw w1 (wr.drewN z) ro N rc (ddTo ws (k+1))):=by rw[HKn.out HNk.out];exact HO2
      go_wp2_with fail
      go_roundw
      case rel=>exact⟨ro,N,rc,k+1,rfl,by simp,by omega,by omega,HO3,hG2⟩
      case measure=>simp[RowKit.intOf];omega
     | true =>
      have HKp:Hid (Kept ws k):=by
       intro j h1 h2 h3
       have:=HB.out.2 ⟨j,h1,by rw[HL.out];exact h2,by rw[h3,HKa.out]⟩
       cases this
      have HY:Hid (ddTo ws (k+1)=ddTo ws k++[⟨ky,vl,dp⟩]):=HKy.out HKp.out
      have HSz:Hid (w1.heap.size<=(wr.drewN z).heap.size):=hG2.size
      have hN1:N<1000000:=by omega
      have HG2:Hid (Fr [] w1 (wr.drewN z)):=hG2
      go_wp2_with (first
       | (
        at_builtin;refine zmd w1 (wr.drewN z) rfl _ _ rfl ro N rc (ddTo ws k) rfl HO2.out hN1 HSz.out ⟨ky,vl,dp⟩ rfl ?_
        intro so' c' w5 hO5 hF5
        have HO5:Hid (WOw w1 w5 so' (N+1) c' (ddTo ws (k+1))):=by rw[HY.out];exact hO5
        have hF5':Fr [] w1 w5:=HG2.out.on hF5 (fun x hx=>(zmc HO2.out.row (Option.mem_toList.1 hx)).1)
        clear hO5 hF5
        go_frame)
       | fail)
      go_roundw
      case rel=>exact⟨_,N+1,_,k+1,rfl,by simp,by omega,by omega,HO5,hF5'⟩
      case measure=>simp[RowKit.intOf];omega
  ·obtain rfl:k=L:=by omega
   have HO1:Hid (WOw w wr ro N rc (dd ws)):=by
    show WOw _ _ _ _ _ _
    unfold dd
    rw[<-HL.out]
    exact HO.out.later HF0.out.size
   have HF2:Hid (Fr [] w wr):=HF0.out.then hF
   have hk2: ¬((k:Int)<(k:Int)):=by omega
   go_wp2_with fail
   go_ret
   exact⟨ro,N,rc,rfl,HO1.out,HF2.out⟩
section
variable {wS w:World} {Z:Zd} {c:Cf} {ts:List Tm} {xs:List Int} {d:Ds}
theorem DsM.counts (h:DsM wS w Z c ts xs d) {i:Nat} (hi:i<c.l.toNat) (hh:(d.lan i).has=true) (hk:Lk (txs ts)): ∃t:Tm,w.cell? ⟨Z.lb,i*5+1,none⟩=some (.slice t.ao t.L t.cap)/\wsAt (txs ts) (d.lan i).n=t.ws/\(shs c (txs ts) (d.lan i).n).length=(dd t.ws).length/\Hid (∀W,Fr [] w W->Calls Tryz.prog 131 #[.agg #[.int .i64 (d.lan i).n,.slice t.ao t.L t.cap]] W fun e w'=> ∃ro rc,e= .returned (.slice ro (dd t.ws).length rc)/\WOw W w' ro (dd t.ws).length rc (dd t.ws)/\Fr [] W w'):=by
 obtain⟨⟨_,⟨wo,M,mc,l1,l2⟩,_⟩,_⟩:=h.lanCell hi
 obtain⟨hn,t,ht,rfl,rfl,rfl⟩:=l2 hh
 rw[Nat.mul_comm 5 i]at l1
 have hlt:=(List.getElem?_eq_some_iff.1 ht).1
 have hws:wsAt (txs ts) (d.lan i).n=t.ws:=by
  unfold wsAt
  rw[zcm,List.getD_eq_getElem?_getD,ht]
  rfl
 have hlen:(wsAt (txs ts) (d.lan i).n).length<=32:=hk.few _ hn (by rw[zap];omega)
 refine⟨t,l1,hws,by unfold shs;rw[List.length_map,hws],fun W hW=> ?_⟩
 have hat:=(h.trs.keep hW).each t (List.mem_of_getElem? ht)
 obtain⟨a1,a2,a3,a4⟩:=hat
 refine (zje (d.lan i).n t.ao t.L t.cap t.ws W a1 a2 (by rw[a2,<-hws];exact hlen)).mono ?_
 rintro e w' ⟨ro,N,rc,rfl,hO,hF⟩
 obtain rfl:N=(dd t.ws).length:=hO.len
 exact⟨ro,rc,rfl,hO,hF⟩
set_option maxHeartbeats 4000000 in
set_option maxRecDepth 100000 in
theorem zoy (h:DsM wS w Z c ts xs d) (e:Ev) (i:Nat) (hi:i<c.l.toNat) (het:e.t=(i:Int)+1) (hh:(d.lan i).has=true) (hs: ¬(d.lan i).sent<(shs c (txs ts) (d.lan i).n).length) (ha:(d.lan i).acked<(shs c (txs ts) (d.lan i).n).length) (hk:Lk (txs ts)) :
  Calls Tryz.prog 84 #[.pointer (some ⟨Z.sb,0,none⟩),.agg #[.int .i64 e.t,.int .u8 e.k,.int .i64 e.n,.int .i64 e.s,.int .i64 e.c,.int .i64 e.m]] w (DstP wS w Z c ts xs (lanD c (txs ts) d i)):=by
 obtain⟨w0,rb,eb,HW0,HRB,HEB,hm,HFin,HBox,HEbx⟩:=h.boxed2 e
 have hls:=h.may.1
 have hE:=HEbx.out _ _ _ hm.dr
 have et:w0.cell? ⟨eb,0,none⟩=some (.int .i64 e.t):=by rw[cell_of_row _ _ _ _ _ _ hE];rfl
 have c12:w0.cell? ⟨Z.sb,12,none⟩=some (.slice (some ⟨Z.lb,0,none⟩) c.l.toNat c.l.toNat):=hm.cell rfl
 obtain⟨t,m1,m2,m3,HC⟩:=hm.counts hi hh hk
 obtain⟨⟨l0,_,l2,l3,l4⟩,_⟩:=hm.lanCell hi
 rw[Nat.mul_comm 5 i]at l0 l2 l3 l4
 rw[hh]at l2
 rw[m3]at hs ha
 have HO:Hid (lanD c (txs ts) d i=((Te.no,false),d)):=by
  show lanD c (txs ts) d i=_
  unfold lanD
  rw[if_neg (by rw[hh];decide),if_neg (by rw[m3];exact hs),if_pos (by rw[m3];exact ha)]
 have HD:Hid (∀W,Fr [] w0 W->Dr wS w0 W Z Z c ts xs d/\W.cell? ⟨Z.lb,i*5+3,none⟩=some (.int .i64 ((d.lan i).sent:Int))/\W.cell? ⟨Z.lb,i*5+4,none⟩=some (.int .i64 ((d.lan i).acked:Int))):=fun W hW=>by
  have D:=hm.dr.quiet hW
  obtain⟨⟨_,_,_,l3,l4⟩,_⟩:=D.m.lanCell hi
  rw[Nat.mul_comm 5 i]at l3 l4
  exact⟨D,l3,l4⟩
 obtain⟨Ln,hLn⟩: ∃Ln,Ln=c.l.toNat:=⟨_,rfl⟩
 rw[<-hLn]at c12 hi
 obtain⟨tk,htk⟩: ∃tk,tk=e.t:=⟨_,rfl⟩
 have hwr:IntKind.i64.wrap (tk-1)=(i:Int):=by rw[IntKind.wrap_i64,htk,het];omega
 rw[<-htk]at et
 have hi2:(i:Int)<(Ln:Int):=by omega
 have hi0:(0:Int)<=(i:Int):=by omega
 have ht1:1<=tk:=by omega
 have ht2:tk<=65536:=by omega
 obtain⟨NN,hNN⟩: ∃NN,NN=(dd t.ws).length:=⟨_,rfl⟩
 have HC2:Hid (∀W,Fr [] w0 W->Calls _ _ _ W _):=HC
 rw[<-hNN]at hs ha
 obtain⟨sn,hsn⟩: ∃sn:Nat,sn=(d.lan i).sent:=⟨_,rfl⟩
 obtain⟨ac,hac⟩: ∃ac:Nat,ac=(d.lan i).acked:=⟨_,rfl⟩
 obtain⟨nm,hnm⟩: ∃nm,nm=(d.lan i).n:=⟨_,rfl⟩
 rw[<-hsn]at l3 hs HD
 rw[<-hac]at l4 ha HD
 rw[<-hnm]at l0 HC2
 rw[<-hNN]at HC2
 have hs2:decide ((sn:Int)<(NN:Int))=false:=by simp;omega
 have ha2:(ac:Int)<(NN:Int):=by omega
 have hs3:decide (sn<NN)=false:=by simp;omega
 have hs4: ¬(sn:Int)<(NN:Int):=by omega
 have hs5:NN<=sn:=by omega
 have hs6:(NN:Int)<=(sn:Int):=by omega
 have ha3:ac<NN:=by omega
 clear h hm hE hLn het htk hh hls hk m2 m3 HC hsn hac hnm hNN hs ha
 go_enter Tryz.func84,Tryz.ntmps84
 go_upto_region 1 with fail
 rw[HW0.out,HRB.out,HEB.out]
 go_quiet (fail)
 go_wp2_with fail
 refine Calls.mono (HC2.out _ (Fr.drewN [] w0 nq)) ?_
 rintro e1 w1 ⟨ro,rc,rfl,hO,hF1⟩
 obtain⟨D1,y3,y4⟩:=HD.out w1 ((Fr.drewN [] w0 nq).then hF1)
 have HB:=HBox.out _ _ _ D1
 have HDD:Hid (Dr _ _ _ _ _ _ _ _ _):=D1
 clear D1 hO hF1 HC2 HD l0 l2 l3 l4 m1 c12 et
 go_wp2_with (refine zab rfl _ _ rfl rb 0 0 0 0 0 0 rfl rfl 0 0 0 0 0 0 HB ?_;intro w6 hw6 hf6)
 refine bodyPost_ret (zai rfl _ _ _ rb _ rfl (zae hw6.out)) rfl ?_
 rw[HO.out]
 exact⟨Z,rfl,HFin.out _ _ _ _ HDD.out hf6⟩
end
section
variable {wS w:World} {Z:Zd} {c:Cf} {ts:List Tm} {xs:List Int} {d:Ds}
theorem DsM.drops (h:DsM wS w Z c ts xs d) {i:Nat} (hi:i<c.l.toNat):DsM wS (w.setCell ⟨Z.lb,i*5+2,none⟩ (.bool false)) Z c ts xs { d with lan:=upd d.lan i { d.lan i with has:=false } }/\Mvd w Z (w.setCell ⟨Z.lb,i*5+2,none⟩ (.bool false)) Z:=by
 obtain⟨cq,q1,q2,q3⟩:=h.pm 2
 refine h.lans (Fr.set (S:=[Z.lb]) w _ _ (by simp)) ⟨_,zag _ q1,by simpa using q2,fun j hj=> ?_⟩
 have hc:=q3 j hj
 obtain⟨wo,M,mc,h1,h2⟩:=hc.c1
 show LnAt _ j ts (upd d.lan i _ j)
 by_cases e:j=i
 ·subst e
  rw[zad]
  refine⟨?_,⟨wo,M,mc,?_,fun hf=>(by cases hf)⟩,?_,?_,?_⟩
  ·rw[Array.getElem?_setIfInBounds_ne (by omega)];exact hc.c0
  ·rw[Array.getElem?_setIfInBounds_ne (by omega)];exact h1
  ·rw[show 5*j+2=j*5+2 by omega,Array.getElem?_setIfInBounds_self_of_lt (by omega)]
  ·rw[Array.getElem?_setIfInBounds_ne (by omega)];exact hc.c3
  ·rw[Array.getElem?_setIfInBounds_ne (by omega)];exact hc.c4
 ·rw[zaa _ _ e]
  refine⟨?_,⟨wo,M,mc,?_,h2⟩,?_,?_,?_⟩
  ·rw[Array.getElem?_setIfInBounds_ne (by omega)];exact hc.c0
  ·rw[Array.getElem?_setIfInBounds_ne (by omega)];exact h1
  ·rw[Array.getElem?_setIfInBounds_ne (by omega)];exact hc.c2
  ·rw[Array.getElem?_setIfInBounds_ne (by omega)];exact hc.c3
  ·rw[Array.getElem?_setIfInBounds_ne (by omega)];exact hc.c4
end
section
variable {wS w:World} {Z:Zd} {c:Cf} {ts:List Tm} {xs:List Int} {d:Ds}
set_option maxHeartbeats 4000000 in
set_option maxRecDepth 100000 in
theorem zoz (h:DsM wS w Z c ts xs d) (e:Ev) (i:Nat) (hi:i<c.l.toNat) (het:e.t=(i:Int)+1) (hh:(d.lan i).has=true) (hs: ¬(d.lan i).sent<(shs c (txs ts) (d.lan i).n).length) (ha: ¬(d.lan i).acked<(shs c (txs ts) (d.lan i).n).length) (hl:d.gone.length<=1099511627776) (hk:Lk (txs ts)) :
  Calls Tryz.prog 84 #[.pointer (some ⟨Z.sb,0,none⟩),.agg #[.int .i64 e.t,.int .u8 e.k,.int .i64 e.n,.int .i64 e.s,.int .i64 e.c,.int .i64 e.m]] w (DstP wS w Z c ts xs (lanD c (txs ts) d i)):=by
 obtain⟨w0,rb,eb,HW0,HRB,HEB,hm,HFin,HBox,HEbx⟩:=h.boxed2 e
 have hls:=h.may.1
 have hE:=HEbx.out _ _ _ hm.dr
 have et:w0.cell? ⟨eb,0,none⟩=some (.int .i64 e.t):=by rw[cell_of_row _ _ _ _ _ _ hE];rfl
 have c12:w0.cell? ⟨Z.sb,12,none⟩=some (.slice (some ⟨Z.lb,0,none⟩) c.l.toNat c.l.toNat):=hm.cell rfl
 obtain⟨t,m1,m2,m3,HC⟩:=hm.counts hi hh hk
 obtain⟨⟨l0,_,l2,l3,l4⟩,_⟩:=hm.lanCell hi
 rw[Nat.mul_comm 5 i]at l0 l2 l3 l4
 rw[hh]at l2
 rw[m3]at hs ha
 have HO:Hid (lanD c (txs ts) d i=((⟨6,(d.lan i).n,0,0⟩,true),{ d with gone:=d.gone++[(d.lan i).n],lan:=upd d.lan i ⟨(d.lan i).n,false,(d.lan i).sent,(d.lan i).acked⟩ })):=by
  show lanD c (txs ts) d i=_
  unfold lanD
  rw[if_neg (by rw[hh];decide),if_neg (by rw[m3];exact hs),if_neg (by rw[m3];exact ha)]
 have HD:Hid (∀W,Fr [] w0 W-> ∃lo m cc,m<=1099511627776/\(W.cell? ⟨Z.lb,i*5+3,none⟩=some (.int .i64 ((d.lan i).sent:Int))/\W.cell? ⟨Z.lb,i*5+4,none⟩=some (.int .i64 ((d.lan i).acked:Int))/\W.cell? ⟨Z.lb,i*5,none⟩=some (.int .i64 (d.lan i).n)/\W.cell? ⟨Z.sb,11,none⟩=some (.slice lo m cc))/\((W.alloc (.cells #[.int .i64 (d.lan i).n] 3)).cell? ⟨Z.sb,11,none⟩=some (.slice lo m cc)/\(W.alloc (.cells #[.int .i64 (d.lan i).n] 3)).cell? ⟨Z.lb,i*5,none⟩=some (.int .i64 (d.lan i).n))/\Hid (∀W',Fr [] W W'->QR W' lo m cc d.gone)/\Hid (∀W1 lo' c' w',Fr [] W W1->QR w' lo' (m+1) c' (d.gone++[(d.lan i).n])->Fr (qb lo).toList W1 w'->(qb lo'=qb lo\/ ∃k,qb lo'=some k/\W1.heap.size<=k)->(w'.cell? ⟨Z.sb,11,none⟩=some (.slice lo m cc)/\w'.frozen? ⟨Z.sb,11,none⟩=false/\w'.cell? ⟨Z.lb,i*5,none⟩=some (.int .i64 (d.lan i).n))/\ ∃W4,w'.setCell ⟨Z.sb,11,none⟩ (.slice lo' (m+1) c')=W4/\W4.cell? ⟨Z.lb,i*5+2,none⟩=some (.bool true)/\W4.frozen? ⟨Z.lb,i*5+2,none⟩=false/\ ∀W5,Fr [] W4 W5-> ∃Z5,Dr wS w0 (W5.setCell ⟨Z.lb,i*5+2,none⟩ (.bool false)) Z Z5 c ts xs { d with gone:=d.gone++[(d.lan i).n],lan:=upd d.lan i ⟨(d.lan i).n,false,(d.lan i).sent,(d.lan i).acked⟩ }/\(W5.setCell ⟨Z.lb,i*5+2,none⟩ (.bool false)).cell? ⟨Z.lb,i*5,none⟩=some (.int .i64 (d.lan i).n))):=by
  intro W hW
  have D:=hm.dr.quiet hW
  obtain⟨⟨l0,_,_,l3,l4⟩,_⟩:=D.m.lanCell hi
  rw[Nat.mul_comm 5 i]at l0 l3 l4
  have hq:QR W Z.gn.lo Z.gn.n Z.gn.c d.gone:=D.m.pm 6
  have c11:W.cell? ⟨Z.sb,11,none⟩=some (.slice Z.gn.lo Z.gn.n Z.gn.c):=D.m.cell rfl
  have DA:=D.quiet (Fr.alloc [] W (.cells #[.int .i64 (d.lan i).n] 3))
  obtain⟨⟨a0,_⟩,_⟩:=DA.m.lanCell hi
  rw[Nat.mul_comm 5 i]at a0
  refine⟨Z.gn.lo,Z.gn.n,Z.gn.c,by rw[hq.len];exact hl,⟨l3,l4,l0,c11⟩,⟨DA.m.cell rfl,a0⟩,fun W' hW'=>hq.keep hW' (by simp),fun W1 lo' c' w' hW1 hQ hF hn=> ?_⟩
  have D1:=D.quiet hW1
  have hbx:=hF.keep D1.m.box (fun hb=>D1.m.ne0 (p:=6) (b:=Z.sb) hb (by decide) rfl)
  have D2:=D1.go (D1.m.gone (w1:=w') ⟨lo',Z.gn.n+1,c'⟩ _ hF hQ hn)
  obtain⟨cl1,cl2,cl3,cl4⟩:=D1.m.pm 2
  have hlb:=hF.keep cl2 (fun hb=>by have:=D1.m.ap 6 2 Z.lb hb (by simp[Zd.part]);omega)
  have hc0:=(cl4 i hi).c0
  rw[Nat.mul_comm 5 i]at hc0
  obtain⟨⟨_,_,b2,_⟩,bf⟩:=D2.m.lanCell hi
  rw[Nat.mul_comm 5 i]at b2
  refine⟨⟨by rw[cell_of_row _ _ _ _ _ _ hbx];rfl,by simp[World.frozen?,hbx],by rw[cell_of_row _ _ _ _ _ _ hlb];exact hc0⟩,_,rfl,by rw[<-hh];exact b2,bf _,fun W5 hW5=> ?_⟩
  have D3:=D2.quiet hW5
  have D4:=D3.go (D3.m.drops hi)
  obtain⟨⟨f0,_⟩,_⟩:=D4.m.lanCell hi
  rw[Nat.mul_comm 5 i]at f0
  have f1:(W5.setCell ⟨Z.lb,i*5+2,none⟩ (.bool false)).cell? ⟨Z.lb,i*5,none⟩=some (.int .i64 (upd d.lan i ⟨(d.lan i).n,false,(d.lan i).sent,(d.lan i).acked⟩ i).n):=f0
  rw[zad]at f1
  exact⟨_,D4,f1⟩
 obtain⟨Ln,hLn⟩: ∃Ln,Ln=c.l.toNat:=⟨_,rfl⟩
 rw[<-hLn]at c12 hi
 obtain⟨tk,htk⟩: ∃tk,tk=e.t:=⟨_,rfl⟩
 have hwr:IntKind.i64.wrap (tk-1)=(i:Int):=by rw[IntKind.wrap_i64,htk,het];omega
 rw[<-htk]at et
 have hi2:(i:Int)<(Ln:Int):=by omega
 have hi0:(0:Int)<=(i:Int):=by omega
 have ht1:1<=tk:=by omega
 have ht2:tk<=65536:=by omega
 obtain⟨NN,hNN⟩: ∃NN,NN=(dd t.ws).length:=⟨_,rfl⟩
 have HC2:Hid (∀W,Fr [] w0 W->Calls _ _ _ W _):=HC
 rw[<-hNN]at hs ha
 obtain⟨sn,hsn⟩: ∃sn:Nat,sn=(d.lan i).sent:=⟨_,rfl⟩
 obtain⟨ac,hac⟩: ∃ac:Nat,ac=(d.lan i).acked:=⟨_,rfl⟩
 obtain⟨nm,hnm⟩: ∃nm,nm=(d.lan i).n:=⟨_,rfl⟩
 rw[<-hsn]at l3 hs HD HO
 rw[<-hac]at l4 ha HD HO
 rw[<-hnm]at l0 HC2 HD HO
 rw[<-hNN]at HC2
 have hs2:decide ((sn:Int)<(NN:Int))=false:=by simp;omega
 have ha2:decide ((ac:Int)<(NN:Int))=false:=by simp;omega
 have ha4:decide (ac<NN)=false:=by simp;omega
 have hs3:decide (sn<NN)=false:=by simp;omega
 have hs4: ¬(sn:Int)<(NN:Int):=by omega
 have hs5:NN<=sn:=by omega
 have hs6:(NN:Int)<=(sn:Int):=by omega
 have ha3:NN<=ac:=by omega
 have ha5:(NN:Int)<=(ac:Int):=by omega
 clear h hm hE hLn het htk hh hls hk m2 m3 HC hsn hac hnm hNN hs ha hl
 go_enter Tryz.func84,Tryz.ntmps84
 go_upto_region 1 with fail
 rw[HW0.out,HRB.out,HEB.out]
 go_quiet (fail)
 go_wp2_with fail
 refine Calls.mono (HC2.out _ (Fr.drewN [] w0 nq)) ?_
 rintro e1 w1 ⟨ro,rc,rfl,hO,hF1⟩
 obtain⟨lo,m,cc,hmm,⟨y3,y4,y0,y11⟩,⟨a11,a0⟩,HX,HG⟩:=HD.out w1 ((Fr.drewN [] w0 nq).then hF1)
 clear hO hF1 HC2 HD l0 l2 l3 l4 m1 c12 et
 go_upto_region 18 with fail
 go_region_law (first
  | (refine zcg _ (by rfl) _ _ (by rfl) lo m cc _ nm (by rfl) (HX.out _ (Fr.drewN _ _ _)) (by omega) (by rfl) ?_;intro lo' c' w3 hQ3 hF3 hm3;obtain⟨⟨e1,e2,e3⟩,hG3⟩:=HG.out _ lo' c' w3 (Fr.drewN _ _ _) hQ3 hF3 hm3)
  | (refine zcg _ (by rfl) _ _ (by rfl) lo m cc _ nm (by rfl) (HX.out _ (Fr.drew _ _)) (by omega) (by rfl) ?_;intro lo' c' w3 hQ3 hF3 hm3;obtain⟨⟨e1,e2,e3⟩,hG3⟩:=HG.out _ lo' c' w3 (Fr.drew _ _) hQ3 hF3 hm3)
  | (refine zcg _ (by rfl) _ _ (by rfl) lo m cc _ nm (by rfl) (HX.out _ (Fr.refl _ _)) (by omega) (by rfl) ?_;intro lo' c' w3 hQ3 hF3 hm3;obtain⟨⟨e1,e2,e3⟩,hG3⟩:=HG.out _ lo' c' w3 (Fr.refl _ _) hQ3 hF3 hm3))
 all_goals
  obtain⟨W4,hW4,p1,p2,p3⟩:=hG3
  rw[hW4]
  have HP:Hid (∀W5,Fr [] W4 W5->_):=p3
  clear p3 hW4 e1 e2 e3 hQ3 hF3 hm3 HX HG y3 y4 y0 y11 a11 a0
  obtain⟨Z5,D5,n1⟩:=HP.out W4 (Fr.refl [] W4)
  have HB:=HBox.out _ _ _ D5
  have HDD:Hid (Dr _ _ _ _ _ _ _ _ _):=D5
  clear D5 HP
  go_wp2_with (refine zab rfl _ _ rfl rb 0 6 nm 0 0 0 rfl rfl 0 0 0 0 0 0 HB ?_;intro w6 hw6 hf6)
  refine bodyPost_ret (zai rfl _ _ _ rb _ rfl (zae hw6.out)) rfl ?_
  rw[HO.out]
  exact⟨Z5,rfl,HFin.out _ _ _ _ HDD.out hf6⟩
end
section
variable {wS w:World} {Z:Zd} {c:Cf} {ts:List Tm} {xs:List Int} {d:Ds}
theorem DsM.sends (h:DsM wS w Z c ts xs d) {i:Nat} (hi:i<c.l.toNat) (hh:(d.lan i).has=true):DsM wS (w.setCell ⟨Z.lb,i*5+3,none⟩ (.int .i64 ((d.lan i).sent+1))) Z c ts xs { d with lan:=upd d.lan i ⟨(d.lan i).n,true,(d.lan i).sent+1,(d.lan i).acked⟩ }/\Mvd w Z (w.setCell ⟨Z.lb,i*5+3,none⟩ (.int .i64 ((d.lan i).sent+1))) Z:=by
 obtain⟨cq,q1,q2,q3⟩:=h.pm 2
 refine h.lans (Fr.set (S:=[Z.lb]) w _ _ (by simp)) ⟨_,zag _ q1,by simpa using q2,fun j hj=> ?_⟩
 have hc:=q3 j hj
 obtain⟨wo,M,mc,h1,h2⟩:=hc.c1
 show LnAt _ j ts (upd d.lan i _ j)
 by_cases e:j=i
 ·subst e
  rw[zad]
  refine⟨?_,⟨wo,M,mc,?_,fun _=>h2 hh⟩,?_,?_,?_⟩
  ·rw[Array.getElem?_setIfInBounds_ne (by omega)];exact hc.c0
  ·rw[Array.getElem?_setIfInBounds_ne (by omega)];exact h1
  ·rw[Array.getElem?_setIfInBounds_ne (by omega),hc.c2,hh]
  ·rw[show 5*j+3=j*5+3 by omega,Array.getElem?_setIfInBounds_self_of_lt (by omega)];simp
  ·rw[Array.getElem?_setIfInBounds_ne (by omega)];exact hc.c4
 ·rw[zaa _ _ e]
  refine⟨?_,⟨wo,M,mc,?_,h2⟩,?_,?_,?_⟩
  ·rw[Array.getElem?_setIfInBounds_ne (by omega)];exact hc.c0
  ·rw[Array.getElem?_setIfInBounds_ne (by omega)];exact h1
  ·rw[Array.getElem?_setIfInBounds_ne (by omega)];exact hc.c2
  ·rw[Array.getElem?_setIfInBounds_ne (by omega)];exact hc.c3
  ·rw[Array.getElem?_setIfInBounds_ne (by omega)];exact hc.c4
end
end Go.Proofs.YtaaghcimfcjehaaGreatDoor
