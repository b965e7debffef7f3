/- Contracts and plain lemmas of this claim. -/
import Derived.Test.YtaaghcimfcjehaaGreatDoorGp13
set_option linter.unusedSimpArgs false
set_option linter.unusedVariables false
namespace Go.Proofs.YtaaghcimfcjehaaGreatDoor
open Go.ChangeShapes Go.WideShapes Go.ChangeAt Go.RowKit Go.Lib Go.Maps
def zcl (W:World) (b:Nat) (v0 v1 v2 v3 v4 v5:Value):World:=((((((W.setCell ⟨b,0,none⟩ v0).setCell ⟨b,1,none⟩ v1).setCell ⟨b,2,none⟩ v2).setCell ⟨b,3,none⟩ v3).setCell ⟨b,4,none⟩ v4).setCell ⟨b,5,none⟩ v5)
theorem Fr.set1 {W V:World} {b:Nat} (h:Fr [b] W V) (j:Nat) (v:Value):Fr [b] W (V.setCell ⟨b,j,none⟩ v):=h.then (Fr.set _ _ _ (by simp))
theorem zdj (W:World) (b:Nat) (v0 v1 v2 v3 v4 v5:Value):Fr [b] W (zcl W b v0 v1 v2 v3 v4 v5):=(Fr.set1 (Fr.set1 (Fr.set1 (Fr.set1 (Fr.set1 (Fr.set1 (Fr.refl [b] W) 0 v0) 1 v1) 2 v2) 3 v3) 4 v4) 5 v5)
theorem zcw {W:World} {b:Nat} {t:TypeId} {u0 u1 u2 u3 u4 u5:Value} (v0 v1 v2 v3 v4 v5:Value) (h:W.heap[b]? = some (.cells #[u0,u1,u2,u3,u4,u5] t (0,0))):(zcl W b v0 v1 v2 v3 v4 v5).heap[b]? = some (.cells #[v0,v1,v2,v3,v4,v5] t (0,0)):=by
 unfold zcl
 have h0:(W.setCell ⟨b,0,none⟩ v0).heap[b]? = some (.cells #[v0,u1,u2,u3,u4,u5] t (0,0)):=by rw[zag v0 h];rfl
 have h1:((W.setCell ⟨b,0,none⟩ v0).setCell ⟨b,1,none⟩ v1).heap[b]? = some (.cells #[v0,v1,u2,u3,u4,u5] t (0,0)):=by rw[zag v1 h0];rfl
 have h2:(((W.setCell ⟨b,0,none⟩ v0).setCell ⟨b,1,none⟩ v1).setCell ⟨b,2,none⟩ v2).heap[b]? = some (.cells #[v0,v1,v2,u3,u4,u5] t (0,0)):=by rw[zag v2 h1];rfl
 have h3:((((W.setCell ⟨b,0,none⟩ v0).setCell ⟨b,1,none⟩ v1).setCell ⟨b,2,none⟩ v2).setCell ⟨b,3,none⟩ v3).heap[b]? = some (.cells #[v0,v1,v2,v3,u4,u5] t (0,0)):=by rw[zag v3 h2];rfl
 have h4:(((((W.setCell ⟨b,0,none⟩ v0).setCell ⟨b,1,none⟩ v1).setCell ⟨b,2,none⟩ v2).setCell ⟨b,3,none⟩ v3).setCell ⟨b,4,none⟩ v4).heap[b]? = some (.cells #[v0,v1,v2,v3,v4,u5] t (0,0)):=by rw[zag v4 h3];rfl
 rw[zag v5 h4];rfl
section
variable {w w' wS:World} {Z:Zs} {c:Cf} {s:Sy} {k:Nat} {ts:List Tm}
set_option maxHeartbeats 8000000 in
set_option maxRecDepth 100000 in
theorem ztq (h:SyM w Z c s k) (hx:Cx wS w Z ts) (hT:Lk (txs ts)) (hI:Iv c (txs ts) s k) (hk:k<=4194304) :
  Calls Tryz.prog 116 #[.pointer (some ⟨Z.sb,0,none⟩)] w (zav w Z c k (dsp c (txs ts) s)):=by
 have hlt:=h.lt
 have hlen:=hT.len
 have hlow:=hI.low
 have htop:=hI.top
 have hLM:=hx.len
 have hmay:=h.may
 rw[zap]at hlen htop
 have hF0:Fr [] w (w.alloc (.cells (evA 0 0 0 0 0 0) 62)):=Fr.alloc _ _ _
 have hb0:(w.alloc (.cells (evA 0 0 0 0 0 0) 62)).heap[w.heap.size]? = some (.cells (evA 0 0 0 0 0 0) 62 (0,0)):=heap_alloc_new _ _
 have h0:=h.quiet hF0
 have hl0:w.heap.size<(w.alloc (.cells (evA 0 0 0 0 0 0) 62)).heap.size:=by simp
 have hx0:=hx.quiet hF0
 obtain⟨w0,HW0⟩: ∃w0,Hid (w.alloc (.cells (evA 0 0 0 0 0 0) 62)=w0):=⟨_,rfl⟩
 rw[HW0.out]at hF0 hb0 h0 hl0 hx0
 obtain⟨rb,HRB⟩: ∃rb,Hid (w.heap.size=rb):=⟨_,rfl⟩
 have hrb:w.heap.size<=rb:=by rw[HRB.out];exact Nat.le_refl _
 rw[HRB.out]at hb0 hl0
 have HFin:Hid (∀W W' Z' s' k',Mv w0 Z W Z'->Fr [rb] W W'->SyM W Z' c s' k'->SyM W' Z' c s' k'/\Mv w Z W' Z'):=fun W W' Z' s' k' hM hf hS=>hM.fin hF0 hrb hl0 hlt hf hS
 have HBox:Hid (∀W Z',Mv w0 Z W Z'->W.heap[rb]? = some (.cells (evA 0 0 0 0 0 0) 62 (0,0))):=fun W Z' hM=>hM.box hrb hlt hb0
 have HW0':Hid (w.alloc (.cells #[.int .i64 0,.int .u8 0,.int .i64 0,.int .i64 0,.int .i64 0,.int .i64 0] 62)=w0):=HW0
 have c4:w0.cell? ⟨Z.sb,4,none⟩=some (.slice Z.logo ts.length Z.mc):=by have:=h0.cell (j:=4) (v:= .slice Z.logo Z.M Z.mc) rfl;rw[hLM]at this;exact this
 have c7:w0.cell? ⟨Z.sb,7,none⟩=some (.int .i64 s.read):=h0.cell rfl
 have c8:w0.cell? ⟨Z.sb,8,none⟩=some (.bool s.holds):=h0.cell rfl
 have HY:Hid (∀W,Fr [] w0 W->SyM W Z c s k):=fun W hf=>h0.quiet hf
 have HX:Hid (Cx wS w0 Z ts):=hx0
 obtain⟨rd,hrd⟩: ∃rd,rd=s.read:=⟨_,rfl⟩
 obtain⟨TL,hTL⟩: ∃TL,TL=ts.length:=⟨_,rfl⟩
 have hr1:0<=rd:=by omega
 have hr2:rd<=65536:=by omega
 have hT2:TL<=65536:=by omega
 rw[<-hrd]at c7
 rw[<-hTL]at c4
 cases hh:s.holds with
 | false =>
  rw[hh]at c8
  by_cases hr:s.read<(ts.length:Int)
  ·have HO:Hid (dsp c (txs ts) s=(⟨1,rd+1,0,0⟩,{ s with holds:=true,read:=rd+1 })):=by
    unfold dsp
    show ite _ _ _=_
    rw[if_pos hh,zap,if_pos hr,hrd]
   have hr3:rd<(TL:Int):=by omega
   have hrd':decide (rd<(TL:Int))=true:=by simpa using hr3
   have H1:Hid (∀W,Fr [] w0 W->W.cell? ⟨Z.sb,7,none⟩=some (.int .i64 rd)/\W.cell? ⟨Z.sb,8,none⟩=some (.bool false)/\W.frozen? ⟨Z.sb,7,none⟩=false/\W.frozen? ⟨Z.sb,8,none⟩=false/\SyM ((W.setCell ⟨Z.sb,8,none⟩ (.bool true)).setCell ⟨Z.sb,7,none⟩ (.int .i64 (rd+1))) Z c { s with holds:=true,read:=rd+1 } k/\Mv w0 Z ((W.setCell ⟨Z.sb,8,none⟩ (.bool true)).setCell ⟨Z.sb,7,none⟩ (.int .i64 (rd+1))) Z):=by
    intro W hf
    have hW:=HY.out W hf
    obtain⟨k1,k2⟩:=hW.setHolds true
    obtain⟨k3,k4⟩:=k1.setRead (rd+1)
    exact⟨by rw[hrd];exact hW.cell rfl,by have:=hW.cell (j:=8) (v:= .bool s.holds) rfl;rw[hh]at this;exact this,hW.fz 7,hW.fz 8,k3,(Mv.quiet hf).trans (k2.trans k4)⟩
   clear h h0 hb0 hl0 hlt hF0 HW0 hx hx0 hT hI hr hrd hTL hlen hlow htop hLM hh HY HX hmay
   go_enter Tryz.func116,Tryz.ntmps116
   go_upto_region 1 with fail
   rw[HW0'.out,HRB.out]
   go_wp2_with fail
   go_quiet (fail)
   obtain⟨w1,HW1⟩: ∃w1,Hid (w0.drewN nq=w1):=⟨_,rfl⟩
   obtain⟨d7,d8,f7,f8,j4,j5⟩:=H1.out (w0.drewN nq) (Fr.drewN _ _ _)
   rw[HW1.out]at d7 d8 f7 f8 j4 j5 ⊢
   have HE:Hid (SyM _ _ _ _ _/\Mv _ _ _ _):=⟨j4,j5⟩
   have HB:=HBox.out _ _ j5
   clear j4 j5 H1 HW1 c4 c7 c8
   go_wp2_with (refine zab rfl _ _ rfl rb 0 1 (rd+1) 0 0 0 rfl rfl 0 0 0 0 0 0 HB ?_;intro w3 hw3 hf3)
   refine bodyPost_ret (zaf rfl _ _ _ rb _ rfl (zae hw3.out)) rfl ?_
   rw[HO.out]
   obtain⟨m1,m2⟩:=HFin.out _ _ _ _ _ HE.out.2 hf3 HE.out.1
   exact⟨Z,rfl,m1.mono (Nat.le_succ k),m2,rfl⟩
  ·have HO:Hid (dsp c (txs ts) s=(Te.no,s)):=by
    unfold dsp
    show ite _ _ _=_
    rw[if_pos hh,zap,if_neg hr]
   have hr3: ¬rd<(TL:Int):=by omega
   have hrd':decide (rd<(TL:Int))=false:=by simpa using hr3
   have H1:Hid (∀W,Fr [] w0 W->W.cell? ⟨Z.sb,8,none⟩=some (.bool false)/\SyM W Z c s k/\Mv w0 Z W Z):=by
    intro W hf
    have hW:=HY.out W hf
    exact⟨by have:=hW.cell (j:=8) (v:= .bool s.holds) rfl;rw[hh]at this;exact this,hW,Mv.quiet hf⟩
   clear h h0 hb0 hl0 hlt hF0 HW0 hx hx0 hT hI hr hrd hTL hlen hlow htop hLM hh HY HX hmay
   go_enter Tryz.func116,Tryz.ntmps116
   go_upto_region 1 with fail
   rw[HW0'.out,HRB.out]
   go_wp2_with fail
   go_quiet (fail)
   obtain⟨w1,HW1⟩: ∃w1,Hid (w0.drewN nq=w1):=⟨_,rfl⟩
   obtain⟨d8,j4,j5⟩:=H1.out (w0.drewN nq) (Fr.drewN _ _ _)
   rw[HW1.out]at d8 j4 j5 ⊢
   have HE:Hid (SyM _ _ _ _ _/\Mv _ _ _ _):=⟨j4,j5⟩
   have HB:=HBox.out _ _ j5
   clear j4 j5 H1 HW1 c4 c7 c8
   go_wp2_with (refine zab rfl _ _ rfl rb 0 0 0 0 0 0 rfl rfl 0 0 0 0 0 0 HB ?_;intro w3 hw3 hf3)
   refine bodyPost_ret (zaf rfl _ _ _ rb _ rfl (zae hw3.out)) rfl ?_
   rw[HO.out]
   obtain⟨m1,m2⟩:=HFin.out _ _ _ _ _ HE.out.2 hf3 HE.out.1
   exact⟨Z,rfl,m1.mono (Nat.le_succ k),m2,rfl⟩
 | true =>
  rw[hh]at c8
  have hr0:=hI.hold hh
  have hhf: ¬s.holds=false:=by rw[hh];simp
  have HCel:Hid (∀W,Fr [] w0 W->W.cell? ⟨Z.sb,2,none⟩=some (.int .i64 c.w)/\W.cell? ⟨Z.sb,5,none⟩=some (.pointer (some ⟨Z.g,0,none⟩))/\W.cell? ⟨Z.sb,7,none⟩=some (.int .i64 rd)/\W.cell? ⟨Z.sb,8,none⟩=some (.bool true)/\W.frozen? ⟨Z.sb,8,none⟩=false):=by
   intro W hf
   have hW:=HY.out W hf
   exact⟨hW.cell rfl,hW.cell rfl,by rw[hrd];exact hW.cell rfl,by have:=hW.cell (j:=8) (v:= .bool s.holds) rfl;rw[hh]at this;exact this,hW.fz 8⟩
  by_cases hin:s.read<=s.ma\/s.read∈s.bx
  ·have HO:Hid (dsp c (txs ts) s=(⟨2,rd,0,0⟩,{ s with holds:=false })):=by
    unfold dsp
    show ite _ _ _=_
    rw[if_neg hhf,if_pos hin,hrd]
   have HH:Hid (∀W,Fr [] w0 W->Calls Tryz.prog 143 #[.pointer (some ⟨Z.g,0,none⟩),.int .i64 rd] W fun e w'=>e= .returned (.bool true)/\Fr [] W w'):=fun W hf=>zqq (HY.out W hf).gate rd true ⟨fun _=>⟨by omega,by rw[hrd];exact hin⟩,fun _=>rfl⟩
   have H1:Hid (∀W,Fr [] w0 W->SyM (W.setCell ⟨Z.sb,8,none⟩ (.bool false)) Z c { s with holds:=false } k/\Mv w0 Z (W.setCell ⟨Z.sb,8,none⟩ (.bool false)) Z):=by
    intro W hf
    obtain⟨k1,k2⟩:=(HY.out W hf).setHolds false
    exact⟨k1,(Mv.quiet hf).trans k2⟩
   clear h h0 hb0 hl0 hlt hF0 HW0 hx hx0 hT hI hrd hTL hlen hlow htop hLM hh HY HX hin hhf hmay
   go_enter Tryz.func116,Tryz.ntmps116
   go_upto_region 1 with fail
   rw[HW0'.out,HRB.out]
   go_wp2_with fail
   go_quiet (fail)
   obtain⟨w1,HW1⟩: ∃w1,Hid (w0.drewN nq=w1):=⟨_,rfl⟩
   have HF1:Hid (Fr [] w0 w1):=by rw[<-HW1.out];exact Fr.drewN _ _ _
   rw[HW1.out]
   obtain⟨d2,d5,d7,d8,f8⟩:=HCel.out w1 HF1.out
   clear HW1 c4 c7 c8
   have g5: ∀y:Wd13 w1,y.W.cell? ⟨Z.sb,5,none⟩=some (.pointer (some ⟨Z.g,0,none⟩)):=fun y=>(HCel.out _ (HF1.out.then y.h)).2.1
   have g7: ∀y:Wd13 w1,y.W.cell? ⟨Z.sb,7,none⟩=some (.int .i64 rd):=fun y=>(HCel.out _ (HF1.out.then y.h)).2.2.1
   have HHs:Hid (∀W,Fr [] w1 W->Calls _ _ _ W _):=fun W hf=>HH.out W (HF1.out.then hf)
   go_wp2_with fail
   refine zau (w1:=w1) (by kernel_rfl) (by kernel_rfl) (Fr.refl _ _) ?_
   repeat (go_big_quiet_step ((go_at_call 143;with_reducible refine (HHs.out _ (Wd13.h _)).mono ?_;exact fun e w3 hh=>⟨hh.1,⟨_,Fr.then (Wd13.h _) hh.2⟩,rfl⟩)))
   refine wpQuiet_nil ?_
   rintro _ ⟨y,rfl⟩
   obtain⟨w2,hw2⟩: ∃w2,w2=y.W:=⟨_,rfl⟩
   have HF2:Hid (Fr [] w0 w2):=by show Fr _ _ _;rw[hw2];exact HF1.out.then y.h
   rw[<-hw2]
   clear hw2 g5 g7 d2 d5 d7 d8 f8 HHs HH
   obtain⟨d2,d5,d7,d8,f8⟩:=HCel.out w2 HF2.out
   obtain⟨j4,j5⟩:=H1.out w2 HF2.out
   have HE:Hid (SyM _ _ _ _ _/\Mv _ _ _ _):=⟨j4,j5⟩
   have HB:=HBox.out _ _ j5
   clear j4 j5 H1
   go_wp2_with (refine zab rfl _ _ rfl rb 0 2 rd 0 0 0 rfl rfl 0 0 0 0 0 0 HB ?_;intro w3 hw3 hf3)
   refine bodyPost_ret (zaf rfl _ _ _ rb _ rfl (zae hw3.out)) rfl ?_
   rw[HO.out]
   obtain⟨m1,m2⟩:=HFin.out _ _ _ _ _ HE.out.2 hf3 HE.out.1
   exact⟨Z,rfl,m1.mono (Nat.le_succ k),m2,rfl⟩
  have HH:Hid (∀W,Fr [] w0 W->Calls Tryz.prog 143 #[.pointer (some ⟨Z.g,0,none⟩),.int .i64 rd] W fun e w'=>e= .returned (.bool false)/\Fr [] W w'):=fun W hf=>zqq (HY.out W hf).gate rd false ⟨fun e=>(by cases e),fun e=>absurd (by rw[<-hrd];exact e.2) hin⟩
  have HMk:Hid (∀W,Fr [] w0 W->Calls Tryz.prog 126 #[.pointer (some ⟨Z.g,0,none⟩)] W fun e w'=>e= .returned (.int .i64 s.ma)/\Fr [] W w'):=fun W hf=>zwr (HY.out W hf).gate
  have hma1:=h.gate.ok.1.low
  have hma2:=h.gate.ok.1.top
  have hw1:=hmay.2.2.1
  obtain⟨ma,hma⟩: ∃ma,ma=s.ma:=⟨_,rfl⟩
  obtain⟨cw,hcw⟩: ∃cw,cw=c.w:=⟨_,rfl⟩
  rw[<-hma]at hma1 hma2 HMk
  rw[<-hcw]at HCel hw1
  obtain⟨hw2,hw3⟩:=hw1
  by_cases hwn:s.read<=s.ma+c.w
  ·have HO:Hid (dsp c (txs ts) s=(⟨3,rd,0,(((adx s.L s.en (zah (wsAt (txs ts) rd))).length:Nat):Int)⟩,opn (txs ts) { s with holds:=false } rd)):=by
    unfold dsp
    show ite _ _ _=_
    rw[if_neg hhf,if_neg hin,if_pos hwn,hrd]
    rfl
   have hle:rd<=ma+cw:=by omega
   have hled:decide (rd<=ma+cw)=true:=by simpa using hle
   have H1:Hid (∀W,Fr [] w0 W-> ∃W4,W.setCell ⟨Z.sb,8,none⟩ (.bool false)=W4/\Mv w0 Z W4 Z/\(∀V,Fr [] W4 V->V.cell? ⟨Z.sb,7,none⟩=some (.int .i64 rd)/\Calls Tryz.prog 144 #[.pointer (some ⟨Z.sb,0,none⟩),.int .i64 rd] V (OpnP V Z c k (((adx s.L s.en (zah (wsAt (txs ts) rd))).length:Nat):Int) (opn (txs ts) { s with holds:=false } rd)))):=by
    intro W hf
    obtain⟨k1,k2⟩:=(HY.out W hf).setHolds false
    have hM:Mv w0 Z (W.setCell ⟨Z.sb,8,none⟩ (.bool false)) Z:=(Mv.quiet hf).trans k2
    refine⟨_,rfl,hM,fun V hV=>⟨by rw[hrd];exact (k1.quiet hV).cell rfl,?_⟩⟩
    exact ztp (k1.quiet hV) ((HX.out.next hM).quiet hV) hT rd (by omega) (by omega) (fun p hp=>by rw[hrd];exact (hI.old p hp).2 hh) hk hI.few0
   have H5:Hid (Z.sb∉[rb]):=by
    intro hm
    simp at hm
    have:=hlt Z.sb (Zs.mem_own.2 (Or.inl (by simp[Zs.six])))
    omega
   have HSN:Hid (∀(W W':World),W.cell? ⟨Z.sb,7,none⟩=some (.int .i64 rd)->Fr [rb] W W'->W'.cell? ⟨Z.sb,7,none⟩=some (.int .i64 rd)):=fun W W' hc hf=>(World.cell?_of_block (hf.block Z.sb (World.block_lt_of_cell? _ _ hc) H5.out)).trans hc
   obtain⟨NN,hNN⟩: ∃NN,NN=(((adx s.L s.en (zah (wsAt (txs ts) rd))).length:Nat):Int):=⟨_,rfl⟩
   obtain⟨s',hs'⟩: ∃s',s'=opn (txs ts) { s with holds:=false } rd:=⟨_,rfl⟩
   have hs'r:s'.read=rd:=by rw[hs',hrd];rfl
   rw[<-hNN,<-hs']at HO H1
   have HSr:Hid (s'.read=rd):=hs'r
   clear h h0 hb0 hl0 hlt hF0 HW0 hx hx0 hT hI hrd hTL hlen hlow htop hLM hh HY HX hin hhf hmay hwn hma hcw hs' hs'r hNN
   go_enter Tryz.func116,Tryz.ntmps116
   go_upto_region 1 with fail
   rw[HW0'.out,HRB.out]
   go_wp2_with fail
   go_quiet (fail)
   obtain⟨w1,HW1⟩: ∃w1,Hid (w0.drewN nq=w1):=⟨_,rfl⟩
   have HF1:Hid (Fr [] w0 w1):=by rw[<-HW1.out];exact Fr.drewN _ _ _
   rw[HW1.out]
   obtain⟨d2,d5,d7,d8,f8⟩:=HCel.out w1 HF1.out
   clear HW1 c4 c7 c8
   have g5: ∀y:Wd13 w1,y.W.cell? ⟨Z.sb,5,none⟩=some (.pointer (some ⟨Z.g,0,none⟩)):=fun y=>(HCel.out _ (HF1.out.then y.h)).2.1
   have g7: ∀y:Wd13 w1,y.W.cell? ⟨Z.sb,7,none⟩=some (.int .i64 rd):=fun y=>(HCel.out _ (HF1.out.then y.h)).2.2.1
   have HHs:Hid (∀W,Fr [] w1 W->Calls _ _ _ W _):=fun W hf=>HH.out W (HF1.out.then hf)
   go_wp2_with fail
   refine zau (w1:=w1) (by kernel_rfl) (by kernel_rfl) (Fr.refl _ _) ?_
   repeat (go_big_quiet_step ((go_at_call 143;with_reducible refine (HHs.out _ (Wd13.h _)).mono ?_;exact fun e w3 hh=>⟨hh.1,⟨_,Fr.then (Wd13.h _) hh.2⟩,rfl⟩)))
   refine wpQuiet_nil ?_
   rintro _ ⟨y,rfl⟩
   obtain⟨w2,hw2⟩: ∃w2,w2=y.W:=⟨_,rfl⟩
   have HF2:Hid (Fr [] w0 w2):=by show Fr _ _ _;rw[hw2];exact HF1.out.then y.h
   rw[<-hw2]
   clear hw2 g5 g7 d2 d5 d7 d8 f8 HHs HH
   have g2: ∀y:Wd13 w2,y.W.cell? ⟨Z.sb,2,none⟩=some (.int .i64 cw):=fun y=>(HCel.out _ (HF2.out.then y.h)).1
   have g5: ∀y:Wd13 w2,y.W.cell? ⟨Z.sb,5,none⟩=some (.pointer (some ⟨Z.g,0,none⟩)):=fun y=>(HCel.out _ (HF2.out.then y.h)).2.1
   have g7: ∀y:Wd13 w2,y.W.cell? ⟨Z.sb,7,none⟩=some (.int .i64 rd):=fun y=>(HCel.out _ (HF2.out.then y.h)).2.2.1
   have HMs:Hid (∀W,Fr [] w2 W->Calls _ _ _ W _):=fun W hf=>HMk.out W (HF2.out.then hf)
   have hwr:IntKind.i64.wrap (ma+cw)=ma+cw:=by rw[IntKind.wrap_i64];omega
   go_wp2_with fail
   refine zau (w1:=w2) (by kernel_rfl) (by kernel_rfl) (Fr.refl _ _) ?_
   repeat (go_big_quiet_step ((go_at_call 126;with_reducible refine (HMs.out _ (Wd13.h _)).mono ?_;exact fun e w3 hh=>⟨hh.1,⟨_,Fr.then (Wd13.h _) hh.2⟩,rfl⟩)))
   refine wpQuiet_nil ?_
   rintro _ ⟨y,rfl⟩
   obtain⟨w3,hw3'⟩: ∃w3,w3=y.W:=⟨_,rfl⟩
   have HF3:Hid (Fr [] w0 w3):=by show Fr _ _ _;rw[hw3'];exact HF2.out.then y.h
   rw[<-hw3']
   clear hw3' g2 g5 g7 HMs HMk
   obtain⟨d2,d5,d7,d8,f8⟩:=HCel.out w3 HF3.out
   obtain⟨w4,hw4,hM4,hK4⟩:=H1.out w3 HF3.out
   have HM4:Hid (Mv w0 Z w4 Z):=hM4
   have HK4:Hid (∀V,Fr [] w4 V->V.cell? ⟨Z.sb,7,none⟩=some (.int .i64 rd)/\Calls _ _ _ V _):=hK4
   have HW4:Hid (w3.setCell ⟨Z.sb,8,none⟩ (.bool false)=w4):=hw4
   clear hM4 hK4 H1 hw4
   go_upto_region 12 with fail
   rw[HW4.out]
   have e7:=(HK4.out w4 (Fr.refl _ _)).1
   clear d2 d5 d7 d8 f8 HW4
   have HFn:Hid (∀V V' Z',Fr [] w4 V->SyM V' Z' c s' (k+1)->Mv V Z V' Z'->V'.cell? ⟨Z.sb,7,none⟩=some (.int .i64 rd)/\V'.heap[rb]? = some (.cells (evA 0 0 0 0 0 0) 62 (0,0))/\Mv w0 Z V' Z'):=by
    intro V V' Z' hf hS hM
    have hM':=(HM4.out.qu hf).trans hM
    refine⟨?_,HBox.out V' Z' hM',hM'⟩
    have:=hS.cell (j:=7) (v:= .int .i64 s'.read) rfl
    rw[hM.at_,HSr.out]at this
    exact this
   have HC5:Hid (∀V,Fr [] w4 V->Calls Tryz.prog 144 #[.pointer (some ⟨Z.sb,0,none⟩),.int .i64 rd] V fun e w'=>e= .returned (.int .i64 NN)/\w'.cell? ⟨Z.sb,7,none⟩=some (.int .i64 rd)/\Hid (∃Z5,SyM w' Z5 c s' (k+1)/\Mv w0 Z w' Z5)/\Hid (w'.heap[rb]? = some (.cells (evA 0 0 0 0 0 0) 62 (0,0)))/\(w'.cell? ⟨rb,0,none⟩=some (.int .i64 0)/\w'.cell? ⟨rb,1,none⟩=some (.int .u8 0)/\w'.cell? ⟨rb,2,none⟩=some (.int .i64 0)/\w'.cell? ⟨rb,3,none⟩=some (.int .i64 0)/\w'.cell? ⟨rb,4,none⟩=some (.int .i64 0)/\w'.cell? ⟨rb,5,none⟩=some (.int .i64 0))/\(∀j,w'.frozen? ⟨rb,j,none⟩=false)):=by
    intro V hV
    refine Calls.mono (HK4.out V hV).2 ?_
    rintro e w5 ⟨Z5,rfl,hS5,hM5⟩
    obtain⟨y1,y2,y3⟩:=HFn.out V w5 Z5 hV hS5 hM5
    exact⟨rfl,y1,⟨Z5,hS5,y3⟩,y2,⟨by rw[cell_of_row _ _ _ _ _ _ y2];rfl,by rw[cell_of_row _ _ _ _ _ _ y2];rfl,by rw[cell_of_row _ _ _ _ _ _ y2];rfl,by rw[cell_of_row _ _ _ _ _ _ y2];rfl,by rw[cell_of_row _ _ _ _ _ _ y2];rfl,by rw[cell_of_row _ _ _ _ _ _ y2];rfl⟩,fun j=>by simp[World.frozen?,y2]⟩
   clear HFn HK4 HM4
   have hsr:Z.sb≠rb:=fun e=>H5.out (by simp[e])
   have hsr':rb≠Z.sb:=fun e=>hsr e.symm
   go_wp2_with fail
   go_region_held3 (fun W=>W.cell? ⟨Z.sb,7,none⟩=some (.int .i64 rd)) (go_keep)
    (first
     | (with_reducible refine Calls.mono (HC5.out _ (Fr.drew _ _)) ?_;rintro e w5 ⟨rfl,y1,HE,HB,⟨e0,e1,e2,e3,e4,e5⟩,zz⟩))
   have f6:=zdj w5 rb (.int .i64 0) (.int .u8 3) (.int .i64 rd) (.int .i64 0) (.int .i64 NN) (.int .i64 0)
   have r6:=zcw (b:=rb) (.int .i64 0) (.int .u8 3) (.int .i64 rd) (.int .i64 0) (.int .i64 NN) (.int .i64 0) HB.out
   unfold zcl at f6 r6
   have HF6:Hid _:=f6
   have HR6:Hid _:=r6
   clear f6 r6 e0 e1 e2 e3 e4 e5 zz y1
   go_wp2_with fail
   refine bodyPost_ret (zaf rfl _ _ _ rb _ rfl (zae HR6.out)) rfl ?_
   rw[HO.out]
   obtain⟨Z5,hS5,hM5⟩:=HE.out
   obtain⟨m1,m2⟩:=HFin.out _ _ _ _ _ hM5 HF6.out hS5
   exact⟨Z5,rfl,m1,m2,hM5.at_⟩
  ·have HO:Hid (dsp c (txs ts) s=(Te.no,s)):=by
    unfold dsp
    show ite _ _ _=_
    rw[if_neg hhf,if_neg hin,if_neg hwn]
   have hle: ¬rd<=ma+cw:=by omega
   have hled:decide (rd<=ma+cw)=false:=by simpa using hle
   have H1:Hid (∀W,Fr [] w0 W->SyM W Z c s k/\Mv w0 Z W Z):=fun W hf=>⟨HY.out W hf,Mv.quiet hf⟩
   clear h h0 hb0 hl0 hlt hF0 HW0 hx hx0 hT hI hrd hTL hlen hlow htop hLM hh HY HX hin hhf hmay hwn hma hcw
   go_enter Tryz.func116,Tryz.ntmps116
   go_upto_region 1 with fail
   rw[HW0'.out,HRB.out]
   go_wp2_with fail
   go_quiet (fail)
   obtain⟨w1,HW1⟩: ∃w1,Hid (w0.drewN nq=w1):=⟨_,rfl⟩
   have HF1:Hid (Fr [] w0 w1):=by rw[<-HW1.out];exact Fr.drewN _ _ _
   rw[HW1.out]
   obtain⟨d2,d5,d7,d8,f8⟩:=HCel.out w1 HF1.out
   clear HW1 c4 c7 c8
   have g5: ∀y:Wd13 w1,y.W.cell? ⟨Z.sb,5,none⟩=some (.pointer (some ⟨Z.g,0,none⟩)):=fun y=>(HCel.out _ (HF1.out.then y.h)).2.1
   have g7: ∀y:Wd13 w1,y.W.cell? ⟨Z.sb,7,none⟩=some (.int .i64 rd):=fun y=>(HCel.out _ (HF1.out.then y.h)).2.2.1
   have HHs:Hid (∀W,Fr [] w1 W->Calls _ _ _ W _):=fun W hf=>HH.out W (HF1.out.then hf)
   go_wp2_with fail
   refine zau (w1:=w1) (by kernel_rfl) (by kernel_rfl) (Fr.refl _ _) ?_
   repeat (go_big_quiet_step ((go_at_call 143;with_reducible refine (HHs.out _ (Wd13.h _)).mono ?_;exact fun e w3 hh=>⟨hh.1,⟨_,Fr.then (Wd13.h _) hh.2⟩,rfl⟩)))
   refine wpQuiet_nil ?_
   rintro _ ⟨y,rfl⟩
   obtain⟨w2,hw2⟩: ∃w2,w2=y.W:=⟨_,rfl⟩
   have HF2:Hid (Fr [] w0 w2):=by show Fr _ _ _;rw[hw2];exact HF1.out.then y.h
   rw[<-hw2]
   clear hw2 g5 g7 d2 d5 d7 d8 f8 HHs HH
   have g2: ∀y:Wd13 w2,y.W.cell? ⟨Z.sb,2,none⟩=some (.int .i64 cw):=fun y=>(HCel.out _ (HF2.out.then y.h)).1
   have g5: ∀y:Wd13 w2,y.W.cell? ⟨Z.sb,5,none⟩=some (.pointer (some ⟨Z.g,0,none⟩)):=fun y=>(HCel.out _ (HF2.out.then y.h)).2.1
   have g7: ∀y:Wd13 w2,y.W.cell? ⟨Z.sb,7,none⟩=some (.int .i64 rd):=fun y=>(HCel.out _ (HF2.out.then y.h)).2.2.1
   have HMs:Hid (∀W,Fr [] w2 W->Calls _ _ _ W _):=fun W hf=>HMk.out W (HF2.out.then hf)
   have hwr:IntKind.i64.wrap (ma+cw)=ma+cw:=by rw[IntKind.wrap_i64];omega
   go_wp2_with fail
   refine zau (w1:=w2) (by kernel_rfl) (by kernel_rfl) (Fr.refl _ _) ?_
   repeat (go_big_quiet_step ((go_at_call 126;with_reducible refine (HMs.out _ (Wd13.h _)).mono ?_;exact fun e w3 hh=>⟨hh.1,⟨_,Fr.then (Wd13.h _) hh.2⟩,rfl⟩)))
   refine wpQuiet_nil ?_
   rintro _ ⟨y,rfl⟩
   obtain⟨w3,hw3'⟩: ∃w3,w3=y.W:=⟨_,rfl⟩
   have HF3:Hid (Fr [] w0 w3):=by show Fr _ _ _;rw[hw3'];exact HF2.out.then y.h
   rw[<-hw3']
   clear hw3' g2 g5 g7 HMs HMk
   obtain⟨j4,j5⟩:=H1.out w3 HF3.out
   have HE:Hid (SyM _ _ _ _ _/\Mv _ _ _ _):=⟨j4,j5⟩
   have HB:=HBox.out _ _ j5
   clear j4 j5 H1
   go_wp2_with (refine zab rfl _ _ rfl rb 0 0 0 0 0 0 rfl rfl 0 0 0 0 0 0 HB ?_;intro w5 hw5 hf5)
   refine bodyPost_ret (zaf rfl _ _ _ rb _ rfl (zae hw5.out)) rfl ?_
   rw[HO.out]
   obtain⟨m1,m2⟩:=HFin.out _ _ _ _ _ HE.out.2 hf5 HE.out.1
   exact⟨Z,rfl,m1.mono (Nat.le_succ k),m2,rfl⟩
end
end Go.Proofs.YtaaghcimfcjehaaGreatDoor
