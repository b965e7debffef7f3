/- Contracts and plain lemmas of this claim. -/
import Derived.Test.YtaaghcimfcjehaaGreatDoorGp17
set_option linter.unusedSimpArgs false
set_option linter.unusedVariables false
namespace Go.Proofs.YtaaghcimfcjehaaGreatDoor
open Go.ChangeShapes Go.WideShapes Go.ChangeAt Go.RowKit Go.Lib Go.Maps
section
variable {w w' wS:World} {Z:Zs} {c:Cf} {s:Sy} {k:Nat} {ts:List Tm}
set_option maxHeartbeats 16000000 in
set_option maxRecDepth 100000 in
theorem zua (h:At wS w Z c s k ts) (hN:Nms w) (e:Ev) (he:I6 e.t) (hes:I6 e.s) (Q:Nat) (hQ:w.heap[Q]? = some (.cells #[.pointer (some ⟨Z.sb,0,none⟩)] 71 (0,0))) {K:Nat} {x:Int} (hK:KT c.l c.s e.t K x) (ht:e.t<c.l+c.s+2) :
  Calls Tryz.prog 78 #[.pointer (some ⟨Z.sb,0,none⟩),.agg (kdA Q),.agg (evA e.t e.k e.n e.s e.c e.m)] w (znu w Z c k ⟨e.t,(stp c (txs ts) s e).1.k,(stp c (txs ts) s e).1.n,(stp c (txs ts) s e).1.s,(stp c (txs ts) s e).1.c,(stp c (txs ts) s e).2.ma⟩ (stp c (txs ts) s e).2):=by
 have HS:Hid (Sb w _ Z Q e w.heap.size):=Sb.new w Z Q e
 obtain⟨w1,HW1⟩: ∃w1,Hid (((w.alloc (.cells (kdA Q) 118)).alloc (.cells (evA e.t e.k e.n e.s e.c e.m) 62)).alloc (.cells (evA 0 0 0 0 0 0) 62)=w1):=⟨_,rfl⟩
 rw[HW1.out]at HS
 obtain⟨b,HBB⟩: ∃b,Hid (w.heap.size=b):=⟨_,rfl⟩
 rw[HBB.out]at HS
 have HQ:Hid (∀W,Fr [] w1 W->Sb w W Z Q e b/\At wS W Z c s k ts):=fun W hf=>⟨HS.out.quiet hf,h.quiet (HS.out.fr.then hf)⟩
 have HNa:Hid (∀W,Fr [] w1 W->Calls Tryz.prog 125 #[.agg #[.int .i64 c.l,.int .i64 c.s,.int .i64 c.w,.int .i64 c.q],.int .i64 e.t] W fun e' w'=>e'= .returned (.tuple #[.string (nmAt K),.int .i64 x,.int .i64 0])/\Fr [] W w'):=fun W hf=>zjv c.l c.s c.w c.q e.t _ _ _ W (hN.keep (HS.out.fr.then hf) (by simp)) he (Or.inr (Or.inr ⟨h.st.may,ht,rfl,K,hK,rfl⟩))
 have HTk:Hid (∀W,Fr [] w1 W->Calls Tryz.prog (kdF K) #[.int .i64 x,.agg (evA e.t e.k e.n e.s e.c e.m),.pointer (some ⟨Q,0,none⟩)] W (zav W Z c k (stp c (txs ts) s e))):=fun W hf=>znt (h.quiet (HS.out.fr.then hf)) e he hes Q ((HS.out.fr.then hf).keep hQ (by simp)) hK
 have hK5:=hK.le
 have HGt:Hid (∀(W V:World) (Z':Zs) (s':Sy),SyM W Z' c s' (k+1)-> ∀b12,b12∉Z'.own->Fr [b12] W V->Calls Tryz.prog 126 #[.pointer (some ⟨Z'.g,0,none⟩)] V fun e w'=>e= .returned (.int .i64 s'.ma)/\V=w'):=by
  intro W V Z' s' hS b12 hb hf
  obtain⟨ws,h1,_⟩:=hS.gate.mem
  exact zii V (h1.keep hf (fun hh=>hb (by simp at hh;rw[<-hh];exact Zs.mem_own.2 (Or.inl (by simp[Zs.six])))))
 obtain⟨r,hr⟩: ∃r,r=stp c (txs ts) s e:=⟨_,rfl⟩
 rw[<-hr]at HTk ⊢
 obtain⟨et,ek,en,es,ec,em⟩:=e
 obtain⟨⟨ak,an,a3,ac⟩,s'⟩:=r
 simp only at HW1 HQ HNa HS HTk ⊢
 have f0: ∀y:Wd13 w1,y.W.cell? ⟨Z.sb,0,none⟩=some (.int .i64 c.l):=fun y=>(HQ.out _ y.h).2.st.cell rfl
 have f1: ∀y:Wd13 w1,y.W.cell? ⟨Z.sb,1,none⟩=some (.int .i64 c.s):=fun y=>(HQ.out _ y.h).2.st.cell rfl
 have f2: ∀y:Wd13 w1,y.W.cell? ⟨Z.sb,2,none⟩=some (.int .i64 c.w):=fun y=>(HQ.out _ y.h).2.st.cell rfl
 have f3: ∀y:Wd13 w1,y.W.cell? ⟨Z.sb,3,none⟩=some (.int .i64 c.q):=fun y=>(HQ.out _ y.h).2.st.cell rfl
 have f4: ∀y:Wd13 w1,y.W.cell? ⟨b+1,0,none⟩=some (.int .i64 et):=fun y=>(zam (HQ.out _ y.h).1.r5).1
 have HLt:Hid (∀x∈Z.own,x<w.heap.size):=h.st.lt
 have HMid:Hid (∀W W' Z',Fr [] w1 W->SyM W' Z' c s' (k+1)->Mv W Z W' Z'->W'.heap[b+1]? = some (.cells (evA et ek en es ec em) 62 (0,0))/\W'.heap[b+1+1]? = some (.cells (evA 0 0 0 0 0 0) 62 (0,0))/\Mv w Z W' Z'/\b+1+1∉Z'.own/\w.heap.size<=b):=by
  intro W W' Z' hf hS hM
  have hq:=(HQ.out W hf).1
  have hlo:=hq.lo
  have hno: ∀x,w.heap.size<=x->x<W.heap.size->x∉Z'.own:=fun x h1 h2 hh=>by
   rcases hM.sub x hh with h3|h3
   ·have:=HLt.out x h3;omega
   ·omega
  exact⟨hM.fr.keep hq.r5 (fun hh=>by have:=HLt.out _ hh;omega),hM.fr.keep hq.r6 (fun hh=>by have:=HLt.out _ hh;omega),(Mv.quiet hq.fr).trans hM,hno _ (by omega) (lt_of_block hq.r6),hlo⟩
 clear h hN he ht HS hes hQ hK hr
 simp only[evA]at HW1 ⊢
 go_enter Tryz.func78,Tryz.ntmps78
 go_upto_region 1 with fail
 rw[HW1.out,HBB.out]
 go_wp2_with fail
 refine zau (w1:=w1) (by kernel_rfl) (by kernel_rfl) (Fr.refl _ _) ?_
 repeat (go_big_quiet_step ((go_at_call 125;with_reducible refine (HNa.out _ (Wd13.h _)).mono ?_;exact fun e w3 hh=>⟨hh.1,⟨_,Fr.then (Wd13.h _) hh.2⟩,rfl⟩)))
 refine wpQuiet_nil ?_
 rintro _ ⟨y,rfl⟩
 obtain⟨w2,hw2⟩: ∃w2,w2=y.W:=⟨_,rfl⟩
 have HF2:Hid (Fr [] w1 w2):=by show Fr _ _ _;rw[hw2];exact y.h
 rw[<-hw2]
 clear hw2 f0 f1 f2 f3 f4 HNa
 obtain⟨k0,k1,k2,k3,k4,k5,k6,k7,k8,k9⟩:=zgt (HQ.out _ HF2.out).1.r4
 go_wp2_with fail
 clear k0 k1 k2 k3 k4 k5 k6 k7 k8 k9
 go_loopw [25] (fun ii wr=> ∃(i:Nat),ii= .int .i64 i/\i<=K/\Hid (Fr [] w1 wr)) (fun ii _=>5-(RowKit.intOf ii).toNat)
 case atStart=>exact⟨0,rfl,by omega,HF2⟩
 case round =>
  obtain⟨i,rfl,hiK,HFr⟩:=hrel
  have hii:(i:Int)<5:=by omega
  have x0:=zre Q
  have x1:=zrf Q
  have x2:=zrg Q
  have x3:=zrh Q
  have x4:=zri Q
  obtain rfl|rfl|rfl|rfl|rfl:K=0\/K=1\/K=2\/K=3\/K=4:=by omega
  ·obtain rfl:i=0:=by omega
   rw[show ((0:Nat):Int)=0 from rfl,show nmAt 0=(⟨#[100,105,115,112,97,116,99,104,101,114]⟩:ByteArray) from rfl]
   obtain⟨w3,HW3⟩: ∃w3,Hid (wr.alloc (.cells #[.string ⟨#[100,105,115,112,97,116,99,104,101,114]⟩,.func (Fn.func 115) #[] #[.pointer (some ⟨Q,0,none⟩)]] 117)=w3):=⟨_,rfl⟩
   obtain⟨B9,HB9⟩: ∃B9,Hid (wr.heap.size=B9):=⟨_,rfl⟩
   have HF3:Hid (Fr [] w1 w3):=by rw[<-HW3.out];exact HFr.out.then (Fr.alloc _ _ _)
   have hrow:w3.heap[B9]? = some (.cells #[.string ⟨#[100,105,115,112,97,116,99,104,101,114]⟩,.func (Fn.func 115) #[] #[.pointer (some ⟨Q,0,none⟩)]] 117 (0,0)):=by rw[<-HW3.out,<-HB9.out];exact heap_alloc_new _ _
   have q0:w3.cell? ⟨B9,0,none⟩=some (.string ⟨#[100,105,115,112,97,116,99,104,101,114]⟩):=by rw[cell_of_row _ _ _ _ _ _ hrow];rfl
   have q1:w3.cell? ⟨B9,1,none⟩=some (.func (Fn.func 115) #[] #[.pointer (some ⟨Q,0,none⟩)]):=by rw[cell_of_row _ _ _ _ _ _ hrow];rfl
   obtain⟨y0,y1,y2,y3,y4,y5⟩:=zam (HQ.out _ HF3.out).1.r5
   have HCk:Hid (Calls Tryz.prog 115 _ _ _):=HTk.out w3 HF3.out
   clear hrow
   go_upto_region 5 with fail
   rw[HW3.out,HB9.out]
   clear HW3 HB9
   go_wp2_with fail
   refine Calls.mono HCk.out ?_
   rintro e w4 ⟨Z4,rfl,hS4,hM4,z4⟩
   obtain⟨r5,r6,m5,hno,hlow⟩:=HMid.out w3 w4 Z4 HF3.out hS4 hM4
   clear y0 y1 y2 y3 y4 y5 q0 q1 HCk
   simp only[Te.v,evA]
   obtain⟨w5,HW5⟩: ∃w5,Hid (w4.alloc (.cells #[.int .i64 0,.int .u8 ak,.int .i64 an,.int .i64 a3,.int .i64 ac,.int .i64 0] 62)=w5):=⟨_,rfl⟩
   obtain⟨b12,HB12⟩: ∃b12,Hid (w4.heap.size=b12):=⟨_,rfl⟩
   have hf5:Fr [] w4 w5:=by rw[<-HW5.out];exact Fr.alloc _ _ _
   have r12:w5.heap[b12]? = some (.cells (evA 0 ak an a3 ac 0) 62 (0,0)):=by rw[<-HW5.out,<-HB12.out];exact heap_alloc_new _ _
   have hS5:=hS4.quiet hf5
   have hno12:b12∉Z4.own:=fun hh=>by have:=hS4.lt _ hh;rw[HB12.out]at this;omega
   obtain⟨v0,v1,v2,v3,v4,v5⟩:=zam r12
   have zz: ∀j,w5.frozen? ⟨b12,j,none⟩=false:=fun j=>by simp[World.frozen?,r12]
   have u0:=(zam (hf5.keep r5 (by simp))).1
   have g5:w5.cell? ⟨Z.sb,5,none⟩=some (.pointer (some ⟨Z4.g,0,none⟩)):=by have:=hS5.cell (j:=5) (v:= .pointer (some ⟨Z4.g,0,none⟩)) rfl;rw[z4]at this;exact this
   have HMk:Hid (∀V,Fr [b12] w5 V->Calls Tryz.prog 126 #[.pointer (some ⟨Z4.g,0,none⟩)] V fun e w'=>e= .returned (.int .i64 s'.ma)/\V=w'):=fun V hf=>HGt.out w5 V Z4 s' hS5 b12 hno12 hf
   have hb1:b+1<b12:=by rw[<-HB12.out];exact lt_of_block r5
   have hb2:b+1+1<b12:=by rw[<-HB12.out];exact lt_of_block r6
   have hb3:Z.sb<b12:=by rw[<-HB12.out,<-z4];exact hS4.lt _ (Zs.mem_own.2 (Or.inl (by simp[Zs.six])))
   have HR6:Hid (∀V,Fr [b12] w5 V->V.heap[b+1+1]? = some (.cells (evA 0 0 0 0 0 0) 62 (0,0))):=fun V hf=>hf.keep (hf5.keep r6 (by simp)) (by simp;omega)
   have HEnd:Hid (∀V V',Fr [b12] w5 V->Fr [b+1+1] V V'->SyM V' Z4 c s' (k+1)/\Mv w Z V' Z4):=by
    intro V V' h1 h2
    have hS6:=hS5.keep h1 (fun x hx hh=>by simp at hh;exact hno12 (hh▸hx))
    refine⟨hS6.keep h2 (fun x hx hh=>by simp at hh;exact hno (hh▸hx)),?_⟩
    exact⟨(m5.fr.then (hf5.mono (by simp))).trans (h1.trans h2 (U:=[b12,b+1+1]) (by simp) (by simp)) (fun x hx _=>hx) (fun x hx hl=>by
     have h8:w.heap.size<=b12:=by rw[<-HB12.out];exact m5.fr.size
     simp at hx;omega),m5.sub,m5.at_,m5.log⟩
   have HR12:Hid (w5.heap[b12]? = some (.cells (evA 0 ak an a3 ac 0) 62 (0,0))):=r12
   have n1:b+1≠b12:=by omega
   have n2:b12≠b+1:=by omega
   have n3:Z.sb≠b12:=by omega
   have n4:b12≠Z.sb:=by omega
   have n5:b+1+1≠b12:=by omega
   clear hS4 hM4 hS5 r5 r6 m5 r12 hno hno12 hb1 hb2 hb3 hf5 hlow
   obtain⟨ma,hma⟩: ∃ma,ma=s'.ma:=⟨_,rfl⟩
   rw[<-hma]at HMk
   have HMa:Hid (s'.ma=ma):=hma.symm
   clear hma
   go_upto_region 7 with fail
   rw[HW5.out,HB12.out]
   clear HW5 HB12
   go_wp2_with fail
   go_region_held3 (fun W=>W.cell? ⟨b+1,0,none⟩=some (.int .i64 et)/\W.cell? ⟨Z.sb,5,none⟩=some (.pointer (some ⟨Z4.g,0,none⟩))) (go_keep)
    (first
     | (with_reducible refine Calls.mono (HMk.out _ (Fr.drew _ _)) ?_;rintro e w6 ⟨rfl,rfl⟩)
     | (with_reducible refine Calls.mono (HMk.out _ (Fr.then (Fr.drew _ _) (Fr.set _ _ _ (List.mem_singleton_self _)))) ?_;rintro e w6 ⟨rfl,rfl⟩)
     | (with_reducible refine Calls.mono (HMk.out _ (Fr.then (Fr.set _ _ _ (List.mem_singleton_self _)) (Fr.drew _ _))) ?_;rintro e w6 ⟨rfl,rfl⟩))
   obtain⟨w6,HW6⟩: ∃w6,Hid (((w5.setCell ⟨b12,0,none⟩ (.int .i64 et)).setCell ⟨b12,5,none⟩ (.int .i64 ma)).drew=w6):=⟨_,rfl⟩
   have HF6:Hid (Fr [b12] w5 w6):=by rw[<-HW6.out];exact ((Fr.set _ _ _ (by simp)).then (Fr.set _ _ _ (by simp))).then (Fr.drew _ _)
   have r12:w6.heap[b12]? = some (.cells (evA et ak an a3 ac ma) 62 (0,0)):=by
    rw[<-HW6.out]
    show ((w5.setCell ⟨b12,0,none⟩ (.int .i64 et)).setCell ⟨b12,5,none⟩ (.int .i64 ma)).heap[b12]? = _
    rw[zag _ (zag _ HR12.out)]
    rfl
   rw[HW6.out]
   clear v0 v1 v2 v3 v4 v5 zz u0 g5 HW6
   obtain⟨v0,v1,v2,v3,v4,v5⟩:=zam r12
   have HB:=HR6.out w6 HF6.out
   go_wp2_with (refine zab rfl _ _ rfl (b+1+1) et ak an a3 ac ma rfl rfl 0 0 0 0 0 0 HB ?_;intro w7 hw7 hf7)
   refine bodyPost_ret (zaf rfl _ _ _ (b+1+1) _ rfl (zae hw7.out)) rfl ?_
   obtain⟨m1,m2⟩:=HEnd.out w6 w7 HF6.out hf7
   exact⟨Z4,by rw[HMa.out],m1,m2⟩
  ·obtain rfl|rfl:i=0\/i=1:=by omega
   ·rw[show ((0:Nat):Int)=0 from rfl,show nmAt 1=(⟨#[108,97,110,101]⟩:ByteArray) from rfl]
    go_wp2_with fail
    go_roundw
    case rel=>exact⟨1,rfl,by omega,HFr.out.then (Fr.alloc _ _ _)⟩
    case measure=>simp[RowKit.intOf]
   ·rw[show ((1:Nat):Int)=1 from rfl,show nmAt 1=(⟨#[108,97,110,101]⟩:ByteArray) from rfl]
    obtain⟨w3,HW3⟩: ∃w3,Hid (wr.alloc (.cells #[.string ⟨#[108,97,110,101]⟩,.func (Fn.func 117) #[] #[.pointer (some ⟨Q,0,none⟩)]] 117)=w3):=⟨_,rfl⟩
    obtain⟨B9,HB9⟩: ∃B9,Hid (wr.heap.size=B9):=⟨_,rfl⟩
    have HF3:Hid (Fr [] w1 w3):=by rw[<-HW3.out];exact HFr.out.then (Fr.alloc _ _ _)
    have hrow:w3.heap[B9]? = some (.cells #[.string ⟨#[108,97,110,101]⟩,.func (Fn.func 117) #[] #[.pointer (some ⟨Q,0,none⟩)]] 117 (0,0)):=by rw[<-HW3.out,<-HB9.out];exact heap_alloc_new _ _
    have q0:w3.cell? ⟨B9,0,none⟩=some (.string ⟨#[108,97,110,101]⟩):=by rw[cell_of_row _ _ _ _ _ _ hrow];rfl
    have q1:w3.cell? ⟨B9,1,none⟩=some (.func (Fn.func 117) #[] #[.pointer (some ⟨Q,0,none⟩)]):=by rw[cell_of_row _ _ _ _ _ _ hrow];rfl
    obtain⟨y0,y1,y2,y3,y4,y5⟩:=zam (HQ.out _ HF3.out).1.r5
    have HCk:Hid (Calls Tryz.prog 117 _ _ _):=HTk.out w3 HF3.out
    clear hrow
    go_upto_region 5 with fail
    rw[HW3.out,HB9.out]
    clear HW3 HB9
    go_wp2_with fail
    refine Calls.mono HCk.out ?_
    rintro e w4 ⟨Z4,rfl,hS4,hM4,z4⟩
    obtain⟨r5,r6,m5,hno,hlow⟩:=HMid.out w3 w4 Z4 HF3.out hS4 hM4
    clear y0 y1 y2 y3 y4 y5 q0 q1 HCk
    simp only[Te.v,evA]
    obtain⟨w5,HW5⟩: ∃w5,Hid (w4.alloc (.cells #[.int .i64 0,.int .u8 ak,.int .i64 an,.int .i64 a3,.int .i64 ac,.int .i64 0] 62)=w5):=⟨_,rfl⟩
    obtain⟨b12,HB12⟩: ∃b12,Hid (w4.heap.size=b12):=⟨_,rfl⟩
    have hf5:Fr [] w4 w5:=by rw[<-HW5.out];exact Fr.alloc _ _ _
    have r12:w5.heap[b12]? = some (.cells (evA 0 ak an a3 ac 0) 62 (0,0)):=by rw[<-HW5.out,<-HB12.out];exact heap_alloc_new _ _
    have hS5:=hS4.quiet hf5
    have hno12:b12∉Z4.own:=fun hh=>by have:=hS4.lt _ hh;rw[HB12.out]at this;omega
    obtain⟨v0,v1,v2,v3,v4,v5⟩:=zam r12
    have zz: ∀j,w5.frozen? ⟨b12,j,none⟩=false:=fun j=>by simp[World.frozen?,r12]
    have u0:=(zam (hf5.keep r5 (by simp))).1
    have g5:w5.cell? ⟨Z.sb,5,none⟩=some (.pointer (some ⟨Z4.g,0,none⟩)):=by have:=hS5.cell (j:=5) (v:= .pointer (some ⟨Z4.g,0,none⟩)) rfl;rw[z4]at this;exact this
    have HMk:Hid (∀V,Fr [b12] w5 V->Calls Tryz.prog 126 #[.pointer (some ⟨Z4.g,0,none⟩)] V fun e w'=>e= .returned (.int .i64 s'.ma)/\V=w'):=fun V hf=>HGt.out w5 V Z4 s' hS5 b12 hno12 hf
    have hb1:b+1<b12:=by rw[<-HB12.out];exact lt_of_block r5
    have hb2:b+1+1<b12:=by rw[<-HB12.out];exact lt_of_block r6
    have hb3:Z.sb<b12:=by rw[<-HB12.out,<-z4];exact hS4.lt _ (Zs.mem_own.2 (Or.inl (by simp[Zs.six])))
    have HR6:Hid (∀V,Fr [b12] w5 V->V.heap[b+1+1]? = some (.cells (evA 0 0 0 0 0 0) 62 (0,0))):=fun V hf=>hf.keep (hf5.keep r6 (by simp)) (by simp;omega)
    have HEnd:Hid (∀V V',Fr [b12] w5 V->Fr [b+1+1] V V'->SyM V' Z4 c s' (k+1)/\Mv w Z V' Z4):=by
     intro V V' h1 h2
     have hS6:=hS5.keep h1 (fun x hx hh=>by simp at hh;exact hno12 (hh▸hx))
     refine⟨hS6.keep h2 (fun x hx hh=>by simp at hh;exact hno (hh▸hx)),?_⟩
     exact⟨(m5.fr.then (hf5.mono (by simp))).trans (h1.trans h2 (U:=[b12,b+1+1]) (by simp) (by simp)) (fun x hx _=>hx) (fun x hx hl=>by
      have h8:w.heap.size<=b12:=by rw[<-HB12.out];exact m5.fr.size
      simp at hx;omega),m5.sub,m5.at_,m5.log⟩
    have HR12:Hid (w5.heap[b12]? = some (.cells (evA 0 ak an a3 ac 0) 62 (0,0))):=r12
    have n1:b+1≠b12:=by omega
    have n2:b12≠b+1:=by omega
    have n3:Z.sb≠b12:=by omega
    have n4:b12≠Z.sb:=by omega
    have n5:b+1+1≠b12:=by omega
    clear hS4 hM4 hS5 r5 r6 m5 r12 hno hno12 hb1 hb2 hb3 hf5 hlow
    obtain⟨ma,hma⟩: ∃ma,ma=s'.ma:=⟨_,rfl⟩
    rw[<-hma]at HMk
    have HMa:Hid (s'.ma=ma):=hma.symm
    clear hma
    go_upto_region 7 with fail
    rw[HW5.out,HB12.out]
    clear HW5 HB12
    go_wp2_with fail
    go_region_held3 (fun W=>W.cell? ⟨b+1,0,none⟩=some (.int .i64 et)/\W.cell? ⟨Z.sb,5,none⟩=some (.pointer (some ⟨Z4.g,0,none⟩))) (go_keep)
     (first
      | (with_reducible refine Calls.mono (HMk.out _ (Fr.drew _ _)) ?_;rintro e w6 ⟨rfl,rfl⟩)
      | (with_reducible refine Calls.mono (HMk.out _ (Fr.then (Fr.drew _ _) (Fr.set _ _ _ (List.mem_singleton_self _)))) ?_;rintro e w6 ⟨rfl,rfl⟩)
      | (with_reducible refine Calls.mono (HMk.out _ (Fr.then (Fr.set _ _ _ (List.mem_singleton_self _)) (Fr.drew _ _))) ?_;rintro e w6 ⟨rfl,rfl⟩))
    obtain⟨w6,HW6⟩: ∃w6,Hid (((w5.setCell ⟨b12,0,none⟩ (.int .i64 et)).setCell ⟨b12,5,none⟩ (.int .i64 ma)).drew=w6):=⟨_,rfl⟩
    have HF6:Hid (Fr [b12] w5 w6):=by rw[<-HW6.out];exact ((Fr.set _ _ _ (by simp)).then (Fr.set _ _ _ (by simp))).then (Fr.drew _ _)
    have r12:w6.heap[b12]? = some (.cells (evA et ak an a3 ac ma) 62 (0,0)):=by
     rw[<-HW6.out]
     show ((w5.setCell ⟨b12,0,none⟩ (.int .i64 et)).setCell ⟨b12,5,none⟩ (.int .i64 ma)).heap[b12]? = _
     rw[zag _ (zag _ HR12.out)]
     rfl
    rw[HW6.out]
    clear v0 v1 v2 v3 v4 v5 zz u0 g5 HW6
    obtain⟨v0,v1,v2,v3,v4,v5⟩:=zam r12
    have HB:=HR6.out w6 HF6.out
    go_wp2_with (refine zab rfl _ _ rfl (b+1+1) et ak an a3 ac ma rfl rfl 0 0 0 0 0 0 HB ?_;intro w7 hw7 hf7)
    refine bodyPost_ret (zaf rfl _ _ _ (b+1+1) _ rfl (zae hw7.out)) rfl ?_
    obtain⟨m1,m2⟩:=HEnd.out w6 w7 HF6.out hf7
    exact⟨Z4,by rw[HMa.out],m1,m2⟩
  ·obtain rfl|rfl|rfl:i=0\/i=1\/i=2:=by omega
   ·rw[show ((0:Nat):Int)=0 from rfl,show nmAt 2=(⟨#[111,119,110,101,114]⟩:ByteArray) from rfl]
    go_wp2_with fail
    go_roundw
    case rel=>exact⟨1,rfl,by omega,HFr.out.then (Fr.alloc _ _ _)⟩
    case measure=>simp[RowKit.intOf]
   ·rw[show ((1:Nat):Int)=1 from rfl,show nmAt 2=(⟨#[111,119,110,101,114]⟩:ByteArray) from rfl]
    go_wp2_with fail
    go_roundw
    case rel=>exact⟨2,rfl,by omega,HFr.out.then (Fr.alloc _ _ _)⟩
    case measure=>simp[RowKit.intOf]
   ·rw[show ((2:Nat):Int)=2 from rfl,show nmAt 2=(⟨#[111,119,110,101,114]⟩:ByteArray) from rfl]
    obtain⟨w3,HW3⟩: ∃w3,Hid (wr.alloc (.cells #[.string ⟨#[111,119,110,101,114]⟩,.func (Fn.func 119) #[] #[.pointer (some ⟨Q,0,none⟩)]] 117)=w3):=⟨_,rfl⟩
    obtain⟨B9,HB9⟩: ∃B9,Hid (wr.heap.size=B9):=⟨_,rfl⟩
    have HF3:Hid (Fr [] w1 w3):=by rw[<-HW3.out];exact HFr.out.then (Fr.alloc _ _ _)
    have hrow:w3.heap[B9]? = some (.cells #[.string ⟨#[111,119,110,101,114]⟩,.func (Fn.func 119) #[] #[.pointer (some ⟨Q,0,none⟩)]] 117 (0,0)):=by rw[<-HW3.out,<-HB9.out];exact heap_alloc_new _ _
    have q0:w3.cell? ⟨B9,0,none⟩=some (.string ⟨#[111,119,110,101,114]⟩):=by rw[cell_of_row _ _ _ _ _ _ hrow];rfl
    have q1:w3.cell? ⟨B9,1,none⟩=some (.func (Fn.func 119) #[] #[.pointer (some ⟨Q,0,none⟩)]):=by rw[cell_of_row _ _ _ _ _ _ hrow];rfl
    obtain⟨y0,y1,y2,y3,y4,y5⟩:=zam (HQ.out _ HF3.out).1.r5
    have HCk:Hid (Calls Tryz.prog 119 _ _ _):=HTk.out w3 HF3.out
    clear hrow
    go_upto_region 5 with fail
    rw[HW3.out,HB9.out]
    clear HW3 HB9
    go_wp2_with fail
    refine Calls.mono HCk.out ?_
    rintro e w4 ⟨Z4,rfl,hS4,hM4,z4⟩
    obtain⟨r5,r6,m5,hno,hlow⟩:=HMid.out w3 w4 Z4 HF3.out hS4 hM4
    clear y0 y1 y2 y3 y4 y5 q0 q1 HCk
    simp only[Te.v,evA]
    obtain⟨w5,HW5⟩: ∃w5,Hid (w4.alloc (.cells #[.int .i64 0,.int .u8 ak,.int .i64 an,.int .i64 a3,.int .i64 ac,.int .i64 0] 62)=w5):=⟨_,rfl⟩
    obtain⟨b12,HB12⟩: ∃b12,Hid (w4.heap.size=b12):=⟨_,rfl⟩
    have hf5:Fr [] w4 w5:=by rw[<-HW5.out];exact Fr.alloc _ _ _
    have r12:w5.heap[b12]? = some (.cells (evA 0 ak an a3 ac 0) 62 (0,0)):=by rw[<-HW5.out,<-HB12.out];exact heap_alloc_new _ _
    have hS5:=hS4.quiet hf5
    have hno12:b12∉Z4.own:=fun hh=>by have:=hS4.lt _ hh;rw[HB12.out]at this;omega
    obtain⟨v0,v1,v2,v3,v4,v5⟩:=zam r12
    have zz: ∀j,w5.frozen? ⟨b12,j,none⟩=false:=fun j=>by simp[World.frozen?,r12]
    have u0:=(zam (hf5.keep r5 (by simp))).1
    have g5:w5.cell? ⟨Z.sb,5,none⟩=some (.pointer (some ⟨Z4.g,0,none⟩)):=by have:=hS5.cell (j:=5) (v:= .pointer (some ⟨Z4.g,0,none⟩)) rfl;rw[z4]at this;exact this
    have HMk:Hid (∀V,Fr [b12] w5 V->Calls Tryz.prog 126 #[.pointer (some ⟨Z4.g,0,none⟩)] V fun e w'=>e= .returned (.int .i64 s'.ma)/\V=w'):=fun V hf=>HGt.out w5 V Z4 s' hS5 b12 hno12 hf
    have hb1:b+1<b12:=by rw[<-HB12.out];exact lt_of_block r5
    have hb2:b+1+1<b12:=by rw[<-HB12.out];exact lt_of_block r6
    have hb3:Z.sb<b12:=by rw[<-HB12.out,<-z4];exact hS4.lt _ (Zs.mem_own.2 (Or.inl (by simp[Zs.six])))
    have HR6:Hid (∀V,Fr [b12] w5 V->V.heap[b+1+1]? = some (.cells (evA 0 0 0 0 0 0) 62 (0,0))):=fun V hf=>hf.keep (hf5.keep r6 (by simp)) (by simp;omega)
    have HEnd:Hid (∀V V',Fr [b12] w5 V->Fr [b+1+1] V V'->SyM V' Z4 c s' (k+1)/\Mv w Z V' Z4):=by
     intro V V' h1 h2
     have hS6:=hS5.keep h1 (fun x hx hh=>by simp at hh;exact hno12 (hh▸hx))
     refine⟨hS6.keep h2 (fun x hx hh=>by simp at hh;exact hno (hh▸hx)),?_⟩
     exact⟨(m5.fr.then (hf5.mono (by simp))).trans (h1.trans h2 (U:=[b12,b+1+1]) (by simp) (by simp)) (fun x hx _=>hx) (fun x hx hl=>by
      have h8:w.heap.size<=b12:=by rw[<-HB12.out];exact m5.fr.size
      simp at hx;omega),m5.sub,m5.at_,m5.log⟩
    have HR12:Hid (w5.heap[b12]? = some (.cells (evA 0 ak an a3 ac 0) 62 (0,0))):=r12
    have n1:b+1≠b12:=by omega
    have n2:b12≠b+1:=by omega
    have n3:Z.sb≠b12:=by omega
    have n4:b12≠Z.sb:=by omega
    have n5:b+1+1≠b12:=by omega
    clear hS4 hM4 hS5 r5 r6 m5 r12 hno hno12 hb1 hb2 hb3 hf5 hlow
    obtain⟨ma,hma⟩: ∃ma,ma=s'.ma:=⟨_,rfl⟩
    rw[<-hma]at HMk
    have HMa:Hid (s'.ma=ma):=hma.symm
    clear hma
    go_upto_region 7 with fail
    rw[HW5.out,HB12.out]
    clear HW5 HB12
    go_wp2_with fail
    go_region_held3 (fun W=>W.cell? ⟨b+1,0,none⟩=some (.int .i64 et)/\W.cell? ⟨Z.sb,5,none⟩=some (.pointer (some ⟨Z4.g,0,none⟩))) (go_keep)
     (first
      | (with_reducible refine Calls.mono (HMk.out _ (Fr.drew _ _)) ?_;rintro e w6 ⟨rfl,rfl⟩)
      | (with_reducible refine Calls.mono (HMk.out _ (Fr.then (Fr.drew _ _) (Fr.set _ _ _ (List.mem_singleton_self _)))) ?_;rintro e w6 ⟨rfl,rfl⟩)
      | (with_reducible refine Calls.mono (HMk.out _ (Fr.then (Fr.set _ _ _ (List.mem_singleton_self _)) (Fr.drew _ _))) ?_;rintro e w6 ⟨rfl,rfl⟩))
    obtain⟨w6,HW6⟩: ∃w6,Hid (((w5.setCell ⟨b12,0,none⟩ (.int .i64 et)).setCell ⟨b12,5,none⟩ (.int .i64 ma)).drew=w6):=⟨_,rfl⟩
    have HF6:Hid (Fr [b12] w5 w6):=by rw[<-HW6.out];exact ((Fr.set _ _ _ (by simp)).then (Fr.set _ _ _ (by simp))).then (Fr.drew _ _)
    have r12:w6.heap[b12]? = some (.cells (evA et ak an a3 ac ma) 62 (0,0)):=by
     rw[<-HW6.out]
     show ((w5.setCell ⟨b12,0,none⟩ (.int .i64 et)).setCell ⟨b12,5,none⟩ (.int .i64 ma)).heap[b12]? = _
     rw[zag _ (zag _ HR12.out)]
     rfl
    rw[HW6.out]
    clear v0 v1 v2 v3 v4 v5 zz u0 g5 HW6
    obtain⟨v0,v1,v2,v3,v4,v5⟩:=zam r12
    have HB:=HR6.out w6 HF6.out
    go_wp2_with (refine zab rfl _ _ rfl (b+1+1) et ak an a3 ac ma rfl rfl 0 0 0 0 0 0 HB ?_;intro w7 hw7 hf7)
    refine bodyPost_ret (zaf rfl _ _ _ (b+1+1) _ rfl (zae hw7.out)) rfl ?_
    obtain⟨m1,m2⟩:=HEnd.out w6 w7 HF6.out hf7
    exact⟨Z4,by rw[HMa.out],m1,m2⟩
  ·obtain rfl|rfl|rfl|rfl:i=0\/i=1\/i=2\/i=3:=by omega
   ·rw[show ((0:Nat):Int)=0 from rfl,show nmAt 3=(⟨#[103,97,116,101]⟩:ByteArray) from rfl]
    go_wp2_with fail
    go_roundw
    case rel=>exact⟨1,rfl,by omega,HFr.out.then (Fr.alloc _ _ _)⟩
    case measure=>simp[RowKit.intOf]
   ·rw[show ((1:Nat):Int)=1 from rfl,show nmAt 3=(⟨#[103,97,116,101]⟩:ByteArray) from rfl]
    go_wp2_with fail
    go_roundw
    case rel=>exact⟨2,rfl,by omega,HFr.out.then (Fr.alloc _ _ _)⟩
    case measure=>simp[RowKit.intOf]
   ·rw[show ((2:Nat):Int)=2 from rfl,show nmAt 3=(⟨#[103,97,116,101]⟩:ByteArray) from rfl]
    go_wp2_with fail
    go_roundw
    case rel=>exact⟨3,rfl,by omega,HFr.out.then (Fr.alloc _ _ _)⟩
    case measure=>simp[RowKit.intOf]
   ·rw[show ((3:Nat):Int)=3 from rfl,show nmAt 3=(⟨#[103,97,116,101]⟩:ByteArray) from rfl]
    obtain⟨w3,HW3⟩: ∃w3,Hid (wr.alloc (.cells #[.string ⟨#[103,97,116,101]⟩,.func (Fn.func 121) #[] #[.pointer (some ⟨Q,0,none⟩)]] 117)=w3):=⟨_,rfl⟩
    obtain⟨B9,HB9⟩: ∃B9,Hid (wr.heap.size=B9):=⟨_,rfl⟩
    have HF3:Hid (Fr [] w1 w3):=by rw[<-HW3.out];exact HFr.out.then (Fr.alloc _ _ _)
    have hrow:w3.heap[B9]? = some (.cells #[.string ⟨#[103,97,116,101]⟩,.func (Fn.func 121) #[] #[.pointer (some ⟨Q,0,none⟩)]] 117 (0,0)):=by rw[<-HW3.out,<-HB9.out];exact heap_alloc_new _ _
    have q0:w3.cell? ⟨B9,0,none⟩=some (.string ⟨#[103,97,116,101]⟩):=by rw[cell_of_row _ _ _ _ _ _ hrow];rfl
    have q1:w3.cell? ⟨B9,1,none⟩=some (.func (Fn.func 121) #[] #[.pointer (some ⟨Q,0,none⟩)]):=by rw[cell_of_row _ _ _ _ _ _ hrow];rfl
    obtain⟨y0,y1,y2,y3,y4,y5⟩:=zam (HQ.out _ HF3.out).1.r5
    have HCk:Hid (Calls Tryz.prog 121 _ _ _):=HTk.out w3 HF3.out
    clear hrow
    go_upto_region 5 with fail
    rw[HW3.out,HB9.out]
    clear HW3 HB9
    go_wp2_with fail
    refine Calls.mono HCk.out ?_
    rintro e w4 ⟨Z4,rfl,hS4,hM4,z4⟩
    obtain⟨r5,r6,m5,hno,hlow⟩:=HMid.out w3 w4 Z4 HF3.out hS4 hM4
    clear y0 y1 y2 y3 y4 y5 q0 q1 HCk
    simp only[Te.v,evA]
    obtain⟨w5,HW5⟩: ∃w5,Hid (w4.alloc (.cells #[.int .i64 0,.int .u8 ak,.int .i64 an,.int .i64 a3,.int .i64 ac,.int .i64 0] 62)=w5):=⟨_,rfl⟩
    obtain⟨b12,HB12⟩: ∃b12,Hid (w4.heap.size=b12):=⟨_,rfl⟩
    have hf5:Fr [] w4 w5:=by rw[<-HW5.out];exact Fr.alloc _ _ _
    have r12:w5.heap[b12]? = some (.cells (evA 0 ak an a3 ac 0) 62 (0,0)):=by rw[<-HW5.out,<-HB12.out];exact heap_alloc_new _ _
    have hS5:=hS4.quiet hf5
    have hno12:b12∉Z4.own:=fun hh=>by have:=hS4.lt _ hh;rw[HB12.out]at this;omega
    obtain⟨v0,v1,v2,v3,v4,v5⟩:=zam r12
    have zz: ∀j,w5.frozen? ⟨b12,j,none⟩=false:=fun j=>by simp[World.frozen?,r12]
    have u0:=(zam (hf5.keep r5 (by simp))).1
    have g5:w5.cell? ⟨Z.sb,5,none⟩=some (.pointer (some ⟨Z4.g,0,none⟩)):=by have:=hS5.cell (j:=5) (v:= .pointer (some ⟨Z4.g,0,none⟩)) rfl;rw[z4]at this;exact this
    have HMk:Hid (∀V,Fr [b12] w5 V->Calls Tryz.prog 126 #[.pointer (some ⟨Z4.g,0,none⟩)] V fun e w'=>e= .returned (.int .i64 s'.ma)/\V=w'):=fun V hf=>HGt.out w5 V Z4 s' hS5 b12 hno12 hf
    have hb1:b+1<b12:=by rw[<-HB12.out];exact lt_of_block r5
    have hb2:b+1+1<b12:=by rw[<-HB12.out];exact lt_of_block r6
    have hb3:Z.sb<b12:=by rw[<-HB12.out,<-z4];exact hS4.lt _ (Zs.mem_own.2 (Or.inl (by simp[Zs.six])))
    have HR6:Hid (∀V,Fr [b12] w5 V->V.heap[b+1+1]? = some (.cells (evA 0 0 0 0 0 0) 62 (0,0))):=fun V hf=>hf.keep (hf5.keep r6 (by simp)) (by simp;omega)
    have HEnd:Hid (∀V V',Fr [b12] w5 V->Fr [b+1+1] V V'->SyM V' Z4 c s' (k+1)/\Mv w Z V' Z4):=by
     intro V V' h1 h2
     have hS6:=hS5.keep h1 (fun x hx hh=>by simp at hh;exact hno12 (hh▸hx))
     refine⟨hS6.keep h2 (fun x hx hh=>by simp at hh;exact hno (hh▸hx)),?_⟩
     exact⟨(m5.fr.then (hf5.mono (by simp))).trans (h1.trans h2 (U:=[b12,b+1+1]) (by simp) (by simp)) (fun x hx _=>hx) (fun x hx hl=>by
      have h8:w.heap.size<=b12:=by rw[<-HB12.out];exact m5.fr.size
      simp at hx;omega),m5.sub,m5.at_,m5.log⟩
    have HR12:Hid (w5.heap[b12]? = some (.cells (evA 0 ak an a3 ac 0) 62 (0,0))):=r12
    have n1:b+1≠b12:=by omega
    have n2:b12≠b+1:=by omega
    have n3:Z.sb≠b12:=by omega
    have n4:b12≠Z.sb:=by omega
    have n5:b+1+1≠b12:=by omega
    clear hS4 hM4 hS5 r5 r6 m5 r12 hno hno12 hb1 hb2 hb3 hf5 hlow
    obtain⟨ma,hma⟩: ∃ma,ma=s'.ma:=⟨_,rfl⟩
    rw[<-hma]at HMk
    have HMa:Hid (s'.ma=ma):=hma.symm
    clear hma
    go_upto_region 7 with fail
    rw[HW5.out,HB12.out]
    clear HW5 HB12
    go_wp2_with fail
    go_region_held3 (fun W=>W.cell? ⟨b+1,0,none⟩=some (.int .i64 et)/\W.cell? ⟨Z.sb,5,none⟩=some (.pointer (some ⟨Z4.g,0,none⟩))) (go_keep)
     (first
      | (with_reducible refine Calls.mono (HMk.out _ (Fr.drew _ _)) ?_;rintro e w6 ⟨rfl,rfl⟩)
      | (with_reducible refine Calls.mono (HMk.out _ (Fr.then (Fr.drew _ _) (Fr.set _ _ _ (List.mem_singleton_self _)))) ?_;rintro e w6 ⟨rfl,rfl⟩)
      | (with_reducible refine Calls.mono (HMk.out _ (Fr.then (Fr.set _ _ _ (List.mem_singleton_self _)) (Fr.drew _ _))) ?_;rintro e w6 ⟨rfl,rfl⟩))
    obtain⟨w6,HW6⟩: ∃w6,Hid (((w5.setCell ⟨b12,0,none⟩ (.int .i64 et)).setCell ⟨b12,5,none⟩ (.int .i64 ma)).drew=w6):=⟨_,rfl⟩
    have HF6:Hid (Fr [b12] w5 w6):=by rw[<-HW6.out];exact ((Fr.set _ _ _ (by simp)).then (Fr.set _ _ _ (by simp))).then (Fr.drew _ _)
    have r12:w6.heap[b12]? = some (.cells (evA et ak an a3 ac ma) 62 (0,0)):=by
     rw[<-HW6.out]
     show ((w5.setCell ⟨b12,0,none⟩ (.int .i64 et)).setCell ⟨b12,5,none⟩ (.int .i64 ma)).heap[b12]? = _
     rw[zag _ (zag _ HR12.out)]
     rfl
    rw[HW6.out]
    clear v0 v1 v2 v3 v4 v5 zz u0 g5 HW6
    obtain⟨v0,v1,v2,v3,v4,v5⟩:=zam r12
    have HB:=HR6.out w6 HF6.out
    go_wp2_with (refine zab rfl _ _ rfl (b+1+1) et ak an a3 ac ma rfl rfl 0 0 0 0 0 0 HB ?_;intro w7 hw7 hf7)
    refine bodyPost_ret (zaf rfl _ _ _ (b+1+1) _ rfl (zae hw7.out)) rfl ?_
    obtain⟨m1,m2⟩:=HEnd.out w6 w7 HF6.out hf7
    exact⟨Z4,by rw[HMa.out],m1,m2⟩
  ·obtain rfl|rfl|rfl|rfl|rfl:i=0\/i=1\/i=2\/i=3\/i=4:=by omega
   ·rw[show ((0:Nat):Int)=0 from rfl,show nmAt 4=(⟨#[99,97,108,108]⟩:ByteArray) from rfl]
    go_wp2_with fail
    go_roundw
    case rel=>exact⟨1,rfl,by omega,HFr.out.then (Fr.alloc _ _ _)⟩
    case measure=>simp[RowKit.intOf]
   ·rw[show ((1:Nat):Int)=1 from rfl,show nmAt 4=(⟨#[99,97,108,108]⟩:ByteArray) from rfl]
    go_wp2_with fail
    go_roundw
    case rel=>exact⟨2,rfl,by omega,HFr.out.then (Fr.alloc _ _ _)⟩
    case measure=>simp[RowKit.intOf]
   ·rw[show ((2:Nat):Int)=2 from rfl,show nmAt 4=(⟨#[99,97,108,108]⟩:ByteArray) from rfl]
    go_wp2_with fail
    go_roundw
    case rel=>exact⟨3,rfl,by omega,HFr.out.then (Fr.alloc _ _ _)⟩
    case measure=>simp[RowKit.intOf]
   ·rw[show ((3:Nat):Int)=3 from rfl,show nmAt 4=(⟨#[99,97,108,108]⟩:ByteArray) from rfl]
    go_wp2_with fail
    go_roundw
    case rel=>exact⟨4,rfl,by omega,HFr.out.then (Fr.alloc _ _ _)⟩
    case measure=>simp[RowKit.intOf]
   ·rw[show ((4:Nat):Int)=4 from rfl,show nmAt 4=(⟨#[99,97,108,108]⟩:ByteArray) from rfl]
    obtain⟨w3,HW3⟩: ∃w3,Hid (wr.alloc (.cells #[.string ⟨#[99,97,108,108]⟩,.func (Fn.func 123) #[] #[.pointer (some ⟨Q,0,none⟩)]] 117)=w3):=⟨_,rfl⟩
    obtain⟨B9,HB9⟩: ∃B9,Hid (wr.heap.size=B9):=⟨_,rfl⟩
    have HF3:Hid (Fr [] w1 w3):=by rw[<-HW3.out];exact HFr.out.then (Fr.alloc _ _ _)
    have hrow:w3.heap[B9]? = some (.cells #[.string ⟨#[99,97,108,108]⟩,.func (Fn.func 123) #[] #[.pointer (some ⟨Q,0,none⟩)]] 117 (0,0)):=by rw[<-HW3.out,<-HB9.out];exact heap_alloc_new _ _
    have q0:w3.cell? ⟨B9,0,none⟩=some (.string ⟨#[99,97,108,108]⟩):=by rw[cell_of_row _ _ _ _ _ _ hrow];rfl
    have q1:w3.cell? ⟨B9,1,none⟩=some (.func (Fn.func 123) #[] #[.pointer (some ⟨Q,0,none⟩)]):=by rw[cell_of_row _ _ _ _ _ _ hrow];rfl
    obtain⟨y0,y1,y2,y3,y4,y5⟩:=zam (HQ.out _ HF3.out).1.r5
    have HCk:Hid (Calls Tryz.prog 123 _ _ _):=HTk.out w3 HF3.out
    clear hrow
    go_upto_region 5 with fail
    rw[HW3.out,HB9.out]
    clear HW3 HB9
    go_wp2_with fail
    refine Calls.mono HCk.out ?_
    rintro e w4 ⟨Z4,rfl,hS4,hM4,z4⟩
    obtain⟨r5,r6,m5,hno,hlow⟩:=HMid.out w3 w4 Z4 HF3.out hS4 hM4
    clear y0 y1 y2 y3 y4 y5 q0 q1 HCk
    simp only[Te.v,evA]
    obtain⟨w5,HW5⟩: ∃w5,Hid (w4.alloc (.cells #[.int .i64 0,.int .u8 ak,.int .i64 an,.int .i64 a3,.int .i64 ac,.int .i64 0] 62)=w5):=⟨_,rfl⟩
    obtain⟨b12,HB12⟩: ∃b12,Hid (w4.heap.size=b12):=⟨_,rfl⟩
    have hf5:Fr [] w4 w5:=by rw[<-HW5.out];exact Fr.alloc _ _ _
    have r12:w5.heap[b12]? = some (.cells (evA 0 ak an a3 ac 0) 62 (0,0)):=by rw[<-HW5.out,<-HB12.out];exact heap_alloc_new _ _
    have hS5:=hS4.quiet hf5
    have hno12:b12∉Z4.own:=fun hh=>by have:=hS4.lt _ hh;rw[HB12.out]at this;omega
    obtain⟨v0,v1,v2,v3,v4,v5⟩:=zam r12
    have zz: ∀j,w5.frozen? ⟨b12,j,none⟩=false:=fun j=>by simp[World.frozen?,r12]
    have u0:=(zam (hf5.keep r5 (by simp))).1
    have g5:w5.cell? ⟨Z.sb,5,none⟩=some (.pointer (some ⟨Z4.g,0,none⟩)):=by have:=hS5.cell (j:=5) (v:= .pointer (some ⟨Z4.g,0,none⟩)) rfl;rw[z4]at this;exact this
    have HMk:Hid (∀V,Fr [b12] w5 V->Calls Tryz.prog 126 #[.pointer (some ⟨Z4.g,0,none⟩)] V fun e w'=>e= .returned (.int .i64 s'.ma)/\V=w'):=fun V hf=>HGt.out w5 V Z4 s' hS5 b12 hno12 hf
    have hb1:b+1<b12:=by rw[<-HB12.out];exact lt_of_block r5
    have hb2:b+1+1<b12:=by rw[<-HB12.out];exact lt_of_block r6
    have hb3:Z.sb<b12:=by rw[<-HB12.out,<-z4];exact hS4.lt _ (Zs.mem_own.2 (Or.inl (by simp[Zs.six])))
    have HR6:Hid (∀V,Fr [b12] w5 V->V.heap[b+1+1]? = some (.cells (evA 0 0 0 0 0 0) 62 (0,0))):=fun V hf=>hf.keep (hf5.keep r6 (by simp)) (by simp;omega)
    have HEnd:Hid (∀V V',Fr [b12] w5 V->Fr [b+1+1] V V'->SyM V' Z4 c s' (k+1)/\Mv w Z V' Z4):=by
     intro V V' h1 h2
     have hS6:=hS5.keep h1 (fun x hx hh=>by simp at hh;exact hno12 (hh▸hx))
     refine⟨hS6.keep h2 (fun x hx hh=>by simp at hh;exact hno (hh▸hx)),?_⟩
     exact⟨(m5.fr.then (hf5.mono (by simp))).trans (h1.trans h2 (U:=[b12,b+1+1]) (by simp) (by simp)) (fun x hx _=>hx) (fun x hx hl=>by
      have h8:w.heap.size<=b12:=by rw[<-HB12.out];exact m5.fr.size
      simp at hx;omega),m5.sub,m5.at_,m5.log⟩
    have HR12:Hid (w5.heap[b12]? = some (.cells (evA 0 ak an a3 ac 0) 62 (0,0))):=r12
    have n1:b+1≠b12:=by omega
    have n2:b12≠b+1:=by omega
    have n3:Z.sb≠b12:=by omega
    have n4:b12≠Z.sb:=by omega
    have n5:b+1+1≠b12:=by omega
    clear hS4 hM4 hS5 r5 r6 m5 r12 hno hno12 hb1 hb2 hb3 hf5 hlow
    obtain⟨ma,hma⟩: ∃ma,ma=s'.ma:=⟨_,rfl⟩
    rw[<-hma]at HMk
    have HMa:Hid (s'.ma=ma):=hma.symm
    clear hma
    go_upto_region 7 with fail
    rw[HW5.out,HB12.out]
    clear HW5 HB12
    go_wp2_with fail
    go_region_held3 (fun W=>W.cell? ⟨b+1,0,none⟩=some (.int .i64 et)/\W.cell? ⟨Z.sb,5,none⟩=some (.pointer (some ⟨Z4.g,0,none⟩))) (go_keep)
     (first
      | (with_reducible refine Calls.mono (HMk.out _ (Fr.drew _ _)) ?_;rintro e w6 ⟨rfl,rfl⟩)
      | (with_reducible refine Calls.mono (HMk.out _ (Fr.then (Fr.drew _ _) (Fr.set _ _ _ (List.mem_singleton_self _)))) ?_;rintro e w6 ⟨rfl,rfl⟩)
      | (with_reducible refine Calls.mono (HMk.out _ (Fr.then (Fr.set _ _ _ (List.mem_singleton_self _)) (Fr.drew _ _))) ?_;rintro e w6 ⟨rfl,rfl⟩))
    obtain⟨w6,HW6⟩: ∃w6,Hid (((w5.setCell ⟨b12,0,none⟩ (.int .i64 et)).setCell ⟨b12,5,none⟩ (.int .i64 ma)).drew=w6):=⟨_,rfl⟩
    have HF6:Hid (Fr [b12] w5 w6):=by rw[<-HW6.out];exact ((Fr.set _ _ _ (by simp)).then (Fr.set _ _ _ (by simp))).then (Fr.drew _ _)
    have r12:w6.heap[b12]? = some (.cells (evA et ak an a3 ac ma) 62 (0,0)):=by
     rw[<-HW6.out]
     show ((w5.setCell ⟨b12,0,none⟩ (.int .i64 et)).setCell ⟨b12,5,none⟩ (.int .i64 ma)).heap[b12]? = _
     rw[zag _ (zag _ HR12.out)]
     rfl
    rw[HW6.out]
    clear v0 v1 v2 v3 v4 v5 zz u0 g5 HW6
    obtain⟨v0,v1,v2,v3,v4,v5⟩:=zam r12
    have HB:=HR6.out w6 HF6.out
    go_wp2_with (refine zab rfl _ _ rfl (b+1+1) et ak an a3 ac ma rfl rfl 0 0 0 0 0 0 HB ?_;intro w7 hw7 hf7)
    refine bodyPost_ret (zaf rfl _ _ _ (b+1+1) _ rfl (zae hw7.out)) rfl ?_
    obtain⟨m1,m2⟩:=HEnd.out w6 w7 HF6.out hf7
    exact⟨Z4,by rw[HMa.out],m1,m2⟩
end
end Go.Proofs.YtaaghcimfcjehaaGreatDoor
