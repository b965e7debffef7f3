/- Contracts and plain lemmas of this claim. -/
import Derived.Test.YtaaghcimfcjehaaGreatDoorGp44
import Derived.Test.YtaaghcimfcjehaaGreatDoorGp45
import Derived.Test.YtaaghcimfcjehaaGreatDoorGp46
import Derived.Test.YtaaghcimfcjehaaGreatDoorGp47
import Derived.Test.YtaaghcimfcjehaaGreatDoorGp48
import Derived.Test.YtaaghcimfcjehaaGreatDoorGp50
import Derived.Test.YtaaghcimfcjehaaGreatDoorGp51
import Derived.Test.YtaaghcimfcjehaaGreatDoorGp33
import Derived.Test.YtaaghcimfcjehaaGreatDoorGp24
import Derived.Test.YtaaghcimfcjehaaGreatDoorGp31
import Derived.Test.YtaaghcimfcjehaaGreatDoorGp49
import Derived.Test.YtaaghcimfcjehaaGreatDoorGp32
import Derived.Test.YtaaghcimfcjehaaGreatDoorGp29
set_option linter.unusedSimpArgs false
set_option linter.unusedVariables false
namespace Go.Proofs.YtaaghcimfcjehaaGreatDoor
open Go.ChangeShapes Go.WideShapes Go.ChangeAt Go.RowKit Go.Lib Go.Maps
section
variable {wS w:World} {Z:Zd} {c:Cf} {ts:List Tm} {xs:List Int} {d:Ds}
set_option maxHeartbeats 8000000 in
set_option maxRecDepth 100000 in
theorem zph (h:DsM wS w Z c ts xs d) (ho:DOk c ts xs d) (e:Ev) (ht:c.l+c.s+1<e.t) :
  Calls Tryz.prog 32 #[.pointer (some ⟨Z.sb,0,none⟩),.agg #[.int .i64 e.t,.int .u8 e.k,.int .i64 e.n,.int .i64 e.s,.int .i64 e.c,.int .i64 e.m]] w (NxP wS w Z c ts xs d e):=by
 obtain⟨et,ek,en,es,ec,em⟩:=e
 dsimp only at *
 obtain⟨wE,w0,eb,cb,wb,HWE,HW0,HEB,HCB,HWB,⟨ce0,ce1,ce2,ce3⟩,hm,HFin,HBx,HNo,HNe⟩:=h.boxed4 (⟨et,ek,en,es,ec,em⟩:Ev)
 dsimp only at HWE HBx ce0 ce1 ce2 ce3
 have hl:=h.may.1
 have hs:=h.may.2.1
 have HR:Hid (nxtD c (txs ts) xs d (⟨et,ek,en,es,ec,em⟩:Ev)=((Te.no,false),d)):=by
  show nxtD c (txs ts) xs d (⟨et,ek,en,es,ec,em⟩:Ev)=_
  unfold nxtD
  dsimp only
  rw[if_neg (by omega),if_neg (by omega),if_neg (by omega),if_neg (by omega),if_neg (by omega)]
 obtain⟨z0,z1,z2,z3⟩:=HBx.out _ _ _ hm.dr
 obtain⟨⟨e0,e1,e2,e3,e4,e5⟩,ez⟩:=zac z1
 have HQ:Hid (CanD c (txs ts) xs d (⟨et,ek,en,es,ec,em⟩:Ev)↔(((Te.no,false),d)).1.2=true/\(⟨et,ek,en,es,ec,em⟩:Ev)=⟨et,(((Te.no,false),d)).1.1.k,(((Te.no,false),d)).1.1.n,(((Te.no,false),d)).1.1.s,(((Te.no,false),d)).1.1.c,(((Te.no,false),d)).2.ma⟩):=by show _↔_;unfold CanD;rw[HR.out]
 have HDq:Hid (Dr wS w0 w0 Z Z c ts xs d):=hm.dr
 have HRet:Hid (∀W Z' bb,Dr wS w W Z Z' c ts xs d->bb=false->NxP wS w Z c ts xs d (⟨et,ek,en,es,ec,em⟩:Ev) (.returned (.bool bb)) W):=fun W Z' bb hD hb=>⟨Z',bb,rfl,⟨fun q=>(by rw[hb]at q;cases q),fun q=>(by have:=(HQ.out.1 q).1;cases this)⟩,by rw[HR.out];exact hD⟩
 have hT:=zde (te:=Te.no) (w6:=w0) hm.dr (HNo.out _ _ _ hm.dr) HNe.out z1 z0 (Fr.refl _ _)
 have HTT:Hid _:=hT
 clear hT
 have g1:decide (et<0)=false:=by simp;omega
 have g2:(et==0)=false:=by simp;omega
 have g3:decide (et<=c.l)=false:=by simp;omega
 have g5:decide (et<=c.l+c.s)=false:=by simp;omega
 have g6:(et==c.l+c.s+1)=false:=by simp;omega
 have l1:1<=c.l:=by omega
 have l2:c.l<=16:=by omega
 have l3:1<=c.s:=by omega
 have l4:c.s<=16:=by omega
 clear h hm ho hl hs z0 z1 HR HQ HBx HNo HNe ht
 go_enter Tryz.func32,Tryz.ntmps32
 go_upto_region 1 with fail
 rw[HWE.out,HEB.out]
 go_upto_region 4 with fail
 rw[HW0.out,HWB.out,HCB.out]
 clear ce0 ce1 ce2 ce3
 obtain⟨j0,j1,j2,W7,HW7,j3,HMk,j4,j5,W8,HW8,HF8,HR8,HE8⟩:=HTT.out
 clear HTT e2 e3 e4 e5 ez
 go_upto_region 15 with fail
 rw[HW7.out]
 clear j0 j1 j2 HW7 e0 e1 z2 z3
 go_wp2_with fail
 refine Calls.mono HMk.out ?_
 rintro r2 w9 ⟨rfl,rfl⟩
 go_upto_region 16 with fail
 rw[HW8.out]
 obtain⟨⟨x0,x1,x2,x3,x4,x5⟩,xz⟩:=zac HR8.out
 obtain⟨⟨y0,y1,y2,y3,y4,y5⟩,yz⟩:=zac HE8.out
 have HDr:=HFin.out _ _ _ _ HDq.out HF8.out
 have HDR:Hid (Dr _ _ _ _ _ _ _ _ _):=HDr
 clear HDr HR8 HE8 HF8 xz yz j3 j4 j5 HMk HW8 HDq HFin
 have hundef:undef=Value.tuple #[]:=rfl
 go_wp2_with fail
 go_ret
 exact HRet.out _ _ _ HDR.out rfl
theorem zsp (h:DsM wS w Z c ts xs d) (ho:DOk c ts xs d) (e:Ev) :
  Calls Tryz.prog 32 #[.pointer (some ⟨Z.sb,0,none⟩),.agg #[.int .i64 e.t,.int .u8 e.k,.int .i64 e.n,.int .i64 e.s,.int .i64 e.c,.int .i64 e.m]] w (NxP wS w Z c ts xs d e):=by
 have hl:=h.may.1
 have hs:=h.may.2.1
 by_cases h1:e.t<0
 ·exact zpd h ho e h1
 ·by_cases h2:e.t=0
  ·exact zpe h ho e h2
  ·by_cases h3:e.t<=c.l
   ·exact zpf h ho e (e.t-1).toNat (by omega) (by omega)
   ·by_cases h4:e.t<=c.l+c.s
    ·exact zmj h ho e (e.t-c.l-1).toNat (by omega) (by omega)
    ·by_cases h5:e.t=c.l+c.s+1
     ·exact zpg h ho e h5
     ·exact zph h ho e (by omega)
end
theorem zvi {ops:Array Oper} {a0 a:Act} (l:List (Nat×Value)) (hz:a.tmps.size=a0.tmps.size) (hd:a.defers=a0.defers) (hsame: ∀t,(∀j,zal ops j≠some t)->env a t=env a0 t) (hn:(l.map (·.1)).Nodup) (hv: ∀p∈l,env a p.1=p.2) (hl: ∀p∈l,∃i,zal ops i=some p.1) (hcov: ∀i d,zal ops i=some d->d∈l.map (·.1)):a=puts a0 l:=by
 refine znb (by rw[zfq];exact hz) (by rw[zdz];exact hd) fun t ht=> ?_
 by_cases h: ∃i,zal ops i=some t
 ·obtain⟨i,hi⟩:=h
  obtain⟨⟨t',v⟩,hm,e⟩:=List.mem_map.1 (hcov i t hi)
  simp only at e
  subst e
  rw[hv _ hm,zid a0 l t' v hn hm (by rw[<-hz];exact ht)]
 ·have h': ∀j,zal ops j≠some t:=fun j hj=>h ⟨j,hj⟩
  rw[hsame t h',zdb a0 l t (fun p hp e=>by
   obtain⟨i,hi⟩:=hl p hp
   rw[e]at hi
   exact h' i hi)]
def FolD (wS w:World) (sb:Nat) (c:Cf) (ts:List Tm) (xs:List Int) (m:Int) (es:List Ev) (i:Nat):Prop :=
 ∃Z s d P t,DsM wS w Z c ts xs d/\Z.sb=sb/\Rl c (txs ts) m xs s d P t/\Iv c (txs ts) s i/\Kd d i/\Lw c s/\zcb c (txs ts) xs (ds0 m xs) es=i+zcb c (txs ts) xs d (es.drop i)
def FsP (wS:World) (sb:Nat) (c:Cf) (ts:List Tm) (xs:List Int) (m:Int) (es:List Ev) (i:Nat) (r:Ending) (w':World):Prop :=
 (r= .returned (.bool true)/\FolD wS w' sb c ts xs m es (i+1))\/(r= .returned (.bool false)/\zcb c (txs ts) xs (ds0 m xs) es=i/\Fr [] wS w')
theorem FolD.fr {wS w:World} {sb:Nat} {c:Cf} {ts:List Tm} {xs:List Int} {m:Int} {es:List Ev} {i:Nat} (h:FolD wS w sb c ts xs m es i):Fr [] wS w:=by
 obtain⟨Z,s,d,P,t,h1,_⟩:=h
 exact h1.fr
theorem FolD.step {wS w:World} {sb:Nat} {c:Cf} {ts:List Tm} {xs:List Int} {m:Int} {es:List Ev} {i:Nat} (h:FolD wS w sb c ts xs m es i) (hc:c.may) (hT:Lk (txs ts)) (hi:i<es.length) (hE: ∀x∈es,EEach x) (hk:es.length<=4194304) (x:Ev) (hx:es.getD i Ev.no=x) :
  Calls Tryz.prog 32 #[.pointer (some ⟨sb,0,none⟩),.agg #[.int .i64 x.t,.int .u8 x.k,.int .i64 x.n,.int .i64 x.s,.int .i64 x.c,.int .i64 x.m]] w (FsP wS sb c ts xs m es i):=by
 obtain⟨Z,s,d,P,t,h1,rfl,h3,h4,h5,h6,h7⟩:=h
 have hdr:es.drop i=x::es.drop (i+1):=by
  rw[List.drop_eq_getElem_cons hi]
  have:es[i]=x:=by rw[<-hx];simp[List.getD,hi]
  rw[this]
 have hxm:x∈es:=by rw[<-hx];simp[List.getD,hi]
 refine Calls.mono (zsp h1 (zzi h3 h4 hc hT h5 h6 (by omega)) x) ?_
 rintro r w' ⟨Z',b,rfl,hb,hD⟩
 obtain⟨g1,g2⟩:=zkw h3 h4 hc x
 cases b with
 | true =>
  have hC:=hb.1 rfl
  obtain⟨P2,t2,h8⟩:=g2 (g1.1 hC)
  obtain⟨n,hv⟩:=h3.hv
  refine Or.inl ⟨rfl,Z',_,_,P2,t2,hD.m,hD.v.same.1,h8,h4.stp hc hT hv.ris (hE x hxm).t,h5.nxt x,h6.stp x,?_⟩
  rw[h7,hdr,zhr,if_pos hC]
  omega
 | false =>
  have hC: ¬CanD c (txs ts) xs d x:=fun q=>by have:=hb.2 q;cases this
  refine Or.inr ⟨rfl,?_,hD.m.fr⟩
  rw[h7,hdr,zhr,if_neg hC]
  omega
set_option maxHeartbeats 8000000 in
set_option maxRecDepth 100000 in
theorem zyb (c:Cf) (lo:Option Addr) (M mc:Nat) (ts:List Tm) (m:Int) (bo:Option Addr) (bn bc:Nat) (xs:List Int) (ho:Option Addr) (hl hcp:Nat) (eo:Option Addr) (en ec:Nat) (es:List Ev) (w:World)
  (hT:TRs w lo ts) (hM:M=ts.length) (hMc:M<=mc) (hX:IRs w bo xs) (hbn:bn=xs.length) (hbc:bn<=bc) (hE:ERs w eo es) (hen:en=es.length) (hec:en<=ec) (hk:es.length<=4194304) :
  Calls Tryz.prog 11 #[.agg #[.int .i64 c.l,.int .i64 c.s,.int .i64 c.w,.int .i64 c.q],.slice lo M mc,.agg #[.int .i64 m,.slice bo bn bc,.slice ho hl hcp],.slice eo en ec] w fun e w'=>e= .returned (.tuple #[.int .i64 ((tkN c ts m xs es:Nat):Int),.int .i64 (tkC c ts m xs es)])/\Fr [] w w':=by
 obtain⟨cc,hBad⟩:=Bad.ex (txs ts) 1
 have hcc:cc=0↔okL 1 (txs ts):=hBad.ok
 obtain⟨wa,hwa⟩: ∃wa,wa=w.alloc (.cells #[.int .i64 c.l,.int .i64 c.s,.int .i64 c.w,.int .i64 c.q] 23):=⟨_,rfl⟩
 obtain⟨wb,hwb⟩: ∃wb,wb=wa.alloc (.cells #[.int .i64 m,.slice bo bn bc,.slice ho hl hcp] 28):=⟨_,rfl⟩
 have f1:Fr [] w wa:=by rw[hwa];exact Fr.alloc _ _ _
 have f2:Fr [] wa wb:=by rw[hwb];exact Fr.alloc _ _ _
 have s1:wa.heap.size=w.heap.size+1:=by rw[hwa];simp
 have hcf:CfM wb w.heap.size c.l c.s c.w c.q:=by refine CfM.keep ?_ f2;rw[hwa];exact CfM.new _ _ _ _ _ _
 have r5:wb.heap[w.heap.size+1]? = some (.cells #[.int .i64 m,.slice bo bn bc,.slice ho hl hcp] 28 (0,0)):=by rw[hwb,<-s1];exact heap_alloc_new _ _
 have HW:Hid ((w.alloc (.cells #[.int .i64 c.l,.int .i64 c.s,.int .i64 c.w,.int .i64 c.q] 23)).alloc (.cells #[.int .i64 m,.slice bo bn bc,.slice ho hl hcp] 28)=wb):=by show _=_;rw[hwb,hwa]
 have HFb:Hid (Fr [] w wb):=f1.then f2
 have HCf:Hid (∀W,Fr [] wb W->CfM W w.heap.size c.l c.s c.w c.q):=fun W hf=>hcf.keep hf
 have HC:Hid (∀W,Calls _ _ _ W _):=fun W=>zfj c.l c.s c.w c.q W
 have HY:Hid (∀W,Fr [] w W->Calls _ _ _ W _):=fun W hf=>zny lo M mc cc ts W (hT.keep hf) hM hBad
 have HP:Hid (∀W,Fr [] w W->Calls _ _ _ W _):=fun W hf=>zpj lo M mc m bo bn bc xs W (by have:=hT.few;omega) (hX.keep hf) hbn
 have HG:Hid (∀W,Gok m xs->Fr [] w W->Calls _ _ _ W _):=fun W hg hf=>zuy m bo bn bc xs W (hX.keep hf) hbn hg
 have HIn:Hid (TRs w lo ts/\(M=ts.length/\M<=mc)/\(IRs w bo xs/\bn=xs.length/\bn<=bc)):=⟨hT,⟨hM,hMc⟩,hX,hbn,hbc⟩
 have HE:Hid (ERs w eo es):=hE
 have H5:Hid (∀W,Fr [] wb W->W.cell? ⟨w.heap.size+1,0,none⟩=some (.int .i64 m)/\W.cell? ⟨w.heap.size+1,1,none⟩=some (.slice bo bn bc)):=fun W hf=>by
  have:=hf.keep r5 (by simp)
  exact⟨by rw[cell_of_row _ _ _ _ _ _ this];rfl,by rw[cell_of_row _ _ _ _ _ _ this];rfl⟩
 have hMf:M<=140737488355328:=by have:=hT.few;omega
 have HPl:Hid (okL 1 (txs ts)->((0<=m/\m<=(M:Int)/\Rise (m+1) M xs)↔(Gok m xs/\grt m xs<=(ts.length:Int)))):=fun hok=>by
  rw[hM]
  exact zsq m xs ts.length (by have:=zfu hok;rw[zef]at this;exact this)
 have HCC:Hid (cc=0↔okL 1 (txs ts)):=hcc
 have HEn:Hid (en=es.length):=hen
 have hen2:en<=4194304:=by omega
 clear hwa hwb f1 f2 s1 hcf r5 hT hM hMc hX hbn hbc hE hcc hBad hen
 obtain⟨nb,hnb⟩: ∃nb,nb=w.heap.size:=⟨_,rfl⟩
 rw[<-hnb]at H5 HCf
 have HNb:Hid (w.heap.size=nb):=hnb.symm
 clear hnb
 obtain⟨-,k0,k1,k2,k3⟩:=HCf.out wb (Fr.refl _ _)
 go_enter Tryz.func11,Tryz.ntmps11
 go_upto_region 1 with fail
 rw[HW.out,HNb.out]
 go_wp2_with fail
 refine Calls.mono (HC.out _) ?_
 rintro e w1 ⟨rfl,hf1⟩
 have HF1:Hid (Fr [] wb w1):=hf1
 clear hf1 HC HW k0 k1 k2 k3
 by_cases hc:c.may
 rotate_left
 ·have he:Cf.err ⟨c.l,c.s,c.w,c.q⟩=7:=if_neg hc
  rw[he]
  have HN:Hid (tkN c ts m xs es=0/\tkC c ts m xs es=7):=⟨if_neg (fun h=>hc h.1),if_pos hc⟩
  clear hc he
  go_wp2_with fail
  go_ret2
  exact⟨by rw[HN.out.1,HN.out.2];rfl,HFb.out.then HF1.out⟩
 have he:Cf.err ⟨c.l,c.s,c.w,c.q⟩=0:=if_pos hc
 rw[he]
 clear he
 have HMay:Hid c.may:=hc
 clear hc
 go_wp2_with fail
 refine Calls.mono (HY.out _ (HFb.out.then HF1.out)) ?_
 rintro e w2 ⟨rfl,hf2⟩
 have HF2:Hid (Fr [] wb w2):=HF1.out.then hf2
 clear hf2 HF1 HY
 by_cases h0:cc=0
 rotate_left
 ·have HN:Hid (tkN c ts m xs es=0/\tkC c ts m xs es=1):=by
   have hb: ¬Beg ts m xs:=fun h=>h0 (HCC.out.2 h.1)
   exact⟨if_neg (fun h=>hb h.2),by unfold tkC;rw[if_neg (fun h=>h HMay.out),if_pos hb]⟩
  have hne:((cc:Int)!=0)=true:=by simp;omega
  have hundef:undef=Value.tuple #[]:=rfl
  clear h0
  go_wp2_with fail
  go_ret2
  exact⟨by rw[HN.out.1,HN.out.2];rfl,HFb.out.then HF2.out⟩
 have HOk:Hid (okL 1 (txs ts)):=HCC.out.1 h0
 subst h0
 clear HCC
 obtain⟨c0,c1⟩:=H5.out w2 HF2.out
 go_wp2_with fail
 refine Calls.mono (HP.out _ (HFb.out.then HF2.out)) ?_
 rintro e w3 ⟨⟨B,rfl,hB⟩,hf3⟩
 have HF3:Hid (Fr [] wb w3):=HF2.out.then hf3
 have HB:Hid (B=true↔(Gok m xs/\grt m xs<=(ts.length:Int))):=hB.trans (HPl.out HOk.out)
 clear hf3 HF2 HP HPl hB c0 c1
 cases B with
 | false =>
  have HN:Hid (tkN c ts m xs es=0/\tkC c ts m xs es=1):=by
   have hb: ¬Beg ts m xs:=fun h=>by have:=HB.out.2 h.2;cases this
   exact⟨if_neg (fun h=>hb h.2),by unfold tkC;rw[if_neg (fun h=>h HMay.out),if_pos hb]⟩
  go_wp2_with fail
  go_ret2
  exact⟨by rw[HN.out.1,HN.out.2];rfl,HFb.out.then HF3.out⟩
 | true =>
  have HBg:Hid (Beg ts m xs):=⟨HOk.out,HB.out.1 rfl⟩
  clear HB
  obtain⟨c0,c1⟩:=H5.out w3 HF3.out
  go_wp2_with fail
  refine Calls.mono (HG.out _ HBg.out.2.1 (HFb.out.then HF3.out)) ?_
  rintro e w4 ⟨g,glo,gc,rfl,hg1,hOG,hgr,hf4⟩
  have HF4:Hid (Fr [] wb w4):=HF3.out.then hf4
  have HOG:Hid (OG w4 g glo bn gc m xs/\w3.heap.size<=g/\(∀b,qb glo=some b->w3.heap.size<=b)):=⟨hOG,hg1,hgr⟩
  have HS3:Hid (w.heap.size<=w3.heap.size):=(HFb.out.then HF3.out).size
  clear hf4 HF3 HG hOG hg1 hgr c0 c1
  go_upto_region 6 with fail
  refine zee (ops:=Ck.ops7) (w0:=w4) (Φ:=Ck.Ph c lo M mc g m bo bn bc nb (nb+1)) (by kernel_rfl) Ck.hN7 (Ck.hg7 rfl) (Ck.hPh7 c lo M mc g m bo bn bc nb (nb+1)) (Ck.hs7 HMay.out rfl rfl rfl rfl rfl (HCf.out _ HF4.out) (fun W hf=>H5.out W (HF4.out.then hf))) Ck.hlex7 ?_
  intro a w5 B hf5 hsz hdf hsame hP hB hA
  have hmade:=Ck.ds_made (wS:=w) HMay.out (HOG.out.1.keep hf5 (by simp) (by simp)) HOG.out.1.lt (Nat.le_trans HS3.out HOG.out.2.1) (fun b hb=>by
   obtain⟨cur,hcur⟩:=HOG.out.1.row.ty hb
   refine⟨Nat.le_trans HS3.out (HOG.out.2.2 b hb),lt_of_block hcur,fun e=> ?_⟩
   have hbx:=HOG.out.1.box
   rw[<-e,hcur]at hbx
   cases hbx) (HFb.out.then HF4.out) hf5 HIn.out.1 HIn.out.2.1 HIn.out.2.2 (fun i hi=>hP i hi) (fun i hi=>hB i hi) (fun i j hij hi hj=>hA i j hij hi hj)
  obtain⟨Z,p12,hDs⟩:=hmade
  obtain⟨-,p37⟩:=hP 0 (by decide)
  obtain⟨-,p38⟩:=hP 1 (by decide)
  obtain⟨-,p39⟩:=hP 2 (by decide)
  obtain⟨-,p40⟩:=hP 3 (by decide)
  obtain⟨-,p41⟩:=hP 4 (by decide)
  obtain⟨-,p42⟩:=hP 5 (by decide)
  obtain⟨tb,p43,-⟩:=hP 6 (by decide)
  obtain⟨-,p44⟩:=hP 7 (by decide)
  obtain⟨-,p45⟩:=hP 8 (by decide)
  obtain⟨-,p46⟩:=hP 9 (by decide)
  obtain⟨lb,p47,-⟩:=hP 10 (by decide)
  obtain⟨-,p48⟩:=hP 11 (by decide)
  obtain⟨-,p49⟩:=hP 12 (by decide)
  obtain⟨qq,p50,-⟩:=hP 13 (by decide)
  obtain⟨-,p51⟩:=hP 14 (by decide)
  obtain⟨-,p52⟩:=hP 16 (by decide)
  rw[p12]at p52
  rw[p38,p40,p42,p43,p44,p47,p50]at p51
  have ea:=zvi (ops:=Ck.ops7) [(37,.agg #[.int .i64 c.l,.int .i64 c.s,.int .i64 c.w,.int .i64 c.q]),(38,.slice lo M mc),(39,.pointer (some ⟨nb+1,0,none⟩)),(40,.int .i64 m),(41,.pointer (some ⟨nb+1,1,none⟩)),(42,.slice bo bn bc),(43,.pointer (some ⟨tb,0,none⟩)),(44,.pointer (some ⟨g,0,none⟩)),(45,.pointer (some ⟨nb,0,none⟩)),(46,.int .i64 c.l),(47,.slice (some ⟨lb,0,none⟩) c.l.toNat c.l.toNat),(48,.pointer (some ⟨nb,1,none⟩)),(49,.int .i64 c.s),(50,.slice (some ⟨qq,0,none⟩) c.s.toNat c.s.toNat),(51,.agg #[.int .i64 c.l,.int .i64 c.s,.int .i64 c.w,.int .i64 c.q,.slice lo M mc,.int .i64 m,.int .i64 0,.slice bo bn bc,.pointer (some ⟨tb,0,none⟩),.pointer (some ⟨g,0,none⟩),.slice none 0 0,.slice none 0 0,.slice (some ⟨lb,0,none⟩) c.l.toNat c.l.toNat,.slice (some ⟨qq,0,none⟩) c.s.toNat c.s.toNat,.slice none 0 0]),(52,.pointer (some ⟨Z.sb,0,none⟩)),(12,.pointer (some ⟨Z.sb,0,none⟩))] hsz hdf hsame (by show ([37,38,39,40,41,42,43,44,45,46,47,48,49,50,51,52,12]:List Nat).Nodup;decide) (fun p hp=>by
    simp only[List.mem_cons,List.not_mem_nil,or_false]at hp
    rcases hp with rfl|rfl|rfl|rfl|rfl|rfl|rfl|rfl|rfl|rfl|rfl|rfl|rfl|rfl|rfl|rfl|rfl
    ·exact p37
    ·exact p38
    ·exact p39
    ·exact p40
    ·exact p41
    ·exact p42
    ·exact p43
    ·exact p44
    ·exact p45
    ·exact p46
    ·exact p47
    ·exact p48
    ·exact p49
    ·exact p50
    ·exact p51
    ·exact p52.symm
    ·exact p12) (fun p hp=>by
    simp only[List.mem_cons,List.not_mem_nil,or_false]at hp
    rcases hp with rfl|rfl|rfl|rfl|rfl|rfl|rfl|rfl|rfl|rfl|rfl|rfl|rfl|rfl|rfl|rfl|rfl
    ·exact⟨0,rfl⟩
    ·exact⟨1,rfl⟩
    ·exact⟨2,rfl⟩
    ·exact⟨3,rfl⟩
    ·exact⟨4,rfl⟩
    ·exact⟨5,rfl⟩
    ·exact⟨6,rfl⟩
    ·exact⟨7,rfl⟩
    ·exact⟨8,rfl⟩
    ·exact⟨9,rfl⟩
    ·exact⟨10,rfl⟩
    ·exact⟨11,rfl⟩
    ·exact⟨12,rfl⟩
    ·exact⟨13,rfl⟩
    ·exact⟨14,rfl⟩
    ·exact⟨15,rfl⟩
    ·exact⟨16,rfl⟩) (fun i d hd=>by
    rw[Ck.dst7]at hd
    have hm:=List.mem_of_getElem? hd
    simp only[Ck.dl7,List.mem_cons,List.not_mem_nil,or_false]at hm
    rcases hm with rfl|rfl|rfl|rfl|rfl|rfl|rfl|rfl|rfl|rfl|rfl|rfl|rfl|rfl|rfl|rfl|rfl<;>simp)
  have HL0:Hid (FolD w w5 Z.sb c ts xs m es 0):=⟨Z,sy0 m xs,ds0 m xs,[],0,hDs,rfl,zmz HBg.out.2.1,zia HMay.out HBg.out.2.1 (by rw[zef];exact HBg.out.2.2),zxz m xs,zya c m xs,by simp⟩
  have HSame:Hid (zcb c (txs ts) xs (ds0 m xs) es=(goes c (txs ts) (sy0 m xs) es).1):=ziv HMay.out (zok HBg.out.1) es _ _ [] 0 0 (zmz HBg.out.2.1) (zia HMay.out HBg.out.2.1 (by rw[zef];exact HBg.out.2.2)) HE.out.each
  obtain⟨sb,hsb⟩: ∃sb,sb=Z.sb:=⟨_,rfl⟩
  rw[<-hsb]at HL0 ea
  clear p12 p37 p38 p39 p40 p41 p42 p43 p44 p45 p46 p47 p48 p49 p50 p51 p52 hDs hP hB hA hsame hsz hdf hsb HOG
  subst ea
  simp only[puts,Act.put]
  rename_i K hK
  show K _ _
  refine hK _ _ ?_
  have HN:Hid (tkN c ts m xs es=zcb c (txs ts) xs (ds0 m xs) es/\tkC c ts m xs es=if zcb c (txs ts) xs (ds0 m xs) es=es.length then 0 else 14):=by
   refine⟨?_,?_⟩
   ·rw[HSame.out]
    exact if_pos ⟨HMay.out,HBg.out⟩
   ·rw[HSame.out]
    unfold tkC
    rw[if_neg (fun h=>h HMay.out),if_neg (fun h=>h HBg.out)]
    rfl
  have HStep:Hid (∀W i x,FolD w W sb c ts xs m es i->i<es.length->es.getD i Ev.no=x->Calls _ _ _ W _):=fun W i x hF hi hx=>hF.step HMay.out (zok HBg.out.1) hi HE.out.each hk x hx
  have HEnd:Hid (∀W,FolD w W sb c ts xs m es en->zcb c (txs ts) xs (ds0 m xs) es=en):=fun W hF=>by
   obtain⟨Z,s,d,P,t,_,_,_,_,_,_,h7⟩:=hF
   rw[h7,HEn.out,List.drop_length]
   rfl
  clear hk HSame HIn HCf H5 HF4 HS3 hf5 hMf HOk
  go_wp2_with fail
  go_loopw [13] (fun ii wr=> ∃i:Nat,ii= .int .i64 i/\i<=en/\Hid (FolD w wr sb c ts xs m es i)) (fun ii _=>en-(RowKit.intOf ii).toNat)
  case atStart=>exact⟨0,rfl,Nat.zero_le _,HL0⟩
  case round =>
   obtain⟨i,rfl,hil,HFr⟩:=hrel
   by_cases hi:i<en
   ·have hii:(i:Int)<(en:Int):=by omega
    have hi0:(0:Int)<=(i:Int):=by omega
    obtain⟨eb,off,heo,hbl,hcs⟩:=HE.out.lies (by have:=HEn.out;omega)
    have hf:=HFr.out.fr
    have hk2: ∀o,wr.cell? ⟨eb,o,none⟩=w.cell? ⟨eb,o,none⟩:=fun o=>World.cell?_of_block (hf.block eb hbl (by simp))
    have hA:=hcs i (by have:=HEn.out;omega)
    obtain⟨x,hx⟩: ∃x,es.getD i Ev.no=x:=⟨_,rfl⟩
    have HC:Hid (Calls _ _ _ wr _):=HStep.out wr i x HFr.out (by have:=HEn.out;omega) hx
    rw[hx]at hA
    have c0:=(hk2 _).trans hA.c0
    have c1:=(hk2 _).trans hA.c1
    have c2:=(hk2 _).trans hA.c2
    have c3:=(hk2 _).trans hA.c3
    have c4:=(hk2 _).trans hA.c4
    have c5:=(hk2 _).trans hA.c5
    subst heo
    clear hA hk2 hf hcs hx HStep
    obtain⟨xt,xk,xn,xs',xc,xm⟩:=x
    dsimp only at c0 c1 c2 c3 c4 c5 HC
    go_wp2_with fail
    refine Calls.mono HC.out ?_
    rintro r w6 (⟨rfl,hF6⟩|⟨rfl,hg6,hf6⟩)
    ·have HF6:Hid (FolD w w6 sb c ts xs m es (i+1)):=hF6
     clear hF6 HC c0 c1 c2 c3 c4 c5
     go_wp2_with fail
     go_roundw
     case rel=>exact⟨i+1,by simp,by omega,HF6⟩
     case measure=>simp[RowKit.intOf];omega
    ·have HR6:Hid (zcb c (txs ts) xs (ds0 m xs) es=i/\Fr [] w w6):=⟨hg6,hf6⟩
     have HNe:Hid (i≠es.length):=by show i≠es.length;have:=HEn.out;omega
     clear hg6 hf6 HC c0 c1 c2 c3 c4 c5
     go_wp2_with fail
     go_ret2
     refine⟨?_,HR6.out.2⟩
     rw[HN.out.1,HN.out.2,HR6.out.1,if_neg HNe.out]
     rfl
   ·have hie:i=en:=by omega
    have hii: ¬(i:Int)<(en:Int):=by omega
    have HF6:Hid (FolD w wr sb c ts xs m es en):=by show FolD _ _ _ _ _ _ _ _ _;rw[<-hie];exact HFr.out
    clear hie HStep
    go_wp2_with fail
    go_ret2
    refine⟨?_,HF6.out.fr⟩
    rw[HN.out.1,HN.out.2,HEnd.out _ HF6.out,if_pos HEn.out]
    rfl
theorem zlc {w w':World}: ∀ {ts:List Tm} {ks:List Nat},ks.length=ts.length->txs (twTs ts ks)=txs ts
 | [],_,_=>rfl
 | t::r,[],h=>by simp at h
 | t::r,k::s,h=>by
  have ih:=zlc (w:=w) (w':=w') (ts:=r) (ks:=s) (by simpa using h)
  show txs (twT t k::twTs r s)=txs (t::r)
  simp only[txs,List.map_cons]at ih ⊢
  rw[ih]
  rfl
theorem zyj {c:Cf} {ts ts':List Tm} {m:Int} {xs:List Int} {es:List Ev} (h:txs ts'=txs ts):tkN c ts' m xs es=tkN c ts m xs es/\tkC c ts' m xs es=tkC c ts m xs es:=by
 have hl:ts'.length=ts.length:=by rw[<-zef ts',h,zef]
 unfold tkN tkC Beg
 rw[h,hl]
 exact⟨rfl,rfl⟩
theorem qirs {w:World} {bo:Option Addr} {xs:List Int} (h:IRs w bo xs):Q.IRs w bo xs:=⟨h.lies,h.few⟩
theorem zyk {w0 w w1:World} {bs:List Int} {hs:List Q.Hd} {bb bh:Nat} {ks:List Nat} {bo:Option Addr} (h:Q.TwS w0 w bs hs bb bh ks) (hI:IRs w1 bo bs):IRs w (some ⟨bb,0,none⟩) bs:=by
 refine⟨fun h0=>⟨bb,0,rfl,lt_of_block h.rb,fun i hi=> ?_⟩,hI.few⟩
 rw[cell_of_row _ _ _ _ _ _ h.rb,List.getElem?_toArray,Nat.zero_add,Q.intsT_get _ _ (by simp;omega)]
 congr 2
 simp[List.getD,List.getElem?_append_left hi]
theorem zvo {w w1:World} {b:Nat} {eo:Option Addr} {es:List Ev} (h:ERs w1 eo es) (hb:w.heap[b]? = some (.cells (evsC (es++[spE])).toArray 62 (0,0))):ERs w (some ⟨b,0,none⟩) es:=by
 refine⟨fun h0=>⟨b,0,rfl,lt_of_block hb,fun i hi=> ?_⟩,h.few,h.each⟩
 have key: ∀c u,c<6->(evV (es.getD i Ev.no))[c]? = some u->w.cell? ⟨b,0+i*6+c,none⟩=some u:=by
  intro c u hc hu
  have hi2:i<(es++[spE]).length:=by simp;omega
  have e1:(es++[spE]).getD i Ev.no=es.getD i Ev.no:=by simp[List.getD,List.getElem?_append_left hi]
  rw[<-e1,<-zgv (es++[spE]) i c hi2 hc]at hu
  rw[cell_of_row _ _ _ _ _ _ hb,List.getElem?_toArray,<-hu]
  congr 1
  omega
 exact⟨key 0 _ (by omega) rfl,key 1 _ (by omega) rfl,key 2 _ (by omega) rfl,key 3 _ (by omega) rfl,key 4 _ (by omega) rfl,key 5 _ (by omega) rfl⟩
set_option maxHeartbeats 8000000 in
set_option maxRecDepth 100000 in
theorem zmn (c:Cf) (lo:Option Addr) (M mc:Nat) (ts:List Tm) (m:Int) (bo:Option Addr) (bn bc:Nat) (xs:List Int) (ho:Option Addr) (hl hcp:Nat) (eo:Option Addr) (en ec:Nat) (es:List Ev) (hs:List Q.Hd) (w:World)
  (hN:Nms w) (hT:TRs w lo ts) (hM:M=ts.length) (hMc:M<=mc) (hX:IRs w bo xs) (hbn:bn=xs.length) (hbc:bn<=bc) (hE:ERs w eo es) (hen:en=es.length) (hec:en<=ec) (hk:es.length<2 ^ 21) (hH:Q.HRs w ho hs) (hhl:hl=hs.length) (hhs:hl<2 ^ 21) (hfh:Q.Few hs) (hMs:M<2 ^ 21) (hft:Few ts) :
  Calls Tryz.prog 3 #[.agg #[.int .i64 c.l,.int .i64 c.s,.int .i64 c.w,.int .i64 c.q,.slice lo M mc,.int .i64 m,.slice bo bn bc,.slice ho hl hcp,.slice eo en ec]] w fun e w'=>e= .returned (.bool true)/\Fr [] w w':=by
 obtain⟨wa,hwa⟩: ∃wa,wa=w.alloc (.cells #[.int .i64 c.l,.int .i64 c.s,.int .i64 c.w,.int .i64 c.q,.slice lo M mc,.int .i64 m,.slice bo bn bc,.slice ho hl hcp,.slice eo en ec] 31):=⟨_,rfl⟩
 have f1:Fr [] w wa:=by rw[hwa];exact Fr.alloc _ _ _
 have r5:wa.heap[w.heap.size]? = some (.cells #[.int .i64 c.l,.int .i64 c.s,.int .i64 c.w,.int .i64 c.q,.slice lo M mc,.int .i64 m,.slice bo bn bc,.slice ho hl hcp,.slice eo en ec] 31 (0,0)):=by rw[hwa];exact heap_alloc_new _ _
 have HW:Hid (w.alloc (.cells #[.int .i64 c.l,.int .i64 c.s,.int .i64 c.w,.int .i64 c.q,.slice lo M mc,.int .i64 m,.slice bo bn bc,.slice ho hl hcp,.slice eo en ec] 31)=wa):=by show _=_;rw[hwa]
 have HFa:Hid (Fr [] w wa):=f1
 have hen21:en<2 ^ 21:=by omega
 have H1:Hid (∀W,Fr [] w W->Calls _ _ _ W _):=fun W hf=>zpz lo M mc ts W (hT.keep hf) hM hMs hft
 have H2:Hid (∀W,Fr [] w W->Calls _ _ _ W _):=fun W hf=>Q.twinSv_any m bo ho bn bc hl hcp xs hs (qirs (hX.keep hf)) hbn (hH.keep hf) hhl hhs hfh
 have H3:Hid (∀W,Fr [] w W->Calls _ _ _ W _):=fun W hf=>zpt eo en ec es W (hE.keep hf) hen hen21
 have H4:Hid (∀(W W0 W1:World) (b:Nat) (ks:List Nat) (bb bh:Nat) (ks2:List Nat) (b2:Nat),Fr [] w W->Twd W0 W ts ks->W.heap[b]? = some (.cells (tmsC (twTs ts ks++[spT])).toArray 66 (0,0))->Q.TwS W1 W xs hs bb bh ks2->W.heap[b2]? = some (.cells (evsC (es++[spE])).toArray 62 (0,0))->Calls Tryz.prog 10 #[.agg #[.int .i64 c.l,.int .i64 c.s,.int .i64 c.w,.int .i64 c.q],.slice (some ⟨b,0,none⟩) M (M+1),.agg #[.int .i64 m,.slice (some ⟨bb,0,none⟩) bn (bn+1),.slice (some ⟨bh,0,none⟩) hl (hl+1)],.slice (some ⟨b2,0,none⟩) en (en+1)] W fun e w'=>e= .returned (.tuple #[.int .i64 ((tkN c ts m xs es:Nat):Int),.int .i64 (tkC c ts m xs es)])/\Fr [] W w'):=by
  intro W W0 W1 b ks bb bh ks2 b2 hf hTw hb hSv hb2
  have hlk:ks.length=ts.length:=hTw.len
  have h:=zkk c (some ⟨b,0,none⟩) M (M+1) (twTs ts ks) m (some ⟨bb,0,none⟩) bn (bn+1) xs (some ⟨bh,0,none⟩) hl (hl+1) (some ⟨b2,0,none⟩) en (en+1) es W (hN.keep hf (by simp)) (zsy hT hTw hb) (by rw[zba _ _ hlk];exact hM) (by omega) (zyk hSv hX) hbn (by omega) (zvo hE hb2) hen (by omega) (by omega)
  obtain⟨k1,k2⟩:=zyj (c:=c) (m:=m) (xs:=xs) (es:=es) (zlc (w:=W) (w':=W) hlk)
  rw[k1,k2]at h
  exact h
 have H5:Hid (∀W,Fr [] w W->Calls _ _ _ W _):=fun W hf=>zyb c lo M mc ts m bo bn bc xs ho hl hcp eo en ec es W (hT.keep hf) hM hMc (hX.keep hf) hbn hbc (hE.keep hf) hen hec (by omega)
 have H6:Hid (∀(W W0:World) (b:Nat) (ks:List Nat),Fr [] w W->Twd W0 W ts ks->W.heap[b]? = some (.cells (tmsC (twTs ts ks++[spT])).toArray 66 (0,0))->Calls _ _ _ W _):=fun W W0 b ks hf hTw hb=>zqa b ks W0 lo M mc ts W (hT.keep hf) hM hMs hft hTw hb
 have H7:Hid (∀(W W1:World) (bb bh:Nat) (ks2:List Nat),Fr [] w W->Q.TwS W1 W xs hs bb bh ks2->Calls _ _ _ W _):=fun W W1 bb bh ks2 hf hSv=>Q.leftSv_any m bo ho bn bc hl hcp xs hs bb bh ks2 (qirs (hX.keep hf)) hbn (hH.keep hf) hhl hhs hfh hSv
 have H8:Hid (∀(W:World) (b2:Nat),Fr [] w W->W.heap[b2]? = some (.cells (evsC (es++[spE])).toArray 62 (0,0))->Calls _ _ _ W _):=fun W b2 hf hb2=>zpu b2 eo en ec es W (hE.keep hf) hen hen21 hb2
 have HLi:Hid (∀W,Fr [] w W->Calls _ _ _ W _):=fun W hf=>zru W (hN.keep hf (by simp))
 have HB:Hid (∀W,Fr [] wa W->W.heap[w.heap.size]? = some (.cells #[.int .i64 c.l,.int .i64 c.s,.int .i64 c.w,.int .i64 c.q,.slice lo M mc,.int .i64 m,.slice bo bn bc,.slice ho hl hcp,.slice eo en ec] 31 (0,0))):=fun W hf=>hf.keep r5 (by simp)
 clear hwa f1 r5 hT hM hMc hX hbn hbc hE hen hN hk hH hhl hfh hft
 obtain⟨nb,hnb⟩: ∃nb,nb=w.heap.size:=⟨_,rfl⟩
 have HNb:Hid (w.heap.size=nb):=hnb.symm
 rw[<-hnb]at HB
 clear hnb
 have HC:Hid (∀W,Fr [] wa W->W.cell? ⟨nb,0,none⟩=some (.int .i64 c.l)/\W.cell? ⟨nb,1,none⟩=some (.int .i64 c.s)/\W.cell? ⟨nb,2,none⟩=some (.int .i64 c.w)/\W.cell? ⟨nb,3,none⟩=some (.int .i64 c.q)/\W.cell? ⟨nb,4,none⟩=some (.slice lo M mc)/\W.cell? ⟨nb,5,none⟩=some (.int .i64 m)/\W.cell? ⟨nb,6,none⟩=some (.slice bo bn bc)/\W.cell? ⟨nb,7,none⟩=some (.slice ho hl hcp)/\W.cell? ⟨nb,8,none⟩=some (.slice eo en ec)):=fun W hf=>by
  have h:=HB.out W hf
  exact⟨by rw[cell_of_row _ _ _ _ _ _ h];rfl,by rw[cell_of_row _ _ _ _ _ _ h];rfl,by rw[cell_of_row _ _ _ _ _ _ h];rfl,by rw[cell_of_row _ _ _ _ _ _ h];rfl,by rw[cell_of_row _ _ _ _ _ _ h];rfl,by rw[cell_of_row _ _ _ _ _ _ h];rfl,by rw[cell_of_row _ _ _ _ _ _ h];rfl,by rw[cell_of_row _ _ _ _ _ _ h];rfl,by rw[cell_of_row _ _ _ _ _ _ h];rfl⟩
 clear HB
 go_enter Tryz.func3,Tryz.ntmps3
 go_upto_region 1 with fail
 rw[HW.out,HNb.out]
 obtain⟨k0,k1,k2,k3,k4,k5,k6,k7,k8⟩:=HC.out wa (Fr.refl _ _)
 go_wp2_with fail
 refine Calls.mono (H1.out wa HFa.out) ?_
 rintro e w1 ⟨b,ks,rfl,hbn1,hrow1,hTw1,hf1⟩
 have HF1:Hid (Fr [] wa w1):=hf1
 have HT1:Hid (w1.heap[b]? = some (.cells (tmsC (twTs ts ks++[spT])).toArray 66 (0,0))/\Twd wa w1 ts ks):=⟨hrow1,hTw1⟩
 clear hf1 hbn1 hrow1 hTw1 k0 k1 k2 k3 k4 k5 k6 k7 k8 H1 HW
 obtain⟨k0,k1,k2,k3,k4,k5,k6,k7,k8⟩:=HC.out w1 HF1.out
 go_wp2_with fail
 refine Calls.mono (H2.out w1 (HFa.out.then HF1.out)) ?_
 rintro e w2 ⟨bb,bh,ks2,rfl,hSv2,hf2⟩
 have HF2:Hid (Fr [] w1 w2):=hf2
 have HS2:Hid (Q.TwS w1 w2 xs hs bb bh ks2):=hSv2
 clear hf2 hSv2 k0 k1 k2 k3 k4 k5 k6 k7 k8 H2
 obtain⟨w3,HW3⟩: ∃w3,Hid (w2.alloc (.cells #[.int .i64 m,.slice (some ⟨bb,0,none⟩) bn (bn+1),.slice (some ⟨bh,0,none⟩) hl (hl+1)] 28)=w3):=⟨_,rfl⟩
 obtain⟨sb,HSB⟩: ∃sb,Hid (w2.heap.size=sb):=⟨_,rfl⟩
 have r3:w3.heap[sb]? = some (.cells #[.int .i64 m,.slice (some ⟨bb,0,none⟩) bn (bn+1),.slice (some ⟨bh,0,none⟩) hl (hl+1)] 28 (0,0)):=by rw[<-HW3.out,<-HSB.out];exact heap_alloc_new _ _
 have HF3:Hid (Fr [] w2 w3):=by show Fr _ _ _;rw[<-HW3.out];exact Fr.alloc _ _ _
 have HR3:Hid (∀W,Fr [] w3 W->W.cell? ⟨sb,0,none⟩=some (.int .i64 m)/\W.cell? ⟨sb,1,none⟩=some (.slice (some ⟨bb,0,none⟩) bn (bn+1))/\W.cell? ⟨sb,2,none⟩=some (.slice (some ⟨bh,0,none⟩) hl (hl+1))):=fun W hf=>by
  have:=hf.keep r3 (by simp)
  exact⟨by rw[cell_of_row _ _ _ _ _ _ this];rfl,by rw[cell_of_row _ _ _ _ _ _ this];rfl,by rw[cell_of_row _ _ _ _ _ _ this];rfl⟩
 clear r3
 go_upto_region 3 with fail
 rw[HW3.out,HSB.out]
 have HG3:Hid (Fr [] wa w3):=(HF1.out.then HF2.out).then HF3.out
 obtain⟨k0,k1,k2,k3,k4,k5,k6,k7,k8⟩:=HC.out w3 HG3.out
 go_wp2_with fail
 refine Calls.mono (H3.out w3 (HFa.out.then HG3.out)) ?_
 rintro e w4 ⟨b2,rfl,hb4,hrow4,hf4⟩
 have HF4:Hid (Fr [] w3 w4):=hf4
 have HG4:Hid (Fr [] wa w4):=HG3.out.then hf4
 have HT4:Hid (w4.heap[b2]? = some (.cells (evsC (es++[spE])).toArray 62 (0,0))):=hrow4
 clear hf4 hb4 hrow4 k0 k1 k2 k3 k4 k5 k6 k7 k8 H3
 obtain⟨k0,k1,k2,k3,k4,k5,k6,k7,k8⟩:=HC.out w4 HG4.out
 obtain⟨y0,y1,y2⟩:=HR3.out w4 HF4.out
 have HTw:Hid (∀W,Fr [] w4 W->Twd wa W ts ks/\W.heap[b]? = some (.cells (tmsC (twTs ts ks++[spT])).toArray 66 (0,0))/\Q.TwS w1 W xs hs bb bh ks2/\W.heap[b2]? = some (.cells (evsC (es++[spE])).toArray 62 (0,0))):=fun W hf=>by
  have g1:Fr [] w1 W:=((HF2.out.then HF3.out).then HF4.out).then hf
  have g2:Fr [] w2 W:=(HF3.out.then HF4.out).then hf
  exact⟨HT1.out.2.keep g1 (by simp),g1.keep HT1.out.1 (by simp),HS2.out.keep g2,hf.keep HT4.out (by simp)⟩
 obtain⟨t1,t2,t3,t4⟩:=HTw.out w4 (Fr.refl _ _)
 have HC4:Hid (Calls _ _ _ _ _):=H4.out w4 wa w1 b ks bb bh ks2 b2 (HFa.out.then HG4.out) t1 t2 t3 t4
 clear H4 t1 t2 t3 t4
 go_wp2_with fail
 refine Calls.mono HC4.out ?_
 rintro e w5 ⟨rfl,hf5⟩
 have HF5:Hid (Fr [] w4 w5):=hf5
 have HG5:Hid (Fr [] wa w5):=HG4.out.then hf5
 clear hf5 HC4 k0 k1 k2 k3 k4 k5 k6 k7 k8 y0 y1 y2
 obtain⟨k0,k1,k2,k3,k4,k5,k6,k7,k8⟩:=HC.out w5 HG5.out
 obtain⟨N1,hN1⟩: ∃N1:Int,N1=((tkN c ts m xs es:Nat):Int):=⟨_,rfl⟩
 obtain⟨C1,hC1⟩: ∃C1,C1=tkC c ts m xs es:=⟨_,rfl⟩
 rw[<-hN1,<-hC1]at H5 ⊢
 clear hN1 hC1
 go_wp2_with fail
 refine Calls.mono (H5.out w5 (HFa.out.then HG5.out)) ?_
 rintro e w6 ⟨rfl,hf6⟩
 have HF6:Hid (Fr [] w4 w6):=HF5.out.then hf6
 have HG6:Hid (Fr [] wa w6):=HG5.out.then hf6
 clear hf6 H5 k0 k1 k2 k3 k4 k5 k6 k7 k8
 obtain⟨k0,k1,k2,k3,k4,k5,k6,k7,k8⟩:=HC.out w6 HG6.out
 obtain⟨t1,t2,t3,t4⟩:=HTw.out w6 HF6.out
 have HC6:Hid (Calls _ _ _ _ _):=H6.out w6 wa b ks (HFa.out.then HG6.out) t1 t2
 clear t1 t2 t3 t4 H6
 go_wp2_with fail
 refine Calls.mono HC6.out ?_
 rintro e w7 ⟨rfl,hf7⟩
 have HF7:Hid (Fr [] w4 w7):=HF6.out.then hf7
 have HG7:Hid (Fr [] wa w7):=HG6.out.then hf7
 clear hf7 HC6 k0 k1 k2 k3 k4 k5 k6 k7 k8
 obtain⟨k0,k1,k2,k3,k4,k5,k6,k7,k8⟩:=HC.out w7 HG7.out
 obtain⟨y0,y1,y2⟩:=HR3.out w7 (HF4.out.then HF7.out)
 obtain⟨t1,t2,t3,t4⟩:=HTw.out w7 HF7.out
 have HC7:Hid (Calls _ _ _ _ _):=H7.out w7 w1 bb bh ks2 (HFa.out.then HG7.out) t3
 clear t1 t2 t3 t4 H7
 go_wp2_with fail
 refine Calls.mono HC7.out ?_
 rintro e w8 ⟨rfl,hf8⟩
 have HF8:Hid (Fr [] w4 w8):=HF7.out.then hf8
 have HG8:Hid (Fr [] wa w8):=HG7.out.then hf8
 clear hf8 HC7 k0 k1 k2 k3 k4 k5 k6 k7 k8 y0 y1 y2
 obtain⟨k0,k1,k2,k3,k4,k5,k6,k7,k8⟩:=HC.out w8 HG8.out
 obtain⟨t1,t2,t3,t4⟩:=HTw.out w8 HF8.out
 have HC8:Hid (Calls _ _ _ _ _):=H8.out w8 b2 (HFa.out.then HG8.out) t4
 clear t1 t2 t3 t4 H8
 go_wp2_with fail
 refine Calls.mono HC8.out ?_
 rintro e w9 ⟨rfl,hf9⟩
 have HG9:Hid (Fr [] wa w9):=HG8.out.then hf9
 clear hf9 HC8 k0 k1 k2 k3 k4 k5 k6 k7 k8
 have HC9:Hid (Calls _ _ _ _ _):=HLi.out w9 (HFa.out.then HG9.out)
 go_wp2_with fail
 refine Calls.mono HC9.out ?_
 rintro e w10 ⟨rfl,hf10⟩
 have HG10:Hid (Fr [] w w10):=(HFa.out.then HG9.out).then hf10
 clear hf10 HC9
 go_wp2_with fail
 go_ret
 exact⟨rfl,HG10.out⟩
end Go.Proofs.YtaaghcimfcjehaaGreatDoor
