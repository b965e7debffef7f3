/- Contracts and lemmas. -/
import Derived.Test.YtojjdnjfaelnfaaGreatDoorGp43
import Derived.Test.YtojjdnjfaelnfaaGreatDoorGp44
set_option maxHeartbeats 8000000
set_option maxRecDepth 100000
namespace Go.Proofs.YtojjdnjfaelnfaaGreatDoor
set_option linter.unusedSimpArgs false
set_option linter.unusedVariables false
section
open Go.ChangeShapes Go.WideShapes Go.ChangeAt Go.RowKit Go.Lib Go.Maps Go.Proofs.Tryz
section
variable{w0 w w':World}{p:Nat}{c:Cf}{T:List Tx}{Z:Lay}{s:Ms}
def SqP(w0:World)(c:Cf)(T:List Tx)(w:World)(Z:Lay)(s:Ms)(q:Nat)(e:Ending)(w':World):Prop:=∃t k n sh ct m s',e=.returned (.tuple #[evV t k n sh ct m,.int .i64 0])/\(∃Z',Dn w0 c T w Z s w' Z' s'/\Z'.nr=s'.d)/\Nxe c T s s' t k n sh ct m/\t=(q:Int)
theorem zagf(h:RP w0 w p c T Z s)(hnr:Z.nr=s.d)(hW:Wf c T s)(hk:s.k<16000000){q:Nat}(hq:q<c.l.toNat+c.s.toNat+2)(hne:canT c s q≠0):Calls prog 52 #[.pointer (some ⟨p,0,none⟩),.int .i64 (q:Int)] w fun e w'=>SqP w0 c T w Z s q e w':=by
 obtain⟨w1,HW1⟩:∃w1,Hid (w.alloc (.cells #[.int .i64 0,.int .u8 0,.int .i64 0,.int .i64 0,.int .i64 0,.int .i64 0] 62)=w1):=⟨_,rfl⟩;obtain⟨A,HA⟩:∃A,Hid (w.heap.size=A):=⟨_,rfl⟩;have hF1:Fr [] w w1:=by rw[<-HW1.out];exact Fr.alloc _ _ _
 have hBx:Bx w0 c T w1 Z s A:=by rw[<-HW1.out,<-HA.out];exact Bx.new h.m
 have h1:=h.quiet hF1;have HT:Hid (Calls ..):=ziz h1;have HFd:Hid (Calls ..):=zqz h1.m hq;have c0:w1.cell? ⟨p,0,none⟩=some (.pointer (some ⟨Z.z.mb,0,none⟩)):=h1.c0;obtain⟨ty,hty⟩:∃ty,tyT c q=ty:=⟨_,rfl⟩;obtain⟨b,hb⟩:∃b,bT c Z.z q=b:=⟨_,rfl⟩;obtain⟨cf,hcf⟩:∃f,canF c q=f:=⟨_,rfl⟩;obtain⟨k,hkk⟩:∃k:Int,(canT c s q:Int)=k:=⟨_,rfl⟩;have hk0:¬k=0:=by omega
 rw[zacd,hty,hb]at HFd
 have MC:∀W,(method 662 ty (.pointer (some ⟨b,0,none⟩)) "towpath/replica.can").run prog W=.ok (cf,.pointer (some ⟨b,0,none⟩)) W:=fun W=>by rw[<-hty,<-hb,<-hcf];exact zadr c Z.z q W
 have EC:∀args W,(callFunc cf args).run prog W=.ok (.enter cf args) W:=by rw[<-hcf];exact znw c q
 have HC1:Hid (∀W,Fr [] w1 W->W.cell? ⟨p,0,none⟩=some (.pointer (some ⟨Z.z.mb,0,none⟩))/\Hid (Calls prog cf #[.pointer (some ⟨b,0,none⟩)] W fun e w'=>e=.returned (.int .u8 k)/\Fr [] W w')):=fun W hf=>by
  refine⟨(h1.quiet hf).c0,?_⟩;have:=zue (h1.m.quiet hf) hW hq;rw[hcf,hb,hkk]at this
  exact this
 have HC2:Hid (∀W,Fr [] w1 W->W.cell? ⟨p,0,none⟩=some (.pointer (some ⟨Z.z.mb,0,none⟩))/\Hid (Calls prog 91 #[.pointer (some ⟨Z.z.mb,0,none⟩),.iface ty (.pointer (some ⟨b,0,none⟩))] W fun e w3=>∃t k n sh ct m s',e=.returned (.agg #[.int .i64 t,.int .u8 k,.int .i64 n,.int .i64 sh,.int .i64 ct,.int .i64 m])/\Evx w3 A 0 0 0 0 0 0/\Hid ((∀W',Fr [A] w3 W'->∃Z',Dn w0 c T w Z s W' Z' s'/\Z'.nr=s'.d)/\Nxe c T s s' t k n sh ct m/\t=(q:Int)))):=fun W hf=>by
  refine⟨(h1.quiet hf).c0,?_⟩;have:=zafx (h1.m.quiet hf) hnr hW hk hq hne;rw[hty,hb]at this
  refine Calls.mono this ?_;rintro e w3⟨s',n,sh,ct,rfl,⟨Z',hD,hnr'⟩,hN⟩;have hD1:=(h1.m.dn hf).trans hD;exact⟨_,_,_,_,_,_,s',rfl,(hBx.then hD1).box,fun W' hf'=>⟨Z',hD1.fin h.m hF1 (by rw[HA.out];exact Nat.le_refl _) hBx hf',hnr'⟩,hN,rfl⟩
 clear h hnr hW hq hne hF1 hBx h1 hty hb hcf hkk;go_enter func52,ntmps52;go_upto_region 1 with fail
 rw[HW1.out,HA.out];clear HW1 HA;go_wp2_with fail
 refine Calls.mono HT.out ?_;rintro e w2⟨rfl,rfl⟩;clear HT;go_wp2_with fail
 refine Calls.mono HFd.out ?_;rintro e w2⟨rfl,hf2⟩;obtain⟨d0,HCC⟩:=HC1.out w2 hf2;have HF2:Hid (Fr [] w1 w2):=hf2;clear HFd HC1 hf2 c0;go_wp2_with (simp[go_sem,MC,EC])
 refine Calls.mono HCC.out ?_;rintro e w3⟨rfl,hf3⟩;obtain⟨e0,HCA⟩:=HC2.out w3 (HF2.out.then hf3);clear HC2 HF2 hf3 HCC MC EC d0;go_wp2_with fail
 refine Calls.mono HCA.out ?_;rintro e w4⟨t,k',n,sh,ct,m,s',rfl,hA,HR⟩;clear HCA e0;have hA:w4.heap[A]? = some (.cells #[.int .i64 0,.int .u8 0,.int .i64 0,.int .i64 0,.int .i64 0,.int .i64 0] 62 (0,0)):=hA;go_wp2_with (first
  |(refine zak rfl _ _ rfl A t k' n sh ct m rfl rfl 0 0 0 0 0 0 hA ?_;intro w5 hw5 hf5;have HF5:Hid _:=HR.out.1 w5 hf5;clear hf5)
  |fail)
 refine bodyPost_ret (zja rfl _ _ _ A _ rfl (zcs hw5.out)) rfl ?_;exact⟨t,k',n,sh,ct,m,s',rfl,HF5.out,HR.out.2⟩
theorem zzh(h:RP w0 w p c T Z s)(hnr:Z.nr=s.d)(hW:Wf c T s)(hk:s.k<16000000){q:Nat}(hq:q<c.l.toNat+c.s.toNat+2)(hne:canT c s q≠0):Calls prog 52 #[.pointer (some ⟨p,0,none⟩),.int .i64 (q:Int)] w fun e w'=>∃k n sh ct s' Z',e=.returned (.tuple #[evV (q:Int) k n sh ct s'.ma,.int .i64 0])/\Dn w0 c T w Z s w' Z' s'/\Z'.nr=s'.d/\Wf c T s'/\StepR c T s q k n sh ct s':=by
 refine (zagf h hnr hW hk hq hne).mono ?_;rintro e w'⟨t,k,n,sh,ct,m,s',rfl,⟨Z',hD,hz⟩,hN,rfl⟩;obtain⟨q',e1,_,e3⟩:=hN.r;obtain rfl:q=q':=by omega
 exact⟨k,n,sh,ct,s',Z',by rw[hN.em],hD,hz,hN.wf,e3⟩
end
theorem zjb{w0 w w':World}{p:Nat}{c:Cf}{T:List Tx}{Z:Lay}{s:Ms}(h:RP w0 w p c T Z s){S:List Nat}(hf:Fr S w w')(hS:∀b∈S,w0.heap.size<=b/\MaM.off w0 w c T Z s b)(hp:p∉S):RP w0 w' p c T Z s:=
 ⟨h.m.other hf hS,hf.keep h.box hp,h.m.otherO hf hS h.off⟩
def tkC(xs:List Int):List Value:=xs.map fun x=> .int .i64 x
structure Nt(w0 W:World)(c:Cf)(T:List Tx)(Z:Lay)(s:Ms)(p B P:Nat)(v:Value)(xs:List Int):Prop where
 R:RP w0 W p c T Z s
 nr:Z.nr=s.d
 wf:Wf c T s
 cB:W.heap[B]? = some (.cells #[v] 25 (0,0))
 cP:W.heap[P]? = some (.cells #[.pointer (some ⟨p,0,none⟩)] 58 (0,0))
 own:W.ownsRow 0 3 1 v xs.length (tkC xs)
 oB:w0.heap.size<=B/\MaM.off w0 W c T Z s B
 oP:w0.heap.size<=P/\MaM.off w0 W c T Z s P
 oV:∀b,v.ownBlock=some b->w0.heap.size<=b/\MaM.off w0 W c T Z s b
def Nt.off(w0 W:World)(c:Cf)(T:List Tx)(Z:Lay)(s:Ms)(B:Nat)(v:Value)(b:Nat):Prop:=MaM.off w0 W c T Z s b/\b≠B/\v.ownBlock≠some b
section
variable{w0 W W':World}{c:Cf}{T:List Tx}{Z Z':Lay}{s s':Ms}{p B P:Nat}{v:Value}{xs:List Int}
theorem Nt.vlt(h:Nt w0 W c T Z s p B P v xs):∀k,v.ownBlock=some k->k<W.heap.size:=fun k hk=>by
 obtain⟨cs,e⟩:=Ap.own_type h.own k hk;exact lt_of_block e
theorem Nt.dn(h:Nt w0 W c T Z s p B P v xs)(hD:Dn w0 c T W Z s W' Z' s')(hz:Z'.nr=s'.d)(hw:Wf c T s'):Nt w0 W' c T Z' s' p B P v xs/\∀b o,W.heap[b]? = some o->Nt.off w0 W c T Z s B v b->W'.heap[b]? = some o/\Nt.off w0 W' c T Z' s' B v b:=by
 obtain⟨S,sf,sS⟩:=hD.x.fr;refine⟨⟨h.R.dn hD,hz,hw,hD.keep h.cB h.oB.2,hD.keep h.cP h.oP.2,zaj h.own sf (fun k hk hm=> ?_),⟨h.oB.1,hD.off (lt_of_block h.cB) h.oB.2⟩,⟨h.oP.1,hD.off (lt_of_block h.cP) h.oP.2⟩,fun b hb=>⟨(h.oV b hb).1,hD.off (h.vlt b hb) (h.oV b hb).2⟩⟩,fun b o hb ho=>⟨hD.keep hb ho.1,hD.off (lt_of_block hb) ho.1,ho.2⟩⟩;obtain⟨j,hj⟩:=sS k hm (h.vlt k hk);exact (h.oV k hk).2 j hj
theorem Nt.quiet(h:Nt w0 W c T Z s p B P v xs)(hf:Fr [] W W'):Nt w0 W' c T Z s p B P v xs/\∀b o,W.heap[b]? = some o->Nt.off w0 W c T Z s B v b->W'.heap[b]? = some o/\Nt.off w0 W' c T Z s B v b:=h.dn (h.R.m.dn hf) h.nr h.wf
theorem Nt.others(h:Nt w0 W c T Z s p B P v xs){S:List Nat}(hf:Fr S W W')(hS:∀b∈S,w0.heap.size<=b/\Nt.off w0 W c T Z s B v b)(hp:p∉S)(hP:P∉S):Nt w0 W' c T Z s p B P v xs/\∀b o,W.heap[b]? = some o->Nt.off w0 W c T Z s B v b->Nt.off w0 W' c T Z s B v b:=by
 have hS':∀b∈S,w0.heap.size<=b/\MaM.off w0 W c T Z s b:=fun b hb=>⟨(hS b hb).1,(hS b hb).2.1⟩;have ho:∀{b:Nat},MaM.off w0 W c T Z s b->MaM.off w0 W' c T Z s b:=fun hb=>h.R.m.otherO hf hS' hb;exact⟨⟨zjb h.R hf hS' hp,h.nr,h.wf,hf.keep h.cB (fun hm=>(hS B hm).2.2.1 rfl),hf.keep h.cP hP,zaj h.own hf (fun k hk hm=>(hS k hm).2.2.2 hk),⟨h.oB.1,ho h.oB.2⟩,⟨h.oP.1,ho h.oP.2⟩,fun b hb=>⟨(h.oV b hb).1,ho (h.oV b hb).2⟩⟩,fun b o hb hx=>⟨ho hx.1,hx.2⟩⟩
theorem Nt.app(h:Nt w0 W c T Z s p B P v xs){x:Int}{g cap:Nat}(hw:Ap.Went W v g W')(ho:W'.ownsRow 0 3 1 (.slice (some ⟨g,0,none⟩) (xs.length+1) cap) (xs.length+1) (tkC xs++[.int .i64 x])){W2:World}(hf2:Fr [B] W' W2)(hB:W2.heap[B]? = some (.cells #[.slice (some ⟨g,0,none⟩) (xs.length+1) cap] 25 (0,0))) :
  Nt w0 W2 c T Z s p B P (.slice (some ⟨g,0,none⟩) (xs.length+1) cap) (xs++[x])/\∀b o,W.heap[b]? = some o->Nt.off w0 W c T Z s B v b->W2.heap[b]? = some o/\Nt.off w0 W2 c T Z s B (.slice (some ⟨g,0,none⟩) (xs.length+1) cap) b:=by
 have hS:∀b∈v.ownBlock.toList,w0.heap.size<=b/\MaM.off w0 W c T Z s b:=fun b hb=>h.oV b (Option.mem_toList.1 hb);have hf:=hw.fr;have tB:∀k,v.ownBlock=some k->k≠B/\k≠P/\k≠p:=fun k hk=>by
  obtain⟨cs,e⟩:=Ap.own_type h.own k hk;exact⟨Ap.ne_types e h.cB (by decide),Ap.ne_types e h.cP (by decide),Ap.ne_types e h.R.box (by decide)⟩
 have hBP:B≠P:=Ap.ne_types h.cB h.cP (by decide);have hBp:B≠p:=Ap.ne_types h.cB h.R.box (by decide);have h1:RP w0 W' p c T Z s:=zjb h.R hf hS (fun hp=>(tB p (Option.mem_toList.1 hp)).2.2 rfl);have o1:∀{b:Nat},MaM.off w0 W c T Z s b->MaM.off w0 W' c T Z s b:=fun hb=>h.R.m.otherO hf hS hb;have hS2:∀b∈[B],w0.heap.size<=b/\MaM.off w0 W' c T Z s b:=fun b hb=>by rw[List.mem_singleton.1 hb];exact⟨h.oB.1,o1 h.oB.2⟩
 have h2:RP w0 W2 p c T Z s:=zjb h1 hf2 hS2 (by simp;exact fun e=>hBp e.symm);have o2:∀{b:Nat},MaM.off w0 W c T Z s b->MaM.off w0 W2 c T Z s b:=fun hb=>h1.m.otherO hf2 hS2 (o1 hb);have cP1:=hf.keep h.cP (fun hm=>(tB P (Option.mem_toList.1 hm)).2.1 rfl);have cP2:=hf2.keep cP1 (by simp;exact fun e=>hBP e.symm);have hgB:g≠B:=by
  rcases hw with⟨e,_⟩|⟨e,_⟩
  .exact (tB g e).1
  have:=lt_of_block h.cB;omega
 refine⟨⟨h2,h.nr,h.wf,hB,cP2,?_,⟨h.oB.1,o2 h.oB.2⟩,⟨h.oP.1,o2 h.oP.2⟩,fun b hb=> ?_⟩,fun b o hb hx=>⟨?_,o2 hx.1,hx.2.1,fun e=> ?_⟩⟩
 .have e:tkC (xs++[x])=tkC xs++[.int .i64 x]:=by simp[tkC]
  rw[List.length_append,e];refine zaj ho hf2 fun k hk hm=> ?_;have:g=k:=by simpa[Value.ownBlock]using hk
  rw[List.mem_singleton]at hm
  exact hgB (by omega)
 .have e:g=b:=by simpa[Value.ownBlock]using hb
  subst e;rcases hw with⟨e1,_⟩|⟨e1,_⟩
  .exact⟨(h.oV g e1).1,o2 (h.oV g e1).2⟩
  exact⟨by have:=h.R.m.fr.size;omega,o2 (h.R.m.offNew e1)⟩
 .exact hf2.keep (hf.keep hb (fun hm=>hx.2.2 (Option.mem_toList.1 hm))) (by simp;exact hx.2.1)
 have e2:g=b:=by simpa[Value.ownBlock]using e
 subst e2;rcases hw with⟨e1,_⟩|⟨e1,_⟩
 .exact hx.2.2 e1
 have:=lt_of_block hb;omega
end
theorem zads:prog.underlying 25=some (.slice 3):=by kernel_rfl
theorem zaja:(prog.info? 3).map (fun i=>(i.zero,i.size,i.bytes))=some (some (.int .i64 0),1,8):=by kernel_rfl
theorem zob:∃i,prog.info? 3=some i/\i.zero=some (.int .i64 0)/\i.size=1/\i.bytes=8:=by
 have h:=zaja;cases hi:prog.info? 3 with
 |none=>rw[hi]at h;cases h
 |some i=>
  rw[hi]at h
  simp only[Option.map_some,Option.some.injEq,Prod.mk.injEq]at h;exact⟨i,rfl,h.1,h.2.1,h.2.2⟩
section
variable{w0 w:World}{c:Cf}{T:List Tx}{Z:Lay}{s:Ms}{p B P:Nat}{v:Value}{xs:List Int}
def AskP(w0:World)(c:Cf)(T:List Tx)(w:World)(Z:Lay)(s:Ms)(p B P:Nat)(v:Value)(xs:List Int)(q:Nat)(e:Ending)(w':World):Prop:=
 ∃k n sh ct s' Z' v',e=.returned (.tuple #[evV (q:Int) k n sh ct s'.ma,.int .i64 0])/\Nt w0 w' c T Z' s' p B P v' (xs++[(q:Int)])/\StepR c T s q k n sh ct s'/\∀b o,w.heap[b]? = some o->Nt.off w0 w c T Z s B v b->w'.heap[b]? = some o/\Nt.off w0 w' c T Z' s' B v' b
theorem zagh(h:Nt w0 w c T Z s p B P v xs)(hk:s.k<16000000)(hx:xs.length<17592186044416){q:Nat}(hq:q<c.l.toNat+c.s.toNat+2)(hne:canT c s q≠0):Calls prog 104 #[.int .i64 (q:Int),.pointer (some ⟨P,0,none⟩),.pointer (some ⟨B,0,none⟩)] w fun e w'=>AskP w0 c T w Z s p B P v xs q e w':=by
 obtain⟨w1,HW1⟩:∃w1,Hid (w.alloc (.cells #[.int .i64 0,.int .u8 0,.int .i64 0,.int .i64 0,.int .i64 0,.int .i64 0] 62)=w1):=⟨_,rfl⟩;obtain⟨A,HA⟩:∃A,Hid (w.heap.size=A):=⟨_,rfl⟩;have hF1:Fr [] w w1:=by rw[<-HW1.out];exact Fr.alloc _ _ _
 have hA1:w1.heap[A]? = some (.cells #[.int .i64 0,.int .u8 0,.int .i64 0,.int .i64 0,.int .i64 0,.int .i64 0] 62 (0,0)):=by rw[<-HW1.out,<-HA.out];exact heap_alloc_new _ _
 obtain⟨h1,k1⟩:=h.quiet hF1;have hoA:w0.heap.size<=A/\Nt.off w0 w1 c T Z s B v A:=by
  refine⟨by rw[<-HA.out];exact h.R.m.fr.size,h.R.m.otherO hF1 (by simp) (h.R.m.offNew (by rw[HA.out];exact Nat.le_refl _)),?_,fun e=> ?_⟩
  .have:=lt_of_block h.cB;rw[HA.out]at this;omega
  have:=h.vlt A e;rw[HA.out]at this;omega
 have HS:Hid (Calls ..):=zzh h1.R h1.nr h1.wf hk hq hne;have c0:w1.cell? ⟨P,0,none⟩=some (.pointer (some ⟨p,0,none⟩)):=by rw[crw h1.cP];rfl
 obtain⟨iI,hiI,hzI,hsI,hbI⟩:=zob;have HN:Hid (∀(s':Ms)(Z':Lay)(w2:World),Dn w0 c T w1 Z s w2 Z' s'->Z'.nr=s'.d->Wf c T s'->Nt w0 w2 c T Z' s' p B P v xs/\w2.heap[A]? = some (.cells #[.int .i64 0,.int .u8 0,.int .i64 0,.int .i64 0,.int .i64 0,.int .i64 0] 62 (0,0))/\(w0.heap.size<=A/\Nt.off w0 w2 c T Z' s' B v A)/\∀b o,w.heap[b]? = some o->Nt.off w0 w c T Z s B v b->(w2.heap[b]? = some o/\Nt.off w0 w2 c T Z' s' B v b)):=fun s' Z' w2 hD hz hw=>by
  obtain⟨h2,k2⟩:=h1.dn hD hz hw;exact⟨h2,(k2 A _ hA1 hoA.2).1,⟨hoA.1,(k2 A _ hA1 hoA.2).2⟩,fun b o hb ho=>by obtain⟨a1,a2⟩:=k1 b o hb ho;exact k2 b o a1 a2⟩
 have hAB:A≠B/\A≠P:=⟨Ap.ne_types hA1 h1.cB (by decide),Ap.ne_types hA1 h1.cP (by decide)⟩;have HAw:Hid (w.heap.size<=A/\A≠B):=⟨by rw[HA.out];exact Nat.le_refl _,hAB.1⟩;clear h hF1 hA1 k1 h1 hoA hk hq hne hAB;go_enter func104,ntmps104;go_upto_region 1 with fail
 rw[HW1.out,HA.out];clear HW1 HA;go_wp2_with fail
 refine Calls.mono HS.out ?_;rintro e w2⟨k,n,sh,ct,s',Z',rfl,hD,hz,hw,hr⟩;obtain⟨h2,hA2,hO2,k2⟩:=HN.out s' Z' w2 hD hz hw;have HR:Hid (StepR c T s q k n sh ct s'):=hr;obtain⟨m,hm⟩:∃m,m=s'.ma:=⟨_,rfl⟩;rw[<-hm];have HM:Hid (m=s'.ma):=hm;clear HS HN c0 hD hz hw hr hm;obtain⟨w3,HW3⟩:∃w3,Hid (w2.alloc (.cells #[.int .i64 (q:Int),.int .u8 k,.int .i64 n,.int .i64 sh,.int .i64 ct,.int .i64 m] 62)=w3):=⟨_,rfl⟩;obtain⟨X,HX⟩:∃X,Hid (w2.heap.size=X):=⟨_,rfl⟩;have hF3:Fr [] w2 w3:=by rw[<-HW3.out];exact Fr.alloc _ _ _
 have hX3:w3.heap[X]? = some (.cells #[.int .i64 (q:Int),.int .u8 k,.int .i64 n,.int .i64 sh,.int .i64 ct,.int .i64 m] 62 (0,0)):=by rw[<-HW3.out,<-HX.out];exact heap_alloc_new _ _
 obtain⟨h3,k3⟩:=h2.quiet hF3;have hA3:=hF3.keep hA2 (by simp);have hXA:w.heap.size<=X:=by have:=lt_of_block hA2;rw[HX.out]at this;have:=HAw.out.1;omega
 obtain⟨w4,HW4⟩:∃w4,Hid (w3.alloc (.cells #[.int .i64 (q:Int)] 3)=w4):=⟨_,rfl⟩;obtain⟨Y,HY⟩:∃Y,Hid (w3.heap.size=Y):=⟨_,rfl⟩;have hF4:Fr [] w3 w4:=by rw[<-HW4.out];exact Fr.alloc _ _ _
 have hY4:w4.heap[Y]? = some (.cells #[.int .i64 (q:Int)] 3 (0,0)):=by rw[<-HW4.out,<-HY.out];exact heap_alloc_new _ _
 obtain⟨h4,k4⟩:=h3.quiet hF4;have hA4:=hF4.keep hA3 (by simp);have hX4:=hF4.keep hX3 (by simp);have hoA:Nt.off w0 w4 c T Z' s' B v A:=(k4 A _ hA3 (k3 A _ hA2 hO2.2).2).2;have hoX:Nt.off w0 w4 c T Z' s' B v X:=by
  have a1:Nt.off w0 w3 c T Z' s' B v X:=by
   refine⟨h2.R.m.otherO hF3 (by simp) (h2.R.m.offNew (by rw[HX.out];exact Nat.le_refl _)),?_,fun e=> ?_⟩
   .have:=lt_of_block h2.cB;rw[HX.out]at this;omega
   have:=h2.vlt X e;rw[HX.out]at this;omega
  exact (k4 X _ hX3 a1).2
 obtain⟨ao,cap,hv⟩:=Ap.own_slice h4.own;subst hv;have b3:w3.cell? ⟨B,0,none⟩=some (.slice ao xs.length cap):=by rw[crw h3.cB];rfl
 have HN4:Hid (∀(g cap':Nat)(w5:World),w5.ownsRow 0 3 1 (.slice (some ⟨g,0,none⟩) (xs.length+1) cap') (xs.length+1) (tkC xs++[.int .i64 (q:Int)])->Ap.Went w4 (.slice ao xs.length cap) g w5->Fr (Value.slice ao xs.length cap).ownBlock.toList w4 w5/\w5.heap[B]? = some (.cells #[.slice ao xs.length cap] 25 (0,0))/\∀w6,Fr [B] w5 w6->w6.heap[B]? = some (.cells #[.slice (some ⟨g,0,none⟩) (xs.length+1) cap'] 25 (0,0)) ->
   w6.heap[X]? = some (.cells #[.int .i64 (q:Int),.int .u8 k,.int .i64 n,.int .i64 sh,.int .i64 ct,.int .i64 m] 62 (0,0))/\w6.heap[A]? = some (.cells #[.int .i64 0,.int .u8 0,.int .i64 0,.int .i64 0,.int .i64 0,.int .i64 0] 62 (0,0))/\∀w7,Fr [A] w6 w7->Nt w0 w7 c T Z' s' p B P (.slice (some ⟨g,0,none⟩) (xs.length+1) cap') (xs++[(q:Int)])/\∀b o,w.heap[b]? = some o->Nt.off w0 w c T Z s B (.slice ao xs.length cap) b->w7.heap[b]? = some o/\Nt.off w0 w7 c T Z' s' B (.slice (some ⟨g,0,none⟩) (xs.length+1) cap') b):=fun g cap' w5 ho hw=>by
  refine⟨hw.fr,hw.fr.keep h4.cB (fun hm=> ?_),fun w6 hf hB=> ?_⟩
  .obtain⟨cs,e⟩:=Ap.own_type h4.own B (Option.mem_toList.1 hm);exact Ap.ne_types e h4.cB (by decide) rfl
  obtain⟨h6,k6⟩:=h4.app hw ho hf hB;have hA6:=(k6 A _ hA4 hoA).1;refine⟨(k6 X _ hX4 hoX).1,hA6,fun w7 hf7=> ?_⟩;obtain⟨h7,k7⟩:=h6.others hf7 (fun b hb=>by rw[List.mem_singleton.1 hb];exact⟨hO2.1,(k6 A _ hA4 hoA).2⟩) (by simp;exact fun e=>Ap.ne_types hA6 h6.R.box (by decide) e.symm) (by simp;exact fun e=>Ap.ne_types hA6 h6.cP (by decide) e.symm);exact⟨h7,fun b o hb hx=>by
   obtain⟨a1,a2⟩:=k2 b o hb hx;obtain⟨a3,a4⟩:=k3 b o a1 a2;obtain⟨a5,a6⟩:=k4 b o a3 a4;obtain⟨a7,a8⟩:=k6 b o a5 a6;have:=lt_of_block hb;have:=HAw.out.1;exact⟨hf7.keep a7 (by simp;omega),k7 b o a7 a8⟩⟩
 have HOw:Hid (w4.ownsRow 0 3 1 (.slice ao xs.length cap) xs.length (tkC xs)):=h4.own;have HCy:Hid (∀j u,([.int .i64 (q:Int)]:List Value)[j]? = some u->w4.cell? ((⟨Y,0,none⟩:Addr).add j)=some u):=fun j u hu=>by
  rw[Addr.add_lit,Nat.zero_add,crw hY4,<-hu];simp
 clear hF3 hX3 h3 k3 hA3 hXA hF4 hY4 h4 k4 hA4 hX4 hoA hoX h2 hA2 k2 hO2;unfold evV;go_upto_region 3 with fail
 rw[HW3.out,HX.out];clear HW3 HX;go_upto_region 4 with (first
  |(at_builtin;rw[HW4.out,HY.out];clear HW4 HY;refine Ap.wpList_app _ rfl (.tmp 16) (.tmp 18) 25 rfl 3 iI (.int .i64 0) 1 8 zads hiI hzI hsI hbI rfl (by decide) (.slice ao xs.length cap) xs.length (tkC xs) (by rfl) HOw.out ⟨Y,0,none⟩ 1 [.int .i64 (q:Int)] (by rfl) rfl HCy.out (by simp[Value.oneCell']) (by omega) (by unfold maxLen;omega) ?_;intro g cap' w5 hO hW;obtain⟨hf5,hB5,HN5⟩:=HN4.out g cap' w5 hO hW;have HN6:Hid (∀w6,Fr [B] w5 w6->_):=HN5;clear HN5 hO hW hf5;have b5:w5.cell? ⟨B,0,none⟩=some (.slice ao xs.length cap):=(by rw[crw hB5];rfl);have z5:w5.frozen? ⟨B,0,none⟩=false:=(by simp[World.frozen?,hB5]))
  |fail)
 obtain⟨w6,HW6⟩:∃w6,Hid (w5.setCell ⟨B,0,none⟩ (.slice (some ⟨g,0,none⟩) (xs.length+1) cap')=w6):=⟨_,rfl⟩;have hf6:Fr [B] w5 w6:=by rw[<-HW6.out];exact Fr.set w5 _ _ (by simp)
 have hB6:w6.heap[B]? = some (.cells #[.slice (some ⟨g,0,none⟩) (xs.length+1) cap'] 25 (0,0)):=by rw[<-HW6.out,Ap.row_setCell _ hB5];rfl
 obtain⟨hX6,hA6,HN7⟩:=HN6.out w6 hf6 hB6;have HN8:Hid (∀w7,Fr [A] w6 w7->_):=HN7;have HX6:Hid (w6.heap[X]? = some (.cells #[.int .i64 (q:Int),.int .u8 k,.int .i64 n,.int .i64 sh,.int .i64 ct,.int .i64 m] 62 (0,0))):=hX6;have x0:w6.cell? ⟨X,0,none⟩=some (.int .i64 (q:Int)):=by rw[crw hX6];rfl
 have x1:w6.cell? ⟨X,1,none⟩=some (.int .u8 k):=by rw[crw hX6];rfl
 have x2:w6.cell? ⟨X,2,none⟩=some (.int .i64 n):=by rw[crw hX6];rfl
 have x3:w6.cell? ⟨X,3,none⟩=some (.int .i64 sh):=by rw[crw hX6];rfl
 have x4:w6.cell? ⟨X,4,none⟩=some (.int .i64 ct):=by rw[crw hX6];rfl
 have x5:w6.cell? ⟨X,5,none⟩=some (.int .i64 m):=by rw[crw hX6];rfl
 rw[HW6.out];clear HW6 hf6 hB6 HN6 HN7 HN4 hB5 b5 z5 HOw HCy hX6 b3;go_wp2_with (first
  |(refine zak rfl _ _ rfl A (q:Int) k n sh ct m rfl rfl 0 0 0 0 0 0 hA6 ?_;intro w7 hw7 hf7;have HF7:Hid _:=HN8.out w7 hf7;clear hf7)
  |fail)
 refine bodyPost_ret (zja rfl _ _ _ A _ rfl (zcs hw7.out)) rfl ?_;obtain⟨h7,k7⟩:=HF7.out;exact⟨k,n,sh,ct,s',Z',_,by rw[HM.out];rfl,h7,HR.out,k7⟩
end
section
variable{w0 w:World}{g lb L:Nat}{ts:List Tm}{v:Value}{qs:List Nat}
theorem zrn(h:F.Src w0 w g lb L ts v qs):Calls prog 123 #[.pointer (some ⟨g,0,none⟩)] w fun e w'=>e=.returned (.bool true)/\Fr [] w w':=by
 have HG:Hid (Calls ..):=F.get_no h 0 (Or.inl (by omega)) (by omega);clear h;go_enter func123,ntmps123;go_wp2_with fail
 refine Calls.mono HG.out ?_;rintro e w1⟨rfl,hf⟩;have HF:Hid (Fr [] w w1):=hf;clear hf;go_wp2;go_ret;exact⟨rfl,HF.out.then (Fr.alloc _ _ _)⟩
end
end
namespace Ap
open Go.ChangeShapes Go.WideShapes Go.ChangeAt Go.RowKit Go.Lib Go.Maps Go.Proofs.Tryz
def NewR(w0:World)(c:Cf)(T:List Tx)(e:Ending)(w':World):Prop:=∃(p:Nat)(Z:Lay),e=.returned (.tuple #[.pointer (some ⟨p,0,none⟩),.int .i64 0])/\RP w0 w' p c T Z ms0/\Z.nr=0
section
variable{w0 w:World}{l s x q:Int}{g lb L db:Nat}{ts:List Tm}{v:Value}{C:Int}
theorem rnew_ok(h:F.Src w0 w g lb L ts v [])(hok:okL 1 (txs ts))(hd:Dz.D0 w db C)(hc:Cf.may ⟨l,s,x,q⟩)(h0:Fr [] w0 w) :
  Calls prog 103 #[.agg #[.int .i64 l,.int .i64 s,.int .i64 x,.int .i64 q],.pointer (some ⟨g,0,none⟩),.pointer (some ⟨db,0,none⟩)] w fun e w'=>NewR w0 ⟨l,s,x,q⟩ (txs ts) e w':=by
 obtain⟨w1,HW1⟩:∃w1,Hid (w.alloc (.cells #[.int .i64 l,.int .i64 s,.int .i64 x,.int .i64 q] 23)=w1):=⟨_,rfl⟩;obtain⟨A,HA⟩:∃A,Hid (w.heap.size=A):=⟨_,rfl⟩;have hF1:Fr [] w w1:=by rw[<-HW1.out];exact Fr.alloc [] w _
 have hC1:CfM w1 A l s x q:=by rw[<-HW1.out,<-HA.out];exact CfM.new _ _ _ _ _ _
 have HC1:Hid (∀W,Fr [] w1 W->CfM W A l s x q):=fun W hf=>hC1.keep hf;have HS1:Hid (∀W,Fr [] w1 W->F.Src w0 W g lb L ts v []/\Dz.D0 W db C/\Fr [] w0 W):=fun W hf=>⟨h.keep (hF1.then hf),hd.keep (hF1.then hf) (by simp),h0.then (hF1.then hf)⟩;have HI:Hid (Calls ..):=zrn (HS1.out _ (Fr.refl _ _)).1;have HOK:Hid (okL 1 (txs ts)):=hok;have HM:Hid (Cf.may ⟨l,s,x,q⟩):=hc;clear h hok hd hc h0 hF1 hC1;go_enter func103,ntmps103;go_upto_region 1 with fail
 rw[HW1.out,HA.out];clear HW1 HA;go_wp2_with fail
 refine Calls.mono HI.out ?_;rintro e w2⟨rfl,hf2⟩;have HF2:Hid (Fr [] w1 w2):=hf2;have HID:Hid (Calls ..):=Dz.isDisk_any (HS1.out _ hf2).2.1;clear hf2 HI;go_wp2_with fail
 refine Calls.mono HID.out ?_;rintro e w3⟨rfl,rfl⟩;obtain⟨_,f0,f1,f2,f3⟩:=HC1.out _ HF2.out;have hCk:=zdh l s x q w2;rw[show Cf.err ⟨l,s,x,q⟩=0 from if_pos HM.out]at hCk
 have HCk:Hid (Calls ..):=hCk;clear hCk HID;go_wp2_with fail
 refine Calls.mono HCk.out ?_;rintro e w3⟨rfl,hf3⟩;have HF3:Hid (Fr [] w1 w3):=HF2.out.then hf3;have HNw:Hid (Calls ..):=Dz.newest_nil (HS1.out _ HF3.out).2.1;clear HCk hf3 HF2 f0 f1 f2 f3;go_wp2_with fail
 refine Calls.mono HNw.out ?_;rintro e w4⟨rfl,hf4⟩;obtain⟨w5,HW5⟩:∃w5,Hid (w4.alloc (.cells #[.int .i64 0,.slice none 0 0,.slice none 0 0] 218)=w5):=⟨_,rfl⟩;obtain⟨Q,HQ⟩:∃Q,Hid (w4.heap.size=Q):=⟨_,rfl⟩;have hf5:Fr [] w4 w5:=by rw[<-HW5.out];exact Fr.alloc _ _ _
 have HSB:Dz.SB w5 Q:=⟨by rw[<-HW5.out,<-HQ.out];exact heap_alloc_new _ _⟩;have a0:=HSB.c0;have a1:=HSB.c1;have a2:=HSB.c2;have HF5:Hid (Fr [] w1 w5):=(HF3.out.then hf4).then hf5;obtain⟨_,f0,f1,f2,f3⟩:=HC1.out _ HF5.out;have HNM:Hid (Calls ..):=zmt (dk:=some ⟨db,0,none⟩) (HS1.out _ HF5.out).1 HOK.out HM.out (HS1.out _ HF5.out).2.2;clear HNw hf4 hf5 HSB HF3;go_upto_region 7 with fail
 rw[HW5.out,HQ.out];clear HW5 HQ;go_wp2_with fail
 refine Calls.mono HNM.out ?_;rintro e w6⟨Z,rfl,hM,hnr⟩;have HR:Hid (RP w0 (w6.alloc (.cells #[.pointer (some ⟨Z.z.mb,0,none⟩)] 154)) w6.heap.size ⟨l,s,x,q⟩ (txs ts) Z ms0/\Z.nr=0):=
  ⟨⟨hM.quiet (Fr.alloc _ _ _),heap_alloc_new _ _,hM.otherO (S:=[]) (Fr.alloc [] _ _) (fun b hb=>by cases hb) (hM.offNew (Nat.le_refl _))⟩,hnr⟩
 clear hM hnr HNM;go_wp2;go_ret2;exact⟨_,Z,rfl,HR.out.1,HR.out.2⟩
end
end Ap
section
open Go.ChangeShapes Go.WideShapes Go.ChangeAt Go.RowKit Go.Lib Go.Proofs.Tryz
section
variable{w0 w:World}{c:Cf}{T:List Tx}{Z:Lay}{s:Ms}{p B P:Nat}{v:Value}{xs:List Int}
theorem zacp(h:Nt w0 w c T Z s p B P v xs):Calls prog 105 #[.pointer (some ⟨B,0,none⟩)] w fun e w'=>e=.returned v/\Fr [] w w':=by
 obtain⟨ao,cap,hv⟩:=Ap.own_slice h.own;subst hv;have b3:w.cell? ⟨B,0,none⟩=some (.slice ao xs.length cap):=by rw[crw h.cB];rfl
 clear h;go_enter func105,ntmps105;go_wp2;go_ret;exact⟨rfl,Fr.refl _ _⟩
theorem zwf(h:RP w0 w p c T Z s)(hz:Z.nr=s.d)(hw:Wf c T s):Calls prog 59 #[.pointer (some ⟨p,0,none⟩)] w fun e w'=>∃P B,e=.returned (.tuple #[.func (Fn.func 104) #[] #[.pointer (some ⟨P,0,none⟩),.pointer (some ⟨B,0,none⟩)],.func (Fn.func 105) #[] #[.pointer (some ⟨B,0,none⟩)]])/\Fr [] w w'/\Nt w0 w' c T Z s p B P (.slice none 0 0) []:=by
 have hmf:∀(fn:Fn)(first cap:Array Value)(w:World),(Instr.makeFunc fn first cap).run prog w=.ok (.func fn first cap) w:=fun _ _ _ _=>rfl;obtain⟨w2,HW2⟩:∃w2,Hid ((w.alloc (.cells #[.pointer (some ⟨p,0,none⟩)] 58)).alloc (.cells #[.slice none 0 0] 25)=w2):=⟨_,rfl⟩;have hF:Fr [] w w2:=by rw[<-HW2.out];exact (Fr.alloc [] w _).then (Fr.alloc [] _ _)
 have hP:w2.heap[w.heap.size]? = some (.cells #[.pointer (some ⟨p,0,none⟩)] 58 (0,0)):=by rw[<-HW2.out];exact (Below.heap_alloc _ _ _ (by simp)).trans (heap_alloc_new _ _)
 have hB:w2.heap[w.heap.size+1]? = some (.cells #[.slice none 0 0] 25 (0,0)):=by
  rw[<-HW2.out];have:=heap_alloc_new (w.alloc (.cells #[.pointer (some ⟨p,0,none⟩)] 58)) (.cells #[.slice none 0 0] 25);simpa using this
 have ho:∀b,w.heap.size<=b->w0.heap.size<=b/\MaM.off w0 w2 c T Z s b:=fun b hb=>⟨by have:=h.m.fr.size;omega,h.m.otherO hF (by simp) (h.m.offNew hb)⟩;have HN:Hid (Fr [] w w2/\Nt w0 w2 c T Z s p (w.heap.size+1) w.heap.size (.slice none 0 0) []):=⟨hF,⟨h.quiet hF,hz,hw,hB,hP,World.ownsRow_nil _ _ _ _,ho _ (by omega),ho _ (Nat.le_refl _),fun b hb=>by simp[Value.ownBlock]at hb⟩⟩;obtain⟨A,HA⟩:∃A,Hid (w.heap.size=A):=⟨_,rfl⟩;rw[HA.out]at HN
 clear h hz hw hF hP hB ho;go_enter func59,ntmps59;go_wp2;refine bodyPost_ret (results_tmp2 rfl _ _ _) rfl ?_;refine⟨A,A+1,?_,?_⟩
 .rw[<-HA.out];simp
 rw[HW2.out];exact HN.out
end
section
variable{w:World}{l s x q:Int}{ao:Option Addr}{L cap:Nat}{ts:List Tm}
theorem zagt(hT:TRs w ao ts)(hL:L=ts.length)(hok:okL 1 (txs ts))(hc:Cf.may ⟨l,s,x,q⟩) :
  Calls prog 58 #[.agg #[.int .i64 l,.int .i64 s,.int .i64 x,.int .i64 q],.slice ao L cap] w fun e w'=>∃(p:Nat)(Z:Lay)(w0:World),e=.returned (.pointer (some ⟨p,0,none⟩))/\Fr [] w w0/\RP w0 w' p ⟨l,s,x,q⟩ (txs ts) Z {ms0 with fd:=L}/\Z.nr=0:=by
 obtain⟨w1,HW1⟩:∃w1,Hid (w.alloc (.cells #[.int .i64 l,.int .i64 s,.int .i64 x,.int .i64 q] 23)=w1):=⟨_,rfl⟩;obtain⟨A,HA⟩:∃A,Hid (w.heap.size=A):=⟨_,rfl⟩;have hF1:Fr [] w w1:=by rw[<-HW1.out];exact Fr.alloc [] w _
 have hb1:w1.heap[A]? = some (.cells #[.int .i64 l,.int .i64 s,.int .i64 x,.int .i64 q] 23 (0,0)):=by rw[<-HW1.out,<-HA.out];exact heap_alloc_new _ _
 have HBx:Hid (∀W,Fr [] w1 W->W.cell? ⟨A,0,none⟩=some (.int .i64 l)/\W.cell? ⟨A,1,none⟩=some (.int .i64 s)/\W.cell? ⟨A,2,none⟩=some (.int .i64 x)/\W.cell? ⟨A,3,none⟩=some (.int .i64 q)):=fun W hf=>by
  have hr:=hf.keep hb1 (by simp);refine⟨?_,?_,?_,?_⟩<;>(rw[crw hr];rfl)
 have HLg:Hid (Calls ..):=F.new_ok ao L cap ts w1 (hT.keep hF1) hL hok;have HD:Hid (∀W,Calls prog 102 #[.int .i64 0] W _):=fun W=>Dz.dnew_ok 0 W (by omega) (by omega);have HF1:Hid (Fr [] w w1):=hF1;have HOK:Hid (okL 1 (txs ts)):=hok;have HM:Hid (Cf.may ⟨l,s,x,q⟩):=hc;have HLn:Hid (L=ts.length):=hL;clear hT hL hok hc hF1 hb1;go_enter func58,ntmps58;go_upto_region 1 with fail
 rw[HW1.out,HA.out];clear HW1 HA;go_wp2_with fail
 refine Calls.mono HLg.out ?_;rintro e w2⟨g,lb,ds,rfl,hS,hts,hf2⟩;have HF2:Hid (Fr [] w1 w2):=hf2;have HS:Hid (F.Src _ _ _ _ _ _ _ _):=hS;have HTs:Hid (txs ds=txs ts):=hts;have HD2:Hid (Calls ..):=HD.out w2;clear hS hts hf2 HLg HD;go_wp2_with fail
 refine Calls.mono HD2.out ?_;rintro e w3⟨rfl,hd,hf3⟩;obtain⟨db,hdb⟩:∃db,db=w2.heap.size:=⟨_,rfl⟩;rw[<-hdb]at hd ⊢
 have HF3:Hid (Fr [] w1 w3):=HF2.out.then hf3;obtain⟨f0,f1,f2,f3⟩:=HBx.out _ HF3.out;have HN:Hid (Calls ..):=Ap.rnew_ok (w0:=w1) (HS.out.keep hf3) (by rw[HTs.out];exact HOK.out) hd HM.out HF3.out;rw[HTs.out]at HN
 clear hd hf3 HD2 hdb HS HTs;go_wp2_with fail
 refine Calls.mono HN.out ?_;rintro e w4⟨p,Z,rfl,hR,hnr⟩;have HFd:Hid (Calls prog 87 #[.pointer (some ⟨p,0,none⟩),.int .i64 (L:Int)] w4 fun e w'=>(∃v,e=.returned v)/\∃Z',RP w1 w' p ⟨l,s,x,q⟩ (txs ts) Z' {ms0 with fd:=L}/\Z'.nr=0):=by
  refine Calls.mono (zzi hR (L:Int)) ?_;rintro e w'⟨he,hD⟩;have e1:zbj (txs ts) ms0.fd (L:Int)=L:=by
   unfold zbj;rw[zah,<-HLn.out,if_neg (by have:ms0.fd=0:=rfl;omega)];omega
  rw[e1]at hD
  exact⟨he,_,hR.dn hD,hnr⟩
 clear hR hnr HN f0 f1 f2 f3 HF2;go_wp2_with fail
 refine Calls.mono HFd.out ?_;rintro e w5⟨⟨_,rfl⟩,Z',hR,hz⟩;have HR:Hid _:=hR;have HZ:Hid _:=hz;clear hR hz HFd;go_wp2_with fail
 go_ret;exact⟨p,Z',w1,rfl,HF1.out,HR.out,HZ.out⟩
end
theorem zlv(c:Cf)(T:List Tx)(n:Nat):nu c T {ms0 with fd:=n}=rdS T n:=by
 unfold nu;show (rdS T n-rdS T 0)+(if false=true then 4+cst T ((0:Nat):Int) else 0)+(wtS T (fun _=>False) 0+liS T [])+sumW (fun _=>none) c.l.toNat+0=rdS T n;rw[zny _ _ (fun _ _=>rfl),if_neg (by simp)];simp[rdS,wtS,liS]
theorem zlw{c:Cf}{T:List Tx}(hc:c.may)(hok:okL 1 T):∀k,k<=T.length->rdS T k<=69*k
 |0,_=>by simp[rdS]
 |k+1,h=>by
  have h1:=zlw hc hok k (by omega);have h2:=((Wf.zero hc hok).txn (n:=((k+1:Nat):Int)) (by omega) (by omega)).2.2.1;have h3:=zlb (wsAt T ((k+1:Nat):Int));rw[rdS];unfold cst;omega
theorem StepR.sh0{c:Cf}{T:List Tx}{s s':Ms}{q:Nat}{k n sh ct:Int}(hc:c.may)(h:StepR c T s q k n sh ct s'):0<=sh/\sh<=1000:=by
 have h2:=hc.2.1;cases h with
 |read h1 hv hr hk hn h2 h3 e=>omega
 |disp h1 hv hr hk hn h2 h3 e=>omega
 |take i r h1 hi hn hl hk h2 h3 e=>omega
 |send i g y r h1 hi hn hl hq hk hnn h2 h3 e=>have:=zaix hc y;omega
 |done i h1 hi hn hk h2 h3 e=>omega
 |serve j e0 r i g M' h1 hj hq hi hf hn hP hk hnn h2 h3 e=>omega
 |gate r h1 hp hk h2 h3 e=>omega
theorem zaje{W:World}{N:Int}{v:Value}{B:List Nat}{tk:Bool}(h:UnF W N v B tk):∃uf ua,v=.func (Fn.func uf) #[] #[.pointer (some ⟨ua,0,none⟩)]/\(∀args w,(callFunc uf args).run prog w=.ok (.enter uf args) w)/\∀t k n sh ct m W',Fr [] W W'->Calls prog uf #[evV t k n sh ct m,.pointer (some ⟨ua,0,none⟩)] W' fun e w'=>(∃b:Bool,e=.returned (.bool b)/\(b=true↔Unt tk N k n m))/\Fr [] W' w':=by
 cases h with
 |mark a hv hB ha=>
  refine⟨_,a,hv,enters_of func61 (by kernel_rfl) rfl,fun t k n sh ct m W' hf=>(ztb t k n sh ct m (hf.keep ha (by simp))).mono ?_⟩;rintro e w'⟨rfl,hf2⟩;exact⟨⟨_,rfl,by simp[Unt]⟩,hf2⟩
 |take a hv hB ha=>
  refine⟨_,a,hv,enters_of func63 (by kernel_rfl) rfl,fun t k n sh ct m W' hf=>(zvz t k n sh ct m (hf.keep ha (by simp))).mono ?_⟩;rintro e w'⟨⟨b,rfl,hb⟩,hf2⟩;exact⟨⟨b,rfl,by simpa[Unt]using hb⟩,hf2⟩
theorem zmu{w:World}{ops:Array Oper}{rest:List Oper}{o:Oper}{a:Act}{Q:Exit->Act->World->Prop}(hgd:o.guard=none)(x y:Operand)(ho:o.op=.store 54 x y)(g fa fb:Nat)(ca cb:Array Value)(hx:a.eval x=.pointer (some ⟨g,0,none⟩))(hy:a.eval y=.agg #[.func (Fn.func fa) #[] ca,.func (Fn.func fb) #[] cb])(hg:w.heap[g]? = some (.cells #[.nilFunc,.nilFunc] 54 (0,0)))(h:∀w',Hid (w'.heap[g]? = some (.cells #[.func (Fn.func fa) #[] ca,.func (Fn.func fb) #[] cb] 54 (0,0)))->Fr [g] w w'->wpList prog ops Q rest (a.put o.dst undef) w'):wpList prog ops Q (o::rest) a w:=
 wpList_store_row hgd 54 x y ho g _ hx hy 54 _ hg (by kernel_rfl) rfl (by simp[Value.oneCell']) (h _ (setRow_heap w g _ _ _ _ hg) (Fr.setRow _ _ _))
def lenB(B:Nat)(W:World):Nat:=match W.cell? ⟨B,0,none⟩ with|some (.slice _ n _)=>n|_=>0
def DS(w0:World)(c:Cf)(T:List Tx)(R:Ms->Int->Ms->Prop)(s0:Ms)(p B P:Nat)(J:Ms->Prop)(W:World):Prop:=∃Z s v xs,Nt w0 W c T Z s p B P v xs/\Fw c T R s0 xs s/\J s
def evA(t k n sh ct m:Int):Array Value:=#[.int .i64 t,.int .u8 k,.int .i64 n,.int .i64 sh,.int .i64 ct,.int .i64 m]
def DI(w0:World)(c:Cf)(T:List Tx)(R:Ms->Int->Ms->Prop)(s0:Ms)(p B P G E:Nat)(nv uv:Value)(I:Ms->Int->Int->Int->Int->Prop)(t k n sh ct m:Int)(W:World):Prop:=
 (∃Z s v xs,Nt w0 W c T Z s p B P v xs/\Fw c T R s0 xs s/\I s k n sh ct/\m=s.ma/\(w0.heap.size<=G/\Nt.off w0 W c T Z s B v G)/\(w0.heap.size<=E/\Nt.off w0 W c T Z s B v E)) /\
 W.heap[G]? = some (.cells #[nv,uv] 54 (0,0))/\W.heap[E]? = some (.cells (evA t k n sh ct m) 62 (0,0))/\0<=sh/\sh<=1000
section
variable{w0 W W':World}{c:Cf}{T:List Tx}{R:Ms->Int->Ms->Prop}{s0:Ms}{p B P G E:Nat}{nv uv:Value}{I:Ms->Int->Int->Int->Int->Prop}{J:Ms->Prop}{t k n sh ct m:Int}
theorem DS.fr(h:DS w0 c T R s0 p B P J W):Fr [] w0 W:=by
 obtain⟨Z,s,v,xs,h1,h2,h3⟩:=h;exact h1.R.m.fr
theorem DI.fr(h:DI w0 c T R s0 p B P G E nv uv I t k n sh ct m W):Fr [] w0 W:=by
 obtain⟨⟨Z,s,v,xs,h1,_⟩,_⟩:=h;exact h1.R.m.fr
theorem DI.quiet(h:DI w0 c T R s0 p B P G E nv uv I t k n sh ct m W)(hf:Fr [] W W'):DI w0 c T R s0 p B P G E nv uv I t k n sh ct m W':=by
 obtain⟨⟨Z,s,v,xs,h1,h2,h3,h4,h5,h6⟩,h7,h8,h9⟩:=h;obtain⟨k1,k2⟩:=h1.quiet hf;exact⟨⟨Z,s,v,xs,k1,h2,h3,h4,⟨h5.1,(k2 G _ h7 h5.2).2⟩,⟨h6.1,(k2 E _ h8 h6.2).2⟩⟩,hf.keep h7 (by simp),hf.keep h8 (by simp),h9⟩
theorem DS.begin(h:DS w0 c T R s0 p B P (fun s=>I s 0 0 0 0/\m=s.ma) W)(hf:Fr [] W W')(hG:W.heap.size<=G)(hE:W.heap.size<=E)(h1:W'.heap[G]? = some (.cells #[nv,uv] 54 (0,0)))(h2:W'.heap[E]? = some (.cells (evA 0 0 0 0 0 m) 62 (0,0))):DI w0 c T R s0 p B P G E nv uv I 0 0 0 0 0 m W':=by
 obtain⟨Z,s,v,xs,a1,a2,a3⟩:=h;have ho:∀b,W.heap.size<=b->w0.heap.size<=b/\Nt.off w0 W' c T Z s B v b:=fun b hb=>⟨by have:=a1.R.m.fr.size;omega,a1.R.m.otherO hf (by simp) (a1.R.m.offNew hb),by have:=lt_of_block a1.cB;omega,fun e=>by have:=a1.vlt b e;omega⟩;exact⟨⟨Z,s,v,xs,(a1.quiet hf).1,a2,a3.1,a3.2,ho G hG,ho E hE⟩,h1,h2,by omega,by omega⟩
theorem DI.fin(h:DI w0 c T R s0 p B P G E nv uv I t k n sh ct m W)(hJ:∀s,I s k n sh ct->m=s.ma->J s):DS w0 c T R s0 p B P J W:=by
 obtain⟨⟨Z,s,v,xs,h1,h2,h3,h4,h5,h6⟩,h7⟩:=h;exact⟨Z,s,v,xs,h1,h2,hJ s h3 h4⟩
theorem DS.mark(h:DS w0 c T R s0 p B P J W):∃m:Int,DS w0 c T R s0 p B P (fun s=>J s/\m=s.ma) W/\∀W',Fr [] W W'->Calls prog 54 #[.pointer (some ⟨p,0,none⟩)] W' fun e w'=>e=.returned (.int .i64 m)/\Fr [] W' w':=by
 obtain⟨Z,s,v,xs,h1,h2,h3⟩:=h;exact⟨s.ma,⟨Z,s,v,xs,h1,h2,h3,rfl⟩,fun W' hf=>znx (h1.R.quiet hf)⟩
theorem Nt.lenB{Z:Lay}{s:Ms}{v:Value}{xs:List Int}(h:Nt w0 W c T Z s p B P v xs):lenB B W=xs.length:=by
 obtain⟨ao,cap,hv⟩:=Ap.own_slice h.own;subst hv;unfold Go.Proofs.YtojjdnjfaelnfaaGreatDoor.lenB;rw[crw h.cB];rfl
theorem DI.ask{z:Nat}{U:Int->Int->Int->Prop}(h:DI w0 c T R s0 p B P G E nv uv I t k n sh ct m W)(hg:Gl c T z R I U)(hU:¬U k n m)(hs:s0.k+nu c T s0<16000000):∃q:Nat,goB c ((z+1:Nat):Int) k sh ct=(q:Int)/\Calls prog 104 #[.int .i64 (q:Int),.pointer (some ⟨P,0,none⟩),.pointer (some ⟨B,0,none⟩)] W fun e w'=>∃k' n' sh' ct' m',e=.returned (.tuple #[evV (q:Int) k' n' sh' ct' m',.int .i64 0]) /\
  Hid (w'.heap[E]? = some (.cells (evA t k n sh ct m) 62 (0,0))/\∀w'',Fr [E] w' w''->w''.heap[E]? = some (.cells (evA (q:Int) k' n' sh' ct' m') 62 (0,0))->DI w0 c T R s0 p B P G E nv uv I (q:Int) k' n' sh' ct' m' w''/\nu c T s0-Go.Proofs.YtojjdnjfaelnfaaGreatDoor.lenB B w''<nu c T s0-Go.Proofs.YtojjdnjfaelnfaaGreatDoor.lenB B W):=by
 obtain⟨⟨Z,s,v,xs,h1,h2,h3,h4,h5,h6⟩,h7,h8,h9⟩:=h;obtain⟨q,e1,e2,e3,e4⟩:=hg.go s k n sh ct h3 (by rw[<-h4];exact hU);obtain⟨n1,n2,n3⟩:=h2.nu;refine⟨q,e1,(zagh h1 (by omega) (by omega) e2 e3).mono ?_⟩;rintro e w'⟨k',n',sh',ct',s',Z',v',rfl,hN,hr,hk⟩;obtain⟨i1,i2⟩:=e4 k' n' sh' ct' s' hN.wf hr;obtain⟨g1,g2⟩:=hk G _ h7 h5.2;obtain⟨f1,f2⟩:=hk E _ h8 h6.2;refine⟨k',n',sh',ct',s'.ma,rfl,f1,fun w'' hf hE=> ?_⟩;have hEp:E≠p:=Ap.ne_types f1 hN.R.box (by decide);have hEP:E≠P:=Ap.ne_types f1 hN.cP (by decide);have hEG:E≠G:=Ap.ne_types f1 g1 (by decide);obtain⟨a1,a2⟩:=hN.others hf (fun b hb=>by rw[List.mem_singleton.1 hb];exact⟨h6.1,f2⟩) (by simp;exact fun e=>hEp e.symm) (by simp;exact fun e=>hEP e.symm);have hFw:=h2.snoc h1.wf e2 e3 hr i2;obtain⟨m1,_,_⟩:=hFw.nu;refine⟨⟨⟨Z',s',v',_,a1,hFw,i1,rfl,⟨h5.1,a2 G _ g1 g2⟩,⟨h6.1,a2 E _ f1 f2⟩⟩,hf.keep g1 (by simp;exact fun e=>hEG e.symm),hE,hr.sh0 h1.wf.may⟩,?_⟩;rw[a1.lenB,h1.lenB];rw[List.length_append]at m1 ⊢
 simp only[List.length_cons,List.length_nil]at m1 ⊢;omega
end
def GlM(W:World)(c:Cf)(g:Nat)(z:Nat)(tk:Bool)(N:Int)(i:Nat):Prop:=∃nv uv na nl B cs,W.heap[g]? = some (.cells cs 54 (0,0))/\cs[i*2]? = some nv/\cs[i*2+1]? = some uv/\nv=.func (Fn.func 60) #[] #[.pointer (some ⟨nl,0,none⟩),.pointer (some ⟨na,0,none⟩)]/\W.heap[na]? = some (.cells #[.int .i64 c.l,.int .i64 c.s,.int .i64 c.w,.int .i64 c.q] 23 (0,0))/\W.heap[nl]? = some (.cells #[.int .i64 ((z+1:Nat):Int)] 3 (0,0))/\UnF W N uv B tk
def zadu(w:World)(c:Cf)(T:List Tx)(R:Ms->Int->Ms->Prop)(s0:Ms)(J:Ms->Prop)(e:Ending)(w':World):Prop:=Fr [] w w'/\∃v xs s',e=.returned v/\w'.ownsRow 0 3 1 v xs.length (tkC xs)/\Fw c T R s0 xs s'/\J s'/\∀b,v.ownBlock=some b->w.heap.size<=b
section
variable{w:World}{l s x q:Int}{ao:Option Addr}{L cap g m mc:Nat}{ts:List Tm}{R:Ms->Int->Ms->Prop}{I:Nat->Ms->Int->Int->Int->Int->Prop}{z:Nat->Nat}{tk:Nat->Bool}{N:Nat->Int}
theorem zoc(hT:TRs w ao ts)(hL:L=ts.length)(hok:okL 1 (txs ts))(hc:Cf.may ⟨l,s,x,q⟩)(hm:m<=100)(hmc:m<=mc)(hG:∀i,i<m->GlM w ⟨l,s,x,q⟩ g (z i) (tk i) (N i) i)(hGl:∀i,i<m->Gl ⟨l,s,x,q⟩ (txs ts) (z i) R (I i) (Unt (tk i) (N i)))(hlink:∀i,i<m->∀s k n sh ct,I i s k n sh ct->Unt (tk i) (N i) k n s.ma->I (i+1) s 0 0 0 0)(hI:I 0 {ms0 with fd:=L} 0 0 0 0) :
  Calls prog 11 #[.agg #[.int .i64 l,.int .i64 s,.int .i64 x,.int .i64 q],.slice ao L cap,.slice (some ⟨g,0,none⟩) m mc] w fun e w'=>zadu w ⟨l,s,x,q⟩ (txs ts) R {ms0 with fd:=L} (fun s'=>I m s' 0 0 0 0) e w':=by
 obtain⟨w1,HW1⟩:∃w1,Hid (w.alloc (.cells #[.int .i64 l,.int .i64 s,.int .i64 x,.int .i64 q] 23)=w1):=⟨_,rfl⟩;obtain⟨A,HA⟩:∃A,Hid (w.heap.size=A):=⟨_,rfl⟩;have hF1:Fr [] w w1:=by rw[<-HW1.out];exact Fr.alloc [] w _
 have hb1:w1.heap[A]? = some (.cells #[.int .i64 l,.int .i64 s,.int .i64 x,.int .i64 q] 23 (0,0)):=by rw[<-HW1.out,<-HA.out];exact heap_alloc_new _ _
 have f0:w1.cell? ⟨A,0,none⟩=some (.int .i64 l):=by rw[crw hb1];rfl
 have f1:w1.cell? ⟨A,1,none⟩=some (.int .i64 s):=by rw[crw hb1];rfl
 have f2:w1.cell? ⟨A,2,none⟩=some (.int .i64 x):=by rw[crw hb1];rfl
 have f3:w1.cell? ⟨A,3,none⟩=some (.int .i64 q):=by rw[crw hb1];rfl
 have HFd:Hid (Calls ..):=zagt (cap:=cap) (hT.keep hF1) hL hok hc;have HB0:Hid ({ms0 with fd:=L}.k+nu ⟨l,s,x,q⟩ (txs ts) {ms0 with fd:=L}<16000000):=by
  have h1:=zlw hc hok L (by rw[zah];omega);have h2:L<=65536:=by have:=zdb hok;rw[zah]at this;omega
  show 0+_<_;rw[zlv];omega
 have HF1:Hid (Fr [] w w1):=hF1;have HG:Hid (∀i,i<m->GlM w ⟨l,s,x,q⟩ g (z i) (tk i) (N i) i):=hG;have HGl:Hid (∀i,i<m->Gl ⟨l,s,x,q⟩ (txs ts) (z i) R (I i) (Unt (tk i) (N i))):=hGl;have HLk:Hid (∀i,i<m->∀s k n sh ct,I i s k n sh ct->Unt (tk i) (N i) k n s.ma->I (i+1) s 0 0 0 0):=hlink;have HI:Hid (I 0 {ms0 with fd:=L} 0 0 0 0):=hI;have HWf:Hid (Wf ⟨l,s,x,q⟩ (txs ts) {ms0 with fd:=L}):=by
  have h:=(Wf.zero hc hok).feed (L:Int);have e1:zbj (txs ts) ms0.fd (L:Int)=L:=by
   unfold zbj;rw[zah,<-hL,if_neg (by have:ms0.fd=0:=rfl;omega)];omega
  rw[e1]at h
  exact h
 have hmf:∀(fn:Fn)(first cap:Array Value)(w:World),(Instr.makeFunc fn first cap).run prog w=.ok (.func fn first cap) w:=fun _ _ _ _=>rfl;clear hT hL hok hc hF1 hb1 hG hGl hlink hI;go_enter func11,ntmps11;go_upto_region 1 with fail
 rw[HW1.out,HA.out];clear HW1 HA;go_wp2_with fail
 refine Calls.mono HFd.out ?_;rintro e w2⟨p,Z,w0,rfl,hf0,hR,hz⟩;have HF0:Hid (Fr [] w w0):=HF1.out.then hf0;have HNo:Hid (Calls ..):=zwf hR hz HWf.out;clear hf0 hR hz HFd HF1 HWf f0 f1 f2 f3;go_wp2_with fail
 refine Calls.mono HNo.out ?_;rintro e w3⟨P,B,rfl,_,hN⟩;have HS:Hid (DS w0 ⟨l,s,x,q⟩ (txs ts) R {ms0 with fd:=L} p B P (fun s=>I 0 s 0 0 0 0) w3):=⟨Z,_,_,_,hN,.nil _,HI.out⟩;clear hN HNo HI;go_wp2_with fail
 go_loopw [24] (fun ii wr=>∃i:Nat,ii=.int .i64 i/\i<=m/\Hid (DS w0 ⟨l,s,x,q⟩ (txs ts) R {ms0 with fd:=L} p B P (fun s=>I i s 0 0 0 0) wr)) (fun ii _=>m-(RowKit.intOf ii).toNat)
 case atStart=>exact⟨0,rfl,Nat.zero_le _,HS⟩
 obtain⟨i,rfl,him,HR⟩:=hrel;clear HS;by_cases hi:i<m
 .obtain⟨nv,uv,na,nl,BB,cs,g2,g0,g1,hnv,hna,hnl,hun⟩:=HG.out i hi;obtain⟨uf,ua,huv,EU,HU⟩:=zaje hun;have hwr:Fr [] w wr:=HF0.out.then HR.out.fr;have g0:wr.cell? ⟨g,i*2,none⟩=some nv:=by rw[crw (hwr.keep g2 (by simp))];exact g0
  have g1:wr.cell? ⟨g,i*2+1,none⟩=some uv:=by rw[crw (hwr.keep g2 (by simp))];exact g1
  obtain⟨G,HGs⟩:∃G,Hid (wr.heap.size=G):=⟨_,rfl⟩;have HU:Hid (∀t k n sh ct m W',Fr [] w W'->Calls prog uf _ W' _):=HU;have HBy:Hid (∀t k n sh ct m' W',0<=sh/\sh<=1000->Fr [] w W'->Calls prog 60 #[evV t k n sh ct m',.pointer (some ⟨nl,0,none⟩),.pointer (some ⟨na,0,none⟩)] W' fun e w'=>e=.returned (.int .i64 (goB ⟨l,s,x,q⟩ ((z i+1:Nat):Int) k sh ct))/\Fr [] W' w'):=fun t k n sh ct m' W' hs hf=>by
   have hmay:Cf.may ⟨l,s,x,q⟩:=by obtain⟨Z',s',v',xs',h1,_⟩:=HR.out;exact h1.wf.may
   exact zagg (c:=⟨l,s,x,q⟩) t k n sh ct m' hmay hs (hf.keep hna (by simp)) (hf.keep hnl (by simp))
  clear hna hnl hun g2 hwr;subst hnv huv;go_upto_region 6 with (first
   |(refine zmu rfl _ _ rfl wr.heap.size _ _ _ _ rfl rfl (heap_alloc_new _ _) ?_;intro w4 hw4 hf4;rw[HGs.out]at hw4 hf4 ⊢)
   |fail)
  have hf4':Fr [] wr w4:=(Fr.alloc [] wr _).on hf4 (by rw[<-HGs.out];simp);obtain⟨ma,HM,hmk⟩:=DS.mark HR.out;have HMk:Hid (Calls ..):=hmk w4 hf4';have HM:Hid (DS w0 ⟨l,s,x,q⟩ (txs ts) R {ms0 with fd:=L} p B P (fun s=>I i s 0 0 0 0/\ma=s.ma) wr):=HM;have HF4:Hid (Fr [] wr w4):=hf4';have HGr:Hid (w4.heap[G]? = some (.cells #[.func (Fn.func 60) #[] #[.pointer (some ⟨nl,0,none⟩),.pointer (some ⟨na,0,none⟩)],.func (Fn.func uf) #[] #[.pointer (some ⟨ua,0,none⟩)]] 54 (0,0))):=hw4.out;clear hf4 hf4' hmk hw4;go_wp2_with fail
  refine Calls.mono HMk.out ?_;rintro e w5⟨rfl,hf5⟩;have HF5:Hid (Fr [] wr w5/\Fr [] w4 w5):=⟨HF4.out.then hf5,hf5⟩;clear hf5 HMk HF4;go_upto_region 7 with fail
  obtain⟨w6,HW6⟩:∃w6,Hid (w5.alloc (.cells #[.int .i64 0,.int .u8 0,.int .i64 0,.int .i64 0,.int .i64 0,.int .i64 ma] 62)=w6):=⟨_,rfl⟩;obtain⟨E,HE⟩:∃E,Hid (w5.heap.size=E):=⟨_,rfl⟩;have HDI:Hid (DI w0 ⟨l,s,x,q⟩ (txs ts) R {ms0 with fd:=L} p B P G E (.func (Fn.func 60) #[] #[.pointer (some ⟨nl,0,none⟩),.pointer (some ⟨na,0,none⟩)]) (.func (Fn.func uf) #[] #[.pointer (some ⟨ua,0,none⟩)]) (I i) 0 0 0 0 0 ma w6):=by
   have hf6:Fr [] w5 w6:=by rw[<-HW6.out];exact Fr.alloc _ _ _
   refine HM.out.begin (HF5.out.1.then hf6) (by rw[HGs.out];exact Nat.le_refl _) (by rw[<-HE.out];exact HF5.out.1.size) ((HF5.out.2.then hf6).keep HGr.out (by simp)) ?_;rw[<-HW6.out,<-HE.out];exact heap_alloc_new _ _
  rw[HW6.out,HE.out];clear HW6 HE HGs HGr HM;go_loopw [13] (fun cc wx=>cc=.int .i64 0/\∃t k n sh ct ma,Hid (DI w0 ⟨l,s,x,q⟩ (txs ts) R {ms0 with fd:=L} p B P G E (.func (Fn.func 60) #[] #[.pointer (some ⟨nl,0,none⟩),.pointer (some ⟨na,0,none⟩)]) (.func (Fn.func uf) #[] #[.pointer (some ⟨ua,0,none⟩)]) (I i) t k n sh ct ma wx)) (fun _ wx=>nu ⟨l,s,x,q⟩ (txs ts) {ms0 with fd:=L}-lenB B wx)
  case atStart=>exact⟨rfl,0,0,0,0,0,ma,HDI⟩
  obtain⟨rfl,t,k,n,sh,ct,ma,HD⟩:=hrel;clear HDI;have hG0:=HD.out.2.1;have hE0:=HD.out.2.2.1;have y0:wr.cell? ⟨G,0,none⟩=some (.func (Fn.func 60) #[] #[.pointer (some ⟨nl,0,none⟩),.pointer (some ⟨na,0,none⟩)]):=by rw[crw hG0];rfl
  have y1:wr.cell? ⟨G,1,none⟩=some (.func (Fn.func uf) #[] #[.pointer (some ⟨ua,0,none⟩)]):=by rw[crw hG0];rfl
  have e0:wr.cell? ⟨E,0,none⟩=some (.int .i64 t):=by rw[crw hE0];rfl
  have e1:wr.cell? ⟨E,1,none⟩=some (.int .u8 k):=by rw[crw hE0];rfl
  have e2:wr.cell? ⟨E,2,none⟩=some (.int .i64 n):=by rw[crw hE0];rfl
  have e3:wr.cell? ⟨E,3,none⟩=some (.int .i64 sh):=by rw[crw hE0];rfl
  have e4:wr.cell? ⟨E,4,none⟩=some (.int .i64 ct):=by rw[crw hE0];rfl
  have e5:wr.cell? ⟨E,5,none⟩=some (.int .i64 ma):=by rw[crw hE0];rfl
  have HF:Hid (Fr [] w wr):=HF0.out.then HD.out.fr;have HUn:Hid (Calls ..):=HU.out t k n sh ct ma wr HF.out;clear hG0 hE0;unfold evV at HUn;go_wp2_with (simp[go_sem,EU])
  refine Calls.mono HUn.out ?_;rintro e w8⟨⟨b,rfl,hb⟩,hf8⟩;have HF8:Hid (Fr [] w w8):=HF.out.then hf8;have HD8:Hid (DI w0 _ _ _ _ _ _ _ _ _ _ _ _ _ _ _ _ _ _ _):=HD.out.quiet hf8;have HLb:Hid (lenB B w8=lenB B wr):=by
   obtain⟨⟨Z1,s1,v1,xs1,h1,_⟩,_⟩:=HD.out;show lenB B w8=lenB B wr;rw[h1.lenB,(h1.quiet hf8).1.lenB]
  have HB:Hid (b=true↔Unt (tk i) (N i) k n ma):=hb;clear hf8 hb HUn HF HD y0 y1 e0 e1 e2 e3 e4 e5;cases b with
  |true=>
   have HS':Hid (DS w0 ⟨l,s,x,q⟩ (txs ts) R {ms0 with fd:=L} p B P (fun s=>I (i+1) s 0 0 0 0) w8):=HD8.out.fin fun s1 h1 h2=>HLk.out i hi s1 k n sh ct h1 (by rw[<-h2];exact HB.out.1 rfl);clear HB HD8 HLb;go_wp2_with fail
   go_roundw;case rel=>exact⟨i+1,by simp,by omega,HS'⟩
   case measure=>first|omega|(simp[RowKit.intOf];omega)
  |false=>
   have hG0:=HD8.out.2.1;have hE0:=HD8.out.2.2.1;have y0:w8.cell? ⟨G,0,none⟩=some (.func (Fn.func 60) #[] #[.pointer (some ⟨nl,0,none⟩),.pointer (some ⟨na,0,none⟩)]):=by rw[crw hG0];rfl
   have e0:w8.cell? ⟨E,0,none⟩=some (.int .i64 t):=by rw[crw hE0];rfl
   have e1:w8.cell? ⟨E,1,none⟩=some (.int .u8 k):=by rw[crw hE0];rfl
   have e2:w8.cell? ⟨E,2,none⟩=some (.int .i64 n):=by rw[crw hE0];rfl
   have e3:w8.cell? ⟨E,3,none⟩=some (.int .i64 sh):=by rw[crw hE0];rfl
   have e4:w8.cell? ⟨E,4,none⟩=some (.int .i64 ct):=by rw[crw hE0];rfl
   have e5:w8.cell? ⟨E,5,none⟩=some (.int .i64 ma):=by rw[crw hE0];rfl
   have HBn:Hid (Calls ..):=HBy.out t k n sh ct ma w8 HD8.out.2.2.2 HF8.out;unfold evV at HBn;clear hG0 hE0;go_wp2_with fail
   refine Calls.mono HBn.out ?_;rintro e w9⟨rfl,hf9⟩;have HD9:DI w0 _ _ _ _ _ _ _ _ _ _ _ _ _ _ _ _ _ _ _:=HD8.out.quiet hf9;have HLb9:lenB B w9=lenB B wr:=by
    obtain⟨⟨Z1,s1,v1,xs1,h1,_⟩,_⟩:=HD8.out;rw[<-HLb.out,h1.lenB,(h1.quiet hf9).1.lenB]
   obtain⟨qq,hqq,hask⟩:=HD9.ask (HGl.out i hi) (fun h=>absurd (HB.out.2 h) (by simp)) HB0.out;rw[hqq];have HA:Hid (Calls ..):=hask;have HLm:Hid (lenB B w9=lenB B wr):=HLb9;clear HD8 HF8 HB HBn hf9 HD9 HLb HLb9 hqq hask y0 e0 e1 e2 e3 e4 e5;go_wp2_with fail
   refine Calls.mono HA.out ?_;rintro e wa⟨k',n',sh',ct',m',rfl,hwa⟩;have hEa:=hwa.out.1;have HWa:Hid (∀w'',Fr [E] wa w''->_):=hwa.out.2;clear hwa HA;unfold evV;unfold evA at hEa;go_wp2_with (first
    |(refine zak rfl _ _ rfl E (qq:Int) k' n' sh' ct' m' rfl rfl t k n sh ct ma hEa ?_;intro wb hwb hfb;have HWb:Hid _:=HWa.out wb hfb hwb.out;clear hfb hwb)
    |fail)
   go_roundw;case rel=>exact⟨rfl,_,k',n',sh',ct',m',HWb.out.1⟩
   case measure=>rw[<-HLm.out];exact HWb.out.2
 have hmi:i=m:=by omega
 subst hmi;obtain⟨Z1,s1,v1,xs1,h1,h2,h3⟩:=HR.out;have HT:Hid (Calls ..):=zacp h1;have HE:Hid (∀w',Fr [] wr w'->zadu w ⟨l,s,x,q⟩ (txs ts) R {ms0 with fd:=L} (fun s'=>I i s' 0 0 0 0) (.returned v1) w'):=fun w' hf=>⟨(HF0.out.then h1.R.m.fr).then hf,v1,xs1,s1,rfl,(h1.quiet hf).1.own,h2,h3,fun b hb=>by have:=(h1.oV b hb).1;have:=HF0.out.size;omega⟩;clear h1 h2 h3 HR;go_wp2_with fail
 refine Calls.mono HT.out ?_;rintro e w8⟨rfl,hf8⟩;have HE8:Hid _:=HE.out w8 hf8;clear HE hf8 HT;go_wp2_with fail
 go_ret;exact HE8.out
end
end
end Go.Proofs.YtojjdnjfaelnfaaGreatDoor
