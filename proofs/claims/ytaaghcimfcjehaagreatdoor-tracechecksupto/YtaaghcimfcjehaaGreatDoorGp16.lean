/- Contracts and plain lemmas of this claim. -/
import Derived.Test.YtaaghcimfcjehaaGreatDoorGp13
set_option linter.unusedSimpArgs false
set_option linter.unusedVariables false
namespace Go.Proofs.YtaaghcimfcjehaaGreatDoor
open Go.ChangeShapes Go.WideShapes Go.ChangeAt Go.RowKit Go.Lib Go.Maps
section
variable {w w':World} {Z:Zs} {c:Cf} {s:Sy} {k:Nat}
set_option maxHeartbeats 4000000 in
set_option maxRecDepth 100000 in
theorem zrc (h:SyM w Z c s k) (j:Nat) (hj:j<c.s.toNat) (hk:k<1152921504606846976) (hc: ∀n,-(k:Int)<=s.F n/\s.F n<=k) (hq: ∀n∈s.R (18+j),i64 n) :
  Calls Tryz.prog 120 #[.pointer (some ⟨Z.sb,0,none⟩),.int .i64 (j:Int)] w (zav w Z c k (own s j)):=by
 have hs:=h.may.2.1
 have hlt:=h.lt
 have hF0:Fr [] w (w.alloc (.cells (evA 0 0 0 0 0 0) 62)):=Fr.alloc _ _ _
 have hb0:(w.alloc (.cells (evA 0 0 0 0 0 0) 62)).heap[w.heap.size]? = some (.cells (evA 0 0 0 0 0 0) 62 (0,0)):=heap_alloc_new _ _
 have h0:=h.quiet hF0
 have hl0:w.heap.size<(w.alloc (.cells (evA 0 0 0 0 0 0) 62)).heap.size:=by simp
 obtain⟨w0,HW0⟩: ∃w0,Hid (w.alloc (.cells (evA 0 0 0 0 0 0) 62)=w0):=⟨_,rfl⟩
 rw[HW0.out]at hF0 hb0 h0 hl0
 obtain⟨rb,HRB⟩: ∃rb,Hid (w.heap.size=rb):=⟨_,rfl⟩
 have hrb:w.heap.size<=rb:=by rw[HRB.out];exact Nat.le_refl _
 rw[HRB.out]at hb0 hl0
 have d12:w0.cell? ⟨Z.sb,12,none⟩=some (.slice (some ⟨Z.qq,0,none⟩) c.s.toNat c.s.toNat):=h0.cell rfl
 have HFin:Hid (∀W W' Z' s' k',Mv w0 Z W Z'->Fr [rb] W W'->SyM W Z' c s' k'->SyM W' Z' c s' k'/\Mv w Z W' Z'):=fun W W' Z' s' k' hM hf hS=>hM.fin hF0 hrb hl0 hlt hf hS
 have HBox:Hid (∀W Z',Mv w0 Z W Z'->W.heap[rb]? = some (.cells (evA 0 0 0 0 0 0) 62 (0,0))):=fun W Z' hM=>hM.box hrb hlt hb0
 have HW0':Hid (w.alloc (.cells #[.int .i64 0,.int .u8 0,.int .i64 0,.int .i64 0,.int .i64 0,.int .i64 0] 62)=w0):=HW0
 obtain⟨S,hS⟩: ∃S,S=c.s.toNat:=⟨_,rfl⟩
 cases hR:s.R (18+j) with
 | nil =>
  have HC:Hid (Calls _ _ _ _ _):=zlr h0 hj hR
  have HO:Hid (own s j=(Te.no,s)):=by unfold own;show (match s.R (18+j) with|[]=>_|n::r=>_)=_;rw[hR]
  have hj2:(j:Int)<(S:Int):=by omega
  have HS:Hid (SyM w0 Z c s k):=h0
  rw[<-hS]at d12 hj
  have hS2:S<=16:=by omega
  clear h h0 hb0 hl0 hlt hF0 hS hs hc hq HW0 hk
  go_enter Tryz.func120,Tryz.ntmps120
  go_upto_region 1 with fail
  rw[HW0'.out,HRB.out]
  go_wp2_with fail
  refine Calls.mono HC.out ?_
  rintro e w1 ⟨rfl,rfl⟩
  have HB:=HBox.out _ _ (Mv.refl w0 Z)
  clear d12
  go_wp2_with (refine zab rfl _ _ rfl rb 0 0 0 0 0 0 rfl rfl 0 0 0 0 0 0 HB ?_;intro w3 hw3 hf3)
  refine bodyPost_ret (zaf rfl _ _ _ rb _ rfl (zae hw3.out)) rfl ?_
  rw[HO.out]
  obtain⟨m1,m2⟩:=HFin.out _ _ _ _ _ (Mv.refl w0 Z) hf3 HS.out
  exact⟨Z,rfl,m1.mono (Nat.le_succ k),m2,rfl⟩
 | cons n r =>
  have HC:Hid (Calls _ _ _ _ _):=zlo h0 hj hR
  have hn:i64 n:=hq n (by rw[hR];simp)
  have hcn:=hc n
  have HO:Hid (own s j=(⟨7,n,(j:Int),0⟩,{ s with R:=upd s.R (18+j) r,F:=updI s.F n (s.F n-1) })):=by unfold own;show (match s.R (18+j) with|[]=>_|n::r=>_)=_;rw[hR]
  have hj2:(j:Int)<(S:Int):=by omega
  have HU:Hid (∀W Z',Z'.sb=Z.sb->SyM W Z' c (s.put (18+j) r) k->Mv w0 Z W Z'->W.cell? ⟨Z.sb,13,none⟩=some (.map (some Z'.ob))/\(Instr.lookup 111 (.map (some Z'.ob)) (.int .i64 n) false).run Tryz.prog W= .ok (.int .i64 (s.F n)) W/\ ∃w3,(Instr.mapUpdate 111 (.map (some Z'.ob)) (.int .i64 n) (.int .i64 (s.F n-1))).run Tryz.prog W= .ok () w3/\SyM w3 Z' c { s with R:=upd s.R (18+j) r,F:=updI s.F n (s.F n-1) } (k+1)/\Mv w0 Z w3 Z'):=by
   intro W Z' e1 hW hm
   obtain⟨w3,r1,r2,r3⟩:=hW.setOut n (s.F n-1) hn (by omega)
   exact⟨by have:=hW.cell (j:=13) (v:= .map (some Z'.ob)) rfl;rw[e1]at this;exact this,hW.lookOut n hn,w3,r1,r2,hm.trans r3⟩
  obtain⟨Fn,hFn⟩: ∃Fn,Fn=s.F n:=⟨_,rfl⟩
  rw[<-hFn]at HU HO hcn
  have hf1: -1152921504606846976<=Fn:=by omega
  have hf2:Fn<=1152921504606846976:=by omega
  rw[<-hS]at d12 hj
  have hS2:S<=16:=by omega
  clear h h0 hb0 hl0 hlt hF0 hS hs hc hq HW0 hcn hFn hk
  go_enter Tryz.func120,Tryz.ntmps120
  go_upto_region 1 with fail
  rw[HW0'.out,HRB.out]
  go_wp2_with fail
  refine Calls.mono HC.out ?_
  rintro e w1 ⟨Z1,rfl,hS1,hM1,z1,z2,z3⟩
  obtain⟨f1,f2,w5,f3,f4,f5⟩:=HU.out w1 Z1 z1 hS1 hM1
  have HE:Hid (SyM w5 Z1 c { s with R:=upd s.R (18+j) r,F:=updI s.F n (Fn-1) } (k+1)/\Mv w0 Z w5 Z1):=⟨f4,f5⟩
  have HB:=HBox.out w5 Z1 f5
  have HZ1:Hid (Z1.sb=Z.sb):=z1
  clear hS1 hM1 f4 f5 HU z1 z2 z3 HC d12 HBox
  go_wp2_with (refine zab rfl _ _ rfl rb 0 7 n (j:Int) 0 0 rfl rfl 0 0 0 0 0 0 HB ?_;intro w6 hw6 hf6)
  refine bodyPost_ret (zaf rfl _ _ _ rb _ rfl (zae hw6.out)) rfl ?_
  rw[HO.out]
  obtain⟨m1,m2⟩:=HFin.out _ _ _ _ _ HE.out.2 hf6 HE.out.1
  exact⟨Z1,rfl,m1,m2,HZ1.out⟩
end
theorem zlv {w:World} {tb:Nat} {B:List Nat} {n:Nat} {L:Lg} {en:Int->Prop} (m:Int) (h:Tl w tb B n L en) (hm:i64 m) :
  Calls Tryz.prog 149 #[.pointer (some ⟨tb,0,none⟩),.int .i64 m] w fun e w'=> ∃so N c er,e= .returned (.tuple #[.slice so N c,.int .i64 er])/\IOw w.heap.size w' so N c (frx L en m)/\Tl w' tb B n L (enx L en m)/\Fr B w w':=by
 by_cases h1:Mye L en m
 ·refine (zwo m w h h1.1 h1.2).mono ?_
  rintro e w' ⟨so,N,c,zs,rfl,k1,k2,k3,k4⟩
  rw[zhi h1 k2,zhw h1]
  exact⟨so,N,c,0,rfl,k1,k3,k4⟩
 ·rw[zfk h1,zhj h1]
  by_cases h2:Op11 L en m
  ·obtain⟨y,hy,hd⟩: ∃y,Op11 L en y/\Dep L m y:=Classical.byContradiction fun hh=>h1 ⟨h2,fun y hy hd=>hh ⟨y,hy,hd⟩⟩
   refine (znh m y w h h2 hy hd).mono ?_
   rintro e w' ⟨rfl,k1⟩
   exact⟨none,0,0,6,rfl,IOw.nil _ _,h.quiet k1,k1.mono (by simp)⟩
  ·refine (zlg m w h hm h2).mono ?_
   rintro e w' ⟨rfl,k1⟩
   exact⟨none,0,0,1,rfl,IOw.nil _ _,h.quiet k1,k1.mono (by simp)⟩
section
variable {w w':World} {Z:Zs} {c:Cf} {s:Sy} {k:Nat}
set_option maxHeartbeats 4000000 in
set_option maxRecDepth 100000 in
theorem ztt (h:SyM w Z c s k) (hk:k<=4194304) (hq: ∀n∈s.R 1,i64 n) (hl:(s.R 0).length<=65537*k) (hz: ∀n,(frx s.L s.en n).length<=65536) :
  Calls Tryz.prog 122 #[.pointer (some ⟨Z.sb,0,none⟩)] w (zav w Z c k (gat s)):=by
 have hlt:=h.lt
 have hF0:Fr [] w (w.alloc (.cells (evA 0 0 0 0 0 0) 62)):=Fr.alloc _ _ _
 have hb0:(w.alloc (.cells (evA 0 0 0 0 0 0) 62)).heap[w.heap.size]? = some (.cells (evA 0 0 0 0 0 0) 62 (0,0)):=heap_alloc_new _ _
 have h0:=h.quiet hF0
 have hl0:w.heap.size<(w.alloc (.cells (evA 0 0 0 0 0 0) 62)).heap.size:=by simp
 obtain⟨w0,HW0⟩: ∃w0,Hid (w.alloc (.cells (evA 0 0 0 0 0 0) 62)=w0):=⟨_,rfl⟩
 rw[HW0.out]at hF0 hb0 h0 hl0
 obtain⟨rb,HRB⟩: ∃rb,Hid (w.heap.size=rb):=⟨_,rfl⟩
 have hrb:w.heap.size<=rb:=by rw[HRB.out];exact Nat.le_refl _
 rw[HRB.out]at hb0 hl0
 have HFin:Hid (∀W W' Z' s' k',Mv w0 Z W Z'->Fr [rb] W W'->SyM W Z' c s' k'->SyM W' Z' c s' k'/\Mv w Z W' Z'):=fun W W' Z' s' k' hM hf hS=>hM.fin hF0 hrb hl0 hlt hf hS
 have HBox:Hid (∀W Z',Mv w0 Z W Z'->W.heap[rb]? = some (.cells (evA 0 0 0 0 0 0) 62 (0,0))):=fun W Z' hM=>hM.box hrb hlt hb0
 have HW0':Hid (w.alloc (.cells #[.int .i64 0,.int .u8 0,.int .i64 0,.int .i64 0,.int .i64 0,.int .i64 0] 62)=w0):=HW0
 cases hR:s.R 1 with
 | nil =>
  have HC:Hid (Calls _ _ _ _ _):=zlq h0 hR
  have HO:Hid (gat s=(Te.no,s)):=by unfold gat;show (match s.R 1 with|[]=>_|n::r=>_)=_;rw[hR]
  have HS:Hid (SyM w0 Z c s k):=h0
  clear h h0 hb0 hl0 hlt hF0 hq HW0 hk hl hz
  go_enter Tryz.func122,Tryz.ntmps122
  go_upto_region 1 with fail
  rw[HW0'.out,HRB.out]
  go_wp2_with fail
  refine Calls.mono HC.out ?_
  rintro e w1 ⟨rfl,rfl⟩
  have HB:=HBox.out _ _ (Mv.refl w0 Z)
  go_wp2_with (refine zab rfl _ _ rfl rb 0 0 0 0 0 0 rfl rfl 0 0 0 0 0 0 HB ?_;intro w3 hw3 hf3)
  refine bodyPost_ret (zaf rfl _ _ _ rb _ rfl (zae hw3.out)) rfl ?_
  rw[HO.out]
  obtain⟨m1,m2⟩:=HFin.out _ _ _ _ _ (Mv.refl w0 Z) hf3 HS.out
  exact⟨Z,rfl,m1.mono (Nat.le_succ k),m2,rfl⟩
 | cons n r =>
  have HC:Hid (Calls _ _ _ _ _):=zln h0 hR
  have hn:i64 n:=hq n (by rw[hR];simp)
  have hzn:=hz n
  obtain⟨up,er,m',xs',hd⟩:=GDo.ex s.ma s.bx n h.gate.ok
  have hgx:=zqv hd
  have HO:Hid (gat s=(⟨8,n,0,up⟩,{ s with ma:=m',bx:=xs',en:=enx s.L s.en n,R:=upd (upd s.R 1 r) 0 (s.R 0++frx s.L s.en n) })):=by unfold gat;show (match s.R 1 with|[]=>_|n::r=>_)=_;rw[hR];simp only[hgx]
  have H1:Hid (∀W Z',Z'.sb=Z.sb->SyM W Z' c (s.put 1 r) k->W.cell? ⟨Z.sb,5,none⟩=some (.pointer (some ⟨Z'.g,0,none⟩))/\Calls Tryz.prog 148 #[.pointer (some ⟨Z'.g,0,none⟩),.int .i64 n] W fun e w'=>e= .returned (.tuple #[.int .i64 up,.int .i64 er])/\GG w' Z'.g m' xs'/\Fr [Z'.g] W w'):=by
   intro W Z' e1 hW
   exact⟨by have:=hW.cell (j:=5) (v:= .pointer (some ⟨Z'.g,0,none⟩)) rfl;rw[e1]at this;exact this,zwq hW.gate hd⟩
  have H2:Hid (∀W W2 Z',Z'.sb=Z.sb->SyM W Z' c (s.put 1 r) k->GG W2 Z'.g m' xs'->Fr [Z'.g] W W2->(SyM W2 Z' c { s.put 1 r with ma:=m',bx:=xs' } k/\Mv W Z' W2 Z')/\W2.cell? ⟨Z.sb,6,none⟩=some (.pointer (some ⟨Z'.tb,0,none⟩))/\Calls Tryz.prog 149 #[.pointer (some ⟨Z'.tb,0,none⟩),.int .i64 n] W2 fun e w'=> ∃so N c er,e= .returned (.tuple #[.slice so N c,.int .i64 er])/\IOw W2.heap.size w' so N c (frx s.L s.en n)/\Tl w' Z'.tb Z'.B (65*k) s.L (enx s.L s.en n)/\Fr Z'.B W2 w'):=by
   intro W W2 Z' e1 hW hG hF
   obtain⟨m1,m2⟩:=hW.setGate hF hG
   exact⟨⟨m1,m2⟩,by have:=m1.cell (j:=6) (v:= .pointer (some ⟨Z'.tb,0,none⟩)) rfl;rw[e1]at this;exact this,zlv n m1.deps hn⟩
  have H3:Hid (∀W W3 Z',Z'.sb=Z.sb->SyM W Z' c { s.put 1 r with ma:=m',bx:=xs' } k->Tl W3 Z'.tb Z'.B (65*k) s.L (enx s.L s.en n)->Fr Z'.B W W3->SyM W3 Z' c { s.put 1 r with ma:=m',bx:=xs',en:=enx s.L s.en n } k/\Mv W Z' W3 Z'/\W3.cell? ⟨Z.sb,9,none⟩=some (.slice (Z'.q 0).lo (Z'.q 0).n (Z'.q 0).c)/\QR W3 (Z'.q 0).lo (Z'.q 0).n (Z'.q 0).c (s.R 0)/\(Z'.q 0).n<=65537*k):=by
   intro W W3 Z' e1 hW hT hF
   obtain⟨m1,m2⟩:=hW.setDeps (Nat.le_refl k) hF hT (fun x hx=>Or.inl hx)
   have hr:(s.put 1 r).R 0=s.R 0:=zaa (i:=1) (j:=0) s.R r (by decide)
   refine⟨m1,m2,by have:=m1.cell (j:=9) (v:=(Z'.q 0).v) rfl;rw[e1]at this;exact this,?_,?_⟩
   ·have:=m1.rows 0
    rw[show ({ s.put 1 r with ma:=m',bx:=xs',en:=enx s.L s.en n }:Sy).R 0=s.R 0 from hr]at this
    exact this
   ·rw[(m1.rows 0).len,show ({ s.put 1 r with ma:=m',bx:=xs',en:=enx s.L s.en n }:Sy).R 0=s.R 0 from hr]
    exact hl
  have H4:Hid (∀W Z' lo' N' c' W',Z'.sb=Z.sb->SyM W Z' c { s.put 1 r with ma:=m',bx:=xs',en:=enx s.L s.en n } k->Mv w0 Z W Z'->QR W' lo' N' c' (s.R 0++frx s.L s.en n)->Fr (qb (Z'.q 0).lo).toList W W'->(qb lo'=qb (Z'.q 0).lo\/ ∃k,qb lo'=some k/\W.heap.size<=k)->W'.cell? ⟨Z.sb,9,none⟩=some (.slice (Z'.q 0).lo (Z'.q 0).n (Z'.q 0).c)/\W'.frozen? ⟨Z.sb,9,none⟩=false/\ ∃Z2,Z2.sb=Z.sb/\SyM (W'.setCell ⟨Z.sb,9,none⟩ (.slice lo' N' c')) Z2 c (gat s).2 k/\Mv w0 Z (W'.setCell ⟨Z.sb,9,none⟩ (.slice lo' N' c')) Z2):=by
   intro W Z' lo' N' c' W' e1 hW hM hQ hF hm
   obtain⟨m1,m2⟩:=hW.row0 (w1:=W') ⟨lo',N',c'⟩ _ hF hQ hm
   have hb:=hF.keep hW.box (fun hh=>(hW.apa.nR 0 _ (Option.mem_toList.1 hh)).1 (by simp[Zs.six]))
   rw[e1]at hb m1 m2
   refine⟨by rw[cell_of_row _ _ _ _ _ _ hb];rfl,by simp[World.frozen?,hb],Z'.put 0 ⟨lo',N',c'⟩,e1,?_,hM.trans m2⟩
   rw[HO.out]
   exact m1
  clear h h0 hb0 hl0 hlt hF0 hq HW0 hl hz hd hgx hR
  have hn1:=hn.1
  have hn2:=hn.2
  go_enter Tryz.func122,Tryz.ntmps122
  go_upto_region 1 with fail
  rw[HW0'.out,HRB.out]
  go_wp2_with fail
  refine Calls.mono HC.out ?_
  rintro e w1 ⟨Z1,rfl,hS1,hM1,z1,z2,z3⟩
  obtain⟨f1,f2⟩:=H1.out w1 Z1 z1 hS1
  have HD:Hid (Calls _ _ _ _ _):=f2
  have HS1:Hid (SyM w1 Z1 c (s.put 1 r) k/\Mv w0 Z w1 Z1/\Z1.sb=Z.sb):=⟨hS1,hM1,z1⟩
  clear hS1 hM1 z1 z2 z3 f2 HC H1
  go_wp2_with fail
  refine Calls.mono HD.out ?_
  rintro e w2 ⟨rfl,hG2,hF2⟩
  obtain⟨⟨g1,g2⟩,g3,g4⟩:=H2.out w1 w2 Z1 HS1.out.2.2 HS1.out.1 hG2 hF2
  have HT:Hid (Calls _ _ _ _ _):=g4
  have HS2:Hid (SyM w2 Z1 c { s.put 1 r with ma:=m',bx:=xs' } k/\Mv w0 Z w2 Z1):=⟨g1,HS1.out.2.1.trans g2⟩
  clear g1 g2 g4 hG2 hF2 f1 H2 HD
  go_wp2_with fail
  refine Calls.mono HT.out ?_
  rintro e w3 ⟨so,N,cc,er2,rfl,hI3,hT3,hF3⟩
  obtain⟨i1,i2,i3,i4,i5⟩:=H3.out w2 w3 Z1 HS1.out.2.2 HS2.out.1 hT3 hF3
  have HQ2:Hid (QR w3 so N cc (frx s.L s.en n)):=QR.of_own hI3
  have HQ1:Hid (QR w3 (Z1.q 0).lo (Z1.q 0).n (Z1.q 0).c (s.R 0)):=i4
  have hNl:(Z1.q 0).n+N<=2199023255552:=by have:=hI3.len;omega
  have HS3:Hid (SyM w3 Z1 c { s.put 1 r with ma:=m',bx:=xs',en:=enx s.L s.en n } k/\Mv w0 Z w3 Z1):=⟨i1,HS2.out.2.trans i2⟩
  clear i1 i2 i4 i5 hI3 hT3 hF3 g3 HT H3 HS2 hzn
  obtain⟨lo,hlo⟩: ∃lo,lo=(Z1.q 0).lo:=⟨_,rfl⟩
  obtain⟨m,hm⟩: ∃m,m=(Z1.q 0).n:=⟨_,rfl⟩
  obtain⟨cl,hcl⟩: ∃cl,cl=(Z1.q 0).c:=⟨_,rfl⟩
  have HK:Hid (∀lo' N' c' W',QR W' lo' N' c' (s.R 0++frx s.L s.en n)->Fr (qb lo).toList w3 W'->(qb lo'=qb lo\/ ∃k,qb lo'=some k/\w3.heap.size<=k)->W'.cell? ⟨Z.sb,9,none⟩=some (.slice lo m cl)/\W'.frozen? ⟨Z.sb,9,none⟩=false/\ ∃Z2,Z2.sb=Z.sb/\SyM (W'.setCell ⟨Z.sb,9,none⟩ (.slice lo' N' c')) Z2 c (gat s).2 k/\Mv w0 Z (W'.setCell ⟨Z.sb,9,none⟩ (.slice lo' N' c')) Z2):=by
   intro lo' N' c' W' hQ hF hmm
   have:=H4.out w3 Z1 lo' N' c' W' HS1.out.2.2 HS3.out.1 HS3.out.2 hQ (hlo▸hF) (hlo▸hmm)
   rw[<-hlo,<-hm,<-hcl]at this
   exact this
  rw[<-hlo,<-hm,<-hcl]at i3 HQ1
  rw[<-hm]at hNl
  clear hlo hm hcl H4
  go_wp2_with (first
   | (at_builtin;refine zfm w3 rfl _ _ rfl lo m cl (s.R 0) so N cc (frx s.L s.en n) rfl HQ1.out rfl HQ2.out hNl ?_;intro lo' c' w4 hQ4 hF4 hm4;obtain⟨j1,j2,Z2,j3,j4,j5⟩:=HK.out lo' _ c' w4 hQ4 hF4 hm4;have HE:Hid (Z2.sb=Z.sb/\SyM _ _ _ _ _/\Mv _ _ _ _):=⟨j3,j4,j5⟩;have HB:=HBox.out _ _ j5;clear j3 j4 j5 hQ4 hF4 hm4)
   | (refine zab rfl _ _ rfl rb 0 8 n 0 up 0 rfl rfl 0 0 0 0 0 0 HB ?_;intro w6 hw6 hf6))
  refine bodyPost_ret (zaf rfl _ _ _ rb _ rfl (zae hw6.out)) rfl ?_
  obtain⟨m1,m2⟩:=HFin.out _ _ _ _ _ HE.out.2.2 hf6 HE.out.2.1
  exact⟨Z2,by rw[HO.out];rfl,m1.mono (Nat.le_succ k),m2,HE.out.1⟩
end
end Go.Proofs.YtaaghcimfcjehaaGreatDoor
