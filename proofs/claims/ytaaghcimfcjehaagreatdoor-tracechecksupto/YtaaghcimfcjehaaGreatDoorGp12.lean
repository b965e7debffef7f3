/- Contracts and plain lemmas of this claim. -/
import Derived.Test.YtaaghcimfcjehaaGreatDoorGp11
import Derived.BigQuiet
set_option linter.unusedSimpArgs false
set_option linter.unusedVariables false
set_option maxHeartbeats 4000000
set_option maxRecDepth 100000
namespace Go.Proofs.YtaaghcimfcjehaaGreatDoor
open Go.ChangeShapes Go.WideShapes Go.ChangeAt Go.RowKit Go.Lib Go.Maps
theorem zen (b o:Nat) (q:Sq) (w:World) (hc:w.cell? ⟨b,o,none⟩=some q.v) (hQ:QR w q.lo q.n q.c []) :
  Calls Tryz.prog 147 #[.pointer (some ⟨b,o,none⟩)] w fun e w'=>e= .returned (.tuple #[.int .i64 0,.bool false])/\w=w':=by
 obtain⟨lo,n,c⟩:=q
 have hn:n=0:=hQ.len
 subst hn
 have c0:w.cell? ⟨b,o,none⟩=some (.slice lo 0 c):=hc
 clear hc hQ
 go_enter Tryz.func147,Tryz.ntmps147
 go_wp2
 refine bodyPost_ret (results_tmp2 rfl _ _ _) rfl ?_
 exact⟨rfl,rfl⟩
theorem zeo (b o:Nat) (q:Sq) (x:Int) (xs:List Int) (w:World) (hc:w.cell? ⟨b,o,none⟩=some q.v) (hz:w.frozen? ⟨b,o,none⟩=false) (hQ:QR w q.lo q.n q.c (x::xs)) :
  Calls Tryz.prog 147 #[.pointer (some ⟨b,o,none⟩)] w fun e w'=> ∃p:Sq,e= .returned (.tuple #[.int .i64 x,.bool true])/\w'=w.setCell ⟨b,o,none⟩ p.v/\QR w p.lo p.n p.c xs/\qb p.lo=qb q.lo:=by
 obtain⟨lo,n,c⟩:=q
 obtain⟨g,off,e1,hx,hc0,hn,hK⟩:=hQ.first
 simp only at e1 hn hc0 hK
 have hfit:=hQ.fit
 simp only at hfit
 subst e1
 obtain⟨n,rfl⟩: ∃m,n=m+1:=⟨xs.length,hn⟩
 have c0:w.cell? ⟨b,o,none⟩=some (.slice (some ⟨g,off,none⟩) (n+1) c):=hc
 clear hc hQ hn
 by_cases h1:c=1
 ·subst h1
  have hn:n=0:=by omega
  subst hn
  have HM:Hid (QR w (some ⟨g,off,none⟩) 0 0 xs):=(hK _ (by rw[if_pos rfl])).1
  clear hK hfit hc0
  go_enter Tryz.func147,Tryz.ntmps147
  go_wp2
  refine bodyPost_ret (results_tmp2 rfl _ _ _) rfl ?_
  exact⟨⟨some ⟨g,off,none⟩,0,0⟩,rfl,rfl,HM.out,rfl⟩
 ·have HM:Hid (QR w (some ⟨g,off+1,none⟩) n (c-1) xs):=(hK _ (by rw[if_neg h1])).1
  clear hK
  go_enter Tryz.func147,Tryz.ntmps147
  go_wp2
  refine bodyPost_ret (results_tmp2 rfl _ _ _) rfl ?_
  exact⟨⟨some ⟨g,off+1,none⟩,n,c-1⟩,rfl,rfl,HM.out,rfl⟩
section
variable {w w':World} {Z:Zs} {c:Cf} {s:Sy} {k:Nat}
theorem SyM.queCell (h:SyM w Z c s k) {j:Nat} (hj:j<c.s.toNat):w.cell? ⟨Z.qq,j,none⟩=some (Z.q (18+j)).v/\w.frozen? ⟨Z.qq,j,none⟩=false:=by
 obtain⟨cq,q1,q2,q3⟩:=h.ques
 exact⟨by rw[cell_of_row _ _ _ _ _ _ q1];exact q3 j hj,by simp[World.frozen?,q1]⟩
theorem SyM.lanCell (h:SyM w Z c s k) {i:Nat} (hi:i<c.l.toNat):w.cell? ⟨Z.lb,2*i,none⟩=some (.int .i64 (s.num i))/\w.cell? ⟨Z.lb,2*i+1,none⟩=some (Z.q (2+i)).v/\w.frozen? ⟨Z.lb,2*i,none⟩=false/\w.frozen? ⟨Z.lb,2*i+1,none⟩=false:=by
 obtain⟨cq,q1,q2,q3⟩:=h.lanes
 exact⟨by rw[cell_of_row _ _ _ _ _ _ q1];exact (q3 i hi).1,by rw[cell_of_row _ _ _ _ _ _ q1];exact (q3 i hi).2,by simp[World.frozen?,q1],by simp[World.frozen?,q1]⟩
theorem zlm (h:SyM w Z c s k) {x:Int} {xs:List Int} (hR:s.R 0=x::xs) :
  Calls Tryz.prog 147 #[.pointer (some ⟨Z.sb,9,none⟩)] w fun e w'=> ∃Z',e= .returned (.tuple #[.int .i64 x,.bool true])/\SyM w' Z' c (s.put 0 xs) k/\Mv w Z w' Z'/\Z'.sb=Z.sb/\Z'.lb=Z.lb/\Z'.qq=Z.qq:=by
 refine (zeo Z.sb 9 (Z.q 0) x xs w (h.cell rfl) (h.fz 9) (by rw[<-hR];exact h.rows 0)).mono ?_
 rintro e w' ⟨p,rfl,rfl,h1,h2⟩
 obtain⟨m1,m2⟩:=h.row0 (w1:=w) p xs (Fr.refl _ _) h1 (Or.inl h2)
 exact⟨_,rfl,m1,m2,rfl,rfl,rfl⟩
theorem zln (h:SyM w Z c s k) {x:Int} {xs:List Int} (hR:s.R 1=x::xs) :
  Calls Tryz.prog 147 #[.pointer (some ⟨Z.sb,10,none⟩)] w fun e w'=> ∃Z',e= .returned (.tuple #[.int .i64 x,.bool true])/\SyM w' Z' c (s.put 1 xs) k/\Mv w Z w' Z'/\Z'.sb=Z.sb/\Z'.lb=Z.lb/\Z'.qq=Z.qq:=by
 refine (zeo Z.sb 10 (Z.q 1) x xs w (h.cell rfl) (h.fz 10) (by rw[<-hR];exact h.rows 1)).mono ?_
 rintro e w' ⟨p,rfl,rfl,h1,h2⟩
 obtain⟨m1,m2⟩:=h.row1 (w1:=w) p xs (Fr.refl _ _) h1 (Or.inl h2)
 exact⟨_,rfl,m1,m2,rfl,rfl,rfl⟩
theorem zlo (h:SyM w Z c s k) {j:Nat} (hj:j<c.s.toNat) {x:Int} {xs:List Int} (hR:s.R (18+j)=x::xs) :
  Calls Tryz.prog 147 #[.pointer (some ⟨Z.qq,j,none⟩)] w fun e w'=> ∃Z',e= .returned (.tuple #[.int .i64 x,.bool true])/\SyM w' Z' c (s.put (18+j) xs) k/\Mv w Z w' Z'/\Z'.sb=Z.sb/\Z'.lb=Z.lb/\Z'.qq=Z.qq:=by
 obtain⟨c1,c2⟩:=h.queCell hj
 refine (zeo Z.qq j (Z.q (18+j)) x xs w c1 c2 (by rw[<-hR];exact h.rows (18+j))).mono ?_
 rintro e w' ⟨p,rfl,rfl,h1,h2⟩
 obtain⟨m1,m2⟩:=h.rowQ hj (w1:=w) p xs (Fr.refl _ _) h1 (Or.inl h2)
 exact⟨_,rfl,m1,m2,rfl,rfl,rfl⟩
theorem zlp (h:SyM w Z c s k) (hR:s.R 0=[]):Calls Tryz.prog 147 #[.pointer (some ⟨Z.sb,9,none⟩)] w fun e w'=>e= .returned (.tuple #[.int .i64 0,.bool false])/\w=w' :=
 zen Z.sb 9 (Z.q 0) w (h.cell rfl) (by rw[<-hR];exact h.rows 0)
theorem zlq (h:SyM w Z c s k) (hR:s.R 1=[]):Calls Tryz.prog 147 #[.pointer (some ⟨Z.sb,10,none⟩)] w fun e w'=>e= .returned (.tuple #[.int .i64 0,.bool false])/\w=w' :=
 zen Z.sb 10 (Z.q 1) w (h.cell rfl) (by rw[<-hR];exact h.rows 1)
theorem zlr (h:SyM w Z c s k) {j:Nat} (hj:j<c.s.toNat) (hR:s.R (18+j)=[]):Calls Tryz.prog 147 #[.pointer (some ⟨Z.qq,j,none⟩)] w fun e w'=>e= .returned (.tuple #[.int .i64 0,.bool false])/\w=w' :=
 zen Z.qq j (Z.q (18+j)) w (h.queCell hj).1 (by rw[<-hR];exact h.rows (18+j))
end
def Room (c:Cf) (s:Sy) (sh:Int):Prop:=0<=sh/\sh<c.s/\((s.R (18+sh.toNat)).length:Int)<c.q
section
variable {w w':World} {Z:Zs} {c:Cf} {s:Sy} {k:Nat}
theorem zqx (h:SyM w Z c s k) (sh n:Int) (hi:I6 sh) (hr: ¬Room c s sh) :
  Calls Tryz.prog 150 #[.pointer (some ⟨Z.sb,0,none⟩),.int .i64 sh,.int .i64 n] w fun e w'=>e= .returned (.bool false)/\Fr [] w w':=by
 have hs:=h.may.2.1
 have c12:w.cell? ⟨Z.sb,12,none⟩=some (.slice (some ⟨Z.qq,0,none⟩) c.s.toNat c.s.toNat):=h.cell rfl
 have c3:w.cell? ⟨Z.sb,3,none⟩=some (.int .i64 c.q):=h.cell rfl
 have hi1:=hi.1
 have hi2:=hi.2
 by_cases h1:sh<0
 ·clear h hr
  have hd:decide (sh<0)=true:=by simpa using h1
  go_enter Tryz.func150,Tryz.ntmps150
  go_wp2_with fail
  go_quiet (fail)
  go_wp2
  go_ret
  exact⟨rfl,Fr.drewN _ _ _⟩
 have hd:decide (sh<0)=false:=by simpa using h1
 by_cases h2:c.s<=sh
 ·clear h hr
  have hd2:((c.s.toNat:Nat):Int)<=sh:=by omega
  have hd3:decide (((c.s.toNat:Nat):Int)<=sh)=true:=by simpa using hd2
  obtain⟨S,hS⟩: ∃S,S=c.s.toNat:=⟨_,rfl⟩
  rw[<-hS]at c12 hd2 hd3
  have hS2:S<=16:=by omega
  clear hS hs h2
  go_enter Tryz.func150,Tryz.ntmps150
  go_wp2_with fail
  go_quiet (fail)
  go_wp2
  go_ret
  exact⟨rfl,Fr.drewN _ _ _⟩
 obtain⟨j,rfl⟩: ∃j:Nat,sh=(j:Int):=⟨sh.toNat,by omega⟩
 have hj:j<c.s.toNat:=by omega
 obtain⟨q0,_⟩:=h.queCell hj
 have hl:=(h.rows (18+j)).len
 have h3:c.q<=((Z.q (18+j)).n:Int):=by
  rw[hl]
  apply Int.not_lt.1
  intro h4
  exact hr ⟨by omega,by omega,by simpa using h4⟩
 have q1:w.cell? ⟨Z.qq,j,none⟩=some (.slice (Z.q (18+j)).lo (Z.q (18+j)).n (Z.q (18+j)).c):=q0
 clear q0
 obtain⟨lo,hlo⟩: ∃lo,lo=(Z.q (18+j)).lo:=⟨_,rfl⟩
 obtain⟨m,hm⟩: ∃m,m=(Z.q (18+j)).n:=⟨_,rfl⟩
 obtain⟨cc,hcc⟩: ∃cc,cc=(Z.q (18+j)).c:=⟨_,rfl⟩
 rw[<-hlo,<-hm,<-hcc]at q1
 rw[<-hm]at h3
 obtain⟨S,hS⟩: ∃S,S=c.s.toNat:=⟨_,rfl⟩
 rw[<-hS]at c12 hj
 have hS2:S<=16:=by omega
 have hd2: ¬(S:Int)<=(j:Int):=by omega
 have hd3:decide (S<=j)=false:=by simpa using hj
 have hd4:decide (c.q<=(m:Int))=true:=by simpa using h3
 obtain⟨Q,hQ⟩: ∃Q,Q=c.q:=⟨_,rfl⟩
 rw[<-hQ]at c3 h3 hd4
 clear h hr hS hs h2 hlo hm hcc hl hQ
 go_enter Tryz.func150,Tryz.ntmps150
 go_wp2_with fail
 go_quiet (fail)
 go_wp2
 go_ret
 exact⟨rfl,Fr.drewN _ _ _⟩
theorem zmr (h:SyM w Z c s k) (j:Nat) (n:Int) (hn:i64 n) (hr:Room c s (j:Int)) (hk:k<1152921504606846976) (hc: -(k:Int)<=s.F n/\s.F n<=k) :
  Calls Tryz.prog 150 #[.pointer (some ⟨Z.sb,0,none⟩),.int .i64 (j:Int),.int .i64 n] w fun e w'=> ∃Z',e= .returned (.bool true)/\SyM w' Z' c (asks s j n) (k+1)/\Mv w Z w' Z'/\Z'.sb=Z.sb/\Z'.lb=Z.lb/\Z'.qq=Z.qq:=by
 have hs:=h.may.2.1
 have hqm:=h.may.2.2.2
 have c12:w.cell? ⟨Z.sb,12,none⟩=some (.slice (some ⟨Z.qq,0,none⟩) c.s.toNat c.s.toNat):=h.cell rfl
 have c3:w.cell? ⟨Z.sb,3,none⟩=some (.int .i64 c.q):=h.cell rfl
 have hjs:(j:Int)<c.s:=hr.2.1
 have hj:j<c.s.toNat:=by omega
 have hl:=(h.rows (18+j)).len
 have h3: ¬c.q<=((Z.q (18+j)).n:Int):=by
  rw[hl]
  have:=hr.2.2
  simp only[Int.toNat_natCast]at this
  omega
 obtain⟨q0,_⟩:=h.queCell hj
 have q1:w.cell? ⟨Z.qq,j,none⟩=some (.slice (Z.q (18+j)).lo (Z.q (18+j)).n (Z.q (18+j)).c):=q0
 clear q0
 have HY:Hid (∀W,Fr [] w W->SyM W Z c s k):=fun W hf=>h.quiet hf
 have hsl:Z.sb<w.heap.size:=lt_of_block h.box
 have hne:=h.apa.six_ne
 have HN:Hid (Z.sb≠Z.qq):=hne.2.2.1
 have HR:Hid (∀W lo' c' w',Fr [] w W->QR w' lo' ((Z.q (18+j)).n+1) c' (s.R (18+j)++[n])->Fr (qb (Z.q (18+j)).lo).toList W w'->(qb lo'=qb (Z.q (18+j)).lo\/ ∃k,qb lo'=some k/\W.heap.size<=k) ->
   (w'.cell? ⟨Z.sb,12,none⟩=some (.slice (some ⟨Z.qq,0,none⟩) c.s.toNat c.s.toNat)/\w'.cell? ⟨Z.qq,j,none⟩=some (.slice (Z.q (18+j)).lo (Z.q (18+j)).n (Z.q (18+j)).c)/\w'.frozen? ⟨Z.qq,j,none⟩=false)/\ ∃Z',Z'.sb=Z.sb/\Z'.lb=Z.lb/\Z'.qq=Z.qq/\Z'.ob=Z.ob/\SyM (w'.setCell ⟨Z.qq,j,none⟩ (.slice lo' ((Z.q (18+j)).n+1) c')) Z' c (s.put (18+j) (s.R (18+j)++[n])) k/\Mv w Z (w'.setCell ⟨Z.qq,j,none⟩ (.slice lo' ((Z.q (18+j)).n+1) c')) Z'):=by
  intro W lo' c' w' hf hq hF hm
  have hW:=h.quiet hf
  have hnr: ∀x,x∈Z.six->x∉(qb (Z.q (18+j)).lo).toList:=fun x hx hh=>(h.apa.nR (18+j) x (Option.mem_toList.1 hh)).1 hx
  obtain⟨cq,g1,g2,g3⟩:=hW.ques
  have hb:=hF.keep hW.box (hnr _ (by simp[Zs.six]))
  have hq2:=hF.keep g1 (hnr _ (by simp[Zs.six]))
  obtain⟨m1,m2⟩:=hW.rowQ hj (w1:=w') ⟨lo',(Z.q (18+j)).n+1,c'⟩ (s.R (18+j)++[n]) hF hq hm
  exact⟨⟨by rw[cell_of_row _ _ _ _ _ _ hb];rfl,by rw[cell_of_row _ _ _ _ _ _ hq2];exact g3 j hj,by simp[World.frozen?,hq2]⟩,Z.put (18+j) ⟨lo',(Z.q (18+j)).n+1,c'⟩,rfl,rfl,rfl,rfl,m1,(Mv.quiet hf).trans m2⟩
 have HQ:Hid (∀W,Fr [] w W->QR W (Z.q (18+j)).lo (Z.q (18+j)).n (Z.q (18+j)).c (s.R (18+j))):=fun W hf=>(h.quiet hf).rows (18+j)
 have hmn:(Z.q (18+j)).n<=16:=by omega
 obtain⟨lo,hlo⟩: ∃lo,lo=(Z.q (18+j)).lo:=⟨_,rfl⟩
 obtain⟨m,hm⟩: ∃m,m=(Z.q (18+j)).n:=⟨_,rfl⟩
 obtain⟨cc,hcc⟩: ∃cc,cc=(Z.q (18+j)).c:=⟨_,rfl⟩
 rw[<-hlo,<-hm,<-hcc]at q1 HR HQ
 rw[<-hm]at h3 hmn
 obtain⟨S,hS⟩: ∃S,S=c.s.toNat:=⟨_,rfl⟩
 rw[<-hS]at c12 hj HR
 have hS2:S<=16:=by omega
 have hd1: ¬(j:Int)<0:=by omega
 have hd2: ¬(S:Int)<=(j:Int):=by omega
 have hd3:decide (S<=j)=false:=by simpa using hj
 have hd4:decide (c.q<=(m:Int))=false:=by simpa using h3
 obtain⟨Q,hQ⟩: ∃Q,Q=c.q:=⟨_,rfl⟩
 rw[<-hQ]at c3 h3 hd4
 have HF2:Hid (∀W Z',Z'.sb=Z.sb->Z'.ob=Z.ob->Z'.lb=Z.lb->Z'.qq=Z.qq->SyM W Z' c (s.put (18+j) (s.R (18+j)++[n])) k->Mv w Z W Z'->W.cell? ⟨Z.sb,13,none⟩=some (.map (some Z.ob))/\(Instr.lookup 111 (.map (some Z.ob)) (.int .i64 n) false).run Tryz.prog W= .ok (.int .i64 (s.F n)) W/\ ∃w3,(Instr.mapUpdate 111 (.map (some Z.ob)) (.int .i64 n) (.int .i64 (s.F n+1))).run Tryz.prog W= .ok () w3/\SyM w3 Z' c (asks s j n) (k+1)/\Mv w Z w3 Z'):=by
  intro W Z' e1 e2 e3 e4 hW hm
  obtain⟨w3,r1,r2,r3⟩:=hW.setOut n (s.F n+1) hn (by omega)
  rw[e2]at r1
  refine⟨by have:=hW.cell (j:=13) (v:= .map (some Z'.ob)) rfl;rw[e1,e2]at this;exact this,by have:=hW.lookOut n hn;rw[e2]at this;exact this,w3,r1,r2,hm.trans r3⟩
 have hfr1: -1152921504606846976<=s.F n:=by omega
 have hfr2:s.F n<=1152921504606846976:=by omega
 obtain⟨Fn,hFn⟩: ∃Fn,Fn=s.F n:=⟨_,rfl⟩
 rw[<-hFn]at HF2 hfr1 hfr2
 clear h hr hS hs hlo hm hcc hl hQ hne hFn hc hqm hjs
 go_enter Tryz.func150,Tryz.ntmps150
 go_wp2_with fail
 go_quiet (fail)
 have hF1:Fr [] w (w.drewN nq):=Fr.drewN _ _ _
 obtain⟨w1,HW1⟩: ∃w1,Hid (w.drewN nq=w1):=⟨_,rfl⟩
 rw[HW1.out]at hF1 ⊢
 have hW1:=HY.out w1 hF1
 have d12:w1.cell? ⟨Z.sb,12,none⟩=some (.slice (some ⟨Z.qq,0,none⟩) S S):=by rw[<-HW1.out];exact c12
 have dq:w1.cell? ⟨Z.qq,j,none⟩=some (.slice lo m cc):=by rw[<-HW1.out];exact q1
 have HFr1:Hid (Fr [] w w1):=hF1
 have a12:(w1.alloc (.cells #[.int .i64 n] 3)).cell? ⟨Z.sb,12,none⟩=some (.slice (some ⟨Z.qq,0,none⟩) S S):=by rw[World.cell?_of_block ((Fr.alloc [] w1 _).block Z.sb (lt_of_block hW1.box) (by simp))];exact d12
 have aq:(w1.alloc (.cells #[.int .i64 n] 3)).cell? ⟨Z.qq,j,none⟩=some (.slice lo m cc):=by
  obtain⟨cq,g1,_⟩:=hW1.ques
  rw[World.cell?_of_block ((Fr.alloc [] w1 _).block Z.qq (lt_of_block g1) (by simp))]
  exact dq
 clear c12 q1 c3 HW1 hW1 hF1 hd4 h3
 have HX:Hid (∀W,Fr [] w1 W->QR W lo m cc (s.R (18+j))):=fun W hf=>HQ.out W (HFr1.out.then hf)
 have HG:Hid (∀W lo' c' w',Fr [] w1 W->QR w' lo' (m+1) c' (s.R (18+j)++[n])->Fr (qb lo).toList W w'->(qb lo'=qb lo\/ ∃k,qb lo'=some k/\W.heap.size<=k)->_):=fun W lo' c' w' hf=>HR.out W lo' c' w' (HFr1.out.then hf)
 have hn:=HN.out
 go_wp2_with fail
 go_region_law (first
  | (refine zcg _ (by rfl) _ _ (by rfl) lo m cc _ n (by rfl) (HX.out _ (Fr.drewN _ _ _)) (by omega) (by rfl) ?_;intro lo' c' w3 hQ3 hF3 hm3;obtain⟨⟨e1,e2,e3⟩,hG3⟩:=HG.out _ lo' c' w3 (Fr.drewN _ _ _) hQ3 hF3 hm3)
  | (refine zcg _ (by rfl) _ _ (by rfl) lo m cc _ n (by rfl) (HX.out _ (Fr.drew _ _)) (by omega) (by rfl) ?_;intro lo' c' w3 hQ3 hF3 hm3;obtain⟨⟨e1,e2,e3⟩,hG3⟩:=HG.out _ lo' c' w3 (Fr.drew _ _) hQ3 hF3 hm3)
  | (refine zcg _ (by rfl) _ _ (by rfl) lo m cc _ n (by rfl) (HX.out _ (Fr.refl _ _)) (by omega) (by rfl) ?_;intro lo' c' w3 hQ3 hF3 hm3;obtain⟨⟨e1,e2,e3⟩,hG3⟩:=HG.out _ lo' c' w3 (Fr.refl _ _) hQ3 hF3 hm3))
 all_goals
  obtain⟨Z',z1,z2,z3,z4,hS4,hM4⟩:=hG3
  obtain⟨w4,HW4⟩: ∃w4,Hid (w3.setCell ⟨Z.qq,j,none⟩ (.slice lo' (m+1) c')=w4):=⟨_,rfl⟩
  rw[HW4.out]at hS4 hM4 ⊢
  obtain⟨f1,f2,w5,f3,f4,f5⟩:=HF2.out _ Z' z1 z4 z2 z3 hS4 hM4
  have HE:Hid (SyM w5 Z' c (asks s j n) (k+1)/\Mv w Z w5 Z'):=⟨f4,f5⟩
  clear hS4 hM4 f4 f5 HF2 HR HX HG HQ HY HW4 e1 e2 e3 d12 dq a12 aq hQ3 hF3 hm3
  go_wp2
  go_ret
  exact⟨Z',rfl,HE.out.1,HE.out.2,z1,z2,z3⟩
end
theorem Ris.nodup21 {xs:List Int} (h:Ris xs):xs.Nodup:=List.Pairwise.imp (fun hab e=>by subst e;exact absurd hab (Int.lt_irrefl _)) h
open Classical in
theorem zzb {L:Lg} (hr:RisL L) (en:Int->Prop) (ks:List ByteArray):AdT L en ks ((L.map (·.1)).filter fun m=>decide (Op11 L en m/\ ∃k∈ks,lst L k=m)):=by
 refine⟨Ris.filter hr.1 _,fun m=> ?_⟩
 rw[List.mem_filter,decide_eq_true_iff]
 constructor
 ·exact fun h=>h.2
 ·intro h
  refine⟨?_,h⟩
  obtain⟨p,hp,e⟩:=h.1.1
  exact List.mem_map.2 ⟨p,hp,e⟩
theorem zva {L:Lg} (hr:RisL L) {en:Int->Prop} {ks:List ByteArray} (h:(adx L en ks).length=0): ∀y,Op11 L en y-> ¬ ∃k∈ks,lst L k=y:=by
 have hA:=zzb hr en ks
 rw[zhh hA]at h
 intro y hy hk
 have:=(hA.2 y).2 ⟨hy,hk⟩
 rw[List.length_eq_zero_iff]at h
 rw[h]at this
 cases this
structure Hv (s:Sy) (d t:Nat) (P:List Int):Prop where
 ris:RisL s.L
 nd:P.Nodup
 sub: ∀x∈P,∃p∈s.L,p.1=x
 len:P.length=t+(s.R 0).length
 free: ∀x∈P,∀y,Op11 s.L s.en y-> ¬Dep s.L x y
 dis:d=s.L.length
theorem Hv.same {s s':Sy} {d t:Nat} {P:List Int} (h:Hv s d t P) (hL:s'.L=s.L) (he:s'.en=s.en) (hR:s'.R 0=s.R 0):Hv s' d t P :=
 ⟨by rw[hL];exact h.ris,h.nd,by rw[hL];exact h.sub,by rw[hR];exact h.len,by rw[hL,he];exact h.free,by rw[hL];exact h.dis⟩
theorem Dep.mem21 {L:Lg} {a m:Int} (h:Dep L a m): ∃p∈L,p.1=a:=by
 obtain⟨A,ks,C,e,_⟩:=h
 exact⟨(a,ks),by rw[e];simp,rfl⟩
theorem Op11.snoc21 {L:Lg} {p:Int×List ByteArray} {en:Int->Prop} {y:Int} (h:Op11 (L++[p]) en y):Op11 L en y\/y=p.1:=by
 obtain⟨⟨q,hq,e⟩,h2⟩:=h
 rcases List.mem_append.1 hq with hq|hq
 ·exact .inl ⟨⟨q,hq,e⟩,h2⟩
 ·simp only[List.mem_singleton]at hq
  subst hq
  exact .inr e.symm
theorem Hv.take {s s':Sy} {d t:Nat} {P:List Int} (h:Hv s d t P) {n:Int} {r:List Int} (hL:s'.L=s.L) (he:s'.en=s.en) (h0:s.R 0=n::r) (hR:s'.R 0=r):Hv s' d (t+1) P :=
 ⟨by rw[hL];exact h.ris,h.nd,by rw[hL];exact h.sub,by rw[h.len,h0,hR];simp;omega,by rw[hL,he];exact h.free,by rw[hL];exact h.dis⟩
theorem zxn (R:Nat->List Int) (v:List Int):upd R 1 v 0=R 0:=rfl
theorem zmx (s:Sy) (q:Nat) (n:Int):(asks s q n).R 0=s.R 0:=by
 show upd s.R (18+q) _ 0=_
 rw[zaa _ _ (by omega)]
structure Dl where
 n:Int
 has:Bool
 sent:Nat
 acked:Nat
structure Dc where
 n:Int
 asked:Nat
 served:Nat
 ended:Bool
structure Ds where
 at_:Int
 held:Int
 L:Lg
 en:Int->Prop
 ma:Int
 bx:List Int
 line:List Int
 gone:List Int
 lan:Nat->Dl
 que:Nat->List (Int×Int)
 cal:List Dc
noncomputable def fedD (c:Cf) (T:List Tx) (xs:List Int) (d:Ds):(Te×Bool)×Ds :=
 if d.held=0 then
  if d.at_<(T.length:Int) then ((⟨1,d.at_+1,0,0⟩,true),{ d with at_:=d.at_+1,held:=d.at_+1 }) else ((Te.no,false),d)
 else if d.held∈xs then ((⟨2,d.held,0,0⟩,true),{ d with held:=0 })
 else if c.w<d.held-d.ma then ((Te.no,false),d)
 else ((⟨3,d.held,0,((adx d.L d.en (zah (wsAt T d.held))).length:Int)⟩,true),
  { d with held:=0,L:=d.L++[(d.held,zah (wsAt T d.held))],line:=if (adx d.L d.en (zah (wsAt T d.held))).length=0 then d.line++[d.held] else d.line })
noncomputable def lanD (c:Cf) (T:List Tx) (d:Ds) (i:Nat):(Te×Bool)×Ds :=
 if (d.lan i).has=false then
  match d.line with
  | []=>((Te.no,false),d)
  | n::r=>((⟨4,n,0,0⟩,true),{ d with line:=r,lan:=upd d.lan i ⟨n,true,0,0⟩ })
 else if (d.lan i).sent<(shs c T (d.lan i).n).length then
  if c.q<=((d.que ((shs c T (d.lan i).n).getD (d.lan i).sent 0).toNat).length:Int) then ((Te.no,false),d)
  else ((⟨5,(d.lan i).n,(shs c T (d.lan i).n).getD (d.lan i).sent 0,0⟩,true),
   { d with que:=upd d.que ((shs c T (d.lan i).n).getD (d.lan i).sent 0).toNat (d.que ((shs c T (d.lan i).n).getD (d.lan i).sent 0).toNat++[((i:Int)+1,(d.lan i).n)]),lan:=upd d.lan i ⟨(d.lan i).n,true,(d.lan i).sent+1,(d.lan i).acked⟩ })
 else if (d.lan i).acked<(shs c T (d.lan i).n).length then ((Te.no,false),d)
 else ((⟨6,(d.lan i).n,0,0⟩,true),{ d with gone:=d.gone++[(d.lan i).n],lan:=upd d.lan i ⟨(d.lan i).n,false,(d.lan i).sent,(d.lan i).acked⟩ })
def srv (f:Int) (x:Dc):Dc:=if x.n=f then { x with served:=x.served+1 } else x
def ownD (d:Ds) (k:Nat):(Te×Bool)×Ds :=
 match d.que k with
 | []=>((Te.no,false),d)
 | q::r=>((⟨7,q.2,(k:Int),0⟩,true),{ d with que:=upd d.que k r,lan:=if 0<q.1 then upd d.lan (q.1-1).toNat { d.lan (q.1-1).toNat with acked:=(d.lan (q.1-1).toNat).acked+1 } else d.lan,cal:=if 0<q.1 then d.cal else d.cal.map (srv q.1) })
noncomputable def gatD (d:Ds):(Te×Bool)×Ds :=
 match d.gone with
 | []=>((Te.no,false),d)
 | n::r=>((⟨8,n,0,(gdx d.ma d.bx n).1⟩,true),{ d with gone:=r,line:=d.line++frx d.L d.en n,en:=enx d.L d.en n,ma:=(gdx d.ma d.bx n).2.1,bx:=(gdx d.ma d.bx n).2.2 })
def askC (t:Int) (x:Dc):Dc:=if x.n=t then { x with asked:=x.asked+1 } else x
def endC (t:Int) (x:Dc):Dc:=if x.n=t then { x with ended:=true } else x
def calD (c:Cf) (d:Ds) (e:Ev):(Te×Bool)×Ds :=
 match d.cal.find? (fun x=>x.n==e.t) with
 | none=>((⟨e.k,e.t,0,0⟩,decide (e.k=9)),{ d with cal:=d.cal++[⟨e.t,0,0,false⟩] })
 | some x =>
  if x.ended=true then ((⟨e.k,e.t,0,0⟩,false),d)
  else if e.k=10 then
   if 0<=e.s/\e.s<c.s/\((d.que e.s.toNat).length:Int)<c.q then ((⟨10,e.t,e.s,0⟩,true),{ d with que:=upd d.que e.s.toNat (d.que e.s.toNat++[(e.t,e.t)]),cal:=d.cal.map (askC e.t) })
   else ((⟨10,e.t,0,0⟩,false),d)
  else if e.k=11 then ((⟨11,e.t,0,e.c⟩,decide (0<=e.c/\x.served=x.asked)),d)
  else if e.k=12 then ((⟨12,e.t,0,0⟩,decide (x.served=x.asked)),{ d with cal:=d.cal.map (endC e.t) })
  else ((⟨e.k,e.t,0,0⟩,false),d)
noncomputable def nxtD (c:Cf) (T:List Tx) (xs:List Int) (d:Ds) (e:Ev):(Te×Bool)×Ds :=
 if e.t<0 then calD c d e else if e.t=0 then fedD c T xs d else if e.t<=c.l then lanD c T d (e.t-1).toNat else if e.t<=c.l+c.s then ownD d (e.t-c.l-1).toNat else if e.t=c.l+c.s+1 then gatD d else ((Te.no,false),d)
def cntQ (s:Sy) (n:Int):Nat:=((List.range 16).map fun j=>(s.R (18+j)).count n).sum
structure Rl (c:Cf) (T:List Tx) (m0:Int) (xs:List Int) (s:Sy) (d:Ds) (P:List Int) (t:Nat):Prop where
 at_:d.at_=s.read
 held:d.held=if s.holds=true then s.read else 0
 L:d.L=s.L
 en:d.en=s.en
 ma:d.ma=s.ma
 bx:d.bx=s.bx
 line:d.line=s.R 0
 gone:d.gone=s.R 1
 que: ∀j,j<16->(d.que j).map (·.2)=s.R (18+j)
 has: ∀i,i<16->((d.lan i).has=true↔s.num i≠0)
 lan: ∀i,i<16->s.num i≠0->(d.lan i).n=s.num i/\(d.lan i).sent<=(shs c T (s.num i)).length/\s.R (2+i)=(shs c T (s.num i)).drop (d.lan i).sent/\s.F (s.num i)=((d.lan i).sent:Int)-((d.lan i).acked:Int)
 apart: ∀i j,i<16->j<16->s.num i≠0->s.num i=s.num j->i=j
 tak: ∀i,i<16->s.num i≠0->s.num i∈P.take t
 qua: ∀j,j<16-> ∀q∈d.que j,(0<q.1->(q.1-1).toNat<16/\s.num (q.1-1).toNat=q.2/\0<q.2)/\(¬0<q.1->q.1<0/\q.2=q.1)
 tal: ∀n,s.F n=(cntQ s n:Int)
 cnd:(d.cal.map (·.n)).Nodup
 cal: ∀x∈d.cal,x.n<0/\s.F x.n=(x.asked:Int)-(x.served:Int)/\s.G x.n=if x.ended=true then 2 else 1
 out: ∀n,n<0->(∀x∈d.cal,x.n≠n)->s.G n=0/\s.F n=0
 gt:Gt s.ma s.bx
 g1: ∀x,(x<=s.ma\/x∈s.bx)->x<=m0\/x∈xs\/ ∃p∈s.L,p.1=x
 g2: ∀x,x∈xs->(x<=s.ma\/x∈s.bx)
 rm:m0<=s.read/\(s.holds=true->m0<s.read)
 gon: ∀n∈s.R 1,∃p∈s.L,p.1=n
 hv: ∃k,Hv s k t P
 pl:P.drop t=s.R 0
theorem zib (f g:Nat->Nat) (k:Nat): ∀n,k<n->(∀j,j<n->j≠k->g j=f j)->((List.range n).map g).sum+f k=((List.range n).map f).sum+g k
 | 0,h,_=>by omega
 | n+1,h,hg=>by
  simp only[List.range_succ,List.map_append,List.map_cons,List.map_nil,List.sum_append,List.sum_cons,List.sum_nil]
  by_cases e:k=n
  ·subst e
   have:(List.range k).map g=(List.range k).map f:=List.map_congr_left fun j hj=>hg j (by simp at hj;omega) (by simp at hj;omega)
   rw[this]
   omega
  ·have ih:=zib f g k n (by omega) (fun j hj hne=>hg j (by omega) hne)
   have:=hg n (by omega) (fun q=>e q.symm)
   omega
theorem zks (f:Nat->Nat): ∀n,((List.range n).map f).sum=0-> ∀j,j<n->f j=0
 | 0,_,j,hj=>by omega
 | n+1,h,j,hj=>by
  simp only[List.range_succ,List.map_append,List.map_cons,List.map_nil,List.sum_append,List.sum_cons,List.sum_nil]at h
  by_cases e:j=n
  ·subst e;omega
  ·exact zks f n (by omega) j (by omega)
theorem zkt (s s':Sy) (k:Nat) (n m:Int) (hk:k<16) (h1:s'.R (18+k)=s.R (18+k)++[n]) (h2: ∀j,j<16->j≠k->s'.R (18+j)=s.R (18+j)):cntQ s' m=cntQ s m+if m=n then 1 else 0:=by
 have h:=zib (fun j=>(s.R (18+j)).count m) (fun j=>(s'.R (18+j)).count m) k 16 hk (fun j hj hne=>by simp only[h2 j hj hne])
 simp only[h1,List.count_append]at h
 unfold cntQ
 by_cases e:m=n
 ·subst e
  simp at h
  rw[if_pos rfl]
  omega
 ·have:List.count m [n]=0:=by simp[List.count_cons,Ne.symm e]
  rw[if_neg e]
  omega
theorem zse (s s':Sy) (k:Nat) (n m:Int) (r:List Int) (hk:k<16) (h0:s.R (18+k)=n::r) (h1:s'.R (18+k)=r) (h2: ∀j,j<16->j≠k->s'.R (18+j)=s.R (18+j)):cntQ s m=cntQ s' m+if m=n then 1 else 0:=by
 have h:=zib (fun j=>(s.R (18+j)).count m) (fun j=>(s'.R (18+j)).count m) k 16 hk (fun j hj hne=>by simp only[h2 j hj hne])
 simp only[h0,h1,List.count_cons]at h
 unfold cntQ
 by_cases e:m=n
 ·subst e
  simp at h
  rw[if_pos rfl]
  omega
 ·have:(n==m)=false:=by simp[Ne.symm e]
  rw[if_neg e]
  simp[this]at h
  omega
theorem zdr (s s':Sy) (m:Int) (h2: ∀j,j<16->s'.R (18+j)=s.R (18+j)):cntQ s' m=cntQ s m:=by
 unfold cntQ
 congr 1
 exact List.map_congr_left fun j hj=>by simp only[h2 j (by simpa using hj)]
theorem zit {s:Sy} {n:Int} (h:cntQ s n=0) (j:Nat) (hj:j<16):n∉s.R (18+j):=by
 have:=zks _ 16 h j hj
 exact List.count_eq_zero.1 this
theorem zvb {s:Sy} {n:Int} {j:Nat} (hj:j<16) (h:n∈s.R (18+j)):cntQ s n≠0:=fun h0=>zit h0 j hj h
theorem Hv.disp2 {s s':Sy} {d t:Nat} {P:List Int} (h:Hv s d t P) {n:Int} {ks:List ByteArray} (hn:1<=n) (hnew: ∀p∈s.L,p.1<n) (hL:s'.L=s.L++[(n,ks)]) (he:s'.en=s.en)
  (hR:s'.R 0=if (adx s.L s.en ks).length=0 then s.R 0++[n] else s.R 0):Hv s' (d+1) t (if (adx s.L s.en ks).length=0 then P++[n] else P):=by
 have hr:RisL (s.L++[(n,ks)]):=h.ris.snoc hnew hn
 have old: ∀x∈P,∀y,Op11 s'.L s'.en y-> ¬Dep s'.L x y:=fun x hx y hy hd=>by
  rw[hL]at hd hy
  rw[he]at hy
  obtain⟨p,hp,e⟩:=h.sub x hx
  have hlt:=hnew p hp
  rcases (zbp s.L (n,ks) x y).1 hd with hd1|⟨e1,_⟩
  ·rcases hy.snoc21 with hy1|e2
   ·exact h.free x hx y hy1 hd1
   ·have:=(Dep.lt h.ris hd1).2.1
    simp only at e2
    omega
  ·simp only at e1
   omega
 by_cases ha:(adx s.L s.en ks).length=0
 ·rw[if_pos ha]
  refine⟨by rw[hL];exact hr,?_,?_,?_,?_,by rw[hL,h.dis];simp⟩
  ·rw[List.nodup_append]
   refine⟨h.nd,by simp,fun x hx y hy=> ?_⟩
   simp only[List.mem_singleton]at hy
   subst hy
   obtain⟨p,hp,e⟩:=h.sub x hx
   have:=hnew p hp
   omega
  ·intro x hx
   rw[hL]
   rcases List.mem_append.1 hx with hx|hx
   ·obtain⟨p,hp,e⟩:=h.sub x hx
    exact⟨p,List.mem_append_left _ hp,e⟩
   ·simp only[List.mem_singleton]at hx
    exact⟨(n,ks),by simp,hx.symm⟩
  ·rw[hR,if_pos ha,List.length_append,List.length_append,h.len]
   simp
   omega
  ·intro x hx
   rcases List.mem_append.1 hx with hx|hx
   ·exact old x hx
   ·simp only[List.mem_singleton]at hx
    subst hx
    intro y hy hd
    rw[hL]at hd hy
    rw[he]at hy
    rcases (zbp s.L (x,ks) x y).1 hd with hd1|⟨_,_,hk⟩
    ·obtain⟨p,hp,e⟩:=hd1.mem21
     have:=hnew p hp
     omega
    ·rcases hy.snoc21 with hy1|e2
     ·exact zva h.ris ha y hy1 hk
     ·have:=(Dep.lt hr hd).2.1
      simp only at e2
      omega
 ·rw[if_neg ha]
  refine⟨by rw[hL];exact hr,h.nd,?_,by rw[hR,if_neg ha];exact h.len,old,by rw[hL,h.dis];simp⟩
  intro x hx
  rw[hL]
  obtain⟨p,hp,e⟩:=h.sub x hx
  exact⟨p,List.mem_append_left _ hp,e⟩
theorem Hv.gate2 {s s':Sy} {d t:Nat} {P:List Int} (h:Hv s d t P) {n:Int} (hL:s'.L=s.L) (he:s'.en=enx s.L s.en n) (hR:s'.R 0=s.R 0++frx s.L s.en n):Hv s' d t (P++frx s.L s.en n):=by
 by_cases hm:Mye s.L s.en n
 ·obtain⟨hfr,hfl⟩:=zfw s.L s.en n
  rw[zhw hm]at he
  have sm: ∀y,Op11 s'.L s'.en y->Op11 s.L s.en y/\y≠n:=fun y hy=>by
   rw[hL,he]at hy
   exact⟨⟨hy.1,fun q=>hy.2 (.inl q)⟩,fun q=>hy.2 (.inr q)⟩
  refine⟨by rw[hL];exact h.ris,?_,?_,?_,?_,by rw[hL];exact h.dis⟩
  ·rw[List.nodup_append]
   refine⟨h.nd,hfr.nodup21,fun x hx y hy e=> ?_⟩
   subst e
   exact h.free x hx n hm.1 (hfl x hy).2
  ·intro x hx
   rw[hL]
   rcases List.mem_append.1 hx with hx|hx
   ·exact h.sub x hx
   ·exact (hfl x hx).1.1
  ·rw[hR,List.length_append,List.length_append,h.len]
   omega
  ·intro x hx y hy
   obtain⟨hy1,hy2⟩:=sm y hy
   rw[hL]
   rcases List.mem_append.1 hx with hx|hx
   ·exact h.free x hx y hy1
   ·by_cases hz: ∃zs,DoT s.L (Op11 s.L s.en) n zs
    ·obtain⟨zs,hz⟩:=hz
     rw[zhi hm hz]at hx
     exact ((hz.2 x).1 hx).2.2 y hy1 hy2
    ·unfold frx at hx
     rw[dif_neg (fun q=>hz q.2)]at hx
     cases hx
 ·rw[zhj hm]at he
  rw[zfk hm,List.append_nil]at hR
  rw[zfk hm,List.append_nil]
  exact h.same hL he hR
section
variable {c:Cf} {T:List Tx} {m0:Int} {xs:List Int} {s:Sy} {d:Ds} {P:List Int} {t k:Nat}
def StE (c:Cf) (T:List Tx) (m0:Int) (xs:List Int) (A:(Te×Bool)×Ds) (B:Te×Sy):Prop :=
 (A.1.2=false->B.1.k=0)/\(A.1.2=true->B.1=A.1.1/\B.1.k≠0/\ ∃P t,Rl c T m0 xs B.2 A.2 P t)
theorem StE.no (d:Ds) (s:Sy) (te:Te):StE c T m0 xs ((te,false),d) (Te.no,s):=⟨fun _=>rfl,fun h=>(by cases h)⟩
theorem StE.yes {te:Te} {d':Ds} {s':Sy} (h:te.k≠0) (hr: ∃P t,Rl c T m0 xs s' d' P t):StE c T m0 xs ((te,true),d') (te,s'):=⟨fun h=>(by cases h),fun _=>⟨rfl,h,hr⟩⟩
theorem Rl.len (h:Rl c T m0 xs s d P t):t<=P.length:=by
 obtain⟨k,hk⟩:=h.hv
 have:=hk.len
 omega
theorem zxr (hR:Rl c T m0 xs s d P t) (hI:Iv c T s k):StE c T m0 xs (fedD c T xs d) (dsp c T s):=by
 have hh:=hR.held
 unfold fedD dsp
 cases hx:s.holds with
 | false =>
  rw[hx]at hh
  simp only[Bool.false_eq_true,if_false]at hh
  rw[if_pos hh,if_pos rfl,hR.at_]
  by_cases hl:s.read<(T.length:Int)
  ·rw[if_pos hl,if_pos hl]
   refine StE.yes (by simp) ⟨P,t,{ hR with at_:=rfl,held:=rfl,rm:=⟨by have:=hR.rm.1;show m0<=s.read+1;omega,fun _=>by have:=hR.rm.1;show m0<s.read+1;omega⟩,hv:= ?_ }⟩
   obtain⟨n,hn⟩:=hR.hv
   exact⟨n,hn.same rfl rfl rfl⟩
  ·rw[if_neg hl,if_neg hl]
   exact StE.no _ _ _
 | true =>
  rw[hx,if_pos rfl]at hh
  have hr1:=hI.hold hx
  have hne: ¬d.held=0:=by rw[hh];omega
  rw[if_neg hne,if_neg (show ¬(true=false) by decide),hh]
  have hsk:(s.read<=s.ma\/s.read∈s.bx)↔s.read∈xs:=by
   constructor
   ·intro h
    rcases hR.g1 _ h with h1|h1|⟨p,hp,e⟩
    ·have:=hR.rm.2 hx;omega
    ·exact h1
    ·have:=(hI.old p hp).2 hx;omega
   ·exact hR.g2 _
  by_cases hs:s.read∈xs
  ·rw[if_pos hs,if_pos (hsk.2 hs)]
   refine StE.yes (by simp) ⟨P,t,{ hR with held:=rfl,rm:=⟨hR.rm.1,fun h=>(by cases h)⟩,hv:= ?_ }⟩
   obtain⟨n,hn⟩:=hR.hv
   exact⟨n,hn.same rfl rfl rfl⟩
  ·rw[if_neg hs,if_neg (fun h=>hs (hsk.1 h)),hR.ma]
   by_cases hw:c.w<s.read-s.ma
   ·rw[if_pos hw,if_neg (show ¬s.read<=s.ma+c.w by omega)]
    exact StE.no _ _ _
   ·rw[if_neg hw,if_pos (show s.read<=s.ma+c.w by omega),hR.L,hR.en,hR.line]
    obtain⟨n,hn⟩:=hR.hv
    have hlen:=hR.len
    refine StE.yes (by simp) ⟨if (adx s.L s.en (zah (wsAt T s.read))).length=0 then P++[s.read] else P,t,?_⟩
    have hR0:(if (adx s.L s.en (zah (wsAt T s.read))).length=0 then upd s.R 0 (s.R 0++[s.read]) else s.R) 0=if (adx s.L s.en (zah (wsAt T s.read))).length=0 then s.R 0++[s.read] else s.R 0:=by
     split
     ·rw[zad]
     ·rfl
    have hRo: ∀j,j≠0->(if (adx s.L s.en (zah (wsAt T s.read))).length=0 then upd s.R 0 (s.R 0++[s.read]) else s.R) j=s.R j:=by
     intro j hj
     split
     ·rw[zaa _ _ hj]
     ·rfl
    have hPt:(if (adx s.L s.en (zah (wsAt T s.read))).length=0 then P++[s.read] else P).take t=P.take t:=by
     split
     ·exact List.take_append_of_le_length hlen
     ·rfl
    exact { hR with
     held:=rfl
     L:=rfl
     en:=rfl
     ma:=rfl
     line:=hR0.symm
     gone:=hR.gone.trans (hRo 1 (by omega)).symm
     que:=fun j hj=>(hR.que j hj).trans (hRo (18+j) (by omega)).symm
     lan:=fun i hi hni=>by
      obtain⟨q1,q2,q3,q4⟩:=hR.lan i hi hni
      exact⟨q1,q2,(hRo (2+i) (by omega)).trans q3,q4⟩
     tak:=fun i hi hni=>by rw[hPt];exact hR.tak i hi hni
     tal:=fun n=>by rw[zdr s _ n (fun j hj=>hRo (18+j) (by omega))];exact hR.tal n
     g1:=fun x hx2=>by
      rcases hR.g1 x hx2 with h1|h1|⟨p,hp,e⟩
      ·exact .inl h1
      ·exact .inr (.inl h1)
      ·exact .inr (.inr ⟨p,List.mem_append_left _ hp,e⟩)
     rm:=⟨hR.rm.1,fun h=>(by cases h)⟩
     gon:=fun n hn2=>by
      have hn3:n∈s.R 1:=by rw[<-hRo 1 (by omega)];exact hn2
      obtain⟨p,hp,e⟩:=hR.gon n hn3
      exact⟨p,List.mem_append_left _ hp,e⟩
     hv:=⟨n+1,hn.disp2 (n:=s.read) (ks:=zah (wsAt T s.read)) hr1 (fun p hp=>(hI.old p hp).2 hx) rfl rfl hR0⟩
     pl:=by
      refine Eq.trans ?_ hR0.symm
      split
      ·rw[List.drop_append_of_le_length hlen,hR.pl]
      ·exact hR.pl }
theorem zxs (hR:Rl c T m0 xs s d P t) (hI:Iv c T s k):StE c T m0 xs (gatD d) (gat s):=by
 unfold gatD gat
 rw[hR.gone]
 cases h1:s.R 1 with
 | nil=>exact StE.no _ _ _
 | cons n r =>
  simp only
  rw[hR.ma,hR.bx,hR.L,hR.en,hR.line]
  obtain⟨k1,hn⟩:=hR.hv
  have hlen:=hR.len
  have hno:=hR.gon n (by rw[h1];simp)
  have hG:Gt (gdx s.ma s.bx n).2.1 (gdx s.ma s.bx n).2.2/\ ∀y,(y<=(gdx s.ma s.bx n).2.1\/y∈(gdx s.ma s.bx n).2.2)->(y<=s.ma\/y∈s.bx)\/y=n:=by
   unfold gdx
   split
   ·rename_i hc
    have hg:Gt s.ma (insI n s.bx):=⟨hR.gt.low,hR.gt.top,zej n _ hR.gt.ris (fun q=>hc.2.2 (.inr q)),fun y hy=>by
     rcases (zcc n y s.bx).1 hy with rfl|hy
     ·exact⟨by have:=hc.2.2;omega,hc.2.1⟩
     ·exact hR.gt.bey y hy⟩
    obtain⟨a1,a2,a3,a4⟩:=zfi _ _ hg
    refine⟨a1,fun y hy=> ?_⟩
    rcases (a4 y).1 hy with h|h
    ·exact .inl (.inl h)
    ·rcases (zcc n y s.bx).1 h with rfl|h
     ·exact .inr rfl
     ·exact .inl (.inr h)
   ·exact⟨hR.gt,fun y hy=> .inl hy⟩
  have hG2: ∀y,(y<=s.ma\/y∈s.bx)->(y<=(gdx s.ma s.bx n).2.1\/y∈(gdx s.ma s.bx n).2.2):=by
   intro y hy
   unfold gdx
   split
   ·rename_i hc
    have hg:Gt s.ma (insI n s.bx):=⟨hR.gt.low,hR.gt.top,zej n _ hR.gt.ris (fun q=>hc.2.2 (.inr q)),fun y hy=>by
     rcases (zcc n y s.bx).1 hy with rfl|hy
     ·exact⟨by have:=hc.2.2;omega,hc.2.1⟩
     ·exact hR.gt.bey y hy⟩
    obtain⟨a1,a2,a3,a4⟩:=zfi _ _ hg
    refine (a4 y).2 ?_
    rcases hy with h|h
    ·exact .inl h
    ·exact .inr ((zcc n y s.bx).2 (.inr h))
   ·exact hy
  have r0:upd (upd s.R 1 r) 0 (s.R 0++frx s.L s.en n) 0=s.R 0++frx s.L s.en n:=zad _ _ _
  have r1:upd (upd s.R 1 r) 0 (s.R 0++frx s.L s.en n) 1=r:=by rw[zaa _ _ (by omega),zad]
  have ro: ∀j,2<=j->upd (upd s.R 1 r) 0 (s.R 0++frx s.L s.en n) j=s.R j:=fun j hj=>by rw[zaa _ _ (by omega),zaa _ _ (by omega)]
  refine StE.yes (by simp) ⟨P++frx s.L s.en n,t,?_⟩
  exact { hR with
   L:=rfl
   en:=rfl
   ma:=rfl
   bx:=rfl
   line:=r0.symm
   gone:=r1.symm
   que:=fun j hj=>(hR.que j hj).trans (ro (18+j) (by omega)).symm
   lan:=fun i hi hni=>by
    obtain⟨q1,q2,q3,q4⟩:=hR.lan i hi hni
    exact⟨q1,q2,(ro (2+i) (by omega)).trans q3,q4⟩
   tak:=fun i hi hni=>by rw[List.take_append_of_le_length hlen];exact hR.tak i hi hni
   tal:=fun n=>by rw[zdr s _ n (fun j hj=>ro (18+j) (by omega))];exact hR.tal n
   gt:=hG.1
   g1:=fun x hx2=>by
    rcases hG.2 x hx2 with h|rfl
    ·exact hR.g1 x h
    ·exact .inr (.inr hno)
   g2:=fun x hx2=>hG2 x (hR.g2 x hx2)
   gon:=fun n2 hn2=>by
    have hn3:n2∈r:=by rw[<-r1];exact hn2
    exact hR.gon n2 (by rw[h1];exact List.mem_cons_of_mem _ hn3)
   hv:=⟨k1,hn.gate2 (n:=n) rfl rfl r0⟩
   pl:=(List.drop_append_of_le_length hlen).trans (by rw[hR.pl];exact r0.symm) }
end
section
variable {c:Cf} {T:List Tx} {m0:Int} {xs:List Int} {s:Sy} {d:Ds} {P:List Int} {t k:Nat}
theorem zwk (f:Int) (x:Dc):(srv f x).n=x.n:=by unfold srv;split<;>rfl
theorem zxt (f:Int) (l:List Dc):(l.map (srv f)).map (·.n)=l.map (·.n):=by
 rw[List.map_map]
 exact List.map_congr_left fun x _=>zwk f x
theorem Rl.pos (hR:Rl c T m0 xs s d P t) (hI:Iv c T s k) {i:Nat} (h:s.num i≠0):0<s.num i:=by
 rcases hI.held i with h1|h1
 ·exact absurd h1 h
 ·omega
theorem zxu (hR:Rl c T m0 xs s d P t) (hI:Iv c T s k) {b:Nat} (hb:b<16):StE c T m0 xs (ownD d b) (own s b):=by
 have hq:=hR.que b hb
 unfold ownD own
 cases hd:d.que b with
 | nil =>
  rw[hd]at hq
  rw[<-hq]
  exact StE.no _ _ _
 | cons q r0 =>
  rw[hd]at hq
  rw[<-hq]
  simp only[List.map_cons]
  have hq0:=hR.qua b hb q (by rw[hd];simp)
  have r0':upd s.R (18+b) (r0.map (·.2)) 0=s.R 0:=zaa _ _ (by omega)
  have r1':upd s.R (18+b) (r0.map (·.2)) 1=s.R 1:=zaa _ _ (by omega)
  have r2': ∀i,i<16->upd s.R (18+b) (r0.map (·.2)) (2+i)=s.R (2+i):=fun i hi=>zaa _ _ (by omega)
  have rq: ∀j,j≠b->upd s.R (18+b) (r0.map (·.2)) (18+j)=s.R (18+j):=fun j hj=>zaa _ _ (by omega)
  have rb:upd s.R (18+b) (r0.map (·.2)) (18+b)=r0.map (·.2):=zad _ _ _
  obtain⟨kk,hn⟩:=hR.hv
  have hque: ∀j,j<16->((upd d.que b r0) j).map (·.2)=upd s.R (18+b) (r0.map (·.2)) (18+j):=fun j hj=>by
   by_cases e:j=b
   ·subst e;rw[zad,rb]
   ·rw[zaa _ _ e,rq j e];exact hR.que j hj
  have hqua: ∀j,j<16-> ∀p∈upd d.que b r0 j,(0<p.1->(p.1-1).toNat<16/\s.num (p.1-1).toNat=p.2/\0<p.2)/\(¬0<p.1->p.1<0/\p.2=p.1):=fun j hj p hp=>by
   by_cases e:j=b
   ·subst e
    rw[zad]at hp
    exact hR.qua j hj p (by rw[hd];exact List.mem_cons_of_mem _ hp)
   ·rw[zaa _ _ e]at hp
    exact hR.qua j hj p hp
  have htal: ∀n,updI s.F q.2 (s.F q.2-1) n=(cntQ { s with R:=upd s.R (18+b) (r0.map (·.2)),F:=updI s.F q.2 (s.F q.2-1) } n:Int):=fun n=>by
   have h:=zse s { s with R:=upd s.R (18+b) (r0.map (·.2)),F:=updI s.F q.2 (s.F q.2-1) } b q.2 n (r0.map (fun x:Int×Int=>x.2)) hb hq.symm rb (fun j _ hj=>rq j hj)
   have h1:=hR.tal n
   by_cases e:n=q.2
   ·subst e
    rw[zbb]
    rw[if_pos rfl]at h
    omega
   ·rw[zaq _ _ e]
    rw[if_neg e]at h
    omega
  by_cases hp:0<q.1
  ·obtain⟨a1,a2,a3⟩:=hq0.1 hp
   rw[if_pos hp,if_pos hp]
   refine StE.yes (by simp) ⟨P,t,?_⟩
   exact { hR with
    line:=hR.line.trans r0'.symm
    gone:=hR.gone.trans r1'.symm
    que:=hque
    has:=fun i hi=>by
     show (upd d.lan (q.1-1).toNat _ i).has=true↔_
     by_cases e:i=(q.1-1).toNat
     ·subst e;rw[zad];exact hR.has _ hi
     ·rw[zaa _ _ e];exact hR.has i hi
    lan:=fun i hi hni=>by
     obtain⟨q1,q2,q3,q4⟩:=hR.lan i hi hni
     show (upd d.lan (q.1-1).toNat _ i).n=_/\(upd d.lan (q.1-1).toNat _ i).sent<=_/\_=List.drop (upd d.lan (q.1-1).toNat _ i).sent _/\updI s.F q.2 _ (s.num i)=((upd d.lan (q.1-1).toNat _ i).sent:Int)-((upd d.lan (q.1-1).toNat _ i).acked:Int)
     by_cases e:i=(q.1-1).toNat
     ·subst e
      rw[zad,a2,zbb]
      rw[a2]at q1 q2 q3 q4
      refine⟨q1,q2,(r2' _ hi).trans q3,?_⟩
      show _=((d.lan (q.1-1).toNat).sent:Int)-(((d.lan (q.1-1).toNat).acked+1:Nat):Int)
      omega
     ·have hne:s.num i≠q.2:=fun h=>e (hR.apart i _ hi a1 hni (h.trans a2.symm))
      rw[zaa _ _ e,zaq _ _ hne]
      exact⟨q1,q2,(r2' i hi).trans q3,q4⟩
    qua:=hqua
    tal:=htal
    cal:=fun x hx=>by
     obtain⟨c1,c2,c3⟩:=hR.cal x hx
     refine⟨c1,?_,c3⟩
     show updI s.F q.2 _ x.n=_
     rw[zaq _ _ (by omega)]
     exact c2
    out:=fun n hn2 hx=>by
     obtain⟨o1,o2⟩:=hR.out n hn2 hx
     refine⟨o1,?_⟩
     show updI s.F q.2 _ n=0
     rw[zaq _ _ (by omega)]
     exact o2
    gon:=fun n hn2=>hR.gon n (by rw[<-r1'];exact hn2)
    hv:=⟨kk,hn.same rfl rfl r0'⟩
    pl:=hR.pl.trans r0'.symm }
  ·obtain⟨a1,a2⟩:=hq0.2 hp
   rw[if_neg hp,if_neg hp]
   refine StE.yes (by simp) ⟨P,t,?_⟩
   exact { hR with
    line:=hR.line.trans r0'.symm
    gone:=hR.gone.trans r1'.symm
    que:=hque
    lan:=fun i hi hni=>by
     obtain⟨q1,q2,q3,q4⟩:=hR.lan i hi hni
     have:=hR.pos hI hni
     refine⟨q1,q2,(r2' i hi).trans q3,?_⟩
     show updI s.F q.2 _ (s.num i)=_
     rw[zaq _ _ (by omega)]
     exact q4
    qua:=hqua
    tal:=htal
    cnd:=by
     show ((d.cal.map (srv q.1)).map (·.n)).Nodup
     rw[zxt]
     exact hR.cnd
    cal:=fun x hx=>by
     obtain⟨y,hy,rfl⟩:=List.mem_map.1 hx
     obtain⟨c1,c2,c3⟩:=hR.cal y hy
     show (srv q.1 y).n<0/\updI s.F q.2 _ (srv q.1 y).n=((srv q.1 y).asked:Int)-((srv q.1 y).served:Int)/\s.G (srv q.1 y).n=if (srv q.1 y).ended=true then 2 else 1
     by_cases e:y.n=q.1
     ·have e2:srv q.1 y={ y with served:=y.served+1 }:=if_pos e
      rw[e2]
      refine⟨c1,?_,c3⟩
      show updI s.F q.2 (s.F q.2-1) y.n=(y.asked:Int)-((y.served+1:Nat):Int)
      rw[e,a2,zbb]
      rw[e]at c2
      omega
     ·have e2:srv q.1 y=y:=if_neg e
      rw[e2,zaq _ _ (by rw[a2];exact e)]
      exact⟨c1,c2,c3⟩
    out:=fun n hn2 hx=>by
     obtain⟨o1,o2⟩:=hR.out n hn2 (fun y hy=>by
      have:=hx (srv q.1 y) (List.mem_map.2 ⟨y,hy,rfl⟩)
      rw[zwk]at this
      exact this)
     refine⟨o1,?_⟩
     show updI s.F q.2 _ n=0
     rw[zaq _ _ (fun e=>by
      have h1:=hR.tal n
      have h2:=zvb (s:=s) (n:=n) hb (by rw[<-hq,e];simp)
      omega)]
     exact o2
    gon:=fun n hn2=>hR.gon n (by rw[<-r1'];exact hn2)
    hv:=⟨kk,hn.same rfl rfl r0'⟩
    pl:=hR.pl.trans r0'.symm }
theorem Rl.queue_of (hR:Rl c T m0 xs s d P t) {n:Int} (hn:0<n) {j:Nat} (hj:j<16) (h:n∈s.R (18+j)): ∃i,i<16/\s.num i=n:=by
 rw[<-hR.que j hj]at h
 obtain⟨q,hq,rfl⟩:=List.mem_map.1 h
 obtain⟨h1,h2⟩:=hR.qua j hj q hq
 by_cases hp:0<q.1
 ·exact⟨_,(h1 hp).1,(h1 hp).2.1⟩
 ·have:=h2 hp
  omega
theorem ziu {s:Sy} {n:Int} (h: ∀j,j<16->n∉s.R (18+j)):cntQ s n=0:=by
 unfold cntQ
 have:(List.range 16).map (fun j=>(s.R (18+j)).count n)=(List.range 16).map (fun _=>0):=List.map_congr_left fun j hj=>List.count_eq_zero.2 (h j (by simpa using hj))
 rw[this]
 rfl
theorem zxv (hR:Rl c T m0 xs s d P t) (hI:Iv c T s k) (hc:c.may) {i:Nat} (hi:i<16):StE c T m0 xs (lanD c T d i) (lan c T s i):=by
 obtain⟨kk,hn⟩:=hR.hv
 have hlen:=hR.len
 unfold lanD lan
 by_cases h0:s.num i=0
 ·have hf:(d.lan i).has=false:=by
   cases hx:(d.lan i).has with
   | false=>rfl
   | true=>exact absurd h0 ((hR.has i hi).1 hx)
  rw[if_pos hf,if_pos h0,hR.line]
  cases h1:s.R 0 with
  | nil=>exact StE.no _ _ _
  | cons n r =>
   simp only
   have hn1:=(hI.line n (by rw[h1];simp)).1
   have hpl:=hR.pl
   rw[h1]at hpl
   have hsp:P=P.take t++n::r:=by rw[<-hpl,List.take_append_drop]
   have hnd:=hn.nd
   rw[hsp,List.nodup_append]at hnd
   have hnot:n∉P.take t:=fun hm=>hnd.2.2 n hm n (by simp) rfl
   have htk:P.take (t+1)=P.take t++[n]:=by
    rw[List.take_add_one]
    have:P[t]? = some n:=by
     have:=congrArg (fun l=>l[0]?) hpl
     simpa[List.getElem?_drop]using this
    rw[this]
    rfl
   have hdk:P.drop (t+1)=r:=by
    have:P.drop (t+1)=(P.drop t).drop 1:=by rw[List.drop_drop]
    rw[this,hpl]
    rfl
   have hF:s.F n=0:=by
    rw[hR.tal n,ziu (fun j hj hm=> ?_)]
    ·rfl
    ·obtain⟨i',hi',e⟩:=hR.queue_of (by omega) hj hm
     exact hnot (by rw[<-e];exact hR.tak i' hi' (by omega))
   have r0:upd (upd s.R 0 r) (2+i) (shs c T n) 0=r:=by rw[zaa _ _ (by omega),zad]
   have r1:upd (upd s.R 0 r) (2+i) (shs c T n) 1=s.R 1:=by rw[zaa _ _ (by omega),zaa _ _ (by omega)]
   have rq: ∀j,upd (upd s.R 0 r) (2+i) (shs c T n) (18+j)=s.R (18+j):=fun j=>by rw[zaa _ _ (by omega),zaa _ _ (by omega)]
   refine StE.yes (by simp) ⟨P,t+1,?_⟩
   exact { hR with
    line:=r0.symm
    gone:=hR.gone.trans r1.symm
    que:=fun j hj=>(hR.que j hj).trans (rq j).symm
    has:=fun j hj=>by
     show (upd d.lan i ⟨n,true,0,0⟩ j).has=true↔upd s.num i n j≠0
     by_cases e:j=i
     ·subst e
      rw[zad,zad]
      exact⟨fun _=>by omega,fun _=>rfl⟩
     ·rw[zaa _ _ e,zaa _ _ e]
      exact hR.has j hj
    lan:=fun j hj hnj=>by
     have hnj':upd s.num i n j≠0:=hnj
     show (upd d.lan i ⟨n,true,0,0⟩ j).n=upd s.num i n j/\(upd d.lan i ⟨n,true,0,0⟩ j).sent<=(shs c T (upd s.num i n j)).length/\upd (upd s.R 0 r) (2+i) (shs c T n) (2+j)=(shs c T (upd s.num i n j)).drop (upd d.lan i ⟨n,true,0,0⟩ j).sent/\s.F (upd s.num i n j)=((upd d.lan i ⟨n,true,0,0⟩ j).sent:Int)-((upd d.lan i ⟨n,true,0,0⟩ j).acked:Int)
     by_cases e:j=i
     ·subst e
      rw[zad,zad,zad]
      exact⟨rfl,Nat.zero_le _,rfl,hF⟩
     ·rw[zaa _ _ e]at hnj'
      rw[zaa _ _ e,zaa _ _ e,zaa _ _ (by omega),zaa _ _ (by omega)]
      exact hR.lan j hj hnj'
    apart:=fun a b ha hb hna hab=>by
     have hna':upd s.num i n a≠0:=hna
     have hab':upd s.num i n a=upd s.num i n b:=hab
     by_cases ea:a=i
     ·by_cases eb:b=i
      ·omega
      ·subst ea
       rw[zad,zaa _ _ eb]at hab'
       exact absurd (by rw[hab'];exact hR.tak b hb (by omega)) hnot
     ·rw[zaa _ _ ea]at hna' hab'
      by_cases eb:b=i
      ·subst eb
       rw[zad]at hab'
       exact absurd (by rw[<-hab'];exact hR.tak a ha hna') hnot
      ·rw[zaa _ _ eb]at hab'
       exact hR.apart a b ha hb hna' hab'
    tak:=fun a ha hna=>by
     have hna':upd s.num i n a≠0:=hna
     show upd s.num i n a∈_
     rw[htk]
     by_cases ea:a=i
     ·subst ea;rw[zad];simp
     ·rw[zaa _ _ ea]at hna' ⊢
      exact List.mem_append_left _ (hR.tak a ha hna')
    qua:=fun j hj q hq=>by
     obtain⟨h2,h3⟩:=hR.qua j hj q hq
     refine⟨fun hp=> ?_,h3⟩
     obtain⟨b1,b2,b3⟩:=h2 hp
     refine⟨b1,?_,b3⟩
     show upd s.num i n _=_
     rw[zaa _ _ (fun e=>by rw[e]at b2;omega)]
     exact b2
    tal:=fun m=>by rw[zdr s _ m (fun j hj=>rq j)];exact hR.tal m
    gon:=fun m hm=>hR.gon m (by rw[<-r1];exact hm)
    hv:=⟨kk,hn.take rfl rfl h1 r0⟩
    pl:=hdk.trans r0.symm }
 ·have hf: ¬(d.lan i).has=false:=fun hx=>by
   have:=(hR.has i hi).2 h0
   rw[hx]at this
   cases this
  rw[if_neg hf,if_neg h0]
  obtain⟨l1,l2,l3,l4⟩:=hR.lan i hi h0
  have hpos:=hR.pos hI h0
  rw[l1]
  by_cases hs:(d.lan i).sent<(shs c T (s.num i)).length
  ·rw[if_pos hs]
   have hR2:s.R (2+i)=(shs c T (s.num i)).getD (d.lan i).sent 0::(shs c T (s.num i)).drop ((d.lan i).sent+1):=by
    rw[l3,List.drop_eq_getElem_cons hs]
    simp[List.getD,hs]
   rw[hR2]
   simp only
   have hql:=hI.left i hi ((shs c T (s.num i)).getD (d.lan i).sent 0) (by rw[hR2];simp)
   generalize (shs c T (s.num i)).getD (d.lan i).sent 0=q at hR2 hql
   have hq16:q.toNat<16:=by have:=hc.2.1.2;omega
   have hlq:(d.que q.toNat).length=(s.R (18+q.toNat)).length:=by rw[<-hR.que _ hq16];simp
   rw[hlq]
   by_cases hw:((s.R (18+q.toNat)).length:Int)<c.q
   ·rw[if_neg (by omega),if_pos hw]
    have r0:upd (asks s q.toNat (s.num i)).R (2+i) ((shs c T (s.num i)).drop ((d.lan i).sent+1)) 0=s.R 0:=by rw[zaa _ _ (by omega)];exact zmx s _ _
    have r1:upd (asks s q.toNat (s.num i)).R (2+i) ((shs c T (s.num i)).drop ((d.lan i).sent+1)) 1=s.R 1:=by
     rw[zaa _ _ (by omega)]
     show upd s.R (18+q.toNat) _ 1=_
     rw[zaa _ _ (by omega)]
    have rl: ∀j,j<16->j≠i->upd (asks s q.toNat (s.num i)).R (2+i) ((shs c T (s.num i)).drop ((d.lan i).sent+1)) (2+j)=s.R (2+j):=fun j hj hne=>by
     rw[zaa _ _ (by omega)]
     show upd s.R (18+q.toNat) _ (2+j)=_
     rw[zaa _ _ (by omega)]
    have rq: ∀j,j≠q.toNat->upd (asks s q.toNat (s.num i)).R (2+i) ((shs c T (s.num i)).drop ((d.lan i).sent+1)) (18+j)=s.R (18+j):=fun j hne=>by
     rw[zaa _ _ (by omega)]
     show upd s.R (18+q.toNat) _ (18+j)=_
     rw[zaa _ _ (by omega)]
    have rk:upd (asks s q.toNat (s.num i)).R (2+i) ((shs c T (s.num i)).drop ((d.lan i).sent+1)) (18+q.toNat)=s.R (18+q.toNat)++[s.num i]:=by
     rw[zaa _ _ (by omega)]
     show upd s.R (18+q.toNat) _ (18+q.toNat)=_
     rw[zad]
    refine StE.yes (by simp) ⟨P,t,?_⟩
    exact { hR with
     line:=hR.line.trans r0.symm
     gone:=hR.gone.trans r1.symm
     que:=fun j hj=>by
      show (upd d.que q.toNat (d.que q.toNat++[((i:Int)+1,s.num i)]) j).map (·.2)=_
      by_cases e:j=q.toNat
      ·subst e
       rw[zad,List.map_append,hR.que _ hj]
       exact rk.symm
      ·rw[zaa _ _ e]
       exact (hR.que j hj).trans (rq j e).symm
     has:=fun j hj=>by
      show (upd d.lan i _ j).has=true↔_
      by_cases e:j=i
      ·subst e
       rw[zad]
       exact⟨fun _=>h0,fun _=>rfl⟩
      ·rw[zaa _ _ e]
       exact hR.has j hj
     lan:=fun j hj hnj=>by
      show (upd d.lan i ⟨s.num i,true,(d.lan i).sent+1,(d.lan i).acked⟩ j).n=s.num j/\(upd d.lan i ⟨s.num i,true,(d.lan i).sent+1,(d.lan i).acked⟩ j).sent<=_/\upd (asks s q.toNat (s.num i)).R (2+i) _ (2+j)=List.drop (upd d.lan i ⟨s.num i,true,(d.lan i).sent+1,(d.lan i).acked⟩ j).sent _/\updI s.F (s.num i) (s.F (s.num i)+1) (s.num j)=((upd d.lan i ⟨s.num i,true,(d.lan i).sent+1,(d.lan i).acked⟩ j).sent:Int)-((upd d.lan i ⟨s.num i,true,(d.lan i).sent+1,(d.lan i).acked⟩ j).acked:Int)
      by_cases e:j=i
      ·subst e
       rw[zad,zad,zbb]
       refine⟨rfl,hs,rfl,?_⟩
       show _=(((d.lan j).sent+1:Nat):Int)-((d.lan j).acked:Int)
       omega
      ·have hne:s.num j≠s.num i:=fun h=>e (hR.apart j i hj hi hnj h)
       rw[zaa _ _ e,rl j hj e,zaq _ _ hne]
       exact hR.lan j hj hnj
     qua:=fun j hj p hp=>by
      have hp':p∈upd d.que q.toNat (d.que q.toNat++[((i:Int)+1,s.num i)]) j:=hp
      by_cases e:j=q.toNat
      ·subst e
       rw[zad]at hp'
       rcases List.mem_append.1 hp' with h|h
       ·exact hR.qua _ hj p h
       ·simp only[List.mem_singleton]at h
        subst h
        refine⟨fun _=>⟨by show ((i:Int)+1-1).toNat<16;omega,?_,hpos⟩,fun hh=>absurd (show (0:Int)<(i:Int)+1 by omega) hh⟩
        show s.num ((i:Int)+1-1).toNat=s.num i
        congr 1
        omega
      ·rw[zaa _ _ e]at hp'
       exact hR.qua j hj p hp'
     tal:=fun m=>by
      refine Eq.trans ?_ (congrArg (fun x:Nat=>(x:Int)) (zkt s _ q.toNat (s.num i) m hq16 rk (fun j _ hj=>rq j hj)).symm)
      have h1:=hR.tal m
      show updI s.F (s.num i) (s.F (s.num i)+1) m=_
      by_cases e:m=s.num i
      ·subst e
       rw[zbb,if_pos rfl]
       omega
      ·rw[zaq _ _ e,if_neg e]
       omega
     cal:=fun x hx=>by
      obtain⟨c1,c2,c3⟩:=hR.cal x hx
      refine⟨c1,?_,c3⟩
      show updI s.F (s.num i) _ x.n=_
      rw[zaq _ _ (by omega)]
      exact c2
     out:=fun n hn2 hx=>by
      obtain⟨o1,o2⟩:=hR.out n hn2 hx
      refine⟨o1,?_⟩
      show updI s.F (s.num i) _ n=0
      rw[zaq _ _ (by omega)]
      exact o2
     gon:=fun n hn2=>hR.gon n (by rw[<-r1];exact hn2)
     hv:=⟨kk,hn.same rfl rfl r0⟩
     pl:=hR.pl.trans r0.symm }
   ·rw[if_pos (by omega),if_neg hw]
    exact StE.no _ _ _
  ·rw[if_neg hs]
   have hR2:s.R (2+i)=[]:=by
    rw[l3]
    exact List.drop_eq_nil_of_le (by omega)
   rw[hR2]
   simp only
   have hF0:=hR.tal (s.num i)
   by_cases hz:s.F (s.num i)=0
   ·rw[if_neg (by omega),if_pos hz]
    have hno: ∀j,j<16->s.num i∉s.R (18+j):=fun j hj=>zit (by omega) j hj
    have r0:upd s.R 1 (s.R 1++[s.num i]) 0=s.R 0:=zxn _ _
    have ro: ∀j,2<=j->upd s.R 1 (s.R 1++[s.num i]) j=s.R j:=fun j hj=>zaa _ _ (by omega)
    have r1:upd s.R 1 (s.R 1++[s.num i]) 1=s.R 1++[s.num i]:=zad _ _ _
    refine StE.yes (by simp) ⟨P,t,?_⟩
    exact { hR with
     line:=hR.line.trans r0.symm
     gone:=by
      show d.gone++[s.num i]=_
      rw[hR.gone]
      exact r1.symm
     que:=fun j hj=>(hR.que j hj).trans (ro (18+j) (by omega)).symm
     has:=fun j hj=>by
      show (upd d.lan i ⟨s.num i,false,(d.lan i).sent,(d.lan i).acked⟩ j).has=true↔upd s.num i 0 j≠0
      by_cases e:j=i
      ·subst e
       rw[zad,zad]
       exact⟨fun h=>(by cases h),fun h=>absurd rfl h⟩
      ·rw[zaa _ _ e,zaa _ _ e]
       exact hR.has j hj
     lan:=fun j hj hnj=>by
      have hnj':upd s.num i 0 j≠0:=hnj
      have e:j≠i:=fun e=>by subst e;rw[zad]at hnj';exact hnj' rfl
      rw[zaa _ _ e]at hnj'
      obtain⟨q1,q2,q3,q4⟩:=hR.lan j hj hnj'
      show (upd d.lan i ⟨s.num i,false,(d.lan i).sent,(d.lan i).acked⟩ j).n=upd s.num i 0 j/\(upd d.lan i ⟨s.num i,false,(d.lan i).sent,(d.lan i).acked⟩ j).sent<=(shs c T (upd s.num i 0 j)).length/\upd s.R 1 (s.R 1++[s.num i]) (2+j)=(shs c T (upd s.num i 0 j)).drop (upd d.lan i ⟨s.num i,false,(d.lan i).sent,(d.lan i).acked⟩ j).sent/\s.F (upd s.num i 0 j)=((upd d.lan i ⟨s.num i,false,(d.lan i).sent,(d.lan i).acked⟩ j).sent:Int)-((upd d.lan i ⟨s.num i,false,(d.lan i).sent,(d.lan i).acked⟩ j).acked:Int)
      rw[zaa _ _ e,zaa _ _ e,ro (2+j) (by omega)]
      exact⟨q1,q2,q3,q4⟩
     apart:=fun a b ha hb hna hab=>by
      have hna':upd s.num i 0 a≠0:=hna
      have hab':upd s.num i 0 a=upd s.num i 0 b:=hab
      have ea:a≠i:=fun e=>by subst e;rw[zad]at hna';exact hna' rfl
      have eb:b≠i:=fun e=>by subst e;rw[hab',zad]at hna';exact hna' rfl
      rw[zaa _ _ ea]at hna' hab'
      rw[zaa _ _ eb]at hab'
      exact hR.apart a b ha hb hna' hab'
     tak:=fun a ha hna=>by
      have hna':upd s.num i 0 a≠0:=hna
      have ea:a≠i:=fun e=>by subst e;rw[zad]at hna';exact hna' rfl
      rw[zaa _ _ ea]at hna'
      show upd s.num i 0 a∈_
      rw[zaa _ _ ea]
      exact hR.tak a ha hna'
     qua:=fun j hj q hq=>by
      obtain⟨h2,h3⟩:=hR.qua j hj q hq
      refine⟨fun hp=> ?_,h3⟩
      obtain⟨b1,b2,b3⟩:=h2 hp
      refine⟨b1,?_,b3⟩
      show upd s.num i 0 _=_
      rw[zaa _ _ (fun e=>by
       rw[e]at b2
       refine hno j hj ?_
       rw[b2,<-hR.que j hj]
       exact List.mem_map.2 ⟨q,hq,rfl⟩)]
      exact b2
     tal:=fun m=>by rw[zdr s _ m (fun j hj=>ro (18+j) (by omega))];exact hR.tal m
     gon:=fun m hm=>by
      have hm':m∈s.R 1++[s.num i]:=by rw[<-r1];exact hm
      rcases List.mem_append.1 hm' with h|h
      ·exact hR.gon m h
      ·simp only[List.mem_singleton]at h
       subst h
       exact hn.sub _ (List.mem_of_mem_take (hR.tak i hi h0))
     hv:=⟨kk,hn.same rfl rfl r0⟩
     pl:=hR.pl.trans r0.symm }
   ·rw[if_pos (by omega),if_neg hz]
    exact StE.no _ _ _
end
end Go.Proofs.YtaaghcimfcjehaaGreatDoor
