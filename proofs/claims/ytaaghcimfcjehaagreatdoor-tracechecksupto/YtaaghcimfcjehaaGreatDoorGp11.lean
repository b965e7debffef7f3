/- Contracts and plain lemmas of this claim. -/
import Derived.Test.YtaaghcimfcjehaaGreatDoorGp10
set_option linter.unusedSimpArgs false
set_option linter.unusedVariables false
namespace Go.Proofs.YtaaghcimfcjehaaGreatDoor
open Go.ChangeShapes Go.WideShapes Go.ChangeAt Go.RowKit Go.Lib Go.Maps
def Zs.put (Z:Zs) (i:Nat) (q:Sq):Zs:={ Z with q:=upd Z.q i q }
def Sy.put (s:Sy) (i:Nat) (ys:List Int):Sy:={ s with R:=upd s.R i ys }
def Nwr (w:World) (o n:Sq):Prop:=qb n.lo=qb o.lo\/ ∃k,qb n.lo=some k/\w.heap.size<=k
def Nwb (wb:World) (Z:Zs) (o n:Sq):Prop:=qb n.lo=qb o.lo\/ ∀k,qb n.lo=some k->k∉Z.own/\wb.heap.size<=k
section
variable {w w' wb:World} {Z:Zs} {c:Cf} {s:Sy} {k:Nat}
theorem Nwr.b {o n:Sq} (hm:Nwr w o n) (h:SyM w Z c s k):Nwb w Z o n:=by
 rcases hm with hm|⟨x,h1,h2⟩
 ·exact Or.inl hm
 ·exact Or.inr fun y hy=>by
   rw[h1]at hy
   cases hy
   exact⟨fun h3=>by have:=h.lt _ h3;omega,h2⟩
theorem Apa.six_ne (h:Apa Z):Z.sb≠Z.g/\Z.sb≠Z.lb/\Z.sb≠Z.qq/\Z.sb≠Z.ob/\Z.sb≠Z.cb/\Z.g≠Z.lb/\Z.g≠Z.qq/\Z.g≠Z.ob/\Z.g≠Z.cb/\Z.lb≠Z.qq/\Z.lb≠Z.ob/\Z.lb≠Z.cb/\Z.qq≠Z.ob/\Z.qq≠Z.cb/\Z.ob≠Z.cb:=by
 have h1:=h.nd
 simp only[Zs.six,List.nodup_cons,List.mem_cons,List.not_mem_nil,or_false,not_or,List.nodup_nil,and_true,not_false_eq_true]at h1
 obtain⟨⟨a1,a2,a3,a4,a5⟩,⟨b1,b2,b3,b4⟩,⟨c1,c2,c3⟩,⟨d1,d2⟩,e1⟩:=h1
 exact⟨a1,a2,a3,a4,a5,b1,b2,b3,b4,c1,c2,c3,d1,d2,e1⟩
theorem Apa.put (h:SyM w Z c s k) {i:Nat} (hi:i<34) {q:Sq} (hm:Nwb wb Z (Z.q i) q):Apa (Z.put i q):=by
 have ha:=h.apa
 refine⟨ha.nd,ha.nB,fun j b hb=> ?_,fun a b x hab hx hy=> ?_,fun j hj=> ?_⟩
 ·by_cases e:j=i
  ·subst e
   rw[show (Z.put j q).q j=q from zad _ _ _]at hb
   rcases hm with hm|hm
   ·exact ha.nR j b (by rw[<-hm];exact hb)
   ·have ho:=(hm b hb).1
    exact⟨fun h1=>ho (Zs.mem_own.2 (Or.inl h1)),fun h1=>ho (Zs.mem_own.2 (Or.inr (Or.inl h1)))⟩
  ·rw[show (Z.put i q).q j=Z.q j from zaa _ _ e]at hb
   exact ha.nR j b hb
 ·have hnew: ∀j,j≠i-> ∀y,qb q.lo=some y->qb (Z.q j).lo≠some y:=by
   intro j hj y hy e
   rcases hm with hm|hm
   ·rw[hm]at hy
    exact ha.rr j i y hj e hy
   ·have ho:=(hm y hy).1
    by_cases hj34:j<34
    ·exact ho (Zs.mem_own.2 (Or.inr (Or.inr (Zs.mem_rows hj34 e))))
    ·rw[ha.far j (by omega)]at e;cases e
  by_cases ea:a=i
  ·subst ea
   rw[show (Z.put a q).q a=q from zad _ _ _]at hx
   rw[show (Z.put a q).q b=Z.q b from zaa _ _ (Ne.symm hab)]at hy
   exact hnew b (Ne.symm hab) x hx hy
  ·rw[show (Z.put i q).q a=Z.q a from zaa _ _ ea]at hx
   by_cases eb:b=i
   ·subst eb
    rw[show (Z.put b q).q b=q from zad _ _ _]at hy
    exact hnew a ea x hy hx
   ·rw[show (Z.put i q).q b=Z.q b from zaa _ _ eb]at hy
    exact ha.rr a b x hab hx hy
 ·rw[show (Z.put i q).q j=Z.q j from zaa _ _ (by omega)]
  exact ha.far j hj
theorem Zs.put_own {i:Nat} {q:Sq} (hi:i<34) (hm:Nwb wb Z (Z.q i) q): ∀x∈(Z.put i q).own,x∈Z.own\/wb.heap.size<=x:=by
 intro x hx
 rcases Zs.mem_own.1 hx with h1|h1|h1
 ·exact Or.inl (Zs.mem_own.2 (Or.inl h1))
 ·exact Or.inl (Zs.mem_own.2 (Or.inr (Or.inl h1)))
 ·obtain⟨j,hj,h2⟩:=Zs.rows_mem h1
  by_cases e:j=i
  ·subst e
   rw[show (Z.put j q).q j=q from zad _ _ _]at h2
   rcases hm with hm|hm
   ·exact Or.inl (Zs.mem_own.2 (Or.inr (Or.inr (Zs.mem_rows hj (by rw[<-hm];exact h2)))))
   ·exact Or.inr (hm x h2).2
  ·rw[show (Z.put i q).q j=Z.q j from zaa _ _ e]at h2
   exact Or.inl (Zs.mem_own.2 (Or.inr (Or.inr (Zs.mem_rows hj h2))))
theorem SyM.part (h:SyM w Z c s k) {i b:Nat} (hi:i<34) (hb:b=Z.sb\/b=Z.lb\/b=Z.qq) {q:Sq} {ys:List Int} (hF:Fr (b::(qb (Z.q i).lo).toList) w w') (hq:QR w' q.lo q.n q.c ys) (hm:Nwb wb Z (Z.q i) q) :
  (∀j,QR w' ((Z.put i q).q j).lo ((Z.put i q).q j).n ((Z.put i q).q j).c ((s.put i ys).R j))/\GG w' Z.g s.ma s.bx/\Tl w' Z.tb Z.B (65*k) s.L s.en/\(∃F,MapG kOut w' Z.ob k F/\ ∀n,s.F n=(F n).getD 0)/\(∃G,MapG kCal w' Z.cb k G/\ ∀n,s.G n=(G n).getD 0)/\Fr Z.own w w'/\(∀x∈(Z.put i q).own,x∈Z.own\/wb.heap.size<=x):=by
 have ha:=h.apa
 obtain⟨n1,n2,n3,n4,n5,n6,n7,n8,n9,n10,n11,n12,n13,n14,n15⟩:=ha.six_ne
 have hrow: ∀x,x∈(qb (Z.q i).lo).toList->x∉Z.six/\x∉Z.B:=fun x hx=>ha.nR i x (Option.mem_toList.1 hx)
 have hbB:b∉Z.B:=by
  rcases hb with rfl|rfl|rfl<;>exact ha.nB _ (by simp[Zs.six])
 have hout: ∀y,y∈Z.six->y≠b->y∉b::(qb (Z.q i).lo).toList:=by
  intro y hy hne hh
  rcases List.mem_cons.1 hh with e|e
  ·exact hne e
  ·exact (hrow y e).1 hy
 obtain⟨F,f1,f2⟩:=h.outs
 obtain⟨G,g1,g2⟩:=h.call
 refine⟨fun j=> ?_,h.gate.keep hF (hout _ (by simp[Zs.six]) ?_),h.deps.keep hF (fun x hx hh=> ?_),⟨F,f1.keep hF (hout _ (by simp[Zs.six]) ?_),f2⟩,⟨G,g1.keep hF (hout _ (by simp[Zs.six]) ?_),g2⟩,hF.mono (fun x hx _=> ?_),Zs.put_own hi hm⟩
 ·by_cases e:j=i
  ·subst e
   rw[show (Z.put j q).q j=q from zad _ _ _,show (s.put j ys).R j=ys from zad _ _ _]
   exact hq
  ·rw[show (Z.put i q).q j=Z.q j from zaa _ _ e,show (s.put i ys).R j=s.R j from zaa _ _ e]
   refine (h.rows j).keep hF (fun x hx hh=> ?_)
   rcases List.mem_cons.1 hh with e2|e2
   ·rcases hb with hb|hb|hb<;>exact (ha.nR j x hx).1 (by simp[Zs.six,e2,hb])
   ·exact ha.rr j i x e hx (Option.mem_toList.1 e2)
 ·rcases hb with rfl|rfl|rfl
  ·exact Ne.symm n1
  ·exact n6
  ·exact n7
 ·rcases List.mem_cons.1 hh with e|e
  ·exact hbB (e▸hx)
  ·exact (hrow x e).2 hx
 ·rcases hb with rfl|rfl|rfl
  ·exact Ne.symm n4
  ·exact Ne.symm n11
  ·exact Ne.symm n13
 ·rcases hb with rfl|rfl|rfl
  ·exact Ne.symm n5
  ·exact Ne.symm n12
  ·exact Ne.symm n14
 ·rcases List.mem_cons.1 hx with e|e
  ·refine Zs.mem_own.2 (Or.inl ?_)
   rw[e]
   rcases hb with rfl|rfl|rfl<;>simp[Zs.six]
  ·exact Zs.mem_own.2 (Or.inr (Or.inr (Zs.mem_rows hi (Option.mem_toList.1 e))))
theorem SyM.row0 (h:SyM w Z c s k) {w1:World} (q:Sq) (ys:List Int) (hF:Fr (qb (Z.q 0).lo).toList w w1) (hq:QR w1 q.lo q.n q.c ys) (hm:Nwr w (Z.q 0) q) :
  SyM (w1.setCell ⟨Z.sb,9,none⟩ q.v) (Z.put 0 q) c (s.put 0 ys) k/\Mv w Z (w1.setCell ⟨Z.sb,9,none⟩ q.v) (Z.put 0 q):=by
 have ha:=h.apa
 obtain⟨n1,n2,n3,n4,n5,n6,n7,n8,n9,n10,n11,n12,n13,n14,n15⟩:=ha.six_ne
 have hsl:Z.sb<w.heap.size:=lt_of_block h.box
 have hnr: ∀x,x∈Z.six->x∉(qb (Z.q 0).lo).toList:=fun x hx hh=>(ha.nR 0 x (Option.mem_toList.1 hh)).1 hx
 have hnq: ∀x,x∈Z.six->qb q.lo≠some x:=by
  intro x hx e
  rcases hm with hm|⟨k',hm,hk⟩
  ·exact (ha.nR 0 x (by rw[<-hm];exact e)).1 hx
  ·rw[hm]at e;cases e
   have:=h.lt _ (Zs.mem_own.2 (Or.inl hx));omega
 have hF2:Fr (Z.sb::(qb (Z.q 0).lo).toList) w (w1.setCell ⟨Z.sb,9,none⟩ q.v):=(hF.mono (fun x hx _=>by simp[hx])).then (Fr.set _ _ _ (by simp))
 have hq2:QR (w1.setCell ⟨Z.sb,9,none⟩ q.v) q.lo q.n q.c ys:=hq.keep (Fr.set (S:=[Z.sb]) w1 _ _ (by simp)) (fun b hb hh=>hnq Z.sb (by simp[Zs.six]) (by simp at hh;rw[hb,hh]))
 obtain⟨r1,r2,r3,r4,r5,r6,r7⟩:=h.part (by omega) (Or.inl rfl) hF2 hq2 (hm.b h)
 obtain⟨cl,l1,l2,l3⟩:=h.lanes
 obtain⟨cq,q1,q2,q3⟩:=h.ques
 refine⟨⟨?_,⟨cl,hF2.keep l1 ?_,l2,fun i hi=> ?_⟩,⟨cq,hF2.keep q1 ?_,q2,fun j hj=> ?_⟩,r1,r2,r3,r4,r5,Apa.put h (by omega) (hm.b h),h.may⟩,⟨r6,r7,rfl,rfl,rfl,rfl⟩⟩
 ·show (w1.setCell _ q.v).heap[Z.sb]? = _
  rw[zag _ (hF.keep h.box (hnr _ (by simp[Zs.six])))]
  simp[syC,Zs.put,Sy.put,upd]
 ·simp only[List.mem_cons,not_or]
  exact⟨Ne.symm n2,hnr Z.lb (by simp[Zs.six])⟩
 ·rw[show (Z.put 0 q).q (2+i)=Z.q (2+i) from zaa _ _ (by omega)]
  exact l3 i hi
 ·simp only[List.mem_cons,not_or]
  exact⟨Ne.symm n3,hnr Z.qq (by simp[Zs.six])⟩
 ·rw[show (Z.put 0 q).q (18+j)=Z.q (18+j) from zaa _ _ (by omega)]
  exact q3 j hj
theorem SyM.row1 (h:SyM w Z c s k) {w1:World} (q:Sq) (ys:List Int) (hF:Fr (qb (Z.q 1).lo).toList w w1) (hq:QR w1 q.lo q.n q.c ys) (hm:Nwr w (Z.q 1) q) :
  SyM (w1.setCell ⟨Z.sb,10,none⟩ q.v) (Z.put 1 q) c (s.put 1 ys) k/\Mv w Z (w1.setCell ⟨Z.sb,10,none⟩ q.v) (Z.put 1 q):=by
 have ha:=h.apa
 obtain⟨n1,n2,n3,n4,n5,n6,n7,n8,n9,n10,n11,n12,n13,n14,n15⟩:=ha.six_ne
 have hnr: ∀x,x∈Z.six->x∉(qb (Z.q 1).lo).toList:=fun x hx hh=>(ha.nR 1 x (Option.mem_toList.1 hh)).1 hx
 have hnq: ∀x,x∈Z.six->qb q.lo≠some x:=by
  intro x hx e
  rcases hm with hm|⟨k',hm,hk⟩
  ·exact (ha.nR 1 x (by rw[<-hm];exact e)).1 hx
  ·rw[hm]at e;cases e
   have:=h.lt _ (Zs.mem_own.2 (Or.inl hx));omega
 have hF2:Fr (Z.sb::(qb (Z.q 1).lo).toList) w (w1.setCell ⟨Z.sb,10,none⟩ q.v):=(hF.mono (fun x hx _=>by simp[hx])).then (Fr.set _ _ _ (by simp))
 have hq2:QR (w1.setCell ⟨Z.sb,10,none⟩ q.v) q.lo q.n q.c ys:=hq.keep (Fr.set (S:=[Z.sb]) w1 _ _ (by simp)) (fun b hb hh=>hnq Z.sb (by simp[Zs.six]) (by simp at hh;rw[hb,hh]))
 obtain⟨r1,r2,r3,r4,r5,r6,r7⟩:=h.part (by omega) (Or.inl rfl) hF2 hq2 (hm.b h)
 obtain⟨cl,l1,l2,l3⟩:=h.lanes
 obtain⟨cq,q1,q2,q3⟩:=h.ques
 refine⟨⟨?_,⟨cl,hF2.keep l1 ?_,l2,fun i hi=> ?_⟩,⟨cq,hF2.keep q1 ?_,q2,fun j hj=> ?_⟩,r1,r2,r3,r4,r5,Apa.put h (by omega) (hm.b h),h.may⟩,⟨r6,r7,rfl,rfl,rfl,rfl⟩⟩
 ·show (w1.setCell _ q.v).heap[Z.sb]? = _
  rw[zag _ (hF.keep h.box (hnr _ (by simp[Zs.six])))]
  simp[syC,Zs.put,Sy.put,upd]
 ·simp only[List.mem_cons,not_or]
  exact⟨Ne.symm n2,hnr Z.lb (by simp[Zs.six])⟩
 ·rw[show (Z.put 1 q).q (2+i)=Z.q (2+i) from zaa _ _ (by omega)]
  exact l3 i hi
 ·simp only[List.mem_cons,not_or]
  exact⟨Ne.symm n3,hnr Z.qq (by simp[Zs.six])⟩
 ·rw[show (Z.put 1 q).q (18+j)=Z.q (18+j) from zaa _ _ (by omega)]
  exact q3 j hj
theorem SyM.rowL (h:SyM w Z c s k) {i:Nat} (hi:i<c.l.toNat) {w1:World} (q:Sq) (ys:List Int) (hF:Fr (qb (Z.q (2+i)).lo).toList w w1) (hq:QR w1 q.lo q.n q.c ys) (hm:Nwb wb Z (Z.q (2+i)) q) :
  SyM (w1.setCell ⟨Z.lb,2*i+1,none⟩ q.v) (Z.put (2+i) q) c (s.put (2+i) ys) k/\Fr Z.own w (w1.setCell ⟨Z.lb,2*i+1,none⟩ q.v)/\(∀x∈(Z.put (2+i) q).own,x∈Z.own\/wb.heap.size<=x):=by
 have ha:=h.apa
 have hc:=h.may.1
 have hi16:i<16:=by omega
 obtain⟨n1,n2,n3,n4,n5,n6,n7,n8,n9,n10,n11,n12,n13,n14,n15⟩:=ha.six_ne
 have hnr: ∀x,x∈Z.six->x∉(qb (Z.q (2+i)).lo).toList:=fun x hx hh=>(ha.nR (2+i) x (Option.mem_toList.1 hh)).1 hx
 have hnq: ∀x,x∈Z.six->qb q.lo≠some x:=by
  intro x hx e
  rcases hm with hm|hm
  ·exact (ha.nR (2+i) x (by rw[<-hm];exact e)).1 hx
  ·exact (hm x e).1 (Zs.mem_own.2 (Or.inl hx))
 have hF2:Fr (Z.lb::(qb (Z.q (2+i)).lo).toList) w (w1.setCell ⟨Z.lb,2*i+1,none⟩ q.v):=(hF.mono (fun x hx _=>by simp[hx])).then (Fr.set _ _ _ (by simp))
 have hq2:QR (w1.setCell ⟨Z.lb,2*i+1,none⟩ q.v) q.lo q.n q.c ys:=hq.keep (Fr.set (S:=[Z.lb]) w1 _ _ (by simp)) (fun b hb hh=>hnq Z.lb (by simp[Zs.six]) (by simp at hh;rw[hb,hh]))
 obtain⟨r1,r2,r3,r4,r5,r6,r7⟩:=h.part (by omega) (Or.inr (Or.inl rfl)) hF2 hq2 hm
 obtain⟨cl,l1,l2,l3⟩:=h.lanes
 obtain⟨cq,q1,q2,q3⟩:=h.ques
 refine⟨⟨?_,⟨_,zag _ (hF.keep l1 (hnr _ (by simp[Zs.six]))),by simpa using l2,fun j hj=> ?_⟩,⟨cq,hF2.keep q1 ?_,q2,fun j hj=> ?_⟩,r1,r2,r3,r4,r5,Apa.put h (by omega) hm,h.may⟩,r6,r7⟩
 ·show (w1.setCell _ q.v).heap[Z.sb]? = _
  rw[hF2.keep h.box (by simp only[List.mem_cons,not_or];exact⟨n2,hnr Z.sb (by simp[Zs.six])⟩)]
  congr 3
  simp only[syC,Zs.put,Sy.put]
  rw[zaa _ _ (by omega),zaa _ _ (by omega)]
 ·obtain⟨j1,j2⟩:=l3 j hj
  refine⟨by rw[Array.getElem?_setIfInBounds_ne (by omega)];exact j1,?_⟩
  by_cases e:j=i
  ·subst e
   rw[Array.getElem?_setIfInBounds_self_of_lt (by omega),show (Z.put (2+j) q).q (2+j)=q from zad _ _ _]
  ·rw[Array.getElem?_setIfInBounds_ne (by omega),show (Z.put (2+i) q).q (2+j)=Z.q (2+j) from zaa _ _ (by omega)]
   exact j2
 ·simp only[List.mem_cons,not_or]
  exact⟨Ne.symm n10,hnr Z.qq (by simp[Zs.six])⟩
 ·rw[show (Z.put (2+i) q).q (18+j)=Z.q (18+j) from zaa _ _ (by omega)]
  exact q3 j hj
theorem SyM.rowQ (h:SyM w Z c s k) {i:Nat} (hi:i<c.s.toNat) {w1:World} (q:Sq) (ys:List Int) (hF:Fr (qb (Z.q (18+i)).lo).toList w w1) (hq:QR w1 q.lo q.n q.c ys) (hm:Nwr w (Z.q (18+i)) q) :
  SyM (w1.setCell ⟨Z.qq,i,none⟩ q.v) (Z.put (18+i) q) c (s.put (18+i) ys) k/\Mv w Z (w1.setCell ⟨Z.qq,i,none⟩ q.v) (Z.put (18+i) q):=by
 have ha:=h.apa
 have hc:=h.may.2.1
 have hl:=h.may.1
 have hi16:i<16:=by omega
 obtain⟨n1,n2,n3,n4,n5,n6,n7,n8,n9,n10,n11,n12,n13,n14,n15⟩:=ha.six_ne
 have hnr: ∀x,x∈Z.six->x∉(qb (Z.q (18+i)).lo).toList:=fun x hx hh=>(ha.nR (18+i) x (Option.mem_toList.1 hh)).1 hx
 have hnq: ∀x,x∈Z.six->qb q.lo≠some x:=by
  intro x hx e
  rcases hm with hm|⟨k',hm,hk⟩
  ·exact (ha.nR (18+i) x (by rw[<-hm];exact e)).1 hx
  ·rw[hm]at e;cases e
   have:=h.lt _ (Zs.mem_own.2 (Or.inl hx));omega
 have hF2:Fr (Z.qq::(qb (Z.q (18+i)).lo).toList) w (w1.setCell ⟨Z.qq,i,none⟩ q.v):=(hF.mono (fun x hx _=>by simp[hx])).then (Fr.set _ _ _ (by simp))
 have hq2:QR (w1.setCell ⟨Z.qq,i,none⟩ q.v) q.lo q.n q.c ys:=hq.keep (Fr.set (S:=[Z.qq]) w1 _ _ (by simp)) (fun b hb hh=>hnq Z.qq (by simp[Zs.six]) (by simp at hh;rw[hb,hh]))
 obtain⟨r1,r2,r3,r4,r5,r6,r7⟩:=h.part (by omega) (Or.inr (Or.inr rfl)) hF2 hq2 (hm.b h)
 obtain⟨cl,l1,l2,l3⟩:=h.lanes
 obtain⟨cq,q1,q2,q3⟩:=h.ques
 refine⟨⟨?_,⟨cl,hF2.keep l1 ?_,l2,fun j hj=> ?_⟩,⟨_,zag _ (hF.keep q1 (hnr _ (by simp[Zs.six]))),by simpa using q2,fun j hj=> ?_⟩,r1,r2,r3,r4,r5,Apa.put h (by omega) (hm.b h),h.may⟩,⟨r6,r7,rfl,rfl,rfl,rfl⟩⟩
 ·show (w1.setCell _ q.v).heap[Z.sb]? = _
  rw[hF2.keep h.box (by simp only[List.mem_cons,not_or];exact⟨n3,hnr Z.sb (by simp[Zs.six])⟩)]
  congr 3
  simp only[syC,Zs.put,Sy.put]
  rw[zaa _ _ (by omega),zaa _ _ (by omega)]
 ·simp only[List.mem_cons,not_or]
  exact⟨n10,hnr Z.lb (by simp[Zs.six])⟩
 ·rw[show (Z.put (18+i) q).q (2+j)=Z.q (2+j) from zaa _ _ (by omega)]
  exact l3 j hj
 ·by_cases e:j=i
  ·subst e
   rw[Array.getElem?_setIfInBounds_self_of_lt (by omega),show (Z.put (18+j) q).q (18+j)=q from zad _ _ _]
  ·rw[Array.getElem?_setIfInBounds_ne (by omega),show (Z.put (18+i) q).q (18+j)=Z.q (18+j) from zaa _ _ (by omega)]
   exact q3 j hj
theorem SyM.setRead (h:SyM w Z c s k) (n:Int):SyM (w.setCell ⟨Z.sb,7,none⟩ (.int .i64 n)) Z c { s with read:=n } k/\Mv w Z (w.setCell ⟨Z.sb,7,none⟩ (.int .i64 n)) Z:=by
 have ha:=h.apa
 obtain⟨n1,n2,n3,n4,n5,n6,n7,n8,n9,n10,n11,n12,n13,n14,n15⟩:=ha.six_ne
 have hF:Fr [Z.sb] w (w.setCell ⟨Z.sb,7,none⟩ (.int .i64 n)):=Fr.set _ _ _ (by simp)
 obtain⟨cl,l1,l2,l3⟩:=h.lanes
 obtain⟨cq,q1,q2,q3⟩:=h.ques
 obtain⟨F,f1,f2⟩:=h.outs
 obtain⟨G,g1,g2⟩:=h.call
 refine⟨⟨?_,⟨cl,hF.keep l1 (by simp[Ne.symm n2]),l2,l3⟩,⟨cq,hF.keep q1 (by simp[Ne.symm n3]),q2,q3⟩,fun i=>(h.rows i).keep hF (fun b hb hh=> ?_),h.gate.keep hF (by simp[Ne.symm n1]),h.deps.keep hF (fun x hx hh=> ?_),⟨F,f1.keep hF (by simp[Ne.symm n4]),f2⟩,⟨G,g1.keep hF (by simp[Ne.symm n5]),g2⟩,ha,h.may⟩,Mv.of (hF.mono (fun x hx _=>Zs.mem_own.2 (Or.inl (by simp at hx;simp[Zs.six,hx]))))⟩
 ·rw[zag _ h.box];simp[syC]
 ·simp at hh;exact (ha.nR i b hb).1 (by simp[Zs.six,hh])
 ·simp at hh;exact ha.nB Z.sb (by simp[Zs.six]) (hh▸hx)
theorem SyM.setHolds (h:SyM w Z c s k) (b:Bool):SyM (w.setCell ⟨Z.sb,8,none⟩ (.bool b)) Z c { s with holds:=b } k/\Mv w Z (w.setCell ⟨Z.sb,8,none⟩ (.bool b)) Z:=by
 have ha:=h.apa
 obtain⟨n1,n2,n3,n4,n5,n6,n7,n8,n9,n10,n11,n12,n13,n14,n15⟩:=ha.six_ne
 have hF:Fr [Z.sb] w (w.setCell ⟨Z.sb,8,none⟩ (.bool b)):=Fr.set _ _ _ (by simp)
 obtain⟨cl,l1,l2,l3⟩:=h.lanes
 obtain⟨cq,q1,q2,q3⟩:=h.ques
 obtain⟨F,f1,f2⟩:=h.outs
 obtain⟨G,g1,g2⟩:=h.call
 refine⟨⟨?_,⟨cl,hF.keep l1 (by simp[Ne.symm n2]),l2,l3⟩,⟨cq,hF.keep q1 (by simp[Ne.symm n3]),q2,q3⟩,fun i=>(h.rows i).keep hF (fun b hb hh=> ?_),h.gate.keep hF (by simp[Ne.symm n1]),h.deps.keep hF (fun x hx hh=> ?_),⟨F,f1.keep hF (by simp[Ne.symm n4]),f2⟩,⟨G,g1.keep hF (by simp[Ne.symm n5]),g2⟩,ha,h.may⟩,Mv.of (hF.mono (fun x hx _=>Zs.mem_own.2 (Or.inl (by simp at hx;simp[Zs.six,hx]))))⟩
 ·rw[zag _ h.box];simp[syC]
 ·simp at hh;exact (ha.nR i b hb).1 (by simp[Zs.six,hh])
 ·simp at hh;exact ha.nB Z.sb (by simp[Zs.six]) (hh▸hx)
theorem SyM.setNum (h:SyM w Z c s k) {i:Nat} (hi:i<c.l.toNat) (n:Int):SyM (w.setCell ⟨Z.lb,2*i,none⟩ (.int .i64 n)) Z c { s with num:=upd s.num i n } k/\Mv w Z (w.setCell ⟨Z.lb,2*i,none⟩ (.int .i64 n)) Z:=by
 have ha:=h.apa
 obtain⟨n1,n2,n3,n4,n5,n6,n7,n8,n9,n10,n11,n12,n13,n14,n15⟩:=ha.six_ne
 have hF:Fr [Z.lb] w (w.setCell ⟨Z.lb,2*i,none⟩ (.int .i64 n)):=Fr.set _ _ _ (by simp)
 obtain⟨cl,l1,l2,l3⟩:=h.lanes
 obtain⟨cq,q1,q2,q3⟩:=h.ques
 obtain⟨F,f1,f2⟩:=h.outs
 obtain⟨G,g1,g2⟩:=h.call
 refine⟨⟨hF.keep h.box (by simp[n2]),⟨_,zag _ l1,by simpa using l2,fun j hj=> ?_⟩,⟨cq,hF.keep q1 (by simp[Ne.symm n10]),q2,q3⟩,fun i=>(h.rows i).keep hF (fun b hb hh=> ?_),h.gate.keep hF (by simp[n6]),h.deps.keep hF (fun x hx hh=> ?_),⟨F,f1.keep hF (by simp[Ne.symm n11]),f2⟩,⟨G,g1.keep hF (by simp[Ne.symm n12]),g2⟩,ha,h.may⟩,Mv.of (hF.mono (fun x hx _=>Zs.mem_own.2 (Or.inl (by simp at hx;simp[Zs.six,hx]))))⟩
 ·obtain⟨j1,j2⟩:=l3 j hj
  refine⟨?_,by rw[Array.getElem?_setIfInBounds_ne (by omega)];exact j2⟩
  show _=some (Value.int .i64 (upd s.num i n j))
  by_cases e:j=i
  ·subst e
   rw[Array.getElem?_setIfInBounds_self_of_lt (by omega),zad]
  ·rw[Array.getElem?_setIfInBounds_ne (by omega),zaa _ _ e]
   exact j1
 ·simp at hh;exact (ha.nR i b hb).1 (by simp[Zs.six,hh])
 ·simp at hh;exact ha.nB Z.lb (by simp[Zs.six]) (hh▸hx)
theorem SyM.setGate (h:SyM w Z c s k) {m:Int} {xs:List Int} (hF:Fr [Z.g] w w') (hg:GG w' Z.g m xs):SyM w' Z c { s with ma:=m,bx:=xs } k/\Mv w Z w' Z:=by
 have ha:=h.apa
 obtain⟨n1,n2,n3,n4,n5,n6,n7,n8,n9,n10,n11,n12,n13,n14,n15⟩:=ha.six_ne
 obtain⟨cl,l1,l2,l3⟩:=h.lanes
 obtain⟨cq,q1,q2,q3⟩:=h.ques
 obtain⟨F,f1,f2⟩:=h.outs
 obtain⟨G,g1,g2⟩:=h.call
 refine⟨⟨hF.keep h.box (by simp[n1]),⟨cl,hF.keep l1 (by simp[Ne.symm n6]),l2,l3⟩,⟨cq,hF.keep q1 (by simp[Ne.symm n7]),q2,q3⟩,fun i=>(h.rows i).keep hF (fun b hb hh=> ?_),hg,h.deps.keep hF (fun x hx hh=> ?_),⟨F,f1.keep hF (by simp[Ne.symm n8]),f2⟩,⟨G,g1.keep hF (by simp[Ne.symm n9]),g2⟩,ha,h.may⟩,Mv.of (hF.mono (fun x hx _=>Zs.mem_own.2 (Or.inl (by simp at hx;simp[Zs.six,hx]))))⟩
 ·simp at hh;exact (ha.nR i b hb).1 (by simp[Zs.six,hh])
 ·simp at hh;exact ha.nB Z.g (by simp[Zs.six]) (hh▸hx)
theorem SyM.setDeps (h:SyM w Z c s k) {B':List Nat} {L:Lg} {en:Int->Prop} {k':Nat} (hk:k<=k') (hF:Fr Z.B w w') (hg:Tl w' Z.tb B' (65*k') L en) (hB: ∀x∈B',x∈Z.B\/w.heap.size<=x):SyM w' { Z with B:=B' } c { s with L:=L,en:=en } k'/\Mv w Z w' { Z with B:=B' }:=by
 have ha:=h.apa
 have hlt:=h.lt
 obtain⟨cl,l1,l2,l3⟩:=h.lanes
 obtain⟨cq,q1,q2,q3⟩:=h.ques
 obtain⟨F,f1,f2⟩:=h.outs
 obtain⟨G,g1,g2⟩:=h.call
 have h6: ∀x∈Z.six,x∉Z.B:=ha.nB
 refine⟨⟨hF.keep h.box (h6 _ (by simp[Zs.six])),⟨cl,hF.keep l1 (h6 _ (by simp[Zs.six])),l2,l3⟩,⟨cq,hF.keep q1 (h6 _ (by simp[Zs.six])),q2,q3⟩,fun i=>(h.rows i).keep hF (fun b hb=>(ha.nR i b hb).2),h.gate.keep hF (h6 _ (by simp[Zs.six])),hg,⟨F,(f1.keep hF (h6 _ (by simp[Zs.six]))).mono hk,f2⟩,⟨G,(g1.keep hF (h6 _ (by simp[Zs.six]))).mono hk,g2⟩,⟨ha.nd,fun x hx hh=> ?_,fun i b hb=>⟨(ha.nR i b hb).1,fun hh=> ?_⟩,ha.rr,ha.far⟩,h.may⟩,⟨hF.mono (fun x hx _=>Zs.mem_own.2 (Or.inr (Or.inl hx))),fun x hx=> ?_,rfl,rfl,rfl,rfl⟩⟩
 ·rcases hB x hh with e|e
  ·exact h6 x hx e
  ·have:=hlt x (Zs.mem_own.2 (Or.inl hx));omega
 ·rcases hB b hh with e|e
  ·exact (ha.nR i b hb).2 e
  ·have:=(h.rows i).lt hb;omega
 ·rcases Zs.mem_own.1 hx with e|e|e
  ·exact Or.inl (Zs.mem_own.2 (Or.inl e))
  ·rcases hB x e with e2|e2
   ·exact Or.inl (Zs.mem_own.2 (Or.inr (Or.inl e2)))
   ·exact Or.inr e2
  ·exact Or.inl (Zs.mem_own.2 (Or.inr (Or.inr e)))
theorem SyM.setOut (h:SyM w Z c s k) (n x:Int) (hn:i64 n) (hk:k<4611686018427387904) :
  ∃w',(Instr.mapUpdate 111 (.map (some Z.ob)) (.int .i64 n) (.int .i64 x)).run Tryz.prog w= .ok () w'/\SyM w' Z c { s with F:=updI s.F n x } (k+1)/\Mv w Z w' Z:=by
 have ha:=h.apa
 obtain⟨n1,n2,n3,n4,n5,n6,n7,n8,n9,n10,n11,n12,n13,n14,n15⟩:=ha.six_ne
 obtain⟨cl,l1,l2,l3⟩:=h.lanes
 obtain⟨cq,q1,q2,q3⟩:=h.ques
 obtain⟨F,f1,f2⟩:=h.outs
 obtain⟨G,g1,g2⟩:=h.call
 obtain⟨w',hr,hM,hF⟩:=f1.store n x hn (by unfold maxLen;omega)
 refine⟨w',hr,⟨hF.keep h.box (by simp[n4]),⟨cl,hF.keep l1 (by simp[n11]),l2,l3⟩,⟨cq,hF.keep q1 (by simp[n13]),q2,q3⟩,fun i=>(h.rows i).keep hF (fun b hb hh=> ?_),h.gate.keep hF (by simp[n8]),(h.deps.keep hF (fun x hx hh=> ?_)).mono (by omega),⟨_,hM,fun m=> ?_⟩,⟨G,(g1.keep hF (by simp[Ne.symm n15])).mono (by omega),g2⟩,ha,h.may⟩,Mv.of (hF.mono (fun x hx _=>Zs.mem_own.2 (Or.inl (by simp at hx;simp[Zs.six,hx]))))⟩
 ·simp at hh;exact (ha.nR i b hb).1 (by simp[Zs.six,hh])
 ·simp at hh;exact ha.nB Z.ob (by simp[Zs.six]) (hh▸hx)
 ·show updI s.F n x m=_
  by_cases e:m=n
  ·subst e;rw[zbb,zan];rfl
  ·rw[zaq _ _ e,zaj _ _ e];exact f2 m
theorem SyM.lookOut (h:SyM w Z c s k) (n:Int) (hn:i64 n):(Instr.lookup 111 (.map (some Z.ob)) (.int .i64 n) false).run Tryz.prog w= .ok (.int .i64 (s.F n)) w:=by
 obtain⟨F,f1,f2⟩:=h.outs
 rw[f2]
 exact f1.look n hn
theorem SyM.setCal (h:SyM w Z c s k) (n x:Int) (hn:i64 n) (hk:k<4611686018427387904) :
  ∃w',(Instr.mapUpdate 112 (.map (some Z.cb)) (.int .i64 n) (.int .u8 x)).run Tryz.prog w= .ok () w'/\SyM w' Z c { s with G:=updI s.G n x } (k+1)/\Mv w Z w' Z:=by
 have ha:=h.apa
 obtain⟨n1,n2,n3,n4,n5,n6,n7,n8,n9,n10,n11,n12,n13,n14,n15⟩:=ha.six_ne
 obtain⟨cl,l1,l2,l3⟩:=h.lanes
 obtain⟨cq,q1,q2,q3⟩:=h.ques
 obtain⟨F,f1,f2⟩:=h.outs
 obtain⟨G,g1,g2⟩:=h.call
 obtain⟨w',hr,hM,hF⟩:=g1.store n x hn (by unfold maxLen;omega)
 refine⟨w',hr,⟨hF.keep h.box (by simp[n5]),⟨cl,hF.keep l1 (by simp[n12]),l2,l3⟩,⟨cq,hF.keep q1 (by simp[n14]),q2,q3⟩,fun i=>(h.rows i).keep hF (fun b hb hh=> ?_),h.gate.keep hF (by simp[n9]),(h.deps.keep hF (fun x hx hh=> ?_)).mono (by omega),⟨F,(f1.keep hF (by simp[n15])).mono (by omega),f2⟩,⟨_,hM,fun m=> ?_⟩,ha,h.may⟩,Mv.of (hF.mono (fun x hx _=>Zs.mem_own.2 (Or.inl (by simp at hx;simp[Zs.six,hx]))))⟩
 ·simp at hh;exact (ha.nR i b hb).1 (by simp[Zs.six,hh])
 ·simp at hh;exact ha.nB Z.cb (by simp[Zs.six]) (hh▸hx)
 ·show updI s.G n x m=_
  by_cases e:m=n
  ·subst e;rw[zbb,zan];rfl
  ·rw[zaq _ _ e,zaj _ _ e];exact g2 m
theorem SyM.lookCal (h:SyM w Z c s k) (n:Int) (hn:i64 n):(Instr.lookup 112 (.map (some Z.cb)) (.int .i64 n) false).run Tryz.prog w= .ok (.int .u8 (s.G n)) w:=by
 obtain⟨G,g1,g2⟩:=h.call
 rw[g2]
 exact g1.look n hn
end
section
variable {c:Cf} {T:List Tx} {s:Sy} {k:Nat} {e:Ev}
theorem Iv.mono {k':Nat} (h:Iv c T s k) (hk:k<=k'):Iv c T s k' :=
 { h with few0:=Nat.le_trans h.few0 (Nat.mul_le_mul_left _ hk),few1:=Nat.le_trans h.few1 hk,cnt:=fun n=>by have:=h.cnt n;omega }
structure Lk (T:List Tx):Prop where
 len:T.length<=65536
 few: ∀n:Int,1<=n->n<=(T.length:Int)->(wsAt T n).length<=32
 tx: ∀n:Int,1<=n->n<=(T.length:Int)->okT n (wsAt T n)
 num: ∀n:Int,1<=n->n<=(T.length:Int)->(T.getD (n-1).toNat Tx.zero).n=n
theorem zwx (c:Cf) (T:List Tx) (n:Int):(shs c T n).length<=(wsAt T n).length:=by
 unfold shs
 rw[List.length_map]
 exact zjy _
theorem zmq {c:Cf} (hc:c.may) (T:List Tx) (n:Int): ∀q∈shs c T n,0<=q/\q<c.s:=by
 intro q hq
 obtain⟨x,_,rfl⟩:=List.mem_map.1 hq
 have h1:=hc.2.1.1
 exact⟨Int.emod_nonneg _ (by omega),Int.emod_lt_of_pos _ (by omega)⟩
theorem zfw (L:Lg) (en:Int->Prop) (n:Int):Ris (frx L en n)/\ ∀x∈frx L en n,Op11 L en x/\Dep L x n:=by
 by_cases h:Mye L en n/\ ∃zs,DoT L (Op11 L en) n zs
 ·obtain⟨hm,zs,hz⟩:=h
  rw[zhi hm hz]
  exact⟨hz.1,fun x hx=>⟨((hz.2 x).1 hx).1,((hz.2 x).1 hx).2.1⟩⟩
 ·unfold frx
  rw[dif_neg h]
  exact⟨List.Pairwise.nil,by simp⟩
theorem Iv.dsp (h:Iv c T s k) (hT:Lk T):Iv c T (dsp c T s).2 (k+1):=by
 unfold Go.Proofs.YtaaghcimfcjehaaGreatDoor.dsp
 by_cases h1:s.holds=false
 ·rw[if_pos h1]
  by_cases h2:s.read<(T.length:Int)
  ·rw[if_pos h2]
   have h':=h.mono (Nat.le_succ k)
   exact { h' with low:=by have:=h.low;show 0<=s.read+1;omega,top:=by show s.read+1<=_;omega,hold:=fun _=>by have:=h.low;show 1<=s.read+1;omega,old:=fun p hp=>by have:=(h.old p hp).1;exact⟨by show p.1<=s.read+1;omega,fun _=>by show p.1<s.read+1;omega⟩ }
  ·rw[if_neg h2];exact h.mono (Nat.le_succ k)
 ·rw[if_neg h1]
  have hh:s.holds=true:=by simpa using h1
  have h':=h.mono (Nat.le_succ k)
  by_cases h2:s.read<=s.ma\/s.read∈s.bx
  ·rw[if_pos h2]
   exact { h' with hold:=(fun e=>by cases e),old:=fun p hp=>⟨(h.old p hp).1,fun e=>by cases e⟩ }
  ·rw[if_neg h2]
   by_cases h3:s.read<=s.ma+c.w
   ·rw[if_pos h3]
    have hr:=h.hold hh
    have ht:=h.top
    have hold: ∀p∈s.L++[(s.read,zah (wsAt T s.read))],p.1<=s.read/\(false=true->p.1<s.read):=by
     intro p hp
     refine⟨?_,fun e=>by cases e⟩
     rcases List.mem_append.1 hp with e|e
     ·exact (h.old p e).1
     ·simp at e;rw[e];exact Int.le_refl _
    by_cases h4:(adx s.L s.en (zah (wsAt T s.read))).length=0
    ·simp only[if_pos h4]
     refine { h' with hold:=(fun e=>by cases e),old:=hold,line:=fun n hn=> ?_,pass:= ?_,left:= ?_,fewL:= ?_,queue:= ?_,que:= ?_,few0:= ?_,few1:= ?_ }
     ·simp only[zad,List.mem_append,List.mem_singleton]at hn
      rcases hn with hn|hn
      ·exact h.line n hn
      ·subst hn;exact⟨hr,ht⟩
     ·simpa only[zaa _ _ (show 1≠0 by omega)]using h'.pass
     ·intro i hi;simpa only[zaa _ _ (show 2+i≠0 by omega)]using h'.left i hi
     ·intro i hi;simpa only[zaa _ _ (show 2+i≠0 by omega)]using h'.fewL i hi
     ·intro i hi;simpa only[zaa _ _ (show 18+i≠0 by omega)]using h'.queue i hi
     ·intro i hi;simpa only[zaa _ _ (show 18+i≠0 by omega)]using h'.que i hi
     ·simp only[zad,List.length_append,List.length_singleton];have:=h.few0;omega
     ·simpa only[zaa _ _ (show 1≠0 by omega)]using h'.few1
    ·simp only[if_neg h4]
     exact { h' with hold:=(fun e=>by cases e),old:=hold }
   ·rw[if_neg h3];exact h'
theorem Iv.asks (h:Iv c T s k) (hc:c.may) {q:Nat} (hq:q<16) {n:Int} (hn:I6 n) (hl:((s.R (18+q)).length:Int)<c.q):Iv c T (asks s q n) (k+1):=by
 have h':=h.mono (Nat.le_succ k)
 unfold Go.Proofs.YtaaghcimfcjehaaGreatDoor.asks
 refine { h' with line:= ?_,pass:= ?_,left:= ?_,fewL:= ?_,queue:= ?_,que:= ?_,few0:= ?_,few1:= ?_,cnt:= ?_ }
 ·simpa only[zaa _ _ (show 0≠18+q by omega)]using h'.line
 ·simpa only[zaa _ _ (show 1≠18+q by omega)]using h'.pass
 ·intro i hi;simpa only[zaa _ _ (show 2+i≠18+q by omega)]using h'.left i hi
 ·intro i hi;simpa only[zaa _ _ (show 2+i≠18+q by omega)]using h'.fewL i hi
 ·intro i hi
  by_cases e:i=q
  ·subst e;simp only[zad,List.length_append,List.length_singleton];omega
  ·simpa only[zaa _ _ (show 18+i≠18+q by omega)]using h'.queue i hi
 ·intro i hi
  by_cases e:i=q
  ·subst e
   intro m hm
   simp only[zad,List.mem_append,List.mem_singleton]at hm
   rcases hm with hm|hm
   ·exact h.que i hi m hm
   ·rw[hm];exact hn
  ·simpa only[zaa _ _ (show 18+i≠18+q by omega)]using h'.que i hi
 ·simpa only[zaa _ _ (show 0≠18+q by omega)]using h'.few0
 ·simpa only[zaa _ _ (show 1≠18+q by omega)]using h'.few1
 ·intro m
  by_cases e:m=n
  ·subst e;simp only[zbb];have:=h.cnt m;omega
  ·simp only[zaq _ _ e];exact h'.cnt m
theorem Iv.lan (h:Iv c T s k) (hc:c.may) (hT:Lk T) {i:Nat} (hi:i<16):Iv c T (lan c T s i).2 (k+1):=by
 have h':=h.mono (Nat.le_succ k)
 unfold Go.Proofs.YtaaghcimfcjehaaGreatDoor.lan
 by_cases h1:s.num i=0
 ·rw[if_pos h1]
  cases hR:s.R 0 with
  | nil=>exact h'
  | cons n r =>
   have hl:=h.line
   have hf:=h.few0
   rw[hR]at hl hf
   simp only[List.length_cons]at hf
   have hn:=hl n (by simp)
   refine { h' with line:= ?_,pass:= ?_,held:= ?_,left:= ?_,fewL:= ?_,queue:= ?_,que:= ?_,few0:= ?_,few1:= ?_ }
   ·intro m hm
    simp only[zaa _ _ (show 0≠2+i by omega),zad]at hm
    exact hl m (by simp[hm])
   ·simpa only[zaa _ _ (show 1≠2+i by omega),zaa _ _ (show 1≠0 by omega)]using h'.pass
   ·intro j
    by_cases e:j=i
    ·subst e;simp only[zad];exact Or.inr hn
    ·simp only[zaa _ _ e];exact h.held j
   ·intro j hj
    by_cases e:j=i
    ·subst e;simp only[zad];exact zmq hc T n
    ·simpa only[zaa _ _ (show 2+j≠2+i by omega),zaa _ _ (show 2+j≠0 by omega)]using h'.left j hj
   ·intro j hj
    by_cases e:j=i
    ·subst e;simp only[zad];exact Nat.le_trans (zwx c T n) (hT.few n hn.1 hn.2)
    ·simpa only[zaa _ _ (show 2+j≠2+i by omega),zaa _ _ (show 2+j≠0 by omega)]using h'.fewL j hj
   ·intro j hj;simpa only[zaa _ _ (show 18+j≠2+i by omega),zaa _ _ (show 18+j≠0 by omega)]using h'.queue j hj
   ·intro j hj;simpa only[zaa _ _ (show 18+j≠2+i by omega),zaa _ _ (show 18+j≠0 by omega)]using h'.que j hj
   ·simp only[zaa _ _ (show 0≠2+i by omega),zad];omega
   ·simpa only[zaa _ _ (show 1≠2+i by omega),zaa _ _ (show 1≠0 by omega)]using h'.few1
 ·rw[if_neg h1]
  cases hR:s.R (2+i) with
  | nil =>
   dsimp only
   by_cases h2:s.F (s.num i)=0
   ·rw[if_pos h2]
    refine { h' with line:= ?_,pass:= ?_,held:= ?_,left:= ?_,fewL:= ?_,queue:= ?_,que:= ?_,few0:= ?_,few1:= ?_ }
    ·simpa only[zaa _ _ (show 0≠1 by omega)]using h'.line
    ·intro m hm
     simp only[zad,List.mem_append,List.mem_singleton]at hm
     rcases hm with hm|hm
     ·exact h.pass m hm
     ·rw[hm]
      rcases h.held i with e|e
      ·exact absurd e h1
      ·exact e
    ·intro j
     by_cases e:j=i
     ·subst e;simp only[zad];exact Or.inl trivial
     ·simp only[zaa _ _ e];exact h.held j
    ·intro j hj;simpa only[zaa _ _ (show 2+j≠1 by omega)]using h'.left j hj
    ·intro j hj;simpa only[zaa _ _ (show 2+j≠1 by omega)]using h'.fewL j hj
    ·intro j hj;simpa only[zaa _ _ (show 18+j≠1 by omega)]using h'.queue j hj
    ·intro j hj;simpa only[zaa _ _ (show 18+j≠1 by omega)]using h'.que j hj
    ·simpa only[zaa _ _ (show 0≠1 by omega)]using h'.few0
    ·simp only[zad,List.length_append,List.length_singleton];have:=h.few1;omega
   ·rw[if_neg h2];exact h'
  | cons q r =>
   dsimp only
   by_cases h2:((s.R (18+q.toNat)).length:Int)<c.q
   ·rw[if_pos h2]
    have hl:=h.left i hi
    have hfL:=h.fewL i hi
    rw[hR]at hl hfL
    simp only[List.length_cons]at hfL
    have hq:=hl q (by simp)
    have hcs:=hc.2.1.2
    have hnum:I6 (s.num i):=by
     have:=hT.len
     rcases h.held i with e|e
     ·rw[e];exact⟨by omega,by omega⟩
     ·exact⟨by omega,by omega⟩
    have ha:=h.asks hc (q:=q.toNat) (by omega) hnum h2
    refine { ha with line:= ?_,pass:= ?_,left:= ?_,fewL:= ?_,queue:= ?_,que:= ?_,few0:= ?_,few1:= ?_ }
    ·simpa only[zaa _ _ (show 0≠2+i by omega)]using ha.line
    ·simpa only[zaa _ _ (show 1≠2+i by omega)]using ha.pass
    ·intro j hj
     by_cases e:j=i
     ·subst e;simp only[zad];exact fun x hx=>hl x (by simp[hx])
     ·simpa only[zaa _ _ (show 2+j≠2+i by omega)]using ha.left j hj
    ·intro j hj
     by_cases e:j=i
     ·subst e;simp only[zad];omega
     ·simpa only[zaa _ _ (show 2+j≠2+i by omega)]using ha.fewL j hj
    ·intro j hj;simpa only[zaa _ _ (show 18+j≠2+i by omega)]using ha.queue j hj
    ·intro j hj;simpa only[zaa _ _ (show 18+j≠2+i by omega)]using ha.que j hj
    ·simpa only[zaa _ _ (show 0≠2+i by omega)]using ha.few0
    ·simpa only[zaa _ _ (show 1≠2+i by omega)]using ha.few1
   ·rw[if_neg h2];exact h'
theorem Iv.own (h:Iv c T s k) {j:Nat} (hj:j<16):Iv c T (own s j).2 (k+1):=by
 have h':=h.mono (Nat.le_succ k)
 unfold Go.Proofs.YtaaghcimfcjehaaGreatDoor.own
 cases hR:s.R (18+j) with
 | nil=>exact h'
 | cons n r =>
  have hq:=h.queue j hj
  have hn:=h.que j hj
  rw[hR]at hq hn
  simp only[List.length_cons]at hq
  refine { h' with line:= ?_,pass:= ?_,left:= ?_,fewL:= ?_,queue:= ?_,que:= ?_,few0:= ?_,few1:= ?_,cnt:= ?_ }
  ·simpa only[zaa _ _ (show 0≠18+j by omega)]using h'.line
  ·simpa only[zaa _ _ (show 1≠18+j by omega)]using h'.pass
  ·intro i hi;simpa only[zaa _ _ (show 2+i≠18+j by omega)]using h'.left i hi
  ·intro i hi;simpa only[zaa _ _ (show 2+i≠18+j by omega)]using h'.fewL i hi
  ·intro i hi
   by_cases e:i=j
   ·subst e;simp only[zad];omega
   ·simpa only[zaa _ _ (show 18+i≠18+j by omega)]using h'.queue i hi
  ·intro i hi
   by_cases e:i=j
   ·subst e;simp only[zad];exact fun m hm=>hn m (by simp[hm])
   ·simpa only[zaa _ _ (show 18+i≠18+j by omega)]using h'.que i hi
  ·simpa only[zaa _ _ (show 0≠18+j by omega)]using h'.few0
  ·simpa only[zaa _ _ (show 1≠18+j by omega)]using h'.few1
  ·intro m
   by_cases e:m=n
   ·subst e;simp only[zbb];have:=h.cnt m;omega
   ·simp only[zaq _ _ e];exact h'.cnt m
theorem Iv.gat (h:Iv c T s k) (hT:Lk T) (hr:RisL s.L):Iv c T (gat s).2 (k+1):=by
 have h':=h.mono (Nat.le_succ k)
 unfold Go.Proofs.YtaaghcimfcjehaaGreatDoor.gat
 cases hR:s.R 1 with
 | nil=>exact h'
 | cons n r =>
  have hp:=h.pass
  have hf1:=h.few1
  rw[hR]at hp hf1
  simp only[List.length_cons]at hf1
  obtain⟨z1,z2⟩:=zfw s.L s.en n
  have hz: ∀x∈frx s.L s.en n,1<=x/\x<=(T.length:Int):=by
   intro x hx
   obtain⟨⟨⟨p,hp,rfl⟩,_⟩,_⟩:=z2 x hx
   have h1:=hr.pos p hp
   have h2:=(h.old p hp).1
   have h3:=h.top
   exact⟨h1,by omega⟩
  have hzl:(frx s.L s.en n).length<=65536:=Ris.few (n:=65536) (a:=1) z1 (fun x hx=>by have:=hz x hx;have:=hT.len;omega)
  refine { h' with line:= ?_,pass:= ?_,left:= ?_,fewL:= ?_,queue:= ?_,que:= ?_,few0:= ?_,few1:= ?_ }
  ·intro m hm
   simp only[zad,List.mem_append]at hm
   rcases hm with hm|hm
   ·exact h.line m hm
   ·exact hz m hm
  ·intro m hm
   simp only[zaa _ _ (show 1≠0 by omega),zad]at hm
   exact hp m (by simp[hm])
  ·intro j hj;simpa only[zaa _ _ (show 2+j≠0 by omega),zaa _ _ (show 2+j≠1 by omega)]using h'.left j hj
  ·intro j hj;simpa only[zaa _ _ (show 2+j≠0 by omega),zaa _ _ (show 2+j≠1 by omega)]using h'.fewL j hj
  ·intro j hj;simpa only[zaa _ _ (show 18+j≠0 by omega),zaa _ _ (show 18+j≠1 by omega)]using h'.queue j hj
  ·intro j hj;simpa only[zaa _ _ (show 18+j≠0 by omega),zaa _ _ (show 18+j≠1 by omega)]using h'.que j hj
  ·simp only[zad,List.length_append];have:=h.few0;omega
  ·simp only[zaa _ _ (show 1≠0 by omega),zad];omega
theorem Iv.cal (h:Iv c T s k) (hc:c.may) {n:Int} (hn:I6 n) (e:Ev):Iv c T (cal c s n e).2 (k+1):=by
 have h':=h.mono (Nat.le_succ k)
 unfold Go.Proofs.YtaaghcimfcjehaaGreatDoor.cal
 split
 ·exact { h' with }
 ·split
  ·rename_i h1
   have:=hc.2.1.2
   exact h.asks hc (by omega) hn h1.2.2.2.2
  ·split
   ·exact h'
   ·split
    ·exact { h' with }
    ·exact h'
theorem Iv.stp (h:Iv c T s k) (hc:c.may) (hT:Lk T) (hr:RisL s.L) (he:I6 e.t):Iv c T (stp c T s e).2 (k+1):=by
 have h1:=hc.1.2
 have h2:=hc.2.1.2
 unfold Go.Proofs.YtaaghcimfcjehaaGreatDoor.stp
 split
 ·exact h.cal hc he e
 ·split
  ·exact h.dsp hT
  ·split
   ·exact h.lan hc hT (by omega)
   ·split
    ·exact h.own (by omega)
    ·split
     ·exact h.gat hT hr
     ·exact h.mono (Nat.le_succ k)
end
structure IRd (w:World) (ao:Option Addr) (xs:List Int):Prop where
 lies:0<xs.length-> ∃b off,ao=some ⟨b,off,none⟩/\b<w.heap.size/\ ∀j,j<xs.length->w.cell? ⟨b,off+j,none⟩=some (.int .i64 (xs.getD j 0))
theorem IRd.keepS {S:List Nat} {w w':World} {ao:Option Addr} {xs:List Int} (h:IRd w ao xs) (hf:Fr S w w') (hn:0<xs.length-> ∀a,ao=some a->a.block∉S):IRd w' ao xs:=by
 refine⟨fun h0=> ?_⟩
 obtain⟨b,off,e,hb,hc⟩:=h.lies h0
 exact⟨b,off,e,Nat.lt_of_lt_of_le hb hf.size,fun i hi=>(World.cell?_of_block (hf.block b hb (hn h0 _ e))).trans (hc i hi)⟩
theorem IRd.keep {w w':World} {ao:Option Addr} {xs:List Int} (h:IRd w ao xs) (hf:Fr [] w w'):IRd w' ao xs:=h.keepS hf (by simp)
theorem IOw.rd {base:Nat} {w:World} {o:Option Addr} {n c:Nat} {xs:List Int} (h:IOw base w o n c xs):IRd w o xs:=by
 refine⟨fun h0=> ?_⟩
 obtain⟨g,e,_,hg,hc⟩:=h.cells (by rw[h.len];exact h0)
 exact⟨g,0,e,hg,fun j hj=>by rw[Nat.zero_add];exact hc j (by rw[h.len];exact hj)⟩
set_option maxHeartbeats 2000000 in
set_option maxRecDepth 100000 in
theorem zly (ao:Option Addr) (N c:Nat) (xs:List Int) (n:Int) (w:World) (hX:IRd w ao xs) (hN:N=xs.length) (hNf:N<1099511627776) :
  Calls Tryz.prog 161 #[.slice ao N c,.int .i64 n] w fun e w'=> ∃so M sc,e= .returned (.slice so M sc)/\IOw w.heap.size w' so M sc (xs.filter fun x=>x !=n)/\Fr [] w w':=by
 obtain⟨p,hp⟩: ∃p:Int->Bool,p=fun x=>x !=n:=⟨_,rfl⟩
 rw[<-hp]
 have HP:Hid (∀x,p x=(x !=n)):=fun x=>by rw[hp]
 have HN:Hid (N=xs.length):=hN
 have HX:Hid (∀W,Fr [] w W->IRd W ao xs):=fun W hf=>hX.keep hf
 clear hX hN hp
 go_enter Tryz.func161,Tryz.ntmps161
 go_wp2_with fail
 go_loopw [5,6] (fun ll ii wr=> ∃(i:Nat) (so:Option Addr) (M sc:Nat),ii= .int .i64 i/\i<=N/\ll= .slice so M sc/\M<=i/\Hid (IOw w.heap.size wr so M sc ((xs.take i).filter p))/\Hid (Fr [] w wr)) (fun _ ii _=>N-(RowKit.intOf ii).toNat)
 case atStart=>exact⟨0,none,0,0,rfl,Nat.zero_le _,rfl,Nat.le_refl _,IOw.nil _ _,Fr.refl _ _⟩
 case round =>
  obtain⟨i,so,M,sc,rfl,hiN,rfl,hMi,HO,HF⟩:=hrel
  by_cases hi:i<N
  ·have hil:i<xs.length:=by rw[<-HN.out];exact hi
   obtain⟨b,off,rfl,_,hc⟩:=(HX.out _ HF.out).lies (by omega)
   have hci:=hc i hil
   obtain⟨x,hx⟩: ∃x,x=xs.getD i 0:=⟨_,rfl⟩
   rw[<-hx]at hci
   have HS:=zco xs p i hil
   rw[<-hx]at HS
   have HS:Hid ((xs.take (i+1)).filter p=_):=HS
   have HO2:Hid (∀W,Fr [] wr W->IOw w.heap.size W so M sc ((xs.take i).filter p)):=fun W hf=>HO.out.keep hf
   have HB:Hid (∀W W',Fr [] wr W->Fr (Value.slice so M sc).ownBlock.toList W W'->Fr [] w W'):=fun W W' h1 h2=>HO.out.on (Nat.le_refl _) HF.out h1 h2
   have hsz:=HF.out.size
   clear hx hc
   by_cases he:x=n
   ·have heq:(x !=n)=false:=by rw[he];simp
    rw[HP.out,heq,if_neg (by simp)]at HS
    clear he
    go_wp2
    go_roundw
    case rel=>exact⟨i+1,so,M,sc,by simp,by omega,rfl,by omega,(by rw[HS.out];exact HO.out),HF.out⟩
    case measure=>simp[RowKit.intOf];omega
   ·have heq:(x !=n)=true:=by simpa using he
    rw[HP.out,heq,if_pos rfl]at HS
    clear he
    go_wp2_with (first
     | (
      at_builtin;refine zat w.heap.size _ rfl _ _ rfl so M sc _ rfl (HO2.out _ (Fr.alloc [] _ _)) _ _ x rfl ?hcell (by omega) ?hsize ?_
      case hcell=>exact zaw _ _ _
      case hsize=>simp;omega
      intro o' c' w3 hO3 hF3 _
      have HR3:Hid (_/\_):=⟨hO3,HB.out _ _ (Fr.alloc [] _ _) hF3⟩
      clear hO3 hF3
      go_frame)
     | fail)
    go_roundw
    case rel=>exact⟨i+1,o',M+1,c',by simp,by omega,rfl,by omega,(by rw[HS.out];exact HR3.out.1),HR3.out.2⟩
    case measure=>simp[RowKit.intOf];omega
  ·obtain rfl:N=i:=by omega
   rw[List.take_of_length_le (by rw[<-HN.out];exact Nat.le_refl _)]at HO
   go_wp2
   go_ret
   exact⟨so,M,sc,rfl,HO.out,HF.out⟩
def insl (n:Int) (ys:List Int):List Int:=ys.filter (fun x=>decide (x<n))++n::ys.filter (fun x=>decide (n<x))
theorem zxj {xs:List Int} {n:Int} (h:Ris xs) (hn:n∉xs):Ris (insl n xs)/\ ∀m,m∈insl n xs↔m∈xs\/m=n:=by
 constructor
 ·unfold insl Ris
  refine List.pairwise_append.2 ⟨h.filter _,List.pairwise_cons.2 ⟨fun a ha=> ?_,h.filter _⟩,fun a ha b hb=> ?_⟩
  ·have:=(List.mem_filter.1 ha).2
   simpa using this
  ·have h1:a<n:=by have:=(List.mem_filter.1 ha).2;simpa using this
   rcases List.mem_cons.1 hb with rfl|hb
   ·exact h1
   ·have h2:n<b:=by have:=(List.mem_filter.1 hb).2;simpa using this
    omega
 ·intro m
  unfold insl
  simp only[List.mem_append,List.mem_cons,List.mem_filter,decide_eq_true_eq]
  constructor
  ·rintro (⟨h1,_⟩|rfl|⟨h1,_⟩)
   ·exact Or.inl h1
   ·exact Or.inr rfl
   ·exact Or.inl h1
  ·rintro (h1|rfl)
   ·have hne:m≠n:=fun e=>hn (e▸h1)
    by_cases h2:m<n
    ·exact Or.inl ⟨h1,h2⟩
    ·exact Or.inr (Or.inr ⟨h1,by omega⟩)
   ·exact Or.inr (Or.inl rfl)
theorem zkm {ys:List Int} {n:Int} (h: ∀x∈ys,x<n):insl n ys=ys++[n]:=by
 unfold insl
 rw[List.filter_eq_self.2 (fun x hx=>by simpa using h x hx),List.filter_eq_nil_iff.2 (fun x hx=>by have:=h x hx;simp;omega)]
theorem zmw {ys:List Int} {n x:Int} (h:n<x):insl n (ys++[x])=insl n ys++[x]:=by
 unfold insl
 rw[List.filter_append,List.filter_append]
 have e1:[x].filter (fun y=>decide (y<n))=[]:=by simp;omega
 have e2:[x].filter (fun y=>decide (n<y))=[x]:=by simp[h]
 rw[e1,e2]
 simp
end Go.Proofs.YtaaghcimfcjehaaGreatDoor
