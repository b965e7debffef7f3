/- Contracts and plain lemmas of this claim. -/
import Derived.Test.YtaaghcimfcjehaaGreatDoorGp14
set_option linter.unusedSimpArgs false
set_option linter.unusedVariables false
set_option maxHeartbeats 4000000
set_option maxRecDepth 100000
namespace Go.Proofs.YtaaghcimfcjehaaGreatDoor
open Go.ChangeShapes Go.WideShapes Go.ChangeAt Go.RowKit Go.Lib Go.Maps
section
variable {w w' wS:World} {Z:Zs} {c:Cf} {s:Sy} {k:Nat}
structure Cb (w w1:World) (Z:Zs) (c:Cf) (s:Sy) (k:Nat) (et ek en es ec em n:Int) (b:Nat):Prop where
 fr:Fr [] w w1
 r5:w1.heap[b]? = some (.cells (evA et ek en es ec em) 62 (0,0))
 r6:w1.heap[b+1]? = some (.cells (evA 0 0 0 0 0 0) 62 (0,0))
 r7:w1.heap[b+1+1]? = some (.cells (evA 0 ek n 0 0 0) 62 (0,0))
 lo:w.heap.size<=b
 hi:b+1+1<w1.heap.size
 st:SyM w1 Z c s k
 lt: ∀x∈Z.own,x<w.heap.size
theorem Cb.quiet {w w1 w2:World} {et ek en es ec em n:Int} {b:Nat} (h:Cb w w1 Z c s k et ek en es ec em n b) (hf:Fr [] w1 w2):Cb w w2 Z c s k et ek en es ec em n b :=
 ⟨h.fr.then hf,hf.keep h.r5 (by simp),hf.keep h.r6 (by simp),hf.keep h.r7 (by simp),h.lo,Nat.lt_of_lt_of_le h.hi hf.size,h.st.quiet hf,h.lt⟩
theorem Cb.new (h:SyM w Z c s k) (et ek en es ec em n:Int):Cb w (((w.alloc (.cells (evA et ek en es ec em) 62)).alloc (.cells (evA 0 0 0 0 0 0) 62)).alloc (.cells (evA 0 ek n 0 0 0) 62)) Z c s k et ek en es ec em n w.heap.size:=by
 obtain⟨wa,hwa⟩: ∃wa,wa=w.alloc (.cells (evA et ek en es ec em) 62):=⟨_,rfl⟩
 obtain⟨wb,hwb⟩: ∃wb,wb=wa.alloc (.cells (evA 0 0 0 0 0 0) 62):=⟨_,rfl⟩
 have f1:Fr [] w wa:=by rw[hwa];exact Fr.alloc _ _ _
 have f2:Fr [] wa wb:=by rw[hwb];exact Fr.alloc _ _ _
 have s1:wa.heap.size=w.heap.size+1:=by rw[hwa];simp
 have s2:wb.heap.size=w.heap.size+1+1:=by rw[hwb];simp[s1]
 have r1:wa.heap[w.heap.size]? = some (.cells (evA et ek en es ec em) 62 (0,0)):=by rw[hwa];exact heap_alloc_new _ _
 have r2:wb.heap[w.heap.size+1]? = some (.cells (evA 0 0 0 0 0 0) 62 (0,0)):=by rw[hwb,<-s1];exact heap_alloc_new _ _
 rw[<-hwa,<-hwb]
 have f3:Fr [] wb (wb.alloc (.cells (evA 0 ek n 0 0 0) 62)):=Fr.alloc _ _ _
 refine⟨f1.then (f2.then f3),f3.keep (f2.keep r1 (by simp)) (by simp),f3.keep r2 (by simp),by rw[<-s2];exact heap_alloc_new _ _,Nat.le_refl _,by simp[s2],h.quiet (f1.then (f2.then f3)),h.lt⟩
theorem Cb.cells {w1:World} {et ek en es ec em n:Int} {b:Nat} (h:Cb w w1 Z c s k et ek en es ec em n b):w1.cell? ⟨b,1,none⟩=some (.int .u8 ek)/\w1.cell? ⟨b,3,none⟩=some (.int .i64 es)/\w1.cell? ⟨b,4,none⟩=some (.int .i64 ec)/\w1.cell? ⟨b+1+1,3,none⟩=some (.int .i64 0)/\w1.cell? ⟨b+1+1,4,none⟩=some (.int .i64 0)/\w1.frozen? ⟨b+1+1,3,none⟩=false/\w1.frozen? ⟨b+1+1,4,none⟩=false :=
 ⟨by rw[cell_of_row _ _ _ _ _ _ h.r5];rfl,by rw[cell_of_row _ _ _ _ _ _ h.r5];rfl,by rw[cell_of_row _ _ _ _ _ _ h.r5];rfl,by rw[cell_of_row _ _ _ _ _ _ h.r7];rfl,by rw[cell_of_row _ _ _ _ _ _ h.r7];rfl,by simp[World.frozen?,h.r7],by simp[World.frozen?,h.r7]⟩
theorem zam {w:World} {g:Nat} {t k n s c m:Int} (h:w.heap[g]? = some (.cells (evA t k n s c m) 62 (0,0))):w.cell? ⟨g,0,none⟩=some (.int .i64 t)/\w.cell? ⟨g,1,none⟩=some (.int .u8 k)/\w.cell? ⟨g,2,none⟩=some (.int .i64 n)/\w.cell? ⟨g,3,none⟩=some (.int .i64 s)/\w.cell? ⟨g,4,none⟩=some (.int .i64 c)/\w.cell? ⟨g,5,none⟩=some (.int .i64 m) :=
 ⟨by rw[cell_of_row _ _ _ _ _ _ h];rfl,by rw[cell_of_row _ _ _ _ _ _ h];rfl,by rw[cell_of_row _ _ _ _ _ _ h];rfl,by rw[cell_of_row _ _ _ _ _ _ h];rfl,by rw[cell_of_row _ _ _ _ _ _ h];rfl,by rw[cell_of_row _ _ _ _ _ _ h];rfl⟩
theorem Cb.maps {w1:World} {et ek en es ec em n:Int} {b:Nat} (h:Cb w w1 Z c s k et ek en es ec em n b) (hn:i64 n):w1.cell? ⟨Z.sb,13,none⟩=some (.map (some Z.ob))/\w1.cell? ⟨Z.sb,14,none⟩=some (.map (some Z.cb))/\(Instr.lookup 111 (.map (some Z.ob)) (.int .i64 n) false).run Tryz.prog w1= .ok (.int .i64 (s.F n)) w1/\(Instr.lookup 112 (.map (some Z.cb)) (.int .i64 n) false).run Tryz.prog w1= .ok (.int .u8 (s.G n)) w1 :=
 ⟨h.st.cell rfl,h.st.cell rfl,h.st.lookOut n hn,h.st.lookCal n hn⟩
theorem Cb.fin {w1 W W':World} {Z':Zs} {s':Sy} {et ek en es ec em n:Int} {b k':Nat} (h:Cb w w1 Z c s k et ek en es ec em n b) (hS:SyM W Z' c s' k') (hM:Mv w1 Z W Z') (hf:Fr [b+1,b+1+1] W W'):SyM W' Z' c s' k'/\Mv w Z W' Z':=by
 have hlo:=h.lo
 have hhi:=h.hi
 have hn: ∀x,x∈[b+1,b+1+1]->x∉Z'.own:=fun x hx hh=>by
  simp at hx
  rcases hM.sub x hh with h3|h3
  ·have:=h.lt x h3;omega
  ·omega
 refine⟨hS.keep hf (fun x hx hh=>hn x hh hx),⟨((h.fr.mono (by simp)).then hM.fr).trans hf (fun x hx _=>hx) (fun x hx hl=>by simp at hx;omega),fun x hx=> ?_,hM.at_,hM.log⟩⟩
 rcases hM.sub x hx with h3|h3
 ·exact Or.inl h3
 ·exact Or.inr (Nat.le_trans h.fr.size h3)
theorem Cb.stay {w1 W:World} {Z':Zs} {et ek en es ec em n:Int} {b:Nat} (h:Cb w w1 Z c s k et ek en es ec em n b) (hM:Mv w1 Z W Z'):W.heap[b]? = some (.cells (evA et ek en es ec em) 62 (0,0))/\W.heap[b+1]? = some (.cells (evA 0 0 0 0 0 0) 62 (0,0))/\W.heap[b+1+1]? = some (.cells (evA 0 ek n 0 0 0) 62 (0,0)):=by
 have hlo:=h.lo
 exact⟨hM.fr.keep h.r5 (fun hh=>by have:=h.lt _ hh;omega),hM.fr.keep h.r6 (fun hh=>by have:=h.lt _ hh;omega),hM.fr.keep h.r7 (fun hh=>by have:=h.lt _ hh;omega)⟩
theorem zno (h:SyM w Z c s k) (et ek en es ec em n:Int) (hn:i64 n) (h9:ek≠9) (h10:ek≠10) (h11:ek≠11) (h12:ek≠12) :
  Calls Tryz.prog 124 #[.pointer (some ⟨Z.sb,0,none⟩),.int .i64 n,.agg (evA et ek en es ec em)] w (zav w Z c k (cal c s n ⟨et,ek,en,es,ec,em⟩)):=by
 have HO:Hid (cal c s n ⟨et,ek,en,es,ec,em⟩=(Te.no,s)):=by
  show cal c s n ⟨et,ek,en,es,ec,em⟩=_
  unfold cal
  rw[if_neg (fun e=>h9 e.1),if_neg (fun e=>h10 e.1),if_neg (fun e=>h11 e.1),if_neg (fun e=>h12 e.1)]
 have HG:Hid (s.G n=s.G n):=rfl
 have HFF:Hid (s.F n=s.F n):=rfl
 simp only[evA]
 have HB0:Hid (Cb w _ Z c s k et ek en es ec em n w.heap.size):=Cb.new h et ek en es ec em n
 obtain⟨w1,HW1⟩: ∃w1,Hid (((w.alloc (.cells (evA et ek en es ec em) 62)).alloc (.cells (evA 0 0 0 0 0 0) 62)).alloc (.cells (evA 0 ek n 0 0 0) 62)=w1):=⟨_,rfl⟩
 rw[HW1.out]at HB0
 have HW1':Hid (((w.alloc (.cells #[.int .i64 et,.int .u8 ek,.int .i64 en,.int .i64 es,.int .i64 ec,.int .i64 em] 62)).alloc (.cells #[.int .i64 0,.int .u8 0,.int .i64 0,.int .i64 0,.int .i64 0,.int .i64 0] 62)).alloc (.cells #[.int .i64 0,.int .u8 ek,.int .i64 n,.int .i64 0,.int .i64 0,.int .i64 0] 62)=w1):=HW1
 obtain⟨b,HBB⟩: ∃b,Hid (w.heap.size=b):=⟨_,rfl⟩
 rw[HBB.out]at HB0
 have HQ:Hid (∀W,Fr [] w1 W->Cb w W Z c s k et ek en es ec em n b):=fun W hf=>HB0.out.quiet hf
 obtain⟨c5,c5b,c5c,_⟩:=HB0.out.cells
 obtain⟨m13,m14,_,_⟩:=HB0.out.maps hn
 have mo: ∀q,(Instr.lookup 111 (.map (some Z.ob)) (.int .i64 n) false).run Tryz.prog (w1.drewN q)= .ok (.int .i64 (s.F n)) (w1.drewN q):=fun q=>((HQ.out _ (Fr.drewN _ _ q)).maps hn).2.2.1
 have mc: ∀q,(Instr.lookup 112 (.map (some Z.cb)) (.int .i64 n) false).run Tryz.prog (w1.drewN q)= .ok (.int .u8 (s.G n)) (w1.drewN q):=fun q=>((HQ.out _ (Fr.drewN _ _ q)).maps hn).2.2.2
 obtain⟨gn,hgn⟩: ∃gn,gn=s.G n:=⟨_,rfl⟩
 obtain⟨fn,hfn⟩: ∃fn,fn=s.F n:=⟨_,rfl⟩
 rw[<-hgn]at mc HG
 rw[<-hfn]at mo HFF
 clear HW1
 have k9:(ek==9)=false:=by simpa using h9
 have k10:(ek==10)=false:=by simpa using h10
 have k11:(ek==11)=false:=by simpa using h11
 have k12:(ek==12)=false:=by simpa using h12
 clear h9 h10 h11 h12
 have HGN:Hid (s.G n=gn):=hgn.symm
 have HFN:Hid (s.F n=fn):=hfn.symm
 clear hgn hfn HG HFF h
 go_enter Tryz.func124,Tryz.ntmps124
 go_upto_region 2 with fail
 rw[HW1'.out,HBB.out]
 go_wp2_with fail
 go_quiet (fail)
 obtain⟨w2,HW2⟩: ∃w2,Hid (w1.drewN nq=w2):=⟨_,rfl⟩
 have HC2:Hid (Cb w w2 Z c s k et ek en es ec em n b):=by rw[<-HW2.out];exact HQ.out _ (Fr.drewN _ _ _)
 rw[HW2.out]
 clear HW2 c5 c5b c5c m13 m14 mo mc HQ HB0
 obtain⟨c5,c5b,c5c,c73,c74,z3,z4⟩:=HC2.out.cells
 obtain⟨m13,m14,mo,mc⟩:=HC2.out.maps hn
 rw[HGN.out]at mc
 rw[HFN.out]at mo
 have HB:=HC2.out.r6
 clear c73 c74 z3 z4
 go_wp2_with (refine zab rfl _ _ rfl (b+1) 0 0 0 0 0 0 rfl rfl 0 0 0 0 0 0 HB ?_;intro w3 hw3 hf3)
 refine bodyPost_ret (zaf rfl _ _ _ (b+1) _ rfl (zae hw3.out)) rfl ?_
 rw[HO.out]
 obtain⟨m1,m2⟩:=HC2.out.fin HC2.out.st (Mv.refl _ _) (hf3.mono (by simp))
 exact⟨Z,rfl,m1.mono (Nat.le_succ k),m2,rfl⟩
theorem ztr (h:SyM w Z c s k) (et en es ec em n:Int) (hn:i64 n) (hg:s.G n≠0) :
  Calls Tryz.prog 124 #[.pointer (some ⟨Z.sb,0,none⟩),.int .i64 n,.agg (evA et 9 en es ec em)] w (zav w Z c k (cal c s n ⟨et,9,en,es,ec,em⟩)):=by
 have HO:Hid (cal c s n ⟨et,9,en,es,ec,em⟩=(Te.no,s)):=by
  show cal c s n ⟨et,9,en,es,ec,em⟩=_
  unfold cal
  rw[if_neg (fun e=>hg e.2),if_neg (fun e=>by simp at e),if_neg (fun e=>by simp at e),if_neg (fun e=>by simp at e)]
 have HG:Hid (s.G n=s.G n):=rfl
 have HFF:Hid (s.F n=s.F n):=rfl
 simp only[evA]
 have HB0:Hid (Cb w _ Z c s k et 9 en es ec em n w.heap.size):=Cb.new h et 9 en es ec em n
 obtain⟨w1,HW1⟩: ∃w1,Hid (((w.alloc (.cells (evA et 9 en es ec em) 62)).alloc (.cells (evA 0 0 0 0 0 0) 62)).alloc (.cells (evA 0 9 n 0 0 0) 62)=w1):=⟨_,rfl⟩
 rw[HW1.out]at HB0
 have HW1':Hid (((w.alloc (.cells #[.int .i64 et,.int .u8 9,.int .i64 en,.int .i64 es,.int .i64 ec,.int .i64 em] 62)).alloc (.cells #[.int .i64 0,.int .u8 0,.int .i64 0,.int .i64 0,.int .i64 0,.int .i64 0] 62)).alloc (.cells #[.int .i64 0,.int .u8 9,.int .i64 n,.int .i64 0,.int .i64 0,.int .i64 0] 62)=w1):=HW1
 obtain⟨b,HBB⟩: ∃b,Hid (w.heap.size=b):=⟨_,rfl⟩
 rw[HBB.out]at HB0
 have HQ:Hid (∀W,Fr [] w1 W->Cb w W Z c s k et 9 en es ec em n b):=fun W hf=>HB0.out.quiet hf
 obtain⟨c5,c5b,c5c,_⟩:=HB0.out.cells
 obtain⟨m13,m14,_,_⟩:=HB0.out.maps hn
 have mo: ∀q,(Instr.lookup 111 (.map (some Z.ob)) (.int .i64 n) false).run Tryz.prog (w1.drewN q)= .ok (.int .i64 (s.F n)) (w1.drewN q):=fun q=>((HQ.out _ (Fr.drewN _ _ q)).maps hn).2.2.1
 have mc: ∀q,(Instr.lookup 112 (.map (some Z.cb)) (.int .i64 n) false).run Tryz.prog (w1.drewN q)= .ok (.int .u8 (s.G n)) (w1.drewN q):=fun q=>((HQ.out _ (Fr.drewN _ _ q)).maps hn).2.2.2
 obtain⟨gn,hgn⟩: ∃gn,gn=s.G n:=⟨_,rfl⟩
 obtain⟨fn,hfn⟩: ∃fn,fn=s.F n:=⟨_,rfl⟩
 rw[<-hgn]at mc HG
 rw[<-hfn]at mo HFF
 clear HW1
 have g0:(gn==0)=false:=by rw[hgn];simpa using hg
 clear hg
 have HGN:Hid (s.G n=gn):=hgn.symm
 have HFN:Hid (s.F n=fn):=hfn.symm
 clear hgn hfn HG HFF h
 go_enter Tryz.func124,Tryz.ntmps124
 go_upto_region 2 with fail
 rw[HW1'.out,HBB.out]
 go_wp2_with fail
 go_quiet (fail)
 obtain⟨w2,HW2⟩: ∃w2,Hid (w1.drewN nq=w2):=⟨_,rfl⟩
 have HC2:Hid (Cb w w2 Z c s k et 9 en es ec em n b):=by rw[<-HW2.out];exact HQ.out _ (Fr.drewN _ _ _)
 rw[HW2.out]
 clear HW2 c5 c5b c5c m13 m14 mo mc HQ HB0
 obtain⟨c5,c5b,c5c,c73,c74,z3,z4⟩:=HC2.out.cells
 obtain⟨m13,m14,mo,mc⟩:=HC2.out.maps hn
 rw[HGN.out]at mc
 rw[HFN.out]at mo
 have HB:=HC2.out.r6
 clear c73 c74 z3 z4
 go_wp2_with (refine zab rfl _ _ rfl (b+1) 0 0 0 0 0 0 rfl rfl 0 0 0 0 0 0 HB ?_;intro w3 hw3 hf3)
 refine bodyPost_ret (zaf rfl _ _ _ (b+1) _ rfl (zae hw3.out)) rfl ?_
 rw[HO.out]
 obtain⟨m1,m2⟩:=HC2.out.fin HC2.out.st (Mv.refl _ _) (hf3.mono (by simp))
 exact⟨Z,rfl,m1.mono (Nat.le_succ k),m2,rfl⟩
theorem zqy (h:SyM w Z c s k) (et en es ec em n:Int) (hn:i64 n) (hg:s.G n≠1) :
  Calls Tryz.prog 124 #[.pointer (some ⟨Z.sb,0,none⟩),.int .i64 n,.agg (evA et 10 en es ec em)] w (zav w Z c k (cal c s n ⟨et,10,en,es,ec,em⟩)):=by
 have HO:Hid (cal c s n ⟨et,10,en,es,ec,em⟩=(Te.no,s)):=by
  show cal c s n ⟨et,10,en,es,ec,em⟩=_
  unfold cal
  rw[if_neg (fun e=>by simp at e),if_neg (fun e=>hg e.2.1),if_neg (fun e=>by simp at e),if_neg (fun e=>by simp at e)]
 have HG:Hid (s.G n=s.G n):=rfl
 have HFF:Hid (s.F n=s.F n):=rfl
 simp only[evA]
 have HB0:Hid (Cb w _ Z c s k et 10 en es ec em n w.heap.size):=Cb.new h et 10 en es ec em n
 obtain⟨w1,HW1⟩: ∃w1,Hid (((w.alloc (.cells (evA et 10 en es ec em) 62)).alloc (.cells (evA 0 0 0 0 0 0) 62)).alloc (.cells (evA 0 10 n 0 0 0) 62)=w1):=⟨_,rfl⟩
 rw[HW1.out]at HB0
 have HW1':Hid (((w.alloc (.cells #[.int .i64 et,.int .u8 10,.int .i64 en,.int .i64 es,.int .i64 ec,.int .i64 em] 62)).alloc (.cells #[.int .i64 0,.int .u8 0,.int .i64 0,.int .i64 0,.int .i64 0,.int .i64 0] 62)).alloc (.cells #[.int .i64 0,.int .u8 10,.int .i64 n,.int .i64 0,.int .i64 0,.int .i64 0] 62)=w1):=HW1
 obtain⟨b,HBB⟩: ∃b,Hid (w.heap.size=b):=⟨_,rfl⟩
 rw[HBB.out]at HB0
 have HQ:Hid (∀W,Fr [] w1 W->Cb w W Z c s k et 10 en es ec em n b):=fun W hf=>HB0.out.quiet hf
 obtain⟨c5,c5b,c5c,_⟩:=HB0.out.cells
 obtain⟨m13,m14,_,_⟩:=HB0.out.maps hn
 have mo: ∀q,(Instr.lookup 111 (.map (some Z.ob)) (.int .i64 n) false).run Tryz.prog (w1.drewN q)= .ok (.int .i64 (s.F n)) (w1.drewN q):=fun q=>((HQ.out _ (Fr.drewN _ _ q)).maps hn).2.2.1
 have mc: ∀q,(Instr.lookup 112 (.map (some Z.cb)) (.int .i64 n) false).run Tryz.prog (w1.drewN q)= .ok (.int .u8 (s.G n)) (w1.drewN q):=fun q=>((HQ.out _ (Fr.drewN _ _ q)).maps hn).2.2.2
 obtain⟨gn,hgn⟩: ∃gn,gn=s.G n:=⟨_,rfl⟩
 obtain⟨fn,hfn⟩: ∃fn,fn=s.F n:=⟨_,rfl⟩
 rw[<-hgn]at mc HG
 rw[<-hfn]at mo HFF
 clear HW1
 have g1:(gn==1)=false:=by rw[hgn];simpa using hg
 clear hg
 have HGN:Hid (s.G n=gn):=hgn.symm
 have HFN:Hid (s.F n=fn):=hfn.symm
 clear hgn hfn HG HFF h
 go_enter Tryz.func124,Tryz.ntmps124
 go_upto_region 2 with fail
 rw[HW1'.out,HBB.out]
 go_wp2_with fail
 go_quiet (fail)
 obtain⟨w2,HW2⟩: ∃w2,Hid (w1.drewN nq=w2):=⟨_,rfl⟩
 have HC2:Hid (Cb w w2 Z c s k et 10 en es ec em n b):=by rw[<-HW2.out];exact HQ.out _ (Fr.drewN _ _ _)
 rw[HW2.out]
 clear HW2 c5 c5b c5c m13 m14 mo mc HQ HB0
 obtain⟨c5,c5b,c5c,c73,c74,z3,z4⟩:=HC2.out.cells
 obtain⟨m13,m14,mo,mc⟩:=HC2.out.maps hn
 rw[HGN.out]at mc
 rw[HFN.out]at mo
 have HB:=HC2.out.r6
 clear c73 c74 z3 z4
 go_wp2_with (refine zab rfl _ _ rfl (b+1) 0 0 0 0 0 0 rfl rfl 0 0 0 0 0 0 HB ?_;intro w3 hw3 hf3)
 refine bodyPost_ret (zaf rfl _ _ _ (b+1) _ rfl (zae hw3.out)) rfl ?_
 rw[HO.out]
 obtain⟨m1,m2⟩:=HC2.out.fin HC2.out.st (Mv.refl _ _) (hf3.mono (by simp))
 exact⟨Z,rfl,m1.mono (Nat.le_succ k),m2,rfl⟩
theorem zqz (h:SyM w Z c s k) (et en es ec em n:Int) (hn:i64 n) (hg:s.G n≠1) :
  Calls Tryz.prog 124 #[.pointer (some ⟨Z.sb,0,none⟩),.int .i64 n,.agg (evA et 11 en es ec em)] w (zav w Z c k (cal c s n ⟨et,11,en,es,ec,em⟩)):=by
 have HO:Hid (cal c s n ⟨et,11,en,es,ec,em⟩=(Te.no,s)):=by
  show cal c s n ⟨et,11,en,es,ec,em⟩=_
  unfold cal
  rw[if_neg (fun e=>by simp at e),if_neg (fun e=>by simp at e),if_neg (fun e=>hg e.2.1),if_neg (fun e=>by simp at e)]
 have HG:Hid (s.G n=s.G n):=rfl
 have HFF:Hid (s.F n=s.F n):=rfl
 simp only[evA]
 have HB0:Hid (Cb w _ Z c s k et 11 en es ec em n w.heap.size):=Cb.new h et 11 en es ec em n
 obtain⟨w1,HW1⟩: ∃w1,Hid (((w.alloc (.cells (evA et 11 en es ec em) 62)).alloc (.cells (evA 0 0 0 0 0 0) 62)).alloc (.cells (evA 0 11 n 0 0 0) 62)=w1):=⟨_,rfl⟩
 rw[HW1.out]at HB0
 have HW1':Hid (((w.alloc (.cells #[.int .i64 et,.int .u8 11,.int .i64 en,.int .i64 es,.int .i64 ec,.int .i64 em] 62)).alloc (.cells #[.int .i64 0,.int .u8 0,.int .i64 0,.int .i64 0,.int .i64 0,.int .i64 0] 62)).alloc (.cells #[.int .i64 0,.int .u8 11,.int .i64 n,.int .i64 0,.int .i64 0,.int .i64 0] 62)=w1):=HW1
 obtain⟨b,HBB⟩: ∃b,Hid (w.heap.size=b):=⟨_,rfl⟩
 rw[HBB.out]at HB0
 have HQ:Hid (∀W,Fr [] w1 W->Cb w W Z c s k et 11 en es ec em n b):=fun W hf=>HB0.out.quiet hf
 obtain⟨c5,c5b,c5c,_⟩:=HB0.out.cells
 obtain⟨m13,m14,_,_⟩:=HB0.out.maps hn
 have mo: ∀q,(Instr.lookup 111 (.map (some Z.ob)) (.int .i64 n) false).run Tryz.prog (w1.drewN q)= .ok (.int .i64 (s.F n)) (w1.drewN q):=fun q=>((HQ.out _ (Fr.drewN _ _ q)).maps hn).2.2.1
 have mc: ∀q,(Instr.lookup 112 (.map (some Z.cb)) (.int .i64 n) false).run Tryz.prog (w1.drewN q)= .ok (.int .u8 (s.G n)) (w1.drewN q):=fun q=>((HQ.out _ (Fr.drewN _ _ q)).maps hn).2.2.2
 obtain⟨gn,hgn⟩: ∃gn,gn=s.G n:=⟨_,rfl⟩
 obtain⟨fn,hfn⟩: ∃fn,fn=s.F n:=⟨_,rfl⟩
 rw[<-hgn]at mc HG
 rw[<-hfn]at mo HFF
 clear HW1
 have g1:(gn==1)=false:=by rw[hgn];simpa using hg
 clear hg
 have HGN:Hid (s.G n=gn):=hgn.symm
 have HFN:Hid (s.F n=fn):=hfn.symm
 clear hgn hfn HG HFF h
 go_enter Tryz.func124,Tryz.ntmps124
 go_upto_region 2 with fail
 rw[HW1'.out,HBB.out]
 go_wp2_with fail
 go_quiet (fail)
 obtain⟨w2,HW2⟩: ∃w2,Hid (w1.drewN nq=w2):=⟨_,rfl⟩
 have HC2:Hid (Cb w w2 Z c s k et 11 en es ec em n b):=by rw[<-HW2.out];exact HQ.out _ (Fr.drewN _ _ _)
 rw[HW2.out]
 clear HW2 c5 c5b c5c m13 m14 mo mc HQ HB0
 obtain⟨c5,c5b,c5c,c73,c74,z3,z4⟩:=HC2.out.cells
 obtain⟨m13,m14,mo,mc⟩:=HC2.out.maps hn
 rw[HGN.out]at mc
 rw[HFN.out]at mo
 have HB:=HC2.out.r6
 clear c73 c74 z3 z4
 go_wp2_with (refine zab rfl _ _ rfl (b+1) 0 0 0 0 0 0 rfl rfl 0 0 0 0 0 0 HB ?_;intro w3 hw3 hf3)
 refine bodyPost_ret (zaf rfl _ _ _ (b+1) _ rfl (zae hw3.out)) rfl ?_
 rw[HO.out]
 obtain⟨m1,m2⟩:=HC2.out.fin HC2.out.st (Mv.refl _ _) (hf3.mono (by simp))
 exact⟨Z,rfl,m1.mono (Nat.le_succ k),m2,rfl⟩
theorem zra (h:SyM w Z c s k) (et en es ec em n:Int) (hn:i64 n) (hg:s.G n≠1) :
  Calls Tryz.prog 124 #[.pointer (some ⟨Z.sb,0,none⟩),.int .i64 n,.agg (evA et 12 en es ec em)] w (zav w Z c k (cal c s n ⟨et,12,en,es,ec,em⟩)):=by
 have HO:Hid (cal c s n ⟨et,12,en,es,ec,em⟩=(Te.no,s)):=by
  show cal c s n ⟨et,12,en,es,ec,em⟩=_
  unfold cal
  rw[if_neg (fun e=>by simp at e),if_neg (fun e=>by simp at e),if_neg (fun e=>by simp at e),if_neg (fun e=>hg e.2.1)]
 have HG:Hid (s.G n=s.G n):=rfl
 have HFF:Hid (s.F n=s.F n):=rfl
 simp only[evA]
 have HB0:Hid (Cb w _ Z c s k et 12 en es ec em n w.heap.size):=Cb.new h et 12 en es ec em n
 obtain⟨w1,HW1⟩: ∃w1,Hid (((w.alloc (.cells (evA et 12 en es ec em) 62)).alloc (.cells (evA 0 0 0 0 0 0) 62)).alloc (.cells (evA 0 12 n 0 0 0) 62)=w1):=⟨_,rfl⟩
 rw[HW1.out]at HB0
 have HW1':Hid (((w.alloc (.cells #[.int .i64 et,.int .u8 12,.int .i64 en,.int .i64 es,.int .i64 ec,.int .i64 em] 62)).alloc (.cells #[.int .i64 0,.int .u8 0,.int .i64 0,.int .i64 0,.int .i64 0,.int .i64 0] 62)).alloc (.cells #[.int .i64 0,.int .u8 12,.int .i64 n,.int .i64 0,.int .i64 0,.int .i64 0] 62)=w1):=HW1
 obtain⟨b,HBB⟩: ∃b,Hid (w.heap.size=b):=⟨_,rfl⟩
 rw[HBB.out]at HB0
 have HQ:Hid (∀W,Fr [] w1 W->Cb w W Z c s k et 12 en es ec em n b):=fun W hf=>HB0.out.quiet hf
 obtain⟨c5,c5b,c5c,_⟩:=HB0.out.cells
 obtain⟨m13,m14,_,_⟩:=HB0.out.maps hn
 have mo: ∀q,(Instr.lookup 111 (.map (some Z.ob)) (.int .i64 n) false).run Tryz.prog (w1.drewN q)= .ok (.int .i64 (s.F n)) (w1.drewN q):=fun q=>((HQ.out _ (Fr.drewN _ _ q)).maps hn).2.2.1
 have mc: ∀q,(Instr.lookup 112 (.map (some Z.cb)) (.int .i64 n) false).run Tryz.prog (w1.drewN q)= .ok (.int .u8 (s.G n)) (w1.drewN q):=fun q=>((HQ.out _ (Fr.drewN _ _ q)).maps hn).2.2.2
 obtain⟨gn,hgn⟩: ∃gn,gn=s.G n:=⟨_,rfl⟩
 obtain⟨fn,hfn⟩: ∃fn,fn=s.F n:=⟨_,rfl⟩
 rw[<-hgn]at mc HG
 rw[<-hfn]at mo HFF
 clear HW1
 have g1:(gn==1)=false:=by rw[hgn];simpa using hg
 clear hg
 have HGN:Hid (s.G n=gn):=hgn.symm
 have HFN:Hid (s.F n=fn):=hfn.symm
 clear hgn hfn HG HFF h
 go_enter Tryz.func124,Tryz.ntmps124
 go_upto_region 2 with fail
 rw[HW1'.out,HBB.out]
 go_wp2_with fail
 go_quiet (fail)
 obtain⟨w2,HW2⟩: ∃w2,Hid (w1.drewN nq=w2):=⟨_,rfl⟩
 have HC2:Hid (Cb w w2 Z c s k et 12 en es ec em n b):=by rw[<-HW2.out];exact HQ.out _ (Fr.drewN _ _ _)
 rw[HW2.out]
 clear HW2 c5 c5b c5c m13 m14 mo mc HQ HB0
 obtain⟨c5,c5b,c5c,c73,c74,z3,z4⟩:=HC2.out.cells
 obtain⟨m13,m14,mo,mc⟩:=HC2.out.maps hn
 rw[HGN.out]at mc
 rw[HFN.out]at mo
 have HB:=HC2.out.r6
 clear c73 c74 z3 z4
 go_wp2_with (refine zab rfl _ _ rfl (b+1) 0 0 0 0 0 0 rfl rfl 0 0 0 0 0 0 HB ?_;intro w3 hw3 hf3)
 refine bodyPost_ret (zaf rfl _ _ _ (b+1) _ rfl (zae hw3.out)) rfl ?_
 rw[HO.out]
 obtain⟨m1,m2⟩:=HC2.out.fin HC2.out.st (Mv.refl _ _) (hf3.mono (by simp))
 exact⟨Z,rfl,m1.mono (Nat.le_succ k),m2,rfl⟩
theorem zls (h:SyM w Z c s k) (et en es ec em n:Int) (hn:i64 n) (hg:s.G n=1) (hf:s.F n≠0) :
  Calls Tryz.prog 124 #[.pointer (some ⟨Z.sb,0,none⟩),.int .i64 n,.agg (evA et 11 en es ec em)] w (zav w Z c k (cal c s n ⟨et,11,en,es,ec,em⟩)):=by
 have HO:Hid (cal c s n ⟨et,11,en,es,ec,em⟩=(Te.no,s)):=by
  show cal c s n ⟨et,11,en,es,ec,em⟩=_
  unfold cal
  rw[if_neg (fun e=>by simp at e),if_neg (fun e=>by simp at e),if_neg (fun e=>hf e.2.2.1),if_neg (fun e=>by simp at e)]
 have HG:Hid (s.G n=s.G n):=rfl
 have HFF:Hid (s.F n=s.F n):=rfl
 simp only[evA]
 have HB0:Hid (Cb w _ Z c s k et 11 en es ec em n w.heap.size):=Cb.new h et 11 en es ec em n
 obtain⟨w1,HW1⟩: ∃w1,Hid (((w.alloc (.cells (evA et 11 en es ec em) 62)).alloc (.cells (evA 0 0 0 0 0 0) 62)).alloc (.cells (evA 0 11 n 0 0 0) 62)=w1):=⟨_,rfl⟩
 rw[HW1.out]at HB0
 have HW1':Hid (((w.alloc (.cells #[.int .i64 et,.int .u8 11,.int .i64 en,.int .i64 es,.int .i64 ec,.int .i64 em] 62)).alloc (.cells #[.int .i64 0,.int .u8 0,.int .i64 0,.int .i64 0,.int .i64 0,.int .i64 0] 62)).alloc (.cells #[.int .i64 0,.int .u8 11,.int .i64 n,.int .i64 0,.int .i64 0,.int .i64 0] 62)=w1):=HW1
 obtain⟨b,HBB⟩: ∃b,Hid (w.heap.size=b):=⟨_,rfl⟩
 rw[HBB.out]at HB0
 have HQ:Hid (∀W,Fr [] w1 W->Cb w W Z c s k et 11 en es ec em n b):=fun W hf=>HB0.out.quiet hf
 obtain⟨c5,c5b,c5c,_⟩:=HB0.out.cells
 obtain⟨m13,m14,_,_⟩:=HB0.out.maps hn
 have mo: ∀q,(Instr.lookup 111 (.map (some Z.ob)) (.int .i64 n) false).run Tryz.prog (w1.drewN q)= .ok (.int .i64 (s.F n)) (w1.drewN q):=fun q=>((HQ.out _ (Fr.drewN _ _ q)).maps hn).2.2.1
 have mc: ∀q,(Instr.lookup 112 (.map (some Z.cb)) (.int .i64 n) false).run Tryz.prog (w1.drewN q)= .ok (.int .u8 (s.G n)) (w1.drewN q):=fun q=>((HQ.out _ (Fr.drewN _ _ q)).maps hn).2.2.2
 obtain⟨gn,hgn⟩: ∃gn,gn=s.G n:=⟨_,rfl⟩
 obtain⟨fn,hfn⟩: ∃fn,fn=s.F n:=⟨_,rfl⟩
 rw[<-hgn]at mc HG
 rw[<-hfn]at mo HFF
 clear HW1
 have g1:(gn==1)=true:=by rw[hgn];simpa using hg
 have f0:(fn==0)=false:=by rw[hfn];simpa using hf
 clear hg hf
 have HGN:Hid (s.G n=gn):=hgn.symm
 have HFN:Hid (s.F n=fn):=hfn.symm
 clear hgn hfn HG HFF h
 go_enter Tryz.func124,Tryz.ntmps124
 go_upto_region 2 with fail
 rw[HW1'.out,HBB.out]
 go_wp2_with fail
 go_quiet (fail)
 obtain⟨w2,HW2⟩: ∃w2,Hid (w1.drewN nq=w2):=⟨_,rfl⟩
 have HC2:Hid (Cb w w2 Z c s k et 11 en es ec em n b):=by rw[<-HW2.out];exact HQ.out _ (Fr.drewN _ _ _)
 rw[HW2.out]
 clear HW2 c5 c5b c5c m13 m14 mo mc HQ HB0
 obtain⟨c5,c5b,c5c,c73,c74,z3,z4⟩:=HC2.out.cells
 obtain⟨m13,m14,mo,mc⟩:=HC2.out.maps hn
 rw[HGN.out]at mc
 rw[HFN.out]at mo
 have HB:=HC2.out.r6
 clear c73 c74 z3 z4
 go_wp2_with (refine zab rfl _ _ rfl (b+1) 0 0 0 0 0 0 rfl rfl 0 0 0 0 0 0 HB ?_;intro w3 hw3 hf3)
 refine bodyPost_ret (zaf rfl _ _ _ (b+1) _ rfl (zae hw3.out)) rfl ?_
 rw[HO.out]
 obtain⟨m1,m2⟩:=HC2.out.fin HC2.out.st (Mv.refl _ _) (hf3.mono (by simp))
 exact⟨Z,rfl,m1.mono (Nat.le_succ k),m2,rfl⟩
theorem zlt (h:SyM w Z c s k) (et en es ec em n:Int) (hn:i64 n) (hg:s.G n=1) (hf:s.F n≠0) :
  Calls Tryz.prog 124 #[.pointer (some ⟨Z.sb,0,none⟩),.int .i64 n,.agg (evA et 12 en es ec em)] w (zav w Z c k (cal c s n ⟨et,12,en,es,ec,em⟩)):=by
 have HO:Hid (cal c s n ⟨et,12,en,es,ec,em⟩=(Te.no,s)):=by
  show cal c s n ⟨et,12,en,es,ec,em⟩=_
  unfold cal
  rw[if_neg (fun e=>by simp at e),if_neg (fun e=>by simp at e),if_neg (fun e=>by simp at e),if_neg (fun e=>hf e.2.2)]
 have HG:Hid (s.G n=s.G n):=rfl
 have HFF:Hid (s.F n=s.F n):=rfl
 simp only[evA]
 have HB0:Hid (Cb w _ Z c s k et 12 en es ec em n w.heap.size):=Cb.new h et 12 en es ec em n
 obtain⟨w1,HW1⟩: ∃w1,Hid (((w.alloc (.cells (evA et 12 en es ec em) 62)).alloc (.cells (evA 0 0 0 0 0 0) 62)).alloc (.cells (evA 0 12 n 0 0 0) 62)=w1):=⟨_,rfl⟩
 rw[HW1.out]at HB0
 have HW1':Hid (((w.alloc (.cells #[.int .i64 et,.int .u8 12,.int .i64 en,.int .i64 es,.int .i64 ec,.int .i64 em] 62)).alloc (.cells #[.int .i64 0,.int .u8 0,.int .i64 0,.int .i64 0,.int .i64 0,.int .i64 0] 62)).alloc (.cells #[.int .i64 0,.int .u8 12,.int .i64 n,.int .i64 0,.int .i64 0,.int .i64 0] 62)=w1):=HW1
 obtain⟨b,HBB⟩: ∃b,Hid (w.heap.size=b):=⟨_,rfl⟩
 rw[HBB.out]at HB0
 have HQ:Hid (∀W,Fr [] w1 W->Cb w W Z c s k et 12 en es ec em n b):=fun W hf=>HB0.out.quiet hf
 obtain⟨c5,c5b,c5c,_⟩:=HB0.out.cells
 obtain⟨m13,m14,_,_⟩:=HB0.out.maps hn
 have mo: ∀q,(Instr.lookup 111 (.map (some Z.ob)) (.int .i64 n) false).run Tryz.prog (w1.drewN q)= .ok (.int .i64 (s.F n)) (w1.drewN q):=fun q=>((HQ.out _ (Fr.drewN _ _ q)).maps hn).2.2.1
 have mc: ∀q,(Instr.lookup 112 (.map (some Z.cb)) (.int .i64 n) false).run Tryz.prog (w1.drewN q)= .ok (.int .u8 (s.G n)) (w1.drewN q):=fun q=>((HQ.out _ (Fr.drewN _ _ q)).maps hn).2.2.2
 obtain⟨gn,hgn⟩: ∃gn,gn=s.G n:=⟨_,rfl⟩
 obtain⟨fn,hfn⟩: ∃fn,fn=s.F n:=⟨_,rfl⟩
 rw[<-hgn]at mc HG
 rw[<-hfn]at mo HFF
 clear HW1
 have g1:(gn==1)=true:=by rw[hgn];simpa using hg
 have f0:(fn==0)=false:=by rw[hfn];simpa using hf
 clear hg hf
 have HGN:Hid (s.G n=gn):=hgn.symm
 have HFN:Hid (s.F n=fn):=hfn.symm
 clear hgn hfn HG HFF h
 go_enter Tryz.func124,Tryz.ntmps124
 go_upto_region 2 with fail
 rw[HW1'.out,HBB.out]
 go_wp2_with fail
 go_quiet (fail)
 obtain⟨w2,HW2⟩: ∃w2,Hid (w1.drewN nq=w2):=⟨_,rfl⟩
 have HC2:Hid (Cb w w2 Z c s k et 12 en es ec em n b):=by rw[<-HW2.out];exact HQ.out _ (Fr.drewN _ _ _)
 rw[HW2.out]
 clear HW2 c5 c5b c5c m13 m14 mo mc HQ HB0
 obtain⟨c5,c5b,c5c,c73,c74,z3,z4⟩:=HC2.out.cells
 obtain⟨m13,m14,mo,mc⟩:=HC2.out.maps hn
 rw[HGN.out]at mc
 rw[HFN.out]at mo
 have HB:=HC2.out.r6
 clear c73 c74 z3 z4
 go_wp2_with (refine zab rfl _ _ rfl (b+1) 0 0 0 0 0 0 rfl rfl 0 0 0 0 0 0 HB ?_;intro w3 hw3 hf3)
 refine bodyPost_ret (zaf rfl _ _ _ (b+1) _ rfl (zae hw3.out)) rfl ?_
 rw[HO.out]
 obtain⟨m1,m2⟩:=HC2.out.fin HC2.out.st (Mv.refl _ _) (hf3.mono (by simp))
 exact⟨Z,rfl,m1.mono (Nat.le_succ k),m2,rfl⟩
theorem znp (h:SyM w Z c s k) (et en es ec em n:Int) (hn:i64 n) (hg:s.G n=1) (hf:s.F n=0) (hc: ¬0<=ec) :
  Calls Tryz.prog 124 #[.pointer (some ⟨Z.sb,0,none⟩),.int .i64 n,.agg (evA et 11 en es ec em)] w (zav w Z c k (cal c s n ⟨et,11,en,es,ec,em⟩)):=by
 have HO:Hid (cal c s n ⟨et,11,en,es,ec,em⟩=(Te.no,s)):=by
  show cal c s n ⟨et,11,en,es,ec,em⟩=_
  unfold cal
  rw[if_neg (fun e=>by simp at e),if_neg (fun e=>by simp at e),if_neg (fun e=>hc e.2.2.2),if_neg (fun e=>by simp at e)]
 have HG:Hid (s.G n=s.G n):=rfl
 have HFF:Hid (s.F n=s.F n):=rfl
 simp only[evA]
 have HB0:Hid (Cb w _ Z c s k et 11 en es ec em n w.heap.size):=Cb.new h et 11 en es ec em n
 obtain⟨w1,HW1⟩: ∃w1,Hid (((w.alloc (.cells (evA et 11 en es ec em) 62)).alloc (.cells (evA 0 0 0 0 0 0) 62)).alloc (.cells (evA 0 11 n 0 0 0) 62)=w1):=⟨_,rfl⟩
 rw[HW1.out]at HB0
 have HW1':Hid (((w.alloc (.cells #[.int .i64 et,.int .u8 11,.int .i64 en,.int .i64 es,.int .i64 ec,.int .i64 em] 62)).alloc (.cells #[.int .i64 0,.int .u8 0,.int .i64 0,.int .i64 0,.int .i64 0,.int .i64 0] 62)).alloc (.cells #[.int .i64 0,.int .u8 11,.int .i64 n,.int .i64 0,.int .i64 0,.int .i64 0] 62)=w1):=HW1
 obtain⟨b,HBB⟩: ∃b,Hid (w.heap.size=b):=⟨_,rfl⟩
 rw[HBB.out]at HB0
 have HQ:Hid (∀W,Fr [] w1 W->Cb w W Z c s k et 11 en es ec em n b):=fun W hf=>HB0.out.quiet hf
 obtain⟨c5,c5b,c5c,_⟩:=HB0.out.cells
 obtain⟨m13,m14,_,_⟩:=HB0.out.maps hn
 have mo: ∀q,(Instr.lookup 111 (.map (some Z.ob)) (.int .i64 n) false).run Tryz.prog (w1.drewN q)= .ok (.int .i64 (s.F n)) (w1.drewN q):=fun q=>((HQ.out _ (Fr.drewN _ _ q)).maps hn).2.2.1
 have mc: ∀q,(Instr.lookup 112 (.map (some Z.cb)) (.int .i64 n) false).run Tryz.prog (w1.drewN q)= .ok (.int .u8 (s.G n)) (w1.drewN q):=fun q=>((HQ.out _ (Fr.drewN _ _ q)).maps hn).2.2.2
 obtain⟨gn,hgn⟩: ∃gn,gn=s.G n:=⟨_,rfl⟩
 obtain⟨fn,hfn⟩: ∃fn,fn=s.F n:=⟨_,rfl⟩
 rw[<-hgn]at mc HG
 rw[<-hfn]at mo HFF
 clear HW1
 have g1:(gn==1)=true:=by rw[hgn];simpa using hg
 have f0:(fn==0)=true:=by rw[hfn];simpa using hf
 have hcd:decide (0<=ec)=false:=by simpa using hc
 clear hg hf
 have HGN:Hid (s.G n=gn):=hgn.symm
 have HFN:Hid (s.F n=fn):=hfn.symm
 clear hgn hfn HG HFF h
 go_enter Tryz.func124,Tryz.ntmps124
 go_upto_region 2 with fail
 rw[HW1'.out,HBB.out]
 go_wp2_with fail
 go_quiet (fail)
 obtain⟨w2,HW2⟩: ∃w2,Hid (w1.drewN nq=w2):=⟨_,rfl⟩
 have HC2:Hid (Cb w w2 Z c s k et 11 en es ec em n b):=by rw[<-HW2.out];exact HQ.out _ (Fr.drewN _ _ _)
 rw[HW2.out]
 clear HW2 c5 c5b c5c m13 m14 mo mc HQ HB0
 obtain⟨c5,c5b,c5c,c73,c74,z3,z4⟩:=HC2.out.cells
 obtain⟨m13,m14,mo,mc⟩:=HC2.out.maps hn
 rw[HGN.out]at mc
 rw[HFN.out]at mo
 have HB:=HC2.out.r6
 clear c73 c74 z3 z4
 go_wp2_with (refine zab rfl _ _ rfl (b+1) 0 0 0 0 0 0 rfl rfl 0 0 0 0 0 0 HB ?_;intro w3 hw3 hf3)
 refine bodyPost_ret (zaf rfl _ _ _ (b+1) _ rfl (zae hw3.out)) rfl ?_
 rw[HO.out]
 obtain⟨m1,m2⟩:=HC2.out.fin HC2.out.st (Mv.refl _ _) (hf3.mono (by simp))
 exact⟨Z,rfl,m1.mono (Nat.le_succ k),m2,rfl⟩
theorem zrb (h:SyM w Z c s k) (et en es ec em n:Int) (hn:i64 n) (hg:s.G n=0) (hk:k<4611686018427387904) :
  Calls Tryz.prog 124 #[.pointer (some ⟨Z.sb,0,none⟩),.int .i64 n,.agg (evA et 9 en es ec em)] w (zav w Z c k (cal c s n ⟨et,9,en,es,ec,em⟩)):=by
 have HO:Hid (cal c s n ⟨et,9,en,es,ec,em⟩=(⟨9,n,0,0⟩,{ s with G:=updI s.G n 1 })):=by
  show cal c s n ⟨et,9,en,es,ec,em⟩=_
  unfold cal
  rw[if_pos ⟨rfl,hg⟩]
 have HG:Hid (s.G n=s.G n):=rfl
 have HFF:Hid (s.F n=s.F n):=rfl
 simp only[evA]
 have HB0:Hid (Cb w _ Z c s k et 9 en es ec em n w.heap.size):=Cb.new h et 9 en es ec em n
 obtain⟨w1,HW1⟩: ∃w1,Hid (((w.alloc (.cells (evA et 9 en es ec em) 62)).alloc (.cells (evA 0 0 0 0 0 0) 62)).alloc (.cells (evA 0 9 n 0 0 0) 62)=w1):=⟨_,rfl⟩
 rw[HW1.out]at HB0
 have HW1':Hid (((w.alloc (.cells #[.int .i64 et,.int .u8 9,.int .i64 en,.int .i64 es,.int .i64 ec,.int .i64 em] 62)).alloc (.cells #[.int .i64 0,.int .u8 0,.int .i64 0,.int .i64 0,.int .i64 0,.int .i64 0] 62)).alloc (.cells #[.int .i64 0,.int .u8 9,.int .i64 n,.int .i64 0,.int .i64 0,.int .i64 0] 62)=w1):=HW1
 obtain⟨b,HBB⟩: ∃b,Hid (w.heap.size=b):=⟨_,rfl⟩
 rw[HBB.out]at HB0
 have HQ:Hid (∀W,Fr [] w1 W->Cb w W Z c s k et 9 en es ec em n b):=fun W hf=>HB0.out.quiet hf
 obtain⟨c5,c5b,c5c,_⟩:=HB0.out.cells
 obtain⟨m13,m14,_,_⟩:=HB0.out.maps hn
 have mo: ∀q,(Instr.lookup 111 (.map (some Z.ob)) (.int .i64 n) false).run Tryz.prog (w1.drewN q)= .ok (.int .i64 (s.F n)) (w1.drewN q):=fun q=>((HQ.out _ (Fr.drewN _ _ q)).maps hn).2.2.1
 have mc: ∀q,(Instr.lookup 112 (.map (some Z.cb)) (.int .i64 n) false).run Tryz.prog (w1.drewN q)= .ok (.int .u8 (s.G n)) (w1.drewN q):=fun q=>((HQ.out _ (Fr.drewN _ _ q)).maps hn).2.2.2
 obtain⟨gn,hgn⟩: ∃gn,gn=s.G n:=⟨_,rfl⟩
 obtain⟨fn,hfn⟩: ∃fn,fn=s.F n:=⟨_,rfl⟩
 rw[<-hgn]at mc HG
 rw[<-hfn]at mo HFF
 clear HW1
 have g0:(gn==0)=true:=by rw[hgn];simpa using hg
 clear hg
 have HGN:Hid (s.G n=gn):=hgn.symm
 have HFN:Hid (s.F n=fn):=hfn.symm
 clear hgn hfn HG HFF h
 go_enter Tryz.func124,Tryz.ntmps124
 go_upto_region 2 with fail
 rw[HW1'.out,HBB.out]
 go_wp2_with fail
 go_quiet (fail)
 obtain⟨w2,HW2⟩: ∃w2,Hid (w1.drewN nq=w2):=⟨_,rfl⟩
 have HC2:Hid (Cb w w2 Z c s k et 9 en es ec em n b):=by rw[<-HW2.out];exact HQ.out _ (Fr.drewN _ _ _)
 rw[HW2.out]
 clear HW2 c5 c5b c5c m13 m14 mo mc HQ HB0
 obtain⟨c5,c5b,c5c,c73,c74,z3,z4⟩:=HC2.out.cells
 obtain⟨m13,m14,mo,mc⟩:=HC2.out.maps hn
 rw[HGN.out]at mc
 rw[HFN.out]at mo
 obtain⟨w5,f3,f4,f5⟩:=HC2.out.st.setCal n 1 hn hk
 have HE:Hid (SyM _ _ _ _ _/\Mv _ _ _ _):=⟨f4,f5⟩
 have HR:Hid (_/\_/\_):=HC2.out.stay f5
 clear f4 f5
 have HB:=HR.out.2.1
 have HB7:=HR.out.2.2
 have hld:=zae HB7
 obtain⟨y0,y1,y2,y3,y4,y5⟩:=zam HB7
 clear c73 c74 z3 z4
 go_wp2_with (refine zab rfl _ _ rfl (b+1) 0 9 n 0 0 0 rfl rfl 0 0 0 0 0 0 HB ?_;intro w6 hw6 hf6)
 refine bodyPost_ret (zaf rfl _ _ _ (b+1) _ rfl (zae hw6.out)) rfl ?_
 rw[HO.out]
 obtain⟨m1,m2⟩:=HC2.out.fin HE.out.1 HE.out.2 (hf6.mono (by simp))
 exact⟨Z,rfl,m1,m2,rfl⟩
theorem znq (h:SyM w Z c s k) (et en es ec em n:Int) (hn:i64 n) (hg:s.G n=1) (hf:s.F n=0) (hk:k<4611686018427387904) :
  Calls Tryz.prog 124 #[.pointer (some ⟨Z.sb,0,none⟩),.int .i64 n,.agg (evA et 12 en es ec em)] w (zav w Z c k (cal c s n ⟨et,12,en,es,ec,em⟩)):=by
 have HO:Hid (cal c s n ⟨et,12,en,es,ec,em⟩=(⟨12,n,0,0⟩,{ s with G:=updI s.G n 2 })):=by
  show cal c s n ⟨et,12,en,es,ec,em⟩=_
  unfold cal
  rw[if_neg (fun e=>by simp at e),if_neg (fun e=>by simp at e),if_neg (fun e=>by simp at e),if_pos ⟨rfl,hg,hf⟩]
 have HG:Hid (s.G n=s.G n):=rfl
 have HFF:Hid (s.F n=s.F n):=rfl
 simp only[evA]
 have HB0:Hid (Cb w _ Z c s k et 12 en es ec em n w.heap.size):=Cb.new h et 12 en es ec em n
 obtain⟨w1,HW1⟩: ∃w1,Hid (((w.alloc (.cells (evA et 12 en es ec em) 62)).alloc (.cells (evA 0 0 0 0 0 0) 62)).alloc (.cells (evA 0 12 n 0 0 0) 62)=w1):=⟨_,rfl⟩
 rw[HW1.out]at HB0
 have HW1':Hid (((w.alloc (.cells #[.int .i64 et,.int .u8 12,.int .i64 en,.int .i64 es,.int .i64 ec,.int .i64 em] 62)).alloc (.cells #[.int .i64 0,.int .u8 0,.int .i64 0,.int .i64 0,.int .i64 0,.int .i64 0] 62)).alloc (.cells #[.int .i64 0,.int .u8 12,.int .i64 n,.int .i64 0,.int .i64 0,.int .i64 0] 62)=w1):=HW1
 obtain⟨b,HBB⟩: ∃b,Hid (w.heap.size=b):=⟨_,rfl⟩
 rw[HBB.out]at HB0
 have HQ:Hid (∀W,Fr [] w1 W->Cb w W Z c s k et 12 en es ec em n b):=fun W hf=>HB0.out.quiet hf
 obtain⟨c5,c5b,c5c,_⟩:=HB0.out.cells
 obtain⟨m13,m14,_,_⟩:=HB0.out.maps hn
 have mo: ∀q,(Instr.lookup 111 (.map (some Z.ob)) (.int .i64 n) false).run Tryz.prog (w1.drewN q)= .ok (.int .i64 (s.F n)) (w1.drewN q):=fun q=>((HQ.out _ (Fr.drewN _ _ q)).maps hn).2.2.1
 have mc: ∀q,(Instr.lookup 112 (.map (some Z.cb)) (.int .i64 n) false).run Tryz.prog (w1.drewN q)= .ok (.int .u8 (s.G n)) (w1.drewN q):=fun q=>((HQ.out _ (Fr.drewN _ _ q)).maps hn).2.2.2
 obtain⟨gn,hgn⟩: ∃gn,gn=s.G n:=⟨_,rfl⟩
 obtain⟨fn,hfn⟩: ∃fn,fn=s.F n:=⟨_,rfl⟩
 rw[<-hgn]at mc HG
 rw[<-hfn]at mo HFF
 clear HW1
 have g1:(gn==1)=true:=by rw[hgn];simpa using hg
 have f0:(fn==0)=true:=by rw[hfn];simpa using hf
 clear hg hf
 have HGN:Hid (s.G n=gn):=hgn.symm
 have HFN:Hid (s.F n=fn):=hfn.symm
 clear hgn hfn HG HFF h
 go_enter Tryz.func124,Tryz.ntmps124
 go_upto_region 2 with fail
 rw[HW1'.out,HBB.out]
 go_wp2_with fail
 go_quiet (fail)
 obtain⟨w2,HW2⟩: ∃w2,Hid (w1.drewN nq=w2):=⟨_,rfl⟩
 have HC2:Hid (Cb w w2 Z c s k et 12 en es ec em n b):=by rw[<-HW2.out];exact HQ.out _ (Fr.drewN _ _ _)
 rw[HW2.out]
 clear HW2 c5 c5b c5c m13 m14 mo mc HQ HB0
 obtain⟨c5,c5b,c5c,c73,c74,z3,z4⟩:=HC2.out.cells
 obtain⟨m13,m14,mo,mc⟩:=HC2.out.maps hn
 rw[HGN.out]at mc
 rw[HFN.out]at mo
 obtain⟨w5,f3,f4,f5⟩:=HC2.out.st.setCal n 2 hn hk
 have HE:Hid (SyM _ _ _ _ _/\Mv _ _ _ _):=⟨f4,f5⟩
 have HR:Hid (_/\_/\_):=HC2.out.stay f5
 clear f4 f5
 have HB:=HR.out.2.1
 have HB7:=HR.out.2.2
 have hld:=zae HB7
 obtain⟨y0,y1,y2,y3,y4,y5⟩:=zam HB7
 clear c73 c74 z3 z4
 go_wp2_with (refine zab rfl _ _ rfl (b+1) 0 12 n 0 0 0 rfl rfl 0 0 0 0 0 0 HB ?_;intro w6 hw6 hf6)
 refine bodyPost_ret (zaf rfl _ _ _ (b+1) _ rfl (zae hw6.out)) rfl ?_
 rw[HO.out]
 obtain⟨m1,m2⟩:=HC2.out.fin HE.out.1 HE.out.2 (hf6.mono (by simp))
 exact⟨Z,rfl,m1,m2,rfl⟩
theorem znr (h:SyM w Z c s k) (et en es ec em n:Int) (hn:i64 n) (hg:s.G n=1) (hf:s.F n=0) (hc:0<=ec) :
  Calls Tryz.prog 124 #[.pointer (some ⟨Z.sb,0,none⟩),.int .i64 n,.agg (evA et 11 en es ec em)] w (zav w Z c k (cal c s n ⟨et,11,en,es,ec,em⟩)):=by
 have HO:Hid (cal c s n ⟨et,11,en,es,ec,em⟩=(⟨11,n,0,ec⟩,s)):=by
  show cal c s n ⟨et,11,en,es,ec,em⟩=_
  unfold cal
  rw[if_neg (fun e=>by simp at e),if_neg (fun e=>by simp at e),if_pos ⟨rfl,hg,hf,hc⟩]
 have HG:Hid (s.G n=s.G n):=rfl
 have HFF:Hid (s.F n=s.F n):=rfl
 simp only[evA]
 have HB0:Hid (Cb w _ Z c s k et 11 en es ec em n w.heap.size):=Cb.new h et 11 en es ec em n
 obtain⟨w1,HW1⟩: ∃w1,Hid (((w.alloc (.cells (evA et 11 en es ec em) 62)).alloc (.cells (evA 0 0 0 0 0 0) 62)).alloc (.cells (evA 0 11 n 0 0 0) 62)=w1):=⟨_,rfl⟩
 rw[HW1.out]at HB0
 have HW1':Hid (((w.alloc (.cells #[.int .i64 et,.int .u8 11,.int .i64 en,.int .i64 es,.int .i64 ec,.int .i64 em] 62)).alloc (.cells #[.int .i64 0,.int .u8 0,.int .i64 0,.int .i64 0,.int .i64 0,.int .i64 0] 62)).alloc (.cells #[.int .i64 0,.int .u8 11,.int .i64 n,.int .i64 0,.int .i64 0,.int .i64 0] 62)=w1):=HW1
 obtain⟨b,HBB⟩: ∃b,Hid (w.heap.size=b):=⟨_,rfl⟩
 rw[HBB.out]at HB0
 have HQ:Hid (∀W,Fr [] w1 W->Cb w W Z c s k et 11 en es ec em n b):=fun W hf=>HB0.out.quiet hf
 obtain⟨c5,c5b,c5c,_⟩:=HB0.out.cells
 obtain⟨m13,m14,_,_⟩:=HB0.out.maps hn
 have mo: ∀q,(Instr.lookup 111 (.map (some Z.ob)) (.int .i64 n) false).run Tryz.prog (w1.drewN q)= .ok (.int .i64 (s.F n)) (w1.drewN q):=fun q=>((HQ.out _ (Fr.drewN _ _ q)).maps hn).2.2.1
 have mc: ∀q,(Instr.lookup 112 (.map (some Z.cb)) (.int .i64 n) false).run Tryz.prog (w1.drewN q)= .ok (.int .u8 (s.G n)) (w1.drewN q):=fun q=>((HQ.out _ (Fr.drewN _ _ q)).maps hn).2.2.2
 obtain⟨gn,hgn⟩: ∃gn,gn=s.G n:=⟨_,rfl⟩
 obtain⟨fn,hfn⟩: ∃fn,fn=s.F n:=⟨_,rfl⟩
 rw[<-hgn]at mc HG
 rw[<-hfn]at mo HFF
 clear HW1
 have g1:(gn==1)=true:=by rw[hgn];simpa using hg
 have f0:(fn==0)=true:=by rw[hfn];simpa using hf
 have hcd:decide (0<=ec)=true:=by simpa using hc
 clear hg hf
 have HGN:Hid (s.G n=gn):=hgn.symm
 have HFN:Hid (s.F n=fn):=hfn.symm
 clear hgn hfn HG HFF h
 go_enter Tryz.func124,Tryz.ntmps124
 go_upto_region 2 with fail
 rw[HW1'.out,HBB.out]
 go_wp2_with fail
 go_quiet (fail)
 obtain⟨w2,HW2⟩: ∃w2,Hid (w1.drewN nq=w2):=⟨_,rfl⟩
 have HC2:Hid (Cb w w2 Z c s k et 11 en es ec em n b):=by rw[<-HW2.out];exact HQ.out _ (Fr.drewN _ _ _)
 rw[HW2.out]
 clear HW2 c5 c5b c5c m13 m14 mo mc HQ HB0
 obtain⟨c5,c5b,c5c,c73,c74,z3,z4⟩:=HC2.out.cells
 obtain⟨m13,m14,mo,mc⟩:=HC2.out.maps hn
 rw[HGN.out]at mc
 rw[HFN.out]at mo
 have HR:Hid (_/\_/\_):=HC2.out.stay (Mv.refl _ _)
 have HB7':(w2.setCell ⟨b+1+1,4,none⟩ (.int .i64 ec)).heap[b+1+1]? = some (.cells (evA 0 11 n 0 ec 0) 62 (0,0)):=by rw[zag _ HR.out.2.2];rfl
 have HB6':(w2.setCell ⟨b+1+1,4,none⟩ (.int .i64 ec)).heap[b+1]? = some (.cells (evA 0 0 0 0 0 0) 62 (0,0)):=(Fr.set (S:=[b+1+1]) w2 ⟨b+1+1,4,none⟩ _ (by simp)).keep HR.out.2.1 (by simp)
 have HF7:Hid (Fr [b+1+1] w2 (w2.setCell ⟨b+1+1,4,none⟩ (.int .i64 ec))):=Fr.set _ _ _ (by simp)
 have HB:=HB6'
 have HB7:=HB7'
 have hld:=zae HB7
 obtain⟨y0,y1,y2,y3,y4,y5⟩:=zam HB7
 clear HB6' HB7'
 go_wp2_with (refine zab rfl _ _ rfl (b+1) 0 11 n 0 ec 0 rfl rfl 0 0 0 0 0 0 HB ?_;intro w6 hw6 hf6)
 refine bodyPost_ret (zaf rfl _ _ _ (b+1) _ rfl (zae hw6.out)) rfl ?_
 rw[HO.out]
 obtain⟨m1,m2⟩:=HC2.out.fin HC2.out.st (Mv.refl _ _) ((HF7.out.mono (by simp)).then (hf6.mono (T:=[b+1,b+1+1]) (by simp)))
 exact⟨Z,rfl,m1.mono (Nat.le_succ k),m2,rfl⟩
theorem zlu (h:SyM w Z c s k) (et en es ec em n:Int) (hn:i64 n) (hg:s.G n=1) (hi6:I6 es) (hr: ¬Room c s es) :
  Calls Tryz.prog 124 #[.pointer (some ⟨Z.sb,0,none⟩),.int .i64 n,.agg (evA et 10 en es ec em)] w (zav w Z c k (cal c s n ⟨et,10,en,es,ec,em⟩)):=by
 have HO:Hid (cal c s n ⟨et,10,en,es,ec,em⟩=(Te.no,s)):=by
  show cal c s n ⟨et,10,en,es,ec,em⟩=_
  unfold cal
  rw[if_neg (fun e=>by simp at e),if_neg (fun e=>hr e.2.2),if_neg (fun e=>by simp at e),if_neg (fun e=>by simp at e)]
 have HG:Hid (s.G n=s.G n):=rfl
 have HFF:Hid (s.F n=s.F n):=rfl
 simp only[evA]
 have HB0:Hid (Cb w _ Z c s k et 10 en es ec em n w.heap.size):=Cb.new h et 10 en es ec em n
 obtain⟨w1,HW1⟩: ∃w1,Hid (((w.alloc (.cells (evA et 10 en es ec em) 62)).alloc (.cells (evA 0 0 0 0 0 0) 62)).alloc (.cells (evA 0 10 n 0 0 0) 62)=w1):=⟨_,rfl⟩
 rw[HW1.out]at HB0
 have HW1':Hid (((w.alloc (.cells #[.int .i64 et,.int .u8 10,.int .i64 en,.int .i64 es,.int .i64 ec,.int .i64 em] 62)).alloc (.cells #[.int .i64 0,.int .u8 0,.int .i64 0,.int .i64 0,.int .i64 0,.int .i64 0] 62)).alloc (.cells #[.int .i64 0,.int .u8 10,.int .i64 n,.int .i64 0,.int .i64 0,.int .i64 0] 62)=w1):=HW1
 obtain⟨b,HBB⟩: ∃b,Hid (w.heap.size=b):=⟨_,rfl⟩
 rw[HBB.out]at HB0
 have HQ:Hid (∀W,Fr [] w1 W->Cb w W Z c s k et 10 en es ec em n b):=fun W hf=>HB0.out.quiet hf
 obtain⟨c5,c5b,c5c,_⟩:=HB0.out.cells
 obtain⟨m13,m14,_,_⟩:=HB0.out.maps hn
 have mo: ∀q,(Instr.lookup 111 (.map (some Z.ob)) (.int .i64 n) false).run Tryz.prog (w1.drewN q)= .ok (.int .i64 (s.F n)) (w1.drewN q):=fun q=>((HQ.out _ (Fr.drewN _ _ q)).maps hn).2.2.1
 have mc: ∀q,(Instr.lookup 112 (.map (some Z.cb)) (.int .i64 n) false).run Tryz.prog (w1.drewN q)= .ok (.int .u8 (s.G n)) (w1.drewN q):=fun q=>((HQ.out _ (Fr.drewN _ _ q)).maps hn).2.2.2
 obtain⟨gn,hgn⟩: ∃gn,gn=s.G n:=⟨_,rfl⟩
 obtain⟨fn,hfn⟩: ∃fn,fn=s.F n:=⟨_,rfl⟩
 rw[<-hgn]at mc HG
 rw[<-hfn]at mo HFF
 clear HW1
 have g1:(gn==1)=true:=by rw[hgn];simpa using hg
 clear hg
 have HGN:Hid (s.G n=gn):=hgn.symm
 have HFN:Hid (s.F n=fn):=hfn.symm
 clear hgn hfn HG HFF h
 go_enter Tryz.func124,Tryz.ntmps124
 go_upto_region 2 with fail
 rw[HW1'.out,HBB.out]
 go_wp2_with fail
 go_quiet (fail)
 obtain⟨w2,HW2⟩: ∃w2,Hid (w1.drewN nq=w2):=⟨_,rfl⟩
 have HC2:Hid (Cb w w2 Z c s k et 10 en es ec em n b):=by rw[<-HW2.out];exact HQ.out _ (Fr.drewN _ _ _)
 rw[HW2.out]
 clear HW2 c5 c5b c5c m13 m14 mo mc HQ HB0
 obtain⟨c5,c5b,c5c,c73,c74,z3,z4⟩:=HC2.out.cells
 obtain⟨m13,m14,mo,mc⟩:=HC2.out.maps hn
 rw[HGN.out]at mc
 rw[HFN.out]at mo
 have HA:Hid (Calls _ _ _ _ _):=zqx HC2.out.st es n hi6 hr
 clear hr
 go_wp2_with fail
 refine Calls.mono HA.out ?_
 rintro e w3 ⟨rfl,hF3⟩
 have HC3:Hid (Cb w w3 Z c s k et 10 en es ec em n b):=HC2.out.quiet hF3
 clear hF3 c5 c5b c5c c73 c74 z3 z4 m13 m14 mo mc HA
 obtain⟨c5,c5b,c5c,c73,c74,z3,z4⟩:=HC3.out.cells
 have HB:=HC3.out.r6
 clear c73 c74 z3 z4
 go_wp2_with (refine zab rfl _ _ rfl (b+1) 0 0 0 0 0 0 rfl rfl 0 0 0 0 0 0 HB ?_;intro w4 hw4 hf3)
 refine bodyPost_ret (zaf rfl _ _ _ (b+1) _ rfl (zae hw4.out)) rfl ?_
 rw[HO.out]
 obtain⟨m1,m2⟩:=HC3.out.fin HC3.out.st (Mv.refl _ _) (hf3.mono (by simp))
 exact⟨Z,rfl,m1.mono (Nat.le_succ k),m2,rfl⟩
theorem zns (h:SyM w Z c s k) (et en ec em n:Int) (j:Nat) (hn:i64 n) (hg:s.G n=1) (hr:Room c s (j:Int)) (hk:k<1152921504606846976) (hcn: -(k:Int)<=s.F n/\s.F n<=k) :
  Calls Tryz.prog 124 #[.pointer (some ⟨Z.sb,0,none⟩),.int .i64 n,.agg (evA et 10 en (j:Int) ec em)] w (zav w Z c k (cal c s n ⟨et,10,en,(j:Int),ec,em⟩)):=by
 have HO:Hid (cal c s n ⟨et,10,en,(j:Int),ec,em⟩=(⟨10,n,(j:Int),0⟩,asks s j n)):=by
  show cal c s n ⟨et,10,en,(j:Int),ec,em⟩=_
  unfold cal
  rw[if_neg (fun e=>by simp at e),if_pos ⟨rfl,hg,hr⟩];rfl
 have HG:Hid (s.G n=s.G n):=rfl
 have HFF:Hid (s.F n=s.F n):=rfl
 simp only[evA]
 have HB0:Hid (Cb w _ Z c s k et 10 en (j:Int) ec em n w.heap.size):=Cb.new h et 10 en (j:Int) ec em n
 obtain⟨w1,HW1⟩: ∃w1,Hid (((w.alloc (.cells (evA et 10 en (j:Int) ec em) 62)).alloc (.cells (evA 0 0 0 0 0 0) 62)).alloc (.cells (evA 0 10 n 0 0 0) 62)=w1):=⟨_,rfl⟩
 rw[HW1.out]at HB0
 have HW1':Hid (((w.alloc (.cells #[.int .i64 et,.int .u8 10,.int .i64 en,.int .i64 (j:Int),.int .i64 ec,.int .i64 em] 62)).alloc (.cells #[.int .i64 0,.int .u8 0,.int .i64 0,.int .i64 0,.int .i64 0,.int .i64 0] 62)).alloc (.cells #[.int .i64 0,.int .u8 10,.int .i64 n,.int .i64 0,.int .i64 0,.int .i64 0] 62)=w1):=HW1
 obtain⟨b,HBB⟩: ∃b,Hid (w.heap.size=b):=⟨_,rfl⟩
 rw[HBB.out]at HB0
 have HQ:Hid (∀W,Fr [] w1 W->Cb w W Z c s k et 10 en (j:Int) ec em n b):=fun W hf=>HB0.out.quiet hf
 obtain⟨c5,c5b,c5c,_⟩:=HB0.out.cells
 obtain⟨m13,m14,_,_⟩:=HB0.out.maps hn
 have mo: ∀q,(Instr.lookup 111 (.map (some Z.ob)) (.int .i64 n) false).run Tryz.prog (w1.drewN q)= .ok (.int .i64 (s.F n)) (w1.drewN q):=fun q=>((HQ.out _ (Fr.drewN _ _ q)).maps hn).2.2.1
 have mc: ∀q,(Instr.lookup 112 (.map (some Z.cb)) (.int .i64 n) false).run Tryz.prog (w1.drewN q)= .ok (.int .u8 (s.G n)) (w1.drewN q):=fun q=>((HQ.out _ (Fr.drewN _ _ q)).maps hn).2.2.2
 obtain⟨gn,hgn⟩: ∃gn,gn=s.G n:=⟨_,rfl⟩
 obtain⟨fn,hfn⟩: ∃fn,fn=s.F n:=⟨_,rfl⟩
 rw[<-hgn]at mc HG
 rw[<-hfn]at mo HFF
 clear HW1
 have g1:(gn==1)=true:=by rw[hgn];simpa using hg
 clear hg
 have HGN:Hid (s.G n=gn):=hgn.symm
 have HFN:Hid (s.F n=fn):=hfn.symm
 clear hgn hfn HG HFF h
 go_enter Tryz.func124,Tryz.ntmps124
 go_upto_region 2 with fail
 rw[HW1'.out,HBB.out]
 go_wp2_with fail
 go_quiet (fail)
 obtain⟨w2,HW2⟩: ∃w2,Hid (w1.drewN nq=w2):=⟨_,rfl⟩
 have HC2:Hid (Cb w w2 Z c s k et 10 en (j:Int) ec em n b):=by rw[<-HW2.out];exact HQ.out _ (Fr.drewN _ _ _)
 rw[HW2.out]
 clear HW2 c5 c5b c5c m13 m14 mo mc HQ HB0
 obtain⟨c5,c5b,c5c,c73,c74,z3,z4⟩:=HC2.out.cells
 obtain⟨m13,m14,mo,mc⟩:=HC2.out.maps hn
 rw[HGN.out]at mc
 rw[HFN.out]at mo
 have HA:Hid (Calls _ _ _ _ _):=zmr HC2.out.st j n hn hr hk hcn
 have HX:Hid (∀W Z',SyM W Z' c (asks s j n) (k+1)->Mv w2 Z W Z'->(W.cell? ⟨b,3,none⟩=some (.int .i64 (j:Int))/\W.cell? ⟨b+1+1,3,none⟩=some (.int .i64 0)/\W.frozen? ⟨b+1+1,3,none⟩=false)/\(W.setCell ⟨b+1+1,3,none⟩ (.int .i64 (j:Int))).heap[b+1+1]? = some (.cells (evA 0 10 n (j:Int) 0 0) 62 (0,0))/\(W.setCell ⟨b+1+1,3,none⟩ (.int .i64 (j:Int))).heap[b+1]? = some (.cells (evA 0 0 0 0 0 0) 62 (0,0))):=by
  intro W Z' hS hM
  obtain⟨r5,r6,r7⟩:=HC2.out.stay hM
  exact⟨⟨by rw[cell_of_row _ _ _ _ _ _ r5];rfl,by rw[cell_of_row _ _ _ _ _ _ r7];rfl,by simp[World.frozen?,r7]⟩,by rw[zag _ r7];rfl,(Fr.set (S:=[b+1+1]) W ⟨b+1+1,3,none⟩ _ (by simp)).keep r6 (by simp)⟩
 clear hr hk hcn
 go_wp2_with fail
 refine Calls.mono HA.out ?_
 rintro e w3 ⟨Z3,rfl,hS3,hM3,z1,z2,z3'⟩
 obtain⟨⟨x1,x2,x3⟩,HB7',HB6'⟩:=HX.out w3 Z3 hS3 hM3
 have HF7:Hid (Fr [b+1+1] w3 (w3.setCell ⟨b+1+1,3,none⟩ (.int .i64 (j:Int)))):=Fr.set _ _ _ (by simp)
 have HE:Hid (SyM w3 Z3 c (asks s j n) (k+1)/\Mv w2 Z w3 Z3/\Z3.sb=Z.sb):=⟨hS3,hM3,z1⟩
 clear hS3 hM3 z1 z2 z3' c5 c5b c5c c73 c74 z3 z4 m13 m14 mo mc HA HX
 have HB:=HB6'
 have HB7:=HB7'
 have hld:=zae HB7
 obtain⟨y0,y1,y2,y3,y4,y5⟩:=zam HB7
 clear HB6' HB7'
 go_wp2_with (refine zab rfl _ _ rfl (b+1) 0 10 n (j:Int) 0 0 rfl rfl 0 0 0 0 0 0 HB ?_;intro w6 hw6 hf6)
 refine bodyPost_ret (zaf rfl _ _ _ (b+1) _ rfl (zae hw6.out)) rfl ?_
 rw[HO.out]
 obtain⟨m1,m2⟩:=HC2.out.fin HE.out.1 HE.out.2.1 ((HF7.out.mono (by simp)).then (hf6.mono (T:=[b+1,b+1+1]) (by simp)))
 exact⟨Z3,rfl,m1,m2,HE.out.2.2⟩
theorem zts (h:SyM w Z c s k) (e:Ev) (n:Int) (hn:i64 n) (hs:I6 e.s) (hk:k<1152921504606846976) (hc: ∀n,-(k:Int)<=s.F n/\s.F n<=k) :
  Calls Tryz.prog 124 #[.pointer (some ⟨Z.sb,0,none⟩),.int .i64 n,.agg (evA e.t e.k e.n e.s e.c e.m)] w (zav w Z c k (cal c s n e)):=by
 obtain⟨et,ek,en,es,ec,em⟩:=e
 simp only at hs ⊢
 by_cases h9:ek=9
 ·subst h9
  by_cases hg:s.G n=0
  ·exact zrb h et en es ec em n hn hg (by omega)
  ·exact ztr h et en es ec em n hn hg
 by_cases h10:ek=10
 ·subst h10
  by_cases hg:s.G n=1
  ·by_cases hr:Room c s es
   ·obtain⟨j,rfl⟩: ∃j:Nat,es=(j:Int):=⟨es.toNat,by have:=hr.1;omega⟩
    exact zns h et en ec em n j hn hg hr hk (hc n)
   ·exact zlu h et en es ec em n hn hg hs hr
  ·exact zqy h et en es ec em n hn hg
 by_cases h11:ek=11
 ·subst h11
  by_cases hg:s.G n=1
  ·by_cases hf:s.F n=0
   ·by_cases hc0:0<=ec
    ·exact znr h et en es ec em n hn hg hf hc0
    ·exact znp h et en es ec em n hn hg hf hc0
   ·exact zls h et en es ec em n hn hg hf
  ·exact zqz h et en es ec em n hn hg
 by_cases h12:ek=12
 ·subst h12
  by_cases hg:s.G n=1
  ·by_cases hf:s.F n=0
   ·exact znq h et en es ec em n hn hg hf (by omega)
   ·exact zlt h et en es ec em n hn hg hf
  ·exact zra h et en es ec em n hn hg
 exact zno h et ek en es ec em n hn h9 h10 h11 h12
end
end Go.Proofs.YtaaghcimfcjehaaGreatDoor
