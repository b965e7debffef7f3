/- Contracts and plain lemmas of this claim. -/
import Derived.Test.YtaaghcimfcjehaaGreatDoorGp29
set_option linter.unusedSimpArgs false
set_option linter.unusedVariables false
namespace Go.Proofs.YtaaghcimfcjehaaGreatDoor
open Go.ChangeShapes Go.WideShapes Go.ChangeAt Go.RowKit Go.Lib Go.Maps
theorem DsM.others {wS w w':World} {Z:Zd} {c:Cf} {ts:List Tm} {xs:List Int} {d:Ds} (h:DsM wS w Z c ts xs d) {S:List Nat} (hf:Fr S w w') (hn: ∀b∈S,∀p,b∉Z.part p) (hb: ∀b∈S,wS.heap.size<=b):DsM wS w' Z c ts xs d :=
 ⟨fun p=>(h.pm p).keep hf (fun x hx hm=>hn x hm p hx),h.ap,h.base,h.fr.on hf hb,h.log,h.len,h.byd,h.may⟩
theorem Dr.fins {wS w w0 W W':World} {Z Z':Zd} {c:Cf} {ts:List Tm} {xs:List Int} {d d0:Ds} (h:Dr wS w0 W Z Z' c ts xs d) (hm:DsM wS w Z c ts xs d0) (h0:Fr [] w w0) {S:List Nat} (hS: ∀b∈S,w.heap.size<=b/\b<w0.heap.size) (hf:Fr S W W'):Dr wS w W' Z Z' c ts xs d:=by
 have hn: ∀b∈S,∀p,b∉Z.part p:=fun b hb p hp=>by have:=(hm.pm p).lt b hp;have:=(hS b hb).1;omega
 have hn': ∀b∈S,∀p,b∉Z'.part p:=fun b hb=>h.v.not (hS b hb).2 (hn b hb)
 refine⟨h.m.others hf hn' (fun b hb=>Nat.le_trans hm.fr.size (hS b hb).1),?_⟩
 obtain⟨T,sf,sS⟩:=h.v.fr
 have:=h.v.size
 have h0s:=h0.size
 refine⟨⟨T,((h0.mono (by simp)).then sf).trans hf (fun x hx _=>hx) (fun x hx hl=>by have:=(hS x hx).1;omega),sS⟩,fun p b hb=> ?_,h.v.same⟩
 rcases h.v.sub p b hb with h3|h3
 ·exact Or.inl h3
 ·exact Or.inr (by omega)
theorem zac {W:World} {b:Nat} {t k n s c m:Int} (h:W.heap[b]? = some (.cells (evA t k n s c m) 62 (0,0))):(W.cell? ⟨b,0,none⟩=some (.int .i64 t)/\W.cell? ⟨b,1,none⟩=some (.int .u8 k)/\W.cell? ⟨b,2,none⟩=some (.int .i64 n)/\W.cell? ⟨b,3,none⟩=some (.int .i64 s)/\W.cell? ⟨b,4,none⟩=some (.int .i64 c)/\W.cell? ⟨b,5,none⟩=some (.int .i64 m))/\ ∀j,W.frozen? ⟨b,j,none⟩=false :=
 ⟨⟨by rw[cell_of_row _ _ _ _ _ _ h];rfl,by rw[cell_of_row _ _ _ _ _ _ h];rfl,by rw[cell_of_row _ _ _ _ _ _ h];rfl,by rw[cell_of_row _ _ _ _ _ _ h];rfl,by rw[cell_of_row _ _ _ _ _ _ h];rfl,by rw[cell_of_row _ _ _ _ _ _ h];rfl⟩,fun j=>by simp[World.frozen?,h]⟩
section
variable {wS w:World} {Z:Zd} {c:Cf} {ts:List Tm} {xs:List Int} {d:Ds}
theorem DsM.boxed3 (h:DsM wS w Z c ts xs d) (e:Ev): ∃w0 rb eb wb,Hid (((w.alloc (.cells #[.int .i64 e.t,.int .u8 e.k,.int .i64 e.n,.int .i64 e.s,.int .i64 e.c,.int .i64 e.m] 62)).alloc (.cells #[.int .i64 0,.int .u8 0,.int .i64 0,.int .i64 0,.int .i64 0,.int .i64 0] 62)).alloc (.cells #[.int .i64 0,.int .u8 e.k,.int .i64 e.t,.int .i64 0,.int .i64 0,.int .i64 0] 62)=w0)/\Hid (w.heap.size+1=rb)/\Hid (w.heap.size=eb)/\Hid (w.heap.size+1+1=wb)/\DsM wS w0 Z c ts xs d/\Hid (∀W W' Z' d',Dr wS w0 W Z Z' c ts xs d'->Fr [rb,wb] W W'->Dr wS w W' Z Z' c ts xs d')/\Hid (∀W Z' d',Dr wS w0 W Z Z' c ts xs d'->W.heap[rb]? = some (.cells (evA 0 0 0 0 0 0) 62 (0,0))/\W.heap[eb]? = some (.cells (evA e.t e.k e.n e.s e.c e.m) 62 (0,0))/\W.heap[wb]? = some (.cells (evA 0 e.k e.t 0 0 0) 62 (0,0))):=by
 obtain⟨w1,hw1⟩: ∃w1,w1=w.alloc (.cells (evA e.t e.k e.n e.s e.c e.m) 62):=⟨_,rfl⟩
 have hF1:Fr [] w w1:=by rw[hw1];exact Fr.alloc _ _ _
 have hs1:w1.heap.size=w.heap.size+1:=by rw[hw1];simp
 have hb1:w1.heap[w.heap.size]? = some (.cells (evA e.t e.k e.n e.s e.c e.m) 62 (0,0)):=by rw[hw1];exact heap_alloc_new _ _
 obtain⟨w2,hw2⟩: ∃w2,w2=w1.alloc (.cells (evA 0 0 0 0 0 0) 62):=⟨_,rfl⟩
 have hF2:Fr [] w1 w2:=by rw[hw2];exact Fr.alloc _ _ _
 have hs2:w2.heap.size=w.heap.size+1+1:=by rw[hw2];simp[hs1]
 have hb2:w2.heap[w.heap.size+1]? = some (.cells (evA 0 0 0 0 0 0) 62 (0,0)):=by rw[hw2,<-hs1];exact heap_alloc_new _ _
 have hF3:Fr [] w2 (w2.alloc (.cells (evA 0 e.k e.t 0 0 0) 62)):=Fr.alloc _ _ _
 have hb3:(w2.alloc (.cells (evA 0 e.k e.t 0 0 0) 62)).heap[w.heap.size+1+1]? = some (.cells (evA 0 e.k e.t 0 0 0) 62 (0,0)):=by rw[<-hs2];exact heap_alloc_new _ _
 have hs3:(w2.alloc (.cells (evA 0 e.k e.t 0 0 0) 62)).heap.size=w.heap.size+3:=by simp[hs2]
 have hF:Fr [] w (w2.alloc (.cells (evA 0 e.k e.t 0 0 0) 62)):=(hF1.then hF2).then hF3
 have hno: ∀b,w.heap.size<=b-> ∀p,b∉Z.part p:=fun b hb p hp=>by have:=(h.pm p).lt _ hp;omega
 refine⟨w2.alloc (.cells (evA 0 e.k e.t 0 0 0) 62),_,_,_,by rw[hw2,hw1];rfl,rfl,rfl,rfl,h.quiet hF,fun W W' Z' d' hD hf=>hD.fins h hF (fun b hb=> ?_) hf,fun W Z' d' hD=>⟨?_,?_,?_⟩⟩
 ·simp only[List.mem_cons,List.not_mem_nil,or_false]at hb
  rw[hs3]
  omega
 ·exact hD.v.keep (hF3.keep hb2 (by simp)) (hno _ (by omega))
 ·exact hD.v.keep (hF3.keep (hF2.keep hb1 (by simp)) (by simp)) (hno _ (by omega))
 ·exact hD.v.keep hb3 (hno _ (by omega))
end
end Go.Proofs.YtaaghcimfcjehaaGreatDoor
