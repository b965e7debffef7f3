/- Contracts and plain lemmas of this claim. -/
import Derived.Test.YtaaghcimfcjehaaGreatDoorGp36
import Derived.Test.YtaaghcimfcjehaaGreatDoorGp37
import Derived.Test.YtaaghcimfcjehaaGreatDoorGp38
import Derived.Test.YtaaghcimfcjehaaGreatDoorGp39
import Derived.Test.YtaaghcimfcjehaaGreatDoorGp40
import Derived.Test.YtaaghcimfcjehaaGreatDoorGp41
import Derived.Test.YtaaghcimfcjehaaGreatDoorGp34
import Derived.Test.YtaaghcimfcjehaaGreatDoorGp27
import Derived.Test.YtaaghcimfcjehaaGreatDoorGp42
import Derived.Test.YtaaghcimfcjehaaGreatDoorGp23
set_option linter.unusedSimpArgs false
set_option linter.unusedVariables false
namespace Go.Proofs.YtaaghcimfcjehaaGreatDoor
open Go.ChangeShapes Go.WideShapes Go.ChangeAt Go.RowKit Go.Lib Go.Maps
theorem zsm {wS w:World} {Z:Zd} {c:Cf} {ts:List Tm} {xs:List Int} {d:Ds} (h:DsM wS w Z c ts xs d) (e:Ev) (het:e.t<0) (hcl:d.cal.length<=1099511627776) (hnd:(d.cal.map (fun x:Dc=>x.n)).Nodup) (hql: ∀k,k<16->(d.que k).length<=1099511627776) (hask: ∀x∈d.cal,x.asked<1099511627776) :
  Calls Tryz.prog 82 #[.pointer (some ⟨Z.sb,0,none⟩),.agg #[.int .i64 e.t,.int .u8 e.k,.int .i64 e.n,.int .i64 e.s,.int .i64 e.c,.int .i64 e.m]] w (DstP wS w Z c ts xs (calD c d e)):=by
 by_cases hno: ∀j (hj:j<d.cal.length),d.cal[j].n≠e.t
 ·exact zsj h e het hcl hnd hno
 ·obtain⟨j,hj,hjn⟩: ∃j,∃hj:j<d.cal.length,d.cal[j].n=e.t:=by
   apply Classical.byContradiction
   intro q
   exact hno fun j hj hn=>q ⟨j,hj,hn⟩
  have hjx:d.cal[j]? = some d.cal[j]:=List.getElem?_eq_getElem hj
  have hs:=h.may.2.1
  cases hen:d.cal[j].ended with
  | true=>exact zme h e het hcl hnd j _ hjx hjn hen
  | false =>
   by_cases h10:e.k=10
   ·by_cases g1:e.s<0
    ·exact zjf h e het hcl hnd j _ hjx hjn hen h10 g1
    ·by_cases g2:c.s<=e.s
     ·exact zif h e het hcl hnd j _ hjx hjn hen h10 ⟨by omega,g2⟩
     ·obtain⟨K,hK⟩: ∃K:Nat,e.s=(K:Int):=⟨e.s.toNat,by omega⟩
      by_cases g3:c.q<=((d.que K).length:Int)
      ·exact zig h e het hcl hnd j _ hjx hjn hen h10 K hK (by omega) g3
      ·exact zsl h e het hcl hnd j _ hjx hjn hen h10 K hK (by omega) (by omega) (hql K (by omega)) (hask _ (List.getElem_mem hj))
   ·by_cases h11:e.k=11
    ·by_cases g:0<=e.c
     ·exact zmg h e het hcl hnd j _ hjx hjn hen h11 g
     ·exact zie h e het hcl hnd j _ hjx hjn hen h11 g
    ·by_cases h12:e.k=12
     ·exact zsk h e het hcl hnd j _ hjx hjn hen h12
     ·exact zmf h e het hcl hnd j _ hjx hjn hen h10 h11 h12
structure DOk (c:Cf) (ts:List Tm) (xs:List Int) (d:Ds):Prop where
 lk:Lk (txs ts)
 at_:0<=d.at_
 held:d.held≠0->1<=d.held/\d.held<=(ts.length:Int)
 ma:0<=d.ma/\d.ma<=65536
 hnew:d.held≠0->d.held∉xs-> ∀p∈d.L,p.1<d.held
 line:d.line.length<=1099511627776
 lin: ∀n∈d.line,1<=n/\n<=(ts.length:Int)
 fre: ∀n,(frx d.L d.en n).length<=65536
 gone:d.gone.length<=1099511627776
 que: ∀k,k<16->(d.que k).length<=1099511627776
 own: ∀k,k<c.s.toNat-> ∀q∈d.que k,0<q.1->(q.1-1).toNat<c.l.toNat
 kd:Kd d 1099511627775
 nd:(d.cal.map (fun x:Dc=>x.n)).Nodup
def NxP (wS w:World) (Z:Zd) (c:Cf) (ts:List Tm) (xs:List Int) (d:Ds) (e:Ev) (r:Ending) (w':World):Prop :=
 ∃Z' b,r= .returned (.bool b)/\(b=true↔CanD c (txs ts) xs d e)/\Dr wS w w' Z Z' c ts xs (nxtD c (txs ts) xs d e).2
section
variable {wS w:World} {Z:Zd} {c:Cf} {ts:List Tm} {xs:List Int} {d:Ds}
theorem DsM.boxed4 (h:DsM wS w Z c ts xs d) (e:Ev): ∃wE w0 eb cb wb,Hid (w.alloc (.cells #[.int .i64 e.t,.int .u8 e.k,.int .i64 e.n,.int .i64 e.s,.int .i64 e.c,.int .i64 e.m] 62)=wE)/\Hid ((wE.alloc (.cells #[.int .i64 c.l,.int .i64 c.s,.int .i64 c.w,.int .i64 c.q] 23)).alloc (.cells #[.int .i64 0,.int .u8 0,.int .i64 0,.int .i64 0,.int .i64 0,.int .i64 0] 62)=w0)/\Hid (w.heap.size=eb)/\Hid (wE.heap.size=cb)/\Hid (wE.heap.size+1=wb)/\(wE.cell? ⟨Z.sb,0,none⟩=some (.int .i64 c.l)/\wE.cell? ⟨Z.sb,1,none⟩=some (.int .i64 c.s)/\wE.cell? ⟨Z.sb,2,none⟩=some (.int .i64 c.w)/\wE.cell? ⟨Z.sb,3,none⟩=some (.int .i64 c.q))/\DsM wS w0 Z c ts xs d/\Hid (∀W W' Z' d',Dr wS w0 W Z Z' c ts xs d'->Fr [wb] W W'->Dr wS w W' Z Z' c ts xs d')/\Hid (∀W Z' d',Dr wS w0 W Z Z' c ts xs d'->W.heap[wb]? = some (.cells (evA 0 0 0 0 0 0) 62 (0,0))/\W.heap[eb]? = some (.cells (evA e.t e.k e.n e.s e.c e.m) 62 (0,0))/\W.cell? ⟨cb,0,none⟩=some (.int .i64 c.l)/\W.cell? ⟨cb,1,none⟩=some (.int .i64 c.s))/\Hid (∀W Z' d',Dr wS w0 W Z Z' c ts xs d'-> ∀p,wb∉Z'.part p)/\Hid (eb≠wb):=by
 obtain⟨w1,hw1⟩: ∃w1,w1=w.alloc (.cells (evA e.t e.k e.n e.s e.c e.m) 62):=⟨_,rfl⟩
 have hF1:Fr [] w w1:=by rw[hw1];exact Fr.alloc _ _ _
 have hs1:w1.heap.size=w.heap.size+1:=by rw[hw1];simp
 have hb1:w1.heap[w.heap.size]? = some (.cells (evA e.t e.k e.n e.s e.c e.m) 62 (0,0)):=by rw[hw1];exact heap_alloc_new _ _
 obtain⟨w2,hw2⟩: ∃w2,w2=w1.alloc (.cells #[.int .i64 c.l,.int .i64 c.s,.int .i64 c.w,.int .i64 c.q] 23):=⟨_,rfl⟩
 have hF2:Fr [] w1 w2:=by rw[hw2];exact Fr.alloc _ _ _
 have hs2:w2.heap.size=w.heap.size+1+1:=by rw[hw2];simp[hs1]
 have hb2:w2.heap[w.heap.size+1]? = some (.cells #[.int .i64 c.l,.int .i64 c.s,.int .i64 c.w,.int .i64 c.q] 23 (0,0)):=by rw[hw2,<-hs1];exact heap_alloc_new _ _
 have hF3:Fr [] w2 (w2.alloc (.cells (evA 0 0 0 0 0 0) 62)):=Fr.alloc _ _ _
 have hb3:(w2.alloc (.cells (evA 0 0 0 0 0 0) 62)).heap[w.heap.size+1+1]? = some (.cells (evA 0 0 0 0 0 0) 62 (0,0)):=by rw[<-hs2];exact heap_alloc_new _ _
 have hs3:(w2.alloc (.cells (evA 0 0 0 0 0 0) 62)).heap.size=w.heap.size+3:=by simp[hs2]
 have hF:Fr [] w (w2.alloc (.cells (evA 0 0 0 0 0 0) 62)):=(hF1.then hF2).then hF3
 have hno: ∀b,w.heap.size<=b-> ∀p,b∉Z.part p:=fun b hb p hp=>by have:=(h.pm p).lt _ hp;omega
 have hm1:=h.quiet hF1
 refine⟨w1,w2.alloc (.cells (evA 0 0 0 0 0 0) 62),w.heap.size,w.heap.size+1,w.heap.size+1+1,hw1.symm,by rw[hw2];rfl,rfl,hs1,by show _=_;rw[hs1],⟨hm1.cell rfl,hm1.cell rfl,hm1.cell rfl,hm1.cell rfl⟩,h.quiet hF,fun W W' Z' d' hD hf=>hD.fins h hF (fun b hb=> ?_) hf,fun W Z' d' hD=>⟨?_,?_,?_⟩,fun W Z' d' hD p=>hD.v.not (by rw[hs3];omega) (hno _ (by omega)) p,show w.heap.size≠w.heap.size+1+1 by omega⟩
 ·simp only[List.mem_cons,List.not_mem_nil,or_false]at hb
  rw[hs3]
  omega
 ·exact hD.v.keep hb3 (hno _ (by omega))
 ·exact hD.v.keep (hF3.keep (hF2.keep hb1 (by simp)) (by simp)) (hno _ (by omega))
 ·have:=hD.v.keep (hF3.keep hb2 (by simp)) (hno _ (by omega))
  exact⟨by rw[cell_of_row _ _ _ _ _ _ this];rfl,by rw[cell_of_row _ _ _ _ _ _ this];rfl⟩
theorem zde {w0 w1 w6:World} {Z':Zd} {d':Ds} {eb wb:Nat} {et ek en es ec em:Int} {te:Te} (D:Dr wS w0 w1 Z Z' c ts xs d') (hn: ∀p,wb∉Z'.part p) (hne:eb≠wb) (hE:w1.heap[eb]? = some (.cells (evA et ek en es ec em) 62 (0,0))) (hw6:w6.heap[wb]? = some (.cells (evA 0 te.k te.n te.s te.c 0) 62 (0,0))) (hf6:Fr [wb] w1 w6) :
  w6.cell? ⟨eb,0,none⟩=some (.int .i64 et)/\w6.cell? ⟨wb,0,none⟩=some (.int .i64 0)/\w6.frozen? ⟨wb,0,none⟩=false/\ ∃W7,Hid (w6.setCell ⟨wb,0,none⟩ (.int .i64 et)=W7)/\W7.cell? ⟨Z.sb,9,none⟩=some (.pointer (some ⟨Z'.g,0,none⟩))/\Hid (Calls Tryz.prog 87 #[.pointer (some ⟨Z'.g,0,none⟩)] W7 fun e w'=>e= .returned (.int .i64 d'.ma)/\w'=W7)/\W7.cell? ⟨wb,5,none⟩=some (.int .i64 0)/\W7.frozen? ⟨wb,5,none⟩=false/\ ∃W8,Hid (W7.setCell ⟨wb,5,none⟩ (.int .i64 d'.ma)=W8)/\Hid (Fr [wb] w1 W8)/\Hid (W8.heap[wb]? = some (.cells (evA et te.k te.n te.s te.c d'.ma) 62 (0,0)))/\Hid (W8.heap[eb]? = some (.cells (evA et ek en es ec em) 62 (0,0))):=by
 have hE6:=hf6.keep hE (by simpa using hne)
 have f7:Fr [wb] w6 (w6.setCell ⟨wb,0,none⟩ (.int .i64 et)):=Fr.set _ _ _ (by simp)
 have r7:(w6.setCell ⟨wb,0,none⟩ (.int .i64 et)).heap[wb]? = some (.cells (evA et te.k te.n te.s te.c 0) 62 (0,0)):=zag _ hw6
 have f8:Fr [wb] (w6.setCell ⟨wb,0,none⟩ (.int .i64 et)) ((w6.setCell ⟨wb,0,none⟩ (.int .i64 et)).setCell ⟨wb,5,none⟩ (.int .i64 d'.ma)):=Fr.set _ _ _ (by simp)
 have r8:((w6.setCell ⟨wb,0,none⟩ (.int .i64 et)).setCell ⟨wb,5,none⟩ (.int .i64 d'.ma)).heap[wb]? = some (.cells (evA et te.k te.n te.s te.c d'.ma) 62 (0,0)):=zag _ r7
 have hbx:(w6.setCell ⟨wb,0,none⟩ (.int .i64 et)).heap[Z'.sb]? = _:=(hf6.then f7).keep D.m.box (fun hm=>hn 0 (by simp only[List.mem_singleton]at hm;simp[Zd.part,hm]))
 have hO:OG (w6.setCell ⟨wb,0,none⟩ (.int .i64 et)) Z'.g Z'.gr.lo Z'.gr.n Z'.gr.c d'.ma d'.bx:=(D.m.pm 1).keep (hf6.then f7) (fun b hb hm=>hn 1 (by rw[<-List.mem_singleton.1 hm];exact hb))
 rw[D.v.same.1]at hbx
 refine⟨(zac hE6).1.1,(zac hw6).1.1,(zac hw6).2 0,_,rfl,by rw[cell_of_row _ _ _ _ _ _ hbx];rfl,zew _ hO,(zac r7).1.2.2.2.2.2,(zac r7).2 5,_,rfl,(hf6.then f7).then f8,r8,(f7.then f8).keep hE6 (by simpa using hne)⟩
end
end Go.Proofs.YtaaghcimfcjehaaGreatDoor
