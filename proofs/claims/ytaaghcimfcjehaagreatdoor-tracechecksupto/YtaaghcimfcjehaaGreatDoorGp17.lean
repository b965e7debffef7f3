/- Contracts and plain lemmas of this claim. -/
import Derived.Test.YtaaghcimfcjehaaGreatDoorGp15
import Derived.Test.YtaaghcimfcjehaaGreatDoorGp16
import Derived.Laws.EntriesVeiled
set_option linter.unusedSimpArgs false
set_option linter.unusedVariables false
set_option maxHeartbeats 2000000
set_option maxRecDepth 100000
namespace Go.Proofs.YtaaghcimfcjehaaGreatDoor
open Go.ChangeShapes Go.WideShapes Go.ChangeAt Go.RowKit Go.Lib Go.Maps
def kdA (Q:Nat):Array Value:= #[.string ⟨#[100,105,115,112,97,116,99,104,101,114]⟩,.func (Fn.func 115) #[] #[.pointer (some ⟨Q,0,none⟩)],.string ⟨#[108,97,110,101]⟩,.func (Fn.func 117) #[] #[.pointer (some ⟨Q,0,none⟩)],.string ⟨#[111,119,110,101,114]⟩,.func (Fn.func 119) #[] #[.pointer (some ⟨Q,0,none⟩)],.string ⟨#[103,97,116,101]⟩,.func (Fn.func 121) #[] #[.pointer (some ⟨Q,0,none⟩)],.string ⟨#[99,97,108,108]⟩,.func (Fn.func 123) #[] #[.pointer (some ⟨Q,0,none⟩)]]
theorem zms (Q:Nat):(kdA Q).all (·.oneCell')=true:=by simp[kdA,Value.oneCell']
theorem ztu {w:World} {g Q:Nat} (h:w.heap[g]? = some (.cells (kdA Q) 118 (0,0))):(loadVar 118 ⟨g,0,none⟩).run Tryz.prog w= .ok (.agg (kdA Q)) w :=
 run_loadVar_row (P:=Tryz.prog) _ g _ 118 _ _ (.array 5 117) h (by kernel_rfl) rfl (by kernel_rfl)
theorem zrd (sb:Nat) (w:World):Calls Tryz.prog 77 #[.pointer (some ⟨sb,0,none⟩)] w fun e w'=> ∃Q,e= .returned (.agg (kdA Q))/\w.heap.size<=Q/\w'.heap[Q]? = some (.cells #[.pointer (some ⟨sb,0,none⟩)] 71 (0,0))/\Fr [] w w':=by
 have hQ:=(Fr.alloc [] (w.alloc (.cells #[.pointer (some ⟨sb,0,none⟩)] 71)) (.cells #[.string ⟨#[]⟩,.nilFunc,.string ⟨#[]⟩,.nilFunc,.string ⟨#[]⟩,.nilFunc,.string ⟨#[]⟩,.nilFunc,.string ⟨#[]⟩,.nilFunc] 118)).keep (heap_alloc_new w (.cells #[.pointer (some ⟨sb,0,none⟩)] 71)) (by simp)
 have hr:((w.alloc (.cells #[.pointer (some ⟨sb,0,none⟩)] 71)).alloc (.cells #[.string ⟨#[]⟩,.nilFunc,.string ⟨#[]⟩,.nilFunc,.string ⟨#[]⟩,.nilFunc,.string ⟨#[]⟩,.nilFunc,.string ⟨#[]⟩,.nilFunc] 118)).heap[w.heap.size+1]? = some (.cells #[.string ⟨#[]⟩,.nilFunc,.string ⟨#[]⟩,.nilFunc,.string ⟨#[]⟩,.nilFunc,.string ⟨#[]⟩,.nilFunc,.string ⟨#[]⟩,.nilFunc] 118 (0,0)):=by
  rw[show w.heap.size+1=(w.alloc (.cells #[.pointer (some ⟨sb,0,none⟩)] 71)).heap.size by simp]
  exact heap_alloc_new _ _
 have HF:Hid (Fr [] w ((w.alloc (.cells #[.pointer (some ⟨sb,0,none⟩)] 71)).alloc (.cells #[.string ⟨#[]⟩,.nilFunc,.string ⟨#[]⟩,.nilFunc,.string ⟨#[]⟩,.nilFunc,.string ⟨#[]⟩,.nilFunc,.string ⟨#[]⟩,.nilFunc] 118))):=(Fr.alloc _ _ _).then (Fr.alloc _ _ _)
 have HQ:Hid (_=_):=hQ
 clear hQ
 go_enter Tryz.func77,Tryz.ntmps77
 go_wp2_with (first
  | (refine zbd rfl 118 _ _ rfl (w.heap.size+1) (kdA w.heap.size) rfl rfl 118 _ hr (by kernel_rfl) rfl (zms _) ?_;intro w2 HR2 hf2)
  | fail)
 refine bodyPost_ret (zaf rfl _ _ _ (w.heap.size+1) _ rfl (ztu HR2.out)) rfl ?_
 exact⟨w.heap.size,rfl,Nat.le_refl _,hf2.keep HQ.out (by simp),HF.out.on hf2 (by intro y hy;simp at hy;omega)⟩
section
variable {w w' wS:World} {Z:Zs} {c:Cf} {s:Sy} {k:Nat} {ts:List Tm}
theorem Mv.two {w w0 W W':World} {Z':Zs} {r:Te×Sy} (h:SyM w Z c s k) (h0:Fr [] w w0) (hs:w0.heap.size=w.heap.size+2) (hS:SyM W Z' c r.2 (k+1)) (hM:Mv w0 Z W Z') (hf:Fr [w.heap.size+1] W W'):SyM W' Z' c r.2 (k+1)/\Mv w Z W' Z' :=
 hM.fin h0 (by omega) (by omega) h.lt hf hS
theorem ztv (h:SyM w Z c s k) (Q:Nat) (x:Int) (e:Ev) (r:Te×Sy) (hQ:w.heap[Q]? = some (.cells #[.pointer (some ⟨Z.sb,0,none⟩)] 71 (0,0)))
  (hI: ∀W,Fr [] w W->Calls Tryz.prog 116 #[.pointer (some ⟨Z.sb,0,none⟩)] W (zav W Z c k r)) :
  Calls Tryz.prog 115 #[.int .i64 x,.agg (evA e.t e.k e.n e.s e.c e.m),.pointer (some ⟨Q,0,none⟩)] w (zav w Z c k r):=by
 obtain⟨et,ek,en,es,ec,em⟩:=e
 simp only at hI ⊢
 obtain⟨wa,hwa⟩: ∃wa,wa=w.alloc (.cells (evA et ek en es ec em) 62):=⟨_,rfl⟩
 obtain⟨wb,hwb⟩: ∃wb,wb=wa.alloc (.cells (evA 0 0 0 0 0 0) 62):=⟨_,rfl⟩
 have f1:Fr [] w wa:=by rw[hwa];exact Fr.alloc _ _ _
 have f2:Fr [] wa wb:=by rw[hwb];exact Fr.alloc _ _ _
 have s1:wa.heap.size=w.heap.size+1:=by rw[hwa];simp
 have s2:wb.heap.size=w.heap.size+2:=by rw[hwb];simp[s1]
 have r1:wb.heap[w.heap.size]? = some (.cells (evA et ek en es ec em) 62 (0,0)):=by refine f2.keep ?_ (by simp);rw[hwa];exact heap_alloc_new _ _
 have r2:wb.heap[w.heap.size+1]? = some (.cells (evA 0 0 0 0 0 0) 62 (0,0)):=by rw[hwb,<-s1];exact heap_alloc_new _ _
 have HC:Hid (Calls _ _ _ _ _):=hI wb (f1.then f2)
 have hq:wb.cell? ⟨Q,0,none⟩=some (.pointer (some ⟨Z.sb,0,none⟩)):=by rw[cell_of_row _ _ _ _ _ _ ((f1.then f2).keep hQ (by simp))];rfl
 obtain⟨y0,y1,y2,y3,y4,y5⟩:=zam r1
 have HF:Hid (∀W W' Z',SyM W Z' c r.2 (k+1)->Mv wb Z W Z'->W.heap[w.heap.size+1]? = some (.cells (evA 0 0 0 0 0 0) 62 (0,0))/\(Fr [w.heap.size+1] W W'->SyM W' Z' c r.2 (k+1)/\Mv w Z W' Z')):=fun W W' Z' hS hM=>⟨hM.box (w:=w) (by omega) h.lt r2,fun hf=>Mv.two h (f1.then f2) s2 hS hM hf⟩
 have HW:Hid ((w.alloc (.cells #[.int .i64 et,.int .u8 ek,.int .i64 en,.int .i64 es,.int .i64 ec,.int .i64 em] 62)).alloc (.cells #[.int .i64 0,.int .u8 0,.int .i64 0,.int .i64 0,.int .i64 0,.int .i64 0] 62)=wb):=by show _=_;rw[hwb,hwa];rfl
 obtain⟨b,HB⟩: ∃b,Hid (w.heap.size=b):=⟨_,rfl⟩
 rw[HB.out]at HF y0 y1 y2 y3 y4 y5
 obtain⟨⟨ak,an,a3,ac⟩,s'⟩:=r
 clear hI hQ hwa hwb f1 f2 s1 s2 r1 r2 h
 simp only[evA]
 go_enter Tryz.func115,Tryz.ntmps115
 go_upto_region 1 with fail
 rw[HW.out,HB.out]
 go_wp2_with fail
 refine Calls.mono HC.out ?_
 rintro e w1 ⟨Z1,rfl,hS1,hM1,z1⟩
 obtain⟨g1,g2⟩:=HF.out w1 w1 Z1 hS1 hM1
 have HE:Hid (SyM _ _ _ _ _/\Mv _ _ _ _/\Z1.sb=Z.sb):=⟨hS1,hM1,z1⟩
 clear hS1 hM1 z1 HC hq g2 y0 y1 y2 y3 y4 y5
 simp only[Te.v,evA]
 go_wp2_with (refine zab rfl _ _ rfl (b+1) 0 ak an a3 ac 0 rfl rfl 0 0 0 0 0 0 g1 ?_;intro w3 hw3 hf3)
 refine bodyPost_ret (zaf rfl _ _ _ (b+1) _ rfl (zae hw3.out)) rfl ?_
 obtain⟨m1,m2⟩:=(HF.out w1 w3 Z1 HE.out.1 HE.out.2.1).2 hf3
 exact⟨Z1,rfl,m1,m2,HE.out.2.2⟩
theorem ztw (h:SyM w Z c s k) (Q:Nat) (x:Int) (e:Ev) (r:Te×Sy) (hQ:w.heap[Q]? = some (.cells #[.pointer (some ⟨Z.sb,0,none⟩)] 71 (0,0)))
  (hI: ∀W,Fr [] w W->Calls Tryz.prog 118 #[.pointer (some ⟨Z.sb,0,none⟩),.int .i64 x] W (zav W Z c k r)) :
  Calls Tryz.prog 117 #[.int .i64 x,.agg (evA e.t e.k e.n e.s e.c e.m),.pointer (some ⟨Q,0,none⟩)] w (zav w Z c k r):=by
 obtain⟨et,ek,en,es,ec,em⟩:=e
 simp only at hI ⊢
 obtain⟨wa,hwa⟩: ∃wa,wa=w.alloc (.cells (evA et ek en es ec em) 62):=⟨_,rfl⟩
 obtain⟨wb,hwb⟩: ∃wb,wb=wa.alloc (.cells (evA 0 0 0 0 0 0) 62):=⟨_,rfl⟩
 have f1:Fr [] w wa:=by rw[hwa];exact Fr.alloc _ _ _
 have f2:Fr [] wa wb:=by rw[hwb];exact Fr.alloc _ _ _
 have s1:wa.heap.size=w.heap.size+1:=by rw[hwa];simp
 have s2:wb.heap.size=w.heap.size+2:=by rw[hwb];simp[s1]
 have r1:wb.heap[w.heap.size]? = some (.cells (evA et ek en es ec em) 62 (0,0)):=by refine f2.keep ?_ (by simp);rw[hwa];exact heap_alloc_new _ _
 have r2:wb.heap[w.heap.size+1]? = some (.cells (evA 0 0 0 0 0 0) 62 (0,0)):=by rw[hwb,<-s1];exact heap_alloc_new _ _
 have HC:Hid (Calls _ _ _ _ _):=hI wb (f1.then f2)
 have hq:wb.cell? ⟨Q,0,none⟩=some (.pointer (some ⟨Z.sb,0,none⟩)):=by rw[cell_of_row _ _ _ _ _ _ ((f1.then f2).keep hQ (by simp))];rfl
 obtain⟨y0,y1,y2,y3,y4,y5⟩:=zam r1
 have HF:Hid (∀W W' Z',SyM W Z' c r.2 (k+1)->Mv wb Z W Z'->W.heap[w.heap.size+1]? = some (.cells (evA 0 0 0 0 0 0) 62 (0,0))/\(Fr [w.heap.size+1] W W'->SyM W' Z' c r.2 (k+1)/\Mv w Z W' Z')):=fun W W' Z' hS hM=>⟨hM.box (w:=w) (by omega) h.lt r2,fun hf=>Mv.two h (f1.then f2) s2 hS hM hf⟩
 have HW:Hid ((w.alloc (.cells #[.int .i64 et,.int .u8 ek,.int .i64 en,.int .i64 es,.int .i64 ec,.int .i64 em] 62)).alloc (.cells #[.int .i64 0,.int .u8 0,.int .i64 0,.int .i64 0,.int .i64 0,.int .i64 0] 62)=wb):=by show _=_;rw[hwb,hwa];rfl
 obtain⟨b,HB⟩: ∃b,Hid (w.heap.size=b):=⟨_,rfl⟩
 rw[HB.out]at HF y0 y1 y2 y3 y4 y5
 obtain⟨⟨ak,an,a3,ac⟩,s'⟩:=r
 clear hI hQ hwa hwb f1 f2 s1 s2 r1 r2 h
 simp only[evA]
 go_enter Tryz.func117,Tryz.ntmps117
 go_upto_region 1 with fail
 rw[HW.out,HB.out]
 go_wp2_with fail
 refine Calls.mono HC.out ?_
 rintro e w1 ⟨Z1,rfl,hS1,hM1,z1⟩
 obtain⟨g1,g2⟩:=HF.out w1 w1 Z1 hS1 hM1
 have HE:Hid (SyM _ _ _ _ _/\Mv _ _ _ _/\Z1.sb=Z.sb):=⟨hS1,hM1,z1⟩
 clear hS1 hM1 z1 HC hq g2 y0 y1 y2 y3 y4 y5
 simp only[Te.v,evA]
 go_wp2_with (refine zab rfl _ _ rfl (b+1) 0 ak an a3 ac 0 rfl rfl 0 0 0 0 0 0 g1 ?_;intro w3 hw3 hf3)
 refine bodyPost_ret (zaf rfl _ _ _ (b+1) _ rfl (zae hw3.out)) rfl ?_
 obtain⟨m1,m2⟩:=(HF.out w1 w3 Z1 HE.out.1 HE.out.2.1).2 hf3
 exact⟨Z1,rfl,m1,m2,HE.out.2.2⟩
theorem ztx (h:SyM w Z c s k) (Q:Nat) (x:Int) (e:Ev) (r:Te×Sy) (hQ:w.heap[Q]? = some (.cells #[.pointer (some ⟨Z.sb,0,none⟩)] 71 (0,0)))
  (hI: ∀W,Fr [] w W->Calls Tryz.prog 120 #[.pointer (some ⟨Z.sb,0,none⟩),.int .i64 x] W (zav W Z c k r)) :
  Calls Tryz.prog 119 #[.int .i64 x,.agg (evA e.t e.k e.n e.s e.c e.m),.pointer (some ⟨Q,0,none⟩)] w (zav w Z c k r):=by
 obtain⟨et,ek,en,es,ec,em⟩:=e
 simp only at hI ⊢
 obtain⟨wa,hwa⟩: ∃wa,wa=w.alloc (.cells (evA et ek en es ec em) 62):=⟨_,rfl⟩
 obtain⟨wb,hwb⟩: ∃wb,wb=wa.alloc (.cells (evA 0 0 0 0 0 0) 62):=⟨_,rfl⟩
 have f1:Fr [] w wa:=by rw[hwa];exact Fr.alloc _ _ _
 have f2:Fr [] wa wb:=by rw[hwb];exact Fr.alloc _ _ _
 have s1:wa.heap.size=w.heap.size+1:=by rw[hwa];simp
 have s2:wb.heap.size=w.heap.size+2:=by rw[hwb];simp[s1]
 have r1:wb.heap[w.heap.size]? = some (.cells (evA et ek en es ec em) 62 (0,0)):=by refine f2.keep ?_ (by simp);rw[hwa];exact heap_alloc_new _ _
 have r2:wb.heap[w.heap.size+1]? = some (.cells (evA 0 0 0 0 0 0) 62 (0,0)):=by rw[hwb,<-s1];exact heap_alloc_new _ _
 have HC:Hid (Calls _ _ _ _ _):=hI wb (f1.then f2)
 have hq:wb.cell? ⟨Q,0,none⟩=some (.pointer (some ⟨Z.sb,0,none⟩)):=by rw[cell_of_row _ _ _ _ _ _ ((f1.then f2).keep hQ (by simp))];rfl
 obtain⟨y0,y1,y2,y3,y4,y5⟩:=zam r1
 have HF:Hid (∀W W' Z',SyM W Z' c r.2 (k+1)->Mv wb Z W Z'->W.heap[w.heap.size+1]? = some (.cells (evA 0 0 0 0 0 0) 62 (0,0))/\(Fr [w.heap.size+1] W W'->SyM W' Z' c r.2 (k+1)/\Mv w Z W' Z')):=fun W W' Z' hS hM=>⟨hM.box (w:=w) (by omega) h.lt r2,fun hf=>Mv.two h (f1.then f2) s2 hS hM hf⟩
 have HW:Hid ((w.alloc (.cells #[.int .i64 et,.int .u8 ek,.int .i64 en,.int .i64 es,.int .i64 ec,.int .i64 em] 62)).alloc (.cells #[.int .i64 0,.int .u8 0,.int .i64 0,.int .i64 0,.int .i64 0,.int .i64 0] 62)=wb):=by show _=_;rw[hwb,hwa];rfl
 obtain⟨b,HB⟩: ∃b,Hid (w.heap.size=b):=⟨_,rfl⟩
 rw[HB.out]at HF y0 y1 y2 y3 y4 y5
 obtain⟨⟨ak,an,a3,ac⟩,s'⟩:=r
 clear hI hQ hwa hwb f1 f2 s1 s2 r1 r2 h
 simp only[evA]
 go_enter Tryz.func119,Tryz.ntmps119
 go_upto_region 1 with fail
 rw[HW.out,HB.out]
 go_wp2_with fail
 refine Calls.mono HC.out ?_
 rintro e w1 ⟨Z1,rfl,hS1,hM1,z1⟩
 obtain⟨g1,g2⟩:=HF.out w1 w1 Z1 hS1 hM1
 have HE:Hid (SyM _ _ _ _ _/\Mv _ _ _ _/\Z1.sb=Z.sb):=⟨hS1,hM1,z1⟩
 clear hS1 hM1 z1 HC hq g2 y0 y1 y2 y3 y4 y5
 simp only[Te.v,evA]
 go_wp2_with (refine zab rfl _ _ rfl (b+1) 0 ak an a3 ac 0 rfl rfl 0 0 0 0 0 0 g1 ?_;intro w3 hw3 hf3)
 refine bodyPost_ret (zaf rfl _ _ _ (b+1) _ rfl (zae hw3.out)) rfl ?_
 obtain⟨m1,m2⟩:=(HF.out w1 w3 Z1 HE.out.1 HE.out.2.1).2 hf3
 exact⟨Z1,rfl,m1,m2,HE.out.2.2⟩
theorem zty (h:SyM w Z c s k) (Q:Nat) (x:Int) (e:Ev) (r:Te×Sy) (hQ:w.heap[Q]? = some (.cells #[.pointer (some ⟨Z.sb,0,none⟩)] 71 (0,0)))
  (hI: ∀W,Fr [] w W->Calls Tryz.prog 122 #[.pointer (some ⟨Z.sb,0,none⟩)] W (zav W Z c k r)) :
  Calls Tryz.prog 121 #[.int .i64 x,.agg (evA e.t e.k e.n e.s e.c e.m),.pointer (some ⟨Q,0,none⟩)] w (zav w Z c k r):=by
 obtain⟨et,ek,en,es,ec,em⟩:=e
 simp only at hI ⊢
 obtain⟨wa,hwa⟩: ∃wa,wa=w.alloc (.cells (evA et ek en es ec em) 62):=⟨_,rfl⟩
 obtain⟨wb,hwb⟩: ∃wb,wb=wa.alloc (.cells (evA 0 0 0 0 0 0) 62):=⟨_,rfl⟩
 have f1:Fr [] w wa:=by rw[hwa];exact Fr.alloc _ _ _
 have f2:Fr [] wa wb:=by rw[hwb];exact Fr.alloc _ _ _
 have s1:wa.heap.size=w.heap.size+1:=by rw[hwa];simp
 have s2:wb.heap.size=w.heap.size+2:=by rw[hwb];simp[s1]
 have r1:wb.heap[w.heap.size]? = some (.cells (evA et ek en es ec em) 62 (0,0)):=by refine f2.keep ?_ (by simp);rw[hwa];exact heap_alloc_new _ _
 have r2:wb.heap[w.heap.size+1]? = some (.cells (evA 0 0 0 0 0 0) 62 (0,0)):=by rw[hwb,<-s1];exact heap_alloc_new _ _
 have HC:Hid (Calls _ _ _ _ _):=hI wb (f1.then f2)
 have hq:wb.cell? ⟨Q,0,none⟩=some (.pointer (some ⟨Z.sb,0,none⟩)):=by rw[cell_of_row _ _ _ _ _ _ ((f1.then f2).keep hQ (by simp))];rfl
 obtain⟨y0,y1,y2,y3,y4,y5⟩:=zam r1
 have HF:Hid (∀W W' Z',SyM W Z' c r.2 (k+1)->Mv wb Z W Z'->W.heap[w.heap.size+1]? = some (.cells (evA 0 0 0 0 0 0) 62 (0,0))/\(Fr [w.heap.size+1] W W'->SyM W' Z' c r.2 (k+1)/\Mv w Z W' Z')):=fun W W' Z' hS hM=>⟨hM.box (w:=w) (by omega) h.lt r2,fun hf=>Mv.two h (f1.then f2) s2 hS hM hf⟩
 have HW:Hid ((w.alloc (.cells #[.int .i64 et,.int .u8 ek,.int .i64 en,.int .i64 es,.int .i64 ec,.int .i64 em] 62)).alloc (.cells #[.int .i64 0,.int .u8 0,.int .i64 0,.int .i64 0,.int .i64 0,.int .i64 0] 62)=wb):=by show _=_;rw[hwb,hwa];rfl
 obtain⟨b,HB⟩: ∃b,Hid (w.heap.size=b):=⟨_,rfl⟩
 rw[HB.out]at HF y0 y1 y2 y3 y4 y5
 obtain⟨⟨ak,an,a3,ac⟩,s'⟩:=r
 clear hI hQ hwa hwb f1 f2 s1 s2 r1 r2 h
 simp only[evA]
 go_enter Tryz.func121,Tryz.ntmps121
 go_upto_region 1 with fail
 rw[HW.out,HB.out]
 go_wp2_with fail
 refine Calls.mono HC.out ?_
 rintro e w1 ⟨Z1,rfl,hS1,hM1,z1⟩
 obtain⟨g1,g2⟩:=HF.out w1 w1 Z1 hS1 hM1
 have HE:Hid (SyM _ _ _ _ _/\Mv _ _ _ _/\Z1.sb=Z.sb):=⟨hS1,hM1,z1⟩
 clear hS1 hM1 z1 HC hq g2 y0 y1 y2 y3 y4 y5
 simp only[Te.v,evA]
 go_wp2_with (refine zab rfl _ _ rfl (b+1) 0 ak an a3 ac 0 rfl rfl 0 0 0 0 0 0 g1 ?_;intro w3 hw3 hf3)
 refine bodyPost_ret (zaf rfl _ _ _ (b+1) _ rfl (zae hw3.out)) rfl ?_
 obtain⟨m1,m2⟩:=(HF.out w1 w3 Z1 HE.out.1 HE.out.2.1).2 hf3
 exact⟨Z1,rfl,m1,m2,HE.out.2.2⟩
theorem ztz (h:SyM w Z c s k) (Q:Nat) (x:Int) (e:Ev) (r:Te×Sy) (hQ:w.heap[Q]? = some (.cells #[.pointer (some ⟨Z.sb,0,none⟩)] 71 (0,0)))
  (hI: ∀W,Fr [] w W->Calls Tryz.prog 124 #[.pointer (some ⟨Z.sb,0,none⟩),.int .i64 x,.agg (evA e.t e.k e.n e.s e.c e.m)] W (zav W Z c k r)) :
  Calls Tryz.prog 123 #[.int .i64 x,.agg (evA e.t e.k e.n e.s e.c e.m),.pointer (some ⟨Q,0,none⟩)] w (zav w Z c k r):=by
 obtain⟨et,ek,en,es,ec,em⟩:=e
 simp only at hI ⊢
 obtain⟨wa,hwa⟩: ∃wa,wa=w.alloc (.cells (evA et ek en es ec em) 62):=⟨_,rfl⟩
 obtain⟨wb,hwb⟩: ∃wb,wb=wa.alloc (.cells (evA 0 0 0 0 0 0) 62):=⟨_,rfl⟩
 have f1:Fr [] w wa:=by rw[hwa];exact Fr.alloc _ _ _
 have f2:Fr [] wa wb:=by rw[hwb];exact Fr.alloc _ _ _
 have s1:wa.heap.size=w.heap.size+1:=by rw[hwa];simp
 have s2:wb.heap.size=w.heap.size+2:=by rw[hwb];simp[s1]
 have r1:wb.heap[w.heap.size]? = some (.cells (evA et ek en es ec em) 62 (0,0)):=by refine f2.keep ?_ (by simp);rw[hwa];exact heap_alloc_new _ _
 have r2:wb.heap[w.heap.size+1]? = some (.cells (evA 0 0 0 0 0 0) 62 (0,0)):=by rw[hwb,<-s1];exact heap_alloc_new _ _
 have HC:Hid (Calls _ _ _ _ _):=hI wb (f1.then f2)
 have hq:wb.cell? ⟨Q,0,none⟩=some (.pointer (some ⟨Z.sb,0,none⟩)):=by rw[cell_of_row _ _ _ _ _ _ ((f1.then f2).keep hQ (by simp))];rfl
 obtain⟨y0,y1,y2,y3,y4,y5⟩:=zam r1
 have HF:Hid (∀W W' Z',SyM W Z' c r.2 (k+1)->Mv wb Z W Z'->W.heap[w.heap.size+1]? = some (.cells (evA 0 0 0 0 0 0) 62 (0,0))/\(Fr [w.heap.size+1] W W'->SyM W' Z' c r.2 (k+1)/\Mv w Z W' Z')):=fun W W' Z' hS hM=>⟨hM.box (w:=w) (by omega) h.lt r2,fun hf=>Mv.two h (f1.then f2) s2 hS hM hf⟩
 have HW:Hid ((w.alloc (.cells #[.int .i64 et,.int .u8 ek,.int .i64 en,.int .i64 es,.int .i64 ec,.int .i64 em] 62)).alloc (.cells #[.int .i64 0,.int .u8 0,.int .i64 0,.int .i64 0,.int .i64 0,.int .i64 0] 62)=wb):=by show _=_;rw[hwb,hwa];rfl
 obtain⟨b,HB⟩: ∃b,Hid (w.heap.size=b):=⟨_,rfl⟩
 rw[HB.out]at HF y0 y1 y2 y3 y4 y5
 obtain⟨⟨ak,an,a3,ac⟩,s'⟩:=r
 clear hI hQ hwa hwb f1 f2 s1 s2 r1 r2 h
 simp only[evA]
 go_enter Tryz.func123,Tryz.ntmps123
 go_upto_region 1 with fail
 rw[HW.out,HB.out]
 go_wp2_with fail
 refine Calls.mono HC.out ?_
 rintro e w1 ⟨Z1,rfl,hS1,hM1,z1⟩
 obtain⟨g1,g2⟩:=HF.out w1 w1 Z1 hS1 hM1
 have HE:Hid (SyM _ _ _ _ _/\Mv _ _ _ _/\Z1.sb=Z.sb):=⟨hS1,hM1,z1⟩
 clear hS1 hM1 z1 HC hq g2 y0 y1 y2 y3 y4 y5
 simp only[Te.v,evA]
 go_wp2_with (refine zab rfl _ _ rfl (b+1) 0 ak an a3 ac 0 rfl rfl 0 0 0 0 0 0 g1 ?_;intro w3 hw3 hf3)
 refine bodyPost_ret (zaf rfl _ _ _ (b+1) _ rfl (zae hw3.out)) rfl ?_
 obtain⟨m1,m2⟩:=(HF.out w1 w3 Z1 HE.out.1 HE.out.2.1).2 hf3
 exact⟨Z1,rfl,m1,m2,HE.out.2.2⟩
end
section
variable {w w' wS:World} {Z:Zs} {c:Cf} {s:Sy} {k:Nat} {ts:List Tm}
structure At (wS w:World) (Z:Zs) (c:Cf) (s:Sy) (k:Nat) (ts:List Tm):Prop where
 st:SyM w Z c s k
 cx:Cx wS w Z ts
 lk:Lk (txs ts)
 iv:Iv c (txs ts) s k
 few:k<=4194304
theorem At.quiet (h:At wS w Z c s k ts) (hf:Fr [] w w'):At wS w' Z c s k ts:=⟨h.st.quiet hf,h.cx.quiet hf,h.lk,h.iv,h.few⟩
theorem zwy (h:At wS w Z c s k ts) (n:Int):(frx s.L s.en n).length<=65536:=by
 obtain⟨z1,z2⟩:=zfw s.L s.en n
 have hr:=h.st.deps.ris
 have hl:=h.lk.len
 refine Ris.few (n:=65536) (a:=1) z1 (fun x hx=> ?_)
 obtain⟨⟨⟨p,hp,rfl⟩,_⟩,_⟩:=z2 x hx
 have h1:=hr.pos p hp
 have h2:=(h.iv.old p hp).1
 have h3:=h.iv.top
 omega
def kdF:Nat->Nat
 | 0=>115
 | 1=>117
 | 2=>119
 | 3=>121
 | _=>123
theorem znt (h:At wS w Z c s k ts) (e:Ev) (he:I6 e.t) (hes:I6 e.s) (Q:Nat) (hQ:w.heap[Q]? = some (.cells #[.pointer (some ⟨Z.sb,0,none⟩)] 71 (0,0))) {K:Nat} {x:Int} (hK:KT c.l c.s e.t K x) :
  Calls Tryz.prog (kdF K) #[.int .i64 x,.agg (evA e.t e.k e.n e.s e.c e.m),.pointer (some ⟨Q,0,none⟩)] w (zav w Z c k (stp c (txs ts) s e)):=by
 have hm:=h.st.may
 have hl:=hm.1
 have hs:=hm.2.1
 have hlen:=h.lk.len
 have hfew:=h.few
 unfold stp
 rcases hK with ⟨h1,rfl,rfl⟩|⟨h1,rfl,rfl⟩|⟨h1,h2,rfl,rfl⟩|⟨h1,h2,rfl,rfl⟩|⟨h1,rfl,rfl⟩
 ·rw[if_pos h1]
  exact ztz h.st Q e.t e _ hQ (fun W hf=>zts (h.st.quiet hf) e e.t he hes (by omega) h.iv.cnt)
 ·rw[if_neg (by omega),if_pos h1]
  exact ztv h.st Q 0 e _ hQ (fun W hf=>ztq (h.st.quiet hf) (h.cx.quiet hf) h.lk h.iv h.few)
 ·rw[if_neg (by omega),if_neg (by omega),if_pos h2]
  refine ztw h.st Q e.t e _ hQ (fun W hf=> ?_)
  have:=zto (h.st.quiet hf) (h.cx.quiet hf) h.lk h.iv (e.t-1).toNat (by omega) h.few
  rw[show (((e.t-1).toNat:Nat):Int)+1=e.t by omega]at this
  exact this
 ·rw[if_neg (by omega),if_neg (by omega),if_neg (by omega),if_pos h2]
  refine ztx h.st Q (e.t-c.l-1) e _ hQ (fun W hf=> ?_)
  have:=zrc (h.st.quiet hf) (e.t-c.l-1).toNat (by omega) (by omega) h.iv.cnt (h.iv.que _ (by omega))
  rw[show (((e.t-c.l-1).toNat:Nat):Int)=e.t-c.l-1 by omega]at this
  exact this
 ·rw[if_neg (by omega),if_neg (by omega),if_neg (by omega),if_neg (by omega),if_pos h1]
  exact zty h.st Q 0 e _ hQ (fun W hf=>ztt (h.st.quiet hf) h.few (fun n hn=>⟨by have:=h.iv.pass n hn;omega,by have:=h.iv.pass n hn;omega⟩) h.iv.few0 (zwy h))
def znu (w:World) (Z:Zs) (c:Cf) (k:Nat) (t:Ev) (s':Sy) (e:Ending) (w':World):Prop:= ∃Z',e= .returned (.agg (evA t.t t.k t.n t.s t.c t.m))/\SyM w' Z' c s' (k+1)/\Mv w Z w' Z'
structure Sb (w w1:World) (Z:Zs) (Q:Nat) (e:Ev) (b:Nat):Prop where
 fr:Fr [] w w1
 r4:w1.heap[b]? = some (.cells (kdA Q) 118 (0,0))
 r5:w1.heap[b+1]? = some (.cells (evA e.t e.k e.n e.s e.c e.m) 62 (0,0))
 r6:w1.heap[b+1+1]? = some (.cells (evA 0 0 0 0 0 0) 62 (0,0))
 lo:w.heap.size<=b
theorem Sb.quiet {w1 w2:World} {Q b:Nat} {e:Ev} (h:Sb w w1 Z Q e b) (hf:Fr [] w1 w2):Sb w w2 Z Q e b:=⟨h.fr.then hf,hf.keep h.r4 (by simp),hf.keep h.r5 (by simp),hf.keep h.r6 (by simp),h.lo⟩
theorem Sb.new (w:World) (Z:Zs) (Q:Nat) (e:Ev):Sb w (((w.alloc (.cells (kdA Q) 118)).alloc (.cells (evA e.t e.k e.n e.s e.c e.m) 62)).alloc (.cells (evA 0 0 0 0 0 0) 62)) Z Q e w.heap.size:=by
 obtain⟨wa,hwa⟩: ∃wa,wa=w.alloc (.cells (kdA Q) 118):=⟨_,rfl⟩
 obtain⟨wb,hwb⟩: ∃wb,wb=wa.alloc (.cells (evA e.t e.k e.n e.s e.c e.m) 62):=⟨_,rfl⟩
 have f1:Fr [] w wa:=by rw[hwa];exact Fr.alloc _ _ _
 have f2:Fr [] wa wb:=by rw[hwb];exact Fr.alloc _ _ _
 have s1:wa.heap.size=w.heap.size+1:=by rw[hwa];simp
 have s2:wb.heap.size=w.heap.size+1+1:=by rw[hwb];simp[s1]
 have r1:wa.heap[w.heap.size]? = some (.cells (kdA Q) 118 (0,0)):=by rw[hwa];exact heap_alloc_new _ _
 have r2:wb.heap[w.heap.size+1]? = some (.cells (evA e.t e.k e.n e.s e.c e.m) 62 (0,0)):=by rw[hwb,<-s1];exact heap_alloc_new _ _
 rw[<-hwa,<-hwb]
 have f3:Fr [] wb (wb.alloc (.cells (evA 0 0 0 0 0 0) 62)):=Fr.alloc _ _ _
 exact⟨f1.then (f2.then f3),f3.keep (f2.keep r1 (by simp)) (by simp),f3.keep r2 (by simp),by rw[<-s2];exact heap_alloc_new _ _,Nat.le_refl _⟩
theorem zre (Q:Nat) (w:World):(Instr.index 118 (.agg #[.string ⟨#[100,105,115,112,97,116,99,104,101,114]⟩,.func (Fn.func 115) #[] #[.pointer (some ⟨Q,0,none⟩)],.string ⟨#[108,97,110,101]⟩,.func (Fn.func 117) #[] #[.pointer (some ⟨Q,0,none⟩)],.string ⟨#[111,119,110,101,114]⟩,.func (Fn.func 119) #[] #[.pointer (some ⟨Q,0,none⟩)],.string ⟨#[103,97,116,101]⟩,.func (Fn.func 121) #[] #[.pointer (some ⟨Q,0,none⟩)],.string ⟨#[99,97,108,108]⟩,.func (Fn.func 123) #[] #[.pointer (some ⟨Q,0,none⟩)]]) (.int .i64 0)).run Tryz.prog w= .ok (.agg #[.string ⟨#[100,105,115,112,97,116,99,104,101,114]⟩,.func (Fn.func 115) #[] #[.pointer (some ⟨Q,0,none⟩)]]) w:=by kernel_rfl
theorem zrf (Q:Nat) (w:World):(Instr.index 118 (.agg #[.string ⟨#[100,105,115,112,97,116,99,104,101,114]⟩,.func (Fn.func 115) #[] #[.pointer (some ⟨Q,0,none⟩)],.string ⟨#[108,97,110,101]⟩,.func (Fn.func 117) #[] #[.pointer (some ⟨Q,0,none⟩)],.string ⟨#[111,119,110,101,114]⟩,.func (Fn.func 119) #[] #[.pointer (some ⟨Q,0,none⟩)],.string ⟨#[103,97,116,101]⟩,.func (Fn.func 121) #[] #[.pointer (some ⟨Q,0,none⟩)],.string ⟨#[99,97,108,108]⟩,.func (Fn.func 123) #[] #[.pointer (some ⟨Q,0,none⟩)]]) (.int .i64 1)).run Tryz.prog w= .ok (.agg #[.string ⟨#[108,97,110,101]⟩,.func (Fn.func 117) #[] #[.pointer (some ⟨Q,0,none⟩)]]) w:=by kernel_rfl
theorem zrg (Q:Nat) (w:World):(Instr.index 118 (.agg #[.string ⟨#[100,105,115,112,97,116,99,104,101,114]⟩,.func (Fn.func 115) #[] #[.pointer (some ⟨Q,0,none⟩)],.string ⟨#[108,97,110,101]⟩,.func (Fn.func 117) #[] #[.pointer (some ⟨Q,0,none⟩)],.string ⟨#[111,119,110,101,114]⟩,.func (Fn.func 119) #[] #[.pointer (some ⟨Q,0,none⟩)],.string ⟨#[103,97,116,101]⟩,.func (Fn.func 121) #[] #[.pointer (some ⟨Q,0,none⟩)],.string ⟨#[99,97,108,108]⟩,.func (Fn.func 123) #[] #[.pointer (some ⟨Q,0,none⟩)]]) (.int .i64 2)).run Tryz.prog w= .ok (.agg #[.string ⟨#[111,119,110,101,114]⟩,.func (Fn.func 119) #[] #[.pointer (some ⟨Q,0,none⟩)]]) w:=by kernel_rfl
theorem zrh (Q:Nat) (w:World):(Instr.index 118 (.agg #[.string ⟨#[100,105,115,112,97,116,99,104,101,114]⟩,.func (Fn.func 115) #[] #[.pointer (some ⟨Q,0,none⟩)],.string ⟨#[108,97,110,101]⟩,.func (Fn.func 117) #[] #[.pointer (some ⟨Q,0,none⟩)],.string ⟨#[111,119,110,101,114]⟩,.func (Fn.func 119) #[] #[.pointer (some ⟨Q,0,none⟩)],.string ⟨#[103,97,116,101]⟩,.func (Fn.func 121) #[] #[.pointer (some ⟨Q,0,none⟩)],.string ⟨#[99,97,108,108]⟩,.func (Fn.func 123) #[] #[.pointer (some ⟨Q,0,none⟩)]]) (.int .i64 3)).run Tryz.prog w= .ok (.agg #[.string ⟨#[103,97,116,101]⟩,.func (Fn.func 121) #[] #[.pointer (some ⟨Q,0,none⟩)]]) w:=by kernel_rfl
theorem zri (Q:Nat) (w:World):(Instr.index 118 (.agg #[.string ⟨#[100,105,115,112,97,116,99,104,101,114]⟩,.func (Fn.func 115) #[] #[.pointer (some ⟨Q,0,none⟩)],.string ⟨#[108,97,110,101]⟩,.func (Fn.func 117) #[] #[.pointer (some ⟨Q,0,none⟩)],.string ⟨#[111,119,110,101,114]⟩,.func (Fn.func 119) #[] #[.pointer (some ⟨Q,0,none⟩)],.string ⟨#[103,97,116,101]⟩,.func (Fn.func 121) #[] #[.pointer (some ⟨Q,0,none⟩)],.string ⟨#[99,97,108,108]⟩,.func (Fn.func 123) #[] #[.pointer (some ⟨Q,0,none⟩)]]) (.int .i64 4)).run Tryz.prog w= .ok (.agg #[.string ⟨#[99,97,108,108]⟩,.func (Fn.func 123) #[] #[.pointer (some ⟨Q,0,none⟩)]]) w:=by kernel_rfl
theorem zgt {w:World} {g Q:Nat} (h:w.heap[g]? = some (.cells (kdA Q) 118 (0,0))):w.cell? ⟨g,0,none⟩=some (.string ⟨#[100,105,115,112,97,116,99,104,101,114]⟩)/\w.cell? ⟨g,1,none⟩=some (.func (Fn.func 115) #[] #[.pointer (some ⟨Q,0,none⟩)])/\w.cell? ⟨g,2,none⟩=some (.string ⟨#[108,97,110,101]⟩)/\w.cell? ⟨g,3,none⟩=some (.func (Fn.func 117) #[] #[.pointer (some ⟨Q,0,none⟩)])/\w.cell? ⟨g,4,none⟩=some (.string ⟨#[111,119,110,101,114]⟩)/\w.cell? ⟨g,5,none⟩=some (.func (Fn.func 119) #[] #[.pointer (some ⟨Q,0,none⟩)])/\w.cell? ⟨g,6,none⟩=some (.string ⟨#[103,97,116,101]⟩)/\w.cell? ⟨g,7,none⟩=some (.func (Fn.func 121) #[] #[.pointer (some ⟨Q,0,none⟩)])/\w.cell? ⟨g,8,none⟩=some (.string ⟨#[99,97,108,108]⟩)/\w.cell? ⟨g,9,none⟩=some (.func (Fn.func 123) #[] #[.pointer (some ⟨Q,0,none⟩)]) :=
 ⟨by rw[cell_of_row _ _ _ _ _ _ h];rfl,by rw[cell_of_row _ _ _ _ _ _ h];rfl,by rw[cell_of_row _ _ _ _ _ _ h];rfl,by rw[cell_of_row _ _ _ _ _ _ h];rfl,by rw[cell_of_row _ _ _ _ _ _ h];rfl,by rw[cell_of_row _ _ _ _ _ _ h];rfl,by rw[cell_of_row _ _ _ _ _ _ h];rfl,by rw[cell_of_row _ _ _ _ _ _ h];rfl,by rw[cell_of_row _ _ _ _ _ _ h];rfl,by rw[cell_of_row _ _ _ _ _ _ h];rfl⟩
set_option maxHeartbeats 8000000 in
theorem zwz (h:At wS w Z c s k ts) (hN:Nms w) (e:Ev) (he:I6 e.t) (Q:Nat) (ht:c.l+c.s+2<=e.t) :
  Calls Tryz.prog 78 #[.pointer (some ⟨Z.sb,0,none⟩),.agg (kdA Q),.agg (evA e.t e.k e.n e.s e.c e.m)] w (znu w Z c k Ev.no s):=by
 have HS:Hid (Sb w _ Z Q e w.heap.size):=Sb.new w Z Q e
 obtain⟨w1,HW1⟩: ∃w1,Hid (((w.alloc (.cells (kdA Q) 118)).alloc (.cells (evA e.t e.k e.n e.s e.c e.m) 62)).alloc (.cells (evA 0 0 0 0 0 0) 62)=w1):=⟨_,rfl⟩
 rw[HW1.out]at HS
 obtain⟨b,HBB⟩: ∃b,Hid (w.heap.size=b):=⟨_,rfl⟩
 rw[HBB.out]at HS
 have HQ:Hid (∀W,Fr [] w1 W->Sb w W Z Q e b/\At wS W Z c s k ts):=fun W hf=>⟨HS.out.quiet hf,h.quiet (HS.out.fr.then hf)⟩
 have HNa:Hid (∀W,Fr [] w1 W->Calls Tryz.prog 125 #[.agg #[.int .i64 c.l,.int .i64 c.s,.int .i64 c.w,.int .i64 c.q],.int .i64 e.t] W fun e' w'=>e'= .returned (.tuple #[.string ⟨#[]⟩,.int .i64 0,.int .i64 1])/\Fr [] W w'):=fun W hf=>zjv c.l c.s c.w c.q e.t _ _ _ W (hN.keep (HS.out.fr.then hf) (by simp)) he (Or.inr (Or.inl ⟨h.st.may,ht,rfl,rfl,rfl⟩))
 obtain⟨et,ek,en,es,ec,em⟩:=e
 simp only at HW1 HQ HNa HS ⊢
 have f0: ∀y:Wd13 w1,y.W.cell? ⟨Z.sb,0,none⟩=some (.int .i64 c.l):=fun y=>(HQ.out _ y.h).2.st.cell rfl
 have f1: ∀y:Wd13 w1,y.W.cell? ⟨Z.sb,1,none⟩=some (.int .i64 c.s):=fun y=>(HQ.out _ y.h).2.st.cell rfl
 have f2: ∀y:Wd13 w1,y.W.cell? ⟨Z.sb,2,none⟩=some (.int .i64 c.w):=fun y=>(HQ.out _ y.h).2.st.cell rfl
 have f3: ∀y:Wd13 w1,y.W.cell? ⟨Z.sb,3,none⟩=some (.int .i64 c.q):=fun y=>(HQ.out _ y.h).2.st.cell rfl
 have f4: ∀y:Wd13 w1,y.W.cell? ⟨b+1,0,none⟩=some (.int .i64 et):=fun y=>(zam (HQ.out _ y.h).1.r5).1
 have HLt:Hid (∀x∈Z.own,x<w.heap.size):=h.st.lt
 clear h hN he ht HS
 simp only[evA]at HW1 ⊢
 go_enter Tryz.func78,Tryz.ntmps78
 go_upto_region 1 with fail
 rw[HW1.out,HBB.out]
 go_wp2_with fail
 refine zau (w1:=w1) (by kernel_rfl) (by kernel_rfl) (Fr.refl _ _) ?_
 repeat (go_big_quiet_step ((go_at_call 125;with_reducible refine (HNa.out _ (Wd13.h _)).mono ?_;exact fun e w3 hh=>⟨hh.1,⟨_,Fr.then (Wd13.h _) hh.2⟩,rfl⟩)))
 refine wpQuiet_nil ?_
 rintro _ ⟨y,rfl⟩
 obtain⟨w2,hw2⟩: ∃w2,w2=y.W:=⟨_,rfl⟩
 have HF2:Hid (Fr [] w1 w2):=by show Fr _ _ _;rw[hw2];exact y.h
 rw[<-hw2]
 clear hw2 f0 f1 f2 f3 f4 HNa
 obtain⟨k0,k1,k2,k3,k4,k5,k6,k7,k8,k9⟩:=zgt (HQ.out _ HF2.out).1.r4
 go_wp2_with fail
 clear k0 k1 k2 k3 k4 k5 k6 k7 k8 k9
 go_loopw [25] (fun ii wr=> ∃(i:Nat),ii= .int .i64 i/\i<=5/\Hid (Fr [] w1 wr)) (fun ii _=>5-(RowKit.intOf ii).toNat)
 case atStart=>exact⟨0,rfl,by omega,HF2⟩
 case round =>
  obtain⟨i,rfl,hi5,HFr⟩:=hrel
  by_cases hi:i<5
  ·have hii:(i:Int)<5:=by omega
   have x0:=zre Q
   have x1:=zrf Q
   have x2:=zrg Q
   have x3:=zrh Q
   have x4:=zri Q
   obtain rfl|rfl|rfl|rfl|rfl:i=0\/i=1\/i=2\/i=3\/i=4:=by omega
   ·rw[show ((0:Nat):Int)=0 from rfl]
    go_wp2_with fail
    go_roundw
    case rel=>exact⟨1,rfl,by omega,HFr.out.then (Fr.alloc _ _ _)⟩
    case measure=>simp[RowKit.intOf]
   ·rw[show ((1:Nat):Int)=1 from rfl]
    go_wp2_with fail
    go_roundw
    case rel=>exact⟨2,rfl,by omega,HFr.out.then (Fr.alloc _ _ _)⟩
    case measure=>simp[RowKit.intOf]
   ·rw[show ((2:Nat):Int)=2 from rfl]
    go_wp2_with fail
    go_roundw
    case rel=>exact⟨3,rfl,by omega,HFr.out.then (Fr.alloc _ _ _)⟩
    case measure=>simp[RowKit.intOf]
   ·rw[show ((3:Nat):Int)=3 from rfl]
    go_wp2_with fail
    go_roundw
    case rel=>exact⟨4,rfl,by omega,HFr.out.then (Fr.alloc _ _ _)⟩
    case measure=>simp[RowKit.intOf]
   ·rw[show ((4:Nat):Int)=4 from rfl]
    go_wp2_with fail
    go_roundw
    case rel=>exact⟨5,rfl,by omega,HFr.out.then (Fr.alloc _ _ _)⟩
    case measure=>simp[RowKit.intOf]
  ·have hi':i=5:=by omega
   subst hi'
   have HB:=(HQ.out _ HFr.out).1.r6
   have HSt:Hid (SyM wr Z c s k):=(HQ.out _ HFr.out).2.st
   have HM:Hid (Fr [] w wr):=(HQ.out _ HFr.out).1.fr
   have HL:Hid (∀x∈Z.own,x<w.heap.size):=HLt.out
   have hbb:Hid (w.heap.size<=b):=(HQ.out _ HFr.out).1.lo
   go_wp2_with (refine zab rfl _ _ rfl (b+1+1) 0 0 0 0 0 0 rfl rfl 0 0 0 0 0 0 HB ?_;intro w3 hw3 hf3)
   refine bodyPost_ret (zaf rfl _ _ _ (b+1+1) _ rfl (zae hw3.out)) rfl ?_
   have hno:b+1+1∉Z.own:=fun hh=>by have:=HL.out _ hh;have:=hbb.out;omega
   exact⟨Z,rfl,(HSt.out.keep hf3 (fun x hx hh=>by simp at hh;exact hno (hh▸hx))).mono (Nat.le_succ k),Mv.quiet (HM.out.on hf3 (fun x hx=>by simp at hx;have:=hbb.out;omega))⟩
end
end Go.Proofs.YtaaghcimfcjehaaGreatDoor
