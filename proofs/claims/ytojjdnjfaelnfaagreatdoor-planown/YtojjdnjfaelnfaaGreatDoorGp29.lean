/- Contracts and lemmas. -/
import Derived.Test.YtojjdnjfaelnfaaGreatDoorGp25
import Derived.Test.YtojjdnjfaelnfaaGreatDoorGp27
import Derived.Test.YtojjdnjfaelnfaaGreatDoorGp28
set_option maxHeartbeats 4000000
set_option maxRecDepth 100000
namespace Go.Proofs.YtojjdnjfaelnfaaGreatDoor
set_option linter.unusedSimpArgs false
set_option linter.unusedVariables false
namespace O
open Go.ChangeShapes Go.WideShapes Go.ChangeAt Go.RowKit Go.Lib Go.Proofs.Tryz
structure OwQ(w:World)(ob g:Nat)(s:Addr)(pb:Option Nat)(C:Nat)(xs:List Rv):Prop where
 box:w.heap[ob]? = some (.cells #[.pointer (some s),.pointer (some ⟨g,0,none⟩)] 340 (0,0))
 rg:Rg w g pb C xs false
section
variable{w w':World}{ob g C:Nat}{s:Addr}{pb:Option Nat}{xs:List Rv}
theorem OwQ.keep{S:List Nat}(h:OwQ w ob g s pb C xs)(hf:Fr S w w')(h1:ob∉S)(h2:g∉S)(h3:∀b,pb=some b->b∉S):OwQ w' ob g s pb C xs:=⟨hf.keep h.box h1,h.rg.keep hf h2 h3⟩
theorem OwQ.same(h:OwQ w ob g s pb C xs)(hf:Fr [] w w'):OwQ w' ob g s pb C xs:=h.keep hf (by simp) (by simp) (by simp)
theorem OwQ.c0(h:OwQ w ob g s pb C xs):w.cell? ⟨ob,0,none⟩=some (.pointer (some s)):=by rw[crw h.box];rfl
theorem OwQ.c1(h:OwQ w ob g s pb C xs):w.cell? ⟨ob,1,none⟩=some (.pointer (some ⟨g,0,none⟩)):=by rw[crw h.box];rfl
theorem OwQ.lt(h:OwQ w ob g s pb C xs):ob<w.heap.size:=lt_of_block h.box
theorem OwQ.ng(h:OwQ w ob g s pb C xs):ob≠g:=by
 rintro rfl;obtain⟨N,F,K,ps,hR⟩:=h.rg;have:=hR.box;rw[h.box]at this
 simp at this
theorem OwQ.nb(h:OwQ w ob g s pb C xs):pb≠some ob:=by
 intro e;obtain⟨N,F,K,ps,hR⟩:=h.rg;have:=hR.row ob e;rw[h.box]at this
 simp at this
theorem OwQ.no(h:OwQ w ob g s pb C xs):ob∉Rg.own g pb:=by
 simp only[Rg.own,List.mem_cons,Option.mem_toList,not_or];exact⟨h.ng,h.nb⟩
theorem zdu(h:OwQ w ob g s pb C xs):Calls prog 301 #[.pointer (some ⟨ob,0,none⟩)] w fun e w'=>e=.returned (.bool true)/\w=w':=by
 have c0:=h.c0;clear h;go_enter func301,ntmps301;go_wp2;go_ret;exact⟨rfl,rfl⟩
theorem zabn(h:OwQ w ob g s pb C xs)(K:Nat)(hK:xs.length=K):Calls prog 261 #[.pointer (some ⟨ob,0,none⟩)] w fun e w'=>e=.returned (.int .i64 (K:Int))/\w=w':=by
 have HT:Hid (Calls ..):=zdu h;have c1:=h.c1;obtain⟨N,F,K',ps,hR⟩:=h.rg;obtain rfl:K=K':=hK.symm.trans hR.pl.cnt;have HL:Hid (Calls ..):=glen_any w hR;clear h hR;go_enter func261,ntmps261;go_wp2_with fail
 refine Calls.mono HT.out ?_;rintro e w1⟨rfl,rfl⟩;go_wp2_with fail
 refine Calls.mono HL.out ?_;rintro e w1⟨rfl,rfl⟩;go_wp2;go_ret;exact⟨rfl,rfl⟩
theorem zyi(h:OwQ w ob g s pb C xs)(K:Nat)(hK:C-xs.length=K):Calls prog 292 #[.pointer (some ⟨ob,0,none⟩)] w fun e w'=>e=.returned (.int .i64 (K:Int))/\Fr [] w w':=by
 have HT:Hid (Calls ..):=zdu h;have c1:=h.c1;obtain⟨N,F,K',ps,hR⟩:=h.rg;have HL:Hid (Calls ..):=zda w hR K (by rw[<-hK,hR.pl.cnt];rfl);clear h hR;go_enter func292,ntmps292;go_wp2_with fail
 refine Calls.mono HT.out ?_;rintro e w1⟨rfl,rfl⟩;go_wp2_with fail
 refine Calls.mono HL.out ?_;rintro e w1⟨rfl,hF⟩;go_wp2;go_ret;exact⟨rfl,hF⟩
theorem zafa(h:OwQ w ob g s pb C xs)(x:Rv)(ns:List Int)(hR:RqB w x ns)(hB:¬okR (x.q ns)):Calls prog 296 #[.pointer (some ⟨ob,0,none⟩),x.v] w fun e w'=>e=.returned (.tuple #[.bool false,.int .i64 1])/\Fr [] w w':=by
 have hF0:Fr [] w (w.alloc (.cells #[.int .u8 x.k,.int .i64 x.f,.int .i64 x.n,.string x.wk,.string x.wv,.bool x.wd,.string x.key,.string x.en,.slice x.bo x.bl x.bc] 338)):=Fr.alloc _ _ _;have HT:Hid (Calls ..):=zdu (h.same hF0);have HM:Hid (Calls ..):=zql x ns false _ (hR.keep hF0) ⟨fun e=>(by cases e),fun e=>absurd e hB⟩;have HF0:Hid (Fr _ _ _):=hF0;clear h hR hB hF0;obtain⟨xk,xf,xn,xa,xb,xd,xc,xe,xo,xl,xm⟩:=x;simp only[Rv.v]at HT HM HF0 ⊢;go_enter func296,ntmps296;go_wp2_with fail
 refine Calls.mono HT.out ?_;rintro e w1⟨rfl,rfl⟩;go_wp2_with fail
 refine Calls.mono HM.out ?_;rintro e w1⟨rfl,hF1⟩;go_wp2;go_ret2;exact⟨rfl,HF0.out.then hF1⟩
theorem Ab.few:∀(ns:List Int)(a:Int),0<=a->Ab a ns->(ns.length:Int)<=65536-a\/ns=[]
 | [],_,_,_=>Or.inr rfl
 |n::ns,a,h0,h=>by
  obtain⟨h1,h2,h3⟩:=h;rcases Ab.few ns n (by omega) h3 with h4|h4
  .exact Or.inl (by simp only[List.length_cons];omega)
  subst h4;exact Or.inl (by simp;omega)
theorem okR.few{r:Rq}(h:okR r):r.bs.length<=65536:=by
 obtain⟨_,h2,_,h4⟩:=h;rcases h4 with⟨_,_,h,_⟩|⟨_,_,h,_⟩|⟨_,_,h,_⟩|⟨_,_,_,h⟩|⟨_,_,_,h⟩
 .rw[h];simp
 .rw[h];simp
 .rw[h];simp
 .rw[h];simp
 rcases Ab.few _ _ h2 h with h5|h5
 .omega
 rw[h5];simp
theorem zed{w:World}{g C:Nat}{pb:Option Nat}{xs:List Rv}{cl:Bool}(h:Rg w g pb C xs cl){j:Nat}{cur:Array Value}{t:TypeId}{fr:Nat×Nat}(hj:w.heap[j]? = some (.cells cur t fr))(h1:t≠362)(h2:t≠338):j∉Rg.own g pb:=by
 obtain⟨N,F,K,ps,hR⟩:=h;simp only[Rg.own,List.mem_cons,Option.mem_toList,not_or];refine⟨fun e=> ?_,fun e=> ?_⟩
 .subst e;have:=hR.box;rw[hj]at this
  simp only[Option.some.injEq,Obj.cells.injEq]at this;exact h1 this.2.1
 have:=hR.row j e;rw[hj]at this
 simp only[Option.some.injEq,Obj.cells.injEq]at this;exact h2 this.2.1
def Nb(w:World)(n:Nat)(ro:Option Addr):Prop:=∀a,ro=some a->n<=a.block/\∃cur,w.heap[a.block]? = some (.cells cur 3 (0,0))
theorem zabo(h:OwQ w ob g s pb C xs)(x:Rv)(ns:List Int)(hR:RqB w x ns)(hB:okR (x.q ns)):Calls prog 296 #[.pointer (some ⟨ob,0,none⟩),x.v] w fun e w'=>
  (xs.length=C/\e=.returned (.tuple #[.bool false,.int .i64 0])/\Fr [] w w') \/
  (xs.length<C/\e=.returned (.tuple #[.bool true,.int .i64 0])/\∃ro rc pb',OwQ w' ob g s pb' C (xs++[⟨x.k,x.f,x.n,x.wk,x.wv,x.wd,x.key,x.en,ro,x.bl,rc⟩])/\IRs w' ro ns/\Nb w' w.heap.size ro/\Fr (Rg.own g pb) w w'/\Mv w.heap.size pb pb'):=by
 have hfew:x.bl<=131072:=by have:=hB.few;have:=hR.len;simp only[Rv.q]at *;omega
 obtain⟨xk,xf,xn,xa,xb,xd,xc,xe,xo,xl,xm⟩:=x;simp only[Rv.v]at hfew ⊢;obtain⟨wz,HWz⟩:∃wz,Hid (w.alloc (.cells #[.int .u8 xk,.int .i64 xf,.int .i64 xn,.string xa,.string xb,.bool xd,.string xc,.string xe,.slice xo xl xm] 338)=wz):=⟨_,rfl⟩;have hF0:Fr [] w wz:=by rw[<-HWz.out];exact Fr.alloc [] w _
 have hrow:wz.heap[w.heap.size]? = some (.cells #[.int .u8 xk,.int .i64 xf,.int .i64 xn,.string xa,.string xb,.bool xd,.string xc,.string xe,.slice xo xl xm] 338 (0,0)):=by rw[<-HWz.out];exact heap_alloc_new w _
 obtain⟨Z,HZ⟩:∃Z,Hid (w.heap.size=Z):=⟨_,rfl⟩;rw[HZ.out]at hrow
 have HT:Hid (Calls ..):=zdu (h.same hF0);have HM:Hid (Calls prog 305 #[.agg #[.int .u8 xk,.int .i64 xf,.int .i64 xn,.string xa,.string xb,.bool xd,.string xc,.string xe,.slice xo xl xm]] wz fun e w'=>e=.returned (.bool true)/\Fr [] wz w'):=zql ⟨xk,xf,xn,xa,xb,xd,xc,xe,xo,xl,xm⟩ ns true _ (hR.keep hF0) ⟨fun _=>hB,fun _=>rfl⟩;have HC:Hid (∀W,Fr [] wz W->Calls prog 306 #[.slice xo xl xm] W fun e w'=>∃ro rc,e=.returned (.slice ro xl rc)/\IRs w' ro ns/\(∀a,ro=some a->W.heap.size<=a.block/\∃cur,w'.heap[a.block]? = some (.cells cur 3 (0,0)))/\Fr [] W w'):=fun W hf=>zvu xo xl xm ns W (hR.is.keep (hF0.then hf)) hR.len hfew;have HQ:Hid (OwQ wz ob g s pb C xs):=h.same hF0;have HF0:Hid (Fr [] w wz):=hF0;have HR0:Hid (wz.heap[Z]? = _):=hrow;have HZw:Hid (w.heap.size=Z):=HZ.out;have hoz:ob≠Z:=by have:=h.lt;rw[<-HZ.out];omega
 have hzo:Z≠ob:=fun e=>hoz e.symm;have HGz:Hid (g≠Z/\∀b,pb=some b->b≠Z):=⟨by have:=h.rg.lt;rw[<-HZ.out];omega,fun b e=>by have:=h.rg.plt e;rw[<-HZ.out];omega⟩;have HZs:Hid (Z<wz.heap.size):=lt_of_block hrow;clear h hR hB hF0 hrow;go_enter func296,ntmps296;go_wp2_with fail
 rw[HWz.out];refine Calls.mono HT.out ?_;rintro e w1⟨rfl,rfl⟩;go_upto_region 3 with fail
 rw[HZ.out];have zz:=RvAt.ofRow (x:=⟨xk,xf,xn,xa,xb,xd,xc,xe,xo,xl,xm⟩) HR0.out;obtain⟨z0,z1,z2,z3,z4,z5,z6,z7,z8⟩:=zz;simp only[Nat.zero_add]at z0 z1 z2 z3 z4 z5 z6 z7 z8;go_wp2_with fail
 refine Calls.mono HM.out ?_;rintro e w1⟨rfl,hF1⟩;clear z0 z1 z2 z3 z4 z5 z6 z7 z8 HM HT;have hr1:=hF1.keep HR0.out (by simp);have zz:=RvAt.ofRow (x:=⟨xk,xf,xn,xa,xb,xd,xc,xe,xo,xl,xm⟩) hr1;have z8:=zz.c8;simp only[Nat.zero_add]at z8;go_wp2_with fail
 refine Calls.mono (HC.out _ hF1) ?_;rintro e w2⟨ro,rc,rfl,hI2,hn2,hF2⟩;have hr2:=hF2.keep hr1 (by simp);have y8:w2.cell? ⟨Z,8,none⟩=some (.slice xo xl xm):=by rw[crw hr2];rfl
 have f8:w2.frozen? ⟨Z,8,none⟩=false:=by simp[World.frozen?,hr2]
 have hr3:(w2.setCell ⟨Z,8,none⟩ (.slice ro xl rc)).heap[Z]? = some (.cells #[.int .u8 xk,.int .i64 xf,.int .i64 xn,.string xa,.string xb,.bool xd,.string xc,.string xe,.slice ro xl rc] 338 (0,0)):=by rw[zaa _ hr2];rfl
 have hf3:Fr [Z] w2 (w2.setCell ⟨Z,8,none⟩ (.slice ro xl rc)):=Fr.set _ _ _ (by simp);have HR3:=(show Hid _ from And.intro hr3 hf3);have HSz:Hid (wz.heap.size<=w1.heap.size):=hF1.size;have HI2:Hid (IRs w2 ro ns/\Nb w2 w1.heap.size ro/\Fr [] wz w2):=⟨hI2,hn2,hF1.then hF2⟩;clear hr1 zz z8 hr2 hr3 hf3 hI2 hn2 HC hF2 hF1;go_upto_region 6 with fail
 generalize World.setCell _ _ _=w3 at HR3 ⊢;have hQ3:OwQ w3 ob g s pb C xs:=(HQ.out.same HI2.out.2.2).keep HR3.out.2 (by simp;exact hoz) (by simp;exact HGz.out.1) (by intro b e;simp;exact HGz.out.2 b e);have HQ3:=(show Hid _ from hQ3);have HI3:Hid (IRs w3 ro ns/\Nb w3 w.heap.size ro/\Fr [] w w3):=by
  obtain⟨i1,i2,i3⟩:=HI2.out;have hnz:∀a,ro=some a->a.block≠Z:=fun a e=>by have:=(i2 a e).1;have:=HZs.out;have:=HSz.out;omega
  refine⟨i1.keepS HR3.out.2 (fun _ a e=>by simp;exact hnz a e),fun a e=> ?_,(HF0.out.then i3).on HR3.out.2 (by intro y hy;simp at hy;have:=HZw.out;omega)⟩;obtain⟨j1,cur,j2⟩:=i2 a e;exact⟨by have:=HF0.out.size;have:=HSz.out;omega,cur,HR3.out.2.keep j2 (by simp;exact hnz a e)⟩
 have HS:Hid (∀S W,Fr S w3 W->ob∉S->Z∉S->(W.cell? ⟨ob,1,none⟩=some (.pointer (some ⟨g,0,none⟩))/\W.cell? ⟨Z,0,none⟩=some (.int .u8 xk)/\W.cell? ⟨Z,1,none⟩=some (.int .i64 xf)/\W.cell? ⟨Z,2,none⟩=some (.int .i64 xn)/\W.cell? ⟨Z,3,none⟩=some (.string xa)/\W.cell? ⟨Z,4,none⟩=some (.string xb)/\W.cell? ⟨Z,5,none⟩=some (.bool xd)/\W.cell? ⟨Z,6,none⟩=some (.string xc)/\W.cell? ⟨Z,7,none⟩=some (.string xe)/\W.cell? ⟨Z,8,none⟩=some (.slice ro xl rc))):=fun S W hf ho hz=>by
  have h1:=hf.keep hQ3.box ho;have hz:=RvAt.ofRow (x:=⟨xk,xf,xn,xa,xb,xd,xc,xe,ro,xl,rc⟩) (hf.keep HR3.out.1 hz);exact⟨by rw[crw h1];rfl,hz.c0,hz.c1,hz.c2,hz.c3,hz.c4,hz.c5,hz.c6,hz.c7,hz.c8⟩
 obtain⟨c1,z0,z1,z2,z3,z4,z5,z6,z7,z8⟩:=HS.out [] w3 (Fr.refl _ _) (by simp) (by simp);clear hQ3 HQ HI2 HR0;by_cases hful:xs.length=C
 .have HP:Hid (∀W,Fr [] w3 W->Calls prog 307 #[.pointer (some ⟨g,0,none⟩),.agg #[.int .u8 xk,.int .i64 xf,.int .i64 xn,.string xa,.string xb,.bool xd,.string xc,.string xe,.slice ro xl rc]] W fun e w'=>e=.returned (.bool false)/\Fr [] W w'):=fun W hf=>by
   obtain⟨N,F,K,ps,hRg⟩:=(HQ3.out.same hf).rg;exact zye ⟨xk,xf,xn,xa,xb,xd,xc,xe,ro,xl,rc⟩ W hRg (Or.inr (by rw[<-hRg.pl.cnt];exact hful))
  go_region_held3 (fun W=>W.cell? ⟨ob,1,none⟩=some (.pointer (some ⟨g,0,none⟩))/\W.cell? ⟨Z,0,none⟩=some (.int .u8 xk)/\W.cell? ⟨Z,1,none⟩=some (.int .i64 xf)/\W.cell? ⟨Z,2,none⟩=some (.int .i64 xn)/\W.cell? ⟨Z,3,none⟩=some (.string xa)/\W.cell? ⟨Z,4,none⟩=some (.string xb)/\W.cell? ⟨Z,5,none⟩=some (.bool xd)/\W.cell? ⟨Z,6,none⟩=some (.string xc)/\W.cell? ⟨Z,7,none⟩=some (.string xe)/\W.cell? ⟨Z,8,none⟩=some (.slice ro xl rc)) (go_keep)
   (first
    |(with_reducible refine Calls.mono (HP.out _ (Fr.drew _ _)) ?_;rintro e w4⟨rfl,hF4⟩;have hF4':=(Fr.drew [] w3).then hF4;obtain⟨d1,y0,y1,y2,y3,y4,y5,y6,y7,y8⟩:=HS.out [] w4 hF4' (by simp) (by simp)))
  go_wp2;go_ret2;exact Or.inl ⟨hful,rfl,HI3.out.2.2.then hF4'⟩
 have hlt:xs.length<C:=by have:=HQ3.out.rg.few;omega
 have HP:Hid (∀W,Fr [] w3 W->Calls prog 307 #[.pointer (some ⟨g,0,none⟩),.agg #[.int .u8 xk,.int .i64 xf,.int .i64 xn,.string xa,.string xb,.bool xd,.string xc,.string xe,.slice ro xl rc]] W fun e w'=>e=.returned (.bool true)/\∃pb',Rg w' g pb' C (xs++[⟨xk,xf,xn,xa,xb,xd,xc,xe,ro,xl,rc⟩]) false/\Fr (Rg.own g pb) W w'/\Mv W.heap.size pb pb'):=fun W hf=>gput_any ⟨xk,xf,xn,xa,xb,xd,xc,xe,ro,xl,rc⟩ W (HQ3.out.same hf).rg hlt;have HNz:Hid (Z∉Rg.own g pb/\ob∉Rg.own g pb):=by
  refine⟨?_,HQ3.out.no⟩;simp only[Rg.own,List.mem_cons,Option.mem_toList,not_or];exact⟨fun e=>HGz.out.1 e.symm,fun e=>HGz.out.2 Z e rfl⟩
 go_region_held3 (fun W=>W.cell? ⟨ob,1,none⟩=some (.pointer (some ⟨g,0,none⟩))/\W.cell? ⟨Z,0,none⟩=some (.int .u8 xk)/\W.cell? ⟨Z,1,none⟩=some (.int .i64 xf)/\W.cell? ⟨Z,2,none⟩=some (.int .i64 xn)/\W.cell? ⟨Z,3,none⟩=some (.string xa)/\W.cell? ⟨Z,4,none⟩=some (.string xb)/\W.cell? ⟨Z,5,none⟩=some (.bool xd)/\W.cell? ⟨Z,6,none⟩=some (.string xc)/\W.cell? ⟨Z,7,none⟩=some (.string xe)/\W.cell? ⟨Z,8,none⟩=some (.slice ro xl rc)) (go_keep)
  (first
   |(with_reducible refine Calls.mono (HP.out _ (Fr.drew _ _)) ?_;rintro e w4⟨rfl,pb',hR4,hF4,hM4⟩;have hF4':=((Fr.drew [] w3).mono (by simp)).then hF4;obtain⟨d1,y0,y1,y2,y3,y4,y5,y6,y7,y8⟩:=HS.out _ w4 hF4' HNz.out.2 HNz.out.1))
 go_wp2;go_ret2;refine Or.inr ⟨hlt,rfl,ro,rc,pb',⟨hF4'.keep HQ3.out.box HNz.out.2,hR4⟩,?_,?_,?_,?_⟩
 .refine HI3.out.1.keepS hF4' (fun _ a e hm=> ?_);obtain⟨_,cur,hcur⟩:=HI3.out.2.1 a e;exact zed HQ3.out.rg hcur (by decide) (by decide) hm
 .intro a e;obtain⟨j1,cur,hcur⟩:=HI3.out.2.1 a e;exact⟨j1,cur,hF4'.keep hcur (zed HQ3.out.rg hcur (by decide) (by decide))⟩
 .exact (HI3.out.2.2.mono (by simp)).then hF4'
 rcases hM4 with rfl|⟨k,rfl,hk⟩
 .exact Or.inl rfl
 exact Or.inr ⟨k,rfl,by have:=HI3.out.2.2.size;have:w3.heap.size<=k:=hk;omega⟩
end
theorem zakm(Q:Nat)(W:World):(Instr.index 436 (.agg #[.nilFunc,.func (Fn.func 329) #[] #[.pointer (some ⟨Q,0,none⟩)],.func (Fn.func 331) #[] #[.pointer (some ⟨Q,0,none⟩)],.func (Fn.func 333) #[] #[.pointer (some ⟨Q,0,none⟩)],.func (Fn.func 335) #[] #[.pointer (some ⟨Q,0,none⟩)],.func (Fn.func 337) #[] #[.pointer (some ⟨Q,0,none⟩)]]) (.int .u8 1)).run prog W=.ok (.func (Fn.func 329) #[] #[.pointer (some ⟨Q,0,none⟩)]) W:=by kernel_rfl
section
variable{w:World}{ob g C:Nat}{s:Addr}{pb:Option Nat}{xs:List Rv}
theorem keepS{w W w6:World}{ob Z4:Nat}{v:Value}{v0 v1 v2 v3 v4 v5 v6 v7 v8:Value}(hn:∀j,w.heap.size<=j->j<W.heap.size->w6.heap[j]? = W.heap[j]?)(ho:w6.heap[ob]? = W.heap[ob]?)(h1:w.heap.size<=Z4)(h2:Z4<W.heap.size)(d0:W.cell? ⟨ob,0,none⟩=some v)(y0:W.cell? ⟨Z4,0,none⟩=some v0)(y1:W.cell? ⟨Z4,1,none⟩=some v1)(y2:W.cell? ⟨Z4,2,none⟩=some v2)(y3:W.cell? ⟨Z4,3,none⟩=some v3)(y4:W.cell? ⟨Z4,4,none⟩=some v4)(y5:W.cell? ⟨Z4,5,none⟩=some v5)(y6:W.cell? ⟨Z4,6,none⟩=some v6)(y7:W.cell? ⟨Z4,7,none⟩=some v7)(y8:W.cell? ⟨Z4,8,none⟩=some v8) :
  w6.cell? ⟨ob,0,none⟩=some v/\w6.cell? ⟨Z4,0,none⟩=some v0/\w6.cell? ⟨Z4,1,none⟩=some v1/\w6.cell? ⟨Z4,2,none⟩=some v2/\w6.cell? ⟨Z4,3,none⟩=some v3/\w6.cell? ⟨Z4,4,none⟩=some v4/\w6.cell? ⟨Z4,5,none⟩=some v5/\w6.cell? ⟨Z4,6,none⟩=some v6/\w6.cell? ⟨Z4,7,none⟩=some v7/\w6.cell? ⟨Z4,8,none⟩=some v8:=by
 have hb:=hn Z4 h1 h2;exact⟨(World.cell?_of_block ho).trans d0,(World.cell?_of_block hb).trans y0,(World.cell?_of_block hb).trans y1,(World.cell?_of_block hb).trans y2,(World.cell?_of_block hb).trans y3,(World.cell?_of_block hb).trans y4,(World.cell?_of_block hb).trans y5,(World.cell?_of_block hb).trans y6,(World.cell?_of_block hb).trans y7,(World.cell?_of_block hb).trans y8⟩
theorem zns{W:World}{b:Nat}{t:TypeId}{u0 u1 u2 u3 u4:Value}(v0 v1 v2 v3 v4:Value)(h:W.heap[b]? = some (.cells #[u0,u1,u2,u3,u4] t (0,0))):(((((W.setCell ⟨b,0,none⟩ v0).setCell ⟨b,1,none⟩ v1).setCell ⟨b,2,none⟩ v2).setCell ⟨b,3,none⟩ v3).setCell ⟨b,4,none⟩ v4).heap[b]? = some (.cells #[v0,v1,v2,v3,v4] t (0,0))/\Fr [b] W (((((W.setCell ⟨b,0,none⟩ v0).setCell ⟨b,1,none⟩ v1).setCell ⟨b,2,none⟩ v2).setCell ⟨b,3,none⟩ v3).setCell ⟨b,4,none⟩ v4):=by
 obtain⟨h1,h2⟩:=zbq [v0,v1,v2,v3,v4] 0 W _ h (by simp);exact⟨h1.trans (by simp[splice]),h2⟩
theorem zmp{w w2 Wc w6:World}{Z4:Nat}{A B:Obj}(hFc:Fr [] w2 Wc)(hn6:∀j,w.heap.size<=j->j<Wc.heap.size->w6.heap[j]? = Wc.heap[j]?)(hZ4:w.heap.size<=Z4)(r4:w2.heap[Z4]? = some A)(rz:w2.heap[w.heap.size]? = some B):w6.heap[Z4]? = some A/\w6.heap[w.heap.size]? = some B:=by
 have lt:∀j (o:Obj),w2.heap[j]? = some o->j<w2.heap.size:=fun j o h=>by
  rcases Nat.lt_or_ge j w2.heap.size with h1|h1
  .exact h1
  rw[Array.getElem?_eq_none h1]at h;cases h
 have hs:=hFc.size;have a:=lt _ _ r4;have b:=lt _ _ rz;exact⟨(hn6 _ hZ4 (by omega)).trans ((hFc.block _ a (by simp)).trans r4),(hn6 _ (Nat.le_refl _) (by omega)).trans ((hFc.block _ b (by simp)).trans rz)⟩
theorem zln{w W w6:World}{T:Nat}(hn:∀j,w.heap.size<=j->j<W.heap.size->w6.heap[j]? = W.heap[j]?)(h1:w.heap.size<=T)(h2:W.heap[T]? = some (.cells #[.int .i64 0,.bool false,.slice none 0 0,.slice none 0 0,.int .i64 0] 429 (0,0))) :
  Hid (w6.heap[T]? = some (.cells #[.int .i64 0,.bool false,.slice none 0 0,.slice none 0 0,.int .i64 0] 429 (0,0)))/\w6.cell? ⟨T,0,none⟩=some (.int .i64 0)/\w6.cell? ⟨T,1,none⟩=some (.bool false)/\w6.cell? ⟨T,2,none⟩=some (.slice none 0 0)/\w6.cell? ⟨T,3,none⟩=some (.slice none 0 0)/\w6.cell? ⟨T,4,none⟩=some (.int .i64 0)/\∀j,w6.frozen? ⟨T,j,none⟩=false:=by
 have hr:=(hn T h1 (lt_of_block h2)).trans h2;refine⟨hr,?_,?_,?_,?_,?_,fun j=>by simp[World.frozen?,hr]⟩<;>(rw[crw hr];rfl)
end
section
variable{w:World}{ob g C:Nat}{s:Addr}{pb:Option Nat}{xs:List Rv}
theorem zabp{xf xn:Int}{xa xb:ByteArray}{xd:Bool}{xc xe:ByteArray}{xo:Option Addr}{xl xm:Nat}(h:OwQ w ob g s pb C (⟨1,xf,xn,xa,xb,xd,xc,xe,xo,xl,xm⟩::xs))(Pd:Bool->Option Addr->Nat->Nat->Option Addr->Nat->Nat->Int->World->World->Prop)(hD:∀W Q,Fr (Rg.own g pb) w W->w.heap.size<W.heap.size->OwQ W ob g s pb C xs->W.cell? ⟨Q,0,none⟩=some (.pointer (some s))->Calls prog 329 #[.agg #[.int .u8 1,.int .i64 xf,.int .i64 xn,.string xa,.string xb,.bool xd,.string xc,.string xe,.slice xo xl xm],.pointer (some ⟨Q,0,none⟩)] W fun e w'=>∃ok eo el ec ho hl hc c,e=.returned (.agg #[.int .i64 0,.bool ok,.slice eo el ec,.slice ho hl hc,.int .i64 c])/\Pd ok eo el ec ho hl hc c W w'/\W.heap.size<=w'.heap.size/\(∀j,w.heap.size<=j->j<W.heap.size->w'.heap[j]? = W.heap[j]?)/\w'.heap[ob]? = W.heap[ob]?) :
  Calls prog 324 #[.pointer (some ⟨ob,0,none⟩)] w fun e w2=>∃ok eo el ec ho hl hc c W w',e=.returned (.tuple #[.agg #[.int .i64 xf,.bool ok,.slice eo el ec,.slice ho hl hc,.int .i64 c],.int .i64 0])/\Fr (Rg.own g pb) w W/\w.heap.size<W.heap.size/\OwQ W ob g s pb C xs/\Pd ok eo el ec ho hl hc c W w'/\W.heap.size<=w'.heap.size/\∃T,Fr T w' w2/\∀j∈T,w.heap.size<=j/\j<W.heap.size:=by
 obtain⟨wz,HWz⟩:∃wz,Hid (w.alloc (.cells #[.int .i64 0,.bool false,.slice none 0 0,.slice none 0 0,.int .i64 0] 429)=wz):=⟨_,rfl⟩;have hF0:Fr [] w wz:=by rw[<-HWz.out];exact Fr.alloc [] w _
 have hrow:wz.heap[w.heap.size]? = some (.cells #[.int .i64 0,.bool false,.slice none 0 0,.slice none 0 0,.int .i64 0] 429 (0,0)):=by rw[<-HWz.out];exact heap_alloc_new w _
 obtain⟨Z,HZ⟩:∃Z,Hid (w.heap.size=Z):=⟨_,rfl⟩;have HT:Hid (Calls ..):=zdu (h.same hF0);have HK:Hid (Calls ..):=gtake_any ⟨1,xf,xn,xa,xb,xd,xc,xe,xo,xl,xm⟩ wz (h.same hF0).rg;have c1:=(h.same hF0).c1;have HF0:Hid (Fr [] w wz):=hF0;have HZs:Hid (w.heap.size<wz.heap.size):=lt_of_block hrow;have HB:Hid (∀W,Fr (Rg.own g pb) wz W->Rg W g pb C xs false->OwQ W ob g s pb C xs):=fun W hf hr=>⟨hf.keep (h.same hF0).box h.no,hr⟩;have HR0:Hid (∀W,Fr (Rg.own g pb) wz W->W.heap[w.heap.size]? = some (.cells #[.int .i64 0,.bool false,.slice none 0 0,.slice none 0 0,.int .i64 0] 429 (0,0))):=fun W hf=>hf.keep hrow (zed (h.same hF0).rg hrow (by decide) (by decide));have HD:=(show Hid _ from hD);have HOz:Hid (ob<w.heap.size):=h.lt;rw[HZ.out]at hrow
 clear h hF0 hrow hD;simp only[Rv.v]at HK;go_enter func324,ntmps324;go_wp2_with fail
 rw[HWz.out];refine Calls.mono HT.out ?_;rintro e w1⟨rfl,rfl⟩;go_wp2_with fail
 refine Calls.mono HK.out ?_;rintro e w1⟨rfl,hR1,hF1⟩;have hr4:=heap_alloc_new w1 (.cells #[.int .u8 0,.int .i64 0,.int .i64 0,.string ⟨#[]⟩,.string ⟨#[]⟩,.bool false,.string ⟨#[]⟩,.string ⟨#[]⟩,.slice none 0 0] 338);have hQ1:=HB.out w1 hF1 hR1;clear HT HK c1;go_upto_region 4 with (first
  |(refine zbi rfl 338 (.tmp 4) (.tmp 17) rfl w1.heap.size #[.int .u8 1,.int .i64 xf,.int .i64 xn,.string xa,.string xb,.bool xd,.string xc,.string xe,.slice xo xl xm] rfl rfl 338 _ hr4 (by kernel_rfl) rfl (zgw ⟨1,xf,xn,xa,xb,xd,xc,xe,xo,xl,xm⟩) ?_;intro w2 HR2 hf2;go_frame)
  |fail)
 have hG12:Fr [] w1 w2:=(Fr.alloc [] w1 _).on hf2 (by intro y hy;simp at hy;omega);obtain⟨Z4,HZ4⟩:∃Z4,Hid (w1.heap.size=Z4):=⟨_,rfl⟩;have HG2:Hid (Fr (Rg.own g pb) wz w2):=hF1.then (hG12.mono (by simp));have hQ2:=hQ1.same hG12;have HQ2:=(show Hid _ from hQ2);have HZ4s:Hid (wz.heap.size<=Z4/\Z4<w2.heap.size):=⟨by have:=hF1.size;rw[<-HZ4.out];exact this,by rw[<-HZ4.out];exact lt_of_block HR2.out⟩;rw[HZ4.out]at HR2
 have hoz:ob≠Z4:=by have:=HZ4s.out.1;have:=HOz.out;have:=HZs.out;omega
 have HS:Hid (∀S W,Fr S w2 W->ob∉S->Z4∉S->(W.cell? ⟨ob,0,none⟩=some (.pointer (some s))/\W.cell? ⟨Z4,0,none⟩=some (.int .u8 1)/\W.cell? ⟨Z4,1,none⟩=some (.int .i64 xf)/\W.cell? ⟨Z4,2,none⟩=some (.int .i64 xn)/\W.cell? ⟨Z4,3,none⟩=some (.string xa)/\W.cell? ⟨Z4,4,none⟩=some (.string xb)/\W.cell? ⟨Z4,5,none⟩=some (.bool xd)/\W.cell? ⟨Z4,6,none⟩=some (.string xc)/\W.cell? ⟨Z4,7,none⟩=some (.string xe)/\W.cell? ⟨Z4,8,none⟩=some (.slice xo xl xm))):=fun S W hf ho hz=>by
  have h1:=hf.keep HQ2.out.box ho;have hz:=RvAt.ofRow (x:=⟨1,xf,xn,xa,xb,xd,xc,xe,xo,xl,xm⟩) (hf.keep HR2.out hz);exact⟨by rw[crw h1];rfl,hz.c0,hz.c1,hz.c2,hz.c3,hz.c4,hz.c5,hz.c6,hz.c7,hz.c8⟩
 clear hr4 hQ1 hf2 hG12 hR1 hF1 hQ2;go_upto_region 6 with fail
 rw[HZ4.out];clear HZ4;obtain⟨c0,z0,z1,z2,z3,z4,z5,z6,z7,z8⟩:=HS.out [] w2 (Fr.refl _ _) (by simp) (by simp);obtain⟨HDd⟩:Nonempty (Hid (∀W,Fr [] w2 W->Calls ..)):=⟨fun W hf=>zhv (some s) W⟩;have HZr:=(show Hid _ from HR0.out w2 HG2.out);have hix:∀W Q,(Instr.index 436 (.agg #[.nilFunc,.func (Fn.func 329) #[] #[.pointer (some ⟨Q,0,none⟩)],.func (Fn.func 331) #[] #[.pointer (some ⟨Q,0,none⟩)],.func (Fn.func 333) #[] #[.pointer (some ⟨Q,0,none⟩)],.func (Fn.func 335) #[] #[.pointer (some ⟨Q,0,none⟩)],.func (Fn.func 337) #[] #[.pointer (some ⟨Q,0,none⟩)]]) (.int .u8 1)).run prog W=.ok (.func (Fn.func 329) #[] #[.pointer (some ⟨Q,0,none⟩)]) W:=fun W Q=>zakm Q W;obtain⟨m1,m2,m3,m4⟩:ob≠w2.heap.size/\w2.heap.size≠ob/\Z4≠w2.heap.size/\w2.heap.size≠Z4:=(by have:=HG2.out.size;have:=HZs.out;have:=HOz.out;have:=HZ4s.out.2;omega);go_region_held3 (fun W=>W.cell? ⟨ob,0,none⟩=some (.pointer (some s))/\W.cell? ⟨Z4,0,none⟩=some (.int .u8 1)/\W.cell? ⟨Z4,1,none⟩=some (.int .i64 xf)/\W.cell? ⟨Z4,2,none⟩=some (.int .i64 xn)/\W.cell? ⟨Z4,3,none⟩=some (.string xa)/\W.cell? ⟨Z4,4,none⟩=some (.string xb)/\W.cell? ⟨Z4,5,none⟩=some (.bool xd)/\W.cell? ⟨Z4,6,none⟩=some (.string xc)/\W.cell? ⟨Z4,7,none⟩=some (.string xe)/\W.cell? ⟨Z4,8,none⟩=some (.slice xo xl xm)) (go_keep)
  (first
   |(go_at_call 327;with_reducible refine Calls.mono (zhv (some s) w2.drew) ?_;rintro e w5⟨Q,rfl,hQw,hQr,hF5⟩;have hF5':Fr [] w2 w5:=(Fr.drew [] w2).then hF5;obtain⟨d0,y0,y1,y2,y3,y4,y5,y6,y7,y8⟩:=HS.out [] w5 hF5' (by simp) (by simp))
   |(go_at_call 327;with_reducible refine Calls.mono (zhv (some s) (w2.alloc (.cells #[.int .i64 0,.bool false,.slice none 0 0,.slice none 0 0,.int .i64 0] 429)).drew) ?_;rintro e w5⟨Q,rfl,hQw,hQr,hF5⟩;have hF5':Fr [] w2 w5:=((Fr.alloc [] w2 _).then (Fr.drew [] _)).then hF5;have hT5:w5.heap[w2.heap.size]? = some (.cells #[.int .i64 0,.bool false,.slice none 0 0,.slice none 0 0,.int .i64 0] 429 (0,0)):=hF5.keep ((zcl _ _).trans (heap_alloc_new w2 _)) (by simp);obtain⟨d0,y0,y1,y2,y3,y4,y5,y6,y7,y8⟩:=HS.out [] w5 hF5' (by simp) (by simp))
   |(go_at_call 329;have hT6:=hT5;with_reducible refine Calls.mono (HD.out w5 Q (((HF0.out.mono (by simp)).then HG2.out).then (hF5'.mono (by simp))) (by have h1:=HZs.out;have h2:=HG2.out.size;have h3:=hF5'.size;omega) (HQ2.out.same hF5') (by simp[World.cell?,hQr])) ?_;rintro e w6⟨ok,eo,el,ec,ho,hl,hc,c,rfl,hP6,hs6,hn6,ho6⟩;obtain⟨p0,q0,q1,q2,q3,q4,q5,q6,q7,q8⟩:=keepS hn6 ho6 (by have:=HZ4s.out.1;have:=HZs.out;omega) (by have:=HZ4s.out.2;have h3:=hF5'.size;omega) d0 y0 y1 y2 y3 y4 y5 y6 y7 y8;obtain⟨hrT,t0,t1,t2,t3,t4,tf⟩:=zln hn6 (by have:=HG2.out.size;have:=HZs.out;omega) hT5;obtain⟨n1,n2,n3,n4⟩:ob≠w2.heap.size/\w2.heap.size≠ob/\Z4≠w2.heap.size/\w2.heap.size≠Z4:=(by have:=HG2.out.size;have:=HZs.out;have:=HOz.out;have:=HZ4s.out.2;omega))
   |(go_at_call 329;with_reducible refine Calls.mono (HD.out w5 Q (((HF0.out.mono (by simp)).then HG2.out).then (hF5'.mono (by simp))) (by have h1:=HZs.out;have h2:=HG2.out.size;have h3:=hF5'.size;omega) (HQ2.out.same hF5') (by simp[World.cell?,hQr])) ?_;rintro e w6⟨ok,eo,el,ec,ho,hl,hc,c,rfl,hP6,hs6,hn6,ho6⟩;obtain⟨p0,q0,q1,q2,q3,q4,q5,q6,q7,q8⟩:=keepS hn6 ho6 (by have:=HZ4s.out.1;have:=HZs.out;omega) (by have:=HZ4s.out.2;have h3:=hF5'.size;omega) d0 y0 y1 y2 y3 y4 y5 y6 y7 y8;obtain⟨n1,n2,n3,n4⟩:ob≠w6.heap.size/\w6.heap.size≠ob/\Z4≠w6.heap.size/\w6.heap.size≠Z4:=(by have:=HG2.out.size;have:=HZs.out;have:=HOz.out;have:=HZ4s.out.2;have:=hF5'.size;omega))
   |(go_at_call 329;with_reducible refine Calls.mono (HD.out (w5.alloc (.cells #[.int .i64 0,.bool false,.slice none 0 0,.slice none 0 0,.int .i64 0] 429)) Q ((((HF0.out.mono (by simp)).then HG2.out).then (hF5'.mono (by simp))).then (Fr.alloc _ _ _)) (by have h1:=HZs.out;have h2:=HG2.out.size;have h3:=hF5'.size;simp;omega) (HQ2.out.same (hF5'.then (Fr.alloc [] _ _))) (Lib.cell?_alloc_some _ (by simp[World.cell?,hQr]))) ?_;rintro e w6⟨ok,eo,el,ec,ho,hl,hc,c,rfl,hP6,hs6,hn6,ho6⟩;obtain⟨p0,q0,q1,q2,q3,q4,q5,q6,q7,q8⟩:=keepS hn6 ho6 (by have:=HZ4s.out.1;have:=HZs.out;omega) (by have:=HZ4s.out.2;have h3:=hF5'.size;simp;omega) (Lib.cell?_alloc_some _ d0) (Lib.cell?_alloc_some _ y0) (Lib.cell?_alloc_some _ y1) (Lib.cell?_alloc_some _ y2) (Lib.cell?_alloc_some _ y3) (Lib.cell?_alloc_some _ y4) (Lib.cell?_alloc_some _ y5) (Lib.cell?_alloc_some _ y6) (Lib.cell?_alloc_some _ y7) (Lib.cell?_alloc_some _ y8);obtain⟨hrT,t0,t1,t2,t3,t4,tf⟩:=zln hn6 (by have h1:=HZs.out;have h2:=HG2.out.size;have h3:=hF5'.size;omega) (heap_alloc_new w5 _);obtain⟨n1,n2,n3,n4⟩:ob≠w5.heap.size/\w5.heap.size≠ob/\Z4≠w5.heap.size/\w5.heap.size≠Z4:=(by have:=HG2.out.size;have:=HZs.out;have:=HOz.out;have:=HZ4s.out.2;have:=hF5'.size;omega)))
 all_goals (first
  |(
   have k:=zns (.int .i64 0) (.bool ok) (.slice eo el ec) (.slice ho hl hc) (.int .i64 c) (b:=w5.heap.size) hrT.out;obtain⟨T6,HT6⟩:∃T6,Hid (w5.heap.size=T6):=⟨_,rfl⟩;obtain⟨r4,rz⟩:=zmp (hF5'.then (Fr.alloc [] _ _)) hn6 (by have:=HZ4s.out.1;have:=HZs.out;omega) HR2.out HZr.out;have H7:Hid (∃T Wc,(Fr (Rg.own g pb) w Wc/\w.heap.size<Wc.heap.size/\OwQ Wc ob g s pb C xs/\Pd ok eo el ec ho hl hc c Wc w6/\Wc.heap.size<=w6.heap.size)/\Fr T w6 _/\(∀j∈T,w.heap.size<=j/\j<Wc.heap.size)/\(T6<Wc.heap.size\/w6.heap.size<=T6)):=⟨[w5.heap.size],w5.alloc (.cells #[.int .i64 0,.bool false,.slice none 0 0,.slice none 0 0,.int .i64 0] 429),⟨((((HF0.out.mono (by simp)).then HG2.out).then (hF5'.mono (by simp))).then (Fr.alloc _ _ _)),(by have h1:=HZs.out;have h2:=HG2.out.size;have h3:=hF5'.size;simp;omega),(HQ2.out.same (hF5'.then (Fr.alloc [] _ _))),hP6,hs6⟩,k.2,by intro j hj;simp at hj;subst hj;have h1:=HZs.out;have h2:=HG2.out.size;have h3:=hF5'.size;simp;omega,Or.inl (by rw[<-HT6.out];simp)⟩;have R7:Hid (_/\_/\_):=⟨k.1,k.2.keep r4 (by simp;exact n3),k.2.keep rz (by simp;have h1:=HZs.out;have h2:=HG2.out.size;have h3:=hF5'.size;omega)⟩;have N7:Hid (Z4≠w5.heap.size/\w.heap.size≠w5.heap.size/\w.heap.size<=w5.heap.size):=⟨n3,by have h1:=HZs.out;have h2:=HG2.out.size;have h3:=hF5'.size;omega,by have h1:=HZs.out;have h2:=HG2.out.size;have h3:=hF5'.size;omega⟩;clear k r4 rz c0 z0 z1 z2 z3 z4 z5 z6 z7 z8 d0 y0 y1 y2 y3 y4 y5 y6 y7 y8 p0 q0 q1 q2 q3 q4 q5 q6 q7 q8 t0 t1 t2 t3 t4 tf;generalize World.setCell _ _ _=w7 at H7 R7 ⊢;rw[HT6.out]at R7 N7 ⊢)
  |(
   have k:=zns (.int .i64 0) (.bool ok) (.slice eo el ec) (.slice ho hl hc) (.int .i64 c) (b:=w2.heap.size) hrT.out;obtain⟨T6,HT6⟩:∃T6,Hid (w2.heap.size=T6):=⟨_,rfl⟩;obtain⟨r4,rz⟩:=zmp hF5' hn6 (by have:=HZ4s.out.1;have:=HZs.out;omega) HR2.out HZr.out;have H7:Hid (∃T Wc,(Fr (Rg.own g pb) w Wc/\w.heap.size<Wc.heap.size/\OwQ Wc ob g s pb C xs/\Pd ok eo el ec ho hl hc c Wc w6/\Wc.heap.size<=w6.heap.size)/\Fr T w6 _/\(∀j∈T,w.heap.size<=j/\j<Wc.heap.size)/\(T6<Wc.heap.size\/w6.heap.size<=T6)):=⟨[w2.heap.size],w5,⟨((HF0.out.mono (by simp)).then HG2.out).then (hF5'.mono (by simp)),(by have h1:=HZs.out;have h2:=HG2.out.size;have h3:=hF5'.size;omega),(HQ2.out.same hF5'),hP6,hs6⟩,k.2,by intro j hj;simp at hj;subst hj;have h1:=HZs.out;have h2:=HG2.out.size;have h3:=lt_of_block hT5;omega,Or.inl (by rw[<-HT6.out];exact lt_of_block hT5)⟩;have R7:Hid (_/\_/\_):=⟨k.1,k.2.keep r4 (by simp;exact n3),k.2.keep rz (by simp;have h1:=HZs.out;have h2:=HG2.out.size;have h3:=hF5'.size;omega)⟩;have N7:Hid (Z4≠w2.heap.size/\w.heap.size≠w2.heap.size/\w.heap.size<=w2.heap.size):=⟨n3,by have h1:=HZs.out;have h2:=HG2.out.size;have h3:=hF5'.size;omega,by have h1:=HZs.out;have h2:=HG2.out.size;have h3:=hF5'.size;omega⟩;clear k r4 rz c0 z0 z1 z2 z3 z4 z5 z6 z7 z8 d0 y0 y1 y2 y3 y4 y5 y6 y7 y8 p0 q0 q1 q2 q3 q4 q5 q6 q7 q8 t0 t1 t2 t3 t4 tf;generalize World.setCell _ _ _=w7 at H7 R7 ⊢;rw[HT6.out]at R7 N7 ⊢)
  |(
   have k1:=heap_alloc_new w6 (.cells #[.int .i64 0,.bool ok,.slice eo el ec,.slice ho hl hc,.int .i64 c] 429);obtain⟨T6,HT6⟩:∃T6,Hid (w6.heap.size=T6):=⟨_,rfl⟩;have k2:=Fr.alloc [] w6 (.cells #[.int .i64 0,.bool ok,.slice eo el ec,.slice ho hl hc,.int .i64 c] 429);obtain⟨r4,rz⟩:=zmp hF5' hn6 (by have:=HZ4s.out.1;have:=HZs.out;omega) HR2.out HZr.out;have H7:Hid (∃T Wc,(Fr (Rg.own g pb) w Wc/\w.heap.size<Wc.heap.size/\OwQ Wc ob g s pb C xs/\Pd ok eo el ec ho hl hc c Wc w6/\Wc.heap.size<=w6.heap.size)/\Fr T w6 _/\(∀j∈T,w.heap.size<=j/\j<Wc.heap.size)/\(T6<Wc.heap.size\/w6.heap.size<=T6)):=⟨[],w5,⟨((HF0.out.mono (by simp)).then HG2.out).then (hF5'.mono (by simp)),(by have h1:=HZs.out;have h2:=HG2.out.size;have h3:=hF5'.size;omega),(HQ2.out.same hF5'),hP6,hs6⟩,k2,by simp,Or.inr (by rw[<-HT6.out];exact Nat.le_refl _)⟩;have R7:Hid (_/\_/\_):=⟨k1,k2.keep r4 (by simp),k2.keep rz (by simp)⟩;have N7:Hid (Z4≠w6.heap.size/\w.heap.size≠w6.heap.size/\w.heap.size<=w6.heap.size):=⟨n3,by have h1:=HZs.out;have h2:=HG2.out.size;have h3:=hF5'.size;omega,by have h1:=HZs.out;have h2:=HG2.out.size;have h3:=hF5'.size;omega⟩;clear k1 k2 r4 rz c0 z0 z1 z2 z3 z4 z5 z6 z7 z8 d0 y0 y1 y2 y3 y4 y5 y6 y7 y8 p0 q0 q1 q2 q3 q4 q5 q6 q7 q8;generalize World.alloc _ _=w7 at H7 R7 ⊢;rw[HT6.out]at R7 N7 ⊢))
 all_goals (
  have hN7:=N7.out.1;have hN8:T6≠Z4:=fun e=>hN7 e.symm;have a1:w7.cell? ⟨Z4,1,none⟩=some (.int .i64 xf):=by rw[crw R7.out.2.1];rfl
  have a2:w7.cell? ⟨T6,0,none⟩=some (.int .i64 0):=by rw[crw R7.out.1];rfl
  have a3:w7.frozen? ⟨T6,0,none⟩=false:=by simp[World.frozen?,R7.out.1]
  have r8:=zaa (j:=0) (.int .i64 xf) R7.out.1;have f8:Fr [T6] w7 (w7.setCell ⟨T6,0,none⟩ (.int .i64 xf)):=Fr.set _ _ _ (by simp);have rz:=f8.keep R7.out.2.2 (by simp;exact N7.out.2.1);have R8:=(show Hid (_/\_/\_) from ⟨r8,f8,rz⟩);clear r8 f8 rz;go_upto_region 8 with fail
  generalize World.setCell _ _ _=w8 at R8 ⊢;have b0:w8.cell? ⟨T6,0,none⟩=some (.int .i64 xf):=by rw[crw R8.out.1];rfl
  have b1:w8.cell? ⟨T6,1,none⟩=some (.bool ok):=by rw[crw R8.out.1];rfl
  have b2:w8.cell? ⟨T6,2,none⟩=some (.slice eo el ec):=by rw[crw R8.out.1];rfl
  have b3:w8.cell? ⟨T6,3,none⟩=some (.slice ho hl hc):=by rw[crw R8.out.1];rfl
  have b4:w8.cell? ⟨T6,4,none⟩=some (.int .i64 c):=by rw[crw R8.out.1];rfl
  clear a1 a2 a3;go_wp2_with (first
   |(refine zbi rfl 429 (.tmp 2) (.tmp 35) rfl w.heap.size #[.int .i64 xf,.bool ok,.slice eo el ec,.slice ho hl hc,.int .i64 c] rfl rfl 429 _ R8.out.2.2 (by kernel_rfl) rfl (zyg _ _ _ _ _ _ _ _ _) ?_;intro w9 HR9 hf9;go_frame)
   |fail)
  refine bodyPost_ret (zbx rfl _ _ _ _ _ rfl (znr HR9.out)) rfl ?_;obtain⟨T,Wc,⟨g1,g2,g3,g4,g5⟩,g6,g7,g8⟩:=H7.out;have g9:Fr [w.heap.size,T6] w7 w9:=(R8.out.2.1.mono (by intro y hy _;simp at hy ⊢;exact Or.inr hy)).then (hf9.mono (by intro y hy _;simp at hy ⊢;exact Or.inl hy));refine⟨ok,eo,el,ec,ho,hl,hc,c,Wc,w6,rfl,g1,g2,g3,g4,g5,?_⟩;rcases g8 with g8|g8
  .refine⟨w.heap.size::T6::T,(g6.mono (by intro y hy _;simp;exact Or.inr (Or.inr hy))).then (g9.mono (by intro y hy _;simp at hy ⊢;rcases hy with hy|hy<;>simp[hy])),fun j hj=> ?_⟩;simp only[List.mem_cons]at hj;rcases hj with rfl|rfl|hj
   .exact⟨Nat.le_refl _,g2⟩
   .exact⟨N7.out.2.2,g8⟩
   exact g7 j hj
  refine⟨w.heap.size::T,g6.trans g9 (by intro y hy _;simp;exact Or.inr hy) (by intro y hy hl;simp at hy ⊢;rcases hy with hy|hy<;>first|exact Or.inl hy|omega),fun j hj=> ?_⟩;simp only[List.mem_cons]at hj;rcases hj with rfl|hj
  .exact⟨Nat.le_refl _,g2⟩
  exact g7 j hj)
end
end O
namespace O
open Go.ChangeShapes Go.WideShapes Go.ChangeAt Go.RowKit Go.Lib Go.Maps Go.Proofs.Tryz
theorem zjs{w:World}{g C:Nat}{pb:Option Nat}{xs:List Rv}{cl:Bool}(h:Rg w g pb C xs cl){j:Nat}(hj:j∈Rg.own g pb):∃cur t,w.heap[j]? = some (.cells cur t (0,0))/\(t=362\/t=338):=by
 obtain⟨N,F,K,ps,hR⟩:=h;simp only[Rg.own,List.mem_cons,Option.mem_toList]at hj;rcases hj with rfl|hj
 .exact⟨_,_,hR.box,Or.inl rfl⟩
 exact⟨_,_,hR.row j hj,Or.inr rfl⟩
def OM(w:World)(b gg:Nat)(pp:Option Nat)(j:Nat):Prop:=j=gg\/pp=some j\/j=b\/((∃cur,w.heap[j]? = some (.cells cur 103 (0,0)))/\RowOf w b j)
def OwF(b gg:Nat)(pp:Option Nat)(w w':World):Prop:=∃S,Fr S w w'/\(b<w.heap.size->(∀j∈S,j<w.heap.size->OM w b gg pp j)/\∀j,RowOf w' b j->RowOf w b j\/w.heap.size<=j)
section
variable{w0 w w' w1 w2:World}{b gg:Nat}{pp:Option Nat}{t:Nat->Prop}
theorem OwF.of(h:Fr [] w w'):OwF b gg pp w w':=⟨[],h,fun hb=>⟨by simp,fun j hr=>Or.inl (hr.back h (by simp) hb)⟩⟩
theorem OwF.ofS(h:FrS w0 b w w'):OwF b gg pp w w':=by
 obtain⟨S,h1,h2⟩:=h;refine⟨S,h1,fun hb=> ?_⟩;obtain⟨k1,k2⟩:=h2 hb;refine⟨fun j hj hl=> ?_,k2⟩;rcases k1 j hj hl with e|⟨⟨_,e⟩,f⟩
 .exact Or.inr (Or.inr (Or.inl e))
 exact Or.inr (Or.inr (Or.inr ⟨e,f⟩))
theorem zmq{g C:Nat}{pb:Option Nat}{xs:List Rv}{cl:Bool}(hR:Rg w g pb C xs cl)(hb:∃es c,w.heap[b]? = some (.map es c)):b∉Rg.own g pb:=fun hm=>by
 obtain⟨cur,t,e,_⟩:=zjs hR hm;obtain⟨es,c,e2⟩:=hb;rw[e2]at e
 cases e
theorem OwF.ofR{g C:Nat}{pb:Option Nat}{xs:List Rv}{cl:Bool}(hR:Rg w g pb C xs cl)(hb:∃es c,w.heap[b]? = some (.map es c))(h:Fr (Rg.own g pb) w w'):OwF b g pb w w':=by
 refine⟨_,h,fun hl=>⟨fun j hj _=> ?_,fun j hr=>Or.inl (hr.back h (zmq hR hb) hl)⟩⟩;simp only[Rg.own,List.mem_cons,Option.mem_toList]at hj;rcases hj with rfl|hj
 .exact Or.inl rfl
 exact Or.inr (Or.inl hj)
theorem OwF.then(h:OwF b gg pp w w1)(k:OwF b gg pp w1 w2):OwF b gg pp w w2:=by
 obtain⟨S,hS,hm⟩:=h;obtain⟨T,hT,kn⟩:=k;refine⟨S++T,hS.trans hT (fun x hx _=>List.mem_append_left _ hx) (fun x hx _=>List.mem_append_right _ hx),fun hb=> ?_⟩;obtain⟨m1,m2⟩:=hm hb;obtain⟨k1,k2⟩:=kn (Nat.lt_of_lt_of_le hb hS.size);refine⟨fun j hj hlt=> ?_,fun j hr=> ?_⟩
 .by_cases hjS:j∈S
  .exact m1 j hjS hlt
  have hjT:j∈T:=(List.mem_append.1 hj).resolve_left hjS;have e:=hS.block j hlt hjS;rcases k1 j hjT (Nat.lt_of_lt_of_le hlt hS.size) with q|q|q|⟨⟨c,q⟩,r⟩
  .exact Or.inl q
  .exact Or.inr (Or.inl q)
  .exact Or.inr (Or.inr (Or.inl q))
  rcases m2 j r with r|r
  .exact Or.inr (Or.inr (Or.inr ⟨⟨c,by rw[<-e];exact q⟩,r⟩))
  omega
 rcases k2 j hr with h1|h1
 .exact m2 j h1
 exact Or.inr (Nat.le_trans hS.size h1)
structure One15(w0:World)(t:Nat->Prop)(w:World)(x:Rv)(r:Rq):Prop where
 is:x.q r.bs=r
 ok:okR r
 len:x.bl=r.bs.length
 row:IRs w x.bo r.bs
 nb:Nb w w0.heap.size x.bo
 av:∀a,x.bo=some a->¬t a.block
inductive Wt15(w0:World)(t:Nat->Prop)(w:World):List Rv->List Rq->Prop
 |nil:Wt15 w0 t w [] []
 |cons {x:Rv} {r:Rq} {xs:List Rv} {rs:List Rq}:One15 w0 t w x r->Wt15 w0 t w xs rs->Wt15 w0 t w (x::xs) (r::rs)
theorem Wt15.len{xs:List Rv}{rs:List Rq}(h:Wt15 w0 t w xs rs):xs.length=rs.length:=by
 induction h with
 |nil=>rfl
 |cons _ _ ih=>simp[ih]
theorem Wt15.snoc{xs:List Rv}{rs:List Rq}{x:Rv}{r:Rq}(h:Wt15 w0 t w xs rs)(hx:One15 w0 t w x r):Wt15 w0 t w (xs++[x]) (rs++[r]):=by
 induction h with
 |nil=>exact .cons hx .nil
 |cons h1 _ ih=>exact .cons h1 ih
theorem One15.keep{x:Rv}{r:Rq}(h:One15 w0 t w x r)(hk:∀(j:Nat) (cs:Array Value),w.heap[j]? = some (.cells cs 3 (0,0))->w'.heap[j]? = some (.cells cs 3 (0,0)))(hs:w.heap.size<=w'.heap.size):One15 w0 t w' x r:=by
 refine⟨h.is,h.ok,h.len,⟨fun h0=> ?_,h.row.few⟩,fun a e=> ?_,h.av⟩
 .obtain⟨bb,off,e,hb,hc⟩:=h.row.lies h0;obtain⟨_,cur,hcur⟩:=h.nb _ e;have hcur':=hk _ _ hcur;refine⟨bb,off,e,Nat.lt_of_lt_of_le hb hs,fun i hi=> ?_⟩;rw[<-hc i hi];exact World.cell?_of_block (hcur'.trans hcur.symm)
 obtain⟨h1,cur,hcur⟩:=h.nb a e;exact⟨h1,cur,hk _ _ hcur⟩
theorem Wt15.keep{xs:List Rv}{rs:List Rq}(h:Wt15 w0 t w xs rs)(hk:∀(j:Nat) (cs:Array Value),w.heap[j]? = some (.cells cs 3 (0,0))->w'.heap[j]? = some (.cells cs 3 (0,0)))(hs:w.heap.size<=w'.heap.size):Wt15 w0 t w' xs rs:=by
 induction h with
 |nil=>exact .nil
 |cons h1 _ ih=>exact .cons (h1.keep hk hs) ih
structure OwS(w0:World)(t:Nat->Prop)(w:World)(ob sb b n g:Nat)(pb:Option Nat)(C:Nat)(M:ByteArray->List Vn)(rs:List Rq):Prop where
 q:∃xs,OwQ w ob g ⟨sb,0,none⟩ pb C xs/\Wt15 w0 t w xs rs
 sh:Sh w0 w sb b n M
 fr:Fr [] w0 w
 gn:w0.heap.size<=g
 on:w0.heap.size<=ob
 pn:∀k,pb=some k->w0.heap.size<=k
section
variable{ob sb n g C:Nat}{pb:Option Nat}{M:ByteArray->List Vn}{rs:List Rq}
theorem OwS.same(h:OwS w0 t w ob sb b n g pb C M rs)(hf:Fr [] w w'):OwS w0 t w' ob sb b n g pb C M rs:=by
 obtain⟨xs,hq,hw⟩:=h.q;exact⟨⟨xs,hq.same hf,hw.keep (fun j cs hj=>hf.keep hj (by simp)) hf.size⟩,h.sh.keep hf,h.fr.then hf,h.gn,h.on,h.pn⟩
theorem OwS.own(h:OwS w0 t w ob sb b n g pb C M rs):∀j∈Rg.own g pb,w0.heap.size<=j:=by
 intro j hj;simp only[Rg.own,List.mem_cons,Option.mem_toList]at hj;rcases hj with rfl|hj
 .exact h.gn
 exact h.pn j hj
theorem Wt15.at{xs:List Rv}{rs:List Rq}(h:Wt15 w0 t w xs rs){t':Nat->Prop}(ht:∀k,t' k->t k\/w.heap.size<=k):Wt15 w0 t' w xs rs:=by
 induction h with
 |nil=>exact .nil
 |cons h1 _ ih=>
  refine .cons ⟨h1.is,h1.ok,h1.len,h1.row,h1.nb,fun a e q=> ?_⟩ ih;rcases ht _ q with r|r
  .exact h1.av a e r
  obtain⟨_,cur,hc⟩:=h1.nb a e;have:=lt_of_block hc;omega
theorem OwS.at(h:OwS w0 t w ob sb b n g pb C M rs){t':Nat->Prop}(ht:∀k,t' k->t k\/w.heap.size<=k):OwS w0 t' w ob sb b n g pb C M rs:=by
 obtain⟨xs,hq,hw⟩:=h.q;exact⟨⟨xs,hq,hw.at ht⟩,h.sh,h.fr,h.gn,h.on,h.pn⟩
def OwnA(ob sb b g:Nat)(pb:Option Nat)(w:World)(j:Nat):Prop:=j=ob\/j=sb\/j=b\/j=g\/pb=some j\/RowOf w b j
theorem OwS.far{S0:List Nat}(h:OwS w0 t w ob sb b n g pb C M rs)(hf0:Fr S0 w w')(hS0:∀j∈S0,j<w.heap.size->w0.heap.size<=j/\¬OwnA ob sb b g pb w j/\(t j\/∃cur tt,w.heap[j]? = some (.cells cur tt (0,0))/\tt≠3)):OwS w0 t w' ob sb b n g pb C M rs:=by
 classical
 obtain⟨S,hf,hS⟩:∃S,Fr S w w'/\∀j∈S,w0.heap.size<=j/\¬OwnA ob sb b g pb w j/\(t j\/∃cur tt,w.heap[j]? = some (.cells cur tt (0,0))/\tt≠3):=by
  refine⟨S0.filter fun j=>decide (j<w.heap.size),hf0.mono (fun x hx hl=>List.mem_filter.2 ⟨hx,by simpa using hl⟩),fun j hj=> ?_⟩;obtain⟨a,b⟩:=List.mem_filter.1 hj;exact hS0 j a (by simpa using b)
 obtain⟨xs,hq,hw⟩:=h.q;have no:∀j,OwnA ob sb b g pb w j->j∉S:=fun j hj hm=>(hS j hm).2.1 hj;refine⟨⟨xs,⟨hf.keep hq.box (no ob (Or.inl rfl)),hq.rg.keep hf (no g (Or.inr (Or.inr (Or.inr (Or.inl rfl))))) (fun k e=>no k (Or.inr (Or.inr (Or.inr (Or.inr (Or.inl e))))))⟩,?_⟩,h.sh.keepS hf (no sb (Or.inr (Or.inl rfl))) (fun j hj hm=> ?_),h.fr.on hf (fun y hy=>(hS y hy).1),h.gn,h.on,h.pn⟩
 .clear hq h no;induction hw with
  |nil=>exact .nil
  | @cons x r xs rs h1 _ ih=>
   have hav:∀a,x.bo=some a->a.block∉S:=fun a e hm=>by
    rcases (hS _ hm).2.2 with q|⟨cur,tt,q1,q2⟩
    .exact h1.av a e q
    obtain⟨_,c2,e2⟩:=h1.nb a e;rw[q1]at e2
    simp only[Option.some.injEq,Obj.cells.injEq]at e2;exact q2 e2.2.1
   refine .cons ⟨h1.is,h1.ok,h1.len,h1.row.keepS hf (fun _ a e=>hav a e),fun a e=> ?_,h1.av⟩ ih;obtain⟨k1,cur,hc⟩:=h1.nb a e;exact⟨k1,cur,hf.keep hc (hav a e)⟩
 rcases hm with rfl|⟨_,hr⟩
 .exact no _ (Or.inr (Or.inr (Or.inl rfl))) hj
 exact no j (Or.inr (Or.inr (Or.inr (Or.inr (Or.inr hr))))) hj
theorem OwS.shR(h:OwS w0 t w ob sb b n g pb C M rs)(hf:Fr (Rg.own g pb) w w'):Sh w0 w' sb b n M:=by
 obtain⟨xs,hq,hw⟩:=h.q;refine h.sh.keepS hf (zed hq.rg h.sh.box (by decide) (by decide)) (fun j hj hm=> ?_);obtain⟨cur,t,e,ht⟩:=zjs hq.rg hj;rcases hm with rfl|⟨⟨_,c2,e2⟩,_⟩
 .exact zmq hq.rg h.sh.mb hj
 rw[e]at e2
 simp only[Option.some.injEq,Obj.cells.injEq]at e2;rcases ht with rfl|rfl<;>exact absurd e2.2.1 (by decide)
end
end
theorem Rg.move{w w':World}{g C:Nat}{pb:Option Nat}{xs:List Rv}{cl:Bool}(h:Rg w g pb C xs cl)(hk:∀j∈Rg.own g pb,w'.heap[j]? = w.heap[j]?):Rg w' g pb C xs cl:=by
 obtain⟨N,F,K,ps,hR⟩:=h;exact⟨N,F,K,ps,(hk g (by simp[Rg.own])).trans hR.box,hR.pl,fun b e=>(hk b (by simp[Rg.own,e])).trans (hR.row b e),hR.none_,hR.cap⟩
theorem OwF.new{w w1 w2:World}{b gg:Nat}{pp:Option Nat}{T:List Nat}(h:OwF b gg pp w w1)(hf:Fr T w1 w2)(hT:∀j∈T,w.heap.size<=j)(hb:b<w.heap.size):OwF b gg pp w w2:=by
 obtain⟨S,hS,hm⟩:=h;refine⟨S,hS.trans hf (fun x hx _=>hx) (fun x hx hl=>absurd (hT x hx) (by omega)),fun hb'=>⟨(hm hb').1,fun j hr=>(hm hb').2 j (hr.back hf (fun hm=>absurd (hT b hm) (by omega)) (Nat.lt_of_lt_of_le hb hS.size))⟩⟩
section
variable{t:Nat->Prop}{w0 w:World}{ob sb b n g C:Nat}{pb:Option Nat}{M:ByteArray->List Vn}{rs:List Rq}{xs:List Rv}
theorem OwS.old(h:OwS w0 t w ob sb b n g pb C M rs){W Wd:World}(hFW:Fr (Rg.own g pb) w W)(hd:Fr [] W Wd){j:Nat}(hr:RowOf Wd b j):j<w.heap.size:=by
 obtain⟨xs,hq,_⟩:=h.q;have hb:=zmq hq.rg h.sh.mb;have r2:=(hr.back hd (by simp) (Nat.lt_of_lt_of_le h.sh.bl hFW.size)).back hFW hb h.sh.bl;obtain⟨_,cur,e⟩:=h.sh.rowLt r2;exact lt_of_block e
theorem zyj(h:OwS w0 t w ob sb b n g pb C M rs){W Wd w1 w2:World}(hFW:Fr (Rg.own g pb) w W)(hQ:OwQ W ob g ⟨sb,0,none⟩ pb C xs)(hd:Fr [] W Wd)(hS:FrS w0 b Wd w1)(hf:Fr [W.heap.size+1] w1 w2) :
  W.heap.size<=w2.heap.size/\(∀j,w.heap.size<=j->j<W.heap.size->w2.heap[j]? = W.heap[j]?)/\w2.heap[ob]? = W.heap[ob]? :=by
 have hbl:=h.sh.bl;have s1:=hFW.size;have s2:=hd.size;have s3:=hS.size;have s4:=hf.size;refine⟨by omega,fun j h1 h2=> ?_,?_⟩
 .have e:W.heap[j]? = some W.heap[j]:=Array.getElem?_eq_getElem h2;have e2:Wd.heap[j]? = some W.heap[j]:=(hd.block j h2 (by simp)).trans e;have e3:=hS.apart (by omega) e2 (by omega) (fun hr=>by have:=h.old hFW hd hr;omega);rw[e,hf.block j (by omega) (by simp;omega)];exact e3
 have e:=hQ.box;have hmb:∃es c,Wd.heap[b]? = some (.map es c):=((h.shR hFW).keep hd).mb;have e3:=hS.keep (hd.keep e (by simp)) hmb (by decide);have:=hQ.lt;rw[e,hf.block ob (by omega) (by simp;omega)];exact e3
theorem zyk{r:Rq}{x:Rv}{xs:List Rv}(h:OwS w0 t w ob sb b n g pb C M (r::rs))(hw:OwQ w ob g ⟨sb,0,none⟩ pb C (x::xs))(ht:Wt15 w0 t w xs rs){W Wd w1 w2 w3:World}{T:List Nat}{n':Nat}{M':ByteArray->List Vn}(hFW:Fr (Rg.own g pb) w W)(hQ:OwQ W ob g ⟨sb,0,none⟩ pb C xs)(hd:Fr [] W Wd)(hds:W.heap.size+2<=Wd.heap.size)(hS:FrS w0 b Wd w1)(hf:Fr [W.heap.size+1] w1 w2)(hT:Fr T w2 w3)(hT2:∀j∈T,w.heap.size<=j/\j<W.heap.size)(hSh:Sh w0 w1 sb b n' M') :
  OwS w0 t w3 ob sb b n' g pb C M' rs/\OwF b g pb w w3/\(∀j,Wd.heap.size<=j->j<w1.heap.size->w3.heap[j]? = w1.heap[j]?)/\(∀j,w1.heap.size<=j->j<w2.heap.size->w3.heap[j]? = w2.heap[j]?):=by
 have hbl:=h.sh.bl;have s1:=hFW.size;have s2:=hd.size;have s3:=hS.size;have s4:=hf.size;have s5:=hT.size;have s0:=h.fr.size;have hmb:∃es c,Wd.heap[b]? = some (.map es c):=((h.shR hFW).keep hd).mb;have olds:∀j,RowOf w1 b j->j<w.heap.size\/Wd.heap.size<=j:=fun j hr=>by
  rcases hS.rows (by omega) hr with q|q
  .exact Or.inl (h.old hFW hd q)
  exact Or.inr q
 have zln:∀j cs t,w.heap[j]? = some (.cells cs t (0,0))->j∉Rg.own g pb->t≠103->w3.heap[j]? = some (.cells cs t (0,0)):=fun j cs t e ho hv=>by
  have hl:=lt_of_block e;have e2:=hS.keep (hd.keep (hFW.keep e ho) (by simp)) hmb hv;exact hT.keep (hf.keep e2 (by simp;omega)) (fun hm=>by have:=(hT2 j hm).1;omega)
 have bS:sb<w.heap.size:=lt_of_block h.sh.box;refine⟨⟨⟨xs,⟨?_,?_⟩,ht.keep (fun j cs hj=>zln j cs _ hj (zed hw.rg hj (by decide) (by decide)) (by decide)) (by omega)⟩,?_,?_,h.gn,h.on,h.pn⟩,?_,?_,?_⟩
 .exact zln ob _ _ hw.box hw.no (by decide)
 .refine hQ.rg.move (fun j hj=> ?_);obtain⟨cur,t,e,htt⟩:=zjs hQ.rg hj;obtain⟨cur0,t0,e0,_⟩:=zjs hw.rg hj;have hl:=lt_of_block e0;have hv:t≠103:=by rcases htt with rfl|rfl<;>decide
  have e2:=hS.keep (hd.keep e (by simp)) hmb hv;rw[e];exact hT.keep (hf.keep e2 (by simp;omega)) (fun hm=>by have:=(hT2 j hm).1;omega)
 .have k1:Sh w0 w2 sb b n' M':=hSh.keepS hf (by simp;omega) (fun j hj hm=>by
   simp only[List.mem_singleton]at hj;subst hj;rcases hm with e|⟨_,e⟩
   .omega
   rcases olds _ e with q|q<;>omega)
  refine k1.keepS hT (fun hm=>by have:=(hT2 sb hm).1;omega) (fun j hj hm=> ?_);obtain⟨q1,q2⟩:=hT2 j hj;rcases hm with e|⟨_,e⟩
  .omega
  rcases olds _ (e.back hf (by simp;omega) (by omega)) with q|q<;>omega
 .have f1:Fr [] w0 W:=h.fr.on hFW h.own;have f2:Fr [] w0 w1:=hS.below h.sh.bn (f1.then hd) (by omega);exact (f2.on hf (by intro y hy;simp at hy;omega)).on hT (fun y hy=>by have:=(hT2 y hy).1;omega)
 .have f1:=((OwF.ofR hw.rg h.sh.mb hFW).then (OwF.of hd)).then (OwF.ofS hS);exact (f1.new hf (by intro y hy;simp at hy;omega) hbl).new hT (fun y hy=>(hT2 y hy).1) hbl
 .intro j h1 h2;rw[hT.block j (by omega) (fun hm=>by have:=(hT2 j hm).2;omega),hf.block j h2 (by simp;omega)]
 intro j h1 h2;exact hT.block j h2 (fun hm=>by have:=(hT2 j hm).2;omega)
def Rep(M:ByteArray->List Vn)(r:Rq)(M':ByteArray->List Vn)(ok:Bool)(eo:Option Addr)(el ec:Nat)(ho:Option Addr)(hl hc:Nat)(c:Int):Prop:=
 (eo=none/\el=0/\ec=0)/\(ho=none/\hl=0/\hc=0)/\c=0/\∃cc,zlj M ⟨r.n,r.wk,r.wv,r.wd⟩ M' ok cc
theorem zafb{W:World}{k f n:Int}{wk wv:ByteArray}{wd:Bool}{key en:ByteArray}{bo:Option Addr}{bl bc:Nat}:W.heap.size+2<=(dW W k f n wk wv wd key en bo bl bc).heap.size:=by unfold dW;simp
theorem zabq{W w1:World}{k f n:Int}{wk wv:ByteArray}{wd:Bool}{key en:ByteArray}{bo:Option Addr}{bl bc:Nat}(hS:FrS w0 b (dW W k f n wk wv wd key en bo bl bc) w1)(hm:∃es c,(dW W k f n wk wv wd key en bo bl bc).heap[b]? = some (.map es c)):w1.heap[W.heap.size+1]? = some (.cells #[.int .i64 0,.bool false,.slice none 0 0,.slice none 0 0,.int .i64 0] 429 (0,0)):=hS.keep zaik hm (by decide)
theorem os_serve{r:Rq}(h:OwS w0 t w ob sb b n g pb C M (r::rs))(hk1:r.k=1)(hn:n<3518437208882):Calls prog 324 #[.pointer (some ⟨ob,0,none⟩)] w fun e w'=>∃ok eo el ec ho hl hc c M',e=.returned (.tuple #[.agg #[.int .i64 r.f,.bool ok,.slice eo el ec,.slice ho hl hc,.int .i64 c],.int .i64 0])/\OwS w0 t w' ob sb b (n+1) g pb C M' rs/\OwF b g pb w w'/\Rep M r M' ok eo el ec ho hl hc c:=by
 obtain⟨xs',hq,hw⟩:=h.q;cases hw with
 |cons h1 ht=>
  rename_i x xs;obtain⟨xk,xf,xn,xa,xb,xd,xc,xe,xo,xl,xm⟩:=x;obtain⟨hi,hok,hlen,hrow,hnb,hav⟩:=h1;obtain⟨rk,rf,rn,ra,rb,rd,rc,re,rbs⟩:=r;simp only[Rv.q,Rq.mk.injEq]at hi;obtain⟨rfl,rfl,rfl,rfl,rfl,rfl,rfl,rfl,_⟩:=hi;simp only at hlen hrow hk1;obtain⟨o1,o2,o3,ho⟩:=hok;simp only at o1 o2 o3 ho;have s0:=h.fr.size;have mb:∀{W:World}(hFW:Fr (Rg.own g pb) w W),∃es c,(dW W xk xf xn xa xb xd xc xe xo xl xm).heap[b]? = some (.map es c):=fun hFW=>((h.shR hFW).keep zlm).mb;rcases ho with⟨rfl,⟨e1,e2⟩,e3,e4,e5,e6⟩|⟨rfl,e1,e2,e3,e4⟩|⟨rfl,e1,e2,e3,e4⟩|⟨rfl,e1,e2,e3⟩|⟨rfl,e1,e2,e3⟩
  .refine (zabp hq (fun ok eo el ec ho hl hc c W w'=>∃M' w1 cc,(eo=none/\el=0/\ec=0)/\(ho=none/\hl=0/\hc=0)/\c=0/\zlj M ⟨xn,xa,xb,xd⟩ M' ok cc/\Sh w0 w1 sb b (n+1) M'/\FrS w0 b (dW W 1 xf xn xa xb xd xc xe xo xl xm) w1/\Fr [W.heap.size+1] w1 w') (fun W Q hFW hs hQ hc=> ?_)).mono ?_
   .refine (zyh hc (fun ok c w1=>∃M' cc,zlj M ⟨xn,xa,xb,xd⟩ M' ok cc/\Sh w0 w1 sb b (n+1) M'/\FrS w0 b (dW W 1 xf xn xa xb xd xc xe xo xl xm) w1) ((zqi xn xa xb xd _ ((h.shR hFW).keep zlm) (by have:=hFW.size;have:=(zlm (w:=W) (k:=1) (f:=xf) (n:=xn) (wk:=xa) (wv:=xb) (wd:=xd) (key:=xc) (en:=xe) (bo:=xo) (bl:=xl) (bc:=xm)).size;omega) ⟨by have:=e6.1.2;simp only;omega,by have:=e6.2.1;simp only;omega,by simp only;omega,by simp only;omega⟩ (by omega)).mono ?_)).mono ?_
    .rintro e w1⟨ok,cc,M',rfl,hI,hSh,hF⟩;exact⟨ok,_,rfl,⟨M',cc,hI,hSh,hF⟩,zabq hF (mb hFW)⟩
    rintro e w2⟨ok,c,w1,rfl,⟨M',cc,hI,hSh,hF⟩,hf⟩;exact⟨ok,none,0,0,none,0,0,0,rfl,⟨M',w1,cc,⟨rfl,rfl,rfl⟩,⟨rfl,rfl,rfl⟩,rfl,hI,hSh,hF,hf⟩,zyj h hFW hQ zlm hF hf⟩
   rintro e w3⟨ok,eo,el,ec,ho,hl,hc,c,W,w2,rfl,hFW,hs,hQ,⟨M',w1,cc,a1,a2,a3,hI,hSh,hF,hf⟩,_,T,hT,hT2⟩;obtain⟨z1,z2,z3,z4⟩:=zyk h hq ht hFW hQ zlm zafb hF hf hT hT2 hSh;exact⟨ok,eo,el,ec,ho,hl,hc,c,M',rfl,z1,z2,a1,a2,a3,cc,hI⟩
  .omega
  .omega
  .omega
  omega
end
section
variable{t:Nat->Prop}{w0 w:World}{ob sb b n g C:Nat}{pb:Option Nat}{M:ByteArray->List Vn}{rs:List Rq}
theorem os_ask(h:OwS w0 t w ob sb b n g pb C M rs)(hT:∀k,t k->k<w.heap.size)(x:Rv)(ns:List Int)(hR:RqB w x ns):Calls prog 296 #[.pointer (some ⟨ob,0,none⟩),x.v] w fun e w'=>
  (¬okR (x.q ns)/\e=.returned (.tuple #[.bool false,.int .i64 1])/\OwS w0 t w' ob sb b n g pb C M rs/\Fr [] w w') \/
  (okR (x.q ns)/\rs.length=C/\e=.returned (.tuple #[.bool false,.int .i64 0])/\OwS w0 t w' ob sb b n g pb C M rs/\Fr [] w w') \/
  (okR (x.q ns)/\rs.length<C/\e=.returned (.tuple #[.bool true,.int .i64 0])/\∃pb',OwS w0 t w' ob sb b n g pb' C M (rs++[x.q ns])/\OwF b g pb w w'/\(∀k,pb'=some k->pb=some k\/w.heap.size<=k)):=by
 obtain⟨xs,hq,hw⟩:=h.q;by_cases hB:okR (x.q ns)
 .refine (zabo hq x ns hR hB).mono ?_;rintro e w' (⟨h1,rfl,hF⟩|⟨h1,rfl,ro,rc,pb',hQ,hI,hN,hF,hM⟩)
  .exact Or.inr (Or.inl ⟨hB,by rw[<-hw.len];exact h1,rfl,h.same hF,hF⟩)
  refine Or.inr (Or.inr ⟨hB,by rw[<-hw.len];exact h1,rfl,pb',⟨⟨_,hQ,(hw.keep (fun j cs hj=>hF.keep hj (zed hq.rg hj (by decide) (by decide))) hF.size).snoc ⟨rfl,hB,hR.len,hI,fun a e=> ?_,fun a e q=>by have:=hT _ q;have:=(hN a e).1;omega⟩⟩,h.shR hF,h.fr.on hF h.own,h.gn,h.on,fun k e=> ?_⟩,OwF.ofR hq.rg h.sh.mb hF,fun k e=> ?_⟩)
  .obtain⟨k1,k2⟩:=hN a e;exact⟨by have:=h.fr.size;omega,k2⟩
  .rcases hM with rfl|⟨k',rfl,hk⟩
   .exact h.pn k e
   cases e;have:=h.fr.size;omega
  rcases hM with rfl|⟨k',rfl,hk⟩
  .exact Or.inl e
  cases e;exact Or.inr hk
 refine (zafa hq x ns hR hB).mono ?_;rintro e w'⟨rfl,hF⟩;exact Or.inl ⟨hB,rfl,h.same hF,hF⟩
theorem os_len(h:OwS w0 t w ob sb b n g pb C M rs)(K:Nat)(hK:rs.length=K):Calls prog 261 #[.pointer (some ⟨ob,0,none⟩)] w fun e w'=>e=.returned (.int .i64 (K:Int))/\w=w':=by
 obtain⟨xs,hq,hw⟩:=h.q;exact zabn hq K (by rw[hw.len];exact hK)
theorem os_room(h:OwS w0 t w ob sb b n g pb C M rs)(K:Nat)(hK:C-rs.length=K):Calls prog 292 #[.pointer (some ⟨ob,0,none⟩)] w fun e w'=>e=.returned (.int .i64 (K:Int))/\Fr [] w w':=by
 obtain⟨xs,hq,hw⟩:=h.q;exact zyi hq K (by rw[hw.len];exact hK)
end
def okN(sh q:Int):Prop:=0<=sh/\sh<16/\1<=q/\q<=16
theorem zyl(q:Int)(ao:Option Addr)(L cap:Nat)(hs:List Hd)(w:World)(hq:1<=q/\q<=16)(hH:HRs w ao hs)(hL:L=hs.length):Calls prog 180 #[.int .i64 q,.slice ao L cap] w fun e w'=>
  (¬LoOk hs/\e=.returned (.tuple #[.pointer none,.int .i64 1])/\Fr [] w w')\/(LoOk hs/\∃ob sb b g,e=.returned (.tuple #[.pointer (some ⟨ob,0,none⟩),.int .i64 0])/\OwS w (fun _=>False) w' ob sb b L g none q.toNat (mOf hs) []):=by
 have HLd:Hid (Calls ..):=hload_any ao L cap hs w hH hL;have HG:Hid (∀W,Calls ..):=fun W=>gnew_any q W (by omega);clear hH hL;go_enter func180,ntmps180;go_wp2_with fail
 refine Calls.mono HLd.out ?_;rintro e w1 (⟨hl,sb,b,rfl,hS,hF1⟩|⟨hl,rfl,hF1⟩)
 .have HS:Hid (Sh w w1 sb b L (mOf hs)/\Fr [] w w1/\LoOk hs):=⟨hS,hF1,hl⟩;clear hS hF1 hl HLd;go_wp2_with fail
  refine Calls.mono (HG.out _) ?_;rintro e w2⟨g,rfl,hg,hR,hF2⟩;have HR:Hid (Rg w2 g none q.toNat [] false/\Fr [] w1 w2/\w1.heap.size<=g):=⟨hR,hF2,hg⟩;clear hR hF2 hg HG;go_wp2;go_ret2;have s1:=HS.out.2.1.size;have s2:=HR.out.2.1.size;have fA:=Fr.alloc [] w2 (.cells #[.pointer (some ⟨sb,0,none⟩),.pointer (some ⟨g,0,none⟩)] 340);exact Or.inr ⟨HS.out.2.2,w2.heap.size,sb,b,g,rfl,⟨[],⟨heap_alloc_new w2 _,HR.out.1.same fA⟩,.nil⟩,HS.out.1.keep (HR.out.2.1.then fA),HS.out.2.1.then (HR.out.2.1.then fA),by have:=HR.out.2.2;omega,by omega,fun k e=>by cases e⟩
 have HS:Hid (Fr [] w w1/\¬LoOk hs):=⟨hF1,hl⟩;clear hF1 hl HLd;go_wp2;go_ret2;exact Or.inl ⟨HS.out.2,rfl,HS.out.1⟩
theorem onew_any(sh q:Int)(ao:Option Addr)(L cap:Nat)(hs:List Hd)(w:World)(h:okN sh q)(hH:HRs w ao hs)(hL:L=hs.length):Calls prog 156 #[.int .i64 sh,.int .i64 q,.slice ao L cap] w fun e w'=>
  (¬LoOk hs/\e=.returned (.tuple #[.pointer none,.int .i64 1])/\Fr [] w w')\/(LoOk hs/\∃ob sb b g,e=.returned (.tuple #[.pointer (some ⟨ob,0,none⟩),.int .i64 0])/\OwS w (fun _=>False) w' ob sb b L g none q.toNat (mOf hs) []):=by
 obtain⟨h1,h2,h3,h4⟩:=h;have HLd:Hid (Calls ..):=zyl q ao L cap hs w ⟨h3,h4⟩ hH hL;clear hH hL;go_enter func156,ntmps156;go_wp2_with fail
 refine Calls.mono HLd.out ?_;rintro e w1 (⟨hl,rfl,hF1⟩|⟨hl,ob,sb,b,g,rfl,hO⟩)
 .go_wp2;go_ret2;exact Or.inl ⟨hl,rfl,hF1⟩
 have HO:Hid (OwS w (fun _=>False) w1 ob sb b L g none q.toNat (mOf hs) []):=hO;clear hO HLd;go_wp2;go_ret2;exact Or.inr ⟨hl,ob,sb,b,g,rfl,HO.out⟩
end O
end Go.Proofs.YtojjdnjfaelnfaaGreatDoor
