/- Contracts and lemmas. -/
import Derived.Test.YtaigdcmoecgabaaGreatGp5
import Derived.Deep.Slices
import Derived.SizedLaws
import Derived.Deep.RegionHeld3
set_option maxHeartbeats 8000000
set_option maxRecDepth 100000
set_option linter.unusedSimpArgs false
set_option linter.unusedVariables false
namespace Go.Proofs.YtaigdcmoecgabaaGreat.S6
open Go.ChangeShapes Go.WideShapes Go.ChangeAt Go.RowKit Go.Lib
structure Ev where
 t:Int
 k:Int
 n:Int
 s:Int
 c:Int
 m:Int
def Ev.no:Ev:=⟨0,0,0,0,0,0⟩
def evA(t k n s c m:Int):Array Value:=#[.int .i64 t,.int .u8 k,.int .i64 n,.int .i64 s,.int .i64 c,.int .i64 m]
theorem zcd{w:World}{g:Nat}{t k n s c m:Int}(h:w.heap[g]? = some (.cells (evA t k n s c m) 40 (0,0))):w.cell? ⟨g,0,none⟩=some (.int .i64 t)/\w.cell? ⟨g,1,none⟩=some (.int .u8 k)/\w.cell? ⟨g,2,none⟩=some (.int .i64 n)/\w.cell? ⟨g,3,none⟩=some (.int .i64 s)/\w.cell? ⟨g,4,none⟩=some (.int .i64 c)/\w.cell? ⟨g,5,none⟩=some (.int .i64 m):=
 ⟨by rw[crw h];rfl,by rw[crw h];rfl,by rw[crw h];rfl,by rw[crw h];rfl,by rw[crw h];rfl,by rw[crw h];rfl⟩
theorem zar{w:World}{ops:Array Oper}{rest:List Oper}{o:Oper}{a:Act}{Q:Exit->Act->World->Prop}(hgd:o.guard=none)(ty:TypeId)(x y:Operand)(ho:o.op=.store ty x y)(g:Nat)(cells:Array Value)(hx:a.eval x=.pointer (some ⟨g,0,none⟩))(hy:a.eval y=.agg cells)(t:TypeId)(old:Array Value)(hg:w.heap[g]? = some (.cells old t (0,0)))(hi:(Tryz.prog.info? ty).map (·.size)=some cells.size)(hold:old.size=cells.size)(h1:cells.all (·.oneCell')=true)(h:∀w',Hid (w'.heap[g]? = some (.cells cells t (0,0)))->Fr [g] w w'->wpList Tryz.prog ops Q rest (a.put o.dst undef) w'):wpList Tryz.prog ops Q (o::rest) a w:=
 wpList_store_row hgd ty x y ho g cells hx hy t old hg hi hold h1 (h _ (setRow_heap w g _ _ t _ hg) (Fr.setRow _ _ _))
structure EAt(w:World)(b o:Nat)(x:Ev):Prop where
 c0:w.cell? ⟨b,o,none⟩=some (.int .i64 x.t)
 c1:w.cell? ⟨b,o+1,none⟩=some (.int .u8 x.k)
 c2:w.cell? ⟨b,o+2,none⟩=some (.int .i64 x.n)
 c3:w.cell? ⟨b,o+3,none⟩=some (.int .i64 x.s)
 c4:w.cell? ⟨b,o+4,none⟩=some (.int .i64 x.c)
 c5:w.cell? ⟨b,o+5,none⟩=some (.int .i64 x.m)
def zro(x:Ev):Prop:=True
structure ERs(w:World)(ao:Option Addr)(es:List Ev):Prop where
 lies:0<es.length->∃b off,ao=some ⟨b,off,none⟩/\b<w.heap.size/\∀i,i<es.length->EAt w b (off+i*6) (es.getD i Ev.no)
 few:es.length<=4398046511104
 each:∀x∈es,zro x
theorem ERs.nil(w:World)(ao:Option Addr):ERs w ao []:=⟨fun h=>by simp at h,by simp,by simp⟩
theorem ERs.keepS{S:List Nat}{w w':World}{ao:Option Addr}{es:List Ev}(h:ERs w ao es)(hf:Fr S w w')(hn:0<es.length->∀a,ao=some a->a.block∉S):ERs w' ao es:=by
 refine⟨fun h0=> ?_,h.few,h.each⟩;obtain⟨b,off,e,hb,hc⟩:=h.lies h0;have hk:∀o,w'.cell? ⟨b,o,none⟩=w.cell? ⟨b,o,none⟩:=fun o=>World.cell?_of_block (hf.block b hb (hn h0 _ e));exact⟨b,off,e,Nat.lt_of_lt_of_le hb hf.size,fun i hi=>⟨(hk _).trans (hc i hi).c0,(hk _).trans (hc i hi).c1,(hk _).trans (hc i hi).c2,(hk _).trans (hc i hi).c3,(hk _).trans (hc i hi).c4,(hk _).trans (hc i hi).c5⟩⟩
theorem ERs.keep{w w':World}{ao:Option Addr}{es:List Ev}(h:ERs w ao es)(hf:Fr [] w w'):ERs w' ao es:=h.keepS hf (by simp)
theorem zul(es:List Ev)(i:Nat)(h:i<es.length):es.getD i Ev.no∈es:=by simp[List.getD,h]
theorem zrp(es:List Ev)(i:Nat)(h:i<es.length):es.take (i+1)=es.take i++[es.getD i Ev.no]:=by
 rw[List.take_add_one];simp[List.getD,h]
theorem Tryz.undEvs':Tryz.prog.underlying 63=some (.slice 40):=by kernel_rfl
theorem Tryz.eundI:Tryz.prog.underlying 3=some (.int .i64):=by kernel_rfl
theorem zbm(w:World)(cs:Array Value)(off:Nat)(v:Value)(h:cs[off]? = some v):(part 3 cs off).run Tryz.prog w=.ok v w:=by
 simp[part,isAgg,run_underlying Tryz.eundI,h,Sem.run_bind]
theorem zgo(w:World)(a b:Int):(Op.equalIn 9999 3 (.int .i64 a) (.int .i64 b)).run Tryz.prog w=.ok (a==b) w:=run_equalIn_int w 9998 _ .i64 .i64 a b Tryz.eundI
theorem zda{P:Program}{w:World}{A B:Sem Value}{E:Value->Value->Sem Bool}{K:Sem Bool}{a b:Value}{r:Bool}(hA:A.run P w=.ok a w)(hB:B.run P w=.ok b w)(hE:(E a b).run P w=.ok r w) :
  (do let a <- A;let b <- B;let r <- E a b;if (!r)=true then pure false else K:Sem Bool).run P w=if r=true then K.run P w else .ok false w:=by
 simp only[Sem.run_bind,hA,hB,hE,Result.andThen_ok];cases r<;>simp
theorem zbc{fn:Func}{p u:Tmp}{ty:TypeId}(h:fn.results= #[.cell p ty,.tmp u])(tmps:Array Value)(P:Program)(w:World)(g:Nat)(v:Value)(hp:tmps.getD p undef=.pointer (some ⟨g,0,none⟩))(hld:(loadVar ty ⟨g,0,none⟩).run P w=.ok v w) :
  (results fn tmps).run P w=.ok (.tuple #[v,tmps.getD u undef]) w:=by
 simp only[results,h];simp[Sem.run_bind,Result.andThen,<-Array.getD_eq_getD_getElem?,hp,asAddr,hld]
theorem zaz{fn:Func}{p:Tmp}{ty:TypeId}(h:fn.results= #[.cell p ty])(tmps:Array Value)(P:Program)(w:World)(g:Nat)(v:Value)(hp:tmps.getD p undef=.pointer (some ⟨g,0,none⟩))(hld:(loadVar ty ⟨g,0,none⟩).run P w=.ok v w) :
  (results fn tmps).run P w=.ok v w:=by
 simp only[results,h];simp[Sem.run_bind,Result.andThen,<-Array.getD_eq_getD_getElem?,hp,asAddr,hld]
def inlg(n:Int):Prop:=0<=n/\n<=65536
instance (n:Int):Decidable (inlg n):=by unfold inlg;infer_instance
def lagE(e:Ev):Int:=if inlg e.n/\inlg e.m then e.n-e.m else 0
def insE(e:Ev):Int:=if e.k=7/\0<e.n then 1 else 0
def dspE(e:Ev):Int:=if e.k=3 then lagE e else 0
def endE(e:Ev):Int:=if e.k=12 then 1 else 0
def stA(n i g b r:Int):Array Value:=#[.int .i64 n,.int .i64 i,.int .i64 g,.int .i64 b,.int .i64 r]
theorem zaaj(n i g b r:Int):(stA n i g b r).all (·.oneCell')=true:=by simp[stA,Value.oneCell']
theorem zeu{w:World}{g:Nat}{a b c d e:Int}(h:w.heap[g]? = some (.cells (stA a b c d e) 65 (0,0))):(loadVar 65 ⟨g,0,none⟩).run Tryz.prog w=.ok (.agg (stA a b c d e)) w:=
 run_loadVar_row (P:=Tryz.prog) _ g _ 65 _ _ (.struct (Tryz.prog.fieldsOf 65)) h (by kernel_rfl) rfl (by kernel_rfl)
theorem zbn{w:World}{ops:Array Oper}{rest:List Oper}{o:Oper}{a:Act}{Q:Exit->Act->World->Prop}(hgd:o.guard=none)(x y:Operand)(ho:o.op=.store 65 x y)(g:Nat)(n i l b r:Int)(hx:a.eval x=.pointer (some ⟨g,0,none⟩))(hy:a.eval y=.agg #[.int .i64 n,.int .i64 i,.int .i64 l,.int .i64 b,.int .i64 r])(n' i' l' b' r':Int)(hg:w.heap[g]? = some (.cells (stA n' i' l' b' r') 65 (0,0)))(h:∀w',Hid (w'.heap[g]? = some (.cells (stA n i l b r) 65 (0,0)))->Fr [g] w w'->wpList Tryz.prog ops Q rest (a.put o.dst undef) w'):wpList Tryz.prog ops Q (o::rest) a w:=
 zar hgd 65 x y ho g (stA n i l b r) hx hy 65 _ hg (by kernel_rfl) rfl (zaaj _ _ _ _ _) h
theorem zln(n:Int)(w:World):Calls Tryz.prog 174 #[.int .i64 n] w fun e w'=>e=.returned (.bool (decide (inlg n)))/\w=w':=by
 by_cases h:0<=n
 .by_cases h2:n<=65536
  .go_enter Tryz.func174,Tryz.ntmps174;go_wp2;go_ret;exact⟨by simp[inlg,h,h2],rfl⟩
  go_enter Tryz.func174,Tryz.ntmps174;go_wp2;go_ret;exact⟨by simp[inlg,h,h2],rfl⟩
 go_enter Tryz.func174,Tryz.ntmps174;go_wp2;go_ret;exact⟨by rw[decide_eq_false (p:=inlg n) (by unfold inlg;omega)];rfl,rfl⟩
theorem zlo(n:Int)(w:World)(h:inlg n):Calls Tryz.prog 174 #[.int .i64 n] w fun e w'=>e=.returned (.bool true)/\w=w':=
 (zln n w).mono fun e w' k=>⟨by rw[k.1,decide_eq_true h],k.2⟩
theorem znv(n:Int)(w:World)(h:¬inlg n):Calls Tryz.prog 174 #[.int .i64 n] w fun e w'=>e=.returned (.bool false)/\w=w':=
 (zln n w).mono fun e w' k=>⟨by rw[k.1,decide_eq_false h],k.2⟩
theorem zaak(e:Ev)(w:World):Calls Tryz.prog 141 #[.agg (evA e.t e.k e.n e.s e.c e.m)] w fun x w'=>x=.returned (.int .i64 (lagE e))/\Fr [] w w':=by
 obtain⟨t,k,n,s,c,m⟩:=e;by_cases h1:inlg n
 .have H1:=fun w=>zlo n w h1;by_cases h2:inlg m
  .have H2:=fun w=>zlo m w h2;have E:lagE ⟨t,k,n,s,c,m⟩=n-m:=if_pos ⟨h1,h2⟩;rw[E];have hw:IntKind.i64.wrap (n-m)=n-m:=by
    obtain⟨a1,a2⟩:=h1;obtain⟨b1,b2⟩:=h2;rw[IntKind.wrap_i64];omega
   simp only[evA];clear h1 h2 E;go_enter Tryz.func141,Tryz.ntmps141;go_wp2_with fail
   with_reducible refine (H1 _).mono ?_
   rintro e w1⟨rfl,rfl⟩;go_wp2_with fail
   with_reducible refine (H2 _).mono ?_
   rintro e w1⟨rfl,rfl⟩;go_wp2_with fail
   go_ret;exact⟨rfl,Fr.alloc _ _ _⟩
  have H2:=fun w=>znv m w h2;have E:lagE ⟨t,k,n,s,c,m⟩=0:=if_neg fun h=>h2 h.2;rw[E];simp only[evA];clear h1 h2 E;go_enter Tryz.func141,Tryz.ntmps141;go_wp2_with fail
  with_reducible refine (H1 _).mono ?_
  rintro e w1⟨rfl,rfl⟩;go_wp2_with fail
  with_reducible refine (H2 _).mono ?_
  rintro e w1⟨rfl,rfl⟩;go_wp2_with fail
  go_ret;exact⟨rfl,Fr.alloc _ _ _⟩
 have H1:=fun w=>znv n w h1;have E:lagE ⟨t,k,n,s,c,m⟩=0:=if_neg fun h=>h1 h.1;rw[E];simp only[evA];clear h1 E;go_enter Tryz.func141,Tryz.ntmps141;go_wp2_with fail
 with_reducible refine (H1 _).mono ?_
 rintro e w1⟨rfl,rfl⟩;go_wp2_with fail
 go_ret;exact⟨rfl,Fr.alloc _ _ _⟩
theorem zum(a b c d e:Int)(V:World):(Instr.field 65 (.agg #[.int .i64 a,.int .i64 b,.int .i64 c,.int .i64 d,.int .i64 e]) 1).run Tryz.prog V=.ok (.int .i64 b) V:=by kernel_rfl
theorem zun(a b c d e:Int)(V:World):(Instr.field 65 (.agg #[.int .i64 a,.int .i64 b,.int .i64 c,.int .i64 d,.int .i64 e]) 2).run Tryz.prog V=.ok (.int .i64 c) V:=by kernel_rfl
theorem zuo(a b c d e:Int)(V:World):(Instr.field 65 (.agg #[.int .i64 a,.int .i64 b,.int .i64 c,.int .i64 d,.int .i64 e]) 4).run Tryz.prog V=.ok (.int .i64 e) V:=by kernel_rfl
def zcn(e:Ev):Array Value:=stA 0 (insE e) (dspE e) 0 (endE e)
theorem zjo(e:Ev)(w:World):Calls Tryz.prog 92 #[.agg (evA e.t e.k e.n e.s e.c e.m)] w fun x w'=>x=.returned (.agg (zcn e))/\Fr [] w w':=by
 have HL:=fun w=>zaak e w;obtain⟨t,k,n,s,c,m⟩:=e;obtain⟨wa,hwa⟩:∃wa,wa=w.alloc (.cells (evA t k n s c m) 40):=⟨_,rfl⟩;obtain⟨wb,hwb⟩:∃wb,wb=wa.alloc (.cells (stA 0 0 0 0 0) 65):=⟨_,rfl⟩;have f1:Fr [] w wa:=by rw[hwa];exact Fr.alloc _ _ _
 have f2:Fr [] wa wb:=by rw[hwb];exact Fr.alloc _ _ _
 have s1:wa.heap.size=w.heap.size+1:=by rw[hwa];simp
 have r1:wb.heap[w.heap.size]? = some (.cells (evA t k n s c m) 40 (0,0)):=by refine f2.keep ?_ (by simp);rw[hwa];exact heap_alloc_new _ _
 have r2:wb.heap[w.heap.size+1]? = some (.cells (stA 0 0 0 0 0) 65 (0,0)):=by rw[hwb,<-s1];exact heap_alloc_new _ _
 have HR:∀W,Fr [] wb W->W.heap[w.heap.size+1]? = some (.cells (stA 0 0 0 0 0) 65 (0,0)):=fun W hf=>hf.keep r2 (by simp);have HZ:Hid (∀W w3,Fr [] wb W->Fr [w.heap.size+1] W w3->Fr [] w w3):=fun W w3 h0 h3=>((f1.then f2).then h0).on h3 (by intro y hy;simp at hy;omega);obtain⟨y0,y1,y2,y3,y4,y5⟩:=zcd r1;have HW:Hid ((w.alloc (.cells #[.int .i64 t,.int .u8 k,.int .i64 n,.int .i64 s,.int .i64 c,.int .i64 m] 40)).alloc (.cells #[.int .i64 0,.int .i64 0,.int .i64 0,.int .i64 0,.int .i64 0] 65)=wb):=by show _=_;rw[hwb,hwa];rfl
 obtain⟨b,HB⟩:∃b,Hid (w.heap.size=b):=⟨_,rfl⟩;rw[HB.out]at HR HZ y0 y1 y2 y3 y4 y5
 clear hwa hwb f1 f2 s1 r1 r2;by_cases h3:k=3
 .have E:zcn ⟨t,k,n,s,c,m⟩=stA 0 0 (lagE ⟨t,k,n,s,c,m⟩) 0 0:=by simp[zcn,insE,dspE,endE,h3]
  rw[E];subst h3;simp only at HL;generalize lagE ⟨t,3,n,s,c,m⟩=L at HL;have HR':Hid (∀W,_):=HR;simp only[evA]at HL ⊢;clear E HR;go_enter Tryz.func92,Tryz.ntmps92;go_upto_region 1 with fail
  rw[HW.out,HB.out];go_wp2_with fail
  with_reducible refine (HL _).mono ?_
  rintro e w1⟨rfl,hF1⟩;have HF1:Hid (Fr [] wb w1):=hF1;clear hF1 y0 y1 y2 y3 y4 y5;go_wp2_with (refine zbn rfl _ _ rfl (b+1) 0 0 L 0 0 rfl rfl 0 0 0 0 0 (HR'.out _ HF1.out) ?_;intro w3 hw3 hf3)
  refine bodyPost_ret (zaz rfl _ _ _ (b+1) _ rfl (zeu hw3.out)) rfl ?_;exact⟨rfl,HZ.out _ _ HF1.out hf3⟩
 by_cases h7:k=7
 .by_cases h0:0<n
  .subst h7;have E:zcn ⟨t,7,n,s,c,m⟩=stA 0 1 0 0 0:=by simp[zcn,insE,dspE,endE,h0]
   rw[E];have HR':=HR _ (Fr.refl _ _);simp only[evA];clear E HR HL;go_enter Tryz.func92,Tryz.ntmps92;go_upto_region 1 with fail
   rw[HW.out,HB.out];go_wp2_with (refine zbn rfl _ _ rfl (b+1) 0 1 0 0 0 rfl rfl 0 0 0 0 0 HR' ?_;intro w3 hw3 hf3)
   refine bodyPost_ret (zaz rfl _ _ _ (b+1) _ rfl (zeu hw3.out)) rfl ?_;exact⟨rfl,HZ.out _ _ (Fr.refl _ _) hf3⟩
  subst h7;have E:zcn ⟨t,7,n,s,c,m⟩=stA 0 0 0 0 0:=by simp[zcn,insE,dspE,endE,h0]
  rw[E];have HR':=HR _ (Fr.refl _ _);simp only[evA];clear E HR HL;go_enter Tryz.func92,Tryz.ntmps92;go_upto_region 1 with fail
  rw[HW.out,HB.out];go_wp2_with (refine zbn rfl _ _ rfl (b+1) 0 0 0 0 0 rfl rfl 0 0 0 0 0 HR' ?_;intro w3 hw3 hf3)
  refine bodyPost_ret (zaz rfl _ _ _ (b+1) _ rfl (zeu hw3.out)) rfl ?_;exact⟨rfl,HZ.out _ _ (Fr.refl _ _) hf3⟩
 by_cases h12:k=12
 .subst h12;have E:zcn ⟨t,12,n,s,c,m⟩=stA 0 0 0 0 1:=by simp[zcn,insE,dspE,endE]
  rw[E];have HR':=HR _ (Fr.refl _ _);simp only[evA];clear E HR HL;go_enter Tryz.func92,Tryz.ntmps92;go_upto_region 1 with fail
  rw[HW.out,HB.out];go_wp2_with (refine zbn rfl _ _ rfl (b+1) 0 0 0 0 1 rfl rfl 0 0 0 0 0 HR' ?_;intro w3 hw3 hf3)
  refine bodyPost_ret (zaz rfl _ _ _ (b+1) _ rfl (zeu hw3.out)) rfl ?_;exact⟨rfl,HZ.out _ _ (Fr.refl _ _) hf3⟩
 have E:zcn ⟨t,k,n,s,c,m⟩=stA 0 0 0 0 0:=by simp[zcn,insE,dspE,endE,h3,h7,h12]
 rw[E];have HR':=HR _ (Fr.refl _ _);simp only[evA];clear E HR HL;go_enter Tryz.func92,Tryz.ntmps92;go_upto_region 1 with fail
 rw[HW.out,HB.out];go_wp2_with (refine zbn rfl _ _ rfl (b+1) 0 0 0 0 0 rfl rfl 0 0 0 0 0 HR' ?_;intro w3 hw3 hf3)
 refine bodyPost_ret (zaz rfl _ _ _ (b+1) _ rfl (zeu hw3.out)) rfl ?_;exact⟨rfl,HZ.out _ _ (Fr.refl _ _) hf3⟩
theorem zir(e:Ev):0<=insE e/\insE e<=1:=by unfold insE;split<;>omega
theorem zis(e:Ev):0<=endE e/\endE e<=1:=by unfold endE;split<;>omega
theorem zit(e:Ev): -65536<=dspE e/\dspE e<=65536:=by
 unfold dspE lagE;split
 .split
  .rename_i h;obtain⟨⟨_,_⟩,⟨_,_⟩⟩:=h;omega
  omega
 omega
theorem zxj(a:Int)(e:Ev)(w:World)(h1:0<=a)(h2:a<=4398046511104):Calls Tryz.prog 90 #[.int .i64 a,.agg (evA e.t e.k e.n e.s e.c e.m)] w fun x w'=>x=.returned (.int .i64 (a+1))/\Fr [] w w':=by
 obtain⟨t,k,n,s,c,m⟩:=e;have hw:IntKind.i64.wrap (a+1)=a+1:=by rw[IntKind.wrap_i64];omega
 simp only[evA];go_enter Tryz.func90,Tryz.ntmps90;go_wp2_with fail
 go_ret;exact⟨rfl,Fr.alloc _ _ _⟩
theorem zxk(a:Int)(e:Ev)(w:World)(h1:0<=a)(h2:a<=4398046511104):Calls Tryz.prog 91 #[.int .i64 a,.agg (evA e.t e.k e.n e.s e.c e.m)] w fun x w'=>x=.returned (.int .i64 (a+insE e))/\Fr [] w w':=by
 have HT:=fun w=>zjo e w;have HB:Hid (_/\_/\_):=⟨zir e,zit e,zis e⟩;unfold zcn at HT;generalize insE e=I at HT HB ⊢;generalize dspE e=G at HT HB ⊢;generalize endE e=R at HT HB ⊢;obtain⟨t,k,n,s,c,m⟩:=e;have hw:IntKind.i64.wrap (a+I)=a+I:=by obtain⟨⟨_,_⟩,⟨_,_⟩,⟨_,_⟩⟩:=HB.out;rw[IntKind.wrap_i64];omega
 have hfd:∀V:World,(Instr.field 65 (.agg (stA 0 I G 0 R)) 1).run Tryz.prog V=_:=fun V=>zum 0 I G 0 R V;simp only[evA,stA]at HT hfd ⊢;clear HB;go_enter Tryz.func91,Tryz.ntmps91;go_wp2_with fail
 with_reducible refine (HT _).mono ?_
 rintro e w1⟨rfl,hF1⟩;have HF1:Hid (Fr [] _ w1):=hF1;clear hF1;go_wp2_with fail
 go_ret;exact⟨rfl,(Fr.alloc _ _ _).then HF1.out⟩
theorem zxl(a:Int)(e:Ev)(w:World)(h1:0<=a)(h2:a<=4398046511104):Calls Tryz.prog 93 #[.int .i64 a,.agg (evA e.t e.k e.n e.s e.c e.m)] w fun x w'=>x=.returned (.int .i64 (max a (dspE e)))/\Fr [] w w':=by
 have HT:=fun w=>zjo e w;have HB:Hid (_/\_/\_):=⟨zir e,zit e,zis e⟩;unfold zcn at HT;generalize insE e=I at HT HB ⊢;generalize dspE e=G at HT HB ⊢;generalize endE e=R at HT HB ⊢;obtain⟨t,k,n,s,c,m⟩:=e;have hfd:∀V:World,(Instr.field 65 (.agg (stA 0 I G 0 R)) 2).run Tryz.prog V=_:=fun V=>zun 0 I G 0 R V;simp only[evA,stA]at HT hfd ⊢;clear HB;go_enter Tryz.func93,Tryz.ntmps93;go_wp2_with fail
 with_reducible refine (HT _).mono ?_
 rintro e w1⟨rfl,hF1⟩;have HF1:Hid (Fr [] _ w1):=hF1;clear hF1;go_wp2_with fail
 .go_ret;exact⟨by rw[show max a G=G by omega];rfl,(Fr.alloc _ _ _).then HF1.out⟩
 go_ret;exact⟨by rw[show max a G=a by omega];rfl,(Fr.alloc _ _ _).then HF1.out⟩
theorem zxm(a:Int)(e:Ev)(w:World)(h1:0<=a)(h2:a<=4398046511104):Calls Tryz.prog 96 #[.int .i64 a,.agg (evA e.t e.k e.n e.s e.c e.m)] w fun x w'=>x=.returned (.int .i64 (a+endE e))/\Fr [] w w':=by
 have HT:=fun w=>zjo e w;have HB:Hid (_/\_/\_):=⟨zir e,zit e,zis e⟩;unfold zcn at HT;generalize insE e=I at HT HB ⊢;generalize dspE e=G at HT HB ⊢;generalize endE e=R at HT HB ⊢;obtain⟨t,k,n,s,c,m⟩:=e;have hw:IntKind.i64.wrap (a+R)=a+R:=by obtain⟨⟨_,_⟩,⟨_,_⟩,⟨_,_⟩⟩:=HB.out;rw[IntKind.wrap_i64];omega
 have hfd:∀V:World,(Instr.field 65 (.agg (stA 0 I G 0 R)) 4).run Tryz.prog V=_:=fun V=>zuo 0 I G 0 R V;simp only[evA,stA]at HT hfd ⊢;clear HB;go_enter Tryz.func96,Tryz.ntmps96;go_wp2_with fail
 with_reducible refine (HT _).mono ?_
 rintro e w1⟨rfl,hF1⟩;have HF1:Hid (Fr [] _ w1):=hF1;clear hF1;go_wp2_with fail
 go_ret;exact⟨rfl,(Fr.alloc _ _ _).then HF1.out⟩
theorem Tryz.infoBl:(Tryz.prog.info? 4).map (fun i=>(i.zero,i.size,i.bytes))=some (some (.bool false),1,1):=by kernel_rfl
theorem Tryz.undBools:Tryz.prog.underlying 121=some (.slice 4):=by kernel_rfl
theorem zki(n:Nat):(madeCells #[Value.bool false] n).toList=(List.replicate n false).map Value.bool:=by
 apply List.ext_getElem?;intro i;by_cases h:i<n
 .simp[madeCells,h,Nat.mod_one]
 simp[madeCells,h]
theorem zkj{w:World}{g n:Nat}{xs:List Value}(h:w.ownsRow 0 4 1 (.slice (some ⟨g,0,none⟩) n n) n xs):w.heap[g]? = some (.cells xs.toArray 4 (0,0)):=by
 have hl:=h.1;rcases h.2 with⟨hh,_⟩|⟨g',cap',cur,hh,_,hg,_,_,hcs,ht⟩
 .cases hh
 cases hh;rw[hg]
 congr 2
 rw[<-Array.toList_inj];simp only;rw[<-ht,List.take_of_length_le (by simp[hcs])]
theorem zxn{w:World}{g j:Nat}{rs:List Bool}(x:Bool)(h:w.heap[g]? = some (.cells (rs.map Value.bool).toArray 4 (0,0))):(w.setCell ⟨g,j,none⟩ (.bool x)).heap[g]? = some (.cells ((rs.set j x).map Value.bool).toArray 4 (0,0)):=by
 have hlt:=lt_of_block h;have h':w.heap[g]=.cells (rs.map Value.bool).toArray 4 (0,0):=by simpa[Array.getElem?_eq_getElem hlt]using h
 show (w.heap.modify g _)[g]? = _;rw[Array.getElem?_eq_getElem (by simpa using hlt),Array.getElem_modify_self,h'];simp[List.map_set]
def BR(w:World)(g:Nat)(rs:List Bool):Prop:=w.heap[g]? = some (.cells (rs.map Value.bool).toArray 4 (0,0))
theorem BR.keep{S:List Nat}{w w':World}{g:Nat}{rs:List Bool}(h:BR w g rs)(hf:Fr S w w')(hn:g∉S):BR w' g rs:=hf.keep h hn
theorem BR.cell{w:World}{g:Nat}{rs:List Bool}(h:BR w g rs)(i:Nat)(hi:i<rs.length):w.cell? ⟨g,i,none⟩=some (.bool (rs.getD i false)):=by
 rw[crw h];simp[List.getD,hi]
theorem BR.free{w:World}{g:Nat}{rs:List Bool}(h:BR w g rs)(i:Nat):w.frozen? ⟨g,i,none⟩=false:=by
 unfold World.frozen?;rw[h];rfl
theorem BR.put{w:World}{g:Nat}{rs:List Bool}(h:BR w g rs)(j:Nat)(x:Bool):BR (w.setCell ⟨g,j,none⟩ (.bool x)) g (rs.set j x):=zxn x h
theorem zjd:∃i,Tryz.prog.info? 4=some i/\i.zero=some (.bool false)/\i.size=1/\i.bytes=1:=by
 have h:=Tryz.infoBl;cases hi:Tryz.prog.info? 4 with
 |none=>rw[hi]at h;cases h
 |some i=>
  rw[hi]at h
  simp only[Option.map_some,Option.some.injEq,Prod.mk.injEq]at h;exact⟨i,rfl,h.1,h.2.1,h.2.2⟩
def zbv(h:List Bool):Nat:=h.countP id
theorem znw(h:List Bool):zbv h<=h.length:=List.countP_le_length
theorem zlp(h:List Bool)(i:Nat)(hi:i<h.length):zbv (h.take (i+1))=zbv (h.take i)+(if h.getD i false=true then 1 else 0):=by
 rw[List.take_add_one];simp only[zbv,List.countP_append];simp[List.getD,hi]
theorem zxo(g:Nat)(h:List Bool)(w:World)(H:BR w g h)(hL:h.length<=16):Calls Tryz.prog 95 #[.slice (some ⟨g,0,none⟩) h.length h.length] w fun x w'=>x=.returned (.int .i64 (zbv h:Nat))/\Fr [] w w':=by
 have HH:Hid (∀W,Fr [] w W->BR W g h):=fun W hf=>H.keep hf (by simp);clear H;obtain⟨L,hLL⟩:∃L,L=h.length:=⟨_,rfl⟩;have HL:Hid (L=h.length):=hLL;rw[<-hLL]at hL ⊢
 clear hLL;go_enter Tryz.func95,Tryz.ntmps95;go_wp2_with fail
 go_loopw [3,8] (fun mm ii wr=>∃(i:Nat),mm=.int .i64 (zbv (h.take i):Nat)/\ii=.int .i64 i/\i<=L/\Hid (Fr [] w wr)) (fun mm ii _=>L-(RowKit.intOf ii).toNat)
 case atStart=>exact⟨0,by simp[zbv],rfl,Nat.zero_le _,Fr.refl _ _⟩
 obtain⟨i,rfl,rfl,hiL,HF⟩:=hrel;by_cases hi:i<L
 .have c0:=(HH.out _ HF.out).cell i (by rw[<-HL.out];exact hi);have hs:=zlp h i (by rw[<-HL.out];exact hi);have hb:=znw (h.take i);rw[List.length_take]at hb
  have HS:Hid (_=_):=hs;obtain⟨B,hB⟩:∃B,B=zbv (h.take i):=⟨_,rfl⟩;rw[<-hB]at HS hb ⊢
  have hb2:B<=16:=by omega
  clear hs hB hb;cases hx:h.getD i false with
  |true=>
   rw[hx]at c0 HS
   have hw:IntKind.i64.wrap ((B:Int)+1)=(B:Int)+1:=by rw[IntKind.wrap_i64];omega
   go_wp2_with fail
   go_roundw;case rel=>exact⟨i+1,by rw[HS.out];rfl,by simp,by omega,HF⟩
   case measure=>simp[RowKit.intOf];omega
  |false=>
   rw[hx]at c0 HS
   go_wp2_with fail
   go_roundw;case rel=>exact⟨i+1,by rw[HS.out];rfl,by simp,by omega,HF⟩
   case measure=>simp[RowKit.intOf];omega
 obtain rfl:i=L:=by omega
 have HE:Hid (zbv (h.take i)=zbv h):=by show _=_;rw[HL.out,List.take_length]
 clear hi hiL;go_wp2_with fail
 go_ret;exact⟨by rw[HE.out];rfl,HF.out⟩
def seeL(h:List Bool)(e:Ev):List Bool:=if 1<=e.t/\e.t<=h.length then (if e.k=4 then h.set (e.t-1).toNat true else if e.k=6 then h.set (e.t-1).toNat false else h) else h
theorem zpg(h:List Bool)(e:Ev):(seeL h e).length=h.length:=by
 unfold seeL;split
 .split
  .simp
  split<;>simp
 rfl
theorem zpw(g:Nat)(h:List Bool)(e:Ev)(w:World)(H:BR w g h)(hL:h.length<=16):Calls Tryz.prog 58 #[.slice (some ⟨g,0,none⟩) h.length h.length,.agg (evA e.t e.k e.n e.s e.c e.m)] w fun x w'=>x=.returned (.tuple #[])/\BR w' g (seeL h e)/\Fr [g] w w':=by
 have HH:Hid (∀W,Fr [] w W->BR W g h):=fun W hf=>H.keep hf (by simp);have hgw:g<w.heap.size:=lt_of_block H;clear H;obtain⟨L,hLL⟩:∃L,L=h.length:=⟨_,rfl⟩;have HL:Hid (L=h.length):=hLL;obtain⟨s,hs⟩:∃s,s=seeL h e:=⟨_,rfl⟩;have HSe:Hid (s=seeL h e):=hs;rw[<-hs];rw[<-hLL]at hL ⊢
 clear hLL hs;obtain⟨t,k,n,sx,c,m⟩:=e;simp only[evA]at HSe ⊢;have HE0:Hid (∀W,Fr [] w W->s=h->BR W g s/\Fr [g] w W):=fun W hf hh=>⟨by rw[hh];exact HH.out W hf,hf.mono (by simp)⟩;by_cases h1:t<1
 .have E:Hid (s=h):=by show _=_;rw[HSe.out];unfold seeL;rw[if_neg (by simp only;omega)]
  go_enter Tryz.func58,Tryz.ntmps58;go_wp2_with fail
  refine bodyPost_ret (results_none rfl _ _ _) rfl ?_;exact⟨rfl,HE0.out _ (Fr.alloc _ _ _) E.out⟩
 by_cases h2:(L:Int)<t
 .have E:Hid (s=h):=by show _=_;rw[HSe.out];unfold seeL;rw[if_neg (by simp only;rw[<-HL.out];omega)]
  go_enter Tryz.func58,Tryz.ntmps58;go_wp2_with fail
  refine bodyPost_ret (results_none rfl _ _ _) rfl ?_;exact⟨rfl,HE0.out _ (Fr.alloc _ _ _) E.out⟩
 obtain⟨j,rfl⟩:∃j:Nat,t=(j:Int)+1:=⟨(t-1).toNat,by omega⟩;have hj:j<L:=by omega
 have E0:s=if k=4 then h.set j true else if k=6 then h.set j false else h:=by
  rw[HSe.out];unfold seeL;simp only;rw[if_pos (by rw[<-HL.out];omega),show ((j:Int)+1-1).toNat=j by omega]
 have hw:IntKind.i64.wrap ((j:Int)+1-1)=(j:Int):=by rw[IntKind.wrap_i64];omega
 have hB1:=HH.out _ (Fr.alloc [] w (.cells #[.int .i64 ((j:Int)+1),.int .u8 k,.int .i64 n,.int .i64 sx,.int .i64 c,.int .i64 m] 40));have c0:=hB1.cell j (by rw[<-HL.out];exact hj);have c1:=hB1.free j;generalize h.getD j false=old at c0;by_cases h4:k=4
 .subst h4;have HP2:Hid (BR ((w.setCell ⟨g,j,none⟩ (.bool true)).alloc (.cells #[.int .i64 ((j:Int)+1),.int .u8 4,.int .i64 n,.int .i64 sx,.int .i64 c,.int .i64 m] 40)) g s):=by rw[E0,if_pos rfl];exact ((HH.out _ (Fr.refl _ _)).put j true).keep (Fr.alloc [] _ _) (by simp)
  clear hB1 E0 HSe HE0;go_enter Tryz.func58,Tryz.ntmps58;go_wp2_with fail
  refine bodyPost_end (results_none rfl _ _ _) rfl ?_;exact⟨rfl,HP2.out,(Fr.set w ⟨g,j,none⟩ _ (by simp)).then (Fr.alloc [g] _ _)⟩
 by_cases h6:k=6
 .subst h6;have HP2:Hid (BR ((w.setCell ⟨g,j,none⟩ (.bool false)).alloc (.cells #[.int .i64 ((j:Int)+1),.int .u8 6,.int .i64 n,.int .i64 sx,.int .i64 c,.int .i64 m] 40)) g s):=by rw[E0,if_neg (by decide),if_pos rfl];exact ((HH.out _ (Fr.refl _ _)).put j false).keep (Fr.alloc [] _ _) (by simp)
  clear hB1 E0 HSe HE0;go_enter Tryz.func58,Tryz.ntmps58;go_wp2_with fail
  refine bodyPost_end (results_none rfl _ _ _) rfl ?_;exact⟨rfl,HP2.out,(Fr.set w ⟨g,j,none⟩ _ (by simp)).then (Fr.alloc [g] _ _)⟩
 have E:Hid (s=h):=by show _=_;rw[E0,if_neg h4,if_neg h6]
 clear c0 c1 hB1 E0;go_enter Tryz.func58,Tryz.ntmps58;go_wp2_with fail
 refine bodyPost_end (results_none rfl _ _ _) rfl ?_;exact⟨rfl,HE0.out _ (Fr.alloc _ _ _) E.out⟩
theorem zxp(a:Int)(e:Ev)(Q g:Nat)(h:List Bool)(w:World)(hQ:w.heap[Q]? = some (.cells #[.slice (some ⟨g,0,none⟩) h.length h.length] 121 (0,0)))(H:BR w g h)(hL:h.length<=16):Calls Tryz.prog 94 #[.int .i64 a,.agg (evA e.t e.k e.n e.s e.c e.m),.pointer (some ⟨Q,0,none⟩)] w fun x w'=>x=.returned (.int .i64 (max a (zbv h:Nat)))/\Fr [] w w':=by
 have HB:Hid (∀W,Fr [] w W->Calls Tryz.prog 95 #[.slice (some ⟨g,0,none⟩) h.length h.length] W fun x w'=>x=.returned (.int .i64 (zbv h:Nat))/\Fr [] W w'):=fun W hf=>zxo g h W (H.keep hf (by simp)) hL;have hq:∀W,Fr [] w W->W.cell? ⟨Q,0,none⟩=some (.slice (some ⟨g,0,none⟩) h.length h.length):=fun W hf=>by rw[crw (hf.keep hQ (by simp))];rfl
 generalize zbv h=B at HB ⊢;generalize h.length=L at HB hq;obtain⟨t,k,n,s,c,m⟩:=e;simp only[evA];have hq1:=hq _ (Fr.alloc [] w (.cells #[.int .i64 t,.int .u8 k,.int .i64 n,.int .i64 s,.int .i64 c,.int .i64 m] 40));clear hq hQ H hL;go_enter Tryz.func94,Tryz.ntmps94;go_wp2_with fail
 with_reducible refine (HB.out _ (Fr.alloc _ _ _)).mono ?_
 rintro e w1⟨rfl,hF1⟩;have HF1:Hid (Fr [] _ w1):=hF1;clear hF1 hq1 HB;go_wp2_with fail
 .go_ret;exact⟨by rw[show max a (B:Int)=B by omega];rfl,(Fr.alloc _ _ _).then HF1.out⟩
 go_ret;exact⟨by rw[show max a (B:Int)=a by omega];rfl,(Fr.alloc _ _ _).then HF1.out⟩
end Go.Proofs.YtaigdcmoecgabaaGreat.S6
