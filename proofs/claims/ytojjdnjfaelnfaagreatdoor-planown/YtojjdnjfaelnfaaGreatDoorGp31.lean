/- Contracts and lemmas. -/
import Derived.Test.YtojjdnjfaelnfaaGreatDoorGp11
set_option maxHeartbeats 4000000
set_option maxRecDepth 100000
set_option linter.unusedSimpArgs false
set_option linter.unusedVariables false
namespace Go.Proofs.YtojjdnjfaelnfaaGreatDoor.GT
open Go.ChangeShapes Go.WideShapes Go.ChangeAt Go.RowKit Go.Lib Go.Proofs.Tryz
structure Rv where
 n:Int
 bo:Option Addr
 bl:Nat
 bc:Nat
def Rv.cs(r:Rv):List Value:=[.int .i64 r.n,.slice r.bo r.bl r.bc]
def Rv.v(r:Rv):Value:=.agg #[.int .i64 r.n,.slice r.bo r.bl r.bc]
def Rv.zero:Rv:=⟨0,none,0,0⟩
theorem Rv.cs_length(r:Rv):r.cs.length=2:=rfl
def vals(xs:List Rv):List Value:=xs.flatMap Rv.cs
theorem zau(x:Rv)(xs:List Rv):vals (x::xs)=x.cs++vals xs:=rfl
theorem zaf(xs:List Rv):(vals xs).length=2*xs.length:=by
 induction xs with
 |nil=>rfl
 |cons x xs ih=>rw[zau,List.length_append,ih,Rv.cs_length,List.length_cons];omega
theorem zas(xs ys:List Rv):vals (xs++ys)=vals xs++vals ys:=by simp[vals]
theorem zat(xs:List Rv)(n:Nat):(vals xs).take (2*n)=vals (xs.take n):=by
 induction n generalizing xs with
 |zero=>simp[vals]
 |succ n ih=>
  cases xs with
  |nil=>simp[vals]
  |cons x xs=>
   rw[zau,List.take_succ_cons,zau,List.take_append,List.take_of_length_le (by rw[Rv.cs_length];omega),Rv.cs_length,show 2*(n+1)-2=2*n by omega,ih]
theorem zbd(xs:List Rv)(n:Nat):(vals xs).drop (2*n)=vals (xs.drop n):=by
 induction n generalizing xs with
 |zero=>simp
 |succ n ih=>
  cases xs with
  |nil=>simp[vals]
  |cons x xs=>
   rw[zau,List.drop_succ_cons,List.drop_append,List.drop_of_length_le (by rw[Rv.cs_length];omega),List.nil_append,Rv.cs_length,show 2*(n+1)-2=2*n by omega,ih]
theorem zdl(xs:List Rv)(j i:Nat)(h:j<xs.length)(hi:i<2):(vals xs)[2*j+i]? = (xs.getD j Rv.zero).cs[i]? :=by
 induction j generalizing xs with
 |zero=>
  cases xs with
  |nil=>simp at h
  |cons x xs=>
   rw[zau,Nat.mul_zero,Nat.zero_add,List.getElem?_append_left (by rw[Rv.cs_length];exact hi)];rfl
 |succ j ih=>
  cases xs with
  |nil=>simp at h
  |cons x xs=>
   rw[zau,List.getElem?_append_right (by rw[Rv.cs_length];omega),Rv.cs_length,show 2*(j+1)+i-2=2*j+i by omega,ih xs (by simpa using h)];rfl
theorem zcy(xs:List Rv)(j:Nat)(x:Rv)(h:j<xs.length):splice (vals xs) (2*j) x.cs=vals (xs.set j x):=by
 unfold splice;rw[zat,Rv.cs_length,show 2*j+2=2*(j+1) by omega,zbd,List.set_eq_take_append_cons_drop,if_pos h,zas,zau]
theorem zcz(xs:List Rv):∀u∈vals xs,u.oneCell'=true:=by
 intro u hu;obtain⟨x,_,hx⟩:=List.mem_flatMap.1 hu;simp only[Rv.cs,List.mem_cons,List.not_mem_nil,or_false]at hx;rcases hx with rfl|rfl<;>rfl
theorem zep(n:Nat):(madeCells Rv.zero.v.cells (n*2)).toList=vals (List.replicate n Rv.zero):=by
 apply List.ext_getElem?;intro q;have hl:(vals (List.replicate n Rv.zero)).length=2*n:=by rw[zaf,List.length_replicate]
 by_cases hq:q<2*n
 .have h1:2*(q/2)+q%2=q:=Nat.div_add_mod q 2;have h2:q%2<2:=Nat.mod_lt _ (by omega);have h3:q/2<n:=by omega
  have e:=zdl (List.replicate n Rv.zero) (q/2) (q%2) (by simpa using h3) h2;rw[h1]at e
  rw[e];have e2:(List.replicate n Rv.zero).getD (q/2) Rv.zero=Rv.zero:=by simp[List.getD,h3]
  rw[e2];have h4:q<n*2:=by omega
  have e3:(madeCells Rv.zero.v.cells (n*2)).toList[q]? = some (Rv.zero.v.cells[q%2]!):=by
   simp[madeCells,h4,Value.cells,Rv.v]
  rw[e3];have h5:q%2=0\/q%2=1:=by omega
  rcases h5 with h|h<;>rw[h]<;>rfl
 rw[List.getElem?_eq_none (by simp[size_madeCells];omega),List.getElem?_eq_none (by omega)]
def atN(F i N:Nat):Nat:=if F+i<N then F+i else F+i-N
theorem zdn{F i N:Nat}(hF:F<N)(hi:i<=N):(F+i)%N=atN F i N:=by
 unfold atN;split
 .exact Nat.mod_eq_of_lt (by assumption)
 rw[Nat.mod_eq_sub_mod (by omega),Nat.mod_eq_of_lt (by omega)]
theorem zbv{F i N:Nat}(hF:F<N)(hi:i<=N):atN F i N<N:=by
 unfold atN;split<;>omega
structure Pl(N F K:Nat)(ps xs:List Rv):Prop where
 len:ps.length=N
 cnt:xs.length=K
 fit:K<=N
 f0:N=0->F=0
 f1:0<N->F<N
 at_:∀i,i<K->ps.getD (atN F i N) Rv.zero=xs.getD i Rv.zero
theorem zbh(ps:List Rv)(i j:Nat)(x:Rv)(hi:i<ps.length):(ps.set i x).getD j Rv.zero=if i=j then x else ps.getD j Rv.zero:=by
 simp only[List.getD,List.getElem?_set];split
 .subst_vars
  simp[hi]
 rfl
theorem zeq(xs:List Rv)(x:Rv)(j:Nat):(xs++[x]).getD j Rv.zero=if j<xs.length then xs.getD j Rv.zero else if j=xs.length then x else Rv.zero:=by
 simp only[List.getD];split
 .rw[List.getElem?_append_left (by assumption)]
 rw[List.getElem?_append_right (by omega)];split
 .subst_vars;simp
 rw[List.getElem?_eq_none (by simp;omega)];rfl
theorem Pl.put{N F K:Nat}{ps xs:List Rv}(h:Pl N F K ps xs)(hK:K<N)(x:Rv):Pl N F (K+1) (ps.set (atN F K N) x) (xs++[x]):=by
 have hF:=h.f1 (by omega);refine⟨by rw[List.length_set];exact h.len,by rw[List.length_append,h.cnt];rfl,by omega,h.f0,h.f1,fun i hi=> ?_⟩;rw[zbh _ _ _ _ (by rw[h.len];exact zbv hF (by omega)),zeq,h.cnt];by_cases hiK:i<K
 .rw[if_neg (by unfold atN;split<;>split<;>omega),if_pos hiK];exact h.at_ i hiK
 obtain rfl:i=K:=by omega
 rw[if_pos rfl,if_neg (by omega),if_pos rfl]
theorem Pl.take{N F K:Nat}{ps xs:List Rv}{x:Rv}(h:Pl N F (K+1) ps (x::xs)):ps.getD F Rv.zero=x/\Pl N (atN F 1 N) K (ps.set F Rv.zero) xs:=by
 have hN:0<N:=by have:=h.fit;omega
 have hF:=h.f1 hN;have h0:=h.at_ 0 (by omega);have e0:atN F 0 N=F:=by unfold atN;rw[if_pos (by omega)];rfl
 rw[e0]at h0
 refine⟨by simpa using h0,by rw[List.length_set];exact h.len,by have:=h.cnt;simp at this;exact this,by have:=h.fit;omega,fun e=>by omega,fun _=>zbv hF (by omega),fun i hi=> ?_⟩;have hi1:=h.at_ (i+1) (by omega);have hfit:=h.fit;have e1:atN (atN F 1 N) i N=atN F (i+1) N:=by unfold atN;split<;>split<;>(try split)<;>omega
 rw[e1,zbh _ _ _ _ (by rw[h.len];exact hF),if_neg (by unfold atN;split<;>omega),hi1];rfl
def unr(F n:Nat)(ps:List Rv):List Rv:=(ps.drop F++ps.take F).take n++List.replicate (n-ps.length) Rv.zero
theorem zcc(F n:Nat)(ps:List Rv):(unr F n ps).length=n:=by
 simp[unr];omega
theorem zgv{F n N i:Nat}{ps:List Rv}(hN:ps.length=N)(hF:F<N)(hi:i<n)(hiN:i<N):(unr F n ps).getD i Rv.zero=ps.getD (atN F i N) Rv.zero:=by
 simp only[unr,List.getD]
 congr 1
 rw[List.getElem?_append_left (by simp;omega),List.getElem?_take_of_lt hi];unfold atN;split
 .rw[List.getElem?_append_left (by simp;omega),List.getElem?_drop]
 rw[List.getElem?_append_right (by simp;omega),List.getElem?_take_of_lt (by simp;omega)]
 congr 1
 simp;omega
theorem Pl.wide{N F K n:Nat}{ps xs:List Rv}(h:Pl N F K ps xs)(hn:N<=n)(hn0:0<n):Pl n 0 K (unr F n ps) xs:=by
 refine⟨zcc _ _ _,h.cnt,by have:=h.fit;omega,fun _=>rfl,fun h=>h,fun i hi=> ?_⟩;have hfit:=h.fit;have e0:atN 0 i n=i:=by unfold atN;rw[if_pos (by omega)];omega
 rw[e0,zgv h.len (h.f1 (by omega)) (by omega) (by omega)];exact h.at_ i hi
theorem Pl.nil:Pl 0 0 0 [] []:=⟨rfl,rfl,Nat.le_refl _,fun _=>rfl,fun h=>absurd h (by omega),fun i h=>absurd h (by omega)⟩
structure RgM(w:World)(g:Nat)(pb:Option Nat)(C N F K:Nat)(ps xs:List Rv)(cl:Bool):Prop where
 box:w.heap[g]? = some (.cells #[.int .i64 (C:Int),.slice (pb.map fun b=>⟨b,0,none⟩) N N,.int .i64 (F:Int),.int .i64 (K:Int),.bool cl] 286 (0,0))
 pl:Pl N F K ps xs
 row:∀b,pb=some b->w.heap[b]? = some (.cells (vals ps).toArray 108 (0,0))
 none_:pb=none↔N=0
 cap:1<=C/\C<=65536/\N<=C
def Rg(w:World)(g:Nat)(pb:Option Nat)(C:Nat)(xs:List Rv)(cl:Bool):Prop:=∃N F K ps,RgM w g pb C N F K ps xs cl
section
variable{w w':World}{g C N F K:Nat}{pb:Option Nat}{ps xs:List Rv}{cl:Bool}
theorem RgM.lt(h:RgM w g pb C N F K ps xs cl):g<w.heap.size:=lt_of_block h.box
theorem RgM.ne(h:RgM w g pb C N F K ps xs cl):pb≠some g:=by
 intro e;have h1:=h.row g e;rw[h.box]at h1
 simp at h1
theorem RgM.plt(h:RgM w g pb C N F K ps xs cl){b:Nat}(hb:pb=some b):b<w.heap.size:=lt_of_block (h.row b hb)
theorem RgM.keep{S:List Nat}(h:RgM w g pb C N F K ps xs cl)(hf:Fr S w w')(hg:g∉S)(hb:∀b,pb=some b->b∉S):RgM w' g pb C N F K ps xs cl:=
 ⟨hf.keep h.box hg,h.pl,fun b e=>hf.keep (h.row b e) (hb b e),h.none_,h.cap⟩
theorem RgM.c0(h:RgM w g pb C N F K ps xs cl):w.cell? ⟨g,0,none⟩=some (.int .i64 (C:Int)):=by rw[crw h.box];rfl
theorem RgM.c1(h:RgM w g pb C N F K ps xs cl):w.cell? ⟨g,1,none⟩=some (.slice (pb.map fun b=>⟨b,0,none⟩) N N):=by rw[crw h.box];rfl
theorem RgM.c2(h:RgM w g pb C N F K ps xs cl):w.cell? ⟨g,2,none⟩=some (.int .i64 (F:Int)):=by rw[crw h.box];rfl
theorem RgM.c3(h:RgM w g pb C N F K ps xs cl):w.cell? ⟨g,3,none⟩=some (.int .i64 (K:Int)):=by rw[crw h.box];rfl
theorem RgM.c4(h:RgM w g pb C N F K ps xs cl):w.cell? ⟨g,4,none⟩=some (.bool cl):=by rw[crw h.box];rfl
theorem RgM.fz(h:RgM w g pb C N F K ps xs cl)(i:Nat):w.frozen? ⟨g,i,none⟩=false:=by simp[World.frozen?,h.box]
theorem RgM.pc(h:RgM w g pb C N F K ps xs cl){b i:Nat}(hb:pb=some b)(hi:i<N):∀j v,(ps.getD i Rv.zero).cs[j]? = some v->w.cell? ⟨b,2*i+j,none⟩=some v:=by
 intro j v hj;have hj9:j<2:=by
  rcases Nat.lt_or_ge j 2 with h1|h1
  .exact h1
  rw[List.getElem?_eq_none (by rw[Rv.cs_length];exact h1)]at hj;cases hj
 rw[crw (h.row b hb),List.getElem?_toArray,zdl ps i j (by rw[h.pl.len];exact hi) hj9];exact hj
theorem RgM.pz(h:RgM w g pb C N F K ps xs cl){b:Nat}(hb:pb=some b)(i:Nat):w.frozen? ⟨b,i,none⟩=false:=by simp[World.frozen?,h.row b hb]
theorem Rg.keep{S:List Nat}(h:Rg w g pb C xs cl)(hf:Fr S w w')(hg:g∉S)(hb:∀b,pb=some b->b∉S):Rg w' g pb C xs cl:=by
 obtain⟨N,F,K,ps,h⟩:=h;exact⟨N,F,K,ps,h.keep hf hg hb⟩
theorem Rg.lt(h:Rg w g pb C xs cl):g<w.heap.size:=by obtain⟨N,F,K,ps,h⟩:=h;exact h.lt
theorem Rg.plt(h:Rg w g pb C xs cl){b:Nat}(hb:pb=some b):b<w.heap.size:=by obtain⟨N,F,K,ps,h⟩:=h;exact h.plt hb
end
def Rg.own(g:Nat)(pb:Option Nat):List Nat:=g::pb.toList
def Mv(n:Nat)(pb pb':Option Nat):Prop:=pb'=pb\/∃k,pb'=some k/\n<=k
theorem Mv.refl(n:Nat)(pb:Option Nat):Mv n pb pb:=Or.inl rfl
theorem gnew_any(c:Int)(w:World)(hc:1<=c/\c<=65536):Calls prog 151 #[.int .i64 c] w fun e w'=>∃g,e=.returned (.tuple #[.pointer (some ⟨g,0,none⟩),.int .i64 0])/\w.heap.size<=g/\Rg w' g none c.toNat [] false/\Fr [] w w':=by
 obtain⟨h1,h2⟩:=hc;have HM:Hid (Rg (w.alloc (.cells #[.int .i64 c,.slice none 0 0,.int .i64 0,.int .i64 0,.bool false] 286)) w.heap.size none c.toNat [] false):=by
  refine⟨0,0,0,[],?_,Pl.nil,fun b e=>(by cases e),⟨fun _=>rfl,fun _=>rfl⟩,by omega,by omega,by omega⟩;have e:((c.toNat:Nat):Int)=c:=by omega
  rw[e];exact heap_alloc_new w _
 go_enter func151,ntmps151;go_wp2;refine bodyPost_ret (results_tmp2 rfl _ _ _) rfl ?_;exact⟨w.heap.size,rfl,Nat.le_refl _,HM.out,Fr.alloc _ _ _⟩
section
variable{g C N F K:Nat}{pb:Option Nat}{ps xs:List Rv}{cl:Bool}
theorem zcd(w:World)(h:RgM w g pb C N F K ps xs cl):Calls prog 285 #[.pointer (some ⟨g,0,none⟩)] w fun e w'=>e=.returned (.bool true)/\w=w':=by
 have c0:=h.c0;have h1:decide (0<C)=true:=by have:=h.cap;simp;omega
 clear h;go_enter func285,ntmps285;go_wp2;go_ret;exact⟨rfl,rfl⟩
theorem glen_any(w:World)(h:RgM w g pb C N F K ps xs cl):Calls prog 291 #[.pointer (some ⟨g,0,none⟩)] w fun e w'=>e=.returned (.int .i64 (K:Int))/\w=w':=by
 have c3:=h.c3;have HT:Hid (Calls ..):=zcd w h;clear h;go_enter func291,ntmps291;go_wp2_with fail
 refine Calls.mono HT.out ?_;rintro e w1⟨rfl,rfl⟩;go_wp2;go_ret;exact⟨rfl,rfl⟩
theorem zda(w:World)(h:RgM w g pb C N F K ps xs cl)(R:Nat)(hR:R=if cl then 0 else C-K):Calls prog 282 #[.pointer (some ⟨g,0,none⟩)] w fun e w'=>e=.returned (.int .i64 (R:Int))/\Fr [] w w':=by
 have HT:Hid (Calls ..):=zcd w h;have c0:=h.c0;have c3:=h.c3;have c4:=h.c4;have h1:K<=C:=by have:=h.cap;have:=h.pl.fit;omega
 have h2:C<=65536:=h.cap.2.1;cases cl with
 |true=>
  obtain rfl:R=0:=by simpa using hR
  clear h hR;go_enter func282,ntmps282;go_wp2_with fail
  refine Calls.mono HT.out ?_;rintro e w1⟨rfl,rfl⟩;go_wp2;go_ret;exact⟨rfl,Fr.refl _ _⟩
 |false=>
  have HR:Hid (R=C-K):=by show R=C-K;simpa using hR
  have hw:IntKind.i64.wrap ((C:Int)-(K:Int))=((R:Nat):Int):=by
   have:=HR.out;rw[IntKind.wrap_i64];omega
  clear h hR;go_enter func282,ntmps282;go_wp2_with fail
  refine Calls.mono HT.out ?_;rintro e w1⟨rfl,rfl⟩;go_wp2_with fail
  go_quiet (fail)
  go_wp2;go_ret;refine⟨?_,Fr.drewN _ _ _⟩;rfl
theorem zce(w:World)(n:Nat)(P:Nat)(h:RgM w g pb C N F K ps xs cl)(hN:0<N)(hn:n<=N)(hP:P=atN F n N):Calls prog 284 #[.pointer (some ⟨g,0,none⟩),.int .i64 (n:Int)] w fun e w'=>e=.returned (.int .i64 (P:Int))/\Fr [] w w':=by
 have c1:=h.c1;have c2:=h.c2;have hF:=h.pl.f1 hN;have h2:N<=65536:=by have:=h.cap;omega
 have hm:((F:Int)+(n:Int)).tmod (N:Int)=(P:Int):=by
  rw[hP,<-zdn hF hn]
  norm_cast
 have hm2:((F:Int)+(n:Int))%(N:Int)=(P:Int):=by
  rw[hP,<-zdn hF hn]
  norm_cast
 obtain⟨q,hq⟩:∃q,q=pb.map fun b=>(⟨b,0,none⟩:Addr):=⟨_,rfl⟩;rw[<-hq]at c1
 have hN0:¬(N:Int)=0:=by omega
 have hN1:¬N=0:=by omega
 clear h hP hq;go_enter func284,ntmps284;go_wp2_with fail
 go_quiet (fail)
 go_wp2;go_ret;refine⟨?_,Fr.drewN _ _ _⟩;first
  |rw[hm]
  |rw[hm2]
  |rfl
theorem RgM.some_{w:World}(h:RgM w g pb C N F K ps xs cl)(hN:0<N):∃b,pb=some b:=by
 cases pb with
 |none=>have:=h.none_.1 rfl;omega
 |some b=>exact⟨b,rfl⟩
end
theorem zbl:prog.underlying 24=some (.slice 108):=by kernel_rfl
theorem zmo:(prog.info? 108).map (fun i=>(i.zero,i.size,i.bytes))=some (some Rv.zero.v,2,32):=by kernel_rfl
theorem zer:∃i,prog.info? 108=some i/\i.zero=some Rv.zero.v/\i.size=2/\i.bytes=32:=by
 have h:=zmo;cases hi:prog.info? 108 with
 |none=>rw[hi]at h;cases h
 |some i=>
  rw[hi]at h
  simp only[Option.map_some,Option.some.injEq,Prod.mk.injEq]at h;exact⟨i,rfl,h.1,h.2.1,h.2.2⟩
theorem zff{w:World}{b j:Nat}{cs:Array Value}{t:TypeId}(x:Value)(h:w.heap[b]? = some (.cells cs t (0,0))):(w.setCell ⟨b,j,none⟩ x).heap[b]? = some (.cells (cs.setIfInBounds j x) t (0,0)):=by
 have hlt:=lt_of_block h;have h':w.heap[b]=.cells cs t (0,0):=by simpa[Array.getElem?_eq_getElem hlt]using h
 show (w.heap.modify b _)[b]? = _;rw[Array.getElem?_eq_getElem (by simpa using hlt),Array.getElem_modify_self,h'];rfl
theorem zbq{b:Nat}{t:TypeId}:∀(vs:List Value)(o:Nat)(w:World)(cur:Array Value),w.heap[b]? = some (.cells cur t (0,0))->o+vs.length<=cur.size->(w.setCells b o vs).heap[b]? = some (.cells (splice cur.toList o vs).toArray t (0,0))/\Fr [b] w (w.setCells b o vs)
 | [],o,w,cur,h,hl=>by
  refine⟨?_,Fr.refl _ _⟩;rw[World.setCells,h];simp[splice]
 |v::r,o,w,cur,h,hl=>by
  simp only[List.length_cons]at hl;have h1:=zff (j:=o) v h;obtain⟨h2,h3⟩:=zbq r (o+1) (w.setCell ⟨b,o,none⟩ v) _ h1 (by simp;omega);rw[World.setCells];refine⟨?_,(Fr.set (S:=[b]) _ _ _ (by simp)).then h3⟩;rw[h2]
  congr 3
  have e:=list_seg_step cur.toList o v r (by simp;omega);simp only[splice,Array.toList_setIfInBounds];rw[<-List.append_assoc,e];simp[Nat.add_assoc,Nat.add_comm 1]
theorem zes(P:Program)(w:World)(dT sT ty elem:TypeId)(g o dLen dCap:Nat)(a:Addr)(sLen sCap:Nat)(cur:Array Value)(t:TypeId)(cs:List Value)(sz n:Nat)(hu:P.underlying dT=some (.slice elem))(hs:(P.info? elem).map (·.size)=some sz)(hg:w.heap[g]? = some (.cells cur t (0,0)))(hm:n=Nat.min sLen dLen)(hn:cs.length=n*sz)(hsrc:∀j v,cs[j]? = some v->w.cell? (a.add j)=some v)(hfit:o+cs.length<=cur.size)(h1:∀v∈cs,v.oneCell'=true) :
  (Builtin.copy_ #[dT,sT] ty #[.slice (some ⟨g,o,none⟩) dLen dCap,.slice (some a) sLen sCap]).run P w =
   .ok (goInt n) (w.setRow g (cur.toList.take o++cs++cur.toList.drop (o+cs.length)).toArray):=by
 have hl:=run_loadCells_list (P:=P) w a cs hsrc;have hst:=run_storeCells_at P g o t cs 0 cur w hg (by simpa using hfit) h1;cases hq:P.info? elem with
 |none=>simp[hq]at hs
 |some i=>
  have hi:i.size=sz:=by simpa[hq]using hs
  simp[Builtin.copy_,run_underlying hu,Builtin.lenOf,Builtin.firstCells,sizeOf,typeInfo,hq,hi,<-hm,<-hn,hl,hst]
theorem zco(P:Program)(w:World)(dT sT ty elem:TypeId)(d a:Option Addr)(dLen dCap sLen sCap sz:Nat)(hu:P.underlying dT=some (.slice elem))(hs:(P.info? elem).map (·.size)=some sz)(hn:Nat.min sLen dLen=0) :
  (Builtin.copy_ #[dT,sT] ty #[.slice d dLen dCap,.slice a sLen sCap]).run P w=.ok (goInt 0) w:=by
 cases hq:P.info? elem with
 |none=>simp[hq]at hs
 |some i=>
  have hl:∀(x:Addr),(loadCells x 0).run P w=.ok #[] w:=fun x=>by simpa using run_loadCells_list (P:=P) w x [] (by simp)
  cases d<;>cases a<;>simp[Builtin.copy_,run_underlying hu,Builtin.lenOf,Builtin.firstCells,sizeOf,typeInfo,hq,hn,storeCells,hl]
theorem zaq{P:Program}{ops:Array Oper}{o:Oper}{a:Act}{w:World}{K:Act->World->Prop}{Q:Exit->Act->World->Prop}{E:Prop}(hgd:o.guard=none)(d s:Operand)(dT sT:TypeId)(ho:o.op=.call {callee:=.builtin .copy,args:=#[d,s],argTypes:=#[dT,sT]})(elem:TypeId)(hu:P.underlying dT=some (.slice elem))(sz:Nat)(hsz:(P.info? elem).map (·.size)=some sz)(dp sp:Option Addr)(dLen dCap sLen sCap:Nat)(hd:a.eval d=.slice dp dLen dCap)(hs:a.eval s=.slice sp sLen sCap)(g off:Nat)(cur:List Value)(t:TypeId)(hg:w.heap[g]? = some (.cells cur.toArray t (0,0)))(cs:List Value)(n:Nat)(hm:n=Nat.min sLen dLen)(hn:cs.length=n*sz)(hpos:0<n->dp=some ⟨g,off,none⟩/\∃ad,sp=some ad/\∀j v,cs[j]? = some v->w.cell? (ad.add j)=some v)(hfit:off+cs.length<=cur.length)(h1:∀v∈cs,v.oneCell'=true)(B:Nat)(w0:World)(hb:RowKit.Below B w0 w)(hBg:B<=g)(h:∀w',RowKit.Hid (w'.heap[g]? = some (.cells (splice cur off cs).toArray t (0,0)))->RowKit.Below B w0 w'->K (a.put o.dst (goInt n)) w') :
  if Region.wanted o (yielded ops a.tmps)=true then Oper.wp P o a w K Q else E:=by
 have hw:Region.wanted o (yielded ops a.tmps)=true:=by simp[Region.wanted,hgd]
 rw[if_pos hw];by_cases h0:n=0
 .subst h0;obtain rfl:cs=[]:=List.eq_nil_of_length_eq_zero (by rw[hn,Nat.zero_mul]);have hrun:=zco P w dT sT o.type elem dp sp dLen dCap sLen sCap sz hu hsz hm.symm;unfold Oper.wp;simp[execOp,ho,resolve,invoke,builtin,hd,hs,hrun,Result.andThen];exact h w (show _=_ by simpa[splice]using hg) hb
 obtain⟨rfl,ad,rfl,hsrc⟩:=hpos (by omega);have hrun:=zes P w dT sT o.type elem g off dLen dCap ad sLen sCap cur.toArray t cs sz n hu hsz hg hm hn hsrc (by simpa using hfit) h1;unfold Oper.wp;simp[execOp,ho,resolve,invoke,builtin,hd,hs,hrun,Result.andThen];exact h _ (show _=_ by simpa[splice]using setRow_heap w g _ _ t _ hg) (below_setRow hb hBg _)
theorem zch:(prog.info? 108).map (fun i=>i.size)=some 2:=by kernel_rfl
def ERow(w:World)(g:Nat)(xs:List Rv):Prop:=w.heap[g]? = some (.cells (vals xs).toArray 108 (0,0))
section
variable{g C N F K:Nat}{pb:Option Nat}{ps xs:List Rv}{cl:Bool}
theorem zgx{n D:Nat}(hl:ps.length=N)(hF:F<N)(hD:D=min (N-F) n) :
  splice (splice (vals (List.replicate n Rv.zero)) 0 (vals ((ps.drop F).take n))) (D*2) (vals ((ps.take F).take (n-D)))=vals (unr F n ps):=by
 rw[Nat.mul_comm D 2];have e1:((ps.drop F).take n).length=D:=by simp;omega
 have e2:splice (vals (List.replicate n Rv.zero)) 0 (vals ((ps.drop F).take n))=vals ((ps.drop F).take n++List.replicate (n-D) Rv.zero):=by
  unfold splice;rw[zaf,e1,zas,List.take_zero,List.nil_append,Nat.zero_add,zbd,List.drop_replicate]
 rw[e2];unfold splice unr;rw[zat,zaf,<-Nat.mul_add,zbd,<-zas,<-zas,List.take_append_of_le_length (by omega),List.take_of_length_le (by omega),List.take_append,List.append_assoc]
 congr 2
 have e3:(ps.drop F).length=N-F:=by simp;omega
 rw[e3];by_cases hn:n<=N-F
 .obtain rfl:D=n:=by omega
  rw[Nat.sub_self,show D-(N-F)=0 by omega,show D-ps.length=0 by omega];simp
 obtain rfl:D=N-F:=by omega
 congr 1
 rw[List.drop_append,e1,List.drop_replicate];have:((ps.take F).take (n-(N-F))).length=min F (n-(N-F)):=by simp;omega
 rw[this,List.drop_of_length_le (by omega),List.nil_append]
 congr 1
 omega
theorem zfi(w:World)(n:Nat)(h:RgM w g pb C N F K ps xs cl)(hn:1<=n/\n<=65536) :
  Calls prog 286 #[.pointer (some ⟨g,0,none⟩),.int .i64 (n:Int)] w fun e w'=>∃k,e=.returned (.slice (some ⟨k,0,none⟩) n n)/\w.heap.size<=k/\ERow w' k (unr F n ps)/\Fr [] w w':=by
 obtain⟨hn1,hn2⟩:=hn;obtain⟨i0,hi0,hz00,hz1,hz2⟩:=zer;have hz0:i0.zero=some (.agg #[.int .i64 0,.slice none 0 0]):=hz00;clear hz00;have HM:Hid (RgM w g pb C N F K ps xs cl):=h;have hgl:=h.lt;have hNC:N<=65536:=by have:=h.cap;omega
 by_cases hN:0<N
 .have hF:=h.pl.f1 hN;obtain⟨b,rfl⟩:=h.some_ hN;have HK:Hid (∀W,Fr [] w W->RgM W g (some b) C N F K ps xs cl):=fun W hf=>h.keep hf (by simp) (by simp);have hbl:=h.plt rfl;obtain⟨D,hD⟩:∃D,D=min (N-F) n:=⟨_,rfl⟩;have HU:Hid (_=_):=zgx (n:=n) h.pl.len hF hD;obtain⟨X1,hX1⟩:∃X1,X1=vals ((ps.drop F).take n):=⟨_,rfl⟩;obtain⟨X2,hX2⟩:∃X2,X2=vals ((ps.take F).take (n-D)):=⟨_,rfl⟩;obtain⟨Z0,hZ0⟩:∃Z0,Z0=vals (List.replicate n Rv.zero):=⟨_,rfl⟩;rw[<-hX1,<-hX2,<-hZ0]at HU
  have hl1:X1.length=2*D:=by rw[hX1,zaf];simp;have:=h.pl.len;omega
  have hl2:X2.length=2*min F (n-D):=by rw[hX2,zaf];simp;have:=h.pl.len;omega
  have hl0:Z0.length=2*n:=by rw[hZ0,zaf];simp
  have HL:Hid (X1.length=2*D/\X2.length=2*min F (n-D)/\Z0.length=2*n/\D=min (N-F) n):=⟨hl1,hl2,hl0,hD⟩;have o1:Hid (∀v∈X1,v.oneCell'=true):=by rw[hX1];exact zcz _
  have o2:Hid (∀v∈X2,v.oneCell'=true):=by rw[hX2];exact zcz _
  have H1:Hid (∀W,Fr [] w W->∀j v,X1[j]? = some v->W.cell? ((⟨b,F*2,none⟩:Addr).add j)=some v):=by
   intro W hf j v hj;rw[hX1,<-zat,<-zbd,List.getElem?_take]at hj
   split at hj
   .rw[Nat.mul_comm F 2,Addr.add_lit,crw ((HK.out W hf).row b rfl),List.getElem?_toArray];rw[List.getElem?_drop]at hj
    exact hj
   cases hj
  have H2:Hid (∀W,Fr [] w W->∀j v,X2[j]? = some v->W.cell? ((⟨b,0,none⟩:Addr).add j)=some v):=by
   intro W hf j v hj;rw[hX2,<-zat,<-zat,List.take_take,List.getElem?_take]at hj
   split at hj
   .rw[Addr.add_lit,crw ((HK.out W hf).row b rfl),List.getElem?_toArray,Nat.zero_add];exact hj
   cases hj
  have hDn:D<=n:=by omega
  clear hl1 hl2 hl0 hX1 hX2 hD;have HZ0:Hid (Z0=vals (List.replicate n Rv.zero)):=hZ0;clear hZ0 h;go_enter func286,ntmps286;go_wp2_with (at_make;refine wpList_make_full _ rfl (.tmp 7) (.tmp 7) 24 rfl 0 108 i0 _ 2 zbl hi0 hz0 hz1 .i64 .i64 (n:Int) (n:Int) n rfl rfl rfl rfl ?b2 ?b3 ?b4 ?_)
  case b2=>rw[hz2];omega
  case b3=>unfold maxLen;omega
  case b4=>exact Nat.zero_le _
  intro w1 hown hgrow;obtain⟨k,hk⟩:∃k,k=w.heap.size:=⟨_,rfl⟩;have hr1:w1.heap[k]? = some (.cells Z0.toArray 108 (0,0)):=by
   have hm:(madeCells #[.int .i64 0,.slice none 0 0] (n*2)).toList=Z0:=by rw[HZ0.out];exact zep n
   simp only[hm,<-hk]at hown;rcases hown.2 with⟨hv,_⟩|⟨g',cap',cur,hv,_,hb,_,_,hcs,ht⟩
   .cases hv
   cases hv;have:cur=Z0.toArray:=by
    apply Array.ext';rw[<-ht,List.take_of_length_le];rw[Array.length_toList,hcs];exact Nat.le_refl _
   rw[<-this];exact hb
  have hF1:Fr [] w w1:=Fr.grown (S:=[]) hgrow (by simp);have hM1:=HK.out w1 hF1;have c1:=hM1.c1;have c2:=hM1.c2;simp only[Option.map_some]at c1;rw[<-hk];have hkw:w.heap.size<=k:=by omega
  have hF':F<=N:=by omega
  have hNF:¬N=F:=by omega
  clear hown hgrow hk;go_wp2_with fail
  have hbel:∀q,Below w.heap.size w (w1.drewN q):=fun q=>(hF1.then (Fr.drewN [] w1 q)).below (Nat.le_refl _) (by simp);have HB:Hid (∀W,Below w.heap.size w W->Fr [] w W/\W.cell? ⟨g,1,none⟩=some (.slice (some ⟨b,0,none⟩) N N)/\W.cell? ⟨g,2,none⟩=some (.int .i64 (F:Int))):=fun W hb=>by
   have hf:Fr [] w W:=⟨hb.os,hb.tape,hb.output,hb.size,fun k hk _=>hb.block k hk⟩;exact⟨hf,(HK.out W hf).c1,(HK.out W hf).c2⟩
  go_region_held3 (fun W=>W.cell? ⟨g,1,none⟩=some (.slice (some ⟨b,0,none⟩) N N)/\W.cell? ⟨g,2,none⟩=some (.int .i64 (F:Int))) (go_keep)
   ((refine zaq (by rfl) (.tmp 9) (.tmp 18) 24 24 (by rfl) 108 zbl 2 zch (some ⟨k,0,none⟩) (some ⟨b,F*2,none⟩) n n (N-F) (N-F) (by rfl) (by rfl) k 0 Z0 108 hr1 X1 D (by have:=HL.out;show _=min _ _;omega) (by have:=HL.out;omega) (fun _=>⟨rfl,_,rfl,H1.out _ (hF1.then (Fr.drewN [] w1 _))⟩) (by have:=HL.out;omega) o1.out w.heap.size w (hbel _) hkw ?_;intro w2 HR2 hb2;obtain⟨hF2,d1,d2⟩:=HB.out w2 hb2))
  clear c1 c2 hM1 hr1 hbel hb2;have hbel:∀q,Below w.heap.size w (w2.drewN q):=fun q=>(hF2.then (Fr.drewN [] w2 q)).below (Nat.le_refl _) (by simp);have HR2':=HR2.out;have HLs:Hid ((splice Z0 0 X1).length=2*n):=by
   show _=_;have:=HL.out;rw[length_splice _ _ _ (by omega)];omega
  by_cases hDe:n=D
  .have hx2:X2=[]:=List.eq_nil_of_length_eq_zero (by have:=HL.out;omega);have HR3:Hid (splice (splice Z0 0 X1) 0 []=vals (unr F n ps)):=by
    show _=_;rw[<-HU.out,hx2];have e:∀(L:List Value) D,splice L D []=L:=by intro L D;simp[splice]
    rw[e,e]
   clear hx2;go_wp2_with fail
   go_region_held3 (fun W=>W.cell? ⟨g,1,none⟩=some (.slice (some ⟨b,0,none⟩) N N)/\W.cell? ⟨g,2,none⟩=some (.int .i64 (F:Int))) (go_keep)
    ((refine zaq (by rfl) (.tmp 22) (.tmp 31) 24 24 (by rfl) 108 zbl 2 zch _ _ _ _ _ _ (by rfl) (by rfl) k 0 _ 108 HR2' [] 0 (by show _=min _ _;simp) (by simp) (fun h=>absurd h (by simp)) (by simp) (by simp) w.heap.size w (hbel _) hkw ?_;intro w3 HR4 hb3;obtain⟨hF3,e1,e2⟩:=HB.out w3 hb3))
   go_wp2;go_ret;refine⟨k,rfl,hkw,?_,hF3⟩;unfold ERow;rw[<-HR3.out];exact HR4.out
  go_wp2_with fail
  go_region_held3 (fun W=>W.cell? ⟨g,1,none⟩=some (.slice (some ⟨b,0,none⟩) N N)/\W.cell? ⟨g,2,none⟩=some (.int .i64 (F:Int))) (go_keep)
   ((refine zaq (by rfl) (.tmp 22) (.tmp 31) 24 24 (by rfl) 108 zbl 2 zch (some ⟨k,D*2,none⟩) (some ⟨b,0,none⟩) (n-D) (n-D) F N (by rfl) (by rfl) k (D*2) _ 108 HR2' X2 (min F (n-D)) (by have:=HL.out;show _=min _ _;omega) (by have:=HL.out;omega) (fun _=>⟨rfl,_,rfl,H2.out _ (hF2.then (Fr.drewN [] w2 _))⟩) (by rw[HLs.out];have:=HL.out;omega) o2.out w.heap.size w (hbel _) hkw ?_;intro w3 HR4 hb3;obtain⟨hF3,e1,e2⟩:=HB.out w3 hb3))
  go_wp2;go_ret;refine⟨k,rfl,hkw,?_,hF3⟩;unfold ERow;rw[<-HU.out];exact HR4.out
 obtain rfl:N=0:=by omega
 obtain rfl:=h.none_.2 rfl;obtain rfl:=h.pl.f0 rfl;have hps:ps=[]:=List.eq_nil_of_length_eq_zero h.pl.len;have HK:Hid (∀W,Below w.heap.size w W->Fr [] w W/\W.cell? ⟨g,1,none⟩=some (.slice none 0 0)/\W.cell? ⟨g,2,none⟩=some (.int .i64 0)):=fun W hb=>by
  have hf:Fr [] w W:=⟨hb.os,hb.tape,hb.output,hb.size,fun k hk _=>hb.block k hk⟩;have:=h.keep hf (by simp) (by simp);exact⟨hf,this.c1,this.c2⟩
 have HU:Hid (vals (List.replicate n Rv.zero)=vals (unr 0 n ps)):=by
  show _=_;rw[hps];simp[unr]
 clear hps h;go_enter func286,ntmps286;go_wp2_with (at_make;refine wpList_make_full _ rfl (.tmp 7) (.tmp 7) 24 rfl 0 108 i0 _ 2 zbl hi0 hz0 hz1 .i64 .i64 (n:Int) (n:Int) n rfl rfl rfl rfl ?b2 ?b3 ?b4 ?_)
 case b2=>rw[hz2];omega
 case b3=>unfold maxLen;omega
 case b4=>exact Nat.zero_le _
 intro w1 hown hgrow;obtain⟨k,hk⟩:∃k,k=w.heap.size:=⟨_,rfl⟩;have hr1:w1.heap[k]? = some (.cells (vals (unr 0 n ps)).toArray 108 (0,0)):=by
  have hm:(madeCells #[.int .i64 0,.slice none 0 0] (n*2)).toList=vals (unr 0 n ps):=by rw[<-HU.out];exact zep n
  simp only[hm,<-hk]at hown;rcases hown.2 with⟨hv,_⟩|⟨g',cap',cur,hv,_,hb,_,_,hcs,ht⟩
  .cases hv
  cases hv;have:cur=(vals (unr 0 n ps)).toArray:=by
   apply Array.ext';rw[<-ht,List.take_of_length_le];rw[Array.length_toList,hcs];exact Nat.le_refl _
  rw[<-this];exact hb
 obtain⟨X,hX⟩:∃X,X=vals (unr 0 n ps):=⟨_,rfl⟩;rw[<-hX]at hr1
 have HX:Hid (X=vals (unr 0 n ps)):=hX;have hXl:Hid (X.length=2*n):=by show _=_;rw[hX,zaf,zcc]
 have hF1:Fr [] w w1:=Fr.grown (S:=[]) hgrow (by simp);have hb1:Below w.heap.size w w1:=hF1.below (Nat.le_refl _) (by simp);obtain⟨_,c1,c2⟩:=HK.out w1 hb1;rw[<-hk];have hkw:w.heap.size<=k:=by omega
 clear hown hgrow hk hX;have hbel:∀q,Below w.heap.size w (w1.drewN q):=fun q=>(hF1.then (Fr.drewN [] w1 q)).below (Nat.le_refl _) (by simp);go_wp2_with fail
 go_region_held3 (fun W=>W.cell? ⟨g,1,none⟩=some (.slice none 0 0)/\W.cell? ⟨g,2,none⟩=some (.int .i64 0)) (go_keep)
  ((refine zaq (by rfl) (.tmp 9) (.tmp 18) 24 24 (by rfl) 108 zbl 2 zch _ _ _ _ _ _ (by rfl) (by rfl) k 0 X 108 hr1 [] 0 (by show _=min _ _;simp) (by simp) (fun h=>absurd h (by simp)) (by simp) (by simp) w.heap.size w (hbel _) hkw ?_;intro w2 HR2 hb2;obtain⟨hF2,d1,d2⟩:=HK.out w2 hb2))
 have e:splice X 0 []=X:=by simp[splice]
 rw[e]at HR2
 have hr2:=HR2.out;clear HR2 e hbel;have hbel:∀q,Below w.heap.size w (w2.drewN q):=fun q=>(hF2.then (Fr.drewN [] w2 q)).below (Nat.le_refl _) (by simp);have hn0:¬n=0:=by omega
 go_wp2_with fail
 go_region_held3 (fun W=>W.cell? ⟨g,1,none⟩=some (.slice none 0 0)/\W.cell? ⟨g,2,none⟩=some (.int .i64 0)) (go_keep)
  ((refine zaq (by rfl) (.tmp 22) (.tmp 31) 24 24 (by rfl) 108 zbl 2 zch _ _ _ _ _ _ (by rfl) (by rfl) k 0 X 108 hr2 [] 0 (by show _=min _ _;simp) (by simp) (fun h=>absurd h (by simp)) (by simp) (by simp) w.heap.size w (hbel _) hkw ?_;intro w3 HR3 hb3;obtain⟨hF3,e1,e2⟩:=HK.out w3 hb3))
 go_wp2;go_ret;refine⟨k,rfl,hkw,?_,hF3⟩;unfold ERow;rw[<-HX.out];have e:splice X 0 []=X:=by simp[splice]
 rw[<-e];exact HR3.out
theorem zdt(w:World)(h:RgM w g pb C N F K ps xs cl)(hNC:N<C) :
  Calls prog 283 #[.pointer (some ⟨g,0,none⟩)] w fun e w'=>(∃v,e=.returned v)/\∃k M,w.heap.size<=k/\N<M/\RgM w' g (some k) C M 0 K (unr F M ps) xs cl/\Fr [g] w w':=by
 obtain⟨hC1,hC2,_⟩:=h.cap;have HM:Hid (RgM w g pb C N F K ps xs cl):=h;have c0:=h.c0;have c1:=h.c1;obtain⟨q,hq⟩:∃q,q=pb.map fun b=>(⟨b,0,none⟩:Addr):=⟨_,rfl⟩;rw[<-hq]at c1
 have HW:Hid (∀k M (v:Value) W,N<M->M<=C->v=.slice (some ⟨k,0,none⟩) M M->w.heap.size<=k->ERow W k (unr F M ps)->Fr [] w W->RgM ((W.setCell ⟨g,1,none⟩ v).setCell ⟨g,2,none⟩ (.int .i64 0)) g (some k) C M 0 K (unr F M ps) xs cl/\Fr [g] w ((W.setCell ⟨g,1,none⟩ v).setCell ⟨g,2,none⟩ (.int .i64 0))/\W.cell? ⟨g,1,none⟩=some (.slice q N N)/\W.frozen? ⟨g,1,none⟩=false/\(W.setCell ⟨g,1,none⟩ v).cell? ⟨g,2,none⟩=some (.int .i64 (F:Int))/\(W.setCell ⟨g,1,none⟩ v).frozen? ⟨g,2,none⟩=false):=by
  intro k M v W hNM hMC hv hk hE hf;subst hv;have hW:=h.keep hf (by simp) (by simp);have hgk:k≠g:=by have:=h.lt;omega
  have hb1:=zaa (j:=1) (.slice (some ⟨k,0,none⟩) M M) hW.box;have hb2:=zaa (j:=2) (.int .i64 0) hb1;have hfr:Fr [g] W ((W.setCell ⟨g,1,none⟩ (.slice (some ⟨k,0,none⟩) M M)).setCell ⟨g,2,none⟩ (.int .i64 0)):=(Fr.set (S:=[g]) _ _ _ (by simp)).then (Fr.set (S:=[g]) _ _ _ (by simp));refine⟨⟨?_,h.pl.wide (by omega) (by omega),fun b e=> ?_,⟨fun e=>(by cases e),fun e=>(by omega)⟩,by omega,by omega,by omega⟩,(hf.mono (by simp)).then hfr,by rw[hq];exact hW.c1,hW.fz 1,?_,?_⟩
  .rw[hb2];rfl
  .cases e;exact hfr.keep hE (by simp;exact hgk)
  .rw[crw hb1];rfl
  simp[World.frozen?,hb1]
 have HU:Hid (∀M,1<=M/\M<=65536->Calls ..):=fun M hM=>zfi w M h hM;clear h hq;by_cases hN:N=0
 .subst hN;have h1:¬(C:Int)<1:=by omega
  have h2:(1:Int)<=(C:Int):=by omega
  have HC:=HU.out 1 (by omega);go_enter func283,ntmps283;go_wp2_with fail
  refine HC.mono ?_;rintro e w1⟨k,rfl,hk,hE,hF1⟩;obtain⟨hR,hG,f1,z1,f2,z2⟩:=HW.out k _ _ w1 (by omega) (by omega) rfl hk hE hF1;have HR:Hid (_/\_):=And.intro hR hG;clear hR hG hE;go_wp2
  go_end0
  exact⟨⟨_,rfl⟩,k,1,hk,by omega,HR.out.1,HR.out.2⟩
 by_cases h2:2*N<=C
 .have h3:(1:Int)<2*(N:Int):=by omega
  have h4:2*(N:Int)<=(C:Int):=by omega
  have HC:=HU.out (2*N) (by omega);rw[show ((2*N:Nat):Int)=2*(N:Int) by omega]at HC
  go_enter func283,ntmps283;go_wp2_with fail
  refine HC.mono ?_;rintro e w1⟨k,rfl,hk,hE,hF1⟩;obtain⟨hR,hG,f1,z1,f2,z2⟩:=HW.out k _ _ w1 (by omega) (by omega) rfl hk hE hF1;have HR:Hid (_/\_):=And.intro hR hG;clear hR hG hE;go_wp2
  go_end0
  exact⟨⟨_,rfl⟩,k,2*N,hk,by omega,HR.out.1,HR.out.2⟩
 have h3:(1:Int)<2*(N:Int):=by omega
 have h4:(C:Int)<2*(N:Int):=by omega
 have HC:=HU.out C (by omega);go_enter func283,ntmps283;go_wp2_with fail
 refine HC.mono ?_;rintro e w1⟨k,rfl,hk,hE,hF1⟩;obtain⟨hR,hG,f1,z1,f2,z2⟩:=HW.out k _ _ w1 (by omega) (by omega) rfl hk hE hF1;have HR:Hid (_/\_):=And.intro hR hG;clear hR hG hE;go_wp2
 go_end0
 exact⟨⟨_,rfl⟩,k,C,hk,by omega,HR.out.1,HR.out.2⟩
end
theorem zbx{fn:Func}{p u:Tmp}{ty:TypeId}(h:fn.results= #[.cell p ty,.tmp u])(tmps:Array Value)(P:Program)(w:World)(g:Nat)(v:Value)(hp:tmps.getD p undef=.pointer (some ⟨g,0,none⟩))(hld:(loadVar ty ⟨g,0,none⟩).run P w=.ok v w) :
  (results fn tmps).run P w=.ok (.tuple #[v,tmps.getD u undef]) w:=by
 simp only[results,h];simp[Sem.run_bind,Result.andThen,<-Array.getD_eq_getD_getElem?,hp,asAddr,hld]
theorem zgw(r:Rv):(#[Value.int .i64 r.n,.slice r.bo r.bl r.bc]:Array Value).all (·.oneCell')=true:=by simp[Value.oneCell']
theorem zfg{w:World}{g:Nat}(x:Rv)(h:w.heap[g]? = some (.cells #[.int .i64 x.n,.slice x.bo x.bl x.bc] 108 (0,0))):(loadVar 108 ⟨g,0,none⟩).run prog w=.ok x.v w:=
 run_loadVar_row (P:=prog) _ g _ 108 _ _ (.struct (prog.fieldsOf 108)) h (by kernel_rfl) rfl (by kernel_rfl)
theorem zbi{w:World}{ops:Array Oper}{rest:List Oper}{o:Oper}{a:Act}{Q:Exit->Act->World->Prop}(hgd:o.guard=none)(ty:TypeId)(x y:Operand)(ho:o.op=.store ty x y)(g:Nat)(cells:Array Value)(hx:a.eval x=.pointer (some ⟨g,0,none⟩))(hy:a.eval y=.agg cells)(t:TypeId)(old:Array Value)(hg:w.heap[g]? = some (.cells old t (0,0)))(hi:(prog.info? ty).map (·.size)=some cells.size)(hold:old.size=cells.size)(h1:cells.all (·.oneCell')=true)(h:∀w',Hid (w'.heap[g]? = some (.cells cells t (0,0)))->Fr [g] w w'->wpList prog ops Q rest (a.put o.dst undef) w'):wpList prog ops Q (o::rest) a w:=
 wpList_store_row hgd ty x y ho g cells hx hy t old hg hi hold h1 (h _ (setRow_heap w g _ _ t _ hg) (Fr.setRow _ _ _))
def zao(W:World)(b o:Nat)(v0 v1:Value):World:=(W.setCell ⟨b,o,none⟩ v0).setCell ⟨b,o+1,none⟩ v1
theorem zko(W:World)(b o:Nat)(v0 v1:Value):zao W b o v0 v1=W.setCells b o [v0,v1]:=rfl
theorem zcw{W:World}{b o:Nat}{t:TypeId}{cur:Array Value}(v0 v1:Value)(h:W.heap[b]? = some (.cells cur t (0,0)))(hl:o+2<=cur.size):(zao W b o v0 v1).heap[b]? = some (.cells (splice cur.toList o [v0,v1]).toArray t (0,0))/\Fr [b] W (zao W b o v0 v1):=by
 rw[zko];exact zbq _ o W cur h (by simpa using hl)
theorem zcl(w:World)(b:Nat):w.drew.heap[b]? = w.heap[b]? :=rfl
def zdr(W:World)(b:Nat)(v0 v1:Value):World:=(W.setCell ⟨b,0,none⟩ v0).setCell ⟨b,1,none⟩ v1
theorem zit(W:World)(b:Nat)(v0 v1:Value):zdr W b v0 v1=W.setCells b 0 [v0,v1]:=rfl
theorem zht{W:World}{b:Nat}{t:TypeId}{u0 u1:Value}(v0 v1:Value)(h:W.heap[b]? = some (.cells #[u0,u1] t (0,0))):(zdr W b v0 v1).drew.heap[b]? = some (.cells #[v0,v1] t (0,0))/\Fr [b] W (zdr W b v0 v1).drew:=by
 rw[zit];obtain⟨h1,h2⟩:=zbq [v0,v1] 0 W _ h (by simp);refine⟨?_,h2.then (Fr.drew _ _)⟩;rw[zcl,h1];simp[splice]
theorem zgu{S:List Nat}{w w':World}(h:Fr S w w'):Fr S w w'.drew:=h.then (Fr.drew _ _)
structure RvAt(w:World)(b o:Nat)(x:Rv):Prop where
 c0:w.cell? ⟨b,o,none⟩=some (.int .i64 x.n)
 c1:w.cell? ⟨b,o+1,none⟩=some (.slice x.bo x.bl x.bc)
theorem RvAt.of{w:World}{b o:Nat}{x:Rv}(h:w.rangeAt b o x.cs):RvAt w b o x:=⟨h 0 _ rfl,h 1 _ rfl⟩
theorem RvAt.ofRow{w:World}{g:Nat}{x:Rv}{t:TypeId}(h:w.heap[g]? = some (.cells #[.int .i64 x.n,.slice x.bo x.bl x.bc] t (0,0))):RvAt w g 0 x:=by
 refine⟨?_,?_⟩<;>(rw[crw h];rfl)
section
variable{g C N F K:Nat}{pb:Option Nat}{ps xs:List Rv}{cl:Bool}
theorem zds(w:World){x:Rv}(h:RgM w g pb C N F (K+1) ps (x::xs) cl):Calls prog 303 #[.pointer (some ⟨g,0,none⟩)] w fun e w'=>e=.returned (.tuple #[x.v,.bool true])/\Fr [] w w':=by
 obtain⟨wz,HWz⟩:∃wz,Hid (w.alloc (.cells #[.int .i64 0,.slice none 0 0] 108)=wz):=⟨_,rfl⟩;have hF0:Fr [] w wz:=by rw[<-HWz.out];exact Fr.alloc [] w _
 have hrow:wz.heap[w.heap.size]? = some (.cells #[.int .i64 0,.slice none 0 0] 108 (0,0)):=by rw[<-HWz.out];exact heap_alloc_new w _
 have h0:=h.keep hF0 (by simp) (by simp);have HT:Hid (Calls ..):=glen_any _ h0;have hN:0<N:=by have:=h.pl.fit;omega
 have hF:=h.pl.f1 hN;obtain⟨b,rfl⟩:=h.some_ hN;have c1:=h0.c1;have c2:=h0.c2;have c5:RvAt wz b (F*2) x:=by
  have:=h0.pc rfl hF;rw[h.pl.take.1]at this
  refine RvAt.of (fun j v hj=> ?_);rw[Nat.mul_comm];exact this j v hj
 simp only[Option.map_some]at c1;obtain⟨Z,HZ⟩:∃Z,Hid (w.heap.size=Z):=⟨_,rfl⟩;rw[HZ.out]at hrow
 have HF0:Hid (Fr [] w wz):=hF0;have HR:Hid (wz.heap[Z]? = _):=hrow;have HZw:Hid (w.heap.size<=Z):=by show _<=_;rw[HZ.out];omega
 have HC:Hid (∀W,Fr [] wz W->W.heap[Z]? = some (.cells #[.int .i64 0,.slice none 0 0] 108 (0,0))):=fun W hf=>hf.keep hrow (by simp);obtain⟨n,bo,bl,bc⟩:=x;obtain⟨e0,e1⟩:=c5;simp only at e0 e1;have hgz:g≠Z:=by have:=h.lt;rw[<-HZ.out];omega
 have hbz:b≠Z:=by have:=h.plt rfl;rw[<-HZ.out];omega
 have hzg:Z≠g:=fun e=>hgz e.symm;have hzb:Z≠b:=fun e=>hbz e.symm;clear h h0 hF0 hrow;go_enter func303,ntmps303;go_wp2_with fail
 rw[HWz.out];refine Calls.mono HT.out ?_;rintro e w1⟨rfl,rfl⟩;go_wp2_with fail
 rw[HZ.out];have hrow:=HR.out;have zf:∀j,wz.frozen? ⟨Z,j,none⟩=false:=fun j=>by simp[World.frozen?,hrow]
 have hrowd:wz.drew.heap[Z]? = some (.cells #[.int .i64 0,.slice none 0 0] 108 (0,0)):=(zcl _ _).trans hrow;have zd:∀j,wz.drew.frozen? ⟨Z,j,none⟩=false:=fun j=>by simp[World.frozen?,hrowd]
 obtain⟨q0,q1⟩:=RvAt.ofRow (x:=Rv.zero) hrow;obtain⟨r0,r1⟩:=RvAt.ofRow (w:=wz.drew) (x:=Rv.zero) hrowd;simp only[Nat.zero_add,Rv.zero]at q0 q1 r0 r1;obtain⟨k1,k2⟩:=zht (.int .i64 n) (.slice bo bl bc) hrow;unfold zdr at k1 k2;have HK2:=(show Hid _ from HF0.out.on k2 (by intro y hy;simp at hy;have:=HZw.out;omega));have HK1:=(show Hid _ from k1);clear k1 k2;clear hrow hrowd;go_region_held3 (fun W=>W.cell? ⟨g,1,none⟩=some (.slice (some ⟨b,0,none⟩) N N)/\W.cell? ⟨g,2,none⟩=some (.int .i64 (F:Int))/\W.cell? ⟨b,F*2,none⟩=some (.int .i64 n)/\W.cell? ⟨b,F*2+1,none⟩=some (.slice bo bl bc)) (go_keep)
(fail)
 have hld:=zfg ⟨n,bo,bl,bc⟩ HK1.out;go_wp2;refine bodyPost_ret (zbx rfl _ _ _ _ _ rfl hld) rfl ?_;exact⟨rfl,HK2.out⟩
end
section
variable{g C N F K:Nat}{pb:Option Nat}{ps xs:List Rv}{cl:Bool}
theorem RgM.stored{w W:World}{b P:Nat}{x:Rv}(h:RgM w g (some b) C N F K ps xs cl)(hK:K<N)(hP:P=atN F K N)(hf:Fr [] w W) :
  RgM ((zao W b (P*2) (.int .i64 x.n) (.slice x.bo x.bl x.bc)).setCell ⟨g,3,none⟩ (.int .i64 ((K:Int)+1))) g (some b) C N F (K+1) (ps.set P x) (xs++[x]) cl/\Fr [g,b] w ((zao W b (P*2) (.int .i64 x.n) (.slice x.bo x.bl x.bc)).setCell ⟨g,3,none⟩ (.int .i64 ((K:Int)+1)))/\(zao W b (P*2) (.int .i64 x.n) (.slice x.bo x.bl x.bc)).cell? ⟨g,3,none⟩=some (.int .i64 (K:Int))/\(zao W b (P*2) (.int .i64 x.n) (.slice x.bo x.bl x.bc)).frozen? ⟨g,3,none⟩=false:=by
 have hW:=h.keep hf (by simp) (by simp);have hgb:b≠g:=by rintro rfl;exact h.ne rfl
 have hPN:P<N:=by rw[hP];exact zbv (h.pl.f1 (by omega)) (by omega)
 obtain⟨r1,f1⟩:=zcw (o:=P*2) (.int .i64 x.n) (.slice x.bo x.bl x.bc) (hW.row b rfl) (by rw[List.size_toArray,zaf,h.pl.len];omega);generalize zao W b (P*2) (.int .i64 x.n) (.slice x.bo x.bl x.bc)=W1 at r1 f1 ⊢;have f2:Fr [g] W1 (W1.setCell ⟨g,3,none⟩ (.int .i64 ((K:Int)+1))):=Fr.set _ _ _ (by simp);have hb1:=f1.keep hW.box (by simp;omega);refine⟨⟨?_,by rw[hP];exact h.pl.put hK x,fun b' e=> ?_,h.none_,h.cap⟩,(hf.mono (by simp)).then ((f1.mono (by simp)).then (f2.mono (by simp))),by rw[crw hb1];rfl,by simp[World.frozen?,hb1]⟩
 .rw[zaa _ hb1];rfl
 cases e;rw[f2.keep r1 (by simp;omega)]
 congr 3
 rw[<-zcy ps P x (by rw[h.pl.len];exact hPN),Nat.mul_comm];rfl
theorem RgM.zeroed{W:World}{b:Nat}{x:Rv}(h:RgM W g (some b) C N F (K+1) ps (x::xs) cl) :
  RgM (zao W b (F*2) (.int .i64 0) (.slice none 0 0)) g (some b) C N F (K+1) (ps.set F Rv.zero) ((ps.set F Rv.zero).getD F Rv.zero::xs) cl/\Fr [b] W (zao W b (F*2) (.int .i64 0) (.slice none 0 0)):=by
 have hN:0<N:=by have:=h.pl.fit;omega
 have hF:=h.pl.f1 hN;have hgb:g≠b:=by rintro rfl;exact h.ne rfl
 obtain⟨r1,f1⟩:=zcw (o:=F*2) (.int .i64 0) (.slice none 0 0) (h.row b rfl) (by rw[List.size_toArray,zaf,h.pl.len];omega);generalize zao W b (F*2) (.int .i64 0) (.slice none 0 0)=W1 at r1 f1 ⊢;refine⟨⟨f1.keep h.box (by simp;exact hgb),?_,fun b' e=> ?_,h.none_,h.cap⟩,f1⟩
 .refine⟨by rw[List.length_set];exact h.pl.len,by have:=h.pl.cnt;simpa using this,h.pl.fit,h.pl.f0,h.pl.f1,fun i hi=> ?_⟩;have h2:=h.pl.fit;cases i with
  |zero=>
   have e0:atN F 0 N=F:=by unfold atN;rw[if_pos (by omega)];rfl
   rw[e0];rfl
  |succ i=>
   have h3:=h.pl.at_ (i+1) hi;rw[zbh _ _ _ _ (by rw[h.pl.len];exact hF),if_neg (by unfold atN;split<;>omega),h3];rfl
 cases e;rw[r1]
 congr 3
 rw[<-zcy ps F Rv.zero (by rw[h.pl.len];exact hF),Nat.mul_comm];rfl
theorem gput_any(x:Rv)(w:World)(h:Rg w g pb C xs false)(hK:xs.length<C):Calls prog 279 #[.pointer (some ⟨g,0,none⟩),x.v] w fun e w'=>e=.returned (.bool true)/\∃pb',Rg w' g pb' C (xs++[x]) false/\Fr (Rg.own g pb) w w'/\Mv w.heap.size pb pb':=by
 obtain⟨N,F,K,ps,h⟩:=h;obtain⟨xn,xo,xl,xm⟩:=x;rw[h.pl.cnt]at hK
 obtain⟨R,hR⟩:∃R,R=C-K:=⟨_,rfl⟩;obtain⟨wz,HWz⟩:∃wz,Hid (w.alloc (.cells #[.int .i64 xn,.slice xo xl xm] 108)=wz):=⟨_,rfl⟩;have hF0:Fr [] w wz:=by rw[<-HWz.out];exact Fr.alloc [] w _
 have hrow:wz.heap[w.heap.size]? = some (.cells #[.int .i64 xn,.slice xo xl xm] 108 (0,0)):=by rw[<-HWz.out];exact heap_alloc_new w _
 obtain⟨Z,HZ⟩:∃Z,Hid (w.heap.size=Z):=⟨_,rfl⟩;rw[HZ.out]at hrow
 have HRow:Hid (∀S W,Fr S wz W->Z∉S->W.heap[Z]? = some (.cells #[.int .i64 xn,.slice xo xl xm] 108 (0,0))):=fun S W hf hn=>hf.keep hrow hn;have hgz:g≠Z:=by have:=h.lt;rw[<-HZ.out];omega
 have hzg:Z≠g:=fun e=>hgz e.symm;have HPz:Hid (∀b,pb=some b->b≠Z):=fun b e=>by have:=h.plt e;rw[<-HZ.out];omega
 have HT:Hid (Calls ..):=zda _ (h.keep hF0 (by simp) (by simp)) R (by simpa using hR);have hR0:¬(R:Int)=0:=by omega
 have hR1:¬R=0:=by omega
 have HF0:Hid (Fr [] w wz):=hF0;have HZl:Hid (Z<wz.heap.size):=lt_of_block hrow;have HK:Hid (∀W,Fr [] wz W->RgM W g pb C N F K ps xs false):=fun W hf=>h.keep (hF0.then hf) (by simp) (by simp);have hKN:=h.pl.fit;have hNC:=h.cap;clear h hR hF0 hrow;obtain⟨_,hC2,hNC⟩:=hNC;have HX:Hid (∀(W:World)(N F:Nat)(b:Nat)(ps:List Rv),RgM W g (some b) C N F K ps xs false->K<N->Calls prog 284 #[.pointer (some ⟨g,0,none⟩),.int .i64 (K:Int)] W fun e w'=>e=.returned (.int .i64 ((atN F K N:Nat):Int))/\Fr [] W w'):=fun W N F b ps h hK=>zce W K _ h (by omega) (by omega) rfl;simp only[Rv.v];by_cases hKe:K=N
 .subst hKe;go_enter func279,ntmps279;go_wp2_with fail
  rw[HWz.out];refine Calls.mono HT.out ?_;rintro e w1⟨rfl,hF1⟩;have h1:=HK.out w1 hF1;have c1:=h1.c1;have c3:=h1.c3;have HWd:Hid (∀W,Fr [] w1 W->Calls ..):=fun W hf=>zdt W (h1.keep hf (by simp) (by simp)) (by omega);obtain⟨q,hq⟩:∃q,q=pb.map fun b=>(⟨b,0,none⟩:Addr):=⟨_,rfl⟩;rw[<-hq]at c1
  clear h1 hq HT;go_wp2_with fail
  go_quiet (fail)
  go_wp2_with fail
  rw[HZ.out];refine Calls.mono (HWd.out _ (Fr.drewN _ _ _)) ?_;rintro e w2⟨⟨v0,rfl⟩,b,M,hb,hNM,hR2,hF2⟩;have hG2:Fr [g] wz w2:=(hF1.mono (by simp)).then (((Fr.drewN [g] w1 _)).then hF2);have hbw:wz.heap.size<=b:=by have h3:w1.heap.size<=b:=hb;have:=hF1.size;omega
  have hrow2:=HRow.out _ _ hG2 (by simp;exact hzg);have hbz:b≠Z:=by have:=HZl.out;omega
  have hzb:Z≠b:=fun e=>hbz e.symm;clear c1 c3 HWd hF2 hb;have hM:=hR2;have c1:=hM.c1;have c3:=hM.c3;simp only[Option.map_some]at c1;obtain⟨P,hP⟩:∃P,P=atN 0 K M:=⟨_,rfl⟩;have hPN:P<M:=by rw[hP];exact zbv (hM.pl.f1 (by omega)) (by omega)
  have hbg:b≠g:=by rintro rfl;exact hM.ne rfl
  have hgb:g≠b:=fun e=>hbg e.symm;have HPl:Hid (∀W,Fr [] w2 W->Calls prog 284 #[.pointer (some ⟨g,0,none⟩),.int .i64 (K:Int)] W fun e w'=>e=.returned (.int .i64 (P:Int))/\Fr [] W w'):=fun W hf=>by rw[hP];exact HX.out W _ _ b _ (hM.keep hf (by simp) (by simp)) (by omega)
  have HSt:Hid (∀W,Fr [] w2 W->_/\_/\_/\_):=fun W hf=>hM.stored (x:=⟨xn,xo,xl,xm⟩) (by omega) hP hf;unfold zao at HSt;simp only at HSt;have hZ2:Hid (w2.heap[Z]? = some (.cells #[.int .i64 xn,.slice xo xl xm] 108 (0,0))):=hrow2;have HS:Hid (∀W,Fr [] w2 W->(W.cell? ⟨g,1,none⟩=some (.slice (some ⟨b,0,none⟩) M M)/\W.cell? ⟨g,3,none⟩=some (.int .i64 (K:Int))/\W.cell? ⟨Z,0,none⟩=some (.int .i64 xn)/\W.cell? ⟨Z,1,none⟩=some (.slice xo xl xm))/\RvAt W b (P*2) (_:Rv)/\∀j,W.frozen? ⟨b,j,none⟩=false):=fun W hf=>by
   have h5:=hM.keep hf (by simp) (by simp);have hz:=RvAt.ofRow (x:=⟨xn,xo,xl,xm⟩) (hf.keep hZ2.out (by simp));refine⟨⟨h5.c1,h5.c3,hz.c0,hz.c1⟩,RvAt.of (fun j v hj=> ?_),h5.pz rfl⟩;rw[Nat.mul_comm];exact h5.pc rfl hPN j v hj
  obtain⟨⟨_,_,e0,e1⟩,_⟩:=HS.out _ (Fr.refl _ _);generalize List.getD _ P Rv.zero=old at HS;clear hM hR2 hP hrow2;go_wp2_with fail
  go_region_held3 (fun W=>W.cell? ⟨g,1,none⟩=some (.slice (some ⟨b,0,none⟩) M M)/\W.cell? ⟨g,3,none⟩=some (.int .i64 (K:Int))/\W.cell? ⟨Z,0,none⟩=some (.int .i64 xn)/\W.cell? ⟨Z,1,none⟩=some (.slice xo xl xm)) (go_keep)
   (first
    |(with_reducible refine Calls.mono (HPl.out _ (Fr.drew _ _)) ?_;rintro e w3⟨rfl,hF3⟩;have hF3':=(Fr.drew [] w2).then hF3;obtain⟨⟨d1,d3,z0,z1⟩,⟨o0,o1⟩,y5⟩:=HS.out _ hF3';obtain⟨_,_,j3,y3⟩:=HSt.out _ hF3'))
  go_wp2;go_ret;have hSt:=HSt.out _ hF3';refine⟨rfl,some b,⟨_,_,_,_,hSt.1⟩,?_,Or.inr ⟨b,rfl,by have:=HF0.out.size;omega⟩⟩;have hb0:w.heap.size<=b:=by have:=HF0.out.size;omega
  have hAll:Fr [g,b] wz _:=(hG2.mono (by simp)).then hSt.2.1;exact HF0.out.trans hAll (by simp) (by intro y hy hl;simp[Rg.own]at hy ⊢;omega)
 have hKN':K<N:=by omega
 have hKe2:¬(K:Int)=(N:Int):=by omega
 go_enter func279,ntmps279;go_wp2_with fail
 rw[HWz.out];refine Calls.mono HT.out ?_;rintro e w1⟨rfl,hF1⟩;have hR2:=HK.out w1 hF1;obtain⟨b,rfl⟩:=hR2.some_ (by omega);have c1:=hR2.c1;have c3:=hR2.c3;simp only[Option.map_some]at c1;clear HT;go_wp2_with fail
 go_quiet (fail)
 rw[HZ.out];have hF2:=hF1.then (Fr.drewN [] w1 nq);have hR2:=HK.out _ hF2;obtain⟨w2,HW2⟩:∃w2,Hid (w1.drewN nq=w2):=⟨_,rfl⟩;rw[HW2.out]at hF2 hR2 ⊢
 clear c1 c3 HW2;have hrow2:=HRow.out _ _ hF2 (by simp);have hbz:b≠Z:=HPz.out b rfl;have hzb:Z≠b:=fun e=>hbz e.symm;have hM:=hR2;have c1:=hM.c1;have c3:=hM.c3;simp only[Option.map_some]at c1;obtain⟨P,hP⟩:∃P,P=atN F K N:=⟨_,rfl⟩;have hPN:P<N:=by rw[hP];exact zbv (hM.pl.f1 (by omega)) (by omega)
 have hbg:b≠g:=by rintro rfl;exact hM.ne rfl
 have hgb:g≠b:=fun e=>hbg e.symm;have HPl:Hid (∀W,Fr [] w2 W->Calls prog 284 #[.pointer (some ⟨g,0,none⟩),.int .i64 (K:Int)] W fun e w'=>e=.returned (.int .i64 (P:Int))/\Fr [] W w'):=fun W hf=>by rw[hP];exact HX.out W _ _ b _ (hM.keep hf (by simp) (by simp)) (by omega)
 have HSt:Hid (∀W,Fr [] w2 W->_/\_/\_/\_):=fun W hf=>hM.stored (x:=⟨xn,xo,xl,xm⟩) (by omega) hP hf;unfold zao at HSt;simp only at HSt;have hZ2:Hid (w2.heap[Z]? = some (.cells #[.int .i64 xn,.slice xo xl xm] 108 (0,0))):=hrow2;have HS:Hid (∀W,Fr [] w2 W->(W.cell? ⟨g,1,none⟩=some (.slice (some ⟨b,0,none⟩) N N)/\W.cell? ⟨g,3,none⟩=some (.int .i64 (K:Int))/\W.cell? ⟨Z,0,none⟩=some (.int .i64 xn)/\W.cell? ⟨Z,1,none⟩=some (.slice xo xl xm))/\RvAt W b (P*2) (_:Rv)/\∀j,W.frozen? ⟨b,j,none⟩=false):=fun W hf=>by
  have h5:=hM.keep hf (by simp) (by simp);have hz:=RvAt.ofRow (x:=⟨xn,xo,xl,xm⟩) (hf.keep hZ2.out (by simp));refine⟨⟨h5.c1,h5.c3,hz.c0,hz.c1⟩,RvAt.of (fun j v hj=> ?_),h5.pz rfl⟩;rw[Nat.mul_comm];exact h5.pc rfl hPN j v hj
 obtain⟨⟨_,_,e0,e1⟩,_⟩:=HS.out _ (Fr.refl _ _);generalize List.getD _ P Rv.zero=old at HS;clear hM hR2 hP hrow2;go_wp2_with fail
 go_region_held3 (fun W=>W.cell? ⟨g,1,none⟩=some (.slice (some ⟨b,0,none⟩) N N)/\W.cell? ⟨g,3,none⟩=some (.int .i64 (K:Int))/\W.cell? ⟨Z,0,none⟩=some (.int .i64 xn)/\W.cell? ⟨Z,1,none⟩=some (.slice xo xl xm)) (go_keep)
  (first
   |(with_reducible refine Calls.mono (HPl.out _ (Fr.drew _ _)) ?_;rintro e w3⟨rfl,hF3⟩;have hF3':=(Fr.drew [] w2).then hF3;obtain⟨⟨d1,d3,z0,z1⟩,⟨o0,o1⟩,y5⟩:=HS.out _ hF3';obtain⟨_,_,j3,y3⟩:=HSt.out _ hF3'))
 go_wp2;go_ret;have hSt:=HSt.out _ hF3';refine⟨rfl,some b,⟨_,_,_,_,hSt.1⟩,?_,Mv.refl _ _⟩;exact ((HF0.out.then hF2).mono (by simp)).then (hSt.2.1.mono (by simp[Rg.own]))
theorem RgM.ended{W3:World}{b P:Nat}(h0:Pl N F (K+1) ps ((ps).getD F Rv.zero::xs))(hP:P=atN F 1 N)(h3:RgM W3 g (some b) C N F (K+1) ps (ps.getD F Rv.zero::xs) cl)(hz:(ps.set F Rv.zero)=ps) :
  RgM ((W3.setCell ⟨g,2,none⟩ (.int .i64 (P:Int))).setCell ⟨g,3,none⟩ (.int .i64 (K:Int))) g (some b) C N P K ps xs cl/\Fr [g] W3 ((W3.setCell ⟨g,2,none⟩ (.int .i64 (P:Int))).setCell ⟨g,3,none⟩ (.int .i64 (K:Int)))/\W3.cell? ⟨g,2,none⟩=some (.int .i64 (F:Int))/\W3.frozen? ⟨g,2,none⟩=false/\(W3.setCell ⟨g,2,none⟩ (.int .i64 (P:Int))).cell? ⟨g,3,none⟩=some (.int .i64 ((K:Int)+1))/\(W3.setCell ⟨g,2,none⟩ (.int .i64 (P:Int))).frozen? ⟨g,3,none⟩=false:=by
 have hbg:b≠g:=by rintro rfl;exact h3.ne rfl
 have hb1:=zaa (j:=2) (.int .i64 (P:Int)) h3.box;have hb2:=zaa (j:=3) (.int .i64 (K:Int)) hb1;have hfr:Fr [g] W3 ((W3.setCell ⟨g,2,none⟩ (.int .i64 (P:Int))).setCell ⟨g,3,none⟩ (.int .i64 (K:Int))):=(Fr.set (S:=[g]) _ _ _ (by simp)).then (Fr.set (S:=[g]) _ _ _ (by simp));refine⟨⟨by rw[hb2];rfl,by have:=h0.take.2;rw[hz,<-hP]at this;exact this,fun b' e=> ?_,h3.none_,h3.cap⟩,hfr,h3.c2,h3.fz 2,by rw[crw hb1];rfl,by simp[World.frozen?,hb1]⟩;cases e;exact hfr.keep (h3.row b rfl) (by simp;exact hbg)
theorem gtake_any(x:Rv)(w:World)(h:Rg w g pb C (x::xs) cl):Calls prog 294 #[.pointer (some ⟨g,0,none⟩)] w fun e w'=>e=.returned (.tuple #[x.v,.bool true])/\Rg w' g pb C xs cl/\Fr (Rg.own g pb) w w':=by
 obtain⟨N,F,K1,ps,h⟩:=h;obtain⟨xn,xo,xl,xm⟩:=x;obtain⟨K,rfl⟩:∃K,K1=K+1:=⟨xs.length,by have:=h.pl.cnt;simpa using this.symm⟩;obtain⟨wz,HWz⟩:∃wz,Hid (w.alloc (.cells #[.int .i64 0,.slice none 0 0] 108)=wz):=⟨_,rfl⟩;have hF0:Fr [] w wz:=by rw[<-HWz.out];exact Fr.alloc [] w _
 have hrow:wz.heap[w.heap.size]? = some (.cells #[.int .i64 0,.slice none 0 0] 108 (0,0)):=by rw[<-HWz.out];exact heap_alloc_new w _
 obtain⟨Z,HZ⟩:∃Z,Hid (w.heap.size=Z):=⟨_,rfl⟩;rw[HZ.out]at hrow
 have HT:Hid (Calls ..):=zds wz (h.keep hF0 (by simp) (by simp));have hN:0<N:=by have:=h.pl.fit;omega
 have hF:=h.pl.f1 hN;obtain⟨b,rfl⟩:=h.some_ hN;have hbg:b≠g:=by rintro rfl;exact h.ne rfl
 have hgb:g≠b:=fun e=>hbg e.symm;have hKC:K<65536:=by have:=h.pl.fit;have:=h.cap;omega
 have hZg:Z≠g:=by have:=h.lt;rw[<-HZ.out];omega
 have hZb:Z≠b:=by have:=h.plt rfl;rw[<-HZ.out];omega
 have hgZ:g≠Z:=fun e=>hZg e.symm;have hbZ:b≠Z:=fun e=>hZb e.symm;have HZw:Hid (w.heap.size<=Z):=by show _<=_;rw[HZ.out];omega
 obtain⟨P,hP⟩:∃P,P=atN F 1 N:=⟨_,rfl⟩;have HRow:Hid (∀W,Fr [] wz W->W.heap[Z]? = some (.cells #[.int .i64 0,.slice none 0 0] 108 (0,0))):=fun W hf=>hf.keep hrow (by simp);have HM:Hid (∀W,Fr [Z] wz W->RgM W g (some b) C N F (K+1) ps (⟨xn,xo,xl,xm⟩::xs) cl):=fun W hf=>(h.keep hF0 (by simp) (by simp)).keep hf (by simp;exact hgZ) (by intro b' e;cases e;simp;exact hbZ);have HP:Hid (P=atN F 1 N):=hP;have HF0:Hid (Fr [] w wz):=hF0;have HPl:Hid (∀W ps x,RgM W g (some b) C N F (K+1) ps (x::xs) cl->Calls prog 284 #[.pointer (some ⟨g,0,none⟩),.int .i64 1] W fun e w'=>e=.returned (.int .i64 (P:Int))/\Fr [] W w'):=fun W ps x hW=>by
  have:=zce W 1 P hW hN (by omega) hP;exact this
 have hzz:Hid ((ps.set F Rv.zero).set F Rv.zero=ps.set F Rv.zero):=by show _=_;simp
 clear h hP hF0 hrow;simp only[Rv.v]at HT ⊢;go_enter func294,ntmps294;go_wp2_with fail
 rw[HWz.out];refine Calls.mono HT.out ?_;rintro e w1⟨rfl,hF1⟩;have hr1:=HRow.out _ hF1;clear HT HRow;go_upto_region 2 with (first
  |(rw[HZ.out];refine zbi rfl 108 (.tmp 2) (.tmp 8) rfl Z #[.int .i64 xn,.slice xo xl xm] rfl rfl 108 _ hr1 (by kernel_rfl) rfl (zgw ⟨xn,xo,xl,xm⟩) ?_;intro w2 HR2 hf2;go_frame)
  |fail)
 have hG2:Fr [Z] wz w2:=(hF1.mono (by simp)).then hf2;clear hr1 hf2 hF1;obtain⟨w3,HW3⟩:∃w3,Hid (w2.alloc (.cells #[.int .i64 0,.slice none 0 0] 108)=w3):=⟨_,rfl⟩;obtain⟨Z4,HZ4⟩:∃Z4,Hid (w2.heap.size=Z4):=⟨_,rfl⟩;have hF3:Fr [] w2 w3:=by rw[<-HW3.out];exact Fr.alloc [] _ _
 have hr4:w3.heap[Z4]? = some (.cells #[.int .i64 0,.slice none 0 0] 108 (0,0)):=by rw[<-HW3.out,<-HZ4.out];exact heap_alloc_new w2 _
 have hM3:=HM.out _ (hG2.then (hF3.mono (by simp)));have HM2:Hid (RgM w2 g (some b) C N F (K+1) ps (⟨xn,xo,xl,xm⟩::xs) cl):=HM.out _ hG2;have h4g:g≠Z4:=by have:=HM2.out.lt;rw[<-HZ4.out];omega
 have h4b:b≠Z4:=by have:=HM2.out.plt rfl;rw[<-HZ4.out];omega
 have h4Z:Z≠Z4:=by have:=lt_of_block HR2.out;rw[<-HZ4.out];omega
 have h4g':Z4≠g:=fun e=>h4g e.symm;have h4b':Z4≠b:=fun e=>h4b e.symm;have h4Z':Z4≠Z:=fun e=>h4Z e.symm;have HR3:Hid (w3.heap[Z]? = some (.cells #[.int .i64 xn,.slice xo xl xm] 108 (0,0))):=hF3.keep HR2.out (by simp);have HM3:Hid (RgM w3 g (some b) C N F (K+1) ps (⟨xn,xo,xl,xm⟩::xs) cl):=hM3;have HG3:Hid (Fr [] w w3):=(HF0.out.on hG2 (by intro y hy;simp at hy;have:=HZw.out;omega)).then hF3;have HR4:Hid (w3.heap[Z4]? = some (.cells #[.int .i64 0,.slice none 0 0] 108 (0,0))):=hr4;clear hM3 hr4 hF3 HR2 HM2 hG2;go_upto_region 4 with fail
 rw[HW3.out,HZ4.out];clear HW3 HZ4 HWz;have c1:=HM3.out.c1;have c2:=HM3.out.c2;simp only[Option.map_some]at c1;have zz:=RvAt.ofRow (x:=Rv.zero) HR4.out;simp only[Rv.zero]at zz;obtain⟨z0,z1⟩:=zz;simp only[Nat.zero_add]at z1;have hat:RvAt w3.drew b (F*2) (ps.getD F Rv.zero):=RvAt.of (fun j v hj=>by rw[Nat.mul_comm];exact (HM3.out.keep (Fr.drew [] w3) (by simp) (by simp)).pc rfl hF j v hj);obtain⟨o0,o1⟩:=hat
 have hat2:RvAt w3 b (F*2) (ps.getD F Rv.zero):=RvAt.of (fun j v hj=>by rw[Nat.mul_comm];exact HM3.out.pc rfl hF j v hj);obtain⟨p0,p1⟩:=hat2;have y5:∀j,w3.drew.frozen? ⟨b,j,none⟩=false:=(HM3.out.keep (Fr.drew [] w3) (by simp) (by simp)).pz rfl;have y6:∀j,w3.frozen? ⟨b,j,none⟩=false:=HM3.out.pz rfl;obtain⟨k1,k2⟩:=HM3.out.zeroed;have k3:=k1.keep (Fr.drew [] _) (by simp) (by simp);have HK2:=(show Hid _ from And.intro k3 (zgu k2));clear k1 k2 k3;unfold zao at HK2;go_region_held3 (fun W=>W.cell? ⟨g,1,none⟩=some (.slice (some ⟨b,0,none⟩) N N)/\W.cell? ⟨g,2,none⟩=some (.int .i64 (F:Int))/\W.cell? ⟨Z4,0,none⟩=some (.int .i64 0)/\W.cell? ⟨Z4,1,none⟩=some (.slice none 0 0)) (go_keep) (fail)
 have HR5:Hid _:=HK2.out.2.keep HR3.out (by simp;exact hZb);have HG5:Hid (Fr [b] w _):=(HG3.out.mono (by simp)).then HK2.out.2;have hK2:=HK2.out.1;clear HK2 c1 c2 z0 z1 o0 o1 p0 p1 y5 y6;generalize World.drew _=w5 at HR5 HG5 hK2 ⊢;have HPc:Hid (Calls ..):=HPl.out w5 _ _ hK2;have HR2:=(show Hid _ from hK2);clear hK2;go_wp2_with fail
 refine Calls.mono HPc.out ?_;rintro e w6⟨rfl,hF6⟩;obtain⟨hR7,hG7,d2,y2,d3,y3⟩:=RgM.ended HR2.out.pl HP.out (HR2.out.keep hF6 (by simp) (by simp)) hzz.out;have hr7:=hG7.keep (hF6.keep HR5.out (by simp)) (by simp;exact hZg);have HR7:Hid (_/\_):=And.intro hR7 hG7;have hk1:(K:Int)+1-1=(K:Int):=by omega
 clear hR7 hG7;have hself:=setRow_self _ _ _ _ _ hr7;have hld:=zfg ⟨xn,xo,xl,xm⟩ hr7;have HLd:=(show Hid _ from hld);have HSf:=(show Hid _ from And.intro hr7 hself);clear hld hself hr7;go_upto_region 7 with fail
 have zz:=RvAt.ofRow (x:=⟨xn,xo,xl,xm⟩) HSf.out.1;obtain⟨z0,z1⟩:=zz;simp only[Nat.zero_add]at z0 z1;go_wp2_with (first
  |(refine wpList_store_row rfl 108 _ _ rfl Z #[.int .i64 xn,.slice xo xl xm] rfl rfl _ _ HSf.out.1 (by kernel_rfl) rfl (zgw ⟨xn,xo,xl,xm⟩) ?_;rw[HSf.out.2];go_frame)
  |fail)
 refine bodyPost_ret (zbx rfl _ _ _ _ _ rfl HLd.out) rfl ?_;refine⟨rfl,⟨_,_,_,_,HR7.out.1⟩,?_⟩;exact (HG5.out.mono (by simp[Rg.own])).then ((hF6.mono (by simp)).then (HR7.out.2.mono (by simp[Rg.own])))
end
end Go.Proofs.YtojjdnjfaelnfaaGreatDoor.GT
