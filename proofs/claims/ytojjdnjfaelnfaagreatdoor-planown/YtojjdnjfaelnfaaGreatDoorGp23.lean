/- Contracts and lemmas. -/
import Derived.Test.YtojjdnjfaelnfaaGreatDoorGp13
import Derived.WalkSpells
set_option maxHeartbeats 1000000
set_option maxRecDepth 100000
set_option linter.unusedSimpArgs false
set_option linter.unusedVariables false
namespace Go.Proofs.YtojjdnjfaelnfaaGreatDoor.O
open Go.ChangeShapes Go.WideShapes Go.ChangeAt Go.RowKit Go.Lib Go.Proofs.Tryz
structure Rv where
 k:Int
 f:Int
 n:Int
 wk:ByteArray
 wv:ByteArray
 wd:Bool
 key:ByteArray
 en:ByteArray
 bo:Option Addr
 bl:Nat
 bc:Nat
def Rv.cs(r:Rv):List Value:=[.int .u8 r.k,.int .i64 r.f,.int .i64 r.n,.string r.wk,.string r.wv,.bool r.wd,.string r.key,.string r.en,.slice r.bo r.bl r.bc]
def Rv.v(r:Rv):Value:=.agg #[.int .u8 r.k,.int .i64 r.f,.int .i64 r.n,.string r.wk,.string r.wv,.bool r.wd,.string r.key,.string r.en,.slice r.bo r.bl r.bc]
def Rv.zero:Rv:=⟨0,0,0,⟨#[]⟩,⟨#[]⟩,false,⟨#[]⟩,⟨#[]⟩,none,0,0⟩
theorem Rv.cs_length(r:Rv):r.cs.length=9:=rfl
def vals(xs:List Rv):List Value:=xs.flatMap Rv.cs
theorem zau(x:Rv)(xs:List Rv):vals (x::xs)=x.cs++vals xs:=rfl
theorem zaf(xs:List Rv):(vals xs).length=9*xs.length:=by
 induction xs with
 |nil=>rfl
 |cons x xs ih=>rw[zau,List.length_append,ih,Rv.cs_length,List.length_cons];omega
theorem zas(xs ys:List Rv):vals (xs++ys)=vals xs++vals ys:=by simp[vals]
theorem zat(xs:List Rv)(n:Nat):(vals xs).take (9*n)=vals (xs.take n):=by
 induction n generalizing xs with
 |zero=>simp[vals]
 |succ n ih=>
  cases xs with
  |nil=>simp[vals]
  |cons x xs=>
   rw[zau,List.take_succ_cons,zau,List.take_append,List.take_of_length_le (by rw[Rv.cs_length];omega),Rv.cs_length,show 9*(n+1)-9=9*n by omega,ih]
theorem zbd(xs:List Rv)(n:Nat):(vals xs).drop (9*n)=vals (xs.drop n):=by
 induction n generalizing xs with
 |zero=>simp
 |succ n ih=>
  cases xs with
  |nil=>simp[vals]
  |cons x xs=>
   rw[zau,List.drop_succ_cons,List.drop_append,List.drop_of_length_le (by rw[Rv.cs_length];omega),List.nil_append,Rv.cs_length,show 9*(n+1)-9=9*n by omega,ih]
theorem zdl(xs:List Rv)(j i:Nat)(h:j<xs.length)(hi:i<9):(vals xs)[9*j+i]? = (xs.getD j Rv.zero).cs[i]? :=by
 induction j generalizing xs with
 |zero=>
  cases xs with
  |nil=>simp at h
  |cons x xs=>
   rw[zau,Nat.mul_zero,Nat.zero_add,List.getElem?_append_left (by rw[Rv.cs_length];exact hi)];rfl
 |succ j ih=>
  cases xs with
  |nil=>simp at h
  |cons x xs=>
   rw[zau,List.getElem?_append_right (by rw[Rv.cs_length];omega),Rv.cs_length,show 9*(j+1)+i-9=9*j+i by omega,ih xs (by simpa using h)];rfl
theorem zcy(xs:List Rv)(j:Nat)(x:Rv)(h:j<xs.length):splice (vals xs) (9*j) x.cs=vals (xs.set j x):=by
 unfold splice;rw[zat,Rv.cs_length,show 9*j+9=9*(j+1) by omega,zbd,List.set_eq_take_append_cons_drop,if_pos h,zas,zau]
theorem zcz(xs:List Rv):∀u∈vals xs,u.oneCell'=true:=by
 intro u hu;obtain⟨x,_,hx⟩:=List.mem_flatMap.1 hu;simp only[Rv.cs,List.mem_cons,List.not_mem_nil,or_false]at hx;rcases hx with rfl|rfl|rfl|rfl|rfl|rfl|rfl|rfl|rfl<;>rfl
theorem zep(n:Nat):(madeCells Rv.zero.v.cells (n*9)).toList=vals (List.replicate n Rv.zero):=by
 apply List.ext_getElem?;intro q;have hl:(vals (List.replicate n Rv.zero)).length=9*n:=by rw[zaf,List.length_replicate]
 by_cases hq:q<9*n
 .have h1:9*(q/9)+q%9=q:=Nat.div_add_mod q 9;have h2:q%9<9:=Nat.mod_lt _ (by omega);have h3:q/9<n:=by omega
  have e:=zdl (List.replicate n Rv.zero) (q/9) (q%9) (by simpa using h3) h2;rw[h1]at e
  rw[e];have e2:(List.replicate n Rv.zero).getD (q/9) Rv.zero=Rv.zero:=by simp[List.getD,h3]
  rw[e2];have h4:q<n*9:=by omega
  have e3:(madeCells Rv.zero.v.cells (n*9)).toList[q]? = some (Rv.zero.v.cells[q%9]!):=by
   simp[madeCells,h4,Value.cells,Rv.v]
  rw[e3];have h5:q%9=0\/q%9=1\/q%9=2\/q%9=3\/q%9=4\/q%9=5\/q%9=6\/q%9=7\/q%9=8:=by omega
  rcases h5 with h|h|h|h|h|h|h|h|h<;>rw[h]<;>rfl
 rw[List.getElem?_eq_none (by simp[size_madeCells];omega),List.getElem?_eq_none (by omega)]
def atN(F i N:Nat):Nat:=if F+i<N then F+i else F+i-N
theorem zdn{F i N:Nat}(hF:F<N)(hi:i<=N):(F+i)%N=atN F i N:=by
 unfold atN;split
 .exact Nat.mod_eq_of_lt (by assumption)
 rw[Nat.mod_eq_sub_mod (by omega),Nat.mod_eq_of_lt (by omega)]
theorem zbv{F i N:Nat}(hF:F<N)(hi:i<=N):atN F i N<N:=by
 unfold atN;split<;>omega
structure Pl(N F K:Nat)(ps xs:List Rv):Prop where
 len:ps.length=N
 cnt:xs.length=K
 fit:K<=N
 f0:N=0->F=0
 f1:0<N->F<N
 at_:∀i,i<K->ps.getD (atN F i N) Rv.zero=xs.getD i Rv.zero
theorem zbh(ps:List Rv)(i j:Nat)(x:Rv)(hi:i<ps.length):(ps.set i x).getD j Rv.zero=if i=j then x else ps.getD j Rv.zero:=by
 simp only[List.getD,List.getElem?_set];split
 .subst_vars
  simp[hi]
 rfl
theorem zeq(xs:List Rv)(x:Rv)(j:Nat):(xs++[x]).getD j Rv.zero=if j<xs.length then xs.getD j Rv.zero else if j=xs.length then x else Rv.zero:=by
 simp only[List.getD];split
 .rw[List.getElem?_append_left (by assumption)]
 rw[List.getElem?_append_right (by omega)];split
 .subst_vars;simp
 rw[List.getElem?_eq_none (by simp;omega)];rfl
theorem Pl.put{N F K:Nat}{ps xs:List Rv}(h:Pl N F K ps xs)(hK:K<N)(x:Rv):Pl N F (K+1) (ps.set (atN F K N) x) (xs++[x]):=by
 have hF:=h.f1 (by omega);refine⟨by rw[List.length_set];exact h.len,by rw[List.length_append,h.cnt];rfl,by omega,h.f0,h.f1,fun i hi=> ?_⟩;rw[zbh _ _ _ _ (by rw[h.len];exact zbv hF (by omega)),zeq,h.cnt];by_cases hiK:i<K
 .rw[if_neg (by unfold atN;split<;>split<;>omega),if_pos hiK];exact h.at_ i hiK
 obtain rfl:i=K:=by omega
 rw[if_pos rfl,if_neg (by omega),if_pos rfl]
theorem Pl.take{N F K:Nat}{ps xs:List Rv}{x:Rv}(h:Pl N F (K+1) ps (x::xs)):ps.getD F Rv.zero=x/\Pl N (atN F 1 N) K (ps.set F Rv.zero) xs:=by
 have hN:0<N:=by have:=h.fit;omega
 have hF:=h.f1 hN;have h0:=h.at_ 0 (by omega);have e0:atN F 0 N=F:=by unfold atN;rw[if_pos (by omega)];rfl
 rw[e0]at h0
 refine⟨by simpa using h0,by rw[List.length_set];exact h.len,by have:=h.cnt;simp at this;exact this,by have:=h.fit;omega,fun e=>by omega,fun _=>zbv hF (by omega),fun i hi=> ?_⟩;have hi1:=h.at_ (i+1) (by omega);have hfit:=h.fit;have e1:atN (atN F 1 N) i N=atN F (i+1) N:=by unfold atN;split<;>split<;>(try split)<;>omega
 rw[e1,zbh _ _ _ _ (by rw[h.len];exact hF),if_neg (by unfold atN;split<;>omega),hi1];rfl
def unr(F n:Nat)(ps:List Rv):List Rv:=(ps.drop F++ps.take F).take n++List.replicate (n-ps.length) Rv.zero
theorem zcc(F n:Nat)(ps:List Rv):(unr F n ps).length=n:=by
 simp[unr];omega
theorem zgv{F n N i:Nat}{ps:List Rv}(hN:ps.length=N)(hF:F<N)(hi:i<n)(hiN:i<N):(unr F n ps).getD i Rv.zero=ps.getD (atN F i N) Rv.zero:=by
 simp only[unr,List.getD]
 congr 1
 rw[List.getElem?_append_left (by simp;omega),List.getElem?_take_of_lt hi];unfold atN;split
 .rw[List.getElem?_append_left (by simp;omega),List.getElem?_drop]
 rw[List.getElem?_append_right (by simp;omega),List.getElem?_take_of_lt (by simp;omega)]
 congr 1
 simp;omega
theorem Pl.wide{N F K n:Nat}{ps xs:List Rv}(h:Pl N F K ps xs)(hn:N<=n)(hn0:0<n):Pl n 0 K (unr F n ps) xs:=by
 refine⟨zcc _ _ _,h.cnt,by have:=h.fit;omega,fun _=>rfl,fun h=>h,fun i hi=> ?_⟩;have hfit:=h.fit;have e0:atN 0 i n=i:=by unfold atN;rw[if_pos (by omega)];omega
 rw[e0,zgv h.len (h.f1 (by omega)) (by omega) (by omega)];exact h.at_ i hi
theorem Pl.nil:Pl 0 0 0 [] []:=⟨rfl,rfl,Nat.le_refl _,fun _=>rfl,fun h=>absurd h (by omega),fun i h=>absurd h (by omega)⟩
structure RgM(w:World)(g:Nat)(pb:Option Nat)(C N F K:Nat)(ps xs:List Rv)(cl:Bool):Prop where
 box:w.heap[g]? = some (.cells #[.int .i64 (C:Int),.slice (pb.map fun b=>⟨b,0,none⟩) N N,.int .i64 (F:Int),.int .i64 (K:Int),.bool cl] 362 (0,0))
 pl:Pl N F K ps xs
 row:∀b,pb=some b->w.heap[b]? = some (.cells (vals ps).toArray 338 (0,0))
 none_:pb=none↔N=0
 cap:1<=C/\C<=65536/\N<=C
def Rg(w:World)(g:Nat)(pb:Option Nat)(C:Nat)(xs:List Rv)(cl:Bool):Prop:=∃N F K ps,RgM w g pb C N F K ps xs cl
section
variable{w w':World}{g C N F K:Nat}{pb:Option Nat}{ps xs:List Rv}{cl:Bool}
theorem RgM.lt(h:RgM w g pb C N F K ps xs cl):g<w.heap.size:=lt_of_block h.box
theorem RgM.ne(h:RgM w g pb C N F K ps xs cl):pb≠some g:=by
 intro e;have h1:=h.row g e;rw[h.box]at h1
 simp at h1
theorem RgM.plt(h:RgM w g pb C N F K ps xs cl){b:Nat}(hb:pb=some b):b<w.heap.size:=lt_of_block (h.row b hb)
theorem RgM.keep{S:List Nat}(h:RgM w g pb C N F K ps xs cl)(hf:Fr S w w')(hg:g∉S)(hb:∀b,pb=some b->b∉S):RgM w' g pb C N F K ps xs cl:=
 ⟨hf.keep h.box hg,h.pl,fun b e=>hf.keep (h.row b e) (hb b e),h.none_,h.cap⟩
theorem RgM.c0(h:RgM w g pb C N F K ps xs cl):w.cell? ⟨g,0,none⟩=some (.int .i64 (C:Int)):=by rw[crw h.box];rfl
theorem RgM.c1(h:RgM w g pb C N F K ps xs cl):w.cell? ⟨g,1,none⟩=some (.slice (pb.map fun b=>⟨b,0,none⟩) N N):=by rw[crw h.box];rfl
theorem RgM.c2(h:RgM w g pb C N F K ps xs cl):w.cell? ⟨g,2,none⟩=some (.int .i64 (F:Int)):=by rw[crw h.box];rfl
theorem RgM.c3(h:RgM w g pb C N F K ps xs cl):w.cell? ⟨g,3,none⟩=some (.int .i64 (K:Int)):=by rw[crw h.box];rfl
theorem RgM.c4(h:RgM w g pb C N F K ps xs cl):w.cell? ⟨g,4,none⟩=some (.bool cl):=by rw[crw h.box];rfl
theorem RgM.fz(h:RgM w g pb C N F K ps xs cl)(i:Nat):w.frozen? ⟨g,i,none⟩=false:=by simp[World.frozen?,h.box]
theorem RgM.pc(h:RgM w g pb C N F K ps xs cl){b i:Nat}(hb:pb=some b)(hi:i<N):∀j v,(ps.getD i Rv.zero).cs[j]? = some v->w.cell? ⟨b,9*i+j,none⟩=some v:=by
 intro j v hj;have hj9:j<9:=by
  rcases Nat.lt_or_ge j 9 with h1|h1
  .exact h1
  rw[List.getElem?_eq_none (by rw[Rv.cs_length];exact h1)]at hj;cases hj
 rw[crw (h.row b hb),List.getElem?_toArray,zdl ps i j (by rw[h.pl.len];exact hi) hj9];exact hj
theorem RgM.pz(h:RgM w g pb C N F K ps xs cl){b:Nat}(hb:pb=some b)(i:Nat):w.frozen? ⟨b,i,none⟩=false:=by simp[World.frozen?,h.row b hb]
theorem Rg.keep{S:List Nat}(h:Rg w g pb C xs cl)(hf:Fr S w w')(hg:g∉S)(hb:∀b,pb=some b->b∉S):Rg w' g pb C xs cl:=by
 obtain⟨N,F,K,ps,h⟩:=h;exact⟨N,F,K,ps,h.keep hf hg hb⟩
theorem Rg.same(h:Rg w g pb C xs cl)(hf:Fr [] w w'):Rg w' g pb C xs cl:=h.keep hf (by simp) (by simp)
theorem Rg.lt(h:Rg w g pb C xs cl):g<w.heap.size:=by obtain⟨N,F,K,ps,h⟩:=h;exact h.lt
theorem Rg.plt(h:Rg w g pb C xs cl){b:Nat}(hb:pb=some b):b<w.heap.size:=by obtain⟨N,F,K,ps,h⟩:=h;exact h.plt hb
theorem Rg.few(h:Rg w g pb C xs cl):xs.length<=C/\1<=C/\C<=65536:=by
 obtain⟨N,F,K,ps,h⟩:=h;have:=h.pl.cnt;have:=h.pl.fit;have:=h.cap;omega
end
def Rg.own(g:Nat)(pb:Option Nat):List Nat:=g::pb.toList
def Mv(n:Nat)(pb pb':Option Nat):Prop:=pb'=pb\/∃k,pb'=some k/\n<=k
theorem Mv.refl(n:Nat)(pb:Option Nat):Mv n pb pb:=Or.inl rfl
theorem gnew_any(c:Int)(w:World)(hc:1<=c/\c<=65536):Calls prog 200 #[.int .i64 c] w fun e w'=>∃g,e=.returned (.tuple #[.pointer (some ⟨g,0,none⟩),.int .i64 0])/\w.heap.size<=g/\Rg w' g none c.toNat [] false/\Fr [] w w':=by
 obtain⟨h1,h2⟩:=hc;have HM:Hid (Rg (w.alloc (.cells #[.int .i64 c,.slice none 0 0,.int .i64 0,.int .i64 0,.bool false] 362)) w.heap.size none c.toNat [] false):=by
  refine⟨0,0,0,[],?_,Pl.nil,fun b e=>(by cases e),⟨fun _=>rfl,fun _=>rfl⟩,by omega,by omega,by omega⟩;have e:((c.toNat:Nat):Int)=c:=by omega
  rw[e];exact heap_alloc_new w _
 go_enter func200,ntmps200;go_wp2;refine bodyPost_ret (results_tmp2 rfl _ _ _) rfl ?_;exact⟨w.heap.size,rfl,Nat.le_refl _,HM.out,Fr.alloc _ _ _⟩
section
variable{g C N F K:Nat}{pb:Option Nat}{ps xs:List Rv}{cl:Bool}
theorem zcd(w:World)(h:RgM w g pb C N F K ps xs cl):Calls prog 311 #[.pointer (some ⟨g,0,none⟩)] w fun e w'=>e=.returned (.bool true)/\w=w':=by
 have c0:=h.c0;have h1:decide (0<C)=true:=by have:=h.cap;simp;omega
 clear h;go_enter func311,ntmps311;go_wp2;go_ret;exact⟨rfl,rfl⟩
theorem glen_any(w:World)(h:RgM w g pb C N F K ps xs cl):Calls prog 323 #[.pointer (some ⟨g,0,none⟩)] w fun e w'=>e=.returned (.int .i64 (K:Int))/\w=w':=by
 have c3:=h.c3;have HT:Hid (Calls ..):=zcd w h;clear h;go_enter func323,ntmps323;go_wp2_with fail
 refine Calls.mono HT.out ?_;rintro e w1⟨rfl,rfl⟩;go_wp2;go_ret;exact⟨rfl,rfl⟩
theorem zda(w:World)(h:RgM w g pb C N F K ps xs cl)(R:Nat)(hR:R=if cl then 0 else C-K):Calls prog 302 #[.pointer (some ⟨g,0,none⟩)] w fun e w'=>e=.returned (.int .i64 (R:Int))/\Fr [] w w':=by
 have HT:Hid (Calls ..):=zcd w h;have c0:=h.c0;have c3:=h.c3;have c4:=h.c4;have h1:K<=C:=by have:=h.cap;have:=h.pl.fit;omega
 have h2:C<=65536:=h.cap.2.1;cases cl with
 |true=>
  obtain rfl:R=0:=by simpa using hR
  clear h hR;go_enter func302,ntmps302;go_wp2_with fail
  refine Calls.mono HT.out ?_;rintro e w1⟨rfl,rfl⟩;go_wp2;go_ret;exact⟨rfl,Fr.refl _ _⟩
 |false=>
  have HR:Hid (R=C-K):=by show R=C-K;simpa using hR
  have hw:IntKind.i64.wrap ((C:Int)-(K:Int))=((R:Nat):Int):=by
   have:=HR.out;rw[IntKind.wrap_i64];omega
  clear h hR;go_enter func302,ntmps302;go_wp2_with fail
  refine Calls.mono HT.out ?_;rintro e w1⟨rfl,rfl⟩;go_wp2_with fail
  go_quiet (fail)
  go_wp2;go_ret;refine⟨?_,Fr.drewN _ _ _⟩;rfl
theorem zce(w:World)(n:Nat)(P:Nat)(h:RgM w g pb C N F K ps xs cl)(hN:0<N)(hn:n<=N)(hP:P=atN F n N):Calls prog 317 #[.pointer (some ⟨g,0,none⟩),.int .i64 (n:Int)] w fun e w'=>e=.returned (.int .i64 (P:Int))/\Fr [] w w':=by
 have c1:=h.c1;have c2:=h.c2;have hF:=h.pl.f1 hN;have h2:N<=65536:=by have:=h.cap;omega
 have hm:((F:Int)+(n:Int)).tmod (N:Int)=(P:Int):=by
  rw[hP,<-zdn hF hn]
  norm_cast
 have hm2:((F:Int)+(n:Int))%(N:Int)=(P:Int):=by
  rw[hP,<-zdn hF hn]
  norm_cast
 obtain⟨q,hq⟩:∃q,q=pb.map fun b=>(⟨b,0,none⟩:Addr):=⟨_,rfl⟩;rw[<-hq]at c1
 have hN0:¬(N:Int)=0:=by omega
 have hN1:¬N=0:=by omega
 clear h hP hq;go_enter func317,ntmps317;go_wp2_with fail
 go_quiet (fail)
 go_wp2;go_ret;refine⟨?_,Fr.drewN _ _ _⟩;first
  |rw[hm]
  |rw[hm2]
  |rfl
theorem RgM.some_{w:World}(h:RgM w g pb C N F K ps xs cl)(hN:0<N):∃b,pb=some b:=by
 cases pb with
 |none=>have:=h.none_.1 rfl;omega
 |some b=>exact⟨b,rfl⟩
end
theorem zbl:prog.underlying 360=some (.slice 338):=by kernel_rfl
theorem zmo:(prog.info? 338).map (fun i=>(i.zero,i.size,i.bytes))=some (some Rv.zero.v,9,120):=by kernel_rfl
theorem zer:∃i,prog.info? 338=some i/\i.zero=some Rv.zero.v/\i.size=9/\i.bytes=120:=by
 have h:=zmo;cases hi:prog.info? 338 with
 |none=>rw[hi]at h;cases h
 |some i=>
  rw[hi]at h
  simp only[Option.map_some,Option.some.injEq,Prod.mk.injEq]at h;exact⟨i,rfl,h.1,h.2.1,h.2.2⟩
theorem zff{w:World}{b j:Nat}{cs:Array Value}{t:TypeId}(x:Value)(h:w.heap[b]? = some (.cells cs t (0,0))):(w.setCell ⟨b,j,none⟩ x).heap[b]? = some (.cells (cs.setIfInBounds j x) t (0,0)):=by
 have hlt:=lt_of_block h;have h':w.heap[b]=.cells cs t (0,0):=by simpa[Array.getElem?_eq_getElem hlt]using h
 show (w.heap.modify b _)[b]? = _;rw[Array.getElem?_eq_getElem (by simpa using hlt),Array.getElem_modify_self,h'];rfl
theorem zbq{b:Nat}{t:TypeId}:∀(vs:List Value)(o:Nat)(w:World)(cur:Array Value),w.heap[b]? = some (.cells cur t (0,0))->o+vs.length<=cur.size->(w.setCells b o vs).heap[b]? = some (.cells (splice cur.toList o vs).toArray t (0,0))/\Fr [b] w (w.setCells b o vs)
 | [],o,w,cur,h,hl=>by
  refine⟨?_,Fr.refl _ _⟩;rw[World.setCells,h];simp[splice]
 |v::r,o,w,cur,h,hl=>by
  simp only[List.length_cons]at hl;have h1:=zff (j:=o) v h;obtain⟨h2,h3⟩:=zbq r (o+1) (w.setCell ⟨b,o,none⟩ v) _ h1 (by simp;omega);rw[World.setCells];refine⟨?_,(Fr.set (S:=[b]) _ _ _ (by simp)).then h3⟩;rw[h2]
  congr 3
  have e:=list_seg_step cur.toList o v r (by simp;omega);simp only[splice,Array.toList_setIfInBounds];rw[<-List.append_assoc,e];simp[Nat.add_assoc,Nat.add_comm 1]
theorem zes(P:Program)(w:World)(dT sT ty elem:TypeId)(g o dLen dCap:Nat)(a:Addr)(sLen sCap:Nat)(cur:Array Value)(t:TypeId)(cs:List Value)(sz n:Nat)(hu:P.underlying dT=some (.slice elem))(hs:(P.info? elem).map (·.size)=some sz)(hg:w.heap[g]? = some (.cells cur t (0,0)))(hm:n=Nat.min sLen dLen)(hn:cs.length=n*sz)(hsrc:∀j v,cs[j]? = some v->w.cell? (a.add j)=some v)(hfit:o+cs.length<=cur.size)(h1:∀v∈cs,v.oneCell'=true) :
  (Builtin.copy_ #[dT,sT] ty #[.slice (some ⟨g,o,none⟩) dLen dCap,.slice (some a) sLen sCap]).run P w =
   .ok (goInt n) (w.setRow g (cur.toList.take o++cs++cur.toList.drop (o+cs.length)).toArray):=by
 have hl:=run_loadCells_list (P:=P) w a cs hsrc;have hst:=run_storeCells_at P g o t cs 0 cur w hg (by simpa using hfit) h1;cases hq:P.info? elem with
 |none=>simp[hq]at hs
 |some i=>
  have hi:i.size=sz:=by simpa[hq]using hs
  simp[Builtin.copy_,run_underlying hu,Builtin.lenOf,Builtin.firstCells,sizeOf,typeInfo,hq,hi,<-hm,<-hn,hl,hst]
theorem zco(P:Program)(w:World)(dT sT ty elem:TypeId)(d a:Option Addr)(dLen dCap sLen sCap sz:Nat)(hu:P.underlying dT=some (.slice elem))(hs:(P.info? elem).map (·.size)=some sz)(hn:Nat.min sLen dLen=0) :
  (Builtin.copy_ #[dT,sT] ty #[.slice d dLen dCap,.slice a sLen sCap]).run P w=.ok (goInt 0) w:=by
 cases hq:P.info? elem with
 |none=>simp[hq]at hs
 |some i=>
  have hl:∀(x:Addr),(loadCells x 0).run P w=.ok #[] w:=fun x=>by simpa using run_loadCells_list (P:=P) w x [] (by simp)
  cases d<;>cases a<;>simp[Builtin.copy_,run_underlying hu,Builtin.lenOf,Builtin.firstCells,sizeOf,typeInfo,hq,hn,storeCells,hl]
theorem zaq{P:Program}{ops:Array Oper}{o:Oper}{a:Act}{w:World}{K:Act->World->Prop}{Q:Exit->Act->World->Prop}{E:Prop}(hgd:o.guard=none)(d s:Operand)(dT sT:TypeId)(ho:o.op=.call {callee:=.builtin .copy,args:=#[d,s],argTypes:=#[dT,sT]})(elem:TypeId)(hu:P.underlying dT=some (.slice elem))(sz:Nat)(hsz:(P.info? elem).map (·.size)=some sz)(dp sp:Option Addr)(dLen dCap sLen sCap:Nat)(hd:a.eval d=.slice dp dLen dCap)(hs:a.eval s=.slice sp sLen sCap)(g off:Nat)(cur:List Value)(t:TypeId)(hg:w.heap[g]? = some (.cells cur.toArray t (0,0)))(cs:List Value)(n:Nat)(hm:n=Nat.min sLen dLen)(hn:cs.length=n*sz)(hpos:0<n->dp=some ⟨g,off,none⟩/\∃ad,sp=some ad/\∀j v,cs[j]? = some v->w.cell? (ad.add j)=some v)(hfit:off+cs.length<=cur.length)(h1:∀v∈cs,v.oneCell'=true)(B:Nat)(w0:World)(hb:RowKit.Below B w0 w)(hBg:B<=g)(h:∀w',RowKit.Hid (w'.heap[g]? = some (.cells (splice cur off cs).toArray t (0,0)))->RowKit.Below B w0 w'->K (a.put o.dst (goInt n)) w') :
  if Region.wanted o (yielded ops a.tmps)=true then Oper.wp P o a w K Q else E:=by
 have hw:Region.wanted o (yielded ops a.tmps)=true:=by simp[Region.wanted,hgd]
 rw[if_pos hw];by_cases h0:n=0
 .subst h0;obtain rfl:cs=[]:=List.eq_nil_of_length_eq_zero (by rw[hn,Nat.zero_mul]);have hrun:=zco P w dT sT o.type elem dp sp dLen dCap sLen sCap sz hu hsz hm.symm;unfold Oper.wp;simp[execOp,ho,resolve,invoke,builtin,hd,hs,hrun,Result.andThen];exact h w (show _=_ by simpa[splice]using hg) hb
 obtain⟨rfl,ad,rfl,hsrc⟩:=hpos (by omega);have hrun:=zes P w dT sT o.type elem g off dLen dCap ad sLen sCap cur.toArray t cs sz n hu hsz hg hm hn hsrc (by simpa using hfit) h1;unfold Oper.wp;simp[execOp,ho,resolve,invoke,builtin,hd,hs,hrun,Result.andThen];exact h _ (show _=_ by simpa[splice]using setRow_heap w g _ _ t _ hg) (below_setRow hb hBg _)
theorem zbx{fn:Func}{p u:Tmp}{ty:TypeId}(h:fn.results= #[.cell p ty,.tmp u])(tmps:Array Value)(P:Program)(w:World)(g:Nat)(v:Value)(hp:tmps.getD p undef=.pointer (some ⟨g,0,none⟩))(hld:(loadVar ty ⟨g,0,none⟩).run P w=.ok v w) :
  (results fn tmps).run P w=.ok (.tuple #[v,tmps.getD u undef]) w:=by
 simp only[results,h];simp[Sem.run_bind,Result.andThen,<-Array.getD_eq_getD_getElem?,hp,asAddr,hld]
theorem zig{fn:Func}{p:Tmp}{ty:TypeId}(h:fn.results= #[.cell p ty])(tmps:Array Value)(P:Program)(w:World)(g:Nat)(v:Value)(hp:tmps.getD p undef=.pointer (some ⟨g,0,none⟩))(hld:(loadVar ty ⟨g,0,none⟩).run P w=.ok v w) :
  (results fn tmps).run P w=.ok v w:=by
 simp only[results,h];simp[Sem.run_bind,Result.andThen,<-Array.getD_eq_getD_getElem?,hp,asAddr,hld]
theorem zgw(r:Rv):(#[Value.int .u8 r.k,.int .i64 r.f,.int .i64 r.n,.string r.wk,.string r.wv,.bool r.wd,.string r.key,.string r.en,.slice r.bo r.bl r.bc]:Array Value).all (·.oneCell')=true:=by simp[Value.oneCell']
theorem zfg{w:World}{g:Nat}(x:Rv)(h:w.heap[g]? = some (.cells #[.int .u8 x.k,.int .i64 x.f,.int .i64 x.n,.string x.wk,.string x.wv,.bool x.wd,.string x.key,.string x.en,.slice x.bo x.bl x.bc] 338 (0,0))):(loadVar 338 ⟨g,0,none⟩).run prog w=.ok x.v w:=
 run_loadVar_row (P:=prog) _ g _ 338 _ _ (.struct (prog.fieldsOf 338)) h (by kernel_rfl) rfl (by kernel_rfl)
theorem zbi{w:World}{ops:Array Oper}{rest:List Oper}{o:Oper}{a:Act}{Q:Exit->Act->World->Prop}(hgd:o.guard=none)(ty:TypeId)(x y:Operand)(ho:o.op=.store ty x y)(g:Nat)(cells:Array Value)(hx:a.eval x=.pointer (some ⟨g,0,none⟩))(hy:a.eval y=.agg cells)(t:TypeId)(old:Array Value)(hg:w.heap[g]? = some (.cells old t (0,0)))(hi:(prog.info? ty).map (·.size)=some cells.size)(hold:old.size=cells.size)(h1:cells.all (·.oneCell')=true)(h:∀w',Hid (w'.heap[g]? = some (.cells cells t (0,0)))->Fr [g] w w'->wpList prog ops Q rest (a.put o.dst undef) w'):wpList prog ops Q (o::rest) a w:=
 wpList_store_row hgd ty x y ho g cells hx hy t old hg hi hold h1 (h _ (setRow_heap w g _ _ t _ hg) (Fr.setRow _ _ _))
def zao(W:World)(b o:Nat)(v0 v1 v2 v3 v4 v5 v6 v7 v8:Value):World:=(((((((((W.setCell ⟨b,o,none⟩ v0).setCell ⟨b,o+1,none⟩ v1).setCell ⟨b,o+2,none⟩ v2).setCell ⟨b,o+3,none⟩ v3).setCell ⟨b,o+4,none⟩ v4).setCell ⟨b,o+5,none⟩ v5).setCell ⟨b,o+6,none⟩ v6).setCell ⟨b,o+7,none⟩ v7).setCell ⟨b,o+8,none⟩ v8)
theorem zko(W:World)(b o:Nat)(v0 v1 v2 v3 v4 v5 v6 v7 v8:Value):zao W b o v0 v1 v2 v3 v4 v5 v6 v7 v8=W.setCells b o [v0,v1,v2,v3,v4,v5,v6,v7,v8]:=rfl
theorem zcw{W:World}{b o:Nat}{t:TypeId}{cur:Array Value}(v0 v1 v2 v3 v4 v5 v6 v7 v8:Value)(h:W.heap[b]? = some (.cells cur t (0,0)))(hl:o+9<=cur.size):(zao W b o v0 v1 v2 v3 v4 v5 v6 v7 v8).heap[b]? = some (.cells (splice cur.toList o [v0,v1,v2,v3,v4,v5,v6,v7,v8]).toArray t (0,0))/\Fr [b] W (zao W b o v0 v1 v2 v3 v4 v5 v6 v7 v8):=by
 rw[zko];exact zbq _ o W cur h (by simpa using hl)
theorem zcl(w:World)(b:Nat):w.drew.heap[b]? = w.heap[b]? :=rfl
def zdr(W:World)(b:Nat)(v0 v1 v2 v3 v4 v5 v6 v7 v8:Value):World:=(((((((((W.setCell ⟨b,0,none⟩ v0).setCell ⟨b,1,none⟩ v1).setCell ⟨b,2,none⟩ v2).setCell ⟨b,3,none⟩ v3).setCell ⟨b,4,none⟩ v4).setCell ⟨b,5,none⟩ v5).setCell ⟨b,6,none⟩ v6).setCell ⟨b,7,none⟩ v7).setCell ⟨b,8,none⟩ v8)
theorem zit(W:World)(b:Nat)(v0 v1 v2 v3 v4 v5 v6 v7 v8:Value):zdr W b v0 v1 v2 v3 v4 v5 v6 v7 v8=W.setCells b 0 [v0,v1,v2,v3,v4,v5,v6,v7,v8]:=rfl
theorem zht{W:World}{b:Nat}{t:TypeId}{u0 u1 u2 u3 u4 u5 u6 u7 u8:Value}(v0 v1 v2 v3 v4 v5 v6 v7 v8:Value)(h:W.heap[b]? = some (.cells #[u0,u1,u2,u3,u4,u5,u6,u7,u8] t (0,0))):(zdr W b v0 v1 v2 v3 v4 v5 v6 v7 v8).drew.heap[b]? = some (.cells #[v0,v1,v2,v3,v4,v5,v6,v7,v8] t (0,0))/\Fr [b] W (zdr W b v0 v1 v2 v3 v4 v5 v6 v7 v8).drew:=by
 rw[zit];obtain⟨h1,h2⟩:=zbq [v0,v1,v2,v3,v4,v5,v6,v7,v8] 0 W _ h (by simp);refine⟨?_,h2.then (Fr.drew _ _)⟩;rw[zcl,h1];simp[splice]
theorem zgu{S:List Nat}{w w':World}(h:Fr S w w'):Fr S w w'.drew:=h.then (Fr.drew _ _)
structure RvAt(w:World)(b o:Nat)(x:Rv):Prop where
 c0:w.cell? ⟨b,o,none⟩=some (.int .u8 x.k)
 c1:w.cell? ⟨b,o+1,none⟩=some (.int .i64 x.f)
 c2:w.cell? ⟨b,o+2,none⟩=some (.int .i64 x.n)
 c3:w.cell? ⟨b,o+3,none⟩=some (.string x.wk)
 c4:w.cell? ⟨b,o+4,none⟩=some (.string x.wv)
 c5:w.cell? ⟨b,o+5,none⟩=some (.bool x.wd)
 c6:w.cell? ⟨b,o+6,none⟩=some (.string x.key)
 c7:w.cell? ⟨b,o+7,none⟩=some (.string x.en)
 c8:w.cell? ⟨b,o+8,none⟩=some (.slice x.bo x.bl x.bc)
theorem RvAt.of{w:World}{b o:Nat}{x:Rv}(h:w.rangeAt b o x.cs):RvAt w b o x:=⟨h 0 _ rfl,h 1 _ rfl,h 2 _ rfl,h 3 _ rfl,h 4 _ rfl,h 5 _ rfl,h 6 _ rfl,h 7 _ rfl,h 8 _ rfl⟩
theorem RvAt.ofRow{w:World}{g:Nat}{x:Rv}{t:TypeId}(h:w.heap[g]? = some (.cells #[.int .u8 x.k,.int .i64 x.f,.int .i64 x.n,.string x.wk,.string x.wv,.bool x.wd,.string x.key,.string x.en,.slice x.bo x.bl x.bc] t (0,0))):RvAt w g 0 x:=by
 refine⟨?_,?_,?_,?_,?_,?_,?_,?_,?_⟩<;>(rw[crw h];rfl)
section
variable{g C N F K:Nat}{pb:Option Nat}{ps xs:List Rv}{cl:Bool}
theorem zds(w:World){x:Rv}(h:RgM w g pb C N F (K+1) ps (x::xs) cl):Calls prog 328 #[.pointer (some ⟨g,0,none⟩)] w fun e w'=>e=.returned (.tuple #[x.v,.bool true])/\Fr [] w w':=by
 obtain⟨wz,HWz⟩:∃wz,Hid (w.alloc (.cells #[.int .u8 0,.int .i64 0,.int .i64 0,.string ⟨#[]⟩,.string ⟨#[]⟩,.bool false,.string ⟨#[]⟩,.string ⟨#[]⟩,.slice none 0 0] 338)=wz):=⟨_,rfl⟩;have hF0:Fr [] w wz:=by rw[<-HWz.out];exact Fr.alloc [] w _
 have hrow:wz.heap[w.heap.size]? = some (.cells #[.int .u8 0,.int .i64 0,.int .i64 0,.string ⟨#[]⟩,.string ⟨#[]⟩,.bool false,.string ⟨#[]⟩,.string ⟨#[]⟩,.slice none 0 0] 338 (0,0)):=by rw[<-HWz.out];exact heap_alloc_new w _
 have h0:=h.keep hF0 (by simp) (by simp);have HT:Hid (Calls ..):=glen_any _ h0;have hN:0<N:=by have:=h.pl.fit;omega
 have hF:=h.pl.f1 hN;obtain⟨b,rfl⟩:=h.some_ hN;have c1:=h0.c1;have c2:=h0.c2;have c5:RvAt wz b (F*9) x:=by
  have:=h0.pc rfl hF;rw[h.pl.take.1]at this
  refine RvAt.of (fun j v hj=> ?_);rw[Nat.mul_comm];exact this j v hj
 simp only[Option.map_some]at c1;obtain⟨Z,HZ⟩:∃Z,Hid (w.heap.size=Z):=⟨_,rfl⟩;rw[HZ.out]at hrow
 have HF0:Hid (Fr [] w wz):=hF0;have HR:Hid (wz.heap[Z]? = _):=hrow;have HZw:Hid (w.heap.size<=Z):=by show _<=_;rw[HZ.out];omega
 have HC:Hid (∀W,Fr [] wz W->W.heap[Z]? = some (.cells #[.int .u8 0,.int .i64 0,.int .i64 0,.string ⟨#[]⟩,.string ⟨#[]⟩,.bool false,.string ⟨#[]⟩,.string ⟨#[]⟩,.slice none 0 0] 338 (0,0))):=fun W hf=>hf.keep hrow (by simp);obtain⟨k,f,n,wk,wv,wd,key,en,bo,bl,bc⟩:=x;obtain⟨e0,e1,e2,e3,e4,e5,e6,e7,e8⟩:=c5;simp only at e0 e1 e2 e3 e4 e5 e6 e7 e8;have hgz:g≠Z:=by have:=h.lt;rw[<-HZ.out];omega
 have hbz:b≠Z:=by have:=h.plt rfl;rw[<-HZ.out];omega
 have hzg:Z≠g:=fun e=>hgz e.symm;have hzb:Z≠b:=fun e=>hbz e.symm;clear h h0 hF0 hrow;go_enter func328,ntmps328;go_wp2_with fail
 rw[HWz.out];refine Calls.mono HT.out ?_;rintro e w1⟨rfl,rfl⟩;go_wp2_with fail
 rw[HZ.out];have hrow:=HR.out;have zf:∀j,wz.frozen? ⟨Z,j,none⟩=false:=fun j=>by simp[World.frozen?,hrow]
 have hrowd:wz.drew.heap[Z]? = some (.cells #[.int .u8 0,.int .i64 0,.int .i64 0,.string ⟨#[]⟩,.string ⟨#[]⟩,.bool false,.string ⟨#[]⟩,.string ⟨#[]⟩,.slice none 0 0] 338 (0,0)):=(zcl _ _).trans hrow;have zd:∀j,wz.drew.frozen? ⟨Z,j,none⟩=false:=fun j=>by simp[World.frozen?,hrowd]
 obtain⟨q0,q1,q2,q3,q4,q5,q6,q7,q8⟩:=RvAt.ofRow (x:=Rv.zero) hrow;obtain⟨r0,r1,r2,r3,r4,r5,r6,r7,r8⟩:=RvAt.ofRow (w:=wz.drew) (x:=Rv.zero) hrowd;simp only[Nat.zero_add,Rv.zero]at q0 q1 q2 q3 q4 q5 q6 q7 q8 r0 r1 r2 r3 r4 r5 r6 r7 r8;obtain⟨k1,k2⟩:=zht (.int .u8 k) (.int .i64 f) (.int .i64 n) (.string wk) (.string wv) (.bool wd) (.string key) (.string en) (.slice bo bl bc) hrow;unfold zdr at k1 k2;have HK2:=(show Hid _ from HF0.out.on k2 (by intro y hy;simp at hy;have:=HZw.out;omega));have HK1:=(show Hid _ from k1);clear k1 k2;clear hrow hrowd;go_region_held3 (fun W=>W.cell? ⟨g,1,none⟩=some (.slice (some ⟨b,0,none⟩) N N)/\W.cell? ⟨g,2,none⟩=some (.int .i64 (F:Int))/\W.cell? ⟨b,F*9,none⟩=some (.int .u8 k)/\W.cell? ⟨b,F*9+1,none⟩=some (.int .i64 f)/\W.cell? ⟨b,F*9+2,none⟩=some (.int .i64 n)/\W.cell? ⟨b,F*9+3,none⟩=some (.string wk)/\W.cell? ⟨b,F*9+4,none⟩=some (.string wv)/\W.cell? ⟨b,F*9+5,none⟩=some (.bool wd)/\W.cell? ⟨b,F*9+6,none⟩=some (.string key)/\W.cell? ⟨b,F*9+7,none⟩=some (.string en)/\W.cell? ⟨b,F*9+8,none⟩=some (.slice bo bl bc)) (go_keep)
(fail)
 have hld:=zfg ⟨k,f,n,wk,wv,wd,key,en,bo,bl,bc⟩ HK1.out;go_wp2;refine bodyPost_ret (zbx rfl _ _ _ _ _ rfl hld) rfl ?_;exact⟨rfl,HK2.out⟩
end
end Go.Proofs.YtojjdnjfaelnfaaGreatDoor.O
