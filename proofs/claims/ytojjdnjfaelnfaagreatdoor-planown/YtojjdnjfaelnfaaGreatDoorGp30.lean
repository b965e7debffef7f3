/- Contracts and lemmas. -/
import Derived.Test.YtojjdnjfaelnfaaGreatDoorGp1
import Derived.Test.YtojjdnjfaelnfaaGreatDoorGp2
import Derived.Deep.RegionHeld3
import Derived.WalkSpells
set_option maxHeartbeats 4000000
set_option maxRecDepth 100000
set_option linter.unusedSimpArgs false
set_option linter.unusedVariables false
namespace Go.Proofs.YtojjdnjfaelnfaaGreatDoor.GI
open Go.ChangeShapes Go.WideShapes Go.ChangeAt Go.RowKit Go.Lib Go.Proofs.Tryz
def vals(xs:List Int):List Value:=xs.map fun x=>(.int .i64 x:Value)
theorem zaf(xs:List Int):(vals xs).length=xs.length:=by simp[vals]
theorem zas(xs ys:List Int):vals (xs++ys)=vals xs++vals ys:=by simp[vals]
theorem zdl(xs:List Int)(j:Nat)(h:j<xs.length):(vals xs)[j]? = some (.int .i64 (xs.getD j 0)):=by simp[vals,List.getD,h]
theorem zcy(xs:List Int)(j:Nat)(x:Int):(vals xs).set j (.int .i64 x)=vals (xs.set j x):=by simp[vals,List.map_set]
theorem zat(xs:List Int)(n:Nat):(vals xs).take n=vals (xs.take n):=by simp[vals,List.map_take]
theorem zbd(xs:List Int)(n:Nat):(vals xs).drop n=vals (xs.drop n):=by simp[vals,List.map_drop]
theorem zcz(xs:List Int):∀u∈vals xs,u.oneCell'=true:=by
 intro u hu;obtain⟨_,_,rfl⟩:=List.mem_map.1 hu;rfl
def atN(F i N:Nat):Nat:=if F+i<N then F+i else F+i-N
theorem zdn{F i N:Nat}(hF:F<N)(hi:i<=N):(F+i)%N=atN F i N:=by
 unfold atN;split
 .exact Nat.mod_eq_of_lt (by assumption)
 rw[Nat.mod_eq_sub_mod (by omega),Nat.mod_eq_of_lt (by omega)]
theorem zbv{F i N:Nat}(hF:F<N)(hi:i<=N):atN F i N<N:=by
 unfold atN;split<;>omega
structure Pl(N F K:Nat)(ps xs:List Int):Prop where
 len:ps.length=N
 cnt:xs.length=K
 fit:K<=N
 f0:N=0->F=0
 f1:0<N->F<N
 at_:∀i,i<K->ps.getD (atN F i N) 0=xs.getD i 0
theorem zbh(ps:List Int)(i j:Nat)(x:Int)(hi:i<ps.length):(ps.set i x).getD j 0=if i=j then x else ps.getD j 0:=by
 simp only[List.getD,List.getElem?_set];split
 .subst_vars
  simp[hi]
 rfl
theorem zeq(xs:List Int)(x:Int)(j:Nat):(xs++[x]).getD j 0=if j<xs.length then xs.getD j 0 else if j=xs.length then x else 0:=by
 simp only[List.getD];split
 .rw[List.getElem?_append_left (by assumption)]
 rw[List.getElem?_append_right (by omega)];split
 .subst_vars;simp
 rw[List.getElem?_eq_none (by simp;omega)];rfl
theorem Pl.put{N F K:Nat}{ps xs:List Int}(h:Pl N F K ps xs)(hK:K<N)(x:Int):Pl N F (K+1) (ps.set (atN F K N) x) (xs++[x]):=by
 have hF:=h.f1 (by omega);refine⟨by rw[List.length_set];exact h.len,by rw[List.length_append,h.cnt];rfl,by omega,h.f0,h.f1,fun i hi=> ?_⟩;rw[zbh _ _ _ _ (by rw[h.len];exact zbv hF (by omega)),zeq,h.cnt];by_cases hiK:i<K
 .rw[if_neg (by unfold atN;split<;>split<;>omega),if_pos hiK];exact h.at_ i hiK
 obtain rfl:i=K:=by omega
 rw[if_pos rfl,if_neg (by omega),if_pos rfl]
theorem Pl.take{N F K:Nat}{ps xs:List Int}{x:Int}(h:Pl N F (K+1) ps (x::xs)):ps.getD F 0=x/\Pl N (atN F 1 N) K (ps.set F 0) xs:=by
 have hN:0<N:=by have:=h.fit;omega
 have hF:=h.f1 hN;have h0:=h.at_ 0 (by omega);have e0:atN F 0 N=F:=by unfold atN;rw[if_pos (by omega)];rfl
 rw[e0]at h0
 refine⟨by simpa using h0,by rw[List.length_set];exact h.len,by have:=h.cnt;simp at this;exact this,by have:=h.fit;omega,fun e=>by omega,fun _=>zbv hF (by omega),fun i hi=> ?_⟩;have hi1:=h.at_ (i+1) (by omega);have hfit:=h.fit;have e1:atN (atN F 1 N) i N=atN F (i+1) N:=by unfold atN;split<;>split<;>(try split)<;>omega
 rw[e1,zbh _ _ _ _ (by rw[h.len];exact hF),if_neg (by unfold atN;split<;>omega),hi1];rfl
def unr(F n:Nat)(ps:List Int):List Int:=(ps.drop F++ps.take F).take n++List.replicate (n-ps.length) 0
theorem zcc(F n:Nat)(ps:List Int):(unr F n ps).length=n:=by
 simp[unr];omega
theorem zgv{F n N i:Nat}{ps:List Int}(hN:ps.length=N)(hF:F<N)(hi:i<n)(hiN:i<N):(unr F n ps).getD i 0=ps.getD (atN F i N) 0:=by
 simp only[unr,List.getD]
 congr 1
 rw[List.getElem?_append_left (by simp;omega),List.getElem?_take_of_lt hi];unfold atN;split
 .rw[List.getElem?_append_left (by simp;omega),List.getElem?_drop]
 rw[List.getElem?_append_right (by simp;omega),List.getElem?_take_of_lt (by simp;omega)]
 congr 1
 simp;omega
theorem Pl.wide{N F K n:Nat}{ps xs:List Int}(h:Pl N F K ps xs)(hn:N<=n)(hn0:0<n):Pl n 0 K (unr F n ps) xs:=by
 refine⟨zcc _ _ _,h.cnt,by have:=h.fit;omega,fun _=>rfl,fun h=>h,fun i hi=> ?_⟩;have hfit:=h.fit;have e0:atN 0 i n=i:=by unfold atN;rw[if_pos (by omega)];omega
 rw[e0,zgv h.len (h.f1 (by omega)) (by omega) (by omega)];exact h.at_ i hi
theorem Pl.nil:Pl 0 0 0 [] []:=⟨rfl,rfl,Nat.le_refl _,fun _=>rfl,fun h=>absurd h (by omega),fun i h=>absurd h (by omega)⟩
structure RgM(w:World)(g:Nat)(pb:Option Nat)(C N F K:Nat)(ps xs:List Int)(cl:Bool):Prop where
 box:w.heap[g]? = some (.cells #[.int .i64 (C:Int),.slice (pb.map fun b=>⟨b,0,none⟩) N N,.int .i64 (F:Int),.int .i64 (K:Int),.bool cl] 288 (0,0))
 pl:Pl N F K ps xs
 row:∀b,pb=some b->w.heap[b]? = some (.cells (vals ps).toArray 3 (0,0))
 none_:pb=none↔N=0
 cap:1<=C/\C<=65536/\N<=C
def Rg(w:World)(g:Nat)(pb:Option Nat)(C:Nat)(xs:List Int)(cl:Bool):Prop:=∃N F K ps,RgM w g pb C N F K ps xs cl
section
variable{w w':World}{g C N F K:Nat}{pb:Option Nat}{ps xs:List Int}{cl:Bool}
theorem RgM.lt(h:RgM w g pb C N F K ps xs cl):g<w.heap.size:=lt_of_block h.box
theorem RgM.ne(h:RgM w g pb C N F K ps xs cl):pb≠some g:=by
 intro e;have h1:=h.row g e;rw[h.box]at h1
 simp at h1
theorem RgM.plt(h:RgM w g pb C N F K ps xs cl){b:Nat}(hb:pb=some b):b<w.heap.size:=lt_of_block (h.row b hb)
theorem RgM.keep{S:List Nat}(h:RgM w g pb C N F K ps xs cl)(hf:Fr S w w')(hg:g∉S)(hb:∀b,pb=some b->b∉S):RgM w' g pb C N F K ps xs cl:=
 ⟨hf.keep h.box hg,h.pl,fun b e=>hf.keep (h.row b e) (hb b e),h.none_,h.cap⟩
theorem RgM.c0(h:RgM w g pb C N F K ps xs cl):w.cell? ⟨g,0,none⟩=some (.int .i64 (C:Int)):=by rw[crw h.box];rfl
theorem RgM.c1(h:RgM w g pb C N F K ps xs cl):w.cell? ⟨g,1,none⟩=some (.slice (pb.map fun b=>⟨b,0,none⟩) N N):=by rw[crw h.box];rfl
theorem RgM.c2(h:RgM w g pb C N F K ps xs cl):w.cell? ⟨g,2,none⟩=some (.int .i64 (F:Int)):=by rw[crw h.box];rfl
theorem RgM.c3(h:RgM w g pb C N F K ps xs cl):w.cell? ⟨g,3,none⟩=some (.int .i64 (K:Int)):=by rw[crw h.box];rfl
theorem RgM.c4(h:RgM w g pb C N F K ps xs cl):w.cell? ⟨g,4,none⟩=some (.bool cl):=by rw[crw h.box];rfl
theorem RgM.fz(h:RgM w g pb C N F K ps xs cl)(i:Nat):w.frozen? ⟨g,i,none⟩=false:=by simp[World.frozen?,h.box]
theorem RgM.pc(h:RgM w g pb C N F K ps xs cl){b i:Nat}(hb:pb=some b)(hi:i<N):w.cell? ⟨b,i,none⟩=some (.int .i64 (ps.getD i 0)):=by
 rw[crw (h.row b hb),List.getElem?_toArray];exact zdl ps i (by rw[h.pl.len];exact hi)
theorem RgM.pz(h:RgM w g pb C N F K ps xs cl){b:Nat}(hb:pb=some b)(i:Nat):w.frozen? ⟨b,i,none⟩=false:=by simp[World.frozen?,h.row b hb]
theorem Rg.keep{S:List Nat}(h:Rg w g pb C xs cl)(hf:Fr S w w')(hg:g∉S)(hb:∀b,pb=some b->b∉S):Rg w' g pb C xs cl:=by
 obtain⟨N,F,K,ps,h⟩:=h;exact⟨N,F,K,ps,h.keep hf hg hb⟩
theorem Rg.lt(h:Rg w g pb C xs cl):g<w.heap.size:=by obtain⟨N,F,K,ps,h⟩:=h;exact h.lt
theorem Rg.plt(h:Rg w g pb C xs cl){b:Nat}(hb:pb=some b):b<w.heap.size:=by obtain⟨N,F,K,ps,h⟩:=h;exact h.plt hb
end
theorem zaa{w:World}{b j:Nat}{cs:Array Value}{t:TypeId}(x:Value)(h:w.heap[b]? = some (.cells cs t (0,0))):(w.setCell ⟨b,j,none⟩ x).heap[b]? = some (.cells (cs.setIfInBounds j x) t (0,0)):=by
 have hlt:=lt_of_block h;have h':w.heap[b]=.cells cs t (0,0):=by simpa[Array.getElem?_eq_getElem hlt]using h
 show (w.heap.modify b _)[b]? = _;rw[Array.getElem?_eq_getElem (by simpa using hlt),Array.getElem_modify_self,h'];rfl
def Rg.own(g:Nat)(pb:Option Nat):List Nat:=g::pb.toList
def Mv(n:Nat)(pb pb':Option Nat):Prop:=pb'=pb\/∃k,pb'=some k/\n<=k
theorem Mv.refl(n:Nat)(pb:Option Nat):Mv n pb pb:=Or.inl rfl
theorem gnew_any(c:Int)(w:World)(hc:1<=c/\c<=65536):Calls prog 152 #[.int .i64 c] w fun e w'=>∃g,e=.returned (.tuple #[.pointer (some ⟨g,0,none⟩),.int .i64 0])/\w.heap.size<=g/\Rg w' g none c.toNat [] false/\Fr [] w w':=by
 obtain⟨h1,h2⟩:=hc;have HM:Hid (Rg (w.alloc (.cells #[.int .i64 c,.slice none 0 0,.int .i64 0,.int .i64 0,.bool false] 288)) w.heap.size none c.toNat [] false):=by
  refine⟨0,0,0,[],?_,Pl.nil,fun b e=>(by cases e),⟨fun _=>rfl,fun _=>rfl⟩,by omega,by omega,by omega⟩;have e:((c.toNat:Nat):Int)=c:=by omega
  rw[e];exact heap_alloc_new w _
 go_enter func152,ntmps152;go_wp2;refine bodyPost_ret (results_tmp2 rfl _ _ _) rfl ?_;exact⟨w.heap.size,rfl,Nat.le_refl _,HM.out,Fr.alloc _ _ _⟩
section
variable{g C N F K:Nat}{pb:Option Nat}{ps xs:List Int}{cl:Bool}
theorem zcd(w:World)(h:RgM w g pb C N F K ps xs cl):Calls prog 318 #[.pointer (some ⟨g,0,none⟩)] w fun e w'=>e=.returned (.bool true)/\w=w':=by
 have c0:=h.c0;have h1:decide (0<C)=true:=by have:=h.cap;simp;omega
 clear h;go_enter func318,ntmps318;go_wp2;go_ret;exact⟨rfl,rfl⟩
theorem glen_any(w:World)(h:RgM w g pb C N F K ps xs cl):Calls prog 375 #[.pointer (some ⟨g,0,none⟩)] w fun e w'=>e=.returned (.int .i64 (K:Int))/\w=w':=by
 have c3:=h.c3;have HT:Hid (Calls ..):=zcd w h;clear h;go_enter func375,ntmps375;go_wp2_with fail
 refine Calls.mono HT.out ?_;rintro e w1⟨rfl,rfl⟩;go_wp2;go_ret;exact⟨rfl,rfl⟩
theorem zda(w:World)(h:RgM w g pb C N F K ps xs cl)(R:Nat)(hR:R=if cl then 0 else C-K):Calls prog 308 #[.pointer (some ⟨g,0,none⟩)] w fun e w'=>e=.returned (.int .i64 (R:Int))/\Fr [] w w':=by
 have HT:Hid (Calls ..):=zcd w h;have c0:=h.c0;have c3:=h.c3;have c4:=h.c4;have h1:K<=C:=by have:=h.cap;have:=h.pl.fit;omega
 have h2:C<=65536:=h.cap.2.1;cases cl with
 |true=>
  obtain rfl:R=0:=by simpa using hR
  clear h hR;go_enter func308,ntmps308;go_wp2_with fail
  refine Calls.mono HT.out ?_;rintro e w1⟨rfl,rfl⟩;go_wp2;go_ret;exact⟨rfl,Fr.refl _ _⟩
 |false=>
  have HR:Hid (R=C-K):=by show R=C-K;simpa using hR
  have hw:IntKind.i64.wrap ((C:Int)-(K:Int))=((R:Nat):Int):=by
   have:=HR.out;rw[IntKind.wrap_i64];omega
  clear h hR;go_enter func308,ntmps308;go_wp2_with fail
  refine Calls.mono HT.out ?_;rintro e w1⟨rfl,rfl⟩;go_wp2_with fail
  go_quiet (fail)
  go_wp2;go_ret;refine⟨?_,Fr.drewN _ _ _⟩;rfl
theorem zce(w:World)(n:Nat)(P:Nat)(h:RgM w g pb C N F K ps xs cl)(hN:0<N)(hn:n<=N)(hP:P=atN F n N):Calls prog 310 #[.pointer (some ⟨g,0,none⟩),.int .i64 (n:Int)] w fun e w'=>e=.returned (.int .i64 (P:Int))/\Fr [] w w':=by
 have c1:=h.c1;have c2:=h.c2;have hF:=h.pl.f1 hN;have h2:N<=65536:=by have:=h.cap;omega
 have hm:((F:Int)+(n:Int)).tmod (N:Int)=(P:Int):=by
  rw[hP,<-zdn hF hn]
  norm_cast
 have hm2:((F:Int)+(n:Int))%(N:Int)=(P:Int):=by
  rw[hP,<-zdn hF hn]
  norm_cast
 obtain⟨q,hq⟩:∃q,q=pb.map fun b=>(⟨b,0,none⟩:Addr):=⟨_,rfl⟩;rw[<-hq]at c1
 have hN0:¬(N:Int)=0:=by omega
 have hN1:¬N=0:=by omega
 clear h hP hq;go_enter func310,ntmps310;go_wp2_with fail
 go_quiet (fail)
 go_wp2;go_ret;refine⟨?_,Fr.drewN _ _ _⟩;first
  |rw[hm]
  |rw[hm2]
  |rfl
theorem RgM.some_{w:World}(h:RgM w g pb C N F K ps xs cl)(hN:0<N):∃b,pb=some b:=by
 cases pb with
 |none=>have:=h.none_.1 rfl;omega
 |some b=>exact⟨b,rfl⟩
theorem zds(w:World){x:Int}(h:RgM w g pb C N F (K+1) ps (x::xs) cl):Calls prog 379 #[.pointer (some ⟨g,0,none⟩)] w fun e w'=>e=.returned (.tuple #[.int .i64 x,.bool true])/\Fr [] w w':=by
 have HT:Hid (Calls ..):=glen_any w h;have hN:0<N:=by have:=h.pl.fit;omega
 have hF:=h.pl.f1 hN;obtain⟨b,rfl⟩:=h.some_ hN;have c1:=h.c1;have c2:=h.c2;have c5:=h.pc rfl hF;rw[h.pl.take.1]at c5
 simp only[Option.map_some]at c1;clear h;go_enter func379,ntmps379;go_wp2_with fail
 refine Calls.mono HT.out ?_;rintro e w1⟨rfl,rfl⟩;go_wp2_with fail
 go_quiet (fail)
 go_wp2;refine bodyPost_ret (results_tmp2 rfl _ _ _) rfl ?_;exact⟨rfl,Fr.drewN _ _ _⟩
end
theorem zfj:prog.underlying 25=some (.slice 3):=by kernel_rfl
theorem zafc:(prog.info? 3).map (fun i=>(i.zero,i.size,i.bytes))=some (some (.int .i64 0),1,8):=by kernel_rfl
theorem ziw:(prog.info? 3).map (fun i=>i.size)=some 1:=by kernel_rfl
theorem zqm:∃i,prog.info? 3=some i/\i.zero=some (.int .i64 0)/\i.size=1/\i.bytes=8:=by
 have h:=zafc;cases hi:prog.info? 3 with
 |none=>rw[hi]at h;cases h
 |some i=>
  rw[hi]at h
  simp only[Option.map_some,Option.some.injEq,Prod.mk.injEq]at h;exact⟨i,rfl,h.1,h.2.1,h.2.2⟩
theorem zym(n:Nat):(madeCells (.int .i64 0:Value).cells n).toList=vals (List.replicate n 0):=by
 apply List.ext_getElem
 .simp[madeCells,vals,Value.cells]
 intro i h1 h2;simp[madeCells,vals,Value.cells,Nat.mod_one]
def ERow(w:World)(g:Nat)(xs:List Int):Prop:=w.heap[g]? = some (.cells (vals xs).toArray 3 (0,0))
section
variable{g C N F K:Nat}{pb:Option Nat}{ps xs:List Int}{cl:Bool}
theorem zgx{n D:Nat}(hl:ps.length=N)(hF:F<N)(hD:D=min (N-F) n) :
  splice (splice (vals (List.replicate n 0)) 0 (vals ((ps.drop F).take n))) D (vals ((ps.take F).take (n-D)))=vals (unr F n ps):=by
 have e1:((ps.drop F).take n).length=D:=by simp;omega
 have e2:splice (vals (List.replicate n 0)) 0 (vals ((ps.drop F).take n))=vals ((ps.drop F).take n++List.replicate (n-D) 0):=by
  unfold splice;rw[zaf,e1,zas,List.take_zero,List.nil_append,zbd,Nat.zero_add,List.drop_replicate]
 rw[e2];unfold splice unr;rw[zat,zbd,<-zas,<-zas,zaf,List.take_append_of_le_length (by omega),List.take_of_length_le (by omega),List.take_append,List.append_assoc]
 congr 2
 have e3:(ps.drop F).length=N-F:=by simp;omega
 rw[e3];by_cases hn:n<=N-F
 .obtain rfl:D=n:=by omega
  rw[Nat.sub_self,show D-(N-F)=0 by omega,show D-ps.length=0 by omega];simp
 obtain rfl:D=N-F:=by omega
 congr 1
 rw[List.drop_append,e1,List.drop_replicate];have:((ps.take F).take (n-(N-F))).length=min F (n-(N-F)):=by simp;omega
 rw[this,List.drop_of_length_le (by omega),List.nil_append]
 congr 1
 omega
theorem zfi(w:World)(n:Nat)(h:RgM w g pb C N F K ps xs cl)(hn:1<=n/\n<=65536) :
  Calls prog 319 #[.pointer (some ⟨g,0,none⟩),.int .i64 (n:Int)] w fun e w'=>∃k,e=.returned (.slice (some ⟨k,0,none⟩) n n)/\w.heap.size<=k/\ERow w' k (unr F n ps)/\Fr [] w w':=by
 obtain⟨hn1,hn2⟩:=hn;obtain⟨i0,hi0,hz0,hz1,hz2⟩:=zqm;have HM:Hid (RgM w g pb C N F K ps xs cl):=h;have hgl:=h.lt;have hNC:N<=65536:=by have:=h.cap;omega
 by_cases hN:0<N
 .have hF:=h.pl.f1 hN;obtain⟨b,rfl⟩:=h.some_ hN;have HK:Hid (∀W,Fr [] w W->RgM W g (some b) C N F K ps xs cl):=fun W hf=>h.keep hf (by simp) (by simp);have hbl:=h.plt rfl;obtain⟨D,hD⟩:∃D,D=min (N-F) n:=⟨_,rfl⟩;have HU:Hid (_=_):=zgx (n:=n) h.pl.len hF hD;obtain⟨X1,hX1⟩:∃X1,X1=vals ((ps.drop F).take n):=⟨_,rfl⟩;obtain⟨X2,hX2⟩:∃X2,X2=vals ((ps.take F).take (n-D)):=⟨_,rfl⟩;obtain⟨Z0,hZ0⟩:∃Z0,Z0=vals (List.replicate n 0):=⟨_,rfl⟩;rw[<-hX1,<-hX2,<-hZ0]at HU
  have hl1:X1.length=D:=by rw[hX1,zaf];simp;have:=h.pl.len;omega
  have hl2:X2.length=min F (n-D):=by rw[hX2,zaf];simp;have:=h.pl.len;omega
  have hl0:Z0.length=n:=by rw[hZ0,zaf];simp
  have HL:Hid (X1.length=D/\X2.length=min F (n-D)/\Z0.length=n/\D=min (N-F) n):=⟨hl1,hl2,hl0,hD⟩;have o1:Hid (∀v∈X1,v.oneCell'=true):=by rw[hX1];exact zcz _
  have o2:Hid (∀v∈X2,v.oneCell'=true):=by rw[hX2];exact zcz _
  have H1:Hid (∀W,Fr [] w W->∀j v,X1[j]? = some v->W.cell? ((⟨b,F,none⟩:Addr).add j)=some v):=by
   intro W hf j v hj;rw[hX1,<-zat,<-zbd,List.getElem?_take]at hj
   split at hj
   .rw[Addr.add_lit,crw ((HK.out W hf).row b rfl),List.getElem?_toArray];rw[List.getElem?_drop]at hj
    exact hj
   cases hj
  have H2:Hid (∀W,Fr [] w W->∀j v,X2[j]? = some v->W.cell? ((⟨b,0,none⟩:Addr).add j)=some v):=by
   intro W hf j v hj;rw[hX2,<-zat,<-zat,List.take_take,List.getElem?_take]at hj
   split at hj
   .rw[Addr.add_lit,crw ((HK.out W hf).row b rfl),List.getElem?_toArray,Nat.zero_add];exact hj
   cases hj
  have hDn:D<=n:=by omega
  clear hl1 hl2 hl0 hX1 hX2 hD;have HZ0:Hid (Z0=vals (List.replicate n 0)):=hZ0;clear hZ0 h;go_enter func319,ntmps319;go_wp2_with (at_make;refine wpList_make_full _ rfl (.tmp 7) (.tmp 7) 25 rfl 0 3 i0 _ 1 zfj hi0 hz0 hz1 .i64 .i64 (n:Int) (n:Int) n rfl rfl rfl rfl ?b2 ?b3 ?b4 ?_)
  case b2=>rw[hz2];omega
  case b3=>unfold maxLen;omega
  case b4=>exact Nat.zero_le _
  intro w1 hown hgrow;obtain⟨k,hk⟩:∃k,k=w.heap.size:=⟨_,rfl⟩;have hr1:w1.heap[k]? = some (.cells Z0.toArray 3 (0,0)):=by
   have hm:(madeCells #[(.int .i64 0:Value)] n).toList=Z0:=by rw[HZ0.out];exact zym n
   simp only[hm,<-hk]at hown;rcases hown.2 with⟨hv,_⟩|⟨g',cap',cur,hv,_,hb,_,_,hcs,ht⟩
   .cases hv
   cases hv;have:cur=Z0.toArray:=by
    apply Array.ext';rw[<-ht,List.take_of_length_le];rw[Array.length_toList,hcs];exact Nat.le_refl _
   rw[<-this];exact hb
  have hF1:Fr [] w w1:=Fr.grown (S:=[]) hgrow (by simp);have hM1:=HK.out w1 hF1;have c1:=hM1.c1;have c2:=hM1.c2;simp only[Option.map_some]at c1;rw[<-hk];have hkw:w.heap.size<=k:=by omega
  have hF':F<=N:=by omega
  have hNF:¬N=F:=by omega
  clear hown hgrow hk;go_wp2_with fail
  have hbel:∀q,Below w.heap.size w (w1.drewN q):=fun q=>(hF1.then (Fr.drewN [] w1 q)).below (Nat.le_refl _) (by simp);have HB:Hid (∀W,Below w.heap.size w W->Fr [] w W/\W.cell? ⟨g,1,none⟩=some (.slice (some ⟨b,0,none⟩) N N)/\W.cell? ⟨g,2,none⟩=some (.int .i64 (F:Int))):=fun W hb=>by
   have hf:Fr [] w W:=⟨hb.os,hb.tape,hb.output,hb.size,fun k hk _=>hb.block k hk⟩;exact⟨hf,(HK.out W hf).c1,(HK.out W hf).c2⟩
  go_region_held3 (fun W=>W.cell? ⟨g,1,none⟩=some (.slice (some ⟨b,0,none⟩) N N)/\W.cell? ⟨g,2,none⟩=some (.int .i64 (F:Int))) (go_keep)
   ((refine step_copy_splice (by rfl) (.tmp 9) (.tmp 18) 25 25 (by rfl) 3 zfj ziw (some ⟨k,0,none⟩) (some ⟨b,F,none⟩) n n (N-F) (N-F) (by rfl) (by rfl) k 0 Z0 3 hr1 X1 (by have:=HL.out;show _=min _ _;omega) (fun _=>⟨rfl,_,rfl,H1.out _ (hF1.then (Fr.drewN [] w1 _))⟩) (by have:=HL.out;omega) o1.out w.heap.size w (hbel _) hkw ?_;intro w2 HR2 hb2;obtain⟨hF2,d1,d2⟩:=HB.out w2 hb2))
  rw[show X1.length=D from HL.out.1];clear c1 c2 hM1 hr1 hbel hb2;have hbel:∀q,Below w.heap.size w (w2.drewN q):=fun q=>(hF2.then (Fr.drewN [] w2 q)).below (Nat.le_refl _) (by simp);have HR2':=HR2.out;have HLs:Hid ((splice Z0 0 X1).length=n):=by
   show _=_;have:=HL.out;rw[length_splice _ _ _ (by omega)];omega
  by_cases hDe:n=D
  .have hx2:X2=[]:=List.eq_nil_of_length_eq_zero (by have:=HL.out;omega);have HR3:Hid (splice (splice Z0 0 X1) 0 []=vals (unr F n ps)):=by
    show _=_;rw[<-HU.out,hx2];have e:∀(L:List Value) D,splice L D []=L:=by intro L D;simp[splice]
    rw[e,e]
   clear hx2;go_wp2_with fail
   go_region_held3 (fun W=>W.cell? ⟨g,1,none⟩=some (.slice (some ⟨b,0,none⟩) N N)/\W.cell? ⟨g,2,none⟩=some (.int .i64 (F:Int))) (go_keep)
    ((refine step_copy_splice (by rfl) (.tmp 22) (.tmp 31) 25 25 (by rfl) 3 zfj ziw _ _ _ _ _ _ (by rfl) (by rfl) k 0 _ 3 HR2' [] (by show _=min _ _;simp) (fun h=>absurd h (by simp)) (by simp) (by simp) w.heap.size w (hbel _) hkw ?_;intro w3 HR4 hb3;obtain⟨hF3,e1,e2⟩:=HB.out w3 hb3))
   go_wp2;go_ret;refine⟨k,rfl,hkw,?_,hF3⟩;unfold ERow;rw[<-HR3.out];exact HR4.out
  go_wp2_with fail
  go_region_held3 (fun W=>W.cell? ⟨g,1,none⟩=some (.slice (some ⟨b,0,none⟩) N N)/\W.cell? ⟨g,2,none⟩=some (.int .i64 (F:Int))) (go_keep)
   ((refine step_copy_splice (by rfl) (.tmp 22) (.tmp 31) 25 25 (by rfl) 3 zfj ziw (some ⟨k,D,none⟩) (some ⟨b,0,none⟩) (n-D) (n-D) F N (by rfl) (by rfl) k D _ 3 HR2' X2 (by have:=HL.out;show _=min _ _;omega) (fun _=>⟨rfl,_,rfl,H2.out _ (hF2.then (Fr.drewN [] w2 _))⟩) (by rw[HLs.out];have:=HL.out;omega) o2.out w.heap.size w (hbel _) hkw ?_;intro w3 HR4 hb3;obtain⟨hF3,e1,e2⟩:=HB.out w3 hb3))
  go_wp2;go_ret;refine⟨k,rfl,hkw,?_,hF3⟩;unfold ERow;rw[<-HU.out];exact HR4.out
 obtain rfl:N=0:=by omega
 obtain rfl:=h.none_.2 rfl;obtain rfl:=h.pl.f0 rfl;have hps:ps=[]:=List.eq_nil_of_length_eq_zero h.pl.len;have HK:Hid (∀W,Below w.heap.size w W->Fr [] w W/\W.cell? ⟨g,1,none⟩=some (.slice none 0 0)/\W.cell? ⟨g,2,none⟩=some (.int .i64 0)):=fun W hb=>by
  have hf:Fr [] w W:=⟨hb.os,hb.tape,hb.output,hb.size,fun k hk _=>hb.block k hk⟩;have:=h.keep hf (by simp) (by simp);exact⟨hf,this.c1,this.c2⟩
 have HU:Hid (vals (List.replicate n 0)=vals (unr 0 n ps)):=by
  show _=_;rw[hps];simp[unr]
 clear hps h;go_enter func319,ntmps319;go_wp2_with (at_make;refine wpList_make_full _ rfl (.tmp 7) (.tmp 7) 25 rfl 0 3 i0 _ 1 zfj hi0 hz0 hz1 .i64 .i64 (n:Int) (n:Int) n rfl rfl rfl rfl ?b2 ?b3 ?b4 ?_)
 case b2=>rw[hz2];omega
 case b3=>unfold maxLen;omega
 case b4=>exact Nat.zero_le _
 intro w1 hown hgrow;obtain⟨k,hk⟩:∃k,k=w.heap.size:=⟨_,rfl⟩;have hr1:w1.heap[k]? = some (.cells (vals (unr 0 n ps)).toArray 3 (0,0)):=by
  have hm:(madeCells #[(.int .i64 0:Value)] n).toList=vals (unr 0 n ps):=by rw[<-HU.out];exact zym n
  simp only[hm,<-hk]at hown;rcases hown.2 with⟨hv,_⟩|⟨g',cap',cur,hv,_,hb,_,_,hcs,ht⟩
  .cases hv
  cases hv;have:cur=(vals (unr 0 n ps)).toArray:=by
   apply Array.ext';rw[<-ht,List.take_of_length_le];rw[Array.length_toList,hcs];exact Nat.le_refl _
  rw[<-this];exact hb
 obtain⟨X,hX⟩:∃X,X=vals (unr 0 n ps):=⟨_,rfl⟩;rw[<-hX]at hr1
 have HX:Hid (X=vals (unr 0 n ps)):=hX;have hXl:Hid (X.length=n):=by show _=_;rw[hX,zaf,zcc]
 have hF1:Fr [] w w1:=Fr.grown (S:=[]) hgrow (by simp);have hb1:Below w.heap.size w w1:=hF1.below (Nat.le_refl _) (by simp);obtain⟨_,c1,c2⟩:=HK.out w1 hb1;rw[<-hk];have hkw:w.heap.size<=k:=by omega
 clear hown hgrow hk hX;have hbel:∀q,Below w.heap.size w (w1.drewN q):=fun q=>(hF1.then (Fr.drewN [] w1 q)).below (Nat.le_refl _) (by simp);go_wp2_with fail
 go_region_held3 (fun W=>W.cell? ⟨g,1,none⟩=some (.slice none 0 0)/\W.cell? ⟨g,2,none⟩=some (.int .i64 0)) (go_keep)
  ((refine step_copy_splice (by rfl) (.tmp 9) (.tmp 18) 25 25 (by rfl) 3 zfj ziw _ _ _ _ _ _ (by rfl) (by rfl) k 0 X 3 hr1 [] (by show _=min _ _;simp) (fun h=>absurd h (by simp)) (by simp) (by simp) w.heap.size w (hbel _) hkw ?_;intro w2 HR2 hb2;obtain⟨hF2,d1,d2⟩:=HK.out w2 hb2))
 have e:splice X 0 []=X:=by simp[splice]
 rw[e]at HR2
 have hr2:=HR2.out;clear HR2 e hbel;have hbel:∀q,Below w.heap.size w (w2.drewN q):=fun q=>(hF2.then (Fr.drewN [] w2 q)).below (Nat.le_refl _) (by simp);have hn0:¬n=0:=by omega
 go_wp2_with fail
 go_region_held3 (fun W=>W.cell? ⟨g,1,none⟩=some (.slice none 0 0)/\W.cell? ⟨g,2,none⟩=some (.int .i64 0)) (go_keep)
  ((refine step_copy_splice (by rfl) (.tmp 22) (.tmp 31) 25 25 (by rfl) 3 zfj ziw _ _ _ _ _ _ (by rfl) (by rfl) k 0 X 3 hr2 [] (by show _=min _ _;simp) (fun h=>absurd h (by simp)) (by simp) (by simp) w.heap.size w (hbel _) hkw ?_;intro w3 HR3 hb3;obtain⟨hF3,e1,e2⟩:=HK.out w3 hb3))
 go_wp2;go_ret;refine⟨k,rfl,hkw,?_,hF3⟩;unfold ERow;rw[<-HX.out];have e:splice X 0 []=X:=by simp[splice]
 rw[<-e];exact HR3.out
theorem zdt(w:World)(h:RgM w g pb C N F K ps xs cl)(hNC:N<C) :
  Calls prog 309 #[.pointer (some ⟨g,0,none⟩)] w fun e w'=>(∃v,e=.returned v)/\∃k M,w.heap.size<=k/\N<M/\RgM w' g (some k) C M 0 K (unr F M ps) xs cl/\Fr [g] w w':=by
 obtain⟨hC1,hC2,_⟩:=h.cap;have HM:Hid (RgM w g pb C N F K ps xs cl):=h;have c0:=h.c0;have c1:=h.c1;obtain⟨q,hq⟩:∃q,q=pb.map fun b=>(⟨b,0,none⟩:Addr):=⟨_,rfl⟩;rw[<-hq]at c1
 have HW:Hid (∀k M (v:Value) W,N<M->M<=C->v=.slice (some ⟨k,0,none⟩) M M->w.heap.size<=k->ERow W k (unr F M ps)->Fr [] w W->RgM ((W.setCell ⟨g,1,none⟩ v).setCell ⟨g,2,none⟩ (.int .i64 0)) g (some k) C M 0 K (unr F M ps) xs cl/\Fr [g] w ((W.setCell ⟨g,1,none⟩ v).setCell ⟨g,2,none⟩ (.int .i64 0))/\W.cell? ⟨g,1,none⟩=some (.slice q N N)/\W.frozen? ⟨g,1,none⟩=false/\(W.setCell ⟨g,1,none⟩ v).cell? ⟨g,2,none⟩=some (.int .i64 (F:Int))/\(W.setCell ⟨g,1,none⟩ v).frozen? ⟨g,2,none⟩=false):=by
  intro k M v W hNM hMC hv hk hE hf;subst hv;have hW:=h.keep hf (by simp) (by simp);have hgk:k≠g:=by have:=h.lt;omega
  have hb1:=zaa (j:=1) (.slice (some ⟨k,0,none⟩) M M) hW.box;have hb2:=zaa (j:=2) (.int .i64 0) hb1;have hfr:Fr [g] W ((W.setCell ⟨g,1,none⟩ (.slice (some ⟨k,0,none⟩) M M)).setCell ⟨g,2,none⟩ (.int .i64 0)):=(Fr.set (S:=[g]) _ _ _ (by simp)).then (Fr.set (S:=[g]) _ _ _ (by simp));refine⟨⟨?_,h.pl.wide (by omega) (by omega),fun b e=> ?_,⟨fun e=>(by cases e),fun e=>(by omega)⟩,by omega,by omega,by omega⟩,(hf.mono (by simp)).then hfr,by rw[hq];exact hW.c1,hW.fz 1,?_,?_⟩
  .rw[hb2];rfl
  .cases e;exact hfr.keep hE (by simp;exact hgk)
  .rw[crw hb1];rfl
  simp[World.frozen?,hb1]
 have HU:Hid (∀M,1<=M/\M<=65536->Calls ..):=fun M hM=>zfi w M h hM;clear h hq;by_cases hN:N=0
 .subst hN;have h1:¬(C:Int)<1:=by omega
  have h2:(1:Int)<=(C:Int):=by omega
  have HC:=HU.out 1 (by omega);go_enter func309,ntmps309;go_wp2_with fail
  refine HC.mono ?_;rintro e w1⟨k,rfl,hk,hE,hF1⟩;obtain⟨hR,hG,f1,z1,f2,z2⟩:=HW.out k _ _ w1 (by omega) (by omega) rfl hk hE hF1;have HR:Hid (_/\_):=And.intro hR hG;clear hR hG hE;go_wp2
  go_end0
  exact⟨⟨_,rfl⟩,k,1,hk,by omega,HR.out.1,HR.out.2⟩
 by_cases h2:2*N<=C
 .have h3:(1:Int)<2*(N:Int):=by omega
  have h4:2*(N:Int)<=(C:Int):=by omega
  have HC:=HU.out (2*N) (by omega);rw[show ((2*N:Nat):Int)=2*(N:Int) by omega]at HC
  go_enter func309,ntmps309;go_wp2_with fail
  refine HC.mono ?_;rintro e w1⟨k,rfl,hk,hE,hF1⟩;obtain⟨hR,hG,f1,z1,f2,z2⟩:=HW.out k _ _ w1 (by omega) (by omega) rfl hk hE hF1;have HR:Hid (_/\_):=And.intro hR hG;clear hR hG hE;go_wp2
  go_end0
  exact⟨⟨_,rfl⟩,k,2*N,hk,by omega,HR.out.1,HR.out.2⟩
 have h3:(1:Int)<2*(N:Int):=by omega
 have h4:(C:Int)<2*(N:Int):=by omega
 have HC:=HU.out C (by omega);go_enter func309,ntmps309;go_wp2_with fail
 refine HC.mono ?_;rintro e w1⟨k,rfl,hk,hE,hF1⟩;obtain⟨hR,hG,f1,z1,f2,z2⟩:=HW.out k _ _ w1 (by omega) (by omega) rfl hk hE hF1;have HR:Hid (_/\_):=And.intro hR hG;clear hR hG hE;go_wp2
 go_end0
 exact⟨⟨_,rfl⟩,k,C,hk,by omega,HR.out.1,HR.out.2⟩
end
section
variable{g C N F K:Nat}{pb:Option Nat}{ps xs:List Int}{cl:Bool}
theorem RgM.stored{w W:World}{b P:Nat}{x:Int}(h:RgM w g (some b) C N F K ps xs cl)(hK:K<N)(hP:P=atN F K N)(hf:Fr [] w W) :
  RgM ((W.setCell ⟨b,P,none⟩ (.int .i64 x)).setCell ⟨g,3,none⟩ (.int .i64 ((K:Int)+1))) g (some b) C N F (K+1) (ps.set P x) (xs++[x]) cl/\Fr [g,b] w ((W.setCell ⟨b,P,none⟩ (.int .i64 x)).setCell ⟨g,3,none⟩ (.int .i64 ((K:Int)+1)))/\(W.setCell ⟨b,P,none⟩ (.int .i64 x)).cell? ⟨g,3,none⟩=some (.int .i64 (K:Int))/\(W.setCell ⟨b,P,none⟩ (.int .i64 x)).frozen? ⟨g,3,none⟩=false:=by
 have hW:=h.keep hf (by simp) (by simp);have hgb:b≠g:=by rintro rfl;exact h.ne rfl
 have f1:Fr [b] W (W.setCell ⟨b,P,none⟩ (.int .i64 x)):=Fr.set _ _ _ (by simp);have f2:Fr [g] (W.setCell ⟨b,P,none⟩ (.int .i64 x)) ((W.setCell ⟨b,P,none⟩ (.int .i64 x)).setCell ⟨g,3,none⟩ (.int .i64 ((K:Int)+1))):=Fr.set _ _ _ (by simp);have hb1:=f1.keep hW.box (by simp;omega);have hr1:=zaa (j:=P) (.int .i64 x) (hW.row b rfl);refine⟨⟨?_,by rw[hP];exact h.pl.put hK x,fun b' e=> ?_,h.none_,h.cap⟩,(hf.mono (by simp)).then ((f1.mono (by simp)).then (f2.mono (by simp))),by rw[crw hb1];rfl,by simp[World.frozen?,hb1]⟩
 .rw[zaa _ hb1];rfl
 cases e;rw[<-zcy];have:=f2.keep hr1 (by simp;omega);rw[this];simp
theorem gput_any(x:Int)(w:World)(h:Rg w g pb C xs false)(hK:xs.length<C):Calls prog 299 #[.pointer (some ⟨g,0,none⟩),.int .i64 x] w fun e w'=>e=.returned (.bool true)/\∃pb',Rg w' g pb' C (xs++[x]) false/\Fr (Rg.own g pb) w w'/\Mv w.heap.size pb pb':=by
 obtain⟨N,F,K,ps,h⟩:=h;rw[h.pl.cnt]at hK
 obtain⟨R,hR⟩:∃R,R=C-K:=⟨_,rfl⟩;have HT:Hid (Calls ..):=zda w h R (by simpa using hR);have hR0:¬(R:Int)=0:=by omega
 have hR1:¬R=0:=by omega
 have HK:Hid (∀W,Fr [] w W->RgM W g pb C N F K ps xs false):=fun W hf=>h.keep hf (by simp) (by simp);have hKN:=h.pl.fit;have hNC:=h.cap;clear h hR;obtain⟨_,hC2,hNC⟩:=hNC;have HX:Hid (∀(x:Int)(W:World)(N F:Nat)(b:Nat)(ps:List Int),RgM W g (some b) C N F K ps xs false->K<N->Calls prog 310 #[.pointer (some ⟨g,0,none⟩),.int .i64 (K:Int)] W fun e w'=>e=.returned (.int .i64 ((atN F K N:Nat):Int))/\Fr [] W w'):=fun x W N F b ps h hK=>zce W K _ h (by omega) (by omega) rfl;by_cases hKe:K=N
 .subst hKe;go_enter func299,ntmps299;go_wp2_with fail
  refine Calls.mono HT.out ?_;rintro e w1⟨rfl,hF1⟩;have h1:=HK.out w1 hF1;have c1:=h1.c1;have c3:=h1.c3;have HWd:Hid (∀W,Fr [] w1 W->Calls ..):=fun W hf=>zdt W (h1.keep hf (by simp) (by simp)) (by omega);obtain⟨q,hq⟩:∃q,q=pb.map fun b=>(⟨b,0,none⟩:Addr):=⟨_,rfl⟩;rw[<-hq]at c1
  clear h1 hq HT;go_wp2_with fail
  go_quiet (fail)
  go_wp2_with fail
  refine Calls.mono (HWd.out _ (Fr.drewN _ _ _)) ?_;rintro e w2⟨⟨v0,rfl⟩,b,M,hb,hNM,hR2,hF2⟩;have hG2:Fr [g] w w2:=(hF1.mono (by simp)).then (((Fr.drewN [g] w1 _)).then hF2);have hbw:w.heap.size<=b:=by have h3:w1.heap.size<=b:=hb;have:=hF1.size;omega
  clear c1 c3 HWd hF2 hb;have hM:=hR2;have c1:=hM.c1;have c3:=hM.c3;simp only[Option.map_some]at c1;obtain⟨P,hP⟩:∃P,P=atN 0 K M:=⟨_,rfl⟩;have hPN:P<M:=by rw[hP];exact zbv (hM.pl.f1 (by omega)) (by omega)
  have hbg:b≠g:=by rintro rfl;exact hM.ne rfl
  have hgb:g≠b:=fun e=>hbg e.symm;have HPl:Hid (∀W,Fr [] w2 W->Calls prog 310 #[.pointer (some ⟨g,0,none⟩),.int .i64 (K:Int)] W fun e w'=>e=.returned (.int .i64 (P:Int))/\Fr [] W w'):=fun W hf=>by rw[hP];exact HX.out x W _ _ b _ (hM.keep hf (by simp) (by simp)) (by omega)
  have HSt:Hid (∀W,Fr [] w2 W->_/\_/\_/\_):=fun W hf=>hM.stored (x:=x) (by omega) hP hf;have HS:Hid (∀W,Fr [] w2 W->W.cell? ⟨g,1,none⟩=some (.slice (some ⟨b,0,none⟩) M M)/\W.cell? ⟨g,3,none⟩=some (.int .i64 (K:Int))/\(W.cell? ⟨b,P,none⟩=some (.int .i64 (_:Int))/\W.frozen? ⟨b,P,none⟩=false)):=fun W hf=>by
   have:=hM.keep hf (by simp) (by simp);exact⟨this.c1,this.c3,this.pc rfl hPN,this.pz rfl _⟩
  obtain⟨_,_,c5,z5⟩:=HS.out _ (Fr.refl _ _);generalize List.getD _ P 0=old at c5 HS;clear hM hR2 hP;go_wp2_with fail
  go_region_held3 (fun W=>W.cell? ⟨g,1,none⟩=some (.slice (some ⟨b,0,none⟩) M M)/\W.cell? ⟨g,3,none⟩=some (.int .i64 (K:Int))) (go_keep)
   (first
    |(with_reducible refine Calls.mono (HPl.out _ (Fr.drew _ _)) ?_;rintro e w3⟨rfl,hF3⟩;have hF3':=(Fr.drew [] w2).then hF3;obtain⟨d1,d3,d5,y5⟩:=HS.out _ hF3';obtain⟨_,_,j3,y3⟩:=HSt.out _ hF3'))
  go_wp2;go_ret;have hSt:=HSt.out _ hF3';refine⟨rfl,some b,⟨_,_,_,_,hSt.1⟩,?_,Or.inr ⟨b,rfl,hbw⟩⟩;refine hG2.trans hSt.2.1 (by intro y hy _;simp[Rg.own]at hy ⊢;exact Or.inl hy) (by intro y hy hl;simp[Rg.own]at hy ⊢;omega)
 have hKN':K<N:=by omega
 have hKe2:¬(K:Int)=(N:Int):=by omega
 go_enter func299,ntmps299;go_wp2_with fail
 refine Calls.mono HT.out ?_;rintro e w1⟨rfl,hF1⟩;have hR2:=HK.out w1 hF1;obtain⟨b,rfl⟩:=hR2.some_ (by omega);have c1:=hR2.c1;have c3:=hR2.c3;simp only[Option.map_some]at c1;clear HT;go_wp2_with fail
 go_quiet (fail)
 have hF2:=hF1.then (Fr.drewN [] w1 nq);have hR2:=HK.out _ hF2;obtain⟨w2,HW2⟩:∃w2,Hid (w1.drewN nq=w2):=⟨_,rfl⟩;rw[HW2.out]at hF2 hR2 ⊢
 clear c1 c3 HW2;have hM:=hR2;have c1:=hM.c1;have c3:=hM.c3;simp only[Option.map_some]at c1;obtain⟨P,hP⟩:∃P,P=atN F K N:=⟨_,rfl⟩;have hPN:P<N:=by rw[hP];exact zbv (hM.pl.f1 (by omega)) (by omega)
 have hbg:b≠g:=by rintro rfl;exact hM.ne rfl
 have hgb:g≠b:=fun e=>hbg e.symm;have HPl:Hid (∀W,Fr [] w2 W->Calls prog 310 #[.pointer (some ⟨g,0,none⟩),.int .i64 (K:Int)] W fun e w'=>e=.returned (.int .i64 (P:Int))/\Fr [] W w'):=fun W hf=>by rw[hP];exact HX.out x W _ _ b _ (hM.keep hf (by simp) (by simp)) (by omega)
 have HSt:Hid (∀W,Fr [] w2 W->_/\_/\_/\_):=fun W hf=>hM.stored (x:=x) (by omega) hP hf;have HS:Hid (∀W,Fr [] w2 W->W.cell? ⟨g,1,none⟩=some (.slice (some ⟨b,0,none⟩) N N)/\W.cell? ⟨g,3,none⟩=some (.int .i64 (K:Int))/\(W.cell? ⟨b,P,none⟩=some (.int .i64 (_:Int))/\W.frozen? ⟨b,P,none⟩=false)):=fun W hf=>by
  have:=hM.keep hf (by simp) (by simp);exact⟨this.c1,this.c3,this.pc rfl hPN,this.pz rfl _⟩
 obtain⟨_,_,c5,z5⟩:=HS.out _ (Fr.refl _ _);generalize List.getD _ P 0=old at c5 HS;clear hM hR2 hP;go_wp2_with fail
 go_region_held3 (fun W=>W.cell? ⟨g,1,none⟩=some (.slice (some ⟨b,0,none⟩) N N)/\W.cell? ⟨g,3,none⟩=some (.int .i64 (K:Int))) (go_keep)
  (first
   |(with_reducible refine Calls.mono (HPl.out _ (Fr.drew _ _)) ?_;rintro e w3⟨rfl,hF3⟩;have hF3':=(Fr.drew [] w2).then hF3;obtain⟨d1,d3,d5,y5⟩:=HS.out _ hF3';obtain⟨_,_,j3,y3⟩:=HSt.out _ hF3'))
 go_wp2;go_ret;have hSt:=HSt.out _ hF3';refine⟨rfl,some b,⟨_,_,_,_,hSt.1⟩,?_,Mv.refl _ _⟩;exact (hF2.mono (by simp)).then (hSt.2.1.mono (by simp[Rg.own]))
theorem gtake_any(x:Int)(w:World)(h:Rg w g pb C (x::xs) cl):Calls prog 376 #[.pointer (some ⟨g,0,none⟩)] w fun e w'=>e=.returned (.tuple #[.int .i64 x,.bool true])/\Rg w' g pb C xs cl/\Fr (Rg.own g pb) w w':=by
 obtain⟨N,F,K1,ps,h⟩:=h;obtain⟨K,rfl⟩:∃K,K1=K+1:=⟨xs.length,by have:=h.pl.cnt;simpa using this.symm⟩;have HT:Hid (Calls ..):=zds w h;have hN:0<N:=by have:=h.pl.fit;omega
 have hF:=h.pl.f1 hN;obtain⟨b,rfl⟩:=h.some_ hN;have hbg:b≠g:=by rintro rfl;exact h.ne rfl
 have hgb:g≠b:=fun e=>hbg e.symm;have hKC:K<65536:=by have:=h.pl.fit;have:=h.cap;omega
 obtain⟨P,hP⟩:∃P,P=atN F 1 N:=⟨_,rfl⟩;have HA:Hid (∀W,Fr [] w W->W.cell? ⟨g,1,none⟩=some (.slice (some ⟨b,0,none⟩) N N)/\W.cell? ⟨g,2,none⟩=some (.int .i64 (F:Int))/\W.cell? ⟨b,F,none⟩=some (.int .i64 x)/\W.frozen? ⟨b,F,none⟩=false):=fun W hf=>by
  have hh:=h.keep hf (by simp) (by simp);have h5:=hh.pc rfl hF;rw[h.pl.take.1]at h5
  exact⟨hh.c1,hh.c2,h5,hh.pz rfl _⟩
 have HB:Hid (∀W,Fr [] w W->∀W2,Fr [] (W.setCell ⟨b,F,none⟩ (.int .i64 0)) W2->RgM W2 g (some b) C N F (K+1) (ps.set F 0) ((ps.set F 0).getD F 0::xs) cl):=fun W hf W2 hf2=>by
  have hh:=h.keep hf (by simp) (by simp);have hf1:Fr [b] W (W.setCell ⟨b,F,none⟩ (.int .i64 0)):=Fr.set _ _ _ (by simp);refine RgM.keep (S:=[]) (w:=W.setCell ⟨b,F,none⟩ (.int .i64 0)) ⟨hf1.keep hh.box (by simp;exact hgb),?_,fun b' e=> ?_,h.none_,h.cap⟩ hf2 (by simp) (by simp)
  .refine⟨by rw[List.length_set];exact h.pl.len,by have:=h.pl.cnt;simpa using this,h.pl.fit,h.pl.f0,h.pl.f1,fun i hi=> ?_⟩;have h2:=h.pl.fit;cases i with
   |zero=>
    have e0:atN F 0 N=F:=by unfold atN;rw[if_pos (by omega)];rfl
    rw[e0];rfl
   |succ i=>
    have h3:=h.pl.at_ (i+1) hi;rw[zbh _ _ _ _ (by rw[h.pl.len];exact hF),if_neg (by unfold atN;split<;>omega),h3];rfl
  cases e;rw[zaa _ (hh.row b rfl),<-zcy];simp
 have HC:Hid (∀W3,RgM W3 g (some b) C N F (K+1) (ps.set F 0) ((ps.set F 0).getD F 0::xs) cl->RgM ((W3.setCell ⟨g,2,none⟩ (.int .i64 (P:Int))).setCell ⟨g,3,none⟩ (.int .i64 (K:Int))) g (some b) C N P K (ps.set F 0) xs cl/\Fr [g] W3 ((W3.setCell ⟨g,2,none⟩ (.int .i64 (P:Int))).setCell ⟨g,3,none⟩ (.int .i64 (K:Int)))/\W3.cell? ⟨g,2,none⟩=some (.int .i64 (F:Int))/\W3.frozen? ⟨g,2,none⟩=false/\(W3.setCell ⟨g,2,none⟩ (.int .i64 (P:Int))).cell? ⟨g,3,none⟩=some (.int .i64 ((K:Int)+1))/\(W3.setCell ⟨g,2,none⟩ (.int .i64 (P:Int))).frozen? ⟨g,3,none⟩=false):=fun W3 h3=>by
  have hb1:=zaa (j:=2) (.int .i64 (P:Int)) h3.box;have hb2:=zaa (j:=3) (.int .i64 (K:Int)) hb1;have hfr:Fr [g] W3 ((W3.setCell ⟨g,2,none⟩ (.int .i64 (P:Int))).setCell ⟨g,3,none⟩ (.int .i64 (K:Int))):=(Fr.set (S:=[g]) _ _ _ (by simp)).then (Fr.set (S:=[g]) _ _ _ (by simp));refine⟨⟨by rw[hb2];rfl,by rw[hP];exact h.pl.take.2,fun b' e=> ?_,h.none_,h.cap⟩,hfr,h3.c2,h3.fz 2,by rw[crw hb1];rfl,by simp[World.frozen?,hb1]⟩;cases e;exact hfr.keep (h3.row b rfl) (by simp;exact hbg)
 have HPl:Hid (∀W,RgM W g (some b) C N F (K+1) (ps.set F 0) ((ps.set F 0).getD F 0::xs) cl->Calls prog 310 #[.pointer (some ⟨g,0,none⟩),.int .i64 1] W fun e w'=>e=.returned (.int .i64 (P:Int))/\Fr [] W w'):=fun W hW=>by
  have:=zce W 1 P hW hN (by omega) hP;exact this
 clear h hP;go_enter func376,ntmps376;go_wp2_with fail
 refine Calls.mono HT.out ?_;rintro e w1⟨rfl,hF1⟩;obtain⟨c1,c2,c5,z5⟩:=HA.out w1 hF1;obtain⟨_,_,c5d,z5d⟩:=HA.out w1.drew (hF1.then (Fr.drew [] w1));clear HT;go_wp2_with fail
 go_region_held3 (fun W=>W.cell? ⟨g,1,none⟩=some (.slice (some ⟨b,0,none⟩) N N)/\W.cell? ⟨g,2,none⟩=some (.int .i64 (F:Int))) (go_keep) (fail)
 have hR2:=HB.out w1 hF1 _ (Fr.drew [] (w1.setCell ⟨b,F,none⟩ (.int .i64 0)));have hF2:Fr [b] w (w1.setCell ⟨b,F,none⟩ (.int .i64 0)).drew:=(hF1.mono (by simp)).then ((Fr.set (S:=[b]) _ _ _ (by simp)).then (Fr.drew _ _));obtain⟨w2,HW2⟩:∃w2,Hid ((w1.setCell ⟨b,F,none⟩ (.int .i64 0)).drew=w2):=⟨_,rfl⟩;rw[HW2.out]at hR2 hF2 ⊢
 have HPc:Hid (Calls ..):=HPl.out w2 hR2;have HR2:Hid (RgM w2 g (some b) C N F (K+1) (ps.set F 0) ((ps.set F 0).getD F 0::xs) cl):=hR2;clear hR2 c1 c2 c5 z5 c5d z5d HW2;go_wp2_with fail
 refine Calls.mono HPc.out ?_;rintro e w3⟨rfl,hF3⟩;obtain⟨hR4,hG4,d2,y2,d3,y3⟩:=HC.out w3 (HR2.out.keep hF3 (by simp) (by simp));have HR4:Hid (_/\_):=And.intro hR4 hG4;clear hR4 hG4;have hk1:(K:Int)+1-1=(K:Int):=by omega
 go_wp2;refine bodyPost_ret (results_tmp2 rfl _ _ _) rfl ?_;refine⟨rfl,⟨_,_,_,_,HR4.out.1⟩,?_⟩;exact (hF2.mono (by simp[Rg.own])).then ((hF3.mono (by simp)).then (HR4.out.2.mono (by simp[Rg.own])))
end
end Go.Proofs.YtojjdnjfaelnfaaGreatDoor.GI
