/- Contracts and lemmas. -/
import Derived.Test.YtojjdnjfaelnfaaGreatDoorGp1
import Derived.Test.YtojjdnjfaelnfaaGreatDoorGp2
import Derived.Deep.Slices
import Derived.SizedLaws
import Derived.Lib.SliceRun
import Derived.Deep.Cut
import Derived.Lib.AppendZerosOnto
set_option maxHeartbeats 8000000
set_option maxRecDepth 1000000
set_option linter.unusedSimpArgs false
set_option linter.unusedVariables false
namespace Go.Proofs.YtojjdnjfaelnfaaGreatDoor.O
open Go.ChangeShapes Go.WideShapes Go.ChangeAt Go.RowKit Go.Lib Go.Proofs.Tryz
def noS:ByteArray:=⟨#[]⟩
theorem zgn(s:ByteArray):s.size=0↔s=noS:=by
 constructor
 .intro h;cases s with
  |mk d=>
   have hd:d.size=0:=h;have:d= #[]:=Array.eq_empty_of_size_eq_zero hd;rw[this];rfl
 rintro rfl;rfl
theorem zca(s:ByteArray):s.toList=[]↔s.size=0:=by
 rw[ByteArray.toList_eq];constructor
 .intro h;have h2:=congrArg List.length h;simpa[Array.length_toList]using h2
 intro h;have h2:s.data.toList.length=0:=by rw[Array.length_toList];exact h
 exact List.eq_nil_of_length_eq_zero h2
structure Vn where
 num:Int
 val:ByteArray
 drop:Bool
def Vn.zero:Vn:=⟨0,noS,false⟩
def vnC(x:Vn):List Value:=[.int .i64 x.num,.string x.val,.bool x.drop]
def vnsC:List Vn->List Value
 | []=>[]
 |x::r=>vnC x++vnsC r
theorem zkd(a b:List Vn):vnsC (a++b)=vnsC a++vnsC b:=by
 induction a with
 |nil=>rfl
 |cons v r ih=>simp[vnsC,ih]
theorem zcr(a:List Vn):(vnsC a).length=a.length*3:=by
 induction a with
 |nil=>rfl
 |cons v r ih=>simp only[vnsC,vnC,List.length_append,List.length_cons,List.length_nil,ih];omega
theorem zqb(a:List Vn)(j c:Nat)(hj:j<a.length)(hc:c<3):(vnsC a)[j*3+c]? = (vnC (a.getD j Vn.zero))[c]? :=by
 induction a generalizing j with
 |nil=>simp at hj
 |cons v r ih=>
  cases j with
  |zero=>
   simp only[vnsC,Nat.zero_mul,Nat.zero_add];rw[List.getElem?_append_left (by simp[vnC];omega)];simp
  |succ j=>
   simp only[vnsC];rw[List.getElem?_append_right (by simp[vnC];omega)];have e:(j+1)*3+c-(vnC v).length=j*3+c:=by simp[vnC];omega
   rw[e,ih j (by simpa using hj)];simp
theorem zio(a:List Vn):∀u∈vnsC a,u.oneCell'=true:=by
 induction a with
 |nil=>intro u hu;simp[vnsC]at hu
 |cons v r ih=>
  intro u hu;rcases List.mem_append.1 hu with h|h
  .simp only[vnC,List.mem_cons,List.not_mem_nil,or_false]at h;rcases h with rfl|rfl|rfl<;>rfl
  exact ih u h
theorem zcv(vs:List Vn)(i:Nat)(h:i<vs.length):vs.getD i Vn.zero∈vs:=by simp[List.getD,h]
theorem zve(vs:List Vn)(i:Nat)(h:i<vs.length):vs.take (i+1)=vs.take i++[vs.getD i Vn.zero]:=by
 rw[List.take_add_one];simp[List.getD,h]
structure VAt(w:World)(b o:Nat)(x:Vn):Prop where
 c0:w.cell? ⟨b,o,none⟩=some (.int .i64 x.num)
 c1:w.cell? ⟨b,o+1,none⟩=some (.string x.val)
 c2:w.cell? ⟨b,o+2,none⟩=some (.bool x.drop)
structure VEach(x:Vn):Prop where
 v:x.val.size<=140737488355328
 lo: -9223372036854775808<=x.num
 hi:x.num<=9223372036854775807
structure VRs(w:World)(ao:Option Addr)(vs:List Vn):Prop where
 lies:0<vs.length->∃b off,ao=some ⟨b,off,none⟩/\b<w.heap.size/\∀i,i<vs.length->VAt w b (off+i*3) (vs.getD i Vn.zero)
 few:vs.length<=4398046511104
 each:∀x∈vs,VEach x
theorem VRs.nil(w:World)(ao:Option Addr):VRs w ao []:=⟨fun h=>by simp at h,by simp,by simp⟩
theorem VRs.keepS{S:List Nat}{w w':World}{ao:Option Addr}{vs:List Vn}(h:VRs w ao vs)(hf:Fr S w w')(hn:0<vs.length->∀a,ao=some a->a.block∉S):VRs w' ao vs:=by
 refine⟨fun h0=> ?_,h.few,h.each⟩;obtain⟨b,off,e,hb,hc⟩:=h.lies h0;have hk:∀o,w'.cell? ⟨b,o,none⟩=w.cell? ⟨b,o,none⟩:=fun o=>World.cell?_of_block (hf.block b hb (hn h0 _ e));exact⟨b,off,e,Nat.lt_of_lt_of_le hb hf.size,fun i hi=>⟨(hk _).trans (hc i hi).c0,(hk _).trans (hc i hi).c1,(hk _).trans (hc i hi).c2⟩⟩
theorem VRs.keep{w w':World}{ao:Option Addr}{vs:List Vn}(h:VRs w ao vs)(hf:Fr [] w w'):VRs w' ao vs:=h.keepS hf (by simp)
theorem VRs.cells{w:World}{ao:Option Addr}{vs:List Vn}(h:VRs w ao vs){j:Nat}{u:Value}(hu:(vnsC vs)[j]? = some u):∃b off,ao=some ⟨b,off,none⟩/\w.cell? ⟨b,off+j,none⟩=some u:=by
 have hj:=(List.getElem?_eq_some_iff.1 hu).1;rw[zcr]at hj
 obtain⟨b,off,e,hb,hc⟩:=h.lies (by omega);refine⟨b,off,e,?_⟩;have hi:j/3<vs.length:=by omega
 have hm:j%3<3:=Nat.mod_lt _ (by omega);have hg:=zqb vs (j/3) (j%3) hi hm;have e3:j/3*3+j%3=j:=by omega
 rw[e3,hu]at hg
 have hA:=hc (j/3) hi;rw[show off+j=off+j/3*3+j%3 by omega,hg];have h3:j%3=0\/j%3=1\/j%3=2:=by omega
 rcases h3 with h3|h3|h3<;>rw[h3]
 .exact hA.c0
 .exact hA.c1
 exact hA.c2
theorem VRs.of_cells{w:World}{b off:Nat}{vs:List Vn}(hb:0<vs.length->b<w.heap.size)(h:∀j u,(vnsC vs)[j]? = some u->w.cell? ⟨b,off+j,none⟩=some u)(hl:vs.length<=4398046511104)(he:∀x∈vs,VEach x):VRs w (some ⟨b,off,none⟩) vs:=by
 refine⟨fun h0=>⟨b,off,rfl,hb h0,fun i hi=> ?_⟩,hl,he⟩;have key:∀c u,c<3->(vnC (vs.getD i Vn.zero))[c]? = some u->w.cell? ⟨b,off+i*3+c,none⟩=some u:=by
  intro c u hc hu;rw[<-zqb vs i c hi hc]at hu
  rw[show off+i*3+c=off+(i*3+c) by omega];exact h _ _ hu
 exact⟨key 0 _ (by omega) rfl,key 1 _ (by omega) rfl,key 2 _ (by omega) rfl⟩
theorem VRs.of_own{w:World}{base:Nat}{ro:Option Addr}{N rc:Nat}{vs:List Vn}(h:w.ownsRow base 103 3 (.slice ro N rc) N (vnsC vs))(hN:N=vs.length)(hl:vs.length<=4398046511104)(he:∀x∈vs,VEach x):VRs w ro vs:=by
 rcases h.2 with⟨_,h1⟩|⟨g,cap,cur,hv,_,hg,_,_,_,ht⟩
 .have:vs=[]:=List.eq_nil_of_length_eq_zero (by omega);subst this;exact VRs.nil _ _
 cases hv;refine VRs.of_cells (fun _=>lt_of_block hg) (fun j u hu=> ?_) hl he;have hj:=(List.getElem?_eq_some_iff.1 hu).1;rw[zcr]at hj
 rw[crw hg,Nat.zero_add,<-Array.getElem?_toList,<-hu,<-ht,List.getElem?_take_of_lt (by omega)]
theorem VRs.part{w:World}{ao:Option Addr}{vs:List Vn}(h:VRs w ao vs)(i j:Nat)(hij:i<=j)(hj:j<=vs.length):VRs w (ao.map (·.add (i*3))) ((vs.drop i).take (j-i)):=by
 refine⟨fun h0=> ?_,?_,fun x hx=>h.each x (List.mem_of_mem_drop (List.mem_of_mem_take hx))⟩
 .simp only[List.length_take,List.length_drop]at h0;obtain⟨b,off,e,hb,hc⟩:=h.lies (by omega);refine⟨b,off+i*3,by rw[e];simp[Addr.add_lit],hb,fun k hk=> ?_⟩;simp only[List.length_take,List.length_drop]at hk;have e2:((vs.drop i).take (j-i)).getD k Vn.zero=vs.getD (i+k) Vn.zero:=by
   simp only[List.getD,List.getElem?_take_of_lt (show k<j-i by omega),List.getElem?_drop]
  rw[e2,show off+i*3+k*3=off+(i+k)*3 by omega];exact hc (i+k) (by omega)
 have:=h.few;simp only[List.length_take,List.length_drop];omega
def zcn(ro:Option Addr)(rc K:Nat):Option Addr:=if rc=K then ro else ro.map (·.add (K*3))
theorem VRs.from{w:World}{ao:Option Addr}{vs:List Vn}(h:VRs w ao vs)(rc i j:Nat)(hij:i<=j)(hj:j<=vs.length)(hrc:vs.length<=rc):VRs w (zcn ao rc i) ((vs.drop i).take (j-i)):=by
 unfold zcn;split
 .have:(vs.drop i).take (j-i)=[]:=List.eq_nil_of_length_eq_zero (by simp only[List.length_take,List.length_drop];omega);rw[this];exact VRs.nil _ _
 exact h.part i j hij hj
section
variable{H:Type}{enc:TypeId×Value->H}
theorem zde:prog.underlying 99=some (.slice 103):=by kernel_rfl
theorem zakb:prog.underlying 3=some (.int .i64):=by kernel_rfl
end
def okX(x:Vn):Prop:=1<=x.num/\x.num<=65536/\x.val.size<=1024/\(x.drop=true->x.val=noS)
def Ris(vs:List Vn):Prop:=vs.Pairwise fun a b=>a.num<b.num
def okV(vs:List Vn):Prop:=(∀x∈vs,okX x)/\Ris vs
def CkT(vs:List Vn)(c:Nat):Prop:=(c=0/\okV vs)\/(c=1/\¬okV vs)
theorem CkT.ex(vs:List Vn):∃c,CkT vs c:=by
 by_cases h:okV vs
 .exact⟨0,Or.inl ⟨rfl,h⟩⟩
 exact⟨1,Or.inr ⟨rfl,h⟩⟩
theorem CkT.of{vs:List Vn}(h:okV vs):CkT vs 0:=Or.inl ⟨rfl,h⟩
theorem CkT.one{vs:List Vn}{a b:Nat}(h:CkT vs a)(k:CkT vs b):a=b:=by
 rcases h with⟨rfl,h⟩|⟨rfl,h⟩<;>rcases k with⟨rfl,k⟩|⟨rfl,k⟩
 .rfl
 .exact absurd h k
 .exact absurd k h
 rfl
theorem zgs{vs:List Vn}(h:Ris vs){i j:Nat}(hij:i<j)(hj:j<vs.length):(vs.getD i Vn.zero).num<(vs.getD j Vn.zero).num:=by
 have:=List.pairwise_iff_getElem.1 h i j (by omega) hj hij;simpa[List.getD,hj,show i<vs.length by omega]using this
theorem zahw{vs:List Vn}(h:okV vs):∀i,i<vs.length->(i:Int)+1<=(vs.getD i Vn.zero).num:=by
 intro i;induction i with
 |zero=>intro hi;have:=(h.1 _ (zcv vs 0 hi)).1;omega
 |succ i ih=>
  intro hi;have h1:=ih (by omega);have h2:=zgs h.2 (show i<i+1 by omega) hi;omega
theorem zml{vs:List Vn}(h:okV vs):vs.length<=65536:=by
 by_cases h0:vs.length=0
 .omega
 have h1:=zahw h (vs.length-1) (by omega);have h2:=(h.1 _ (zcv vs (vs.length-1) (by omega))).2.1;omega
theorem ztt:okV []:=⟨by simp,List.Pairwise.nil⟩
theorem ztu{vs us:List Vn}(h:okV vs)(hs:us.Sublist vs):okV us:=⟨fun x hx=>h.1 x (hs.subset hx),h.2.sublist hs⟩
theorem zxr(vs:List Vn)(k j:Nat):(vs.drop k).getD j Vn.zero=vs.getD (k+j) Vn.zero:=by simp[List.getD,List.getElem?_drop]
theorem zqc{x:Vn}(h:okX x):VEach x:=⟨by have:=h.2.2.1;omega,by have:=h.1;omega,by have:=h.2.1;omega⟩
structure UpTo(vs:List Vn)(k:Int)(c:Nat):Prop where
 le:c<=vs.length
 lo:∀j,j<c->(vs.getD j Vn.zero).num<=k
 hi:∀j,c<=j->j<vs.length->k<(vs.getD j Vn.zero).num
theorem _root_.Go.Proofs.YtojjdnjfaelnfaaGreatDoor.Fr.cell{w w':World}(h:Fr [] w w'){a:Addr}{v:Value}(hc:w.cell? a=some v):w'.cell? a=some v:=by
 have hb:=World.block_lt_of_cell? _ _ hc;rw[World.cell?_of_block (h.block a.block hb (by simp))];exact hc
theorem zvf(ao:Option Addr)(L cap:Nat)(k:Int)(i:Nat)(B:Bool)(vs:List Vn)(w:World)(hV:VRs w ao vs)(hL:L=vs.length)(hi:i<vs.length)(hB:decide (k<(vs.getD i Vn.zero).num)=B) :
  Calls prog 355 #[.agg #[.slice ao L cap,.int .i64 k],.int .i64 (i:Int)] w fun e w'=>e=.returned (.bool B)/\Fr [] w w':=by
 obtain⟨b,off,rfl,hbl,hat⟩:=hV.lies (by omega);obtain⟨c0,_,_⟩:=hat i hi;obtain⟨n,hn⟩:∃n,n=(vs.getD i Vn.zero).num:=⟨_,rfl⟩;rw[<-hn]at c0 hB
 have hLL:L<=4398046511104:=by have:=hV.few;omega
 have hiL:i<L:=by omega
 have HB:Hid (decide (k<n)=B):=hB;clear hat hV hL hi hn hB;obtain⟨W,hW⟩:∃W,W=w.alloc (.cells #[.slice (some ⟨b,off,none⟩) L cap,.int .i64 k] 465):=⟨_,rfl⟩;have hF:Fr [] w W:=by rw[hW];exact Fr.alloc _ _ _
 have d0:=hF.cell c0;have d1:W.cell? ⟨w.heap.size,0,none⟩=some (.slice (some ⟨b,off,none⟩) L cap):=by rw[hW,World.cell?_alloc_at _ _ _ _ (by simp)];rfl
 have d2:W.cell? ⟨w.heap.size,1,none⟩=some (.int .i64 k):=by rw[hW,World.cell?_alloc_at _ _ _ _ (by simp)];rfl
 have HW:Hid (W=_):=hW;have HF:Hid (Fr [] w W):=hF;clear hW hF;go_enter func355,ntmps355;go_wp2_with fail
 rw[<-HW.out]
 go_quiet (fail)
 all_goals (
  go_wp2;go_ret;rw[HB.out];exact⟨rfl,HF.out.then (Fr.drewN _ _ _)⟩)
theorem zvg(n:Nat)(x:Value)(p:Nat->Bool)(w:World)(hsz:n<4611686018427387904)(hf:∀(W:World) (i:Nat),Fr [] w W->i<n->Calls prog 355 #[x,.int .i64 (i:Int)] W fun e w'=>e=.returned (.bool (p i))/\Fr [] W w')(hmono:∀a b,a<=b->b<n->p a=true->p b=true) :
  Calls prog 354 #[.int .i64 (n:Int),.func (.func 355) #[x] #[]] w fun e w'=>∃c:Nat,e=.returned (.int .i64 (c:Int))/\c<=n/\(∀t,t<c->p t=false)/\(∀t,c<=t->t<n->p t=true)/\Fr [] w w':=by
 have HF:Hid _:=hf;have M:Hid _:=hmono;clear hf hmono;go_enter func354,ntmps354;go_wp2
 go_loopg [5,6] n (fun kx s5 s6 wr=>∃(lo hi:Nat),s5=.int .i64 lo/\s6=.int .i64 hi/\lo<=hi/\hi<=n/\hi-lo<=kx/\Fr [] w wr /\
  Hid ((∀t,t<lo->p t=false)/\(∀t,hi<=t->t<n->p t=true)))
 case atStart=>exact⟨0,n,rfl,rfl,Nat.zero_le _,Nat.le_refl _,by omega,Fr.refl _ _,(⟨fun t ht=>absurd ht (Nat.not_lt_zero _),fun t h1 h2=>by omega⟩:(∀t,t<0->p t=false)/\(∀t,n<=t->t<n->p t=true))⟩
 obtain⟨lo,hi,rfl,rfl,hlh,hin,hg,hFr,I⟩:=hrel;by_cases hlt:lo<hi
 .have hc:=HF.out _ ((lo+hi)/2) hFr (by omega);rw[show (((lo+hi)/2:Nat):Int)=((lo:Int)+(hi:Int))/2 by omega]at hc
  cases hp:p ((lo+hi)/2)<;>rw[hp]at hc
  .have HP:Hid (p ((lo+hi)/2)=false):=hp;have HC:Hid _:=hc;clear hp hc;go_wp2_with (go_at_call 355;refine Calls.mono HC.out ?_;rintro e w'⟨rfl,hF1⟩)
   go_roundg (hi-((lo+hi)/2+1))
   case measure=>omega
   have I2:Hid ((∀t,t<(lo+hi)/2+1->p t=false)/\(∀t,hi<=t->t<n->p t=true)):=⟨fun t ht=>(by
    cases h:p t with
    |false=>rfl
    |true=>have:=M.out t ((lo+hi)/2) (by omega) (by omega) h;rw[HP.out]at this;cases this),I.out.2⟩
   exact⟨(lo+hi)/2+1,hi,by rw[show ((lo:Int)+(hi:Int))/2+1=(((lo+hi)/2+1:Nat):Int) by omega],rfl,by omega,hin,Nat.le_refl _,hFr.then hF1,I2⟩
  have HP:Hid (p ((lo+hi)/2)=true):=hp;have HC:Hid _:=hc;clear hp hc;go_wp2_with (go_at_call 355;refine Calls.mono HC.out ?_;rintro e w'⟨rfl,hF1⟩)
  go_roundg ((lo+hi)/2-lo)
  case measure=>omega
  have I2:Hid ((∀t,t<lo->p t=false)/\(∀t,(lo+hi)/2<=t->t<n->p t=true)):=⟨I.out.1,fun t ht htn=>M.out ((lo+hi)/2) t ht htn HP.out⟩;exact⟨lo,(lo+hi)/2,rfl,by rw[show ((lo:Int)+(hi:Int))/2=(((lo+hi)/2:Nat):Int) by omega],by omega,by omega,Nat.le_refl _,hFr.then hF1,I2⟩
 obtain rfl:hi=lo:=by omega
 go_wp2;go_ret;exact⟨hi,rfl,hin,I.out.1,I.out.2,hFr⟩
theorem zaaw(ao:Option Addr)(L cap:Nat)(k:Int)(vs:List Vn)(w:World)(hV:VRs w ao vs)(hL:L=vs.length)(hR:Ris vs) :
  Calls prog 348 #[.slice ao L cap,.int .i64 k] w fun e w'=>∃c:Nat,e=.returned (.int .i64 (c:Int))/\UpTo vs k c/\Fr [] w w':=by
 have HS:Hid (Calls ..):=zvg L (.agg #[.slice ao L cap,.int .i64 k]) (fun i=>decide (k<(vs.getD i Vn.zero).num)) w (by have:=hV.few;omega)
  (fun W i hF hi=>zvf ao L cap k i _ vs W (hV.keep hF) hL (by omega) rfl)
  (fun a b hab hb h=>by
   simp only[decide_eq_true_eq]at h ⊢;by_cases e:a=b
   .subst e;exact h
   have:=zgs hR (show a<b by omega) (by omega);omega)
 have HL:Hid (L=vs.length):=hL;have hLL:L<=4398046511104:=by have:=hV.few;omega
 clear hV hL hR;go_enter func348,ntmps348;go_wp2_with fail
 refine Calls.mono HS.out ?_;rintro e w1⟨c,rfl,hcL,h1,h2,hF⟩;have HU:Hid (UpTo vs k c):=⟨by have:=HL.out;omega,fun j hj=>by have:=h1 j hj;simp only[decide_eq_false_iff_not]at this;omega,fun j hj hj2=>by have:=h2 j hj (by have:=HL.out;omega);simpa using this⟩;clear h1 h2 HS;go_wp2;go_ret;exact⟨c,rfl,HU.out,hF⟩
theorem zvh(ao:Option Addr)(L cap c:Nat)(k:Int)(B:Bool)(vs:List Vn)(w:World)(hV:VRs w ao vs)(hL:L=vs.length)(hc:c<=L)(hB:B=true↔0<c/\(vs.getD (c-1) Vn.zero).num=k) :
  Calls prog 352 #[.slice ao L cap,.int .i64 (c:Int),.int .i64 k] w fun e w'=>e=.returned (.bool B)/\Fr [] w w':=by
 have hLL:L<=4398046511104:=by have:=hV.few;omega
 by_cases h0:c=0
 .subst h0;obtain rfl:B=false:=by
   cases B with
   |false=>rfl
   |true=>have:=hB.1 rfl;omega
  clear hB hV hL;go_enter func352,ntmps352;go_wp2;go_ret;exact⟨rfl,Fr.refl _ _⟩
 obtain⟨d,rfl⟩:∃d,c=d+1:=⟨c-1,by omega⟩;obtain⟨b,off,rfl,hbl,hat⟩:=hV.lies (by omega);obtain⟨c0,_,_⟩:=hat d (by omega);simp only[Nat.add_sub_cancel]at hB;obtain⟨n,hn⟩:∃n,n=(vs.getD d Vn.zero).num:=⟨_,rfl⟩;rw[<-hn]at c0 hB
 have HB:Hid ((n==k)=B):=by
  show _=_;cases B with
  |true=>simpa using (hB.1 rfl).2
  |false=>
   rw[beq_eq_false_iff_ne];intro e;have:=hB.2 ⟨by omega,e⟩;cases this
 clear hB hV hL hat hn h0;have hdL:d<L:=by omega
 go_enter func352,ntmps352;go_wp2;go_ret;rw[HB.out];exact⟨rfl,Fr.refl _ _⟩
def zen(vs:List Vn)(i:Nat):Int:=if i=0 then 0 else (vs.getD (i-1) Vn.zero).num
theorem okV_snoc{a:List Vn}{x:Vn}:okV (a++[x])↔okV a/\okX x/\∀y∈a,y.num<x.num:=by
 unfold okV Ris;rw[List.pairwise_append];simp only[List.mem_append,List.mem_singleton,List.pairwise_cons,List.not_mem_nil,false_implies,implies_true,List.Pairwise.nil,and_true,true_and,forall_eq];constructor
 .rintro⟨h1,h2,h3⟩;exact⟨⟨fun y hy=>h1 y (Or.inl hy),h2⟩,h1 x (Or.inr rfl),h3⟩
 rintro⟨⟨h1,h2⟩,h3,h4⟩;exact⟨fun y hy=>by rcases hy with hy|hy;(exact h1 y hy);(rw[hy];exact h3),h2,h4⟩
theorem zaax{vs:List Vn}{i:Nat}(h:okV (vs.take i))(hi:i<vs.length) :
  okV (vs.take (i+1))↔zen vs i<(vs.getD i Vn.zero).num/\(vs.getD i Vn.zero).num<=65536/\(vs.getD i Vn.zero).val.size<=1024/\((vs.getD i Vn.zero).drop=true->(vs.getD i Vn.zero).val=noS):=by
 rw[zve vs i hi,okV_snoc];have hg:∀j,j<i->(vs.take i).getD j Vn.zero=vs.getD j Vn.zero:=fun j hj=>by simp[List.getD,List.getElem?_take_of_lt hj]
 have hl:(vs.take i).length=i:=by simp;omega
 constructor
 .rintro⟨_,h2,h3⟩;refine⟨?_,h2.2.1,h2.2.2.1,h2.2.2.2⟩;unfold zen;split
  .have:=h2.1;omega
  have:=h3 ((vs.take i).getD (i-1) Vn.zero) (zcv _ _ (by omega))
  rwa [hg _ (by omega)]at this
 rintro⟨h1,h2,h3,h4⟩;have key:∀j,j<i->(vs.getD j Vn.zero).num<=zen vs i:=by
  intro j hj;unfold zen;rw[if_neg (by omega)];by_cases e:j=i-1
  .subst e;exact Int.le_refl _
  have:=zgs h.2 (show j<i-1 by omega) (by omega);rw[hg _ (by omega),hg _ (by omega)]at this
  omega
 refine⟨h,⟨?_,h2,h3,h4⟩,?_⟩
 .by_cases e:i=0
  .unfold zen at h1;rw[if_pos e]at h1
   omega
  have a:=(h.1 _ (zcv _ 0 (by omega))).1;rw[hg 0 (by omega)]at a
  have b:=key 0 (by omega);omega
 intro y hy;obtain⟨j,hj,e⟩:=List.mem_iff_getElem.1 hy;have:y=vs.getD j Vn.zero:=by
  rw[<-hg j (by omega),<-e,List.getD,List.getElem?_eq_getElem hj];rfl
 rw[this];have:=key j (by omega);omega
theorem CkT.bad{vs:List Vn}{c i:Nat}(h:CkT vs c)(hb:¬okV (vs.take (i+1))):c=1:=by
 rcases h with⟨_,h⟩|⟨h,_⟩
 .exact absurd (ztu h (List.take_sublist _ _)) hb
 exact h
theorem zvi(vs:List Vn)(i:Nat):zen vs (i+1)=(vs.getD i Vn.zero).num:=by unfold zen;rw[if_neg (by omega),Nat.add_sub_cancel]
theorem zdp(ao:Option Addr)(L cap c:Nat)(vs:List Vn)(w:World)(hV:VRs w ao vs)(hL:L=vs.length)(hc:CkT vs c) :
  Calls prog 215 #[.slice ao L cap] w fun e w'=>e=.returned (.int .i64 (c:Int))/\Fr [] w w':=by
 have HL:Hid (L=vs.length):=hL;have HC:Hid (CkT vs c):=hc;have HV:Hid (VRs w ao vs):=hV;have hLL:L<=4398046511104:=by have:=hV.few;omega
 clear hV hL hc;go_enter func215,ntmps215;go_wp2_with fail
 go_loop [3,8] (fun ss ii=>∃(i:Nat)(last:Int),ss=.int .i64 last/\ii=.int .i64 i/\i<=L/\Hid (last=zen vs i/\okV (vs.take i))) (fun _ ii=>L-(RowKit.intOf ii).toNat)
 case atStart=>exact⟨0,0,rfl,rfl,Nat.zero_le _,⟨by simp[zen],ztu ztt (by simp)⟩⟩
 obtain⟨i,last,rfl,rfl,hiL,HI⟩:=hrel;by_cases hi:i<L
 .have hi':i<vs.length:=by rw[<-HL.out];exact hi
  obtain⟨b,off,rfl,hbl,hat⟩:=HV.out.lies (by omega);obtain⟨c0,c1,c2⟩:=hat i hi';have hE:=HV.out.each _ (zcv vs i hi');have hst:=zaax HI.out.2 hi';rw[<-HI.out.1]at hst
  have hls:=zvi vs i;obtain⟨⟨n,val,drop⟩,hx⟩:∃x,x=vs.getD i Vn.zero:=⟨_,rfl⟩;rw[<-hx]at c0 c1 c2 hE hst hls
  simp only at c0 c1 c2 hst hls;have hvz:val.size<=140737488355328:=hE.v;have HS:Hid _:=hst;have HLs:Hid (zen vs (i+1)=n):=hls;clear hat hst hls hx hE;by_cases h1:n<=last
  .obtain rfl:c=1:=HC.out.bad (i:=i) (fun h=>by have:=(HS.out.1 h).1;omega);go_wp2;go_ret;exact⟨rfl,Fr.refl _ _⟩
  by_cases h2:65536<n
  .obtain rfl:c=1:=HC.out.bad (i:=i) (fun h=>by have:=(HS.out.1 h).2.1;omega);have h1':last<n:=by omega
   clear h1;go_wp2;go_ret;exact⟨rfl,Fr.refl _ _⟩
  have h1':last<n:=by omega
  have h2':n<=65536:=by omega
  clear h1 h2;by_cases h3:1024<val.size
  .obtain rfl:c=1:=HC.out.bad (i:=i) (fun h=>by have:=(HS.out.1 h).2.2.1;omega);have h3':(1024:Int)<val.size:=by omega
   go_wp2;go_ret;exact⟨rfl,Fr.refl _ _⟩
  have h3':(val.size:Int)<=1024:=by omega
  clear h3;cases drop with
  |false=>
   have HN:Hid (okV (vs.take (i+1))):=HS.out.2 ⟨h1',h2',by omega,fun h=>by cases h⟩;go_wp2;refine⟨⟨i+1,n,rfl,by simp,by omega,⟨HLs.out.symm,HN.out⟩⟩,?_⟩;simp[RowKit.intOf];omega
  |true=>
   by_cases h4:val.toList=[]
   .have h5:val.toList.isEmpty=true:=by rw[h4];rfl
    have HN:Hid (okV (vs.take (i+1))):=HS.out.2 ⟨h1',h2',by omega,fun _=>(zgn _).1 ((zca _).1 h4)⟩;go_wp2;refine⟨⟨i+1,n,rfl,by simp,by omega,⟨HLs.out.symm,HN.out⟩⟩,?_⟩;simp[RowKit.intOf];omega
   obtain rfl:c=1:=HC.out.bad (i:=i) (fun h=>h4 ((zca _).2 ((zgn _).2 ((HS.out.1 h).2.2.2 rfl))));have h5:val.toList.isEmpty=false:=by
    cases hq:val.toList with
    |nil=>exact absurd hq h4
    |cons a r=>rfl
   go_wp2;go_ret;exact⟨rfl,Fr.refl _ _⟩
 obtain rfl:c=0:=by
  have hok:=HI.out.2;rw[List.take_of_length_le (by have:=HL.out;omega)]at hok
  exact HC.out.one (CkT.of hok)
 go_wp2;go_ret;exact⟨rfl,Fr.refl _ _⟩
theorem zdm:prog.underlying 99=some (.slice (prog.elem 99)):=by kernel_rfl
theorem zjl:prog.elem 99=103:=by kernel_rfl
theorem zhj(w:World):(Go.sizeOf 103).run prog w=.ok 3 w:=by kernel_rfl
theorem zahx:(prog.info? 103).map (fun i=>(i.zero,i.size,i.bytes))=some (some (.agg #[.int .i64 0,.string ⟨#[]⟩,.bool false]),3,32):=by kernel_rfl
theorem zdq:∃i,prog.info? 103=some i/\i.zero=some (.agg #[.int .i64 0,.string ⟨#[]⟩,.bool false])/\i.size=3/\i.bytes=32:=by
 have h:=zahx;cases hi:prog.info? 103 with
 |none=>rw[hi]at h;cases h
 |some i=>
  rw[hi]at h
  simp only[Option.map_some,Option.some.injEq,Prod.mk.injEq]at h;exact⟨i,rfl,h.1,h.2.1,h.2.2⟩
theorem zahy(ro:Option Addr)(N rc i j:Nat)(h1:i<=j)(h2:j<=rc)(w:World):(Instr.sliceAt 99 (.slice ro N rc) (some (.int .i64 (i:Int))) (some (.int .i64 (j:Int))) none).run prog w=.ok (.slice (zcn ro rc i) (j-i) (rc-i)) w:=by
 rw[run_sliceAt_slice w 99 _ _ _ _ zdm,run_slice_lh w 99 _ _ _ zdm .i64 .i64 (i:Int) (j:Int) (by omega) (by omega) (by omega),zjl,zhj];simp[Result.andThen,sliced,zcn]
theorem zakc(ro:Option Addr)(N rc i:Nat)(h1:i<=rc)(w:World):(Instr.sliceAt 99 (.slice ro N rc) none (some (.int .i64 (i:Int))) none).run prog w=.ok (.slice ro i rc) w:=by
 rw[run_sliceAt_slice w 99 _ _ _ _ zdm,run_slice_h w 99 _ _ _ zdm .i64 (i:Int) (by omega) (by omega),zjl,zhj];cases ro<;>simp[Result.andThen,sliced,Addr.add]
theorem zakd(ro:Option Addr)(N rc K:Nat)(h1:K<=N)(w:World):(Instr.sliceAt 99 (.slice ro N rc) (some (.int .i64 (K:Int))) none none).run prog w=.ok (.slice (zcn ro rc K) (N-K) (rc-K)) w:=by
 rw[run_sliceAt_slice w 99 _ _ _ _ zdm,run_slice_l w 99 _ _ _ zdm .i64 (K:Int) (by omega) (by omega),zjl,zhj];simp[Result.andThen,sliced,zcn]
theorem zahz(ro:Option Addr)(N rc i:Nat)(k l:Int)(hk:k=(i:Int))(hl:l=(i:Int))(h1:i<=rc)(w:World):(Instr.sliceAt 99 (.slice ro N rc) none (some (.int .i64 k)) (some (.int .i64 l))).run prog w=.ok (.slice ro i i) w:=by
 subst hk hl;rw[run_sliceAt_slice w 99 _ _ _ _ zdm,run_slice_hm w 99 _ _ _ zdm .i64 .i64 (i:Int) (i:Int) (by omega) (by omega) (by omega),zjl,zhj];cases ro<;>simp[Result.andThen,sliced,Addr.add]
structure VOut(w w':World)(ro:Option Addr)(N rc:Nat)(vs:List Vn):Prop where
 own:∃rc',rc<=rc'/\w'.ownsRow w.heap.size 103 3 (.slice ro N rc') N (vnsC vs)
 len:N=vs.length
 cap:N<=rc
theorem VOut.later{w w1 w2:World}{ro:Option Addr}{N rc:Nat}{vs:List Vn}(h:VOut w1 w2 ro N rc vs)(hs:w.heap.size<=w1.heap.size):VOut w w2 ro N rc vs:=by
 obtain⟨rc',hr,ho⟩:=h.own;refine⟨⟨rc',hr,ho.1,?_⟩,h.len,h.cap⟩;rcases ho.2 with hh|⟨g,cap,cur,e,hb,hgg,rest⟩
 .exact .inl hh
 exact .inr ⟨g,cap,cur,e,by omega,hgg,rest⟩
theorem VOut.rs{w w':World}{ro:Option Addr}{N rc:Nat}{vs:List Vn}(h:VOut w w' ro N rc vs)(hl:vs.length<=4398046511104)(he:∀x∈vs,VEach x):VRs w' ro vs:=by
 obtain⟨rc',hr,ho⟩:=h.own;exact VRs.of_own ho h.len hl he
theorem ztv{w:World}{base:Nat}{e:TypeId}{size:Nat}{ro:Option Addr}{N rc:Nat}{xs:List Value}(h:w.ownsRow base e size (.slice ro N rc) N xs):N<=rc:=by
 rcases h.2 with⟨hv,hn⟩|⟨g,cap,cur,hv,_,_,hnc,_⟩
 .cases hv;omega
 cases hv;exact hnc
theorem VOut.of{w w':World}{ro:Option Addr}{N rc:Nat}{vs:List Vn}(h:w'.ownsRow w.heap.size 103 3 (.slice ro N rc) N (vnsC vs))(hl:N=vs.length):VOut w w' ro N rc vs:=⟨⟨rc,Nat.le_refl _,h⟩,hl,ztv h⟩
theorem VOut.cut{w w':World}{ro:Option Addr}{N rc:Nat}{vs:List Vn}(h:VOut w w' ro N rc vs):VOut w w' ro N N vs:=by
 obtain⟨rc',hr,ho⟩:=h.own;exact⟨⟨rc',Nat.le_trans h.cap hr,ho⟩,h.len,Nat.le_refl _⟩
theorem znk(ao:Option Addr)(L cap:Nat)(vs:List Vn)(w:World)(hV:VRs w ao vs)(hL:L=vs.length) :
  Calls prog 199 #[.slice ao L cap] w fun e w'=>∃ro rc,e=.returned (.slice ro L rc)/\VOut w w' ro L rc vs/\Fr [] w w':=by
 have q22:∀(w:World)(a:Option Addr)(n c n' c':Nat),(binOp .eql 99 (.slice a n c) (.slice none n' c')).run prog w=.ok (.bool a.isNone) w:=fun w a n c n' c'=>Lib.run_eql_slice_nil w _ _ a n c n' c' zde;cases ao with
 |none=>
  obtain rfl:L=0:=by
   rcases Nat.eq_zero_or_pos vs.length with h|h
   .omega
   obtain⟨b,off,e,_⟩:=hV.lies h;cases e
  obtain rfl:vs=[]:=List.eq_nil_of_length_eq_zero hL.symm;clear hV hL;go_enter func199,ntmps199;go_wp2;go_ret;exact⟨none,0,rfl,VOut.of ⟨rfl,.inl ⟨rfl,rfl⟩⟩ rfl,Fr.refl _ _⟩
 |some a=>
  obtain⟨i0,hi,hz0,hz1,hz2⟩:=zdq;have hc:Hid (∀j u,(vnsC vs)[j]? = some u->w.cell? (a.add j)=some u):=by
   intro j u hu;obtain⟨b,off,e,hc⟩:=hV.cells hu;cases e;rw[Addr.add_lit];exact hc
  have hf:=hV.few;have HL:Hid (L=vs.length):=hL;have HF:Hid (vs.length<=4398046511104):=hf;clear hV hL hf;go_enter func199,ntmps199;go_wp2_with (at_builtin;refine wpList_append_own _ rfl _ _ 99 rfl w.heap.size 103 i0 (.agg #[.int .i64 0,.string ⟨#[]⟩,.bool false]) 3 32 zde hi hz0 hz1 hz2 rfl (by decide) _ _ _ rfl (World.ownsRow_made w #[] 0 (Nat.le_refl _) (Nat.zero_le _) (by simp)) a L cap (vnsC vs) rfl ?qc1 ?qc2 ?qc3 ?qc4 ?qc5 ?qc6 ?_)
  case qc1=>rw[zcr,HL.out]
  case qc2=>
   intro j u hj;exact Lib.cell?_alloc_some _ (hc.out j u hj)
  case qc3=>exact zio vs
  case qc4=>rw[Nat.zero_add];have:=HL.out;have:=HF.out;simp only[maxLen];omega
  case qc5=>rw[Nat.zero_add];have:=HL.out;have:=HF.out;omega
  case qc6=>simp
  intro v' w1 hown hgrow hnil;obtain⟨ro,rc,rfl⟩:∃ro rc,v'=.slice ro L rc:=by
   rcases hown.2 with⟨hh,h0⟩|⟨g,cap',_,hh,_⟩
   .exact⟨none,0,by
     rw[hh];have:L=0:=by omega
     rw[this]⟩
   exact⟨_,cap',by rw[hh]⟩
  have HO:Hid (VOut w w1 ro L rc vs/\Fr [] w w1):=⟨VOut.of (by simpa using hown) HL.out,(Fr.alloc [] w _).on (Fr.grown (S:=[w.heap.size]) hgrow (by intro k hk _;simp[Value.ownBlock]at hk;simp[hk])) (by simp)⟩;clear hown hgrow hnil;go_wp2;go_ret;exact⟨ro,rc,rfl,HO.out⟩
theorem zaay(ao:Option Addr)(L cap i j:Nat)(vs:List Vn)(w:World)(hV:VRs w ao vs)(hL:L=vs.length)(hcap:L<=cap)(hij:i<=j)(hj:j<=L) :
  Calls prog 349 #[.slice ao L cap,.int .i64 (i:Int),.int .i64 (j:Int)] w fun e w'=>∃ro,e=.returned (.slice ro (j-i) (j-i))/\VOut w w' ro (j-i) (j-i) ((vs.drop i).take (j-i))/\Fr [] w w':=by
 have s1:∀W,(Instr.sliceAt 99 (.slice ao L cap) (some (.int .i64 (i:Int))) (some (.int .i64 (j:Int))) none).run prog W=.ok (.slice (zcn ao cap i) (j-i) (cap-i)) W:=zahy ao L cap i j hij (by omega);have hlen:j-i=((vs.drop i).take (j-i)).length:=by simp only[List.length_take,List.length_drop];omega
 have HC:Hid (Calls ..):=znk (zcn ao cap i) (j-i) (cap-i) ((vs.drop i).take (j-i)) w (hV.from cap i j hij (by omega) (by omega)) hlen;have hLL:L<=4398046511104:=by have:=hV.few;omega
 clear hV hlen hL;go_enter func349,ntmps349;go_wp2_with fail
 refine Calls.mono HC.out ?_;rintro e w1⟨ro,rc,rfl,hO,hF⟩;have hd:((j:Int)-(i:Int))=((j-i:Nat):Int):=by omega
 have s2:∀W,(Instr.sliceAt 99 (.slice ro (j-i) rc) none (some (.int .i64 ((j:Int)-(i:Int)))) (some (.int .i64 ((j:Int)-(i:Int))))).run prog W=.ok (.slice ro (j-i) (j-i)) W:=zahz ro (j-i) rc (j-i) _ _ hd hd hO.cap;have HO:Hid (VOut w w1 ro (j-i) (j-i) ((vs.drop i).take (j-i))):=hO.cut;clear hO HC hd;go_wp2;go_ret;exact⟨ro,rfl,HO.out,hF⟩
theorem zkn{P:Program}(w:World)(t ty e:TypeId)(i:TypeInfo)(size c base:Nat)(ht:P.underlying t=some (.slice e))(hi:P.info? e=some i)(v:Value)(n:Nat)(xs:List Value)(hown:w.ownsRow base e size v n xs) :
  (Builtin.append_ #[t,t] ty #[v,.slice none 0 c]).run P w=.ok v w:=by
 rcases hown.2 with⟨rfl,rfl⟩|⟨g,cap,cur,rfl,_,_,hnc,_⟩
 .simp[Builtin.append_,run_underlying ht,sizeOf,typeInfo,hi,Builtin.lenOf,Builtin.firstCells]
 simp[Builtin.append_,run_underlying ht,sizeOf,typeInfo,hi,Builtin.lenOf,Builtin.firstCells,hnc,storeCells]
theorem zhk{w:World}{base:Nat}{e:TypeId}{size:Nat}{v:Value}{n:Nat}{xs:List Value}(h:w.ownsRow base e size v n xs):∃bo cap,v=.slice bo n cap:=by
 rcases h.2 with⟨hv,hn⟩|⟨g,cap,cur,hv,_⟩
 .exact⟨none,0,by rw[hv,hn]⟩
 exact⟨_,cap,hv⟩
theorem zgl(w:World){ops:Array Oper}{rest:List Oper}{o:Oper}{a:Act}{Q:Exit->Act->World->Prop}(hgd:o.guard=none)(s x:Operand)(ho:o.op=.call {callee:=.builtin .append,args:=#[s,x],argTypes:=#[99,99]})(base:Nat)(v:Value)(qs:List Vn)(hs:a.eval s=v)(hown:w.ownsRow base 103 3 v qs.length (vnsC qs))(xo:Option Addr)(m c:Nat)(rs:List Vn)(hx:a.eval x=.slice xo m c)(hB:VRs w xo rs)(hm:m=rs.length)(hn:qs.length+m<2199023255552)(hbase:base<=w.heap.size)(h:∀bo n' cap' w',n'=(qs++rs).length->w'.ownsRow base 103 3 (.slice bo n' cap') n' (vnsC (qs++rs))->Fr v.ownBlock.toList w w'->wpList prog ops Q rest (a.put o.dst (.slice bo n' cap')) w'):wpList prog ops Q (o::rest) a w:=by
 obtain⟨i0,hi,hz0,hz1,hz2⟩:=zdq;have hl:(vnsC rs).length=m*3:=by rw[zcr,hm]
 have hmx:2199023255552<=maxLen:=by unfold maxLen;omega
 cases xo with
 |none=>
  refine wpList_plain hgd fun K hK=> ?_;have hrs:rs=[]:=by
   rcases Nat.eq_zero_or_pos rs.length with h0|h0
   .exact List.eq_nil_of_length_eq_zero h0
   obtain⟨_,_,e,_⟩:=hB.lies h0;cases e
  subst hrs;obtain rfl:m=0:=hm;have hr:=zkn (P:=prog) w 99 o.type 103 i0 3 c base zde hi v qs.length (vnsC qs) hown;obtain⟨bo,cap',rfl⟩:=zhk hown;unfold Oper.wp execOp;simp only[ho,resolve,invoke,builtin,Sem.run_bind,Sem.run_pure,Result.andThen_ok,List.map_toArray,List.map_cons,List.map_nil,hs,hx,hr];exact hK _ _ (h bo _ cap' w (by simp) (by simpa using hown) (Fr.refl _ _))
 |some ad=>
  have hlies:∀j u,(vnsC rs)[j]? = some u->w.cell? (ad.add j)=some u:=by
   intro j u hu;obtain⟨b,off,e,hc⟩:=hB.cells hu;cases e;rw[Addr.add_lit];exact hc
  refine wpList_append_own w hgd s x 99 ho base 103 i0 _ 3 32 zde hi hz0 hz1 hz2 rfl (by decide) v qs.length (vnsC qs) hs hown ad m c (vnsC rs) hx hl hlies (zio rs) (by omega) (by omega) hbase ?_;intro v' w' hown' hg' _;have hlen:(qs++rs).length=qs.length+m:=by rw[List.length_append,hm]
  obtain⟨bo,cap',rfl⟩:=zhk hown';exact h bo _ cap' w' hlen.symm (by rw[zkd];exact hown') (Fr.grown hg' (fun y hy _=>Option.mem_toList.2 hy))
theorem zaaz(n:Nat)(w:World)(hn:0<n)(hb:n<=4398046511104) :
  Calls prog 357 #[.slice none 0 0,.int .i64 (n:Int)] w fun e w'=>∃cap,e=.returned (.slice (some ⟨w.heap.size,0,none⟩) 0 cap)/\w'.ownsRow w.heap.size 103 3 (.slice (some ⟨w.heap.size,0,none⟩) 0 cap) 0 []/\Fr [] w w':=by
 obtain⟨i0,hi,hz0,hz1,hz2⟩:=zdq;have hold:(Builtin.firstCells i0.size 0 (.slice none 0 0)).run prog w.drew=.ok ([]:List Value).toArray w.drew:=run_firstCells_none w.drew i0.size 0 0 0;have hrz:∀ty,(Builtin.append_ #[99,3] ty #[.slice none 0 0,.int .i64 (n:Int)]).run prog w =
   .ok (.slice (some ⟨w.heap.size,0,none⟩) n (grownCap w n 0 103)) (w.drew.alloc (.cells (([]:List Value).toArray++Builtin.zeroCells (Value.agg #[.int .i64 0,.string ⟨#[]⟩,.bool false]).cells n++Builtin.zeroCells (Value.agg #[.int .i64 0,.string ⟨#[]⟩,.bool false]).cells (grownCap w n 0 103-n)) 103)):=fun ty=>by
  have h:=Lib.run_append_grow_zeros w 99 3 ty 103 i0 _ .i64 .i64 zde zakb hi hz0 none 0 0 [] hold n (by omega) (by rw[hz1];decide) (by omega) (by omega) (by rw[hz2];omega) (by rw[hz2];exact growslice_fits (by omega) (by omega));rw[Nat.zero_add]at h
  exact h
 have hGn:n<=grownCap w n 0 103:=grownCap_ge w _ _ _;have hGm:=grownCap_le_maxLen w n 0 103 (by unfold maxLen;omega);obtain⟨G,hG⟩:∃G,G=grownCap w n 0 103:=⟨_,rfl⟩;rw[<-hG]at hrz hGn hGm
 have hG63:G<=9223372036854775807:=by unfold maxLen at hGm;omega
 obtain⟨cur,hcur⟩:∃cur,cur=([]:List Value).toArray++Builtin.zeroCells (Value.agg #[.int .i64 0,.string ⟨#[]⟩,.bool false]).cells n++Builtin.zeroCells (Value.agg #[.int .i64 0,.string ⟨#[]⟩,.bool false]).cells (G-n):=⟨_,rfl⟩;have hcs:cur.size=G*3:=by
  rw[hcur];simp only[Array.size_append,size_zeroCells,Value.cells,List.size_toArray,List.length_nil,List.length_cons];omega
 rw[<-hcur]at hrz
 have HOw:Hid ((w.drew.alloc (.cells cur 103)).ownsRow w.heap.size 103 3 (.slice (some ⟨w.heap.size,0,none⟩) 0 G) 0 []):=⟨rfl,.inr ⟨w.heap.size,G,cur,rfl,Nat.le_refl _,heap_alloc_new w.drew _,Nat.zero_le _,hGm,hcs,by simp⟩⟩;have HF:Hid (Fr [] w (w.drew.alloc (.cells cur 103))):=(Fr.drew [] w).then (Fr.alloc [] _ _);have h1:¬((n:Int)<0):=by omega
 have h4:(n:Int)>0:=by omega
 clear hold hG hcur hcs hGn;go_enter func357,ntmps357;go_wp2_with (at_builtin;refine Lib.wpList_append_run _ rfl _ _ _ _ rfl _ _ rfl rfl _ _ (hrz _) ?_)
 all_goals (go_ret;exact⟨G,rfl,HOw.out,HF.out⟩)
end Go.Proofs.YtojjdnjfaelnfaaGreatDoor.O
