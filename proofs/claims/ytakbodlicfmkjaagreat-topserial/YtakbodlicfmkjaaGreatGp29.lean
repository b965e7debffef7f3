/- Contracts and lemmas. -/
import Derived.Test.YtakbodlicfmkjaaGreatGp24
set_option maxHeartbeats 8000000
set_option maxRecDepth 100000
namespace Go.Proofs.YtakbodlicfmkjaaGreat
set_option linter.unusedSimpArgs false
set_option linter.unusedVariables false
namespace O
end O
namespace O
open Go.ChangeShapes Go.WideShapes Go.ChangeAt Go.RowKit Go.Lib Go.Maps
def hdC(h:Hd):List Value:=[.string h.key,.slice h.vo h.L h.cap]
def hdsC(hs:List Hd):List Value:=hs.flatMap hdC
theorem zwi(hs:List Hd)(x:Hd):hdsC (hs++[x])=hdsC hs++hdC x:=by simp[hdsC]
theorem hdsC_get(hs:List Hd)(i:Nat)(h:i<hs.length):(hdsC hs)[i*2]? = some (.string (hs.getD i Hd.zero).key)/\(hdsC hs)[i*2+1]? = some (.slice (hs.getD i Hd.zero).vo (hs.getD i Hd.zero).L (hs.getD i Hd.zero).cap):=by
 induction hs generalizing i with
 |nil=>simp at h
 |cons p ps ih=>
  cases i with
  |zero=>simp[hdsC,hdC]
  |succ i=>
   have:=ih i (by simpa using h);have e1:(hdsC (p::ps))[(i+1)*2]? = (hdsC ps)[i*2]? :=by
    rw[show (i+1)*2=i*2+2 by omega];simp[hdsC,hdC]
   have e2:(hdsC (p::ps))[(i+1)*2+1]? = (hdsC ps)[i*2+1]? :=by
    rw[show (i+1)*2+1=i*2+1+2 by omega];simp[hdsC,hdC]
   rw[e1,e2];simpa using this
theorem zmi(h:Hd):∀u∈hdC h,u.oneCell'=true:=by
 intro u hu;simp only[hdC,List.mem_cons,List.not_mem_nil,or_false]at hu;rcases hu with rfl|rfl<;>rfl
def Apa(a b:Option Addr):Prop:=∀p q,a=some p->b=some q->p.block≠q.block
structure HOut(w w':World)(ro:Option Addr)(N rc:Nat)(hs:List Hd):Prop where
 len:N=hs.length
 row:w'.ownsRow w.heap.size 126 2 (.slice ro N rc) N (hdsC hs)
 each:∀h∈hs,VOut w w' h.vo h.L h.cap h.vs
 apart:hs.Pairwise fun a b=>Apa a.vo b.vo
theorem HOut.keep{w w1 w2:World}{ro:Option Addr}{N rc:Nat}{hs:List Hd}(h:HOut w w1 ro N rc hs)(hf:Fr [] w1 w2):HOut w w2 ro N rc hs:=⟨h.len,owns_keepB h.row hf (by simp),fun x hx=>(h.each x hx).keepS hf (by simp),h.apart⟩
theorem VOut.block{w w':World}{ro:Option Addr}{N rc:Nat}{vs:List Vn}(h:VOut w w' ro N rc vs)(p:Addr)(hp:ro=some p):w.heap.size<=p.block/\p.block<w'.heap.size:=by
 obtain⟨rf,_,ho⟩:=h.own;have e:(Value.slice ro N rf).ownBlock=some p.block:=by rw[hp];rfl
 obtain⟨h1,cur,h2⟩:=owns_cells ho e;exact⟨h1,lt_of_block h2⟩
theorem HOut.newApart{w wr w2:World}{ro:Option Addr}{N rc:Nat}{hs:List Hd}{vo:Option Addr}{L c:Nat}{vs:List Vn}(h:HOut w wr ro N rc hs)(hV:VOut wr w2 vo L c vs):∀x∈hs,Apa x.vo vo:=by
 intro x hx p q hp hq e;have h1:=(h.each x hx).block p hp;have h2:=hV.block q hq;omega
structure PkT(M f:ByteArray->List Vn)(hs:List Hd):Prop where
 inc:hs.Pairwise fun a b=>Op.bytesLess a.key.toList b.key.toList=true
 is:∀h∈hs,h.vs=f h.key/\f h.key≠[]/\M h.key≠[]
 all:∀k,M k≠[]->f k≠[]->∃h∈hs,h.key=k
theorem Tryz.undHds:Tryz.prog.underlying 82=some (.slice 126):=by kernel_rfl
theorem Tryz.infoHd:(Tryz.prog.info? 126).map (fun i=>(i.zero,i.size,i.bytes))=some (some (.agg #[.string ⟨#[]⟩,.slice none 0 0]),2,40):=by kernel_rfl
theorem infoHd_parts:∃i,Tryz.prog.info? 126=some i/\i.zero=some (.agg #[.string ⟨#[]⟩,.slice none 0 0])/\i.size=2/\i.bytes=40:=by
 have h:=Tryz.infoHd;cases hi:Tryz.prog.info? 126 with
 |none=>rw[hi]at h;cases h
 |some i=>
  rw[hi]at h
  simp only[Option.map_some,Option.some.injEq,Prod.mk.injEq]at h;exact⟨i,rfl,h.1,h.2.1,h.2.2⟩
theorem zes(w0 w:World){ops:Array Oper}{rest:List Oper}{o:Oper}{a:Act}{Q:Exit->Act->World->Prop}(hgd:o.guard=none)(s x:Operand)(ho:o.op=.call {callee:=.builtin .append,args:=#[s,x],argTypes:=#[82,82]})(so:Option Addr)(N c:Nat)(hs:List Hd)(hsv:a.eval s=.slice so N c)(hK:HOut w0 w so N c hs)(hN:N<3518437208883)(h0:w0.heap.size<=w.heap.size)(p:Hd)(hV:VOut w0 w p.vo p.L p.cap p.vs)(hAp:∀x∈hs,Apa x.vo p.vo)(hx:a.eval x=.slice (some ⟨w.heap.size,0,none⟩) 1 1)(h:∀so' c' w',HOut w0 w' so' (N+1) c' (hs++[p])->Fr (Value.slice so N c).ownBlock.toList w w'->wpList Tryz.prog ops Q rest (a.put o.dst (.slice so' (N+1) c')) w'):wpList Tryz.prog ops Q (o::rest) a (w.alloc (.cells #[.string p.key,.slice p.vo p.L p.cap] 126)):=by
 obtain⟨i0,hi,hz0,hz1,hz2⟩:=infoHd_parts;have hmx:3518437208884<=maxLen:=by unfold maxLen;omega
 refine wpList_append_own (w.alloc (.cells #[.string p.key,.slice p.vo p.L p.cap] 126)) hgd s x 82 ho w0.heap.size 126 i0 _ 2 40 Tryz.undHds hi hz0 hz1 hz2 rfl (by decide) (.slice so N c) N (hdsC hs) hsv (owns_keepB hK.row (Fr.alloc [] w _) (by simp)) ⟨w.heap.size,0,none⟩ 1 1 (hdC p) hx rfl ?_ (zmi p) (by omega) (by omega) (by simp;omega) ?_
 .intro j u hu;have hr:=heap_alloc_new w (.cells #[.string p.key,.slice p.vo p.L p.cap] 126);rw[Addr.add_lit,crw hr,Nat.zero_add];simpa[hdC]using hu
 intro v' w' hown' hg' _;obtain⟨bo,cap',rfl⟩:∃bo cap',v'=.slice bo (N+1) cap':=by
  rcases hown'.2 with⟨_,h1⟩|⟨g,cap,_,rfl,_⟩
  .omega
  exact⟨_,cap,rfl⟩
 rw[<-zwi]at hown'
 have hF:Fr (Value.slice so N c).ownBlock.toList w w':=((Fr.alloc [] w _).mono (by simp)).then (Fr.grown (S:=(Value.slice so N c).ownBlock.toList) hg' (fun y hy _=>Option.mem_toList.2 hy));refine h bo cap' w' ⟨by rw[hK.len];simp,hown',fun y hy=> ?_,by rw[List.pairwise_append];exact⟨hK.apart,List.pairwise_singleton _ _,fun a ha b hb=>by simp at hb;subst hb;exact hAp a ha⟩⟩ hF;have hVy:VOut w0 w y.vo y.L y.cap y.vs:=by
  rcases List.mem_append.1 hy with h1|h1
  .exact hK.each y h1
  simp at h1;subst h1;exact hV
 refine hVy.keepS hF fun j hj hm=> ?_;obtain⟨_,c1,e1⟩:=hVy.blk j hj;obtain⟨_,c2,e2⟩:=owns_cells hK.row (Option.mem_toList.1 hm);rw[e1]at e2
 simp only[Option.some.injEq,Obj.cells.injEq]at e2;exact absurd e2.2.1 (by decide)
structure PkI(M f:ByteArray->List Vn)(ss:List ByteArray)(hs:List Hd):Prop where
 keys:hs.map (·.key)=ss.filter fun k=> !(f k).isEmpty
 is:∀h∈hs,h.vs=f h.key
theorem PkI.done{M f:ByteArray->List Vn}{ss:List ByteArray}{hs:List Hd}(h:PkI M f ss hs)(hk:KsT M ⟨#[]⟩ ⟨#[]⟩ ss):PkT M f hs:=by
 have hmem:∀x∈hs,x.key∈ss/\f x.key≠[]:=fun x hx=>by
  have h1:x.key∈hs.map (·.key):=List.mem_map.2 ⟨x,hx,rfl⟩;rw[h.keys,List.mem_filter]at h1
  exact⟨h1.1,fun e=>by rw[e]at h1;simp at h1⟩
 refine⟨?_,fun x hx=>⟨h.is x hx,(hmem x hx).2,((hk.mem _).1 (hmem x hx).1).1⟩,fun k h1 h2=> ?_⟩
 .have h1:(hs.map (·.key)).Pairwise fun a b=>Op.bytesLess a.toList b.toList=true:=by
   rw[h.keys];exact List.Pairwise.filter _ hk.inc
  exact List.pairwise_map.1 h1
 have h3:k∈hs.map (·.key):=by
  rw[h.keys,List.mem_filter];refine⟨(hk.mem k).2 ⟨h1,zkv k⟩,?_⟩;cases hf:f k with
  |nil=>exact absurd hf h2
  |cons a r=>rfl
 obtain⟨x,hx,e⟩:=List.mem_map.1 h3;exact⟨x,hx,e⟩
theorem PkI.out{M f:ByteArray->List Vn}{ss:List ByteArray}{hs:List Hd}{s:ByteArray}(h:PkI M f ss hs)(hf:f s=[]):PkI M f (ss++[s]) hs:=by
 refine⟨?_,h.is⟩;rw[List.filter_append,h.keys];simp[hf]
theorem PkI.inn{M f:ByteArray->List Vn}{ss:List ByteArray}{hs:List Hd}{s:ByteArray}(h:PkI M f ss hs){x:Hd}(hf:f s≠[])(hx:x.key=s)(hv:x.vs=f s):PkI M f (ss++[s]) (hs++[x]):=by
 refine⟨?_,fun y hy=> ?_⟩
 .rw[List.filter_append,List.map_append,h.keys]
  congr 1
  have:(f s).isEmpty=false:=by cases hq:f s with
   |nil=>exact absurd hq hf
   |cons a r=>rfl
  simp[this,hx]
 rcases List.mem_append.1 hy with h1|h1
 .exact h.is y h1
 simp at h1;subst h1;rw[hx];exact hv
theorem zsa(ss:List ByteArray)(i:Nat)(h:i<ss.length):ss.take (i+1)=ss.take i++[ss.getD i ⟨#[]⟩]:=by
 rw[List.take_add_one];simp[List.getD,h]
theorem zwj{w0:World}{sb b n:Nat}{M:ByteArray->List Vn}(f:ByteArray->List Vn)(w:World)(h:Sh w0 w sb b n M)(hn:n<3518437208883)(hCh:∀W,Fr [] w W->∀key vo L cap,VRs W vo (M key)->okV (M key)->L=(M key).length->L<=cap->Calls Tryz.prog 113 #[.slice vo L cap] W fun e w'=>∃ro N rc,e=.returned (.slice ro N rc)/\VOut W w' ro N rc (f key)/\Fr [] W w')(hfl:∀k,(f k).length<=131072) :
  Calls Tryz.prog 112 #[.pointer (some ⟨sb,0,none⟩),.func (Fn.func 113) #[] #[]] w fun e w'=>∃ro N rc hs,e=.returned (.slice ro N rc)/\HOut w w' ro N rc hs/\N<=n/\PkT M f hs/\Fr [] w w':=by
 have HS:Hid (∀W,Fr [] w W->Sh w0 W sb b n M):=fun W hf=>h.keep hf;have HT:Hid (Calls ..):=zfs ⟨#[]⟩ ⟨#[]⟩ w h hn;have HCh:Hid (∀W,Fr [] w W->∀key vo L cap,VRs W vo (M key)->okV (M key)->L=(M key).length->L<=cap->Calls Tryz.prog 113 #[.slice vo L cap] W fun e w'=>∃ro N rc,e=.returned (.slice ro N rc)/\VOut W w' ro N rc (f key)/\Fr [] W w'):=hCh;have HFl:Hid (∀k,(f k).length<=131072):=hfl;clear h hCh hfl;go_enter Tryz.func112,Tryz.ntmps112;go_wp2_with fail
 refine Calls.mono HT.out ?_;rintro e w1⟨so,Nk,c,ss,rfl,hK1,hNk,hKs,hF1⟩;have HK1:Hid (KOut w w1 so Nk c ss):=hK1;have HKs:Hid (KsT M ⟨#[]⟩ ⟨#[]⟩ ss/\Nk=ss.length):=⟨hKs,hK1.len⟩;have HE0:Hid (HOut w w1 none 0 0 []/\PkI M f (ss.take 0) []):=⟨⟨rfl,⟨rfl,.inl ⟨rfl,rfl⟩⟩,by simp,List.Pairwise.nil⟩,⟨rfl,by simp⟩⟩;have HF1:Hid (Fr [] w w1):=hF1;clear HT hK1 hKs hF1;go_wp2_with fail
 go_loopw [5,12] (fun ll ii wr=>∃(ro:Option Addr)(N rc i:Nat)(hs:List Hd),ll=.slice ro N rc/\ii=.int .i64 i/\i<=Nk/\N<=i/\Hid (HOut w wr ro N rc hs/\PkI M f (ss.take i) hs)/\Hid (KOut w wr so Nk c ss)/\Hid (Fr [] w wr)) (fun _ ii _=>Nk-(RowKit.intOf ii).toNat)
 case atStart=>exact⟨none,0,0,0,[],rfl,rfl,Nat.zero_le _,Nat.le_refl _,HE0,HK1,HF1⟩
 obtain⟨ro,N,rc,i,hs,rfl,rfl,hiN,hNi,HE,HK,HF⟩:=hrel;by_cases hi:i<Nk
 .have hi':i<ss.length:=by rw[<-HKs.out.2];exact hi
  obtain⟨g,rfl,cg⟩:=HK.out.at i hi';have HSn:Hid (ss.take (i+1)=ss.take i++[ss.getD i ⟨#[]⟩]):=zsa ss i hi';obtain⟨s,hs'⟩:∃s,s=ss.getD i ⟨#[]⟩:=⟨_,rfl⟩;have hsm:s∈ss:=by rw[hs'];simp[List.getD,hi']
  rw[<-hs']at cg HSn
  have hSr:=HS.out _ HF.out;have hok:=hSr.keyok ((HKs.out.1.mem s).1 hsm).1;have cs:=hSr.cell;obtain⟨vo,Lv,cv,hlk,hV,_⟩:=hSr.look s (by have:=hok.2;unfold maxLen;omega);have HG:Hid (Calls ..):=HCh.out wr HF.out s vo Lv cv (hV.each (hSr.ok s)) (hSr.ok s) hV.len hV.cap;clear hs' hsm hok hSr hV;go_wp2_with fail
  refine Calls.mono HG.out ?_;rintro e w2⟨vo2,L2,c2,rfl,hV2,hF2⟩;have HE2:Hid (HOut w w2 ro N rc hs):=HE.out.1.keep hF2;have HPI:Hid (PkI M f (ss.take i) hs):=HE.out.2;have HK2:Hid (KOut w w2 (some ⟨g,0,none⟩) Nk c ss):=HK.out.keep hF2;have HF2:Hid (Fr [] w w2):=HF.out.then hF2;have HV2:Hid (VOut w w2 vo2 L2 c2 (f s)):=hV2.later HF.out.size;have hL2:L2<=131072:=by rw[hV2.len];exact HFl.out s
  have HApx:Hid (∀x∈hs,Apa x.vo vo2):=HE.out.1.newApart hV2;clear HE HK HF hF2 HG hV2;by_cases hz:L2=0
  .have HP2:Hid (HOut w w2 ro N rc hs/\PkI M f (ss.take (i+1)) hs):=⟨HE2.out,by
    rw[HSn.out];exact HPI.out.out (List.eq_nil_of_length_eq_zero (by have:=HV2.out.len;omega))⟩
   subst hz;clear HSn HPI;go_wp2_with fail
   go_roundw;case rel=>exact⟨ro,N,rc,i+1,hs,rfl,by simp,by omega,by omega,HP2,HK2,HF2⟩
   case measure=>simp[RowKit.intOf];omega
  have hz1:decide ((0:Int)<(L2:Int))=true:=by simp;omega
  have hz2:decide (0<L2)=true:=by simp;omega
  have hz3:0<L2:=by omega
  have HP2:Hid (PkI M f (ss.take (i+1)) (hs++[⟨s,vo2,L2,c2,f s⟩])):=by
   show PkI _ _ _ _;rw[HSn.out];refine HPI.out.inn (fun e=>hz ?_) rfl rfl;have:=HV2.out.len;rw[e]at this
   exact this
  have hsz2:w.heap.size<=w2.heap.size:=HF2.out.size;have HY:Hid (∀so' c' w3,HOut w w3 so' (N+1) c' (hs++[⟨s,vo2,L2,c2,f s⟩])->Fr (Value.slice ro N rc).ownBlock.toList w2 w3->Hid (HOut w w3 so' (N+1) c' (hs++[⟨s,vo2,L2,c2,f s⟩])/\PkI M f (ss.take (i+1)) (hs++[⟨s,vo2,L2,c2,f s⟩]))/\Hid (KOut w w3 (some ⟨g,0,none⟩) Nk c ss)/\Hid (Fr [] w w3)):=by
   intro so' c' w3 e1 e2;refine⟨⟨e1,HP2.out⟩,⟨HK2.out.len,owns_keepB HK2.out.row e2 (zjb HK2.out.row HE2.out.row (by decide))⟩,HF2.out.on e2 (fun x hx=>(owns_cells HE2.out.row (Option.mem_toList.1 hx)).1)⟩
  clear HSn HPI HP2 hz;go_wp2_with (first
   |(
    at_builtin;refine zes w w2 rfl _ _ rfl ro N rc hs rfl HE2.out (by omega) hsz2 ⟨s,vo2,L2,c2,f s⟩ HV2.out HApx.out rfl ?_
    intro so' c' w3 e1 e2;have HR2:Hid (_/\_/\_):=HY.out so' c' w3 e1 e2;clear e1 e2;go_frame)
   |fail)
  go_roundw;case rel=>exact⟨so',N+1,c',i+1,_,rfl,by simp,by omega,by omega,HR2.out.1,HR2.out.2.1,HR2.out.2.2⟩
  case measure=>simp[RowKit.intOf];omega
 have hiN2:i=ss.length:=by have:=HKs.out.2;omega
 have HR:Hid (HOut w wr ro N rc hs/\PkT M f hs/\Fr [] w wr):=by
  have h1:=HE.out;rw[hiN2,List.take_length]at h1
  exact⟨h1.1,h1.2.done HKs.out.1,HF.out⟩
 have hNn:N<=n:=by omega
 clear hiN2 HE HK HF;go_wp2;go_ret;exact⟨ro,N,rc,hs,rfl,HR.out.1,hNn,HR.out.2⟩
theorem zzn{w0:World}{sb b n:Nat}{M:ByteArray->List Vn}(w:World)(h:Sh w0 w sb b n M)(hn:n<3518437208883) :
  Calls Tryz.prog 82 #[.pointer (some ⟨sb,0,none⟩)] w fun e w'=>∃ro N rc hs,e=.returned (.slice ro N rc)/\HOut w w' ro N rc hs/\N<=n/\PkT M M hs/\Fr [] w w':=by
 have HT:Hid (Calls ..):=zdb w h;have HS:Hid (∀W,Fr [] w W->Sh w0 W sb b n M):=fun W hf=>h.keep hf;have HFl:Hid (∀k,(M k).length<=131072):=fun k=>by have:=zdp (h.ok k);omega
 clear h;go_enter Tryz.func82,Tryz.ntmps82;go_wp2_with fail
 refine Calls.mono HT.out ?_;rintro e w1⟨rfl,hF1⟩;have HC:Hid (Calls ..):=zwj M w1 (HS.out _ hF1) hn (fun W hW key vo L cap hV ho hL hc=>by
  refine (ziw vo L cap (M key) W hV hL).mono ?_;rintro e w'⟨ro,rc,rfl,h1,h2⟩;exact⟨ro,L,rc,rfl,h1,h2⟩) HFl.out
 have HF1:Hid (Fr [] w w1):=hF1;clear HT hF1;go_wp2_with fail
 refine Calls.mono HC.out ?_;rintro e w2⟨ro,N,rc,hs,rfl,hE,hN,hI,hF2⟩;have HR:Hid (HOut w w2 ro N rc hs/\N<=n/\PkT M M hs/\Fr [] w w2):=⟨⟨hE.len,own_base hE.row HF1.out.size,fun x hx=>(hE.each x hx).later HF1.out.size,hE.apart⟩,hN,hI,HF1.out.then hF2⟩;clear HC hE hN hI hF2;go_wp2;go_ret;exact⟨ro,N,rc,hs,rfl,HR.out⟩
def dmp(vs:List Vn)(k:Int)(ns:List Int):List Vn:=((vAt vs k).toList.filter fun v=> !v.drop)++vs.filter fun v=>decide (k<v.num)&&decide (v.num∈ns)
theorem zpe{vs:List Vn}{k:Int}{d:Nat}(h:UpTo vs k d):headD vs d=(vAt vs k).toList.filter fun v=> !v.drop:=by
 rw[zou h];unfold headD;by_cases h0:d=0
 .rw[if_pos h0,if_neg (fun h=>by omega)];rfl
 rw[if_neg h0];unfold atV;rw[if_neg h0];obtain⟨x,hx⟩:∃x,x=vs.getD (d-1) Vn.zero:=⟨_,rfl⟩;rw[<-hx];cases hd:x.drop with
 |true=>rw[if_neg (fun h=>by simp at h)];simp[hd]
 |false=>rw[if_pos ⟨by omega,rfl⟩];simp[hd]
theorem zpf{vs:List Vn}{k:Int}{d:Nat}(h:UpTo vs k d)(p:Vn->Bool):(vs.drop d).filter p=vs.filter fun v=>decide (k<v.num)&&p v:=by
 have hle:=h.le
 conv=>rhs;rw[<-List.take_append_drop d vs,List.filter_append]
 have h1:(vs.take d).filter (fun v=>decide (k<v.num)&&p v)=[]:=by
  refine List.filter_eq_nil_iff.2 fun x hx=> ?_;obtain⟨j,hj,e⟩:=List.mem_iff_getElem.1 hx;have hj':j<d/\j<vs.length:=by simp at hj;omega
  have:=h.lo j hj'.1;simp only[List.getD,List.getElem?_eq_getElem hj'.2,Option.getD_some]at this;rw[<-e];simp;omega
 rw[h1,List.nil_append];refine (List.filter_congr fun x hx=> ?_).symm;obtain⟨j,hj,e⟩:=List.mem_iff_getElem.1 hx;have hj':d+j<vs.length:=by simp at hj;omega
 have:=h.hi (d+j) (by omega) hj';simp only[List.getD,List.getElem?_eq_getElem hj',Option.getD_some]at this;have e2:x.num=vs[d+j].num:=by rw[<-e];simp
 have:decide (k<x.num)=true:=by rw[e2];simpa using this
 rw[this];rfl
theorem zzo{vs:List Vn}{k:Int}{ns:List Int}{us:List Vn}{c:Nat}(ho:okV vs)(h:zvl vs k ns us c):us=dmp vs k ns:=by
 rcases h with⟨_,h,_⟩|⟨_,_,d,hd,e⟩
 .exact absurd ho h
 rw[e,zpe hd,zpf hd];rfl
theorem zach{vs:List Vn}(ho:okV vs)(k:Int)(ns:List Int):(dmp vs k ns).Sublist vs:=by
 obtain⟨d,hd⟩:=UpTo.ex ho.2 k;have e:dmp vs k ns=headD vs d++(vs.drop d).filter fun v=>decide (v.num∈ns):=by
  rw[zpe hd,zpf hd];rfl
 rw[e]
 conv=>rhs;rw[<-List.take_append_drop d vs]
 refine List.Sublist.append ?_ List.filter_sublist;unfold headD;split
 .rename_i h;refine List.singleton_sublist.2 ?_;have hle:=hd.le;refine List.mem_iff_getElem.2 ⟨d-1,by simp;omega,?_⟩;simp[List.getD,show d-1<vs.length by omega]
 exact List.nil_sublist _
theorem ztm(vo:Option Addr)(L cap:Nat)(k:Int)(vs:List Vn)(bo:Option Addr)(Mn cb:Nat)(ns:List Int)(b1 b2:Nat)(w:World)(hV:VRs w vo vs)(ho:okV vs)(hL:L=vs.length)(hcap:L<=cap)(hN:IRs w bo ns)(hM:Mn=ns.length)(c1:w.cell? ⟨b1,0,none⟩=some (.int .i64 k))(c2:w.cell? ⟨b2,0,none⟩=some (.slice bo Mn cb)) :
  Calls Tryz.prog 324 #[.slice vo L cap,.pointer (some ⟨b1,0,none⟩),.pointer (some ⟨b2,0,none⟩)] w fun e w'=>∃ro N rc,e=.returned (.slice ro N rc)/\VOut w w' ro N rc (dmp vs k ns)/\Fr [] w w':=by
 have HC:Hid (Calls ..):=zyy vo L cap k vs bo Mn cb ns w hV hL hcap hN hM;have HO:Hid (okV vs):=ho;clear hV ho hL hcap hN hM;go_enter Tryz.func324,Tryz.ntmps324;go_wp2_with fail
 refine Calls.mono HC.out ?_;rintro e w1⟨ro,N,rc,us,c,rfl,hT,hO,hF⟩;have HR:Hid (VOut w w1 ro N rc (dmp vs k ns)/\Fr [] w w1):=⟨by rw[<-zzo HO.out hT];exact hO,hF⟩;clear hT hO hF HC;go_wp2;go_ret;exact⟨ro,N,rc,rfl,HR.out⟩
theorem zwk{w0:World}{sb b n:Nat}{M:ByteArray->List Vn}(f:ByteArray->List Vn)(b1 b2:Nat)(w:World)(h:Sh w0 w sb b n M)(hn:n<3518437208883)(hCh:∀W,Fr [] w W->∀key vo L cap,VRs W vo (M key)->okV (M key)->L=(M key).length->L<=cap->Calls Tryz.prog 324 #[.slice vo L cap,.pointer (some ⟨b1,0,none⟩),.pointer (some ⟨b2,0,none⟩)] W fun e w'=>∃ro N rc,e=.returned (.slice ro N rc)/\VOut W w' ro N rc (f key)/\Fr [] W w')(hfl:∀k,(f k).length<=131072) :
  Calls Tryz.prog 112 #[.pointer (some ⟨sb,0,none⟩),.func (Fn.func 324) #[] #[.pointer (some ⟨b1,0,none⟩),.pointer (some ⟨b2,0,none⟩)]] w fun e w'=>∃ro N rc hs,e=.returned (.slice ro N rc)/\HOut w w' ro N rc hs/\N<=n/\PkT M f hs/\Fr [] w w':=by
 have HS:Hid (∀W,Fr [] w W->Sh w0 W sb b n M):=fun W hf=>h.keep hf;have HT:Hid (Calls ..):=zfs ⟨#[]⟩ ⟨#[]⟩ w h hn;have HCh:Hid (∀W,Fr [] w W->∀key vo L cap,VRs W vo (M key)->okV (M key)->L=(M key).length->L<=cap->Calls Tryz.prog 324 #[.slice vo L cap,.pointer (some ⟨b1,0,none⟩),.pointer (some ⟨b2,0,none⟩)] W fun e w'=>∃ro N rc,e=.returned (.slice ro N rc)/\VOut W w' ro N rc (f key)/\Fr [] W w'):=hCh;have HFl:Hid (∀k,(f k).length<=131072):=hfl;clear h hCh hfl;go_enter Tryz.func112,Tryz.ntmps112;go_wp2_with fail
 refine Calls.mono HT.out ?_;rintro e w1⟨so,Nk,c,ss,rfl,hK1,hNk,hKs,hF1⟩;have HK1:Hid (KOut w w1 so Nk c ss):=hK1;have HKs:Hid (KsT M ⟨#[]⟩ ⟨#[]⟩ ss/\Nk=ss.length):=⟨hKs,hK1.len⟩;have HE0:Hid (HOut w w1 none 0 0 []/\PkI M f (ss.take 0) []):=⟨⟨rfl,⟨rfl,.inl ⟨rfl,rfl⟩⟩,by simp,List.Pairwise.nil⟩,⟨rfl,by simp⟩⟩;have HF1:Hid (Fr [] w w1):=hF1;clear HT hK1 hKs hF1;go_wp2_with fail
 go_loopw [5,12] (fun ll ii wr=>∃(ro:Option Addr)(N rc i:Nat)(hs:List Hd),ll=.slice ro N rc/\ii=.int .i64 i/\i<=Nk/\N<=i/\Hid (HOut w wr ro N rc hs/\PkI M f (ss.take i) hs)/\Hid (KOut w wr so Nk c ss)/\Hid (Fr [] w wr)) (fun _ ii _=>Nk-(RowKit.intOf ii).toNat)
 case atStart=>exact⟨none,0,0,0,[],rfl,rfl,Nat.zero_le _,Nat.le_refl _,HE0,HK1,HF1⟩
 obtain⟨ro,N,rc,i,hs,rfl,rfl,hiN,hNi,HE,HK,HF⟩:=hrel;by_cases hi:i<Nk
 .have hi':i<ss.length:=by rw[<-HKs.out.2];exact hi
  obtain⟨g,rfl,cg⟩:=HK.out.at i hi';have HSn:Hid (ss.take (i+1)=ss.take i++[ss.getD i ⟨#[]⟩]):=zsa ss i hi';obtain⟨s,hs'⟩:∃s,s=ss.getD i ⟨#[]⟩:=⟨_,rfl⟩;have hsm:s∈ss:=by rw[hs'];simp[List.getD,hi']
  rw[<-hs']at cg HSn
  have hSr:=HS.out _ HF.out;have hok:=hSr.keyok ((HKs.out.1.mem s).1 hsm).1;have cs:=hSr.cell;obtain⟨vo,Lv,cv,hlk,hV,_⟩:=hSr.look s (by have:=hok.2;unfold maxLen;omega);have HG:Hid (Calls ..):=HCh.out wr HF.out s vo Lv cv (hV.each (hSr.ok s)) (hSr.ok s) hV.len hV.cap;clear hs' hsm hok hSr hV;go_wp2_with fail
  refine Calls.mono HG.out ?_;rintro e w2⟨vo2,L2,c2,rfl,hV2,hF2⟩;have HE2:Hid (HOut w w2 ro N rc hs):=HE.out.1.keep hF2;have HPI:Hid (PkI M f (ss.take i) hs):=HE.out.2;have HK2:Hid (KOut w w2 (some ⟨g,0,none⟩) Nk c ss):=HK.out.keep hF2;have HF2:Hid (Fr [] w w2):=HF.out.then hF2;have HV2:Hid (VOut w w2 vo2 L2 c2 (f s)):=hV2.later HF.out.size;have hL2:L2<=131072:=by rw[hV2.len];exact HFl.out s
  have HApx:Hid (∀x∈hs,Apa x.vo vo2):=HE.out.1.newApart hV2;clear HE HK HF hF2 HG hV2;by_cases hz:L2=0
  .have HP2:Hid (HOut w w2 ro N rc hs/\PkI M f (ss.take (i+1)) hs):=⟨HE2.out,by
    rw[HSn.out];exact HPI.out.out (List.eq_nil_of_length_eq_zero (by have:=HV2.out.len;omega))⟩
   subst hz;clear HSn HPI;go_wp2_with fail
   go_roundw;case rel=>exact⟨ro,N,rc,i+1,hs,rfl,by simp,by omega,by omega,HP2,HK2,HF2⟩
   case measure=>simp[RowKit.intOf];omega
  have hz1:decide ((0:Int)<(L2:Int))=true:=by simp;omega
  have hz2:decide (0<L2)=true:=by simp;omega
  have hz3:0<L2:=by omega
  have HP2:Hid (PkI M f (ss.take (i+1)) (hs++[⟨s,vo2,L2,c2,f s⟩])):=by
   show PkI _ _ _ _;rw[HSn.out];refine HPI.out.inn (fun e=>hz ?_) rfl rfl;have:=HV2.out.len;rw[e]at this
   exact this
  have hsz2:w.heap.size<=w2.heap.size:=HF2.out.size;have HY:Hid (∀so' c' w3,HOut w w3 so' (N+1) c' (hs++[⟨s,vo2,L2,c2,f s⟩])->Fr (Value.slice ro N rc).ownBlock.toList w2 w3->Hid (HOut w w3 so' (N+1) c' (hs++[⟨s,vo2,L2,c2,f s⟩])/\PkI M f (ss.take (i+1)) (hs++[⟨s,vo2,L2,c2,f s⟩]))/\Hid (KOut w w3 (some ⟨g,0,none⟩) Nk c ss)/\Hid (Fr [] w w3)):=by
   intro so' c' w3 e1 e2;refine⟨⟨e1,HP2.out⟩,⟨HK2.out.len,owns_keepB HK2.out.row e2 (zjb HK2.out.row HE2.out.row (by decide))⟩,HF2.out.on e2 (fun x hx=>(owns_cells HE2.out.row (Option.mem_toList.1 hx)).1)⟩
  clear HSn HPI HP2 hz;go_wp2_with (first
   |(
    at_builtin;refine zes w w2 rfl _ _ rfl ro N rc hs rfl HE2.out (by omega) hsz2 ⟨s,vo2,L2,c2,f s⟩ HV2.out HApx.out rfl ?_
    intro so' c' w3 e1 e2;have HR2:Hid (_/\_/\_):=HY.out so' c' w3 e1 e2;clear e1 e2;go_frame)
   |fail)
  go_roundw;case rel=>exact⟨so',N+1,c',i+1,_,rfl,by simp,by omega,by omega,HR2.out.1,HR2.out.2.1,HR2.out.2.2⟩
  case measure=>simp[RowKit.intOf];omega
 have hiN2:i=ss.length:=by have:=HKs.out.2;omega
 have HR:Hid (HOut w wr ro N rc hs/\PkT M f hs/\Fr [] w wr):=by
  have h1:=HE.out;rw[hiN2,List.take_length]at h1
  exact⟨h1.1,h1.2.done HKs.out.1,HF.out⟩
 have hNn:N<=n:=by omega
 clear hiN2 HE HK HF;go_wp2;go_ret;exact⟨ro,N,rc,hs,rfl,HR.out.1,hNn,HR.out.2⟩
theorem zwl{w0:World}{sb b n:Nat}{M:ByteArray->List Vn}(k:Int)(bo:Option Addr)(Mn cb:Nat)(ns:List Int)(w:World)(h:Sh w0 w sb b n M)(hn:n<3518437208883)(hN:IRs w bo ns)(hM:Mn=ns.length) :
  Calls Tryz.prog 319 #[.pointer (some ⟨sb,0,none⟩),.int .i64 k,.slice bo Mn cb] w fun e w'=>∃ro N rc hs,e=.returned (.slice ro N rc)/\HOut w w' ro N rc hs/\N<=n/\PkT M (fun s=>dmp (M s) k ns) hs/\Fr [] w w':=by
 obtain⟨w1,HW1⟩:∃w1,Hid ((w.alloc (.cells #[.int .i64 k] 3)).alloc (.cells #[.slice bo Mn cb] 25)=w1):=⟨_,rfl⟩;have hF1:Fr [] w w1:=by rw[<-HW1.out];exact (Fr.alloc [] _ _).then (Fr.alloc [] _ _)
 have hb1:w1.heap[w.heap.size]? = some (.cells #[.int .i64 k] 3 (0,0)):=by rw[<-HW1.out];exact (Fr.alloc [] _ _).keep (heap_alloc_new _ _) (by simp)
 have hb2:w1.heap[w.heap.size+1]? = some (.cells #[.slice bo Mn cb] 25 (0,0)):=by
  rw[<-HW1.out];have:=heap_alloc_new (w.alloc (.cells #[.int .i64 k] 3)) (.cells #[.slice bo Mn cb] 25);simpa using this
 have HT:Hid (Calls ..):=zdb w1 (h.keep hF1);have HS:Hid (∀W,Fr [] w1 W->Sh w0 W sb b n M):=fun W hf=>h.keep (hF1.then hf);have HI:Hid (∀W,Fr [] w1 W->IRs W bo ns):=fun W hf=>hN.keep (hF1.then hf);have HB:Hid (∀W,Fr [] w1 W->W.cell? ⟨w.heap.size,0,none⟩=some (.int .i64 k)/\W.cell? ⟨w.heap.size+1,0,none⟩=some (.slice bo Mn cb)):=fun W hf=>by
  have r1:=hf.keep hb1 (by simp);have r2:=hf.keep hb2 (by simp);exact⟨by rw[crw r1];rfl,by rw[crw r2];rfl⟩
 have HFl:Hid (∀s,(dmp (M s) k ns).length<=131072):=fun s=>by have:=zdp (h.ok s);have:=(zach (h.ok s) k ns).length_le;omega
 have HM:Hid (Mn=ns.length):=hM;have HFw:Hid (Fr [] w w1):=hF1;clear h hN hM hb1 hb2 hF1;go_enter Tryz.func319,Tryz.ntmps319;go_upto_region 1 with fail
 rw[HW1.out];go_wp2_with fail
 refine Calls.mono HT.out ?_;rintro e w2⟨rfl,hF2⟩;have HC:Hid (Calls ..):=zwk (fun s=>dmp (M s) k ns) w.heap.size (w.heap.size+1) w2 (HS.out _ hF2) hn (fun W hW key vo L cap hV ho hL hc=>by
  obtain⟨q1,q2⟩:=HB.out W (hF2.then hW);exact ztm vo L cap k (M key) bo Mn cb ns _ _ W hV ho hL hc (HI.out W (hF2.then hW)) HM.out q1 q2) HFl.out
 have HF2:Hid (Fr [] w w2):=HFw.out.then hF2;clear HT hF2;go_wp2_with fail
 refine Calls.mono HC.out ?_;rintro e w3⟨ro,N,rc,hs,rfl,hE,hN,hI,hF3⟩;have HR:Hid (HOut w w3 ro N rc hs/\N<=n/\PkT M (fun s=>dmp (M s) k ns) hs/\Fr [] w w3):=⟨⟨hE.len,own_base hE.row HF2.out.size,fun x hx=>(hE.each x hx).later HF2.out.size,hE.apart⟩,hN,hI,HF2.out.then hF3⟩;clear HC hE hN hI hF3;go_wp2;go_ret;exact⟨ro,N,rc,hs,rfl,HR.out⟩
end O
namespace O
open Go.ChangeShapes Go.WideShapes Go.ChangeAt Go.RowKit Go.Lib Go.Maps Go.MapKept
open Go.ChangeMaps (setBlock modify_eq_set)
open Go.WideElems (Fit rd rg rd_key rg_of rd_mk)
section
variable{P:Program}{k:TypeId}{R:Value->Option (DataW Unit×List MemPlace)}{w:World}{b r n:Nat}{D:DataW Unit}{left:Lit->Bool}{cnt:Nat}
def Ent(P:Program)(k:TypeId)(R:Value->Option (DataW Unit×List MemPlace))(w:World)(b:Nat)(kl:Lit):Prop:=∃es clock x,w.heap[b]? = some (.map es clock)/\x∈es.toList/\(rg P k R x).1=kl
theorem ztn(h:w.ranges P k R b r n D left cnt){kl:Lit}(hl:left kl=true):Ent P k R w b kl:=by
 obtain⟨es,clock,since,seen,c0,hb,F,hs,rfl,hr,hold,hcnt,hl1,hl2,hsc,hsk⟩:=h;obtain⟨x,hx,e⟩:=hl2 kl hl;exact⟨es,clock,x,hb,hx,e⟩
theorem zto{t e:TypeId}(h:w.ranges P k R b r n D left cnt)(K:Keyed P k)(ht:P.underlying t=some (.map k e)){key val:Value}{kl:Lit}{d:DataW Unit}{ps:List MemPlace}(hkey:keyOf P k key=some kl)(hv:R val=some (d,ps))(hent:Ent P k R w b kl)(hn:n<maxLen) :
  ∃w',(Instr.mapUpdate t (.map (some b)) key val).run P w=.ok () w'/\w'.ranges P k R b r n (D.put kl d) left cnt/\w.grownBy w' (some b):=by
 have hne:=h.ne;obtain⟨es,clock,since,seen,c0,hb,F,hs,rfl,hr,hold,hcnt,hl1,hl2,hsc,hsk⟩:=h;obtain⟨es1,clock1,x1,hb1,hx1,ex1⟩:=hent;rw[hb]at hb1
 simp only[Option.some.injEq,Obj.map.injEq]at hb1;obtain⟨rfl,rfl⟩:=hb1;have hxk:∀x∈es.toList,(rg P k R x).1=kl↔x.key=key:=by
  intro x hx;obtain⟨y,hy⟩:=F.reads x hx;have hy2:=rd_key hy;rw[rg_of hy];constructor
  .intro e;rw[e]at hy2
   exact K.inj hy2 hkey
  intro e;rw[e,hkey]at hy2
  simpa using hy2.symm
 obtain⟨es',clock',hrun,F',hput,_⟩:=Maps.fit_store (R':=R) K ht hb F (Nat.lt_of_le_of_lt hs hn) (fun _ _ _ _ hz=>hz) hkey hv;rcases K.find w hkey es.toList F.keys with⟨h1,h2⟩|⟨j,e0,h1,h2,h3⟩
 .exact absurd ((hxk x1 hx1).1 ex1) (h2 x1 hx1)
 have hj:es[j]? = some e0:=by simpa using h2
 have hrun1:(Instr.mapUpdate t (.map (some b)) key val).run P w=.ok () (setBlock w b (.map (es.modify j (fun e'=>{e' with key:=key,val:=val})) clock)):=by
  simp[Instr.mapUpdate,run_underlying ht,MapKept.run_getObj_map hb,K.check w false hkey,h1,hj,h3,K.stays w hkey,MapKept.run_setObj_map _ hb,Result.andThen,setBlock]
 have hlist:(es.modify j (fun e'=>{e' with key:=key,val:=val})).toList=es.toList.set j {e0 with key:=key,val:=val}:=by rw[Array.toList_modify,modify_eq_set _ _ _ _ h2]
 have heq:es'=es.modify j (fun e'=>{e' with key:=key,val:=val})/\clock'=clock:=by
  rw[hrun1]at hrun
  injection hrun with _ hw;have a1:=ChangeMaps.heap_setBlock_same hb (.map es' clock');have a2:=ChangeMaps.heap_setBlock_same hb (.map (es.modify j (fun e'=>{e' with key:=key,val:=val})) clock);rw[hw]at a2
  rw[a1]at a2
  simp only[Option.some.injEq,Obj.map.injEq]at a2;exact a2
 obtain⟨rfl,rfl⟩:=heq;have he0:e0∈es.toList:=List.mem_of_getElem? h2;have hjl:j<es.toList.length:=(List.getElem?_eq_some_iff.1 h2).1;have who:∀x∈es.toList.set j {e0 with key:=key,val:=val},x={e0 with key:=key,val:=val}\/x∈es.toList:=fun x hx=>by
  rcases List.mem_or_eq_of_mem_set hx with h|h
  .exact Or.inr h
  exact Or.inl h
 have hnew:(rg P k R {e0 with key:=key,val:=val}).1=kl:=by rw[rg_of (rd_mk hkey hv)]
 have hborn:(es.modify j (fun e'=>{e' with key:=key,val:=val})).toList.map (·.born)=es.toList.map (·.born):=by
  rw[hlist,List.map_set];apply List.ext_getElem?;intro i;rw[List.getElem?_set];split
  .rename_i hij;subst hij;have hjs:j<es.size:=by simpa using hjl
   rw[List.getElem?_map,h2];simp[hjs]
  rfl
 refine⟨_,hrun1,⟨_,_,since,seen,c0,ChangeMaps.heap_setBlock_same hb _,F',by simpa using hs,?_,(ChangeMaps.heap_setBlock_other hb _ hne).trans hr,?_,?_,?_,?_,hsc,hsk⟩,⟨rfl,rfl,rfl,by simp[setBlock],fun i _ hi=>ChangeMaps.heap_setBlock_other hb _ (fun e=>hi (by rw[e]))⟩⟩
 .rw[DataW.put_eq,hput]
 .intro x hx;rw[hlist]at hx
  rcases who x hx with rfl|h
  .exact hold e0 he0
  exact hold x h
 .rw[<-hcnt];have e1:∀a:Array MapEntry,(leftOf a seen).size=((a.toList.map (·.born)).filter fun x=> !seen.contains x).length:=fun a=>by
   unfold leftOf;rw[<-Array.length_toList,Array.toList_filter,List.filter_map,List.length_map];rfl
  rw[e1,e1,hborn]
 .intro x hx;rw[hlist]at hx
  rcases who x hx with rfl|h
  .rw[hnew,<-hl1 e0 he0,(hxk e0 he0).2 h3]
  exact hl1 x h
 intro kl2 hk2;obtain⟨x,hx,e⟩:=hl2 kl2 hk2;by_cases hk:x.key=key
 .refine⟨{e0 with key:=key,val:=val},by rw[hlist];exact List.mem_set hjl _,?_⟩;rw[hnew,<-e];exact ((hxk x hx).2 hk).symm
 refine⟨x,?_,e⟩;rw[hlist];obtain⟨i,hi⟩:=List.getElem?_of_mem hx;refine List.mem_of_getElem? (i:=i) ?_;rw[List.getElem?_set,if_neg ?_]
 .exact hi
 rintro rfl;rw[h2]at hi
 cases hi;exact hk h3
end
def colN(vs:List Vn)(k:Int):Nat:=(vs.filter fun v=>decide (v.num<=k)).length-1
def colV(vs:List Vn)(k:Int):List Vn:=vs.drop (colN vs k)
theorem zwm{vs:List Vn}{k:Int}{d:Nat}(h:UpTo vs k d):colN vs k=d-1:=by
 unfold colN;rw[zmx h,List.length_take];have:=h.le;omega
theorem zzp{vs:List Vn}{k:Int}{us:List Vn}{n c:Nat}(ho:okV vs)(h:CoTold vs k us n c):us=colV vs k/\n=colN vs k/\c=0:=by
 rcases h with⟨_,h,_⟩|⟨hc,_,d,hd,h1,h2⟩
 .exact absurd ho h
 have e:=zwm hd;exact⟨by rw[h2,h1];unfold colV;rw[e],by rw[h1,e],hc⟩
theorem zzq(vs:List Vn)(k:Int):(colV vs k).length=vs.length-colN vs k:=by simp[colV]
theorem zsb{vs:List Vn}(k:Int)(h:vs≠[]):colN vs k<vs.length:=by
 unfold colN;have:=List.length_filter_le (fun v:Vn=>decide (v.num<=k)) vs;have:=List.length_pos_iff.2 h;omega
theorem zaci{vs:List Vn}(k:Int):colV vs k≠[]↔vs≠[]:=by
 constructor
 .rintro h rfl;exact h rfl
 intro h e;have h1:=zzq vs k;have h2:=zsb k h;rw[e]at h1
 simp at h1;omega
theorem zacj{vs:List Vn}(h:okV vs)(k:Int):okV (colV vs k):=zoo h _
def GoT(M:ByteArray->List Vn)(k:Int)(S:Nat):Prop:=∃ks:List ByteArray,ks.Nodup/\(∀s,s∈ks↔M s≠[])/\S=(ks.map fun s=>colN (M s) k).sum
theorem zzr{P:Program}{k:TypeId}{R:Value->Option (DataW Unit×List MemPlace)}{w:World}{b n m:Nat}{D D':DataW Unit}(h:w.ownsMap P k R b n D)(h':w.ownsMap P k R b m D'):D=D':=by
 obtain⟨es,c,hb,_,_,rfl⟩:=h;obtain⟨es',c',hb',_,_,rfl⟩:=h';rw[hb]at hb'
 simp only[Option.some.injEq,Obj.map.injEq]at hb';obtain⟨rfl,rfl⟩:=hb';rfl
theorem Sh.datum{w0 w:World}{sb b n:Nat}{M:ByteArray->List Vn}(h:Sh w0 w sb b n M){m:Nat}{D:DataW Unit}(hD:w.ownsMap Tryz.prog 9 zbx b m D) :
  (∀s,has D (kl7 s)=true↔M s≠[])/\(∀(s:ByteArray)(cv:Sl3),has D (kl7 s)=true->(∀z,D.atKey (kl7 s) z=slD cv)->∃g L c,cv=some (g,L,c)/\VOut w0 w (some ⟨g,0,none⟩) L c (M s)/\0<L/\okK9 s/\(Instr.lookup 238 (.map (some b)) (.string s) false).run Tryz.prog w=.ok (.slice (some ⟨g,0,none⟩) L c) w)/\Sh w0 w sb b m M:=by
 have hmap:=h.map;obtain⟨G,hM,h0,hr,hu⟩:=hmap;have hM2:=hM;obtain⟨D1,hD1,hH,hA⟩:=hM;obtain rfl:D1=D:=zzr hD1 hD;refine⟨fun s=> ?_,fun s cv hh hat=> ?_,⟨h.box,h.sbn,h.bn,h.ok,G,⟨D1,hD,hH,hA⟩,h0,hr,hu⟩⟩
 .rw[hH s];constructor
  .intro h1 e;obtain⟨⟨g,L,c⟩,hg⟩:=Option.isSome_iff_exists.1 h1;obtain⟨hV,hL,_⟩:=hr s g L c hg;have:=hV.len;rw[e]at this
   simp at this;omega
  intro h1;cases hg:G s with
  |some x=>rfl
  |none=>exact absurd (h0 s hg) h1
 rw[hH s]at hh
 obtain⟨⟨g,L,c⟩,hg⟩:=Option.isSome_iff_exists.1 hh;have h2:=hA s hh (.lit (.bool true));rw[hat,hg]at h2
 obtain⟨hV,hL,hk⟩:=hr s g L c hg;refine⟨g,L,c,zmf h2,hV,hL,hk,?_⟩;have:=hM2.look s (by have:=hk.2;unfold maxLen;omega);rw[hg]at this
 exact this
theorem FrS.on{w0:World}{b:Nat}{w w1 w2:World}{T:List Nat}(h:FrS w0 b w w1)(k:Fr T w1 w2)(hT:∀x∈T,w.heap.size<=x):FrS w0 b w w2:=by
 obtain⟨S,hS,hm⟩:=h;refine⟨S,hS.trans k (fun x hx _=>hx) (fun x hx hlt=>by have:=hT x hx;omega),fun hb=>⟨(hm hb).1,fun j hr=> ?_⟩⟩;exact (hm hb).2 j (hr.back k (fun hx=>by have:=hT b hx;omega) (Nat.lt_of_lt_of_le hb hS.size))
open Classical in
noncomputable def colM (M:ByteArray->List Vn) (k:Int) (ms:List ByteArray):ByteArray->List Vn:=fun s=>if s∈ms then colV (M s) k else M s
theorem zka{M:ByteArray->List Vn}{k:Int}{ms:List ByteArray}{s:ByteArray}(h:s∈ms):colM M k ms s=colV (M s) k:=by unfold colM;rw[if_pos h]
theorem zei{M:ByteArray->List Vn}{k:Int}{ms:List ByteArray}{s:ByteArray}(h:s∉ms):colM M k ms s=M s:=by unfold colM;rw[if_neg h]
theorem zwn(M:ByteArray->List Vn)(k:Int)(ms:List ByteArray)(s:ByteArray)(hs:s∉ms):colM M k (ms++[s])=updM (colM M k ms) s (colV (colM M k ms s) k):=by
 funext x
 unfold updM;by_cases h1:x=s
 .subst h1;rw[if_pos rfl,zei hs,zka (by simp)]
 rw[if_neg h1];by_cases h2:x∈ms
 .rw[zka h2,zka (by simp[h2])]
 rw[zei h2,zei (by simp[h1,h2])]
theorem zrp{D:DataW Unit}(hI:IsMap D){kl:Lit}(hk:WideAt.IsKeyLit kl)(hh:has D kl=true)(d:DataW Unit)(x:ByteArray)(hx:kl7 x=kl\/kl7 x≠kl):has (D.put kl d) (kl7 x)=has D (kl7 x):=by
 rcases hx with e|e
 .rw[e,has_put_same hI hk,hh]
 rw[has_put_other e]
structure CI(w0 w1 wr:World)(sb b n:Nat)(M:ByteArray->List Vn)(k:Int)(ms:List ByteArray)(S:Nat):Prop where
 sh:Sh w0 wr sb b n (colM M k ms)
 fr:FrS w0 b w1 wr
 nd:ms.Nodup
 sum:S=(ms.map fun s=>colN (M s) k).sum
theorem zpg{w0:World}{sb b n:Nat}{M:ByteArray->List Vn}(k:Int)(w:World)(h:Sh w0 w sb b n M)(h0:w0.heap.size<=w.heap.size)(hn:n<3518437208883) :
  Calls Tryz.prog 317 #[.pointer (some ⟨sb,0,none⟩),.int .i64 k] w fun e w'=>∃S:Nat,e=.returned (.int .i64 (S:Int))/\GoT M k S/\S<=65536*n/\Sh w0 w' sb b n (fun s=>colV (M s) k)/\FrS w0 b w w':=by
 have HT:Hid (Calls ..):=zdb w h;have HS0:Hid (∀W,Fr [] w W->Sh w0 W sb b n M):=fun W hf=>h.keep hf;have H0:Hid (w0.heap.size<=w.heap.size):=h0;clear h h0;go_enter Tryz.func317,Tryz.ntmps317;go_wp2_with fail
 refine Calls.mono HT.out ?_;rintro e w1⟨rfl,hF1⟩;have h:=HS0.out _ hF1;have cs:=h.cell;obtain⟨D0,hown⟩:∃D0,w1.ownsMap Tryz.prog 9 zbx b n D0:=by
  obtain⟨G,⟨D0,hown,_⟩,_⟩:=h.map;exact⟨D0,hown⟩
 have HFw:Hid (Fr [] w w1):=hF1;have HSz:Hid (Maps.size D0<=n):=hown.size_le;have HK0:Hid (∀s,has D0 (kl7 s)=true↔M s≠[]):=(h.datum hown).1;have HS1:Hid (Sh w0 w1 sb b n M):=h;have Hsz1:Hid (w0.heap.size<=w1.heap.size):=Nat.le_trans H0.out hF1.size;clear h HT hF1 HS0;go_wp2_with (first
  |(at_range;refine wpList_range_own _ rfl _ 238 rfl 9 124 Tryz.keyedStr Tryz.undVMap _ b n _ rfl hown ?_;intro w2 hrg0 hg0 hs0)
  |fail)
 go_frame;have HC0:Hid (CI w0 w1 w2 sb b n M k [] 0):=by
  have hf:Fr [] w1 w2:=Fr.grown hg0 (by simp);refine⟨?_,FrS.of hf,List.nodup_nil,rfl⟩;have e:colM M k []=M:=by funext s;exact zei (by simp)
  rw[e];exact HS1.out.keep hf
 have HH0:Hid (∀s,has D0 (kl7 s)=has D0 (kl7 s)):=fun _=>rfl;have hcnt:=HSz.out;go_loopw [5] (fun nn wr=>∃(left:Lit->Bool)(cnt S:Nat)(ms:List ByteArray)(D:DataW Unit),nn=.int .i64 S/\wr.ranges Tryz.prog 9 zbx b w1.heap.size n D left cnt/\ms.length+cnt<=n/\S<=65536*ms.length/\Hid (Collected D0 left (ms.map (·.data.toList)))/\Hid (∀s,has D (kl7 s)=has D0 (kl7 s))/\Hid (CI w0 w1 wr sb b n M k ms S))
  (fun _ wr=>wr.rangeLeft b w1.heap.size)
 case atStart=>exact⟨_,_,0,[],D0,rfl,hrg0,by simpa using hcnt,Nat.zero_le _,Collected.start D0,HH0,HC0⟩
 obtain⟨left,cnt,S,ms,D,rfl,hrg,hmc,hSm,HC,HH,HI⟩:=hrel;go_wp2_with (first
  |(at_next;refine wpList_next_ranges _ rfl _ rfl 9 Tryz.keyedStr zbx encStr slV (fun key kl hk=>by obtain⟨x,hx,_⟩:=Maps.keyOf_str Tryz.undStr hk;exact⟨x,hx⟩) (fun v y hv=>by obtain⟨s,rfl,_⟩:=zhx hv;exact⟨s,rfl⟩) b w1.heap.size n _ _ _ rfl hrg ?_ ?_)
  |fail)
 .intro hc0 hl0;have hmem:∀s,s∈ms↔M s≠[]:=by
   intro s;rw[<-HK0.out s];have h1:=HC.out.2 s.data.toList;constructor
   .intro hs;exact (h1.1 (List.mem_map.2 ⟨s,hs,rfl⟩)).1
   intro hs;obtain⟨q,hq,he⟩:=List.mem_map.1 (h1.2 ⟨hs,hl0 _⟩);rw[<-zbs he];exact hq
  have HR:Hid (GoT M k S/\S<=65536*n/\Sh w0 wr sb b n (fun s=>colV (M s) k)/\FrS w0 b w wr):=by
   refine⟨⟨ms,HI.out.nd,hmem,HI.out.sum⟩,Nat.le_trans hSm (Nat.mul_le_mul_left _ (by omega)),?_,FrS.from HFw.out HI.out.fr⟩;have e:colM M k ms=fun s=>colV (M s) k:=by
    funext s
    by_cases hs:s∈ms
    .rw[zka hs]
    rw[zei hs];have:M s=[]:=by
     by_cases e:M s=[]
     .exact e
     exact absurd ((hmem s).2 e) hs
    rw[this];rfl
   rw[<-e];exact HI.out.sh
  clear hc0 hl0 HC HH HI hrg hrg0 hmem;go_wp2;go_ret;exact⟨S,rfl,HR.out⟩
 intro x cv kl yd yp w3 cnt2 hkey hlk hv hat hrg2 hlt hg2 hs2 hen;have hent:=ztn hrg hlk;obtain⟨x',ex,hkl,_⟩:=Maps.keyOf_str Tryz.undStr hkey;obtain rfl:x=x':=encStr_inj ex;subst hkl;obtain⟨s,hs,hsx,hks⟩:=zdw x;have hhas:has D (.string x)=true:=has_true_of_atKey hat
 have hhas0:has D0 (.string x)=true:=by
  have:=HH.out s;rw[hks]at this
  rw[<-this];exact hhas
 have hnot:s∉ms:=fun hm=>by
  have h1:=(HC.out.2 x).1 (by rw[<-hsx];exact List.mem_map.2 ⟨s,hm,rfl⟩);rw[hlk]at h1
  exact absurd h1.2 (by simp)
 have HC2:Hid (Collected D0 (fun z=>left z && !z.sameKey (.string x)) ((ms++[s]).map (·.data.toList))):=by
  show Collected _ _ _;have e:(ms++[s]).map (·.data.toList)=ms.map (·.data.toList)++[x]:=by simp[hsx]
  rw[e];have hst:=HC.out;refine⟨?_,fun z=> ?_⟩
  .rw[List.nodup_append];refine⟨hst.1,by simp,fun a ha b hb e2=> ?_⟩;simp at hb;subst hb;subst e2;have:=((hst.2 a).1 ha).2;rw[hlk]at this
   cases this
  rw[List.mem_append,hst.2 z];simp only[List.mem_singleton];by_cases hz:z=x
  .subst hz;have:(Lit.string z).sameKey (.string z)=true:=by simp[Lit.sameKey]
   simp[this,hhas0]
  have:(Lit.string z).sameKey (.string x)=false:=by simpa[Lit.sameKey]using hz
  simp[this,hz]
 have hne:=hrg.ne;have hFr3:Fr [w1.heap.size] wr w3:=Fr.grown hg2 (by intro k hk _;cases hk;simp);have hS3:Sh w0 w3 sb b n (colM M k ms):=by
  refine HI.out.sh.keepS hFr3 ?_ ?_
  .intro hm;simp at hm;obtain⟨_,_,_,_,_,_,_,_,_,hit,_⟩:=hrg;have:=HI.out.sh.box;rw[hm,hit]at this
   cases this
  intro j hj hm;simp at hj;obtain⟨_,_,_,_,_,_,_,_,_,hit,_⟩:=hrg;rcases hm with e2|⟨⟨_,cur,e2⟩,_⟩
  .exact hne (hj.symm.trans e2)
  rw[hj,hit]at e2
  cases e2
 obtain⟨g,L,c,rfl,hV,hL0,hok,hlkp⟩:∃g L c,cv=some (g,L,c)/\VOut w0 w3 (some ⟨g,0,none⟩) L c (colM M k ms s)/\0<L/\okK9 s/\(Instr.lookup 238 (.map (some b)) (.string s) false).run Tryz.prog w3=.ok (.slice (some ⟨g,0,none⟩) L c) w3:=by
  refine (hS3.datum hrg2.owns).2.1 s cv (by rw[hks];exact hhas) (fun z=> ?_);rw[hks,hat];rw[zgf]at hv
  simp only[Option.some.injEq,Prod.mk.injEq]at hv;exact hv.1.symm
 have hMs:colM M k ms s=M s:=zei hnot;have hokV:okV (M s):=by have:=hS3.ok s;rw[hMs]at this;exact this
 have hne2:M s≠[]:=(HK0.out s).1 (by rw[hks];exact hhas0);rw[hMs]at hV
 have HCo:Hid (Calls ..):=zrh (some ⟨g,0,none⟩) L c k (M s) w3 (hV.each hokV) hV.len hV.cap;have hsz3:w1.heap.size<=w3.heap.size:=Nat.le_trans HI.out.fr.size hFr3.size;have HY:Hid (∀ro N rc us nn cc w4,CoTold (M s) k us nn cc->VOut w3 w4 ro N rc us->Fr [] w3 w4->cc=0/\nn<=65536/\w4.cell? ⟨sb,0,none⟩=some (.map (some b))/\∃w5,(Instr.mapUpdate 238 (.map (some b)) (.string s) (.slice ro N rc)).run Tryz.prog w4=.ok () w5/\w5.ranges Tryz.prog 9 zbx b w1.heap.size n (D.put (.string x) (slD (some ((Value.slice ro N rc).ownBlock.getD 0,N,rc)))) (fun z=>left z && !z.sameKey (.string x)) cnt2/\CI w0 w1 w5 sb b n M k (ms++[s]) (S+nn)):=by
  intro ro N rc us nn cc w4 hT hO hF4;obtain⟨rfl,rfl,rfl⟩:=zzp hokV hT;have hN0:0<N:=by
   rw[hO.len];exact List.length_pos_iff.2 ((zaci k).2 hne2)
  obtain⟨g2,rfl⟩:∃g2,ro=some ⟨g2,0,none⟩:=by
   obtain⟨rf,_,ho⟩:=hO.own;rcases ho.2 with⟨_,hz⟩|⟨g2,cap,cur,e2,_⟩
   .omega
   cases e2;exact⟨g2,rfl⟩
  have hS4:=hS3.keep hF4;refine⟨rfl,by have:=zdp hokV;have:=zsb k hne2;omega,hS4.cell,?_⟩;have hk4:keyOf Tryz.prog 9 (.string s)=some (.string x):=by rw[<-hks];exact zda s (by have:=hok.2;unfold maxLen;omega)
  have hrg4:w4.ranges Tryz.prog 9 zbx b w1.heap.size n D (fun z=>left z && !z.sameKey (.string x)) cnt2:=by
   obtain⟨es,clock,since,seen,c0,r1,r2,r3,r4,r5,r6⟩:=hrg2;exact⟨es,clock,since,seen,c0,hF4.keep r1 (by simp),r2,r3,r4,hF4.keep r5 (by simp),r6⟩
  have hent4:Ent Tryz.prog 9 zbx w4 b (.string x):=by
   obtain⟨es,clock,xx,e1,e2,e3⟩:=hent;exact⟨es,clock,xx,hF4.keep (hFr3.keep e1 (by simp;exact fun e=>hne e.symm)) (by simp),e2,e3⟩
  obtain⟨w5,hr5,hrg5,hg5⟩:=zto hrg4 Tryz.keyedStr Tryz.undVMap hk4 (zgf (some (g2,N,rc))) hent4 (by unfold maxLen;omega);obtain⟨w6,hr6,hS6,hF6,_⟩:=hS3.lay s hok (by omega) hlkp (hF4.mono (by simp)) (hO.later (Nat.le_trans Hsz1.out hsz3)) (fun g' hg'=>Or.inr (hO.blk g' (by rw[hg'];simp)).1) (zacj hokV k) hN0;have hw:w6=w5:=by
   have e2:Result.ok () w5=Result.ok () w6:=hr5.symm.trans hr6;injection e2 with _ e3;exact e3.symm
  subst hw;refine⟨w6,hr6,hrg5,?_,?_,?_,?_⟩
  .have h7:=(hS6.datum hrg5.owns).2.2;rw[zwn M k ms s hnot,hMs];exact h7
  .exact (HI.out.fr.on hFr3 (by simp)).then hF6
  .rw[List.nodup_append];exact⟨HI.out.nd,by simp,fun a ha b hb e2=>by simp at hb;subst hb;subst e2;exact hnot ha⟩
  rw[List.map_append,List.sum_append,<-HI.out.sum];simp
 have HHp:Hid (∀d z,has (D.put (.string x) d) (kl7 z)=has D0 (kl7 z)):=fun d z=>by
  rw[<-HH.out z];exact zrp hrg.owns.isMap (Tryz.keyedStr.key hkey) hhas d z (by by_cases e:kl7 z=Lit.string x;exact Or.inl e;exact Or.inr e)
 rw[hs]at hen ⊢
 simp only[slV]at hen ⊢;clear hkey hlk hv hat hg2 hs2 ex hsx hks HC HI HH hhas hhas0 hnot hent hFr3 hS3 hV hlkp hMs hokV hne2 hok hrg0 hrg2 hne;go_wp2_with fail
 refine Calls.mono HCo.out ?_;rintro e w4⟨ro,N,rc,us,nn,cc,rfl,hT,hO,hF4⟩;obtain⟨rfl,hnn,cs4,w5,hr5,hrg5,hI5⟩:=HY.out ro N rc us nn cc w4 hT hO hF4;have HI5:Hid (CI w0 w1 w5 sb b n M k (ms++[s]) (S+nn)):=hI5;clear HCo HY hT hO hF4 hI5;go_wp2_with fail
 go_roundw;case rel=>exact⟨_,cnt2,S+nn,ms++[s],_,by simp,hrg5,by simp;omega,by simp;omega,HC2,(fun z=>HHp.out _ z),HI5⟩
 case measure=>rw[hrg5.left_eq,hrg.left_eq];exact hlt
end O
end Go.Proofs.YtakbodlicfmkjaaGreat
