/- Contracts and lemmas. -/
import Derived.Test.YtakbodlicfmkjaaGreatGp44
import Derived.Test.YtakbodlicfmkjaaGreatGp45
import Derived.Test.YtakbodlicfmkjaaGreatGp47
import Derived.Test.YtakbodlicfmkjaaGreatGp48
import Derived.Test.YtakbodlicfmkjaaGreatGp34
set_option maxHeartbeats 4000000
set_option maxRecDepth 100000
namespace Go.Proofs.YtakbodlicfmkjaaGreat
set_option linter.unusedSimpArgs false
set_option linter.unusedVariables false
section
open Go.ChangeShapes Go.WideShapes Go.ChangeAt Go.RowKit Go.Lib
theorem zxu(ps:List O.Hd):∀u∈O.hdsC ps,u.oneCell'=true:=by
 intro u hu;obtain⟨h,_,h2⟩:=List.mem_flatMap.1 hu;simp[O.hdC]at h2
 rcases h2 with rfl|rfl<;>rfl
theorem zrv(ps qs:List O.Hd):O.hdsC (ps++qs)=O.hdsC ps++O.hdsC qs:=by simp[O.hdsC]
theorem zxv{w:World}{base:Nat}{e:TypeId}{ro:Option Addr}{N rc:Nat}{xs:List Value}(h:w.ownsRow base e 2 (.slice ro N rc) N xs)(hx:xs.length=N*2):(ro=none->N=0)/\∀ad,ro=some ad->∀j u,xs[j]? = some u->w.cell? (ad.add j)=some u:=by
 rcases h.2 with⟨hh,h0⟩|⟨g,cap,cur,hh,hb,hg,h1,h2,h3,h4⟩
 .cases hh;exact⟨fun _=>rfl,fun ad e=>(by cases e)⟩
 cases hh;refine⟨fun e=>(by cases e),fun ad e j u hu=> ?_⟩;cases e;have hj:j<xs.length:=(List.getElem?_eq_some_iff.1 hu).1;rw[Addr.add_lit,crw hg,Nat.zero_add,<-Array.getElem?_toList];rw[<-h4,List.getElem?_take_of_lt (by omega)]at hu
 exact hu
theorem zes(w:World){ops:Array Oper}{rest:List Oper}{o:Oper}{a:Act}{Q:Exit->Act->World->Prop}(hgd:o.guard=none)(s x:Operand)(ho:o.op=.call {callee:=.builtin .append,args:=#[s,x],argTypes:=#[82,82]})(base:Nat)(v:Value)(qs:List O.Hd)(hs:a.eval s=v)(hown:w.ownsRow base 126 2 v qs.length (O.hdsC qs))(xo:Option Addr)(m c:Nat)(rs:List O.Hd)(hx:a.eval x=.slice xo m c)(hlen:m=rs.length)(hnone:xo=none->m=0)(hlies:∀ad,xo=some ad->∀j u,(O.hdsC rs)[j]? = some u->w.cell? (ad.add j)=some u)(hn:qs.length+m<3518437208884)(hbase:base<=w.heap.size)(h:∀bo n' cap' w',n'=(qs++rs).length->w'.ownsRow base 126 2 (.slice bo n' cap') n' (O.hdsC (qs++rs))->Fr v.ownBlock.toList w w'->wpList Tryz.prog ops Q rest (a.put o.dst (.slice bo n' cap')) w'):wpList Tryz.prog ops Q (o::rest) a w:=by
 obtain⟨i0,hi,hz0,hz1,hz2⟩:=O.infoHd_parts;have hl:(O.hdsC rs).length=m*2:=by rw[So.hdsC_length];omega
 have hmx:3518437208884<=maxLen:=by unfold maxLen;omega
 cases xo with
 |none=>
  refine wpList_plain hgd fun K hK=> ?_;obtain rfl:m=0:=hnone rfl;have hrs:rs=[]:=List.eq_nil_of_length_eq_zero hlen.symm;subst hrs;have hr:=O.run_append_noneB (P:=Tryz.prog) w 82 o.type 126 i0 2 c base O.Tryz.undHds hi v qs.length (O.hdsC qs) hown;obtain⟨bo,cap',rfl⟩:=O.own_shape2 hown;unfold Oper.wp execOp;simp only[ho,resolve,invoke,builtin,Sem.run_bind,Sem.run_pure,Result.andThen_ok,List.map_toArray,List.map_cons,List.map_nil,hs,hx,hr];exact hK _ _ (h bo _ cap' w (by simp) (by simpa using hown) (Fr.refl _ _))
 |some ad=>
  refine wpList_append_own w hgd s x 82 ho base 126 i0 _ 2 40 O.Tryz.undHds hi hz0 hz1 hz2 rfl (by decide) v qs.length (O.hdsC qs) hs hown ad m c (O.hdsC rs) hx hl (hlies ad rfl) (zxu rs) (by omega) (by omega) hbase ?_;intro v' w' hown' hg' _;have hlen':(qs++rs).length=qs.length+m:=by rw[List.length_append,hlen]
  obtain⟨bo,cap',rfl⟩:=O.own_shape2 hown';exact h bo _ cap' w' hlen'.symm (by rw[zrv];exact hown') (Fr.grown hg' (fun y hy _=>Option.mem_toList.2 hy))
theorem zjo{α β:Type}(f g:α->List β):∀l:List α,(∀x∈l,f x=g x)->l.flatMap f=l.flatMap g
 | [],_=>rfl
 |x::l,h=>by rw[List.flatMap_cons,List.flatMap_cons,h x List.mem_cons_self,zjo f g l fun y hy=>h y (List.mem_cons_of_mem _ hy)]
def CatH(M:Nat->ByteArray->List O.Vn)(n:Nat)(acc:List O.Hd):Prop:=∃f:Nat->List O.Hd,(∀i,i<n->O.PkT (M i) (M i) (f i))/\acc=(List.range n).flatMap f
theorem CatH.zero(M:Nat->ByteArray->List O.Vn):CatH M 0 []:=⟨fun _=>[],fun i hi=>absurd hi (by omega),rfl⟩
theorem CatH.next{M:Nat->ByteArray->List O.Vn}{n:Nat}{acc hs:List O.Hd}(h:CatH M n acc)(hp:O.PkT (M n) (M n) hs):CatH M (n+1) (acc++hs):=by
 obtain⟨f,h1,rfl⟩:=h;refine⟨fun i=>if i=n then hs else f i,fun i hi=> ?_,?_⟩
 .by_cases e:i=n
  .subst e;simpa using hp
  simp only[if_neg e];exact h1 i (by omega)
 rw[List.range_succ,List.flatMap_append]
 congr 1
 .refine zjo _ _ _ fun i hi=> ?_;have:=List.mem_range.1 hi;rw[if_neg (by omega)]
 simp
structure Gh(w wr:World)(M:Nat->ByteArray->List O.Vn)(i:Nat)(v:Value)(acc:List O.Hd):Prop where
 cat:CatH M i acc
 row:wr.ownsRow w.heap.size 126 2 v acc.length (O.hdsC acc)
 each:∀h∈acc,O.VOut w wr h.vo h.L h.cap h.vs
 few:acc.length<=i*16000000
theorem Gh.keep{w wr wr':World}{M:Nat->ByteArray->List O.Vn}{i:Nat}{v:Value}{acc:List O.Hd}(h:Gh w wr M i v acc)(hf:Fr [] wr wr'):Gh w wr' M i v acc:=
 ⟨h.cat,O.owns_keepB h.row hf (by simp),fun x hx=>(h.each x hx).keepS hf (by simp),h.few⟩
section
variable{w0 w w':World}{p:Nat}{c:Cf}{T:List Tx}{Z:Lay}{s:Ms}
theorem MaM.lsc(h:MaM w0 w c T Z s):w.cell? ⟨Z.z.mb,11,none⟩=some (.slice (some ⟨Z.z.osB,0,none⟩) c.s.toNat Z.z.osC):=h.mc rfl
theorem zadv(h:MaM w0 w c T Z s)(hk:s.k<16000000){j:Nat}(hj:j<c.s.toNat):Calls Tryz.prog 47 #[.pointer (some ⟨Z.z.ob j,0,none⟩)] w fun e w'=>∃ro N rc hs,e=.returned (.slice ro N rc)/\O.HOut w w' ro N rc hs/\N<=16000000/\O.PkT (s.M j) (s.M j) hs/\Fr [] w w':=by
 have hf:=h.few.2.2 j hj;refine (O.os_all (h.ow hj) (by omega)).mono ?_;rintro e w'⟨ro,N,rc,hs,rfl,h1,h2,h3,h4⟩;exact⟨ro,N,rc,hs,rfl,h1,by omega,h3,h4⟩
end
section
variable{w0 w w':World}{p:Nat}{c:Cf}{T:List Tx}{Z:Lay}{s:Ms}
theorem CatH.ok(hW:Wf c T s){acc:List O.Hd}(h:CatH s.M c.s.toNat acc):∀x∈acc,O.okV x.vs/\x.vs≠[]/\x.key.size<=64:=by
 obtain⟨f,h1,rfl⟩:=h;intro x hx;obtain⟨j,hj,hxj⟩:=List.mem_flatMap.1 hx;have hj':=List.mem_range.1 hj;obtain⟨e1,e2,_⟩:=(h1 j hj').is x hxj;refine⟨by rw[e1];exact hW.okv j x.key,by rw[e1];exact e2,?_⟩;obtain⟨v,hv⟩:=List.exists_mem_of_ne_nil _ e2;obtain⟨⟨b1,b2⟩,y,hy,hk,_⟩:=hW.ver j x.key v hj' hv;have hdT:=hW.dT;have hok:=hW.txn b1 (by omega);have:=(hok.2.2.2 y (zld _ y hy)).2.1;rw[<-hk];exact this
theorem zadw{base:Nat}{ro:Option Addr}{n rc:Nat}{ds:List O.Hd}(h:w'.ownsRow base 126 2 (.slice ro n rc) n (O.hdsC ds))(hn:n=ds.length)(hl:n<=3518437208882)(he:∀x∈ds,O.VOut w w' x.vo x.L x.cap x.vs/\O.okV x.vs/\x.key.size<=64):O.HRs w' ro ds:=by
 refine⟨fun h0=> ?_,by omega,fun x hx=> ?_⟩
 .rcases h.2 with⟨_,h1⟩|⟨g,cap,cur,hv,_,hg,_,_,_,ht⟩
  .omega
  cases hv;refine⟨g,0,rfl,lt_of_block hg,fun i hi=> ?_⟩;obtain⟨e1,e2⟩:=O.hdsC_get ds i hi;constructor
  .rw[crw hg,Nat.zero_add,<-Array.getElem?_toList,<-e1,<-ht,List.getElem?_take_of_lt (by omega)]
  rw[crw hg,Nat.zero_add,<-Array.getElem?_toList,<-e2,<-ht,List.getElem?_take_of_lt (by omega)]
 obtain⟨h1,h2,h3⟩:=he x hx;exact⟨by omega,h1.len,h1.cap,h1.each h2⟩
theorem zqj(h:MaM w0 w c T Z s)(hW:Wf c T s)(hk:s.k<16000000):Calls Tryz.prog 25 #[.pointer (some ⟨Z.z.mb,0,none⟩)] w fun e w'=>∃ro n rc hs,e=.returned (.slice ro n rc)/\O.HRs w' ro hs/\n=hs.length/\n<=rc/\So.Sd hs/\(∀x∈hs,x.vs≠[])/\(∃acc,CatH s.M c.s.toNat acc/\hs.Perm acc)/\Fr [] w w':=by
 obtain⟨SN,hSN⟩:∃SN,c.s.toNat=SN:=⟨_,rfl⟩;have hSl:SN<=16:=by have:=h.may.2.1;omega
 have hSc:SN<=Z.z.osC:=by have:=h.st.caps.2.1;omega
 have c11:w.cell? ⟨Z.z.mb,11,none⟩=some (.slice (some ⟨Z.z.osB,0,none⟩) SN Z.z.osC):=by rw[<-hSN];exact h.lsc
 have HR:Hid (∀W i,Fr [] w W->i<SN->W.cell? ⟨Z.z.osB,i,none⟩=some (.pointer (some ⟨Z.z.ob i,0,none⟩))/\Hid (Calls Tryz.prog 47 #[.pointer (some ⟨Z.z.ob i,0,none⟩)] W fun e w'=>∃ro N rc hs,e=.returned (.slice ro N rc)/\O.HOut W w' ro N rc hs/\N<=16000000/\O.PkT (s.M i) (s.M i) hs/\Fr [] W w')):=fun W i hf hi=>
  ⟨(h.quiet hf).osc (by omega),zadv (h.quiet hf) hk (by omega)⟩
 have HSN:Hid (c.s.toNat=SN):=hSN;have HW:Hid (Wf c T s):=hW;clear h hSN hk hW;go_enter Tryz.func25,Tryz.ntmps25;go_wp2_with fail
 go_loopw [3,11] (fun ll ii wr=>∃(i:Nat),ii=.int .i64 i/\i<=SN/\(∃o n k,ll=.slice o n k)/\Hid (∃acc,Gh w wr s.M i ll acc)/\Fr [] w wr) (fun _ ii _=>SN-(RowKit.intOf ii).toNat)
 case atStart=>exact⟨0,rfl,Nat.zero_le _,⟨none,0,0,rfl⟩,⟨[],CatH.zero _,⟨rfl,Or.inl ⟨rfl,rfl⟩⟩,fun x hx=>(by cases hx),Nat.zero_le _⟩,Fr.refl _ _⟩
 obtain⟨i,rfl,hiS,⟨so,sn,sc,rfl⟩,HG,hF⟩:=hrel;by_cases hi:i<SN
 .obtain⟨d0,HC⟩:=HR.out wr i hF hi;go_wp2_with fail
  refine Calls.mono HC.out ?_;rintro e w2⟨ro,N,rc,hs,rfl,hO,hN,hP,hF2⟩;obtain⟨acc,hG⟩:=HG.out;have hG2:=hG.keep hF2;have hNl:=hO.len;have hrd:=zxv hO.row (by rw[So.hdsC_length];omega);have hF3:=hF.then hF2;have hacc:=hG.few;have HA:Hid (∀(bo:Option Addr)(n' cap':Nat)(w4:World),n'=(acc++hs).length->w4.ownsRow w.heap.size 126 2 (.slice bo n' cap') n' (O.hdsC (acc++hs))->Fr (Value.slice so sn sc).ownBlock.toList w2 w4->(∃acc,Gh w w4 s.M (i+1) (.slice bo n' cap') acc)/\Fr [] w w4):=fun bo n' cap' w4 e1 e2 e3=>by
   have hb:∀x∈(Value.slice so sn sc).ownBlock.toList,w.heap.size<=x/\∃cur,w2.heap[x]? = some (.cells cur 126 (0,0)):=fun x hx=>O.owns_cells hG2.row (Option.mem_toList.1 hx);have hv:∀y:O.Hd,O.VOut w w2 y.vo y.L y.cap y.vs->O.VOut w w4 y.vo y.L y.cap y.vs:=fun y hy=>hy.keepS e3 (fun k hk hm=>by
    obtain⟨_,cur,h1⟩:=hb k hm;obtain⟨_,cur',h2⟩:=hy.blk k hk;rw[h1]at h2
    simp only[Option.some.injEq,Obj.cells.injEq]at h2;exact absurd h2.2.1 (by decide))
   refine⟨⟨acc++hs,hG.cat.next hP,by rw[e1]at e2;rw[e1];exact e2,fun y hy=> ?_,by rw[List.length_append];omega⟩,hF3.on e3 (fun x hx=>(hb x hx).1)⟩;rcases List.mem_append.1 hy with hy|hy
   .exact hv y (hG2.each y hy)
   exact hv y ((hO.each y hy).later hF.size)
  have HR1:Hid (w2.ownsRow w.heap.size 126 2 (.slice so sn sc) acc.length (O.hdsC acc)):=hG2.row;have HR2:Hid (_/\_):=hrd;have hsz:w.heap.size<=w2.heap.size:=hF3.size;have hlen:acc.length+N<3518437208884:=by omega
  have HNl:Hid (N=hs.length):=hNl;clear hNl hG hG2 hO hP hF2 hF3 hrd HG HC d0 hacc hF;go_wp2_with (first
   |(
    at_builtin;refine zes _ rfl _ _ rfl w.heap.size (.slice so sn sc) acc rfl HR1.out ro N rc hs rfl HNl.out HR2.out.1 HR2.out.2 hlen hsz ?_
    intro o' n' c' w4 hn' hO4 hF4;have HR3:Hid (_/\_):=HA.out o' n' c' w4 hn' hO4 hF4;clear hn' hO4 hF4;go_frame)
   |fail)
  go_roundw;case rel=>exact⟨i+1,rfl,by omega,⟨_,_,_,rfl⟩,HR3.out.1,HR3.out.2⟩
  case measure=>first|omega|(simp[RowKit.intOf];omega)|(simp only[RowKit.intOf,RowKit.intOf];omega)
 obtain rfl:i=SN:=by omega
 go_wp2_with fail
 obtain⟨acc,hG⟩:=HG.out;have hfew:=hG.few;have hoks:=CatH.ok HW.out (acc:=acc) (by rw[HSN.out];exact hG.cat);have hb:∀x∈(Value.slice so sn sc).ownBlock.toList,w.heap.size<=x/\∃cur,wr.heap[x]? = some (.cells cur 126 (0,0)):=fun x hx=>O.owns_cells hG.row (Option.mem_toList.1 hx);refine (So.sortH_any w.heap.size (.slice so sn sc) acc wr hG.row (by omega)).mono ?_;rintro e w4⟨rfl,ds,hp,hsd,hrow,hf4⟩;have hlen:=hp.length_eq;have hsn:sn=acc.length:=by
  rcases hG.row.2 with⟨e,h0⟩|⟨g,cap,cur,e,_⟩
  .cases e;exact h0.symm
  cases e;rfl
 have hrow':w4.ownsRow w.heap.size 126 2 (.slice so acc.length sc) acc.length (O.hdsC ds):=by rw[hsn]at hrow;exact hrow
 have hcap:sn<=sc:=by
  rcases hG.row.2 with⟨e,h0⟩|⟨g,cap,cur,e,_,_,h1,h2,_⟩
  .cases e;exact Nat.le_refl _
  cases e;omega
 have HFin:Hid (∃ro n rc hs,(Value.slice so sn sc)=.slice ro n rc/\O.HRs w4 ro hs/\n=hs.length/\n<=rc/\So.Sd hs/\(∀x∈hs,x.vs≠[])/\(∃acc,CatH s.M c.s.toNat acc/\hs.Perm acc)/\Fr [] w w4):=by
  refine⟨so,sn,sc,ds,rfl,zadw (w:=w) hrow' hlen.symm (by omega) (fun x hx=> ?_),by omega,hcap,hsd,fun x hx=>(hoks x (hp.mem_iff.1 hx)).2.1,⟨acc,by rw[HSN.out];exact hG.cat,hp⟩,hF.on hf4 (fun x hx=>(hb x hx).1)⟩;have hx':=hp.mem_iff.1 hx;refine⟨(hG.each x hx').keepS hf4 (fun k hk hm=> ?_),(hoks x hx').1,(hoks x hx').2.2⟩;obtain⟨_,cur,h1⟩:=hb k hm;obtain⟨_,cur',h2⟩:=(hG.each x hx').blk k hk;rw[h1]at h2
  simp only[Option.some.injEq,Obj.cells.injEq]at h2;exact absurd h2.2.1 (by decide)
 clear hp hsd hrow hrow' hf4 hoks hb hG hfew hlen hsn hcap;go_wp2_with fail
 go_ret;obtain⟨ro,n,rc,hs,e,hrest⟩:=HFin.out;exact⟨ro,n,rc,hs,by rw[<-e];rfl,hrest⟩
end
section
variable{w0 w w':World}{p:Nat}{c:Cf}{T:List Tx}{Z:Lay}{s:Ms}
theorem zxw(h:RP w0 w p c T Z s)(hW:Wf c T s)(hk:s.k<16000000):Calls Tryz.prog 12 #[.pointer (some ⟨p,0,none⟩)] w fun e w'=>∃hs v,e=.returned v/\So.Sd hs/\(∃acc,CatH s.M c.s.toNat acc/\hs.Perm acc)/\w'.ownsRow w.heap.size 61 2 v (hs.filterMap (enOf s.ma)).length (O.celsE (hs.filterMap (enOf s.ma)))/\Fr [] w w':=by
 have HT:Hid (Calls ..):=zgr h;have c0:=h.c0;have c12:w.cell? ⟨Z.z.mb,12,none⟩=some (.pointer (some ⟨Z.z.gb,0,none⟩)):=h.m.mc rfl;have HC:Hid (∀W,Fr [] w W->W.cell? ⟨p,0,none⟩=some (.pointer (some ⟨Z.z.mb,0,none⟩))/\W.cell? ⟨Z.z.mb,12,none⟩=some (.pointer (some ⟨Z.z.gb,0,none⟩))/\Hid (Calls Tryz.prog 23 #[.pointer (some ⟨Z.z.gb,0,none⟩)] W fun e w'=>e=.returned (.int .i64 s.ma)/\Fr [] W w')):=fun W hf=>⟨(h.quiet hf).c0,(h.quiet hf).m.mc rfl,zfl (h.quiet hf).m.ga⟩;have HV:Hid (Calls Tryz.prog 25 #[.pointer (some ⟨Z.z.mb,0,none⟩)] w.drew fun e w'=>∃ro n rc hs,e=.returned (.slice ro n rc)/\Hid (So.Sd hs/\(∃acc,CatH s.M c.s.toNat acc/\hs.Perm acc))/\Fr [] w w'/\∀W,Fr [] w' W->Hid (Calls Tryz.prog 24 #[.slice ro n rc,.int .i64 s.ma] W fun e w3=>∃v,e=.returned v/\Hid (w3.ownsRow w.heap.size 61 2 v (hs.filterMap (enOf s.ma)).length (O.celsE (hs.filterMap (enOf s.ma))))/\Fr [] w w3)):=by
  refine Calls.mono (zqj (h.quiet (Fr.drew [] w)).m hW hk) ?_;rintro e w'⟨ro,n,rc,hs,rfl,h1,h2,h3,h4,h5,h6,h7⟩;refine⟨ro,n,rc,hs,rfl,⟨h4,h6⟩,(Fr.drew [] w).then h7,fun W hf=> ?_⟩;refine Calls.mono (zru (h1.keep hf) h2 h3 h5 s.ma) ?_;rintro e w3⟨v,rfl,g1,g2⟩;have hfw:=((Fr.drew [] w).then h7).then hf;exact⟨v,rfl,O.own_base g1 hfw.size,hfw.then g2⟩
 clear h hW hk;go_enter Tryz.func12,Tryz.ntmps12;go_wp2_with fail
 refine Calls.mono HT.out ?_;rintro e w1⟨rfl,rfl⟩;clear HT;go_upto_region 3 with fail
 go_region_held3 (fun W=>W.cell? ⟨p,0,none⟩=some (.pointer (some ⟨Z.z.mb,0,none⟩))/\W.cell? ⟨Z.z.mb,12,none⟩=some (.pointer (some ⟨Z.z.gb,0,none⟩))) (go_keep)
  (first
   |(go_at_call 25;with_reducible refine Calls.mono HV.out ?_;rintro e w2⟨ro,n,rc,hs,rfl,HS,hf2,hE⟩;obtain⟨d0,d12,HM⟩:=HC.out w2 hf2)
   |(go_at_call 23;with_reducible refine Calls.mono HM.out ?_;rintro e w3⟨rfl,hf3⟩;obtain⟨e0,e12,_⟩:=HC.out w3 (Fr.then hf2 hf3);have HE:=hE w3 hf3)
   |(go_at_call 24;with_reducible refine Calls.mono HE.out ?_;rintro e w4⟨v,rfl,HR,hf4⟩;obtain⟨f0,f12,_⟩:=HC.out w4 hf4))
 go_wp2;go_ret;exact⟨hs,v,rfl,HS.out.1,HS.out.2,HR.out,hf4⟩
end
end
section
open Go.ChangeShapes Go.WideShapes Go.ChangeAt Go.RowKit Go.Lib Go.Maps Go.Sort Go.Shelf
section
variable{c:Cf}{T:List Tx}{s:Ms}
theorem zmp(c:Cf)(x y:Wt)(h:x.key=y.key):shW c x=shW c y:=by unfold shW;rw[h]
theorem enOf_is{mark:Int}{h:O.Hd}{p:O.Pr}:enOf mark h=some p↔h.key=p.1/\O.valAt h.vs mark=some p.2:=by
 unfold enOf;obtain⟨a,b⟩:=p;cases O.valAt h.vs mark with
 |none=>simp
 |some v=>simp
theorem zaau{M:ByteArray->List O.Vn}{hs:List O.Hd}(h:O.PkT M M hs):(hs.map (·.key)).Nodup:=by
 rw[List.nodup_iff_pairwise_ne,List.pairwise_map];refine h.inc.imp fun {a b} hab e=> ?_;rw[e]at hab
 rw[zbw]at hab
 cases hab
theorem zjq(hW:Wf c T s){j:Nat}(hj:j<c.s.toNat){hs:List O.Hd}(hp:O.PkT (s.M j) (s.M j) hs){x:O.Hd}(hx:x∈hs):∃y:Wt,y.key=x.key/\shW c y=j:=by
 obtain⟨_,e2,_⟩:=hp.is x hx;obtain⟨v,hv⟩:=List.exists_mem_of_ne_nil _ e2;obtain⟨_,y,_,hk,hsh,_⟩:=hW.ver j x.key v hj hv;exact⟨y,hk,hsh⟩
theorem zxy(hW:Wf c T s):∀(n:Nat)(acc:List O.Hd),n<=c.s.toNat->CatH s.M n acc->(acc.map (·.key)).Nodup:=by
 intro n acc hn ⟨f,h1,e⟩;subst e;induction n with
 |zero=>simp
 |succ n ih=>
  rw[List.range_succ,List.flatMap_append,List.map_append,List.nodup_append];refine⟨ih (by omega) (fun i hi=>h1 i (by omega)),by simpa using zaau (h1 n (by omega)),fun a ha b hb e=> ?_⟩;obtain⟨x,hx,rfl⟩:=List.mem_map.1 ha;obtain⟨y,hy,rfl⟩:=List.mem_map.1 hb;obtain⟨i,hi,hxi⟩:=List.mem_flatMap.1 hx;have hi':=List.mem_range.1 hi;have hy':y∈f n:=by simpa using hy
  obtain⟨u,hu1,hu2⟩:=zjq hW (by omega) (h1 i (by omega)) hxi;obtain⟨v,hv1,hv2⟩:=zjq hW (by omega) (h1 n (by omega)) hy';have:=zmp c u v (by rw[hu1,hv1];exact e);omega
theorem zuh(hW:Wf c T s){m:Nat}(hma:s.ma=(m:Int))(hall:∀n:Int,1<=n->n<=(m:Int)->s.en n)(hm:m<=T.length){hs acc:List O.Hd}(hc:CatH s.M c.s.toNat acc)(hp:hs.Perm acc):Fo.AllP (Fo.fo (T.take m)) (hs.filterMap (enOf s.ma)):=by
 have hnd:(hs.map (·.key)).Nodup:=(hp.map _).nodup_iff.2 (zxy hW _ acc (Nat.le_refl _) hc);obtain⟨f,h1,e⟩:=hc;refine⟨?_,fun p=> ?_⟩
 .have key:∀l:List O.Hd,(l.map (·.key)).Nodup->((l.filterMap (enOf s.ma)).map (·.1)).Sublist (l.map (·.key)):=by
   intro l;induction l with
   |nil=>intro _;simp
   |cons x l ih=>
    intro h;have:=ih (List.nodup_cons.1 h).2;rw[List.filterMap_cons];cases hx:enOf s.ma x with
    |none=>simp only;exact List.Sublist.cons _ this
    |some q=>
     simp only[List.map_cons];rw[<-(enOf_is.1 hx).1];exact List.Sublist.cons_cons _ this
  exact (key hs hnd).nodup hnd
 rw[List.mem_filterMap];constructor
 .rintro⟨x,hx,hxe⟩;obtain⟨k1,k2⟩:=enOf_is.1 hxe;have hxa:=hp.mem_iff.1 hx;rw[e]at hxa
  obtain⟨j,hj,hxj⟩:=List.mem_flatMap.1 hxa;have hj':=List.mem_range.1 hj;obtain⟨y,hy1,hy2⟩:=zjq hW hj' (h1 j hj') hxj;have:=hW.vals hall hm x.key (fun a b h=>zmp c a b h) y hy1 (by rw[hy2];exact hj');rw[hy2,<-((h1 j hj').is x hxj).1,<-hma,k2,k1]at this
  exact this.symm
 intro hE;have hlt:=zxl hW.may ⟨p.1,p.2,false⟩;have:=hW.vals hall hm p.1 (fun a b h=>zmp c a b h) ⟨p.1,p.2,false⟩ rfl hlt;rw[hE,<-hma]at this
 have hne:s.M (shW c ⟨p.1,p.2,false⟩) p.1≠[]:=fun e0=>by
  rw[e0]at this
  simp[O.valAt,O.vAt,O.valOf]at this
 obtain⟨x,hx,hxk⟩:=(h1 _ hlt).all p.1 hne hne;refine⟨x,hp.mem_iff.2 (by rw[e];exact List.mem_flatMap.2 ⟨_,List.mem_range.2 hlt,hx⟩),enOf_is.2 ⟨hxk,?_⟩⟩;rw[((h1 _ hlt).is x hx).1,hxk];exact this
theorem zaav(hW:Wf c T s){m:Nat}(hma:s.ma=(m:Int))(hall:∀n:Int,1<=n->n<=(m:Int)->s.en n)(hm:m<=T.length){hs acc:List O.Hd}(hsd:So.Sd hs)(hc:CatH s.M c.s.toNat acc)(hp:hs.Perm acc):Fo.Is (Fo.fo (T.take m)) (hs.filterMap (enOf s.ma)):=by
 refine Fo.is_sorted (zuh hW hma hall hm hc hp) (List.Perm.refl _) ?_;rw[List.pairwise_filterMap];refine hsd.imp fun {a b} hab x hx y hy=> ?_;rw[<-(enOf_is.1 hx).1,<-(enOf_is.1 hy).1];exact hab
end
def ms0:Ms:=⟨0,false,0,0,fun _=>False,0,[],fun _=>False,[],[],fun _=>none,fun _=>[],fun _ _=>[],0⟩
theorem zql(T:List Tx)(n:Int):¬Opn T ms0 n:=fun h=>by
 have:=(op_iff.1 h).1;have e:ms0.d=0:=rfl;rw[e]at this
 omega
theorem Wf.zero{c:Cf}{T:List Tx}(hm:c.may)(hok:okL 1 T):Wf c T ms0:=by
 refine⟨hm,hok,fun _=>rfl,fun h=>(by cases h),⟨Nat.le_refl _,Nat.zero_le _⟩,?_,fun n=> ?_,fun n h=>h.elim,?_,fun n=>⟨fun h=>h.elim,fun h=>(zql T n h.1).elim⟩,fun n h=>(by cases h),fun n h=>(by cases h),fun i h hi hl=>(by cases hl),fun n h=>(zql T n h).elim,List.nodup_nil,List.nodup_nil,fun n h=>(by cases h),fun i h hi hl=>(by cases hl),fun i j h g hi hj hl=>(by cases hl),fun i h hi hl=>(by cases hl),fun i h hi hl=>(by cases hl),fun j e hj he=>(by cases he),fun j hj=>List.Pairwise.nil,fun j e hj he=>(by cases he),fun j hj=> ?_,fun j k v hj hv=>(by cases hv),fun n h j k v hj hv=>(by cases hv),fun n h=> ?_,fun j k=> ?_⟩
 .exact⟨⟨Int.le_refl _,by show (0:Int)<=65536;omega,List.Pairwise.nil,fun x hx=>(by cases hx)⟩,fun h=>(by cases h)⟩
 .constructor
  .exact fun h=>h.elim
  rintro⟨h1,h2|h2⟩
  .have e:ms0.ma=0:=rfl;rw[e]at h2
   omega
  cases h2
 .have:=hm.2.2.1;show ((0:Nat):Int)<=0+c.w;omega
 .have:=hm.2.2.2;show (([]:List Qe).length:Int)<=c.q;simp only[List.length_nil];omega
 .rcases h with h|h
  .cases h
  exact h.elim
 exact⟨fun x hx=>(by cases hx),List.Pairwise.nil⟩
theorem zqm(n:Nat):sumW (fun _=>none) n=0:=by
 induction n with
 |zero=>rfl
 |succ n ih=>rw[sumW,ih];rfl
theorem zafw(c:Cf)(n:Nat):mu c {ms0 with fd:=n}=69*n:=by
 unfold mu;show 69*(n-0)+(if false=true then 68 else 0)+67*(wtN (fun _=>False) 0+0)+sumW (fun _=>none) c.l.toNat+0=69*n;rw[zqm];have:wtN (fun _=>False) 0=0:=rfl;rw[this];simp
end
namespace Ap
open Go.ChangeShapes Go.WideShapes Go.ChangeAt Go.RowKit Go.Lib Go.Maps
section
variable{w0 w w':World}{c:Cf}{Q Q':Ix->Part}{la:Nat->Nat}{nl:Nat}{ob:Nat->Nat}{oy:Nat->Oy}{no:Nat}{l:List (Nat×Obj)}
theorem Bd.start(h:Bd w0 w c Q la nl ob oy no [])(hf:Fr [] w w')(hs:∀j,j≠ .de->j≠ .wa->Q' j=Q j)(hok:(Q' .de).Ok w0/\(Q' .wa).Ok w0)(hm:(Q' .de).M w'/\(Q' .wa).M w')(hO:(∀b,(Q' .de).O w' b->w.heap.size<=b)/\∀b,(Q' .wa).O w' b->w.heap.size<=b){mb:Nat}{o:Obj}(hb:w'.heap[mb]? = some o)(hbn:w.heap.size<=mb)(h1:∀b,(Q' .de).O w' b->¬(Q' .wa).O w' b)(h2:¬(Q' .de).O w' mb)(h3:¬(Q' .wa).O w' mb):Bd w0 w' c Q' la nl ob oy no [(mb,o)]:=by
 have h0:w0.heap.size<=w.heap.size:=(Mach.fr h).size;have hin:∀b,(∃p∈[(mb,o)],p.1=b)->b=mb:=fun b ⟨p,hp,e⟩=>by rw[List.mem_singleton.1 hp]at e;exact e.symm
 refine (Mach.step (P':=bQ w0 c Q' la nl ob oy no [(mb,o)]) h (fun i=>i=.st\/i=.de\/i=.wa) hf (by simp) (fun j hj=> ?_) (fun j hj=> ?_) (fun j hj=> ?_) (fun j hj b hb=> ?_) (fun i j b hi hj hbi hbj=> ?_)).1
 .cases j<;>first|rfl|exact absurd (Or.inl rfl) hj|exact absurd (Or.inr (Or.inl rfl)) hj|exact absurd (Or.inr (Or.inr rfl)) hj|exact hs _ (by simp) (by simp)
 .rcases hj with rfl|rfl|rfl
  .exact zpr _ _
  .exact hok.1
  exact hok.2
 .rcases hj with rfl|rfl|rfl
  .intro p hp;rw[List.mem_singleton.1 hp];exact⟨hb,by show w0.heap.size<=mb;omega⟩
  .exact hm.1
  exact hm.2
 .refine Or.inr ?_;rcases hj with rfl|rfl|rfl
  .rw[hin b hb];exact hbn
  .exact hO.1 b hb
  exact hO.2 b hb
 rcases hi with rfl|rfl|rfl<;>rcases hj with rfl|rfl|rfl
 .rfl
 .rw[hin b hbi]at hbj;exact absurd hbj h2
 .rw[hin b hbi]at hbj;exact absurd hbj h3
 .rw[hin b hbj]at hbi;exact absurd hbi h2
 .rfl
 .exact absurd hbj (h1 b hbi)
 .rw[hin b hbj]at hbi;exact absurd hbi h3
 .exact absurd hbi (h1 b hbj)
 rfl
structure Rw(w0 w:World)(c:Cf)(Q:Ix->Part)(la:Nat->Nat)(nl:Nat)(ob:Nat->Nat)(oy:Nat->Oy)(no:Nat)(mb:Nat)(cs:Array Value)(J:Nat)(e:TypeId)(v:Value)(n:Nat)(xs:List Value)(l:List (Nat×Obj)):Prop where
 bd:Bd w0 w c Q la nl ob oy no l
 box:(mb,Obj.cells cs 77 (0,0))∈l
 sz:cs.size=19
 atJ:cs[J]? = some v
 row:RowL l e v n xs
variable{mb:Nat}{cs:Array Value}{J:Nat}{e:TypeId}{o:Option Addr}{n k:Nat}{xs:List Value}
theorem Rw.quiet{v:Value}(h:Rw w0 w c Q la nl ob oy no mb cs J e v n xs l)(hf:Fr [] w w'):Rw w0 w' c Q la nl ob oy no mb cs J e v n xs l:=⟨h.bd.quiet hf,h.box,h.sz,h.atJ,h.row⟩
theorem Rw.cJ{v:Value}(h:Rw w0 w c Q la nl ob oy no mb cs J e v n xs l):w.cell? ⟨mb,J,none⟩=some v:=by rw[h.bd.cell h.box];exact h.atJ
theorem Rw.step(h:Rw w0 w c Q la nl ob oy no mb cs J e (.slice o n k) n xs l)(he:e≠77)(hJ:J<19){u:Value} :
  ∀W g cap w',Fr [] w W->w'.ownsRow 0 e 1 (.slice (some ⟨g,0,none⟩) (n+1) cap) (n+1) (xs++[u])->Went W (.slice o n k) g w' ->
   w'.cell? ⟨mb,J,none⟩=some (.slice o n k)/\w'.frozen? ⟨mb,J,none⟩=false /\
   Hid (∃l' cs',Rw w0 (w'.setCell ⟨mb,J,none⟩ (.slice (some ⟨g,0,none⟩) (n+1) cap)) c Q la nl ob oy no mb cs' J e (.slice (some ⟨g,0,none⟩) (n+1) cap) (n+1) (xs++[u]) l'/\(∀j,j≠J->cs'[j]? = cs[j]?)/\∀b ds t,t≠e->t≠77->(b,Obj.cells ds t (0,0))∈l->(b,Obj.cells ds t (0,0))∈l'):=by
 intro W g cap w' hf hown hw;obtain⟨l2,h2,hr2,hk2⟩:=(h.bd.quiet hf).app h.row hown hw;have hm2:(mb,Obj.cells cs 77 (0,0))∈l2:=hk2 _ _ _ (fun x=>he x.symm) h.box;refine⟨by rw[h2.cell hm2];exact h.atJ,h2.free hm2 J,?_⟩;refine⟨_,_,⟨h2.set hm2 J _,zek _ _ _,by simpa using h.sz,?_,?_⟩,fun j hj=> ?_,fun b ds t ht1 ht2 hm=> ?_⟩
 .rw[Array.getElem?_setIfInBounds_self_of_lt (by rw[h.sz];omega)]
 .exact hr2.mono fun b cur hm=>zel hm (h2.same hm hm2 he)
 .rw[Array.getElem?_setIfInBounds_ne (fun e=>hj e.symm)]
 have hm':=hk2 _ _ _ ht1 hm;exact zel hm' (h2.same hm' hm2 ht2)
theorem zsk(a:Option Addr):∀u∈[Value.pointer a],u.oneCell'=true:=by
 intro u hu;rw[List.mem_singleton]at hu
 subst hu;rfl
theorem Bd.fin{T:List Tx}{Z:Lay}(h:Bd w0 w c Q la c.l.toNat ob oy c.s.toNat l)(hla:Z.z.la=la)(hob:Z.z.ob=ob)(hoy:Z.o=oy)(hS:Z.S=fun _=>[])(hQ:Q .fe=mP w0 c T Z ms0 .fe/\Q .de=mP w0 c T Z ms0 .de/\Q .ga=mP w0 c T Z ms0 .ga/\Q .wa=mP w0 c T Z ms0 .wa/\Q .li=mP w0 c T Z ms0 .li/\Q .pa=mP w0 c T Z ms0 .pa/\Q .re=mP w0 c T Z ms0 .re)(hm:StM c Z.z w)(hown:∀b,St.own c Z.z b->∃q∈l,q.1=b)(hT:txs Z.y.ts=T)(hnd:Z.nd=0)(hnw:Z.nw=0)(hn:∀j,(Z.o j).n=0):MaM w0 w c T Z ms0:=by
 refine⟨(Mach.one (P':=mP w0 c T Z ms0) h .st (stP w0 c Z.z) (Fr.refl [] w) (by simp) (fun j hj=> ?_) rfl (zwq _ _ _) ⟨hm,fun b hb=> ?_⟩ (fun b hb=>Or.inl (hown b hb))).1,hT,Nat.zero_le _,by rw[hnd];exact Nat.zero_le _,by rw[hnw];exact Nat.zero_le _,fun j _=>by rw[hn j];exact Nat.zero_le _⟩
 .obtain⟨q1,q2,q3,q4,q5,q6,q7⟩:=hQ;cases j with
  |st=>exact absurd rfl hj
  |fe=>exact q1.symm
  |de=>exact q2.symm
  |ga=>exact q3.symm
  |wa=>exact q4.symm
  |li=>exact q5.symm
  |pa=>exact q6.symm
  |re=>exact q7.symm
  |la i=>simp only[mP,bQ,hla,hS];rfl
  |ow i=>simp only[mP,bQ,hob,hoy];rfl
 obtain⟨q,hq,e⟩:=hown b hb;rw[<-e];exact (h.ls q hq).2
end
open Classical in
noncomputable def setQ (Q:Ix->Part) (i:Ix) (p:Part):Ix->Part:=fun j=>if j=i then p else Q j
theorem zbc(Q:Ix->Part)(i:Ix)(p:Part):setQ Q i p i=p:=if_pos rfl
theorem zaj(Q:Ix->Part){i j:Ix}(p:Part)(h:j≠i):setQ Q i p j=Q j:=if_neg h
theorem zafx{w0 w:World}{c:Cf}{f g lb L fmb:Nat}{ts:List Tm}{v:Value}(h:F.FdM w0 w f g lb L ts v [] fmb [] ⟨0,0,c.w.toNat,false,false⟩ (.slice none 0 0)):FeM w0 w c f ⟨g,lb,w.heap.size,ts,fmb⟩ v (.slice none 0 0) 0 0 false:=by
 have hs:=h.src;have hL:L=ts.length:=hs.len;subst hL;refine⟨h,h.lt,hs.lt,lt_of_block hs.log,h.mlt,fun t ht k e=> ?_,Nat.le_refl _,fun k e=>(by cases e),fun k e=>(by cases e)⟩;obtain⟨k',e1,_,_,_,e5,_⟩:=hs.each t ht;rw[e]at e1
 cases e1;exact lt_of_block e5
def mcl2(c:Cf)(dk:Option Addr)(f tb wb ab lr pr gb:Nat)(v10 v11 v13:Value):Array Value:=#[.int .i64 c.l,.int .i64 c.s,.int .i64 c.w,.int .i64 c.q,.pointer dk,.pointer (some ⟨f,0,none⟩),.pointer (some ⟨tb,0,none⟩),.map (some wb),.pointer (some ⟨lr,0,none⟩),.pointer (some ⟨pr,0,none⟩),v10,v11,.pointer (some ⟨gb,0,none⟩),v13,.slice none 0 0,.int .i64 0,.map (some ab),.bool false,.bool false]
theorem zaeb(c:Cf)(dk:Option Addr)(f tb wb ab lr pr gb:Nat):(((Mk.mcl c dk f tb wb ab).setIfInBounds 8 (.pointer (some ⟨lr,0,none⟩))).setIfInBounds 9 (.pointer (some ⟨pr,0,none⟩))).setIfInBounds 12 (.pointer (some ⟨gb,0,none⟩))=mcl2 c dk f tb wb ab lr pr gb (.slice none 0 0) (.slice none 0 0) (.slice none 0 0):=rfl
theorem zqp{cs:Array Value}{c:Cf}{dk:Option Addr}{f tb wb ab lr pr gb:Nat}{v10 v11 v13:Value}(hz:cs.size=19)(h10:cs[10]? = some v10)(h11:cs[11]? = some v11)(h13:cs[13]? = some v13)(h:∀j,j≠10->j≠11->j≠13->cs[j]? = (mcl2 c dk f tb wb ab lr pr gb (.slice none 0 0) (.slice none 0 0) (.slice none 0 0))[j]?):cs=mcl2 c dk f tb wb ab lr pr gb v10 v11 v13:=by
 refine Array.ext_getElem? fun j=> ?_;by_cases hj:j<19
 .by_cases h1:j=10
  .subst h1;rw[h10];rfl
  by_cases h2:j=11
  .subst h2;rw[h11];rfl
  by_cases h3:j=13
  .subst h3;rw[h13];rfl
  rw[h j h1 h2 h3];have:j=0\/j=1\/j=2\/j=3\/j=4\/j=5\/j=6\/j=7\/j=8\/j=9\/j=12\/j=14\/j=15\/j=16\/j=17\/j=18:=by omega
  rcases this with rfl|rfl|rfl|rfl|rfl|rfl|rfl|rfl|rfl|rfl|rfl|rfl|rfl|rfl|rfl|rfl<;>rfl
 rw[Array.getElem?_eq_none (by omega),Array.getElem?_eq_none (by show 19<=j;omega)]
section
variable{w0 w:World}{c:Cf}{T:List Tx}{Q:Ix->Part}{la ob:Nat->Nat}{oy:Nat->Oy}{mb lsB osB:Nat}{cs0:Array Value}
theorem zaax{dk:Option Addr}{f tb wb ab lr pr gb lk ok:Nat}{Y:Ly}{v:Value}{B:List Nat}(hc:c.may)(h:SaE w0 c Q la c.l.toNat ob oy c.s.toNat mb lsB osB cs0 w)(h0:cs0=mcl2 c dk f tb wb ab lr pr gb (.slice (some ⟨lsB,0,none⟩) c.l.toNat lk) (.slice (some ⟨osB,0,none⟩) c.s.toNat ok) (.slice none 0 0))(hlk:c.l.toNat<=lk)(hok:c.s.toNat<=ok)(hoy:∀j,(oy j).n=0)(hT:txs Y.ts=T)(q1:Q .fe=feP w0 c f Y v (.slice none 0 0) 0 0 false)(q2:Q .de=deP w0 tb B 0 [] (fun _=>False))(q3:Q .ga=gaP w0 gb 0 [])(q4:Q .wa=waP w0 wb 0 T (fun _=>0) (fun _=>False))(q5:Q .li=liP w0 lr none c.w.toNat T (fun _=>0) [])(q6:Q .pa=paP w0 pr none c.w.toNat [])(q7:Q .re=reP w0 T (fun _=>0) 0) :
  ∃Z:Lay,Z.z.mb=mb/\MaM w0 w c T Z ms0/\Z.nr=0:=by
 obtain⟨l,cs,xs,so,k,kd,kw,kk,kg,hS,hF,hg⟩:=h;have hrow:=hS.row;obtain⟨orB,orC,cur,e1,e2,e3,e4⟩:=hrow.cells (by omega);cases e1;have hlen:=hF.len;have hcs:cs=mcl2 c dk f tb wb ab lr pr gb (.slice (some ⟨lsB,0,none⟩) c.l.toNat lk) (.slice (some ⟨osB,0,none⟩) c.s.toNat ok) (.slice (some ⟨orB,0,none⟩) (1+c.l.toNat+c.s.toNat+1) k):=by
  refine zqp hS.sz ?_ ?_ hS.at13 fun j h1 h2 h3=> ?_
  .rw[hF.hc 10 (by decide),h0];rfl
  .rw[hF.hc 11 (by decide),h0];rfl
  rw[hF.hc j h3,h0];by_cases hj:j<19
  .have:j=0\/j=1\/j=2\/j=3\/j=4\/j=5\/j=6\/j=7\/j=8\/j=9\/j=12\/j=14\/j=15\/j=16\/j=17\/j=18:=by omega
   rcases this with rfl|rfl|rfl|rfl|rfl|rfl|rfl|rfl|rfl|rfl|rfl|rfl|rfl|rfl|rfl|rfl<;>rfl
  rw[Array.getElem?_eq_none (by show 19<=j;omega),Array.getElem?_eq_none (by show 19<=j;omega)]
 obtain⟨curL,l1,l2⟩:=hF.lr;obtain⟨curO,o1,o2⟩:=hF.wr;have en:1+c.l.toNat+c.s.toNat+1=c.l.toNat+c.s.toNat+2:=by omega
 rw[en]at hcs e3 e4
 let Z:Lay:=⟨⟨mb,f,tb,gb,wb,lr,pr,ab,lsB,osB,orB,lk,ok,k,kd,kg,la,ob,kw,kk,dk⟩,Y,v,.slice none 0 0,B,none,none,fun _=>0,fun _=>[],oy,0,0,0⟩
 have hm:StM c Z.z w:=by
  refine⟨hc,?_,⟨curL,hS.bd.at l1,l2⟩,⟨curO,hS.bd.at o1,o2⟩,⟨cur,hS.bd.at e2,fun i hi=> ?_⟩,hS.bd.at hF.hd,fun i hi=>hS.bd.at (hF.hw i hi),fun j hj=>hS.bd.at (hF.hk j hj),?_,hlk,hok,e3⟩
  .have:=hS.bd.at hS.box;rw[hcs]at this
   exact this
  .rw[e4 i (by omega)];by_cases hi2:i<1+c.l.toNat+c.s.toNat
   .rw[List.getElem?_append_left (by omega),hF.ht i hi2];simp only[tv,zbf];by_cases h1:i=0
    .rw[if_pos h1,if_pos h1]
    rw[if_neg h1,if_neg h1];by_cases h2:i<=c.l.toNat
    .rw[if_pos h2,if_pos h2]
    rw[if_neg h2,if_neg h2,if_pos (by omega)]
   have hi3:i=1+c.l.toNat+c.s.toNat:=by omega
   rw[List.getElem?_append_right (by omega),hlen,hi3,Nat.sub_self];simp only[zbf];rw[if_neg (by omega),if_neg (by omega),if_neg (by omega)];rfl
  have:=hS.bd.at hg;have e5:1+c.l.toNat+c.s.toNat=c.l.toNat+c.s.toNat+1:=by omega
  rw[e5]at this
  exact this
 refine⟨Z,rfl,Bd.fin (Q:=Q) (la:=la) (ob:=ob) (oy:=oy) (l:=l) hS.bd rfl rfl rfl rfl ⟨q1,q2,q3,q4,q5,q6,q7⟩ hm (fun b hb=> ?_) hT rfl rfl hoy,rfl⟩;rcases hb with rfl|rfl|rfl|rfl|rfl|rfl|⟨i,hi,rfl⟩|⟨j,hj,rfl⟩
 .exact⟨_,hS.box,rfl⟩
 .exact⟨_,l1,rfl⟩
 .exact⟨_,o1,rfl⟩
 .exact⟨_,e2,rfl⟩
 .exact⟨_,hF.hd,rfl⟩
 .exact⟨_,hg,rfl⟩
 .exact⟨_,hF.hw i hi,rfl⟩
 exact⟨_,hF.hk j hj,rfl⟩
end
end Ap
end Go.Proofs.YtakbodlicfmkjaaGreat
