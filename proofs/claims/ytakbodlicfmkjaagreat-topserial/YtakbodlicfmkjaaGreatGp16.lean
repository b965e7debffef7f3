/- Contracts and lemmas. -/
import Derived.Test.YtakbodlicfmkjaaGreatGp12
set_option maxHeartbeats 16000000
set_option maxRecDepth 100000
set_option linter.unusedSimpArgs false
set_option linter.unusedVariables false
namespace Go.Proofs.YtakbodlicfmkjaaGreat.O
open Go.ChangeShapes Go.WideShapes Go.ChangeAt Go.RowKit Go.Lib
theorem zte(w0 w:World)(ty:TypeId)(ro:Option Addr)(N rc:Nat)(qs:List Vn)(hO:VOut w0 w ro N rc qs)(ad:Addr)(c:Nat)(x:Vn)(hnews:∀j u,(vnC x)[j]? = some u->w.cell? (ad.add j)=some u)(hb:N<2199023255552)(hs:w0.heap.size<=w.heap.size) :
  ∃ro' rc' w',(Builtin.append_ #[124,124] ty #[.slice ro N rc,.slice (some ad) 1 c]).run Tryz.prog w=.ok (.slice ro' (N+1) rc') w'/\VOut w0 w' ro' (N+1) rc' (qs++[x])/\Fr (Value.slice ro N rc).ownBlock.toList w w':=by
 obtain⟨i0,hi,hz0,hz1,hz2⟩:=zcq;obtain⟨rf,hrf,hown⟩:=hO.own;have hlen:N+1=(qs++[x]).length:=by rw[List.length_append,<-hO.len];rfl
 have hcells:vnsC (qs++[x])=vnsC qs++vnC x:=by rw[zgu];simp[vnsC]
 have h1c:∀u∈vnC x,u.oneCell'=true:=by
  intro u hu;simp only[vnC,List.mem_cons,List.not_mem_nil,or_false]at hu;rcases hu with rfl|rfl|rfl<;>rfl
 have hmx:N+1<=maxLen:=by unfold maxLen;omega
 obtain⟨v',w',hr,h2,h3,h4⟩:=run_append_own (P:=Tryz.prog) w w0.heap.size 124 ty 128 i0 _ 3 32 Tryz.undVns' hi hz0 hz1 hz2 rfl (by decide) (.slice ro N rf) N (vnsC qs) hown ad 1 c (vnC x) rfl hnews h1c hmx (by omega) hs;rcases hown.2 with⟨hv,hn⟩|⟨g,cap,cur,hv,hbg,hg,hnc,hcm,hcs,htake⟩
 .cases hv;obtain rfl:rc=0:=by omega
  obtain⟨ro',rc',rfl⟩:=zfd h2;exact⟨ro',rc',w',hr,⟨⟨rc',Nat.le_refl _,by rw[hcells];exact h2⟩,hlen,zmd h2⟩,Fr.grown h3 (fun y hy _=>by simp[Value.ownBlock]at hy)⟩
 cases hv;by_cases hroom:N+1<=rc
 .have hfit:N*i0.size+(vnC x).length<=cur.size:=by rw[hz1,hcs];simp only[vnC,List.length_cons,List.length_nil];omega
  have hA:=run_append_room (P:=Tryz.prog) w 124 ty 128 i0 Tryz.undVns' hi g N rc cur hg ad 1 c (vnC x) (by rw[hz1];rfl) hnews h1c hroom hfit;have hB:=run_append_room (P:=Tryz.prog) w 124 ty 128 i0 Tryz.undVns' hi g N rf cur hg ad 1 c (vnC x) (by rw[hz1];rfl) hnews h1c (by omega) hfit;rw[hr]at hB
  injection hB with e1 e2;rw[e1,e2]at h2
  refine⟨_,_,_,hA,⟨⟨rf,hrf,by rw[hcells];exact h2⟩,hlen,hroom⟩,?_⟩;rw[e2]at h3
  exact Fr.grown h3 (fun y hy _=>by simpa[Value.ownBlock]using hy.symm)
 have holds:∀j u,(vnsC qs)[j]? = some u->w.cell? ((⟨g,0,none⟩:Addr).add j)=some u:=hown.cells (g:=g) rfl;have hA:=run_append_grow (P:=Tryz.prog) w 124 ty 128 i0 _ Tryz.undVns' hi hz0 ⟨g,0,none⟩ N rc (vnsC qs) (by rw[hz1];exact hown.1) holds ad 1 c (vnC x) (by rw[hz1];rfl) hnews (by omega) (by omega) (by rw[hz2];exact growslice_fits (by omega) (by omega));have hGn:N+1<=grownCap w (N+1) rc 128:=grownCap_ge w _ _ _;have hGm:=grownCap_le_maxLen w (N+1) rc 128 hmx;refine⟨_,_,_,hA,VOut.of ?_ hlen,(Fr.drew _ _).then (Fr.alloc _ _ _)⟩;rw[hcells];refine⟨by rw[<-hcells,zbp,<-hlen],.inr ⟨w.heap.size,_,_,rfl,hs,heap_alloc_new w.drew _,hGn,hGm,?_,?_⟩⟩
 .have e1:(vnsC qs).length=N*3:=hown.1;simp only[Array.size_append,size_zeroCells,Value.cells,List.size_toArray,e1,vnC,List.length_cons,List.length_nil];omega
 have e1:(vnsC qs++vnC x).length=(N+1)*3:=by rw[<-hcells,zbp,<-hlen]
 rw[Array.toList_append,Array.toList_append,List.take_append_of_le_length (by simp only[List.length_append]at e1 ⊢;omega),List.take_of_length_le (by simp only[List.length_append]at e1 ⊢;omega)]
theorem zez(w0 w:World){ops:Array Oper}{rest:List Oper}{o:Oper}{a:Act}{Q:Exit->Act->World->Prop}(hgd:o.guard=none)(s x:Operand)(ho:o.op=.call {callee:=.builtin .append,args:=#[s,x],argTypes:=#[124,124]})(ro:Option Addr)(N rc:Nat)(qs:List Vn)(hs:a.eval s=.slice ro N rc)(hO:VOut w0 w ro N rc qs)(ad:Addr)(c:Nat)(v:Vn)(hx:a.eval x=.slice (some ad) 1 c)(hnews:∀j u,(vnC v)[j]? = some u->w.cell? (ad.add j)=some u)(hb:N<2199023255552)(hsz:w0.heap.size<=w.heap.size)(h:∀ro' rc' w',VOut w0 w' ro' (N+1) rc' (qs++[v])->Fr (Value.slice ro N rc).ownBlock.toList w w'->wpList Tryz.prog ops Q rest (a.put o.dst (.slice ro' (N+1) rc')) w'):wpList Tryz.prog ops Q (o::rest) a w:=by
 refine wpList_plain hgd fun K hK=> ?_;obtain⟨ro',rc',w',hr,h2,h3⟩:=zte w0 w o.type ro N rc qs hO ad c v hnews hb hsz;unfold Oper.wp execOp;simp only[ho,resolve,invoke,builtin,Sem.run_bind,Sem.run_pure,Result.andThen_ok,List.map_toArray,List.map_cons,List.map_nil,hs,hx,hr];exact hK _ _ (h ro' rc' w' h2 h3)
theorem VOut.blk{w0 w:World}{ro:Option Addr}{N rc:Nat}{qs:List Vn}(h:VOut w0 w ro N rc qs):∀k∈(Value.slice ro N rc).ownBlock.toList,w0.heap.size<=k/\∃cur,w.heap[k]? = some (.cells cur 128 (0,0)):=by
 intro k hk;obtain⟨rf,_,hown⟩:=h.own;rcases hown.2 with⟨hv,_⟩|⟨g,cap,cur,hv,hb,hg,_⟩
 .cases hv;simp[Value.ownBlock]at hk
 cases hv;simp[Value.ownBlock]at hk
 subst hk;exact⟨hb,cur,hg⟩
theorem VOut.keepS{S:List Nat}{w0 w w':World}{ro:Option Addr}{N rc:Nat}{qs:List Vn}(h:VOut w0 w ro N rc qs)(hf:Fr S w w')(hn:∀k∈(Value.slice ro N rc).ownBlock.toList,k∉S):VOut w0 w' ro N rc qs:=by
 obtain⟨rf,hr,hown⟩:=h.own;refine⟨⟨rf,hr,hown.1,?_⟩,h.len,h.cap⟩;rcases hown.2 with hh|⟨g,cap,cur,hv,hb,hg,rest⟩
 .exact .inl hh
 cases hv;exact .inr ⟨g,rf,cur,rfl,hb,hf.keep hg (hn g (by simp[Value.ownBlock])),rest⟩
def headD(vs:List Vn)(d:Nat):List Vn:=if 0<d/\(vs.getD (d-1) Vn.zero).drop=false then [vs.getD (d-1) Vn.zero] else []
def zvl(vs:List Vn)(k:Int)(ns:List Int)(us:List Vn)(c:Nat):Prop:=(c=1/\¬okV vs/\us=[])\/(c=0/\okV vs/\∃d,UpTo vs k d/\us=headD vs d++(vs.drop d).filter fun v=>decide (v.num∈ns))
theorem zix(vs:List Vn)(ns:List Int)(i:Nat)(hi:i<vs.length):(vs.take (i+1)).filter (fun v=>decide (v.num∈ns))=(vs.take i).filter (fun v=>decide (v.num∈ns))++if (vs.getD i Vn.zero).num∈ns then [vs.getD i Vn.zero] else []:=by
 rw[zlh vs i hi,List.filter_append]
 congr 1
 by_cases h:(vs.getD i Vn.zero).num∈ns
 .rw[if_pos h,List.filter_cons_of_pos (by simpa using h)];rfl
 rw[if_neg h,List.filter_cons_of_neg (by simpa using h)];rfl
structure DI(w wr:World)(ro:Option Addr)(N rc g m:Nat)(vs:List Vn)(d:Nat)(ns:List Int)(i:Nat):Prop where
 fr:Fr [] w wr
 kept:VOut w wr ro N rc (headD vs d++((vs.drop d).take i).filter fun v=>decide (v.num∈ns))
 bools:BRow wr g m (mkB (vs.drop d) ns)
theorem zyy(ao:Option Addr)(L cap:Nat)(k:Int)(vs:List Vn)(bo:Option Addr)(M cb:Nat)(ns:List Int)(w:World)(hV:VRs w ao vs)(hL:L=vs.length)(hcap:L<=cap)(hN:IRs w bo ns)(hM:M=ns.length) :
  Calls Tryz.prog 325 #[.slice ao L cap,.int .i64 k,.slice bo M cb] w fun e w'=>∃ro N rc us c,e=.returned (.tuple #[.slice ro N rc,.int .i64 ((c:Nat):Int)])/\zvl vs k ns us c/\VOut w w' ro N rc us/\Fr [] w w':=by
 have HV:Hid (∀W,Fr [] w W->VRs W ao vs/\IRs W bo ns):=fun W hf=>⟨hV.keep hf,hN.keep hf⟩;have HL:Hid (L=vs.length/\M=ns.length):=⟨hL,hM⟩;have hLL:L<=4398046511104:=by have:=hV.few;omega
 obtain⟨c,hck⟩:=CkT.ex vs;have HC:Hid (Calls ..):=zbo ao L cap c vs w hV hL hck;clear hV hL hN hM;rcases hck with⟨rfl,hok⟩|⟨rfl,hok⟩
 .have HO:Hid (okV vs):=hok;have hL2:L<=65536:=by have:=zdp hok;have:=HL.out.1;omega
  clear hok;go_enter Tryz.func325,Tryz.ntmps325;go_wp2_with fail
  refine Calls.mono HC.out ?_;rintro e w1⟨rfl,hF1⟩;have HU:Hid (Calls ..):=zfr ao L cap k vs w1 (HV.out _ hF1).1 HL.out.1 HO.out.2;clear HC;go_wp2_with fail
  refine Calls.mono HU.out ?_;rintro e w2⟨d,rfl,hd,hF2⟩;have hG2:=hF1.then hF2;have hdL:d<=L:=by have:=hd.le;have:=HL.out.1;omega
  have HD:Hid (UpTo vs k d):=hd;clear HU hd hF1 hF2;have s2:∀W,(Instr.sliceAt 124 (.slice ao L cap) (some (.int .i64 (d:Int))) none none).run Tryz.prog W=.ok (.slice (zbj ao cap d) (L-d) (cap-d)) W:=zabf ao L cap d hdL;have HNm:Hid (∀W,Fr [] w W->Calls Tryz.prog 329 #[.slice (zbj ao cap d) (L-d) (cap-d),.slice bo M cb] W fun e w'=>∃g,e=.returned (.slice (some ⟨g,0,none⟩) (L-d) (L-d))/\W.heap.size<=g/\BRow w' g (L-d) (mkB (vs.drop d) ns)/\Fr [] W w'):=fun W hf=>by
   have t2:VRs W (zbj ao cap d) (vs.drop d):=by
    have:=(HV.out _ hf).1.from cap d L hdL (by have:=HL.out.1;omega) (by have:=HL.out.1;omega)
    rwa [List.take_of_length_le (by rw[List.length_drop];have:=HL.out.1;omega)]at this
   exact zvk (zbj ao cap d) (L-d) (cap-d) (vs.drop d) bo M cb ns W t2 (by rw[List.length_drop,<-HL.out.1]) (zoo HO.out d).2 (HV.out _ hf).2 HL.out.2
  obtain⟨fo,hfo⟩:∃fo,fo=zbj ao cap d:=⟨_,rfl⟩;obtain⟨m,hm⟩:∃m,m=L-d:=⟨_,rfl⟩;obtain⟨cm,hcm⟩:∃cm,cm=cap-d:=⟨_,rfl⟩;rw[<-hfo,<-hm,<-hcm]at HNm s2
  have HM:Hid (m=(vs.drop d).length):=by show _=_;rw[List.length_drop,<-HL.out.1];exact hm
  have hmL:d+m=L:=by omega
  have hm2:m<=65536:=by omega
  have HmL:Hid (d+m=L):=hmL;clear hfo hm hcm hmL;by_cases h0:d=0
  .have hd0:(d:Int)<=0:=by omega
   have HP:Hid (Calls ..):=zht ao L cap d d vs w2 (HV.out _ hG2).1 HL.out.1 hcap (Nat.le_refl _) hdL;have Hh0:Hid (d=0):=h0;clear h0;go_wp2_with fail
   refine Calls.mono HP.out ?_;rintro e w3⟨ro,rfl,hO,hF3⟩;have hG3:=hG2.then hF3;obtain⟨N0,hN0⟩:∃N0,N0=d-d:=⟨_,rfl⟩;have e0:(vs.drop d).take (d-d)=[]:=by simp
   rw[e0]at hO
   rw[<-hN0]at hO ⊢
   have hO3:VOut w w3 ro N0 N0 (headD vs d):=by unfold headD;rw[if_neg (fun h=>by have:=Hh0.out;omega)];exact hO.later hG2.size
   have hN1:N0<=1:=by omega
   clear HP hO hF3 hN0 e0;have HN3:Hid (Calls ..):=HNm.out w3 hG3;clear HNm;go_wp2_with fail
   refine Calls.mono HN3.out ?_;rintro e w4⟨g,rfl,hgs,hB4,hF4⟩;have hG4:=hG3.then hF4;have HD0:Hid (DI w w4 ro N0 N0 g m vs d ns 0):=⟨hG4,by simpa using hO3.keepS hF4 (by simp),hB4⟩;clear HN3 hO3 hF4 hB4 hgs s2;go_wp2_with fail
   go_loopw [11,46] (fun kk ii wr=>∃(ro:Option Addr)(N rc i:Nat),kk=.slice ro N rc/\ii=.int .i64 i/\i<=m/\N<=1+i/\Hid (DI w wr ro N rc g m vs d ns i)) (fun _ ii _=>m-(RowKit.intOf ii).toNat)
   case atStart=>exact⟨ro,N0,N0,0,rfl,rfl,Nat.zero_le _,by omega,HD0⟩
   obtain⟨ro,N,rc,i,rfl,rfl,him,hNi,HI⟩:=hrel;by_cases hi:i<m
   .have hi':i<(vs.drop d).length:=by rw[<-HM.out];exact hi
    have cb:=HI.out.bools.cell (zfo (vs.drop d) ns i hi');have hst:=zix (vs.drop d) ns i hi';rw[zgd]at cb hst
    have hdi:d+i<vs.length:=by have:=HL.out.1;have:=HmL.out;omega
    have hdiL:(d:Int)+(i:Int)<L:=by have:=HmL.out;omega
    obtain⟨b,off,rfl,hbl,hat⟩:=(HV.out _ HI.out.fr).1.lies (by omega);obtain⟨c0,c1,c2⟩:=hat (d+i) hdi;obtain⟨x,hx⟩:∃x,x=vs.getD (d+i) Vn.zero:=⟨_,rfl⟩;rw[<-hx]at cb hst c0 c1 c2
    by_cases hin:x.num∈ns
    .rw[decide_eq_true hin]at cb
     rw[if_pos hin]at hst
     have HSt:Hid (_=_):=hst;have hsz:w.heap.size<=wr.heap.size:=HI.out.fr.size;have HOa:Hid (VOut w (wr.alloc (.cells #[.int .i64 x.num,.string x.val,.bool x.drop] 128)) ro N rc (headD vs d++((vs.drop d).take i).filter fun v=>decide (v.num∈ns))):=HI.out.kept.keepS (Fr.alloc [] _ _) (by simp);have HNe:Hid (∀j u,(vnC x)[j]? = some u->(wr.alloc (.cells #[.int .i64 x.num,.string x.val,.bool x.drop] 128)).cell? ((⟨wr.heap.size,0,none⟩:Addr).add j)=some u):=by
      intro j u hu;rw[Addr.add_lit,World.cell?_alloc_at _ _ _ _ (by simp)];simpa[vnC]using hu
     have HFa:Hid (Fr [] w (wr.alloc (.cells #[.int .i64 x.num,.string x.val,.bool x.drop] 128))):=HI.out.fr.then (Fr.alloc [] _ _);have HBa:Hid (BRow (wr.alloc (.cells #[.int .i64 x.num,.string x.val,.bool x.drop] 128)) g m (mkB (vs.drop d) ns)):=HI.out.bools.keep (Fr.alloc [] _ _) (by simp);clear HI hst hat hx hin;go_upto_region 13 with fail
     go_wp2_with (
      at_builtin;refine zez w _ rfl _ _ rfl ro N rc _ rfl HOa.out ⟨wr.heap.size,0,none⟩ 1 x rfl HNe.out (by omega) (by have:=HFa.out.size;omega) ?_
      intro ro' rc' W' hO' hF';have HI5:Hid (DI w W' ro' (N+1) rc' g m vs d ns (i+1)):=⟨HFa.out.on hF' (fun y hy=>(HOa.out.blk y hy).1),by rw[HSt.out,<-List.append_assoc];exact hO',HBa.out.keep hF' (fun hm=>by
       obtain⟨cur,h1⟩:=(HOa.out.blk g hm).2;obtain⟨cur',h2,_⟩:=HBa.out.row;rw[h1]at h2
       cases h2)⟩
      clear hO' hF';go_frame)
     exact⟨⟨ro',N+1,rc',i+1,rfl,by simp,by omega,by omega,HI5⟩,by simp[RowKit.intOf];omega⟩
    rw[decide_eq_false hin]at cb
    rw[if_neg hin,List.append_nil]at hst
    have HI5:Hid (DI w wr ro N rc g m vs d ns (i+1)):=⟨HI.out.fr,by rw[hst];exact HI.out.kept,HI.out.bools⟩;clear HI hst hat hx hin c0 c1 c2;go_wp2;exact⟨⟨ro,N,rc,i+1,rfl,by simp,by omega,by omega,HI5⟩,by simp[RowKit.intOf];omega⟩
   have HE:Hid (VOut w wr ro N rc (headD vs d++(vs.drop d).filter fun v=>decide (v.num∈ns))):=by
    have:=HI.out.kept;rw[List.take_of_length_le (by rw[<-HM.out];omega)]at this
    exact this
   have hFz:=HI.out.fr;clear HI;go_wp2;refine bodyPost_ret (results_tmp2 rfl _ _ _) rfl ?_;exact⟨ro,N,rc,_,0,rfl,Or.inr ⟨rfl,HO.out,d,HD.out,rfl⟩,HE.out,hFz⟩
  obtain⟨d',hd'⟩:∃d',d=d'+1:=⟨d-1,by omega⟩;have hd1:(d:Int)-1=(d':Int):=by omega
  have hdpos:(d:Int)>0:=by omega
  have hdp2:d'<L:=by omega
  obtain⟨b,off,rfl,hbl,hat⟩:=(HV.out _ hG2).1.lies (by have:=HL.out.1;omega);have c2:=(hat d' (by have:=HL.out.1;omega)).c2;obtain⟨dr,hdr⟩:∃dr,dr=(vs.getD d' Vn.zero).drop:=⟨_,rfl⟩;rw[<-hdr]at c2
  have HDr:Hid (dr=(vs.getD (d-1) Vn.zero).drop):=by show _=_;rw[hdr,hd',Nat.add_sub_cancel]
  have HSn:Hid ((vs.drop d').take (d-d')=[vs.getD (d-1) Vn.zero]):=by
   show _=_;have e:d-d'=1:=by omega
   have hl:d'<vs.length:=by have:=HL.out.1;omega
   rw[e,List.drop_eq_getElem_cons hl,List.take_succ_cons,List.take_zero,hd',Nat.add_sub_cancel];simp[List.getD,hl]
  have HP:Hid (∀f,f<=d->Calls Tryz.prog 328 #[.slice (some ⟨b,off,none⟩) L cap,.int .i64 ((f:Nat):Int),.int .i64 (d:Int)] w2 fun e w'=>∃ro,e=.returned (.slice ro (d-f) (d-f))/\VOut w2 w' ro (d-f) (d-f) ((vs.drop f).take (d-f))/\Fr [] w2 w'):=fun f hf=>zht _ L cap f d vs w2 (HV.out _ hG2).1 HL.out.1 hcap hf hdL;have HDd:Hid (d=d'+1):=hd';clear hat hdr hd' h0;cases dr with
  |false=>
   have HP2:Hid (Calls ..):=HP.out d' (by have:=HDd.out;omega);clear HP;go_wp2_with fail
   refine Calls.mono HP2.out ?_;rintro e w3⟨ro,rfl,hO,hF3⟩;have hG3:=hG2.then hF3;obtain⟨N0,hN0⟩:∃N0,N0=d-d':=⟨_,rfl⟩;rw[HSn.out]at hO
   rw[<-hN0]at hO ⊢
   have hO3:VOut w w3 ro N0 N0 (headD vs d):=by unfold headD;rw[if_pos ⟨by omega,HDr.out.symm⟩];exact hO.later hG2.size
   have hN1:N0<=1:=by have:=HDd.out;omega
   clear HP2 hO hF3 hN0 HSn HDr c2;have HN3:Hid (Calls ..):=HNm.out w3 hG3;clear HNm;go_wp2_with fail
   refine Calls.mono HN3.out ?_;rintro e w4⟨g,rfl,hgs,hB4,hF4⟩;have hG4:=hG3.then hF4;have HD0:Hid (DI w w4 ro N0 N0 g m vs d ns 0):=⟨hG4,by simpa using hO3.keepS hF4 (by simp),hB4⟩;clear HN3 hO3 hF4 hB4 hgs s2;go_wp2_with fail
   go_loopw [11,46] (fun kk ii wr=>∃(ro:Option Addr)(N rc i:Nat),kk=.slice ro N rc/\ii=.int .i64 i/\i<=m/\N<=1+i/\Hid (DI w wr ro N rc g m vs d ns i)) (fun _ ii _=>m-(RowKit.intOf ii).toNat)
   case atStart=>exact⟨ro,N0,N0,0,rfl,rfl,Nat.zero_le _,by omega,HD0⟩
   case round=>
    obtain⟨ro,N,rc,i,rfl,rfl,him,hNi,HI⟩:=hrel;by_cases hi:i<m
    .have hi':i<(vs.drop d).length:=by rw[<-HM.out];exact hi
     have cb:=HI.out.bools.cell (zfo (vs.drop d) ns i hi');have hst:=zix (vs.drop d) ns i hi';rw[zgd]at cb hst
     have hdi:d+i<vs.length:=by have:=HL.out.1;have:=HmL.out;omega
     have hdiL:(d:Int)+(i:Int)<L:=by have:=HmL.out;omega
     obtain⟨b2,off2,e2,hbl2,hat⟩:=(HV.out _ HI.out.fr).1.lies (by omega);obtain⟨c0,c1,c2⟩:=hat (d+i) hdi;cases e2;obtain⟨x,hx⟩:∃x,x=vs.getD (d+i) Vn.zero:=⟨_,rfl⟩;rw[<-hx]at cb hst c0 c1 c2
     by_cases hin:x.num∈ns
     .rw[decide_eq_true hin]at cb
      rw[if_pos hin]at hst
      have HSt:Hid (_=_):=hst;have hsz:w.heap.size<=wr.heap.size:=HI.out.fr.size;have HOa:Hid (VOut w (wr.alloc (.cells #[.int .i64 x.num,.string x.val,.bool x.drop] 128)) ro N rc (headD vs d++((vs.drop d).take i).filter fun v=>decide (v.num∈ns))):=HI.out.kept.keepS (Fr.alloc [] _ _) (by simp);have HNe:Hid (∀j u,(vnC x)[j]? = some u->(wr.alloc (.cells #[.int .i64 x.num,.string x.val,.bool x.drop] 128)).cell? ((⟨wr.heap.size,0,none⟩:Addr).add j)=some u):=by
       intro j u hu;rw[Addr.add_lit,World.cell?_alloc_at _ _ _ _ (by simp)];simpa[vnC]using hu
      have HFa:Hid (Fr [] w (wr.alloc (.cells #[.int .i64 x.num,.string x.val,.bool x.drop] 128))):=HI.out.fr.then (Fr.alloc [] _ _);have HBa:Hid (BRow (wr.alloc (.cells #[.int .i64 x.num,.string x.val,.bool x.drop] 128)) g m (mkB (vs.drop d) ns)):=HI.out.bools.keep (Fr.alloc [] _ _) (by simp);clear HI hst hat hx hin;go_upto_region 13 with fail
      go_wp2_with (
       at_builtin;refine zez w _ rfl _ _ rfl ro N rc _ rfl HOa.out ⟨wr.heap.size,0,none⟩ 1 x rfl HNe.out (by omega) (by have:=HFa.out.size;omega) ?_
       intro ro' rc' W' hO' hF';have HI5:Hid (DI w W' ro' (N+1) rc' g m vs d ns (i+1)):=⟨HFa.out.on hF' (fun y hy=>(HOa.out.blk y hy).1),by rw[HSt.out,<-List.append_assoc];exact hO',HBa.out.keep hF' (fun hm=>by
        obtain⟨cur,h1⟩:=(HOa.out.blk g hm).2;obtain⟨cur',h2,_⟩:=HBa.out.row;rw[h1]at h2
        cases h2)⟩
       clear hO' hF';go_frame)
      exact⟨⟨ro',N+1,rc',i+1,rfl,by simp,by omega,by omega,HI5⟩,by simp[RowKit.intOf];omega⟩
     rw[decide_eq_false hin]at cb
     rw[if_neg hin,List.append_nil]at hst
     have HI5:Hid (DI w wr ro N rc g m vs d ns (i+1)):=⟨HI.out.fr,by rw[hst];exact HI.out.kept,HI.out.bools⟩;clear HI hst hat hx hin c0 c1 c2;go_wp2;exact⟨⟨ro,N,rc,i+1,rfl,by simp,by omega,by omega,HI5⟩,by simp[RowKit.intOf];omega⟩
    .have HE:Hid (VOut w wr ro N rc (headD vs d++(vs.drop d).filter fun v=>decide (v.num∈ns))):=by
      have:=HI.out.kept;rw[List.take_of_length_le (by rw[<-HM.out];omega)]at this
      exact this
     have hFz:=HI.out.fr;clear HI;go_wp2;refine bodyPost_ret (results_tmp2 rfl _ _ _) rfl ?_;exact⟨ro,N,rc,_,0,rfl,Or.inr ⟨rfl,HO.out,d,HD.out,rfl⟩,HE.out,hFz⟩
  |true=>
   have HP2:Hid (Calls ..):=HP.out d (Nat.le_refl _);clear HP;go_wp2_with fail
   refine Calls.mono HP2.out ?_;rintro e w3⟨ro,rfl,hO,hF3⟩;have hG3:=hG2.then hF3;obtain⟨N0,hN0⟩:∃N0,N0=d-d:=⟨_,rfl⟩;have e0:(vs.drop d).take (d-d)=[]:=by simp
   rw[e0]at hO
   rw[<-hN0]at hO ⊢
   have hO3:VOut w w3 ro N0 N0 (headD vs d):=by unfold headD;rw[if_neg (fun h=>by have:=HDr.out;rw[h.2]at this;cases this)];exact hO.later hG2.size
   have hN1:N0<=1:=by omega
   clear HP2 hO hF3 hN0 HSn HDr c2 e0;have HN3:Hid (Calls ..):=HNm.out w3 hG3;clear HNm;go_wp2_with fail
   refine Calls.mono HN3.out ?_;rintro e w4⟨g,rfl,hgs,hB4,hF4⟩;have hG4:=hG3.then hF4;have HD0:Hid (DI w w4 ro N0 N0 g m vs d ns 0):=⟨hG4,by simpa using hO3.keepS hF4 (by simp),hB4⟩;clear HN3 hO3 hF4 hB4 hgs s2;go_wp2_with fail
   go_loopw [11,46] (fun kk ii wr=>∃(ro:Option Addr)(N rc i:Nat),kk=.slice ro N rc/\ii=.int .i64 i/\i<=m/\N<=1+i/\Hid (DI w wr ro N rc g m vs d ns i)) (fun _ ii _=>m-(RowKit.intOf ii).toNat)
   case atStart=>exact⟨ro,N0,N0,0,rfl,rfl,Nat.zero_le _,by omega,HD0⟩
   obtain⟨ro,N,rc,i,rfl,rfl,him,hNi,HI⟩:=hrel;by_cases hi:i<m
   .have hi':i<(vs.drop d).length:=by rw[<-HM.out];exact hi
    have cb:=HI.out.bools.cell (zfo (vs.drop d) ns i hi');have hst:=zix (vs.drop d) ns i hi';rw[zgd]at cb hst
    have hdi:d+i<vs.length:=by have:=HL.out.1;have:=HmL.out;omega
    have hdiL:(d:Int)+(i:Int)<L:=by have:=HmL.out;omega
    obtain⟨b2,off2,e2,hbl2,hat⟩:=(HV.out _ HI.out.fr).1.lies (by omega);obtain⟨c0,c1,c2⟩:=hat (d+i) hdi;cases e2;obtain⟨x,hx⟩:∃x,x=vs.getD (d+i) Vn.zero:=⟨_,rfl⟩;rw[<-hx]at cb hst c0 c1 c2
    by_cases hin:x.num∈ns
    .rw[decide_eq_true hin]at cb
     rw[if_pos hin]at hst
     have HSt:Hid (_=_):=hst;have hsz:w.heap.size<=wr.heap.size:=HI.out.fr.size;have HOa:Hid (VOut w (wr.alloc (.cells #[.int .i64 x.num,.string x.val,.bool x.drop] 128)) ro N rc (headD vs d++((vs.drop d).take i).filter fun v=>decide (v.num∈ns))):=HI.out.kept.keepS (Fr.alloc [] _ _) (by simp);have HNe:Hid (∀j u,(vnC x)[j]? = some u->(wr.alloc (.cells #[.int .i64 x.num,.string x.val,.bool x.drop] 128)).cell? ((⟨wr.heap.size,0,none⟩:Addr).add j)=some u):=by
      intro j u hu;rw[Addr.add_lit,World.cell?_alloc_at _ _ _ _ (by simp)];simpa[vnC]using hu
     have HFa:Hid (Fr [] w (wr.alloc (.cells #[.int .i64 x.num,.string x.val,.bool x.drop] 128))):=HI.out.fr.then (Fr.alloc [] _ _);have HBa:Hid (BRow (wr.alloc (.cells #[.int .i64 x.num,.string x.val,.bool x.drop] 128)) g m (mkB (vs.drop d) ns)):=HI.out.bools.keep (Fr.alloc [] _ _) (by simp);clear HI hst hat hx hin;go_upto_region 13 with fail
     go_wp2_with (
      at_builtin;refine zez w _ rfl _ _ rfl ro N rc _ rfl HOa.out ⟨wr.heap.size,0,none⟩ 1 x rfl HNe.out (by omega) (by have:=HFa.out.size;omega) ?_
      intro ro' rc' W' hO' hF';have HI5:Hid (DI w W' ro' (N+1) rc' g m vs d ns (i+1)):=⟨HFa.out.on hF' (fun y hy=>(HOa.out.blk y hy).1),by rw[HSt.out,<-List.append_assoc];exact hO',HBa.out.keep hF' (fun hm=>by
       obtain⟨cur,h1⟩:=(HOa.out.blk g hm).2;obtain⟨cur',h2,_⟩:=HBa.out.row;rw[h1]at h2
       cases h2)⟩
      clear hO' hF';go_frame)
     exact⟨⟨ro',N+1,rc',i+1,rfl,by simp,by omega,by omega,HI5⟩,by simp[RowKit.intOf];omega⟩
    rw[decide_eq_false hin]at cb
    rw[if_neg hin,List.append_nil]at hst
    have HI5:Hid (DI w wr ro N rc g m vs d ns (i+1)):=⟨HI.out.fr,by rw[hst];exact HI.out.kept,HI.out.bools⟩;clear HI hst hat hx hin c0 c1 c2;go_wp2;exact⟨⟨ro,N,rc,i+1,rfl,by simp,by omega,by omega,HI5⟩,by simp[RowKit.intOf];omega⟩
   have HE:Hid (VOut w wr ro N rc (headD vs d++(vs.drop d).filter fun v=>decide (v.num∈ns))):=by
    have:=HI.out.kept;rw[List.take_of_length_le (by rw[<-HM.out];omega)]at this
    exact this
   have hFz:=HI.out.fr;clear HI;go_wp2;refine bodyPost_ret (results_tmp2 rfl _ _ _) rfl ?_;exact⟨ro,N,rc,_,0,rfl,Or.inr ⟨rfl,HO.out,d,HD.out,rfl⟩,HE.out,hFz⟩
 have HO:Hid (¬okV vs):=hok;clear hok;go_enter Tryz.func325,Tryz.ntmps325;go_wp2_with fail
 refine Calls.mono HC.out ?_;rintro e w1⟨rfl,hF1⟩;clear HC;go_wp2;refine bodyPost_ret (results_tmp2 rfl _ _ _) rfl ?_;exact⟨none,0,0,[],1,rfl,Or.inl ⟨rfl,HO.out,rfl⟩,VOut.of ⟨rfl,.inl ⟨rfl,rfl⟩⟩ rfl,hF1⟩
end Go.Proofs.YtakbodlicfmkjaaGreat.O
