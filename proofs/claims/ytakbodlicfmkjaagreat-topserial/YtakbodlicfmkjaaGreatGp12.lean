/- Contracts and lemmas. -/
import Derived.Test.YtakbodlicfmkjaaGreatGp11
import Derived.Maps.RangeWalk
set_option maxHeartbeats 4000000
set_option maxRecDepth 100000
set_option linter.unusedSimpArgs false
set_option linter.unusedVariables false
namespace Go.Proofs.YtakbodlicfmkjaaGreat.O
open Go.ChangeShapes Go.WideShapes Go.ChangeAt Go.RowKit Go.Lib
theorem zhu{w:World}{base:Nat}{e:TypeId}{size:Nat}{v:Value}{n:Nat}{xs:List Value}(h:w.ownsRow base e size v n xs):∀k∈v.ownBlock.toList,base<=k:=by
 intro k hk;rcases h.2 with⟨rfl,_⟩|⟨g,cap,cur,rfl,hb,_⟩
 .simp[Value.ownBlock]at hk
 simp[Value.ownBlock]at hk
 omega
theorem ztc(kb:Nat)(a0 a1 a2:Option Addr)(l0 c0 l1 c1 l2 c2:Nat)(x0 x1 x2:List Vn)(w:World)(k0:w.cell? ⟨kb,0,none⟩=some (.slice a0 l0 c0))(k1:w.cell? ⟨kb,1,none⟩=some (.slice a1 l1 c1))(k2:w.cell? ⟨kb,2,none⟩=some (.slice a2 l2 c2))(v0:VRs w a0 x0)(v1:VRs w a1 x1)(v2:VRs w a2 x2)(e0:l0=x0.length)(e1:l1=x1.length)(e2:l2=x2.length)(hn:0<l0+l1+l2)(hb:l0+l1+l2<=70000) :
  Calls Tryz.prog 331 #[.slice (some ⟨kb,0,none⟩) 3 3] w fun e w'=>∃ro N rc,e=.returned (.slice ro N rc)/\VOut w w' ro N rc (x0++x1++x2)/\Fr [] w w':=by
 have HG:Hid (Calls ..):=zyv (l0+l1+l2) w hn (by omega);rw[show ((l0+l1+l2:Nat):Int)=(l0:Int)+(l1:Int)+(l2:Int) from by omega]at HG
 have HV:Hid (∀W,Fr [] w W->VRs W a0 x0/\VRs W a1 x1/\VRs W a2 x2):=fun W hf=>⟨v0.keep hf,v1.keep hf,v2.keep hf⟩;have HE:Hid (l0=x0.length/\l1=x1.length/\l2=x2.length):=⟨e0,e1,e2⟩;have HK:Hid (∀W,Fr [] w W->W.cell? ⟨kb,0,none⟩=some (.slice a0 l0 c0)/\W.cell? ⟨kb,1,none⟩=some (.slice a1 l1 c1)/\W.cell? ⟨kb,2,none⟩=some (.slice a2 l2 c2)):=fun W hf=>⟨hf.cell k0,hf.cell k1,hf.cell k2⟩;have b0:l0<=70000:=by omega
 have b1:l1<=70000:=by omega
 have b2:l2<=70000:=by omega
 clear v0 v1 v2 e0 e1 e2;go_enter Tryz.func331,Tryz.ntmps331;go_wp2_with fail
 refine wp_loop_rounds 4 ?_;rw[rounds_succ];go_wp2_with fail
 rw[rounds_succ];go_wp2_with fail
 rw[rounds_succ];go_wp2_with fail
 rw[rounds_succ];go_wp2_with fail
 refine Calls.mono HG.out ?_;rintro e w1⟨cap,rfl,hO1,hF1⟩;obtain⟨j0,j1,j2⟩:=HK.out _ hF1;have HO1:Hid (w1.ownsRow w.heap.size 128 3 (.slice (some ⟨w.heap.size,0,none⟩) 0 cap) ([]:List Vn).length (vnsC [])):=hO1;clear k0 k1 k2 HG hO1;go_wp2_with fail
 refine wp_loop_rounds 4 ?_;rw[rounds_succ];go_wp2_with (
  at_builtin;refine zgv _ rfl _ _ rfl w.heap.size (.slice (some ⟨w.heap.size,0,none⟩) 0 cap) [] rfl HO1.out a0 l0 c0 x0 rfl (HV.out _ hF1).1 HE.out.1 (by simp;omega) hF1.size ?_
  intro bo1 n1 cap1 w2 hn1 hO2 hf2;have hF2:Fr [] w w2:=hF1.on hf2 (zhu HO1.out);have HO2:Hid (w2.ownsRow w.heap.size 128 3 (.slice bo1 n1 cap1) (([]:List Vn)++x0).length (vnsC ([]++x0))):=by rw[<-hn1];exact hO2
  have HN1:Hid (n1=(([]:List Vn)++x0).length):=hn1;clear hO2 hf2 j0 j1 j2 hn1;obtain⟨j0,j1,j2⟩:=HK.out _ hF2;go_frame)
 rw[rounds_succ];go_wp2_with (
  at_builtin;refine zgv _ rfl _ _ rfl w.heap.size (.slice bo1 n1 cap1) ([]++x0) rfl HO2.out a1 l1 c1 x1 rfl (HV.out _ hF2).2.1 HE.out.2.1 (by have:=HE.out.1;simp;omega) hF2.size ?_
  intro bo2 n2 cap2 w3 hn2 hO3 hf3;have hF3:Fr [] w w3:=hF2.on hf3 (zhu HO2.out);have HO3:Hid (w3.ownsRow w.heap.size 128 3 (.slice bo2 n2 cap2) (([]:List Vn)++x0++x1).length (vnsC ([]++x0++x1))):=by rw[<-hn2];exact hO3
  have HN2:Hid (n2=(([]:List Vn)++x0++x1).length):=hn2;clear hO3 hf3 j0 j1 j2 hn2;obtain⟨j0,j1,j2⟩:=HK.out _ hF3;go_frame)
 rw[rounds_succ];go_wp2_with (
  at_builtin;refine zgv _ rfl _ _ rfl w.heap.size (.slice bo2 n2 cap2) ([]++x0++x1) rfl HO3.out a2 l2 c2 x2 rfl (HV.out _ hF3).2.2 HE.out.2.2 (by have:=HE.out.1;have:=HE.out.2.1;simp;omega) hF3.size ?_
  intro bo3 n3 cap3 w4 hn3 hO4 hf4;have hF4:Fr [] w w4:=hF3.on hf4 (zhu HO3.out);have HO4:Hid (VOut w w4 bo3 n3 cap3 (x0++x1++x2)):=VOut.of (by simpa using hO4) (by simpa using hn3);clear hO4 hf4 hn3 j0 j1 j2;go_frame)
 rw[rounds_succ];go_wp2;go_ret;exact⟨bo3,n3,cap3,rfl,HO4.out,hF4⟩
structure IRs(w:World)(ao:Option Addr)(ns:List Int):Prop where
 lies:0<ns.length->∃b off,ao=some ⟨b,off,none⟩/\b<w.heap.size/\∀i,i<ns.length->w.cell? ⟨b,off+i,none⟩=some (.int .i64 (ns.getD i 0))
 few:ns.length<=17592186044416
theorem IRs.keepS{S:List Nat}{w w':World}{ao:Option Addr}{ns:List Int}(h:IRs w ao ns)(hf:Fr S w w')(hn:0<ns.length->∀a,ao=some a->a.block∉S):IRs w' ao ns:=by
 refine⟨fun h0=> ?_,h.few⟩;obtain⟨b,off,e,hb,hc⟩:=h.lies h0;exact⟨b,off,e,Nat.lt_of_lt_of_le hb hf.size,fun i hi=>(World.cell?_of_block (hf.block b hb (hn h0 _ e))).trans (hc i hi)⟩
theorem IRs.keep{w w':World}{ao:Option Addr}{ns:List Int}(h:IRs w ao ns)(hf:Fr [] w w'):IRs w' ao ns:=h.keepS hf (by simp)
theorem zdt(ns:List Int)(i:Nat)(h:i<ns.length):ns.take (i+1)=ns.take i++[ns.getD i 0]:=by
 rw[List.take_add_one];simp[List.getD,h]
def mkB(vs:List Vn)(ns:List Int):List Value:=vs.map fun v=> .bool (decide (v.num∈ns))
theorem zfe(vs:List Vn)(ns:List Int):(mkB vs ns).length=vs.length:=by simp[mkB]
theorem zfo(vs:List Vn)(ns:List Int)(i:Nat)(h:i<vs.length):(mkB vs ns)[i]? = some (.bool (decide ((vs.getD i Vn.zero).num∈ns))):=by
 simp[mkB,List.getD,h]
theorem zyw{vs:List Vn}{ns:List Int}{n:Int}(h:∀y∈vs,y.num≠n):mkB vs (ns++[n])=mkB vs ns:=by
 unfold mkB;refine List.map_congr_left fun v hv=> ?_;have:=h v hv
 congr 2
 simp[List.mem_append,this]
theorem zyx{vs:List Vn}(hR:Ris vs){ns:List Int}{n:Int}{d:Nat}(hd:d<vs.length)(e:(vs.getD d Vn.zero).num=n):mkB vs (ns++[n])=(mkB vs ns).set d (.bool true):=by
 apply List.ext_getElem?;intro i;by_cases hi:i<vs.length
 .rw[zfo _ _ _ hi,List.getElem?_set,zfe,zfo _ _ _ hi];by_cases hid:d=i
  .subst hid;rw[if_pos rfl,if_pos hd,e];simp
  rw[if_neg hid];have hne:(vs.getD i Vn.zero).num≠n:=by
   rw[<-e];rcases Nat.lt_trichotomy i d with h|h|h
   .have:=zcz hR h hd;omega
   .omega
   have:=zcz hR h hi;omega
  congr 2
  simp only[List.mem_append,List.mem_singleton,hne,or_false]
 rw[List.getElem?_eq_none (by rw[zfe];omega),List.getElem?_eq_none (by rw[List.length_set,zfe];omega)]
theorem zaa{w:World}{b j:Nat}{cs:Array Value}{t:TypeId}(x:Value)(h:w.heap[b]? = some (.cells cs t (0,0))):(w.setCell ⟨b,j,none⟩ x).heap[b]? = some (.cells (cs.setIfInBounds j x) t (0,0)):=by
 have hlt:=lt_of_block h;have h':w.heap[b]=.cells cs t (0,0):=by simpa[Array.getElem?_eq_getElem hlt]using h
 show (w.heap.modify b _)[b]? = _;rw[Array.getElem?_eq_getElem (by simpa using hlt),Array.getElem_modify_self,h'];rfl
structure BRow(w:World)(g L:Nat)(bs:List Value):Prop where
 row:∃cur,w.heap[g]? = some (.cells cur 4 (0,0))/\cur.toList=bs
 len:bs.length=L
theorem BRow.keep{S:List Nat}{w w':World}{g L:Nat}{bs:List Value}(h:BRow w g L bs)(hf:Fr S w w')(hn:g∉S):BRow w' g L bs:=by
 obtain⟨cur,h1,h2⟩:=h.row;exact⟨⟨cur,hf.keep h1 hn,h2⟩,h.len⟩
theorem BRow.put{w:World}{g L:Nat}{bs:List Value}(h:BRow w g L bs)(j:Nat)(x:Value):BRow (w.setCell ⟨g,j,none⟩ x) g L (bs.set j x):=by
 obtain⟨cur,h1,h2⟩:=h.row;exact⟨⟨_,zaa x h1,by rw[Array.toList_setIfInBounds,h2]⟩,by rw[List.length_set];exact h.len⟩
theorem BRow.cell{w:World}{g L:Nat}{bs:List Value}(h:BRow w g L bs){i:Nat}{u:Value}(hu:bs[i]? = some u):w.cell? ⟨g,i,none⟩=some u:=by
 obtain⟨cur,h1,h2⟩:=h.row;rw[crw h1,<-Array.getElem?_toList,h2];exact hu
theorem Tryz.undBools:Tryz.prog.underlying 426=some (.slice 4):=by kernel_rfl
theorem Tryz.infoBoolF:(Tryz.prog.info? 4).map (fun i=>(i.zero,i.size,i.bytes))=some (some (.bool false),1,1):=by kernel_rfl
theorem zme:∃i,Tryz.prog.info? 4=some i/\i.zero=some (.bool false)/\i.size=1/\i.bytes=1:=by
 have h:=Tryz.infoBoolF;cases hi:Tryz.prog.info? 4 with
 |none=>rw[hi]at h;cases h
 |some i=>
  rw[hi]at h
  simp only[Option.map_some,Option.some.injEq,Prod.mk.injEq]at h;exact⟨i,rfl,h.1,h.2.1,h.2.2⟩
theorem zagf(vs:List Vn):(madeCells (Value.bool false).cells vs.length).toList=mkB vs []:=by
 apply List.ext_getElem
 .simp[madeCells,mkB]
 intro i h1 h2;simp[madeCells,mkB,Value.cells,Nat.mod_one]
theorem zvk(ao:Option Addr)(L cap:Nat)(vs:List Vn)(bo:Option Addr)(M cb:Nat)(ns:List Int)(w:World)(hV:VRs w ao vs)(hL:L=vs.length)(hR:Ris vs)(hN:IRs w bo ns)(hM:M=ns.length) :
  Calls Tryz.prog 329 #[.slice ao L cap,.slice bo M cb] w fun e w'=>∃g,e=.returned (.slice (some ⟨g,0,none⟩) L L)/\w.heap.size<=g/\BRow w' g L (mkB vs ns)/\Fr [] w w':=by
 obtain⟨i0,hi0,hz0,hz1,hz2⟩:=zme;have HV:Hid (∀W,Fr [] w W->VRs W ao vs/\IRs W bo ns):=fun W hf=>⟨hV.keep hf,hN.keep hf⟩;have HL:Hid (L=vs.length/\M=ns.length/\Ris vs):=⟨hL,hM,hR⟩;have hLL:L<=4398046511104:=by have:=hV.few;omega
 have hMM:M<=17592186044416:=by have:=hN.few;omega
 clear hV hL hR hN hM;go_enter Tryz.func329,Tryz.ntmps329;go_wp2_with (at_make;refine wpList_make_full _ rfl (.tmp 10) (.tmp 10) 426 rfl 0 4 i0 _ 1 Tryz.undBools hi0 hz0 hz1 .i64 .i64 (L:Int) (L:Int) L rfl rfl rfl rfl ?b2 ?b3 ?b4 ?_)
 case b2=>rw[hz2];omega
 case b3=>unfold maxLen;omega
 case b4=>exact Nat.zero_le _
 intro w1 hown hgrow;obtain⟨g,hg⟩:∃g,g=w.heap.size:=⟨_,rfl⟩;have HB1:Hid (BRow w1 g L (mkB vs [])):=by
  have hm:(madeCells #[Value.bool false] L).toList=mkB vs []:=by rw[HL.out.1];exact zagf vs
  simp only[hm,<-hg]at hown;refine⟨?_,by rw[zfe,HL.out.1]⟩;rcases hown.2 with⟨hv,_⟩|⟨g',cap',cur,hv,_,hb,_,_,hcs,ht⟩
  .cases hv
  cases hv;refine⟨cur,hb,?_⟩;rw[<-ht,List.take_of_length_le];rw[Array.length_toList,hcs];exact Nat.le_refl _
 have hF1:Fr [] w w1:=Fr.grown (S:=[]) hgrow (by simp);have hgw:w.heap.size<=g:=by omega
 rw[<-hg];clear hown hgrow hg;go_wp2_with fail
 go_loopw [14] (fun ii wr=>∃(i:Nat),ii=.int .i64 i/\i<=M/\Fr [] w wr/\Hid (BRow wr g L (mkB vs (ns.take i)))) (fun ii _=>M-(RowKit.intOf ii).toNat)
 case atStart=>exact⟨0,rfl,Nat.zero_le _,hF1,HB1⟩
 obtain⟨i,rfl,hiM,hFr,HB⟩:=hrel;by_cases hi:i<M
 .have hi':i<ns.length:=by have:=HL.out.2.1;omega
  obtain⟨b,off,rfl,hbl,hat⟩:=(HV.out _ hFr).2.lies (by omega);have c0:=hat i hi';obtain⟨n,hn⟩:∃n,n=ns.getD i 0:=⟨_,rfl⟩;rw[<-hn]at c0
  have HTk:Hid (ns.take (i+1)=ns.take i++[n]):=by rw[hn];exact zdt ns i hi'
  have HU:Hid (Calls ..):=zfr ao L cap n vs _ (HV.out _ hFr).1 HL.out.1 HL.out.2.2;clear hat hn;go_wp2_with fail
  refine Calls.mono HU.out ?_;rintro e w2⟨d,rfl,hd,hF2⟩;have hG2:=hFr.then hF2;have HB2:Hid (BRow w2 g L (mkB vs (ns.take i))):=HB.out.keep hF2 (by simp);have hdL:d<=L:=by have:=hd.le;have:=HL.out.1;omega
  obtain⟨B,hB⟩:∃B:Bool,B=true↔0<d/\(vs.getD (d-1) Vn.zero).num=n:=⟨@decide _ (Classical.propDecidable _),@decide_eq_true_iff _ (Classical.propDecidable _)⟩;have HS:Hid (Calls ..):=zli ao L cap d n B vs w2 (HV.out _ hG2).1 HL.out.1 hdL hB;have HD:Hid (UpTo vs n d):=hd;have HBB:Hid (B=true↔0<d/\(vs.getD (d-1) Vn.zero).num=n):=hB;clear HU hd hB HB hF2 c0;go_wp2_with fail
  refine Calls.mono HS.out ?_;rintro e w3⟨rfl,hF3⟩;have hG3:=hG2.then hF3;have HB3:Hid (BRow w3 g L (mkB vs (ns.take i))):=HB2.out.keep hF3 (by simp);clear HS HB2 hF3;cases B with
  |true=>
   obtain⟨h0,he⟩:=HBB.out.1 rfl;obtain⟨d',rfl⟩:∃d',d=d'+1:=⟨d-1,by omega⟩;simp only[Nat.add_sub_cancel]at he;have hd':d'<vs.length:=by have:=HL.out.1;omega
   have hcl:=HB3.out.cell (i:=d') (zfo vs (ns.take i) d' hd');have HN2:Hid (BRow (w3.setCell ⟨g,d',none⟩ (.bool true)) g L (mkB vs (ns.take (i+1)))):=by
    rw[HTk.out,zyx HL.out.2.2 hd' he];exact HB3.out.put d' _
   have hfz:w3.frozen? ⟨g,d',none⟩=false:=by
    obtain⟨cur,h1,_⟩:=HB3.out.row;simp[World.frozen?,h1]
   have hF4:Fr [] w (w3.setCell ⟨g,d',none⟩ (.bool true)):=hG3.on (Fr.set (S:=[g]) _ _ _ (by simp)) (by simp;exact hgw);have hdi:(((d'+1:Nat):Int)-1)=(d':Int):=by omega
   have hd'L:d'<L:=by omega
   generalize decide ((vs.getD d' Vn.zero).num∈ns.take i)=Q at hcl;clear HBB h0 he;go_wp2;exact⟨⟨i+1,by simp,by omega,hF4,HN2⟩,by simp[RowKit.intOf];omega⟩
  |false=>
   have HN2:Hid (BRow w3 g L (mkB vs (ns.take (i+1)))):=by
    rw[HTk.out,zyw]
    .exact HB3.out
    intro y hy e;have h1:0<d/\(vs.getD (d-1) Vn.zero).num=n:=by
     obtain⟨j,hj,e2⟩:=List.mem_iff_getElem.1 hy;have e3:vs.getD j Vn.zero=y:=(by simp[List.getD,hj,e2]);have hjd:j<d:=by
      by_cases h:j<d
      .exact h
      have:=HD.out.hi j (by omega) hj;rw[e3]at this;omega
     refine⟨by omega,?_⟩;by_cases hjd1:j=d-1
     .rw[<-hjd1,e3];exact e
     have h4:=zcz HL.out.2.2 (show j<d-1 by omega) (by have:=HD.out.le;omega);have h5:=HD.out.lo (d-1) (by omega);rw[e3]at h4
     omega
    have:=HBB.out.2 h1;cases this
   clear HBB;go_wp2;exact⟨⟨i+1,by simp,by omega,hG3,HN2⟩,by simp[RowKit.intOf];omega⟩
 have HB9:Hid (BRow wr g L (mkB vs ns)):=by
  have:=HB.out;rw[List.take_of_length_le (by have:=HL.out.2.1;omega)]at this
  exact this
 go_wp2;go_ret;exact⟨g,rfl,hgw,HB9.out,hFr⟩
end Go.Proofs.YtakbodlicfmkjaaGreat.O
