/- Contracts and lemmas. -/
import Derived.Test.YtojjdnjfaelnfaaGreatDoorGp12
import Derived.Maps.RangeWalk
import Derived.Deep.RegionHeld3
set_option maxHeartbeats 4000000
set_option maxRecDepth 100000
set_option linter.unusedSimpArgs false
set_option linter.unusedVariables false
namespace Go.Proofs.YtojjdnjfaelnfaaGreatDoor.O
open Go.ChangeShapes Go.WideShapes Go.ChangeAt Go.RowKit Go.Lib Go.Proofs.Tryz
theorem zhl{w:World}{base:Nat}{e:TypeId}{size:Nat}{v:Value}{n:Nat}{xs:List Value}(h:w.ownsRow base e size v n xs):∀k∈v.ownBlock.toList,base<=k:=by
 intro k hk;rcases h.2 with⟨rfl,_⟩|⟨g,cap,cur,rfl,hb,_⟩
 .simp[Value.ownBlock]at hk
 simp[Value.ownBlock]at hk
 omega
theorem zvj(kb:Nat)(a0 a1 a2:Option Addr)(l0 c0 l1 c1 l2 c2:Nat)(x0 x1 x2:List Vn)(w:World)(k0:w.cell? ⟨kb,0,none⟩=some (.slice a0 l0 c0))(k1:w.cell? ⟨kb,1,none⟩=some (.slice a1 l1 c1))(k2:w.cell? ⟨kb,2,none⟩=some (.slice a2 l2 c2))(v0:VRs w a0 x0)(v1:VRs w a1 x1)(v2:VRs w a2 x2)(e0:l0=x0.length)(e1:l1=x1.length)(e2:l2=x2.length)(hn:0<l0+l1+l2)(hb:l0+l1+l2<=70000) :
  Calls prog 353 #[.slice (some ⟨kb,0,none⟩) 3 3] w fun e w'=>∃ro N rc,e=.returned (.slice ro N rc)/\VOut w w' ro N rc (x0++x1++x2)/\Fr [] w w':=by
 have HG:Hid (Calls ..):=zaaz (l0+l1+l2) w hn (by omega);rw[show ((l0+l1+l2:Nat):Int)=(l0:Int)+(l1:Int)+(l2:Int) from by omega]at HG
 have HV:Hid (∀W,Fr [] w W->VRs W a0 x0/\VRs W a1 x1/\VRs W a2 x2):=fun W hf=>⟨v0.keep hf,v1.keep hf,v2.keep hf⟩;have HE:Hid (l0=x0.length/\l1=x1.length/\l2=x2.length):=⟨e0,e1,e2⟩;have HK:Hid (∀W,Fr [] w W->W.cell? ⟨kb,0,none⟩=some (.slice a0 l0 c0)/\W.cell? ⟨kb,1,none⟩=some (.slice a1 l1 c1)/\W.cell? ⟨kb,2,none⟩=some (.slice a2 l2 c2)):=fun W hf=>⟨hf.cell k0,hf.cell k1,hf.cell k2⟩;have b0:l0<=70000:=by omega
 have b1:l1<=70000:=by omega
 have b2:l2<=70000:=by omega
 clear v0 v1 v2 e0 e1 e2;go_enter func353,ntmps353;go_wp2_with fail
 refine wp_loop_rounds 4 ?_;rw[rounds_succ];go_wp2_with fail
 rw[rounds_succ];go_wp2_with fail
 rw[rounds_succ];go_wp2_with fail
 rw[rounds_succ];go_wp2_with fail
 refine Calls.mono HG.out ?_;rintro e w1⟨cap,rfl,hO1,hF1⟩;obtain⟨j0,j1,j2⟩:=HK.out _ hF1;have HO1:Hid (w1.ownsRow w.heap.size 103 3 (.slice (some ⟨w.heap.size,0,none⟩) 0 cap) ([]:List Vn).length (vnsC [])):=hO1;clear k0 k1 k2 HG hO1;go_wp2_with fail
 refine wp_loop_rounds 4 ?_;rw[rounds_succ];go_wp2_with (
  at_builtin;refine zgl _ rfl _ _ rfl w.heap.size (.slice (some ⟨w.heap.size,0,none⟩) 0 cap) [] rfl HO1.out a0 l0 c0 x0 rfl (HV.out _ hF1).1 HE.out.1 (by simp;omega) hF1.size ?_
  intro bo1 n1 cap1 w2 hn1 hO2 hf2;have hF2:Fr [] w w2:=hF1.on hf2 (zhl HO1.out);have HO2:Hid (w2.ownsRow w.heap.size 103 3 (.slice bo1 n1 cap1) (([]:List Vn)++x0).length (vnsC ([]++x0))):=by rw[<-hn1];exact hO2
  have HN1:Hid (n1=(([]:List Vn)++x0).length):=hn1;clear hO2 hf2 j0 j1 j2 hn1;obtain⟨j0,j1,j2⟩:=HK.out _ hF2;go_frame)
 rw[rounds_succ];go_wp2_with (
  at_builtin;refine zgl _ rfl _ _ rfl w.heap.size (.slice bo1 n1 cap1) ([]++x0) rfl HO2.out a1 l1 c1 x1 rfl (HV.out _ hF2).2.1 HE.out.2.1 (by have:=HE.out.1;simp;omega) hF2.size ?_
  intro bo2 n2 cap2 w3 hn2 hO3 hf3;have hF3:Fr [] w w3:=hF2.on hf3 (zhl HO2.out);have HO3:Hid (w3.ownsRow w.heap.size 103 3 (.slice bo2 n2 cap2) (([]:List Vn)++x0++x1).length (vnsC ([]++x0++x1))):=by rw[<-hn2];exact hO3
  have HN2:Hid (n2=(([]:List Vn)++x0++x1).length):=hn2;clear hO3 hf3 j0 j1 j2 hn2;obtain⟨j0,j1,j2⟩:=HK.out _ hF3;go_frame)
 rw[rounds_succ];go_wp2_with (
  at_builtin;refine zgl _ rfl _ _ rfl w.heap.size (.slice bo2 n2 cap2) ([]++x0++x1) rfl HO3.out a2 l2 c2 x2 rfl (HV.out _ hF3).2.2 HE.out.2.2 (by have:=HE.out.1;have:=HE.out.2.1;simp;omega) hF3.size ?_
  intro bo3 n3 cap3 w4 hn3 hO4 hf4;have hF4:Fr [] w w4:=hF3.on hf4 (zhl HO3.out);have HO4:Hid (VOut w w4 bo3 n3 cap3 (x0++x1++x2)):=VOut.of (by simpa using hO4) (by simpa using hn3);clear hO4 hf4 hn3 j0 j1 j2;go_frame)
 rw[rounds_succ];go_wp2;go_ret;exact⟨bo3,n3,cap3,rfl,HO4.out,hF4⟩
theorem zjm(v:Vn):okV [v]↔okX v:=by
 constructor
 .intro h;exact h.1 v (by simp)
 intro h;exact⟨fun x hx=>by rw[List.mem_singleton]at hx;rw[hx];exact h,List.pairwise_singleton _ _⟩
def zfs(vs:List Vn)(v:Vn)(d:Nat):Prop:=0<d/\(vs.getD (d-1) Vn.zero).num=v.num
def zqd(vs:List Vn)(v:Vn)(us:List Vn)(ok:Bool)(c:Nat):Prop:=(c=1/\¬(okV vs/\okX v)/\us=[]/\ok=false)\/(c=0/\okV vs/\okX v/\∃d,UpTo vs v.num d/\((zfs vs v d/\us=vs/\ok=false)\/(¬zfs vs v d/\us=vs.take d++[v]++vs.drop d/\ok=true)))
theorem zaeo(ao:Option Addr)(L cap:Nat)(v:Vn)(vs:List Vn)(w:World)(hV:VRs w ao vs)(hL:L=vs.length)(hcap:L<=cap)(hv:VEach v) :
  Calls prog 347 #[.slice ao L cap,.agg #[.int .i64 v.num,.string v.val,.bool v.drop]] w fun e w'=>∃ro N rc us ok c,e=.returned (.tuple #[.slice ro N rc,.bool ok,.int .i64 ((c:Nat):Int)])/\zqd vs v us ok c/\VOut w w' ro N rc us/\Fr [] w w':=by
 obtain⟨W0,hW0⟩:∃W0,w.alloc (.cells #[.int .i64 v.num,.string v.val,.bool v.drop] 103)=W0:=⟨_,rfl⟩;obtain⟨W1,hW1⟩:∃W1,W0.alloc (.cells #[.int .i64 v.num,.string v.val,.bool v.drop] 103)=W1:=⟨_,rfl⟩;have hF0:Fr [] w W0:=by rw[<-hW0];exact Fr.alloc [] w _
 have hs0:W0.heap.size=w.heap.size+1:=by rw[<-hW0];simp
 have hF1':Fr [] W0 W1:=by rw[<-hW1];exact Fr.alloc [] W0 _
 have hF1:Fr [] w W1:=hF0.then hF1';have hb0:W0.heap[w.heap.size]? = some (.cells #[.int .i64 v.num,.string v.val,.bool v.drop] 103 (0,0)):=by rw[<-hW0];exact heap_alloc_new w _
 have hb1:W1.heap[w.heap.size+1]? = some (.cells #[.int .i64 v.num,.string v.val,.bool v.drop] 103 (0,0)):=by rw[<-hW1,<-hs0];exact heap_alloc_new W0 _
 have HB0:Hid (∀W,Fr [] W1 W->W.cell? ⟨w.heap.size,0,none⟩=some (.int .i64 v.num)):=fun W hf=>by
  rw[crw ((hF1'.then hf).keep hb0 (by simp))];rfl
 have z0:W0.cell? ⟨w.heap.size,0,none⟩=some (.int .i64 v.num):=by rw[crw hb0];rfl
 have z1:W0.cell? ⟨w.heap.size,1,none⟩=some (.string v.val):=by rw[crw hb0];rfl
 have z2:W0.cell? ⟨w.heap.size,2,none⟩=some (.bool v.drop):=by rw[crw hb0];rfl
 have hone:VRs W1 (some ⟨w.heap.size+1,0,none⟩) [v]:=VRs.of_cells (fun _=>lt_of_block hb1) (fun j u hu=>by
  rw[crw hb1,Nat.zero_add];simpa[vnsC,vnC]using hu) (by simp) (by intro x hx;rw[List.mem_singleton]at hx;rw[hx];exact hv)
 have HV:Hid (∀W,Fr [] W1 W->VRs W ao vs/\VRs W (some ⟨w.heap.size+1,0,none⟩) [v]):=fun W hf=>⟨hV.keep (hF1.then hf),hone.keep hf⟩;have HL:Hid (L=vs.length):=hL;have hLL:L<=4398046511104:=by have:=hV.few;omega
 have HW0:Hid (_=W0):=hW0;have HW1:Hid (_=W1):=hW1;have hs1:w.heap.size+1<W1.heap.size:=lt_of_block hb1;have HF1:Hid (Fr [] w W1):=hF1;obtain⟨c,hck⟩:=CkT.ex vs;have HC:Hid (Calls ..):=zdp ao L cap c vs W1 (hV.keep hF1) hL hck;clear hW0 hW1 hV hL hone hb0 hb1 hF0 hF1 hF1';rcases hck with⟨rfl,hok⟩|⟨rfl,hok⟩
 .have HO:Hid (okV vs):=hok;have hL2:L<=65536:=by have:=zml hok;have:=HL.out;omega
  clear hok;by_cases hx:okX v
  .have HX:Hid (okX v):=hx;clear hx;go_enter func347,ntmps347;go_upto_region 1 with fail
   rw[HW0.out];go_upto_region 2 with fail
   rw[HW1.out];go_wp2_with fail
   refine Calls.mono HC.out ?_;rintro e w1⟨rfl,hG1⟩;have HC2:Hid (Calls ..):=zdp (some ⟨w.heap.size+1,0,none⟩) 1 1 0 [v] w1 (HV.out _ hG1).2 rfl (CkT.of ((zjm v).2 HX.out));clear HC;go_wp2_with fail
   refine Calls.mono HC2.out ?_;rintro e w2⟨rfl,hg2⟩;have hG2:=hG1.then hg2;have HU:Hid (Calls ..):=zaaw ao L cap v.num vs w2 (HV.out _ hG2).1 HL.out HO.out.2;have q2:=HB0.out _ hG2;clear HC2;go_wp2_with fail
   refine Calls.mono HU.out ?_;rintro e w3⟨d,rfl,hd,hg3⟩;have hG3:=hG2.then hg3;have q3:=HB0.out _ hG3;have hdL:d<=L:=by have:=hd.le;have:=HL.out;omega
   have HD:Hid (UpTo vs v.num d):=hd;obtain⟨B,hB⟩:∃B:Bool,B=true↔zfs vs v d:=⟨@decide _ (Classical.propDecidable _),@decide_eq_true_iff _ (Classical.propDecidable _)⟩;have HS:Hid (Calls ..):=zvh ao L cap d v.num B vs w3 (HV.out _ hG3).1 HL.out hdL hB;have HBB:Hid (B=true↔zfs vs v d):=hB;clear HU hd hB;go_wp2_with fail
   refine Calls.mono HS.out ?_;rintro e w4⟨rfl,hg4⟩;have hG4:=hG3.then hg4;clear HS;cases B with
   |true=>
    have HTh:Hid (zfs vs v d):=HBB.out.1 rfl;clear HBB;have HP:Hid (Calls ..):=zaay ao L cap 0 L vs w4 (HV.out _ hG4).1 HL.out hcap (Nat.zero_le _) (Nat.le_refl _);rw[show ((0:Nat):Int)=0 from rfl]at HP
    go_wp2_with fail
    refine Calls.mono HP.out ?_;rintro e w5⟨ro,rfl,hO,hg5⟩;have hdr:(vs.drop 0).take (L-0)=vs:=by rw[HL.out];simp
    rw[hdr]at hO
    have HR:Hid (VOut w w5 ro (L-0) (L-0) vs/\Fr [] w w5):=⟨hO.later (HF1.out.then hG4).size,HF1.out.then (hG4.then hg5)⟩;clear hO hdr HP;go_wp2;refine bodyPost_ret (results_tmp3 rfl _ _ _) rfl ?_;exact⟨ro,_,_,vs,false,0,rfl,Or.inr ⟨rfl,HO.out,HX.out,d,HD.out,Or.inl ⟨HTh.out,rfl,rfl⟩⟩,HR.out⟩
   |false=>
    have HTh:Hid (¬zfs vs v d):=fun h=>by have:=HBB.out.2 h;cases this
    clear HBB;have s1:∀W,(Instr.sliceAt 99 (.slice ao L cap) none (some (.int .i64 (d:Int))) none).run prog W=.ok (.slice ao d cap) W:=zakc ao L cap d (by omega);have s2:∀W,(Instr.sliceAt 99 (.slice ao L cap) (some (.int .i64 (d:Int))) none none).run prog W=.ok (.slice (zcn ao cap d) (L-d) (cap-d)) W:=zakd ao L cap d hdL;have HT:Hid (∀W,Fr [] w4 W->∀kb,W.cell? ⟨kb,0,none⟩=some (.slice ao d cap)->W.cell? ⟨kb,1,none⟩=some (.slice (some ⟨w.heap.size+1,0,none⟩) 1 1)->W.cell? ⟨kb,2,none⟩=some (.slice (zcn ao cap d) (L-d) (cap-d)) ->
      Calls prog 353 #[.slice (some ⟨kb,0,none⟩) 3 3] W fun e w'=>∃ro N rc,e=.returned (.slice ro N rc)/\VOut w w' ro N rc (vs.take d++[v]++vs.drop d)/\Fr [] w w'):=by
     intro W hf kb k0 k1 k2;have hGW:=hG4.then hf;have hvw:=HV.out _ hGW;have hLe:=HL.out;have t0:VRs W ao (vs.take d):=by
      have:=hvw.1.from (cap+1) 0 d (Nat.zero_le _) (by omega) (by omega);have e:zcn ao (cap+1) 0=ao:=by unfold zcn;rw[if_neg (by omega)];cases ao<;>simp[Addr.add]
      rw[e]at this
      simpa using this
     have t2:VRs W (zcn ao cap d) (vs.drop d):=by
      have:=hvw.1.from cap d L hdL (by omega) (by omega)
      rwa [List.take_of_length_le (by rw[List.length_drop];omega)]at this
     refine (zvj kb ao (some ⟨w.heap.size+1,0,none⟩) (zcn ao cap d) d cap 1 1 (L-d) (cap-d) (vs.take d) [v] (vs.drop d) W k0 k1 k2 t0 hvw.2 t2 (by simp;omega) rfl (by simp;omega) (by omega) (by omega)).mono ?_;rintro e w'⟨ro,N,rc,rfl,hO,hF⟩;exact⟨ro,N,rc,rfl,hO.later (HF1.out.then hGW).size,(HF1.out.then hGW).then hF⟩
    obtain⟨fo,hfo⟩:∃fo,fo=zcn ao cap d:=⟨_,rfl⟩;rw[<-hfo]at HT s2
    obtain⟨m,hm⟩:∃m,m=L-d:=⟨_,rfl⟩;obtain⟨cm,hcm⟩:∃cm,cm=cap-d:=⟨_,rfl⟩;rw[<-hm,<-hcm]at HT s2
    clear hfo hm hcm;go_wp2_with fail
    go_region_with (go_at_call 353;refine Calls.mono (HT.out _ (by first|exact (Fr.drewN [] _ _).then (Fr.alloc [] _ _)|exact (Fr.drew [] _).then (Fr.alloc [] _ _)|exact Fr.alloc [] _ _|exact (Fr.alloc [] _ _).then (Fr.drew [] _)) _ (by go_simp) (by go_simp) (by go_simp)) ?_;rintro e w5⟨ro,N,rc,rfl,hO,hF⟩)
    all_goals (
     go_wp2;refine bodyPost_ret (results_tmp3 rfl _ _ _) rfl ?_;exact⟨ro,N,rc,_,true,0,rfl,Or.inr ⟨rfl,HO.out,HX.out,d,HD.out,Or.inr ⟨HTh.out,rfl,rfl⟩⟩,hO,hF⟩)
  have HX:Hid (¬okX v):=hx;clear hx;go_enter func347,ntmps347;go_upto_region 1 with fail
  rw[HW0.out];go_upto_region 2 with fail
  rw[HW1.out];go_wp2_with fail
  refine Calls.mono HC.out ?_;rintro e w1⟨rfl,hG1⟩;have HC2:Hid (Calls ..):=zdp (some ⟨w.heap.size+1,0,none⟩) 1 1 1 [v] w1 (HV.out _ hG1).2 rfl (Or.inr ⟨rfl,fun h=>HX.out ((zjm v).1 h)⟩);clear HC;go_wp2_with fail
  refine Calls.mono HC2.out ?_;rintro e w2⟨rfl,hg2⟩;clear HC2;go_wp2;refine bodyPost_ret (results_tmp3 rfl _ _ _) rfl ?_;exact⟨none,0,0,[],false,1,rfl,Or.inl ⟨rfl,fun h=>HX.out h.2,rfl,rfl⟩,VOut.of ⟨rfl,.inl ⟨rfl,rfl⟩⟩ rfl,HF1.out.then (hG1.then hg2)⟩
 have HO:Hid (¬okV vs):=hok;clear hok;go_enter func347,ntmps347;go_upto_region 1 with fail
 rw[HW0.out];go_upto_region 2 with fail
 rw[HW1.out];go_wp2_with fail
 refine Calls.mono HC.out ?_;rintro e w1⟨rfl,hG1⟩;clear HC;go_wp2;refine bodyPost_ret (results_tmp3 rfl _ _ _) rfl ?_;exact⟨none,0,0,[],false,1,rfl,Or.inl ⟨rfl,fun h=>HO.out h.1,rfl,rfl⟩,VOut.of ⟨rfl,.inl ⟨rfl,rfl⟩⟩ rfl,HF1.out.then hG1⟩
structure IRs(w:World)(ao:Option Addr)(ns:List Int):Prop where
 lies:0<ns.length->∃b off,ao=some ⟨b,off,none⟩/\b<w.heap.size/\∀i,i<ns.length->w.cell? ⟨b,off+i,none⟩=some (.int .i64 (ns.getD i 0))
 few:ns.length<=17592186044416
theorem IRs.keepS{S:List Nat}{w w':World}{ao:Option Addr}{ns:List Int}(h:IRs w ao ns)(hf:Fr S w w')(hn:0<ns.length->∀a,ao=some a->a.block∉S):IRs w' ao ns:=by
 refine⟨fun h0=> ?_,h.few⟩;obtain⟨b,off,e,hb,hc⟩:=h.lies h0;exact⟨b,off,e,Nat.lt_of_lt_of_le hb hf.size,fun i hi=>(World.cell?_of_block (hf.block b hb (hn h0 _ e))).trans (hc i hi)⟩
theorem IRs.keep{w w':World}{ao:Option Addr}{ns:List Int}(h:IRs w ao ns)(hf:Fr [] w w'):IRs w' ao ns:=h.keepS hf (by simp)
theorem zaa{w:World}{b j:Nat}{cs:Array Value}{t:TypeId}(x:Value)(h:w.heap[b]? = some (.cells cs t (0,0))):(w.setCell ⟨b,j,none⟩ x).heap[b]? = some (.cells (cs.setIfInBounds j x) t (0,0)):=by
 have hlt:=lt_of_block h;have h':w.heap[b]=.cells cs t (0,0):=by simpa[Array.getElem?_eq_getElem hlt]using h
 show (w.heap.modify b _)[b]? = _;rw[Array.getElem?_eq_getElem (by simpa using hlt),Array.getElem_modify_self,h'];rfl
theorem zjn{vs:List Vn}{y:Vn}(h:y∈vs):∃j,j<vs.length/\vs.getD j Vn.zero=y:=by
 obtain⟨j,hj,e⟩:=List.mem_iff_getElem.1 h;exact⟨j,hj,by simp[List.getD,hj,e]⟩
theorem znl{vs:List Vn}{v:Vn}{d:Nat}(hR:Ris vs)(hU:UpTo vs v.num d):zfs vs v d↔ ∃y∈vs,y.num=v.num:=by
 constructor
 .rintro⟨h0,h1⟩;exact⟨_,zcv vs (d-1) (by have:=hU.le;omega),h1⟩
 rintro⟨y,hy,e⟩;obtain⟨j,hj,rfl⟩:=zjn hy;have hjd:j<d:=by
  by_cases h:j<d
  .exact h
  have:=hU.hi j (by omega) hj;omega
 refine⟨by omega,?_⟩;by_cases hjd1:j=d-1
 .rw[<-hjd1];exact e
 have h1:=zgs hR (show j<d-1 by omega) (by have:=hU.le;omega);have h2:=hU.lo (d-1) (by omega);omega
theorem ztx{vs:List Vn}{v:Vn}{d:Nat}(x:Vn):x∈vs.take d++[v]++vs.drop d↔x=v\/x∈vs:=by
 have e:vs=vs.take d++vs.drop d:=(List.take_append_drop d vs).symm;have:x∈vs↔x∈vs.take d\/x∈vs.drop d:=by
  constructor
  .intro h;rw[e]at h;exact List.mem_append.1 h
  intro h;rw[e];exact List.mem_append.2 h
 rw[this];simp only[List.mem_append,List.mem_singleton];constructor
 .rintro ((h|h)|h)
  .exact Or.inr (Or.inl h)
  .exact Or.inl h
  exact Or.inr (Or.inr h)
 rintro (h|h|h)
 .exact Or.inl (Or.inr h)
 .exact Or.inl (Or.inl h)
 exact Or.inr h
theorem zaep{vs:List Vn}{v:Vn}{d:Nat}(hd:d<=vs.length):(vs.take d++[v]++vs.drop d).length=vs.length+1:=by
 simp only[List.length_append,List.length_take,List.length_drop,List.length_singleton];omega
theorem zaeq{vs:List Vn}{v:Vn}{d:Nat}(h:okV vs)(hv:okX v)(hU:UpTo vs v.num d)(hT:¬zfs vs v d):okV (vs.take d++[v]++vs.drop d):=by
 refine⟨fun x hx=> ?_,?_⟩
 .rcases (ztx x).1 hx with rfl|hx
  .exact hv
  exact h.1 x hx
 have hlo:∀x∈vs.take d,x.num<v.num:=by
  intro x hx;obtain⟨j,hj,e⟩:=zjn hx;have hj2:j<d/\j<vs.length:=by simp at hj;omega
  have e2:(vs.take d).getD j Vn.zero=vs.getD j Vn.zero:=by simp[List.getD,List.getElem?_take_of_lt hj2.1]
  rw[e2]at e
  have h1:=hU.lo j hj2.1;rw[e]at h1
  by_cases h2:x.num=v.num
  .exact absurd ((znl h.2 hU).2 ⟨x,List.mem_of_mem_take hx,h2⟩) hT
  omega
 have hhi:∀x∈vs.drop d,v.num<x.num:=by
  intro x hx;obtain⟨j,hj,e⟩:=zjn hx;rw[zxr]at e
  have:=hU.hi (d+j) (by omega) (by simp at hj;omega);rw[e]at this
  exact this
 have hs:Ris vs:=h.2;unfold Ris at hs ⊢;rw[List.append_assoc,List.pairwise_append];refine⟨hs.sublist (List.take_sublist _ _),?_,?_⟩
 .rw[List.singleton_append,List.pairwise_cons];exact⟨hhi,hs.sublist (List.drop_sublist _ _)⟩
 intro a ha b hb;rw[List.singleton_append,List.mem_cons]at hb
 rcases hb with rfl|hb
 .exact hlo a ha
 have:=hlo a ha;have:=hhi b hb;omega
end Go.Proofs.YtojjdnjfaelnfaaGreatDoor.O
