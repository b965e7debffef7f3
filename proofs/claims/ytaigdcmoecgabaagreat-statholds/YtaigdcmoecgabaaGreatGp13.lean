/- Contracts and lemmas. -/
import Derived.Test.YtaigdcmoecgabaaGreatGp12
import Derived.Maps.RangeWalk
set_option maxHeartbeats 4000000
set_option maxRecDepth 100000
set_option linter.unusedSimpArgs false
set_option linter.unusedVariables false
namespace Go.Proofs.YtaigdcmoecgabaaGreat.O
open Go.ChangeShapes Go.WideShapes Go.ChangeAt Go.RowKit Go.Lib
theorem zgy{w:World}{base:Nat}{e:TypeId}{size:Nat}{v:Value}{n:Nat}{xs:List Value}(h:w.ownsRow base e size v n xs):∀k∈v.ownBlock.toList,base<=k:=by
 intro k hk;rcases h.2 with⟨rfl,_⟩|⟨g,cap,cur,rfl,hb,_⟩
 .simp[Value.ownBlock]at hk
 simp[Value.ownBlock]at hk
 omega
theorem zqz(kb:Nat)(a0 a1 a2:Option Addr)(l0 c0 l1 c1 l2 c2:Nat)(x0 x1 x2:List Vn)(w:World)(k0:w.cell? ⟨kb,0,none⟩=some (.slice a0 l0 c0))(k1:w.cell? ⟨kb,1,none⟩=some (.slice a1 l1 c1))(k2:w.cell? ⟨kb,2,none⟩=some (.slice a2 l2 c2))(v0:VRs w a0 x0)(v1:VRs w a1 x1)(v2:VRs w a2 x2)(e0:l0=x0.length)(e1:l1=x1.length)(e2:l2=x2.length)(hn:0<l0+l1+l2)(hb:l0+l1+l2<=70000) :
  Calls Tryz.prog 333 #[.slice (some ⟨kb,0,none⟩) 3 3] w fun e w'=>∃ro N rc,e=.returned (.slice ro N rc)/\VOut w w' ro N rc (x0++x1++x2)/\Fr [] w w':=by
 have HG:Hid (Calls ..):=zvx (l0+l1+l2) w hn (by omega);rw[show ((l0+l1+l2:Nat):Int)=(l0:Int)+(l1:Int)+(l2:Int) from by omega]at HG
 have HV:Hid (∀W,Fr [] w W->VRs W a0 x0/\VRs W a1 x1/\VRs W a2 x2):=fun W hf=>⟨v0.keep hf,v1.keep hf,v2.keep hf⟩;have HE:Hid (l0=x0.length/\l1=x1.length/\l2=x2.length):=⟨e0,e1,e2⟩;have HK:Hid (∀W,Fr [] w W->W.cell? ⟨kb,0,none⟩=some (.slice a0 l0 c0)/\W.cell? ⟨kb,1,none⟩=some (.slice a1 l1 c1)/\W.cell? ⟨kb,2,none⟩=some (.slice a2 l2 c2)):=fun W hf=>⟨hf.cell k0,hf.cell k1,hf.cell k2⟩;have b0:l0<=70000:=by omega
 have b1:l1<=70000:=by omega
 have b2:l2<=70000:=by omega
 clear v0 v1 v2 e0 e1 e2;go_enter Tryz.func333,Tryz.ntmps333;go_wp2_with fail
 refine wp_loop_rounds 4 ?_;rw[rounds_succ];go_wp2_with fail
 rw[rounds_succ];go_wp2_with fail
 rw[rounds_succ];go_wp2_with fail
 rw[rounds_succ];go_wp2_with fail
 refine Calls.mono HG.out ?_;rintro e w1⟨cap,rfl,hO1,hF1⟩;obtain⟨j0,j1,j2⟩:=HK.out _ hF1;have HO1:Hid (w1.ownsRow w.heap.size 304 3 (.slice (some ⟨w.heap.size,0,none⟩) 0 cap) ([]:List Vn).length (vnsC [])):=hO1;clear k0 k1 k2 HG hO1;go_wp2_with fail
 refine wp_loop_rounds 4 ?_;rw[rounds_succ];go_wp2_with (
  at_builtin;refine zfz _ rfl _ _ rfl w.heap.size (.slice (some ⟨w.heap.size,0,none⟩) 0 cap) [] rfl HO1.out a0 l0 c0 x0 rfl (HV.out _ hF1).1 HE.out.1 (by simp;omega) hF1.size ?_
  intro bo1 n1 cap1 w2 hn1 hO2 hf2;have hF2:Fr [] w w2:=hF1.on hf2 (zgy HO1.out);have HO2:Hid (w2.ownsRow w.heap.size 304 3 (.slice bo1 n1 cap1) (([]:List Vn)++x0).length (vnsC ([]++x0))):=by rw[<-hn1];exact hO2
  have HN1:Hid (n1=(([]:List Vn)++x0).length):=hn1;clear hO2 hf2 j0 j1 j2 hn1;obtain⟨j0,j1,j2⟩:=HK.out _ hF2;go_frame)
 rw[rounds_succ];go_wp2_with (
  at_builtin;refine zfz _ rfl _ _ rfl w.heap.size (.slice bo1 n1 cap1) ([]++x0) rfl HO2.out a1 l1 c1 x1 rfl (HV.out _ hF2).2.1 HE.out.2.1 (by have:=HE.out.1;simp;omega) hF2.size ?_
  intro bo2 n2 cap2 w3 hn2 hO3 hf3;have hF3:Fr [] w w3:=hF2.on hf3 (zgy HO2.out);have HO3:Hid (w3.ownsRow w.heap.size 304 3 (.slice bo2 n2 cap2) (([]:List Vn)++x0++x1).length (vnsC ([]++x0++x1))):=by rw[<-hn2];exact hO3
  have HN2:Hid (n2=(([]:List Vn)++x0++x1).length):=hn2;clear hO3 hf3 j0 j1 j2 hn2;obtain⟨j0,j1,j2⟩:=HK.out _ hF3;go_frame)
 rw[rounds_succ];go_wp2_with (
  at_builtin;refine zfz _ rfl _ _ rfl w.heap.size (.slice bo2 n2 cap2) ([]++x0++x1) rfl HO3.out a2 l2 c2 x2 rfl (HV.out _ hF3).2.2 HE.out.2.2 (by have:=HE.out.1;have:=HE.out.2.1;simp;omega) hF3.size ?_
  intro bo3 n3 cap3 w4 hn3 hO4 hf4;have hF4:Fr [] w w4:=hF3.on hf4 (zgy HO3.out);have HO4:Hid (VOut w w4 bo3 n3 cap3 (x0++x1++x2)):=VOut.of (by simpa using hO4) (by simpa using hn3);clear hO4 hf4 hn3 j0 j1 j2;go_frame)
 rw[rounds_succ];go_wp2;go_ret;exact⟨bo3,n3,cap3,rfl,HO4.out,hF4⟩
structure IRs(w:World)(ao:Option Addr)(ns:List Int):Prop where
 lies:0<ns.length->∃b off,ao=some ⟨b,off,none⟩/\b<w.heap.size/\∀i,i<ns.length->w.cell? ⟨b,off+i,none⟩=some (.int .i64 (ns.getD i 0))
 few:ns.length<=17592186044416
theorem IRs.keepS{S:List Nat}{w w':World}{ao:Option Addr}{ns:List Int}(h:IRs w ao ns)(hf:Fr S w w')(hn:0<ns.length->∀a,ao=some a->a.block∉S):IRs w' ao ns:=by
 refine⟨fun h0=> ?_,h.few⟩;obtain⟨b,off,e,hb,hc⟩:=h.lies h0;exact⟨b,off,e,Nat.lt_of_lt_of_le hb hf.size,fun i hi=>(World.cell?_of_block (hf.block b hb (hn h0 _ e))).trans (hc i hi)⟩
theorem IRs.keep{w w':World}{ao:Option Addr}{ns:List Int}(h:IRs w ao ns)(hf:Fr [] w w'):IRs w' ao ns:=h.keepS hf (by simp)
theorem zaa{w:World}{b j:Nat}{cs:Array Value}{t:TypeId}(x:Value)(h:w.heap[b]? = some (.cells cs t (0,0))):(w.setCell ⟨b,j,none⟩ x).heap[b]? = some (.cells (cs.setIfInBounds j x) t (0,0)):=by
 have hlt:=lt_of_block h;have h':w.heap[b]=.cells cs t (0,0):=by simpa[Array.getElem?_eq_getElem hlt]using h
 show (w.heap.modify b _)[b]? = _;rw[Array.getElem?_eq_getElem (by simpa using hlt),Array.getElem_modify_self,h'];rfl
end Go.Proofs.YtaigdcmoecgabaaGreat.O
