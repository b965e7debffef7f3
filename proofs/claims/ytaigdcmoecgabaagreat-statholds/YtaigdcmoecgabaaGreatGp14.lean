/- Contracts and lemmas. -/
import Derived.Test.YtaigdcmoecgabaaGreatGp13
import Derived.Deep.RegionHeld3
set_option maxHeartbeats 4000000
set_option maxRecDepth 100000
set_option linter.unusedSimpArgs false
set_option linter.unusedVariables false
namespace Go.Proofs.YtaigdcmoecgabaaGreat.O
open Go.ChangeShapes Go.WideShapes Go.ChangeAt Go.RowKit Go.Lib
theorem zij(v:Vn):okV [v]↔okX v:=by
 constructor
 .intro h;exact h.1 v (by simp)
 intro h;exact⟨fun x hx=>by rw[List.mem_singleton]at hx;rw[hx];exact h,List.pairwise_singleton _ _⟩
def zfi(vs:List Vn)(v:Vn)(d:Nat):Prop:=0<d/\(vs.getD (d-1) Vn.zero).num=v.num
def zmx(vs:List Vn)(v:Vn)(us:List Vn)(ok:Bool)(c:Nat):Prop:=(c=1/\¬(okV vs/\okX v)/\us=[]/\ok=false)\/(c=0/\okV vs/\okX v/\∃d,UpTo vs v.num d/\((zfi vs v d/\us=vs/\ok=false)\/(¬zfi vs v d/\us=vs.take d++[v]++vs.drop d/\ok=true)))
theorem zzf(ao:Option Addr)(L cap:Nat)(v:Vn)(vs:List Vn)(w:World)(hV:VRs w ao vs)(hL:L=vs.length)(hcap:L<=cap)(hv:VEach v) :
  Calls Tryz.prog 327 #[.slice ao L cap,.agg #[.int .i64 v.num,.string v.val,.bool v.drop]] w fun e w'=>∃ro N rc us ok c,e=.returned (.tuple #[.slice ro N rc,.bool ok,.int .i64 ((c:Nat):Int)])/\zmx vs v us ok c/\VOut w w' ro N rc us/\Fr [] w w':=by
 obtain⟨W0,hW0⟩:∃W0,w.alloc (.cells #[.int .i64 v.num,.string v.val,.bool v.drop] 304)=W0:=⟨_,rfl⟩;obtain⟨W1,hW1⟩:∃W1,W0.alloc (.cells #[.int .i64 v.num,.string v.val,.bool v.drop] 304)=W1:=⟨_,rfl⟩;have hF0:Fr [] w W0:=by rw[<-hW0];exact Fr.alloc [] w _
 have hs0:W0.heap.size=w.heap.size+1:=by rw[<-hW0];simp
 have hF1':Fr [] W0 W1:=by rw[<-hW1];exact Fr.alloc [] W0 _
 have hF1:Fr [] w W1:=hF0.then hF1';have hb0:W0.heap[w.heap.size]? = some (.cells #[.int .i64 v.num,.string v.val,.bool v.drop] 304 (0,0)):=by rw[<-hW0];exact heap_alloc_new w _
 have hb1:W1.heap[w.heap.size+1]? = some (.cells #[.int .i64 v.num,.string v.val,.bool v.drop] 304 (0,0)):=by rw[<-hW1,<-hs0];exact heap_alloc_new W0 _
 have HB0:Hid (∀W,Fr [] W1 W->W.cell? ⟨w.heap.size,0,none⟩=some (.int .i64 v.num)):=fun W hf=>by
  rw[crw ((hF1'.then hf).keep hb0 (by simp))];rfl
 have z0:W0.cell? ⟨w.heap.size,0,none⟩=some (.int .i64 v.num):=by rw[crw hb0];rfl
 have z1:W0.cell? ⟨w.heap.size,1,none⟩=some (.string v.val):=by rw[crw hb0];rfl
 have z2:W0.cell? ⟨w.heap.size,2,none⟩=some (.bool v.drop):=by rw[crw hb0];rfl
 have hone:VRs W1 (some ⟨w.heap.size+1,0,none⟩) [v]:=VRs.of_cells (fun _=>lt_of_block hb1) (fun j u hu=>by
  rw[crw hb1,Nat.zero_add];simpa[vnsC,vnC]using hu) (by simp) (by intro x hx;rw[List.mem_singleton]at hx;rw[hx];exact hv)
 have HV:Hid (∀W,Fr [] W1 W->VRs W ao vs/\VRs W (some ⟨w.heap.size+1,0,none⟩) [v]):=fun W hf=>⟨hV.keep (hF1.then hf),hone.keep hf⟩;have HL:Hid (L=vs.length):=hL;have hLL:L<=4398046511104:=by have:=hV.few;omega
 have HW0:Hid (_=W0):=hW0;have HW1:Hid (_=W1):=hW1;have hs1:w.heap.size+1<W1.heap.size:=lt_of_block hb1;have HF1:Hid (Fr [] w W1):=hF1;obtain⟨c,hck⟩:=CkT.ex vs;have HC:Hid (Calls ..):=zdf ao L cap c vs W1 (hV.keep hF1) hL hck;clear hW0 hW1 hV hL hone hb0 hb1 hF0 hF1 hF1';rcases hck with⟨rfl,hok⟩|⟨rfl,hok⟩
 .have HO:Hid (okV vs):=hok;have hL2:L<=65536:=by have:=zkr hok;have:=HL.out;omega
  clear hok;by_cases hx:okX v
  .have HX:Hid (okX v):=hx;clear hx;go_enter Tryz.func327,Tryz.ntmps327;go_upto_region 1 with fail
   rw[HW0.out];go_upto_region 2 with fail
   rw[HW1.out];go_wp2_with fail
   refine Calls.mono HC.out ?_;rintro e w1⟨rfl,hG1⟩;have HC2:Hid (Calls ..):=zdf (some ⟨w.heap.size+1,0,none⟩) 1 1 0 [v] w1 (HV.out _ hG1).2 rfl (CkT.of ((zij v).2 HX.out));clear HC;go_wp2_with fail
   refine Calls.mono HC2.out ?_;rintro e w2⟨rfl,hg2⟩;have hG2:=hG1.then hg2;have HU:Hid (Calls ..):=zvu ao L cap v.num vs w2 (HV.out _ hG2).1 HL.out HO.out.2;have q2:=HB0.out _ hG2;clear HC2;go_wp2_with fail
   refine Calls.mono HU.out ?_;rintro e w3⟨d,rfl,hd,hg3⟩;have hG3:=hG2.then hg3;have q3:=HB0.out _ hG3;have hdL:d<=L:=by have:=hd.le;have:=HL.out;omega
   have HD:Hid (UpTo vs v.num d):=hd;obtain⟨B,hB⟩:∃B:Bool,B=true↔zfi vs v d:=⟨@decide _ (Classical.propDecidable _),@decide_eq_true_iff _ (Classical.propDecidable _)⟩;have HS:Hid (Calls ..):=zqx ao L cap d v.num B vs w3 (HV.out _ hG3).1 HL.out hdL hB;have HBB:Hid (B=true↔zfi vs v d):=hB;clear HU hd hB;go_wp2_with fail
   refine Calls.mono HS.out ?_;rintro e w4⟨rfl,hg4⟩;have hG4:=hG3.then hg4;clear HS;cases B with
   |true=>
    have HTh:Hid (zfi vs v d):=HBB.out.1 rfl;clear HBB;have HP:Hid (Calls ..):=zvw ao L cap 0 L vs w4 (HV.out _ hG4).1 HL.out hcap (Nat.zero_le _) (Nat.le_refl _);rw[show ((0:Nat):Int)=0 from rfl]at HP
    go_wp2_with fail
    refine Calls.mono HP.out ?_;rintro e w5⟨ro,rfl,hO,hg5⟩;have hdr:(vs.drop 0).take (L-0)=vs:=by rw[HL.out];simp
    rw[hdr]at hO
    have HR:Hid (VOut w w5 ro (L-0) (L-0) vs/\Fr [] w w5):=⟨hO.later (HF1.out.then hG4).size,HF1.out.then (hG4.then hg5)⟩;clear hO hdr HP;go_wp2;refine bodyPost_ret (results_tmp3 rfl _ _ _) rfl ?_;exact⟨ro,_,_,vs,false,0,rfl,Or.inr ⟨rfl,HO.out,HX.out,d,HD.out,Or.inl ⟨HTh.out,rfl,rfl⟩⟩,HR.out⟩
   |false=>
    have HTh:Hid (¬zfi vs v d):=fun h=>by have:=HBB.out.2 h;cases this
    clear HBB;have s1:∀W,(Instr.sliceAt 291 (.slice ao L cap) none (some (.int .i64 (d:Int))) none).run Tryz.prog W=.ok (.slice ao d cap) W:=zadf ao L cap d (by omega);have s2:∀W,(Instr.sliceAt 291 (.slice ao L cap) (some (.int .i64 (d:Int))) none none).run Tryz.prog W=.ok (.slice (zcg ao cap d) (L-d) (cap-d)) W:=zadg ao L cap d hdL;have HT:Hid (∀W,Fr [] w4 W->∀kb,W.cell? ⟨kb,0,none⟩=some (.slice ao d cap)->W.cell? ⟨kb,1,none⟩=some (.slice (some ⟨w.heap.size+1,0,none⟩) 1 1)->W.cell? ⟨kb,2,none⟩=some (.slice (zcg ao cap d) (L-d) (cap-d)) ->
      Calls Tryz.prog 333 #[.slice (some ⟨kb,0,none⟩) 3 3] W fun e w'=>∃ro N rc,e=.returned (.slice ro N rc)/\VOut w w' ro N rc (vs.take d++[v]++vs.drop d)/\Fr [] w w'):=by
     intro W hf kb k0 k1 k2;have hGW:=hG4.then hf;have hvw:=HV.out _ hGW;have hLe:=HL.out;have t0:VRs W ao (vs.take d):=by
      have:=hvw.1.from (cap+1) 0 d (Nat.zero_le _) (by omega) (by omega);have e:zcg ao (cap+1) 0=ao:=by unfold zcg;rw[if_neg (by omega)];cases ao<;>simp[Addr.add]
      rw[e]at this
      simpa using this
     have t2:VRs W (zcg ao cap d) (vs.drop d):=by
      have:=hvw.1.from cap d L hdL (by omega) (by omega)
      rwa [List.take_of_length_le (by rw[List.length_drop];omega)]at this
     refine (zqz kb ao (some ⟨w.heap.size+1,0,none⟩) (zcg ao cap d) d cap 1 1 (L-d) (cap-d) (vs.take d) [v] (vs.drop d) W k0 k1 k2 t0 hvw.2 t2 (by simp;omega) rfl (by simp;omega) (by omega) (by omega)).mono ?_;rintro e w'⟨ro,N,rc,rfl,hO,hF⟩;exact⟨ro,N,rc,rfl,hO.later (HF1.out.then hGW).size,(HF1.out.then hGW).then hF⟩
    obtain⟨fo,hfo⟩:∃fo,fo=zcg ao cap d:=⟨_,rfl⟩;rw[<-hfo]at HT s2
    obtain⟨m,hm⟩:∃m,m=L-d:=⟨_,rfl⟩;obtain⟨cm,hcm⟩:∃cm,cm=cap-d:=⟨_,rfl⟩;rw[<-hm,<-hcm]at HT s2
    clear hfo hm hcm;go_wp2_with fail
    go_region_with (go_at_call 333;refine Calls.mono (HT.out _ (by first|exact (Fr.drewN [] _ _).then (Fr.alloc [] _ _)|exact (Fr.drew [] _).then (Fr.alloc [] _ _)|exact Fr.alloc [] _ _|exact (Fr.alloc [] _ _).then (Fr.drew [] _)) _ (by go_simp) (by go_simp) (by go_simp)) ?_;rintro e w5⟨ro,N,rc,rfl,hO,hF⟩)
    all_goals (
     go_wp2;refine bodyPost_ret (results_tmp3 rfl _ _ _) rfl ?_;exact⟨ro,N,rc,_,true,0,rfl,Or.inr ⟨rfl,HO.out,HX.out,d,HD.out,Or.inr ⟨HTh.out,rfl,rfl⟩⟩,hO,hF⟩)
  have HX:Hid (¬okX v):=hx;clear hx;go_enter Tryz.func327,Tryz.ntmps327;go_upto_region 1 with fail
  rw[HW0.out];go_upto_region 2 with fail
  rw[HW1.out];go_wp2_with fail
  refine Calls.mono HC.out ?_;rintro e w1⟨rfl,hG1⟩;have HC2:Hid (Calls ..):=zdf (some ⟨w.heap.size+1,0,none⟩) 1 1 1 [v] w1 (HV.out _ hG1).2 rfl (Or.inr ⟨rfl,fun h=>HX.out ((zij v).1 h)⟩);clear HC;go_wp2_with fail
  refine Calls.mono HC2.out ?_;rintro e w2⟨rfl,hg2⟩;clear HC2;go_wp2;refine bodyPost_ret (results_tmp3 rfl _ _ _) rfl ?_;exact⟨none,0,0,[],false,1,rfl,Or.inl ⟨rfl,fun h=>HX.out h.2,rfl,rfl⟩,VOut.of ⟨rfl,.inl ⟨rfl,rfl⟩⟩ rfl,HF1.out.then (hG1.then hg2)⟩
 have HO:Hid (¬okV vs):=hok;clear hok;go_enter Tryz.func327,Tryz.ntmps327;go_upto_region 1 with fail
 rw[HW0.out];go_upto_region 2 with fail
 rw[HW1.out];go_wp2_with fail
 refine Calls.mono HC.out ?_;rintro e w1⟨rfl,hG1⟩;clear HC;go_wp2;refine bodyPost_ret (results_tmp3 rfl _ _ _) rfl ?_;exact⟨none,0,0,[],false,1,rfl,Or.inl ⟨rfl,fun h=>HO.out h.1,rfl,rfl⟩,VOut.of ⟨rfl,.inl ⟨rfl,rfl⟩⟩ rfl,HF1.out.then hG1⟩
end Go.Proofs.YtaigdcmoecgabaaGreat.O
