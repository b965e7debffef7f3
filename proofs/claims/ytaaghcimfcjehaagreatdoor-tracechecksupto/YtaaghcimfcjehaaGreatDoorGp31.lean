/- Contracts and plain lemmas of this claim. -/
import Derived.Test.YtaaghcimfcjehaaGreatDoorGp30
import Derived.Test.YtaaghcimfcjehaaGreatDoorGp3
import Derived.Deep.RegionHeld3
set_option linter.unusedSimpArgs false
set_option linter.unusedVariables false
set_option maxHeartbeats 8000000
set_option maxRecDepth 100000
namespace Go.Proofs.YtaaghcimfcjehaaGreatDoor.Q
open Go.ChangeShapes Go.WideShapes Go.ChangeAt Go.RowKit Go.Lib
def zbz (ns:List Int):List Value:=ns.map fun n=>Value.int .i64 n
theorem intsT_get (xs:List Int) (j:Nat) (h:j<xs.length):(zbz xs)[j]? = some (.int .i64 (xs.getD j 0)):=by simp[zbz,List.getD,h]
theorem Tryz.infoIW:(Tryz.prog.info? 3).map (fun i=>(i.zero,i.size,i.bytes))=some (some (.int .i64 0),1,8):=by kernel_rfl
theorem Tryz.undIsW:Tryz.prog.underlying 25=some (.slice 3):=by kernel_rfl
theorem zst {w:World} {g n:Nat} {xs:List Value} (h:w.ownsRow 0 3 1 (.slice (some ⟨g,0,none⟩) n n) n xs):w.heap[g]? = some (.cells xs.toArray 3 (0,0)):=by
 have hl:=h.1
 rcases h.2 with ⟨hh,_⟩|⟨g',cap',cur,hh,_,hg,_,_,hcs,ht⟩
 ·cases hh
 ·cases hh
  rw[hg]
  congr 2
  rw[<-Array.toList_inj]
  simp only
  rw[<-ht,List.take_of_length_le (by simp[hcs])]
theorem zpp (ao:Option Addr) (L cap:Nat) (ws:List Int) (w:World) (h:IRs w ao ws) (hLe:L=ws.length) (hL:L<=17592186044416) :
  Calls Tryz.prog 22 #[.slice ao L cap] w fun e w'=> ∃b,e= .returned (.slice (some ⟨b,0,none⟩) L (L+1))/\w.heap.size<=b/\w'.heap[b]? = some (.cells (zbz (ws++[7777])).toArray 3 (0,0))/\Fr [] w w':=by
 obtain⟨i0,hi,hz0,hz1,hz2⟩:=info_parts Tryz.infoIW
 have HL:Hid (L=ws.length):=hLe
 clear hLe
 go_enter Tryz.func22,Tryz.ntmps22
 go_wp2_with (at_make;refine wpList_make_own _ rfl (.const (.int .i64 0)) (.tmp 7) 25 rfl 0 3 i0 _ 1 Tryz.undIsW hi hz0 hz1 .i64 .i64 ((L:Int)+1) (L+1) rfl rfl ?bC ?b2 ?b3 ?b4 ?_)
 case bC=>simp
 case b2=>rw[hz2];omega
 case b3=>unfold maxLen;omega
 case b4=>exact Nat.zero_le _
 intro w1 hown hgrow
 obtain⟨g,hg⟩: ∃g,g=w.heap.size:=⟨_,rfl⟩
 have hgw:w.heap.size<=g:=by omega
 rw[<-hg]at hown ⊢
 have h01:Fr [] w w1:=Fr.grown (S:=[]) hgrow (by simp)
 clear hgrow hg
 go_wp2_with fail
 go_loopw [3,4] (fun vv ii wr=> ∃i:Nat,vv= .slice (some ⟨g,0,none⟩) i (L+1)/\ii= .int .i64 i/\i<=L/\wr.ownsRow 0 3 1 (.slice (some ⟨g,0,none⟩) i (L+1)) i (zbz (ws.take i))/\Fr [] w wr) (fun _ ii _=>L-(RowKit.intOf ii).toNat)
 case atStart=>exact⟨0,rfl,rfl,Nat.zero_le _,hown,h01⟩
 case round =>
  obtain⟨i,rfl,rfl,hiL,hO,hF⟩:=hrel
  have hsz:=(hO.lt g rfl).2
  by_cases hil:i<L
  ·have hi':i<ws.length:=by rw[<-HL.out];exact hil
   obtain⟨b,off,e,_,hc⟩:=(h.keep hF).lies (by omega)
   subst e
   have d0:=hc i hi'
   obtain⟨x,hx⟩: ∃x,x=ws.getD i 0:=⟨_,rfl⟩
   rw[<-hx]at d0
   have HE:Hid (zbz (ws.take (i+1))=zbz (ws.take i)++[.int .i64 x]):=by
    show _=_
    rw[zbm ws i hi',<-hx];simp[zbz]
   clear hc hx
   go_wp2_with (at_builtin;refine wpList_append_fits _ rfl (.tmp 15) (.tmp 20) 25 rfl 0 3 i0 1 Tryz.undIsW hi hz1 g i (L+1) _ rfl (hO.alloc _) ⟨wr.heap.size,0,none⟩ 1 1 [.int .i64 x] rfl rfl ?c1 ?c2 ?c3 ?_)
   case c1=>intro j u hj;match j,hj with|0,hj=>simp at hj;subst hj;simp[Addr.add]
   case c2=>intro u hu;simp at hu;subst hu;rfl
   case c3=>omega
   intro w2 hO2 hg2
   rw[<-HE.out]at hO2
   have hF2:Fr [] w w2:=(hF.then (Fr.alloc [] wr _)).on (Fr.grown (S:=[g]) hg2 (by intro k hk _;cases hk;simp)) (by intro y hy;simp at hy;omega)
   clear hO hg2 hF d0
   go_wp2
   go_roundw
   case rel=>exact⟨i+1,rfl,by simp,by omega,hO2,hF2⟩
   case measure=>simp[RowKit.intOf];omega
  ·have hiL':L<=i:=by omega
   obtain rfl:i=L:=by omega
   have HE:Hid (zbz (ws++[7777])=zbz (ws.take i)++[.int .i64 7777]):=by
    show _=_
    rw[List.take_of_length_le (by rw[<-HL.out];omega)];simp[zbz]
   go_wp2_with (at_builtin;refine wpList_append_fits _ rfl (.tmp 22) (.tmp 23) 25 rfl 0 3 i0 1 Tryz.undIsW hi hz1 g i (i+1) _ rfl (hO.alloc _) ⟨wr.heap.size,0,none⟩ 1 1 [.int .i64 7777] rfl rfl ?c1 ?c2 ?c3 ?_)
   case c1=>intro j u hj;match j,hj with|0,hj=>simp at hj;subst hj;simp[Addr.add]
   case c2=>intro u hu;simp at hu;subst hu;rfl
   case c3=>omega
   intro w2 hO2 hg2
   rw[<-HE.out]at hO2
   have hF2:Fr [] w w2:=(hF.then (Fr.alloc [] wr _)).on (Fr.grown (S:=[g]) hg2 (by intro k hk _;cases hk;simp)) (by intro y hy;simp at hy;omega)
   have HRow:Hid (w2.heap[g]? = some (.cells (zbz (ws++[7777])).toArray 3 (0,0))):=zst hO2
   clear hO hg2 hF hO2
   go_wp2
   go_ret
   exact⟨g,rfl,hgw,HRow.out,hF2⟩
theorem zpq (t:Nat) (ao:Option Addr) (L cap:Nat) (ws:List Int) (w:World) (h:IRs w ao ws) (hLe:L=ws.length) (hL:L<=17592186044416) (hrow:w.heap[t]? = some (.cells (zbz (ws++[7777])).toArray 3 (0,0))) :
  Calls Tryz.prog 34 #[.slice (some ⟨t,0,none⟩) L (L+1),.slice ao L cap] w fun e w'=>e= .returned (.bool true)/\Fr [] w w':=by
 have HL:Hid (L=ws.length):=hLe
 clear hLe
 have hct: ∀j,j<L->w.cell? ⟨t,j,none⟩=some (.int .i64 (ws.getD j 0)):=by
  intro j hj
  rw[cell_of_row _ _ _ _ _ _ hrow,List.getElem?_toArray,intsT_get _ _ (by rw[List.length_append,<-HL.out];simp;omega)]
  have e:(ws++[7777]).getD j 0=ws.getD j 0:=by simp[List.getD,List.getElem?_append_left (show j<ws.length by rw[<-HL.out];exact hj)]
  rw[e]
 have hsp:w.cell? ⟨t,L,none⟩=some (.int .i64 7777):=by
  rw[cell_of_row _ _ _ _ _ _ hrow,List.getElem?_toArray,intsT_get _ _ (by rw[List.length_append,<-HL.out];simp)]
  have e:(ws++[7777]).getD L 0=7777:=by simp[List.getD,HL.out]
  rw[e]
 have hne:((L:Int)!=L)=false:=by simp
 clear hrow
 go_enter Tryz.func34,Tryz.ntmps34
 go_wp2_with fail
 go_loopw [5] (fun ii wr=> ∃(i q:Nat),ii= .int .i64 i/\i<=L/\Hid (wr=w.drewN q)) (fun ii _=>L-(RowKit.intOf ii).toNat)
 case atStart=>exact⟨0,0,rfl,Nat.zero_le _,rfl⟩
 case round =>
  obtain⟨i,q,rfl,hiL,HQ⟩:=hrel
  have hce: ∀a,wr.cell? a=w.cell? a:=fun a=>by rw[HQ.out];rfl
  by_cases hi:i<L
  ·have hi':i<ws.length:=by rw[<-HL.out];exact hi
   obtain⟨b,off,e,_,hc⟩:=h.lies (by omega)
   subst e
   have c0:=hct i hi
   have d0:=hc i hi'
   obtain⟨x,hxx⟩: ∃x,x=ws.getD i 0:=⟨_,rfl⟩
   rw[<-hxx,<-hce]at c0 d0
   clear hxx hct hc hsp hce
   have hq:(x !=x)=false:=by simp
   go_wp2_with fail
   go_quiet (fail)
   go_wp2
   go_roundw
   case rel=>exact⟨i+1,q+nq,by simp,by omega,by show _=_;rw[HQ.out];simp⟩
   case measure=>simp[RowKit.intOf];omega
  ·have hiL':L<=i:=by omega
   have c0:=hsp
   rw[<-hce]at c0
   have hFq:Fr [] w wr:=by rw[HQ.out];exact Fr.drewN _ _ _
   clear hct hce hsp
   go_wp2
   go_ret
   exact⟨by simp,hFq⟩
namespace Bq
theorem res_c1 {fn:Func} {p:Tmp} {t:TypeId} (h:fn.results= #[.cell p t]) (tmps:Array Value) (P:Program) (w:World) :
  (results fn tmps).run P w=((asAddr (tmps.getD p undef)).run P w).andThen fun a w₁=>(loadVar t a).run P w₁:=by
 simp only[results,h]
 simp[Sem.run_bind,Result.andThen]
end Bq
theorem zgo (a b:List Hd):hdsC (a++b)=hdsC a++hdsC b:=by simp[hdsC]
theorem zla (n:ByteArray) (ao:Option Addr) (L cap:Nat) (ws:List Vn) (w:World) (h:VRs w ao ws) (hLe:L=ws.length) (hL:L<2^21) :
  Calls Tryz.prog 71 #[.agg #[.string n,.slice ao L cap]] w fun e w'=> ∃b,e= .returned (.agg #[.string n,.slice (some ⟨b,0,none⟩) L (L+1)])/\w.heap.size<=b/\w'.heap[b]? = some (.cells (vnsC (ws++[spV])).toArray 157 (0,0))/\Fr [] w w':=by
 have HLe:Hid (L=ws.length):=hLe
 clear hLe
 obtain⟨w0,HW0⟩: ∃w0,Hid ((w.alloc (.cells #[.string n,.slice ao L cap] 97)).alloc (.cells #[.string ⟨#[]⟩,.slice none 0 0] 97)=w0):=⟨_,rfl⟩
 have hF0:Fr [] w w0:=by rw[<-HW0.out];exact (Fr.alloc [] w _).then (Fr.alloc [] _ _)
 have hb0:w0.heap[w.heap.size]? = some (.cells #[.string n,.slice ao L cap] 97 (0,0)):=by rw[<-HW0.out];exact (Fr.alloc [] _ _).keep (heap_alloc_new w _) (by simp)
 have hb1:w0.heap[w.heap.size+1]? = some (.cells #[.string ⟨#[]⟩,.slice none 0 0] 97 (0,0)):=by
  rw[<-HW0.out]
  have:=heap_alloc_new (w.alloc (.cells #[.string n,.slice ao L cap] 97)) (.cells #[.string ⟨#[]⟩,.slice none 0 0] 97)
  simpa using this
 have HB:Hid (∀W,Fr [] w0 W->W.heap[w.heap.size]? = some (.cells #[.string n,.slice ao L cap] 97 (0,0))/\W.heap[w.heap.size+1]? = some (.cells #[.string ⟨#[]⟩,.slice none 0 0] 97 (0,0))):=fun W hf=>⟨hf.keep hb0 (by simp),hf.keep hb1 (by simp)⟩
 have hcell: ∀W,Fr [] w0 W->W.cell? ⟨w.heap.size,0,none⟩=some (.string n)/\W.cell? ⟨w.heap.size,1,none⟩=some (.slice ao L cap)/\W.cell? ⟨w.heap.size+1,0,none⟩=some (.string ⟨#[]⟩)/\W.cell? ⟨w.heap.size+1,1,none⟩=some (.slice none 0 0)/\W.frozen? ⟨w.heap.size+1,0,none⟩=false/\W.frozen? ⟨w.heap.size+1,1,none⟩=false:=by
  intro W hf
  obtain⟨a,b⟩:=HB.out W hf
  refine⟨?_,?_,?_,?_,?_,?_⟩
  ·rw[cell_of_row _ _ _ _ _ _ a];rfl
  ·rw[cell_of_row _ _ _ _ _ _ a];rfl
  ·rw[cell_of_row _ _ _ _ _ _ b];rfl
  ·rw[cell_of_row _ _ _ _ _ _ b];rfl
  ·simp[World.frozen?,b]
  ·simp[World.frozen?,b]
 have HCe:Hid (∀W,Fr [] w0 W->_):=hcell
 obtain⟨k0,k1,k2,k3,k4,k5⟩:=hcell _ (Fr.drew [] w0)
 have hT:=zpm ao L cap ws w0.drew (h.keep (hF0.then (Fr.drew [] w0))) HLe.out hL
 clear hcell hb0 hb1
 have hs0:w0.heap.size=w.heap.size+2:=by rw[<-HW0.out];simp
 go_enter Tryz.func71,Tryz.ntmps71
 go_upto_region 1 with fail
 rw[HW0.out]
 first
  | go_loud (go_region_held3 (fun W=>W.cell? ⟨w.heap.size,0,none⟩=some (.string n)/\W.cell? ⟨w.heap.size,1,none⟩=some (.slice ao L cap)) (go_keep)
    (first
    | (go_at_call 112;with_reducible refine hT.mono ?_;rintro e w1 ⟨b,rfl,hb,hrow,hF1⟩;have hG1:=(Fr.drew [] w0).then hF1;obtain⟨j0,j1,j2,j3,j4,j5⟩:=HCe.out _ hG1)))
  | fail
 have hbb:b≠w.heap.size+1:=by have:w0.drew.heap.size=w0.heap.size:=rfl;omega
 have hFs:Fr [w.heap.size+1] w1 ((w1.setCell ⟨w.heap.size+1,0,none⟩ (.string n)).setCell ⟨w.heap.size+1,1,none⟩ (.slice (some ⟨b,0,none⟩) L (L+1))):=(Fr.set w1 ⟨w.heap.size+1,0,none⟩ _ (by simp)).then (Fr.set _ ⟨w.heap.size+1,1,none⟩ _ (by simp))
 have HR:Hid (_/\_):=⟨hFs.keep hrow (by simp;exact hbb),(hF0.then hG1).on hFs (by intro x hx;simp at hx;omega)⟩
 have hbw:w.heap.size<=b:=by have:w0.drew.heap.size=w0.heap.size:=rfl;omega
 clear hFs hrow hF1 hG1 hT
 go_wp2
 refine bodyPost_ret (v:=(.agg #[.string n,.slice (some ⟨b,0,none⟩) L (L+1)])) (by rw[Bq.res_c1 rfl];go_simp) rfl ⟨b,rfl,hbw,HR.out.1,HR.out.2⟩
theorem zlb (n:ByteArray) (t:Nat) (ao:Option Addr) (L cap:Nat) (ws:List Vn) (w:World) (h:VRs w ao ws) (hLe:L=ws.length) (hL:L<2^21) (hrow:w.heap[t]? = some (.cells (vnsC (ws++[spV])).toArray 157 (0,0))) :
  Calls Tryz.prog 89 #[.agg #[.string n,.slice (some ⟨t,0,none⟩) L (L+1)],.agg #[.string n,.slice ao L cap]] w fun e w'=>e= .returned (.bool true)/\Fr [] w w':=by
 have HL:Hid (L=ws.length):=hLe
 clear hLe
 have hF0:Fr [] w ((w.alloc (.cells #[.string n,.slice (some ⟨t,0,none⟩) L (L+1)] 97)).alloc (.cells #[.string n,.slice ao L cap] 97)):=(Fr.alloc [] w _).then (Fr.alloc [] _ _)
 have hX:=zpn t ao L cap ws _ (h.keep hF0) HL.out hL (hF0.keep hrow (by simp))
 have hnn:(n.toList==n.toList)=true:=by simp
 go_enter Tryz.func89,Tryz.ntmps89
 go_wp2_with fail
 refine hX.mono ?_
 rintro e w1 ⟨rfl,hF1⟩
 have HG:Hid (Fr [] w w1):=hF0.then hF1
 clear hX hF1
 go_wp2
 go_ret
 exact⟨by simp,HG.out⟩
def spK:ByteArray:=⟨#[115,112,97,114,101]⟩
def spT:Hd:=⟨spK,none,0,0,[]⟩
def twT (t:Hd) (b:Nat):Hd:=⟨t.key,some ⟨b,0,none⟩,t.L,t.L+1,t.vs⟩
def twTs (ts:List Hd) (ks:List Nat):List Hd:=List.zipWith twT ts ks
theorem zba (ts:List Hd) (ks:List Nat) (h:ks.length=ts.length):(twTs ts ks).length=ts.length:=by simp[twTs,h]
theorem zfs (ts:List Hd) (ks:List Nat) (t:Hd) (k:Nat) (h:ks.length=ts.length):twTs (ts++[t]) (ks++[k])=twTs ts ks++[twT t k]:=by
 unfold twTs
 rw[List.zipWith_append h.symm]
 rfl
structure Twd (w w':World) (ts:List Hd) (ks:List Nat):Prop where
 len:ks.length=ts.length
 new: ∀k∈ks,w.heap.size<=k
 row: ∀(i:Nat) (t:Hd) (k:Nat),ts[i]? = some t->ks[i]? = some k->w'.heap[k]? = some (.cells (vnsC (t.vs++[spV])).toArray 157 (0,0))
 apart:ks.Nodup
theorem Twd.nil (w w':World):Twd w w' [] []:=⟨rfl,by simp,by simp,by simp⟩
theorem Twd.keep {S:List Nat} {w w1 w2:World} {ts:List Hd} {ks:List Nat} (h:Twd w w1 ts ks) (hf:Fr S w1 w2) (hn: ∀k∈ks,k∉S):Twd w w2 ts ks :=
 ⟨h.len,h.new,fun i t k ht hk=>hf.keep (h.row i t k ht hk) (hn k (List.mem_of_getElem? hk)),h.apart⟩
theorem Twd.lt {w w':World} {ts:List Hd} {ks:List Nat} (h:Twd w w' ts ks): ∀k∈ks,k<w'.heap.size:=by
 intro k hk
 obtain⟨i,hi⟩:=List.getElem?_of_mem hk
 have hl:i<ts.length:=by rw[<-h.len];exact (List.getElem?_eq_some_iff.1 hi).1
 exact lt_of_block (h.row i _ k (List.getElem?_eq_getElem hl) hi)
theorem Twd.snoc {w w1 w2:World} {ts:List Hd} {ks:List Nat} (h:Twd w w1 ts ks) (hf:Fr [] w1 w2) (hw:w.heap.size<=w1.heap.size) (t:Hd) (k:Nat) (hk:w1.heap.size<=k) (hr:w2.heap[k]? = some (.cells (vnsC (t.vs++[spV])).toArray 157 (0,0))):Twd w w2 (ts++[t]) (ks++[k]):=by
 have hl:=h.len
 refine⟨by simp[hl],?_,?_,?_⟩
 ·intro j hj
  rcases List.mem_append.1 hj with hj|hj
  ·exact h.new j hj
  ·simp at hj;omega
 ·intro i u j hu hj
  by_cases hi:i<ts.length
  ·rw[List.getElem?_append_left hi]at hu
   rw[List.getElem?_append_left (by omega)]at hj
   exact hf.keep (h.row i u j hu hj) (by simp)
  ·have hi2:i=ts.length:=by have:=(List.getElem?_eq_some_iff.1 hu).1;simp at this;omega
   subst hi2
   rw[List.getElem?_append_right (Nat.le_refl _)]at hu
   rw[<-hl,List.getElem?_append_right (Nat.le_refl _)]at hj
   simp at hu hj
   subst hu hj
   exact hr
 ·rw[List.nodup_append]
  refine⟨h.apart,by simp,?_⟩
  intro a ha b hb
  simp at hb
  have:=h.lt a ha
  omega
def Few (ts:List Hd):Prop:= ∀t∈ts,t.L<2^21
theorem zgz {w:World} {g n:Nat} {xs:List Value} (h:w.ownsRow 0 97 2 (.slice (some ⟨g,0,none⟩) n n) n xs):w.heap[g]? = some (.cells xs.toArray 97 (0,0)):=by
 have hl:=h.1
 rcases h.2 with ⟨hh,_⟩|⟨g',cap',cur,hh,_,hg,_,_,hcs,ht⟩
 ·cases hh
 ·cases hh
  rw[hg]
  congr 2
  rw[<-Array.toList_inj]
  simp only
  rw[<-ht,List.take_of_length_le (by simp[hcs])]
theorem Tryz.infoHdW:(Tryz.prog.info? 97).map (fun i=>(i.zero,i.size,i.bytes))=some (some (.agg #[.string ⟨#[]⟩,.slice none 0 0]),2,40):=by kernel_rfl
theorem Tryz.undHdsW:Tryz.prog.underlying 26=some (.slice 97):=by kernel_rfl
theorem zpr (ao:Option Addr) (L cap:Nat) (ts:List Hd) (w:World) (h:HRs w ao ts) (hLe:L=ts.length) (hL:L<2^21) (hfew:Few ts) :
  Calls Tryz.prog 23 #[.slice ao L cap] w fun e w'=> ∃b ks,e= .returned (.slice (some ⟨b,0,none⟩) L (L+1))/\w.heap.size<=b/\w'.heap[b]? = some (.cells (hdsC (twTs ts ks++[spT])).toArray 97 (0,0))/\Twd w w' ts ks/\Fr [] w w':=by
 obtain⟨i0,hi,hz0,hz1,hz2⟩:=info_parts Tryz.infoHdW
 have HL:Hid (L=ts.length):=hLe
 have HFew:Hid (Few ts):=hfew
 clear hLe hfew
 go_enter Tryz.func23,Tryz.ntmps23
 go_wp2_with (at_make;refine wpList_make_own _ rfl (.const (.int .i64 0)) (.tmp 7) 26 rfl 0 97 i0 _ 2 Tryz.undHdsW hi hz0 hz1 .i64 .i64 ((L:Int)+1) (L+1) rfl rfl ?bC ?b2 ?b3 ?b4 ?_)
 case bC=>simp
 case b2=>rw[hz2];omega
 case b3=>unfold maxLen;omega
 case b4=>exact Nat.zero_le _
 intro w1 hown hgrow
 obtain⟨g,hg⟩: ∃g,g=w.heap.size:=⟨_,rfl⟩
 have hgw:w.heap.size<=g:=by omega
 rw[<-hg]at hown ⊢
 have h01:Fr [] w w1:=Fr.grown (S:=[]) hgrow (by simp)
 clear hgrow hg
 go_wp2_with fail
 go_loopw [3,4] (fun vv ii wr=> ∃(i:Nat) (ks:List Nat),vv= .slice (some ⟨g,0,none⟩) i (L+1)/\ii= .int .i64 i/\i<=L/\wr.ownsRow 0 97 2 (.slice (some ⟨g,0,none⟩) i (L+1)) i (hdsC (twTs (ts.take i) ks))/\Hid (Twd w wr (ts.take i) ks)/\Fr [] w wr) (fun _ ii _=>L-(RowKit.intOf ii).toNat)
 case atStart=>exact⟨0,[],rfl,rfl,Nat.zero_le _,by simpa[twTs,hdsC]using hown,Twd.nil _ _,h01⟩
 case round =>
  obtain⟨i,ks,rfl,rfl,hiL,hO,HW,hF⟩:=hrel
  have hsz:=(hO.lt g rfl).2
  by_cases hil:i<L
  ·have hi':i<ts.length:=by rw[<-HL.out];exact hil
   obtain⟨b,off,e,_,hc⟩:=(h.keep hF).lies (by omega)
   subst e
   obtain⟨d0,d1⟩:=hc i hi'
   have hat:=(h.keep hF).each _ (zdt ts i hi')
   have hfw:=HFew.out _ (zdt ts i hi')
   obtain⟨x,hx⟩: ∃x,x=ts.getD i Hd.zero:=⟨_,rfl⟩
   rw[<-hx]at d0 d1 hat hfw
   have HTK:Hid (ts.take (i+1)=ts.take i++[x]):=by show _=_;rw[zpo ts i hi',hx]
   clear hc hx
   obtain⟨n,xo,M,cm,ws⟩:=x
   simp only at d0 d1 hfw
   have hat':HEach wr ⟨n,xo,M,cm,ws⟩:=hat
   go_wp2_with fail
   refine (zla n xo M cm ws _ hat'.rs hat'.len hfw).mono ?_
   rintro e w2 ⟨k,rfl,hk,hrow2,hF2⟩
   have hO2:=zfe hO hF2 (by simp)
   have HW2:Hid (Twd w w2 (ts.take (i+1)) (ks++[k])):=by
    show Twd _ _ _ _
    rw[HTK.out]
    exact HW.out.snoc hF2 hF.size ⟨n,xo,M,cm,ws⟩ k hk hrow2
   have HE:Hid (hdsC (twTs (ts.take (i+1)) (ks++[k]))=hdsC (twTs (ts.take i) ks)++[.string n,.slice (some ⟨k,0,none⟩) M (M+1)]):=by
    show _=_
    rw[HTK.out,zfs _ _ _ _ HW.out.len,zgo]
    rfl
   have hG2:=hF.then hF2
   have hs2:=hF2.size
   have hgk:g∉(ks++[k]):=by
    intro hm
    obtain⟨j,hj⟩:=List.getElem?_of_mem hm
    have hl:j<(ts.take (i+1)).length:=by rw[<-HW2.out.len];exact (List.getElem?_eq_some_iff.1 hj).1
    have h1:=HW2.out.row j _ g (List.getElem?_eq_getElem hl) hj
    obtain⟨cs,h2⟩:=own_type hO2 g rfl
    rw[h1]at h2
    simp at h2
   clear hat hat' hO hrow2 hF2 d0 d1 hF HW
   go_wp2_with (at_builtin;refine wpList_append_fits _ rfl (.tmp 15) (.tmp 21) 26 rfl 0 97 i0 2 Tryz.undHdsW hi hz1 g i (L+1) _ rfl (hO2.alloc _) ⟨w2.heap.size,0,none⟩ 1 1 [.string n,.slice (some ⟨k,0,none⟩) M (M+1)] rfl rfl ?c1 ?c2 ?c3 ?_)
   case c1=>intro j u hj;match j,hj with|0,hj=>simp at hj;subst hj;simp[Addr.add]|1,hj=>simp at hj;subst hj;simp[Addr.add]
   case c2=>intro u hu;simp at hu;rcases hu with rfl|rfl<;>rfl
   case c3=>omega
   intro w3 hO3 hg3
   rw[<-HE.out]at hO3
   have hF3:Fr [g] w2 w3:=((Fr.alloc [] w2 _).mono (by simp)).then (Fr.grown (S:=[g]) hg3 (by intro k hk _;cases hk;simp))
   have HW3:Hid (Twd w w3 (ts.take (i+1)) (ks++[k])):=HW2.out.keep hF3 (fun j hj=>by intro hh;simp at hh;subst hh;exact hgk hj)
   have hG3:Fr [] w w3:=hG2.on hF3 (by intro y hy;simp at hy;omega)
   clear hO2 hg3 hF3 hG2 HW2 hgk
   go_wp2
   go_roundw
   case rel=>exact⟨i+1,ks++[k],rfl,by simp,by omega,hO3,HW3,hG3⟩
   case measure=>simp[RowKit.intOf];omega
  ·have hiL':L<=i:=by omega
   obtain rfl:i=L:=by omega
   have HTK:Hid (ts.take i=ts):=List.take_of_length_le (by rw[<-HL.out];omega)
   have HE:Hid (hdsC (twTs ts ks++[spT])=hdsC (twTs (ts.take i) ks)++[.string spK,.slice none 0 0]):=by
    show _=_
    rw[HTK.out,zgo];rfl
   have hgk:g∉ks:=by
    intro hm
    obtain⟨j,hj⟩:=List.getElem?_of_mem hm
    have hl:j<(ts.take i).length:=by rw[<-HW.out.len];exact (List.getElem?_eq_some_iff.1 hj).1
    have h1:=HW.out.row j _ g (List.getElem?_eq_getElem hl) hj
    obtain⟨cs,h2⟩:=own_type hO g rfl
    rw[h1]at h2
    simp at h2
   go_wp2_with (at_builtin;refine wpList_append_fits _ rfl (.tmp 23) (.tmp 25) 26 rfl 0 97 i0 2 Tryz.undHdsW hi hz1 g i (i+1) _ rfl (hO.alloc _) ⟨wr.heap.size,0,none⟩ 1 1 [.string spK,.slice none 0 0] rfl rfl ?c1 ?c2 ?c3 ?_)
   case c1=>intro j u hj;match j,hj with|0,hj=>simp at hj;subst hj;simp[Addr.add,spK]|1,hj=>simp at hj;subst hj;simp[Addr.add]
   case c2=>intro u hu;simp at hu;rcases hu with rfl|rfl<;>rfl
   case c3=>omega
   intro w2 hO2 hg2
   rw[<-HE.out]at hO2
   have hF1:Fr [g] wr w2:=((Fr.alloc [] wr _).mono (by simp)).then (Fr.grown (S:=[g]) hg2 (by intro k hk _;cases hk;simp))
   have hF2:Fr [] w w2:=hF.on hF1 (by intro y hy;simp at hy;omega)
   have HRow:Hid (w2.heap[g]? = some (.cells (hdsC (twTs ts ks++[spT])).toArray 97 (0,0))):=zgz hO2
   have HW2:Hid (Twd w w2 ts ks):=by
    have:=HW.out.keep hF1 (fun j hj=>by intro hh;simp at hh;subst hh;exact hgk hj)
    rw[HTK.out]at this
    exact this
   clear hO hg2 hF hO2 hF1 HW hgk
   go_wp2
   go_ret
   exact⟨g,ks,rfl,hgw,HRow.out,HW2.out,hF2⟩
theorem zps (b:Nat) (ks:List Nat) (w0:World) (ao:Option Addr) (L cap:Nat) (ts:List Hd) (w:World) (h:HRs w ao ts) (hLe:L=ts.length) (hL:L<2^21) (hfew:Few ts) (hT:Twd w0 w ts ks) (hrow:w.heap[b]? = some (.cells (hdsC (twTs ts ks++[spT])).toArray 97 (0,0))) :
  Calls Tryz.prog 35 #[.slice (some ⟨b,0,none⟩) L (L+1),.slice ao L cap] w fun e w'=>e= .returned (.bool true)/\Fr [] w w':=by
 have HL:Hid (L=ts.length):=hLe
 have HFew:Hid (Few ts):=hfew
 have HT:Hid (Twd w0 w ts ks):=hT
 have hcl: ∀j c,j<L+1->c<2->w.cell? ⟨b,j*2+c,none⟩=(hdC ((twTs ts ks++[spT]).getD j Hd.zero))[c]? :=by
  intro j c hj hc
  rw[cell_of_row _ _ _ _ _ _ hrow]
  have:=zvm (twTs ts ks++[spT]) j (by rw[List.length_append,zba ts ks hT.len,<-hLe];simpa using hj)
  obtain rfl|rfl:c=0\/c=1:=by omega
  ·simpa[hdC]using this.1
  ·simpa[hdC]using this.2
 have hlb:=lt_of_block hrow
 have hct: ∀j t k,ts[j]? = some t->ks[j]? = some k->w.cell? ⟨b,j*2,none⟩=some (.string t.key)/\w.cell? ⟨b,j*2+1,none⟩=some (.slice (some ⟨k,0,none⟩) t.L (t.L+1)):=by
  intro j t k ht hk
  have hj:j<ts.length:=(List.getElem?_eq_some_iff.1 ht).1
  have hu:(twTs ts ks)[j]? = some (twT t k):=by
   unfold twTs
   rw[List.getElem?_zipWith,ht,hk]
  have e:(twTs ts ks++[spT]).getD j Hd.zero=twT t k:=by
   rw[List.getD,List.getElem?_append_left (by rw[zba ts ks hT.len];exact hj),hu]
   rfl
  have a:=hcl j 0 (by omega) (by omega)
  have c:=hcl j 1 (by omega) (by omega)
  rw[e]at a c
  exact⟨a,c⟩
 have hsp:w.cell? ⟨b,L*2,none⟩=some (.string spK)/\w.cell? ⟨b,L*2+1,none⟩=some (.slice none 0 0):=by
  have e:(twTs ts ks++[spT]).getD L Hd.zero=spT:=by
   rw[List.getD,List.getElem?_append_right (by rw[zba ts ks hT.len];omega),zba ts ks hT.len,hLe]
   simp
  have a:=hcl L 0 (by omega) (by omega)
  have c:=hcl L 1 (by omega) (by omega)
  rw[e]at a c
  exact⟨a,c⟩
 have HCT:Hid (∀j t k,ts[j]? = some t->ks[j]? = some k->_):=hct
 have hne:((L:Int)!=L)=false:=by simp
 clear hLe hfew hT hrow hcl hct
 go_enter Tryz.func35,Tryz.ntmps35
 go_wp2_with fail
 go_loopw [5] (fun ii wr=> ∃(i:Nat),ii= .int .i64 i/\i<=L/\Fr [] w wr) (fun ii _=>L-(RowKit.intOf ii).toNat)
 case atStart=>exact⟨0,rfl,Nat.zero_le _,Fr.refl _ _⟩
 case round =>
  obtain⟨i,rfl,hiL,hFr⟩:=hrel
  by_cases hi:i<L
  ·have hix:i<ts.length:=by rw[<-HL.out];exact hi
   have hik:i<ks.length:=by rw[HT.out.len];exact hix
   obtain⟨b2,o2,rfl,hlt2,hc2⟩:=(h.keep hFr).lies (by omega)
   have hy:=hc2 i hix
   have haty:=(h.keep hFr).each _ (zdt ts i hix)
   have hfw:=HFew.out _ (zdt ts i hix)
   have hty:ts[i]? = some (ts.getD i Hd.zero):=by simp[List.getD,hix]
   obtain⟨k,hk⟩: ∃k,ks[i]? = some k:=⟨_,List.getElem?_eq_getElem hik⟩
   obtain⟨c0,c1⟩:=HCT.out i _ k hty hk
   have hrowk:=HT.out.row i _ k hty hk
   obtain⟨y,hyy⟩: ∃y,y=ts.getD i Hd.zero:=⟨_,rfl⟩
   rw[<-hyy]at hy haty c0 c1 hrowk hfw
   clear hyy hc2 hty hk
   obtain⟨n2,x2,m2,k2,ws2⟩:=y
   obtain⟨d0,d1⟩:=hy
   simp only at c0 c1 d0 d1 hrowk hfw
   have hay:HEach wr ⟨n2,x2,m2,k2,ws2⟩:=haty
   have hST:=zlb n2 k x2 m2 k2 ws2 wr.drew (hay.rs.keep (Fr.drew [] wr)) hay.len hfw ((hFr.then (Fr.drew [] wr)).keep hrowk (by simp))
   have p0:wr.drew.cell? ⟨b,i*2,none⟩=some (.string n2):=(World.cell?_of_block ((hFr.then (Fr.drew [] wr)).block b hlb (by simp))).trans c0
   have p1:wr.drew.cell? ⟨b,i*2+1,none⟩=some (.slice (some ⟨k,0,none⟩) m2 (m2+1)):=(World.cell?_of_block ((hFr.then (Fr.drew [] wr)).block b hlb (by simp))).trans c1
   have g0:wr.drew.cell? ⟨b2,o2+i*2,none⟩=some (.string n2):=d0
   have g1:wr.drew.cell? ⟨b2,o2+i*2+1,none⟩=some (.slice x2 m2 k2):=d1
   have hq1:b<wr.drew.heap.size:=by have:=(hFr.then (Fr.drew [] wr)).size;omega
   have hq2:b2<wr.drew.heap.size:=hlt2
   have r0:wr.cell? ⟨b,i*2,none⟩=some (.string n2):=p0
   have r1:wr.cell? ⟨b,i*2+1,none⟩=some (.slice (some ⟨k,0,none⟩) m2 (m2+1)):=p1
   clear haty hay hlt2 c0 c1 hrowk
   go_wp2_with fail
   go_region_held3 (fun W=>W.cell? ⟨b,i*2,none⟩=some (.string n2)/\W.cell? ⟨b,i*2+1,none⟩=some (.slice (some ⟨k,0,none⟩) m2 (m2+1))/\W.cell? ⟨b2,o2+i*2,none⟩=some (.string n2)/\W.cell? ⟨b2,o2+i*2+1,none⟩=some (.slice x2 m2 k2)) (go_keep)
    (with_reducible refine hST.mono ?_;rintro e w2 ⟨rfl,hF2⟩;have z0:=(World.cell?_of_block (hF2.block b hq1 (by simp))).trans p0;have z1:=(World.cell?_of_block (hF2.block b hq1 (by simp))).trans p1;have z2:=(World.cell?_of_block (hF2.block b2 hq2 (by simp))).trans g0;have z3:=(World.cell?_of_block (hF2.block b2 hq2 (by simp))).trans g1)
   have hG2:=hFr.then ((Fr.drew [] wr).then hF2)
   clear hST hF2 d0 d1 p0 p1 g0 g1 r0 r1 z0 z1 z2 z3
   go_wp2
   go_roundw
   case rel=>exact⟨i+1,by simp,by omega,hG2⟩
   case measure=>simp[RowKit.intOf];omega
  ·obtain rfl:i=L:=by omega
   have c0:wr.cell? ⟨b,i*2,none⟩=some (.string spK):=(World.cell?_of_block (hFr.block b hlb (by simp))).trans hsp.1
   have c1:wr.cell? ⟨b,i*2+1,none⟩=some (.slice none 0 0):=(World.cell?_of_block (hFr.block b hlb (by simp))).trans hsp.2
   go_wp2
   go_ret
   exact⟨by simp[show spK.toList=[115,112,97,114,101] from by decide +kernel],hFr.then (Fr.alloc [] _ _)⟩
open BigFrame Go.Maps
structure TwS (w0 w:World) (bs:List Int) (hs:List Hd) (bb bh:Nat) (ks:List Nat):Prop where
 nb:w0.heap.size<=bb
 nh:w0.heap.size<=bh
 rb:w.heap[bb]? = some (.cells (zbz (bs++[7777])).toArray 3 (0,0))
 rh:w.heap[bh]? = some (.cells (hdsC (twTs hs ks++[spT])).toArray 97 (0,0))
 tw:Twd w0 w hs ks
theorem TwS.keep {w0 w w':World} {bs:List Int} {hs:List Hd} {bb bh:Nat} {ks:List Nat} (h:TwS w0 w bs hs bb bh ks) (hf:Fr [] w w'):TwS w0 w' bs hs bb bh ks:=⟨h.nb,h.nh,hf.keep h.rb (by simp),hf.keep h.rh (by simp),h.tw.keep hf (by simp)⟩
theorem zcu {W:World} {b:Nat} {v0 v1 v2:Value} {ty:TypeId} (h:W.heap[b]? = some (.cells #[v0,v1,v2] ty (0,0))):W.cell? ⟨b,0,none⟩=some v0/\W.cell? ⟨b,1,none⟩=some v1/\W.cell? ⟨b,2,none⟩=some v2:=by
 refine⟨?_,?_,?_⟩<;>(rw[cell_of_row _ _ _ _ _ _ h];rfl)
theorem leftSv_any {w0 w:World} (m:Int) (bo ho:Option Addr) (Lb cb Lh ch:Nat) (bs:List Int) (hs:List Hd) (bb bh:Nat) (ks:List Nat) (hI:IRs w bo bs) (hLb:Lb=bs.length) (hH:HRs w ho hs) (hLh:Lh=hs.length) (hL:Lh<2^21) (hfew:Few hs) (hT:TwS w0 w bs hs bb bh ks) :
  Calls Tryz.prog 13 #[.agg #[.int .i64 m,.slice (some ⟨bb,0,none⟩) Lb (Lb+1),.slice (some ⟨bh,0,none⟩) Lh (Lh+1)],.agg #[.int .i64 m,.slice bo Lb cb,.slice ho Lh ch]] w fun e w'=>e= .returned (.bool true)/\Fr [] w w':=by
 have HE:Hid (∀W,Fr [] w W->Calls Tryz.prog 34 #[.slice (some ⟨bb,0,none⟩) Lb (Lb+1),.slice bo Lb cb] W fun e w'=>e= .returned (.bool true)/\Fr [] W w'):=fun W hW=>zpq bb bo Lb cb bs W (hI.keep hW) hLb (by have:=hI.few;omega) (hT.keep hW).rb
 have HH:Hid (∀W,Fr [] w W->Calls Tryz.prog 35 #[.slice (some ⟨bh,0,none⟩) Lh (Lh+1),.slice ho Lh ch] W fun e w'=>e= .returned (.bool true)/\Fr [] W w'):=fun W hW=>zps bh ks w0 ho Lh ch hs W (hH.keep hW) hLh hL hfew (hT.keep hW).tw (hT.keep hW).rh
 clear hI hH hT hLb hLh hfew
 obtain⟨W0,HW0⟩: ∃W0,Hid (((w.alloc (.cells #[.int .i64 m,.slice (some ⟨bb,0,none⟩) Lb (Lb+1),.slice (some ⟨bh,0,none⟩) Lh (Lh+1)] 28)).alloc (.cells #[.int .i64 m,.slice bo Lb cb,.slice ho Lh ch] 28))=W0):=⟨_,rfl⟩
 have h1:W0.heap[w.heap.size]? = some (.cells #[.int .i64 m,.slice (some ⟨bb,0,none⟩) Lb (Lb+1),.slice (some ⟨bh,0,none⟩) Lh (Lh+1)] 28 (0,0)):=by
  rw[<-HW0.out];exact (Fr.alloc [] _ _).keep (heap_alloc_new w _) (by simp)
 have h2:W0.heap[w.heap.size+1]? = some (.cells #[.int .i64 m,.slice bo Lb cb,.slice ho Lh ch] 28 (0,0)):=by
  rw[<-HW0.out]
  have:=heap_alloc_new (w.alloc (.cells #[.int .i64 m,.slice (some ⟨bb,0,none⟩) Lb (Lb+1),.slice (some ⟨bh,0,none⟩) Lh (Lh+1)] 28)) (.cells #[.int .i64 m,.slice bo Lb cb,.slice ho Lh ch] 28)
  simpa using this
 have HC:Hid (∀W,Fr [] W0 W->W.heap[w.heap.size]? = some (.cells #[.int .i64 m,.slice (some ⟨bb,0,none⟩) Lb (Lb+1),.slice (some ⟨bh,0,none⟩) Lh (Lh+1)] 28 (0,0))/\W.heap[w.heap.size+1]? = some (.cells #[.int .i64 m,.slice bo Lb cb,.slice ho Lh ch] 28 (0,0))):=fun W hW=>⟨hW.keep h1 (by simp),hW.keep h2 (by simp)⟩
 have HF0:Hid (Fr [] w W0):=by rw[<-HW0.out];exact (Fr.alloc [] w _).then (Fr.alloc [] _ _)
 clear h1 h2
 go_enter Tryz.func13,Tryz.ntmps13
 go_upto_region 1 with fail
 rw[HW0.out]
 obtain⟨q1,q2⟩:=HC.out W0 (Fr.refl _ _)
 obtain⟨a0,a1,a2⟩:=zcu q1
 obtain⟨b0,b1,b2⟩:=zcu q2
 clear q1 q2 HW0
 go_wp2_with fail
 refine (HE.out _ HF0.out).mono ?_
 rintro e' w1 ⟨rfl,hf1⟩
 have HF1:Hid (Fr [] W0 w1):=hf1
 obtain⟨q1,q2⟩:=HC.out w1 hf1
 clear a0 a1 a2 b0 b1 b2 hf1
 obtain⟨a0,a1,a2⟩:=zcu q1
 obtain⟨b0,b1,b2⟩:=zcu q2
 clear q1 q2
 go_wp2_with fail
 refine (HH.out _ (HF0.out.then HF1.out)).mono ?_
 rintro e' w2 ⟨rfl,hf2⟩
 have HF2:Hid (Fr [] W0 w2):=HF1.out.then hf2
 clear a0 a1 a2 b0 b1 b2 hf2
 go_wp2
 go_ret
 exact⟨by simp,HF0.out.then HF2.out⟩
theorem twinSv_any {w:World} (m:Int) (bo ho:Option Addr) (Lb cb Lh ch:Nat) (bs:List Int) (hs:List Hd) (hI:IRs w bo bs) (hLb:Lb=bs.length) (hH:HRs w ho hs) (hLh:Lh=hs.length) (hL:Lh<2^21) (hfew:Few hs) :
  Calls Tryz.prog 8 #[.agg #[.int .i64 m,.slice bo Lb cb,.slice ho Lh ch]] w fun e w'=> ∃bb bh ks,e= .returned (.agg #[.int .i64 m,.slice (some ⟨bb,0,none⟩) Lb (Lb+1),.slice (some ⟨bh,0,none⟩) Lh (Lh+1)])/\TwS w w' bs hs bb bh ks/\Fr [] w w':=by
 have hE: ∀W,Fr [] w W->Calls Tryz.prog 22 #[.slice bo Lb cb] W fun e w'=> ∃b,e= .returned (.slice (some ⟨b,0,none⟩) Lb (Lb+1))/\W.heap.size<=b/\w'.heap[b]? = some (.cells (zbz (bs++[7777])).toArray 3 (0,0))/\Fr [] W w':=fun W hW=>zpp bo Lb cb bs W (hI.keep hW) hLb (by have:=hI.few;omega)
 have hHh: ∀W,Fr [] w W->Calls Tryz.prog 23 #[.slice ho Lh ch] W fun e w'=> ∃b ks,e= .returned (.slice (some ⟨b,0,none⟩) Lh (Lh+1))/\W.heap.size<=b/\w'.heap[b]? = some (.cells (hdsC (twTs hs ks++[spT])).toArray 97 (0,0))/\Twd W w' hs ks/\Fr [] W w':=fun W hW=>zpr ho Lh ch hs W (hH.keep hW) hLh hL hfew
 clear hI hH hLb hLh hfew
 obtain⟨w0,HW0⟩: ∃w0,Hid ((w.alloc (.cells #[.int .i64 m,.slice bo Lb cb,.slice ho Lh ch] 28)).alloc (.cells #[.int .i64 0,.slice none 0 0,.slice none 0 0] 28)=w0):=⟨_,rfl⟩
 have hF0:Fr [] w w0:=by rw[<-HW0.out];exact (Fr.alloc [] w _).then (Fr.alloc [] _ _)
 have hb0:w0.heap[w.heap.size]? = some (.cells #[.int .i64 m,.slice bo Lb cb,.slice ho Lh ch] 28 (0,0)):=by rw[<-HW0.out];exact (Fr.alloc [] _ _).keep (heap_alloc_new w _) (by simp)
 have hb1:w0.heap[w.heap.size+1]? = some (.cells #[.int .i64 0,.slice none 0 0,.slice none 0 0] 28 (0,0)):=by
  rw[<-HW0.out]
  have:=heap_alloc_new (w.alloc (.cells #[.int .i64 m,.slice bo Lb cb,.slice ho Lh ch] 28)) (.cells #[.int .i64 0,.slice none 0 0,.slice none 0 0] 28)
  simpa using this
 have hs0:w0.heap.size=w.heap.size+2:=by rw[<-HW0.out];simp
 have hcell: ∀W,Fr [] w0 W->W.cell? ⟨w.heap.size,0,none⟩=some (.int .i64 m)/\W.cell? ⟨w.heap.size,1,none⟩=some (.slice bo Lb cb)/\W.cell? ⟨w.heap.size,2,none⟩=some (.slice ho Lh ch)/\W.cell? ⟨w.heap.size+1,0,none⟩=some (.int .i64 0)/\W.cell? ⟨w.heap.size+1,1,none⟩=some (.slice none 0 0)/\W.cell? ⟨w.heap.size+1,2,none⟩=some (.slice none 0 0)/\W.frozen? ⟨w.heap.size+1,0,none⟩=false/\W.frozen? ⟨w.heap.size+1,1,none⟩=false/\W.frozen? ⟨w.heap.size+1,2,none⟩=false:=by
  intro W hf
  have q1:=hf.keep hb0 (by simp)
  have q2:=hf.keep hb1 (by simp)
  obtain⟨x0,x1,x2⟩:=zcu q1
  obtain⟨y0,y1,y2⟩:=zcu q2
  exact⟨x0,x1,x2,y0,y1,y2,by simp[World.frozen?,q2],by simp[World.frozen?,q2],by simp[World.frozen?,q2]⟩
 have HE:Hid (∀W,Fr [] w0 W->Calls Tryz.prog 22 #[.slice bo Lb cb] W fun e' w'=> ∃bb,e'= .returned (.slice (some ⟨bb,0,none⟩) Lb (Lb+1))/\Hid (W.heap.size<=bb/\w'.heap[bb]? = some (.cells (zbz (bs++[7777])).toArray 3 (0,0)))/\Fr [] w0 w'/\w'.cell? ⟨w.heap.size,0,none⟩=some (.int .i64 m)/\w'.cell? ⟨w.heap.size,1,none⟩=some (.slice bo Lb cb)/\w'.cell? ⟨w.heap.size,2,none⟩=some (.slice ho Lh ch)/\w'.cell? ⟨w.heap.size+1,0,none⟩=some (.int .i64 0)/\w'.cell? ⟨w.heap.size+1,1,none⟩=some (.slice none 0 0)/\w'.cell? ⟨w.heap.size+1,2,none⟩=some (.slice none 0 0)/\w'.frozen? ⟨w.heap.size+1,0,none⟩=false/\w'.frozen? ⟨w.heap.size+1,1,none⟩=false/\w'.frozen? ⟨w.heap.size+1,2,none⟩=false):=fun W hW=>(hE W (hF0.then hW)).mono (by
  rintro e' w' ⟨b',h1,h2,h3,h4⟩
  exact⟨b',h1,⟨h2,h3⟩,hW.then h4,hcell _ (hW.then h4)⟩)
 have HH:Hid (∀W,Fr [] w0 W->Calls Tryz.prog 23 #[.slice ho Lh ch] W fun e' w'=> ∃bh ks,e'= .returned (.slice (some ⟨bh,0,none⟩) Lh (Lh+1))/\Hid (W.heap.size<=bh/\w'.heap[bh]? = some (.cells (hdsC (twTs hs ks++[spT])).toArray 97 (0,0))/\Twd W w' hs ks/\Fr [] W w')/\w'.cell? ⟨w.heap.size,0,none⟩=some (.int .i64 m)/\w'.cell? ⟨w.heap.size,1,none⟩=some (.slice bo Lb cb)/\w'.cell? ⟨w.heap.size,2,none⟩=some (.slice ho Lh ch)/\w'.cell? ⟨w.heap.size+1,0,none⟩=some (.int .i64 0)/\w'.cell? ⟨w.heap.size+1,1,none⟩=some (.slice none 0 0)/\w'.cell? ⟨w.heap.size+1,2,none⟩=some (.slice none 0 0)/\w'.frozen? ⟨w.heap.size+1,0,none⟩=false/\w'.frozen? ⟨w.heap.size+1,1,none⟩=false/\w'.frozen? ⟨w.heap.size+1,2,none⟩=false):=fun W hW=>(hHh W (hF0.then hW)).mono (by
  rintro e' w' ⟨b',ks,h1,h2,h3,h4,h5⟩
  exact⟨b',ks,h1,⟨h2,h3,h4,h5⟩,hcell _ (hW.then h5)⟩)
 obtain⟨k0,k1,k2,k3,k4,k5,k6,k7,k8⟩:=hcell _ (Fr.drew [] w0)
 have HD:Hid (Fr [] w0 w0.drew):=Fr.drew [] w0
 have HFw:Hid (Fr [] w w0/\w0.heap.size=w.heap.size+2):=⟨hF0,hs0⟩
 clear hcell hb0 hb1 hE hHh hF0 hs0
 go_enter Tryz.func8,Tryz.ntmps8
 go_upto_region 1 with fail
 rw[HW0.out]
 clear HW0
 go_loud (go_region_held3 (fun W=>W.cell? ⟨w.heap.size,0,none⟩=some (.int .i64 m)/\W.cell? ⟨w.heap.size,1,none⟩=some (.slice bo Lb cb)/\W.cell? ⟨w.heap.size,2,none⟩=some (.slice ho Lh ch)) (go_keep)
  (first
  | (go_at_call 22;with_reducible refine (HE.out _ HD.out).mono ?_;rintro e1 w1 ⟨bb,rfl,HB1,hF1,l0,l1,l2,l3,l4,l5,l6,l7,l8⟩)
  | (go_at_call 23;with_reducible refine (HH.out _ hF1).mono ?_;rintro e2 w2 ⟨bh,ks,rfl,HB2,m0,m1,m2,m3,m4,m5,m6,m7,m8⟩)))
 have hFs:Fr [w.heap.size+1] w2 (((w2.setCell ⟨w.heap.size+1,0,none⟩ (.int .i64 m)).setCell ⟨w.heap.size+1,1,none⟩ (.slice (some ⟨bb,0,none⟩) Lb (Lb+1))).setCell ⟨w.heap.size+1,2,none⟩ (.slice (some ⟨bh,0,none⟩) Lh (Lh+1))):=((Fr.set w2 ⟨w.heap.size+1,0,none⟩ _ (by simp)).then (Fr.set _ ⟨w.heap.size+1,1,none⟩ _ (by simp))).then (Fr.set _ ⟨w.heap.size+1,2,none⟩ _ (by simp))
 have HR:Hid (TwS w (((w2.setCell ⟨w.heap.size+1,0,none⟩ (.int .i64 m)).setCell ⟨w.heap.size+1,1,none⟩ (.slice (some ⟨bb,0,none⟩) Lb (Lb+1))).setCell ⟨w.heap.size+1,2,none⟩ (.slice (some ⟨bh,0,none⟩) Lh (Lh+1))) bs hs bb bh ks/\Fr [] w (((w2.setCell ⟨w.heap.size+1,0,none⟩ (.int .i64 m)).setCell ⟨w.heap.size+1,1,none⟩ (.slice (some ⟨bb,0,none⟩) Lb (Lb+1))).setCell ⟨w.heap.size+1,2,none⟩ (.slice (some ⟨bh,0,none⟩) Lh (Lh+1)))):=by
  obtain⟨g1,g2⟩:=HB1.out
  obtain⟨g3,g4,g5,g6⟩:=HB2.out
  obtain⟨g7,g8⟩:=HFw.out
  have g9:w0.drew.heap.size=w0.heap.size:=rfl
  have g10:bb<w1.heap.size:=lt_of_block g2
  have g11:w0.heap.size<=w1.heap.size:=hF1.size
  have g12:=g6.keep g2 (by simp)
  refine⟨⟨by omega,by omega,hFs.keep g12 (by simp;omega),hFs.keep g4 (by simp;omega),?_⟩,(g7.then (hF1.then g6)).on hFs (by intro x hx;simp at hx;omega)⟩
  refine⟨g5.len,fun k hk=>by have:=g5.new k hk;omega,fun i' t' k' ht' hk'=> ?_,g5.apart⟩
  have:=g5.new k' (List.mem_of_getElem? hk')
  exact hFs.keep (g5.row i' t' k' ht' hk') (by simp;omega)
 clear hFs HB1 HB2 hF1 HE HH HD HFw
 go_wp2
 refine bodyPost_ret (v:=(.agg #[.int .i64 m,.slice (some ⟨bb,0,none⟩) Lb (Lb+1),.slice (some ⟨bh,0,none⟩) Lh (Lh+1)])) (by rw[Bq.res_c1 rfl];go_simp) rfl ⟨bb,bh,ks,rfl,HR.out.1,HR.out.2⟩
section
variable {wS w0 w w':World} {s r:Option Addr} {n L b:Nat} {ts:List Hd} {ks:List Nat}
end
end Go.Proofs.YtaaghcimfcjehaaGreatDoor.Q
