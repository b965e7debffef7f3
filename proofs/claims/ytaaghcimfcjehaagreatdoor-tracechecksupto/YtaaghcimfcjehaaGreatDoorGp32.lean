/- Contracts and plain lemmas of this claim. -/
import Derived.Test.YtaaghcimfcjehaaGreatDoorGp29
import Derived.Test.YtaaghcimfcjehaaGreatDoorGp8
import Derived.Test.YtaaghcimfcjehaaGreatDoorRows
import Derived.Test.YtaaghcimfcjehaaGreatDoorGp30
import Derived.Laws.ResultCell
import Derived.Deep.RegionLaw
import Derived.Deep.RegionWith
import Derived.Deep.RegionHeld3
import Derived.Deep.CutRange
import Derived.Test.YtaaghcimfcjehaaGreatDoorGp31
import Derived.SizedLaws
import Derived.ChangeMaps5
import Derived.Deep.CondSized
import Derived.JoinedCond
set_option linter.unusedSimpArgs false
set_option linter.unusedVariables false
set_option maxHeartbeats 4000000
set_option maxRecDepth 100000
namespace Go.Proofs.YtaaghcimfcjehaaGreatDoor
open Go.ChangeShapes Go.WideShapes Go.ChangeAt Go.RowKit Go.Lib
section
variable {H:Type} {enc:TypeId×Value->H} {w:World}
theorem zgw (d:DataW H):1<=Rows.uptoBulk d:=by
 cases d with
 | lit l=>cases l<;>simp[Rows.uptoBulk]
 | _=>simp[Rows.uptoBulk]
theorem zdl: ∀l:List (DataW H),l.length<=Rows.uptoBulkAll l
 | []=>by simp[Rows.uptoBulkAll]
 | x::r=>by have:=zgw x;have:=zdl r;simp only[Rows.uptoBulkAll,List.length_cons];omega
theorem zci {t e:TypeId} {fuel:Nat} {ao:Option Addr} {L cap:Nat} {x:DataW H×List MemPlace} (ht:Tryz.prog.underlying t=some (.slice e)) (h:DataW.trod enc Tryz.prog w 0 (fun _=>true) true fuel t [.slice ao L cap]=some x):L<=Rows.uptoBulk x.1:=by
 rcases Go.Deep.open_slice ht h with ⟨hcs,_⟩|⟨a,len,c,m,n,D,Pl,hcs,hb,hl,hm,hmm,hx,hE⟩
 ·simp only[List.cons.injEq,Value.slice.injEq,and_true]at hcs
  omega
 ·simp only[List.cons.injEq,Value.slice.injEq,and_true]at hcs
  rw[hx]
  simp only[Rows.uptoBulk]
  have:=zdl ((List.range len).map D)
  simp only[List.length_map,List.length_range]at this
  omega
theorem zza {fuel:Nat} {v:Value} {x:DataW H×List MemPlace} (h:DataW.trod enc Tryz.prog w 0 (fun _=>true) true fuel 29 [v]=some x) (hsz: ∀n∈x.1.weights Tryz.prog 29,n<=reachBytes) :
  ∃ao L cap es,v= .slice ao L cap/\ERs w ao es/\L=es.length/\L<=cap/\cap<=4398046511104/\L<=Rows.uptoBulk x.1:=by
 obtain⟨ao,L,cap,es,hh⟩:=zuc (d:=x.1) (ps:=x.2) h hsz
 rcases hh with ⟨rfl,h1,h2,h3,h4,_⟩|rfl
 ·exact⟨ao,L,cap,es,rfl,h1,h2,h3,by omega,zci Tryz.undEvs' h⟩
 ·exact⟨none,0,0,[],rfl,ERs.nil _ _,rfl,Nat.le_refl _,by omega,by omega⟩
theorem Tryz.undIs21:Tryz.prog.underlying 25=some (.slice 3):=by kernel_rfl
theorem Tryz.undHds21:(match Tryz.prog.underlying 26 with|some (.slice _)=>true|_=>false)=true:=by kernel_rfl
theorem zrv {fuel:Nat} {v:Value} {x:DataW H×List MemPlace} (h:DataW.trod enc Tryz.prog w 0 (fun _=>true) true fuel 25 [v]=some x) (hsz: ∀n∈x.1.weights Tryz.prog 25,n<=reachBytes) :
  ∃ao L cap ns,v= .slice ao L cap/\IRs w ao ns/\L=ns.length/\L<=cap:=by
 rcases open_ints Tryz.undIs21 Tryz.eundI Tryz.ecI h with ⟨hcs,_⟩|⟨a,l,c,zs,hcs,_,hl,hm,hz,hx,hcell,hwz⟩
 ·simp only[List.cons.injEq,and_true]at hcs
  exact⟨none,0,0,[],hcs,⟨fun h=>by simp at h,by simp⟩,rfl,Nat.le_refl _⟩
 ·simp only[List.cons.injEq,and_true]at hcs
  simp only[if_true]at hz
  have hw:zs.length*Tryz.prog.bytesOf 3<=reachBytes:=by
   apply hsz
   rw[hx]
   simp only[DataW.weights,Tryz.undIs21,lits,List.length_map]
   rw[show (zs.take l).length+(zs.drop l).length=zs.length by rw[<-List.length_append,List.take_append_drop]]
   exact List.mem_cons_self
  rw[show Tryz.prog.bytesOf 3=8 from by kernel_rfl]at hw
  have hr:=reachBytes_lt
  exact⟨some a,l,c,zs.take l,hcs,IRs.of_open hl hz hcell (by omega),by rw[List.length_take];omega,by omega⟩
theorem zol {fuel:Nat} {v:Value} {x:DataW H×List MemPlace} (h:DataW.trod enc Tryz.prog w 0 (fun _=>true) true fuel 26 [v]=some x): ∃ao L cap,v= .slice ao L cap:=by
 have hu:=Tryz.undHds21
 cases hv:Tryz.prog.underlying 26 with
 | none=>rw[hv]at hu;simp at hu
 | some u =>
  rw[hv]at hu
  cases u with
  | slice e =>
   rcases Go.Deep.open_slice hv h with ⟨hcs,_⟩|⟨a,len,c,m,n,D,Pl,hcs,_⟩
   ·simp only[List.cons.injEq,and_true]at hcs
    exact⟨none,0,0,hcs⟩
   ·simp only[List.cons.injEq,and_true]at hcs
    exact⟨_,_,_,hcs⟩
  | _=>simp at hu
theorem Tryz.svFields:(match Tryz.prog.underlying 28 with|some (.struct fs)=>fs.toList.map (fun f=>(f.type,f.offset))|_=>[])=[(3,0),(25,1),(26,2)]:=by kernel_rfl
theorem Tryz.cSv21:Tryz.prog.cellsOf 28=3:=by kernel_rfl
theorem Tryz.cIs21:Tryz.prog.cellsOf 25=1:=by kernel_rfl
theorem Tryz.cHds21:Tryz.prog.cellsOf 26=1:=by kernel_rfl
theorem Tryz.cTs21:Tryz.prog.cellsOf 24=1:=by kernel_rfl
theorem Tryz.cEvs21:Tryz.prog.cellsOf 29=1:=by kernel_rfl
theorem Tryz.cTold21:Tryz.prog.cellsOf 31=9:=by kernel_rfl
theorem Tryz.toldFields:(match Tryz.prog.underlying 31 with|some (.struct fs)=>fs.toList.map (fun f=>(f.type,f.offset))|_=>[])=[(23,0),(24,4),(28,5),(29,8)]:=by kernel_rfl
theorem zrw {fuel:Nat} {cs:List Value} {x:DataW H×List MemPlace} (h:DataW.trod enc Tryz.prog w 0 (fun _=>true) true fuel 28 cs=some x) (hsz: ∀n∈x.1.weights Tryz.prog 28,n<=reachBytes) :
  ∃(m:Int) (bo:Option Addr) (bn bc:Nat) (xs:List Int) (ho:Option Addr) (hl hc:Nat),cs=[.int .i64 m,.slice bo bn bc,.slice ho hl hc]/\IRs w bo xs/\bn=xs.length/\bn<=bc:=by
 have hF:=Tryz.svFields
 cases hu:Tryz.prog.underlying 28 with
 | none=>rw[hu]at hF;simp at hF
 | some u =>
  rw[hu]at hF
  cases u with
  | struct fs =>
   simp only at hF
   obtain⟨ys,n,_,hx,hlen,hys,hf⟩:=DataW.trod_struct hu h
   rw[Tryz.cSv21]at hlen
   match cs,hlen with
   | [v0,v1,v2],_ =>
    have hl2:fs.toList.length=3:=by have:=congrArg List.length hF;simpa using this
    obtain⟨l,hl⟩: ∃l,l=fs.toList:=⟨_,rfl⟩
    rw[<-hl]at hF hl2
    match l,hl2 with
    | [f0,f1,f2],_ =>
     simp only[List.map_cons,List.map_nil,List.cons.injEq,Prod.mk.injEq,and_true]at hF
     obtain⟨⟨t0,o0⟩,⟨t1,o1⟩,⟨t2,o2⟩⟩:=hF
     have g: ∀(i:Nat) (f:Field),[f0,f1,f2][i]? = some f->fs[i]? = some f:=by
      intro i f hi
      rw[hl]at hi
      simpa using hi
     have r0:=hf 0 f0 (g 0 f0 rfl)
     have r1:=hf 1 f1 (g 1 f1 rfl)
     have r2:=hf 2 f2 (g 2 f2 rfl)
     rw[t0,o0,Tryz.ecI]at r0
     rw[t1,o1,Tryz.cIs21]at r1
     rw[t2,o2,Tryz.cHds21]at r2
     simp only[List.drop_zero,List.drop_succ_cons,List.take_succ_cons,List.take_zero]at r0 r1 r2
     have hy2:ys.length=3:=by rw[hys];have:=congrArg List.length hl;simpa using this.symm
     match ys,hy2 with
     | [y0,y1,y2],_ =>
      simp only[List.getElem?_cons_zero,List.getElem?_cons_succ]at r0 r1 r2
      have hty:fs.toList.map (·.type)=[3,25,26]:=by rw[<-hl];simp[t0,t1,t2]
      have hw: ∀(j:Nat) (t:TypeId) (d:DataW H),[3,25,26][j]? = some t->[y0.1,y1.1,y2.1][j]? = some d-> ∀q∈d.weights Tryz.prog t,q<=reachBytes:=fun j t d h1 h2 q hq=>by
       apply hsz
       rw[hx]
       simp only[DataW.weights,hu]
       rw[hty]
       exact DataW.weights_mem_each (j:=j) (t:=t) (d:=d) h1 h2 _ hq
      obtain⟨k0,e0,_,w0⟩:=DataW.trod_int Tryz.eundI r0
      obtain⟨bo,Lb,cb,bs,e1,hB,hLb,hcb⟩:=zrv r1 (hw 1 25 y1.1 rfl rfl)
      obtain⟨ao,L,cap,e2⟩:=zol r2
      simp only[List.cons.injEq,and_true]at e0
      exact⟨k0,bo,Lb,cb,bs,ao,L,cap,by rw[e0,e1,e2],hB,hLb,hcb⟩
  | _=>simp at hF
structure ToB (w:World) (c:Cf) (lo:Option Addr) (M mc:Nat) (ts:List Tm) (bo:Option Addr) (bn bc:Nat) (xs:List Int) (eo:Option Addr) (en ec:Nat) (es:List Ev):Prop where
 log:TRs w lo ts
 ln:M=ts.length
 lc:M<=mc
 bey:IRs w bo xs
 bl:bn=xs.length
 bcp:bn<=bc
 evs:ERs w eo es
 el:en=es.length
 ecp:en<=ec
 few:ec<=4398046511104
end
def spW:Wt:=⟨⟨#[115,112,97,114,101]⟩,⟨#[]⟩,false⟩
theorem Tryz.infoWtW:(Tryz.prog.info? 92).map (fun i=>(i.zero,i.size,i.bytes))=some (some (.agg #[.string ⟨#[]⟩,.string ⟨#[]⟩,.bool false]),3,40):=by kernel_rfl
theorem Tryz.undWsW:Tryz.prog.underlying 64=some (.slice 92):=by kernel_rfl
theorem zpw {fn:Func} {p:Tmp} {ty:TypeId} (h:fn.results= #[.cell p ty]) (tmps:Array Value) (P:Program) (w:World) :
  (results fn tmps).run P w=((asAddr (tmps.getD p undef)).run P w).andThen fun a w₁=>(loadVar ty a).run P w₁:=by
 simp only[results,h]
 simp[Sem.run_bind,Result.andThen]
theorem zsx {w:World} {g n:Nat} {xs:List Value} (h:w.ownsRow 0 92 3 (.slice (some ⟨g,0,none⟩) n n) n xs):w.heap[g]? = some (.cells xs.toArray 92 (0,0)):=by
 have hl:=h.1
 rcases h.2 with ⟨hh,_⟩|⟨g',cap',cur,hh,_,hg,_,_,hcs,ht⟩
 ·cases hh
 ·cases hh
  rw[hg]
  congr 2
  rw[<-Array.toList_inj]
  simp only
  rw[<-ht,List.take_of_length_le (by simp[hcs])]
theorem zpx (ao:Option Addr) (L cap:Nat) (ws:List Wt) (w:World) (h:WRs w ao ws) (hLe:L=ws.length) (hL:L<2^21) :
  Calls Tryz.prog 70 #[.slice ao L cap] w fun e w'=> ∃b,e= .returned (.slice (some ⟨b,0,none⟩) L (L+1))/\w.heap.size<=b/\w'.heap[b]? = some (.cells (wtsC (ws++[spW])).toArray 92 (0,0))/\Fr [] w w':=by
 obtain⟨i0,hi,hz0,hz1,hz2⟩:=info_parts Tryz.infoWtW
 have HL:Hid (L=ws.length):=hLe
 clear hLe
 go_enter Tryz.func70,Tryz.ntmps70
 go_wp2_with (at_make;refine wpList_make_own _ rfl (.const (.int .i64 0)) (.tmp 7) 64 rfl 0 92 i0 _ 3 Tryz.undWsW hi hz0 hz1 .i64 .i64 ((L:Int)+1) (L+1) rfl rfl ?bC ?b2 ?b3 ?b4 ?_)
 case bC=>simp
 case b2=>rw[hz2];omega
 case b3=>unfold maxLen;omega
 case b4=>exact Nat.zero_le _
 intro w1 hown hgrow
 obtain⟨g,hg⟩: ∃g,g=w.heap.size:=⟨_,rfl⟩
 have hgw:w.heap.size<=g:=by omega
 rw[<-hg]at hown ⊢
 have h01:Fr [] w w1:=Fr.grown (S:=[]) hgrow (by simp)
 clear hgrow hg
 go_wp2_with fail
 go_loopw [3,4] (fun vv ii wr=> ∃i:Nat,vv= .slice (some ⟨g,0,none⟩) i (L+1)/\ii= .int .i64 i/\i<=L/\wr.ownsRow 0 92 3 (.slice (some ⟨g,0,none⟩) i (L+1)) i (wtsC (ws.take i))/\Fr [] w wr) (fun _ ii _=>L-(RowKit.intOf ii).toNat)
 case atStart=>exact⟨0,rfl,rfl,Nat.zero_le _,hown,h01⟩
 case round =>
  obtain⟨i,rfl,rfl,hiL,hO,hF⟩:=hrel
  have hsz:=(hO.lt g rfl).2
  by_cases hil:i<L
  ·have hi':i<ws.length:=by rw[<-HL.out];exact hil
   obtain⟨b,off,e,_,hc⟩:=(h.keep hF).lies (by omega)
   subst e
   obtain⟨d0,d1,d2⟩:=hc i hi'
   obtain⟨x,hx⟩: ∃x,x=ws.getD i Wt.zero:=⟨_,rfl⟩
   rw[<-hx]at d0 d1 d2
   have HE:Hid (wtsC (ws.take (i+1))=wtsC (ws.take i)++[.string x.key,.string x.val,.bool x.drop]):=by
    show _=_
    rw[zhb ws i hi',zcv,<-hx];rfl
   clear hc hx
   obtain⟨key,val,drop⟩:=x
   simp only at d0 d1 d2 HE
   go_wp2_with (at_builtin;refine wpList_append_fits _ rfl (.tmp 15) (.tmp 20) 64 rfl 0 92 i0 3 Tryz.undWsW hi hz1 g i (L+1) _ rfl (hO.alloc _) ⟨wr.heap.size,0,none⟩ 1 1 [.string key,.string val,.bool drop] rfl rfl ?c1 ?c2 ?c3 ?_)
   case c1=>intro j u hj;match j,hj with|0,hj=>simp at hj;subst hj;simp[Addr.add]|1,hj=>simp at hj;subst hj;simp[Addr.add]|2,hj=>simp at hj;subst hj;simp[Addr.add]
   case c2=>intro u hu;simp at hu;rcases hu with rfl|rfl|rfl<;>rfl
   case c3=>omega
   intro w2 hO2 hg2
   rw[<-HE.out]at hO2
   have hF2:Fr [] w w2:=(hF.then (Fr.alloc [] wr _)).on (Fr.grown (S:=[g]) hg2 (by intro k hk _;cases hk;simp)) (by intro y hy;simp at hy;omega)
   clear hO hg2 hF d0 d1 d2
   go_wp2
   go_roundw
   case rel=>exact⟨i+1,rfl,by simp,by omega,hO2,hF2⟩
   case measure=>simp[RowKit.intOf];omega
  ·have hiL':L<=i:=by omega
   obtain rfl:i=L:=by omega
   have HE:Hid (wtsC (ws++[spW])=wtsC (ws.take i)++[.string ⟨#[115,112,97,114,101]⟩,.string ⟨#[]⟩,.bool false]):=by
    show _=_
    rw[List.take_of_length_le (by rw[<-HL.out];omega),zcv];rfl
   go_wp2_with (at_builtin;refine wpList_append_fits _ rfl (.tmp 22) (.tmp 24) 64 rfl 0 92 i0 3 Tryz.undWsW hi hz1 g i (i+1) _ rfl (hO.alloc _) ⟨wr.heap.size,0,none⟩ 1 1 [.string ⟨#[115,112,97,114,101]⟩,.string ⟨#[]⟩,.bool false] rfl rfl ?c1 ?c2 ?c3 ?_)
   case c1=>intro j u hj;match j,hj with|0,hj=>simp at hj;subst hj;simp[Addr.add]|1,hj=>simp at hj;subst hj;simp[Addr.add]|2,hj=>simp at hj;subst hj;simp[Addr.add]
   case c2=>intro u hu;simp at hu;rcases hu with rfl|rfl|rfl<;>rfl
   case c3=>omega
   intro w2 hO2 hg2
   rw[<-HE.out]at hO2
   have hF2:Fr [] w w2:=(hF.then (Fr.alloc [] wr _)).on (Fr.grown (S:=[g]) hg2 (by intro k hk _;cases hk;simp)) (by intro y hy;simp at hy;omega)
   have HRow:Hid (w2.heap[g]? = some (.cells (wtsC (ws++[spW])).toArray 92 (0,0))):=zsx hO2
   clear hO hg2 hF hO2
   go_wp2
   go_ret
   exact⟨g,rfl,hgw,HRow.out,hF2⟩
theorem zml (n:Int) (ao:Option Addr) (L cap:Nat) (ws:List Wt) (w:World) (h:WRs w ao ws) (hLe:L=ws.length) (hL:L<2^21) :
  Calls Tryz.prog 21 #[.agg #[.int .i64 n,.slice ao L cap]] w fun e w'=> ∃b,e= .returned (.agg #[.int .i64 n,.slice (some ⟨b,0,none⟩) L (L+1)])/\w.heap.size<=b/\w'.heap[b]? = some (.cells (wtsC (ws++[spW])).toArray 92 (0,0))/\Fr [] w w':=by
 have HLe:Hid (L=ws.length):=hLe
 clear hLe
 obtain⟨w0,HW0⟩: ∃w0,Hid ((w.alloc (.cells #[.int .i64 n,.slice ao L cap] 66)).alloc (.cells #[.int .i64 0,.slice none 0 0] 66)=w0):=⟨_,rfl⟩
 have hF0:Fr [] w w0:=by rw[<-HW0.out];exact (Fr.alloc [] w _).then (Fr.alloc [] _ _)
 have hb0:w0.heap[w.heap.size]? = some (.cells #[.int .i64 n,.slice ao L cap] 66 (0,0)):=by rw[<-HW0.out];exact (Fr.alloc [] _ _).keep (heap_alloc_new w _) (by simp)
 have hb1:w0.heap[w.heap.size+1]? = some (.cells #[.int .i64 0,.slice none 0 0] 66 (0,0)):=by
  rw[<-HW0.out]
  have:=heap_alloc_new (w.alloc (.cells #[.int .i64 n,.slice ao L cap] 66)) (.cells #[.int .i64 0,.slice none 0 0] 66)
  simpa using this
 have HB:Hid (∀W,Fr [] w0 W->W.heap[w.heap.size]? = some (.cells #[.int .i64 n,.slice ao L cap] 66 (0,0))/\W.heap[w.heap.size+1]? = some (.cells #[.int .i64 0,.slice none 0 0] 66 (0,0))):=fun W hf=>⟨hf.keep hb0 (by simp),hf.keep hb1 (by simp)⟩
 have hcell: ∀W,Fr [] w0 W->W.cell? ⟨w.heap.size,0,none⟩=some (.int .i64 n)/\W.cell? ⟨w.heap.size,1,none⟩=some (.slice ao L cap)/\W.cell? ⟨w.heap.size+1,0,none⟩=some (.int .i64 0)/\W.cell? ⟨w.heap.size+1,1,none⟩=some (.slice none 0 0)/\W.frozen? ⟨w.heap.size+1,0,none⟩=false/\W.frozen? ⟨w.heap.size+1,1,none⟩=false:=by
  intro W hf
  obtain⟨a,b⟩:=HB.out W hf
  refine⟨?_,?_,?_,?_,?_,?_⟩
  ·rw[cell_of_row _ _ _ _ _ _ a];rfl
  ·rw[cell_of_row _ _ _ _ _ _ a];rfl
  ·rw[cell_of_row _ _ _ _ _ _ b];rfl
  ·rw[cell_of_row _ _ _ _ _ _ b];rfl
  ·simp[World.frozen?,b]
  ·simp[World.frozen?,b]
 have HCe:Hid (∀W,Fr [] w0 W->_):=hcell
 obtain⟨k0,k1,k2,k3,k4,k5⟩:=hcell _ (Fr.drew [] w0)
 have hT:=zpx ao L cap ws w0.drew (h.keep (hF0.then (Fr.drew [] w0))) HLe.out hL
 clear hcell hb0 hb1
 have hs0:w0.heap.size=w.heap.size+2:=by rw[<-HW0.out];simp
 go_enter Tryz.func21,Tryz.ntmps21
 go_upto_region 1 with fail
 rw[HW0.out]
 first
  | go_loud (go_region_held3 (fun W=>W.cell? ⟨w.heap.size,0,none⟩=some (.int .i64 n)/\W.cell? ⟨w.heap.size,1,none⟩=some (.slice ao L cap)) (go_keep)
    (first
    | (go_at_call 70;with_reducible refine hT.mono ?_;rintro e w1 ⟨b,rfl,hb,hrow,hF1⟩;have hG1:=(Fr.drew [] w0).then hF1;obtain⟨j0,j1,j2,j3,j4,j5⟩:=HCe.out _ hG1)))
  | fail
 have hbb:b≠w.heap.size+1:=by have:w0.drew.heap.size=w0.heap.size:=rfl;omega
 have hFs:Fr [w.heap.size+1] w1 ((w1.setCell ⟨w.heap.size+1,0,none⟩ (.int .i64 n)).setCell ⟨w.heap.size+1,1,none⟩ (.slice (some ⟨b,0,none⟩) L (L+1))):=(Fr.set w1 ⟨w.heap.size+1,0,none⟩ _ (by simp)).then (Fr.set _ ⟨w.heap.size+1,1,none⟩ _ (by simp))
 have HR:Hid (_/\_):=⟨hFs.keep hrow (by simp;exact hbb),(hF0.then hG1).on hFs (by intro x hx;simp at hx;omega)⟩
 have hbw:w.heap.size<=b:=by have:w0.drew.heap.size=w0.heap.size:=rfl;omega
 clear hFs hrow hF1 hG1 hT
 go_wp2
 refine bodyPost_ret (v:=(.agg #[.int .i64 n,.slice (some ⟨b,0,none⟩) L (L+1)])) (by rw[zpw rfl];go_simp) rfl ⟨b,rfl,hbw,HR.out.1,HR.out.2⟩
theorem zpy (t:Nat) (ao:Option Addr) (L cap:Nat) (ws:List Wt) (w:World) (h:WRs w ao ws) (hLe:L=ws.length) (hL:L<2^21) (hrow:w.heap[t]? = some (.cells (wtsC (ws++[spW])).toArray 92 (0,0))) :
  Calls Tryz.prog 88 #[.slice (some ⟨t,0,none⟩) L (L+1),.slice ao L cap] w fun e w'=>e= .returned (.bool true)/\Fr [] w w':=by
 have HL:Hid (L=ws.length):=hLe
 clear hLe
 have hct: ∀j,j<L->WAt w t (j*3) (ws.getD j Wt.zero):=by
  intro j hj
  have key: ∀c,c<3->w.cell? ⟨t,j*3+c,none⟩=(wtC (ws.getD j Wt.zero))[c]? :=by
   intro c hc
   rw[cell_of_row _ _ _ _ _ _ hrow]
   have:=zdg (ws++[spW]) j c (by rw[List.length_append,<-HL.out];simp;omega) hc
   have e:(ws++[spW]).getD j Wt.zero=ws.getD j Wt.zero:=by simp[List.getD,List.getElem?_append_left (show j<ws.length by rw[<-HL.out];exact hj)]
   rw[e]at this
   simpa using this
  exact⟨key 0 (by omega),key 1 (by omega),key 2 (by omega)⟩
 have hsp:WAt w t (L*3) spW:=by
  have key: ∀c,c<3->w.cell? ⟨t,L*3+c,none⟩=(wtC spW)[c]? :=by
   intro c hc
   rw[cell_of_row _ _ _ _ _ _ hrow]
   have:=zdg (ws++[spW]) L c (by rw[List.length_append,<-HL.out];simp) hc
   have e:(ws++[spW]).getD L Wt.zero=spW:=by simp[List.getD,HL.out]
   rw[e]at this
   simpa using this
  exact⟨key 0 (by omega),key 1 (by omega),key 2 (by omega)⟩
 have hne:((L:Int)!=L)=false:=by simp
 have hgd:=Tryz.guardWt
 clear hrow
 go_enter Tryz.func88,Tryz.ntmps88
 go_wp2_with fail
 go_loopw [5] (fun ii wr=> ∃(i q:Nat),ii= .int .i64 i/\i<=L/\Hid (wr=w.drewN q)) (fun ii _=>L-(RowKit.intOf ii).toNat)
 case atStart=>exact⟨0,0,rfl,Nat.zero_le _,rfl⟩
 case round =>
  obtain⟨i,q,rfl,hiL,HQ⟩:=hrel
  have hce: ∀a,wr.cell? a=w.cell? a:=fun a=>by rw[HQ.out];rfl
  by_cases hi:i<L
  ·have hi':i<ws.length:=by rw[<-HL.out];exact hi
   obtain⟨b,off,e,_,hc⟩:=h.lies (by omega)
   subst e
   obtain⟨c0,c1,c2⟩:=hct i hi
   obtain⟨d0,d1,d2⟩:=hc i hi'
   obtain⟨x,hxx⟩: ∃x,x=ws.getD i Wt.zero:=⟨_,rfl⟩
   rw[<-hxx,<-hce]at c0 c1 c2 d0 d1 d2
   clear hxx hct hc hsp hce
   have hq: ∀w',(Op.equalIn 10000 92 (.agg #[.string x.key,.string x.val,.bool x.drop]) (.agg #[.string x.key,.string x.val,.bool x.drop])).run Tryz.prog w'= .ok true w':=fun w'=>by rw[zwm w' x x,(zjb x x).2 rfl]
   go_wp2_with fail
   go_quiet (fail)
   go_wp2
   go_roundw
   case rel=>exact⟨i+1,q+nq,by simp,by omega,by show _=_;rw[HQ.out];simp⟩
   case measure=>simp[RowKit.intOf];omega
  ·have hiL':L<=i:=by omega
   obtain⟨c0,c1,c2⟩:=hsp
   rw[<-hce]at c0 c1 c2
   have hFq:Fr [] w wr:=by rw[HQ.out];exact Fr.drewN _ _ _
   clear hct hce
   have hq: ∀w',(Op.equalIn 10000 92 (.agg #[.string ⟨#[115,112,97,114,101]⟩,.string ⟨#[]⟩,.bool false]) (.agg #[.string ⟨#[115,112,97,114,101]⟩,.string ⟨#[]⟩,.bool false])).run Tryz.prog w'= .ok true w':=fun w'=>by
    have:=zwm w' spW spW
    rw[(zjb spW spW).2 rfl]at this
    exact this
   simp only[spW]at c0 c1 c2
   go_wp2
   go_ret
   exact⟨by simp,hFq.then (Fr.alloc [] _ _)⟩
theorem zmm (n:Int) (t:Nat) (ao:Option Addr) (L cap:Nat) (ws:List Wt) (w:World) (h:WRs w ao ws) (hLe:L=ws.length) (hL:L<2^21) (hrow:w.heap[t]? = some (.cells (wtsC (ws++[spW])).toArray 92 (0,0))) :
  Calls Tryz.prog 33 #[.agg #[.int .i64 n,.slice (some ⟨t,0,none⟩) L (L+1)],.agg #[.int .i64 n,.slice ao L cap]] w fun e w'=>e= .returned (.bool true)/\Fr [] w w':=by
 have HL:Hid (L=ws.length):=hLe
 clear hLe
 have hF0:Fr [] w ((w.alloc (.cells #[.int .i64 n,.slice (some ⟨t,0,none⟩) L (L+1)] 66)).alloc (.cells #[.int .i64 n,.slice ao L cap] 66)):=(Fr.alloc [] w _).then (Fr.alloc [] _ _)
 have hX:=zpy t ao L cap ws _ (h.keep hF0) HL.out hL (hF0.keep hrow (by simp))
 have hnn:(n==n)=true:=by simp
 go_enter Tryz.func33,Tryz.ntmps33
 go_wp2_with fail
 refine hX.mono ?_
 rintro e w1 ⟨rfl,hF1⟩
 have HG:Hid (Fr [] w w1):=hF0.then hF1
 clear hX hF1
 go_wp2
 go_ret
 exact⟨by simp,HG.out⟩
def spT:Tm:=⟨7777,none,0,0,[]⟩
def twT (t:Tm) (b:Nat):Tm:=⟨t.n,some ⟨b,0,none⟩,t.L,t.L+1,t.ws⟩
def twTs (ts:List Tm) (ks:List Nat):List Tm:=List.zipWith twT ts ks
theorem zba (ts:List Tm) (ks:List Nat) (h:ks.length=ts.length):(twTs ts ks).length=ts.length:=by simp[twTs,h]
theorem zfs (ts:List Tm) (ks:List Nat) (t:Tm) (k:Nat) (h:ks.length=ts.length):twTs (ts++[t]) (ks++[k])=twTs ts ks++[twT t k]:=by
 unfold twTs
 rw[List.zipWith_append h.symm]
 rfl
theorem zvn {ts:List Tm} {ks:List Nat} {i:Nat} {u:Tm} (h:(twTs ts ks)[i]? = some u): ∃t k,ts[i]? = some t/\ks[i]? = some k/\u=twT t k:=by
 unfold twTs at h
 rw[List.getElem?_zipWith]at h
 cases ht:ts[i]? with
 | none=>simp[ht]at h
 | some t =>
  cases hk:ks[i]? with
  | none=>simp[ht,hk]at h
  | some k=>simp[ht,hk]at h;exact⟨t,k,rfl,rfl,h.symm⟩
structure Twd (w w':World) (ts:List Tm) (ks:List Nat):Prop where
 len:ks.length=ts.length
 new: ∀k∈ks,w.heap.size<=k
 row: ∀(i:Nat) (t:Tm) (k:Nat),ts[i]? = some t->ks[i]? = some k->w'.heap[k]? = some (.cells (wtsC (t.ws++[spW])).toArray 92 (0,0))
 apart:ks.Nodup
theorem Twd.nil (w w':World):Twd w w' [] []:=⟨rfl,by simp,by simp,by simp⟩
theorem Twd.keep {S:List Nat} {w w1 w2:World} {ts:List Tm} {ks:List Nat} (h:Twd w w1 ts ks) (hf:Fr S w1 w2) (hn: ∀k∈ks,k∉S):Twd w w2 ts ks :=
 ⟨h.len,h.new,fun i t k ht hk=>hf.keep (h.row i t k ht hk) (hn k (List.mem_of_getElem? hk)),h.apart⟩
theorem Twd.lt {w w':World} {ts:List Tm} {ks:List Nat} (h:Twd w w' ts ks): ∀k∈ks,k<w'.heap.size:=by
 intro k hk
 obtain⟨i,hi⟩:=List.getElem?_of_mem hk
 have hl:i<ts.length:=by rw[<-h.len];exact (List.getElem?_eq_some_iff.1 hi).1
 exact lt_of_block (h.row i _ k (List.getElem?_eq_getElem hl) hi)
theorem Twd.snoc {w w1 w2:World} {ts:List Tm} {ks:List Nat} (h:Twd w w1 ts ks) (hf:Fr [] w1 w2) (hw:w.heap.size<=w1.heap.size) (t:Tm) (k:Nat) (hk:w1.heap.size<=k) (hr:w2.heap[k]? = some (.cells (wtsC (t.ws++[spW])).toArray 92 (0,0))):Twd w w2 (ts++[t]) (ks++[k]):=by
 have hl:=h.len
 refine⟨by simp[hl],?_,?_,?_⟩
 ·intro j hj
  rcases List.mem_append.1 hj with hj|hj
  ·exact h.new j hj
  ·simp at hj;omega
 ·intro i u j hu hj
  by_cases hi:i<ts.length
  ·rw[List.getElem?_append_left hi]at hu
   rw[List.getElem?_append_left (by omega)]at hj
   exact hf.keep (h.row i u j hu hj) (by simp)
  ·have hi2:i=ts.length:=by have:=(List.getElem?_eq_some_iff.1 hu).1;simp at this;omega
   subst hi2
   rw[List.getElem?_append_right (Nat.le_refl _)]at hu
   rw[<-hl,List.getElem?_append_right (Nat.le_refl _)]at hj
   simp at hu hj
   subst hu hj
   exact hr
 ·rw[List.nodup_append]
  refine⟨h.apart,by simp,?_⟩
  intro a ha b hb
  simp at hb
  have:=h.lt a ha
  omega
def Few (ts:List Tm):Prop:= ∀t∈ts,t.L<2^21
theorem zgz {w:World} {g n:Nat} {xs:List Value} (h:w.ownsRow 0 66 2 (.slice (some ⟨g,0,none⟩) n n) n xs):w.heap[g]? = some (.cells xs.toArray 66 (0,0)):=by
 have hl:=h.1
 rcases h.2 with ⟨hh,_⟩|⟨g',cap',cur,hh,_,hg,_,_,hcs,ht⟩
 ·cases hh
 ·cases hh
  rw[hg]
  congr 2
  rw[<-Array.toList_inj]
  simp only
  rw[<-ht,List.take_of_length_le (by simp[hcs])]
theorem zjc {w:World} {e:TypeId} {size:Nat} {v:Value} {n:Nat} {vs:List Value} (h:w.ownsRow 0 e size v n vs): ∀k,v.ownBlock=some k-> ∃cs,w.heap[k]? = some (.cells cs e (0,0)):=by
 intro k hk
 rcases h.2 with ⟨rfl,_⟩|⟨g,cap,cur,rfl,_,hg,_⟩
 ·simp[Value.ownBlock]at hk
 ·simp[Value.ownBlock]at hk
  subst hk
  exact⟨_,hg⟩
theorem Tryz.infoTW:(Tryz.prog.info? 66).map (fun i=>(i.zero,i.size,i.bytes))=some (some (.agg #[.int .i64 0,.slice none 0 0]),2,32):=by kernel_rfl
theorem Tryz.undTsW:Tryz.prog.underlying 24=some (.slice 66):=by kernel_rfl
set_option maxHeartbeats 8000000 in
theorem zpz (ao:Option Addr) (L cap:Nat) (ts:List Tm) (w:World) (h:TRs w ao ts) (hLe:L=ts.length) (hL:L<2^21) (hfew:Few ts) :
  Calls Tryz.prog 7 #[.slice ao L cap] w fun e w'=> ∃b ks,e= .returned (.slice (some ⟨b,0,none⟩) L (L+1))/\w.heap.size<=b/\w'.heap[b]? = some (.cells (tmsC (twTs ts ks++[spT])).toArray 66 (0,0))/\Twd w w' ts ks/\Fr [] w w':=by
 obtain⟨i0,hi,hz0,hz1,hz2⟩:=info_parts Tryz.infoTW
 have HL:Hid (L=ts.length):=hLe
 have HFew:Hid (Few ts):=hfew
 clear hLe hfew
 go_enter Tryz.func7,Tryz.ntmps7
 go_wp2_with (at_make;refine wpList_make_own _ rfl (.const (.int .i64 0)) (.tmp 7) 24 rfl 0 66 i0 _ 2 Tryz.undTsW hi hz0 hz1 .i64 .i64 ((L:Int)+1) (L+1) rfl rfl ?bC ?b2 ?b3 ?b4 ?_)
 case bC=>simp
 case b2=>rw[hz2];omega
 case b3=>unfold maxLen;omega
 case b4=>exact Nat.zero_le _
 intro w1 hown hgrow
 obtain⟨g,hg⟩: ∃g,g=w.heap.size:=⟨_,rfl⟩
 have hgw:w.heap.size<=g:=by omega
 rw[<-hg]at hown ⊢
 have h01:Fr [] w w1:=Fr.grown (S:=[]) hgrow (by simp)
 clear hgrow hg
 go_wp2_with fail
 go_loopw [3,4] (fun vv ii wr=> ∃(i:Nat) (ks:List Nat),vv= .slice (some ⟨g,0,none⟩) i (L+1)/\ii= .int .i64 i/\i<=L/\wr.ownsRow 0 66 2 (.slice (some ⟨g,0,none⟩) i (L+1)) i (tmsC (twTs (ts.take i) ks))/\Hid (Twd w wr (ts.take i) ks)/\Fr [] w wr) (fun _ ii _=>L-(RowKit.intOf ii).toNat)
 case atStart=>exact⟨0,[],rfl,rfl,Nat.zero_le _,by simpa[twTs,tmsC]using hown,Twd.nil _ _,h01⟩
 case round =>
  obtain⟨i,ks,rfl,rfl,hiL,hO,HW,hF⟩:=hrel
  have hsz:=(hO.lt g rfl).2
  by_cases hil:i<L
  ·have hi':i<ts.length:=by rw[<-HL.out];exact hil
   obtain⟨b,off,e,_,hc⟩:=(h.keep hF).lies (by omega)
   subst e
   obtain⟨d0,d1⟩:=hc i hi'
   have hat:=(h.keep hF).each _ (zbf ts i hi')
   have hfw:=HFew.out _ (zbf ts i hi')
   obtain⟨x,hx⟩: ∃x,x=ts.getD i Tm.zero:=⟨_,rfl⟩
   rw[<-hx]at d0 d1 hat hfw
   have HTK:Hid (ts.take (i+1)=ts.take i++[x]):=by show _=_;rw[zhg ts i hi',hx]
   clear hc hx
   obtain⟨n,xo,M,cm,ws⟩:=x
   simp only at d0 d1 hfw
   have hat':TArg wr n xo M cm ws:=hat
   go_wp2_with fail
   refine (zml n xo M cm ws _ hat'.rs hat'.len hfw).mono ?_
   rintro e w2 ⟨k,rfl,hk,hrow2,hF2⟩
   have hO2:=zfe hO hF2 (by simp)
   have HW2:Hid (Twd w w2 (ts.take (i+1)) (ks++[k])):=by
    show Twd _ _ _ _
    rw[HTK.out]
    exact HW.out.snoc hF2 hF.size ⟨n,xo,M,cm,ws⟩ k hk hrow2
   have HE:Hid (tmsC (twTs (ts.take (i+1)) (ks++[k]))=tmsC (twTs (ts.take i) ks)++[.int .i64 n,.slice (some ⟨k,0,none⟩) M (M+1)]):=by
    show _=_
    rw[HTK.out,zfs _ _ _ _ HW.out.len,zdy]
    rfl
   have hG2:=hF.then hF2
   have hs2:=hF2.size
   have hgk:g∉(ks++[k]):=by
    intro hm
    obtain⟨j,hj⟩:=List.getElem?_of_mem hm
    have hl:j<(ts.take (i+1)).length:=by rw[<-HW2.out.len];exact (List.getElem?_eq_some_iff.1 hj).1
    have h1:=HW2.out.row j _ g (List.getElem?_eq_getElem hl) hj
    obtain⟨cs,h2⟩:=zjc hO2 g rfl
    rw[h1]at h2
    simp at h2
   clear hat hat' hO hrow2 hF2 d0 d1 hF HW
   go_wp2_with (at_builtin;refine wpList_append_fits _ rfl (.tmp 15) (.tmp 21) 24 rfl 0 66 i0 2 Tryz.undTsW hi hz1 g i (L+1) _ rfl (hO2.alloc _) ⟨w2.heap.size,0,none⟩ 1 1 [.int .i64 n,.slice (some ⟨k,0,none⟩) M (M+1)] rfl rfl ?c1 ?c2 ?c3 ?_)
   case c1=>intro j u hj;match j,hj with|0,hj=>simp at hj;subst hj;simp[Addr.add]|1,hj=>simp at hj;subst hj;simp[Addr.add]
   case c2=>intro u hu;simp at hu;rcases hu with rfl|rfl<;>rfl
   case c3=>omega
   intro w3 hO3 hg3
   rw[<-HE.out]at hO3
   have hF3:Fr [g] w2 w3:=((Fr.alloc [] w2 _).mono (by simp)).then (Fr.grown (S:=[g]) hg3 (by intro k hk _;cases hk;simp))
   have HW3:Hid (Twd w w3 (ts.take (i+1)) (ks++[k])):=HW2.out.keep hF3 (fun j hj=>by intro hh;simp at hh;subst hh;exact hgk hj)
   have hG3:Fr [] w w3:=hG2.on hF3 (by intro y hy;simp at hy;omega)
   clear hO2 hg3 hF3 hG2 HW2 hgk
   go_wp2
   go_roundw
   case rel=>exact⟨i+1,ks++[k],rfl,by simp,by omega,hO3,HW3,hG3⟩
   case measure=>simp[RowKit.intOf];omega
  ·have hiL':L<=i:=by omega
   obtain rfl:i=L:=by omega
   have HTK:Hid (ts.take i=ts):=List.take_of_length_le (by rw[<-HL.out];omega)
   have HE:Hid (tmsC (twTs ts ks++[spT])=tmsC (twTs (ts.take i) ks)++[.int .i64 7777,.slice none 0 0]):=by
    show _=_
    rw[HTK.out,zdy];rfl
   have hgk:g∉ks:=by
    intro hm
    obtain⟨j,hj⟩:=List.getElem?_of_mem hm
    have hl:j<(ts.take i).length:=by rw[<-HW.out.len];exact (List.getElem?_eq_some_iff.1 hj).1
    have h1:=HW.out.row j _ g (List.getElem?_eq_getElem hl) hj
    obtain⟨cs,h2⟩:=zjc hO g rfl
    rw[h1]at h2
    simp at h2
   go_wp2_with (at_builtin;refine wpList_append_fits _ rfl (.tmp 23) (.tmp 25) 24 rfl 0 66 i0 2 Tryz.undTsW hi hz1 g i (i+1) _ rfl (hO.alloc _) ⟨wr.heap.size,0,none⟩ 1 1 [.int .i64 7777,.slice none 0 0] rfl rfl ?c1 ?c2 ?c3 ?_)
   case c1=>intro j u hj;match j,hj with|0,hj=>simp at hj;subst hj;simp[Addr.add]|1,hj=>simp at hj;subst hj;simp[Addr.add]
   case c2=>intro u hu;simp at hu;rcases hu with rfl|rfl<;>rfl
   case c3=>omega
   intro w2 hO2 hg2
   rw[<-HE.out]at hO2
   have hF1:Fr [g] wr w2:=((Fr.alloc [] wr _).mono (by simp)).then (Fr.grown (S:=[g]) hg2 (by intro k hk _;cases hk;simp))
   have hF2:Fr [] w w2:=hF.on hF1 (by intro y hy;simp at hy;omega)
   have HRow:Hid (w2.heap[g]? = some (.cells (tmsC (twTs ts ks++[spT])).toArray 66 (0,0))):=zgz hO2
   have HW2:Hid (Twd w w2 ts ks):=by
    have:=HW.out.keep hF1 (fun j hj=>by intro hh;simp at hh;subst hh;exact hgk hj)
    rw[HTK.out]at this
    exact this
   clear hO hg2 hF hO2 hF1 HW hgk
   go_wp2
   go_ret
   exact⟨g,ks,rfl,hgw,HRow.out,HW2.out,hF2⟩
set_option maxHeartbeats 8000000 in
theorem zqa (b:Nat) (ks:List Nat) (w0:World) (ao:Option Addr) (L cap:Nat) (ts:List Tm) (w:World) (h:TRs w ao ts) (hLe:L=ts.length) (hL:L<2^21) (hfew:Few ts) (hT:Twd w0 w ts ks) (hrow:w.heap[b]? = some (.cells (tmsC (twTs ts ks++[spT])).toArray 66 (0,0))) :
  Calls Tryz.prog 12 #[.slice (some ⟨b,0,none⟩) L (L+1),.slice ao L cap] w fun e w'=>e= .returned (.bool true)/\Fr [] w w':=by
 have HL:Hid (L=ts.length):=hLe
 have HFew:Hid (Few ts):=hfew
 have HT:Hid (Twd w0 w ts ks):=hT
 have hcl: ∀j c,j<L+1->c<2->w.cell? ⟨b,j*2+c,none⟩=(tmC ((twTs ts ks++[spT]).getD j Tm.zero))[c]? :=by
  intro j c hj hc
  rw[cell_of_row _ _ _ _ _ _ hrow]
  have:=zjw (twTs ts ks++[spT]) j c (by rw[List.length_append,zba ts ks hT.len,<-hLe];simpa using hj) hc
  simpa using this
 have hlb:=lt_of_block hrow
 have hct: ∀j t k,ts[j]? = some t->ks[j]? = some k->w.cell? ⟨b,j*2,none⟩=some (.int .i64 t.n)/\w.cell? ⟨b,j*2+1,none⟩=some (.slice (some ⟨k,0,none⟩) t.L (t.L+1)):=by
  intro j t k ht hk
  have hj:j<ts.length:=(List.getElem?_eq_some_iff.1 ht).1
  have hu:(twTs ts ks)[j]? = some (twT t k):=by
   unfold twTs
   rw[List.getElem?_zipWith,ht,hk]
  have e:(twTs ts ks++[spT]).getD j Tm.zero=twT t k:=by
   rw[List.getD,List.getElem?_append_left (by rw[zba ts ks hT.len];exact hj),hu]
   rfl
  have a:=hcl j 0 (by omega) (by omega)
  have c:=hcl j 1 (by omega) (by omega)
  rw[e]at a c
  exact⟨a,c⟩
 have hsp:w.cell? ⟨b,L*2,none⟩=some (.int .i64 7777)/\w.cell? ⟨b,L*2+1,none⟩=some (.slice none 0 0):=by
  have e:(twTs ts ks++[spT]).getD L Tm.zero=spT:=by
   rw[List.getD,List.getElem?_append_right (by rw[zba ts ks hT.len];omega),zba ts ks hT.len,hLe]
   simp
  have a:=hcl L 0 (by omega) (by omega)
  have c:=hcl L 1 (by omega) (by omega)
  rw[e]at a c
  exact⟨a,c⟩
 have HCT:Hid (∀j t k,ts[j]? = some t->ks[j]? = some k->_):=hct
 have hne:((L:Int)!=L)=false:=by simp
 clear hLe hfew hT hrow hcl hct
 go_enter Tryz.func12,Tryz.ntmps12
 go_wp2_with fail
 go_loopw [5] (fun ii wr=> ∃(i:Nat),ii= .int .i64 i/\i<=L/\Fr [] w wr) (fun ii _=>L-(RowKit.intOf ii).toNat)
 case atStart=>exact⟨0,rfl,Nat.zero_le _,Fr.refl _ _⟩
 case round =>
  obtain⟨i,rfl,hiL,hFr⟩:=hrel
  by_cases hi:i<L
  ·have hix:i<ts.length:=by rw[<-HL.out];exact hi
   have hik:i<ks.length:=by rw[HT.out.len];exact hix
   obtain⟨b2,o2,rfl,hlt2,hc2⟩:=(h.keep hFr).lies (by omega)
   have hy:=hc2 i hix
   have haty:=(h.keep hFr).each _ (zbf ts i hix)
   have hfw:=HFew.out _ (zbf ts i hix)
   have hty:ts[i]? = some (ts.getD i Tm.zero):=by simp[List.getD,hix]
   obtain⟨k,hk⟩: ∃k,ks[i]? = some k:=⟨_,List.getElem?_eq_getElem hik⟩
   obtain⟨c0,c1⟩:=HCT.out i _ k hty hk
   have hrowk:=HT.out.row i _ k hty hk
   obtain⟨y,hyy⟩: ∃y,y=ts.getD i Tm.zero:=⟨_,rfl⟩
   rw[<-hyy]at hy haty c0 c1 hrowk hfw
   clear hyy hc2 hty hk
   obtain⟨n2,x2,m2,k2,ws2⟩:=y
   obtain⟨d0,d1⟩:=hy
   simp only at c0 c1 d0 d1 hrowk hfw
   have hay:TArg wr n2 x2 m2 k2 ws2:=haty
   have hST:=zmm n2 k x2 m2 k2 ws2 wr.drew (hay.rs.keep (Fr.drew [] wr)) hay.len hfw ((hFr.then (Fr.drew [] wr)).keep hrowk (by simp))
   have p0:wr.drew.cell? ⟨b,i*2,none⟩=some (.int .i64 n2):=(World.cell?_of_block ((hFr.then (Fr.drew [] wr)).block b hlb (by simp))).trans c0
   have p1:wr.drew.cell? ⟨b,i*2+1,none⟩=some (.slice (some ⟨k,0,none⟩) m2 (m2+1)):=(World.cell?_of_block ((hFr.then (Fr.drew [] wr)).block b hlb (by simp))).trans c1
   have g0:wr.drew.cell? ⟨b2,o2+i*2,none⟩=some (.int .i64 n2):=d0
   have g1:wr.drew.cell? ⟨b2,o2+i*2+1,none⟩=some (.slice x2 m2 k2):=d1
   have hq1:b<wr.drew.heap.size:=by have:=(hFr.then (Fr.drew [] wr)).size;omega
   have hq2:b2<wr.drew.heap.size:=hlt2
   have r0:wr.cell? ⟨b,i*2,none⟩=some (.int .i64 n2):=p0
   have r1:wr.cell? ⟨b,i*2+1,none⟩=some (.slice (some ⟨k,0,none⟩) m2 (m2+1)):=p1
   clear haty hay hlt2 c0 c1 hrowk
   go_wp2_with fail
   go_region_held3 (fun W=>W.cell? ⟨b,i*2,none⟩=some (.int .i64 n2)/\W.cell? ⟨b,i*2+1,none⟩=some (.slice (some ⟨k,0,none⟩) m2 (m2+1))/\W.cell? ⟨b2,o2+i*2,none⟩=some (.int .i64 n2)/\W.cell? ⟨b2,o2+i*2+1,none⟩=some (.slice x2 m2 k2)) (go_keep)
    (with_reducible refine hST.mono ?_;rintro e w2 ⟨rfl,hF2⟩;have z0:=(World.cell?_of_block (hF2.block b hq1 (by simp))).trans p0;have z1:=(World.cell?_of_block (hF2.block b hq1 (by simp))).trans p1;have z2:=(World.cell?_of_block (hF2.block b2 hq2 (by simp))).trans g0;have z3:=(World.cell?_of_block (hF2.block b2 hq2 (by simp))).trans g1)
   have hG2:=hFr.then ((Fr.drew [] wr).then hF2)
   clear hST hF2 d0 d1 p0 p1 g0 g1 r0 r1 z0 z1 z2 z3
   go_wp2
   go_roundw
   case rel=>exact⟨i+1,by simp,by omega,hG2⟩
   case measure=>simp[RowKit.intOf];omega
  ·obtain rfl:i=L:=by omega
   have c0:wr.cell? ⟨b,i*2,none⟩=some (.int .i64 7777):=(World.cell?_of_block (hFr.block b hlb (by simp))).trans hsp.1
   have c1:wr.cell? ⟨b,i*2+1,none⟩=some (.slice none 0 0):=(World.cell?_of_block (hFr.block b hlb (by simp))).trans hsp.2
   go_wp2
   go_ret
   exact⟨by simp,hFr.then (Fr.alloc [] _ _)⟩
theorem zyi {w w':World} {t:Tm} {k:Nat} (h:t.at w) (hr:w'.heap[k]? = some (.cells (wtsC (t.ws++[spW])).toArray 92 (0,0))):(twT t k).at w' :=
 ⟨WRs.of_row (rest:=wtsC [spW]) (t:=92) (f:=(0,0)) (by rw[<-zcv];exact hr) h.rs.few h.rs.each,h.len,h.n0,h.n1⟩
theorem zsy {w0 w w':World} {ts:List Tm} {ks:List Nat} {b:Nat} {ao:Option Addr} (h:TRs w0 ao ts) (hT:Twd w w' ts ks) (hb:w'.heap[b]? = some (.cells (tmsC (twTs ts ks++[spT])).toArray 66 (0,0))):TRs w' (some ⟨b,0,none⟩) (twTs ts ks):=by
 refine TRs.of_row (rest:=tmsC [spT]) (t:=66) (f:=(0,0)) (by rw[<-zdy];exact hb) (by rw[zba ts ks hT.len];exact h.few) ?_
 intro u hu
 obtain⟨i,hi⟩:=List.getElem?_of_mem hu
 obtain⟨t,k,ht,hk,rfl⟩:=zvn hi
 exact zyi (h.each t (List.mem_of_getElem? ht)) (hT.row i t k ht hk)
end Go.Proofs.YtaaghcimfcjehaaGreatDoor
namespace Go.Proofs.YtaaghcimfcjehaaGreatDoor.Bt
open Go.ChangeShapes Go.WideShapes Go.ChangeAt Go.RowKit Go.Lib Go.ChangeMaps
section
variable {H:Type} {enc:TypeId×Value->H} {w:World}
theorem zgw (d:DataW H):1<=Rows.uptoBulk d:=by
 cases d with
 | lit l=>cases l<;>simp[Rows.uptoBulk]
 | _=>simp[Rows.uptoBulk]
theorem zfb {d:DataW H}: ∀ {l:List (DataW H)},d∈l->Rows.uptoBulk d<=Rows.uptoBulkAll l
 | [],h=>by cases h
 | x::r,h=>by
  simp only[Rows.uptoBulkAll]
  rcases List.mem_cons.1 h with e|e
  ·subst e;omega
  ·have:=zfb e;omega
theorem zdl: ∀l:List (DataW H),l.length<=Rows.uptoBulkAll l
 | []=>by simp[Rows.uptoBulkAll]
 | x::r=>by have:=zgw x;have:=zdl r;simp only[Rows.uptoBulkAll,List.length_cons];omega
theorem zsz {t:TypeId} {fs:Array Field} {fuel:Nat} {cs:List Value} {x:DataW H×List MemPlace} (hu:Tryz.prog.underlying t=some (.struct fs)) (h:DataW.trod enc Tryz.prog w 0 (fun _=>true) true fuel t cs=some x) {i:Nat} {f:Field} (hi:fs[i]? = some f) :
  ∃n y,DataW.trod enc Tryz.prog w 0 (fun _=>true) true n f.type ((cs.drop f.offset).take (Tryz.prog.cellsOf f.type))=some y/\Rows.uptoBulk y.1<=Rows.uptoBulk x.1:=by
 obtain⟨ys,n,_,hx,hlen,hys,hf⟩:=DataW.trod_struct hu h
 have r:=hf i f hi
 have hl:i<ys.length:=by
  rw[hys]
  have:=(Array.getElem?_eq_some_iff.1 hi).1
  simpa using this
 rw[List.getElem?_eq_getElem hl]at r
 refine⟨n,ys[i],r,?_⟩
 rw[hx]
 simp only[Rows.uptoBulk]
 have:=zfb (l:=ys.map fun x=>x.fst) (List.mem_map.2 ⟨ys[i],List.getElem_mem hl,rfl⟩)
 omega
theorem zci {t e:TypeId} {fuel:Nat} {ao:Option Addr} {L cap:Nat} {x:DataW H×List MemPlace} (ht:Tryz.prog.underlying t=some (.slice e)) (h:DataW.trod enc Tryz.prog w 0 (fun _=>true) true fuel t [.slice ao L cap]=some x):L<=Rows.uptoBulk x.1:=by
 rcases Go.Deep.open_slice ht h with ⟨hcs,_⟩|⟨a,len,c,m,n,D,Pl,hcs,hb,hl,hm,hmm,hx,hE⟩
 ·simp only[List.cons.injEq,Value.slice.injEq,and_true]at hcs
  omega
 ·simp only[List.cons.injEq,Value.slice.injEq,and_true]at hcs
  rw[hx]
  simp only[Rows.uptoBulk]
  have:=zdl ((List.range len).map D)
  simp only[List.length_map,List.length_range]at this
  omega
theorem zih {t ty:TypeId} {off i:Nat} {Ls:List (TypeId×Nat)} (hF: ∃fs:Array Field,Tryz.prog.underlying t=some (.struct fs)/\fs.toList.map (fun f=>(f.type,f.offset))=Ls) (hi:Ls[i]? = some (ty,off)) {fuel:Nat} {cs:List Value} {x:DataW H×List MemPlace} (h:DataW.trod enc Tryz.prog w 0 (fun _=>true) true fuel t cs=some x) :
  ∃n y,DataW.trod enc Tryz.prog w 0 (fun _=>true) true n ty ((cs.drop off).take (Tryz.prog.cellsOf ty))=some y/\Rows.uptoBulk y.1<=Rows.uptoBulk x.1:=by
 obtain⟨fs,hu,rfl⟩:=hF
 rw[List.getElem?_map]at hi
 obtain⟨f,hf,e⟩:=Option.map_eq_some_iff.1 hi
 simp only[Prod.mk.injEq]at e
 obtain⟨n,y,hy,hb⟩:=zsz hu h (show fs[i]? = some f by simpa using hf)
 rw[e.1,e.2]at hy
 exact⟨n,y,hy,hb⟩
theorem zaae: ∃fs:Array Field,Tryz.prog.underlying 66=some (.struct fs)/\fs.toList.map (fun f=>(f.type,f.offset))=[(3,0),(64,1)]:=by
 have hF:=Tryz.tFields
 cases hu:Tryz.prog.underlying 66 with
 | none=>rw[hu]at hF;simp at hF
 | some u =>
  rw[hu]at hF
  cases u with
  | struct fs=>exact⟨fs,rfl,hF⟩
  | _=>simp at hF
theorem zvp {fuel:Nat} {n:Int} {ao:Option Addr} {L cap:Nat} {x:DataW H×List MemPlace} (h:DataW.trod enc Tryz.prog w 0 (fun _=>true) true fuel 66 [.int .i64 n,.slice ao L cap]=some x):L<=Rows.uptoBulk x.1:=by
 obtain⟨n,y,hy,hb⟩:=zih (i:=1) (ty:=64) (off:=1) zaae rfl h
 rw[Tryz.cWs]at hy
 simp only[List.drop_succ_cons,List.drop_zero,List.take_succ_cons,List.take_zero]at hy
 have:=zci Tryz.undWs' hy
 omega
theorem zvq {fuel:Nat} {ao:Option Addr} {L cap:Nat} {x:DataW H×List MemPlace} (h:DataW.trod enc Tryz.prog w 0 (fun _=>true) true fuel 24 [.slice ao L cap]=some x) {ts:List Tm} (hJ:TRs w ao ts) (hL:L=ts.length): ∀t∈ts,t.L<=Rows.uptoBulk x.1:=by
 intro a ha
 obtain⟨i,hi,e⟩:=List.getElem_of_mem ha
 obtain⟨b,off,ea,_,hc⟩:=hJ.lies (by omega)
 have e4:ts.getD i Tm.zero=a:=by simp[List.getD,hi,e]
 rcases Go.Deep.open_slice Tryz.undTs' h with ⟨hcs,_⟩|⟨a',len,c',m,n,D,Pl,hcs,hb,hl,hm,hmm,hx,hE⟩
 ·simp only[List.cons.injEq,Value.slice.injEq,and_true]at hcs
  omega
 ·simp only[List.cons.injEq,Value.slice.injEq,and_true]at hcs
  obtain⟨e1,e2,e3⟩:=hcs
  rw[ea]at e1
  cases e1
  simp only[if_true]at hmm
  rw[Tryz.cellsT]at hE
  obtain⟨cs',h1,h2⟩:=hE i (by omega)
  have hlen:=(World.cells?_some h1).2.1
  have hcell:=(World.cells?_some h1).2.2
  have hsame:cs'=[.int .i64 a.n,.slice a.ao a.L a.cap]:=by
   obtain⟨q0,q1⟩:=hc i hi
   rw[e4]at q0 q1
   apply List.ext_getElem?
   intro j
   by_cases hj:j<2
   ·have h3:=hcell j hj
    rw[Addr.add_lit,Addr.add_lit]at h3
    rw[<-h3]
    have:j=0\/j=1:=by omega
    rcases this with rfl|rfl
    ·exact q0
    ·exact q1
   ·rw[List.getElem?_eq_none (by omega),List.getElem?_eq_none (by simp;omega)]
  rw[hsame]at h2
  have:=zvp h2
  rw[hx]
  simp only[Rows.uptoBulk]
  have:=zfb (d:=D i) (l:=(List.range len).map D) (List.mem_map.2 ⟨i,by simp;omega,rfl⟩)
  simp only at *
  omega
theorem zaaf: ∃fs:Array Field,Tryz.prog.underlying 97=some (.struct fs)/\fs.toList.map (fun f=>(f.type,f.offset))=[(9,0),(95,1)]:=by
 have hF:(match Tryz.prog.underlying 97 with|some (.struct fs)=>fs.toList.map (fun f=>(f.type,f.offset))|_=>[])=[(9,0),(95,1)]:=by kernel_rfl
 cases hu:Tryz.prog.underlying 97 with
 | none=>rw[hu]at hF;simp at hF
 | some u =>
  rw[hu]at hF
  cases u with
  | struct fs=>exact⟨fs,rfl,hF⟩
  | _=>simp at hF
theorem zaag: ∃fs:Array Field,Tryz.prog.underlying 28=some (.struct fs)/\fs.toList.map (fun f=>(f.type,f.offset))=[(3,0),(25,1),(26,2)]:=by
 have hF:(match Tryz.prog.underlying 28 with|some (.struct fs)=>fs.toList.map (fun f=>(f.type,f.offset))|_=>[])=[(3,0),(25,1),(26,2)]:=by kernel_rfl
 cases hu:Tryz.prog.underlying 28 with
 | none=>rw[hu]at hF;simp at hF
 | some u =>
  rw[hu]at hF
  cases u with
  | struct fs=>exact⟨fs,rfl,hF⟩
  | _=>simp at hF
theorem zzm:Tryz.prog.cellsOf 95=1:=by kernel_rfl
theorem zvr:Tryz.prog.underlying 95=some (.slice 157):=by kernel_rfl
theorem zld:Tryz.prog.underlying 26=some (.slice 97):=by kernel_rfl
theorem zaah:Tryz.prog.cellsOf 97=2:=by kernel_rfl
theorem zzn:Tryz.prog.cellsOf 26=1:=by kernel_rfl
theorem zyl {fuel:Nat} {n:ByteArray} {ao:Option Addr} {L cap:Nat} {x:DataW H×List MemPlace} (h:DataW.trod enc Tryz.prog w 0 (fun _=>true) true fuel 97 [.string n,.slice ao L cap]=some x):L<=Rows.uptoBulk x.1:=by
 obtain⟨n,y,hy,hb⟩:=zih (i:=1) (ty:=95) (off:=1) zaaf rfl h
 rw[zzm]at hy
 simp only[List.drop_succ_cons,List.drop_zero,List.take_succ_cons,List.take_zero]at hy
 have:=zci zvr hy
 omega
theorem zvs {fuel:Nat} {ao:Option Addr} {L cap:Nat} {x:DataW H×List MemPlace} (h:DataW.trod enc Tryz.prog w 0 (fun _=>true) true fuel 26 [.slice ao L cap]=some x) {ts:List Q.Hd} (hJ:Q.HRs w ao ts) (hL:L=ts.length): ∀t∈ts,t.L<=Rows.uptoBulk x.1:=by
 intro a ha
 obtain⟨i,hi,e⟩:=List.getElem_of_mem ha
 obtain⟨b,off,ea,_,hc⟩:=hJ.lies (by omega)
 have e4:ts.getD i Q.Hd.zero=a:=by simp[List.getD,hi,e]
 rcases Go.Deep.open_slice zld h with ⟨hcs,_⟩|⟨a',len,c',m,n,D,Pl,hcs,hb,hl,hm,hmm,hx,hE⟩
 ·simp only[List.cons.injEq,Value.slice.injEq,and_true]at hcs
  omega
 ·simp only[List.cons.injEq,Value.slice.injEq,and_true]at hcs
  obtain⟨e1,e2,e3⟩:=hcs
  rw[ea]at e1
  cases e1
  simp only[if_true]at hmm
  rw[zaah]at hE
  obtain⟨cs',h1,h2⟩:=hE i (by omega)
  have hlen:=(World.cells?_some h1).2.1
  have hcell:=(World.cells?_some h1).2.2
  have hsame:cs'=[.string a.key,.slice a.vo a.L a.cap]:=by
   obtain⟨q0,q1⟩:=hc i hi
   rw[e4]at q0 q1
   apply List.ext_getElem?
   intro j
   by_cases hj:j<2
   ·have h3:=hcell j hj
    rw[Addr.add_lit,Addr.add_lit]at h3
    rw[<-h3]
    have:j=0\/j=1:=by omega
    rcases this with rfl|rfl
    ·exact q0
    ·exact q1
   ·rw[List.getElem?_eq_none (by omega),List.getElem?_eq_none (by simp;omega)]
  rw[hsame]at h2
  have:=zyl h2
  rw[hx]
  simp only[Rows.uptoBulk]
  have:=zfb (d:=D i) (l:=(List.range len).map D) (List.mem_map.2 ⟨i,by simp;omega,rfl⟩)
  simp only at *
  omega
theorem told_more {fuel:Nat} {cs:List Value} {x:DataW H×List MemPlace} (h:DataW.trod enc Tryz.prog w 0 (fun _=>true) true fuel 31 cs=some x) (hsz: ∀n∈x.1.weights Tryz.prog 31,n<=reachBytes) :
  ∃(c:Cf) (lo:Option Addr) (M mc:Nat) (ts:List Tm) (m:Int) (bo:Option Addr) (bn bc:Nat) (xs:List Int) (ho:Option Addr) (hl hc:Nat) (eo:Option Addr) (en ec:Nat) (es:List Ev) (hs:List Q.Hd),cs=[.int .i64 c.l,.int .i64 c.s,.int .i64 c.w,.int .i64 c.q,.slice lo M mc,.int .i64 m,.slice bo bn bc,.slice ho hl hc,.slice eo en ec]/\ToB w c lo M mc ts bo bn bc xs eo en ec es/\en<=Rows.uptoBulk x.1/\(Q.HRs w ho hs/\hl=hs.length/\hl<=Rows.uptoBulk x.1/\ ∀t∈hs,t.L<=Rows.uptoBulk x.1)/\M<=Rows.uptoBulk x.1/\ ∀t∈ts,t.L<=Rows.uptoBulk x.1:=by
 have hF:=Tryz.toldFields
 cases hu:Tryz.prog.underlying 31 with
 | none=>rw[hu]at hF;simp at hF
 | some u =>
  rw[hu]at hF
  cases u with
  | struct fs =>
   simp only at hF
   obtain⟨ys,n,_,hx,hlen,hys,hf⟩:=DataW.trod_struct hu h
   rw[Tryz.cTold21]at hlen
   match cs,hlen with
   | [v0,v1,v2,v3,v4,v5,v6,v7,v8],_ =>
    have hl2:fs.toList.length=4:=by have:=congrArg List.length hF;simpa using this
    obtain⟨l,hl⟩: ∃l,l=fs.toList:=⟨_,rfl⟩
    rw[<-hl]at hF hl2
    match l,hl2 with
    | [f0,f1,f2,f3],_ =>
     simp only[List.map_cons,List.map_nil,List.cons.injEq,Prod.mk.injEq,and_true]at hF
     obtain⟨⟨t0,o0⟩,⟨t1,o1⟩,⟨t2,o2⟩,⟨t3,o3⟩⟩:=hF
     have g: ∀(i:Nat) (f:Field),[f0,f1,f2,f3][i]? = some f->fs[i]? = some f:=by
      intro i f hi
      rw[hl]at hi
      simpa using hi
     have r0:=hf 0 f0 (g 0 f0 rfl)
     have r1:=hf 1 f1 (g 1 f1 rfl)
     have r2:=hf 2 f2 (g 2 f2 rfl)
     have r3:=hf 3 f3 (g 3 f3 rfl)
     rw[t0,o0,Tryz.cellsCf]at r0
     rw[t1,o1,Tryz.cTs21]at r1
     rw[t2,o2,Tryz.cSv21]at r2
     rw[t3,o3,Tryz.cEvs21]at r3
     simp only[List.drop_zero,List.drop_succ_cons,List.take_succ_cons,List.take_zero]at r0 r1 r2 r3
     have hy2:ys.length=4:=by rw[hys];have:=congrArg List.length hl;simpa using this.symm
     match ys,hy2 with
     | [y0,y1,y2,y3],_ =>
      simp only[List.getElem?_cons_zero,List.getElem?_cons_succ]at r0 r1 r2 r3
      have hty:fs.toList.map (·.type)=[23,24,28,29]:=by rw[<-hl];simp[t0,t1,t2,t3]
      have hw: ∀(j:Nat) (t:TypeId) (d:DataW H),[23,24,28,29][j]? = some t->[y0.1,y1.1,y2.1,y3.1][j]? = some d-> ∀q∈d.weights Tryz.prog t,q<=reachBytes:=fun j t d h1 h2 q hq=>by
       apply hsz
       rw[hx]
       simp only[DataW.weights,hu]
       rw[hty]
       exact DataW.weights_mem_each (j:=j) (t:=t) (d:=d) h1 h2 _ hq
      obtain⟨ca,cb,cc,cd,e0,_⟩:=zws r0
      obtain⟨lo,M,mc,ts,e1,hT,hM,hMc⟩:=zxi (d:=y1.1) (ps:=y1.2) r1 (hw 1 24 y1.1 rfl rfl)
      obtain⟨m,bo,bn,bc,xs,ho,hl',hc',e2,hI,hbn,hbc⟩:=zrw r2 (hw 2 28 y2.1 rfl rfl)
      obtain⟨eo,en,ec,es,e3,hE,hen,hec,hfew,hbk⟩:=zza r3 (hw 3 29 y3.1 rfl rfl)
      obtain⟨m2,bo2,Lb2,cb2,bs2,ao2,L2,cap2,os2,e2',_,_,_,hH,hL2⟩:=Q.sv_open r2 (hw 2 28 y2.1 rfl rfl)
      rw[e2]at e2'
      simp only[List.cons.injEq,Value.slice.injEq,and_true]at e2'
      obtain⟨_,_,g1,g2,g3⟩:=e2'
      subst g1
      subst g2
      subst g3
      have b1:=zci Tryz.undTs' (e1▸r1)
      have b2:=zvq (e1▸r1) hT hM
      rw[e2]at r2
      obtain⟨n7,y7,h7,b7⟩:=zih (i:=2) (ty:=26) (off:=2) zaag rfl r2
      rw[zzn]at h7
      simp only[List.drop_succ_cons,List.drop_zero,List.take_succ_cons,List.take_zero]at h7
      have b3:=zci zld h7
      have b4:=zvs h7 hH hL2
      simp only[List.cons.injEq,and_true]at e0 e2
      refine⟨⟨ca,cb,cc,cd⟩,lo,M,mc,ts,m,bo,bn,bc,xs,ho,hl',hc',eo,en,ec,es,os2,?_,⟨hT,hM,hMc,hI,hbn,hbc,hE,hen,hec,hfew⟩,?_,⟨hH,hL2,?_,fun t ht=> ?_⟩,?_,fun t ht=> ?_⟩
      ·rw[e0.1,e0.2.1,e0.2.2.1,e0.2.2.2,e1,e2.1,e2.2.1,e2.2.2,e3]
      ·rw[hx]
       simp only[Rows.uptoBulk,Rows.uptoBulkAll,List.map_cons,List.map_nil]
       omega
      ·rw[hx]
       simp only[Rows.uptoBulk,Rows.uptoBulkAll,List.map_cons,List.map_nil]
       omega
      ·have:=b4 t ht
       rw[hx]
       simp only[Rows.uptoBulk,Rows.uptoBulkAll,List.map_cons,List.map_nil]
       omega
      ·rw[hx]
       simp only[Rows.uptoBulk,Rows.uptoBulkAll,List.map_cons,List.map_nil]
       omega
      ·have:=b2 t ht
       rw[hx]
       simp only[Rows.uptoBulk,Rows.uptoBulkAll,List.map_cons,List.map_nil]
       omega
  | _=>simp at hF
end
end Go.Proofs.YtaaghcimfcjehaaGreatDoor.Bt
