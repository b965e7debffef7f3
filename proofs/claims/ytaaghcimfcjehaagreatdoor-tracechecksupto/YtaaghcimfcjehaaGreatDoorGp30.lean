/- Contracts and plain lemmas of this claim. -/
import Derived.Test.YtaaghcimfcjehaaGreatDoorGp1
import Derived.Deep.Slices
import Derived.SizedLaws
import Derived.Deep.RegionWith
import Derived.Deep.LoopGhost
import Derived.Laws.StructEq
import Derived.Deep.QuietTactic
import Derived.BigQuiet
import Derived.Lib.SliceRun
import Derived.Deep.Cut
import Derived.Laws.ResultCell
import Derived.Deep.RegionLaw
import Derived.Deep.RegionHeld3
import Derived.Deep.CutRange
import Derived.Lib.AppendZerosOnto
import Derived.Maps.RangeWalk
import Derived.Laws.Cover1
import Derived.Maps.AppendAt
import Derived.OwnWalk
set_option linter.unusedSimpArgs false
set_option linter.unusedVariables false
set_option maxHeartbeats 4000000
set_option maxRecDepth 100000
namespace Go.Proofs.YtaaghcimfcjehaaGreatDoor.Q
open Go.ChangeShapes Go.WideShapes Go.ChangeAt Go.RowKit Go.Lib
def noS:ByteArray:=⟨#[]⟩
theorem zhc (a b:ByteArray):a.toList=b.toList↔a=b:=by
 rw[ByteArray.toList_eq,ByteArray.toList_eq]
 constructor
 ·intro h
  exact bytes_inj h
 ·rintro rfl
  rfl
structure Vn where
 num:Int
 val:ByteArray
 drop:Bool
def Vn.zero:Vn:=⟨0,noS,false⟩
def vnC (x:Vn):List Value:=[.int .i64 x.num,.string x.val,.bool x.drop]
def vnsC:List Vn->List Value
 | []=>[]
 | x::r=>vnC x++vnsC r
theorem zgn (a b:List Vn):vnsC (a++b)=vnsC a++vnsC b:=by
 induction a with
 | nil=>rfl
 | cons v r ih=>simp[vnsC,ih]
theorem zkz (a:List Vn) (j c:Nat) (hj:j<a.length) (hc:c<3):(vnsC a)[j*3+c]? = (vnC (a.getD j Vn.zero))[c]? :=by
 induction a generalizing j with
 | nil=>simp at hj
 | cons v r ih =>
  cases j with
  | zero =>
   simp only[vnsC,Nat.zero_mul,Nat.zero_add]
   rw[List.getElem?_append_left (by simp[vnC];omega)]
   simp
  | succ j =>
   simp only[vnsC]
   rw[List.getElem?_append_right (by simp[vnC];omega)]
   have e:(j+1)*3+c-(vnC v).length=j*3+c:=by simp[vnC];omega
   rw[e,ih j (by simpa using hj)]
   simp
theorem zpk (vs:List Vn) (i:Nat) (h:i<vs.length):vs.take (i+1)=vs.take i++[vs.getD i Vn.zero]:=by
 rw[List.take_add_one]
 simp[List.getD,h]
structure VAt (w:World) (b o:Nat) (x:Vn):Prop where
 c0:w.cell? ⟨b,o,none⟩=some (.int .i64 x.num)
 c1:w.cell? ⟨b,o+1,none⟩=some (.string x.val)
 c2:w.cell? ⟨b,o+2,none⟩=some (.bool x.drop)
structure VEach (x:Vn):Prop where
 v:x.val.size<=140737488355328
 lo: -9223372036854775808<=x.num
 hi:x.num<=9223372036854775807
structure VRs (w:World) (ao:Option Addr) (vs:List Vn):Prop where
 lies:0<vs.length-> ∃b off,ao=some ⟨b,off,none⟩/\b<w.heap.size/\ ∀i,i<vs.length->VAt w b (off+i*3) (vs.getD i Vn.zero)
 few:vs.length<=4398046511104
 each: ∀x∈vs,VEach x
theorem VRs.nil (w:World) (ao:Option Addr):VRs w ao []:=⟨fun h=>by simp at h,by simp,by simp⟩
theorem VRs.keepS {S:List Nat} {w w':World} {ao:Option Addr} {vs:List Vn} (h:VRs w ao vs) (hf:Fr S w w') (hn:0<vs.length-> ∀a,ao=some a->a.block∉S):VRs w' ao vs:=by
 refine⟨fun h0=> ?_,h.few,h.each⟩
 obtain⟨b,off,e,hb,hc⟩:=h.lies h0
 have hk: ∀o,w'.cell? ⟨b,o,none⟩=w.cell? ⟨b,o,none⟩:=fun o=>World.cell?_of_block (hf.block b hb (hn h0 _ e))
 exact⟨b,off,e,Nat.lt_of_lt_of_le hb hf.size,fun i hi=>⟨(hk _).trans (hc i hi).c0,(hk _).trans (hc i hi).c1,(hk _).trans (hc i hi).c2⟩⟩
theorem VRs.keep {w w':World} {ao:Option Addr} {vs:List Vn} (h:VRs w ao vs) (hf:Fr [] w w'):VRs w' ao vs:=h.keepS hf (by simp)
section
variable {H:Type} {enc:TypeId×Value->H}
theorem zds {P:Program} {e:TypeId}: ∀ {ds:List (DataW H)} {d:DataW H},d∈ds-> ∀n∈d.weights P e,n∈DataW.weightsAll P e ds
 | x::r,d,hd,n,hn=>by
  simp only[DataW.weightsAll,List.mem_append]
  rcases List.mem_cons.1 hd with rfl|hd
  ·exact Or.inl hn
  ·exact Or.inr (zds hd n hn)
theorem Tryz.undVns':Tryz.prog.underlying 95=some (.slice 157):=by kernel_rfl
theorem Tryz.cellsVn:Tryz.prog.cellsOf 157=3:=by kernel_rfl
theorem Tryz.vnFields:(match Tryz.prog.underlying 157 with|some (.struct fs)=>fs.toList.map (fun f=>(f.type,f.offset))|_=>[])=[(3,0),(9,1),(4,2)]:=by kernel_rfl
theorem Tryz.vundI:Tryz.prog.underlying 3=some (.int .i64):=by kernel_rfl
theorem Tryz.vundBl:Tryz.prog.underlying 4=some .bool:=by kernel_rfl
theorem Tryz.vcBl:Tryz.prog.cellsOf 4=1:=by kernel_rfl
theorem Tryz.vcI:Tryz.prog.cellsOf 3=1:=by kernel_rfl
theorem Tryz.vcS:Tryz.prog.cellsOf 9=1:=by kernel_rfl
theorem zyc {w:World} {base:Nat} {spare:Nat->Bool} {held:Bool} {fuel:Nat} {cs:List Value} {x:DataW H×List MemPlace} (h:DataW.trod enc Tryz.prog w base spare held fuel 157 cs=some x) :
  ∃v:Vn,cs=[.int .i64 v.num,.string v.val,.bool v.drop]/\v.val.size∈x.1.weights Tryz.prog 157/\ -9223372036854775808<=v.num/\v.num<=9223372036854775807:=by
 have hF:=Tryz.vnFields
 cases hu:Tryz.prog.underlying 157 with
 | none=>rw[hu]at hF;simp at hF
 | some u =>
  rw[hu]at hF
  cases u with
  | struct fs =>
   simp only at hF
   obtain⟨ys,n,_,hx,hlen,hys,hf⟩:=DataW.trod_struct hu h
   rw[Tryz.cellsVn]at hlen
   match cs,hlen with
   | [v0,v1,v2],_ =>
    have hl3:fs.toList.length=3:=by have:=congrArg List.length hF;simpa using this
    obtain⟨l,hl⟩: ∃l,l=fs.toList:=⟨_,rfl⟩
    rw[<-hl]at hF hl3
    match l,hl3 with
    | [f0,f1,f2],_ =>
     simp only[List.map_cons,List.map_nil,List.cons.injEq,Prod.mk.injEq,and_true]at hF
     obtain⟨⟨t0,o0⟩,⟨t1,o1⟩,⟨t2,o2⟩⟩:=hF
     have g: ∀(i:Nat) (f:Field),[f0,f1,f2][i]? = some f->fs[i]? = some f:=by
      intro i f hi
      rw[hl]at hi
      simpa using hi
     have r0:=hf 0 f0 (g 0 f0 rfl)
     have r1:=hf 1 f1 (g 1 f1 rfl)
     have r2:=hf 2 f2 (g 2 f2 rfl)
     rw[t0,o0,Tryz.vcI]at r0
     rw[t1,o1,Tryz.vcS]at r1
     rw[t2,o2,Tryz.vcBl]at r2
     simp only[List.drop_zero,List.drop_succ_cons,List.take_succ_cons,List.take_zero]at r0 r1 r2
     have hy3:ys.length=3:=by rw[hys];have:=congrArg List.length hl;simpa using this.symm
     match ys,hy3 with
     | [y0,y1,y2],_ =>
      simp only[List.getElem?_cons_zero,List.getElem?_cons_succ]at r0 r1 r2
      obtain⟨k0,e0,_,w0⟩:=DataW.trod_int Tryz.vundI r0
      obtain⟨s1,e1,x1,_⟩:=DataW.trod_string Tryz.undStr r1
      obtain⟨b2,e2,_⟩:=DataW.trod_bool Tryz.vundBl r2
      simp only[List.cons.injEq,and_true]at e0 e1 e2
      have b0:=bounds_i64 w0
      have hty:fs.toList.map (·.type)=[3,9,4]:=by rw[<-hl];simp[t0,t1,t2]
      refine⟨⟨k0,s1,b2⟩,by rw[e0,e1,e2],?_,b0.1,b0.2⟩
      rw[hx]
      simp only[DataW.weights,hu]
      rw[hty]
      refine DataW.weights_mem_each (j:=1) (t:=9) (d:=y1.1) rfl rfl _ ?_
      rw[x1]
      simp only[DataW.weights,List.mem_singleton]
      show s1.data.size=_
      simp
  | _=>simp at hF
theorem zyd {w:World} {fuel:Nat} {v:Value} {d:DataW H} {ps:List MemPlace} (h:DataW.trod enc Tryz.prog w 0 (fun _=>true) true fuel 95 [v]=some (d,ps)) (hsz: ∀n∈d.weights Tryz.prog 95,n<=reachBytes) :
  ∃ao L cap vs,v= .slice ao L cap/\VRs w ao vs/\L=vs.length/\L<=cap:=by
 rcases Go.Deep.open_slice Tryz.undVns' h with ⟨hcs,_⟩|⟨a,len,cap,m,n,D,Pl,hcs,hb,hl,hm,hmm,hx,hE⟩
 ·simp only[List.cons.injEq,and_true]at hcs
  exact⟨none,0,0,[],hcs,VRs.nil _ _,rfl,Nat.le_refl _⟩
 ·simp only[List.cons.injEq,and_true]at hcs
  simp only[if_true]at hmm
  subst hmm
  rw[Tryz.cellsVn]at hE hx
  have hO: ∀i,i<m-> ∃o:Vn,(w.cells? 0 (a.add (i*3)) 3=some [.int .i64 o.num,.string o.val,.bool o.drop])/\o.val.size∈(D i).weights Tryz.prog 157/\ -9223372036854775808<=o.num/\o.num<=9223372036854775807:=by
   intro i hi
   obtain⟨cs',h1,h2⟩:=hE i hi
   obtain⟨o,rfl,rest⟩:=zyc h2
   exact⟨o,h1,rest⟩
  haveI:Inhabited Vn:=⟨Vn.zero⟩
  obtain⟨F,hF⟩:=Go.Deep.choose_lt hO
  have hd:d= .slice ((List.range len).map D) ((List.range (m-len)).map fun j=>D (len+j)):=by have:=congrArg Prod.fst hx;simpa using this
  have hr:=reachBytes_lt
  have hlen:len*32<=140737488355328:=by
   have hw:len*Tryz.prog.bytesOf 157<=reachBytes:=by
    refine Nat.le_trans (Nat.mul_le_mul_right _ hl) (hsz _ ?_)
    rw[hd]
    simp only[DataW.weights,Tryz.undVns',List.length_map,List.length_range]
    rw[show len+(m-len)=m by omega]
    exact List.mem_cons_self
   rw[show Tryz.prog.bytesOf 157=32 from by kernel_rfl]at hw
   omega
  refine⟨some a,len,m,(List.range len).map F,hcs,⟨fun h0=> ?_,by simp;omega,?_⟩,by simp,hl⟩
  rotate_left
  ·intro o ho
   obtain⟨i,hi,rfl⟩:=List.mem_map.1 ho
   have hi':i<len:=by simpa using hi
   have key: ∀q∈(D i).weights Tryz.prog 157,q<=140737488355328:=by
    intro q hq
    have:q<=reachBytes:=by
     apply hsz
     rw[hd]
     simp only[DataW.weights,Tryz.undVns']
     refine List.mem_cons_of_mem _ (List.mem_append_left _ ?_)
     exact zds (List.mem_map.2 ⟨i,by simpa using hi',rfl⟩) _ hq
    omega
   exact⟨key _ (hF i (by omega)).2.1,(hF i (by omega)).2.2.1,(hF i (by omega)).2.2.2⟩
  ·simp only[List.length_map,List.length_range]at h0 ⊢
   have hc0:=(World.cells?_some (hF 0 (by omega)).1).2.2
   obtain⟨b,off,spot⟩:=a
   have hspot:spot=none:=by
    have:=hc0 0 (by omega)
    simp at this
    simpa[Addr.add]using World.cell?_spot this
   subst hspot
   have hcell: ∀i,i<len-> ∀j,j<3->w.cell? ⟨b,off+i*3+j,none⟩=[Value.int .i64 (F i).num,.string (F i).val,.bool (F i).drop][j]? :=by
    intro i hi j hj
    have:=(World.cells?_some (hF i (by omega)).1).2.2 j hj
    rw[show ((⟨b,off,none⟩:Addr).add (i*3)).add j=⟨b,off+i*3+j,none⟩ from by rw[Addr.add_lit,Addr.add_lit]]at this
    exact this
   refine⟨b,off,rfl,World.block_lt_of_cell? w ⟨b,off+0*3+0,none⟩ (by rw[hcell 0 (by omega) 0 (by omega)];rfl),fun i hi=> ?_⟩
   have e:((List.range len).map F).getD i Vn.zero=F i:=by simp[List.getD,hi]
   rw[e]
   exact⟨hcell i hi 0 (by omega),hcell i hi 1 (by omega),hcell i hi 2 (by omega)⟩
end
theorem Tryz.undVn:Tryz.prog.underlying 157=some (.struct (Tryz.prog.fieldsOf 157)):=by kernel_rfl
theorem Tryz.heldVn:Tryz.prog.stoodInHeld 157=false:=by kernel_rfl
theorem Tryz.guardVn:Tryz.prog.eqGuardType Tryz.prog.depth 157=false:=by kernel_rfl
theorem Tryz.fieldsVn:(Tryz.prog.fieldsOf 157).toList.map (fun f=>(f.name == "_",f.type,f.offset))=[(false,3,0),(false,9,1),(false,4,2)]:=by kernel_rfl
theorem zix (w:World) (cs:Array Value) (off:Nat) (v:Value) (h:cs[off]? = some v):(part 9 cs off).run Tryz.prog w= .ok v w:=by
 simp[part,isAgg,run_underlying Tryz.undStr,h,Sem.run_bind]
theorem zhs (w:World) (cs:Array Value) (off:Nat) (v:Value) (h:cs[off]? = some v):(part 4 cs off).run Tryz.prog w= .ok v w:=by
 simp[part,isAgg,run_underlying Tryz.vundBl,h,Sem.run_bind]
theorem ziy (w:World) (cs:Array Value) (off:Nat) (v:Value) (h:cs[off]? = some v):(part 3 cs off).run Tryz.prog w= .ok v w:=by
 simp[part,isAgg,run_underlying Tryz.vundI,h,Sem.run_bind]
theorem zye (w:World) (a b:ByteArray):(Op.equalIn 9999 9 (.string a) (.string b)).run Tryz.prog w= .ok (a.toList==b.toList) w:=run_equalIn_string w 9998 _ a b Tryz.undStr
theorem zvj (w:World) (a b:Bool):(Op.equalIn 9999 4 (.bool a) (.bool b)).run Tryz.prog w= .ok (a==b) w:=run_equalIn_bool w 9998 _ a b Tryz.vundBl
theorem zyf (w:World) (a b:Int):(Op.equalIn 9999 3 (.int .i64 a) (.int .i64 b)).run Tryz.prog w= .ok (a==b) w:=run_equalIn_int w 9998 _ .i64 .i64 a b Tryz.vundI
theorem zea {P:Program} {w:World} {A B:Sem Value} {E:Value->Value->Sem Bool} {K:Sem Bool} {a b:Value} {r:Bool} (hA:A.run P w= .ok a w) (hB:B.run P w= .ok b w) (hE:(E a b).run P w= .ok r w) :
  (do let a <- A;let b <- B;let r <- E a b;if (!r)=true then pure false else K:Sem Bool).run P w=if r=true then K.run P w else .ok false w:=by
 simp only[Sem.run_bind,hA,hB,hE,Result.andThen_ok]
 cases r<;>simp
theorem zsr (w:World) (k1 k2:Int) (v1 v2:ByteArray) (p1 p2:Bool):(Op.equalIn 10000 157 (.agg #[.int .i64 k1,.string v1,.bool p1]) (.agg #[.int .i64 k2,.string v2,.bool p2])).run Tryz.prog w= .ok (k1==k2&&(v1.toList==v2.toList&&p1==p2)) w:=by
 rw[run_equalIn_struct w 9999 _ _ _ Tryz.undVn Tryz.heldVn]
 have hF:=Tryz.fieldsVn
 obtain⟨l,hl⟩: ∃l,l=(Tryz.prog.fieldsOf 157).toList:=⟨_,rfl⟩
 rw[<-hl]at hF ⊢
 match l,hF with
 | [f0,f1,f2],hF =>
  simp only[List.map_cons,List.map_nil,List.cons.injEq,Prod.mk.injEq,and_true]at hF
  obtain⟨⟨n0,t0,o0⟩,⟨n1,t1,o1⟩,⟨n2,t2,o2⟩⟩:=hF
  have m0:f0.name≠ "_" :=by simpa using n0
  have m1:f1.name≠ "_" :=by simpa using n1
  have m2:f2.name≠ "_" :=by simpa using n2
  simp only[Op.eqFields,if_pos m0,if_pos m1,if_pos m2,t0,t1,t2,o0,o1,o2]
  rw[zea (ziy w _ 0 _ rfl) (ziy w _ 0 _ rfl) (zyf w k1 k2)]
  rw[zea (zix w _ 1 _ rfl) (zix w _ 1 _ rfl) (zye w v1 v2)]
  rw[zea (zhs w _ 2 _ rfl) (zhs w _ 2 _ rfl) (zvj w p1 p2)]
  cases (k1==k2)<;>cases (v1.toList==v2.toList)<;>cases (p1==p2)<;>simp
def zpl (x y:Vn):Bool:=x.num==y.num&&(x.val.toList==y.val.toList&&x.drop==y.drop)
theorem ziz (x y:Vn):zpl x y=true↔x=y:=by
 obtain⟨k1,v1,p1⟩:=x
 obtain⟨k2,v2,p2⟩:=y
 simp only[zpl,Bool.and_eq_true,beq_iff_eq,zhc,Vn.mk.injEq]
theorem zwl (w:World) (x y:Vn):(Op.equalIn 10000 157 (.agg #[.int .i64 x.num,.string x.val,.bool x.drop]) (.agg #[.int .i64 y.num,.string y.val,.bool y.drop])).run Tryz.prog w= .ok (zpl x y) w:=zsr w _ _ _ _ _ _
def spV:Vn:=⟨7777,⟨#[]⟩,false⟩
theorem Tryz.infoVnW:(Tryz.prog.info? 157).map (fun i=>(i.zero,i.size,i.bytes))=some (some (.agg #[.int .i64 0,.string ⟨#[]⟩,.bool false]),3,32):=by kernel_rfl
theorem Tryz.undVnsW:Tryz.prog.underlying 95=some (.slice 157):=by kernel_rfl
theorem zss {w:World} {g n:Nat} {xs:List Value} (h:w.ownsRow 0 157 3 (.slice (some ⟨g,0,none⟩) n n) n xs):w.heap[g]? = some (.cells xs.toArray 157 (0,0)):=by
 have hl:=h.1
 rcases h.2 with ⟨hh,_⟩|⟨g',cap',cur,hh,_,hg,_,_,hcs,ht⟩
 ·cases hh
 ·cases hh
  rw[hg]
  congr 2
  rw[<-Array.toList_inj]
  simp only
  rw[<-ht,List.take_of_length_le (by simp[hcs])]
theorem zpm (ao:Option Addr) (L cap:Nat) (ws:List Vn) (w:World) (h:VRs w ao ws) (hLe:L=ws.length) (hL:L<2^21) :
  Calls Tryz.prog 112 #[.slice ao L cap] w fun e w'=> ∃b,e= .returned (.slice (some ⟨b,0,none⟩) L (L+1))/\w.heap.size<=b/\w'.heap[b]? = some (.cells (vnsC (ws++[spV])).toArray 157 (0,0))/\Fr [] w w':=by
 obtain⟨i0,hi,hz0,hz1,hz2⟩:=info_parts Tryz.infoVnW
 have HL:Hid (L=ws.length):=hLe
 clear hLe
 go_enter Tryz.func112,Tryz.ntmps112
 go_wp2_with (at_make;refine wpList_make_own _ rfl (.const (.int .i64 0)) (.tmp 7) 95 rfl 0 157 i0 _ 3 Tryz.undVnsW hi hz0 hz1 .i64 .i64 ((L:Int)+1) (L+1) rfl rfl ?bC ?b2 ?b3 ?b4 ?_)
 case bC=>simp
 case b2=>rw[hz2];omega
 case b3=>unfold maxLen;omega
 case b4=>exact Nat.zero_le _
 intro w1 hown hgrow
 obtain⟨g,hg⟩: ∃g,g=w.heap.size:=⟨_,rfl⟩
 have hgw:w.heap.size<=g:=by omega
 rw[<-hg]at hown ⊢
 have h01:Fr [] w w1:=Fr.grown (S:=[]) hgrow (by simp)
 clear hgrow hg
 go_wp2_with fail
 go_loopw [3,4] (fun vv ii wr=> ∃i:Nat,vv= .slice (some ⟨g,0,none⟩) i (L+1)/\ii= .int .i64 i/\i<=L/\wr.ownsRow 0 157 3 (.slice (some ⟨g,0,none⟩) i (L+1)) i (vnsC (ws.take i))/\Fr [] w wr) (fun _ ii _=>L-(RowKit.intOf ii).toNat)
 case atStart=>exact⟨0,rfl,rfl,Nat.zero_le _,hown,h01⟩
 case round =>
  obtain⟨i,rfl,rfl,hiL,hO,hF⟩:=hrel
  have hsz:=(hO.lt g rfl).2
  by_cases hil:i<L
  ·have hi':i<ws.length:=by rw[<-HL.out];exact hil
   obtain⟨b,off,e,_,hc⟩:=(h.keep hF).lies (by omega)
   subst e
   obtain⟨d0,d1,d2⟩:=hc i hi'
   obtain⟨x,hx⟩: ∃x,x=ws.getD i Vn.zero:=⟨_,rfl⟩
   rw[<-hx]at d0 d1 d2
   have HE:Hid (vnsC (ws.take (i+1))=vnsC (ws.take i)++[.int .i64 x.num,.string x.val,.bool x.drop]):=by
    show _=_
    rw[zpk ws i hi',zgn,<-hx];rfl
   clear hc hx
   obtain⟨key,val,drop⟩:=x
   simp only at d0 d1 d2 HE
   go_wp2_with (at_builtin;refine wpList_append_fits _ rfl (.tmp 15) (.tmp 20) 95 rfl 0 157 i0 3 Tryz.undVnsW hi hz1 g i (L+1) _ rfl (hO.alloc _) ⟨wr.heap.size,0,none⟩ 1 1 [.int .i64 key,.string val,.bool drop] rfl rfl ?c1 ?c2 ?c3 ?_)
   case c1=>intro j u hj;match j,hj with|0,hj=>simp at hj;subst hj;simp[Addr.add]|1,hj=>simp at hj;subst hj;simp[Addr.add]|2,hj=>simp at hj;subst hj;simp[Addr.add]
   case c2=>intro u hu;simp at hu;rcases hu with rfl|rfl|rfl<;>rfl
   case c3=>omega
   intro w2 hO2 hg2
   rw[<-HE.out]at hO2
   have hF2:Fr [] w w2:=(hF.then (Fr.alloc [] wr _)).on (Fr.grown (S:=[g]) hg2 (by intro k hk _;cases hk;simp)) (by intro y hy;simp at hy;omega)
   clear hO hg2 hF d0 d1 d2
   go_wp2
   go_roundw
   case rel=>exact⟨i+1,rfl,by simp,by omega,hO2,hF2⟩
   case measure=>simp[RowKit.intOf];omega
  ·have hiL':L<=i:=by omega
   obtain rfl:i=L:=by omega
   have HE:Hid (vnsC (ws++[spV])=vnsC (ws.take i)++[.int .i64 7777,.string ⟨#[]⟩,.bool false]):=by
    show _=_
    rw[List.take_of_length_le (by rw[<-HL.out];omega),zgn];rfl
   go_wp2_with (at_builtin;refine wpList_append_fits _ rfl (.tmp 22) (.tmp 24) 95 rfl 0 157 i0 3 Tryz.undVnsW hi hz1 g i (i+1) _ rfl (hO.alloc _) ⟨wr.heap.size,0,none⟩ 1 1 [.int .i64 7777,.string ⟨#[]⟩,.bool false] rfl rfl ?c1 ?c2 ?c3 ?_)
   case c1=>intro j u hj;match j,hj with|0,hj=>simp at hj;subst hj;simp[Addr.add]|1,hj=>simp at hj;subst hj;simp[Addr.add]|2,hj=>simp at hj;subst hj;simp[Addr.add]
   case c2=>intro u hu;simp at hu;rcases hu with rfl|rfl|rfl<;>rfl
   case c3=>omega
   intro w2 hO2 hg2
   rw[<-HE.out]at hO2
   have hF2:Fr [] w w2:=(hF.then (Fr.alloc [] wr _)).on (Fr.grown (S:=[g]) hg2 (by intro k hk _;cases hk;simp)) (by intro y hy;simp at hy;omega)
   have HRow:Hid (w2.heap[g]? = some (.cells (vnsC (ws++[spV])).toArray 157 (0,0))):=zss hO2
   clear hO hg2 hF hO2
   go_wp2
   go_ret
   exact⟨g,rfl,hgw,HRow.out,hF2⟩
theorem zpn (t:Nat) (ao:Option Addr) (L cap:Nat) (ws:List Vn) (w:World) (h:VRs w ao ws) (hLe:L=ws.length) (hL:L<2^21) (hrow:w.heap[t]? = some (.cells (vnsC (ws++[spV])).toArray 157 (0,0))) :
  Calls Tryz.prog 135 #[.slice (some ⟨t,0,none⟩) L (L+1),.slice ao L cap] w fun e w'=>e= .returned (.bool true)/\Fr [] w w':=by
 have HL:Hid (L=ws.length):=hLe
 clear hLe
 have hct: ∀j,j<L->VAt w t (j*3) (ws.getD j Vn.zero):=by
  intro j hj
  have key: ∀c,c<3->w.cell? ⟨t,j*3+c,none⟩=(vnC (ws.getD j Vn.zero))[c]? :=by
   intro c hc
   rw[cell_of_row _ _ _ _ _ _ hrow]
   have:=zkz (ws++[spV]) j c (by rw[List.length_append,<-HL.out];simp;omega) hc
   have e:(ws++[spV]).getD j Vn.zero=ws.getD j Vn.zero:=by simp[List.getD,List.getElem?_append_left (show j<ws.length by rw[<-HL.out];exact hj)]
   rw[e]at this
   simpa using this
  exact⟨key 0 (by omega),key 1 (by omega),key 2 (by omega)⟩
 have hsp:VAt w t (L*3) spV:=by
  have key: ∀c,c<3->w.cell? ⟨t,L*3+c,none⟩=(vnC spV)[c]? :=by
   intro c hc
   rw[cell_of_row _ _ _ _ _ _ hrow]
   have:=zkz (ws++[spV]) L c (by rw[List.length_append,<-HL.out];simp) hc
   have e:(ws++[spV]).getD L Vn.zero=spV:=by simp[List.getD,HL.out]
   rw[e]at this
   simpa using this
  exact⟨key 0 (by omega),key 1 (by omega),key 2 (by omega)⟩
 have hne:((L:Int)!=L)=false:=by simp
 have hgd:=Tryz.guardVn
 clear hrow
 go_enter Tryz.func135,Tryz.ntmps135
 go_wp2_with fail
 go_loopw [5] (fun ii wr=> ∃(i q:Nat),ii= .int .i64 i/\i<=L/\Hid (wr=w.drewN q)) (fun ii _=>L-(RowKit.intOf ii).toNat)
 case atStart=>exact⟨0,0,rfl,Nat.zero_le _,rfl⟩
 case round =>
  obtain⟨i,q,rfl,hiL,HQ⟩:=hrel
  have hce: ∀a,wr.cell? a=w.cell? a:=fun a=>by rw[HQ.out];rfl
  by_cases hi:i<L
  ·have hi':i<ws.length:=by rw[<-HL.out];exact hi
   obtain⟨b,off,e,_,hc⟩:=h.lies (by omega)
   subst e
   obtain⟨c0,c1,c2⟩:=hct i hi
   obtain⟨d0,d1,d2⟩:=hc i hi'
   obtain⟨x,hxx⟩: ∃x,x=ws.getD i Vn.zero:=⟨_,rfl⟩
   rw[<-hxx,<-hce]at c0 c1 c2 d0 d1 d2
   clear hxx hct hc hsp hce
   have hq: ∀w',(Op.equalIn 10000 157 (.agg #[.int .i64 x.num,.string x.val,.bool x.drop]) (.agg #[.int .i64 x.num,.string x.val,.bool x.drop])).run Tryz.prog w'= .ok true w':=fun w'=>by rw[zwl w' x x,(ziz x x).2 rfl]
   go_wp2_with fail
   go_quiet (fail)
   go_wp2
   go_roundw
   case rel=>exact⟨i+1,q+nq,by simp,by omega,by show _=_;rw[HQ.out];simp⟩
   case measure=>simp[RowKit.intOf];omega
  ·have hiL':L<=i:=by omega
   obtain⟨c0,c1,c2⟩:=hsp
   rw[<-hce]at c0 c1 c2
   have hFq:Fr [] w wr:=by rw[HQ.out];exact Fr.drewN _ _ _
   clear hct hce
   have hq: ∀w',(Op.equalIn 10000 157 (.agg #[.int .i64 7777,.string ⟨#[]⟩,.bool false]) (.agg #[.int .i64 7777,.string ⟨#[]⟩,.bool false])).run Tryz.prog w'= .ok true w':=fun w'=>by
    have:=zwl w' spV spV
    rw[(ziz spV spV).2 rfl]at this
    exact this
   simp only[spV]at c0 c1 c2
   go_wp2
   go_ret
   exact⟨by simp,hFq.then (Fr.alloc [] _ _)⟩
open Go.Maps
structure Hd where
 key:ByteArray
 vo:Option Addr
 L:Nat
 cap:Nat
 vs:List Vn
def Hd.zero:Hd:=⟨noS,none,0,0,[]⟩
structure HEach (w:World) (h:Hd):Prop where
 k:h.key.size<=140737488355328
 len:h.L=h.vs.length
 cp:h.L<=h.cap
 rs:VRs w h.vo h.vs
structure HRs (w:World) (ao:Option Addr) (hs:List Hd):Prop where
 lies:0<hs.length-> ∃b off,ao=some ⟨b,off,none⟩/\b<w.heap.size/\ ∀i,i<hs.length->w.cell? ⟨b,off+i*2,none⟩=some (.string (hs.getD i Hd.zero).key)/\w.cell? ⟨b,off+i*2+1,none⟩=some (.slice (hs.getD i Hd.zero).vo (hs.getD i Hd.zero).L (hs.getD i Hd.zero).cap)
 few:hs.length<=3518437208882
 each: ∀h∈hs,HEach w h
theorem HEach.keep {w w':World} {h:Hd} (he:HEach w h) (hf:Fr [] w w'):HEach w' h:=⟨he.k,he.len,he.cp,he.rs.keep hf⟩
theorem HRs.keep {w w':World} {ao:Option Addr} {hs:List Hd} (h:HRs w ao hs) (hf:Fr [] w w'):HRs w' ao hs:=by
 refine⟨fun h0=> ?_,h.few,fun x hx=>(h.each x hx).keep hf⟩
 obtain⟨b,off,e,hb,hc⟩:=h.lies h0
 have hk: ∀o,w'.cell? ⟨b,o,none⟩=w.cell? ⟨b,o,none⟩:=fun o=>World.cell?_of_block (hf.block b hb (by simp))
 exact⟨b,off,e,Nat.lt_of_lt_of_le hb hf.size,fun i hi=>⟨(hk _).trans (hc i hi).1,(hk _).trans (hc i hi).2⟩⟩
theorem zdt (hs:List Hd) (i:Nat) (h:i<hs.length):hs.getD i Hd.zero∈hs:=by simp[List.getD,h]
theorem zpo (hs:List Hd) (i:Nat) (h:i<hs.length):hs.take (i+1)=hs.take i++[hs.getD i Hd.zero]:=by
 rw[List.take_add_one]
 simp[List.getD,h]
structure IRs (w:World) (ao:Option Addr) (ns:List Int):Prop where
 lies:0<ns.length-> ∃b off,ao=some ⟨b,off,none⟩/\b<w.heap.size/\ ∀i,i<ns.length->w.cell? ⟨b,off+i,none⟩=some (.int .i64 (ns.getD i 0))
 few:ns.length<=17592186044416
theorem IRs.keepS {S:List Nat} {w w':World} {ao:Option Addr} {ns:List Int} (h:IRs w ao ns) (hf:Fr S w w') (hn:0<ns.length-> ∀a,ao=some a->a.block∉S):IRs w' ao ns:=by
 refine⟨fun h0=> ?_,h.few⟩
 obtain⟨b,off,e,hb,hc⟩:=h.lies h0
 exact⟨b,off,e,Nat.lt_of_lt_of_le hb hf.size,fun i hi=>(World.cell?_of_block (hf.block b hb (hn h0 _ e))).trans (hc i hi)⟩
theorem IRs.keep {w w':World} {ao:Option Addr} {ns:List Int} (h:IRs w ao ns) (hf:Fr [] w w'):IRs w' ao ns:=h.keepS hf (by simp)
theorem zbm (ns:List Int) (i:Nat) (h:i<ns.length):ns.take (i+1)=ns.take i++[ns.getD i 0]:=by
 rw[List.take_add_one]
 simp[List.getD,h]
def zht (o:Hd):List Value:=[.string o.key,.slice o.vo o.L o.cap]
section
variable {H:Type} {enc:TypeId×Value->H}
theorem zbo {P:Program} {e:TypeId}: ∀ {ds:List (DataW H)} {d:DataW H},d∈ds-> ∀n∈d.weights P e,n∈DataW.weightsAll P e ds
 | x::r,d,hd,n,hn=>by
  simp only[DataW.weightsAll,List.mem_append]
  rcases List.mem_cons.1 hd with rfl|hd
  ·exact Or.inl hn
  ·exact Or.inr (zbo hd n hn)
theorem Tryz.undHds9:Tryz.prog.underlying 26=some (.slice 97):=by kernel_rfl
theorem Tryz.cellsHd9:Tryz.prog.cellsOf 97=2:=by kernel_rfl
theorem Tryz.undI9:Tryz.prog.underlying 3=some (.int .i64):=by kernel_rfl
theorem Tryz.cI9:Tryz.prog.cellsOf 3=1:=by kernel_rfl
theorem Tryz.cS9:Tryz.prog.cellsOf 9=1:=by kernel_rfl
theorem Tryz.cVns9:Tryz.prog.cellsOf 95=1:=by kernel_rfl
theorem Tryz.cIs9:Tryz.prog.cellsOf 25=1:=by kernel_rfl
theorem Tryz.undIs9:Tryz.prog.underlying 25=some (.slice 3):=by kernel_rfl
theorem Tryz.hdFields9:(match Tryz.prog.underlying 97 with|some (.struct fs)=>fs.toList.map (fun f=>(f.type,f.offset))|_=>[])=[(9,0),(95,1)]:=by kernel_rfl
theorem IRs.of_open15 {w:World} {a:Addr} {len cap:Nat} {zs:List Int} (hl:len<=cap) (hz:zs.length=cap) (hc: ∀i,i<zs.length->w.cell? (a.add i)=some (.int .i64 (zs.getD i 0))) (hb:len<=17592186044416):IRs w (some a) (zs.take len):=by
 refine⟨fun h0=> ?_,by simp;omega⟩
 rw[List.length_take]at h0
 obtain⟨b,off,spot⟩:=a
 have hspot:spot=none:=by simpa[Addr.add]using World.cell?_spot (hc 0 (by omega))
 subst hspot
 refine⟨b,off,rfl,?_,fun j hj=> ?_⟩
 ·have:=World.block_lt_of_cell? w _ (hc 0 (by omega))
  simpa[Addr.add]using this
 ·rw[List.length_take]at hj
  have h1:=hc j (by omega)
  rw[show (⟨b,off,none⟩:Addr).add j=⟨b,off+j,none⟩ from by simp[Addr.add]]at h1
  rw[h1]
  congr 2
  simp only[List.getD]
  rw[List.getElem?_take_of_lt (by omega)]
theorem zvk {w:World} {fuel:Nat} {v:Value} {x:DataW H×List MemPlace} (h:DataW.trod enc Tryz.prog w 0 (fun _=>true) true fuel 25 [v]=some x) (hsz: ∀n∈x.1.weights Tryz.prog 25,n<=reachBytes) :
  ∃ao L cap ns,v= .slice ao L cap/\IRs w ao ns/\L=ns.length/\L<=cap:=by
 rcases open_ints Tryz.undIs9 Tryz.undI9 Tryz.cI9 h with ⟨hcs,_⟩|⟨a,l,c,zs,hcs,_,hl,hm,hz,hx,hcell,hwz⟩
 ·simp only[List.cons.injEq,and_true]at hcs
  exact⟨none,0,0,[],hcs,⟨fun h=>by simp at h,by simp⟩,rfl,Nat.le_refl _⟩
 ·simp only[List.cons.injEq,and_true]at hcs
  simp only[if_true]at hz
  have hw:zs.length*Tryz.prog.bytesOf 3<=reachBytes:=by
   apply hsz
   rw[hx]
   simp only[DataW.weights,Tryz.undIs9,lits,List.length_map]
   rw[show (zs.take l).length+(zs.drop l).length=zs.length by rw[<-List.length_append,List.take_append_drop]]
   exact List.mem_cons_self
  rw[show Tryz.prog.bytesOf 3=8 from by kernel_rfl]at hw
  have hr:=reachBytes_lt
  exact⟨some a,l,c,zs.take l,hcs,IRs.of_open15 hl hz hcell (by omega),by rw[List.length_take];omega,by omega⟩
theorem zyg {w:World} {fuel:Nat} {cs:List Value} {x:DataW H×List MemPlace} (h:DataW.trod enc Tryz.prog w 0 (fun _=>true) true fuel 97 cs=some x) (hsz: ∀n∈x.1.weights Tryz.prog 97,n<=reachBytes) :
  ∃o:Hd,cs=zht o/\HEach w o:=by
 have hF:=Tryz.hdFields9
 cases hu:Tryz.prog.underlying 97 with
 | none=>rw[hu]at hF;simp at hF
 | some u =>
  rw[hu]at hF
  cases u with
  | struct fs =>
   simp only at hF
   obtain⟨ys,n,_,hx,hlen,hys,hf⟩:=DataW.trod_struct hu h
   rw[Tryz.cellsHd9]at hlen
   match cs,hlen with
   | [v0,v1],_ =>
    have hl2:fs.toList.length=2:=by have:=congrArg List.length hF;simpa using this
    obtain⟨l,hl⟩: ∃l,l=fs.toList:=⟨_,rfl⟩
    rw[<-hl]at hF hl2
    match l,hl2 with
    | [f0,f1],_ =>
     simp only[List.map_cons,List.map_nil,List.cons.injEq,Prod.mk.injEq,and_true]at hF
     obtain⟨⟨t0,o0⟩,⟨t1,o1⟩⟩:=hF
     have g: ∀(i:Nat) (f:Field),[f0,f1][i]? = some f->fs[i]? = some f:=by
      intro i f hi
      rw[hl]at hi
      simpa using hi
     have r0:=hf 0 f0 (g 0 f0 rfl)
     have r1:=hf 1 f1 (g 1 f1 rfl)
     rw[t0,o0,Tryz.cS9]at r0
     rw[t1,o1,Tryz.cVns9]at r1
     simp only[List.drop_zero,List.drop_succ_cons,List.take_succ_cons,List.take_zero]at r0 r1
     have hy2:ys.length=2:=by rw[hys];have:=congrArg List.length hl;simpa using this.symm
     match ys,hy2 with
     | [y0,y1],_ =>
      simp only[List.getElem?_cons_zero,List.getElem?_cons_succ]at r0 r1
      have hty:fs.toList.map (·.type)=[9,95]:=by rw[<-hl];simp[t0,t1]
      have hw: ∀(j:Nat) (t:TypeId) (d:DataW H),[9,95][j]? = some t->[y0.1,y1.1][j]? = some d-> ∀q∈d.weights Tryz.prog t,q<=reachBytes:=fun j t d h1 h2 q hq=>by
       apply hsz
       rw[hx]
       simp only[DataW.weights,hu]
       rw[hty]
       exact DataW.weights_mem_each (j:=j) (t:=t) (d:=d) h1 h2 _ hq
      obtain⟨s0,e0,x0,_⟩:=DataW.trod_string Tryz.undStr r0
      obtain⟨ao,L,cap,vs,e1,hV,hL,hc⟩:=zyd (d:=y1.1) (ps:=y1.2) r1 (hw 1 95 y1.1 rfl rfl)
      simp only[List.cons.injEq,and_true]at e0
      have hk:=hw 0 9 y0.1 rfl rfl s0.size (by rw[x0];simp only[DataW.weights,List.mem_singleton];show s0.data.size=_;simp)
      have hr:=reachBytes_lt
      refine⟨⟨s0,ao,L,cap,vs⟩,?_,⟨by simp only;omega,hL,hc,hV⟩⟩
      simp only[zht]
      rw[e0,e1]
  | _=>simp at hF
theorem zvl {w:World} {fuel:Nat} {v:Value} {d:DataW H} {ps:List MemPlace} (h:DataW.trod enc Tryz.prog w 0 (fun _=>true) true fuel 26 [v]=some (d,ps)) (hsz: ∀n∈d.weights Tryz.prog 26,n<=reachBytes) :
  ∃ao L cap os,v= .slice ao L cap/\HRs w ao os/\L=os.length/\L<=cap/\L<=3518437208780:=by
 rcases Go.Deep.open_slice Tryz.undHds9 h with ⟨hcs,_⟩|⟨a,len,cap,m,n,D,Pl,hcs,hb,hl,hm,hmm,hx,hE⟩
 ·simp only[List.cons.injEq,and_true]at hcs
  exact⟨none,0,0,[],hcs,⟨fun h=>by simp at h,by simp,by simp⟩,rfl,Nat.le_refl _,by omega⟩
 ·simp only[List.cons.injEq,and_true]at hcs
  simp only[if_true]at hmm
  subst hmm
  rw[Tryz.cellsHd9]at hE hx
  have hd:d= .slice ((List.range len).map D) ((List.range (m-len)).map fun j=>D (len+j)):=by have:=congrArg Prod.fst hx;simpa using this
  have hr:=reachBytes_lt
  have hW: ∀i,i<len-> ∀q∈(D i).weights Tryz.prog 97,q<=reachBytes:=by
   intro i hi q hq
   apply hsz
   rw[hd]
   simp only[DataW.weights,Tryz.undHds9]
   refine List.mem_cons_of_mem _ (List.mem_append_left _ ?_)
   exact zbo (List.mem_map.2 ⟨i,by simpa using hi,rfl⟩) _ hq
  have hO: ∀i,i<len-> ∃o:Hd,(w.cells? 0 (a.add (i*2)) 2=some (zht o))/\HEach w o:=by
   intro i hi
   obtain⟨cs',h1,h2⟩:=hE i (by omega)
   obtain⟨o,rfl,hT⟩:=zyg h2 (hW i hi)
   exact⟨o,h1,hT⟩
  haveI:Inhabited Hd:=⟨Hd.zero⟩
  obtain⟨F,hF⟩:=Go.Deep.choose_lt hO
  have hlen:len<=3518437208780:=by
   have hw:len*Tryz.prog.bytesOf 97<=reachBytes:=by
    refine Nat.le_trans (Nat.mul_le_mul_right _ hl) (hsz _ ?_)
    rw[hd]
    simp only[DataW.weights,Tryz.undHds9,List.length_map,List.length_range]
    rw[show len+(m-len)=m by omega]
    exact List.mem_cons_self
   rw[show Tryz.prog.bytesOf 97=40 from by kernel_rfl]at hw
   have hr2:reachBytes=140737488351232:=rfl
   omega
  refine⟨some a,len,m,(List.range len).map F,hcs,⟨fun h0=> ?_,by simp;omega,?_⟩,by simp,hl,hlen⟩
  ·simp only[List.length_map,List.length_range]at h0 ⊢
   have hc0:=(World.cells?_some (hF 0 (by omega)).1).2.2
   obtain⟨b,off,spot⟩:=a
   have hspot:spot=none:=by
    have:=hc0 0 (by omega)
    simp[zht]at this
    simpa[Addr.add]using World.cell?_spot this
   subst hspot
   have hcell: ∀i,i<len-> ∀j,j<2->w.cell? ⟨b,off+i*2+j,none⟩=(zht (F i))[j]? :=by
    intro i hi j hj
    have:=(World.cells?_some (hF i (by omega)).1).2.2 j hj
    rw[show ((⟨b,off,none⟩:Addr).add (i*2)).add j=⟨b,off+i*2+j,none⟩ from by rw[Addr.add_lit,Addr.add_lit]]at this
    exact this
   refine⟨b,off,rfl,World.block_lt_of_cell? w ⟨b,off+0*2+0,none⟩ (by rw[hcell 0 (by omega) 0 (by omega)];rfl),fun i hi=> ?_⟩
   have e:((List.range len).map F).getD i Hd.zero=F i:=by simp[List.getD,hi]
   rw[e]
   exact⟨hcell i hi 0 (by omega),hcell i hi 1 (by omega)⟩
  ·intro t ht
   obtain⟨i,hi,rfl⟩:=List.mem_map.1 ht
   exact (hF i (by simpa using hi)).2
theorem Tryz.cHds15:Tryz.prog.cellsOf 26=1:=by kernel_rfl
theorem Tryz.cSv:Tryz.prog.cellsOf 28=3:=by kernel_rfl
theorem Tryz.svFields:(match Tryz.prog.underlying 28 with|some (.struct fs)=>fs.toList.map (fun f=>(f.type,f.offset))|_=>[])=[(3,0),(25,1),(26,2)]:=by kernel_rfl
theorem sv_open {w:World} {fuel:Nat} {cs:List Value} {x:DataW H×List MemPlace} (h:DataW.trod enc Tryz.prog w 0 (fun _=>true) true fuel 28 cs=some x) (hsz: ∀n∈x.1.weights Tryz.prog 28,n<=reachBytes) :
  ∃(m:Int) (bo:Option Addr) (Lb cb:Nat) (bs:List Int) (ao:Option Addr) (L cap:Nat) (os:List Hd),cs=[.int .i64 m,.slice bo Lb cb,.slice ao L cap]/\(-9223372036854775808<=m/\m<=9223372036854775807)/\IRs w bo bs/\Lb=bs.length/\HRs w ao os/\L=os.length:=by
 have hF:=Tryz.svFields
 cases hu:Tryz.prog.underlying 28 with
 | none=>rw[hu]at hF;simp at hF
 | some u =>
  rw[hu]at hF
  cases u with
  | struct fs =>
   simp only at hF
   obtain⟨ys,n,_,hx,hlen,hys,hf⟩:=DataW.trod_struct hu h
   rw[Tryz.cSv]at hlen
   match cs,hlen with
   | [v0,v1,v2],_ =>
    have hl2:fs.toList.length=3:=by have:=congrArg List.length hF;simpa using this
    obtain⟨l,hl⟩: ∃l,l=fs.toList:=⟨_,rfl⟩
    rw[<-hl]at hF hl2
    match l,hl2 with
    | [f0,f1,f2],_ =>
     simp only[List.map_cons,List.map_nil,List.cons.injEq,Prod.mk.injEq,and_true]at hF
     obtain⟨⟨t0,o0⟩,⟨t1,o1⟩,⟨t2,o2⟩⟩:=hF
     have g: ∀(i:Nat) (f:Field),[f0,f1,f2][i]? = some f->fs[i]? = some f:=by
      intro i f hi
      rw[hl]at hi
      simpa using hi
     have r0:=hf 0 f0 (g 0 f0 rfl)
     have r1:=hf 1 f1 (g 1 f1 rfl)
     have r2:=hf 2 f2 (g 2 f2 rfl)
     rw[t0,o0,Tryz.cI9]at r0
     rw[t1,o1,Tryz.cIs9]at r1
     rw[t2,o2,Tryz.cHds15]at r2
     simp only[List.drop_zero,List.drop_succ_cons,List.take_succ_cons,List.take_zero]at r0 r1 r2
     have hy2:ys.length=3:=by rw[hys];have:=congrArg List.length hl;simpa using this.symm
     match ys,hy2 with
     | [y0,y1,y2],_ =>
      simp only[List.getElem?_cons_zero,List.getElem?_cons_succ]at r0 r1 r2
      have hty:fs.toList.map (·.type)=[3,25,26]:=by rw[<-hl];simp[t0,t1,t2]
      have hw: ∀(j:Nat) (t:TypeId) (d:DataW H),[3,25,26][j]? = some t->[y0.1,y1.1,y2.1][j]? = some d-> ∀q∈d.weights Tryz.prog t,q<=reachBytes:=fun j t d h1 h2 q hq=>by
       apply hsz
       rw[hx]
       simp only[DataW.weights,hu]
       rw[hty]
       exact DataW.weights_mem_each (j:=j) (t:=t) (d:=d) h1 h2 _ hq
      obtain⟨k0,e0,_,w0⟩:=DataW.trod_int Tryz.undI9 r0
      obtain⟨bo,Lb,cb,bs,e1,hB,hLb,_⟩:=zvk r1 (hw 1 25 y1.1 rfl rfl)
      obtain⟨ao,L,cap,os,e2,hH,hL,_,hM⟩:=zvl r2 (hw 2 26 y2.1 rfl rfl)
      have b0:=bounds_i64 w0
      simp only[List.cons.injEq,and_true]at e0
      exact⟨k0,bo,Lb,cb,bs,ao,L,cap,os,by rw[e0,e1,e2],by omega,hB,hLb,hH,hL⟩
  | _=>simp at hF
end
def hdC (h:Hd):List Value:=[.string h.key,.slice h.vo h.L h.cap]
def hdsC (hs:List Hd):List Value:=hs.flatMap hdC
theorem zvm (hs:List Hd) (i:Nat) (h:i<hs.length):(hdsC hs)[i*2]? = some (.string (hs.getD i Hd.zero).key)/\(hdsC hs)[i*2+1]? = some (.slice (hs.getD i Hd.zero).vo (hs.getD i Hd.zero).L (hs.getD i Hd.zero).cap):=by
 induction hs generalizing i with
 | nil=>simp at h
 | cons p ps ih =>
  cases i with
  | zero=>simp[hdsC,hdC]
  | succ i =>
   have:=ih i (by simpa using h)
   have e1:(hdsC (p::ps))[(i+1)*2]? = (hdsC ps)[i*2]? :=by
    rw[show (i+1)*2=i*2+2 by omega]
    simp[hdsC,hdC]
   have e2:(hdsC (p::ps))[(i+1)*2+1]? = (hdsC ps)[i*2+1]? :=by
    rw[show (i+1)*2+1=i*2+1+2 by omega]
    simp[hdsC,hdC]
   rw[e1,e2]
   simpa using this
end Go.Proofs.YtaaghcimfcjehaaGreatDoor.Q
namespace Go.Proofs.YtaaghcimfcjehaaGreatDoor
open Go.ChangeShapes Go.WideShapes Go.ChangeAt Go.RowKit Go.Lib
theorem Tryz.undWt:Tryz.prog.underlying 92=some (.struct (Tryz.prog.fieldsOf 92)):=by kernel_rfl
theorem Tryz.heldWt:Tryz.prog.stoodInHeld 92=false:=by kernel_rfl
theorem Tryz.guardWt:Tryz.prog.eqGuardType Tryz.prog.depth 92=false:=by kernel_rfl
theorem Tryz.fieldsWt:(Tryz.prog.fieldsOf 92).toList.map (fun f=>(f.name == "_",f.type,f.offset))=[(false,9,0),(false,9,1),(false,4,2)]:=by kernel_rfl
theorem Tryz.undBool:Tryz.prog.underlying 4=some .bool:=by kernel_rfl
theorem zez (w:World) (cs:Array Value) (off:Nat) (v:Value) (h:cs[off]? = some v):(part 9 cs off).run Tryz.prog w= .ok v w:=by
 simp[part,isAgg,run_underlying Tryz.undStr,h,Sem.run_bind]
theorem zja (w:World) (cs:Array Value) (off:Nat) (v:Value) (h:cs[off]? = some v):(part 4 cs off).run Tryz.prog w= .ok v w:=by
 simp[part,isAgg,run_underlying Tryz.undBool,h,Sem.run_bind]
theorem zsv (w:World) (a b:ByteArray):(Op.equalIn 9999 9 (.string a) (.string b)).run Tryz.prog w= .ok (a.toList==b.toList) w:=run_equalIn_string w 9998 _ a b Tryz.undStr
theorem zyh (w:World) (a b:Bool):(Op.equalIn 9999 4 (.bool a) (.bool b)).run Tryz.prog w= .ok (a==b) w:=run_equalIn_bool w 9998 _ a b Tryz.undBool
theorem zfa {P:Program} {w:World} {A B:Sem Value} {E:Value->Value->Sem Bool} {K:Sem Bool} {a b:Value} {r:Bool} (hA:A.run P w= .ok a w) (hB:B.run P w= .ok b w) (hE:(E a b).run P w= .ok r w) :
  (do let a <- A;let b <- B;let r <- E a b;if (!r)=true then pure false else K:Sem Bool).run P w=if r=true then K.run P w else .ok false w:=by
 simp only[Sem.run_bind,hA,hB,hE,Result.andThen_ok]
 cases r<;>simp
theorem zsw (w:World) (k1 v1 k2 v2:ByteArray) (p1 p2:Bool):(Op.equalIn 10000 92 (.agg #[.string k1,.string v1,.bool p1]) (.agg #[.string k2,.string v2,.bool p2])).run Tryz.prog w= .ok (k1.toList==k2.toList&&(v1.toList==v2.toList&&p1==p2)) w:=by
 rw[run_equalIn_struct w 9999 _ _ _ Tryz.undWt Tryz.heldWt]
 have hF:=Tryz.fieldsWt
 obtain⟨l,hl⟩: ∃l,l=(Tryz.prog.fieldsOf 92).toList:=⟨_,rfl⟩
 rw[<-hl]at hF ⊢
 match l,hF with
 | [f0,f1,f2],hF =>
  simp only[List.map_cons,List.map_nil,List.cons.injEq,Prod.mk.injEq,and_true]at hF
  obtain⟨⟨n0,t0,o0⟩,⟨n1,t1,o1⟩,⟨n2,t2,o2⟩⟩:=hF
  have m0:f0.name≠ "_" :=by simpa using n0
  have m1:f1.name≠ "_" :=by simpa using n1
  have m2:f2.name≠ "_" :=by simpa using n2
  simp only[Op.eqFields,if_pos m0,if_pos m1,if_pos m2,t0,t1,t2,o0,o1,o2]
  rw[zfa (zez w _ 0 _ rfl) (zez w _ 0 _ rfl) (zsv w k1 k2)]
  rw[zfa (zez w _ 1 _ rfl) (zez w _ 1 _ rfl) (zsv w v1 v2)]
  rw[zfa (zja w _ 2 _ rfl) (zja w _ 2 _ rfl) (zyh w p1 p2)]
  cases (k1.toList==k2.toList)<;>cases (v1.toList==v2.toList)<;>cases (p1==p2)<;>simp
def zpv (x y:Wt):Bool:=x.key.toList==y.key.toList&&(x.val.toList==y.val.toList&&x.drop==y.drop)
theorem zjb (x y:Wt):zpv x y=true↔x=y:=by
 obtain⟨k1,v1,p1⟩:=x
 obtain⟨k2,v2,p2⟩:=y
 simp only[zpv,Bool.and_eq_true,beq_iff_eq,zhc,Wt.mk.injEq]
theorem zwm (w:World) (x y:Wt):(Op.equalIn 10000 92 (.agg #[.string x.key,.string x.val,.bool x.drop]) (.agg #[.string y.key,.string y.val,.bool y.drop])).run Tryz.prog w= .ok (zpv x y) w:=zsw w _ _ _ _ _ _
end Go.Proofs.YtaaghcimfcjehaaGreatDoor
