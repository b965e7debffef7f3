/- Contracts and plain lemmas of this claim. -/
import Derived.Test.YtaaghcimfcjehaaGreatDoorGp5
import Derived.Test.YtaaghcimfcjehaaGreatDoorGp6
import Derived.Test.YtaaghcimfcjehaaGreatDoorGp7
import Derived.Test.YtaaghcimfcjehaaGreatDoorGp9
import Derived.Test.YtaaghcimfcjehaaGreatDoorGp8
import Derived.Test.YtaaghcimfcjehaaGreatDoorGp3
set_option linter.unusedSimpArgs false
set_option linter.unusedVariables false
namespace Go.Proofs.YtaaghcimfcjehaaGreatDoor
open Go.ChangeShapes Go.WideShapes Go.ChangeAt Go.RowKit Go.Lib Go.Maps Go.Sort Go.Shelf
theorem zhd {P:Program} (w:World) {ops:Array Oper} {rest:List Oper} {op:Oper} {a:Act} {Q:Exit->Act->World->Prop} (hgd:op.guard=none) (m x:Operand) (t k:TypeId)
  (ho:op.op= .call { callee:= .builtin .delete,args:= #[m,x],argTypes:= #[t,k] }) (mv kv:Value) (hm:a.eval m=mv) (hx:a.eval x=kv) {R:World->Prop}
  (hE: ∃w',(Builtin.delete_ #[t,k] op.type #[mv,kv]).run P w= .ok (.tuple #[]) w'/\R w')
  (h: ∀w',R w'->wpList P ops Q rest (a.put op.dst (.tuple #[])) w'):wpList P ops Q (op::rest) a w:=by
 refine wpList_plain hgd fun K hK=> ?_
 obtain⟨w',hr,hR⟩:=hE
 unfold Oper.wp execOp
 simp only[ho,resolve,invoke,builtin,Sem.run_bind,Sem.run_pure,Result.andThen_ok,List.map_toArray,List.map_cons,List.map_nil,hm,hx,hr]
 exact hK _ _ (h w' hR)
def Dt.less (D:Dt) (m:Int) (ys:List Int):Dt:={ D with wt:=fun x y=>D.wt x y/\ ¬(x∈ys/\y=m) }
theorem Dt.less_nil (D:Dt) (m:Int):D.less m []=D:=by
 unfold Dt.less
 cases D
 simp
theorem Dt.less_snoc (D:Dt) (m x:Int) (ys:List Int):{ (D.less m ys) with wt:=fun a y=>(D.less m ys).wt a y/\ ¬(a=x/\y=m) }=D.less m (ys++[x]):=by
 unfold Dt.less
 simp only[Dt.mk.injEq,true_and]
 funext a y
 simp only[List.mem_append,List.mem_singleton,eq_iff_iff]
 constructor
 ·rintro⟨⟨h1,h2⟩,h3⟩
  exact⟨h1,fun⟨h4,h5⟩=>h4.elim (fun h=>h2 ⟨h,h5⟩) (fun h=>h3 ⟨h,h5⟩)⟩
 ·rintro⟨h1,h2⟩
  exact⟨⟨h1,fun⟨h4,h5⟩=>h2 ⟨Or.inl h4,h5⟩⟩,fun⟨h4,h5⟩=>h2 ⟨Or.inr h4,h5⟩⟩
theorem Dt.less_done (D:Dt) (m:Int) (h: ∀a,D.wt a m->a∈D.bh m):{ (D.less m (D.bh m)) with op:=fun x=>(D.less m (D.bh m)).op x/\x≠m }=D.done m:=by
 unfold Dt.less Dt.done
 simp only[Dt.mk.injEq,true_and]
 funext a y
 simp only[eq_iff_iff]
 constructor
 ·rintro⟨h1,h2⟩
  exact⟨h1,fun e=>h2 ⟨h a (e▸h1),e⟩⟩
 ·rintro⟨h1,h2⟩
  exact⟨h1,fun h3=>h2 h3.2⟩
def DoS (D:Dt) (m:Int) (zs:List Int):Prop:= ∃p:Int->Bool,zs=(D.bh m).filter p/\ ∀x,p x=true↔ ∀y∈D.ah x,D.wt x y->y=m
theorem DoS.of {D:Dt} {L:Lg} {en:Int->Prop} (h:Inv D L en) {m:Int} (hm:D.op m) {zs:List Int} (hz:DoS D m zs):DoT L D.op m zs:=by
 obtain⟨p,rfl,hp⟩:=hz
 refine⟨(h.bh m hm).1.filter _,fun o=> ?_⟩
 rw[List.mem_filter,(h.bh m hm).2 o,hp o]
 constructor
 ·rintro⟨⟨h1,h2⟩,h3⟩
  refine⟨h1,h2,fun y hy hne hd=>hne (h3 y ((h.ah o h1).2.2 y hd hy) ((h.wt o y).2 ⟨h1,hy,hd⟩))⟩
 ·rintro⟨h1,h2,h3⟩
  refine⟨⟨h1,h2⟩,fun y hy hw=> ?_⟩
  obtain⟨_,h5,h6⟩:=(h.wt o y).1 hw
  exact Classical.byContradiction fun hne=>h3 y h5 hne h6
theorem ztf {tb:Nat} {B:List Nat} {n:Nat} {D:Dt} (m:Int) (w:World) (h:Tb w tb B n D) (G:Good D) (hm:D.op m) (x:Int) (hx:x∈D.ah m) (hxw:D.wt m x) :
  Calls Tryz.prog 149 #[.pointer (some ⟨tb,0,none⟩),.int .i64 m] w fun e w'=>e= .returned (.tuple #[.slice none 0 0,.int .i64 6])/\Fr [] w w':=by
 have HX:Hid (x∈D.ah m/\D.wt m x):=⟨hx,hxw⟩
 have HC:Hid (Calls _ _ _ _ _):=zha m w h G hm
 clear h G hm hx hxw
 go_enter Tryz.func149,Tryz.ntmps149
 go_wp2_with fail
 refine Calls.mono HC.out ?_
 rintro e w1 ⟨so,N,c,ys,rfl,hO,hA,hF1⟩
 have hN:0<N:=by
  obtain⟨p,hp,hq⟩:=hA.sub
  rw[hO.len,hp]
  exact List.length_pos_of_mem (List.mem_filter.2 ⟨HX.out.1,(hq x).2 HX.out.2⟩)
 clear hO hA HC
 go_wp2
 refine bodyPost_ret (results_tmp2 rfl _ _ _) rfl ?_
 exact⟨rfl,hF1⟩
set_option maxHeartbeats 4000000 in
set_option maxRecDepth 100000 in
theorem zqm {tb:Nat} {B:List Nat} {n:Nat} {D:Dt} (m:Int) (w:World) (h:Tb w tb B n D) (G:Good D) (hm:D.op m) (hno: ∀x∈D.ah m,¬D.wt m x) (hbo: ∀x∈D.bh m,D.op x) (hbw: ∀a,D.wt a m->a∈D.bh m) :
  Calls Tryz.prog 149 #[.pointer (some ⟨tb,0,none⟩),.int .i64 m] w fun e w'=> ∃so N c zs,e= .returned (.tuple #[.slice so N c,.int .i64 0])/\IOw w.heap.size w' so N c zs/\DoS D m zs/\Tb w' tb B n (D.done m)/\Fr B w w':=by
 classical
 obtain⟨p,hp⟩: ∃p:Int->Bool,∀x,p x=decide (∀y∈D.ah x,D.wt x y->y=m):=⟨fun x=>decide (∀y∈D.ah x,D.wt x y->y=m),fun _=>rfl⟩
 have HP:Hid (∀x,p x=true↔ ∀y∈D.ah x,D.wt x y->y=m):=fun x=>by rw[hp];simp
 have HC:Hid (Calls _ _ _ _ _):=zha m w h G hm
 obtain⟨lb,ob,wb,E,hT⟩:=h
 have hmi:i64 m:= .of (G.op m hm)
 obtain⟨e0,he0⟩: ∃e0,E m=some e0:=Option.isSome_iff_exists.1 ((hT.opn m).2 hm)
 obtain⟨xs,hxs⟩: ∃xs,xs=D.bh m:=⟨_,rfl⟩
 obtain⟨h1,h2,h3,h4,h5,h6⟩:=hT.ent m e0 he0
 rw[<-hxs]at h4
 obtain⟨eg,ea,⟨bo,bn,bc⟩⟩:=e0
 simp only at *
 have HXS:Hid (xs=D.bh m):=hxs
 have HN:Hid (bn=xs.length):=h4.len
 have hbf:bn<=65536:=by rw[HN.out,hxs];exact (G.bh m hm).1
 have HT:Hid (TbI w tb lb ob wb B n D E):=hT
 have HG:Hid (Good D):=G
 have HM:Hid (D.op m):=hm
 have HBo:Hid (∀x∈xs,D.op x):=by rw[hxs];exact hbo
 have HBw:Hid (∀a,D.wt a m->a∈D.bh m):=hbw
 have HNo:Hid (∀x∈D.ah m,¬D.wt m x):=hno
 have HE:Hid (E m=some ⟨eg,ea,⟨bo,bn,bc⟩⟩):=he0
 have HRow:Hid (IOw 0 w bo bn bc xs/\ ∀k,(Value.slice bo bn bc).ownBlock=some k->k≠wb):=⟨h4,fun k hk e=>by
  obtain⟨_,cur,hc⟩:=h4.blk hk
  exact zar hc hT.bW e⟩
 clear hp h1 h2 h3 h4 h5 h6 he0 hxs hT G hm hno hbo hbw
 go_enter Tryz.func149,Tryz.ntmps149
 go_wp2_with fail
 refine Calls.mono HC.out ?_
 rintro e w1 ⟨so,N,c,ys,rfl,hO,hA,hF1⟩
 have hN:N=0:=by
  obtain⟨q,hq,hq2⟩:=hA.sub
  rw[hO.len,hq,List.length_eq_zero_iff,List.filter_eq_nil_iff]
  exact fun x hx hx2=>HNo.out x hx ((hq2 x).1 hx2)
 subst hN
 have hT1:=HT.out.keep hF1 (by simp)
 have c2:=hT1.c2
 have hl:=hT1.lookE m hmi _ HE.out
 have cb:w1.cell? ⟨eg,1,none⟩=some (.slice bo bn bc):=by rw[cell_of_row _ _ _ _ _ _ (hT1.ent m _ HE.out).1];rfl
 have HR1:Hid (IOw 0 w1 bo bn bc xs):=HRow.out.1.keep hF1
 have HT1:Hid (TbI w1 tb lb ob wb B n D E):=hT1
 clear hO hA hT1 HC
 go_wp2_with fail
 go_loopw [8,33] (fun ll ii wr=> ∃(i:Nat) (so:Option Addr) (N c:Nat),ii= .int .i64 i/\i<=bn/\ll= .slice so N c/\N<=i/\Hid (IOw w1.heap.size wr so N c ((xs.take i).filter p))/\Hid (TbI wr tb lb ob wb B n (D.less m (xs.take i)) E)/\Hid (Fr [wb] w1 wr)) (fun _ ii _=>bn-(RowKit.intOf ii).toNat)
 case atStart=>exact⟨0,none,0,0,rfl,Nat.zero_le _,rfl,Nat.le_refl _,IOw.nil _ _,(by rw[List.take_zero,Dt.less_nil];exact HT1.out),Fr.refl _ _⟩
 case round =>
  obtain⟨i,so,N,c,rfl,hiN,rfl,hNi,HO,HTi,HFi⟩:=hrel
  by_cases hi:i<bn
  ·obtain⟨g,rfl,_,_,hcs⟩:=(HR1.out.keepS HFi.out (fun k hk=>by simpa using HRow.out.2 k hk)).cells (by omega)
   have hg:=hcs i hi
   have hil:i<xs.length:=by rw[<-HN.out];exact hi
   obtain⟨x,hxe⟩: ∃x,x=xs.getD i 0:=⟨_,rfl⟩
   rw[<-hxe]at hg
   have hxo:D.op x:=by rw[hxe];exact HBo.out _ (zdn xs i hil)
   have hxi:i64 x:= .of (HG.out.op x hxo)
   have c3:=HTi.out.c3
   have HS:=zco xs p i hil
   rw[<-hxe]at HS
   have HS:Hid ((xs.take (i+1)).filter p=_):=HS
   have HDl:Hid (D.less m (xs.take (i+1))={ (D.less m (xs.take i)) with wt:=fun a y=>(D.less m (xs.take i)).wt a y/\ ¬(a=x/\y=m) }):=by
    rw[Dt.less_snoc,hxe,show xs.take (i+1)=xs.take i++[xs.getD i 0] from by rw[List.take_add_one];simp[List.getD,hil]]
    exact rfl
   have HDr:Hid (∀ty,∃w',(Builtin.delete_ #[197,264] ty #[.map (some wb),.agg #[.int .i64 x,.int .i64 m]]).run Tryz.prog wr= .ok (.tuple #[]) w'/\(TbI w' tb lb ob wb B n (D.less m (xs.take (i+1))) E/\Fr [wb] wr w')):=fun ty=>by
    obtain⟨w',j1,j2,j3⟩:=HTi.out.dropW x m hxi hmi ty
    exact⟨w',j1,by rw[HDl.out];exact j2,j3⟩
   have hmem:x∈xs.take (i+1):=by rw[hxe,show xs.take (i+1)=xs.take i++[xs.getD i 0] from by rw[List.take_add_one];simp[List.getD,hil]];simp
   have HMem:Hid (x∈xs.take (i+1)):=hmem
   have HOw:Hid (∀k,(Value.slice so N c).ownBlock=some k->w1.heap.size<=k/\k≠wb):=fun k hk=>by
    obtain⟨h1,cur,h2⟩:=HO.out.blk hk
    exact⟨h1,zar h2 HTi.out.bW⟩
   have HO2:Hid (∀W,Fr [wb] wr W->IOw w1.heap.size W so N c ((xs.take i).filter p)):=fun W hf=>HO.out.keepS hf (fun k hk=>by simpa using (HOw.out k hk).2)
   have hsz:w1.heap.size<=wr.heap.size:=HFi.out.size
   clear hcs hxe HO hmem
   go_wp2_with (first|(at_delete;refine zhd _ rfl _ _ _ _ rfl (.map (some wb)) (.agg #[.int .i64 x,.int .i64 m]) rfl rfl (HDr.out _) ?_;rintro w2 ⟨hT2,hF2⟩;have HT2:Hid (TbI w2 tb lb ob wb B n (D.less m (xs.take (i+1))) E):=hT2;have HF2:Hid (Fr [wb] wr w2):=hF2;clear hT2 hF2)|fail)
   refine (zff x _ ⟨_,_,_,_,HT2.out⟩ hxo hxi (fun y hy=> .of ((HG.out.ah x hxo).2 y hy)) (by have:=(HG.out.ah x hxo).1;show (D.ah x).length<_;omega)).mono ?_
   rintro e w3 ⟨ao,A,ac,ys,rfl,hOa,hAw,hF3⟩
   have hiff:p x=true↔A=0:=by
    obtain⟨q,hq,hq2⟩:=hAw.sub
    rw[hOa.len,hq,List.length_eq_zero_iff,List.filter_eq_nil_iff,HP.out x]
    constructor
    ·intro h1 y hy hy2
     obtain⟨h2,h3⟩:=(hq2 y).1 hy2
     exact h3 ⟨HMem.out,h1 y hy h2⟩
    ·intro h1 y hy hw
     exact Classical.byContradiction fun hne=>h1 y hy ((hq2 y).2 ⟨hw,fun h2=>hne h2.2⟩)
   have HT3:Hid (TbI w3 tb lb ob wb B n (D.less m (xs.take (i+1))) E):=HT2.out.keep hF3 (by simp)
   have hF23:Fr [wb] wr w3:=HF2.out.then (hF3.mono (by simp))
   have hsz3:w1.heap.size<=w3.heap.size:=Nat.le_trans hsz hF23.size
   have HF3:Hid (Fr [wb] w1 w3):=HFi.out.then hF23
   have HO3:Hid (IOw w1.heap.size w3 so N c ((xs.take i).filter p)):=HO2.out _ hF23
   clear hOa hAw HT2 HF2 hF3 HDr hF23
   by_cases hA:A=0
   ·have hpx:=hiff.2 hA
    rw[hpx,if_pos rfl]at HS
    subst hA
    have HO4:Hid (∀W,Fr [] w3 W->IOw w1.heap.size W so N c ((xs.take i).filter p)):=fun W hf=>HO3.out.keep hf
    have HK4:Hid (∀W',Fr (Value.slice so N c).ownBlock.toList (w3.alloc (.cells #[.int .i64 x] 3)) W'->TbI W' tb lb ob wb B n (D.less m (xs.take (i+1))) E/\Fr [wb] w1 W'):=fun W' hf=>by
     have hT4:=HT3.out.keep (Fr.alloc [] w3 (.cells #[.int .i64 x] 3)) (by simp)
     refine⟨hT4.keep hf (fun j hj hj2=> ?_),(HF3.out.then (Fr.alloc [wb] _ _)).trans hf (fun y hy _=>hy) (fun y hy hl=> ?_)⟩
     ·have:=(HOw.out j (Option.mem_toList.1 hj2)).1
      have:=HT1.out.mine j hj
      omega
     ·have:=(HOw.out y (Option.mem_toList.1 hy)).1
      omega
    clear hiff hpx
    go_wp2_with (first
     | (
      at_builtin;refine zat w1.heap.size _ rfl _ _ rfl so N c _ rfl (HO4.out _ (Fr.alloc [] _ _)) _ _ x rfl ?hcell (by omega) ?hsize ?_
      case hcell=>exact zaw _ _ _
      case hsize=>simp;omega
      intro o' c' w4 hO4 hF4 _
      have HR4:Hid (_/\_):=⟨hO4,HK4.out _ hF4⟩
      clear hO4 hF4
      go_frame)
     | fail)
    go_roundw
    case rel=>exact⟨i+1,o',N+1,c',rfl,by omega,rfl,by omega,(by rw[HS.out];exact HR4.out.1),HR4.out.2.1,HR4.out.2.2⟩
    case measure=>simp[RowKit.intOf];omega
   ·have hpx:p x=false:=by
     cases hq:p x with
     | false=>rfl
     | true=>exact absurd (hiff.1 hq) hA
    rw[hpx,if_neg (by simp)]at HS
    clear hiff hpx
    go_wp2_with fail
    go_roundw
    case rel=>exact⟨i+1,so,N,c,rfl,by omega,rfl,by omega,(by rw[HS.out];exact HO3.out),HT3.out,HF3.out⟩
    case measure=>simp[RowKit.intOf];omega
  ·obtain rfl:bn=i:=by omega
   rw[List.take_of_length_le (by rw[<-HN.out];exact Nat.le_refl _)]at HO HTi
   have c2:=HTi.out.c2
   have HDr:Hid (∀ty,∃w',(Builtin.delete_ #[196,3] ty #[.map (some ob),.int .i64 m]).run Tryz.prog wr= .ok (.tuple #[]) w'/\(Tb w' tb B n (D.done m)/\IOw w1.heap.size w' so N c (xs.filter p)/\Fr B w w')):=fun ty=>by
    obtain⟨w',j1,j2,j3⟩:=HTi.out.dropO m hmi ty
    rw[HXS.out]at j2
    have e:=Dt.less_done D m HBw.out
    have j4:TbI w' tb lb ob wb B n (D.done m) (updF E m none):=by rw[<-e];exact j2
    have f1:Fr B w w':=((hF1.mono (T:=B) (by simp)).then (HFi.out.mono (by simpa using fun _=>HT1.out.bw))).then (j3.mono (by simpa using fun _=>HT1.out.bo))
    exact⟨w',j1,⟨lb,ob,wb,_,j4⟩,HO.out.keepS j3 (fun k hk=>by
     obtain⟨_,cur,hc⟩:=HO.out.blk hk
     simpa using zar hc HTi.out.bO),f1⟩
   go_wp2_with (first|(at_delete;refine zhd _ rfl _ _ _ _ rfl (.map (some ob)) (.int .i64 m) rfl rfl (HDr.out _) ?_;rintro w2 hR2;have HR2:Hid (_/\_/\_):=hR2;clear hR2)|fail)
   refine bodyPost_ret (results_tmp2 rfl _ _ _) rfl ?_
   exact⟨so,N,c,xs.filter p,rfl,HR2.out.2.1.low hF1.size,⟨p,by rw[HXS.out],HP.out⟩,HR2.out.1,HR2.out.2.2⟩
def Op11 (L:Lg) (en:Int->Prop) (x:Int):Prop:=(∃p∈L,p.1=x)/\ ¬en x
def Tl (w:World) (tb:Nat) (B:List Nat) (n:Nat) (L:Lg) (en:Int->Prop):Prop:= ∃D,Tb w tb B n D/\Inv D L en/\D.newest<=65536
section
variable {w w':World} {tb:Nat} {B:List Nat} {n:Nat} {L:Lg} {en:Int->Prop}
theorem Inv.op_eq {D:Dt} (h:Inv D L en):D.op=Op11 L en:=funext fun x=>propext (h.op x)
theorem Tl.keep {S:List Nat} (h:Tl w tb B n L en) (hf:Fr S w w') (hS: ∀j∈B,j∉S):Tl w' tb B n L en:=by
 obtain⟨D,h1,h2⟩:=h
 exact⟨D,h1.keep hf hS,h2⟩
theorem Tl.quiet (h:Tl w tb B n L en) (hf:Fr [] w w'):Tl w' tb B n L en:=h.keep hf (by simp)
theorem Tl.mono {m:Nat} (h:Tl w tb B n L en) (hn:n<=m):Tl w tb B m L en:=by
 obtain⟨D,h1,h2⟩:=h
 exact⟨D,h1.mono hn,h2⟩
theorem Tl.mine (h:Tl w tb B n L en): ∀j∈B,j<w.heap.size:=by
 obtain⟨D,h1,h2⟩:=h
 exact h1.mine
theorem Tl.ris (h:Tl w tb B n L en):RisL L:=by
 obtain⟨D,h1,h2,_⟩:=h
 exact h2.ris
def AdT (L:Lg) (en:Int->Prop) (ks:List ByteArray) (xs:List Int):Prop:=Ris xs/\ ∀m,m∈xs↔Op11 L en m/\ ∃k∈ks,lst L k=m
theorem zyq (nn:Int) (wo:Option Addr) (M mc:Nat) (ws:List Wt) (w:World) (h:Tl w tb B n L en) (hW:WRs w wo ws) (hM:M=ws.length) (hok:okT nn ws) (hnew: ∀p∈L,p.1<nn) (hn:n<1073741824) (hWB:0<ws.length-> ∀a,wo=some a->a.block∉B) :
  Calls Tryz.prog 172 #[.pointer (some ⟨tb,0,none⟩),.agg #[.int .i64 nn,.slice wo M mc]] w fun e w'=> ∃xs B',e= .returned (.tuple #[.int .i64 ((xs.length:Nat):Int),.int .i64 0])/\AdT L en (zah ws) xs/\Tl w' tb B' (n+65) (L++[(nn,zah ws)]) en/\(∀j∈B',j∈B\/w.heap.size<=j)/\Fr B w w':=by
 obtain⟨D,h1,h2,h3⟩:=h
 have hlt:D.newest<nn:=by
  rcases h2.tip with e|⟨p,hp,e⟩
  ·have:=hok.1;omega
  ·have:=hnew p hp;omega
 refine (zte nn wo M mc ws w h1 (h2.good h3) hW hM hok hlt (fun ho=> ?_) hn hWB).mono ?_
 ·obtain⟨⟨p,hp,e⟩,_⟩:=(h2.op nn).1 ho
  have:=hnew p hp
  omega
 ·rintro e w' ⟨xs,B',rfl,k1,k2,k3,k4⟩
  refine⟨xs,B',rfl,⟨k1.1,fun m=> ?_⟩,⟨_,k2,h2.add hlt k1,hok.2.1⟩,k3,k4⟩
  rw[k1.2 m,h2.op_eq]
  simp only[h2.last]
theorem zwo (m:Int) (w:World) (h:Tl w tb B n L en) (hm:Op11 L en m) (hf: ∀y,Op11 L en y-> ¬Dep L m y) :
  Calls Tryz.prog 149 #[.pointer (some ⟨tb,0,none⟩),.int .i64 m] w fun e w'=> ∃so N c zs,e= .returned (.tuple #[.slice so N c,.int .i64 0])/\IOw w.heap.size w' so N c zs/\DoT L (Op11 L en) m zs/\Tl w' tb B n L (fun x=>en x\/x=m)/\Fr B w w':=by
 obtain⟨D,h1,h2,h3⟩:=h
 rw[<-h2.op_eq]at hm hf ⊢
 refine (zqm m w h1 (h2.good h3) hm (fun x hx hw=> ?_) (fun x hx=>(((h2.bh m hm).2 x).1 hx).1) (fun a ha=> ?_)).mono ?_
 ·obtain⟨_,j1,j2⟩:=(h2.wt m x).1 hw
  exact hf x j1 j2
 ·obtain⟨j0,j1,j2⟩:=(h2.wt a m).1 ha
  exact ((h2.bh m hm).2 a).2 ⟨j0,j2⟩
 ·rintro e w' ⟨so,N,c,zs,rfl,k1,k2,k3,k4⟩
  exact⟨so,N,c,zs,rfl,k1,k2.of h2 hm,⟨_,k3,h2.done hm hf,h3⟩,k4⟩
theorem znh (m y:Int) (w:World) (h:Tl w tb B n L en) (hm:Op11 L en m) (hy:Op11 L en y) (hd:Dep L m y) :
  Calls Tryz.prog 149 #[.pointer (some ⟨tb,0,none⟩),.int .i64 m] w fun e w'=>e= .returned (.tuple #[.slice none 0 0,.int .i64 6])/\Fr [] w w':=by
 obtain⟨D,h1,h2,h3⟩:=h
 rw[<-h2.op_eq]at hm hy
 exact ztf m w h1 (h2.good h3) hm y ((h2.ah m hm).2.2 y hd hy) ((h2.wt m y).2 ⟨hm,hy,hd⟩)
end
theorem zqn {tb:Nat} {B:List Nat} {n:Nat} {D:Dt} (m:Int) (w:World) (h:Tb w tb B n D) (hmi:i64 m) (hm: ¬D.op m) :
  Calls Tryz.prog 149 #[.pointer (some ⟨tb,0,none⟩),.int .i64 m] w fun e w'=>e= .returned (.tuple #[.slice none 0 0,.int .i64 1])/\Fr [] w w':=by
 have HC:Hid (Calls _ _ _ _ _):=zqi m w h hmi hm
 clear h hm
 go_enter Tryz.func149,Tryz.ntmps149
 go_wp2_with fail
 refine Calls.mono HC.out ?_
 rintro e w1 ⟨rfl,hF1⟩
 go_wp2
 refine bodyPost_ret (results_tmp2 rfl _ _ _) rfl ?_
 exact⟨rfl,hF1⟩
section
variable {w:World} {tb:Nat} {B:List Nat} {n:Nat} {L:Lg} {en:Int->Prop}
theorem zlg (m:Int) (w:World) (h:Tl w tb B n L en) (hmi:i64 m) (hm: ¬Op11 L en m) :
  Calls Tryz.prog 149 #[.pointer (some ⟨tb,0,none⟩),.int .i64 m] w fun e w'=>e= .returned (.tuple #[.slice none 0 0,.int .i64 1])/\Fr [] w w':=by
 obtain⟨D,h1,h2,h3⟩:=h
 rw[<-h2.op_eq]at hm
 exact zqn m w h1 hmi hm
end
structure Ev where
 t:Int
 k:Int
 n:Int
 s:Int
 c:Int
 m:Int
def Ev.no:Ev:=⟨0,0,0,0,0,0⟩
structure Te where
 k:Int
 n:Int
 s:Int
 c:Int
def Te.no:Te:=⟨0,0,0,0⟩
structure Sy where
 read:Int
 holds:Bool
 ma:Int
 bx:List Int
 L:Lg
 en:Int->Prop
 num:Nat->Int
 R:Nat->List Int
 F:Int->Int
 G:Int->Int
def upd {α:Type} (f:Nat->α) (i:Nat) (v:α):Nat->α:=fun j=>if j=i then v else f j
def updI {α:Type} (f:Int->α) (i:Int) (v:α):Int->α:=fun j=>if j=i then v else f j
theorem zad {α:Type} (f:Nat->α) (i:Nat) (v:α):upd f i v i=v:=if_pos rfl
theorem zaa {α:Type} (f:Nat->α) {i j:Nat} (v:α) (h:j≠i):upd f i v j=f j:=if_neg h
theorem zbb {α:Type} (f:Int->α) (i:Int) (v:α):updI f i v i=v:=if_pos rfl
theorem zaq {α:Type} (f:Int->α) {i j:Int} (v:α) (h:j≠i):updI f i v j=f j:=if_neg h
def wsAt (T:List Tx) (n:Int):List Wt:=(T.getD (n-1).toNat Tx.zero).ws
noncomputable def shs (c:Cf) (T:List Tx) (n:Int):List Int:=(dd (wsAt T n)).map fun x=>zbg c.s x.key
open Classical in
noncomputable def adx (L:Lg) (en:Int->Prop) (ks:List ByteArray):List Int:=if h: ∃xs,AdT L en ks xs then Classical.choose h else []
theorem zhh {L:Lg} {en:Int->Prop} {ks:List ByteArray} {xs:List Int} (h:AdT L en ks xs):adx L en ks=xs:=by
 have hx: ∃xs,AdT L en ks xs:=⟨xs,h⟩
 unfold adx
 rw[dif_pos hx]
 have h2:=Classical.choose_spec hx
 exact Ris.one h2.1 h.1 (fun m=>(h2.2 m).trans (h.2 m).symm)
def Mye (L:Lg) (en:Int->Prop) (n:Int):Prop:=Op11 L en n/\ ∀y,Op11 L en y-> ¬Dep L n y
open Classical in
noncomputable def frx (L:Lg) (en:Int->Prop) (n:Int):List Int:=if h:Mye L en n/\ ∃zs,DoT L (Op11 L en) n zs then Classical.choose h.2 else []
open Classical in
noncomputable def enx (L:Lg) (en:Int->Prop) (n:Int):Int->Prop:=if Mye L en n then fun x=>en x\/x=n else en
theorem zhi {L:Lg} {en:Int->Prop} {n:Int} {zs:List Int} (hm:Mye L en n) (h:DoT L (Op11 L en) n zs):frx L en n=zs:=by
 have hx:Mye L en n/\ ∃zs,DoT L (Op11 L en) n zs:=⟨hm,zs,h⟩
 unfold frx
 rw[dif_pos hx]
 have h2:=Classical.choose_spec hx.2
 exact Ris.one h2.1 h.1 (fun m=>(h2.2 m).trans (h.2 m).symm)
theorem zfk {L:Lg} {en:Int->Prop} {n:Int} (hm: ¬Mye L en n):frx L en n=[]:=by
 unfold frx
 rw[dif_neg (fun h=>hm h.1)]
theorem zhw {L:Lg} {en:Int->Prop} {n:Int} (hm:Mye L en n):enx L en n=fun x=>en x\/x=n:=if_pos hm
theorem zhj {L:Lg} {en:Int->Prop} {n:Int} (hm: ¬Mye L en n):enx L en n=en:=if_neg hm
def gdx (m:Int) (xs:List Int) (n:Int):Int×Int×List Int:=if 1<=n/\n<=65536/\ ¬(n<=m\/n∈xs) then ((adv m (insI n xs)).1-m,(adv m (insI n xs)).1,(adv m (insI n xs)).2) else (0,m,xs)
theorem zqv {m n up er m':Int} {xs xs':List Int} (h:GDo m xs n up er m' xs'):gdx m xs n=(up,m',xs'):=by
 unfold gdx
 rcases h.or with ⟨h1,rfl,rfl,rfl,rfl⟩|⟨h1,rfl,rfl,h2⟩
 ·rw[if_neg h1]
 ·rw[if_pos h1,<-h2]
noncomputable def dsp (c:Cf) (T:List Tx) (s:Sy):Te×Sy :=
 if s.holds=false then
  if s.read<(T.length:Int) then (⟨1,s.read+1,0,0⟩,{ s with read:=s.read+1,holds:=true }) else (Te.no,s)
 else if s.read<=s.ma\/s.read∈s.bx then (⟨2,s.read,0,0⟩,{ s with holds:=false })
 else if s.read<=s.ma+c.w then
  (⟨3,s.read,0,((adx s.L s.en (zah (wsAt T s.read))).length:Int)⟩,{ s with holds:=false,L:=s.L++[(s.read,zah (wsAt T s.read))],R:=if (adx s.L s.en (zah (wsAt T s.read))).length=0 then upd s.R 0 (s.R 0++[s.read]) else s.R })
 else (Te.no,s)
def asks (s:Sy) (q:Nat) (n:Int):Sy:={ s with R:=upd s.R (18+q) (s.R (18+q)++[n]),F:=updI s.F n (s.F n+1) }
noncomputable def lan (c:Cf) (T:List Tx) (s:Sy) (i:Nat):Te×Sy :=
 if s.num i=0 then
  match s.R 0 with
  | []=>(Te.no,s)
  | n::r=>(⟨4,n,0,0⟩,{ s with num:=upd s.num i n,R:=upd (upd s.R 0 r) (2+i) (shs c T n) })
 else
  match s.R (2+i) with
  | q::r=>if ((s.R (18+q.toNat)).length:Int)<c.q then (⟨5,s.num i,q,0⟩,{ asks s q.toNat (s.num i) with R:=upd (asks s q.toNat (s.num i)).R (2+i) r }) else (Te.no,s)
  | []=>if s.F (s.num i)=0 then (⟨6,s.num i,0,0⟩,{ s with num:=upd s.num i 0,R:=upd s.R 1 (s.R 1++[s.num i]) }) else (Te.no,s)
def own (s:Sy) (j:Nat):Te×Sy :=
 match s.R (18+j) with
 | []=>(Te.no,s)
 | n::r=>(⟨7,n,(j:Int),0⟩,{ s with R:=upd s.R (18+j) r,F:=updI s.F n (s.F n-1) })
noncomputable def gat (s:Sy):Te×Sy :=
 match s.R 1 with
 | []=>(Te.no,s)
 | n::r=>(⟨8,n,0,(gdx s.ma s.bx n).1⟩,{ s with ma:=(gdx s.ma s.bx n).2.1,bx:=(gdx s.ma s.bx n).2.2,en:=enx s.L s.en n,R:=upd (upd s.R 1 r) 0 (s.R 0++frx s.L s.en n) })
def cal (c:Cf) (s:Sy) (n:Int) (e:Ev):Te×Sy :=
 if e.k=9/\s.G n=0 then (⟨9,n,0,0⟩,{ s with G:=updI s.G n 1 })
 else if e.k=10/\s.G n=1/\0<=e.s/\e.s<c.s/\((s.R (18+e.s.toNat)).length:Int)<c.q then (⟨10,n,e.s,0⟩,asks s e.s.toNat n)
 else if e.k=11/\s.G n=1/\s.F n=0/\0<=e.c then (⟨11,n,0,e.c⟩,s)
 else if e.k=12/\s.G n=1/\s.F n=0 then (⟨12,n,0,0⟩,{ s with G:=updI s.G n 2 })
 else (Te.no,s)
noncomputable def stp (c:Cf) (T:List Tx) (s:Sy) (e:Ev):Te×Sy :=
 if e.t<0 then cal c s e.t e else if e.t=0 then dsp c T s else if e.t<=c.l then lan c T s (e.t-1).toNat else if e.t<=c.l+c.s then own s (e.t-c.l-1).toNat else if e.t=c.l+c.s+1 then gat s else (Te.no,s)
noncomputable def tolE (c:Cf) (T:List Tx) (s:Sy) (e:Ev):Ev :=
 if e.t<c.l+c.s+2 then ⟨e.t,(stp c T s e).1.k,(stp c T s e).1.n,(stp c T s e).1.s,(stp c T s e).1.c,(stp c T s e).2.ma⟩ else Ev.no
def Can (c:Cf) (T:List Tx) (s:Sy) (e:Ev):Prop:=(tolE c T s e).k≠0/\tolE c T s e=e
open Classical in
noncomputable def goes (c:Cf) (T:List Tx) (s:Sy):List Ev->Nat×Sy
 | []=>(0,s)
 | e::r=>if Can c T s e then ((goes c T (stp c T s e).2 r).1+1,(goes c T (stp c T s e).2 r).2) else (0,s)
theorem zfl {c:Cf} {T:List Tx}: ∀(es:List Ev) (s:Sy) (e:Ev),(goes c T s es).1=es.length->Can c T (goes c T s es).2 e->goes c T s (es++[e])=(es.length+1,(stp c T (goes c T s es).2 e).2)
 | [],s,e,_,h=>by simp only[List.nil_append,goes]at *;rw[if_pos h];rfl
 | x::r,s,e,h1,h2=>by
  have hx:Can c T s x:=Classical.byContradiction fun hx=>by simp[goes,if_neg hx]at h1
  simp only[goes,if_pos hx,List.length_cons,Nat.add_right_cancel_iff]at h1 h2
  have:=zfl r _ e h1 h2
  simp only[List.cons_append,goes,if_pos hx,this,List.length_cons]
theorem zim {c:Cf} {T:List Tx}: ∀(es:List Ev) (s:Sy) (e:Ev) (r:List Ev),(goes c T s es).1=es.length-> ¬Can c T (goes c T s es).2 e->goes c T s (es++e::r)=(es.length,(goes c T s es).2)
 | [],s,e,r,_,h=>by simp only[List.nil_append,goes]at *;rw[if_neg h];rfl
 | x::q,s,e,r,h1,h2=>by
  have hx:Can c T s x:=Classical.byContradiction fun hx=>by simp[goes,if_neg hx]at h1
  simp only[goes,if_pos hx,List.length_cons,Nat.add_right_cancel_iff]at h1 h2
  have:=zim q _ e r h1 h2
  simp only[List.cons_append,goes,if_pos hx,this,List.length_cons]
structure Iv (c:Cf) (T:List Tx) (s:Sy) (k:Nat):Prop where
 low:0<=s.read
 top:s.read<=(T.length:Int)
 hold:s.holds=true->1<=s.read
 old: ∀p∈s.L,p.1<=s.read/\(s.holds=true->p.1<s.read)
 line: ∀n∈s.R 0,1<=n/\n<=(T.length:Int)
 pass: ∀n∈s.R 1,1<=n/\n<=(T.length:Int)
 held: ∀i,s.num i=0\/(1<=s.num i/\s.num i<=(T.length:Int))
 left: ∀i,i<16-> ∀q∈s.R (2+i),0<=q/\q<c.s
 fewL: ∀i,i<16->(s.R (2+i)).length<=32
 queue: ∀j,j<16->((s.R (18+j)).length:Int)<=c.q
 que: ∀j,j<16-> ∀n∈s.R (18+j),I6 n
 few0:(s.R 0).length<=65537*k
 few1:(s.R 1).length<=k
 cnt: ∀n,-(k:Int)<=s.F n/\s.F n<=k
theorem Tryz.undOutM:Tryz.prog.underlying 111=some (.map 3 3):=by kernel_rfl
theorem Tryz.undCalM:Tryz.prog.underlying 112=some (.map 3 242):=by kernel_rfl
def kOut:Kn Tryz.prog Int Int where
 k:=3
 t:=111
 e:=3
 kv:= .int .i64
 kl:= .int .i64
 ok:=i64
 ev:= .int .i64
 ed:=fun a=> .lit (.int .i64 a)
 R:=zft
 z0:=0
 und:=Tryz.undOutM
 keyed:=int_keyed Tryz.undI11
 key:=fun x hx=>keyOf_int_mk Tryz.undI11 hx.wf
 kvinj:=fun x y h=>by cases h;rfl
 em:=fun a=>rfl
 inv:=fun v y h=>by
  unfold zft at h
  split at h
  ·cases h;exact⟨_,rfl,rfl⟩
  ·cases h
 edinj:=fun a b h=>by cases h;rfl
 zero:=fun w=>by kernel_rfl
def zqw (v:Value):Option (DataW Unit×List MemPlace) :=
 match v with
 | .int .u8 a=>some (.lit (.int .u8 a),[])
 | _=>none
def kCal:Kn Tryz.prog Int Int where
 k:=3
 t:=112
 e:=242
 kv:= .int .i64
 kl:= .int .i64
 ok:=i64
 ev:= .int .u8
 ed:=fun a=> .lit (.int .u8 a)
 R:=zqw
 z0:=0
 und:=Tryz.undCalM
 keyed:=int_keyed Tryz.undI11
 key:=fun x hx=>keyOf_int_mk Tryz.undI11 hx.wf
 kvinj:=fun x y h=>by cases h;rfl
 em:=fun a=>rfl
 inv:=fun v y h=>by
  unfold zqw at h
  split at h
  ·cases h;exact⟨_,rfl,rfl⟩
  ·cases h
 edinj:=fun a b h=>by cases h;rfl
 zero:=fun w=>by kernel_rfl
structure Sq where
 lo:Option Addr
 n:Nat
 c:Nat
def Sq.v (q:Sq):Value:= .slice q.lo q.n q.c
def Sq.no:Sq:=⟨none,0,0⟩
structure Zs where
 sb:Nat
 g:Nat
 tb:Nat
 lb:Nat
 qq:Nat
 ob:Nat
 cb:Nat
 B:List Nat
 q:Nat->Sq
 logo:Option Addr
 M:Nat
 mc:Nat
def Zs.rows (Z:Zs):List Nat:=(List.range 34).filterMap fun i=>qb (Z.q i).lo
def Zs.six (Z:Zs):List Nat:=[Z.sb,Z.g,Z.lb,Z.qq,Z.ob,Z.cb]
def Zs.own (Z:Zs):List Nat:=Z.six++(Z.B++Z.rows)
theorem Zs.mem_rows {Z:Zs} {i b:Nat} (hi:i<34) (h:qb (Z.q i).lo=some b):b∈Z.rows:=List.mem_filterMap.2 ⟨i,List.mem_range.2 hi,h⟩
theorem Zs.rows_mem {Z:Zs} {b:Nat} (h:b∈Z.rows): ∃i,i<34/\qb (Z.q i).lo=some b:=by
 obtain⟨i,h1,h2⟩:=List.mem_filterMap.1 h
 exact⟨i,List.mem_range.1 h1,h2⟩
theorem Zs.mem_own {Z:Zs} {b:Nat}:b∈Z.own↔b∈Z.six\/b∈Z.B\/b∈Z.rows:=by simp[Zs.own]
def syC (c:Cf) (Z:Zs) (read:Int) (holds:Bool):List Value :=
 [.int .i64 c.l,.int .i64 c.s,.int .i64 c.w,.int .i64 c.q,.slice Z.logo Z.M Z.mc,.pointer (some ⟨Z.g,0,none⟩),.pointer (some ⟨Z.tb,0,none⟩),.int .i64 read,.bool holds,(Z.q 0).v,(Z.q 1).v,.slice (some ⟨Z.lb,0,none⟩) c.l.toNat c.l.toNat,.slice (some ⟨Z.qq,0,none⟩) c.s.toNat c.s.toNat,.map (some Z.ob),.map (some Z.cb)]
structure Apa (Z:Zs):Prop where
 nd:Z.six.Nodup
 nB: ∀x∈Z.six,x∉Z.B
 nR: ∀i b,qb (Z.q i).lo=some b->b∉Z.six/\b∉Z.B
 rr: ∀i j b,i≠j->qb (Z.q i).lo=some b->qb (Z.q j).lo≠some b
 far: ∀i,34<=i->Z.q i=Sq.no
structure SyM (w:World) (Z:Zs) (c:Cf) (s:Sy) (k:Nat):Prop where
 box:w.heap[Z.sb]? = some (.cells (syC c Z s.read s.holds).toArray 114 (0,0))
 lanes: ∃cur,w.heap[Z.lb]? = some (.cells cur 237 (0,0))/\cur.size=2*c.l.toNat/\ ∀i,i<c.l.toNat->cur[2*i]? = some (.int .i64 (s.num i))/\cur[2*i+1]? = some (Z.q (2+i)).v
 ques: ∃cur,w.heap[Z.qq]? = some (.cells cur 25 (0,0))/\cur.size=c.s.toNat/\ ∀j,j<c.s.toNat->cur[j]? = some (Z.q (18+j)).v
 rows: ∀i,QR w (Z.q i).lo (Z.q i).n (Z.q i).c (s.R i)
 gate:GG w Z.g s.ma s.bx
 deps:Tl w Z.tb Z.B (65*k) s.L s.en
 outs: ∃F,MapG kOut w Z.ob k F/\ ∀n,s.F n=(F n).getD 0
 call: ∃G,MapG kCal w Z.cb k G/\ ∀n,s.G n=(G n).getD 0
 apa:Apa Z
 may:c.may
section
variable {w w':World} {Z:Zs} {c:Cf} {s:Sy} {k:Nat}
theorem SyM.mono {k':Nat} (h:SyM w Z c s k) (hk:k<=k'):SyM w Z c s k':=by
 obtain⟨F,h1,h2⟩:=h.outs
 obtain⟨G,h3,h4⟩:=h.call
 exact { h with deps:=h.deps.mono (by omega),outs:=⟨F,h1.mono hk,h2⟩,call:=⟨G,h3.mono hk,h4⟩ }
theorem SyM.keep {S:List Nat} (h:SyM w Z c s k) (hf:Fr S w w') (hS: ∀x∈Z.own,x∉S):SyM w' Z c s k:=by
 have h6: ∀x∈Z.six,x∉S:=fun x hx=>hS x (Zs.mem_own.2 (Or.inl hx))
 have hB: ∀x∈Z.B,x∉S:=fun x hx=>hS x (Zs.mem_own.2 (Or.inr (Or.inl hx)))
 obtain⟨cl,l1,l2,l3⟩:=h.lanes
 obtain⟨cq,q1,q2,q3⟩:=h.ques
 obtain⟨F,f1,f2⟩:=h.outs
 obtain⟨G,g1,g2⟩:=h.call
 refine⟨hf.keep h.box (h6 _ (by simp[Zs.six])),⟨cl,hf.keep l1 (h6 _ (by simp[Zs.six])),l2,l3⟩,⟨cq,hf.keep q1 (h6 _ (by simp[Zs.six])),q2,q3⟩,fun i=>(h.rows i).keep hf (fun b hb=> ?_),h.gate.keep hf (h6 _ (by simp[Zs.six])),h.deps.keep hf hB,⟨F,f1.keep hf (h6 _ (by simp[Zs.six])),f2⟩,⟨G,g1.keep hf (h6 _ (by simp[Zs.six])),g2⟩,h.apa,h.may⟩
 by_cases hi:i<34
 ·exact hS b (Zs.mem_own.2 (Or.inr (Or.inr (Zs.mem_rows hi hb))))
 ·rw[h.apa.far i (by omega)]at hb;cases hb
theorem SyM.quiet (h:SyM w Z c s k) (hf:Fr [] w w'):SyM w' Z c s k:=h.keep hf (by simp)
theorem SyM.lt (h:SyM w Z c s k): ∀x∈Z.own,x<w.heap.size:=by
 intro x hx
 rcases Zs.mem_own.1 hx with hx|hx|hx
 ·obtain⟨cl,l1,_⟩:=h.lanes
  obtain⟨cq,q1,_⟩:=h.ques
  obtain⟨F,f1,_⟩:=h.outs
  obtain⟨G,g1,_⟩:=h.call
  simp only[Zs.six,List.mem_cons,List.not_mem_nil,or_false]at hx
  rcases hx with rfl|rfl|rfl|rfl|rfl|rfl
  ·exact lt_of_block h.box
  ·exact h.gate.lt
  ·exact lt_of_block l1
  ·exact lt_of_block q1
  ·exact f1.lt
  ·exact g1.lt
 ·exact h.deps.mine x hx
 ·obtain⟨i,_,hi⟩:=Zs.rows_mem hx
  exact (h.rows i).lt hi
theorem SyM.cell (h:SyM w Z c s k) {j:Nat} {v:Value} (hv:(syC c Z s.read s.holds)[j]? = some v):w.cell? ⟨Z.sb,j,none⟩=some v:=by
 rw[cell_of_row _ _ _ _ _ _ h.box,List.getElem?_toArray]
 exact hv
theorem SyM.fz (h:SyM w Z c s k) (j:Nat):w.frozen? ⟨Z.sb,j,none⟩=false:=by simp[World.frozen?,h.box]
end
structure Mv (w:World) (Z:Zs) (w':World) (Z':Zs):Prop where
 fr:Fr Z.own w w'
 sub: ∀x∈Z'.own,x∈Z.own\/w.heap.size<=x
 at_:Z'.sb=Z.sb
 log:Z'.logo=Z.logo/\Z'.M=Z.M/\Z'.mc=Z.mc
theorem Mv.refl (w:World) (Z:Zs):Mv w Z w Z:=⟨Fr.refl _ _,fun x hx=>Or.inl hx,rfl,rfl,rfl,rfl⟩
theorem Mv.of {w w':World} {Z:Zs} (h:Fr Z.own w w'):Mv w Z w' Z:=⟨h,fun x hx=>Or.inl hx,rfl,rfl,rfl,rfl⟩
theorem Mv.quiet {w w':World} {Z:Zs} (h:Fr [] w w'):Mv w Z w' Z:=Mv.of (h.mono (by simp))
theorem Mv.trans {w w' w'':World} {Z Z' Z'':Zs} (h:Mv w Z w' Z') (k:Mv w' Z' w'' Z''):Mv w Z w'' Z'':=by
 refine⟨h.fr.trans k.fr (fun x hx _=>hx) (fun x hx hlt=> ?_),fun x hx=> ?_,k.at_.trans h.at_,k.log.1.trans h.log.1,k.log.2.1.trans h.log.2.1,k.log.2.2.trans h.log.2.2⟩
 ·rcases h.sub x hx with h1|h1
  ·exact h1
  ·omega
 ·rcases k.sub x hx with h1|h1
  ·exact h.sub x h1
  ·exact Or.inr (Nat.le_trans h.fr.size h1)
theorem Mv.qu {w w' w'':World} {Z Z':Zs} (h:Mv w Z w' Z') (k:Fr [] w' w''):Mv w Z w'' Z':=h.trans (Mv.quiet k)
theorem Mv.keep {w w':World} {Z Z':Zs} (h:Mv w Z w' Z') {S:List Nat} (hS: ∀x∈S,x∉Z.own/\x<w.heap.size): ∀x∈S,x∉Z'.own/\x<w'.heap.size:=by
 intro x hx
 obtain⟨h1,h2⟩:=hS x hx
 refine⟨fun h3=> ?_,Nat.lt_of_lt_of_le h2 h.fr.size⟩
 rcases h.sub x h3 with h4|h4
 ·exact h1 h4
 ·omega
structure Cx (wS w:World) (Z:Zs) (ts:List Tm):Prop where
 fr:Fr [] wS w
 base: ∀x∈Z.own,wS.heap.size<=x
 log:TRs wS Z.logo ts
 len:Z.M=ts.length
theorem Cx.trs {wS w:World} {Z:Zs} {ts:List Tm} (h:Cx wS w Z ts):TRs w Z.logo ts:=h.log.keep h.fr
theorem Cx.next {wS w w':World} {Z Z':Zs} {ts:List Tm} (h:Cx wS w Z ts) (hM:Mv w Z w' Z'):Cx wS w' Z' ts :=
 ⟨h.fr.on hM.fr h.base,fun x hx=>by
  rcases hM.sub x hx with h1|h1
  ·exact h.base x h1
  ·exact Nat.le_trans h.fr.size h1,by rw[hM.log.1];exact h.log,by rw[hM.log.2.1];exact h.len⟩
theorem Cx.quiet {wS w w':World} {Z:Zs} {ts:List Tm} (h:Cx wS w Z ts) (hf:Fr [] w w'):Cx wS w' Z ts:=h.next (Mv.quiet hf)
end Go.Proofs.YtaaghcimfcjehaaGreatDoor
