/- Contracts and plain lemmas of this claim. -/
import Derived.Test.YtaaghcimfcjehaaGreatDoorGp12
set_option linter.unusedSimpArgs false
set_option linter.unusedVariables false
namespace Go.Proofs.YtaaghcimfcjehaaGreatDoor
open Go.ChangeShapes Go.WideShapes Go.ChangeAt Go.RowKit Go.Lib Go.Maps
theorem zaf {fn:Func} {p:Tmp} {ty:TypeId} (h:fn.results= #[.cell p ty]) (tmps:Array Value) (P:Program) (w:World) (g:Nat) (v:Value) (hp:tmps.getD p undef= .pointer (some ⟨g,0,none⟩)) (hld:(loadVar ty ⟨g,0,none⟩).run P w= .ok v w) :
  (results fn tmps).run P w= .ok v w:=by
 simp only[results,h]
 simp[Sem.run_bind,Result.andThen,<-Array.getD_eq_getD_getElem?,hp,asAddr,hld]
def evA (t k n s c m:Int):Array Value:= #[.int .i64 t,.int .u8 k,.int .i64 n,.int .i64 s,.int .i64 c,.int .i64 m]
theorem zae {w:World} {g:Nat} {t k n s c m:Int} (h:w.heap[g]? = some (.cells (evA t k n s c m) 62 (0,0))):(loadVar 62 ⟨g,0,none⟩).run Tryz.prog w= .ok (.agg (evA t k n s c m)) w :=
 run_loadVar_row (P:=Tryz.prog) _ g _ 62 _ _ (.struct (Tryz.prog.fieldsOf 62)) h (by kernel_rfl) rfl (by kernel_rfl)
theorem zbd {w:World} {ops:Array Oper} {rest:List Oper} {o:Oper} {a:Act} {Q:Exit->Act->World->Prop} (hgd:o.guard=none) (ty:TypeId) (x y:Operand) (ho:o.op= .store ty x y)
  (g:Nat) (cells:Array Value) (hx:a.eval x= .pointer (some ⟨g,0,none⟩)) (hy:a.eval y= .agg cells)
  (t:TypeId) (old:Array Value) (hg:w.heap[g]? = some (.cells old t (0,0))) (hi:(Tryz.prog.info? ty).map (·.size)=some cells.size)
  (hold:old.size=cells.size) (h1:cells.all (·.oneCell')=true)
  (h: ∀w',Hid (w'.heap[g]? = some (.cells cells t (0,0)))->Fr [g] w w'->wpList Tryz.prog ops Q rest (a.put o.dst undef) w'):wpList Tryz.prog ops Q (o::rest) a w :=
 wpList_store_row hgd ty x y ho g cells hx hy t old hg hi hold h1 (h _ (setRow_heap w g _ _ t _ hg) (Fr.setRow _ _ _))
theorem zab {w:World} {ops:Array Oper} {rest:List Oper} {o:Oper} {a:Act} {Q:Exit->Act->World->Prop} (hgd:o.guard=none) (x y:Operand) (ho:o.op= .store 62 x y)
  (g:Nat) (t k n s c m:Int) (hx:a.eval x= .pointer (some ⟨g,0,none⟩)) (hy:a.eval y= .agg #[.int .i64 t,.int .u8 k,.int .i64 n,.int .i64 s,.int .i64 c,.int .i64 m])
  (t' k' n' s' c' m':Int) (hg:w.heap[g]? = some (.cells (evA t' k' n' s' c' m') 62 (0,0)))
  (h: ∀w',Hid (w'.heap[g]? = some (.cells (evA t k n s c m) 62 (0,0)))->Fr [g] w w'->wpList Tryz.prog ops Q rest (a.put o.dst undef) w'):wpList Tryz.prog ops Q (o::rest) a w :=
 zbd hgd 62 x y ho g (evA t k n s c m) hx hy 62 _ hg (by kernel_rfl) rfl (by simp[evA,Value.oneCell']) h
def Te.v (a:Te):Value:= .agg (evA 0 a.k a.n a.s a.c 0)
def zav (w:World) (Z:Zs) (c:Cf) (k:Nat) (r:Te×Sy) (e:Ending) (w':World):Prop :=
 ∃Z',e= .returned r.1.v/\SyM w' Z' c r.2 (k+1)/\Mv w Z w' Z'/\Z'.sb=Z.sb
theorem Mv.fin {w w0 W W':World} {Z Z':Zs} {c:Cf} {s:Sy} {k rb:Nat} (hM:Mv w0 Z W Z') (h0:Fr [] w w0) (h1:w.heap.size<=rb) (h2:rb<w0.heap.size) (hlt: ∀x∈Z.own,x<w.heap.size) (hf:Fr [rb] W W') (hS:SyM W Z' c s k):SyM W' Z' c s k/\Mv w Z W' Z':=by
 have hn:rb∉Z'.own:=fun h=>by
  rcases hM.sub rb h with h3|h3
  ·have:=hlt rb h3;omega
  ·omega
 refine⟨hS.keep hf (fun x hx hh=>by simp at hh;exact hn (hh▸hx)),⟨?_,fun x hx=> ?_,hM.at_,hM.log⟩⟩
 ·exact ((h0.mono (by simp)).then hM.fr).trans hf (fun x hx _=>hx) (fun x hx hl=>by simp at hx;omega)
 ·rcases hM.sub x hx with h3|h3
  ·exact Or.inl h3
  ·exact Or.inr (Nat.le_trans h0.size h3)
theorem Mv.box {w w0 W:World} {Z Z':Zs} (hM:Mv w0 Z W Z') {rb:Nat} {o:Obj} (h1:w.heap.size<=rb) (hlt: ∀x∈Z.own,x<w.heap.size) (hb:w0.heap[rb]? = some o):W.heap[rb]? = some o :=
 hM.fr.keep hb (fun h=>by have:=hlt rb h;omega)
theorem znm (ws:List Wt) (i:Nat):zax ws (i+1)=updF (zax ws i) (kAt ws i) (some (i:Int)):=by
 funext k
 by_cases e:k=kAt ws i
 ·simp only[zax,if_pos e]
  rw[e,zan]
 ·simp only[zax,if_neg e]
  rw[zaj _ _ e]
theorem zkb (n:Int) (w:World):(Instr.makeMap 195 (some (.int .i64 n))).run Tryz.prog w= .ok (.map (some w.heap.size)) (w.alloc (.map #[] 0)):=by
 simp[Instr.makeMap,run_underlying Tryz.undLMap,asInt,asIntOf]
noncomputable def shT (c:Cf) (ws:List Wt) (i:Nat):List Int:=(ddTo ws i).map fun x=>zbg c.s x.key
section
variable {w w' wS:World} {Z:Zs} {c:Cf} {s:Sy} {k:Nat} {ts:List Tm}
set_option maxHeartbeats 8000000 in
set_option maxRecDepth 100000 in
theorem znn (h:SyM w Z c s k) (hx:Cx wS w Z ts) (n:Int) (h1:1<=n) (h2:n<=(ts.length:Int)) (hok:okT n (wsAt (txs ts) n)) (hlen:ts.length<=65536) :
  Calls Tryz.prog 173 #[.pointer (some ⟨Z.sb,0,none⟩),.int .i64 n] w fun e w'=> ∃so N cc,e= .returned (.slice so N cc)/\IOw w.heap.size w' so N cc (shs c (txs ts) n)/\Fr [] w w':=by
 obtain⟨j,rfl⟩: ∃j:Nat,n=(j:Int)+1:=⟨(n-1).toNat,by omega⟩
 have hj:j<ts.length:=by omega
 have hws:wsAt (txs ts) ((j:Int)+1)=(ts.getD j Tm.zero).ws:=by
  unfold wsAt
  rw[show ((j:Int)+1-1).toNat=j by omega,zcm]
  rfl
 rw[hws]at hok
 have c4:w.cell? ⟨Z.sb,4,none⟩=some (.slice Z.logo Z.M Z.mc):=h.cell rfl
 have hT:=hx.trs
 have hLM:=hx.len
 obtain⟨lb,loff,hlo,_,hcl⟩:=hT.lies (by omega)
 obtain⟨d1,d2⟩:=hcl j hj
 have hat:=hT.each _ (zbf ts j hj)
 unfold Tm.at at hat
 rw[hlo,hLM]at c4
 unfold shs
 rw[hws]
 obtain⟨t,htt⟩: ∃t,t=ts.getD j Tm.zero:=⟨_,rfl⟩
 rw[<-htt]at d1 d2 hat hok ⊢
 obtain⟨tn,ao,L,cap,ws⟩:=t
 simp only at d1 d2 hat hok ⊢
 have hL:=hat.len
 have hks: ∀x∈ws,1<=x.key.size/\x.key.size<=64:=fun x hx=>⟨(hok.2.2.2 x hx).1,(hok.2.2.2 x hx).2.1⟩
 have hLb:L<=32:=by rw[hL];exact hok.2.2.1
 have HL:Hid (L=ws.length):=hL
 have HKs:Hid (∀x∈ws,1<=x.key.size/\x.key.size<=64):=hks
 have hmm:=fun w=>zkb (L:Int) w
 have HI:Hid (∀W,Fr [] w W->WRs W ao ws):=fun W hf=>hat.rs.keep hf
 have HM0:Hid (MapG kLast (w.alloc (.map #[] 0)) w.heap.size 0 (zax ws 0)):=MapG.made w
 have HF0:Hid (Fr [] w (w.alloc (.map #[] 0))):=Fr.alloc [] w _
 have HY:Hid (∀W,Fr [] w W->W.cell? ⟨Z.sb,0,none⟩=some (.int .i64 c.l)/\W.cell? ⟨Z.sb,1,none⟩=some (.int .i64 c.s)/\W.cell? ⟨Z.sb,2,none⟩=some (.int .i64 c.w)/\W.cell? ⟨Z.sb,3,none⟩=some (.int .i64 c.q)):=fun W hf=>⟨(h.quiet hf).cell rfl,(h.quiet hf).cell rfl,(h.quiet hf).cell rfl,(h.quiet hf).cell rfl⟩
 have HC:Hid (∀(x:ByteArray) (W:World),1<=x.size->x.size<=64->Calls Tryz.prog 185 #[.agg #[.int .i64 c.l,.int .i64 c.s,.int .i64 c.w,.int .i64 c.q],.string x] W fun e w'=>e= .returned (.tuple #[.int .i64 (zbg c.s x),.int .i64 0])/\Fr [] W w'):=by
  intro x W x1 x2
  have:=zqs c.l c.s c.w c.q x W (by omega)
  have e:Cf.shard ⟨c.l,c.s,c.w,c.q⟩ x=(zbg c.s x,0):=by
   unfold Cf.shard
   rw[if_neg (by simp;exact h.may),if_neg (by simp;exact⟨x1,x2⟩)]
  rw[e]at this
  exact this
 obtain⟨TL,hTL⟩: ∃TL,TL=ts.length:=⟨_,rfl⟩
 rw[<-hTL]at c4 hj hlen
 have d2:w.cell? ⟨lb,loff+j*2+1,none⟩=some (.slice ao L cap):=d2
 clear h hx hws hok hat hT hcl d1 hL hks h1 h2 htt hTL hlo hLM
 go_enter Tryz.func173,Tryz.ntmps173
 go_wp2_with fail
 obtain⟨b,hb⟩: ∃b,b=w.heap.size:=⟨_,rfl⟩
 rw[<-hb]at HM0 ⊢
 have hbw:w.heap.size<=b:=by omega
 clear hb c4 d2
 go_loopw [28] (fun ii wr=> ∃(i:Nat),ii= .int .i64 i/\i<=L/\Hid (MapG kLast wr b i (zax ws i))/\Hid (Fr [] w wr)) (fun ii _=>L-(RowKit.intOf ii).toNat)
 case atStart=>exact⟨0,rfl,Nat.zero_le _,HM0,HF0⟩
 case round =>
  obtain⟨i,rfl,hiL,HM,HFr⟩:=hrel
  have hFr:=HFr.out
  clear HFr
  by_cases hi:i<L
  ·have hi':i<ws.length:=by rw[<-HL.out];exact hi
   obtain⟨bb,off,rfl,_,hc⟩:=(HI.out _ hFr).lies (by omega)
   obtain⟨d0,d1,d2⟩:=hc i hi'
   have hkz:=HKs.out _ (zbw ws i hi')
   have HKa:Hid (kAt ws i=(ws.getD i Wt.zero).key):=rfl
   obtain⟨y,hyy⟩: ∃y,y=ws.getD i Wt.zero:=⟨_,rfl⟩
   rw[<-hyy]at d0 d1 d2 hkz HKa
   clear hyy hc
   obtain⟨key,val,drop⟩:=y
   simp only at d0 d1 d2 hkz HKa
   obtain⟨w3,HW3⟩: ∃w3,Hid (wr.alloc (.cells #[.string key,.string val,.bool drop] 92)=w3):=⟨_,rfl⟩
   obtain⟨B9,HB9⟩: ∃B9,Hid (B9=wr.heap.size):=⟨_,rfl⟩
   have hF3:Fr [] wr w3:=by rw[<-HW3.out];exact Fr.alloc [] wr _
   have hby:w3.heap[B9]? = some (.cells #[.string key,.string val,.bool drop] 92 (0,0)):=by rw[<-HW3.out,HB9.out];exact heap_alloc_new wr _
   have e0:w3.cell? ⟨B9,0,none⟩=some (.string key):=by rw[cell_of_row _ _ _ _ _ _ hby];rfl
   have hG3:Fr [] w w3:=hFr.then hF3
   have hM3:=HM.out.keep hF3 (by simp)
   obtain⟨w4,hst,hM4,hF4⟩:=hM3.store key (i:Int) (by show key.size<=maxLen;unfold maxLen;omega) (by unfold maxLen;omega)
   have HM4:Hid (MapG kLast w4 b (i+1) (zax ws (i+1))):=by
    show MapG _ _ _ _ _
    rw[znm,HKa.out]
    exact hM4
   have HG4:Hid (Fr [] w w4):=hG3.on hF4 (by intro x hx;simp at hx;omega)
   change (Instr.mapUpdate 195 (.map (some b)) (.string key) (.int .i64 (i:Int))).run Tryz.prog w3= .ok () w4 at hst
   clear hM3 hM4 hF4 HM hF3 hG3 hby hFr
   go_upto_region 6 with fail
   rw[HW3.out,<-HB9.out]
   clear HW3 HB9 d0 d1 d2
   go_wp2_with fail
   go_roundw
   case rel=>exact⟨i+1,by simp,by omega,HM4,HG4⟩
   case measure=>simp[RowKit.intOf];omega
  ·obtain rfl:i=L:=by omega
   clear hi hiL
   have HM1:Hid (MapG kLast wr b i (zax ws ws.length)):=by rw[<-HL.out];exact HM
   have HF1:Hid (Fr [] w wr):=hFr
   have hblt:=HM1.out.lt
   clear HM hFr HM0 HF0
   go_wp2_with fail
   obtain⟨w1,HW1⟩: ∃w1,Hid (wr=w1):=⟨_,rfl⟩
   rw[HW1.out]at HM1 HF1 hblt ⊢
   clear HW1
   go_loopw [9,40] (fun ll ii wr=> ∃(ro:Option Addr) (N rc k:Nat),ll= .slice ro N rc/\ii= .int .i64 k/\k<=i/\N<=k/\Hid (IOw w1.heap.size wr ro N rc (shT c ws k))/\Hid (Fr [] w1 wr)) (fun _ ii _=>i-(RowKit.intOf ii).toNat)
   case atStart=>exact⟨none,0,0,0,rfl,rfl,Nat.zero_le _,Nat.le_refl _,IOw.nil _ _,Fr.refl _ _⟩
   case round =>
    obtain⟨ro,N,rc,k,rfl,rfl,hk,hN,HO,HF⟩:=hrel
    by_cases hki:k<i
    ·have hk':k<ws.length:=by rw[<-HL.out];exact hki
     obtain⟨bb,off,rfl,_,hc⟩:=(HI.out _ (HF1.out.then HF.out)).lies (by omega)
     obtain⟨d0,d1,d2⟩:=hc k hk'
     have hkz:=HKs.out _ (zbw ws k hk')
     have HKa:Hid (kAt ws k=(ws.getD k Wt.zero).key):=rfl
     have HKt:=zll ws k hk'
     have HKy:Hid (Kept ws k->shT c ws (k+1)=shT c ws k++[zbg c.s (ws.getD k Wt.zero).key]):=fun h=>by unfold shT;rw[zdh h];simp
     have HKn:Hid (¬Kept ws k->shT c ws (k+1)=shT c ws k):=fun h=>by unfold shT;rw[zfv h]
     obtain⟨y,hyy⟩: ∃y,y=ws.getD k Wt.zero:=⟨_,rfl⟩
     rw[<-hyy]at d0 d1 d2 hkz HKa HKy
     clear hyy hc
     obtain⟨key,val,drop⟩:=y
     simp only at d0 d1 d2 hkz HKa
     rw[HKa.out]at HKt
     obtain⟨J,hJ⟩: ∃J:Int,J=(zax ws ws.length key).getD 0:=⟨_,rfl⟩
     rw[<-hJ]at HKt
     obtain⟨w3,HW3⟩: ∃w3,Hid (wr.alloc (.cells #[.string key,.string val,.bool drop] 92)=w3):=⟨_,rfl⟩
     obtain⟨B9,HB9⟩: ∃B9,Hid (B9=wr.heap.size):=⟨_,rfl⟩
     have hF3:Fr [] wr w3:=by rw[<-HW3.out];exact Fr.alloc [] wr _
     have hby:w3.heap[B9]? = some (.cells #[.string key,.string val,.bool drop] 92 (0,0)):=by rw[<-HW3.out,HB9.out];exact heap_alloc_new wr _
     have e0:w3.cell? ⟨B9,0,none⟩=some (.string key):=by rw[cell_of_row _ _ _ _ _ _ hby];rfl
     have hG3:Fr [] w1 w3:=HF.out.then hF3
     have hlk:=(HM1.out.keep hG3 (by simp)).look key (by show key.size<=maxLen;unfold maxLen;omega)
     change (Instr.lookup 195 (.map (some b)) (.string key) false).run Tryz.prog w3= .ok (.int .i64 ((zax ws ws.length key).getD 0)) w3 at hlk
     rw[<-hJ]at hlk
     have HO3:Hid (IOw w1.heap.size w3 ro N rc (shT c ws k)):=HO.out.keep hF3
     have HG3:Hid (Fr [] w1 w3):=hG3
     have HB3:Hid (∀W,Fr [] w3 W->W.cell? ⟨B9,0,none⟩=some (.string key)):=fun W hf=>by rw[cell_of_row _ _ _ _ _ _ (hf.keep hby (by simp))];rfl
     clear hJ HO hF3 hG3 hby HF
     by_cases hJk:J=(k:Int)
     ·have heq:(J==(k:Int))=true:=by simp[hJk]
      have HYY:Hid (shT c ws (k+1)=shT c ws k++[zbg c.s key]):=HKy.out (HKt.1 hJk)
      have HCs:Hid (∀W:World,Calls _ _ _ W _):=fun W=>HC.out key W hkz.1 hkz.2
      have f0: ∀y:Wd13 w3,y.W.cell? ⟨Z.sb,0,none⟩=some (.int .i64 c.l):=fun y=>(HY.out _ (HF1.out.then (HG3.out.then y.h))).1
      have f1: ∀y:Wd13 w3,y.W.cell? ⟨Z.sb,1,none⟩=some (.int .i64 c.s):=fun y=>(HY.out _ (HF1.out.then (HG3.out.then y.h))).2.1
      have f2: ∀y:Wd13 w3,y.W.cell? ⟨Z.sb,2,none⟩=some (.int .i64 c.w):=fun y=>(HY.out _ (HF1.out.then (HG3.out.then y.h))).2.2.1
      have f3: ∀y:Wd13 w3,y.W.cell? ⟨Z.sb,3,none⟩=some (.int .i64 c.q):=fun y=>(HY.out _ (HF1.out.then (HG3.out.then y.h))).2.2.2
      have f4: ∀y:Wd13 w3,y.W.cell? ⟨B9,0,none⟩=some (.string key):=fun y=>HB3.out _ y.h
      clear HKt HKy HKn hJk
      go_upto_region 12 with fail
      rw[HW3.out,<-HB9.out]
      clear HW3 HB9 d0 d1 d2
      go_wp2_with fail
      refine zau (w1:=w3) (by kernel_rfl) (by kernel_rfl) (Fr.refl _ _) ?_
      repeat (go_big_quiet_step ((go_at_call 185;with_reducible refine (HCs.out _).mono ?_;exact fun e w3 hh=>⟨hh.1,⟨_,Fr.then (Wd13.h _) hh.2⟩,rfl⟩)))
      refine wpQuiet_nil ?_
      rintro _ ⟨y,rfl⟩
      obtain⟨w5,hw5⟩: ∃w5,w5=y.W:=⟨_,rfl⟩
      have HF5:Hid (Fr [] w3 w5):=by show Fr _ _ _;rw[hw5];exact y.h
      rw[<-hw5]
      clear hw5 f0 f1 f2 f3 f4 hlk e0
      have HO5:Hid (IOw w1.heap.size w5 ro N rc (shT c ws k)):=HO3.out.keep HF5.out
      have HG5:Hid (Fr [] w1 w5):=HG3.out.then HF5.out
      have hN1:N<1099511627776:=by omega
      have HB5:Hid (∀W',Fr (Value.slice ro N rc).ownBlock.toList (w5.alloc (.cells #[.int .i64 (zbg c.s key)] 3)) W'->Fr [] w1 W'):=fun W' h2=>HO5.out.on (Nat.le_refl _) HG5.out (Fr.alloc [] _ _) h2
      have HO6:Hid (IOw w1.heap.size (w5.alloc (.cells #[.int .i64 (zbg c.s key)] 3)) ro N rc (shT c ws k)):=HO5.out.keep (Fr.alloc [] _ _)
      have HSz:Hid (w1.heap.size<=w5.heap.size):=HG5.out.size
      clear HO3 HO5 HG3 HG5 HF5 HB3
      obtain⟨q,hqq⟩: ∃q,q=zbg c.s key:=⟨_,rfl⟩
      rw[<-hqq]at HYY HB5 HO6 ⊢
      clear hqq
      go_wp2_with (first
       | (
        at_builtin;refine zat w1.heap.size _ rfl _ _ rfl ro N rc _ rfl HO6.out _ _ q rfl ?hcell (by omega) ?hsize ?_
        case hcell=>exact zaw _ _ _
        case hsize=>have:=HSz.out;simp;omega
        intro o' c' w6 hO6 hF6 _
        have HR6:Hid (IOw w1.heap.size w6 o' (N+1) c' (shT c ws k++[q])/\Fr [] w1 w6):=⟨hO6,HB5.out _ hF6⟩
        clear hO6 hF6
        go_frame)
       | fail)
      go_roundw
      case rel=>exact⟨o',N+1,c',k+1,rfl,by simp,by omega,by omega,(by rw[HYY.out];exact HR6.out.1),HR6.out.2⟩
      case measure=>simp[RowKit.intOf];omega
     ·have heq:(J==(k:Int))=false:=by simp[hJk]
      have HYY:Hid (shT c ws (k+1)=shT c ws k):=HKn.out (fun h=>hJk (HKt.2 h))
      have HO5:Hid (IOw w1.heap.size w3 ro N rc (shT c ws (k+1))):=by rw[HYY.out];exact HO3
      clear HKt HKy HKn hJk HO3 HB3
      go_upto_region 12 with fail
      rw[HW3.out,<-HB9.out]
      clear HW3 HB9 d0 d1 d2
      go_wp2_with fail
      go_roundw
      case rel=>exact⟨_,N,_,k+1,rfl,by simp,by omega,by omega,HO5,HG3⟩
      case measure=>simp[RowKit.intOf];omega
    ·obtain rfl:k=i:=by omega
     clear hki hk
     have HO1:Hid (IOw w.heap.size wr ro N rc ((dd ws).map fun x=>zbg c.s x.key)):=by
      show IOw _ _ _ _ _ _
      unfold dd
      rw[<-HL.out]
      exact HO.out.low HF1.out.size
     have HF2:Hid (Fr [] w wr):=HF1.out.then HF.out
     clear HO HF
     go_wp2_with fail
     go_ret
     exact⟨ro,N,rc,rfl,HO1.out,HF2.out⟩
end
section
variable {w w' wS:World} {Z:Zs} {c:Cf} {s:Sy} {k:Nat} {ts:List Tm}
theorem SyM.setLane (h:SyM w Z c s k) {i:Nat} (hi:i<c.l.toNat) {w2:World} (hf:Fr [] w w2) (n:Int) (q:Sq) (ys:List Int) (hq:QR w2 q.lo q.n q.c ys) (hn: ∀x,qb q.lo=some x->w.heap.size<=x) :
  SyM ((w2.setCell ⟨Z.lb,2*i,none⟩ (.int .i64 n)).setCell ⟨Z.lb,2*i+1,none⟩ q.v) (Z.put (2+i) q) c { s with num:=upd s.num i n,R:=upd s.R (2+i) ys } k/\Mv w Z ((w2.setCell ⟨Z.lb,2*i,none⟩ (.int .i64 n)).setCell ⟨Z.lb,2*i+1,none⟩ q.v) (Z.put (2+i) q):=by
 have h2:=h.quiet hf
 have hlt:=h.lt
 obtain⟨m1,m2⟩:=h2.setNum hi n
 have hnl: ∀x,qb q.lo=some x->x∉Z.own:=fun x hx hh=>by have:=hlt x hh;have:=hn x hx;omega
 have hq2:QR (w2.setCell ⟨Z.lb,2*i,none⟩ (.int .i64 n)) q.lo q.n q.c ys:=hq.keep (Fr.set (S:=[Z.lb]) w2 _ _ (by simp)) (fun b hb hh=>hnl b hb (by simp at hh;exact Zs.mem_own.2 (Or.inl (by simp[Zs.six,hh]))))
 obtain⟨r1,r2,r3⟩:=m1.rowL (wb:=w) hi q ys (Fr.refl _ _) hq2 (Or.inr fun x hx=>⟨hnl x hx,hn x hx⟩)
 exact⟨r1,⟨(hf.mono (by simp)).then (m2.fr.then r2),r3,rfl,rfl,rfl,rfl⟩⟩
set_option maxHeartbeats 4000000 in
set_option maxRecDepth 100000 in
theorem ztm (h:SyM w Z c s k) (hx:Cx wS w Z ts) (hT:Lk (txs ts)) (i:Nat) (hi:i<c.l.toNat) (hR: ∀n∈s.R 0,1<=n/\n<=((txs ts).length:Int)) (h0i:s.num i=0) :
  Calls Tryz.prog 145 #[.pointer (some ⟨Z.sb,0,none⟩),.pointer (some ⟨Z.lb,2*i,none⟩)] w (zav w Z c k (lan c (txs ts) s i)):=by
 have hlt:=h.lt
 have hF0:Fr [] w (w.alloc (.cells (evA 0 0 0 0 0 0) 62)):=Fr.alloc _ _ _
 have hb0:(w.alloc (.cells (evA 0 0 0 0 0 0) 62)).heap[w.heap.size]? = some (.cells (evA 0 0 0 0 0 0) 62 (0,0)):=heap_alloc_new _ _
 have h0:=h.quiet hF0
 have hl0:w.heap.size<(w.alloc (.cells (evA 0 0 0 0 0 0) 62)).heap.size:=by simp
 have hx0:=hx.quiet hF0
 obtain⟨w0,HW0⟩: ∃w0,Hid (w.alloc (.cells (evA 0 0 0 0 0 0) 62)=w0):=⟨_,rfl⟩
 rw[HW0.out]at hF0 hb0 h0 hl0 hx0
 obtain⟨rb,HRB⟩: ∃rb,Hid (w.heap.size=rb):=⟨_,rfl⟩
 have hrb:w.heap.size<=rb:=by rw[HRB.out];exact Nat.le_refl _
 rw[HRB.out]at hb0 hl0
 have HFin:Hid (∀W W' Z' s' k',Mv w0 Z W Z'->Fr [rb] W W'->SyM W Z' c s' k'->SyM W' Z' c s' k'/\Mv w Z W' Z'):=fun W W' Z' s' k' hM hf hS=>hM.fin hF0 hrb hl0 hlt hf hS
 have HBox:Hid (∀W Z',Mv w0 Z W Z'->W.heap[rb]? = some (.cells (evA 0 0 0 0 0 0) 62 (0,0))):=fun W Z' hM=>hM.box hrb hlt hb0
 have HW0':Hid (w.alloc (.cells #[.int .i64 0,.int .u8 0,.int .i64 0,.int .i64 0,.int .i64 0,.int .i64 0] 62)=w0):=HW0
 cases hR0:s.R 0 with
 | nil =>
  have HC:Hid (Calls _ _ _ _ _):=zlp h0 hR0
  have HO:Hid (lan c (txs ts) s i=(Te.no,s)):=by unfold lan;rw[if_pos h0i];show (match s.R 0 with|[]=>_|n::r=>_)=_;rw[hR0]
  have HS:Hid (SyM w0 Z c s k):=h0
  clear h h0 hb0 hl0 hlt hF0 HW0 hx hx0 hR hT
  go_enter Tryz.func145,Tryz.ntmps145
  go_upto_region 1 with fail
  rw[HW0'.out,HRB.out]
  go_wp2_with fail
  refine Calls.mono HC.out ?_
  rintro e w1 ⟨rfl,rfl⟩
  have HB:=HBox.out _ _ (Mv.refl w0 Z)
  go_wp2_with (refine zab rfl _ _ rfl rb 0 0 0 0 0 0 rfl rfl 0 0 0 0 0 0 HB ?_;intro w3 hw3 hf3)
  refine bodyPost_ret (zaf rfl _ _ _ rb _ rfl (zae hw3.out)) rfl ?_
  rw[HO.out]
  obtain⟨m1,m2⟩:=HFin.out _ _ _ _ _ (Mv.refl w0 Z) hf3 HS.out
  exact⟨Z,rfl,m1.mono (Nat.le_succ k),m2,rfl⟩
 | cons n r =>
  have HC:Hid (Calls _ _ _ _ _):=zlm h0 hR0
  have hn:=hR n (by rw[hR0];simp)
  have hlen:=hT.len
  rw[zap]at hn hlen
  have HO:Hid (lan c (txs ts) s i=(⟨4,n,0,0⟩,{ s with num:=upd s.num i n,R:=upd (upd s.R 0 r) (2+i) (shs c (txs ts) n) })):=by unfold lan;rw[if_pos h0i];show (match s.R 0 with|[]=>_|n::r=>_)=_;rw[hR0]
  have hokn:=hT.tx n hn.1 (by rw[zap];exact hn.2)
  have H1:Hid (∀W Z',Z'.sb=Z.sb->SyM W Z' c (s.put 0 r) k->Mv w0 Z W Z'->Calls Tryz.prog 173 #[.pointer (some ⟨Z.sb,0,none⟩),.int .i64 n] W fun e w'=> ∃so N cc,e= .returned (.slice so N cc)/\IOw W.heap.size w' so N cc (shs c (txs ts) n)/\Fr [] W w'):=by
   intro W Z' e1 hW hM
   have:=znn hW (hx0.next hM) n hn.1 hn.2 hokn hlen
   rw[e1]at this
   exact this
  have H2:Hid (∀W W2 Z' so N cc,Z'.sb=Z.sb->Z'.lb=Z.lb->SyM W Z' c (s.put 0 r) k->Mv w0 Z W Z'->IOw W.heap.size W2 so N cc (shs c (txs ts) n)->Fr [] W W2->(∃v,W2.cell? ⟨Z.lb,2*i,none⟩=some (.int .i64 v))/\(∃a b d,W2.cell? ⟨Z.lb,2*i+1,none⟩=some (.slice a b d))/\W2.frozen? ⟨Z.lb,2*i,none⟩=false/\W2.frozen? ⟨Z.lb,2*i+1,none⟩=false/\ ∃Z2,Z2.sb=Z.sb/\SyM ((W2.setCell ⟨Z.lb,2*i,none⟩ (.int .i64 n)).setCell ⟨Z.lb,2*i+1,none⟩ (.slice so N cc)) Z2 c (lan c (txs ts) s i).2 k/\Mv w0 Z ((W2.setCell ⟨Z.lb,2*i,none⟩ (.int .i64 n)).setCell ⟨Z.lb,2*i+1,none⟩ (.slice so N cc)) Z2):=by
   intro W W2 Z' so N cc e1 e2 hW hM hI hf
   obtain⟨l1,l2,l3,l4⟩:=(hW.quiet hf).lanCell hi
   obtain⟨m1,m2⟩:=hW.setLane hi hf n ⟨so,N,cc⟩ (shs c (txs ts) n) (QR.of_own hI) (fun x hx=>by
    refine (hI.blk (k:=x) ?_).1
    cases so with
    | none=>cases hx
    | some a =>
     obtain⟨g,hg,_⟩: ∃g,some a=some (⟨g,0,none⟩:Addr)/\True:=by
      rcases hI.row.2 with ⟨hh,_⟩|⟨g,cap,cur,hh,_⟩
      ·cases hh
      ·cases hh;exact⟨g,rfl,trivial⟩
     cases hg
     simp[qb]at hx
     subst hx
     rfl)
   rw[e2]at l1 l2 l3 l4 m1 m2
   refine⟨⟨_,l1⟩,⟨_,_,_,l2⟩,l3,l4,Z'.put (2+i) ⟨so,N,cc⟩,e1,?_,hM.trans m2⟩
   rw[HO.out]
   exact m1
  clear h h0 hb0 hl0 hlt hF0 HW0 hx hx0 hR hT hokn hR0 h0i
  go_enter Tryz.func145,Tryz.ntmps145
  go_upto_region 1 with fail
  rw[HW0'.out,HRB.out]
  go_wp2_with fail
  refine Calls.mono HC.out ?_
  rintro e w1 ⟨Z1,rfl,hS1,hM1,z1,z2,z3⟩
  have HD:Hid (Calls _ _ _ _ _):=H1.out w1 Z1 z1 hS1 hM1
  have HS1:Hid (SyM w1 Z1 c (s.put 0 r) k/\Mv w0 Z w1 Z1/\Z1.sb=Z.sb/\Z1.lb=Z.lb):=⟨hS1,hM1,z1,z2⟩
  clear hS1 hM1 z1 z2 z3 HC H1
  go_wp2_with fail
  refine Calls.mono HD.out ?_
  rintro e w2 ⟨so,N,cc,rfl,hI2,hF2⟩
  obtain⟨⟨v0,l1⟩,⟨a0,b0,d0,l2⟩,l3,l4,Z2,j3,j4,j5⟩:=H2.out w1 w2 Z1 so N cc HS1.out.2.2.1 HS1.out.2.2.2 HS1.out.1 HS1.out.2.1 hI2 hF2
  have HE:Hid (Z2.sb=Z.sb/\SyM _ _ _ _ _/\Mv _ _ _ _):=⟨j3,j4,j5⟩
  have HB:=HBox.out _ _ j5
  clear j3 j4 j5 hI2 hF2 HD H2
  go_wp2_with (refine zab rfl _ _ rfl rb 0 4 n 0 0 0 rfl rfl 0 0 0 0 0 0 HB ?_;intro w6 hw6 hf6)
  refine bodyPost_ret (zaf rfl _ _ _ rb _ rfl (zae hw6.out)) rfl ?_
  obtain⟨m1,m2⟩:=HFin.out _ _ _ _ _ HE.out.2.2 hf6 HE.out.2.1
  exact⟨Z2,by rw[HO.out];rfl,m1.mono (Nat.le_succ k),m2,HE.out.1⟩
end
section
variable {w w' wS:World} {Z:Zs} {c:Cf} {s:Sy} {k:Nat} {T:List Tx}
set_option maxHeartbeats 4000000 in
set_option maxRecDepth 100000 in
theorem ztn (h:SyM w Z c s k) (i:Nat) (hi:i<c.l.toNat) (hni:s.num i≠0) (hi6:i64 (s.num i)) (q:Int) (r:List Int) (hR:s.R (2+i)=q::r) (hq0:0<=q) (hq1:q<c.s) (hk:k<1152921504606846976) (hc: ∀n,-(k:Int)<=s.F n/\s.F n<=k) :
  Calls Tryz.prog 146 #[.pointer (some ⟨Z.sb,0,none⟩),.pointer (some ⟨Z.lb,2*i,none⟩)] w (zav w Z c k (lan c T s i)):=by
 have hlt:=h.lt
 have hl16:=h.may.1
 obtain⟨j,rfl⟩: ∃j:Nat,q=(j:Int):=⟨q.toNat,by omega⟩
 have hF0:Fr [] w (w.alloc (.cells (evA 0 0 0 0 0 0) 62)):=Fr.alloc _ _ _
 have hb0:(w.alloc (.cells (evA 0 0 0 0 0 0) 62)).heap[w.heap.size]? = some (.cells (evA 0 0 0 0 0 0) 62 (0,0)):=heap_alloc_new _ _
 have h0:=h.quiet hF0
 have hl0:w.heap.size<(w.alloc (.cells (evA 0 0 0 0 0 0) 62)).heap.size:=by simp
 obtain⟨w0,HW0⟩: ∃w0,Hid (w.alloc (.cells (evA 0 0 0 0 0 0) 62)=w0):=⟨_,rfl⟩
 rw[HW0.out]at hF0 hb0 h0 hl0
 obtain⟨rb,HRB⟩: ∃rb,Hid (w.heap.size=rb):=⟨_,rfl⟩
 have hrb:w.heap.size<=rb:=by rw[HRB.out];exact Nat.le_refl _
 rw[HRB.out]at hb0 hl0
 have HFin:Hid (∀W W' Z' s' k',Mv w0 Z W Z'->Fr [rb] W W'->SyM W Z' c s' k'->SyM W' Z' c s' k'/\Mv w Z W' Z'):=fun W W' Z' s' k' hM hf hS=>hM.fin hF0 hrb hl0 hlt hf hS
 have HBox:Hid (∀W Z',Mv w0 Z W Z'->W.heap[rb]? = some (.cells (evA 0 0 0 0 0 0) 62 (0,0))):=fun W Z' hM=>hM.box hrb hlt hb0
 have HW0':Hid (w.alloc (.cells #[.int .i64 0,.int .u8 0,.int .i64 0,.int .i64 0,.int .i64 0,.int .i64 0] 62)=w0):=HW0
 obtain⟨l1,l2',_,_⟩:=h0.lanCell hi
 have hr0:=h0.rows (2+i)
 rw[hR]at hr0
 obtain⟨gb,goff,hlo,hcell,hcp,hnn,_⟩:=hr0.first
 have l2:w0.cell? ⟨Z.lb,2*i+1,none⟩=some (.slice (Z.q (2+i)).lo (Z.q (2+i)).n (Z.q (2+i)).c):=l2'
 clear l2'
 rw[hlo]at l2
 obtain⟨nn,hn1⟩: ∃nn,nn=(Z.q (2+i)).n:=⟨_,rfl⟩
 obtain⟨cc,hcc⟩: ∃cc,cc=(Z.q (2+i)).c:=⟨_,rfl⟩
 rw[<-hn1,<-hcc]at l2
 rw[<-hn1]at hnn
 have hnn2:(0:Int)<(nn:Int):=by omega
 have hnn3:0<nn:=by omega
 obtain⟨nm,hnm⟩: ∃nm,nm=s.num i:=⟨_,rfl⟩
 by_cases hrm:Room c s (j:Int)
 ·have HO:Hid (lan c T s i=(⟨5,nm,(j:Int),0⟩,{ asks s j nm with R:=upd (asks s j nm).R (2+i) r })):=by
   unfold lan
   rw[if_neg hni]
   show (match s.R (2+i) with|q::r=>_|[]=>_)=_
   rw[hR]
   dsimp only
   rw[if_pos hrm.2.2,hnm]
   rfl
  rw[<-hnm]at l1 hi6
  have HC:Hid (Calls _ _ _ _ _):=zmr h0 j nm hi6 hrm hk (hc nm)
  have H1:Hid (∀W Z',Z'.sb=Z.sb->Z'.lb=Z.lb->SyM W Z' c (asks s j nm) (k+1)->Mv w0 Z W Z'->W.cell? ⟨Z.lb,2*i,none⟩=some (.int .i64 nm)/\ ∃b off m d,W.cell? ⟨Z.lb,2*i+1,none⟩=some (.slice (some ⟨b,off,none⟩) (m+1) d)/\W.frozen? ⟨Z.lb,2*i+1,none⟩=false/\m+1<=d/\(d=1\/d≠1)/\ ∀so,so=(if d=1 then some ⟨b,off,none⟩ else some ⟨b,off+1,none⟩)-> ∃Z2,Z2.sb=Z.sb/\SyM (W.setCell ⟨Z.lb,2*i+1,none⟩ (.slice so m (d-1))) Z2 c (lan c T s i).2 (k+1)/\Mv w0 Z (W.setCell ⟨Z.lb,2*i+1,none⟩ (.slice so m (d-1))) Z2):=by
   intro W Z' e1 e2 hW hM
   obtain⟨a1,a2,a3,a4⟩:=hW.lanCell hi
   have hr:=hW.rows (2+i)
   have hRR:(asks s j nm).R (2+i)=(j:Int)::r:=by
    show upd s.R (18+j) _ (2+i)=_
    rw[zaa _ _ (by omega),hR]
   rw[hRR]at hr
   obtain⟨b,off,e3,_,hcp2,hn3,hK⟩:=hr.first
   have hfit:=hr.fit
   refine⟨by rw[<-e2,a1,hnm];rfl,b,off,(Z'.q (2+i)).n-1,(Z'.q (2+i)).c,?_,by rw[<-e2];exact a4,by omega,Decidable.em _,?_⟩
   ·rw[<-e2,a2]
    show some (Value.slice _ _ _)=_
    rw[e3,show (Z'.q (2+i)).n-1+1=(Z'.q (2+i)).n by omega]
   ·intro so hso
    obtain⟨k1,k2⟩:=hK so hso
    obtain⟨r1,r2,r3⟩:=hW.rowL (wb:=W) hi ⟨so,(Z'.q (2+i)).n-1,(Z'.q (2+i)).c-1⟩ r (Fr.refl _ _) k1 (Or.inl k2)
    rw[e2]at r1 r2
    refine⟨Z'.put (2+i) ⟨so,(Z'.q (2+i)).n-1,(Z'.q (2+i)).c-1⟩,e1,?_,hM.trans ⟨r2,r3,rfl,rfl,rfl,rfl⟩⟩
    rw[HO.out]
    exact r1
  clear h h0 hb0 hl0 hlt hF0 HW0 hc hk hrm hR hr0 hlo hni hi6 hn1 hcc hnm hcp
  go_enter Tryz.func146,Tryz.ntmps146
  go_upto_region 1 with fail
  rw[HW0'.out,HRB.out]
  go_wp2_with fail
  refine Calls.mono HC.out ?_
  rintro e w1 ⟨Z1,rfl,hS1,hM1,z1,z2,z3⟩
  obtain⟨f1,b,off,m,d,f2,f3,f4,f5,f6⟩:=H1.out w1 Z1 z1 z2 hS1 hM1
  clear hS1 hM1 z1 z2 z3 HC H1 l1 l2 hcell hnn hnn2 hnn3
  rcases f5 with rfl|f5
  ·have hm0:m=0:=by omega
   subst hm0
   obtain⟨Z2,j3,j4,j5⟩:=f6 _ (by rw[if_pos rfl])
   have HE:Hid (Z2.sb=Z.sb/\SyM _ _ _ _ _/\Mv _ _ _ _):=⟨j3,j4,j5⟩
   have HB:=HBox.out _ _ j5
   clear j3 j4 j5 f6
   go_wp2_with (refine zab rfl _ _ rfl rb 0 5 nm (j:Int) 0 0 rfl rfl 0 0 0 0 0 0 HB ?_;intro w6 hw6 hf6)
   refine bodyPost_ret (zaf rfl _ _ _ rb _ rfl (zae hw6.out)) rfl ?_
   obtain⟨m1,m2⟩:=HFin.out _ _ _ _ _ HE.out.2.2 hf6 HE.out.2.1
   exact⟨Z2,by rw[HO.out];rfl,m1,m2,HE.out.1⟩
  ·obtain⟨Z2,j3,j4,j5⟩:=f6 _ (by rw[if_neg f5])
   have HE:Hid (Z2.sb=Z.sb/\SyM _ _ _ _ _/\Mv _ _ _ _):=⟨j3,j4,j5⟩
   have HB:=HBox.out _ _ j5
   clear j3 j4 j5 f6
   go_wp2_with (refine zab rfl _ _ rfl rb 0 5 nm (j:Int) 0 0 rfl rfl 0 0 0 0 0 0 HB ?_;intro w6 hw6 hf6)
   refine bodyPost_ret (zaf rfl _ _ _ rb _ rfl (zae hw6.out)) rfl ?_
   obtain⟨m1,m2⟩:=HFin.out _ _ _ _ _ HE.out.2.2 hf6 HE.out.2.1
   exact⟨Z2,by rw[HO.out];rfl,m1,m2,HE.out.1⟩
 ·have HO:Hid (lan c T s i=(Te.no,s)):=by
   unfold lan
   rw[if_neg hni]
   show (match s.R (2+i) with|q::r=>_|[]=>_)=_
   rw[hR]
   dsimp only
   rw[if_neg (fun e=>hrm ⟨hq0,hq1,e⟩)]
  rw[<-hnm]at l1
  have hs16:=h.may.2.1
  have HC:Hid (Calls _ _ _ _ _):=zqx h0 (j:Int) nm ⟨by omega,by omega⟩ hrm
  have HS:Hid (∀W,Fr [] w0 W->SyM W Z c s k):=fun W hf=>h0.quiet hf
  clear h h0 hb0 hl0 hlt hF0 HW0 hc hk hrm hR hr0 hlo hni hi6 hn1 hcc hnm hcp
  go_enter Tryz.func146,Tryz.ntmps146
  go_upto_region 1 with fail
  rw[HW0'.out,HRB.out]
  go_wp2_with fail
  refine Calls.mono HC.out ?_
  rintro e w1 ⟨rfl,hF1⟩
  have HM1:Hid (Mv w0 Z w1 Z):=Mv.quiet hF1
  have HS1:Hid (SyM w1 Z c s k):=HS.out w1 hF1
  have HB:=HBox.out _ _ HM1.out
  clear hF1 l1 l2 hcell HS
  go_wp2_with (refine zab rfl _ _ rfl rb 0 0 0 0 0 0 rfl rfl 0 0 0 0 0 0 HB ?_;intro w3 hw3 hf3)
  refine bodyPost_ret (zaf rfl _ _ _ rb _ rfl (zae hw3.out)) rfl ?_
  rw[HO.out]
  obtain⟨m1,m2⟩:=HFin.out _ _ _ _ _ HM1.out hf3 HS1.out
  exact⟨Z,rfl,m1.mono (Nat.le_succ k),m2,rfl⟩
end
section
variable {w w' wS:World} {Z:Zs} {c:Cf} {s:Sy} {k:Nat} {ts:List Tm}
set_option maxHeartbeats 8000000 in
set_option maxRecDepth 100000 in
theorem zto (h:SyM w Z c s k) (hx:Cx wS w Z ts) (hT:Lk (txs ts)) (hI:Iv c (txs ts) s k) (i:Nat) (hi:i<c.l.toNat) (hk:k<=4194304) :
  Calls Tryz.prog 118 #[.pointer (some ⟨Z.sb,0,none⟩),.int .i64 ((i:Int)+1)] w (zav w Z c k (lan c (txs ts) s i)):=by
 have hlt:=h.lt
 have hl16:=h.may.1
 have hlen:=hT.len
 have hi6:i64 (s.num i):=by
  rcases hI.held i with e|e
  ·rw[e];exact⟨by omega,by omega⟩
  ·exact⟨by omega,by omega⟩
 have hF0:Fr [] w (w.alloc (.cells (evA 0 0 0 0 0 0) 62)):=Fr.alloc _ _ _
 have hb0:(w.alloc (.cells (evA 0 0 0 0 0 0) 62)).heap[w.heap.size]? = some (.cells (evA 0 0 0 0 0 0) 62 (0,0)):=heap_alloc_new _ _
 have h0:=h.quiet hF0
 have hl0:w.heap.size<(w.alloc (.cells (evA 0 0 0 0 0 0) 62)).heap.size:=by simp
 have hx0:=hx.quiet hF0
 obtain⟨w0,HW0⟩: ∃w0,Hid (w.alloc (.cells (evA 0 0 0 0 0 0) 62)=w0):=⟨_,rfl⟩
 rw[HW0.out]at hF0 hb0 h0 hl0 hx0
 obtain⟨rb,HRB⟩: ∃rb,Hid (w.heap.size=rb):=⟨_,rfl⟩
 have hrb:w.heap.size<=rb:=by rw[HRB.out];exact Nat.le_refl _
 rw[HRB.out]at hb0 hl0
 have HFin:Hid (∀W W' Z' s' k',Mv w0 Z W Z'->Fr [rb] W W'->SyM W Z' c s' k'->SyM W' Z' c s' k'/\Mv w Z W' Z'):=fun W W' Z' s' k' hM hf hS=>hM.fin hF0 hrb hl0 hlt hf hS
 have HBox:Hid (∀W Z',Mv w0 Z W Z'->W.heap[rb]? = some (.cells (evA 0 0 0 0 0 0) 62 (0,0))):=fun W Z' hM=>hM.box hrb hlt hb0
 have HW0':Hid (w.alloc (.cells #[.int .i64 0,.int .u8 0,.int .i64 0,.int .i64 0,.int .i64 0,.int .i64 0] 62)=w0):=HW0
 have c11:w0.cell? ⟨Z.sb,11,none⟩=some (.slice (some ⟨Z.lb,0,none⟩) c.l.toNat c.l.toNat):=h0.cell rfl
 have c13:w0.cell? ⟨Z.sb,13,none⟩=some (.map (some Z.ob)):=h0.cell rfl
 obtain⟨l1,l2',lz,_⟩:=h0.lanCell hi
 have l2:w0.cell? ⟨Z.lb,2*i+1,none⟩=some (.slice (Z.q (2+i)).lo (Z.q (2+i)).n (Z.q (2+i)).c):=l2'
 clear l2'
 rw[Nat.mul_comm 2 i]at l1 l2 lz
 have hnl:=(h0.rows (2+i)).len
 obtain⟨LL,hLL⟩: ∃LL,LL=c.l.toNat:=⟨_,rfl⟩
 have hi2:(i:Int)<(LL:Int):=by omega
 have hL16:LL<=16:=by omega
 have e1:(i:Int)+1-1=(i:Int):=by omega
 by_cases h0i:s.num i=0
 ·have HC:Hid (Calls _ _ _ _ _):=ztm h0 hx0 hT i hi hI.line h0i
  rw[Nat.mul_comm 2 i]at HC
  obtain⟨r,hr⟩: ∃r,r=lan c (txs ts) s i:=⟨_,rfl⟩
  rw[<-hr]at HC ⊢
  obtain⟨⟨ak,an,a3,ac⟩,s'⟩:=r
  rw[h0i]at l1
  rw[<-hLL]at c11
  clear h h0 hb0 hl0 hlt hF0 HW0 hx hx0 hT hI hr hnl h0i hi6 hLL c13 l2 lz hi hk hlen
  go_enter Tryz.func118,Tryz.ntmps118
  go_upto_region 1 with fail
  rw[HW0'.out,HRB.out]
  go_wp2_with fail
  refine Calls.mono HC.out ?_
  rintro e w1 ⟨Z1,rfl,hS1,hM1,z1⟩
  have HE:Hid (Z1.sb=Z.sb/\SyM _ _ _ _ _/\Mv _ _ _ _):=⟨z1,hS1,hM1⟩
  have HB:=HBox.out _ _ hM1
  clear hS1 hM1 z1 HC c11 l1
  simp only[Te.v,evA]
  go_wp2_with (refine zab rfl _ _ rfl rb 0 ak an a3 ac 0 rfl rfl 0 0 0 0 0 0 HB ?_;intro w3 hw3 hf3)
  refine bodyPost_ret (zaf rfl _ _ _ rb _ rfl (zae hw3.out)) rfl ?_
  obtain⟨m1,m2⟩:=HFin.out _ _ _ _ _ HE.out.2.2 hf3 HE.out.2.1
  exact⟨Z1,rfl,m1,m2,HE.out.1⟩
 have hne:(s.num i==0)=false:=by simpa using h0i
 cases hR:s.R (2+i) with
 | cons q r =>
  have hqq:=hI.left i (by omega) q (by rw[hR];simp)
  have HC:Hid (Calls _ _ _ _ _):=ztn (T:=txs ts) h0 i hi h0i hi6 q r hR hqq.1 hqq.2 (by omega) hI.cnt
  rw[Nat.mul_comm 2 i]at HC
  obtain⟨rr,hr⟩: ∃rr,rr=lan c (txs ts) s i:=⟨_,rfl⟩
  rw[<-hr]at HC ⊢
  obtain⟨⟨ak,an,a3,ac⟩,s'⟩:=rr
  rw[hR]at hnl
  simp only[List.length_cons]at hnl
  obtain⟨m,hm⟩: ∃m,m=(Z.q (2+i)).n:=⟨_,rfl⟩
  rw[<-hm]at l2 hnl
  have hm1:0<m:=by omega
  have hm2:(0:Int)<(m:Int):=by omega
  rw[<-hLL]at c11
  obtain⟨nm,hnm⟩: ∃nm,nm=s.num i:=⟨_,rfl⟩
  rw[<-hnm]at l1 h0i hne
  clear h h0 hb0 hl0 hlt hF0 HW0 hx hx0 hT hI hr hnl hi6 hLL c13 lz hi hk hlen hm hR hqq hnm
  go_enter Tryz.func118,Tryz.ntmps118
  go_upto_region 1 with fail
  rw[HW0'.out,HRB.out]
  go_wp2_with fail
  refine Calls.mono HC.out ?_
  rintro e w1 ⟨Z1,rfl,hS1,hM1,z1⟩
  have HE:Hid (Z1.sb=Z.sb/\SyM _ _ _ _ _/\Mv _ _ _ _):=⟨z1,hS1,hM1⟩
  have HB:=HBox.out _ _ hM1
  clear hS1 hM1 z1 HC c11 l1 l2
  simp only[Te.v,evA]
  go_wp2_with (refine zab rfl _ _ rfl rb 0 ak an a3 ac 0 rfl rfl 0 0 0 0 0 0 HB ?_;intro w3 hw3 hf3)
  refine bodyPost_ret (zaf rfl _ _ _ rb _ rfl (zae hw3.out)) rfl ?_
  obtain⟨m1,m2⟩:=HFin.out _ _ _ _ _ HE.out.2.2 hf3 HE.out.2.1
  exact⟨Z1,rfl,m1,m2,HE.out.1⟩
 | nil =>
  rw[hR]at hnl
  have hm0:(Z.q (2+i)).n=0:=hnl
  rw[hm0]at l2
  have hlk:=h0.lookOut (s.num i) hi6
  by_cases hF:s.F (s.num i)=0
  ·have HO:Hid (lan c (txs ts) s i=(⟨6,s.num i,0,0⟩,{ s with num:=upd s.num i 0,R:=upd s.R 1 (s.R 1++[s.num i]) })):=by
    unfold lan
    rw[if_neg h0i]
    show (match s.R (2+i) with|q::r=>_|[]=>_)=_
    rw[hR]
    dsimp only
    rw[if_pos hF]
   rw[hF]at hlk
   obtain⟨k1,k2⟩:=h0.setNum hi 0
   rw[Nat.mul_comm 2 i]at k1 k2
   have hp1:(w0.setCell ⟨Z.lb,i*2,none⟩ (.int .i64 0)).cell? ⟨Z.sb,10,none⟩=some (.slice (Z.q 1).lo (Z.q 1).n (Z.q 1).c):=k1.cell rfl
   have hn1:(Z.q 1).n<=4194304:=by have:=(h0.rows 1).len;have:=hI.few1;omega
   obtain⟨w1,HW1⟩: ∃w1,Hid (w0.setCell ⟨Z.lb,i*2,none⟩ (.int .i64 0)=w1):=⟨_,rfl⟩
   rw[HW1.out]at k1 k2 hp1
   have HQ:Hid (QR w1 (Z.q 1).lo (Z.q 1).n (Z.q 1).c (s.R 1)):=k1.rows 1
   have H4:Hid (∀lo' N' c' W',QR W' lo' N' c' (s.R 1++[s.num i])->Fr (qb (Z.q 1).lo).toList w1 W'->(qb lo'=qb (Z.q 1).lo\/ ∃k,qb lo'=some k/\w1.heap.size<=k)->W'.cell? ⟨Z.sb,10,none⟩=some (.slice (Z.q 1).lo (Z.q 1).n (Z.q 1).c)/\W'.frozen? ⟨Z.sb,10,none⟩=false/\ ∃Z2,Z2.sb=Z.sb/\SyM (W'.setCell ⟨Z.sb,10,none⟩ (.slice lo' N' c')) Z2 c (lan c (txs ts) s i).2 k/\Mv w0 Z (W'.setCell ⟨Z.sb,10,none⟩ (.slice lo' N' c')) Z2):=by
    intro lo' N' c' W' hQ hF' hm
    obtain⟨m1,m2⟩:=k1.row1 (w1:=W') ⟨lo',N',c'⟩ _ hF' hQ hm
    have hb:=hF'.keep k1.box (fun hh=>(k1.apa.nR 1 _ (Option.mem_toList.1 hh)).1 (by simp[Zs.six]))
    refine⟨by rw[cell_of_row _ _ _ _ _ _ hb];rfl,by simp[World.frozen?,hb],Z.put 1 ⟨lo',N',c'⟩,rfl,?_,k2.trans m2⟩
    rw[HO.out]
    exact m1
   have HOk:Hid (lan c (txs ts) s i=(⟨6,s.num i,0,0⟩,(lan c (txs ts) s i).2)):=by show _=_;rw[HO.out]
   obtain⟨lo,hlo⟩: ∃lo,lo=(Z.q 1).lo:=⟨_,rfl⟩
   obtain⟨m,hm⟩: ∃m,m=(Z.q 1).n:=⟨_,rfl⟩
   obtain⟨cl,hcl⟩: ∃cl,cl=(Z.q 1).c:=⟨_,rfl⟩
   rw[<-hlo,<-hm,<-hcl]at HQ H4 hp1
   rw[<-hm]at hn1
   obtain⟨nm,hnm⟩: ∃nm,nm=s.num i:=⟨_,rfl⟩
   rw[<-hnm]at l1 h0i hne HOk H4 hlk
   rw[<-hLL]at c11
   obtain⟨r,hr⟩: ∃r,r=(lan c (txs ts) s i).2:=⟨_,rfl⟩
   rw[<-hr]at HOk H4
   clear h h0 hb0 hl0 hlt hF0 HW0 hx hx0 hT hI hr hnl hi6 hLL hi hk hlen hm hR hnm hF k1 k2 hlo hcl HO hm0
   go_enter Tryz.func118,Tryz.ntmps118
   go_upto_region 1 with fail
   rw[HW0'.out,HRB.out]
   go_upto_region 9 with fail
   rw[HW1.out]
   clear c11 c13 l1 l2 lz hlk HW1
   go_wp2_with (first
    | (at_builtin;refine zdi w1 rfl _ _ rfl lo m cl (s.R 1) nm rfl HQ.out (by omega) rfl ?_;intro lo' c' w4 hQ4 hF4 hm4;obtain⟨j1,j2,Z2,j3,j4,j5⟩:=H4.out lo' _ c' w4 hQ4 hF4 hm4;have HE:Hid (Z2.sb=Z.sb/\SyM _ _ _ _ _/\Mv _ _ _ _):=⟨j3,j4,j5⟩;have HB:=HBox.out _ _ j5;clear j3 j4 j5 hQ4 hF4 hm4)
    | (refine zab rfl _ _ rfl rb 0 6 nm 0 0 0 rfl rfl 0 0 0 0 0 0 HB ?_;intro w6 hw6 hf6))
   refine bodyPost_ret (zaf rfl _ _ _ rb _ rfl (zae hw6.out)) rfl ?_
   obtain⟨m1,m2⟩:=HFin.out _ _ _ _ _ HE.out.2.2 hf6 HE.out.2.1
   rw[HOk.out]
   exact⟨Z2,rfl,m1.mono (Nat.le_succ k),m2,HE.out.1⟩
  ·have HO:Hid (lan c (txs ts) s i=(Te.no,s)):=by
    unfold lan
    rw[if_neg h0i]
    show (match s.R (2+i) with|q::r=>_|[]=>_)=_
    rw[hR]
    dsimp only
    rw[if_neg hF]
   have HS:Hid (SyM w0 Z c s k):=h0
   have hFe:(s.F (s.num i)==0)=false:=by simpa using hF
   obtain⟨nm,hnm⟩: ∃nm,nm=s.num i:=⟨_,rfl⟩
   rw[<-hnm]at l1 h0i hne hlk hFe
   obtain⟨Fn,hFn⟩: ∃Fn,Fn=s.F nm:=⟨_,rfl⟩
   rw[<-hFn]at hlk hFe
   rw[<-hLL]at c11
   clear h h0 hb0 hl0 hlt hF0 HW0 hx hx0 hT hI hnl hi6 hLL hi hk hlen hR hF hm0 hnm hFn
   go_enter Tryz.func118,Tryz.ntmps118
   go_upto_region 1 with fail
   rw[HW0'.out,HRB.out]
   have HB:=HBox.out _ _ (Mv.refl w0 Z)
   go_wp2_with (refine zab rfl _ _ rfl rb 0 0 0 0 0 0 rfl rfl 0 0 0 0 0 0 HB ?_;intro w3 hw3 hf3)
   refine bodyPost_ret (zaf rfl _ _ _ rb _ rfl (zae hw3.out)) rfl ?_
   rw[HO.out]
   obtain⟨m1,m2⟩:=HFin.out _ _ _ _ _ (Mv.refl w0 Z) hf3 HS.out
   exact⟨Z,rfl,m1.mono (Nat.le_succ k),m2,rfl⟩
end
noncomputable def opn (T:List Tx) (s:Sy) (n:Int):Sy :=
 { s with L:=s.L++[(n,zah (wsAt T n))],R:=if (adx s.L s.en (zah (wsAt T n))).length=0 then upd s.R 0 (s.R 0++[n]) else s.R }
def OpnP (w:World) (Z:Zs) (c:Cf) (k:Nat) (N:Int) (s':Sy) (e:Ending) (w':World):Prop:= ∃Z',e= .returned (.int .i64 N)/\SyM w' Z' c s' (k+1)/\Mv w Z w' Z'
section
variable {w w' wS:World} {Z:Zs} {c:Cf} {s:Sy} {k:Nat} {ts:List Tm}
set_option maxHeartbeats 8000000 in
set_option maxRecDepth 100000 in
theorem ztp (h:SyM w Z c s k) (hx:Cx wS w Z ts) (hT:Lk (txs ts)) (n:Int) (h1:1<=n) (h2:n<=(ts.length:Int)) (hold: ∀p∈s.L,p.1<n) (hk:k<=4194304) (hl0:(s.R 0).length<=65537*k) :
  Calls Tryz.prog 144 #[.pointer (some ⟨Z.sb,0,none⟩),.int .i64 n] w (OpnP w Z c k (((adx s.L s.en (zah (wsAt (txs ts) n))).length:Nat):Int) (opn (txs ts) s n)):=by
 have hlen:=hT.len
 rw[zap]at hlen
 have hok:=hT.tx n h1 (by rw[zap];exact h2)
 have hnum:=hT.num n h1 (by rw[zap];exact h2)
 obtain⟨j,rfl⟩: ∃j:Nat,n=(j:Int)+1:=⟨(n-1).toNat,by omega⟩
 have hj:j<ts.length:=by omega
 have hws:wsAt (txs ts) ((j:Int)+1)=(ts.getD j Tm.zero).ws:=by
  unfold wsAt
  rw[show ((j:Int)+1-1).toNat=j by omega,zcm]
  rfl
 rw[show ((j:Int)+1-1).toNat=j by omega,zcm]at hnum
 have hnum:(ts.getD j Tm.zero).n=(j:Int)+1:=hnum
 have hTr:=hx.trs
 have hLM:=hx.len
 obtain⟨lb,loff,hlo,hlb,hcl⟩:=hTr.lies (by omega)
 have hlbS:lb<wS.heap.size:=by
  obtain⟨b2,o2,e2,hb2,_⟩:=hx.log.lies (by omega)
  rw[hlo]at e2
  cases e2
  exact hb2
 obtain⟨d1,d2⟩:=hcl j hj
 have hat:=hTr.each _ (zbf ts j hj)
 have hatS:=hx.log.each _ (zbf ts j hj)
 unfold Tm.at at hat hatS
 rw[hws]at hok ⊢
 unfold opn
 rw[hws]
 have hWB:0<(ts.getD j Tm.zero).ws.length-> ∀a,(ts.getD j Tm.zero).ao=some a->a.block∉Z.B:=by
  intro h0 a ha hh
  obtain⟨b,off,e,hb,_⟩:=hatS.rs.lies h0
  rw[e]at ha
  cases ha
  have:=hx.base b (Zs.mem_own.2 (Or.inr (Or.inl hh)))
  omega
 have HA:Hid (∀W,Fr [] w W->Calls _ _ _ W _):=fun W hf=>zyq (ts.getD j Tm.zero).n (ts.getD j Tm.zero).ao (ts.getD j Tm.zero).L (ts.getD j Tm.zero).cap (ts.getD j Tm.zero).ws W (h.quiet hf).deps (hat.rs.keep hf) hat.len (by rw[hnum];exact hok) (by rw[hnum];exact hold) (by omega) hWB
 have c4:w.cell? ⟨Z.sb,4,none⟩=some (.slice (some ⟨lb,loff,none⟩) ts.length Z.mc):=by have:=h.cell (j:=4) (v:= .slice Z.logo Z.M Z.mc) rfl;rw[hlo,hLM]at this;exact this
 have c6:w.cell? ⟨Z.sb,6,none⟩=some (.pointer (some ⟨Z.tb,0,none⟩)):=h.cell rfl
 have HM:Hid (∀W xs B',Fr Z.B w W->AdT s.L s.en (zah (ts.getD j Tm.zero).ws) xs->Tl W Z.tb B' (65*k+65) (s.L++[((ts.getD j Tm.zero).n,zah (ts.getD j Tm.zero).ws)]) s.en->(∀x∈B',x∈Z.B\/w.heap.size<=x) ->
   (W.cell? ⟨Z.sb,4,none⟩=some (.slice (some ⟨lb,loff,none⟩) ts.length Z.mc)/\W.cell? ⟨Z.sb,6,none⟩=some (.pointer (some ⟨Z.tb,0,none⟩))/\W.cell? ⟨lb,loff+j*2,none⟩=some (.int .i64 (ts.getD j Tm.zero).n)/\W.cell? ⟨lb,loff+j*2+1,none⟩=some (.slice (ts.getD j Tm.zero).ao (ts.getD j Tm.zero).L (ts.getD j Tm.zero).cap))/\SyM W { Z with B:=B' } c { s with L:=s.L++[((j:Int)+1,zah (ts.getD j Tm.zero).ws)] } (k+1)/\Mv w Z W { Z with B:=B' }/\(adx s.L s.en (zah (ts.getD j Tm.zero).ws))=xs/\W.cell? ⟨Z.sb,9,none⟩=some (.slice (Z.q 0).lo (Z.q 0).n (Z.q 0).c)):=by
  intro W xs B' hF hA hT' hB
  rw[hnum]at hT'
  obtain⟨m1,m2⟩:=h.setDeps (Nat.le_succ k) hF (by rw[Nat.mul_succ];exact hT') hB
  have hkl: ∀o,W.cell? ⟨lb,o,none⟩=w.cell? ⟨lb,o,none⟩:=fun o=>World.cell?_of_block (hF.block lb (Nat.lt_of_lt_of_le hlbS hx.fr.size) (fun hh=>by have:=hx.base lb (Zs.mem_own.2 (Or.inr (Or.inl hh)));omega))
  refine⟨⟨?_,m1.cell (j:=6) (v:= .pointer (some ⟨Z.tb,0,none⟩)) rfl,(hkl _).trans d1,(hkl _).trans d2⟩,m1,m2,zhh hA,m1.cell (j:=9) (v:=(Z.q 0).v) rfl⟩
  have:=m1.cell (j:=4) (v:= .slice Z.logo Z.M Z.mc) rfl
  rw[hlo,hLM]at this
  exact this
 have hn0:(Z.q 0).n<=65537*k:=by rw[(h.rows 0).len];exact hl0
 obtain⟨t,htt⟩: ∃t,t=ts.getD j Tm.zero:=⟨_,rfl⟩
 rw[<-htt]at d1 d2 HA HM hnum ⊢
 obtain⟨tn,ao,L,cap,ws⟩:=t
 simp only at d1 d2 HA HM hnum ⊢
 obtain⟨TL,hTL⟩: ∃TL,TL=ts.length:=⟨_,rfl⟩
 rw[<-hTL]at c4 hj hlen HM
 obtain⟨n,hn⟩: ∃n,n=(j:Int)+1:=⟨_,rfl⟩
 have hsub:n-1=(j:Int):=by omega
 have hnb1:1<=n:=by omega
 have hnb2:n<=65536:=by omega
 have hjT:(j:Int)<(TL:Int):=by omega
 have hj0:(0:Int)<=(j:Int):=by omega
 rw[<-hn]at HM ⊢
 obtain⟨NN,HNN⟩: ∃NN,Hid ((adx s.L s.en (zah ws)).length=NN):=⟨_,rfl⟩
 rw[HNN.out]
 clear h hx hT hws hok hat hatS hTr hcl hlo hLM hold htt hTL hWB hlb hlbS h1 h2 hl0 hn hnum
 have hwr:IntKind.i64.wrap (n-1)=(j:Int):=by rw[IntKind.wrap_i64];omega
 clear hsub
 go_enter Tryz.func144,Tryz.ntmps144
 go_wp2_with fail
 go_region_held3 (fun W=>W.cell? ⟨Z.sb,4,none⟩=some (.slice (some ⟨lb,loff,none⟩) TL Z.mc)/\W.cell? ⟨Z.sb,6,none⟩=some (.pointer (some ⟨Z.tb,0,none⟩))/\W.cell? ⟨lb,loff+j*2,none⟩=some (.int .i64 tn)/\W.cell? ⟨lb,loff+j*2+1,none⟩=some (.slice ao L cap)) (go_keep)
  (first
   | (with_reducible refine Calls.mono (HA.out _ (Fr.drew _ _)) ?_;rintro e w4 ⟨xs,B',rfl,hA4,hT4,hB4,hF4⟩;obtain⟨⟨y1,y2,y3,y4⟩,hR4⟩:=HM.out w4 xs B' (((Fr.drew [] w).mono (by simp)).then hF4) hA4 hT4 (fun x hx=>Or.imp_right (fun h=>Nat.le_trans (Fr.drew [] w).size h) (hB4 x hx))))
 obtain⟨m1,m2,m3,m4⟩:=hR4
 have HS4:Hid (SyM w4 { Z with B:=B' } c { s with L:=s.L++[(n,zah ws)] } (k+1)/\Mv w Z w4 { Z with B:=B' }):=⟨m1,m2⟩
 have hxl:xs.length=NN:=by rw[<-HNN.out,m3]
 rw[hxl]
 clear m1 m2 m3 y1 y2 y3 y4 c4 c6 d1 d2 hA4 hT4 hB4 hF4 HM HA hxl HNN
 by_cases hN0:NN=0
 ·subst hN0
  have HQ:Hid (QR w4 (Z.q 0).lo (Z.q 0).n (Z.q 0).c (s.R 0)):=HS4.out.1.rows 0
  have H4:Hid (∀lo' N' c' W',QR W' lo' N' c' (s.R 0++[n])->Fr (qb (Z.q 0).lo).toList w4 W'->(qb lo'=qb (Z.q 0).lo\/ ∃k,qb lo'=some k/\w4.heap.size<=k)->W'.cell? ⟨Z.sb,9,none⟩=some (.slice (Z.q 0).lo (Z.q 0).n (Z.q 0).c)/\W'.frozen? ⟨Z.sb,9,none⟩=false/\ ∃Z2,SyM (W'.setCell ⟨Z.sb,9,none⟩ (.slice lo' N' c')) Z2 c { s with L:=s.L++[(n,zah ws)],R:=upd s.R 0 (s.R 0++[n]) } (k+1)/\Mv w Z (W'.setCell ⟨Z.sb,9,none⟩ (.slice lo' N' c')) Z2):=by
   intro lo' N' c' W' hQ hF' hm
   obtain⟨m1,m2⟩:=HS4.out.1.row0 (w1:=W') ⟨lo',N',c'⟩ _ hF' hQ hm
   have hb:=hF'.keep HS4.out.1.box (fun hh=>(HS4.out.1.apa.nR 0 _ (Option.mem_toList.1 hh)).1 (by simp[Zs.six]))
   exact⟨by rw[cell_of_row _ _ _ _ _ _ hb];rfl,by simp[World.frozen?,hb],_,m1,HS4.out.2.trans m2⟩
  obtain⟨lo,hlo⟩: ∃lo,lo=(Z.q 0).lo:=⟨_,rfl⟩
  obtain⟨m,hm⟩: ∃m,m=(Z.q 0).n:=⟨_,rfl⟩
  obtain⟨cl,hcl⟩: ∃cl,cl=(Z.q 0).c:=⟨_,rfl⟩
  rw[<-hlo,<-hm,<-hcl]at HQ H4 m4
  rw[<-hm]at hn0
  clear hlo hm hcl
  go_wp2_with (first
   | (at_builtin;refine zdi w4 rfl _ _ rfl lo m cl (s.R 0) (n) rfl HQ.out (by omega) rfl ?_;intro lo' c' w5 hQ5 hF5 hm5;obtain⟨j1,j2,Z2,j4,j5⟩:=H4.out lo' _ c' w5 hQ5 hF5 hm5;have HE:Hid (SyM _ _ _ _ _/\Mv _ _ _ _):=⟨j4,j5⟩;clear j4 j5 hQ5 hF5 hm5)
   | fail)
  go_ret
  refine⟨Z2,?_,?_,HE.out.2⟩
  ·rfl
  ·exact HE.out.1
 ·have hne:((NN:Int)==0)=false:=by simp;omega
  have HZ:Hid (¬NN=0):=hN0
  clear hN0 m4
  go_wp2_with fail
  go_ret
  refine⟨{ Z with B:=B' },rfl,?_,HS4.out.2⟩
  first|exact HS4.out.1|(rw[if_neg HZ.out];exact HS4.out.1)
end
end Go.Proofs.YtaaghcimfcjehaaGreatDoor
