/- Contracts and plain lemmas of this claim. -/
import Derived.Test.YtaaghcimfcjehaaGreatDoorGp2
import Derived.Test.YtaaghcimfcjehaaGreatDoorGp1
import Derived.Test.YtaaghcimfcjehaaGreatDoorGp3
import Derived.WalkSpells
import Derived.Shelf.SlIterI.Nil
import Derived.Shelf.SortM.Plain
import Derived.Shelf.SortM.SortNone
import Derived.Shelf.Slices.CompactI
import Derived.Shelf.Lay
import Derived.Ground.GgzProg
import Derived.Ground.SlgmProg
import Derived.Ground.Names2Prog
import Derived.Sort.OwnSortedInts
import Derived.Test.YtaaghcimfcjehaaGreatDoorGp4
set_option linter.unusedSimpArgs false
set_option linter.unusedVariables false
namespace Go.Proofs.YtaaghcimfcjehaaGreatDoor
open Go.ChangeShapes Go.WideShapes Go.ChangeAt Go.RowKit Go.Lib Go.Maps
structure Rw where
 o:Option Addr
 n:Nat
 c:Nat
def Rw.bl (r:Rw):Option Nat:=(Value.slice r.o r.n r.c).ownBlock
structure En where
 g:Nat
 a:Rw
 b:Rw
structure TbI (w:World) (tb lb ob wb:Nat) (B:List Nat) (n:Nat) (D:Dt) (E:Int->Option En):Prop where
 box:w.heap[tb]? = some (.cells #[.map (some lb),.int .i64 D.newest,.map (some ob),.map (some wb)] 199 (0,0))
 bt:tb∈B
 bl:lb∈B
 bo:ob∈B
 bw:wb∈B
 lo:lb≠ob
 lw:lb≠wb
 ow:ob≠wb
 mine: ∀j∈B,j<w.heap.size
 mapL: ∃F,MapG kLast w lb n F/\ ∀k,(F k).getD 0=D.last k
 mapO:MapG zvv w ob n (fun m=>(E m).map fun e=>some e.g)
 mapW: ∃F,MapG zqe w wb n F/\ ∀a m,(F (a,m)).isSome=true↔D.wt a m
 opn: ∀m,(E m).isSome=true↔D.op m
 few:0<=D.newest/\D.newest<=65536
 ent: ∀m e,E m=some e->w.heap[e.g]? = some (.cells #[.slice e.a.o e.a.n e.a.c,.slice e.b.o e.b.n e.b.c] 261 (0,0))/\e.g∈B/\IOw 0 w e.a.o e.a.n e.a.c (D.ah m)/\IOw 0 w e.b.o e.b.n e.b.c (D.bh m)/\(∀k,e.a.bl=some k->k∈B)/\ ∀k,e.b.bl=some k->k∈B
 injg: ∀m e m' e',E m=some e->E m'=some e'->e.g=e'.g->m=m'
 injb: ∀m e m' e' k,E m=some e->E m'=some e'->e.b.bl=some k->e'.b.bl=some k->m=m'
 ab: ∀m e m' e' k,E m=some e->E m'=some e'->e.b.bl=some k->e'.a.bl≠some k
section
variable {w w':World} {tb lb ob wb:Nat} {B:List Nat} {n:Nat} {D:Dt} {E:Int->Option En}
theorem zar {j k:Nat} {cs:Array Value} {t:TypeId} {fr:Nat×Nat} (h:w.heap[j]? = some (.cells cs t fr)) (h': ∃es c,w.heap[k]? = some (.map es c)):j≠k:=by
 obtain⟨es,c,h'⟩:=h'
 intro e
 rw[e,h']at h
 cases h
theorem zaz {j k:Nat} {cs cs':Array Value} {t t':TypeId} {fr fr':Nat×Nat} (h:w.heap[j]? = some (.cells cs t fr)) (h':w.heap[k]? = some (.cells cs' t' fr')) (ht:t≠t'):j≠k:=by
 intro e
 rw[e,h']at h
 cases h
 exact ht rfl
theorem TbI.bL (h:TbI w tb lb ob wb B n D E): ∃es c,w.heap[lb]? = some (.map es c):=by
 obtain⟨F,hF,_⟩:=h.mapL
 exact hF.block
theorem TbI.bO (h:TbI w tb lb ob wb B n D E): ∃es c,w.heap[ob]? = some (.map es c):=h.mapO.block
theorem TbI.bW (h:TbI w tb lb ob wb B n D E): ∃es c,w.heap[wb]? = some (.map es c):=by
 obtain⟨F,hF,_⟩:=h.mapW
 exact hF.block
theorem TbI.keep {S:List Nat} (h:TbI w tb lb ob wb B n D E) (hf:Fr S w w') (hS: ∀j∈B,j∉S):TbI w' tb lb ob wb B n D E:=by
 obtain⟨FL,hL,hL2⟩:=h.mapL
 obtain⟨FW,hW,hW2⟩:=h.mapW
 refine⟨hf.keep h.box (hS _ h.bt),h.bt,h.bl,h.bo,h.bw,h.lo,h.lw,h.ow,fun j hj=>Nat.lt_of_lt_of_le (h.mine j hj) hf.size,⟨FL,hL.keep hf (hS _ h.bl),hL2⟩,h.mapO.keep hf (hS _ h.bo),⟨FW,hW.keep hf (hS _ h.bw),hW2⟩,h.opn,h.few,fun m e hm=> ?_,h.injg,h.injb,h.ab⟩
 obtain⟨h1,h2,h3,h4,h5,h6⟩:=h.ent m e hm
 exact⟨hf.keep h1 (hS _ h2),h2,h3.keepS hf (fun k hk=>hS k (h5 k hk)),h4.keepS hf (fun k hk=>hS k (h6 k hk)),h5,h6⟩
theorem TbI.mono {m:Nat} (h:TbI w tb lb ob wb B n D E) (hn:n<=m):TbI w tb lb ob wb B m D E:=by
 obtain⟨FL,hL,hL2⟩:=h.mapL
 obtain⟨FW,hW,hW2⟩:=h.mapW
 exact⟨h.box,h.bt,h.bl,h.bo,h.bw,h.lo,h.lw,h.ow,h.mine,⟨FL,hL.mono hn,hL2⟩,h.mapO.mono hn,⟨FW,hW.mono hn,hW2⟩,h.opn,h.few,h.ent,h.injg,h.injb,h.ab⟩
theorem TbI.c0 (h:TbI w tb lb ob wb B n D E):w.cell? ⟨tb,0,none⟩=some (.map (some lb)):=by rw[cell_of_row _ _ _ _ _ _ h.box];rfl
theorem TbI.c1 (h:TbI w tb lb ob wb B n D E):w.cell? ⟨tb,1,none⟩=some (.int .i64 D.newest):=by rw[cell_of_row _ _ _ _ _ _ h.box];rfl
theorem TbI.c2 (h:TbI w tb lb ob wb B n D E):w.cell? ⟨tb,2,none⟩=some (.map (some ob)):=by rw[cell_of_row _ _ _ _ _ _ h.box];rfl
theorem TbI.c3 (h:TbI w tb lb ob wb B n D E):w.cell? ⟨tb,3,none⟩=some (.map (some wb)):=by rw[cell_of_row _ _ _ _ _ _ h.box];rfl
theorem TbI.lookL (h:TbI w tb lb ob wb B n D E) (key:ByteArray) (hk:key.size<=maxLen):(Instr.lookup 195 (.map (some lb)) (.string key) false).run Tryz.prog w= .ok (.int .i64 (D.last key)) w:=by
 obtain⟨F,hF,hF2⟩:=h.mapL
 have:=hF.look key hk
 rw[show (kLast.ev ((F key).getD kLast.z0))=Value.int .i64 ((F key).getD 0) from rfl,hF2]at this
 exact this
open Classical in
theorem TbI.lookO (h:TbI w tb lb ob wb B n D E) (m:Int) (hm:i64 m): ∃v,(Instr.lookup 196 (.map (some ob)) (.int .i64 m) true).run Tryz.prog w= .ok (.tuple #[v,.bool (decide (D.op m))]) w:=by
 have:=h.mapO.lookOk m hm
 have e:((E m).map fun e=>some e.g).isSome=decide (D.op m):=by
  rw[Option.isSome_map]
  cases hE:(E m).isSome with
  | true=>simp[(h.opn m).1 hE]
  | false =>
   have: ¬D.op m:=fun ho=>by rw[(h.opn m).2 ho]at hE;cases hE
   simp[this]
 rw[e]at this
 exact⟨_,this⟩
theorem TbI.lookE (h:TbI w tb lb ob wb B n D E) (m:Int) (hm:i64 m) (e:En) (he:E m=some e):(Instr.lookup 196 (.map (some ob)) (.int .i64 m) false).run Tryz.prog w= .ok (.pointer (some ⟨e.g,0,none⟩)) w:=by
 have:=h.mapO.look m hm
 rw[he]at this
 exact this
open Classical in
theorem TbI.lookW (h:TbI w tb lb ob wb B n D E) (a m:Int) (ha:i64 a) (hm:i64 m):(Instr.lookup 197 (.map (some wb)) (.agg #[.int .i64 a,.int .i64 m]) true).run Tryz.prog w= .ok (.tuple #[.agg #[],.bool (decide (D.wt a m))]) w:=by
 obtain⟨F,hF,hF2⟩:=h.mapW
 have:=hF.lookOk (a,m) ⟨ha,hm⟩
 have e:(F (a,m)).isSome=decide (D.wt a m):=by
  cases hE:(F (a,m)).isSome with
  | true=>simp[(hF2 a m).1 hE]
  | false =>
   have: ¬D.wt a m:=fun ho=>by rw[(hF2 a m).2 ho]at hE;cases hE
   simp[this]
 rw[e]at this
 exact this
def Dt.wait (D:Dt) (a m:Int):Dt:={ D with wt:=fun x y=>D.wt x y\/(x=a/\y=m) }
theorem TbI.others (h:TbI w tb lb ob wb B n D E) {S:List Nat} (hf:Fr S w w') (hm: ∀j∈S,∃es c,w.heap[j]? = some (.map es c)) :
  w'.heap[tb]? = some (.cells #[.map (some lb),.int .i64 D.newest,.map (some ob),.map (some wb)] 199 (0,0))/\(∀j∈B,j<w'.heap.size) /\
  ∀m e,E m=some e->w'.heap[e.g]? = some (.cells #[.slice e.a.o e.a.n e.a.c,.slice e.b.o e.b.n e.b.c] 261 (0,0))/\e.g∈B/\IOw 0 w' e.a.o e.a.n e.a.c (D.ah m)/\IOw 0 w' e.b.o e.b.n e.b.c (D.bh m)/\(∀k,e.a.bl=some k->k∈B)/\ ∀k,e.b.bl=some k->k∈B:=by
 refine⟨hf.keep h.box (fun hj=>zar h.box (hm _ hj) rfl),fun j hj=>Nat.lt_of_lt_of_le (h.mine j hj) hf.size,fun m e he=> ?_⟩
 obtain⟨h1,h2,h3,h4,h5,h6⟩:=h.ent m e he
 refine⟨hf.keep h1 (fun hj=>zar h1 (hm _ hj) rfl),h2,h3.keepS hf (fun k hk hj=> ?_),h4.keepS hf (fun k hk hj=> ?_),h5,h6⟩
 ·obtain⟨_,cur,hc⟩:=h3.blk hk
  exact zar hc (hm _ hj) rfl
 ·obtain⟨_,cur,hc⟩:=h4.blk hk
  exact zar hc (hm _ hj) rfl
theorem TbI.storeW (h:TbI w tb lb ob wb B n D E) (a m:Int) (ha:i64 a) (hm:i64 m) (hn:n<maxLen) :
  ∃w',(Instr.mapUpdate 197 (.map (some wb)) (.agg #[.int .i64 a,.int .i64 m]) (.agg #[])).run Tryz.prog w= .ok () w'/\TbI w' tb lb ob wb B (n+1) (D.wait a m) E/\Fr [wb] w w':=by
 obtain⟨FL,hL,hL2⟩:=h.mapL
 obtain⟨FW,hW,hW2⟩:=h.mapW
 obtain⟨w',hrun,hW',hf⟩:=hW.store (a,m) () ⟨ha,hm⟩ hn
 obtain⟨g1,g2,g3⟩:=h.others hf (by simpa using h.bW)
 refine⟨w',hrun,⟨g1,h.bt,h.bl,h.bo,h.bw,h.lo,h.lw,h.ow,g2,⟨FL,(hL.keep hf (by simpa using h.lw)).mono (by omega),hL2⟩,(h.mapO.keep hf (by simpa using h.ow)).mono (by omega),⟨_,hW',fun x y=> ?_⟩,h.opn,h.few,g3,h.injg,h.injb,h.ab⟩,hf⟩
 show _↔D.wt x y\/(x=a/\y=m)
 by_cases e:(x,y)=(a,m)
 ·rw[e,zan]
  simp only[Prod.mk.injEq]at e
  simp[e]
 ·rw[zaj _ _ e,hW2]
  simp only[Prod.mk.injEq]at e
  simp[e]
theorem TbI.dropW (h:TbI w tb lb ob wb B n D E) (a m:Int) (ha:i64 a) (hm:i64 m) (ty:TypeId) :
  ∃w',(Builtin.delete_ #[197,264] ty #[.map (some wb),.agg #[.int .i64 a,.int .i64 m]]).run Tryz.prog w= .ok (.tuple #[]) w'/\TbI w' tb lb ob wb B n { D with wt:=fun x y=>D.wt x y/\ ¬(x=a/\y=m) } E/\Fr [wb] w w':=by
 obtain⟨FL,hL,hL2⟩:=h.mapL
 obtain⟨FW,hW,hW2⟩:=h.mapW
 obtain⟨w',hrun,hW',hf⟩:=hW.drop (a,m) ⟨ha,hm⟩ ty
 obtain⟨g1,g2,g3⟩:=h.others hf (by simpa using h.bW)
 refine⟨w',hrun,⟨g1,h.bt,h.bl,h.bo,h.bw,h.lo,h.lw,h.ow,g2,⟨FL,(hL.keep hf (by simpa using h.lw)),hL2⟩,(h.mapO.keep hf (by simpa using h.ow)),⟨_,hW',fun x y=> ?_⟩,h.opn,h.few,g3,h.injg,h.injb,h.ab⟩,hf⟩
 show _↔D.wt x y/\ ¬(x=a/\y=m)
 by_cases e:(x,y)=(a,m)
 ·rw[e,zan]
  simp only[Prod.mk.injEq]at e
  simp[e]
 ·rw[zaj _ _ e,hW2]
  simp only[Prod.mk.injEq]at e
  simp[e]
open Classical in
noncomputable def Dt.wrote (D:Dt) (key:ByteArray) (x:Int):Dt:={ D with last:=fun k=>if k=key then x else D.last k }
theorem TbI.storeL (h:TbI w tb lb ob wb B n D E) (key:ByteArray) (x:Int) (hk:key.size<=maxLen) (hn:n<maxLen) :
  ∃w',(Instr.mapUpdate 195 (.map (some lb)) (.string key) (.int .i64 x)).run Tryz.prog w= .ok () w'/\TbI w' tb lb ob wb B (n+1) (D.wrote key x) E/\Fr [lb] w w':=by
 obtain⟨FL,hL,hL2⟩:=h.mapL
 obtain⟨FW,hW,hW2⟩:=h.mapW
 obtain⟨w',hrun,hL',hf⟩:=hL.store key x hk hn
 obtain⟨g1,g2,g3⟩:=h.others hf (by simpa using h.bL)
 refine⟨w',hrun,⟨g1,h.bt,h.bl,h.bo,h.bw,h.lo,h.lw,h.ow,g2,⟨_,hL',fun k=> ?_⟩,(h.mapO.keep hf (by simpa using h.lo.symm)).mono (by omega),⟨FW,(hW.keep hf (by simpa using h.lw.symm)).mono (by omega),hW2⟩,h.opn,h.few,g3,h.injg,h.injb,h.ab⟩,hf⟩
 show _=if k=key then x else D.last k
 by_cases e:k=key
 ·rw[e,zan,if_pos rfl];rfl
 ·rw[zaj _ _ e,hL2,if_neg e]
theorem TbI.dropO (h:TbI w tb lb ob wb B n D E) (m:Int) (hm:i64 m) (ty:TypeId) :
  ∃w',(Builtin.delete_ #[196,3] ty #[.map (some ob),.int .i64 m]).run Tryz.prog w= .ok (.tuple #[]) w'/\TbI w' tb lb ob wb B n { D with op:=fun x=>D.op x/\x≠m } (updF E m none)/\Fr [ob] w w':=by
 obtain⟨FL,hL,hL2⟩:=h.mapL
 obtain⟨FW,hW,hW2⟩:=h.mapW
 obtain⟨w',hrun,hO',hf⟩:=h.mapO.drop m hm ty
 obtain⟨g1,g2,g3⟩:=h.others hf (by simpa using h.bO)
 have hE: ∀x e,updF E m none x=some e->E x=some e:=fun x e hx=>by
  by_cases hxm:x=m
  ·rw[hxm,zan]at hx;cases hx
  ·rwa [zaj _ _ hxm]at hx
 refine⟨w',hrun,⟨g1,h.bt,h.bl,h.bo,h.bw,h.lo,h.lw,h.ow,g2,⟨FL,hL.keep hf (by simpa using h.lo),hL2⟩,?_,⟨FW,hW.keep hf (by simpa using h.ow.symm),hW2⟩,fun x=> ?_,h.few,fun x e hx=>g3 x e (hE x e hx),fun x e x' e' hx hx'=>h.injg x e x' e' (hE _ _ hx) (hE _ _ hx'),fun x e x' e' k hx hx'=>h.injb x e x' e' k (hE _ _ hx) (hE _ _ hx'),fun x e x' e' k hx hx'=>h.ab x e x' e' k (hE _ _ hx) (hE _ _ hx')⟩,hf⟩
 ·have e:(fun x=>(updF E m none x).map fun e=>some e.g)=updF (fun m=>(E m).map fun e=>some e.g) m none:=by
   funext x
   by_cases hxm:x=m
   ·rw[hxm,zan,zan];rfl
   ·rw[zaj _ _ hxm,zaj _ _ hxm]
  rw[e]
  exact hO'
 ·show _↔D.op x/\x≠m
  by_cases hxm:x=m
  ·rw[hxm,zan];simp
  ·rw[zaj _ _ hxm,h.opn x];simp[hxm]
theorem zqh {w:World} {b:Nat} {u v x y z:Value} {t:TypeId} (h:w.heap[b]? = some (.cells #[u,v,x,y] t (0,0))):(w.setCell ⟨b,1,none⟩ z).heap[b]? = some (.cells #[u,z,x,y] t (0,0)):=by
 have hlt:=lt_of_block h
 have h':w.heap[b]= .cells #[u,v,x,y] t (0,0):=by simpa[Array.getElem?_eq_getElem hlt]using h
 show (w.heap.modify b _)[b]? = _
 rw[Array.getElem?_eq_getElem (by simpa using hlt),Array.getElem_modify_self,h']
 rfl
theorem TbI.setN (h:TbI w tb lb ob wb B n D E) (x:Int) (hx:0<=x/\x<=65536):TbI (w.setCell ⟨tb,1,none⟩ (.int .i64 x)) tb lb ob wb B n { D with newest:=x } E/\Fr [tb] w (w.setCell ⟨tb,1,none⟩ (.int .i64 x)):=by
 have hf:Fr [tb] w (w.setCell ⟨tb,1,none⟩ (.int .i64 x)):=Fr.set _ _ _ (by simp)
 obtain⟨FL,hL,hL2⟩:=h.mapL
 obtain⟨FW,hW,hW2⟩:=h.mapW
 refine⟨⟨zqh h.box,h.bt,h.bl,h.bo,h.bw,h.lo,h.lw,h.ow,fun j hj=>Nat.lt_of_lt_of_le (h.mine j hj) hf.size,⟨FL,hL.keep hf ?_,hL2⟩,h.mapO.keep hf ?_,⟨FW,hW.keep hf ?_,hW2⟩,h.opn,hx,fun m e he=> ?_,h.injg,h.injb,h.ab⟩,hf⟩
 ·simpa using (zar h.box h.bL).symm
 ·simpa using (zar h.box h.bO).symm
 ·simpa using (zar h.box h.bW).symm
 ·obtain⟨h1,h2,h3,h4,h5,h6⟩:=h.ent m e he
  refine⟨hf.keep h1 (by simpa using zaz h1 h.box (by decide)),h2,h3.keepS hf (fun k hk=> ?_),h4.keepS hf (fun k hk=> ?_),h5,h6⟩
  ·obtain⟨_,cur,hc⟩:=h3.blk hk
   simpa using zaz hc h.box (by decide)
  ·obtain⟨_,cur,hc⟩:=h4.blk hk
   simpa using zaz hc h.box (by decide)
open Classical in
noncomputable def Dt.behind (D:Dt) (m x:Int):Dt:={ D with bh:=fun y=>if y=m then D.bh m++[x] else D.bh y }
theorem TbI.behind (h:TbI w tb lb ob wb B n D E) (m x:Int) (e:En) (he:E m=some e) {w1:World} {o':Option Addr} {c':Nat} (hO:IOw 0 w1 o' (e.b.n+1) c' (D.bh m++[x])) (hf:Fr e.b.bl.toList w w1) (hnew: ∀g,(Value.slice o' (e.b.n+1) c').ownBlock=some g->e.b.bl=some g\/w.heap.size<=g) :
  ∃B',TbI (w1.setCell ⟨e.g,1,none⟩ (.slice o' (e.b.n+1) c')) tb lb ob wb B' n (D.behind m x) (updF E m (some ⟨e.g,e.a,⟨o',e.b.n+1,c'⟩⟩))/\(∀j∈B',j∈B\/w.heap.size<=j)/\Fr B w (w1.setCell ⟨e.g,1,none⟩ (.slice o' (e.b.n+1) c'))/\(∀j∈B,j∈B')/\(w1.cell? ⟨e.g,1,none⟩=some (.slice e.b.o e.b.n e.b.c)/\w1.frozen? ⟨e.g,1,none⟩=false):=by
 obtain⟨FL,hL,hL2⟩:=h.mapL
 obtain⟨FW,hW,hW2⟩:=h.mapW
 obtain⟨h1,h2,h3,h4,h5,h6⟩:=h.ent m e he
 have hbc: ∀k∈e.b.bl.toList,∃cur,w.heap[k]? = some (.cells cur 3 (0,0)):=fun k hk=>(h4.blk (Option.mem_toList.1 hk)).2
 have hnT:tb∉e.b.bl.toList:=fun hk=>by obtain⟨cur,hc⟩:=hbc _ hk;exact zaz hc h.box (by decide) rfl
 have hnm: ∀k,(∃es c,w.heap[k]? = some (.map es c))->k∉e.b.bl.toList:=fun k hm hk=>by obtain⟨cur,hc⟩:=hbc _ hk;exact zar hc hm rfl
 have hng: ∀m' e',E m'=some e'->e'.g∉e.b.bl.toList:=fun m' e' he' hk=>by
  obtain⟨cur,hc⟩:=hbc _ hk
  exact zaz hc (h.ent m' e' he').1 (by decide) rfl
 have hg1:=hf.keep h1 (hng m e he)
 have hset:Fr [e.g] w1 (w1.setCell ⟨e.g,1,none⟩ (.slice o' (e.b.n+1) c')):=Fr.set _ _ _ (by simp)
 have hbox1:=hf.keep h.box hnT
 obtain⟨Bn,hBn⟩: ∃Bn,Bn=(Value.slice o' (e.b.n+1) c').ownBlock.toList:=⟨_,rfl⟩
 have hnewI: ∀k,(Value.slice o' (e.b.n+1) c').ownBlock=some k-> ∃cur,w1.heap[k]? = some (.cells cur 3 (0,0)):=fun k hk=>(hO.blk hk).2
 have key: ∀m' e',E m'=some e'->e'.b.bl.toList≠[]->m'≠m-> ∀k,e'.b.bl=some k->k∉e.b.bl.toList:=fun m' e' he' _ hne k hk hk2=>hne (h.injb m' e' m e k he' he hk (Option.mem_toList.1 hk2))
 refine⟨Bn++B,⟨hset.keep hbox1 (by simpa using zaz hbox1 hg1 (by decide)),by simp[h.bt],by simp[h.bl],by simp[h.bo],by simp[h.bw],h.lo,h.lw,h.ow,?_,⟨FL,(hL.keep hf (hnm _ h.bL)).keep hset ?_,hL2⟩,?_,⟨FW,(hW.keep hf (hnm _ h.bW)).keep hset ?_,hW2⟩,?_,h.few,?_,?_,?_,?_⟩,?_,?_,?_,?_⟩
 ·intro j hj
  rcases List.mem_append.1 hj with hj|hj
  ·rw[hBn]at hj
   obtain⟨cur,hc⟩:=hnewI j (Option.mem_toList.1 hj)
   exact Nat.lt_of_lt_of_le (lt_of_block hc) hset.size
  ·exact Nat.lt_of_lt_of_le (h.mine j hj) (Nat.le_trans hf.size hset.size)
 ·have hb:=(hL.keep hf (hnm _ h.bL)).block
  simpa using (zar hg1 hb).symm
 ·have hb:=(h.mapO.keep hf (hnm _ h.bO)).block
  have e1:(fun y=>(updF E m (some (⟨e.g,e.a,⟨o',e.b.n+1,c'⟩⟩:En)) y).map fun e=>some e.g)=fun m=>(E m).map fun e=>some e.g:=by
   funext y
   by_cases hy:y=m
   ·rw[hy,zan,he];rfl
   ·rw[zaj _ _ hy]
  rw[e1]
  exact (h.mapO.keep hf (hnm _ h.bO)).keep hset (by simpa using (zar hg1 hb).symm)
 ·have hb:=(hW.keep hf (hnm _ h.bW)).block
  simpa using (zar hg1 hb).symm
 ·intro y
  show _↔D.op y
  by_cases hy:y=m
  ·rw[hy,zan,<-h.opn m,he];simp
  ·rw[zaj _ _ hy,h.opn y]
 ·intro y e' hy
  by_cases hym:y=m
  ·subst hym
   rw[zan]at hy
   cases hy
   refine⟨zjk hg1,by simp[h2],(h3.keepS hf (fun k hk hj=>h.ab y e y e k he he (Option.mem_toList.1 hj) hk)).keepS hset (fun k hk=> ?_),?_,fun k hk=>by simp[h5 k hk],fun k hk=> ?_⟩
   ·obtain⟨_,cur,hc⟩:=(h3.keepS hf (fun k hk hj=>h.ab y e y e k he he (Option.mem_toList.1 hj) hk)).blk hk
    simpa using zaz hc hg1 (by decide)
   ·show IOw 0 _ o' (e.b.n+1) c' (if y=y then D.bh y++[x] else D.bh y)
    rw[if_pos rfl]
    refine hO.keepS hset (fun k hk=> ?_)
    obtain⟨cur,hc⟩:=hnewI k hk
    simpa using zaz hc hg1 (by decide)
   ·exact List.mem_append_left _ (by rw[hBn];exact Option.mem_toList.2 hk)
  ·rw[zaj _ _ hym]at hy
   obtain⟨j1,j2,j3,j4,j5,j6⟩:=h.ent y e' hy
   have j3':=j3.keepS hf (fun k hk hj=>h.ab m e y e' k he hy (Option.mem_toList.1 hj) hk)
   have j4':=j4.keepS hf (fun k hk hj=>hym (h.injb y e' m e k hy he hk (Option.mem_toList.1 hj)))
   refine⟨hset.keep (hf.keep j1 (hng y e' hy)) (by simpa using fun e2=>hym (h.injg y e' m e hy he e2)),by simp[j2],j3'.keepS hset (fun k hk=> ?_),?_,fun k hk=>by simp[j5 k hk],fun k hk=>by simp[j6 k hk]⟩
   ·obtain⟨_,cur,hc⟩:=j3'.blk hk
    simpa using zaz hc hg1 (by decide)
   ·show IOw 0 _ _ _ _ (if y=m then D.bh m++[x] else D.bh y)
    rw[if_neg hym]
    refine j4'.keepS hset (fun k hk=> ?_)
    obtain⟨_,cur,hc⟩:=j4'.blk hk
    simpa using zaz hc hg1 (by decide)
 ·intro y e1 y' e2 hy hy'
  by_cases hym:y=m<;>by_cases hym':y'=m
  ·rw[hym,hym'];exact fun _=>rfl
  ·rw[hym,zan]at hy
   rw[zaj _ _ hym']at hy'
   cases hy
   rw[hym]
   exact h.injg m e y' e2 he hy'
  ·rw[hym',zan]at hy'
   rw[zaj _ _ hym]at hy
   cases hy'
   rw[hym']
   exact h.injg y e1 m e hy he
  ·rw[zaj _ _ hym]at hy
   rw[zaj _ _ hym']at hy'
   exact h.injg y e1 y' e2 hy hy'
 ·have lt: ∀y e2 k,E y=some e2->e2.b.bl=some k->k<w.heap.size:=fun y e2 k hy hk=>h.mine k ((h.ent y e2 hy).2.2.2.2.2 k hk)
  intro y e1 y' e2 k hy hy' hk hk'
  by_cases hym:y=m<;>by_cases hym':y'=m
  ·rw[hym,hym']
  ·rw[hym,zan]at hy
   rw[zaj _ _ hym']at hy'
   cases hy
   rcases hnew k hk with h7|h7
   ·rw[hym];exact h.injb m e y' e2 k he hy' h7 hk'
   ·have:=lt y' e2 k hy' hk';omega
  ·rw[hym',zan]at hy'
   rw[zaj _ _ hym]at hy
   cases hy'
   rcases hnew k hk' with h7|h7
   ·rw[hym'];exact h.injb y e1 m e k hy he hk h7
   ·have:=lt y e1 k hy hk;omega
  ·rw[zaj _ _ hym]at hy
   rw[zaj _ _ hym']at hy'
   exact h.injb y e1 y' e2 k hy hy' hk hk'
 ·have lt: ∀y e2 k,E y=some e2->e2.a.bl=some k->k<w.heap.size:=fun y e2 k hy hk=>h.mine k ((h.ent y e2 hy).2.2.2.2.1 k hk)
  have hA: ∀y e2,updF E m (some (⟨e.g,e.a,⟨o',e.b.n+1,c'⟩⟩:En)) y=some e2-> ∃e3,E y=some e3/\e3.a=e2.a:=fun y e2 hy=>by
   by_cases hym:y=m
   ·rw[hym,zan]at hy;cases hy;exact⟨e,by rw[hym];exact he,rfl⟩
   ·rw[zaj _ _ hym]at hy;exact⟨e2,hy,rfl⟩
  intro y e1 y' e2 k hy hy' hk hk'
  obtain⟨e3,he3,ha3⟩:=hA y' e2 hy'
  rw[<-ha3]at hk'
  by_cases hym:y=m
  ·rw[hym,zan]at hy
   cases hy
   rcases hnew k hk with h7|h7
   ·exact h.ab m e y' e3 k he he3 h7 hk'
   ·have:=lt y' e3 k he3 hk';omega
  ·rw[zaj _ _ hym]at hy
   exact h.ab y e1 y' e3 k hy he3 hk hk'
 ·intro j hj
  rcases List.mem_append.1 hj with hj|hj
  ·rw[hBn]at hj
   rcases hnew j (Option.mem_toList.1 hj) with h7|h7
   ·exact Or.inl (h6 j h7)
   ·exact Or.inr h7
  ·exact Or.inl hj
 ·exact hf.trans hset (fun k hk _=>h6 k (Option.mem_toList.1 hk)) (fun k hk _=>by simp at hk;rw[hk];exact h2)
 ·intro j hj;exact List.mem_append_right _ hj
 ·exact⟨by rw[cell_of_row _ _ _ _ _ _ hg1];rfl,by simp[World.frozen?,hg1]⟩
open Classical in
noncomputable def Dt.opened (D:Dt) (m:Int) (xs:List Int):Dt:={ D with op:=fun x=>D.op x\/x=m,ah:=fun x=>if x=m then xs else D.ah x,bh:=fun x=>if x=m then [] else D.bh x }
theorem TbI.storeO (h:TbI w tb lb ob wb B n D E) (m:Int) (hm:i64 m) (hn:n<maxLen) (hE:E m=none) (g:Nat) (r:Rw) (xs:List Int) (hg:w.heap[g]? = some (.cells #[.slice r.o r.n r.c,.slice none 0 0] 261 (0,0))) (hgB:g∉B) (hr:IOw 0 w r.o r.n r.c xs) (hrB: ∀k,r.bl=some k->k∉B) :
  ∃w',(Instr.mapUpdate 196 (.map (some ob)) (.int .i64 m) (.pointer (some ⟨g,0,none⟩))).run Tryz.prog w= .ok () w'/\TbI w' tb lb ob wb (g::(r.bl.toList++B)) (n+1) (D.opened m xs) (updF E m (some ⟨g,r,⟨none,0,0⟩⟩))/\Fr [ob] w w':=by
 obtain⟨FL,hL,hL2⟩:=h.mapL
 obtain⟨FW,hW,hW2⟩:=h.mapW
 obtain⟨w',hrun,hO',hf⟩:=h.mapO.store m (some g) hm hn
 obtain⟨g1,g2,g3⟩:=h.others hf (by simpa using h.bO)
 have hgo:g∉[ob]:=by simpa using zar hg h.bO
 have hro: ∀k,(Value.slice r.o r.n r.c).ownBlock=some k->k∉[ob]:=fun k hk=>by
  obtain⟨_,cur,hc⟩:=hr.blk hk
  simpa using zar hc h.bO
 have gB: ∀y e,E y=some e->e.g≠g:=fun y e hy e2=>hgB (e2▸(h.ent y e hy).2.1)
 refine⟨w',hrun,⟨g1,by simp[h.bt],by simp[h.bl],by simp[h.bo],by simp[h.bw],h.lo,h.lw,h.ow,?_,⟨FL,(hL.keep hf (by simpa using h.lo)).mono (by omega),hL2⟩,?_,⟨FW,(hW.keep hf (by simpa using h.ow.symm)).mono (by omega),hW2⟩,?_,h.few,?_,?_,?_,?_⟩,hf⟩
 ·intro j hj
  rcases List.mem_cons.1 hj with rfl|hj
  ·exact Nat.lt_of_lt_of_le (lt_of_block hg) hf.size
  ·rcases List.mem_append.1 hj with hj|hj
   ·obtain⟨_,cur,hc⟩:=hr.blk (Option.mem_toList.1 hj)
    exact Nat.lt_of_lt_of_le (lt_of_block hc) hf.size
   ·exact g2 j hj
 ·have e:(fun x=>(updF E m (some (⟨g,r,⟨none,0,0⟩⟩:En)) x).map fun e=>some e.g)=updF (fun m=>(E m).map fun e=>some e.g) m (some (some g)):=by
   funext x
   by_cases hxm:x=m
   ·rw[hxm,zan,zan];rfl
   ·rw[zaj _ _ hxm,zaj _ _ hxm]
  rw[e]
  exact hO'
 ·intro x
  show _↔D.op x\/x=m
  by_cases hxm:x=m
  ·rw[hxm,zan];simp
  ·rw[zaj _ _ hxm,h.opn x];simp[hxm]
 ·intro x e hx
  by_cases hxm:x=m
  ·rw[hxm,zan]at hx
   cases hx
   refine⟨hf.keep hg hgo,by simp,?_,?_,fun k hk=>by simp[hk],fun k hk=>by simp[Rw.bl,Value.ownBlock]at hk⟩
   ·show IOw 0 w' r.o r.n r.c (if x=m then xs else D.ah x)
    rw[if_pos hxm]
    exact hr.keepS hf hro
   ·show IOw 0 w' none 0 0 (if x=m then [] else D.bh x)
    rw[if_pos hxm]
    exact IOw.nil _ _
  ·rw[zaj _ _ hxm]at hx
   obtain⟨j1,j2,j3,j4,j5,j6⟩:=g3 x e hx
   refine⟨j1,by simp[j2],?_,?_,fun k hk=>by simp[j5 k hk],fun k hk=>by simp[j6 k hk]⟩
   ·show IOw 0 w' _ _ _ (if x=m then xs else D.ah x)
    rw[if_neg hxm]
    exact j3
   ·show IOw 0 w' _ _ _ (if x=m then [] else D.bh x)
    rw[if_neg hxm]
    exact j4
 ·intro y e1 y' e2 hy hy'
  by_cases hym:y=m<;>by_cases hym':y'=m
  ·rw[hym,hym'];exact fun _=>rfl
  ·rw[hym,zan]at hy
   rw[zaj _ _ hym']at hy'
   cases hy
   exact fun e3=>absurd e3.symm (gB y' e2 hy')
  ·rw[hym',zan]at hy'
   rw[zaj _ _ hym]at hy
   cases hy'
   exact fun e3=>absurd e3 (gB y e1 hy)
  ·rw[zaj _ _ hym]at hy
   rw[zaj _ _ hym']at hy'
   exact h.injg y e1 y' e2 hy hy'
 ·intro y e1 y' e2 k hy hy' hk hk'
  by_cases hym:y=m
  ·rw[hym,zan]at hy
   cases hy
   simp[Rw.bl,Value.ownBlock]at hk
  ·by_cases hym':y'=m
   ·rw[hym',zan]at hy'
    cases hy'
    simp[Rw.bl,Value.ownBlock]at hk'
   ·rw[zaj _ _ hym]at hy
    rw[zaj _ _ hym']at hy'
    exact h.injb y e1 y' e2 k hy hy' hk hk'
 ·intro y e1 y' e2 k hy hy' hk hk'
  by_cases hym:y=m
  ·rw[hym,zan]at hy
   cases hy
   simp[Rw.bl,Value.ownBlock]at hk
  ·rw[zaj _ _ hym]at hy
   by_cases hym':y'=m
   ·rw[hym',zan]at hy'
    cases hy'
    exact hrB k hk' ((h.ent y e1 hy).2.2.2.2.2 k hk)
   ·rw[zaj _ _ hym']at hy'
    exact h.ab y e1 y' e2 k hy hy' hk hk'
end
def Tb (w:World) (tb:Nat) (B:List Nat) (n:Nat) (D:Dt):Prop:= ∃lb ob wb E,TbI w tb lb ob wb B n D E
theorem Tb.keep {S:List Nat} {w w':World} {tb:Nat} {B:List Nat} {n:Nat} {D:Dt} (h:Tb w tb B n D) (hf:Fr S w w') (hS: ∀j∈B,j∉S):Tb w' tb B n D:=by
 obtain⟨lb,ob,wb,E,h⟩:=h
 exact⟨lb,ob,wb,E,h.keep hf hS⟩
theorem Tb.quiet {w w':World} {tb:Nat} {B:List Nat} {n:Nat} {D:Dt} (h:Tb w tb B n D) (hf:Fr [] w w'):Tb w' tb B n D:=h.keep hf (by simp)
theorem Tb.mine {w:World} {tb:Nat} {B:List Nat} {n:Nat} {D:Dt} (h:Tb w tb B n D): ∀j∈B,j<w.heap.size:=by
 obtain⟨lb,ob,wb,E,h⟩:=h
 exact h.mine
theorem Tb.mono {w:World} {tb:Nat} {B:List Nat} {n m:Nat} {D:Dt} (h:Tb w tb B n D) (hn:n<=m):Tb w tb B m D:=by
 obtain⟨lb,ob,wb,E,h⟩:=h
 exact⟨lb,ob,wb,E,h.mono hn⟩
theorem TbI.made (w:World):TbI ((((w.alloc (.map #[] 0)).alloc (.map #[] 0)).alloc (.map #[] 0)).alloc (.cells #[.map (some w.heap.size),.int .i64 0,.map (some (w.heap.size+1)),.map (some (w.heap.size+2))] 199)) (w.heap.size+3) w.heap.size (w.heap.size+1) (w.heap.size+2) [w.heap.size,w.heap.size+1,w.heap.size+2,w.heap.size+3] 0 Dt.none (fun _=>none):=by
 obtain⟨w1,h1⟩: ∃w1,w1=w.alloc (.map #[] 0):=⟨_,rfl⟩
 obtain⟨w2,h2⟩: ∃w2,w2=w1.alloc (.map #[] 0):=⟨_,rfl⟩
 obtain⟨w3,h3⟩: ∃w3,w3=w2.alloc (.map #[] 0):=⟨_,rfl⟩
 rw[<-h1,<-h2,<-h3]
 have s1:w1.heap.size=w.heap.size+1:=by rw[h1];simp
 have s2:w2.heap.size=w.heap.size+2:=by rw[h2];simp;omega
 have s3:w3.heap.size=w.heap.size+3:=by rw[h3];simp;omega
 have m1:MapG kLast w1 w.heap.size 0 (fun _=>none):=by rw[h1];exact MapG.made w
 have m2:MapG zvv w2 (w.heap.size+1) 0 (fun _=>none):=by rw[h2,<-s1];exact MapG.made w1
 have m3:MapG zqe w3 (w.heap.size+2) 0 (fun _=>none):=by rw[h3,<-s2];exact MapG.made w2
 have f2:Fr [] w1 w2:=by rw[h2];exact Fr.alloc _ _ _
 have f3:Fr [] w2 w3:=by rw[h3];exact Fr.alloc _ _ _
 have f4:Fr [] w3 (w3.alloc (.cells #[.map (some w.heap.size),.int .i64 0,.map (some (w.heap.size+1)),.map (some (w.heap.size+2))] 199)):=Fr.alloc _ _ _
 refine⟨?_,by simp,by simp,by simp,by simp,by omega,by omega,by omega,?_,⟨_,((m1.keep f2 (by simp)).keep f3 (by simp)).keep f4 (by simp),fun _=>rfl⟩,(m2.keep f3 (by simp)).keep f4 (by simp),⟨_,m3.keep f4 (by simp),fun a m=> ?_⟩,fun m=> ?_,⟨Int.le_refl _,by decide⟩,fun m e h=>(by cases h),fun m e m' e' h=>(by cases h),fun m e m' e' k h=>(by cases h),fun m e m' e' k h=>(by cases h)⟩
 ·rw[<-s3];exact heap_alloc_new w3 _
 ·intro j hj
  simp at hj
  have:(w3.alloc (.cells #[.map (some w.heap.size),.int .i64 0,.map (some (w.heap.size+1)),.map (some (w.heap.size+2))] 199)).heap.size=w.heap.size+4:=by simp[s3]
  rw[this]
  omega
 ·simp[Dt.none]
 ·simp[Dt.none]
theorem ztb (w:World):Calls Tryz.prog 76 #[] w fun e w'=> ∃tb B,e= .returned (.pointer (some ⟨tb,0,none⟩))/\Tb w' tb B 0 Dt.none/\(∀j∈B,w.heap.size<=j)/\Fr [] w w':=by
 have hmm:= @run_makeMap Tryz.prog
 have HS:Hid _:=TbI.made w
 have HF:Hid (Fr [] w ((((w.alloc (.map #[] 0)).alloc (.map #[] 0)).alloc (.map #[] 0)).alloc (.cells #[.map (some w.heap.size),.int .i64 0,.map (some (w.heap.size+1)),.map (some (w.heap.size+2))] 199))):=((Fr.alloc [] _ _).then (Fr.alloc [] _ _)).then ((Fr.alloc [] _ _).then (Fr.alloc [] _ _))
 go_enter Tryz.func76,Tryz.ntmps76
 go_wp2
 go_ret
 refine⟨w.heap.size+3,_,rfl,⟨_,_,_,_,HS.out⟩,?_,HF.out⟩
 intro j hj
 simp at hj
 omega
theorem zei {tb:Nat} {B:List Nat} {n:Nat} {D:Dt} (w:World) (h:Tb w tb B n D):Calls Tryz.prog 183 #[.pointer (some ⟨tb,0,none⟩)] w fun e w'=>e= .returned (.bool true)/\Fr [] w w':=by
 have qT: ∀(w:World) (r:Option Nat),(binOp .neq 195 (.map r) (.map none)).run Tryz.prog w= .ok (.bool (!r.isNone)) w:=fun w r=>run_neq_map_nil w _ _ _ r Tryz.undLMap
 obtain⟨lb,ob,wb,E,h⟩:=h
 have c0:=h.c0
 go_enter Tryz.func183,Tryz.ntmps183
 go_wp2
 go_ret
 exact⟨rfl,Fr.refl _ _⟩
open Classical in
theorem zdv {tb:Nat} {B:List Nat} {n:Nat} {D:Dt} (m:Int) (b:Bool) (w:World) (h:Tb w tb B n D) (hm:i64 m) (hb:b=true↔D.op m):Calls Tryz.prog 186 #[.pointer (some ⟨tb,0,none⟩),.int .i64 m] w fun e w'=>e= .returned (.bool b)/\Fr [] w w':=by
 obtain⟨lb,ob,wb,E,h⟩:=h
 have c2:=h.c2
 obtain⟨v,hl⟩:=h.lookO m hm
 have e:decide (D.op m)=b:=by
  cases b with
  | true=>simpa using hb.1 rfl
  | false =>
   have: ¬D.op m:=fun ho=>by have:=hb.2 ho;cases this
   simpa using this
 rw[e]at hl
 clear h hb e
 go_enter Tryz.func186,Tryz.ntmps186
 go_wp2
 go_ret
 exact⟨rfl,Fr.refl _ _⟩
structure AwT (D:Dt) (m:Int) (ys:List Int):Prop where
 sub: ∃p:Int->Bool,ys=(D.ah m).filter p/\ ∀x,p x=true↔D.wt m x
theorem zco (xs:List Int) (p:Int->Bool) (i:Nat) (hi:i<xs.length):(xs.take (i+1)).filter p=if p (xs.getD i 0)=true then (xs.take i).filter p++[xs.getD i 0] else (xs.take i).filter p:=by
 rw[List.take_add_one,List.filter_append]
 have e:xs[i]?.toList=[xs.getD i 0]:=by simp[List.getD,hi]
 rw[e]
 generalize xs.getD i 0=y
 by_cases hp:p y=true
 ·simp[hp]
 ·simp[hp]
theorem zdn (xs:List Int) (i:Nat) (h:i<xs.length):xs.getD i 0∈xs:=by simp[List.getD,h]
set_option maxHeartbeats 4000000 in
set_option maxRecDepth 100000 in
theorem zff {tb:Nat} {B:List Nat} {n:Nat} {D:Dt} (m:Int) (w:World) (h:Tb w tb B n D) (hm:D.op m) (hmi:i64 m) (hx: ∀x∈D.ah m,i64 x) (hfew:(D.ah m).length<1099511627776) :
  Calls Tryz.prog 176 #[.pointer (some ⟨tb,0,none⟩),.int .i64 m] w fun e w'=> ∃so N c ys,e= .returned (.slice so N c)/\IOw w.heap.size w' so N c ys/\AwT D m ys/\Fr [] w w':=by
 classical
 obtain⟨lb,ob,wb,E,h⟩:=h
 obtain⟨p,hp⟩: ∃p:Int->Bool,∀x,p x=decide (D.wt m x):=⟨fun x=>decide (D.wt m x),fun _=>rfl⟩
 have c2:=h.c2
 obtain⟨e0,he0⟩: ∃e0,E m=some e0:=Option.isSome_iff_exists.1 ((h.opn m).2 hm)
 have hl:=h.lookE m hmi e0 he0
 obtain⟨h1,h2,h3,h4,h5,h6⟩:=h.ent m e0 he0
 obtain⟨eg,⟨ao,A,ac⟩,eb⟩:=e0
 simp only at *
 have ca:w.cell? ⟨eg,0,none⟩=some (.slice ao A ac):=by rw[cell_of_row _ _ _ _ _ _ h1];rfl
 have HK:Hid (∀W,Fr [] w W->W.cell? ⟨tb,3,none⟩=some (.map (some wb))/\(∀x,i64 x->(Instr.lookup 197 (.map (some wb)) (.agg #[.int .i64 m,.int .i64 x]) true).run Tryz.prog W= .ok (.tuple #[.agg #[],.bool (p x)]) W)):=fun W hf=>by
  have hk:=h.keep hf (by simp)
  refine⟨hk.c3,fun x hx=> ?_⟩
  rw[hp x]
  exact hk.lookW m x hmi hx
 have HP:Hid (∀x,p x=true↔D.wt m x):=fun x=>by rw[hp];simp
 obtain⟨xs,hxs⟩: ∃xs,xs=D.ah m:=⟨_,rfl⟩
 have HX:Hid (xs=D.ah m):=hxs
 rw[<-hxs]at hx hfew h3
 have HA:Hid (A=xs.length):=h3.len
 have HXi:Hid (∀x∈xs,i64 x):=hx
 have hAf:A<1099511627776:=by rw[HA.out];exact hfew
 have HR:Hid (0<A-> ∃g,ao=some ⟨g,0,none⟩/\ ∀W,Fr [] w W-> ∀i,i<A->W.cell? ⟨g,i,none⟩=some (.int .i64 (xs.getD i 0))):=fun h0=>by
  obtain⟨g,hg,_,hlt,hc⟩:=h3.cells h0
  exact⟨g,hg,fun W hf i hi=>(World.cell?_of_block (hf.block g hlt (by simp))).trans (hc i hi)⟩
 clear h hp hxs hx hfew h1 h2 h3 h4 h5 h6 he0 hm hmi
 go_enter Tryz.func176,Tryz.ntmps176
 go_wp2_with fail
 go_loopw [5,20] (fun ll ii wr=> ∃(i:Nat) (so:Option Addr) (N c:Nat),ii= .int .i64 i/\i<=A/\ll= .slice so N c/\Hid (IOw w.heap.size wr so N c ((xs.take i).filter p))/\N<=i/\Fr [] w wr) (fun _ ii _=>A-(RowKit.intOf ii).toNat)
 case atStart=>exact⟨0,none,0,0,rfl,Nat.zero_le _,rfl,IOw.nil _ _,Nat.le_refl _,Fr.refl _ _⟩
 case round =>
  obtain⟨i,so,N,c,rfl,hiA,rfl,HO,hNi,hF⟩:=hrel
  by_cases hi:i<A
  ·obtain⟨g,rfl,hcells⟩:=HR.out (by omega)
   have hc:=hcells wr hF i hi
   obtain⟨x,hxe⟩: ∃x,x=xs.getD i 0:=⟨_,rfl⟩
   rw[<-hxe]at hc
   have hxi:i64 x:=by rw[hxe];exact HXi.out _ (zdn xs i (by rw[<-HA.out];exact hi))
   obtain⟨hc3,hlw⟩:=HK.out wr hF
   have hlv:=hlw x hxi
   have HS:=zco xs p i (by rw[<-HA.out];exact hi)
   rw[<-hxe]at HS
   have HS:Hid ((xs.take (i+1)).filter p=_):=HS
   have HXE:Hid (x=xs.getD i 0):=hxe
   clear hxe hlw hcells
   obtain⟨q,hq⟩: ∃q,p x=q:=⟨_,rfl⟩
   rw[hq]at hlv
   have HQ:Hid (p x=q):=hq
   clear hq
   cases q with
   | true =>
    rw[HQ.out,if_pos rfl]at HS
    have HO2:Hid (∀W,Fr [] wr W->IOw w.heap.size W so N c ((xs.take i).filter p)):=fun W hf=>HO.out.keep hf
    have HB:Hid (∀W W',Fr [] wr W->Fr (Value.slice so N c).ownBlock.toList W W'->Fr [] w W'):=fun W W' h1 h2=>HO.out.on (Nat.le_refl _) hF h1 h2
    clear HO
    go_wp2_with (first
     | (
      at_builtin;refine zat w.heap.size _ rfl _ _ rfl so N c _ rfl (HO2.out _ ((Fr.alloc [] _ _).then (Fr.alloc [] _ _))) _ _ x rfl ?hcell (by omega) ?hsize ?_
      case hcell=>exact zqg _ _ _ _
      case hsize=>have:=hF.size;simp;omega
      intro o' c' w3 hO3 hF3 _
      have HR3:Hid (_/\_):=⟨hO3,HB.out _ _ ((Fr.alloc [] _ _).then (Fr.alloc [] _ _)) hF3⟩
      clear hO3 hF3
      go_frame)
     | fail)
    go_roundw
    case rel=>exact⟨i+1,o',N+1,c',rfl,by omega,rfl,(by rw[HS.out];exact HR3.out.1),by omega,HR3.out.2⟩
    case measure=>simp[RowKit.intOf];omega
   | false =>
    rw[HQ.out,if_neg (by simp)]at HS
    have HN:Hid (IOw w.heap.size wr so N c ((xs.take (i+1)).filter p)):=by rw[HS.out];exact HO.out
    clear HO HS
    go_wp2_with fail
    go_roundw
    case rel=>exact⟨i+1,so,N,c,rfl,by omega,rfl,HN.out.keep (Fr.alloc [] _ _),by omega,hF.then (Fr.alloc [] _ _)⟩
    case measure=>simp[RowKit.intOf];omega
  ·obtain rfl:i=A:=by omega
   go_wp2
   go_ret
   refine⟨so,N,c,_,rfl,HO.out,⟨p,?_,HP.out⟩,hF⟩
   rw[List.take_of_length_le (by rw[<-HA.out];exact Nat.le_refl _),HX.out]
end Go.Proofs.YtaaghcimfcjehaaGreatDoor
namespace Go.Proofs
open Go.RowKit Go.Maps Go.Sort Go.Shelf
shelf_lay_g SlLaysM.n5 Slgm 5 at Tryz 200 as Tryz.sortA
shelf_lay Lays2.n20 Nm2 20 at Tryz as Tryz.compactA
end Go.Proofs
namespace Go.Proofs.YtaaghcimfcjehaaGreatDoor
open Go.ChangeShapes Go.WideShapes Go.ChangeAt Go.RowKit Go.Lib Go.Maps Go.Sort Go.Shelf
structure Good (D:Dt):Prop where
 op: ∀m,D.op m->1<=m/\m<=65536
 ah: ∀m,D.op m->(D.ah m).length<=65536/\ ∀x∈D.ah m,1<=x/\x<=65536
 bh: ∀m,D.op m->(D.bh m).length<=65536/\ ∀x∈D.bh m,1<=x/\x<=65536
 last: ∀k,i64 (D.last k)
theorem Inv.good {D:Dt} {L:Lg} {en:Int->Prop} (h:Inv D L en) (hn:D.newest<=65536):Good D:=by
 have h1: ∀m,D.op m->1<=m/\m<=65536:=fun m hm=>by
  obtain⟨⟨p,hp,e⟩,_⟩:=(h.op m).1 hm
  have:=h.ris.pos p hp
  have:=h.new.1 p hp
  omega
 refine⟨h1,fun m hm=> ?_,fun m hm=> ?_,fun k=> ?_⟩
 ·have hx: ∀x∈D.ah m,1<=x/\x<=65536:=fun x hx=>by
   have:=((h.ah m hm).2.1 x hx).lt h.ris
   have:=h1 m hm
   omega
  exact⟨(h.ah m hm).1.few (a:=1) (n:=65536) (fun x hx'=>by have:=hx x hx';omega),hx⟩
 ·have hx: ∀x∈D.bh m,1<=x/\x<=65536:=fun x hx=>h1 x (((h.bh m hm).2 x).1 hx).1
  exact⟨(h.bh m hm).1.few (a:=1) (n:=65536) (fun x hx'=>by have:=hx x hx';omega),hx⟩
 ·rw[h.last]
  by_cases h0:lst L k=0
  ·rw[h0];exact⟨by omega,by omega⟩
  ·obtain⟨ks,h2,_⟩:=zcs L k h.ris h0
   have:=h.ris.pos _ h2
   have:=h.new.1 _ h2
   simp only at *
   exact⟨by omega,by omega⟩
theorem i64.of {x:Int} (h:1<=x/\x<=65536):i64 x:=⟨by omega,by omega⟩
theorem zha {tb:Nat} {B:List Nat} {n:Nat} {D:Dt} (m:Int) (w:World) (h:Tb w tb B n D) (G:Good D) (hm:D.op m) :
  Calls Tryz.prog 175 #[.pointer (some ⟨tb,0,none⟩),.int .i64 m] w fun e w'=> ∃so N c ys,e= .returned (.tuple #[.slice so N c,.int .i64 0])/\IOw w.heap.size w' so N c ys/\AwT D m ys/\Fr [] w w':=by
 have HT:Hid (Calls _ _ _ _ _):=zei w h
 have HK:Hid (∀W,Fr [] w W->Tb W tb B n D):=fun W hf=>h.quiet hf
 have HM:Hid (D.op m):=hm
 have hmi:i64 m:= .of (G.op m hm)
 have HG:Hid (Good D):=G
 clear h hm G
 go_enter Tryz.func175,Tryz.ntmps175
 go_wp2_with fail
 refine Calls.mono HT.out ?_
 rintro e w1 ⟨rfl,hF1⟩
 go_wp2_with fail
 refine (zdv m true _ (HK.out _ hF1) hmi ⟨fun _=>HM.out,fun _=>rfl⟩).mono ?_
 rintro e w2 ⟨rfl,hF2⟩
 have hG2:=hF1.then hF2
 go_wp2_with fail
 refine (zff m _ (HK.out _ hG2) HM.out hmi (fun x hx=> .of ((HG.out.ah m HM.out).2 x hx)) (by have:=(HG.out.ah m HM.out).1;omega)).mono ?_
 rintro e w3 ⟨so,N,c,ys,rfl,hO,hA,hF3⟩
 have HR:Hid (_/\_/\_):=⟨hO.low hG2.size,hA,hG2.then hF3⟩
 clear hO hA
 go_wp2
 refine bodyPost_ret (results_tmp2 rfl _ _ _) rfl ?_
 exact⟨so,N,c,ys,rfl,HR.out⟩
theorem zqi {tb:Nat} {B:List Nat} {n:Nat} {D:Dt} (m:Int) (w:World) (h:Tb w tb B n D) (hmi:i64 m) (hm: ¬D.op m) :
  Calls Tryz.prog 175 #[.pointer (some ⟨tb,0,none⟩),.int .i64 m] w fun e w'=>e= .returned (.tuple #[.slice none 0 0,.int .i64 1])/\Fr [] w w':=by
 have HT:Hid (Calls _ _ _ _ _):=zei w h
 have HK:Hid (∀W,Fr [] w W->Tb W tb B n D):=fun W hf=>h.quiet hf
 have HM:Hid (¬D.op m):=hm
 clear h hm
 go_enter Tryz.func175,Tryz.ntmps175
 go_wp2_with fail
 refine Calls.mono HT.out ?_
 rintro e w1 ⟨rfl,hF1⟩
 go_wp2_with fail
 refine (zdv m false _ (HK.out _ hF1) hmi ⟨fun h=>(by cases h),fun h=>absurd h HM.out⟩).mono ?_
 rintro e w2 ⟨rfl,hF2⟩
 have hG2:=hF1.then hF2
 go_wp2
 refine bodyPost_ret (results_tmp2 rfl _ _ _) rfl ?_
 exact⟨rfl,hG2⟩
theorem ztc (zs:List Int):(zs.mergeSort fun x y=>decide (x<=y)).Pairwise (fun x y=>x<=y):=by
 have tr: ∀a b c:Int,(fun x y:Int=>decide (x<=y)) a b=true->(fun x y:Int=>decide (x<=y)) b c=true->(fun x y:Int=>decide (x<=y)) a c=true:=fun a b c h1 h2=>by simp only[decide_eq_true_eq]at *;omega
 have tq: ∀a b:Int,((fun x y:Int=>decide (x<=y)) a b||(fun x y:Int=>decide (x<=y)) b a)=true:=fun a b=>by simp only[Bool.or_eq_true,decide_eq_true_eq];omega
 exact (List.pairwise_mergeSort tr tq zs).imp fun h=>by simpa using h
theorem zqk (base:Nat) (so:Option Addr) (N c:Nat) (zs:List Int) (w:World) (h:IOw base w so N c zs) (hN:N<1099511627776) :
  Calls Tryz.prog 200 #[.slice so N c] w fun e w'=>e= .returned (.tuple #[])/\IOw base w' so N c (zs.mergeSort fun x y=>decide (x<=y))/\Fr (Value.slice so N c).ownBlock.toList w w':=by
 obtain⟨hlen,hrow⟩:=h
 rcases hrow.2 with ⟨hv,h0⟩|⟨g,cap,cur,hv,hbase,hb,h1,h2,h3,h4⟩
 ·cases hv
  obtain rfl:zs=[]:=List.eq_nil_of_length_eq_zero (by omega)
  have hcon:=AnyM.slices_Sort_int_none Tryz.sortA none 0 w
  change Calls Tryz.prog 200 _ _ _ at hcon
  refine hcon.mono ?_
  rintro e w' ⟨rfl,rfl⟩
  exact⟨rfl,⟨by simp,by simpa using hrow⟩,Fr.refl _ _⟩
 ·cases hv
  have ht:cur.toList.take zs.length=zs.map (Value.int .i64):=by
   rw[<-hlen]
   simpa[ints]using h4
  have hcon:=AnyM.slices_Sort_int Tryz.sortA g 0 c zs w (holds_of_blockI hb ht) (lt_of_block hb) (by omega)
  change Calls Tryz.prog 200 _ _ _ at hcon
  rw[<-hlen]at hcon
  refine hcon.mono ?_
  rintro e w' ⟨rfl,n,os,rfl⟩
  have hl2:(zs.mergeSort fun x y=>decide (x<=y)).length=zs.length:=List.length_mergeSort _
  have hso:=ownsRow_sortedI (n:=n) (os:=os) (base:=base) (cap:=c) (e:=3) (ss:=zs) (ts:=zs.mergeSort fun x y=>decide (x<=y)) hl2 hbase hb (by omega) h2 (by simpa using h3)
  rw[<-hlen]at hso
  exact⟨rfl,⟨by rw[hl2];exact hlen,hso⟩,Fr.grown (grownBy_sortedI _) (fun k hk _=>by simpa[Value.ownBlock]using hk.symm)⟩
theorem znf (zs:List Int) (h:zs.Pairwise fun x y=>x<=y):Ris (Lib.compact zs)/\ ∀x,x∈Lib.compact zs↔x∈zs:=by
 have hg: ∀m,m<zs.length->zs.toArray[m]! = zs.getD m 0:=fun m hm=>by simp[List.getD,hm]
 have hle: ∀i j,i<j->j<zs.length->zs.getD i 0<=zs.getD j 0:=fun i j hij hj=>by
  have:=List.pairwise_iff_getElem.1 h i j (by omega) hj hij
  simpa[List.getD,hj,show i<zs.length by omega]using this
 have key: ∀m,m<=zs.length->Ris (Lib.compactUpTo zs.toArray m)/\ ∀x,x∈Lib.compactUpTo zs.toArray m↔ ∃j,j<m/\zs.getD j 0=x:=by
  intro m
  induction m with
  | zero=>intro _;exact⟨by simp[Lib.compactUpTo,Ris],fun x=>by simp[Lib.compactUpTo]⟩
  | succ m ih =>
   intro hm
   obtain⟨h1,h2⟩:=ih (by omega)
   rw[Lib.compactUpTo_succ]
   by_cases hk:Lib.keeps zs.toArray m=true
   ·rw[if_pos hk,hg m (by omega)]
    refine⟨h1.snoc (fun x hx=> ?_),fun x=> ?_⟩
    ·obtain⟨j,hj,rfl⟩:=(h2 x).1 hx
     have hne:zs.getD m 0≠zs.getD (m-1) 0:=fun e=>by
      have:=Lib.keeps_neg (d:=zs.toArray) (m:=m) (by omega) (by rw[hg m (by omega),hg (m-1) (by omega)];exact e)
      rw[this]at hk
      cases hk
     have e1:=hle (m-1) m (by omega) (by omega)
     by_cases hj2:j=m-1
     ·rw[hj2];omega
     ·have:=hle j (m-1) (by omega) (by omega)
      omega
    ·rw[List.mem_append,h2 x]
     simp only[List.mem_singleton]
     constructor
     ·rintro (⟨j,hj,e⟩|e)
      ·exact⟨j,by omega,e⟩
      ·exact⟨m,by omega,e.symm⟩
     ·rintro⟨j,hj,e⟩
      by_cases hjm:j=m
      ·subst hjm;exact Or.inr e.symm
      ·exact Or.inl ⟨j,by omega,e⟩
   ·rw[if_neg hk,List.append_nil]
    refine⟨h1,fun x=> ?_⟩
    rw[h2 x]
    constructor
    ·rintro⟨j,hj,e⟩;exact⟨j,by omega,e⟩
    ·rintro⟨j,hj,e⟩
     by_cases hjm:j=m
     ·subst hjm
      have h0:0<j:=by
       rcases Nat.eq_zero_or_pos j with h0|h0
       ·subst h0;exact absurd (by simp[Lib.keeps]) hk
       ·exact h0
      refine⟨j-1,by omega,?_⟩
      rw[<-e,<-hg j (by omega),<-hg (j-1) (by omega)]
      exact Classical.byContradiction fun hne=>hk (Lib.keeps_pos (fun e2=>hne e2.symm))
     ·exact⟨j,by omega,e⟩
 obtain⟨h1,h2⟩:=key zs.length (Nat.le_refl _)
 refine⟨h1,fun x=> ?_⟩
 rw[show Lib.compact zs=Lib.compactUpTo zs.toArray zs.length from rfl,h2 x,List.mem_iff_getElem]
 constructor
 ·rintro⟨j,hj,e⟩;exact⟨j,hj,by simpa[List.getD,hj]using e⟩
 ·rintro⟨j,hj,e⟩;exact⟨j,hj,by simpa[List.getD,hj]using e⟩
theorem zjn (base:Nat) (so:Option Addr) (N c:Nat) (zs:List Int) (w:World) (h:IOw base w so N c zs) (hN:N<1099511627776) (hle:(Lib.compact zs).length<=N) :
  Calls Tryz.prog 201 #[.slice so N c] w fun e w'=> ∃N',e= .returned (.slice so N' c)/\N'<=N/\IOw base w' so N' c (Lib.compact zs)/\Fr (Value.slice so N c).ownBlock.toList w w':=by
 have hcap:=h.cap
 obtain⟨hlen,hrow⟩:=h
 rcases hrow.2 with ⟨hv,h0⟩|⟨g,cap,cur,hv,hbase,hb,h1,h2,h3,h4⟩
 ·cases hv
  obtain rfl:zs=[]:=List.eq_nil_of_length_eq_zero (by omega)
  have hcon:=Any.slices_Compact_int_empty Tryz.compactA none 0 w
  change Calls Tryz.prog 201 _ _ _ at hcon
  refine hcon.mono ?_
  rintro e w' ⟨rfl,rfl⟩
  exact⟨0,rfl,Nat.le_refl _,⟨rfl,hrow⟩,Fr.refl _ _⟩
 ·cases hv
  have ht:cur.toList.take zs.length=zs.map (Value.int .i64):=by
   rw[<-hlen]
   simpa[ints]using h4
  have hcon:=Any.slices_Compact_int Tryz.compactA g 0 c zs w (holds_of_blockI hb ht) (by omega) (by omega)
  change Calls Tryz.prog 201 _ _ _ at hcon
  rw[<-hlen]at hcon
  refine hcon.mono ?_
  rintro e w' ⟨rfl,q,rfl⟩
  have hcs:cur.size=c:=by simpa using h3
  have hlL:(Lib.compact zs++List.replicate (N-(Lib.compact zs).length) 0).length=N:=by simp;omega
  refine⟨_,rfl,hle,⟨rfl,by simp[ints],.inr ⟨g,c,putCells (Value.int .i64) 0 (Lib.compact zs++List.replicate (N-(Lib.compact zs).length) 0).toArray cur,rfl,hbase,?_,by omega,h2,by simp[putCells,hcs],?_⟩⟩,?_⟩
  ·have:=heap_sortedI (w:=w) (g:=g) (n:=q) (os:= #[]) (cur:=cur) (e:=3) (fr:=(0,0)) (Lib.compact zs++List.replicate (N-(Lib.compact zs).length) 0).toArray hb
   rw[grow_empty]at this
   exact this
  ·have:=take_putCellsI cur (Lib.compact zs++List.replicate (N-(Lib.compact zs).length) 0) (by rw[hlL];omega)
   rw[hlL]at this
   have h6:=congrArg (List.take (Lib.compact zs).length) this
   rw[List.take_take,Nat.min_eq_left hle]at h6
   rw[Nat.mul_one,h6]
   simp[ints]
  ·have:=grownBy_sortedI (w:=w) (g:=g) (n:=q) (os:= #[]) (Lib.compact zs++List.replicate (N-(Lib.compact zs).length) 0).toArray
   rw[grow_empty]at this
   exact Fr.grown this (fun k hk _=>by simpa[Value.ownBlock]using hk.symm)
theorem zlf (zs:List Int):(Lib.compact zs).length<=zs.length:=by
 unfold Lib.compact Lib.compactUpTo
 rw[List.length_map]
 exact Nat.le_trans (List.length_filter_le _ _) (by simp)
def zah (ws:List Wt):List ByteArray:=ws.map (·.key)
theorem zgc (ws:List Wt) (i:Nat) (h:i<ws.length):ws.getD i Wt.zero∈ws:=by simp[List.getD,h]
set_option maxHeartbeats 4000000 in
set_option maxRecDepth 100000 in
theorem zjo {tb:Nat} {B:List Nat} {n:Nat} {D:Dt} (wo:Option Addr) (M mc:Nat) (ws:List Wt) (w:World) (h:Tb w tb B n D) (hW:WRs w wo ws) (hM:M=ws.length) (hMf:M<=65536) (hl: ∀k,i64 (D.last k)) :
  Calls Tryz.prog 184 #[.pointer (some ⟨tb,0,none⟩),.slice wo M mc] w fun e w'=> ∃so N c xs,e= .returned (.slice so N c)/\IOw w.heap.size w' so N c xs/\AhT D (zah ws) xs/\N<=M/\Fr [] w w':=by
 classical
 obtain⟨p,hp⟩: ∃p:Int->Bool,∀x,p x=decide (D.op x):=⟨fun x=>decide (D.op x),fun _=>rfl⟩
 obtain⟨zs,hzs⟩: ∃zs,zs=ws.map (fun x=>D.last x.key):=⟨_,rfl⟩
 have HP:Hid (∀x,p x=true↔D.op x):=fun x=>by rw[hp];simp
 have HZ:Hid (zs=ws.map (fun x=>D.last x.key)):=hzs
 have HM:Hid (M=ws.length):=hM
 have HL:Hid (∀k,i64 (D.last k)):=hl
 have HK:Hid (∀W,Fr [] w W->Tb W tb B n D):=fun W hf=>h.quiet hf
 have HW:Hid (∀W,Fr [] w W->WRs W wo ws):=fun W hf=>hW.keep hf
 clear h hp hzs hM hl hW
 go_enter Tryz.func184,Tryz.ntmps184
 go_wp2_with fail
 go_loopw [5,11] (fun ll ii wr=> ∃(i:Nat) (so:Option Addr) (N c:Nat),ii= .int .i64 i/\i<=M/\ll= .slice so N c/\Hid (IOw w.heap.size wr so N c ((zs.take i).filter p))/\N<=i/\Fr [] w wr) (fun _ ii _=>M-(RowKit.intOf ii).toNat)
 case atStart=>exact⟨0,none,0,0,rfl,Nat.zero_le _,rfl,IOw.nil _ _,Nat.le_refl _,Fr.refl _ _⟩
 case round =>
  obtain⟨i,so,N,c,rfl,hiM,rfl,HO,hNi,hF⟩:=hrel
  by_cases hi:i<M
  ·have hi':i<ws.length:=by rw[<-HM.out];exact hi
   obtain⟨b2,o2,e2,_,hc2⟩:=(HW.out _ hF).lies (by omega)
   obtain⟨d0,d1,d2⟩:=hc2 i hi'
   have hm:=zgc ws i hi'
   have hkz:=((HW.out _ hF).each _ hm).1
   obtain⟨y,hyy⟩: ∃y,y=ws.getD i Wt.zero:=⟨_,rfl⟩
   rw[<-hyy]at d0 d1 d2 hkz
   have hzy:zs.getD i 0=D.last y.key:=by rw[HZ.out,hyy];simp[List.getD,hi']
   have HS:=zco zs p i (by rw[HZ.out];simpa using hi')
   rw[hzy]at HS
   obtain⟨key,val,drop⟩:=y
   simp only at d0 d1 d2 hkz hzy HS
   obtain⟨x,hx⟩: ∃x,D.last key=x:=⟨_,rfl⟩
   rw[hx]at HS
   have hxi:i64 x:=by rw[<-hx];exact HL.out key
   have HS:Hid ((zs.take (i+1)).filter p=_):=HS
   obtain⟨lb,ob,wb,E,hT⟩:=HK.out _ hF
   have HT:Hid (∀W,Fr [] wr W->TbI W tb lb ob wb B n D E):=fun W hf=>hT.keep hf (by simp)
   clear hyy hc2 hm hzy hT
   subst e2
   obtain⟨w1,HW1⟩: ∃w1,Hid (wr.alloc (.cells #[.string key,.string val,.bool drop] 92)=w1):=⟨_,rfl⟩
   have hF1:Fr [] wr w1:=by rw[<-HW1.out];exact Fr.alloc _ _ _
   have hT1:=HT.out _ hF1
   have t0:=hT1.c0
   have tl: ∀q,(Instr.lookup 195 (.map (some lb)) (.string key) false).run Tryz.prog (w1.drewN q)= .ok (.int .i64 x) (w1.drewN q):=fun q=>by
    have:=(hT1.keep (Fr.drewN [] w1 q) (by simp)).lookL key (by unfold maxLen;omega)
    rwa [hx]at this
   have hb1:w1.heap[wr.heap.size]? = some (.cells #[.string key,.string val,.bool drop] 92 (0,0)):=by rw[<-HW1.out];exact heap_alloc_new _ _
   have k0:w1.cell? ⟨wr.heap.size,0,none⟩=some (.string key):=by rw[cell_of_row _ _ _ _ _ _ hb1];rfl
   have HX:Hid (D.last key=x):=hx
   have HB:Hid (∀W W',Fr [] wr W->Fr (Value.slice so N c).ownBlock.toList W W'->Fr [] w W'):=fun W W' h1 h2=>HO.out.on (Nat.le_refl _) hF h1 h2
   have HO2:Hid (∀W,Fr [] wr W->IOw w.heap.size W so N c ((zs.take i).filter p)):=fun W hf=>HO.out.keep hf
   clear hT1 hx hb1 HO
   go_upto_region 5 with fail
   rw[HW1.out]
   go_quiet (fail)
   obtain⟨w2,HW2⟩: ∃w2,Hid (w1.drewN nq=w2):=⟨_,rfl⟩
   rw[HW2.out]
   have hF2:Fr [] wr w2:=by rw[<-HW2.out];exact hF1.then (Fr.drewN _ _ _)
   clear HW2 HW1 hF1 t0 tl k0
   obtain⟨q,hq⟩: ∃q,p x=q:=⟨_,rfl⟩
   have HQ:Hid (p x=q):=hq
   rw[hq]at HS
   clear hq
   have HIs:Hid (Calls _ _ _ _ _):=zdv x q w2 (HK.out _ (hF.then hF2)) hxi (by rw[<-HQ.out];exact HP.out x)
   cases q with
   | true =>
    rw[if_pos rfl]at HS
    go_wp2_with fail
    refine Calls.mono HIs.out ?_
    rintro e w3 ⟨rfl,hF3⟩
    have hG3:=hF2.then hF3
    clear HIs hF2 hF3 d0 d1 d2
    go_wp2_with (first
     | (
      at_builtin;refine zat w.heap.size _ rfl _ _ rfl so N c _ rfl (HO2.out _ (hG3.then (Fr.alloc [] _ _))) _ _ x rfl ?hcell (by omega) ?hsize ?_
      case hcell=>exact zaw _ _ _
      case hsize=>have:=hF.size;have:=hG3.size;simp;omega
      intro o' c' w4 hO3 hF3 _
      have HR3:Hid (_/\_):=⟨hO3,HB.out _ _ (hG3.then (Fr.alloc [] _ _)) hF3⟩
      clear hO3 hF3
      go_frame)
     | fail)
    go_roundw
    case rel=>exact⟨i+1,o',N+1,c',rfl,by omega,rfl,(by rw[HS.out];exact HR3.out.1),by omega,HR3.out.2⟩
    case measure=>simp[RowKit.intOf];omega
   | false =>
    rw[if_neg (by simp)]at HS
    go_wp2_with fail
    refine Calls.mono HIs.out ?_
    rintro e w3 ⟨rfl,hF3⟩
    have hG3:=hF2.then hF3
    have HR3:Hid (_/\_):=⟨HO2.out _ hG3,hF.then hG3⟩
    rw[<-HS.out]at HR3
    clear HIs hF2 hF3 d0 d1 d2
    go_wp2_with fail
    go_roundw
    case rel=>exact⟨i+1,so,N,c,rfl,by omega,rfl,HR3.out.1,by omega,HR3.out.2⟩
    case measure=>simp[RowKit.intOf];omega
  ·obtain rfl:i=M:=by omega
   rw[List.take_of_length_le (by rw[HZ.out,List.length_map,<-HM.out];exact Nat.le_refl _)]at HO
   have HSo:Hid (Calls _ _ _ _ _):=zqk w.heap.size so N c _ wr HO.out (by omega)
   have HB:Hid (∀W',Fr (Value.slice so N c).ownBlock.toList wr W'->Fr [] w W'):=fun W' h2=>HO.out.on (Nat.le_refl _) hF (Fr.refl _ _) h2
   have HNl:Hid (N=(zs.filter p).length):=HO.out.len
   clear HO
   go_wp2_with fail
   refine Calls.mono HSo.out ?_
   rintro e w1 ⟨rfl,hO1,hF1⟩
   obtain⟨ms,hms⟩: ∃ms,ms=(zs.filter p).mergeSort fun x y=>decide (x<=y):=⟨_,rfl⟩
   rw[<-hms]at hO1
   have hG1:=HB.out _ hF1
   have hsl:ms.Pairwise fun x y=>x<=y:=by rw[hms];exact ztc _
   have hmm: ∀x,x∈ms↔x∈zs.filter p:=fun x=>by rw[hms];exact (List.mergeSort_perm _ _).mem_iff
   obtain⟨hcr,hcm⟩:=znf ms hsl
   have HCo:Hid (Calls _ _ _ _ _):=zjn w.heap.size so N c ms w1 hO1 (by omega) (by rw[hO1.len];exact zlf _)
   have HB1:Hid (∀W',Fr (Value.slice so N c).ownBlock.toList w1 W'->Fr [] w W'):=fun W' h2=>hO1.on (Nat.le_refl _) hG1 (Fr.refl _ _) h2
   have HR:Hid (AhT D (zah ws) (Lib.compact ms)):=by
    refine⟨hcr,fun x=> ?_⟩
    rw[hcm,hmm,List.mem_filter,HP.out,HZ.out,zah]
    simp only[List.mem_map]
    constructor
    ·rintro⟨⟨y,hy,e⟩,h2⟩;exact⟨h2,y.key,⟨y,hy,rfl⟩,e⟩
    ·rintro⟨h2,k,⟨y,hy,rfl⟩,e⟩;exact⟨⟨y,hy,e⟩,h2⟩
   clear HSo hO1 hF1 hms hsl hmm hcr hcm HB
   go_wp2_with fail
   refine Calls.mono HCo.out ?_
   rintro e w2 ⟨N',rfl,hN',hO2,hF2⟩
   have HR2:Hid (_/\_):=⟨hO2,HB1.out _ hF2⟩
   clear hO2 hF2
   go_wp2
   go_ret
   exact⟨so,N',c,_,rfl,HR2.out.1,HR.out,by omega,HR2.out.2⟩
end Go.Proofs.YtaaghcimfcjehaaGreatDoor
