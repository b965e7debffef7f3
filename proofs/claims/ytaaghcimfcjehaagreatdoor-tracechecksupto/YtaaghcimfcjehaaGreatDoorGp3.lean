/- Contracts and plain lemmas of this claim. -/
import Derived.Test.YtaaghcimfcjehaaGreatDoorGp1
import Derived.Maps.OwnOps
import Derived.Maps.AppendAt
import Derived.Deep.AppendSrc
import Derived.Deep.RegionHeld3
import Derived.WalkSpells
import Derived.OwnWalk
import Derived.Laws.CopyOwn
import Derived.Lib.Bytealg
import Derived.Sort.Walk0
import Derived.Deep.RegionLaw
import Derived.Deep.RegionWith
import Derived.Deep.CutRange
set_option linter.unusedSimpArgs false
set_option linter.unusedVariables false
namespace Go.Proofs.YtaaghcimfcjehaaGreatDoor
open Go.ChangeShapes Go.WideShapes Go.ChangeAt Go.RowKit Go.Lib Go.Maps
def ints (ns:List Int):List Value:=ns.map (Value.int .i64)
theorem zbj (ns:List Int):(ints ns).length=ns.length:=by simp[ints]
theorem znd {S:List Nat} {w w':World} {base:Nat} {e:TypeId} {size:Nat} {v:Value} {n:Nat} {xs:List Value} (h:w.ownsRow base e size v n xs) (hf:Fr S w w') (hn: ∀k,v.ownBlock=some k->k∉S):w'.ownsRow base e size v n xs:=by
 refine⟨h.1,?_⟩
 rcases h.2 with hh|⟨g,cap,cur,rfl,hb,hgg,rest⟩
 ·exact .inl hh
 ·exact .inr ⟨g,cap,cur,rfl,hb,hf.keep hgg (hn g rfl),rest⟩
structure IOw (base:Nat) (w:World) (o:Option Addr) (n c:Nat) (xs:List Int):Prop where
 len:n=xs.length
 row:w.ownsRow base 3 1 (.slice o n c) n (ints xs)
section
variable {base:Nat} {w w':World} {o:Option Addr} {n c:Nat} {xs:List Int}
theorem IOw.nil (base:Nat) (w:World):IOw base w none 0 0 []:=⟨rfl,rfl,.inl ⟨rfl,rfl⟩⟩
theorem IOw.keepS {S:List Nat} (h:IOw base w o n c xs) (hf:Fr S w w') (hn: ∀k,(Value.slice o n c).ownBlock=some k->k∉S):IOw base w' o n c xs:=⟨h.len,znd h.row hf hn⟩
theorem IOw.keep (h:IOw base w o n c xs) (hf:Fr [] w w'):IOw base w' o n c xs:=h.keepS hf (by simp)
theorem IOw.blk (h:IOw base w o n c xs) {k:Nat} (hk:(Value.slice o n c).ownBlock=some k):base<=k/\ ∃cur,w.heap[k]? = some (.cells cur 3 (0,0)):=by
 rcases h.row.2 with ⟨hh,_⟩|⟨g,cap,cur,hh,hb,hgg,_⟩
 ·rw[hh]at hk;simp[Value.ownBlock]at hk
 ·rw[hh]at hk
  simp[Value.ownBlock]at hk
  subst hk
  exact⟨hb,cur,hgg⟩
theorem IOw.low {b':Nat} (h:IOw base w o n c xs) (hb:b'<=base):IOw b' w o n c xs:=by
 refine⟨h.len,h.row.1,?_⟩
 rcases h.row.2 with hh|⟨g,cap,cur,hh,hb',rest⟩
 ·exact .inl hh
 ·exact .inr ⟨g,cap,cur,hh,Nat.le_trans hb hb',rest⟩
theorem IOw.cap (h:IOw base w o n c xs):n<=c:=by
 rcases h.row.2 with ⟨hh,h0⟩|⟨g,cap,cur,hh,hb',hg,hc,_⟩
 ·omega
 ·cases hh;exact hc
theorem IOw.at (h:IOw base w o n c xs) (i:Nat) (hi:i<xs.length): ∃g,o=some ⟨g,0,none⟩/\base<=g/\w.cell? ⟨g,i,none⟩=some (.int .i64 (xs.getD i 0)):=by
 rcases h.row.2 with ⟨_,h0⟩|⟨g,cap,cur,hv,hb,hg,_,_,_,ht⟩
 ·have:=h.len;omega
 ·cases hv
  refine⟨g,rfl,hb,?_⟩
  have hN:=h.len
  rw[cell_of_row _ _ _ _ _ _ hg,<-Array.getElem?_toList]
  have h1:(cur.toList.take (n*1))[i]? = (ints xs)[i]? :=by rw[ht]
  rw[List.getElem?_take_of_lt (by omega)]at h1
  rw[h1]
  simp[ints,List.getD,hi]
theorem IOw.cells (h:IOw base w o n c xs) (h0:0<n): ∃g,o=some ⟨g,0,none⟩/\base<=g/\g<w.heap.size/\ ∀i,i<n->w.cell? ⟨g,i,none⟩=some (.int .i64 (xs.getD i 0)):=by
 obtain⟨g,hg,hb,_⟩:=h.at 0 (by rw[<-h.len];exact h0)
 obtain⟨_,cur,hc⟩:=h.blk (k:=g) (by rw[hg];rfl)
 refine⟨g,hg,hb,lt_of_block hc,fun i hi=> ?_⟩
 obtain⟨g',hg',_,h2⟩:=h.at i (by rw[<-h.len];exact hi)
 rw[hg]at hg'
 cases hg'
 exact h2
end
theorem zaw (w:World) (v:Value) (t:TypeId):(w.alloc (.cells #[v] t)).cell? ⟨w.heap.size,0,none⟩=some v:=by
 rw[cell_of_row _ _ _ _ _ _ (heap_alloc_new w (.cells #[v] t))];rfl
theorem zqg (w:World) (o:Obj) (v:Value) (t:TypeId):((w.alloc o).alloc (.cells #[v] t)).cell? ⟨w.heap.size+1,0,none⟩=some v:=by
 have h:=zaw (w.alloc o) v t
 rw[show (w.alloc o).heap.size=w.heap.size+1 from by simp]at h
 exact h
theorem IOw.on {base:Nat} {w0 w W W':World} {o:Option Addr} {n c:Nat} {xs:List Int} (h:IOw base w o n c xs) (hb:w0.heap.size<=base) (h0:Fr [] w0 w) (h1:Fr [] w W) (h2:Fr (Value.slice o n c).ownBlock.toList W W'):Fr [] w0 W' :=
 (h0.then h1).on h2 (fun x hx=>Nat.le_trans hb (h.blk (Option.mem_toList.1 hx)).1)
theorem Tryz.undIs11:Tryz.prog.underlying 25=some (.slice 3):=by kernel_rfl
theorem Tryz.infoI11:(Tryz.prog.info? 3).map (fun i=>(i.zero,i.size,i.bytes))=some (some (.int .i64 0),1,8):=by kernel_rfl
theorem zdu: ∃i,Tryz.prog.info? 3=some i/\i.zero=some (.int .i64 0)/\i.size=1/\i.bytes=8:=by
 have h:=Tryz.infoI11
 cases hi:Tryz.prog.info? 3 with
 | none=>rw[hi]at h;cases h
 | some i =>
  rw[hi]at h
  simp only[Option.map_some,Option.some.injEq,Prod.mk.injEq]at h
  exact⟨i,rfl,h.1,h.2.1,h.2.2⟩
theorem zjl (base:Nat) (w:World) (ty:TypeId) (o:Option Addr) (n c:Nat) (xs:List Int) (hO:IOw base w o n c xs) (ad:Addr) (cc:Nat) (x:Int) (hx:w.cell? ad=some (.int .i64 x)) (hn:n<1099511627776) (hb:base<=w.heap.size) :
  ∃o' c' w',(Builtin.append_ #[25,25] ty #[.slice o n c,.slice (some ad) 1 cc]).run Tryz.prog w= .ok (.slice o' (n+1) c') w'/\IOw base w' o' (n+1) c' (xs++[x])/\Fr (Value.slice o n c).ownBlock.toList w w'/\(∀g,(Value.slice o' (n+1) c').ownBlock=some g->(Value.slice o n c).ownBlock=some g\/w.heap.size<=g):=by
 obtain⟨i0,hi,hz0,hz1,hz2⟩:=zdu
 have hmx:2199023255552<=maxLen:=by unfold maxLen;omega
 have hnews: ∀j u,([Value.int .i64 x]:List Value)[j]? = some u->w.cell? (ad.add j)=some u:=by
  intro j u hu
  match j,hu with
  | 0,hu=>rw[show ad.add 0=ad from by cases ad;simp[Addr.add],hx];exact hu
  | (j+1),hu=>simp at hu
 obtain⟨v',w',hr,h2,h3,h4,h5⟩:=run_append_own_at (P:=Tryz.prog) w base 25 ty 3 i0 _ 1 8 Tryz.undIs11 hi hz0 hz1 hz2 rfl (by decide) (.slice o n c) n (ints xs) hO.row ad 1 cc [.int .i64 x] rfl hnews (by intro u hu;simp at hu;subst hu;rfl) (by omega) (by omega) hb
 obtain⟨o',c',rfl⟩: ∃o' c',v'= .slice o' (n+1) c':=by
  rcases h2.2 with ⟨_,h1⟩|⟨g,cap,_,rfl,_⟩
  ·omega
  ·exact⟨_,cap,rfl⟩
 have hst:ints (xs++[x])=ints xs++[.int .i64 x]:=by simp[ints]
 refine⟨o',c',w',hr,⟨by rw[hO.len];simp,by rw[hst];exact h2⟩,Fr.grown h3 (fun y hy _=>Option.mem_toList.2 hy),fun g hg=> ?_⟩
 rcases h5 with h5|h5
 ·rw[h5]at hg;exact Or.inl hg
 ·rw[h5]at hg
  simp only[Option.some.injEq]at hg
  exact Or.inr (by omega)
theorem zat (base:Nat) (w:World) {ops:Array Oper} {rest:List Oper} {op:Oper} {a:Act} {Q:Exit->Act->World->Prop} (hgd:op.guard=none) (s x:Operand)
  (ho:op.op= .call { callee:= .builtin .append,args:= #[s,x],argTypes:= #[25,25] })
  (o:Option Addr) (n c:Nat) (xs:List Int) (hs:a.eval s= .slice o n c) (hO:IOw base w o n c xs) (ad:Addr) (cc:Nat) (y:Int) (hx:a.eval x= .slice (some ad) 1 cc) (hy:w.cell? ad=some (.int .i64 y)) (hn:n<1099511627776) (hb:base<=w.heap.size)
  (h: ∀o' c' w',IOw base w' o' (n+1) c' (xs++[y])->Fr (Value.slice o n c).ownBlock.toList w w'->(∀g,(Value.slice o' (n+1) c').ownBlock=some g->(Value.slice o n c).ownBlock=some g\/w.heap.size<=g)->wpList Tryz.prog ops Q rest (a.put op.dst (.slice o' (n+1) c')) w'):wpList Tryz.prog ops Q (op::rest) a w:=by
 refine wpList_plain hgd fun K hK=> ?_
 obtain⟨o',c',w',hr,h2,h3,h4⟩:=zjl base w op.type o n c xs hO ad cc y hy hn hb
 unfold Oper.wp execOp
 simp only[ho,resolve,invoke,builtin,Sem.run_bind,Sem.run_pure,Result.andThen_ok,List.map_toArray,List.map_cons,List.map_nil,hs,hx,hr]
 exact hK _ _ (h o' c' w' h2 h3 h4)
theorem zka (xs:List Int): ∀u∈ints xs,u.oneCell'=true:=by
 intro u hu
 obtain⟨_,_,rfl⟩:=List.mem_map.1 hu
 rfl
structure QR (w:World) (lo:Option Addr) (n c:Nat) (xs:List Int):Prop where
 len:n=xs.length
 fit:n<=c
 row:(lo=none/\c=0)\/ ∃b off cur,lo=some ⟨b,off,none⟩/\w.heap[b]? = some (.cells cur 3 (0,0))/\off+c<=cur.size/\ ∀j v,(ints xs)[j]? = some v->cur[off+j]? = some v
def qb (lo:Option Addr):Option Nat:=lo.map fun a=>a.block
theorem QR.nil (w:World):QR w none 0 0 []:=⟨rfl,Nat.le_refl _,.inl ⟨rfl,rfl⟩⟩
theorem QR.keep {S:List Nat} {w w':World} {lo:Option Addr} {n c:Nat} {xs:List Int} (h:QR w lo n c xs) (hf:Fr S w w') (hn: ∀b,qb lo=some b->b∉S):QR w' lo n c xs:=by
 refine⟨h.len,h.fit,?_⟩
 rcases h.row with h|⟨b,off,cur,rfl,hb,h⟩
 ·exact .inl h
 ·exact .inr ⟨b,off,cur,rfl,hf.keep hb (hn b rfl),h⟩
theorem QR.blk {w:World} {lo:Option Addr} {n c:Nat} {xs:List Int} (h:QR w lo n c xs) {b:Nat} (hb:qb lo=some b): ∃cur,w.heap[b]? = some (.cells cur 3 (0,0)):=by
 rcases h.row with ⟨rfl,h0⟩|⟨b,off,cur,rfl,hb',_,hc⟩
 ·cases hb
 ·cases hb;exact⟨cur,hb'⟩
theorem QR.lt {w:World} {lo:Option Addr} {n c:Nat} {xs:List Int} (h:QR w lo n c xs) {b:Nat} (hb:qb lo=some b):b<w.heap.size:=by
 obtain⟨cur,hc⟩:=h.blk hb
 exact lt_of_block hc
theorem QR.of_own {base:Nat} {w:World} {o:Option Addr} {n c:Nat} {xs:List Int} (h:IOw base w o n c xs):QR w o n c xs:=by
 refine⟨h.len,h.cap,?_⟩
 rcases h.row.2 with ⟨hh,h0⟩|⟨g,cap,cur,hh,hb',hg,hc,hs,_,ht⟩
 ·cases hh;exact .inl ⟨rfl,rfl⟩
 ·cases hh
  refine .inr ⟨g,0,cur,rfl,hg,by omega,fun j v hj=> ?_⟩
  have hN:=h.len
  have hjl:=(List.getElem?_eq_some_iff.1 hj).1
  rw[zbj]at hjl
  rw[Nat.zero_add,<-Array.getElem?_toList]
  have h1:(cur.toList.take (n*1))[j]? = (ints xs)[j]? :=by rw[ht]
  rw[List.getElem?_take_of_lt (by omega)]at h1
  rw[h1]
  exact hj
theorem QR.first {w:World} {lo:Option Addr} {n c:Nat} {x:Int} {xs:List Int} (h:QR w lo n c (x::xs)): ∃b off,lo=some ⟨b,off,none⟩/\w.cell? ⟨b,off,none⟩=some (.int .i64 x)/\0<c/\n=xs.length+1/\ ∀so,so=(if c=1 then some ⟨b,off,none⟩ else some ⟨b,off+1,none⟩)->QR w so (n-1) (c-1) xs/\qb so=qb lo:=by
 have hl:=h.len
 have hf:=h.fit
 simp only[List.length_cons]at hl
 rcases h.row with ⟨_,h0⟩|⟨b,off,cur,rfl,hb,hoc,hc⟩
 ·omega
 ·refine⟨b,off,rfl,?_,by omega,hl,?_⟩
  ·rw[cell_of_row _ _ _ _ _ _ hb]
   simpa using hc 0 (.int .i64 x) (by simp[ints])
  ·rintro so rfl
   by_cases h1:c=1
   ·rw[if_pos h1]
    have:xs=[]:=List.eq_nil_of_length_eq_zero (by omega)
    subst this
    exact⟨⟨by simp at hl;simp;omega,by omega,.inr ⟨b,off,cur,rfl,hb,by omega,fun j v hj=>by simp[ints]at hj⟩⟩,rfl⟩
   ·rw[if_neg h1]
    refine⟨⟨by omega,by omega,.inr ⟨b,off+1,cur,rfl,hb,by omega,fun j v hj=> ?_⟩⟩,rfl⟩
    rw[Nat.add_assoc,Nat.add_comm 1 j]
    exact hc (j+1) v (by simpa[ints]using hj)
theorem Tryz.undIsQ:Tryz.prog.underlying 25=some (.slice 3):=by kernel_rfl
theorem zag {w:World} {b j:Nat} {cs:Array Value} {t:TypeId} (x:Value) (h:w.heap[b]? = some (.cells cs t (0,0))):(w.setCell ⟨b,j,none⟩ x).heap[b]? = some (.cells (cs.setIfInBounds j x) t (0,0)):=by
 have hlt:=lt_of_block h
 have h':w.heap[b]= .cells cs t (0,0):=by simpa[Array.getElem?_eq_getElem hlt]using h
 show (w.heap.modify b _)[b]? = _
 rw[Array.getElem?_eq_getElem (by simpa using hlt),Array.getElem_modify_self,h']
 rfl
theorem zcp {b:Nat} {t:TypeId}: ∀(vs:List Value) (o:Nat) (w:World) (cur:Array Value),w.heap[b]? = some (.cells cur t (0,0))->o+vs.length<=cur.size->(w.setCells b o vs).heap[b]? = some (.cells (splice cur.toList o vs).toArray t (0,0))/\Fr [b] w (w.setCells b o vs)
 | [],o,w,cur,h,hl=>by
  refine⟨?_,Fr.refl _ _⟩
  rw[World.setCells,h]
  simp[splice]
 | v::r,o,w,cur,h,hl=>by
  simp only[List.length_cons]at hl
  have h1:=zag (j:=o) v h
  obtain⟨h2,h3⟩:=zcp r (o+1) (w.setCell ⟨b,o,none⟩ v) _ h1 (by simp;omega)
  rw[World.setCells]
  refine⟨?_,(Fr.set (S:=[b]) _ _ _ (by simp)).then h3⟩
  rw[h2]
  congr 3
  have e:=list_seg_step cur.toList o v r (by simp;omega)
  simp only[splice,Array.toList_setIfInBounds]
  rw[<-List.append_assoc,e]
  simp[Nat.add_assoc,Nat.add_comm 1]
theorem zin (w:World) (ty:TypeId) (lo:Option Addr) (n c:Nat) (xs:List Int) (v:Value) (m:Nat) (ys:List Int) (h:QR w lo n c xs) (hm:m=ys.length) (hsrc:Src Tryz.prog 1 25 v m (ints ys) w) (hn:n+m<=2199023255552) :
  ∃lo' c' w',(Builtin.append_ #[25,25] ty #[.slice lo n c,v]).run Tryz.prog w= .ok (.slice lo' (n+m) c') w'/\QR w' lo' (n+m) c' (xs++ys)/\Fr (qb lo).toList w w'/\(qb lo'=qb lo\/ ∃k,qb lo'=some k/\w.heap.size<=k):=by
 obtain⟨i0,hi,hz0,hz1,hz2⟩:=zdu
 have hl:=h.len
 have hmx:2199023255552<=maxLen:=by unfold maxLen;omega
 rw[<-hz1]at hsrc
 have happ:ints (xs++ys)=ints xs++ints ys:=by simp[ints]
 by_cases hroom:n+m<=c
 ·rcases h.row with ⟨rfl,h0⟩|⟨b,off,cur,rfl,hb,hoc,hc⟩
  ·obtain rfl:n=0:=by omega
   obtain rfl:m=0:=by omega
   obtain rfl:ys=[]:=List.eq_nil_of_length_eq_zero hm.symm
   obtain rfl:xs=[]:=List.eq_nil_of_length_eq_zero hl.symm
   subst h0
   have hr:(Builtin.append_ #[25,25] ty #[.slice none 0 0,v]).run Tryz.prog w= .ok (.slice none 0 0) w:=by
    have hc:=hsrc.cells
    rcases hsrc.kind with ⟨e',hk⟩|hk<;>simp[Builtin.append_,run_underlying Tryz.undIsQ,sizeOf,typeInfo,hi,hsrc.len,hc,storeCells,ints]
   exact⟨none,0,w,hr,QR.nil w,Fr.refl _ _,.inl rfl⟩
  ·have hr:=run_append_room_src (P:=Tryz.prog) w 25 25 ty 3 i0 Tryz.undIsQ hi b off n c _ m _ hsrc hroom
    (by intro j hj;rw[zbj]at hj;rw[hz1,cell_of_row _ _ _ _ _ _ hb];simp;omega)
    (by intro j hj;simp[World.frozen?,hb])
   rw[hz1,Nat.mul_one]at hr
   have hsz:off+n+(ints ys).length<=cur.size:=by rw[zbj];omega
   obtain⟨k1,k2⟩:=zcp (ints ys) (off+n) w cur hb hsz
   refine⟨_,c,_,hr,⟨by simp[hl,hm],hroom,.inr ⟨b,off,_,rfl,k1,?_,fun j v hj=> ?_⟩⟩,k2.mono (by simp[qb]),.inl rfl⟩
   ·rw[List.size_toArray,length_splice _ _ _ (by simpa using hsz)]
    simpa using hoc
   ·rw[List.getElem?_toArray]
    unfold splice
    rw[happ]at hj
    have hlv:(ints xs).length=n:=by rw[zbj,hl]
    by_cases hjn:j<n
    ·rw[List.getElem?_append_left (by omega)]at hj
     have:=hc j v hj
     rw[List.getElem?_append_left (by simp;omega),List.getElem?_take_of_lt (by omega)]
     simpa using this
    ·rw[List.getElem?_append_right (by omega),hlv]at hj
     have hj9:=(List.getElem?_eq_some_iff.1 hj).1
     rw[List.getElem?_append_right (by simp;omega)]
     have e2:off+j-(List.take (off+n) cur.toList).length=j-n:=by simp;omega
     rw[e2,List.getElem?_append_left hj9]
     exact hj
 ·have hold:(Builtin.firstCells i0.size n (.slice lo n c)).run Tryz.prog w.drew= .ok (ints xs).toArray w.drew:=by
   rcases h.row with ⟨rfl,h0⟩|⟨b,off,cur,rfl,hb,hoc,hc⟩
   ·have:xs=[]:=List.eq_nil_of_length_eq_zero (by have:=h.fit;omega)
    subst this
    exact run_firstCells_none (P:=Tryz.prog) w.drew i0.size n n c
   ·refine run_firstCells_some (P:=Tryz.prog) w.drew i0.size n ⟨b,off,none⟩ n c (ints xs) (by rw[hz1,zbj,hl];omega) ?_
    intro j v hj
    rw[Addr.add_lit]
    show w.cell? _=_
    rw[cell_of_row _ _ _ _ _ _ hb]
    exact hc j v hj
  have hr:=run_append_grow_src (P:=Tryz.prog) w 25 25 ty 3 i0 _ Tryz.undIsQ hi hz0 lo n c (ints xs) hold _ m _ hsrc (by omega) (by omega) (by rw[hz2];exact growslice_fits (by omega) (by omega))
  have hG:=grownCap_ge w (n+m) c 3
  refine⟨_,_,_,hr,⟨by simp[hl,hm],hG,.inr ⟨w.heap.size,0,_,rfl,heap_alloc_new w.drew _,?_,fun j v hj=> ?_⟩⟩,?_,.inr ⟨_,rfl,Nat.le_refl _⟩⟩
  ·simp only[Array.size_append,size_zeroCells,List.size_toArray,List.length_append,zbj]
   simp[Value.cells]
   omega
  ·have hjl:=(List.getElem?_eq_some_iff.1 hj).1
   rw[Nat.zero_add,Array.getElem?_append_left (by rw[List.size_toArray,<-happ];exact hjl),List.getElem?_toArray,<-happ]
   exact hj
  ·exact (Fr.drew _ w).then (Fr.alloc _ w.drew _)
theorem zzr (w:World) (x:Int):Src Tryz.prog 1 25 (.slice (some ⟨w.heap.size,0,none⟩) 1 1) 1 (ints [x]) (w.alloc (.cells #[.int .i64 x] 3)):=by
 refine Src.ofSlice _ Tryz.undIsQ _ 1 1 _ (by rfl) ?_ (zka _)
 intro j u hu
 have hr:=heap_alloc_new w (.cells #[.int .i64 x] 3)
 rw[Addr.add_lit,cell_of_row _ _ _ _ _ _ hr,Nat.zero_add]
 simpa[ints]using hu
theorem zio (w:World) (ty:TypeId) (lo:Option Addr) (n c:Nat) (xs:List Int) (x:Int) (h:QR w lo n c xs) (hn:n<=1099511627776) :
  ∃lo' c' w',(Builtin.append_ #[25,25] ty #[.slice lo n c,.slice (some ⟨w.heap.size,0,none⟩) 1 1]).run Tryz.prog (w.alloc (.cells #[.int .i64 x] 3))= .ok (.slice lo' (n+1) c') w'/\QR w' lo' (n+1) c' (xs++[x])/\Fr (qb lo).toList w w'/\(qb lo'=qb lo\/ ∃k,qb lo'=some k/\w.heap.size<=k):=by
 obtain⟨lo',c',w',h1,h2,h3,h4⟩:=zin (w.alloc (.cells #[.int .i64 x] 3)) ty lo n c xs _ 1 [x] (h.keep (Fr.alloc [] w _) (by simp)) rfl (zzr w x) (by omega)
 refine⟨lo',c',w',h1,h2,(Fr.alloc _ w _).then h3,?_⟩
 rcases h4 with h4|⟨k,h4,h5⟩
 ·exact Or.inl h4
 ·exact Or.inr ⟨k,h4,Nat.le_trans (Fr.alloc [] w (.cells #[.int .i64 x] 3)).size h5⟩
theorem zdi {ops:Array Oper} {rest:List Oper} {o:Oper} {a:Act} {Q:Exit->Act->World->Prop} (w:World) (hgd:o.guard=none) (s x:Operand)
  (ho:o.op= .call { callee:= .builtin .append,args:= #[s,x],argTypes:= #[25,25] }) (lo:Option Addr) (n c:Nat) (xs:List Int) (k:Int) (hs:a.eval s= .slice lo n c) (h:QR w lo n c xs) (hn:n<=1099511627776)
  (hx:a.eval x= .slice (some ⟨w.heap.size,0,none⟩) 1 1)
  (hK: ∀lo' c' w',QR w' lo' (n+1) c' (xs++[k])->Fr (qb lo).toList w w'->(qb lo'=qb lo\/ ∃k,qb lo'=some k/\w.heap.size<=k)->wpList Tryz.prog ops Q rest (a.put o.dst (.slice lo' (n+1) c')) w') :
  wpList Tryz.prog ops Q (o::rest) a (w.alloc (.cells #[.int .i64 k] 3)):=by
 refine wpList_plain hgd fun K hK'=> ?_
 obtain⟨lo',c',w',hr,h2,h3,h4⟩:=zio w o.type lo n c xs k h hn
 unfold Oper.wp execOp
 simp only[ho,resolve,invoke,builtin,Sem.run_bind,Sem.run_pure,Result.andThen_ok,List.map_toArray,List.map_cons,List.map_nil,hs,hx,hr]
 exact hK' _ _ (hK lo' c' w' h2 h3 h4)
theorem zcg {ops:Array Oper} {o:Oper} {a:Act} {K:Act->World->Prop} {Q:Exit->Act->World->Prop} {E:Prop} (w:World) (hgd:o.guard=none) (s x:Operand)
  (ho:o.op= .call { callee:= .builtin .append,args:= #[s,x],argTypes:= #[25,25] }) (lo:Option Addr) (n c:Nat) (xs:List Int) (k:Int) (hs:a.eval s= .slice lo n c) (h:QR w lo n c xs) (hn:n<=1099511627776)
  (hx:a.eval x= .slice (some ⟨w.heap.size,0,none⟩) 1 1)
  (hK: ∀lo' c' w',QR w' lo' (n+1) c' (xs++[k])->Fr (qb lo).toList w w'->(qb lo'=qb lo\/ ∃k,qb lo'=some k/\w.heap.size<=k)->K (a.put o.dst (.slice lo' (n+1) c')) w') :
  if Region.wanted o (yielded ops a.tmps)=true then Oper.wp Tryz.prog o a (w.alloc (.cells #[.int .i64 k] 3)) K Q else E:=by
 have hw:Region.wanted o (yielded ops a.tmps)=true:=by simp[Region.wanted,hgd]
 rw[if_pos hw]
 obtain⟨lo',c',w',hr,h2,h3,h4⟩:=zio w o.type lo n c xs k h hn
 unfold Oper.wp execOp
 simp only[ho,resolve,invoke,builtin,Sem.run_bind,Sem.run_pure,Result.andThen_ok,List.map_toArray,List.map_cons,List.map_nil,hs,hx,hr]
 exact hK lo' c' w' h2 h3 h4
theorem zzs {w:World} {lo:Option Addr} {n c:Nat} {ys:List Int} (h:QR w lo n c ys):Src Tryz.prog 1 25 (.slice lo n c) n (ints ys) w:=by
 rcases h.row with ⟨rfl,h0⟩|⟨b,off,cur,rfl,hb,hoc,hc⟩
 ·have hn:n=0:=by have:=h.fit;omega
  subst hn
  have:ys=[]:=List.eq_nil_of_length_eq_zero h.len.symm
  subst this
  exact Src.ofNil _ Tryz.undIsQ c
 ·refine Src.ofSlice _ Tryz.undIsQ _ n c _ (by rw[zbj,<-h.len];omega) ?_ (zka _)
  intro j u hu
  rw[Addr.add_lit,cell_of_row _ _ _ _ _ _ hb]
  exact hc j u hu
theorem zfm {ops:Array Oper} {rest:List Oper} {o:Oper} {a:Act} {Q:Exit->Act->World->Prop} (w:World) (hgd:o.guard=none) (s x:Operand)
  (ho:o.op= .call { callee:= .builtin .append,args:= #[s,x],argTypes:= #[25,25] }) (lo:Option Addr) (n c:Nat) (xs:List Int) (lo2:Option Addr) (m c2:Nat) (ys:List Int) (hs:a.eval s= .slice lo n c) (h:QR w lo n c xs) (hx:a.eval x= .slice lo2 m c2) (h2:QR w lo2 m c2 ys) (hn:n+m<=2199023255552)
  (hK: ∀lo' c' w',QR w' lo' (n+m) c' (xs++ys)->Fr (qb lo).toList w w'->(qb lo'=qb lo\/ ∃k,qb lo'=some k/\w.heap.size<=k)->wpList Tryz.prog ops Q rest (a.put o.dst (.slice lo' (n+m) c')) w') :
  wpList Tryz.prog ops Q (o::rest) a w:=by
 refine wpList_plain hgd fun K hK'=> ?_
 obtain⟨lo',c',w',hr,h2,h3,h4⟩:=zin w o.type lo n c xs _ m ys h h2.len (zzs h2) hn
 unfold Oper.wp execOp
 simp only[ho,resolve,invoke,builtin,Sem.run_bind,Sem.run_pure,Result.andThen_ok,List.map_toArray,List.map_cons,List.map_nil,hs,hx,hr]
 exact hK' _ _ (hK lo' c' w' h2 h3 h4)
theorem zdp: ∀a:List UInt8,Op.bytesLess a a=false
 | []=>rfl
 | x::xs=>by simp[Op.bytesLess,zdp xs]
theorem zrm: ∀a b:List UInt8,(Lib.compareBytes a b<0↔Op.bytesLess a b=true)
 | [],[]=>by simp[Lib.compareBytes,Op.bytesLess]
 | [],_::_=>by simp[Lib.compareBytes,Op.bytesLess]
 | _::_,[]=>by simp[Lib.compareBytes,Op.bytesLess]
 | x::xs,y::ys=>by
  have ih:=zrm xs ys
  unfold Lib.compareBytes Op.bytesLess
  by_cases h1:x<y
  ·simp[h1]
  ·by_cases h2:y<x
   ·simp[h1,h2]
    intro e
    subst e
    exact absurd h2 h1
   ·simp[h1,h2]
    have e:x=y:=UInt8.le_antisymm (UInt8.not_lt.1 h2) (UInt8.not_lt.1 h1)
    simp[e,ih]
theorem zzt (a b:List UInt8):Op.bytesLess a b=true↔a<b:=by rw[bytesLess_eq];simp
theorem zgu {a b c:List UInt8} (h1:Op.bytesLess a b=true) (h2:Op.bytesLess b c=true):Op.bytesLess a c=true:=by
 rw[zzt]at *
 exact List.lt_trans h1 h2
theorem zrn {a b c:List UInt8} (h1:Op.bytesLess a b=false) (h2:Op.bytesLess b c=false):Op.bytesLess a c=false:=by
 rw[bytesLess_eq]at *
 simp only[decide_eq_false_iff_not,List.not_lt]at *
 exact List.le_trans h2 h1
theorem zwc {a b:List UInt8} (h1:Op.bytesLess a b=false) (h2:Op.bytesLess b a=false):a=b:=by
 rw[bytesLess_eq]at *
 simp only[decide_eq_false_iff_not,List.not_lt]at *
 exact List.le_antisymm h2 h1
end Go.Proofs.YtaaghcimfcjehaaGreatDoor
namespace Go.Proofs.YtaaghcimfcjehaaGreatDoor.Bq
open Go.ChangeShapes Go.WideShapes Go.ChangeAt Go.RowKit Go.Lib
def Went (w:World) (v:Value) (g:Nat) (w':World):Prop:=(v.ownBlock=some g/\w.grownBy w' (some g))\/(w.heap.size<=g/\w.grownBy w' none)
theorem Went.fr {w w':World} {v:Value} {g:Nat} (h:Went w v g w'):Fr v.ownBlock.toList w w':=by
 rcases h with ⟨h1,h2⟩|⟨_,h2⟩
 ·refine Fr.grown h2 ?_
  intro k hk _
  cases hk
  simp[h1]
 ·exact Fr.grown h2 (by simp)
section
variable {P:Program} (w:World)
theorem zjd (t ty e:TypeId) (i:TypeInfo) (z:Value) (size bytes:Nat) (ht:P.underlying t=some (.slice e)) (hi:P.info? e=some i) (hz:i.zero=some z)
  (hsize:i.size=size) (hby:i.bytes=bytes) (hzs:z.cells.size=size) (hsz:0<size)
  (v:Value) (n:Nat) (xs:List Value) (hown:w.ownsRow 0 e size v n xs)
  (a:Addr) (m c:Nat) (news:List Value) (hm:0<m) (hl:news.length=m*size) (hnews: ∀j u,news[j]? = some u->w.cell? (a.add j)=some u) (h1: ∀u∈news,u.oneCell'=true)
  (h63:n+m<=maxLen) (hbytes:(n+m)*bytes<=140737488355328) :
  ∃g cap w',(Builtin.append_ #[t,t] ty #[v,.slice (some a) m c]).run P w= .ok (.slice (some ⟨g,0,none⟩) (n+m) cap) w'/\w'.ownsRow 0 e size (.slice (some ⟨g,0,none⟩) (n+m) cap) (n+m) (xs++news)/\Went w v g w':=by
 obtain⟨v',w',hr,h2,h3,h4⟩:=run_append_own (P:=P) w 0 t ty e i z size bytes ht hi hz hsize hby hzs hsz v n xs hown a m c news hl hnews h1 h63 hbytes (Nat.zero_le _)
 obtain⟨g,cap,rfl⟩: ∃g cap,v'= .slice (some ⟨g,0,none⟩) (n+m) cap:=by
  rcases h2.2 with ⟨_,hh⟩|⟨g,cap',_,hh,_⟩
  ·omega
  ·exact⟨g,cap',hh⟩
 refine⟨g,cap,w',hr,h2,?_⟩
 subst hsize
 subst hby
 have hsmall:n+m<=9223372036854775807:=by simp only[maxLen]at h63;omega
 rcases hown.2 with ⟨rfl,rfl⟩|⟨g0,cap0,cur,rfl,hbg,hg,hnc,hcm,hcs,htake⟩
 ·have hr2:=run_append_nil (P:=P) w t ty e i z ht hi hz a m c news hl hnews (by omega) (by omega) (by have hb:=hbytes;simp only[Nat.zero_add]at hb;omega)
  rw[hr]at hr2
  injection hr2 with e1 e2
  simp only[Value.slice.injEq,Option.some.injEq,Addr.mk.injEq]at e1
  obtain⟨⟨rfl,_⟩,_⟩:=e1
  subst e2
  exact Or.inr ⟨Nat.le_refl _,⟨rfl,rfl,rfl,by simp,fun k hk _=>Below.heap_alloc w.drew _ _ hk⟩⟩
 ·by_cases hroom:n+m<=cap0
  ·have hfit:n*i.size+news.length<=cur.size:=by rw[hl,hcs,<-Nat.add_mul];exact Nat.mul_le_mul_right _ hroom
   have hr2:=run_append_room (P:=P) w t ty e i ht hi g0 n cap0 cur hg a m c news hl hnews h1 hroom hfit
   rw[hr]at hr2
   cases hr2
   exact Or.inl ⟨rfl,h3⟩
  ·have holds: ∀j u,xs[j]? = some u->w.cell? ((⟨g0,0,none⟩:Addr).add j)=some u:=hown.cells (g:=g0) rfl
   have hr2:=run_append_grow (P:=P) w t ty e i z ht hi hz ⟨g0,0,none⟩ n cap0 xs hown.1 holds a m c news hl hnews (by omega) (by omega) (growslice_fits (by omega) hbytes)
   rw[hr]at hr2
   cases hr2
   exact Or.inr ⟨Nat.le_refl _,⟨rfl,rfl,rfl,by simp,fun k hk _=>Below.heap_alloc w.drew _ _ hk⟩⟩
theorem step_app {ops:Array Oper} {o:Oper} {a:Act} {K:Act->World->Prop} {Q:Exit->Act->World->Prop} {E:Prop} (hg:o.guard=none) (s x:Operand) (t:TypeId)
  (ho:o.op= .call { callee:= .builtin .append,args:= #[s,x],argTypes:= #[t,t] })
  (e:TypeId) (i:TypeInfo) (z:Value) (size bytes:Nat) (ht:P.underlying t=some (.slice e)) (hi:P.info? e=some i) (hz:i.zero=some z)
  (hsize:i.size=size) (hby:i.bytes=bytes) (hzs:z.cells.size=size) (hsz:0<size)
  (v:Value) (n:Nat) (xs:List Value) (hs:a.eval s=v) (hown:w.ownsRow 0 e size v n xs)
  (ad:Addr) (c:Nat) (news:List Value) (hx:a.eval x= .slice (some ad) 1 c) (hl:news.length=size) (hnews: ∀j u,news[j]? = some u->w.cell? (ad.add j)=some u) (h1: ∀u∈news,u.oneCell'=true)
  (hbytes:(n+1)*bytes<=140737488355328) (h63:n+1<=maxLen)
  (h: ∀g cap w',w'.ownsRow 0 e size (.slice (some ⟨g,0,none⟩) (n+1) cap) (n+1) (xs++news)->Went w v g w'->K (a.put o.dst (.slice (some ⟨g,0,none⟩) (n+1) cap)) w') :
  if Region.wanted o (yielded ops a.tmps)=true then Oper.wp P o a w K Q else E:=by
 have hw:Region.wanted o (yielded ops a.tmps)=true:=by simp[Region.wanted,hg]
 rw[if_pos hw]
 obtain⟨g,cap,w',hr,h2,h3⟩:=zjd (P:=P) w t o.type e i z size bytes ht hi hz hsize hby hzs hsz v n xs hown ad 1 c news (by omega) (by omega) hnews h1 h63 hbytes
 unfold Oper.wp execOp
 simp only[ho,resolve,invoke,builtin,Sem.run_bind,Sem.run_pure,Result.andThen_ok,List.map_toArray,List.map_cons,List.map_nil,hs,hx,hr]
 exact h g cap w' h2 h3
end
theorem own_type {w:World} {e:TypeId} {size:Nat} {v:Value} {n:Nat} {vs:List Value} (h:w.ownsRow 0 e size v n vs): ∀k,v.ownBlock=some k-> ∃cs,w.heap[k]? = some (.cells cs e (0,0)):=by
 intro k hk
 rcases h.2 with ⟨rfl,_⟩|⟨g',cap',cur,rfl,hb,hg,_⟩
 ·simp[Value.ownBlock]at hk
 ·simp[Value.ownBlock]at hk
  subst hk
  exact⟨cur,hg⟩
end Go.Proofs.YtaaghcimfcjehaaGreatDoor.Bq
namespace Go.Proofs.YtaaghcimfcjehaaGreatDoor.Q
open Go.ChangeShapes Go.WideShapes Go.ChangeAt Go.RowKit Go.Lib
section
variable {P:Program} (w:World)
end
theorem own_type {w:World} {e:TypeId} {size:Nat} {v:Value} {n:Nat} {vs:List Value} (h:w.ownsRow 0 e size v n vs): ∀k,v.ownBlock=some k-> ∃cs,w.heap[k]? = some (.cells cs e (0,0)):=by
 intro k hk
 rcases h.2 with ⟨rfl,_⟩|⟨g',cap',cur,rfl,hb,hg,_⟩
 ·simp[Value.ownBlock]at hk
 ·simp[Value.ownBlock]at hk
  subst hk
  exact⟨cur,hg⟩
end Go.Proofs.YtaaghcimfcjehaaGreatDoor.Q
