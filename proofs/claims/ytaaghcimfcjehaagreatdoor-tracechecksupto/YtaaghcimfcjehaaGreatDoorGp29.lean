/- Contracts and plain lemmas of this claim. -/
import Derived.Test.YtaaghcimfcjehaaGreatDoorGp24
import Derived.Laws.AppendOwn
import Derived.Test.YtaaghcimfcjehaaGreatDoorGp12
import Derived.Test.YtaaghcimfcjehaaGreatDoorGp28
import Derived.Test.YtaaghcimfcjehaaGreatDoorGp27
set_option linter.unusedSimpArgs false
set_option linter.unusedVariables false
namespace Go.Proofs.YtaaghcimfcjehaaGreatDoor
open Go.ChangeShapes Go.WideShapes Go.ChangeAt Go.RowKit Go.Lib Go.Maps
def lTm (S:Nat):List Tm:=[⟨1,some ⟨S,0,none⟩,1,1,lW⟩]
def bA:Obj:= .cells #[.int .i64 1,.int .i64 1,.int .i64 4,.int .i64 1] 23
def bB:Obj:= .cells #[.string ⟨#[97]⟩,.string ⟨#[49]⟩,.bool false] 92
def bC (S:Nat):Obj:= .cells #[.int .i64 1,.slice (some ⟨S,0,none⟩) 1 1] 66
def evV (e:Ev):List Value:=[.int .i64 e.t,.int .u8 e.k,.int .i64 e.n,.int .i64 e.s,.int .i64 e.c,.int .i64 e.m]
def bE:Obj:= .cells (lE.flatMap evV).toArray 62
def wLv (w:World):World:=(((w.alloc bA).alloc bB).alloc (bC (w.heap.size+1))).alloc bE
theorem zkl (w:World):Fr [] w (wLv w):=(((Fr.alloc [] w _).then (Fr.alloc [] _ _)).then (Fr.alloc [] _ _)).then (Fr.alloc [] _ _)
theorem zzz (w:World):(wLv w).heap[w.heap.size]? = some bA:=by
 unfold wLv
 exact (Below.heap_alloc _ _ _ (by simp<;>omega)).trans ((Below.heap_alloc _ _ _ (by simp<;>omega)).trans ((Below.heap_alloc _ _ _ (by simp)).trans (heap_alloc_new w _)))
theorem zaaa (w:World):(wLv w).heap[w.heap.size+1]? = some bB:=by
 unfold wLv
 refine (Below.heap_alloc _ _ _ (by simp<;>omega)).trans ((Below.heap_alloc _ _ _ (by simp)).trans ?_)
 have:=heap_alloc_new (w.alloc bA) bB
 rwa [World.size_alloc]at this
theorem zaab (w:World):(wLv w).heap[w.heap.size+1+1]? = some (bC (w.heap.size+1)):=by
 unfold wLv
 refine (Below.heap_alloc _ _ _ (by simp)).trans ?_
 have:=heap_alloc_new ((w.alloc bA).alloc bB) (bC (w.heap.size+1))
 rwa [World.size_alloc,World.size_alloc]at this
theorem zaac (w:World):(wLv w).heap[w.heap.size+1+1+1]? = some bE:=by
 unfold wLv
 have:=heap_alloc_new (((w.alloc bA).alloc bB).alloc (bC (w.heap.size+1))) bE
 rwa [World.size_alloc,World.size_alloc,World.size_alloc]at this
theorem zmu (w:World):TRs (wLv w) (some ⟨w.heap.size+1+1,0,none⟩) (lTm (w.heap.size+1)):=by
 have hsz: ∀x:Wt,okW x->x.key.size<=140737488355328/\x.val.size<=140737488355328:=fun x h=>⟨by have:=h.2.1;omega,by have:=h.2.2.1;omega⟩
 refine TRs.of_row (rest:=[]) (t:=66) (f:=(0,0)) (by rw[List.append_nil];exact zaab w) (by simp[lTm]) ?_
 intro t ht
 simp only[lTm,List.mem_cons,List.not_mem_nil,or_false]at ht
 subst ht
 exact⟨WRs.of_row (rest:=[]) (t:=92) (f:=(0,0)) (by rw[List.append_nil];exact zaaa w) (by simp[lW]) (fun x hx=>hsz x (zwe x hx)),rfl,by simp,by simp⟩
theorem zxh: ∀x∈lE,EEach x:=by
 intro x hx
 simp only[lE,List.mem_cons,List.not_mem_nil,or_false]at hx
 rcases hx with rfl|rfl|rfl|rfl|rfl|rfl|rfl<;>exact⟨by simp[I6],by simp,by simp[I6],by simp[I6],by simp[I6],by simp[I6]⟩
theorem zmv (w:World):ERs (wLv w) (some ⟨w.heap.size+1+1+1,0,none⟩) lE:=by
 have h:=zaac w
 refine⟨fun _=>⟨_,0,rfl,lt_of_block h,fun i hi=> ?_⟩,by simp[lE],zxh⟩
 have hi7:i<7:=hi
 have key: ∀j,(wLv w).cell? ⟨w.heap.size+1+1+1,j,none⟩=((lE.flatMap evV).toArray)[j]? :=fun j=>cell_of_row _ _ _ _ _ _ h
 obtain rfl|rfl|rfl|rfl|rfl|rfl|rfl:i=0\/i=1\/i=2\/i=3\/i=4\/i=5\/i=6:=by omega
 all_goals exact⟨by rw[key];rfl,by rw[key];rfl,by rw[key];rfl,by rw[key];rfl,by rw[key];rfl,by rw[key];rfl⟩
theorem ERs.drop1 {w:World} {b off:Nat} {es:List Ev} (h:ERs w (some ⟨b,off,none⟩) es):ERs w (some ⟨b,off+6,none⟩) (es.drop 1):=by
 refine⟨fun h0=> ?_,?_,fun x hx=>h.each x (List.mem_of_mem_drop hx)⟩
 ·simp only[List.length_drop]at h0
  obtain⟨b',off',e,hb,hc⟩:=h.lies (by omega)
  cases e
  refine⟨b,off+6,rfl,hb,fun i hi=> ?_⟩
  simp only[List.length_drop]at hi
  rw[show (es.drop 1).getD i Ev.no=es.getD (i+1) Ev.no by simp[List.getD,List.getElem?_drop,Nat.add_comm],show off+6+i*6=off+(i+1)*6 by omega]
  exact hc (i+1) (by omega)
 ·have:=h.few
  simp only[List.length_drop]
  omega
theorem zji (S:Nat):Beg (lTm S) 0 []:=⟨zzx,zzy,by simp[grt,lTm]⟩
theorem zwh (S:Nat):tkN lc (lTm S) 0 [] lE=7/\tkC lc (lTm S) 0 [] lE=0:=by
 have h:(goes lc (txs (lTm S)) (sy0 0 []) lE).1=7:=zxg
 refine⟨by unfold tkN;rw[if_pos ⟨zjh,zji S⟩];exact h,?_⟩
 unfold tkC folC
 rw[if_neg (fun hh=>hh zjh),if_neg (fun hh=>hh (zji S)),if_pos (by rw[h];rfl)]
theorem zwi (S:Nat):tkN lc (lTm S) 0 [] (lE.drop 1)=0/\tkC lc (lTm S) 0 [] (lE.drop 1)=14:=by
 have h:(goes lc (txs (lTm S)) (sy0 0 []) (lE.drop 1)).1=0:=zyz
 refine⟨by unfold tkN;rw[if_pos ⟨zjh,zji S⟩];exact h,?_⟩
 unfold tkC folC
 rw[if_neg (fun hh=>hh zjh),if_neg (fun hh=>hh (zji S)),if_neg (by rw[h];simp[lE])]
set_option maxHeartbeats 8000000 in
set_option maxRecDepth 100000 in
theorem zru (w:World) (hN:Nms w):Calls Tryz.prog 15 #[] w fun e w'=>e= .returned (.bool true)/\Fr [] w w':=by
 have hIn: ∀W,IRs W none []:=fun W=>⟨fun h=>by simp at h,by simp⟩
 have HC1:Hid (∀W,Fr [] (wLv w) W->Calls Tryz.prog 10 #[.agg #[.int .i64 1,.int .i64 1,.int .i64 4,.int .i64 1],.slice (some ⟨w.heap.size+1+1,0,none⟩) 1 1,.agg #[.int .i64 0,.slice none 0 0,.slice none 0 0],.slice (some ⟨w.heap.size+1+1+1,0,none⟩) 7 7] W fun e w'=>e= .returned (.tuple #[.int .i64 7,.int .i64 0])/\Fr [] W w'):=fun W hf=>by
  have:=zkk lc (some ⟨w.heap.size+1+1,0,none⟩) 1 1 (lTm (w.heap.size+1)) 0 none 0 0 [] none 0 0 (some ⟨w.heap.size+1+1+1,0,none⟩) 7 7 lE W (hN.keep ((zkl w).then hf) (by simp)) ((zmu w).keep hf) rfl (by omega) (hIn W) rfl (by omega) ((zmv w).keep hf) rfl (by omega) (by simp[lE])
  rw[(zwh _).1,(zwh _).2]at this
  exact this
 have HC2:Hid (∀W,Fr [] (wLv w) W->Calls Tryz.prog 10 #[.agg #[.int .i64 1,.int .i64 1,.int .i64 4,.int .i64 1],.slice (some ⟨w.heap.size+1+1,0,none⟩) 1 1,.agg #[.int .i64 0,.slice none 0 0,.slice none 0 0],.slice (some ⟨w.heap.size+1+1+1,6,none⟩) 6 6] W fun e w'=>e= .returned (.tuple #[.int .i64 0,.int .i64 14])/\Fr [] W w'):=fun W hf=>by
  have:=zkk lc (some ⟨w.heap.size+1+1,0,none⟩) 1 1 (lTm (w.heap.size+1)) 0 none 0 0 [] none 0 0 (some ⟨w.heap.size+1+1+1,6,none⟩) 6 6 (lE.drop 1) W (hN.keep ((zkl w).then hf) (by simp)) ((zmu w).keep hf) rfl (by omega) (hIn W) rfl (by omega) (ERs.drop1 ((zmv w).keep hf)) rfl (by omega) (by simp[lE])
  rw[(zwi _).1,(zwi _).2]at this
  exact this
 have HCf:Hid (∀W,Fr [] (wLv w) W->W.cell? ⟨w.heap.size,0,none⟩=some (.int .i64 1)/\W.cell? ⟨w.heap.size,1,none⟩=some (.int .i64 1)/\W.cell? ⟨w.heap.size,2,none⟩=some (.int .i64 4)/\W.cell? ⟨w.heap.size,3,none⟩=some (.int .i64 1)):=fun W hf=>by
  have h:=hf.keep (zzz w) (by simp)
  exact⟨by rw[cell_of_row _ _ _ _ _ _ h];rfl,by rw[cell_of_row _ _ _ _ _ _ h];rfl,by rw[cell_of_row _ _ _ _ _ _ h];rfl,by rw[cell_of_row _ _ _ _ _ _ h];rfl⟩
 have HF:Hid (Fr [] w (wLv w)):=zkl w
 obtain⟨wl,hwl⟩: ∃wl,wl=wLv w:=⟨_,rfl⟩
 have HW:Hid (((((w.alloc (.cells #[.int .i64 1,.int .i64 1,.int .i64 4,.int .i64 1] 23)).alloc (.cells #[.string ⟨#[97]⟩,.string ⟨#[49]⟩,.bool false] 92)).alloc (.cells #[.int .i64 1,.slice (some ⟨w.heap.size+1,0,none⟩) 1 1] 66)).alloc (.cells #[.int .i64 0,.int .u8 1,.int .i64 1,.int .i64 0,.int .i64 0,.int .i64 0,.int .i64 0,.int .u8 3,.int .i64 1,.int .i64 0,.int .i64 0,.int .i64 0,.int .i64 1,.int .u8 4,.int .i64 1,.int .i64 0,.int .i64 0,.int .i64 0,.int .i64 1,.int .u8 5,.int .i64 1,.int .i64 0,.int .i64 0,.int .i64 0,.int .i64 2,.int .u8 7,.int .i64 1,.int .i64 0,.int .i64 0,.int .i64 0,.int .i64 1,.int .u8 6,.int .i64 1,.int .i64 0,.int .i64 0,.int .i64 0,.int .i64 3,.int .u8 8,.int .i64 1,.int .i64 0,.int .i64 1,.int .i64 1] 62))=wl):=by show _=_;rw[hwl];rfl
 rw[<-hwl]at HC1 HC2 HCf HF
 obtain⟨n,hn⟩: ∃n,n=w.heap.size:=⟨_,rfl⟩
 have HNn:Hid (w.heap.size=n):=hn.symm
 rw[<-hn]at HC1 HC2 HCf
 clear hwl hn hIn hN
 go_enter Tryz.func15,Tryz.ntmps15
 go_upto_region 4 with fail
 rw[HW.out,HNn.out]
 obtain⟨k0,k1,k2,k3⟩:=HCf.out wl (Fr.refl _ _)
 go_wp2_with fail
 refine Calls.mono (HC1.out wl (Fr.refl _ _)) ?_
 rintro e w1 ⟨rfl,hf1⟩
 have HF1:Hid (Fr [] wl w1):=hf1
 clear hf1 k0 k1 k2 k3 HC1 HW
 go_upto_region 5 with fail
 have f0: ∀y:Wd13 w1,y.W.cell? ⟨n,0,none⟩=some (.int .i64 1):=fun y=>(HCf.out _ (HF1.out.then y.h)).1
 have f1: ∀y:Wd13 w1,y.W.cell? ⟨n,1,none⟩=some (.int .i64 1):=fun y=>(HCf.out _ (HF1.out.then y.h)).2.1
 have f2: ∀y:Wd13 w1,y.W.cell? ⟨n,2,none⟩=some (.int .i64 4):=fun y=>(HCf.out _ (HF1.out.then y.h)).2.2.1
 have f3: ∀y:Wd13 w1,y.W.cell? ⟨n,3,none⟩=some (.int .i64 1):=fun y=>(HCf.out _ (HF1.out.then y.h)).2.2.2
 have HC3:Hid (∀W,Fr [] w1 W->Calls _ _ _ W _):=fun W hf=>HC2.out W (HF1.out.then hf)
 refine zau (w1:=w1) (by kernel_rfl) (by kernel_rfl) (Fr.refl _ _) ?_
 repeat (go_big_quiet_step ((go_at_call 10;with_reducible refine (HC3.out _ (Wd13.h _)).mono ?_;exact fun e w3 hh=>⟨hh.1,⟨_,Fr.then (Wd13.h _) hh.2⟩,rfl⟩)))
 refine wpQuiet_nil ?_
 rintro _ ⟨y,rfl⟩
 obtain⟨w2,hw2⟩: ∃w2,w2=y.W:=⟨_,rfl⟩
 have HF2:Hid (Fr [] w1 w2):=by show Fr _ _ _;rw[hw2];exact y.h
 rw[<-hw2]
 clear hw2 f0 f1 f2 f3 HC3 HC2 HCf
 go_wp2_with fail
 go_ret
 exact⟨rfl,HF.out.then (HF1.out.then HF2.out)⟩
def evsC:List Ev->List Value
 | []=>[]
 | e::r=>evV e++evsC r
theorem zgk (a b:List Ev):evsC (a++b)=evsC a++evsC b:=by
 induction a with
 | nil=>rfl
 | cons v r ih=>simp[evsC,ih]
theorem zgv (a:List Ev) (j c:Nat) (hj:j<a.length) (hc:c<6):(evsC a)[j*6+c]? = (evV (a.getD j Ev.no))[c]? :=by
 induction a generalizing j with
 | nil=>simp at hj
 | cons v r ih =>
  cases j with
  | zero =>
   simp only[evsC,Nat.zero_mul,Nat.zero_add]
   rw[List.getElem?_append_left (by simp[evV];omega)]
   simp
  | succ j =>
   simp only[evsC]
   rw[List.getElem?_append_right (by simp[evV];omega)]
   have e:(j+1)*6+c-(evV v).length=j*6+c:=by simp[evV];omega
   rw[e,ih j (by simpa using hj)]
   simp
theorem Tryz.infoEvt:(Tryz.prog.info? 62).map (fun i=>(i.zero,i.size,i.bytes))=some (some (.agg #[.int .i64 0,.int .u8 0,.int .i64 0,.int .i64 0,.int .i64 0,.int .i64 0]),6,48):=by kernel_rfl
section
variable {c:Cf} {T:List Tx} {m0:Int} {xs:List Int} {s:Sy} {d:Ds} {P:List Int} {t k:Nat}
theorem zku (f:Int) (x:Dc):(askC f x).n=x.n:=by unfold askC;split<;>rfl
theorem zkv (f:Int) (x:Dc):(endC f x).n=x.n:=by unfold endC;split<;>rfl
theorem zvf (f:Int) (l:List Dc):(l.map (askC f)).map (fun x:Dc=>x.n)=l.map (fun x:Dc=>x.n):=by
 rw[List.map_map]
 exact List.map_congr_left fun x _=>zku f x
theorem zvg (f:Int) (l:List Dc):(l.map (endC f)).map (fun x:Dc=>x.n)=l.map (fun x:Dc=>x.n):=by
 rw[List.map_map]
 exact List.map_congr_left fun x _=>zkv f x
theorem zxw (hR:Rl c T m0 xs s d P t) (hI:Iv c T s k) (hc:c.may) {e:Ev} (he:e.t<0):StE c T m0 xs (calD c d e) (cal c s e.t e):=by
 obtain⟨kk,hn⟩:=hR.hv
 unfold calD cal
 cases hf:d.cal.find? (fun x=>x.n==e.t) with
 | none =>
  have hnot: ∀x∈d.cal,x.n≠e.t:=fun x hx e2=>by
   have:=List.find?_eq_none.1 hf x hx
   simp[e2]at this
  obtain⟨g0,f0⟩:=hR.out e.t he hnot
  simp only
  by_cases h9:e.k=9
  ·rw[if_pos ⟨h9,g0⟩,h9]
   simp only[decide_true]
   refine StE.yes (by simp) ⟨P,t,?_⟩
   exact { hR with
    cnd:=by
     show ((d.cal++[(⟨e.t,0,0,false⟩:Dc)]).map (fun x:Dc=>x.n)).Nodup
     rw[List.map_append,List.nodup_append]
     refine⟨hR.cnd,by simp,fun a ha b hb e2=> ?_⟩
     obtain⟨x,hx,rfl⟩:=List.mem_map.1 ha
     simp at hb
     exact hnot x hx (e2.trans hb)
    cal:=fun x hx=>by
     have hx':x∈d.cal++[(⟨e.t,0,0,false⟩:Dc)]:=hx
     rcases List.mem_append.1 hx' with h|h
     ·obtain⟨c1,c2,c3⟩:=hR.cal x h
      refine⟨c1,c2,?_⟩
      show updI s.G e.t 1 x.n=_
      rw[zaq _ _ (hnot x h)]
      exact c3
     ·simp only[List.mem_singleton]at h
      subst h
      refine⟨he,?_,?_⟩
      ·show s.F e.t=_
       rw[f0]
       simp
      ·show updI s.G e.t 1 e.t=_
       rw[zbb]
       rfl
    out:=fun n hn2 hx=>by
     have hne:n≠e.t:=fun q=>hx ⟨e.t,0,0,false⟩ (List.mem_append_right _ (by simp)) q.symm
     obtain⟨o1,o2⟩:=hR.out n hn2 (fun y hy=>hx y (List.mem_append_left _ hy))
     refine⟨?_,o2⟩
     show updI s.G e.t 1 n=0
     rw[zaq _ _ hne]
     exact o1
    hv:=⟨kk,hn.same rfl rfl rfl⟩ }
  ·rw[if_neg (fun h=>h9 h.1),if_neg (fun h=>by have:=h.2.1;omega),if_neg (fun h=>by have:=h.2.1;omega),if_neg (fun h=>by have:=h.2.1;omega),decide_eq_false h9]
   exact StE.no _ _ _
 | some x =>
  have hx:x∈d.cal:=List.mem_of_find?_eq_some hf
  have hxn:x.n=e.t:=by simpa using List.find?_some hf
  obtain⟨c1,c2,c3⟩:=hR.cal x hx
  rw[hxn]at c2 c3
  simp only
  cases hen:x.ended with
  | true =>
   rw[hen,if_pos rfl]at c3
   rw[if_pos rfl,if_neg (fun h=>by have:=h.2;omega),if_neg (fun h=>by have:=h.2.1;omega),if_neg (fun h=>by have:=h.2.1;omega),if_neg (fun h=>by have:=h.2.1;omega)]
   exact StE.no _ _ _
  | false =>
   rw[hen,if_neg (by simp)]at c3
   rw[if_neg (show ¬(false=true) by simp),if_neg (show ¬(e.k=9/\s.G e.t=0) from fun h=>by have:=h.2;omega)]
   by_cases h10:e.k=10
   ·rw[if_pos h10]
    by_cases hb:0<=e.s/\e.s<c.s/\((d.que e.s.toNat).length:Int)<c.q
    ·have hq16:e.s.toNat<16:=by have:=hc.2.1.2;omega
     have hlq:(d.que e.s.toNat).length=(s.R (18+e.s.toNat)).length:=by rw[<-hR.que _ hq16];simp
     rw[if_pos hb,if_pos (show e.k=10/\s.G e.t=1/\0<=e.s/\e.s<c.s/\((s.R (18+e.s.toNat)).length:Int)<c.q from ⟨h10,c3,hb.1,hb.2.1,by rw[<-hlq];exact hb.2.2⟩)]
     have r0:(asks s e.s.toNat e.t).R 0=s.R 0:=zmx s _ _
     have rl: ∀j,j<18->(asks s e.s.toNat e.t).R j=s.R j:=fun j hj=>zaa _ _ (by omega)
     have rq: ∀j,j≠e.s.toNat->(asks s e.s.toNat e.t).R (18+j)=s.R (18+j):=fun j hj=>zaa _ _ (by omega)
     have rk:(asks s e.s.toNat e.t).R (18+e.s.toNat)=s.R (18+e.s.toNat)++[e.t]:=zad _ _ _
     refine StE.yes (by simp) ⟨P,t,?_⟩
     exact { hR with
      line:=hR.line.trans r0.symm
      gone:=hR.gone.trans (rl 1 (by omega)).symm
      que:=fun j hj=>by
       show (upd d.que e.s.toNat (d.que e.s.toNat++[(e.t,e.t)]) j).map (·.2)=_
       by_cases e2:j=e.s.toNat
       ·subst e2
        rw[zad,List.map_append,hR.que _ hj]
        exact rk.symm
       ·rw[zaa _ _ e2]
        exact (hR.que j hj).trans (rq j e2).symm
      lan:=fun i hi hni=>by
       obtain⟨q1,q2,q3,q4⟩:=hR.lan i hi hni
       have:=hR.pos hI hni
       refine⟨q1,q2,(rl (2+i) (by omega)).trans q3,?_⟩
       show updI s.F e.t _ (s.num i)=_
       rw[zaq _ _ (by omega)]
       exact q4
      qua:=fun j hj p hp=>by
       have hp':p∈upd d.que e.s.toNat (d.que e.s.toNat++[(e.t,e.t)]) j:=hp
       by_cases e2:j=e.s.toNat
       ·subst e2
        rw[zad]at hp'
        rcases List.mem_append.1 hp' with h|h
        ·exact hR.qua _ hj p h
        ·simp only[List.mem_singleton]at h
         subst h
         exact⟨fun hh=>absurd hh (by show ¬(0:Int)<e.t;omega),fun _=>⟨he,rfl⟩⟩
       ·rw[zaa _ _ e2]at hp'
        exact hR.qua j hj p hp'
      tal:=fun n=>by
       refine Eq.trans ?_ (congrArg (fun x:Nat=>(x:Int)) (zkt s _ e.s.toNat e.t n hq16 rk (fun j _ hj=>rq j hj)).symm)
       have h1:=hR.tal n
       show updI s.F e.t (s.F e.t+1) n=_
       by_cases e2:n=e.t
       ·subst e2
        rw[zbb,if_pos rfl]
        omega
       ·rw[zaq _ _ e2,if_neg e2]
        omega
      cnd:=by
       show ((d.cal.map (askC e.t)).map (fun x:Dc=>x.n)).Nodup
       rw[zvf]
       exact hR.cnd
      cal:=fun y hy=>by
       obtain⟨z,hz,rfl⟩:=List.mem_map.1 hy
       obtain⟨d1,d2,d3⟩:=hR.cal z hz
       show (askC e.t z).n<0/\updI s.F e.t (s.F e.t+1) (askC e.t z).n=((askC e.t z).asked:Int)-((askC e.t z).served:Int)/\s.G (askC e.t z).n=if (askC e.t z).ended=true then 2 else 1
       by_cases e2:z.n=e.t
       ·have e3:askC e.t z={ z with asked:=z.asked+1 }:=if_pos e2
        rw[e3]
        refine⟨d1,?_,d3⟩
        show updI s.F e.t (s.F e.t+1) z.n=((z.asked+1:Nat):Int)-(z.served:Int)
        rw[e2,zbb]
        rw[e2]at d2
        omega
       ·have e3:askC e.t z=z:=if_neg e2
        rw[e3,zaq _ _ e2]
        exact⟨d1,d2,d3⟩
      out:=fun n hn2 hx2=>by
       obtain⟨o1,o2⟩:=hR.out n hn2 (fun y hy=>by
        have:=hx2 (askC e.t y) (List.mem_map.2 ⟨y,hy,rfl⟩)
        rw[zku]at this
        exact this)
       refine⟨o1,?_⟩
       show updI s.F e.t _ n=0
       have hne:n≠e.t:=fun q=>hx2 (askC e.t x) (List.mem_map.2 ⟨x,hx,rfl⟩) (by rw[zku,hxn,q])
       rw[zaq _ _ hne]
       exact o2
      gon:=fun n hn2=>hR.gon n (by rw[<-rl 1 (by omega)];exact hn2)
      hv:=⟨kk,hn.same rfl rfl r0⟩
      pl:=hR.pl.trans r0.symm }
    ·have hb2: ¬(e.k=10/\s.G e.t=1/\0<=e.s/\e.s<c.s/\((s.R (18+e.s.toNat)).length:Int)<c.q):=fun h=>hb ⟨h.2.2.1,h.2.2.2.1,by
      have hq16:e.s.toNat<16:=by have:=hc.2.1.2;have:=h.2.2.2.1;omega
      have hlq:(d.que e.s.toNat).length=(s.R (18+e.s.toNat)).length:=by rw[<-hR.que _ hq16];simp
      rw[hlq]
      exact h.2.2.2.2⟩
     rw[if_neg hb,if_neg hb2,if_neg (fun h=>by have:=h.1;omega),if_neg (fun h=>by have:=h.1;omega)]
     exact StE.no _ _ _
   ·rw[if_neg h10,if_neg (show ¬(e.k=10/\s.G e.t=1/\0<=e.s/\e.s<c.s/\((s.R (18+e.s.toNat)).length:Int)<c.q) from fun h=>h10 h.1)]
    have hz:s.F e.t=0↔x.served=x.asked:=by constructor<;>intro h<;>omega
    by_cases h11:e.k=11
    ·rw[if_pos h11]
     by_cases hw:0<=e.c/\x.served=x.asked
     ·rw[if_pos (show e.k=11/\s.G e.t=1/\s.F e.t=0/\0<=e.c from ⟨h11,c3,hz.2 hw.2,hw.1⟩),decide_eq_true hw]
      exact StE.yes (by simp) ⟨P,t,hR⟩
     ·rw[if_neg (show ¬(e.k=11/\s.G e.t=1/\s.F e.t=0/\0<=e.c) from fun h=>hw ⟨h.2.2.2,hz.1 h.2.2.1⟩),if_neg (show ¬(e.k=12/\s.G e.t=1/\s.F e.t=0) from fun h=>by have:=h.1;omega),decide_eq_false hw]
      exact StE.no _ _ _
    ·rw[if_neg h11,if_neg (show ¬(e.k=11/\s.G e.t=1/\s.F e.t=0/\0<=e.c) from fun h=>h11 h.1)]
     by_cases h12:e.k=12
     ·rw[if_pos h12]
      by_cases hw:x.served=x.asked
      ·rw[if_pos (show e.k=12/\s.G e.t=1/\s.F e.t=0 from ⟨h12,c3,hz.2 hw⟩),decide_eq_true hw]
       refine StE.yes (by simp) ⟨P,t,?_⟩
       exact { hR with
        cnd:=by
         show ((d.cal.map (endC e.t)).map (fun x:Dc=>x.n)).Nodup
         rw[zvg]
         exact hR.cnd
        cal:=fun y hy=>by
         obtain⟨z,hz2,rfl⟩:=List.mem_map.1 hy
         obtain⟨d1,d2,d3⟩:=hR.cal z hz2
         show (endC e.t z).n<0/\s.F (endC e.t z).n=((endC e.t z).asked:Int)-((endC e.t z).served:Int)/\updI s.G e.t 2 (endC e.t z).n=if (endC e.t z).ended=true then 2 else 1
         by_cases e2:z.n=e.t
         ·have e3:endC e.t z={ z with ended:=true }:=if_pos e2
          rw[e3]
          refine⟨d1,d2,?_⟩
          show updI s.G e.t 2 z.n=_
          rw[e2,zbb]
          rfl
         ·have e3:endC e.t z=z:=if_neg e2
          rw[e3,zaq _ _ e2]
          exact⟨d1,d2,d3⟩
        out:=fun n hn2 hx2=>by
         obtain⟨o1,o2⟩:=hR.out n hn2 (fun y hy=>by
          have:=hx2 (endC e.t y) (List.mem_map.2 ⟨y,hy,rfl⟩)
          rw[zkv]at this
          exact this)
         refine⟨?_,o2⟩
         show updI s.G e.t 2 n=0
         have hne:n≠e.t:=fun q=>hx2 (endC e.t x) (List.mem_map.2 ⟨x,hx,rfl⟩) (by rw[zkv,hxn,q])
         rw[zaq _ _ hne]
         exact o1
        hv:=⟨kk,hn.same rfl rfl rfl⟩ }
      ·rw[if_neg (show ¬(e.k=12/\s.G e.t=1/\s.F e.t=0) from fun h=>hw (hz.1 h.2.2)),decide_eq_false hw]
       exact StE.no _ _ _
     ·rw[if_neg h12,if_neg (show ¬(e.k=12/\s.G e.t=1/\s.F e.t=0) from fun h=>h12 h.1)]
      exact StE.no _ _ _
theorem zxx (hR:Rl c T m0 xs s d P t) (hI:Iv c T s k) (hc:c.may) (e:Ev):StE c T m0 xs (nxtD c T xs d e) (stp c T s e):=by
 unfold nxtD stp
 have hl:=hc.1
 have hs:=hc.2.1
 by_cases h1:e.t<0
 ·rw[if_pos h1,if_pos h1]
  exact zxw hR hI hc h1
 ·rw[if_neg h1,if_neg h1]
  by_cases h2:e.t=0
  ·rw[if_pos h2,if_pos h2]
   exact zxr hR hI
  ·rw[if_neg h2,if_neg h2]
   by_cases h3:e.t<=c.l
   ·rw[if_pos h3,if_pos h3]
    exact zxv hR hI hc (by omega)
   ·rw[if_neg h3,if_neg h3]
    by_cases h4:e.t<=c.l+c.s
    ·rw[if_pos h4,if_pos h4]
     exact zxu hR hI (by omega)
    ·rw[if_neg h4,if_neg h4]
     by_cases h5:e.t=c.l+c.s+1
     ·rw[if_pos h5,if_pos h5]
      exact zxs hR hI
     ·rw[if_neg h5,if_neg h5]
      exact StE.no _ _ _
def CanD (c:Cf) (T:List Tx) (xs:List Int) (d:Ds) (e:Ev):Prop:=(nxtD c T xs d e).1.2=true/\e=⟨e.t,(nxtD c T xs d e).1.1.k,(nxtD c T xs d e).1.1.n,(nxtD c T xs d e).1.1.s,(nxtD c T xs d e).1.1.c,(nxtD c T xs d e).2.ma⟩
theorem zkw (hR:Rl c T m0 xs s d P t) (hI:Iv c T s k) (hc:c.may) (e:Ev):(CanD c T xs d e↔Can c T s e)/\(Can c T s e-> ∃P t,Rl c T m0 xs (stp c T s e).2 (nxtD c T xs d e).2 P t):=by
 obtain⟨hA,hB⟩:=zxx hR hI hc e
 unfold CanD Can tolE
 by_cases hlt:e.t<c.l+c.s+2
 ·rw[if_pos hlt]
  cases hb:(nxtD c T xs d e).1.2 with
  | false =>
   have h0:=hA hb
   exact⟨⟨fun h=>(by cases h.1),fun h=>absurd h0 h.1⟩,fun h=>absurd h0 h.1⟩
  | true =>
   obtain⟨h1,h2,P2,t2,h3⟩:=hB hb
   rw[<-h1,h3.ma]
   exact⟨⟨fun h=>⟨h2,h.2.symm⟩,fun h=>⟨rfl,h.2.symm⟩⟩,fun _=>⟨P2,t2,h3⟩⟩
 ·rw[if_neg hlt]
  have hno:(nxtD c T xs d e).1.2=false:=by
   have hl:=hc.1
   have hs:=hc.2.1
   unfold nxtD
   rw[if_neg (by omega),if_neg (by omega),if_neg (by omega),if_neg (by omega),if_neg (by omega)]
  rw[hno]
  exact⟨⟨fun h=>(by cases h.1),fun h=>absurd rfl h.1⟩,fun h=>absurd rfl h.1⟩
open Classical in
noncomputable def zcb (c:Cf) (T:List Tx) (xs:List Int) (d:Ds):List Ev->Nat
 | []=>0
 | e::r=>if CanD c T xs d e then zcb c T xs (nxtD c T xs d e).2 r+1 else 0
theorem ziv (hc:c.may) (hT:Lk T): ∀(es:List Ev) (s:Sy) (d:Ds) (P:List Int) (t k:Nat),Rl c T m0 xs s d P t->Iv c T s k->(∀x∈es,EEach x)->zcb c T xs d es=(goes c T s es).1
 | [],s,d,P,t,k,_,_,_=>rfl
 | e::r,s,d,P,t,k,hR,hI,hE=>by
  obtain⟨h1,h2⟩:=zkw hR hI hc e
  by_cases hC:Can c T s e
  ·obtain⟨P2,t2,h3⟩:=h2 hC
   obtain⟨n,hv⟩:=hR.hv
   have ih:=ziv hc hT r _ _ P2 t2 (k+1) h3 (hI.stp hc hT hv.ris (hE e List.mem_cons_self).t) (fun x hx=>hE x (List.mem_cons_of_mem _ hx))
   simp only[zcb,goes,if_pos hC,if_pos (h1.2 hC),ih]
  ·simp only[zcb,goes,if_neg hC,if_neg (fun h=>hC (h1.1 h))]
def ds0 (m:Int) (xs:List Int):Ds:=⟨m,0,[],fun _=>False,m,xs,[],[],fun _=>⟨0,false,0,0⟩,fun _=>[],[]⟩
theorem zmz {m:Int} (h:Gok m xs):Rl c T m xs (sy0 m xs) (ds0 m xs) [] 0:=by
 refine { at_:=rfl,held:=rfl,L:=rfl,en:=rfl,ma:=rfl,bx:=rfl,line:=rfl,gone:=rfl,que:=fun j hj=>rfl,has:=fun i hi=>⟨fun h=>(by cases h),fun h=>absurd rfl h⟩,lan:=fun i hi h=>absurd rfl h,apart:=fun i j _ _ h=>absurd rfl h,tak:=fun i hi h=>absurd rfl h,qua:=fun j hj q hq=>(by cases hq),tal:=fun n=> ?_,cnd:=List.nodup_nil,cal:=fun x hx=>(by cases hx),out:=fun n _ _=>⟨rfl,rfl⟩,gt:=h.1,g1:=fun x hx=> ?_,g2:=fun x hx=> .inr hx,rm:=⟨Int.le_refl _,fun h=>(by cases h)⟩,gon:=fun n hn=>(by cases hn),hv:=⟨0,RisL.nil,List.nodup_nil,by simp,rfl,by simp,rfl⟩,pl:=rfl }
 ·rw[ziu (fun j hj hm=>by cases hm)]
  rfl
 ·rcases hx with h|h
  ·exact .inl h
  ·exact .inr (.inl h)
end
theorem zbr {l:List Dc} (h:(l.map (fun x:Dc=>x.n)).Nodup) {i j:Nat} (hi:i<l.length) (hj:j<l.length) (e:l[i].n=l[j].n):i=j :=
 (List.getElem_inj (h₀:=by simpa using hi) (h₁:=by simpa using hj) h).1 (by rw[List.getElem_map,List.getElem_map];exact e)
theorem zby {l:List Dc} (h:(l.map (fun x:Dc=>x.n)).Nodup) {t:Int} {j:Nat} (hj:j<l.length) (e:l[j].n=t):l.find? (fun x=>x.n==t)=some l[j]:=by
 cases hf:l.find? (fun x=>x.n==t) with
 | none =>
  have:=List.find?_eq_none.1 hf l[j] (List.getElem_mem hj)
  simp[e]at this
 | some x =>
  have hx:=List.mem_of_find?_eq_some hf
  have hxn:x.n=t:=by simpa using List.find?_some hf
  obtain⟨i,hi,rfl⟩:=List.getElem_of_mem hx
  have:=zbr h hi hj (hxn.trans e.symm)
  subst this
  rfl
theorem zzh {l:List Dc} {t:Int} (h: ∀j (hj:j<l.length),l[j].n≠t):l.find? (fun x=>x.n==t)=none:=by
 rw[List.find?_eq_none]
 intro x hx
 obtain⟨i,hi,rfl⟩:=List.getElem_of_mem hx
 simpa using h i hi
theorem zna {l:List Dc} (h:(l.map (fun x:Dc=>x.n)).Nodup) {t:Int} (f:Dc->Dc) (hf: ∀x,x.n≠t->f x=x) {j:Nat} (hj:j<l.length) (e:l[j].n=t):l.map f=l.set j (f l[j]):=by
 refine List.ext_getElem (by simp) fun i h1 h2=> ?_
 rw[List.getElem_map,List.getElem_set]
 by_cases q:j=i
 ·subst q
  simp
 ·rw[if_neg q]
  refine hf _ fun e2=>q ?_
  exact zbr h hj (by simpa using h1) (e.trans e2.symm)
theorem zaad (w:World) (x:Dc):Src Tryz.prog 4 85 (.slice (some ⟨w.heap.size,0,none⟩) 1 1) 1 (cC x) (w.alloc (.cells #[.int .i64 x.n,.int .i64 (x.asked:Int),.int .i64 (x.served:Int),.bool x.ended] 206)):=by
 refine Src.ofSlice _ Tryz.undC21 _ 1 1 _ rfl ?_ (fun u hu=>zxq [x] u (by simpa[csC]using hu))
 intro j u hu
 rw[Addr.add_lit,cell_of_row _ _ _ _ _ _ (heap_alloc_new w (.cells #[.int .i64 x.n,.int .i64 (x.asked:Int),.int .i64 (x.served:Int),.bool x.ended] 206)),Nat.zero_add]
 rw[show (#[Value.int .i64 x.n,.int .i64 (x.asked:Int),.int .i64 (x.served:Int),.bool x.ended]:Array Value)=(cC x).toArray from rfl,List.getElem?_toArray]
 exact hu
theorem zsh (w:World) (ty:TypeId) (lo:Option Addr) (n c:Nat) (xs:List Dc) (t:Int) (h:QC w lo n c xs) (hn:n<=1099511627776) :
  ∃lo' c' w',(Builtin.append_ #[85,85] ty #[.slice lo n c,.slice (some ⟨w.heap.size,0,none⟩) 1 1]).run Tryz.prog (w.alloc (.cells #[.int .i64 t,.int .i64 0,.int .i64 0,.bool false] 206))= .ok (.slice lo' (n+1) c') w'/\QC w' lo' (n+1) c' (xs++[⟨t,0,0,false⟩])/\Fr (qb lo).toList w w'/\(qb lo'=qb lo\/ ∃k,qb lo'=some k/\w.heap.size<=k):=by
 obtain⟨lo',c',w',h1,h2,h3,h4⟩:=zvd (w.alloc (.cells #[.int .i64 t,.int .i64 0,.int .i64 0,.bool false] 206)) ty lo n c xs _ ⟨t,0,0,false⟩ (h.keep (Fr.alloc [] w _) (by simp)) (zaad w ⟨t,0,0,false⟩) hn
 refine⟨lo',c',w',h1,h2,(Fr.alloc _ w _).then h3,?_⟩
 rcases h4 with h4|⟨k,h4,h5⟩
 ·exact Or.inl h4
 ·exact Or.inr ⟨k,h4,Nat.le_trans (Fr.alloc [] w (.cells #[.int .i64 t,.int .i64 0,.int .i64 0,.bool false] 206)).size h5⟩
theorem zey {ops:Array Oper} {o:Oper} {a:Act} {K:Act->World->Prop} {Q:Exit->Act->World->Prop} {E:Prop} (w:World) (hgd:o.guard=none) (s x:Operand)
  (ho:o.op= .call { callee:= .builtin .append,args:= #[s,x],argTypes:= #[85,85] }) (lo:Option Addr) (n c:Nat) (xs:List Dc) (t:Int) (hs:a.eval s= .slice lo n c) (h:QC w lo n c xs) (hn:n<=1099511627776)
  (hx:a.eval x= .slice (some ⟨w.heap.size,0,none⟩) 1 1)
  (hK: ∀lo' c' w',QC w' lo' (n+1) c' (xs++[⟨t,0,0,false⟩])->Fr (qb lo).toList w w'->(qb lo'=qb lo\/ ∃k,qb lo'=some k/\w.heap.size<=k)->K (a.put o.dst (.slice lo' (n+1) c')) w') :
  if Region.wanted o (yielded ops a.tmps)=true then Oper.wp Tryz.prog o a (w.alloc (.cells #[.int .i64 t,.int .i64 0,.int .i64 0,.bool false] 206)) K Q else E:=by
 have hw:Region.wanted o (yielded ops a.tmps)=true:=by simp[Region.wanted,hgd]
 rw[if_pos hw]
 obtain⟨lo',c',w',hr,h2,h3,h4⟩:=zsh w o.type lo n c xs t h hn
 unfold Oper.wp execOp
 simp only[ho,resolve,invoke,builtin,Sem.run_bind,Sem.run_pure,Result.andThen_ok,List.map_toArray,List.map_cons,List.map_nil,hs,hx,hr]
 exact hK lo' c' w' h2 h3 h4
section
variable {wS w:World} {Z:Zd} {c:Cf} {ts:List Tm} {xs:List Int} {d:Ds}
theorem DsM.calCell (h:DsM wS w Z c ts xs d) {b off:Nat} (hb:Z.cl.lo=some ⟨b,off,none⟩) {j:Nat} (hj:j<d.cal.length):w.cell? ⟨b,off+j*4,none⟩=some (.int .i64 d.cal[j].n)/\w.cell? ⟨b,off+j*4+1,none⟩=some (.int .i64 (d.cal[j].asked:Int))/\w.cell? ⟨b,off+j*4+2,none⟩=some (.int .i64 (d.cal[j].served:Int))/\w.cell? ⟨b,off+j*4+3,none⟩=some (.bool d.cal[j].ended):=by
 have hQ:QC w Z.cl.lo Z.cl.n Z.cl.c d.cal:=h.pm 7
 obtain⟨b',o',e,_,hc⟩:=hQ.cell (by have:=hQ.len;omega)
 rw[hb]at e
 cases e
 exact⟨hc j 0 hj (by decide),hc j 1 hj (by decide),hc j 2 hj (by decide),hc j 3 hj (by decide)⟩
theorem DsM.calRow (h:DsM wS w Z c ts xs d):w.cell? ⟨Z.sb,14,none⟩=some (.slice Z.cl.lo d.cal.length Z.cl.c)/\d.cal.length<=Z.cl.c/\(0<d.cal.length-> ∃b off,Z.cl.lo=some ⟨b,off,none⟩):=by
 have hQ:QC w Z.cl.lo Z.cl.n Z.cl.c d.cal:=h.pm 7
 have:=h.cell (j:=14) (v:=Z.cl.v) rfl
 refine⟨by rw[<-hQ.len];exact this,by rw[<-hQ.len];exact hQ.fit,fun h0=> ?_⟩
 obtain⟨b,o,e,_⟩:=hQ.cell (by have:=hQ.len;omega)
 exact⟨b,o,e⟩
theorem DsM.calSet (h:DsM wS w Z c ts xs d) {b off:Nat} (hb:Z.cl.lo=some ⟨b,off,none⟩) {j k:Nat} (hj:j<d.cal.length) (hk:k<4) (v:Value) (y:Dc) (hy:(cC d.cal[j]).set k v=cC y):w.frozen? ⟨b,off+j*4+k,none⟩=false/\DsM wS (w.setCell ⟨b,off+j*4+k,none⟩ v) Z c ts xs { d with cal:=d.cal.set j y }/\Mvd w Z (w.setCell ⟨b,off+j*4+k,none⟩ v) Z:=by
 have hQ:QC w Z.cl.lo Z.cl.n Z.cl.c d.cal:=h.pm 7
 obtain⟨b',o',e,h1,h2,h3⟩:=hQ.set j k hj hk v y hy
 rw[hb]at e
 cases e
 exact⟨h2,h.cals h3 h1⟩
end
end Go.Proofs.YtaaghcimfcjehaaGreatDoor
