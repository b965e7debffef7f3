/- Contracts and plain lemmas of this claim. -/
import Derived.Test.YtaaghcimfcjehaaGreatDoorGp18
import Derived.Deep.Slices
import Derived.SizedLaws
import Derived.Deep.RegionWith
import Derived.Deep.LoopGhost
import Derived.Laws.StructEq
import Derived.Orders
import Derived.Test.YtaaghcimfcjehaaGreatDoorGp22
set_option linter.unusedSimpArgs false
set_option linter.unusedVariables false
set_option maxRecDepth 100000
namespace Go.Proofs.YtaaghcimfcjehaaGreatDoor
open Go.ChangeShapes Go.WideShapes Go.ChangeAt Go.RowKit Go.Lib
structure EAt (w:World) (b o:Nat) (x:Ev):Prop where
 c0:w.cell? ⟨b,o,none⟩=some (.int .i64 x.t)
 c1:w.cell? ⟨b,o+1,none⟩=some (.int .u8 x.k)
 c2:w.cell? ⟨b,o+2,none⟩=some (.int .i64 x.n)
 c3:w.cell? ⟨b,o+3,none⟩=some (.int .i64 x.s)
 c4:w.cell? ⟨b,o+4,none⟩=some (.int .i64 x.c)
 c5:w.cell? ⟨b,o+5,none⟩=some (.int .i64 x.m)
structure EEach (x:Ev):Prop where
 t:I6 x.t
 k:0<=x.k/\x.k<=255
 n:I6 x.n
 s:I6 x.s
 c:I6 x.c
 m:I6 x.m
structure ERs (w:World) (ao:Option Addr) (es:List Ev):Prop where
 lies:0<es.length-> ∃b off,ao=some ⟨b,off,none⟩/\b<w.heap.size/\ ∀i,i<es.length->EAt w b (off+i*6) (es.getD i Ev.no)
 few:es.length<=4398046511104
 each: ∀x∈es,EEach x
theorem ERs.nil (w:World) (ao:Option Addr):ERs w ao []:=⟨fun h=>by simp at h,by simp,by simp⟩
theorem ERs.keepS {S:List Nat} {w w':World} {ao:Option Addr} {es:List Ev} (h:ERs w ao es) (hf:Fr S w w') (hn:0<es.length-> ∀a,ao=some a->a.block∉S):ERs w' ao es:=by
 refine⟨fun h0=> ?_,h.few,h.each⟩
 obtain⟨b,off,e,hb,hc⟩:=h.lies h0
 have hk: ∀o,w'.cell? ⟨b,o,none⟩=w.cell? ⟨b,o,none⟩:=fun o=>World.cell?_of_block (hf.block b hb (hn h0 _ e))
 exact⟨b,off,e,Nat.lt_of_lt_of_le hb hf.size,fun i hi=>⟨(hk _).trans (hc i hi).c0,(hk _).trans (hc i hi).c1,(hk _).trans (hc i hi).c2,(hk _).trans (hc i hi).c3,(hk _).trans (hc i hi).c4,(hk _).trans (hc i hi).c5⟩⟩
theorem ERs.keep {w w':World} {ao:Option Addr} {es:List Ev} (h:ERs w ao es) (hf:Fr [] w w'):ERs w' ao es:=h.keepS hf (by simp)
theorem zrj (es:List Ev) (i:Nat) (h:i<es.length):es.getD i Ev.no∈es:=by simp[List.getD,h]
theorem zep (es:List Ev) (i:Nat) (h:i<es.length):es.take (i+1)=es.take i++[es.getD i Ev.no]:=by
 rw[List.take_add_one]
 simp[List.getD,h]
theorem znv (es:List Ev) (i:Nat) (h:i<es.length):es=es.take i++es.getD i Ev.no::es.drop (i+1):=by
 rw[show es.getD i Ev.no=es[i] by simp[List.getD,h],<-List.drop_eq_getElem_cons h,List.take_append_drop]
section
variable {H:Type} {enc:TypeId×Value->H}
theorem Tryz.undEvs':Tryz.prog.underlying 29=some (.slice 62):=by kernel_rfl
theorem Tryz.cellsEvt:Tryz.prog.cellsOf 62=6:=by kernel_rfl
theorem Tryz.evtFields:(match Tryz.prog.underlying 62 with|some (.struct fs)=>fs.toList.map (fun f=>(f.type,f.offset))|_=>[])=[(3,0),(60,1),(3,2),(3,3),(3,4),(3,5)]:=by kernel_rfl
theorem Tryz.eundI:Tryz.prog.underlying 3=some (.int .i64):=by kernel_rfl
theorem Tryz.eundK:Tryz.prog.underlying 60=some (.int .u8):=by kernel_rfl
theorem Tryz.ecI:Tryz.prog.cellsOf 3=1:=by kernel_rfl
theorem Tryz.ecK:Tryz.prog.cellsOf 60=1:=by kernel_rfl
theorem zub {w:World} {base:Nat} {spare:Nat->Bool} {held:Bool} {fuel:Nat} {cs:List Value} {x:DataW H×List MemPlace} (h:DataW.trod enc Tryz.prog w base spare held fuel 62 cs=some x) :
  ∃e:Ev,cs=[.int .i64 e.t,.int .u8 e.k,.int .i64 e.n,.int .i64 e.s,.int .i64 e.c,.int .i64 e.m]/\EEach e:=by
 have hF:=Tryz.evtFields
 cases hu:Tryz.prog.underlying 62 with
 | none=>rw[hu]at hF;simp at hF
 | some u =>
  rw[hu]at hF
  cases u with
  | struct fs =>
   simp only at hF
   obtain⟨ys,n,_,hx,hlen,hys,hf⟩:=DataW.trod_struct hu h
   rw[Tryz.cellsEvt]at hlen
   match cs,hlen with
   | [v0,v1,v2,v3,v4,v5],_ =>
    have hl6:fs.toList.length=6:=by have:=congrArg List.length hF;simpa using this
    obtain⟨l,hl⟩: ∃l,l=fs.toList:=⟨_,rfl⟩
    rw[<-hl]at hF hl6
    match l,hl6 with
    | [f0,f1,f2,f3,f4,f5],_ =>
     simp only[List.map_cons,List.map_nil,List.cons.injEq,Prod.mk.injEq,and_true]at hF
     obtain⟨⟨t0,o0⟩,⟨t1,o1⟩,⟨t2,o2⟩,⟨t3,o3⟩,⟨t4,o4⟩,⟨t5,o5⟩⟩:=hF
     have g: ∀(i:Nat) (f:Field),[f0,f1,f2,f3,f4,f5][i]? = some f->fs[i]? = some f:=by
      intro i f hi
      rw[hl]at hi
      simpa using hi
     have r0:=hf 0 f0 (g 0 f0 rfl)
     have r1:=hf 1 f1 (g 1 f1 rfl)
     have r2:=hf 2 f2 (g 2 f2 rfl)
     have r3:=hf 3 f3 (g 3 f3 rfl)
     have r4:=hf 4 f4 (g 4 f4 rfl)
     have r5:=hf 5 f5 (g 5 f5 rfl)
     rw[t0,o0,Tryz.ecI]at r0
     rw[t1,o1,Tryz.ecK]at r1
     rw[t2,o2,Tryz.ecI]at r2
     rw[t3,o3,Tryz.ecI]at r3
     rw[t4,o4,Tryz.ecI]at r4
     rw[t5,o5,Tryz.ecI]at r5
     simp only[List.drop_zero,List.drop_succ_cons,List.take_succ_cons,List.take_zero]at r0 r1 r2 r3 r4 r5
     have hy6:ys.length=6:=by rw[hys];have:=congrArg List.length hl;simpa using this.symm
     match ys,hy6 with
     | [y0,y1,y2,y3,y4,y5],_ =>
      simp only[List.getElem?_cons_zero,List.getElem?_cons_succ]at r0 r1 r2 r3 r4 r5
      obtain⟨k0,e0,_,w0⟩:=DataW.trod_int Tryz.eundI r0
      obtain⟨k1,e1,_,w1⟩:=DataW.trod_int Tryz.eundK r1
      obtain⟨k2,e2,_,w2⟩:=DataW.trod_int Tryz.eundI r2
      obtain⟨k3,e3,_,w3⟩:=DataW.trod_int Tryz.eundI r3
      obtain⟨k4,e4,_,w4⟩:=DataW.trod_int Tryz.eundI r4
      obtain⟨k5,e5,_,w5⟩:=DataW.trod_int Tryz.eundI r5
      simp only[List.cons.injEq,and_true]at e0 e1 e2 e3 e4 e5
      exact⟨⟨k0,k1,k2,k3,k4,k5⟩,by rw[e0,e1,e2,e3,e4,e5],bounds_i64 w0,bounds_u8 w1,bounds_i64 w2,bounds_i64 w3,bounds_i64 w4,bounds_i64 w5⟩
  | _=>simp at hF
theorem zuc {w:World} {fuel:Nat} {v:Value} {d:DataW H} {ps:List MemPlace} (h:DataW.trod enc Tryz.prog w 0 (fun _=>true) true fuel 29 [v]=some (d,ps)) (hsz: ∀n∈d.weights Tryz.prog 29,n<=reachBytes) :
  ∃ao L cap es,v= .slice ao L cap/\ERs w ao es/\L=es.length/\L<=cap/\cap*48<=140737488355328/\(∃n∈d.weights Tryz.prog 29,n=cap*48)\/v= .slice none 0 0:=by
 rcases Go.Deep.open_slice Tryz.undEvs' h with ⟨hcs,_⟩|⟨a,len,cap,m,n,D,Pl,hcs,hb,hl,hm,hmm,hx,hE⟩
 ·simp only[List.cons.injEq,and_true]at hcs
  exact⟨none,0,0,[],Or.inr hcs⟩
 ·simp only[List.cons.injEq,and_true]at hcs
  simp only[if_true]at hmm
  subst hmm
  rw[Tryz.cellsEvt]at hE hx
  have hO: ∀i,i<m-> ∃o:Ev,(w.cells? 0 (a.add (i*6)) 6=some [.int .i64 o.t,.int .u8 o.k,.int .i64 o.n,.int .i64 o.s,.int .i64 o.c,.int .i64 o.m])/\EEach o:=by
   intro i hi
   obtain⟨cs',h1,h2⟩:=hE i hi
   obtain⟨o,rfl,rest⟩:=zub h2
   exact⟨o,h1,rest⟩
  haveI:Inhabited Ev:=⟨Ev.no⟩
  obtain⟨F,hF⟩:=Go.Deep.choose_lt hO
  have hd:d= .slice ((List.range len).map D) ((List.range (m-len)).map fun j=>D (len+j)):=by have:=congrArg Prod.fst hx;simpa using this
  have hr:=reachBytes_lt
  have hin:m*48∈d.weights Tryz.prog 29:=by
   rw[hd]
   simp only[DataW.weights,Tryz.undEvs',List.length_map,List.length_range]
   rw[show len+(m-len)=m by omega,show Tryz.prog.bytesOf 62=48 from by kernel_rfl]
   exact List.mem_cons_self
  have hm48:m*48<=140737488355328:=by have:=hsz _ hin;omega
  refine⟨some a,len,m,(List.range len).map F,Or.inl ⟨hcs,⟨fun h0=> ?_,by simp;omega,?_⟩,by simp,hl,hm48,_,hin,rfl⟩⟩
  rotate_left
  ·intro o ho
   obtain⟨i,hi,rfl⟩:=List.mem_map.1 ho
   have hi':i<len:=by simpa using hi
   exact (hF i (by omega)).2
  ·simp only[List.length_map,List.length_range]at h0 ⊢
   have hc0:=(World.cells?_some (hF 0 (by omega)).1).2.2
   obtain⟨b,off,spot⟩:=a
   have hspot:spot=none:=by
    have:=hc0 0 (by omega)
    simp at this
    simpa[Addr.add]using World.cell?_spot this
   subst hspot
   have hcell: ∀i,i<len-> ∀j,j<6->w.cell? ⟨b,off+i*6+j,none⟩=[Value.int .i64 (F i).t,.int .u8 (F i).k,.int .i64 (F i).n,.int .i64 (F i).s,.int .i64 (F i).c,.int .i64 (F i).m][j]? :=by
    intro i hi j hj
    have:=(World.cells?_some (hF i (by omega)).1).2.2 j hj
    rw[show ((⟨b,off,none⟩:Addr).add (i*6)).add j=⟨b,off+i*6+j,none⟩ from by rw[Addr.add_lit,Addr.add_lit]]at this
    exact this
   refine⟨b,off,rfl,World.block_lt_of_cell? w ⟨b,off+0*6+0,none⟩ (by rw[hcell 0 (by omega) 0 (by omega)];rfl),fun i hi=> ?_⟩
   have e:((List.range len).map F).getD i Ev.no=F i:=by simp[List.getD,hi]
   rw[e]
   exact⟨hcell i hi 0 (by omega),hcell i hi 1 (by omega),hcell i hi 2 (by omega),hcell i hi 3 (by omega),hcell i hi 4 (by omega),hcell i hi 5 (by omega)⟩
end
theorem Tryz.undEvt:Tryz.prog.underlying 62=some (.struct (Tryz.prog.fieldsOf 62)):=by kernel_rfl
theorem Tryz.heldEvt:Tryz.prog.stoodInHeld 62=false:=by kernel_rfl
theorem Tryz.guardEvt:Tryz.prog.eqGuardType Tryz.prog.depth 62=false:=by kernel_rfl
theorem Tryz.fieldsEvt:(Tryz.prog.fieldsOf 62).toList.map (fun f=>(f.name == "_",f.type,f.offset))=[(false,3,0),(false,60,1),(false,3,2),(false,3,3),(false,3,4),(false,3,5)]:=by kernel_rfl
theorem zbn (w:World) (cs:Array Value) (off:Nat) (v:Value) (h:cs[off]? = some v):(part 3 cs off).run Tryz.prog w= .ok v w:=by
 simp[part,isAgg,run_underlying Tryz.eundI,h,Sem.run_bind]
theorem zkc (w:World) (cs:Array Value) (off:Nat) (v:Value) (h:cs[off]? = some v):(part 60 cs off).run Tryz.prog w= .ok v w:=by
 simp[part,isAgg,run_underlying Tryz.eundK,h,Sem.run_bind]
theorem zed (w:World) (a b:Int):(Op.equalIn 9999 3 (.int .i64 a) (.int .i64 b)).run Tryz.prog w= .ok (a==b) w:=run_equalIn_int w 9998 _ .i64 .i64 a b Tryz.eundI
theorem zys (w:World) (a b:Int):(Op.equalIn 9999 60 (.int .u8 a) (.int .u8 b)).run Tryz.prog w= .ok (a==b) w:=run_equalIn_int w 9998 _ .u8 .u8 a b Tryz.eundK
theorem zca {P:Program} {w:World} {A B:Sem Value} {E:Value->Value->Sem Bool} {K:Sem Bool} {a b:Value} {r:Bool} (hA:A.run P w= .ok a w) (hB:B.run P w= .ok b w) (hE:(E a b).run P w= .ok r w) :
  (do let a <- A;let b <- B;let r <- E a b;if (!r)=true then pure false else K:Sem Bool).run P w=if r=true then K.run P w else .ok false w:=by
 simp only[Sem.run_bind,hA,hB,hE,Result.andThen_ok]
 cases r<;>simp
def zbl (x y:Ev):Bool:=x.t==y.t&&(x.k==y.k&&(x.n==y.n&&(x.s==y.s&&(x.c==y.c&&x.m==y.m))))
theorem zbt (x y:Ev):zbl x y=true↔x=y:=by
 obtain⟨a0,a1,a2,a3,a4,a5⟩:=x
 obtain⟨b0,b1,b2,b3,b4,b5⟩:=y
 simp only[zbl,Bool.and_eq_true,beq_iff_eq,Ev.mk.injEq]
theorem zbx (w:World) (x y:Ev):(Op.equalIn 10000 62 (.agg #[.int .i64 x.t,.int .u8 x.k,.int .i64 x.n,.int .i64 x.s,.int .i64 x.c,.int .i64 x.m]) (.agg #[.int .i64 y.t,.int .u8 y.k,.int .i64 y.n,.int .i64 y.s,.int .i64 y.c,.int .i64 y.m])).run Tryz.prog w= .ok (zbl x y) w:=by
 rw[run_equalIn_struct w 9999 _ _ _ Tryz.undEvt Tryz.heldEvt]
 have hF:=Tryz.fieldsEvt
 obtain⟨l,hl⟩: ∃l,l=(Tryz.prog.fieldsOf 62).toList:=⟨_,rfl⟩
 rw[<-hl]at hF ⊢
 match l,hF with
 | [f0,f1,f2,f3,f4,f5],hF =>
  simp only[List.map_cons,List.map_nil,List.cons.injEq,Prod.mk.injEq,and_true]at hF
  obtain⟨⟨n0,t0,o0⟩,⟨n1,t1,o1⟩,⟨n2,t2,o2⟩,⟨n3,t3,o3⟩,⟨n4,t4,o4⟩,⟨n5,t5,o5⟩⟩:=hF
  have m0:f0.name≠ "_" :=by simpa using n0
  have m1:f1.name≠ "_" :=by simpa using n1
  have m2:f2.name≠ "_" :=by simpa using n2
  have m3:f3.name≠ "_" :=by simpa using n3
  have m4:f4.name≠ "_" :=by simpa using n4
  have m5:f5.name≠ "_" :=by simpa using n5
  simp only[Op.eqFields,if_pos m0,if_pos m1,if_pos m2,if_pos m3,if_pos m4,if_pos m5,t0,t1,t2,t3,t4,t5,o0,o1,o2,o3,o4,o5]
  rw[zca (zbn w _ 0 _ rfl) (zbn w _ 0 _ rfl) (zed w x.t y.t)]
  rw[zca (zkc w _ 1 _ rfl) (zkc w _ 1 _ rfl) (zys w x.k y.k)]
  rw[zca (zbn w _ 2 _ rfl) (zbn w _ 2 _ rfl) (zed w x.n y.n)]
  rw[zca (zbn w _ 3 _ rfl) (zbn w _ 3 _ rfl) (zed w x.s y.s)]
  rw[zca (zbn w _ 4 _ rfl) (zbn w _ 4 _ rfl) (zed w x.c y.c)]
  rw[zca (zbn w _ 5 _ rfl) (zbn w _ 5 _ rfl) (zed w x.m y.m)]
  unfold zbl
  cases (x.t==y.t)<;>cases (x.k==y.k)<;>cases (x.n==y.n)<;>cases (x.s==y.s)<;>cases (x.c==y.c)<;>cases (x.m==y.m)<;>simp
theorem zxa {c:Cf} {T:List Tx} {s:Sy} {e:Ev} (hc:c.may) (h:c.l+c.s+2<=e.t):stp c T s e=(Te.no,s):=by
 have h1:=hc.1
 have h2:=hc.2.1
 unfold stp
 rw[if_neg (by omega),if_neg (by omega),if_neg (by omega),if_neg (by omega),if_neg (by omega)]
theorem zud {wS w:World} {Z:Zs} {c:Cf} {s:Sy} {k:Nat} {ts:List Tm} (h:At wS w Z c s k ts) (hN:Nms w) (e:Ev) (he:EEach e) (Q:Nat) (hQ:w.heap[Q]? = some (.cells #[.pointer (some ⟨Z.sb,0,none⟩)] 71 (0,0))) :
  Calls Tryz.prog 78 #[.pointer (some ⟨Z.sb,0,none⟩),.agg (kdA Q),.agg (evA e.t e.k e.n e.s e.c e.m)] w (znu w Z c k (tolE c (txs ts) s e) (stp c (txs ts) s e).2):=by
 by_cases ht:e.t<c.l+c.s+2
 ·obtain⟨K,x,hK⟩:=KT.ex c.l c.s e.t ht
  have:=zua h hN e he.t he.s Q hQ hK ht
  unfold tolE
  rw[if_pos ht]
  exact this
 ·unfold tolE
  rw[if_neg ht,zxa h.st.may (by omega)]
  exact zwz h hN e he.t Q (by omega)
theorem At.next {wS w w':World} {Z Z':Zs} {c:Cf} {s s':Sy} {k:Nat} {ts:List Tm} {e:Ev} (h:At wS w Z c s k ts) (he:EEach e) (hS:SyM w' Z' c (stp c (txs ts) s e).2 (k+1)) (hM:Mv w Z w' Z') (hk:k+1<=4194304):At wS w' Z' c (stp c (txs ts) s e).2 (k+1) ts :=
 ⟨hS,h.cx.next hM,h.lk,h.iv.stp h.st.may h.lk h.st.deps.ris he.t,hk⟩
open Go.Maps
structure Fol (wS w:World) (sb:Nat) (c:Cf) (s:Sy) (k:Nat) (ts:List Tm) (es:List Ev) (Q b i:Nat):Prop where
 gone:(goes c (txs ts) s (es.take i)).1=i
 at_: ∃Z,At wS w Z c (goes c (txs ts) s (es.take i)).2 (k+i) ts/\Z.sb=sb/\ ∀x∈[Q,b],x∉Z.own/\x<w.heap.size
 q:w.heap[Q]? = some (.cells #[.pointer (some ⟨sb,0,none⟩)] 71 (0,0))
 b:w.heap[b]? = some (.cells (kdA Q) 118 (0,0))
section
variable {w w' wS:World} {sb:Nat} {c:Cf} {s:Sy} {k Q b i:Nat} {ts:List Tm} {es:List Ev}
theorem Fol.fr (h:Fol wS w sb c s k ts es Q b i):Fr [] wS w:=by
 obtain⟨Z,hA,_⟩:=h.at_
 exact hA.cx.fr
theorem Fol.quiet (h:Fol wS w sb c s k ts es Q b i) (hf:Fr [] w w'):Fol wS w' sb c s k ts es Q b i:=by
 obtain⟨Z,hA,hz,hx⟩:=h.at_
 exact⟨h.gone,⟨Z,hA.quiet hf,hz,fun x hh=>⟨(hx x hh).1,Nat.lt_of_lt_of_le (hx x hh).2 hf.size⟩⟩,hf.keep h.q (by simp),hf.keep h.b (by simp)⟩
def FolP (wS:World) (sb:Nat) (c:Cf) (s:Sy) (k:Nat) (ts:List Tm) (es:List Ev) (Q b i g:Nat) (e:Ending) (w':World):Prop :=
 ∃t:Ev,e= .returned (.agg (evA t.t t.k t.n t.s t.c t.m))/\Fr [] wS w'/\w'.heap[g]? = some (.cells (evA (es.getD i Ev.no).t (es.getD i Ev.no).k (es.getD i Ev.no).n (es.getD i Ev.no).s (es.getD i Ev.no).c (es.getD i Ev.no).m) 62 (0,0)) /\
 ((t.k≠0/\t=es.getD i Ev.no->Fol wS w' sb c s k ts es Q b (i+1))/\(¬(t.k≠0/\t=es.getD i Ev.no)->(goes c (txs ts) s es).1=i))
theorem Fol.step (h:Fol wS w sb c s k ts es Q b i) (hi:i<es.length) (hN:Nms wS) (hE: ∀x∈es,EEach x) (hk:k+i+1<=4194304) (w4:World) (hf:Fr [] w w4)
  (hg:w4.heap[w.heap.size]? = some (.cells (evA (es.getD i Ev.no).t (es.getD i Ev.no).k (es.getD i Ev.no).n (es.getD i Ev.no).s (es.getD i Ev.no).c (es.getD i Ev.no).m) 62 (0,0))) :
  Calls Tryz.prog 78 #[.pointer (some ⟨sb,0,none⟩),.agg (kdA Q),.agg (evA (es.getD i Ev.no).t (es.getD i Ev.no).k (es.getD i Ev.no).n (es.getD i Ev.no).s (es.getD i Ev.no).c (es.getD i Ev.no).m)] w4 (FolP wS sb c s k ts es Q b i w.heap.size):=by
 obtain⟨Z,hA,rfl,hx⟩:=h.at_
 have hA4:=hA.quiet hf
 have he:=hE _ (zrj es i hi)
 have hc:=zud hA4 (hN.keep hA4.cx.fr (by simp)) _ he Q (hf.keep h.q (by simp))
 refine hc.mono ?_
 rintro e w5 ⟨Z',rfl,hS,hM⟩
 have hAn:=At.next (s':=s) hA4 he hS hM (by omega)
 have hown:w.heap.size∉Z.own:=fun hh=>by have:=hA.st.lt _ hh;omega
 have hks:=hM.keep (S:=[Q,b]) (fun x hh=>⟨(hx x hh).1,Nat.lt_of_lt_of_le (hx x hh).2 hf.size⟩)
 refine⟨_,rfl,hAn.cx.fr,hM.fr.keep hg hown,fun hc1=>⟨?_,⟨Z',?_,hM.at_,hks⟩,hM.fr.keep (hf.keep h.q (by simp)) (hx Q (by simp)).1,hM.fr.keep (hf.keep h.b (by simp)) (hx b (by simp)).1⟩,fun hc1=> ?_⟩
 ·rw[zep es i hi,zfl _ _ _ (by rw[h.gone];simp;omega) hc1]
  simp
  omega
 ·rw[zep es i hi,zfl _ _ _ (by rw[h.gone];simp;omega) hc1]
  exact hAn
 ·have e1:=zim (es.take i) s (es.getD i Ev.no) (es.drop (i+1)) (by rw[h.gone];simp;omega) hc1
  rw[<-znv es i hi]at e1
  rw[e1]
  simp
  omega
noncomputable def folC (c:Cf) (T:List Tx) (s:Sy) (es:List Ev):Int:=if (goes c T s es).1=es.length then 0 else 14
set_option maxHeartbeats 4000000 in
theorem znw {Z:Zs} {ao:Option Addr} {cap:Nat} (h:At wS w Z c s k ts) (hN:Nms wS) (hE:ERs wS ao es) (hcap:es.length<=cap) (hk:k+es.length<=4194304) :
  Calls Tryz.prog 26 #[.pointer (some ⟨Z.sb,0,none⟩),.slice ao es.length cap] w fun e w'=>e= .returned (.tuple #[.int .i64 ((goes c (txs ts) s es).1:Int),.int .i64 (folC c (txs ts) s es)])/\Fr [] wS w':=by
 have HH:Hid (At wS w Z c s k ts):=h
 have HK:Hid (∀W,Calls _ _ _ W _):=fun W=>zrd Z.sb W
 have HE:Hid (ERs wS ao es):=hE
 have HN:Hid (Nms wS):=hN
 clear h hE hN
 obtain⟨sb,hsb⟩: ∃sb,sb=Z.sb:=⟨_,rfl⟩
 have HSb:Hid (sb=Z.sb):=hsb
 rw[<-hsb]at HK ⊢
 clear hsb
 go_enter Tryz.func26,Tryz.ntmps26
 go_wp2_with fail
 go_step3
 go_wp2_with fail
 refine Calls.mono (HK.out _) ?_
 rintro e w1 ⟨Q,rfl,hQl,hQ,hf1⟩
 have hr:(w1.alloc (.cells #[.string ⟨#[]⟩,.nilFunc,.string ⟨#[]⟩,.nilFunc,.string ⟨#[]⟩,.nilFunc,.string ⟨#[]⟩,.nilFunc,.string ⟨#[]⟩,.nilFunc] 118)).heap[w1.heap.size]? = some (.cells #[.string ⟨#[]⟩,.nilFunc,.string ⟨#[]⟩,.nilFunc,.string ⟨#[]⟩,.nilFunc,.string ⟨#[]⟩,.nilFunc,.string ⟨#[]⟩,.nilFunc] 118 (0,0)):=heap_alloc_new _ _
 have HF1:Hid (w.heap.size<=Q/\w1.heap[Q]? = some (.cells #[.pointer (some ⟨sb,0,none⟩)] 71 (0,0))/\Fr [] w w1):=⟨hQl,hQ,hf1⟩
 clear hQl hQ hf1 HK
 go_wp2_with (first
  | (refine zbd rfl 118 _ _ rfl w1.heap.size (kdA Q) rfl rfl 118 _ hr (by kernel_rfl) rfl (zms _) ?_;intro w2 HR2 hf2)
  | fail)
 have HL2:Hid (Fol wS w2 sb c s k ts es Q w1.heap.size 0):=by
  obtain⟨h1,h2,h3⟩:=HF1.out
  have f12:Fr [] w1 w2:=(Fr.alloc [] w1 _).on hf2 (by intro y hy;simp at hy;omega)
  have hA:=HH.out.quiet (h3.then f12)
  refine⟨rfl,⟨Z,hA,HSb.out.symm,fun x hx=> ?_⟩,f12.keep h2 (by simp),HR2.out⟩
  have hlt:=HH.out.st.lt
  have h4:=h3.size
  simp only[List.mem_cons,List.not_mem_nil,or_false]at hx
  rcases hx with rfl|rfl
  ·exact⟨fun hh=>by have:=hlt _ hh;omega,Nat.lt_of_lt_of_le (lt_of_block h2) f12.size⟩
  ·exact⟨fun hh=>by have:=hlt _ hh;omega,lt_of_block HR2.out⟩
 clear HH HSb HF1 HR2 hr hf2
 obtain⟨b,hb⟩: ∃b,b=w1.heap.size:=⟨_,rfl⟩
 rw[<-hb]at HL2 ⊢
 clear hb
 have hlen:es.length<=4194304:=by omega
 go_step3
 go_wp2_with fail
 simp only[Act.put]
 go_loopw [6,7] (fun ii jj wr=> ∃(i:Nat),ii= .int .i64 i/\jj= .int .i64 0/\i<=es.length/\Hid (Fol wS wr sb c s k ts es Q b i)) (fun ii _ _=>es.length-(RowKit.intOf ii).toNat)
 case atStart=>exact⟨0,rfl,rfl,by omega,HL2⟩
 case round =>
  obtain⟨i,rfl,rfl,hil,HFr⟩:=hrel
  by_cases hi:i<es.length
  ·have hii:(i:Int)<(es.length:Int):=by omega
   obtain⟨eb,off,rfl,hbl,hcs⟩:=HE.out.lies (by omega)
   have hf:=HFr.out.fr
   have hk2: ∀o,wr.cell? ⟨eb,o,none⟩=wS.cell? ⟨eb,o,none⟩:=fun o=>World.cell?_of_block (hf.block eb hbl (by simp))
   have hA:=hcs i hi
   have HC:Hid (∀w4,Fr [] wr w4->_->_):=fun w4 hf4 hg=>HFr.out.step hi HN.out HE.out.each (by omega) w4 hf4 hg
   obtain⟨x,hx⟩: ∃x,es.getD i Ev.no=x:=⟨_,rfl⟩
   rw[hx]at hA HC
   have c0:=(hk2 _).trans hA.c0
   have c1:=(hk2 _).trans hA.c1
   have c2:=(hk2 _).trans hA.c2
   have c3:=(hk2 _).trans hA.c3
   have c4:=(hk2 _).trans hA.c4
   have c5:=(hk2 _).trans hA.c5
   have Hx:Hid (es.getD i Ev.no=x):=hx
   obtain⟨et,ek,en,ee,ec,em⟩:=x
   simp only at c0 c1 c2 c3 c4 c5
   clear hx hcs hbl hf hk2 hA HL2
   obtain⟨w4,hw4⟩: ∃w4,w4=wr.alloc (.cells (evA et ek en ee ec em) 62):=⟨_,rfl⟩
   have f4:Fr [] wr w4:=by rw[hw4];exact Fr.alloc _ _ _
   have r4:w4.heap[wr.heap.size]? = some (.cells (evA et ek en ee ec em) 62 (0,0)):=by rw[hw4];exact heap_alloc_new _ _
   have HC4:Hid (Calls _ _ _ _ _):=HC.out w4 f4 r4
   obtain⟨k0,k1,k2,k3,k4,k5,k6,k7,k8,k9⟩:=zgt (f4.keep HFr.out.b (by simp))
   obtain⟨e0,e1,e2,e3,e4,e5⟩:=zam r4
   have HF4:Hid (Fr [] wr w4):=f4
   have HW:Hid (wr.alloc (.cells #[.int .i64 et,.int .u8 ek,.int .i64 en,.int .i64 ee,.int .i64 ec,.int .i64 em] 62)=w4):=by show _=_;rw[hw4];rfl
   clear hw4 f4 r4 HC
   obtain⟨g,hg⟩: ∃g,g=wr.heap.size:=⟨_,rfl⟩
   rw[<-hg]at e0 e1 e2 e3 e4 e5 HC4
   have HG:Hid (wr.heap.size=g):=hg.symm
   clear hg
   simp only[kdA,evA]at HC4
   go_upto_region 5 with fail
   rw[HW.out,HG.out]
   clear c0 c1 c2 c3 c4 c5
   go_wp2_with fail
   refine Calls.mono HC4.out ?_
   rintro e w5 ⟨⟨tt,tk,tn,t2,tc,tm⟩,rfl,hf5,hr5,hyes,hno⟩
   rw[Hx.out]at hr5
   clear e0 e1 e2 e3 e4 e5 k0 k1 k2 k3 k4 k5 k6 k7 k8 k9 HC4 HW HF4 HG
   have f6:=Fr.alloc [] w5 (.cells (evA tt tk tn t2 tc tm) 62)
   obtain⟨e0,e1,e2,e3,e4,e5⟩:=zam (f6.keep hr5 (by simp))
   simp only at e0 e1 e2 e3 e4 e5
   have HX:Hid ((⟨tt,tk,tn,t2,tc,tm⟩:Ev).k≠0/\(⟨tt,tk,tn,t2,tc,tm⟩:Ev)=es.getD i Ev.no->Fol wS (w5.alloc (.cells (evA tt tk tn t2 tc tm) 62)) sb c s k ts es Q b (i+1)):=fun hh=>(hyes hh).quiet f6
   have HY:Hid (¬((⟨tt,tk,tn,t2,tc,tm⟩:Ev).k≠0/\(⟨tt,tk,tn,t2,tc,tm⟩:Ev)=es.getD i Ev.no)->(goes c (txs ts) s es).1=i):=hno
   have HF6:Hid (Fr [] wS (w5.alloc (.cells (evA tt tk tn t2 tc tm) 62))):=hf5.then f6
   rw[Hx.out]at HX HY
   clear hyes hno hf5 hr5 f6
   simp only[evA]at HX HF6 e0 e1 e2 e3 e4 e5 ⊢
   by_cases h0:tk=0
   ·subst h0
    go_wp2_with fail
    go_ret2
    have hg1:=HY.out (fun hh=>hh.1 rfl)
    exact⟨by rw[hg1,folC,hg1,if_neg (by omega)];rfl,HF6.out⟩
   ·have hgu:=Tryz.guardEvt
    have heq: ∀W,(Op.equalIn 10000 62 (.agg #[.int .i64 tt,.int .u8 tk,.int .i64 tn,.int .i64 t2,.int .i64 tc,.int .i64 tm]) (.agg #[.int .i64 et,.int .u8 ek,.int .i64 en,.int .i64 ee,.int .i64 ec,.int .i64 em])).run Tryz.prog W= .ok (zbl ⟨tt,tk,tn,t2,tc,tm⟩ ⟨et,ek,en,ee,ec,em⟩) W:=fun W=>zbx W ⟨tt,tk,tn,t2,tc,tm⟩ ⟨et,ek,en,ee,ec,em⟩
    obtain⟨sm,hsm⟩: ∃sm,sm=zbl ⟨tt,tk,tn,t2,tc,tm⟩ ⟨et,ek,en,ee,ec,em⟩:=⟨_,rfl⟩
    have HSm:Hid (sm=true↔(⟨tt,tk,tn,t2,tc,tm⟩:Ev)=⟨et,ek,en,ee,ec,em⟩):=by show _↔_;rw[hsm];exact zbt _ _
    rw[<-hsm]at heq
    clear hsm
    cases sm
    ·go_wp2_with fail
     go_ret2
     have hg1:=HY.out (fun hh=>by have:=HSm.out.2 hh.2;simp at this)
     exact⟨by rw[hg1,folC,hg1,if_neg (by omega)];rfl,HF6.out⟩
    ·go_wp2_with fail
     exact⟨⟨i+1,by simp,rfl,by omega,HX.out ⟨h0,HSm.out.1 rfl⟩⟩,by simp[RowKit.intOf];omega⟩
  ·have hie:i=es.length:=by omega
   have HG1:Hid ((goes c (txs ts) s es).1=es.length):=by
    have h1:=HFr.out.gone
    rw[hie,List.take_length]at h1
    exact h1
   have HF6:Hid (Fr [] wS wr):=HFr.out.fr
   have hii: ¬(i:Int)<(es.length:Int):=by omega
   have HI:Hid (i=es.length):=hie
   clear hie hil hi
   go_wp2_with fail
   go_ret2
   exact⟨by rw[folC,if_pos HG1.out,HG1.out,HI.out];rfl,HF6.out⟩
end
def zal (ops:Array Oper) (j:Nat):Option Nat:=(ops[j]?).bind (·.dst)
def env (a:Act):Nat->Value:=fun t=>a.eval (.tmp t)
def dep (ops:Array Oper) (i j:Nat):Bool:=match ops[i]? with
 | some o=>o.after.any fun e=>Region.binds .any e&&e.on==j
 | none=>false
structure RelM (ops:Array Oper) (a0:Act) (w0:World) (Φ:Nat->(Nat->Value)->List Nat->World->Prop) (listed:Array Bool) (B:Nat->List Nat) (a:Act) (w:World):Prop where
 sz:listed.size=ops.size
 fr:Fr [] w0 w
 tsz:a.tmps.size=a0.tmps.size
 dfr:a.defers=a0.defers
 same: ∀t,(∀j,zal ops j≠some t)->env a t=env a0 t
 done: ∀i,listed[i]? = some true->Φ i (env a) (B i) w
 cl: ∀i,listed[i]? = some true-> ∀j,dep ops i j=true->listed[j]? = some true
 new: ∀i,listed[i]? = some true-> ∀x∈B i,w0.heap.size<=x/\x<w.heap.size
 apart: ∀i j,i≠j->listed[i]? = some true->listed[j]? = some true-> ∀x∈B i,x∉B j
section
variable {P:Program} {ops:Array Oper} {Q:Exit->Act->World->Prop} {a0:Act} {w0:World} {Φ:Nat->(Nat->Value)->List Nat->World->Prop}
def Mkg (P:Program) (ops:Array Oper) (Q:Exit->Act->World->Prop) (a0:Act) (w0:World) (Φ:Nat->(Nat->Value)->List Nat->World->Prop):Prop :=
 ∀(i:Nat) (o:Oper),ops[i]? = some o-> ∀(a:Act) (w:World),a.tmps.size=a0.tmps.size->Fr [] w0 w->(∀t,(∀j,zal ops j≠some t)->env a t=env a0 t)->(∀j,dep ops i j=true-> ∃B,Φ j (env a) B w) ->
  o.wp P a w (fun a' w'=> ∃v B,a'=a.put o.dst v/\Fr [] w w'/\Φ i (env (a.put o.dst v)) B w'/\ ∀x∈B,w.heap.size<=x/\x<w'.heap.size) Q
theorem zeq {md:Region.Mode} {listed:Array Bool} {i:Nat} (h:i∈Region.ready md ops listed):i<ops.size/\listed.getD i true=false/\ ∀o,ops[i]? = some o-> ∀e∈o.after,Region.binds md e=true->listed.getD e.on false=true:=by
 unfold Region.ready at h
 rw[List.mem_filter,List.mem_range]at h
 obtain⟨h1,h2⟩:=h
 simp only[Bool.and_eq_true,Bool.not_eq_true']at h2
 refine⟨h1,h2.1,fun o ho e he hb=> ?_⟩
 have h3:=h2.2
 rw[ho]at h3
 simp only[Option.map_some,Option.getD_some,Array.all_eq_true_iff_forall_mem]at h3
 have h4:=h3 e he
 rw[hb]at h4
 simpa using h4
theorem ziq (hlex: ∀(i:Nat) (o:Oper),ops[i]? = some o-> ∀e∈o.after,Region.binds .any e=true->e.on<i) (listed:Array Bool) (hz:listed.size=ops.size) (he:Region.ready .any ops listed=[]): ∀i,i<ops.size->listed[i]? = some true:=by
 intro i
 induction i using Nat.strongRecOn with
 | ind i ih =>
  intro hi
  have hl:i<listed.size:=by rw[hz];exact hi
  rw[Array.getElem?_eq_getElem hl]
  cases hc:listed[i] with
  | true=>rfl
  | false =>
   exfalso
   have hm:i∈Region.ready .any ops listed:=by
    unfold Region.ready
    rw[List.mem_filter,List.mem_range]
    refine⟨hi,?_⟩
    rw[Array.getD_eq_getD_getElem?,Array.getElem?_eq_getElem hl,hc,Array.getElem?_eq_getElem hi]
    simp only[Option.getD_some,Bool.not_false,Bool.true_and,Option.map_some,Array.all_eq_true_iff_forall_mem]
    intro e hee
    by_cases hb:Region.binds .any e=true
    ·have h1:=hlex i _ (Array.getElem?_eq_getElem hi) e hee hb
     have h2:=ih e.on h1 (by omega)
     rw[Array.getD_eq_getD_getElem?,h2]
     simp
    ·simp only[Bool.not_eq_true]at hb
     simp[hb]
   rw[he]at hm
   simp at hm
theorem RelM.go (hN: ∀i j d,zal ops i=some d->zal ops j=some d->i=j) (hg: ∀(i:Nat) (o:Oper),ops[i]? = some o->o.guard=none/\ ∃d,o.dst=some d/\d<a0.tmps.size) (hΦ: ∀i ρ ρ' B w w',Fr [] w w'->(∀t,(zal ops i=some t\/ ∃j,dep ops i j=true/\zal ops j=some t)->ρ' t=ρ t)->Φ i ρ B w->Φ i ρ' B w')
  (hs:Mkg P ops Q a0 w0 Φ) (hlex: ∀(i:Nat) (o:Oper),ops[i]? = some o-> ∀e∈o.after,Region.binds .any e=true->e.on<i)
  (hend: ∀a w (B:Nat->List Nat),Fr [] w0 w->a.tmps.size=a0.tmps.size->a.defers=a0.defers->(∀t,(∀j,zal ops j≠some t)->env a t=env a0 t)->(∀i,i<ops.size->Φ i (env a) (B i) w)->(∀i,i<ops.size-> ∀x∈B i,w0.heap.size<=x/\x<w.heap.size)->(∀i j,i≠j->i<ops.size->j<ops.size-> ∀x∈B i,x∉B j)->Q .normal a w) :
  ∀(fuel:Nat) (listed:Array Bool) (B:Nat->List Nat) (a:Act) (w:World),RelM ops a0 w0 Φ listed B a w->listed.toList.count false<=fuel->wpAny P .any ops Q fuel listed a w
 | 0,listed,B,a,w,h,hf=>by
  have hall: ∀i,i<ops.size->listed[i]? = some true:=by
   intro i hi
   have hl:i<listed.size:=by rw[h.sz];exact hi
   have h0:listed.toList.count false=0:=by omega
   have:=List.count_eq_zero.1 h0
   have hm:listed[i]∈listed.toList:=by simp
   rw[Array.getElem?_eq_getElem hl]
   cases hc:listed[i] with
   | true=>rfl
   | false=>rw[hc]at hm;exact absurd hm this
  have he:Region.ready .any ops listed=[]:=by
   refine List.eq_nil_iff_forall_not_mem.2 fun i hi=> ?_
   obtain⟨h1,h2,_⟩:=zeq hi
   have:=hall i h1
   rw[Array.getD_eq_getD_getElem?,this]at h2
   simp at h2
  exact⟨he,hend a w B h.fr h.tsz h.dfr h.same (fun i hi=>h.done i (hall i hi)) (fun i hi=>h.new i (hall i hi)) (fun i j hij hi hj=>h.apart i j hij (hall i hi) (hall j hj))⟩
 | fuel+1,listed,B,a,w,h,hf=>by
  refine⟨fun he=> ?_,fun i hi=> ?_⟩
  ·have hall:=ziq hlex listed h.sz he
   exact hend a w B h.fr h.tsz h.dfr h.same (fun i hi=>h.done i (hall i hi)) (fun i hi=>h.new i (hall i hi)) (fun i j hij hi hj=>h.apart i j hij (hall i hi) (hall j hj))
  ·obtain⟨h1,h2,h3⟩:=zeq hi
   have ho:ops[i]? = some ops[i]:=Array.getElem?_eq_getElem h1
   obtain⟨o,hoo⟩: ∃o,o=ops[i]:=⟨_,rfl⟩
   rw[<-hoo]at ho
   obtain⟨hg1,d,hd,hdl⟩:=hg i o ho
   have hdi:zal ops i=some d:=by simp[zal,ho,hd]
   have hil:i<listed.size:=by rw[h.sz];exact h1
   have hli:listed[i]=false:=by rw[Array.getD_eq_getD_getElem?,Array.getElem?_eq_getElem hil]at h2;simpa using h2
   have hdl2: ∀j:Nat,dep ops i j=true->listed[j]? = some true:=by
    intro j hj
    simp only[dep,ho]at hj
    rw[Array.any_eq_true]at hj
    obtain⟨n,hn,he⟩:=hj
    simp only[Bool.and_eq_true,beq_iff_eq]at he
    have h4:=h3 o ho o.after[n] (by simp) he.1
    rw[he.2,Array.getD_eq_getD_getElem?]at h4
    cases hl:listed[j]? with
    | none=>rw[hl]at h4;simp at h4
    | some b=>rw[hl]at h4;simp at h4;rw[h4]
   unfold wpOp
   rw[ho]
   simp only
   rw[if_pos (by simp[Region.wanted,hg1])]
   refine Or.inl (Oper.wp_mono (K:=fun a' w'=> ∃v B,a'=a.put o.dst v/\Fr [] w w'/\Φ i (env (a.put o.dst v)) B w'/\ ∀x∈B,w.heap.size<=x/\x<w'.heap.size) ?_ (hs i o ho a w h.tsz h.fr h.same (fun j hj=>⟨B j,h.done j (hdl2 j hj)⟩)))
   rintro a' w' ⟨v,Bi,rfl,hf',hv,hB⟩
   refine RelM.go hN hg hΦ hs hlex hend fuel _ (fun j=>if j=i then Bi else B j) _ w' ?_ ?_
   ·have hlist: ∀j:Nat,(listed.setIfInBounds i true)[j]? = some true->j=i\/(j≠i/\listed[j]? = some true):=by
     intro j hj
     by_cases hji:j=i
     ·exact Or.inl hji
     ·exact Or.inr ⟨hji,by rw[Array.getElem?_setIfInBounds_ne (fun e=>hji e.symm)]at hj;exact hj⟩
    have hlisted: ∀j:Nat,listed[j]? = some true->(listed.setIfInBounds i true)[j]? = some true:=by
     intro j hj
     by_cases hji:i=j
     ·subst hji
      simp[hil]
     ·rw[Array.getElem?_setIfInBounds_ne hji];exact hj
    have hput: ∀t,t≠d->env (a.put o.dst v) t=env a t:=fun t ht=>by
     rw[hd]
     exact Act.eval_put (fun x hx=>by cases hx;intro e;cases e;exact ht rfl)
    have hnot: ∀j:Nat,listed[j]? = some true->j≠i:=fun j hj e=>by
     subst e
     rw[Array.getElem?_eq_getElem hil,hli]at hj
     cases hj
    refine⟨by simp[h.sz],h.fr.then hf',by rw[hd];simp[Act.put,h.tsz],by rw[hd];simp[Act.put,h.dfr],fun t ht=> ?_,fun j hl=> ?_,fun j hl m hm=> ?_,fun j hl x hx=> ?_,fun j k hjk hj hk x hx=> ?_⟩
    ·rw[hput t (fun e=>ht i (by rw[hdi,e]))]
     exact h.same t ht
    ·rcases hlist j hl with rfl|⟨hji,hlj⟩
     ·rw[if_pos rfl]
      exact hv
     ·rw[if_neg hji]
      refine hΦ _ _ _ _ _ _ hf' (fun t ht=>hput t (fun e=> ?_)) (h.done j hlj)
      rcases ht with ht|⟨m,hm,ht⟩
      ·exact hji (hN j i d (by rw[ht,e]) hdi)
      ·exact hnot m (h.cl j hlj m hm) (hN m i d (by rw[ht,e]) hdi)
    ·rcases hlist j hl with rfl|⟨hji,hlj⟩
     ·exact hlisted m (hdl2 m hm)
     ·exact hlisted m (h.cl j hlj m hm)
    ·rcases hlist j hl with rfl|⟨hji,hlj⟩
     ·rw[if_pos rfl]at hx
      exact⟨Nat.le_trans h.fr.size (hB x hx).1,(hB x hx).2⟩
     ·rw[if_neg hji]at hx
      exact⟨(h.new j hlj x hx).1,Nat.lt_of_lt_of_le (h.new j hlj x hx).2 hf'.size⟩
    ·rcases hlist j hj with rfl|⟨hji,hlj⟩
     ·rcases hlist k hk with rfl|⟨hki,hlk⟩
      ·exact absurd rfl hjk
      ·rw[if_pos rfl]at hx
       rw[if_neg hki]
       intro hh
       have e1:=(hB x hx).1
       have e2:=(h.new k hlk x hh).2
       omega
     ·rw[if_neg hji]at hx
      rcases hlist k hk with rfl|⟨hki,hlk⟩
      ·rw[if_pos rfl]
       intro hh
       have e1:=(hB x hh).1
       have e2:=(h.new j hlj x hx).2
       omega
      ·rw[if_neg hki]
       exact h.apart j k hjk hlj hlk x hx
   ·have e:(listed.setIfInBounds i true).toList=listed.toList.set i true:=by simp
    rw[e,List.count_set (by simpa using hil)]
    have hmem:listed.toList[i]'(by simpa using hil)=false:=by simpa using hli
    rw[hmem,if_pos (by rfl),if_neg (by decide)]
    omega
theorem zee {id:Nat} (hm:P.follows .mixedOrders=true) (hN: ∀i j d,zal ops i=some d->zal ops j=some d->i=j) (hg: ∀(i:Nat) (o:Oper),ops[i]? = some o->o.guard=none/\ ∃d,o.dst=some d/\d<a0.tmps.size) (hΦ: ∀i ρ ρ' B w w',Fr [] w w'->(∀t,(zal ops i=some t\/ ∃j,dep ops i j=true/\zal ops j=some t)->ρ' t=ρ t)->Φ i ρ B w->Φ i ρ' B w')
  (hs:Mkg P ops Q a0 w0 Φ) (hlex: ∀(i:Nat) (o:Oper),ops[i]? = some o-> ∀e∈o.after,Region.binds .any e=true->e.on<i)
  (hend: ∀a w (B:Nat->List Nat),Fr [] w0 w->a.tmps.size=a0.tmps.size->a.defers=a0.defers->(∀t,(∀j,zal ops j≠some t)->env a t=env a0 t)->(∀i,i<ops.size->Φ i (env a) (B i) w)->(∀i,i<ops.size-> ∀x∈B i,w0.heap.size<=x/\x<w.heap.size)->(∀i j,i≠j->i<ops.size->j<ops.size-> ∀x∈B i,x∉B j)->Q .normal a w) :
  (Code.region id ops true).wp P Q a0 w0:=by
 refine wp_region_any hm (RelM.go (w0:=w0) hN hg hΦ hs hlex hend _ _ (fun _=>[]) _ _ ⟨by simp,Fr.drew [] w0,rfl,rfl,fun _ _=>rfl,fun i hi=> ?_,fun i hi=> ?_,fun i hi=> ?_,fun i j hij hi=> ?_⟩ ?_)
 ·exact absurd hi (by rw[Array.getElem?_replicate];split<;>simp)
 ·exact absurd hi (by rw[Array.getElem?_replicate];split<;>simp)
 ·exact absurd hi (by rw[Array.getElem?_replicate];split<;>simp)
 ·exact absurd hi (by rw[Array.getElem?_replicate];split<;>simp)
 ·simp
end
def grt (m:Int) (xs:List Int):Int:=if 0<xs.length then xs.getD (xs.length-1) 0 else m
set_option maxHeartbeats 2000000 in
theorem zrt (m:Int) (bo:Option Addr) (bn bc:Nat) (xs:List Int) (w:World) (hX:IRs w bo xs) (hn:bn=xs.length) (hbc:bn<=bc) (ho:Option Addr) (hl hc:Nat) :
  Calls Tryz.prog 75 #[.agg #[.int .i64 m,.slice bo bn bc,.slice ho hl hc]] w fun e w'=>e= .returned (.int .i64 (grt m xs))/\Fr [] w w':=by
 have HF:Hid (Fr [] w (w.alloc (.cells #[.int .i64 m,.slice bo bn bc,.slice ho hl hc] 28))):=Fr.alloc _ _ _
 by_cases h0:0<bn
 ·obtain⟨b,off,rfl,hb,hcs⟩:=hX.lies (by omega)
  have c0:=(World.cell?_of_block (HF.out.block b hb (by simp))).trans (hcs (bn-1) (by omega))
  have hfew:=hX.few
  have hG:Hid (grt m xs=xs.getD (bn-1) 0):=by show _=_;rw[grt,if_pos (by omega),hn]
  obtain⟨v,hv⟩: ∃v,v=xs.getD (bn-1) 0:=⟨_,rfl⟩
  rw[<-hv]at c0 hG
  obtain⟨j,rfl⟩: ∃j,bn=j+1:=⟨bn-1,by omega⟩
  have c1:(w.alloc (.cells #[.int .i64 m,.slice (some ⟨b,off,none⟩) (j+1) bc,.slice ho hl hc] 28)).cell? ⟨b,off+j,none⟩=some (.int .i64 v):=c0
  have hj:((j+1:Nat):Int)-1=(j:Int):=by omega
  have hj2:(j+1:Nat)<=17592186044416:=by omega
  have hjj:(0:Int)<((j+1:Nat):Int):=by omega
  have hwr:IntKind.i64.wrap ((j:Int)+1-1)=(j:Int):=by rw[IntKind.wrap_i64];omega
  clear hX hcs c0 hv hn
  go_enter Tryz.func75,Tryz.ntmps75
  go_wp2_with fail
  go_ret
  rw[hG.out]
  exact⟨rfl,HF.out⟩
 ·have hb0:bn=0:=by omega
  have hG:Hid (grt m xs=m):=by show _=_;rw[grt,if_neg (by omega)]
  subst hb0
  clear hX hn
  go_enter Tryz.func75,Tryz.ntmps75
  go_wp2_with fail
  go_ret
  rw[hG.out]
  exact⟨rfl,HF.out⟩
end Go.Proofs.YtaaghcimfcjehaaGreatDoor
