/- Contracts and lemmas. -/
import Derived.Test.YtakbodlicfmkjaaGreatGp38
set_option maxHeartbeats 8000000
set_option maxRecDepth 100000
set_option linter.unusedSimpArgs false
set_option linter.unusedVariables false
namespace Go.Proofs.YtakbodlicfmkjaaGreat
open Go.ChangeShapes Go.WideShapes Go.ChangeAt Go.RowKit Go.Lib
attribute [local go_sem] Oper.semAt_some
theorem zxr(o:Option Addr)(n k:Nat)(w:World):Calls Tryz.prog 80 #[.slice o n k] w fun e w'=>e=.returned (.func (Fn.func 110) #[] #[.pointer (some ⟨w.heap.size,0,none⟩)])/\w'=w.alloc (.cells #[.slice o n k] 124):=by
 go_enter Tryz.func80,Tryz.ntmps80;go_wp2;go_ret;exact⟨rfl,rfl⟩
theorem zty(m l bb sb off n cap:Nat)(vs:List O.Vn)(W:World)(J Jx:Nat->World->Prop)(go:Nat->Bool)(hn:n<=4398046511104)(hcap:n<=cap)(hT:∀i w,J i w->w.cell? ⟨bb,0,none⟩=some (.slice (some ⟨sb,off,none⟩) n cap)/\∀k,k<n->O.VAt w sb (off+k*3) (vs.getD k O.Vn.zero))(h0:J 0 W)(hY:∀(i k:Nat) (w:World),J i w->i+k+1=n->YieldAt Fence.wide m Tryz.prog l #[.int .i64 (k:Int),.agg #[.int .i64 (vs.getD k O.Vn.zero).num,.string (vs.getD k O.Vn.zero).val,.bool (vs.getD k O.Vn.zero).drop]] w fun e w'=>e=.returned (.bool (go i))/\(go i=true->J (i+1) w')/\(go i=false->Jx i w')) :
  CallsIn Fence.wide (m+1) Tryz.prog 110 #[.func (.yield l) #[] #[],.pointer (some ⟨bb,0,none⟩)] W fun e W'=>(∃v,e=.returned v)/\zsf J Jx go n W':=by
 have cb:=(hT 0 W h0).1;refine callsIn_of_wp Tryz.func110 rfl trivial ?_ rfl;simp only[Tryz.ntmps110,List.size_toArray,List.length_cons,List.length_nil,Nat.reduceAdd,Nat.reduceSub,Array.replicate_succ,Array.replicate_zero,List.push_toArray,List.append_toArray,List.nil_append,List.cons_append]
 gi_wp2_with fail
 gi_loopw [3] (fun ii wr=>∃i:Nat,ii=.int .i64 ((n:Int)-1-(i:Int))/\i<=n/\J i wr/\Hid (∀j,j<i->go j=true)) (fun ii _=>(RowKit.intOf ii+1).toNat)
 case atStart=>exact⟨0,by simp,Nat.zero_le _,h0,fun j hj=>absurd hj (by omega)⟩
 clear cb;obtain⟨i,rfl,hiR,hJi,HG⟩:=hrel;by_cases hi:i<n
 .obtain⟨k,hk⟩:∃k,i+k+1=n:=⟨n-1-i,by omega⟩;have ek:(n:Int)-1-(i:Int)=(k:Int):=by omega
  have HK:Hid (i+k+1=n):=hk;have hkn:k<n:=by omega
  rw[ek];have cb:=(hT i wr hJi).1;obtain⟨ck0,ck1,ck2⟩:=(hT i wr hJi).2 k hkn;obtain⟨fn,tmps,assign,body,hy,hRo⟩:=hY i k wr hJi hk;obtain⟨B,hB⟩:∃B,B=go i:=⟨_,rfl⟩;rw[<-hB]at hRo
  have HB:Hid (B=go i):=hB;obtain⟨vn,hvn⟩:∃vn,vs.getD k O.Vn.zero=vn:=⟨_,rfl⟩;rw[hvn]at ck0 ck1 ck2 hy
  clear hB hk ek hvn;cases B with
  |true=>
   gi_wp2_with fail
   refine hRo.mono ?_;rintro e W6⟨rfl,hJt,_⟩;have hJ6:=hJt (by trivial);clear hRo hy hJt cb ck0 ck1 ck2;have HG6:Hid (∀j,j<i+1->go j=true):=fun j hj=>by
    rcases Nat.lt_or_ge j i with h|h
    .exact HG.out j h
    obtain rfl:j=i:=(by omega);exact HB.out.symm
   gi_wp2
   refine⟨⟨i+1,?_,by omega,hJ6,HG6⟩,?_⟩
   .have:=HK.out
    congr 1
    omega
   .simp[RowKit.intOf]
  |false=>
   gi_wp2_with fail
   refine hRo.mono ?_;rintro e W6⟨rfl,_,hJt⟩;have hJ6:=hJt (by trivial);clear hRo hy hJt cb ck0 ck1 ck2
   gi_wp2
   refine bodyPost_ret (results_none rfl _ _ _) rfl ?_;exact⟨⟨_,rfl⟩,Or.inr ⟨i,hi,HB.out.symm,HG.out,hJ6⟩⟩
 obtain rfl:i=n:=by omega
 have en:(i:Int)-1-(i:Int)= -1:=by omega
 rw[en]
 gi_wp2
 go_end0
 exact⟨⟨_,rfl⟩,Or.inl ⟨hJi,HG.out⟩⟩
attribute [local go_sem] Oper.semAt_some
def vnA(v:O.Vn):Array Value:=#[.int .i64 v.num,.string v.val,.bool v.drop]
structure Nq20(w0:World)(b3 b4 b5 bb D lr:Nat)(mark:Int)(sl:Value)(rec:Loop)(v4:O.Vn)(v5:Bool)(W:World):Prop where
 c3:W.heap[b3]? = some (.cells #[.int .i64 mark] 3 (0,0))
 c4:W.heap[b4]? = some (.cells (vnA v4) 128 (0,0))
 c5:W.heap[b5]? = some (.cells #[.bool v5] 4 (0,0))
 cb:W.heap[bb]? = some (.cells #[sl] 124 (0,0))
 lp:W.heap[lr]? = some (.loop rec)
 df:W.heap[D]? = some (.deferred (some []))
 fr:Fr [] w0 W
structure Nd20(w0:World)(b3 b4 b5 bb D lr:Nat):Prop where
 a:w0.heap.size<=b3/\b3<b4/\b4<b5/\b5<bb/\bb<D/\D<lr
section
variable{w0 W W':World}{b3 b4 b5 bb D lr:Nat}{mark:Int}{sl:Value}{rec:Loop}{v4:O.Vn}{v5:Bool}
theorem Nq20.quiet(h:Nq20 w0 b3 b4 b5 bb D lr mark sl rec v4 v5 W)(hf:Fr [] W W'):Nq20 w0 b3 b4 b5 bb D lr mark sl rec v4 v5 W':=
 ⟨hf.keep h.c3 (by simp),hf.keep h.c4 (by simp),hf.keep h.c5 (by simp),hf.keep h.cb (by simp),hf.keep h.lp (by simp),hf.keep h.df (by simp),h.fr.then hf⟩
theorem Nq20.rec_(d:Nd20 w0 b3 b4 b5 bb D lr)(h:Nq20 w0 b3 b4 b5 bb D lr mark sl rec v4 v5 W)(rec':Loop):Nq20 w0 b3 b4 b5 bb D lr mark sl rec' v4 v5 (W.putObj lr (.loop rec')):=by
 obtain⟨d1,d2,d3,d4,d5,d6⟩:=d.a;have hf:=Fr.putObj W lr (.loop rec');exact⟨hf.keep h.c3 (by simp;omega),hf.keep h.c4 (by simp;omega),hf.keep h.c5 (by simp;omega),hf.keep h.cb (by simp;omega),World.putObj_heap_same (Array.getElem?_eq_some_iff.1 h.lp).1,hf.keep h.df (by simp;omega),h.fr.on hf (fun x hx=>by simp at hx;omega)⟩
theorem Nq20.fin(d:Nd20 w0 b3 b4 b5 bb D lr)(h:Nq20 w0 b3 b4 b5 bb D lr mark sl rec v4 v5 W)(u:O.Vn)(v:Bool):Nq20 w0 b3 b4 b5 bb D lr mark sl rec u v ((((W.setCell ⟨b4,0,none⟩ (.int .i64 u.num)).setCell ⟨b4,1,none⟩ (.string u.val)).setCell ⟨b4,2,none⟩ (.bool u.drop)).setCell ⟨b5,0,none⟩ (.bool v)):=by
 obtain⟨d1,d2,d3,d4,d5,d6⟩:=d.a;obtain⟨W4,hW4⟩:∃W4,W4=(((W.setCell ⟨b4,0,none⟩ (.int .i64 u.num)).setCell ⟨b4,1,none⟩ (.string u.val)).setCell ⟨b4,2,none⟩ (.bool u.drop)):=⟨_,rfl⟩;have f4:Fr [b4] W W4:=by rw[hW4];exact ((Fr.set _ _ _ (by simp)).then (Fr.set _ _ _ (by simp))).then (Fr.set _ _ _ (by simp))
 have r4:W4.heap[b4]? = some (.cells (vnA u) 128 (0,0)):=by rw[hW4];exact zcj _ (zcj _ (zcj _ h.c4))
 rw[<-hW4];have r5:=f4.keep h.c5 (by simp;omega);have f5:Fr [b5] W4 (W4.setCell ⟨b5,0,none⟩ (.bool v)):=Fr.set _ _ _ (by simp);have q5:=zjk (v:=.bool v) r5;exact⟨f5.keep (f4.keep h.c3 (by simp;omega)) (by simp;omega),f5.keep r4 (by simp;omega),q5,f5.keep (f4.keep h.cb (by simp;omega)) (by simp;omega),f5.keep (f4.keep h.lp (by simp;omega)) (by simp;omega),f5.keep (f4.keep h.df (by simp;omega)) (by simp;omega),(h.fr.on f4 (fun x hx=>by simp at hx;omega)).on f5 (fun x hx=>by simp at hx;omega)⟩
end
theorem znh{w:World}{g:Nat}{v:O.Vn}(h:w.heap[g]? = some (.cells (vnA v) 128 (0,0))):(loadVar 128 ⟨g,0,none⟩).run Tryz.prog w=.ok (.agg (vnA v)) w:=
 run_loadVar_row (P:=Tryz.prog) _ g _ 128 _ _ (.struct (Tryz.prog.fieldsOf 128)) h (by kernel_rfl) rfl (by kernel_rfl)
def NwP(vs:List O.Vn)(mark:Int)(v:O.Vn)(ok:Bool):Prop:=
 (ok=true/\∃k,k<vs.length/\v=vs.getD k O.Vn.zero/\v.num<=mark/\∀j,k<j->j<vs.length->¬(vs.getD j O.Vn.zero).num<=mark)\/(ok=false/\v=O.Vn.zero/\∀j,j<vs.length->¬(vs.getD j O.Vn.zero).num<=mark)
def nwGo(vs:List O.Vn)(n:Nat)(mark:Int)(i:Nat):Bool:=decide (¬(vs.getD (n-1-i) O.Vn.zero).num<=mark)
def znt(vs:List O.Vn)(n:Nat)(mark:Int)(i:Nat):Prop:=∀j,j<i->¬(vs.getD (n-1-j) O.Vn.zero).num<=mark
def NwAt(vs:List O.Vn)(n:Nat)(i:Nat):O.Vn:=vs.getD (n-1-i) O.Vn.zero
theorem zxs{w:World}{vs:List O.Vn}{sb off n cap:Nat}(hn0:n=vs.length)(hnl:n<=4398046511104)(hcap:n<=cap)(hsb:sb<w.heap.size)(hV:∀k,k<n->O.VAt w sb (off+k*3) (vs.getD k O.Vn.zero))(mark:Int) :
  CallsIn Fence.wide 3 Tryz.prog 46 #[.slice (some ⟨sb,off,none⟩) n cap,.int .i64 mark] w fun e w'=>(∃v ok,e=.returned (.tuple #[.agg (vnA v),.bool ok])/\NwP vs mark v ok)/\Fr [] w w':=by
 have mixed:Tryz.prog.follows .mixedOrders=true:=by kernel_rfl
 have HV:Hid (∀W,Fr [] w W->∀k,k<n->O.VAt W sb (off+k*3) (vs.getD k O.Vn.zero)):=fun W hf k hk=>by
  have hc:∀o,W.cell? ⟨sb,o,none⟩=w.cell? ⟨sb,o,none⟩:=fun o=>World.cell?_of_block (hf.block sb hsb (by simp));exact⟨(hc _).trans (hV k hk).c0,(hc _).trans (hV k hk).c1,(hc _).trans (hV k hk).c2⟩
 have HN:Hid (n=vs.length):=hn0;clear hV hn0 hsb;obtain⟨wa,HWa⟩:∃wa,Hid ((((w.alloc (.cells #[.int .i64 mark] 3)).alloc (.cells #[.int .i64 0,.string ⟨#[]⟩,.bool false] 128)).alloc (.cells #[.bool false] 4))=wa):=⟨_,rfl⟩;have hF:Fr [] w wa:=by rw[<-HWa.out];exact ((Fr.alloc [] _ _).then (Fr.alloc [] _ _)).then (Fr.alloc [] _ _)
 have r3:wa.heap[w.heap.size]? = some (.cells #[.int .i64 mark] 3 (0,0)):=by rw[<-HWa.out];exact (Below.heap_alloc _ _ _ (by simp;omega)).trans ((Below.heap_alloc _ _ _ (by simp)).trans (heap_alloc_new w _))
 have r4:wa.heap[w.heap.size+1]? = some (.cells (vnA O.Vn.zero) 128 (0,0)):=by rw[<-HWa.out];exact (Below.heap_alloc _ _ _ (by simp)).trans (zpy _ _ _)
 have r5:wa.heap[w.heap.size+1+1]? = some (.cells #[.bool false] 4 (0,0)):=by rw[<-HWa.out];exact zpz _ _ _ _
 have hsa:wa.heap.size=w.heap.size+3:=by rw[<-HWa.out];simp
 refine callsIn_of_wp_marks Tryz.func46 rfl trivial ?_ rfl;simp only[Tryz.ntmps46,List.size_toArray,List.length_cons,List.length_nil,Nat.reduceAdd,Nat.reduceSub,Array.replicate_succ,Array.replicate_zero,List.push_toArray,List.append_toArray,List.nil_append,List.cons_append]
 gi_wp2_with fail
 rw[HWa.out];refine⟨trivial,(callsIn_wide.2 (zxr _ _ _ _)).mono ?_⟩;rintro e w5'⟨rfl,rfl⟩;have rb:(wa.alloc (.cells #[.slice (some ⟨sb,off,none⟩) n cap] 124)).heap[wa.heap.size]? = some (.cells #[.slice (some ⟨sb,off,none⟩) n cap] 124 (0,0)):=heap_alloc_new wa _;have hF5:Fr [] wa (wa.alloc (.cells #[.slice (some ⟨sb,off,none⟩) n cap] 124)):=Fr.alloc _ _ _;have hs5:(wa.alloc (.cells #[.slice (some ⟨sb,off,none⟩) n cap] 124)).heap.size=wa.heap.size+1:=by simp
 obtain⟨bb,hbb⟩:∃b,b=wa.heap.size:=⟨_,rfl⟩;obtain⟨b3,hb3⟩:∃b,b=w.heap.size:=⟨_,rfl⟩;obtain⟨b4,hb4⟩:∃b,b=w.heap.size+1:=⟨_,rfl⟩;obtain⟨b5,hb5⟩:∃b,b=w.heap.size+1+1:=⟨_,rfl⟩;obtain⟨w5,HW5⟩:∃w5,Hid (wa.alloc (.cells #[.slice (some ⟨sb,off,none⟩) n cap] 124)=w5):=⟨_,rfl⟩;rw[HW5.out]at rb hF5 hs5 ⊢
 rw[<-hbb]at rb ⊢
 rw[<-hb5]at r5 ⊢
 rw[<-hb4]at r4 ⊢
 rw[<-hb3]at r3 ⊢
 have HB:Hid (b3=w.heap.size/\b4=w.heap.size+1/\b5=w.heap.size+2/\bb=w.heap.size+3/\w5.heap.size=w.heap.size+4):=⟨hb3,hb4,hb5,by omega,by omega⟩;clear HWa HW5 hb3 hb4 hb5 hbb
 gi_wp2_with fail
 refine Fo.range_of rfl (fun _=>True.intro) rfl (gf:=110) (lb:=#[.pointer (some ⟨bb,0,none⟩)]) rfl (enters_of Tryz.func110 (by kernel_rfl) rfl) ?_;intro fn RC HRC;obtain⟨D,hD⟩:∃D,D=w5.heap.size:=⟨_,rfl⟩;obtain⟨lr,hlr⟩:∃lr,lr=w5.heap.size+1:=⟨_,rfl⟩;have hF6:Fr [] w5 ((w5.alloc (.deferred (some []))).alloc (.loop (RC .ready none))):=(Fr.alloc [] _ _).then (Fr.alloc [] _ _);have hL6:((w5.alloc (.deferred (some []))).alloc (.loop (RC .ready none))).heap[w5.heap.size+1]? = some (.loop (RC .ready none)):=by
  have:=World.alloc_heap_new (w5.alloc (.deferred (some []))) (.loop (RC .ready none));rwa [World.size_alloc]at this
 have hK6:((w5.alloc (.deferred (some []))).alloc (.loop (RC .ready none))).heap[w5.heap.size]? = some (.deferred (some [])):=
  (Below.heap_alloc _ _ _ (by simp)).trans (World.alloc_heap_new w5 _)
 obtain⟨w6,HW6⟩:∃w6,Hid ((w5.alloc (.deferred (some []))).alloc (.loop (RC .ready none))=w6):=⟨_,rfl⟩;rw[HW6.out]at hF6 hL6 hK6 ⊢
 rw[<-hlr]at hL6 ⊢
 rw[<-hD]at HRC hK6 ⊢
 obtain⟨e1,e2,e3,e4,e5⟩:=HB.out;have hLd:Nd20 w b3 b4 b5 bb D lr:=⟨by omega,by omega,by omega,by omega,by omega,by omega⟩;have hF56:=hF5.then hF6;have hA0:Nq20 w b3 b4 b5 bb D lr mark (.slice (some ⟨sb,off,none⟩) n cap) (RC .ready none) O.Vn.zero false w6:=
  ⟨hF56.keep r3 (by simp),hF56.keep r4 (by simp),hF56.keep r5 (by simp),hF6.keep rb (by simp),hL6,hK6,hF.then hF56⟩
 clear hD hlr HW6 e1 e2 e3 e4 e5 hF56 hF6 hF5 hF r3 r4 r5 rb hL6 hK6 HB hsa hs5;have HLd:Hid (Nd20 w b3 b4 b5 bb D lr):=hLd;refine (zty 1 lr bb sb off n cap vs w6 (fun i W=>znt vs n mark i/\Nq20 w b3 b4 b5 bb D lr mark (.slice (some ⟨sb,off,none⟩) n cap) (RC .ready none) O.Vn.zero false W) (fun i W=>Nq20 w b3 b4 b5 bb D lr mark (.slice (some ⟨sb,off,none⟩) n cap) (RC .done (some .ret)) (NwAt vs n i) true W/\nwGo vs n mark i=false/\znt vs n mark i) (nwGo vs n mark) hnl hcap ?_ ⟨fun j hj=>absurd hj (by omega),hA0⟩ ?_).mono ?_
 .rintro i W⟨_,hL⟩;exact⟨by rw[crw hL.cb];rfl,HV.out W hL.fr⟩
 .rintro i k W⟨hall,hL⟩ hik;have ek:n-1-i=k:=by omega
  have HALL:Hid (znt vs n mark i):=hall;have HEK:Hid (n-1-i=k):=ek;clear hall;obtain⟨⟨num,val,drop⟩,hv⟩:∃v,vs.getD k O.Vn.zero=v:=⟨_,rfl⟩;have HVK:Hid (vs.getD k O.Vn.zero=⟨num,val,drop⟩):=hv;rw[hv];simp only;have HAt:Hid (NwAt vs n i=⟨num,val,drop⟩):=by show vs.getD (n-1-i) _=_;rw[ek,hv]
  refine zls HRC hL.lp ?_;have hLa:=hL.quiet (Fr.alloc [] W (.cells #[.int .i64 num,.string val,.bool drop] 128));have hbr:=Fo.begin_of (P:=Tryz.prog) HRC hLa.lp;have hLb:=hLa.rec_ hLd (RC .busy none);have hlW:lr<W.heap.size:=(Array.getElem?_eq_some_iff.1 hL.lp).1;have h7:((W.alloc (.cells #[.int .i64 num,.string val,.bool drop] 128)).putObj lr (.loop (RC .busy none))).heap[W.heap.size]? = some (.cells #[.int .i64 num,.string val,.bool drop] 128 (0,0)):=(Fr.putObj _ lr _).keep (heap_alloc_new W _) (by simp;omega);obtain⟨Wb,HWb⟩:∃Wb,Hid ((W.alloc (.cells #[.int .i64 num,.string val,.bool drop] 128)).putObj lr (.loop (RC .busy none))=Wb):=⟨_,rfl⟩;rw[HWb.out]at hbr hLb h7
  have HLb:Hid (Nq20 w b3 b4 b5 bb D lr mark (.slice (some ⟨sb,off,none⟩) n cap) (RC .busy none) O.Vn.zero false Wb):=hLb;have HWlt:Hid (lr<W.heap.size):=hlW;have x3:Wb.cell? ⟨b3,0,none⟩=some (.int .i64 mark):=by rw[crw hLb.c3];rfl
  have k0:Wb.cell? ⟨W.heap.size,0,none⟩=some (.int .i64 num):=by rw[crw h7];rfl
  have k1:Wb.cell? ⟨W.heap.size,1,none⟩=some (.string val):=by rw[crw h7];rfl
  have k2:Wb.cell? ⟨W.heap.size,2,none⟩=some (.bool drop):=by rw[crw h7];rfl
  clear hL hLa hLb HWb hlW hv ek hik h7;simp only[List.setIfInBounds_toArray,List.set_cons_succ,List.set_cons_zero];by_cases hle:num<=mark
  .have HLE:Hid (num<=mark):=hle;have hh:=HLb.out;have hlw:=HWlt.out;obtain⟨o1,o2,o3,o4,o5,o6⟩:=HLd.out.a;have u40:Wb.frozen? ⟨b4,0,none⟩=false:=by simp[World.frozen?,hh.c4]
   have u41:Wb.frozen? ⟨b4,1,none⟩=false:=by simp[World.frozen?,hh.c4]
   have u42:Wb.frozen? ⟨b4,2,none⟩=false:=by simp[World.frozen?,hh.c4]
   have u5:Wb.frozen? ⟨b5,0,none⟩=false:=by simp[World.frozen?,hh.c5]
   have y40:Wb.cell? ⟨b4,0,none⟩=some (.int .i64 0):=by rw[crw hh.c4];rfl
   have y41:Wb.cell? ⟨b4,1,none⟩=some (.string ⟨#[]⟩):=by rw[crw hh.c4];rfl
   have y42:Wb.cell? ⟨b4,2,none⟩=some (.bool false):=by rw[crw hh.c4];rfl
   have y5:Wb.cell? ⟨b5,0,none⟩=some (.bool false):=by rw[crw hh.c5];rfl
   have n45:b4≠b5:=by omega
   have n54:b5≠b4:=by omega
   have n74:W.heap.size≠b4:=by omega
   have n47:b4≠W.heap.size:=by omega
   have n75:W.heap.size≠b5:=by omega
   have n57:b5≠W.heap.size:=by omega
   clear hh hlw o1 o2 o3 o4 o5 o6
   gi_wp2_with fail
   have hA4:=HLb.out.fin HLd.out ⟨num,val,drop⟩ true;have hend:=Fo.end_of (P:=Tryz.prog) HRC hA4.lp (some .ret);have hA5:=hA4.rec_ HLd.out (RC .done (some .ret));have hgo:nwGo vs n mark i=false:=by unfold nwGo;rw[HEK.out,HVK.out];simp[HLE.out]
   refine⟨_,_,hend,by rw[hgo];rfl,fun e=>absurd e (by rw[hgo];decide),fun _=>⟨?_,hgo,HALL.out⟩⟩;rw[HAt.out];exact hA5
  have hd:decide (num<=mark)=false:=decide_eq_false hle;have HLE:Hid (¬num<=mark):=hle
  gi_wp2_with fail
  have hend:=Fo.end_of (P:=Tryz.prog) HRC HLb.out.lp none;have hA5:=HLb.out.rec_ HLd.out (RC .ready none);have hgo:nwGo vs n mark i=true:=by unfold nwGo;rw[HEK.out,HVK.out];simp[HLE.out]
  refine⟨_,_,hend,by rw[hgo];rfl,fun _=>⟨fun j hj=> ?_,hA5⟩,fun e=>absurd e (by rw[hgo];decide)⟩;rcases Nat.lt_or_ge j i with h|h
  .exact HALL.out j h
  obtain rfl:j=i:=by omega
  rw[HEK.out,HVK.out];have:=HLE.out;show ¬num<=mark;omega
 rintro e W3⟨⟨v0,rfl⟩,hEnd⟩;have hF5:∀W,Fr [D] W (W.putObj D (.deferred none)):=fun W=>Fr.putObj _ D _;rcases hEnd with⟨⟨hall,hL⟩,_⟩|⟨i,hi1,_,_,hL,hgo,hall⟩
 .have hle:=Fo.loop_end_of (P:=Tryz.prog) HRC hL.lp (by simp);have hL4:=hL.rec_ HLd.out (RC .exhausted none);obtain⟨W4,HW4⟩:∃W4,Hid (W3.putObj lr (.loop (RC .exhausted none))=W4):=⟨_,rfl⟩;rw[HW4.out]at hle hL4
  have HL4:Hid (Nq20 w b3 b4 b5 bb D lr mark (.slice (some ⟨sb,off,none⟩) n cap) (RC .exhausted none) O.Vn.zero false W4):=hL4;have HALL:Hid (znt vs n mark n):=hall;have y40:W4.cell? ⟨b4,0,none⟩=some (.int .i64 0):=by rw[crw hL4.c4];rfl
  have y41:W4.cell? ⟨b4,1,none⟩=some (.string ⟨#[]⟩):=by rw[crw hL4.c4];rfl
  have y42:W4.cell? ⟨b4,2,none⟩=some (.bool false):=by rw[crw hL4.c4];rfl
  have y5:W4.cell? ⟨b5,0,none⟩=some (.bool false):=by rw[crw hL4.c5];rfl
  have u40:W4.frozen? ⟨b4,0,none⟩=false:=by simp[World.frozen?,hL4.c4]
  have u41:W4.frozen? ⟨b4,1,none⟩=false:=by simp[World.frozen?,hL4.c4]
  have u42:W4.frozen? ⟨b4,2,none⟩=false:=by simp[World.frozen?,hL4.c4]
  have u5:W4.frozen? ⟨b5,0,none⟩=false:=by simp[World.frozen?,hL4.c5]
  have n45:b4≠b5:=by have:=hLd.a;omega
  have n54:b5≠b4:=by have:=hLd.a;omega
  clear hL hL4 HRC hA0 hall;refine⟨none,W4,hle,?_⟩;clear hle
  gi_wp2_with fail
  have hfin:=HL4.out.fin HLd.out O.Vn.zero false;obtain⟨o1,o2,o3,o4,o5,o6⟩:=HLd.out.a;refine⟨by simp,.inl ⟨_,_,rfl,run_takeDeferred hfin.df,?_⟩⟩;refine⟨_,zdm rfl _ _ _ b4 b5 _ _ rfl rfl (znh (v:=O.Vn.zero) ((hF5 _).keep hfin.c4 (by simp;omega))) (zgx (x:=false) ((hF5 _).keep hfin.c5 (by simp;omega))),?_⟩;refine⟨⟨O.Vn.zero,false,rfl,Or.inr ⟨rfl,rfl,fun j hj=> ?_⟩⟩,hfin.fr.on (hF5 _) (fun x hx=>by simp at hx;omega)⟩;have:=HALL.out (n-1-j) (by have:=HN.out;omega);rw[show n-1-(n-1-j)=j by have:=HN.out;omega]at this
  exact this
 have hle:=Fo.loop_end_of (P:=Tryz.prog) HRC hL.lp (by simp);have hL4:=hL.rec_ HLd.out (RC .exhausted (some .ret));obtain⟨W4,HW4⟩:∃W4,Hid (W3.putObj lr (.loop (RC .exhausted (some .ret)))=W4):=⟨_,rfl⟩;rw[HW4.out]at hle hL4
 have HL4:Hid (Nq20 w b3 b4 b5 bb D lr mark (.slice (some ⟨sb,off,none⟩) n cap) (RC .exhausted (some .ret)) (NwAt vs n i) true W4):=hL4;have HP:Hid (NwP vs mark (NwAt vs n i) true):=by
  refine Or.inl ⟨rfl,n-1-i,by have:=HN.out;omega,rfl,by simpa[nwGo,NwAt]using hgo,fun j h1 h2=> ?_⟩;have:=hall (n-1-j) (by have:=HN.out;omega);rw[show n-1-(n-1-j)=j by have:=HN.out;omega]at this
  exact this
 clear hL hL4 HRC hA0 hall hgo;refine⟨some .ret,W4,hle,?_⟩;clear hle
 gi_wp2_with fail
 have hfin:=HL4.out;obtain⟨o1,o2,o3,o4,o5,o6⟩:=HLd.out.a;refine⟨by simp,.inl ⟨_,_,rfl,run_takeDeferred hfin.df,?_⟩⟩;refine⟨_,zdm rfl _ _ _ b4 b5 _ _ rfl rfl (znh (v:=NwAt vs n i) ((hF5 _).keep hfin.c4 (by simp;omega))) (zgx (x:=true) ((hF5 _).keep hfin.c5 (by simp;omega))),?_⟩;exact⟨⟨_,true,rfl,HP.out⟩,hfin.fr.on (hF5 _) (fun x hx=>by simp at hx;omega)⟩
theorem zxt{vs:List O.Vn}{mark:Int}{v:O.Vn}{ok:Bool}(h:NwP vs mark v ok):O.vAt vs mark=if ok=true then some v else none:=by
 unfold O.vAt;rcases h with⟨rfl,k,hk,rfl,hle,hall⟩|⟨rfl,_,hall⟩
 .have e:vs=vs.take k++vs.getD k O.Vn.zero::vs.drop (k+1):=by
   rw[show vs.getD k O.Vn.zero=vs[k] by simp[List.getD,hk],<-List.drop_eq_getElem_cons hk,List.take_append_drop]
  have hd:(vs.drop (k+1)).filter (fun v=>decide (v.num<=mark))=[]:=by
   refine List.filter_eq_nil_iff.2 fun x hx=> ?_;obtain⟨j,hj,rfl⟩:=List.mem_iff_getElem.1 hx;rw[List.length_drop]at hj
   have:=hall (k+1+j) (by omega) (by omega);rw[show vs.getD (k+1+j) O.Vn.zero=vs[k+1+j]'(by omega) by simp[List.getD,show k+1+j<vs.length by omega]]at this
   rw[List.getElem_drop];simpa using this
  generalize vs.getD k O.Vn.zero=x at *;rw[e,List.filter_append,List.filter_cons,if_pos (by simpa using hle),hd];simp
 have hd:vs.filter (fun v=>decide (v.num<=mark))=[]:=by
  refine List.filter_eq_nil_iff.2 fun x hx=> ?_;obtain⟨j,hj,rfl⟩:=List.mem_iff_getElem.1 hx;have:=hall j hj;rw[show vs.getD j O.Vn.zero=vs[j] by simp[List.getD,hj]]at this
  simpa using this
 rw[hd];simp
def enOf(mark:Int)(h:O.Hd):Option O.Pr:=(O.valAt h.vs mark).map fun v=>(h.key,v)
theorem zaar{mark:Int}{h:O.Hd}{v:O.Vn}(hN:NwP h.vs mark v true)(hd:v.drop=false):enOf mark h=some (h.key,v.val):=by
 unfold enOf O.valAt;rw[zxt hN];simp[O.valOf,hd]
theorem zadt{mark:Int}{h:O.Hd}{v:O.Vn}{ok:Bool}(hN:NwP h.vs mark v ok)(hd:ok=false\/v.drop=true):enOf mark h=none:=by
 unfold enOf O.valAt;rw[zxt hN];rcases hd with rfl|hd
 .simp[O.valOf]
 cases ok<;>simp[O.valOf,hd]
theorem ztz{w:World}{vo:Option Addr}{L cap:Nat}{vs:List O.Vn}(hV:O.VRs w vo vs)(hne:0<vs.length)(hL:L=vs.length)(hc:L<=cap)(mark:Int):Calls Tryz.prog 46 #[.slice vo L cap,.int .i64 mark] w fun e w'=>(∃v ok,e=.returned (.tuple #[.agg (vnA v),.bool ok])/\NwP vs mark v ok)/\Fr [] w w':=by
 obtain⟨b,off,rfl,hb,hat⟩:=hV.lies hne;exact callsIn_wide.1 (zxs hL (by rw[hL];exact hV.few) hc hb (fun k hk=>hat k (by omega)) mark)
theorem zru{w:World}{ao:Option Addr}{N cap:Nat}{hs:List O.Hd}(hH:O.HRs w ao hs)(hN:N=hs.length)(hc:N<=cap)(hne:∀h∈hs,h.vs≠[])(mark:Int):Calls Tryz.prog 24 #[.slice ao N cap,.int .i64 mark] w fun e w'=>∃v,e=.returned v/\w'.ownsRow w.heap.size 61 2 v (hs.filterMap (enOf mark)).length (O.celsE (hs.filterMap (enOf mark)))/\Fr [] w w':=by
 have HN:Hid (N=hs.length):=hN;have hNl:N<=3518437208882:=by rw[hN];exact hH.few
 have HH:Hid (∀W,Fr [] w W->O.HRs W ao hs):=fun W hf=>hH.keep hf;have HX:Hid (∀h∈hs,h.vs≠[]):=hne;have HL:Hid (0<N->∃g off,ao=some ⟨g,off,none⟩/\∀W,Fr [] w W->∀i,i<N->W.cell? ⟨g,off+i*2,none⟩=some (.string (hs.getD i O.Hd.zero).key)/\W.cell? ⟨g,off+i*2+1,none⟩=some (.slice (hs.getD i O.Hd.zero).vo (hs.getD i O.Hd.zero).L (hs.getD i O.Hd.zero).cap)):=fun h0=>by
  obtain⟨g,off,e,hg,hat⟩:=hH.lies (by rw[<-HN.out];exact h0);refine⟨g,off,e,fun W hf i hi=> ?_⟩;have hk:∀o,W.cell? ⟨g,o,none⟩=w.cell? ⟨g,o,none⟩:=fun o=>World.cell?_of_block (hf.block g hg (by simp));have:=hat i (by rw[<-HN.out];exact hi);exact⟨(hk _).trans this.1,(hk _).trans this.2⟩
 clear hH hN hne;go_enter Tryz.func24,Tryz.ntmps24;go_wp2_with fail
 go_loopw [5,12] (fun ll ii wr=>∃(i:Nat),ii=.int .i64 i/\i<=N/\Hid (wr.ownsRow w.heap.size 61 2 ll ((hs.take i).filterMap (enOf mark)).length (O.celsE ((hs.take i).filterMap (enOf mark))))/\(∃o n k,ll=.slice o n k)/\Fr [] w wr) (fun _ ii _=>N-(RowKit.intOf ii).toNat)
 case atStart=>exact⟨0,rfl,Nat.zero_le _,⟨rfl,Or.inl ⟨rfl,rfl⟩⟩,⟨none,0,0,rfl⟩,Fr.refl _ _⟩
 obtain⟨i,rfl,hiN,HO,⟨so,sn,sc,rfl⟩,hF⟩:=hrel;by_cases hi:i<N
 .obtain⟨g,off,rfl,hcells⟩:=HL.out (by omega);obtain⟨d0,d1⟩:=hcells wr hF i hi;have hmem:hs.getD i O.Hd.zero∈hs:=O.hgetD_mem hs i (by rw[<-HN.out];exact hi);have hsn:hs.take (i+1)=hs.take i++[hs.getD i O.Hd.zero]:=O.htake_snoc hs i (by rw[<-HN.out];exact hi);obtain⟨⟨key,vo,L,cp,vs⟩,hh⟩:∃h,hs.getD i O.Hd.zero=h:=⟨_,rfl⟩;rw[hh]at d0 d1 hmem hsn
  simp only at d0 d1;have HSn:Hid (hs.take (i+1)=hs.take i++[⟨key,vo,L,cp,vs⟩]):=hsn;have HNw:Hid (∀W,Fr [] w W->Calls Tryz.prog 46 #[.slice vo L cp,.int .i64 mark] W fun e w'=>(∃v ok,e=.returned (.tuple #[.agg (vnA v),.bool ok])/\NwP vs mark v ok)/\Fr [] W w'):=fun W hf=>by
   have he:=(HH.out W hf).each _ hmem;exact ztz he.rs (List.length_pos_iff.2 (HX.out _ hmem)) he.len he.cp mark
  clear hh hmem hsn hcells;go_wp2_with fail
  obtain⟨w1,HW1⟩:∃w1,Hid (wr.alloc (.cells #[.string key,.slice vo L cp] 126)=w1):=⟨_,rfl⟩;obtain⟨hb,HHb⟩:∃hb,Hid (wr.heap.size=hb):=⟨_,rfl⟩;have hF1:Fr [] wr w1:=by rw[<-HW1.out];exact Fr.alloc _ _ _
  have hb1:w1.heap[hb]? = some (.cells #[.string key,.slice vo L cp] 126 (0,0)):=by rw[<-HW1.out,<-HHb.out];exact heap_alloc_new _ _
  rw[HW1.out,HHb.out];refine (HNw.out w1 (hF.then hF1)).mono ?_;rintro e w2⟨⟨⟨num,val,drop⟩,ok,rfl,hP⟩,hF2⟩;simp only[vnA];have k0:w2.cell? ⟨hb,0,none⟩=some (.string key):=by rw[crw (hF2.keep hb1 (by simp))];rfl
  have k0':∀o,(w2.alloc o).cell? ⟨hb,0,none⟩=some (.string key):=fun o=>by rw[crw ((Fr.alloc [] w2 o).keep (hF2.keep hb1 (by simp)) (by simp))];rfl
  have HF2:Hid (Fr [] wr w2):=hF1.then hF2;have HP:Hid (NwP vs mark ⟨num,val,drop⟩ ok):=hP;clear HNw HW1 HHb hF1 hF2 hb1 hP d0 d1;by_cases hyes:ok=true/\drop=false
  .obtain⟨rfl,rfl⟩:=hyes;have HS:Hid ((hs.take (i+1)).filterMap (enOf mark)=(hs.take i).filterMap (enOf mark)++[(key,val)]):=by
    show _=_;rw[HSn.out,List.filterMap_append]
    congr 1
    have:=zaar (h:=⟨key,vo,L,cp,vs⟩) HP.out rfl;simp[this]
   have hlen:((hs.take i).filterMap (enOf mark)).length<=i:=Nat.le_trans (List.length_filterMap_le _ _) (by rw[List.length_take];omega);obtain⟨qs,hqs⟩:∃qs,(hs.take i).filterMap (enOf mark)=qs:=⟨_,rfl⟩;rw[hqs]at HS HO hlen
   have HOk:Hid (∀W,Fr [] w2 W->W.ownsRow w.heap.size 61 2 (.slice so sn sc) qs.length (O.celsE qs)):=fun W hf=>O.owns_keepB HO.out (HF2.out.then hf) (by simp);have HOn:Hid (∀W W',Fr [] w2 W->Fr (Value.slice so sn sc).ownBlock.toList W W'->Fr [] w W'):=fun W W' h1 h2=>((hF.then HF2.out).then h1).on h2 (fun x hx=>by
    have:=(O.owns_cells (HOk.out w2 (Fr.refl _ _)) (Option.mem_toList.1 hx)).1;exact this)
   have HSz:Hid (w.heap.size<=w2.heap.size):=(hF.then HF2.out).size;have HEs:Hid (O.ESl ((w2.alloc (.cells #[.int .i64 num,.string val,.bool false] 128)).alloc (.cells #[.string key,.string val] 61)) (some ⟨w2.heap.size+1,0,none⟩) 1 [(key,val)]):=by
    have:=O.esl_new (w2.alloc (.cells #[.int .i64 num,.string val,.bool false] 128)) (key,val);rw[World.size_alloc]at this
    exact this
   clear HO hqs HP HSn;go_wp2_with (first
    |(
     at_builtin;refine O.wpList_appE _ rfl _ _ rfl w.heap.size (.slice so sn sc) qs rfl (HOk.out _ ((Fr.alloc [] _ _).then (Fr.alloc [] _ _))) (some ⟨w2.heap.size+1,0,none⟩) 1 1 [(key,val)] rfl HEs.out (by omega) ?hsize ?_
     case hsize=>have:=HSz.out;simp;omega
     intro o' n' c' w4 hn' hO4 hF4;have HR3:Hid (_/\_/\_):=⟨hn',hO4,HOn.out _ _ ((Fr.alloc [] _ _).then (Fr.alloc [] _ _)) hF4⟩;clear hn' hO4 hF4;go_frame)
    |fail)
   go_roundw;case rel=>exact⟨i+1,rfl,by omega,(by show World.ownsRow _ _ _ _ _ _ _;rw[HS.out,<-HR3.out.1];exact HR3.out.2.1),⟨_,_,_,rfl⟩,HR3.out.2.2⟩
   case measure=>first|omega|(simp[RowKit.intOf];omega)|(simp only[RowKit.intOf,RowKit.intOf];omega)
  have hno:ok=false\/drop=true:=by
   cases ok
   .exact Or.inl rfl
   cases drop
   .exact absurd ⟨rfl,rfl⟩ hyes
   exact Or.inr rfl
  have HS:Hid ((hs.take (i+1)).filterMap (enOf mark)=(hs.take i).filterMap (enOf mark)):=by
   show _=_;rw[HSn.out,List.filterMap_append];have:=zadt (h:=⟨key,vo,L,cp,vs⟩) HP.out hno;simp[this]
  have HO2:Hid (∀W,Fr [] w2 W->W.ownsRow w.heap.size 61 2 (.slice so sn sc) ((hs.take (i+1)).filterMap (enOf mark)).length (O.celsE ((hs.take (i+1)).filterMap (enOf mark)))):=fun W hf=>by
   rw[HS.out];exact O.owns_keepB HO.out (HF2.out.then hf) (by simp)
  have HFF:Hid (Fr [] w w2):=hF.then HF2.out;clear HO HP HSn HS hyes;rcases hno with rfl|rfl
  .go_wp2_with fail
   go_roundw;case rel=>exact⟨i+1,rfl,by omega,HO2.out _ (Fr.alloc [] _ _),⟨_,_,_,rfl⟩,HFF.out.then (Fr.alloc [] _ _)⟩
   case measure=>first|omega|(simp[RowKit.intOf];omega)|(simp only[RowKit.intOf,RowKit.intOf];omega)
  cases ok
  .go_wp2_with fail
   go_roundw;case rel=>exact⟨i+1,rfl,by omega,HO2.out _ (Fr.alloc [] _ _),⟨_,_,_,rfl⟩,HFF.out.then (Fr.alloc [] _ _)⟩
   case measure=>first|omega|(simp[RowKit.intOf];omega)|(simp only[RowKit.intOf,RowKit.intOf];omega)
  go_wp2_with fail
  go_roundw;case rel=>exact⟨i+1,rfl,by omega,HO2.out _ (Fr.alloc [] _ _),⟨_,_,_,rfl⟩,HFF.out.then (Fr.alloc [] _ _)⟩
  case measure=>first|omega|(simp[RowKit.intOf];omega)|(simp only[RowKit.intOf,RowKit.intOf];omega)
 obtain rfl:i=N:=by omega
 go_wp2;go_ret;refine⟨_,rfl,?_,hF⟩;have:=HO.out;rw[List.take_of_length_le (by rw[<-HN.out];exact Nat.le_refl _)]at this
 exact this
end Go.Proofs.YtakbodlicfmkjaaGreat
