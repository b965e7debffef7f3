/- Contracts and lemmas. -/
import Derived.Test.YtojjdnjfaelnfaaGreatDoorGp32
import Derived.Test.YtojjdnjfaelnfaaGreatDoorGp35
set_option maxHeartbeats 8000000
set_option maxRecDepth 100000
set_option linter.unusedSimpArgs false
set_option linter.unusedVariables false
namespace Go.Proofs.YtojjdnjfaelnfaaGreatDoor
open Go.ChangeShapes Go.WideShapes Go.ChangeAt Go.RowKit Go.Lib Go.Proofs.Tryz
attribute [local go_sem] Oper.semAt_some
theorem zyy(o:Option Addr)(n k:Nat)(w:World):Calls prog 133 #[.slice o n k] w fun e w'=>e=.returned (.func (Fn.func 160) #[] #[.pointer (some ⟨w.heap.size,0,none⟩)])/\w'=w.alloc (.cells #[.slice o n k] 167):=by
 go_enter func133,ntmps133;go_wp2;go_ret;exact⟨rfl,rfl⟩
def zafl(J Jx:Nat->World->Prop)(go:Nat->Bool)(R:Nat)(W':World):Prop:=
 (J R W'/\∀j,j<R->go j=true)\/∃i,i<R/\go i=false/\(∀j,j<i->go j=true)/\Jx i W'
theorem zyz(m l bb sb n cap:Nat)(xs:Nat->Value)(W:World)(J Jx:Nat->World->Prop)(go:Nat->Bool)(hn:n<=100)(hcap:n<=cap)(hT:∀i w,J i w->w.cell? ⟨bb,0,none⟩=some (.slice (some ⟨sb,0,none⟩) n cap)/\∀k,k<n->w.cell? ⟨sb,k,none⟩=some (xs k))(h0:J 0 W)(hY:∀(i k:Nat) (w:World),J i w->i+k+1=n->YieldAt Fence.wide m prog l #[.int .i64 (k:Int),xs k] w fun e w'=>e=.returned (.bool (go i))/\(go i=true->J (i+1) w')/\(go i=false->Jx i w')) :
  CallsIn Fence.wide (m+1) prog 160 #[.func (.yield l) #[] #[],.pointer (some ⟨bb,0,none⟩)] W fun e W'=>(∃v,e=.returned v)/\zafl J Jx go n W':=by
 have cb:=(hT 0 W h0).1;refine callsIn_of_wp func160 rfl trivial ?_ rfl;simp only[ntmps160,List.size_toArray,List.length_cons,List.length_nil,Nat.reduceAdd,Nat.reduceSub,Array.replicate_succ,Array.replicate_zero,List.push_toArray,List.append_toArray,List.nil_append,List.cons_append]
 gi_wp2_with fail
 gi_loopw [3] (fun ii wr=>∃i:Nat,ii=.int .i64 ((n:Int)-1-(i:Int))/\i<=n/\J i wr/\Hid (∀j,j<i->go j=true)) (fun ii _=>(RowKit.intOf ii+1).toNat)
 case atStart=>exact⟨0,by simp,Nat.zero_le _,h0,fun j hj=>absurd hj (by omega)⟩
 clear cb;obtain⟨i,rfl,hiR,hJi,HG⟩:=hrel;by_cases hi:i<n
 .obtain⟨k,hk⟩:∃k,i+k+1=n:=⟨n-1-i,by omega⟩;have ek:(n:Int)-1-(i:Int)=(k:Int):=by omega
  have HK:Hid (i+k+1=n):=hk;have hkn:k<n:=by omega
  rw[ek];have cb:=(hT i wr hJi).1;have ck:=(hT i wr hJi).2 k hkn;obtain⟨fn,tmps,assign,body,hy,hRo⟩:=hY i k wr hJi hk;obtain⟨B,hB⟩:∃B,B=go i:=⟨_,rfl⟩;rw[<-hB]at hRo
  have HB:Hid (B=go i):=hB;clear hB hk ek;cases B with
  |true=>
   gi_wp2_with fail
   refine hRo.mono ?_;rintro e W6⟨rfl,hJt,_⟩;have hJ6:=hJt (by trivial);clear hRo hy hJt cb ck;have HG6:Hid (∀j,j<i+1->go j=true):=fun j hj=>by
    rcases Nat.lt_or_ge j i with h|h
    .exact HG.out j h
    obtain rfl:j=i:=(by omega);exact HB.out.symm
   gi_wp2
   refine⟨⟨i+1,?_,by omega,hJ6,HG6⟩,?_⟩
   .have:=HK.out
    congr 1
    omega
   .simp[RowKit.intOf]
  |false=>
   gi_wp2_with fail
   refine hRo.mono ?_;rintro e W6⟨rfl,_,hJt⟩;have hJ6:=hJt (by trivial);clear hRo hy hJt cb ck
   gi_wp2
   refine bodyPost_ret (results_none rfl _ _ _) rfl ?_;exact⟨⟨_,rfl⟩,Or.inr ⟨i,hi,HB.out.symm,HG.out,hJ6⟩⟩
 obtain rfl:i=n:=by omega
 have en:(i:Int)-1-(i:Int)= -1:=by omega
 rw[en]
 gi_wp2
 go_end0
 exact⟨⟨_,rfl⟩,Or.inl ⟨hJi,HG.out⟩⟩
theorem zhy{w:World}{ty:TypeId}{p:Value}{mb nb:Nat}{i n:Int}(hn:w.heap[nb]? = some (.cells #[.int .i64 n] 3 (0,0)))(MM:∀y:Wq w,(method 662 ty p "towpath/replica.number").run prog y.W=.ok (266,.agg #[.pointer (some ⟨mb,0,none⟩),.int .i64 i]) y.W) :
  Calls prog 114 #[.iface ty p,.pointer (some ⟨nb,0,none⟩)] w fun e w'=>e=.returned (.bool (decide (i=n)))/\Fr [] w w':=by
 have cn:∀y:Wq w,y.W.cell? ⟨nb,0,none⟩=some (.int .i64 n):=fun y=>by rw[crw (y.h.keep hn (by simp))];rfl
 have HN:∀y:Wq w,Calls prog 266 #[.agg #[.pointer (some ⟨mb,0,none⟩),.int .i64 i]] y.W fun e w'=>e=.returned (.int .i64 i)/\Fr [] y.W w':=fun y=>zqx _ _ _;have hd:(i==n)=decide (i=n):=by by_cases h:i=n<;>simp[h]
 have HD:Hid ((i==n)=decide (i=n)):=hd;clear hd;go_enter func114,ntmps114;go_wp2_with fail
 refine zfk (w1:=w) (by kernel_rfl) (by kernel_rfl) (Fr.refl _ _) ?_
 repeat (go_big_quiet_step (first
  |(go_at_call 266;with_reducible refine (HN _).mono ?_;exact fun e w3 hh=>⟨hh.1,⟨_,Fr.then (Wq.h _) hh.2⟩,rfl⟩)
  |simp[go_sem,MM,cn]))
 refine wpQuiet_nil ?_;rintro _⟨z,rfl⟩;go_wp2;go_ret;exact⟨by rw[<-HD.out];rfl,z.h⟩
theorem zza{w0 w:World}{c:Cf}{T:List Tx}{Z:Lay}{s:Ms}(h:MaM w0 w c T Z s){i nb:Nat}(hi:i<c.l.toNat+c.s.toNat+2){n:Int}(hn:w.heap[nb]? = some (.cells #[.int .i64 n] 3 (0,0))) :
  Calls prog 114 #[zbn c Z.z i,.pointer (some ⟨nb,0,none⟩)] w fun e w'=>e=.returned (.bool (decide ((i:Int)=n)))/\Fr [] w w':=by
 unfold zbn;by_cases h1:i=0
 .rw[if_pos h1];refine zhy (mb:=Z.z.mb) hn fun y=> ?_;have:=(h.quiet y.h).kdc;exact zyu this.1 (by rw[this.2,h1];rfl)
 rw[if_neg h1];by_cases h2:i<=c.l.toNat
 .rw[if_pos h2];refine zhy (mb:=Z.z.mb) hn fun y=> ?_;have:=(h.quiet y.h).kwc (i:=i-1) (by omega);exact zyv this.1 (by rw[this.2.1,show i-1+1=i by omega])
 rw[if_neg h2];by_cases h3:i<=c.l.toNat+c.s.toNat
 .rw[if_pos h3];refine zhy (mb:=Z.z.mb) hn fun y=> ?_;have:=(h.quiet y.h).kkc (j:=i-c.l.toNat-1) (by omega);exact zyw this.1 (by rw[this.2.1,show c.l.toNat+1+(i-c.l.toNat-1)=i by omega])
 rw[if_neg h3];refine zhy (mb:=Z.z.mb) hn fun y=> ?_;have:=(h.quiet y.h).kgc;exact zyx this.1 (by rw[this.2,show c.l.toNat+c.s.toNat+1=i by omega])
attribute [local go_sem] Oper.semAt_some
theorem zabs(w:World)(o p:Obj):((w.alloc o).alloc p).heap[w.heap.size+1]? = some p:=by
 have:=heap_alloc_new (w.alloc o) p
 rwa [World.size_alloc]at this
theorem zabt(w:World)(o p q:Obj):(((w.alloc o).alloc p).alloc q).heap[w.heap.size+2]? = some q:=by
 have:=heap_alloc_new ((w.alloc o).alloc p) q
 rwa [World.size_alloc,World.size_alloc]at this
theorem zvw(t:Array Value)(p q:Tmp)(u v:Value):(#[p,q].zip #[u,v]).foldl (fun t (x:Tmp×Value)=>match x with|(p,v)=>t.setIfInBounds p v) t=(t.setIfInBounds p u).setIfInBounds q v:=by simp
theorem zvx{m l:Nat}{P:Program}{fn:FuncId}{tmps:Array Value}{p q:Tmp}{u v:Value}{assign body:Code}{D:Nat}{RC:LoopState->Option Code->Loop}(hRC:Hid (RC=Fo.recOf fn tmps #[p,q] assign body D)){W:World}(hl:W.heap[l]? = some (.loop (RC .ready none))){R:Ending->World->Prop}(h:assign.wpIn (Fence.wide.inRound l) m P (Exit.then (fun a₁ w₁=>∃w₂,(Instr.beginRound l).run P w₁=.ok () w₂/\body.wpIn (Fence.wide.inRound l) m P (roundPost P l R) a₁ w₂) (fun _ _ _=>False))
   {tmps:=(tmps.setIfInBounds p u).setIfInBounds q v,defers:=[]} W):YieldAt Fence.wide m P l #[u,v] W R:=
 Fo.round_of hRC rfl hl (by rw[zvw];exact h)
structure Lq(w0:World)(b3 b4 b5 nb bb D lr:Nat)(n:Int)(sl:Value)(rec:Loop)(v4:Value)(v5:Bool)(W:World):Prop where
 c3:W.heap[b3]? = some (.cells #[.func (.func 114) #[] #[.pointer (some ⟨nb,0,none⟩)]] 195 (0,0))
 c4:W.heap[b4]? = some (.cells #[v4] 150 (0,0))
 c5:W.heap[b5]? = some (.cells #[.bool v5] 4 (0,0))
 cb:W.heap[bb]? = some (.cells #[sl] 167 (0,0))
 cn:W.heap[nb]? = some (.cells #[.int .i64 n] 3 (0,0))
 lp:W.heap[lr]? = some (.loop rec)
 df:W.heap[D]? = some (.deferred (some []))
 fr:Fr [] w0 W
structure Ld(w0:World)(b3 b4 b5 nb bb D lr:Nat):Prop where
 a:nb<w0.heap.size/\w0.heap.size<=b3/\b3<b4/\b4<b5/\b5<bb/\bb<D/\D<lr
section
variable{w0 W W':World}{b3 b4 b5 nb bb D lr:Nat}{n:Int}{sl:Value}{rec:Loop}{v4:Value}{v5:Bool}
theorem Lq.quiet(h:Lq w0 b3 b4 b5 nb bb D lr n sl rec v4 v5 W)(hf:Fr [] W W'):Lq w0 b3 b4 b5 nb bb D lr n sl rec v4 v5 W':=
 ⟨hf.keep h.c3 (by simp),hf.keep h.c4 (by simp),hf.keep h.c5 (by simp),hf.keep h.cb (by simp),hf.keep h.cn (by simp),hf.keep h.lp (by simp),hf.keep h.df (by simp),h.fr.then hf⟩
theorem Lq.rec_(d:Ld w0 b3 b4 b5 nb bb D lr)(h:Lq w0 b3 b4 b5 nb bb D lr n sl rec v4 v5 W)(rec':Loop):Lq w0 b3 b4 b5 nb bb D lr n sl rec' v4 v5 (W.putObj lr (.loop rec')):=by
 obtain⟨d0,d1,d2,d3,d4,d5,d6⟩:=d.a;have hf:=Fr.putObj W lr (.loop rec');exact⟨hf.keep h.c3 (by simp;omega),hf.keep h.c4 (by simp;omega),hf.keep h.c5 (by simp;omega),hf.keep h.cb (by simp;omega),hf.keep h.cn (by simp;omega),World.putObj_heap_same (Array.getElem?_eq_some_iff.1 h.lp).1,hf.keep h.df (by simp;omega),h.fr.on hf (fun x hx=>by simp at hx;omega)⟩
theorem znu{w:World}{k:Nat}{ty:TypeId}{u v:Value}(h:w.heap[k]? = some (.cells #[u] ty (0,0))):(w.setCell ⟨k,0,none⟩ v).heap[k]? = some (.cells #[v] ty (0,0)):=by
 obtain⟨hlt,hk⟩:=Array.getElem?_eq_some_iff.1 h;show (w.heap.modify k _)[k]? = _;rw[Array.getElem?_modify,if_pos rfl,h];rfl
theorem Lq.fin(d:Ld w0 b3 b4 b5 nb bb D lr)(h:Lq w0 b3 b4 b5 nb bb D lr n sl rec v4 v5 W)(u:Value)(v:Bool):Lq w0 b3 b4 b5 nb bb D lr n sl rec u v ((W.setCell ⟨b4,0,none⟩ u).setCell ⟨b5,0,none⟩ (.bool v)):=by
 obtain⟨d0,d1,d2,d3,d4,d5,d6⟩:=d.a;have f4:Fr [b4] W (W.setCell ⟨b4,0,none⟩ u):=Fr.set _ _ _ (by simp);have r4:=znu (v:=u) h.c4;have r5:=f4.keep h.c5 (by simp;omega);have f5:Fr [b5] (W.setCell ⟨b4,0,none⟩ u) ((W.setCell ⟨b4,0,none⟩ u).setCell ⟨b5,0,none⟩ (.bool v)):=Fr.set _ _ _ (by simp);have q5:=znu (v:=.bool v) r5;exact⟨f5.keep (f4.keep h.c3 (by simp;omega)) (by simp;omega),f5.keep r4 (by simp;omega),q5,f5.keep (f4.keep h.cb (by simp;omega)) (by simp;omega),f5.keep (f4.keep h.cn (by simp;omega)) (by simp;omega),f5.keep (f4.keep h.lp (by simp;omega)) (by simp;omega),f5.keep (f4.keep h.df (by simp;omega)) (by simp;omega),(h.fr.on f4 (fun x hx=>by simp at hx;omega)).on f5 (fun x hx=>by simp at hx;omega)⟩
end
theorem zkr{fn:Func}{p q:Tmp}{t1 t2:TypeId}(h:fn.results= #[.cell p t1,.cell q t2])(tmps:Array Value)(P:Program)(w:World)(a b:Nat)(x y:Value)(hp:tmps.getD p undef=.pointer (some ⟨a,0,none⟩))(hq:tmps.getD q undef=.pointer (some ⟨b,0,none⟩))(h1:(loadVar t1 ⟨a,0,none⟩).run P w=.ok x w)(h2:(loadVar t2 ⟨b,0,none⟩).run P w=.ok y w) :
  (results fn tmps).run P w=.ok (.tuple #[x,y]) w:=by
 simp only[results,h];simp[Sem.run_bind,Result.andThen,<-Array.getD_eq_getD_getElem?,hp,hq,asAddr,h1,h2]
theorem zfm{fn:Func}{p q:Tmp}(h:fn.results= #[.tmp p,.tmp q])(tmps:Array Value)(P:Program)(w:World):(results fn tmps).run P w=.ok (.tuple #[tmps.getD p undef,tmps.getD q undef]) w:=by
 simp only[results,h];simp[Sem.run_bind,Result.andThen]
theorem zsz{w:World}{g:Nat}{x:Value}(h:w.heap[g]? = some (.cells #[x] 150 (0,0))):(loadVar 150 ⟨g,0,none⟩).run prog w=.ok x w:=by
 have hc:w.cell? ⟨g,0,none⟩=some x:=by rw[crw h];rfl
 go_simp
theorem zta{w:World}{g:Nat}{x:Bool}(h:w.heap[g]? = some (.cells #[.bool x] 4 (0,0))):(loadVar 4 ⟨g,0,none⟩).run prog w=.ok (.bool x) w:=by
 have hc:w.cell? ⟨g,0,none⟩=some (.bool x):=by rw[crw h];rfl
 go_simp
theorem zabu(c:Cf)(Z:St)(i:Nat):∃ty b,zbn c Z i=.iface ty (.pointer (some ⟨b,0,none⟩)):=by
 unfold zbn;split
 .exact⟨_,_,rfl⟩
 split
 .exact⟨_,_,rfl⟩
 split
 .exact⟨_,_,rfl⟩
 exact⟨_,_,rfl⟩
theorem zafm{w0 w:World}{c:Cf}{T:List Tx}{Z:Lay}{s:Ms}(h:MaM w0 w c T Z s){nb q:Nat}(hq:q<c.l.toNat+c.s.toNat+2)(hn:w.heap[nb]? = some (.cells #[.int .i64 (q:Int)] 3 (0,0))) :
  CallsIn Fence.wide 3 prog 113 #[.pointer (some ⟨Z.z.mb,0,none⟩),.func (.func 114) #[] #[.pointer (some ⟨nb,0,none⟩)]] w fun e w'=>e=.returned (.tuple #[zbn c Z.z q,.bool true])/\Fr [] w w':=by
 have mixed:prog.follows .mixedOrders=true:=by kernel_rfl
 have hm:=h.may;obtain⟨N,hN⟩:∃N,N=c.l.toNat+c.s.toNat+2:=⟨_,rfl⟩;have hNl:N<=100:=by have:=hm.1;have:=hm.2.1;omega
 have hcap:N<=Z.z.orC:=by have:=h.st.caps.2.2;omega
 obtain⟨wa,HWa⟩:∃wa,Hid ((((w.alloc (.cells #[.func (.func 114) #[] #[.pointer (some ⟨nb,0,none⟩)]] 195)).alloc (.cells #[.nilIface] 150)).alloc (.cells #[.bool false] 4))=wa):=⟨_,rfl⟩;have hF:Fr [] w wa:=by rw[<-HWa.out];exact ((Fr.alloc [] _ _).then (Fr.alloc [] _ _)).then (Fr.alloc [] _ _)
 have r3:wa.heap[w.heap.size]? = some (.cells #[.func (.func 114) #[] #[.pointer (some ⟨nb,0,none⟩)]] 195 (0,0)):=by rw[<-HWa.out];exact (Below.heap_alloc _ _ _ (by simp;omega)).trans ((Below.heap_alloc _ _ _ (by simp)).trans (heap_alloc_new w _))
 have r4:wa.heap[w.heap.size+1]? = some (.cells #[.nilIface] 150 (0,0)):=by rw[<-HWa.out];exact (Below.heap_alloc _ _ _ (by simp)).trans (zabs _ _ _)
 have r5:wa.heap[w.heap.size+1+1]? = some (.cells #[.bool false] 4 (0,0)):=by rw[<-HWa.out];exact zabt _ _ _ _
 have hsa:wa.heap.size=w.heap.size+3:=by rw[<-HWa.out];simp
 have hk:=h.quiet hF;have c13:wa.cell? ⟨Z.z.mb,13,none⟩=some (.slice (some ⟨Z.z.orB,0,none⟩) N Z.z.orC):=by rw[hN];exact hk.mc rfl
 rw[<-HWa.out]at c13
 have HN:Hid (N=c.l.toNat+c.s.toNat+2):=hN;have hqN:q<N:=by omega
 clear hN hq hm;have HH:Hid (MaM w0 w c T Z s):=h;have hnbl:nb<w.heap.size:=lt_of_block hn;have hna:=hF.keep hn (by simp);clear h hk;refine callsIn_of_wp_marks func113 rfl trivial ?_ rfl;simp only[ntmps113,List.size_toArray,List.length_cons,List.length_nil,Nat.reduceAdd,Nat.reduceSub,Array.replicate_succ,Array.replicate_zero,List.push_toArray,List.append_toArray,List.nil_append,List.cons_append]
 gi_wp2_with fail
 rw[HWa.out];refine⟨trivial,(callsIn_wide.2 (zyy _ _ _ _)).mono ?_⟩;rintro e w5'⟨rfl,rfl⟩;have rb:(wa.alloc (.cells #[.slice (some ⟨Z.z.orB,0,none⟩) N Z.z.orC] 167)).heap[wa.heap.size]? = some (.cells #[.slice (some ⟨Z.z.orB,0,none⟩) N Z.z.orC] 167 (0,0)):=heap_alloc_new wa _;have hF5:Fr [] wa (wa.alloc (.cells #[.slice (some ⟨Z.z.orB,0,none⟩) N Z.z.orC] 167)):=Fr.alloc _ _ _;have hs5:(wa.alloc (.cells #[.slice (some ⟨Z.z.orB,0,none⟩) N Z.z.orC] 167)).heap.size=wa.heap.size+1:=by simp
 obtain⟨bb,hbb⟩:∃b,b=wa.heap.size:=⟨_,rfl⟩;obtain⟨b3,hb3⟩:∃b,b=w.heap.size:=⟨_,rfl⟩;obtain⟨b4,hb4⟩:∃b,b=w.heap.size+1:=⟨_,rfl⟩;obtain⟨b5,hb5⟩:∃b,b=w.heap.size+1+1:=⟨_,rfl⟩;obtain⟨w5,HW5⟩:∃w5,Hid (wa.alloc (.cells #[.slice (some ⟨Z.z.orB,0,none⟩) N Z.z.orC] 167)=w5):=⟨_,rfl⟩;rw[HW5.out]at rb hF5 hs5 ⊢
 rw[<-hbb]at rb ⊢
 rw[<-hb5]at r5 ⊢
 rw[<-hb4]at r4 ⊢
 rw[<-hb3]at r3 ⊢
 have HB:Hid (b3=w.heap.size/\b4=w.heap.size+1/\b5=w.heap.size+2/\bb=w.heap.size+3/\w5.heap.size=w.heap.size+4/\nb<w.heap.size):=⟨hb3,hb4,hb5,by omega,by omega,hnbl⟩;clear HWa HW5 hb3 hb4 hb5 hbb c13
 gi_wp2_with fail
 refine Fo.range_of rfl (fun _=>True.intro) rfl (gf:=160) (lb:=#[.pointer (some ⟨bb,0,none⟩)]) rfl (enters_of func160 (by kernel_rfl) rfl) ?_;intro fn RC HRC;obtain⟨D,hD⟩:∃D,D=w5.heap.size:=⟨_,rfl⟩;obtain⟨lr,hlr⟩:∃lr,lr=w5.heap.size+1:=⟨_,rfl⟩;have hF6:Fr [] w5 ((w5.alloc (.deferred (some []))).alloc (.loop (RC .ready none))):=(Fr.alloc [] _ _).then (Fr.alloc [] _ _);have hL6:((w5.alloc (.deferred (some []))).alloc (.loop (RC .ready none))).heap[w5.heap.size+1]? = some (.loop (RC .ready none)):=by
  have:=World.alloc_heap_new (w5.alloc (.deferred (some []))) (.loop (RC .ready none));rwa [World.size_alloc]at this
 have hK6:((w5.alloc (.deferred (some []))).alloc (.loop (RC .ready none))).heap[w5.heap.size]? = some (.deferred (some [])):=
  (Below.heap_alloc _ _ _ (by simp)).trans (World.alloc_heap_new w5 _)
 obtain⟨w6,HW6⟩:∃w6,Hid ((w5.alloc (.deferred (some []))).alloc (.loop (RC .ready none))=w6):=⟨_,rfl⟩;rw[HW6.out]at hF6 hL6 hK6 ⊢
 rw[<-hlr]at hL6 ⊢
 rw[<-hD]at HRC hK6 ⊢
 obtain⟨e1,e2,e3,e4,e5,e6⟩:=HB.out;have hLd:Ld w b3 b4 b5 nb bb D lr:=⟨by omega,by omega,by omega,by omega,by omega,by omega,by omega⟩;have hF56:=hF5.then hF6;have hA0:Lq w b3 b4 b5 nb bb D lr q (.slice (some ⟨Z.z.orB,0,none⟩) N Z.z.orC) (RC .ready none) .nilIface false w6:=
  ⟨hF56.keep r3 (by simp),hF56.keep r4 (by simp),hF56.keep r5 (by simp),hF6.keep rb (by simp),hF56.keep hna (by simp),hL6,hK6,hF.then hF56⟩
 clear hD hlr HW6 e1 e2 e3 e4 e5 e6 hF56 hF6 hF5 hF r3 r4 r5 rb hL6 hK6 hna HB hsa hs5;have HLd:Hid (Ld w b3 b4 b5 nb bb D lr):=hLd;refine (zyz 1 lr bb Z.z.orB N Z.z.orC (zbn c Z.z) w6 (fun i W=>i+q<N/\Lq w b3 b4 b5 nb bb D lr q (.slice (some ⟨Z.z.orB,0,none⟩) N Z.z.orC) (RC .ready none) .nilIface false W) (fun i W=>Lq w b3 b4 b5 nb bb D lr q (.slice (some ⟨Z.z.orB,0,none⟩) N Z.z.orC) (RC .done (some .ret)) (zbn c Z.z q) true W) (fun i=>decide (i+q+1≠N)) hNl hcap ?_ ⟨by omega,hA0⟩ ?_).mono ?_
 .rintro i W⟨_,hL⟩;exact⟨by rw[crw hL.cb];rfl,fun k hk=>(HH.out.quiet hL.fr).orc (by have:=HN.out;omega)⟩
 .rintro i k W⟨hiq,hL⟩ hik;refine zvx HRC hL.lp ?_;have hbr:=Fo.begin_of (P:=prog) HRC hL.lp;have hLb:=hL.rec_ hLd (RC .busy none);obtain⟨Wb,HWb⟩:∃Wb,Hid (W.putObj lr (.loop (RC .busy none))=Wb):=⟨_,rfl⟩;rw[HWb.out]at hbr hLb
  have HLb:Hid (Lq w b3 b4 b5 nb bb D lr q (.slice (some ⟨Z.z.orB,0,none⟩) N Z.z.orC) (RC .busy none) .nilIface false Wb):=hLb;have x3:Wb.cell? ⟨b3,0,none⟩=some (.func (.func 114) #[] #[.pointer (some ⟨nb,0,none⟩)]):=by rw[crw hLb.c3];rfl
  have HF1:Hid (Calls ..):=zza (HH.out.quiet hLb.fr) (i:=k) (by have:=HN.out;omega) hLb.cn;obtain⟨ty,tb,HTV⟩:∃ty tb,Hid (zbn c Z.z k=.iface ty (.pointer (some ⟨tb,0,none⟩))):=zabu _ _ _;rw[HTV.out]at HF1 ⊢
  clear hL hLb HWb;simp only[List.setIfInBounds_toArray,List.set_cons_succ,List.set_cons_zero]
  gi_wp2_with fail
  refine⟨trivial,((callsIn_wide.2 HF1.out).inRound lr).mono ?_⟩;rintro e Wc⟨rfl,hFc⟩;have HLc:Hid (Lq w b3 b4 b5 nb bb D lr q (.slice (some ⟨Z.z.orB,0,none⟩) N Z.z.orC) (RC .busy none) .nilIface false Wc):=HLb.out.quiet hFc;have HIK:Hid (i+k+1=N):=hik;clear hFc HF1 hbr x3 hik;by_cases hkq:k=q
  .have hdk:decide ((k:Int)=(q:Int))=true:=by simp[hkq]
   rw[hdk];have HTV':Hid (.iface ty (.pointer (some ⟨tb,0,none⟩))=zbn c Z.z q):=by rw[<-hkq];exact HTV.out.symm
   have hh:=HLc.out;have u4:Wc.frozen? ⟨b4,0,none⟩=false:=by simp[World.frozen?,hh.c4]
   have u5:Wc.frozen? ⟨b5,0,none⟩=false:=by simp[World.frozen?,hh.c5]
   have y4:Wc.cell? ⟨b4,0,none⟩=some .nilIface:=by rw[crw hh.c4];rfl
   have y5:Wc.cell? ⟨b5,0,none⟩=some (.bool false):=by rw[crw hh.c5];rfl
   have n45:b4≠b5:=by have:=HLd.out.a;omega
   have n54:b5≠b4:=by have:=HLd.out.a;omega
   have HKQ:Hid (k=q):=hkq;clear hh hdk hkq
   gi_wp2_with fail
   have hA4:=HLc.out.fin HLd.out (.iface ty (.pointer (some ⟨tb,0,none⟩))) true;have hend:=Fo.end_of (P:=prog) HRC hA4.lp (some .ret);have hA5:=hA4.rec_ HLd.out (RC .done (some .ret));rw[HTV'.out]at hend hA5
   rw[HTV'.out];have hiN:i+q+1=N:=by have:=HIK.out;have:=HKQ.out;omega
   exact⟨_,_,hend,by simp[hiN],fun e=>absurd hiN e,fun _=>hA5⟩
  have hdk:decide ((k:Int)=(q:Int))=false:=by simp;omega
  rw[hdk];have HKQ:Hid (¬k=q):=hkq;clear hdk hkq
  gi_wp2_with fail
  have hend:=Fo.end_of (P:=prog) HRC HLc.out.lp none;have hA5:=HLc.out.rec_ HLd.out (RC .ready none);have hiN:¬i+q+1=N:=by have:=HIK.out;have:=HKQ.out;omega
  exact⟨_,_,hend,by simp[hiN],fun _=>⟨by have:=HIK.out;omega,hA5⟩,fun e=>absurd e hiN⟩
 rintro e W3⟨⟨v0,rfl⟩,hEnd⟩;rcases hEnd with⟨⟨hRa,hL⟩,hall⟩|⟨i,hi1,hi2,hi3,hL⟩
 .omega
 have hle:=Fo.loop_end_of (P:=prog) HRC hL.lp (by simp);have hL4:=hL.rec_ HLd.out (RC .exhausted (some .ret));obtain⟨W4,HW4⟩:∃W4,Hid (W3.putObj lr (.loop (RC .exhausted (some .ret)))=W4):=⟨_,rfl⟩;rw[HW4.out]at hle hL4
 have HL4:Hid (Lq w b3 b4 b5 nb bb D lr q (.slice (some ⟨Z.z.orB,0,none⟩) N Z.z.orC) (RC .exhausted (some .ret)) (zbn c Z.z q) true W4):=hL4;clear hL hL4 HRC hA0 hi2 hi3;refine⟨some .ret,W4,hle,?_⟩;clear hle
 gi_wp2_with fail
 have hfin:=HL4.out;have hF5:∀W,Fr [D] W (W.putObj D (.deferred none)):=fun W=>Fr.putObj _ D _;obtain⟨o0,o1,o2,o3,o4,o5,o6⟩:=HLd.out.a;refine⟨by simp,.inl ⟨_,_,rfl,run_takeDeferred hfin.df,?_⟩⟩;refine⟨_,zkr rfl _ _ _ b4 b5 _ _ rfl rfl (zsz (x:=zbn c Z.z q) ((hF5 _).keep hfin.c4 (by simp;omega))) (zta (x:=true) ((hF5 _).keep hfin.c5 (by simp;omega))),?_⟩;exact⟨rfl,hfin.fr.on (hF5 _) (fun x hx=>by simp at hx;omega)⟩
theorem zqz{w0 w:World}{c:Cf}{T:List Tx}{Z:Lay}{s:Ms}(h:MaM w0 w c T Z s){q:Nat}(hq:q<c.l.toNat+c.s.toNat+2) :
  Calls prog 89 #[.pointer (some ⟨Z.z.mb,0,none⟩),.int .i64 (q:Int)] w fun e w'=>e=.returned (.tuple #[zbn c Z.z q,.bool true])/\Fr [] w w':=by
 have hF:Fr [] w (w.alloc (.cells #[.int .i64 (q:Int)] 3)):=Fr.alloc _ _ _;have HC:Hid (Calls ..):=callsIn_wide.1 (zafm (h.quiet hF) (nb:=w.heap.size) hq (heap_alloc_new w _));have HF:Hid (Fr [] w (w.alloc (.cells #[.int .i64 (q:Int)] 3))):=hF;obtain⟨tv,HTV⟩:∃tv,Hid (zbn c Z.z q=tv):=⟨_,rfl⟩;rw[HTV.out]at HC ⊢
 clear h hF hq;go_enter func89,ntmps89;go_wp2_with fail
 refine Calls.mono HC.out ?_;rintro e w1⟨rfl,hF1⟩;go_wp2;refine bodyPost_ret (zfm rfl _ _ _) rfl ?_;exact⟨rfl,HF.out.then hF1⟩
end Go.Proofs.YtojjdnjfaelnfaaGreatDoor
