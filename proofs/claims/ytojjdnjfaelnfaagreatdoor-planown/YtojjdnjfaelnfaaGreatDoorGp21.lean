/- Contracts and lemmas. -/
import Derived.Test.YtojjdnjfaelnfaaGreatDoorGp17
set_option maxHeartbeats 8000000
set_option maxRecDepth 100000
set_option linter.unusedSimpArgs false
set_option linter.unusedVariables false
namespace Go.Proofs.YtojjdnjfaelnfaaGreatDoor.O
open Go.ChangeShapes Go.WideShapes Go.ChangeAt Go.RowKit Go.Lib Go.Maps Go.Proofs.Tryz
theorem zsv(w0 w:World)(ty:TypeId)(ro:Option Addr)(N rc:Nat)(qs:List Vn)(hO:VOut w0 w ro N rc qs)(ad:Addr)(c:Nat)(x:Vn)(hnews:∀j u,(vnC x)[j]? = some u->w.cell? (ad.add j)=some u)(hb:N<3518437208884)(hs:w0.heap.size<=w.heap.size) :
  ∃ro' rc' w',(Builtin.append_ #[99,99] ty #[.slice ro N rc,.slice (some ad) 1 c]).run prog w=.ok (.slice ro' (N+1) rc') w'/\VOut w0 w' ro' (N+1) rc' (qs++[x])/\Fr (Value.slice ro N rc).ownBlock.toList w w'/\(∀g,(Value.slice ro' (N+1) rc').ownBlock=some g->(Value.slice ro N rc).ownBlock=some g\/w.heap.size<=g):=by
 obtain⟨i0,hi,hz0,hz1,hz2⟩:=zdq;obtain⟨rf,hrf,hown⟩:=hO.own;have hlen:N+1=(qs++[x]).length:=by rw[List.length_append,<-hO.len];rfl
 have hcells:vnsC (qs++[x])=vnsC qs++vnC x:=by rw[zkd];simp[vnsC]
 have h1c:∀u∈vnC x,u.oneCell'=true:=by
  intro u hu;simp only[vnC,List.mem_cons,List.not_mem_nil,or_false]at hu;rcases hu with rfl|rfl|rfl<;>rfl
 have hmx:N+1<=maxLen:=by unfold maxLen;omega
 obtain⟨v',w',hr,h2,h3,h4,h5⟩:=run_append_own_at (P:=prog) w w0.heap.size 99 ty 103 i0 _ 3 32 zde hi hz0 hz1 hz2 rfl (by decide) (.slice ro N rf) N (vnsC qs) hown ad 1 c (vnC x) rfl hnews h1c hmx (by omega) hs;rcases hown.2 with⟨hv,hn⟩|⟨g,cap,cur,hv,hbg,hg,hnc,hcm,hcs,htake⟩
 .cases hv;obtain rfl:rc=0:=by omega
  obtain⟨ro',rc',rfl⟩:=zhk h2;refine⟨ro',rc',w',hr,⟨⟨rc',Nat.le_refl _,by rw[hcells];exact h2⟩,hlen,ztv h2⟩,Fr.grown h3 (fun y hy _=>by simp[Value.ownBlock]at hy),fun g hg=> ?_⟩;rcases h5 with h5|h5
  .rw[h5]at hg;exact Or.inl hg
  rw[h5]at hg
  simp only[Option.some.injEq]at hg;exact Or.inr (by omega)
 cases hv;by_cases hroom:N+1<=rc
 .have hfit:N*i0.size+(vnC x).length<=cur.size:=by rw[hz1,hcs];simp only[vnC,List.length_cons,List.length_nil];omega
  have hA:=run_append_room (P:=prog) w 99 ty 103 i0 zde hi g N rc cur hg ad 1 c (vnC x) (by rw[hz1];rfl) hnews h1c hroom hfit;have hB:=run_append_room (P:=prog) w 99 ty 103 i0 zde hi g N rf cur hg ad 1 c (vnC x) (by rw[hz1];rfl) hnews h1c (by omega) hfit;rw[hr]at hB
  injection hB with e1 e2;rw[e1,e2]at h2
  refine⟨_,_,_,hA,⟨⟨rf,hrf,by rw[hcells];exact h2⟩,hlen,hroom⟩,?_,fun k hk=>Or.inl (by simpa[Value.ownBlock]using hk)⟩;rw[e2]at h3
  exact Fr.grown h3 (fun y hy _=>by simpa[Value.ownBlock]using hy.symm)
 have holds:∀j u,(vnsC qs)[j]? = some u->w.cell? ((⟨g,0,none⟩:Addr).add j)=some u:=hown.cells (g:=g) rfl;have hA:=run_append_grow (P:=prog) w 99 ty 103 i0 _ zde hi hz0 ⟨g,0,none⟩ N rc (vnsC qs) (by rw[hz1];exact hown.1) holds ad 1 c (vnC x) (by rw[hz1];rfl) hnews (by omega) (by omega) (by rw[hz2];exact growslice_fits (by omega) (by omega));have hGn:N+1<=grownCap w (N+1) rc 103:=grownCap_ge w _ _ _;have hGm:=grownCap_le_maxLen w (N+1) rc 103 hmx;refine⟨_,_,_,hA,VOut.of ?_ hlen,(Fr.drew _ _).then (Fr.alloc _ _ _),fun k hk=>Or.inr (by simp[Value.ownBlock]at hk;omega)⟩;rw[hcells];refine⟨by rw[<-hcells,zcr,<-hlen],.inr ⟨w.heap.size,_,_,rfl,hs,heap_alloc_new w.drew _,hGn,hGm,?_,?_⟩⟩
 .have e1:(vnsC qs).length=N*3:=hown.1;simp only[Array.size_append,size_zeroCells,Value.cells,List.size_toArray,e1,vnC,List.length_cons,List.length_nil];omega
 have e1:(vnsC qs++vnC x).length=(N+1)*3:=by rw[<-hcells,zcr,<-hlen]
 rw[Array.toList_append,Array.toList_append,List.take_append_of_le_length (by simp only[List.length_append]at e1 ⊢;omega),List.take_of_length_le (by simp only[List.length_append]at e1 ⊢;omega)]
theorem zkf(w0 w:World){ops:Array Oper}{o:Oper}{a:Act}{K:Act->World->Prop}{Q:Exit->Act->World->Prop}{E:Prop}(hg:o.guard=none)(s x:Operand)(ho:o.op=.call {callee:=.builtin .append,args:=#[s,x],argTypes:=#[99,99]})(ro:Option Addr)(N rc:Nat)(qs:List Vn)(hs:a.eval s=.slice ro N rc)(hO:VOut w0 w ro N rc qs)(ad:Addr)(c:Nat)(v:Vn)(hx:a.eval x=.slice (some ad) 1 c)(hnews:∀j u,(vnC v)[j]? = some u->w.cell? (ad.add j)=some u)(hb:N<3518437208884)(hsz:w0.heap.size<=w.heap.size)(h:∀ro' rc' w',VOut w0 w' ro' (N+1) rc' (qs++[v])->Fr (Value.slice ro N rc).ownBlock.toList w w'->(∀g,(Value.slice ro' (N+1) rc').ownBlock=some g->(Value.slice ro N rc).ownBlock=some g\/w.heap.size<=g)->K (a.put o.dst (.slice ro' (N+1) rc')) w') :
  if Region.wanted o (yielded ops a.tmps)=true then Oper.wp prog o a w K Q else E:=by
 have hw:Region.wanted o (yielded ops a.tmps)=true:=by simp[Region.wanted,hg]
 rw[if_pos hw];obtain⟨ro',rc',w',hr,h2,h3,h4⟩:=zsv w0 w o.type ro N rc qs hO ad c v hnews hb hsz;unfold Oper.wp execOp;simp only[ho,resolve,invoke,builtin,Sem.run_bind,Sem.run_pure,Result.andThen_ok,List.map_toArray,List.map_cons,List.map_nil,hs,hx,hr];exact h ro' rc' w' h2 h3 h4
theorem Sh.looks{w0 w:World}{sb b n:Nat}{M:ByteArray->List Vn}(h:Sh w0 w sb b n M)(key:ByteArray)(hs:key.size<=maxLen) :
  ∃ro N rc,(∀W,Fr [] w W->(Instr.lookup 353 (.map (some b)) (.string key) false).run prog W=.ok (.slice ro N rc) W)/\VOut w0 w ro N rc (M key):=by
 obtain⟨ro,N,rc,hlk,hV,_⟩:=h.look key hs;refine⟨ro,N,rc,fun W hf=> ?_,hV⟩;obtain⟨G,hM,_⟩:=h.map;have h1:=hM.look key hs;rw[hlk]at h1
 simp only[Result.ok.injEq,and_true]at h1;have h2:=(hM.keep hf (by simp)).look key hs;rw[h2,<-h1]
theorem lay9{w0 w:World}{sb b n:Nat}{M:ByteArray->List Vn}{key:ByteArray}{ro:Option Addr}{N rc:Nat}{v:Vn}(h:Sh w0 w sb b n M)(hlk:(Instr.lookup 353 (.map (some b)) (.string key) false).run prog w=.ok (.slice ro N rc) w)(hi:∀y∈M key,y.num<v.num)(hk:okK9 key)(hv:okX v)(hn:n<3518437208883){ro':Option Addr}{rc':Nat}{w1 w2:World}(hF0:Fr [] w w1)(hV:VOut w0 w2 ro' (N+1) rc' (M key++[v]))(hF:Fr (Value.slice ro N rc).ownBlock.toList w1 w2)(hnew:∀g,(Value.slice ro' (N+1) rc').ownBlock=some g->(Value.slice ro N rc).ownBlock=some g\/w1.heap.size<=g) :
  ∃w3,(Instr.mapUpdate 353 (.map (some b)) (.string key) (.slice ro' (N+1) rc')).run prog w2=.ok () w3/\Sh w0 w3 sb b (n+1) (updM M key (M key++[v]))/\FrS w0 b w w3/\Fr [b] w2 w3/\Fr ((Value.slice ro N rc).ownBlock.toList++[b]) w w3:=by
 have hok:=znn (h.ok key) hv hi;refine h.lay key hk (by omega) hlk (hF0.trans hF (by simp) (fun x hx _=>hx)) hV (fun g hg=> ?_) hok.1 (by omega);rcases hnew g hg with h1|h1
 .exact Or.inl h1
 exact Or.inr (Nat.le_trans hF0.size h1)
structure App9(w0 w:World)(sb b n:Nat)(M:ByteArray->List Vn)(key:ByteArray)(ro:Option Addr)(N rc:Nat)(v:Vn):Prop where
 row:∀W,Fr [] w W->VOut w0 W ro N rc (M key)
 new:∀(W:World)(t:TypeId)(W':World),Fr [] (W.alloc (.cells #[.int .i64 v.num,.string v.val,.bool v.drop] t)) W'->∀j u,(vnC v)[j]? = some u->W'.cell? ((⟨W.heap.size,0,none⟩:Addr).add j)=some u
 far:∀k∈(Value.slice ro N rc).ownBlock.toList,k<w.heap.size/\k≠sb
 done:∀(w1 w2:World)(ro':Option Addr)(rc':Nat),Fr [] w w1->VOut w0 w2 ro' (N+1) rc' (M key++[v])->Fr (Value.slice ro N rc).ownBlock.toList w1 w2->(∀g,(Value.slice ro' (N+1) rc').ownBlock=some g->(Value.slice ro N rc).ownBlock=some g\/w1.heap.size<=g) ->
  ∃w3,(Instr.mapUpdate 353 (.map (some b)) (.string key) (.slice ro' (N+1) rc')).run prog w2=.ok () w3/\Sh w0 w3 sb b (n+1) (updM M key (M key++[v]))/\FrS w0 b w w3/\Fr [b] w2 w3/\Fr ((Value.slice ro N rc).ownBlock.toList++[b]) w w3
theorem app9{w0 w:World}{sb b n:Nat}{M:ByteArray->List Vn}{key:ByteArray}{ro:Option Addr}{N rc:Nat}{v:Vn}(h:Sh w0 w sb b n M)(hlk:(Instr.lookup 353 (.map (some b)) (.string key) false).run prog w=.ok (.slice ro N rc) w)(hV:VOut w0 w ro N rc (M key))(hi:∀y∈M key,y.num<v.num)(hk:okK9 key)(hv:okX v)(hn:n<3518437208883):App9 w0 w sb b n M key ro N rc v:=by
 refine⟨fun W hf=>hV.keepS hf (by simp),fun W t W' hf j u hu=> ?_,fun k hk=> ?_,fun w1 w2 ro' rc' f1 f2 f3 f4=>lay9 h hlk hi hk hv hn f1 f2 f3 f4⟩
 .rw[Addr.add_lit];have hr:=hf.keep (heap_alloc_new W (.cells #[.int .i64 v.num,.string v.val,.bool v.drop] t)) (by simp);rw[crw hr,Nat.zero_add];simpa[vnC]using hu
 obtain⟨_,cur,hc⟩:=hV.blk k hk;refine⟨lt_of_block hc,fun e=> ?_⟩;rw[e,h.box]at hc
 simp only[Option.some.injEq,Obj.cells.injEq]at hc;exact absurd hc.2.1 (by decide)
theorem zap{S:List Nat}{w w':World}(hf:Fr S w w'){k o:Nat}{x:Value}(hc:w.cell? ⟨k,o,none⟩=some x)(hl:k<w.heap.size)(hn:k∉S):w'.cell? ⟨k,o,none⟩=some x:=(World.cell?_of_block (hf.block k hl hn)).trans hc
theorem zabj{w0:World}{sb b n:Nat}{M:ByteArray->List Vn}(key:ByteArray)(v:Vn)(w:World)(h:Sh w0 w sb b n M)(h0:w0.heap.size<=w.heap.size)(hk:okK9 key)(hv:okX v)(hn:n<3518437208883) :
  Calls prog 340 #[.pointer (some ⟨sb,0,none⟩),.string key,.agg #[.int .i64 v.num,.string v.val,.bool v.drop]] w fun e w'=>∃ok M',e=.returned (.bool ok)/\PutM M key v M' ok/\Sh w0 w' sb b (n+1) M'/\FrS w0 b w w'/\(∀ro N rc,(Instr.lookup 353 (.map (some b)) (.string key) false).run prog w=.ok (.slice ro N rc) w->Fr ((Value.slice ro N rc).ownBlock.toList++[b]) w w'):=by
 obtain⟨w1,HW1⟩:∃w1,Hid (w.alloc (.cells #[.int .i64 v.num,.string v.val,.bool v.drop] 103)=w1):=⟨_,rfl⟩;have hF1:Fr [] w w1:=by rw[<-HW1.out];exact Fr.alloc [] w _
 have hb1:w1.heap[w.heap.size]? = some (.cells #[.int .i64 v.num,.string v.val,.bool v.drop] 103 (0,0)):=by rw[<-HW1.out];exact heap_alloc_new w _
 have c0:w1.cell? ⟨w.heap.size,0,none⟩=some (.int .i64 v.num):=by rw[crw hb1];rfl
 have c1:w1.cell? ⟨w.heap.size,1,none⟩=some (.string v.val):=by rw[crw hb1];rfl
 have c2:w1.cell? ⟨w.heap.size,2,none⟩=some (.bool v.drop):=by rw[crw hb1];rfl
 have cs:=(h.keep hF1).cell;obtain⟨ro,N,rc,hlks,hV⟩:=h.looks key (by have:=hk.2;unfold maxLen;omega);have hlk:=hlks w1 hF1;have hok:=h.ok key;have hR:=(hV.keepS hF1 (by simp)).each hok;have hN2:N<=65536:=by have:=zml hok;have:=hV.len;omega
 have HK:Hid (okK9 key/\okX v):=⟨hk,hv⟩;have hs1:w.heap.size<w1.heap.size:=lt_of_block hb1;have hsbl:sb<w.heap.size:=lt_of_block h.box;have HEq:Hid (∀w3,Fr ((Value.slice ro N rc).ownBlock.toList++[b]) w w3->∀ro' N' rc',(Instr.lookup 353 (.map (some b)) (.string key) false).run prog w=.ok (.slice ro' N' rc') w->Fr ((Value.slice ro' N' rc').ownBlock.toList++[b]) w w3):=by
  intro w3 hf ro' N' rc' e;rw[hlks w (Fr.refl _ _)]at e
  simp only[Result.ok.injEq,and_true]at e;rw[<-e];exact hf
 by_cases hlt:∀y∈M key,y.num<v.num
 .have HA:Hid (App9 w0 w sb b n M key ro N rc v):=app9 h (hlks w (Fr.refl _ _)) hV hlt hk hv hn;have HP:Hid (PutM M key v (updM M key (M key++[v])) true):=(znn hok hv hlt).2;have H0:Hid (w0.heap.size<=w.heap.size):=h0;have HFw:Hid (Fr [] w w1):=hF1;have HBn:Hid (¬sb=b/\¬w.heap.size=b):=by
   obtain⟨es,c,e⟩:=h.mb;exact⟨fun e2=>(by rw[<-e2,h.box]at e;cases e),fun e2=>(by have:=lt_of_block e;omega)⟩
  have hguard:(decide ((N:Int)=0)=true)\/(decide ((N:Int)=0)=false/\∃g q:Nat,ro=some ⟨g,0,none⟩/\Hid (N=q+1)/\∃k,k<v.num/\w1.cell? ⟨g,q*3,none⟩=some (.int .i64 k)):=by
   by_cases hz:N=0
   .exact Or.inl (by simp[hz])
   obtain⟨bb,off,e,_,hat⟩:=hR.lies (by have:=hV.len;omega);obtain⟨g,hg⟩:∃g,ro=some ⟨g,0,none⟩:=by
    obtain⟨rf,_,ho⟩:=hV.own;rcases ho.2 with⟨_,h1⟩|⟨g,cap,cur,e,_⟩
    .omega
    cases e;exact⟨g,rfl⟩
   rw[hg]at e
   cases e;have hq:N-1<(M key).length:=by have:=hV.len;omega
   refine Or.inr ⟨by simp;omega,_,N-1,hg,(show N=N-1+1 by omega),_,hlt _ (zcv (M key) (N-1) hq),?_⟩;have:=(hat (N-1) hq).c0
   rwa [Nat.zero_add]at this
  clear hV hR hlt h hb1 hok hF1 hlks h0;have HG:Hid (∀W,Fr [] w1 W->∀(W':World)(ro':Option Addr)(rc':Nat),VOut w0 W' ro' (N+1) rc' (M key++[v])->Fr (Value.slice ro N rc).ownBlock.toList (W.alloc (.cells #[.int .i64 v.num,.string v.val,.bool v.drop] 103)) W'->(∀g,(Value.slice ro' (N+1) rc').ownBlock=some g->(Value.slice ro N rc).ownBlock=some g\/(W.alloc (.cells #[.int .i64 v.num,.string v.val,.bool v.drop] 103)).heap.size<=g) ->
    (W'.cell? ⟨sb,0,none⟩=some (.map (some b))/\W'.cell? ⟨w.heap.size,0,none⟩=some (.int .i64 v.num)/\W'.cell? ⟨w.heap.size,1,none⟩=some (.string v.val)/\W'.cell? ⟨w.heap.size,2,none⟩=some (.bool v.drop)) /\
    ∃w3,(Instr.mapUpdate 353 (.map (some b)) (.string key) (.slice ro' (N+1) rc')).run prog W'=.ok () w3/\Sh w0 w3 sb b (n+1) (updM M key (M key++[v]))/\(FrS w0 b w w3/\Fr ((Value.slice ro N rc).ownBlock.toList++[b]) w w3)/\(w3.cell? ⟨sb,0,none⟩=some (.map (some b))/\w3.cell? ⟨w.heap.size,0,none⟩=some (.int .i64 v.num)/\w3.cell? ⟨w.heap.size,1,none⟩=some (.string v.val)/\w3.cell? ⟨w.heap.size,2,none⟩=some (.bool v.drop))):=by
   intro W hW W' ro' rc' f1 f2 f3;have hfa:=hW.then (Fr.alloc [] W (.cells #[.int .i64 v.num,.string v.val,.bool v.drop] 103));have hsb:sb∉(Value.slice ro N rc).ownBlock.toList:=fun hm=>(HA.out.far sb hm).2 rfl;have hbx:w.heap.size∉(Value.slice ro N rc).ownBlock.toList:=fun hm=>by have:=(HA.out.far _ hm).1;omega
   have hlb:w.heap.size<(W.alloc (.cells #[.int .i64 v.num,.string v.val,.bool v.drop] 103)).heap.size:=Nat.lt_of_lt_of_le hs1 hfa.size;have g0:=zap f2 (zap hfa cs (by omega) (by simp)) (by omega) hsb;have g1:=zap f2 (zap hfa c0 hs1 (by simp)) hlb hbx;have g2:=zap f2 (zap hfa c1 hs1 (by simp)) hlb hbx;have g3:=zap f2 (zap hfa c2 hs1 (by simp)) hlb hbx;have hlb2:w.heap.size<W'.heap.size:=Nat.lt_of_lt_of_le hlb f2.size;refine⟨⟨g0,g1,g2,g3⟩,?_⟩;obtain⟨w3,k1,k2,k3,k4,k5⟩:=HA.out.done _ W' ro' rc' (HFw.out.then hfa) f1 f2 f3;have hb1:sb∉[b]:=by simpa using HBn.out.1
   have hb2:w.heap.size∉[b]:=by simpa using HBn.out.2
   exact⟨w3,k1,k2,⟨k3,k5⟩,zap k4 g0 (by omega) hb1,zap k4 g1 hlb2 hb2,zap k4 g2 hlb2 hb2,zap k4 g3 hlb2 hb2⟩
  have HX:Hid (∀W,Fr [] w1 W->VOut w0 (W.alloc (.cells #[.int .i64 v.num,.string v.val,.bool v.drop] 103)) ro N rc (M key)/\w0.heap.size<=(W.alloc (.cells #[.int .i64 v.num,.string v.val,.bool v.drop] 103)).heap.size):=fun W hW=>⟨HA.out.row _ ((HFw.out.then hW).then (Fr.alloc _ _ _)),Nat.le_trans H0.out ((HFw.out.then hW).then (Fr.alloc [] _ _)).size⟩;have HNe:Hid (∀(W:World),Fr [] w1 W->∀j u,(vnC v)[j]? = some u->(W.alloc (.cells #[.int .i64 v.num,.string v.val,.bool v.drop] 103)).cell? ((⟨W.heap.size,0,none⟩:Addr).add j)=some u):=fun W _=>HA.out.new W 103 _ (Fr.refl _ _);rcases hguard with hd|⟨hd,g,q,rfl,hNq,k,hkv,cg⟩
  .have hN0:N=0:=by simpa using hd
   subst hN0;go_enter func340,ntmps340;go_upto_region 1 with fail
   rw[HW1.out];go_wp2_with fail
   go_quiet (fail)
   go_wp2_with fail
   go_region_held3 (fun W=>W.cell? ⟨sb,0,none⟩=some (.map (some b))/\W.cell? ⟨w.heap.size,0,none⟩=some (.int .i64 v.num)/\W.cell? ⟨w.heap.size,1,none⟩=some (.string v.val)/\W.cell? ⟨w.heap.size,2,none⟩=some (.bool v.drop)) (go_keep)
    ((refine zkf w0 _ (by rfl) _ _ (by rfl) ro 0 rc (M key) (by rfl) (HX.out _ (Fr.drewN _ _ _)).1 ⟨w1.heap.size,0,none⟩ 1 v (by rfl) (HNe.out _ (Fr.drewN _ _ _)) (by omega) (HX.out _ (Fr.drewN _ _ _)).2 ?_;intro ro' rc' w2 hV2 hF2 hn2;obtain⟨⟨e0,e1,e2,e3⟩,w3,hr3,hS3,hG3,j0,j1,j2,j3⟩:=HG.out _ (Fr.drewN _ _ _) w2 ro' rc' hV2 hF2 hn2))
   go_wp2;go_ret;exact⟨true,_,rfl,HP.out,hS3,hG3.1,HEq.out _ hG3.2⟩
  have hq1:(N:Int)-1=(q:Int):=by have:=hNq.out;omega
  have hqN:q<N:=by have:=hNq.out;omega
  have hz1:((N:Int)==0)=false:=by simp;omega
  have hd2:decide (k<v.num)=true:=by simpa using hkv
  go_enter func340,ntmps340;go_upto_region 1 with fail
  rw[HW1.out];go_wp2_with fail
  go_quiet (fail)
  go_wp2_with fail
  go_region_held3 (fun W=>W.cell? ⟨sb,0,none⟩=some (.map (some b))/\W.cell? ⟨w.heap.size,0,none⟩=some (.int .i64 v.num)/\W.cell? ⟨w.heap.size,1,none⟩=some (.string v.val)/\W.cell? ⟨w.heap.size,2,none⟩=some (.bool v.drop)) (go_keep)
   ((refine zkf w0 _ (by rfl) _ _ (by rfl) (some ⟨g,0,none⟩) N rc (M key) (by rfl) (HX.out _ (Fr.drewN _ _ _)).1 ⟨w1.heap.size,0,none⟩ 1 v (by rfl) (HNe.out _ (Fr.drewN _ _ _)) (by omega) (HX.out _ (Fr.drewN _ _ _)).2 ?_;intro ro' rc' w2 hV2 hF2 hn2;obtain⟨⟨e0,e1,e2,e3⟩,w3,hr3,hS3,hG3,j0,j1,j2,j3⟩:=HG.out _ (Fr.drewN _ _ _) w2 ro' rc' hV2 hF2 hn2))
  go_wp2;go_ret;exact⟨true,_,rfl,HP.out,hS3,hG3.1,HEq.out _ hG3.2⟩
 have hN1:N≠0:=fun e=>hlt (fun y hy=>by have:=List.length_pos_of_mem hy;have:=hV.len;omega);obtain⟨g,hg⟩:∃g,ro=some ⟨g,0,none⟩:=by
  obtain⟨rf,_,ho⟩:=hV.own;rcases ho.2 with⟨_,h1⟩|⟨g,cap,cur,e,_⟩
  .omega
  cases e;exact⟨g,rfl⟩
 subst hg;obtain⟨q,hNq⟩:∃q,Hid (N=q+1):=⟨N-1,(show N=N-1+1 by omega)⟩;have hq1:(N:Int)-1=(q:Int):=by have:=hNq.out;omega
 have hqN:q<N:=by have:=hNq.out;omega
 have hz1:((N:Int)==0)=false:=by simp;omega
 obtain⟨k,hk1,cg⟩:∃k,¬k<v.num/\w1.cell? ⟨g,q*3,none⟩=some (.int .i64 k):=by
  obtain⟨bb,off,e,_,hat⟩:=hR.lies (by have:=hV.len;omega);cases e;have hq:q<(M key).length:=by have:=hV.len;omega
  refine⟨((M key).getD q Vn.zero).num,fun hl=>hlt (zaeu hok.2 (by omega) ?_),?_⟩
  .have h1:=hV.len;have h2:=hNq.out;rw[show (M key).length-1=q by omega];exact hl
  have:=(hat q hq).c0
  rwa [Nat.zero_add]at this
 have HP:Hid (∀W,Fr [] w1 W->Calls prog 347 #[.slice (some ⟨g,0,none⟩) N rc,.agg #[.int .i64 v.num,.string v.val,.bool v.drop]] W fun e w'=>∃ro N rc us ok c,e=.returned (.tuple #[.slice ro N rc,.bool ok,.int .i64 ((c:Nat):Int)])/\zqd (M key) v us ok c/\VOut W w' ro N rc us/\Fr [] W w'):=fun W hf=>zaeo _ N rc v (M key) W (hR.keep hf) hV.len hV.cap (zqc hv);have HO:Hid (okV (M key)):=hok;have HS:Hid (Sh w0 w sb b n M/\Fr [] w w1):=⟨h,hF1⟩;have HLk:Hid (∀W,Fr [] w W->(Instr.lookup 353 (.map (some b)) (.string key) false).run prog W=.ok (.slice (some ⟨g,0,none⟩) N rc) W):=hlks;have HV:Hid (VOut w0 w (some ⟨g,0,none⟩) N rc (M key)):=hV;have hd2:decide (k<v.num)=false:=by simpa using hk1
 clear hV hR hlt h hb1 hok hF1 hlks hk1 hN1;go_enter func340,ntmps340;go_upto_region 1 with fail
 rw[HW1.out];go_wp2_with fail
 go_quiet (fail)
 go_wp2_with fail
 refine Calls.mono (HP.out _ (Fr.drewN _ _ _)) ?_;rintro e w2⟨ro,N',rc',us,ok,c,rfl,hT,hV2,hF2⟩;obtain⟨rfl,hcase⟩:=zaet HO.out HK.out.2 hT;have hG2:Fr [] w1 w2:=(Fr.drewN [] w1 _).then hF2;have hV3:VOut w1 w2 ro N' rc' us:=hV2.later (Nat.le_refl _);have cs2:=zap hG2 cs (by omega) (by simp);clear HP hT hV2 hF2;rcases hcase with⟨rfl,hPM⟩|⟨rfl,hus,hup,hPM⟩
 .have HR:Hid (PutM M key v M false/\Sh w0 w2 sb b (n+1) M/\FrS w0 b w w2/\_):=⟨hPM,(HS.out.1.keep (HS.out.2.then hG2)).mono (by omega),FrS.of (HS.out.2.then hG2),HEq.out w2 ((HS.out.2.then hG2).mono (by simp))⟩;clear hPM hV3;go_wp2;go_ret;exact⟨false,M,rfl,HR.out⟩
 have hx:∃w3,(Instr.mapUpdate 353 (.map (some b)) (.string key) (.slice ro N' rc')).run prog w2=.ok () w3/\Sh w0 w3 sb b (n+1) (updM M key us)/\FrS w0 b w w3/\Fr [b] w2 w3/\Fr ((Value.slice (some ⟨g,0,none⟩) N rc).ownBlock.toList++[b]) w w3:=by
  refine HS.out.1.lay key HK.out.1 (by omega) (HLk.out w (Fr.refl _ _)) ((HS.out.2.then hG2).mono (by simp)) (hV3.later (Nat.le_trans h0 (by omega))) (fun g' hg'=>Or.inr ?_) hus (by rw[hV3.len];exact hup);have:=(hV3.blk g' (by rw[hg'];simp)).1;omega
 obtain⟨w3,hr3,hS3,hG3,_,hG4⟩:=hx;have HR:Hid (PutM M key v (updM M key us) true/\Sh w0 w3 sb b (n+1) (updM M key us)/\FrS w0 b w w3/\_):=⟨hPM,hS3,hG3,HEq.out w3 hG4⟩;clear hPM hV3 hS3 hG3 hG4;go_wp2;go_ret;exact⟨true,_,rfl,HR.out⟩
theorem FrS.from{w0:World}{b:Nat}{w w1 w2:World}(h:Fr [] w w1)(k:FrS w0 b w1 w2):FrS w0 b w w2:=(FrS.of h).then k
theorem Sh.rowFar{w0 w:World}{sb b n:Nat}{M:ByteArray->List Vn}(h:Sh w0 w sb b n M)(key:ByteArray)(hs:key.size<=maxLen):∃ro N rc,(∀W,Fr [] w W->(Instr.lookup 353 (.map (some b)) (.string key) false).run prog W=.ok (.slice ro N rc) W)/\∀j∈(Value.slice ro N rc).ownBlock.toList++[b],j<w.heap.size:=by
 obtain⟨ro,N,rc,hlk,hV⟩:=h.looks key hs;refine⟨ro,N,rc,hlk,fun j hj=> ?_⟩;rcases List.mem_append.1 hj with h1|h1
 .obtain⟨_,cur,hc⟩:=hV.blk j h1;exact lt_of_block hc
 simp at h1;obtain⟨es,c,e⟩:=h.mb;rw[h1];exact lt_of_block e
theorem zaex(w:World)(v:Vn)(t:TypeId)(hv:VEach v):VRs (w.alloc (.cells #[.int .i64 v.num,.string v.val,.bool v.drop] t)) (some ⟨w.heap.size,0,none⟩) [v]:=by
 have hb:=heap_alloc_new w (.cells #[.int .i64 v.num,.string v.val,.bool v.drop] t);refine VRs.of_cells (fun _=>lt_of_block hb) (fun j u hu=> ?_) (by simp) (fun x hx=>by simp at hx;subst hx;exact hv);rw[crw hb,Nat.zero_add];simpa[vnsC,vnC]using hu
theorem zqi{w0:World}{sb b n:Nat}{M:ByteArray->List Vn}(num:Int)(key val:ByteArray)(drop:Bool)(w:World)(h:Sh w0 w sb b n M)(h0:w0.heap.size<=w.heap.size)(hE:PEach ⟨num,key,val,drop⟩)(hn:n<3518437208883) :
  Calls prog 330 #[.pointer (some ⟨sb,0,none⟩),.int .i64 num,.agg #[.string key,.string val,.bool drop]] w fun e w'=>∃ok c M',e=.returned (.tuple #[.bool ok,.int .i64 ((c:Nat):Int)])/\zlj M ⟨num,key,val,drop⟩ M' ok c/\Sh w0 w' sb b (n+1) M'/\FrS w0 b w w':=by
 obtain⟨w1,HW1⟩:∃w1,Hid (w.alloc (.cells #[.string key,.string val,.bool drop] 91)=w1):=⟨_,rfl⟩;have hF1:Fr [] w w1:=by rw[<-HW1.out];exact Fr.alloc [] w _
 have hb1:w1.heap[w.heap.size]? = some (.cells #[.string key,.string val,.bool drop] 91 (0,0)):=by rw[<-HW1.out];exact heap_alloc_new w _
 have hs1:w.heap.size<w1.heap.size:=lt_of_block hb1;have HB:Hid (∀W,Fr [] w1 W->W.cell? ⟨w.heap.size,0,none⟩=some (.string key)/\W.cell? ⟨w.heap.size,1,none⟩=some (.string val)/\W.cell? ⟨w.heap.size,2,none⟩=some (.bool drop)):=fun W hf=>by
  have hr:=hf.keep hb1 (by simp);exact⟨by rw[crw hr];rfl,by rw[crw hr];rfl,by rw[crw hr];rfl⟩
 have HT:Hid (Calls ..):=zvr w1 (h.keep hF1);have HS:Hid (∀W,Fr [] w1 W->Sh w0 W sb b n M):=fun W hf=>h.keep (hF1.then hf);have HE:Hid (PEach ⟨num,key,val,drop⟩):=hE;have hsbl:sb<w.heap.size:=lt_of_block h.box;obtain⟨ro,N,rc,hlk,hfar⟩:=h.rowFar key (by have:=hE.k;simp only at this;unfold maxLen;omega);have HLk:Hid ((∀W,Fr [] w W->(Instr.lookup 353 (.map (some b)) (.string key) false).run prog W=.ok (.slice ro N rc) W)/\∀j∈(Value.slice ro N rc).ownBlock.toList++[b],j<w.heap.size):=⟨hlk,hfar⟩;have HFw:Hid (Fr [] w w1):=hF1;have H0:Hid (w0.heap.size<=w.heap.size):=h0;clear h hb1 hE hlk hfar hF1 h0;go_enter func330,ntmps330;go_upto_region 1 with fail
 rw[HW1.out];go_wp2_with fail
 refine Calls.mono HT.out ?_;rintro e w2⟨rfl,hF2⟩;obtain⟨a0,a1,a2⟩:=HB.out _ hF2;have HF2:Hid (Fr [] w1 w2):=hF2;have hs2:w1.heap.size<=w2.heap.size:=hF2.size;clear HT hF2;go_upto_region 4 with fail
 obtain⟨w3,HW3⟩:∃w3,Hid (w2.alloc (.cells #[.int .i64 num,.string val,.bool drop] 103)=w3):=⟨_,rfl⟩;rw[HW3.out];have hF3:Fr [] w1 w3:=by rw[<-HW3.out];exact HF2.out.then (Fr.alloc [] _ _)
 have hb3:w3.heap[w2.heap.size]? = some (.cells #[.int .i64 num,.string val,.bool drop] 103 (0,0)):=by rw[<-HW3.out];exact heap_alloc_new _ _
 have HC:Hid (∀W,Fr [] w3 W->W.cell? ⟨w2.heap.size,0,none⟩=some (.int .i64 num)/\W.cell? ⟨w2.heap.size,1,none⟩=some (.string val)/\W.cell? ⟨w2.heap.size,2,none⟩=some (.bool drop)):=fun W hf=>by
  have hr:=hf.keep hb3 (by simp);exact⟨by rw[crw hr];rfl,by rw[crw hr];rfl,by rw[crw hr];rfl⟩
 have hs3:w2.heap.size<w3.heap.size:=lt_of_block hb3;have HF3:Hid (Fr [] w1 w3):=hF3;obtain⟨d0,d1,d2⟩:=HB.out _ hF3;clear hb3 hF3 a0 a1 a2;by_cases hk:okK9 key
 .have HM:Hid (Calls ..):=zhq key true w3 ⟨fun _=>hk,fun _=>rfl⟩;have HK:Hid (okK9 key):=hk;clear hk;go_wp2_with fail
  refine Calls.mono HM.out ?_;rintro e w4⟨rfl,hF4⟩;obtain⟨c0,c1,c2⟩:=HC.out _ hF4;obtain⟨cc,hck⟩:=CkT.ex [(⟨num,val,drop⟩:Vn)];have HV:Hid (Calls ..):=zdp (some ⟨w4.heap.size,0,none⟩) 1 1 cc [(⟨num,val,drop⟩:Vn)] (w4.alloc (.cells #[.int .i64 num,.string val,.bool drop] 103)) (zaex w4 ⟨num,val,drop⟩ 103 ⟨HE.out.v,HE.out.lo,HE.out.hi⟩) rfl hck;have HF4:Hid (Fr [] w3 w4):=hF4;clear HM hF4;go_wp2_with fail
  refine Calls.mono HV.out ?_;rintro e w5⟨rfl,hF5⟩;have HF5:Hid (Fr [] w3 w5):=(HF4.out.then (Fr.alloc [] _ _)).then hF5;clear HV hF5;rcases hck with⟨rfl,hok⟩|⟨rfl,hok⟩
  .have hX:okX ⟨num,val,drop⟩:=(zjm _).1 hok;obtain⟨c0,c1,c2⟩:=HC.out _ HF5.out;obtain⟨e0,e1,e2⟩:=HB.out _ (HF3.out.then HF5.out);have HP:Hid (∀W,Fr [] w5 W->Calls prog 340 #[.pointer (some ⟨sb,0,none⟩),.string key,.agg #[.int .i64 num,.string val,.bool drop]] W fun e w'=>∃ok M',(e=.returned (.bool ok)/\PutM M key ⟨num,val,drop⟩ M' ok/\Sh w0 w' sb b (n+1) M'/\FrS w0 b w w')/\(w'.cell? ⟨w.heap.size,0,none⟩=some (.string key)/\w'.cell? ⟨w2.heap.size,0,none⟩=some (.int .i64 num)/\w'.cell? ⟨w2.heap.size,1,none⟩=some (.string val)/\w'.cell? ⟨w2.heap.size,2,none⟩=some (.bool drop))):=by
    intro W hW;have hG3:Fr [] w1 W:=(HF3.out.then HF5.out).then hW;refine (zabj key ⟨num,val,drop⟩ W (HS.out _ hG3) (Nat.le_trans H0.out (HFw.out.then hG3).size) HK.out hX hn).mono ?_;rintro e w'⟨ok,M',rfl,q1,q2,q3,q4⟩;have hf:=q4 ro N rc (HLk.out.1 W (HFw.out.then hG3));have n1:w.heap.size∉(Value.slice ro N rc).ownBlock.toList++[b]:=fun hm=>by have:=HLk.out.2 _ hm;omega
    have n2:w2.heap.size∉(Value.slice ro N rc).ownBlock.toList++[b]:=fun hm=>by have:=HLk.out.2 _ hm;omega
    obtain⟨p0,_,_⟩:=HB.out _ hG3;obtain⟨r0,r1,r2⟩:=HC.out _ (HF5.out.then hW);have l1:w.heap.size<W.heap.size:=Nat.lt_of_lt_of_le hs1 hG3.size;have l2:w2.heap.size<W.heap.size:=Nat.lt_of_lt_of_le hs3 (HF5.out.then hW).size;exact⟨ok,M',⟨rfl,q1,q2,FrS.from (HFw.out.then hG3) q3⟩,zap hf p0 l1 n1,zap hf r0 l2 n2,zap hf r1 l2 n2,zap hf r2 l2 n2⟩
   have HX:Hid (okP ⟨num,key,val,drop⟩):=⟨HK.out,hX⟩;clear hok hX;go_wp2_with fail
   go_region_held3 (fun W=>W.cell? ⟨w.heap.size,0,none⟩=some (.string key)/\W.cell? ⟨w2.heap.size,0,none⟩=some (.int .i64 num)/\W.cell? ⟨w2.heap.size,1,none⟩=some (.string val)/\W.cell? ⟨w2.heap.size,2,none⟩=some (.bool drop)) (go_keep)
    (first|(go_at_call 340;with_reducible refine (HP.out _ (Fr.drew _ _)).mono ?_;rintro e w6⟨ok,M',⟨rfl,hq⟩,f0,f1,f2,f3⟩))
   go_wp2;refine bodyPost_ret (results_tmp2 rfl _ _ _) rfl ?_;exact⟨ok,0,M',rfl,Or.inr ⟨rfl,HX.out,hq.1⟩,hq.2⟩
  have HX:Hid (¬okP ⟨num,key,val,drop⟩):=fun hp=>hok ((zjm _).2 hp.2);clear hok;go_wp2;refine bodyPost_ret (results_tmp2 rfl _ _ _) rfl ?_;exact⟨false,1,M,rfl,Or.inl ⟨rfl,rfl,HX.out,rfl⟩,(HS.out _ (HF3.out.then HF5.out)).mono (by omega),FrS.of (HFw.out.then (HF3.out.then HF5.out))⟩
 have HM:Hid (Calls ..):=zhq key false w3 ⟨fun e=>(by cases e),fun e=>absurd e hk⟩;have HX:Hid (¬okP ⟨num,key,val,drop⟩):=fun hp=>hk hp.1;clear hk;go_wp2_with fail
 refine Calls.mono HM.out ?_;rintro e w4⟨rfl,hF4⟩;clear HM;go_wp2;refine bodyPost_ret (results_tmp2 rfl _ _ _) rfl ?_;exact⟨false,1,M,rfl,Or.inl ⟨rfl,rfl,HX.out,rfl⟩,(HS.out _ (HF3.out.then hF4)).mono (by omega),FrS.of (HFw.out.then (HF3.out.then hF4))⟩
end Go.Proofs.YtojjdnjfaelnfaaGreatDoor.O
