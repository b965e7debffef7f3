/- Contracts and lemmas. -/
import Derived.Test.YtojjdnjfaelnfaaGreatDoorGp1
import Derived.Test.YtojjdnjfaelnfaaGreatDoorGp3
import Derived.Deep.Slices
import Derived.SizedLaws
import Derived.Deep.RegionHeld3
set_option maxHeartbeats 4000000
set_option maxRecDepth 100000
namespace Go.Proofs.YtojjdnjfaelnfaaGreatDoor
set_option linter.unusedSimpArgs false
set_option linter.unusedVariables false
section
open Go.ChangeShapes Go.WideShapes Go.ChangeAt Go.RowKit Go.Lib Go.Proofs.Tryz
def Wt.zero:Wt:=⟨noS,noS,false⟩
def wtC(x:Wt):List Value:=[.string x.key,.string x.val,.bool x.drop]
def wtsC:List Wt->List Value
 | []=>[]
 |x::r=>wtC x++wtsC r
theorem zsg(a b:List Wt):wtsC (a++b)=wtsC a++wtsC b:=by
 induction a with
 |nil=>rfl
 |cons v r ih=>simp[wtsC,ih]
theorem zek(a:List Wt):(wtsC a).length=a.length*3:=by
 induction a with
 |nil=>rfl
 |cons v r ih=>simp only[wtsC,wtC,List.length_append,List.length_cons,List.length_nil,ih];omega
theorem zkl(a:List Wt)(j c:Nat)(hj:j<a.length)(hc:c<3):(wtsC a)[j*3+c]? = (wtC (a.getD j Wt.zero))[c]? :=by
 induction a generalizing j with
 |nil=>simp at hj
 |cons v r ih=>
  cases j with
  |zero=>
   simp only[wtsC,Nat.zero_mul,Nat.zero_add];rw[List.getElem?_append_left (by simp[wtC];omega)];simp
  |succ j=>
   simp only[wtsC];rw[List.getElem?_append_right (by simp[wtC];omega)];have e:(j+1)*3+c-(wtC v).length=j*3+c:=by simp[wtC];omega
   rw[e,ih j (by simpa using hj)];simp
theorem zim(a:List Wt):∀u∈wtsC a,u.oneCell'=true:=by
 induction a with
 |nil=>intro u hu;simp[wtsC]at hu
 |cons v r ih=>
  intro u hu;rcases List.mem_append.1 hu with h|h
  .simp only[wtC,List.mem_cons,List.not_mem_nil,or_false]at h;rcases h with rfl|rfl|rfl<;>rfl
  exact ih u h
structure WAt(w:World)(b o:Nat)(x:Wt):Prop where
 c0:w.cell? ⟨b,o,none⟩=some (.string x.key)
 c1:w.cell? ⟨b,o+1,none⟩=some (.string x.val)
 c2:w.cell? ⟨b,o+2,none⟩=some (.bool x.drop)
structure WRs(w:World)(ao:Option Addr)(ws:List Wt):Prop where
 lies:0<ws.length->∃b off,ao=some ⟨b,off,none⟩/\b<w.heap.size/\∀i,i<ws.length->WAt w b (off+i*3) (ws.getD i Wt.zero)
 few:ws.length<=140737488355328
 each:∀x∈ws,x.key.size<=140737488355328/\x.val.size<=140737488355328
theorem WRs.nil(w:World)(ao:Option Addr):WRs w ao []:=⟨fun h=>by simp at h,by simp,by simp⟩
theorem WRs.keepS{S:List Nat}{w w':World}{ao:Option Addr}{ws:List Wt}(h:WRs w ao ws)(hf:Fr S w w')(hn:0<ws.length->∀a,ao=some a->a.block∉S):WRs w' ao ws:=by
 refine⟨fun h0=> ?_,h.few,h.each⟩;obtain⟨b,off,e,hb,hc⟩:=h.lies h0;have hk:∀o,w'.cell? ⟨b,o,none⟩=w.cell? ⟨b,o,none⟩:=fun o=>World.cell?_of_block (hf.block b hb (hn h0 _ e));exact⟨b,off,e,Nat.lt_of_lt_of_le hb hf.size,fun i hi=>⟨(hk _).trans (hc i hi).c0,(hk _).trans (hc i hi).c1,(hk _).trans (hc i hi).c2⟩⟩
theorem WRs.keep{w w':World}{ao:Option Addr}{ws:List Wt}(h:WRs w ao ws)(hf:Fr [] w w'):WRs w' ao ws:=h.keepS hf (by simp)
theorem WRs.of_row{w:World}{b:Nat}{ws:List Wt}{rest:List Value}{t:TypeId}{f:Nat×Nat}(h:w.heap[b]? = some (.cells (wtsC ws++rest).toArray t f))(hl:ws.length<=140737488355328)(he:∀x∈ws,x.key.size<=140737488355328/\x.val.size<=140737488355328):WRs w (some ⟨b,0,none⟩) ws:=by
 refine⟨fun _=>⟨b,0,rfl,lt_of_block h,fun i hi=> ?_⟩,hl,he⟩;have key:∀c,c<3->w.cell? ⟨b,0+i*3+c,none⟩=(wtC (ws.getD i Wt.zero))[c]? :=by
  intro c hc;rw[crw h,Nat.zero_add,<-zkl ws i c hi hc];have hlt:i*3+c<(wtsC ws).length:=by rw[zek];omega
  simp[List.getElem?_append_left hlt]
 exact⟨key 0 (by omega),key 1 (by omega),key 2 (by omega)⟩
theorem zcj(ws:List Wt)(i:Nat)(h:i<ws.length):ws.getD i Wt.zero∈ws:=by simp[List.getD,h]
theorem zut(ws:List Wt)(i:Nat)(h:i<ws.length):ws.take (i+1)=ws.take i++[ws.getD i Wt.zero]:=by
 rw[List.take_add_one];simp[List.getD,h]
theorem zca(s:ByteArray):s.toList=[]↔s.size=0:=by
 rw[ByteArray.toList_eq];constructor
 .intro h;have h2:=congrArg List.length h;simpa[Array.length_toList]using h2
 intro h;have h2:s.data.toList.length=0:=by rw[Array.length_toList];exact h
 exact List.eq_nil_of_length_eq_zero h2
theorem zaeb(key val:ByteArray)(drop:Bool):okW ⟨key,val,drop⟩↔(¬key.toList=[])/\(key.size:Int)<=64/\(val.size:Int)<=1024/\(drop=true->val.toList=[]):=by
 unfold okW;rw[zca,zca,<-zgn];simp only;constructor
 .rintro⟨h1,h2,h3,h4⟩;exact⟨by omega,by omega,by omega,h4⟩
 rintro⟨h1,h2,h3,h4⟩;exact⟨by omega,by omega,by omega,h4⟩
def zahp(e:Ending)(x:Wt):Prop:=∃B:Bool,e=.returned (.bool B)/\(B=true↔ ¬okW x)
theorem zuu(i L cap b off g:Nat)(x:Wt)(w:World)(hi:i<L)(hL:L<=140737488355328)(hx:WAt w b (off+i*3) x)(hk:x.key.size<=140737488355328)(hv:x.val.size<=140737488355328)(hg:w.cell? ⟨g,1,none⟩=some (.slice (some ⟨b,off,none⟩) L cap)) :
  Calls prog 145 #[.int .i64 (i:Int),.pointer (some ⟨g,0,none⟩)] w fun e w'=>zahp e x/\Fr [] w w':=by
 obtain⟨key,val,drop⟩:=x;obtain⟨c0,c1,c2⟩:=hx;simp only at c0 c1 c2 hk hv;have HO:Hid (okW ⟨key,val,drop⟩↔_):=zaeb key val drop;go_enter func145,ntmps145;go_wp2;all_goals (
  go_ret;refine⟨⟨_,rfl,?_⟩,Fr.alloc _ _ _⟩;have HO':=HO.out;clear HO;simp_all)
 all_goals (intros;exfalso;omega)
theorem zahq{n:Int}{ws:List Wt}{i:Nat}(hi:i<ws.length)(h:¬okW (ws.getD i Wt.zero)):¬okT n ws:=fun hh=>h (hh.2.2.2 _ (zcj ws i hi))
theorem zck(n:Int)(ao:Option Addr)(L cap c:Nat)(ws:List Wt)(w:World)(hW:WRs w ao ws)(hL:L=ws.length)(hn0: -9223372036854775808<=n)(hn1:n<=9223372036854775807)(hc:(okT n ws/\c=0)\/(¬okT n ws/\c=1)) :
  Calls prog 120 #[.agg #[.int .i64 n,.slice ao L cap]] w fun e w'=>e=.returned (.int .i64 (c:Int))/\Fr [] w w':=by
 have HC:Hid (_\/_):=hc;have HL:Hid (L=ws.length):=hL;have hLm:L<=140737488355328:=by have:=hW.few;omega
 clear hc hL;by_cases h1:n<1
 .have hc1:c=1:=by
   rcases HC.out with⟨h,_⟩|⟨_,h⟩;· exact absurd h.1 (by omega)
   exact h
  subst hc1;clear HC;go_enter func120,ntmps120;go_wp2;go_ret;exact⟨rfl,Fr.alloc _ _ _⟩
 by_cases h2:65536<n
 .have hc1:c=1:=by
   rcases HC.out with⟨h,_⟩|⟨_,h⟩;· exact absurd h.2.1 (by omega)
   exact h
  subst hc1;clear HC;have h1':1<=n:=by omega
  clear h1;go_enter func120,ntmps120;go_wp2;go_ret;exact⟨rfl,Fr.alloc _ _ _⟩
 have h1':1<=n:=by omega
 have h2':n<=65536:=by omega
 clear h1 h2;by_cases h3:32<L
 .have hc1:c=1:=by
   rcases HC.out with⟨h,_⟩|⟨_,h⟩;· exact absurd h.2.2.1 (by rw[<-HL.out];omega)
   exact h
  subst hc1;clear HC;have h3':(32:Int)<L:=by omega
  go_enter func120,ntmps120;go_wp2;go_ret;exact⟨rfl,Fr.alloc _ _ _⟩
 have h3':(L:Int)<=32:=by omega
 clear h3;have c1:(w.alloc (.cells #[.int .i64 n,.slice ao L cap] 108)).cell? ⟨w.heap.size,1,none⟩=some (.slice ao L cap):=crw (heap_alloc_new w _);have hd1:decide (n<1)=false:=by simp;omega
 have hd2:decide (65536<n)=false:=by simp;omega
 have hd3:decide ((32:Int)<L)=false:=by simp;omega
 have hF0:Fr [] w (w.alloc (.cells #[.int .i64 n,.slice ao L cap] 108)):=Fr.alloc _ _ _;have hW1:=hW.keep hF0;go_enter func120,ntmps120;go_wp2_with fail
 obtain⟨w1,HW1⟩:∃w1,Hid (w.alloc (.cells #[.int .i64 n,.slice ao L cap] 108)=w1):=⟨_,rfl⟩;rw[HW1.out]at c1 hF0 hW1 ⊢
 have hlt:w.heap.size<w1.heap.size:=by rw[<-HW1.out];simp
 go_loopw [23] (fun ii wr=>∃(i:Nat),ii=.int .i64 i/\i<=L/\Hid (∀j,j<i->okW (ws.getD j Wt.zero))/\Fr [] w1 wr) (fun ii _=>L-(RowKit.intOf ii).toNat)
 case atStart=>exact⟨0,rfl,Nat.zero_le _,fun j hj=>by omega,Fr.refl _ _⟩
 obtain⟨i,rfl,hiL,HE,hFr⟩:=hrel;have c1r:wr.cell? ⟨w.heap.size,1,none⟩=some (.slice ao L cap):=(World.cell?_of_block (hFr.block _ hlt (by simp))).trans c1;by_cases hi:i<L
 .have hi':i<ws.length:=by rw[<-HL.out];exact hi
  obtain⟨b,off,rfl,_,hc⟩:=(hW1.keep hFr).lies (by omega);have hx:=hc i hi';have hm:=hW.each _ (zcj ws i hi');obtain⟨x,hxx⟩:∃x,x=ws.getD i Wt.zero:=⟨_,rfl⟩;rw[<-hxx]at hx hm
  have HX:Hid (x=ws.getD i Wt.zero):=hxx;clear hxx hc;go_wp2_with fail
  refine (zuu i L cap b off w.heap.size x _ hi hLm hx hm.1 hm.2 c1r).mono ?_;rintro e w2⟨⟨B,rfl,hB⟩,hF2⟩;cases B with
  |true=>
   have hno:¬okW x:=hB.1 rfl;have hc1:c=1:=by
    rcases HC.out with⟨h,_⟩|⟨_,h⟩;· exact absurd h (zahq hi' (HX.out▸hno))
    exact h
   subst hc1;clear HC hB hno;go_wp2;go_ret;exact⟨rfl,hF0.then (hFr.then hF2)⟩
  |false=>
   have HE2:Hid (∀j,j<i+1->okW (ws.getD j Wt.zero)):=by
    intro j hj;by_cases hji:j=i
    .subst hji;rw[<-HX.out];exact Classical.byContradiction fun h=>absurd (hB.2 h) (by simp)
    exact HE.out j (by omega)
   clear hB;go_wp2;go_roundw;case rel=>exact⟨i+1,by simp,by omega,HE2,hFr.then hF2⟩
   case measure=>simp[RowKit.intOf];omega
 have hc0:c=0:=by
  rcases HC.out with⟨_,h⟩|⟨h,_⟩
  .exact h
  refine absurd ⟨h1',h2',by rw[<-HL.out];omega,?_⟩ h;intro x hx;obtain⟨j,hj,rfl⟩:=List.getElem_of_mem hx;have:=HE.out j (by have:=HL.out;omega);simpa[List.getD,hj]using this
 subst hc0;clear HC;go_wp2;go_ret;exact⟨rfl,hF0.then hFr⟩
section
variable{H:Type}{enc:TypeId×Value->H}
theorem zdz{P:Program}{e:TypeId}:∀{ds:List (DataW H)}{d:DataW H},d∈ds->∀n∈d.weights P e,n∈DataW.weightsAll P e ds
 |x::r,d,hd,n,hn=>by
  simp only[DataW.weightsAll,List.mem_append];rcases List.mem_cons.1 hd with rfl|hd
  .exact Or.inl hn
  exact Or.inr (zdz hd n hn)
theorem zps:prog.underlying 87=some (.slice 91):=by kernel_rfl
theorem zts:prog.cellsOf 91=3:=by kernel_rfl
theorem zaao:(match prog.underlying 91 with|some (.struct fs)=>fs.toList.map (fun f=>(f.type,f.offset))|_=>[])=[(9,0),(9,1),(4,2)]:=by kernel_rfl
theorem zxk:prog.cellsOf 108=2:=by kernel_rfl
theorem zaef:(match prog.underlying 108 with|some (.struct fs)=>fs.toList.map (fun f=>(f.type,f.offset))|_=>[])=[(3,0),(87,1)]:=by kernel_rfl
theorem undI:prog.underlying 3=some (.int .i64):=by kernel_rfl
theorem zajx:prog.underlying 4=some .bool:=by kernel_rfl
theorem cBl:prog.cellsOf 4=1:=by kernel_rfl
theorem cI:prog.cellsOf 3=1:=by kernel_rfl
theorem cS:prog.cellsOf 9=1:=by kernel_rfl
theorem cWs:prog.cellsOf 87=1:=by kernel_rfl
theorem zaeg{w:World}{base:Nat}{spare:Nat->Bool}{held:Bool}{fuel:Nat}{cs:List Value}{x:DataW H×List MemPlace}(h:DataW.trod enc prog w base spare held fuel 91 cs=some x) :
  ∃v:Wt,cs=[.string v.key,.string v.val,.bool v.drop]/\v.key.size∈x.1.weights prog 91/\v.val.size∈x.1.weights prog 91:=by
 have hF:=zaao;cases hu:prog.underlying 91 with
 |none=>rw[hu]at hF;simp at hF
 |some u=>
  rw[hu]at hF
  cases u with
  |struct fs=>
   simp only at hF;obtain⟨ys,n,_,hx,hlen,hys,hf⟩:=DataW.trod_struct hu h;rw[zts]at hlen
   match cs,hlen with
   | [v0,v1,v2],_=>
    have hl3:fs.toList.length=3:=by have:=congrArg List.length hF;simpa using this
    obtain⟨l,hl⟩:∃l,l=fs.toList:=⟨_,rfl⟩;rw[<-hl]at hF hl3
    match l,hl3 with
    | [f0,f1,f2],_=>
     simp only[List.map_cons,List.map_nil,List.cons.injEq,Prod.mk.injEq,and_true]at hF;obtain⟨⟨t0,o0⟩,⟨t1,o1⟩,⟨t2,o2⟩⟩:=hF;have g:∀(i:Nat)(f:Field),[f0,f1,f2][i]? = some f->fs[i]? = some f:=by
      intro i f hi;rw[hl]at hi
      simpa using hi
     have r0:=hf 0 f0 (g 0 f0 rfl);have r1:=hf 1 f1 (g 1 f1 rfl);have r2:=hf 2 f2 (g 2 f2 rfl);rw[t0,o0,cS]at r0
     rw[t1,o1,cS]at r1
     rw[t2,o2,cBl]at r2
     simp only[List.drop_zero,List.drop_succ_cons,List.take_succ_cons,List.take_zero]at r0 r1 r2;have hy3:ys.length=3:=by rw[hys];have:=congrArg List.length hl;simpa using this.symm
     match ys,hy3 with
     | [y0,y1,y2],_=>
      simp only[List.getElem?_cons_zero,List.getElem?_cons_succ]at r0 r1 r2;obtain⟨s0,e0,x0,_⟩:=DataW.trod_string zeo r0;obtain⟨s1,e1,x1,_⟩:=DataW.trod_string zeo r1;obtain⟨b2,e2,_⟩:=DataW.trod_bool zajx r2;simp only[List.cons.injEq,and_true]at e0 e1 e2;have hty:fs.toList.map (·.type)=[9,9,4]:=by rw[<-hl];simp[t0,t1,t2]
      refine⟨⟨s0,s1,b2⟩,by rw[e0,e1,e2],?_,?_⟩
      .rw[hx];simp only[DataW.weights,hu];rw[hty];refine DataW.weights_mem_each (j:=0) (t:=9) (d:=y0.1) rfl rfl _ ?_;rw[x0];simp only[DataW.weights,List.mem_singleton];show s0.data.size=_;simp
      .rw[hx];simp only[DataW.weights,hu];rw[hty];refine DataW.weights_mem_each (j:=1) (t:=9) (d:=y1.1) rfl rfl _ ?_;rw[x1];simp only[DataW.weights,List.mem_singleton];show s1.data.size=_;simp
  |_=>simp at hF
theorem zaeh{w:World}{fuel:Nat}{v:Value}{d:DataW H}{ps:List MemPlace}(h:DataW.trod enc prog w 0 (fun _=>true) true fuel 87 [v]=some (d,ps))(hsz:∀n∈d.weights prog 87,n<=reachBytes) :
  ∃ao L cap ws,v=.slice ao L cap/\WRs w ao ws/\L=ws.length:=by
 rcases Go.Deep.open_slice zps h with⟨hcs,_⟩|⟨a,len,cap,m,n,D,Pl,hcs,hb,hl,hm,hmm,hx,hE⟩
 .simp only[List.cons.injEq,and_true]at hcs;exact⟨none,0,0,[],hcs,WRs.nil _ _,rfl⟩
 simp only[List.cons.injEq,and_true]at hcs;simp only[if_true]at hmm;subst hmm;rw[zts]at hE hx
 have hO:∀i,i<m->∃o:Wt,(w.cells? 0 (a.add (i*3)) 3=some [.string o.key,.string o.val,.bool o.drop])/\o.key.size∈(D i).weights prog 91/\o.val.size∈(D i).weights prog 91:=by
  intro i hi;obtain⟨cs',h1,h2⟩:=hE i hi;obtain⟨o,rfl,rest⟩:=zaeg h2;exact⟨o,h1,rest⟩
 haveI:Inhabited Wt:=⟨Wt.zero⟩;obtain⟨F,hF⟩:=Go.Deep.choose_lt hO;have hd:d=.slice ((List.range len).map D) ((List.range (m-len)).map fun j=>D (len+j)):=by have:=congrArg Prod.fst hx;simpa using this
 have hr:=reachBytes_lt;have hlen:len<=140737488355328:=by
  have hw:len*prog.bytesOf 91<=reachBytes:=by
   refine Nat.le_trans (Nat.mul_le_mul_right _ hl) (hsz _ ?_);rw[hd];simp only[DataW.weights,zps,List.length_map,List.length_range];rw[show len+(m-len)=m by omega];exact List.mem_cons_self
  have hb40:1<=prog.bytesOf 91:=by
   rw[show prog.bytesOf 91=40 from by kernel_rfl];decide
  have:=Nat.le_mul_of_pos_right len hb40;omega
 refine⟨some a,len,m,(List.range len).map F,hcs,⟨fun h0=> ?_,by simpa using hlen,?_⟩,by simp⟩
 .simp only[List.length_map,List.length_range]at h0 ⊢;have hc0:=(World.cells?_some (hF 0 (by omega)).1).2.2;obtain⟨b,off,spot⟩:=a;have hspot:spot=none:=by
   have:=hc0 0 (by omega);simp at this;simpa[Addr.add]using World.cell?_spot this
  subst hspot;have hcell:∀i,i<len->∀j,j<3->w.cell? ⟨b,off+i*3+j,none⟩=[Value.string (F i).key,.string (F i).val,.bool (F i).drop][j]? :=by
   intro i hi j hj;have:=(World.cells?_some (hF i (by omega)).1).2.2 j hj;rw[show ((⟨b,off,none⟩:Addr).add (i*3)).add j=⟨b,off+i*3+j,none⟩ from by rw[Addr.add_lit,Addr.add_lit]]at this
   exact this
  refine⟨b,off,rfl,World.block_lt_of_cell? w ⟨b,off+0*3+0,none⟩ (by rw[hcell 0 (by omega) 0 (by omega)];rfl),fun i hi=> ?_⟩;have e:((List.range len).map F).getD i Wt.zero=F i:=by simp[List.getD,hi]
  rw[e];exact⟨hcell i hi 0 (by omega),hcell i hi 1 (by omega),hcell i hi 2 (by omega)⟩
 intro o ho;obtain⟨i,hi,rfl⟩:=List.mem_map.1 ho;have hi':i<len:=by simpa using hi
 have key:∀q∈(D i).weights prog 91,q<=140737488355328:=by
  intro q hq;have:q<=reachBytes:=by
   apply hsz;rw[hd];simp only[DataW.weights,zps];refine List.mem_cons_of_mem _ (List.mem_append_left _ ?_);exact zdz (List.mem_map.2 ⟨i,by simpa using hi',rfl⟩) _ hq
  omega
 exact⟨key _ (hF i (by omega)).2.1,key _ (hF i (by omega)).2.2⟩
structure TArg(w:World)(n:Int)(ao:Option Addr)(L cap:Nat)(ws:List Wt):Prop where
 rs:WRs w ao ws
 len:L=ws.length
 n0: -9223372036854775808<=n
 n1:n<=9223372036854775807
theorem TArg.keep{w w':World}{n:Int}{ao:Option Addr}{L cap:Nat}{ws:List Wt}(h:TArg w n ao L cap ws)(hf:Fr [] w w'):TArg w' n ao L cap ws:={h with rs:=h.rs.keep hf}
theorem zaei{w:World}{fuel:Nat}{cs:List Value}{x:DataW H×List MemPlace}(h:DataW.trod enc prog w 0 (fun _=>true) true fuel 108 cs=some x)(hsz:∀n∈x.1.weights prog 108,n<=reachBytes) :
  ∃n ao L cap ws,cs=[.int .i64 n,.slice ao L cap]/\TArg w n ao L cap ws:=by
 have hF:=zaef;cases hu:prog.underlying 108 with
 |none=>rw[hu]at hF;simp at hF
 |some u=>
  rw[hu]at hF
  cases u with
  |struct fs=>
   simp only at hF;obtain⟨ys,n,_,hx,hlen,hys,hf⟩:=DataW.trod_struct hu h;rw[zxk]at hlen
   match cs,hlen with
   | [v0,v1],_=>
    have hl2:fs.toList.length=2:=by have:=congrArg List.length hF;simpa using this
    obtain⟨l,hl⟩:∃l,l=fs.toList:=⟨_,rfl⟩;rw[<-hl]at hF hl2
    match l,hl2 with
    | [f0,f1],_=>
     simp only[List.map_cons,List.map_nil,List.cons.injEq,Prod.mk.injEq,and_true]at hF;obtain⟨⟨t0,o0⟩,⟨t1,o1⟩⟩:=hF;have g:∀(i:Nat)(f:Field),[f0,f1][i]? = some f->fs[i]? = some f:=by
      intro i f hi;rw[hl]at hi
      simpa using hi
     have r0:=hf 0 f0 (g 0 f0 rfl);have r1:=hf 1 f1 (g 1 f1 rfl);rw[t0,o0,cI]at r0
     rw[t1,o1,cWs]at r1
     simp only[List.drop_zero,List.drop_succ_cons,List.take_succ_cons,List.take_zero]at r0 r1;have hy2:ys.length=2:=by rw[hys];have:=congrArg List.length hl;simpa using this.symm
     match ys,hy2 with
     | [y0,y1],_=>
      simp only[List.getElem?_cons_zero,List.getElem?_cons_succ]at r0 r1;obtain⟨k,e0,_,w0⟩:=DataW.trod_int undI r0;have hty:fs.toList.map (·.type)=[3,87]:=by rw[<-hl];simp[t0,t1]
      obtain⟨ao,L,cap,ws,e1,hW,hL⟩:=zaeh (d:=y1.1) (ps:=y1.2) r1 (by
       intro q hq;apply hsz;rw[hx];simp only[DataW.weights,hu];rw[hty];exact DataW.weights_mem_each (j:=1) (t:=87) (d:=y1.1) rfl rfl _ hq)
      simp only[List.cons.injEq,and_true]at e0;have b0:=bounds_i64 w0;exact⟨k,ao,L,cap,ws,by rw[e0,e1],hW,hL,b0.1,b0.2⟩
  |_=>simp at hF
end
structure Tm where
 n:Int
 ao:Option Addr
 L:Nat
 cap:Nat
 ws:List Wt
def Tm.zero:Tm:=⟨0,none,0,0,[]⟩
def Tm.tx(t:Tm):Tx:=⟨t.n,t.ws⟩
def txs(ts:List Tm):List Tx:=ts.map Tm.tx
theorem zah(ts:List Tm):(txs ts).length=ts.length:=by simp[txs]
theorem zeb(ts:List Tm)(i:Nat):(txs ts).getD i Tx.zero=(ts.getD i Tm.zero).tx:=by
 by_cases h:i<ts.length
 .simp[txs,List.getD,h]
 simp[txs,List.getD,h,Tm.zero,Tm.tx,Tx.zero]
theorem zpt(ts:List Tm)(i:Nat):(txs ts).take i=txs (ts.take i):=by simp[txs,List.map_take]
theorem zhg(a b:List Tm):txs (a++b)=txs a++txs b:=by simp[txs]
def Tm.at(t:Tm)(w:World):Prop:=TArg w t.n t.ao t.L t.cap t.ws
theorem Tm.at.keep{t:Tm}{w w':World}(h:t.at w)(hf:Fr [] w w'):t.at w':=TArg.keep h hf
structure TAt(w:World)(b o:Nat)(t:Tm):Prop where
 c0:w.cell? ⟨b,o,none⟩=some (.int .i64 t.n)
 c1:w.cell? ⟨b,o+1,none⟩=some (.slice t.ao t.L t.cap)
structure TRs(w:World)(ao:Option Addr)(ts:List Tm):Prop where
 lies:0<ts.length->∃b off,ao=some ⟨b,off,none⟩/\b<w.heap.size/\∀i,i<ts.length->TAt w b (off+i*2) (ts.getD i Tm.zero)
 few:ts.length<=140737488355328
 each:∀t∈ts,t.at w
theorem TRs.nil(w:World)(ao:Option Addr):TRs w ao []:=⟨fun h=>by simp at h,by simp,by simp⟩
theorem TRs.keep{w w':World}{ao:Option Addr}{ts:List Tm}(h:TRs w ao ts)(hf:Fr [] w w'):TRs w' ao ts:=by
 refine⟨fun h0=> ?_,h.few,fun t ht=>(h.each t ht).keep hf⟩;obtain⟨b,off,e,hb,hc⟩:=h.lies h0;have hk:∀o,w'.cell? ⟨b,o,none⟩=w.cell? ⟨b,o,none⟩:=fun o=>World.cell?_of_block (hf.block b hb (by simp));exact⟨b,off,e,Nat.lt_of_lt_of_le hb hf.size,fun i hi=>⟨(hk _).trans (hc i hi).c0,(hk _).trans (hc i hi).c1⟩⟩
theorem zbw(ts:List Tm)(i:Nat)(h:i<ts.length):ts.getD i Tm.zero∈ts:=by simp[List.getD,h]
theorem zhh(ts:List Tm)(i:Nat)(h:i<ts.length):ts.take (i+1)=ts.take i++[ts.getD i Tm.zero]:=by
 rw[List.take_add_one];simp[List.getD,h]
theorem TRs.take{w:World}{ao:Option Addr}{ts:List Tm}(h:TRs w ao ts)(k:Nat):TRs w ao (ts.take k):=by
 refine⟨fun h0=> ?_,by have:=h.few;rw[List.length_take];omega,fun t ht=>h.each t (List.mem_of_mem_take ht)⟩;rw[List.length_take]at h0
 obtain⟨b,off,e,hb,hc⟩:=h.lies (by omega);refine⟨b,off,e,hb,fun i hi=> ?_⟩;rw[List.length_take]at hi
 have e2:(ts.take k).getD i Tm.zero=ts.getD i Tm.zero:=by
  have:i<k:=by omega
  simp[List.getD,this]
 rw[e2];exact hc i (by omega)
def tmC(t:Tm):List Value:=[.int .i64 t.n,.slice t.ao t.L t.cap]
def tmsC:List Tm->List Value
 | []=>[]
 |t::r=>tmC t++tmsC r
theorem zsj(a b:List Tm):tmsC (a++b)=tmsC a++tmsC b:=by
 induction a with
 |nil=>rfl
 |cons v r ih=>simp[tmsC,ih]
theorem zel(a:List Tm):(tmsC a).length=a.length*2:=by
 induction a with
 |nil=>rfl
 |cons v r ih=>simp only[tmsC,tmC,List.length_append,List.length_cons,List.length_nil,ih];omega
theorem zaaq(a:List Tm)(j c:Nat)(hj:j<a.length)(hc:c<2):(tmsC a)[j*2+c]? = (tmC (a.getD j Tm.zero))[c]? :=by
 induction a generalizing j with
 |nil=>simp at hj
 |cons v r ih=>
  cases j with
  |zero=>
   simp only[tmsC,Nat.zero_mul,Nat.zero_add];rw[List.getElem?_append_left (by simp[tmC];omega)];simp
  |succ j=>
   simp only[tmsC];rw[List.getElem?_append_right (by simp[tmC];omega)];have e:(j+1)*2+c-(tmC v).length=j*2+c:=by simp[tmC];omega
   rw[e,ih j (by simpa using hj)];simp
theorem TRs.of_row{w:World}{b:Nat}{ts:List Tm}{rest:List Value}{t:TypeId}{f:Nat×Nat}(h:w.heap[b]? = some (.cells (tmsC ts++rest).toArray t f))(hl:ts.length<=140737488355328)(he:∀t∈ts,t.at w):TRs w (some ⟨b,0,none⟩) ts:=by
 refine⟨fun _=>⟨b,0,rfl,lt_of_block h,fun i hi=> ?_⟩,hl,he⟩;have key:∀c,c<2->w.cell? ⟨b,0+i*2+c,none⟩=(tmC (ts.getD i Tm.zero))[c]? :=by
  intro c hc;rw[crw h,Nat.zero_add,<-zaaq ts i c hi hc];have hlt:i*2+c<(tmsC ts).length:=by rw[zel];omega
  simp[List.getElem?_append_left hlt]
 exact⟨key 0 (by omega),key 1 (by omega)⟩
def kAt(ws:List Wt)(i:Nat):ByteArray:=(ws.getD i Wt.zero).key
def Kept(ws:List Wt)(i:Nat):Prop:=∀m,i<m->m<ws.length->kAt ws m≠kAt ws i
open Classical in
noncomputable def ddTo (ws:List Wt):Nat->List Wt
 |0=>[]
 |i+1=>if Kept ws i then ddTo ws i++[ws.getD i Wt.zero] else ddTo ws i
noncomputable def dd (ws:List Wt):List Wt:=ddTo ws ws.length
theorem zfe{ws:List Wt}{i:Nat}(h:Kept ws i):ddTo ws (i+1)=ddTo ws i++[ws.getD i Wt.zero]:=by
 simp only[ddTo,if_pos h]
theorem zgq{ws:List Wt}{i:Nat}(h:¬Kept ws i):ddTo ws (i+1)=ddTo ws i:=by
 simp only[ddTo,if_neg h]
theorem zpu(ws:List Wt):∀i,(ddTo ws i).length<=i
 |0=>Nat.le_refl _
 |i+1=>by
  have ih:=zpu ws i;by_cases h:Kept ws i
  .rw[zfe h,List.length_append];simp;omega
  rw[zgq h];omega
theorem zlb(ws:List Wt):(dd ws).length<=ws.length:=zpu ws _
theorem zkm(ws:List Wt):∀i,i<=ws.length->∀x∈ddTo ws i,x∈ws
 |0,_,x,hx=>by cases hx
 |i+1,hi,x,hx=>by
  by_cases h:Kept ws i
  .rw[zfe h,List.mem_append]at hx
   rcases hx with hx|hx
   .exact zkm ws i (by omega) x hx
   simp only[List.mem_singleton]at hx;rw[hx];exact zcj ws i (by omega)
  rw[zgq h]at hx
  exact zkm ws i (by omega) x hx
theorem zpv(ws:List Wt):∀x∈dd ws,x∈ws:=zkm ws _ (Nat.le_refl _)
open Classical in
noncomputable def zbc (ws:List Wt):Nat->ByteArray->Option Int
 |0=>fun _=>none
 |i+1=>fun k=>if k=kAt ws i then some (i:Int) else zbc ws i k
theorem zni(ws:List Wt):∀i k j,zbc ws i k=some j->∃m:Nat,j=m/\m<i/\kAt ws m=k/\∀p,m<p->p<i->kAt ws p≠k
 |0,k,j,h=>by cases h
 |i+1,k,j,h=>by
  by_cases e:k=kAt ws i
  .have h':some (i:Int)=some j:=by rw[<-h];simp only[zbc,if_pos e]
   cases h';exact⟨i,rfl,by omega,e.symm,fun p h1 h2=>by omega⟩
  have h':zbc ws i k=some j:=by rw[<-h];simp only[zbc,if_neg e]
  obtain⟨m,h1,h2,h3,h4⟩:=zni ws i k j h';refine⟨m,h1,by omega,h3,fun p hp hq=> ?_⟩;by_cases hpi:p=i
  .rw[hpi];exact fun e2=>e e2.symm
  exact h4 p hp (by omega)
theorem zkc(ws:List Wt):∀i m,m<i->zbc ws i (kAt ws m)≠none
 |0,m,h=>by omega
 |i+1,m,h=>by
  by_cases e:kAt ws m=kAt ws i
  .simp only[zbc,if_pos e];simp
  simp only[zbc,if_neg e];have:m≠i:=fun h'=>e (by rw[h']);exact zkc ws i m (by omega)
theorem zsk(ws:List Wt)(i:Nat)(hi:i<ws.length):((zbc ws ws.length (kAt ws i)).getD 0=(i:Int))↔Kept ws i:=by
 cases h:zbc ws ws.length (kAt ws i) with
 |none=>exact absurd h (zkc ws _ i hi)
 |some j=>
  obtain⟨m,h1,h2,h3,h4⟩:=zni ws _ _ _ h;show j=(i:Int)↔_;rw[h1];constructor
  .intro e p hp hq;have:m=i:=by omega
   exact h4 p (by omega) hq
  intro hk;have h5:¬(i<m):=fun h5=>hk m h5 h2 h3;have h6:¬(m<i):=fun h6=>h4 i h6 hi rfl;omega
end
namespace F
open Go.ChangeShapes Go.WideShapes Go.ChangeAt Go.RowKit Go.Lib Go.Proofs.Tryz
theorem row_setCell{w:World}{b j:Nat}{cs:Array Value}{t:TypeId}(x:Value)(h:w.heap[b]? = some (.cells cs t (0,0))):(w.setCell ⟨b,j,none⟩ x).heap[b]? = some (.cells (cs.setIfInBounds j x) t (0,0)):=by
 have hlt:=lt_of_block h;have h':w.heap[b]=.cells cs t (0,0):=by simpa[Array.getElem?_eq_getElem hlt]using h
 show (w.heap.modify b _)[b]? = _;rw[Array.getElem?_eq_getElem (by simpa using hlt),Array.getElem_modify_self,h'];rfl
structure Bv(w:World)(b:Nat)(t:TypeId)(v:Value):Prop where
 box:w.heap[b]? = some (.cells #[v] t (0,0))
theorem Bv.c{w:World}{b:Nat}{t:TypeId}{v:Value}(h:Bv w b t v):w.cell? ⟨b,0,none⟩=some v:=by simp[World.cell?,h.box]
theorem Bv.f{w:World}{b:Nat}{t:TypeId}{v:Value}(h:Bv w b t v):w.frozen? ⟨b,0,none⟩=false:=by simp[World.frozen?,h.box]
theorem Bv.keep{S:List Nat}{w w':World}{b:Nat}{t:TypeId}{v:Value}(h:Bv w b t v)(hf:Fr S w w')(hn:b∉S):Bv w' b t v:=⟨hf.keep h.box hn⟩
theorem Bv.set{w:World}{b:Nat}{t:TypeId}{v:Value}(h:Bv w b t v)(u:Value):Bv (w.setCell ⟨b,0,none⟩ u) b t u:=by
 have:=row_setCell (j:=0) u h.box;exact⟨by simpa using this⟩
theorem Bv.new(w:World)(t:TypeId)(v:Value):Bv (w.alloc (.cells #[v] t)) w.heap.size t v:=⟨heap_alloc_new w _⟩
theorem zvl(w:World):Calls prog 97 #[] w fun e w'=>e=.returned (.func (Fn.func 119) #[] #[.pointer (some ⟨w.heap.size,0,none⟩)])/\w'=w.alloc (.cells #[.int .i64 1] 3):=by
 go_enter func97,ntmps97;go_wp2;go_ret;exact⟨rfl,rfl⟩
theorem zqg(b k c:Nat)(n:Int)(ao:Option Addr)(L cap:Nat)(ws:List Wt)(w:World)(hb:Bv w b 3 (.int .i64 (k:Int)))(ht:TArg w n ao L cap ws)(hk:k<=140737488355329)(hc:(¬okT n ws/\c=1)\/(okT n ws/\n≠(k:Int)/\c=6)) :
  Calls prog 119 #[.agg #[.int .i64 n,.slice ao L cap],.pointer (some ⟨b,0,none⟩)] w fun e w'=>e=.returned (.int .i64 (c:Int))/\Fr [] w w':=by
 have HL:Hid (L=ws.length):=ht.len;have hn0:=ht.n0;have hn1:=ht.n1;have hF0:Fr [] w (w.alloc (.cells #[.int .i64 n,.slice ao L cap] 108)):=Fr.alloc _ _ _;have hW0:=ht.rs.keep hF0;have hb0:=hb.keep hF0 (by simp);have c0:(w.alloc (.cells #[.int .i64 n,.slice ao L cap] 108)).cell? ⟨w.heap.size,0,none⟩=some (.int .i64 n):=crw (heap_alloc_new w _);have hsz:w.heap.size<(w.alloc (.cells #[.int .i64 n,.slice ao L cap] 108)).heap.size:=by simp
 obtain⟨w0,HW0⟩:∃w0,Hid (w.alloc (.cells #[.int .i64 n,.slice ao L cap] 108)=w0):=⟨_,rfl⟩;rw[HW0.out]at hF0 hW0 hb0 c0 hsz
 clear hb;rcases hc with⟨hno,rfl⟩|⟨hok,hne,rfl⟩
 .have HN:Hid (¬okT n ws):=hno;clear hno;go_enter func119,ntmps119;go_wp2_with fail
  rw[HW0.out];refine (zck n ao L cap 1 ws _ hW0 HL.out hn0 hn1 (Or.inr ⟨HN.out,rfl⟩)).mono ?_;rintro e w1⟨rfl,hF1⟩;have hF:=hF0.then hF1;clear hF0 hF1 hW0;go_wp2;go_ret;exact⟨rfl,hF⟩
 have HK:Hid (okT n ws):=hok;have hnb:(n != (k:Int))=true:=by rw[bne_iff_ne];exact hne
 clear hok;go_enter func119,ntmps119;go_wp2_with fail
 rw[HW0.out];refine (zck n ao L cap 0 ws _ hW0 HL.out hn0 hn1 (Or.inl ⟨HK.out,rfl⟩)).mono ?_;rintro e w1⟨rfl,hF1⟩;have hF:=hF0.then hF1;have d0:w1.cell? ⟨w.heap.size,0,none⟩=some (.int .i64 n):=(World.cell?_of_block (hF1.block _ hsz (by simp))).trans c0;have d1:=(hb0.keep hF1 (by simp)).c;clear hF0 hF1 hW0 hne;go_wp2;go_ret;exact⟨rfl,hF⟩
theorem zabc(b k:Nat)(n:Int)(ao:Option Addr)(L cap:Nat)(ws:List Wt)(w:World)(hb:Bv w b 3 (.int .i64 (k:Int)))(ht:TArg w n ao L cap ws)(hk:k<=140737488355329)(hok:okT n ws)(hn:n=(k:Int)) :
  Calls prog 119 #[.agg #[.int .i64 n,.slice ao L cap],.pointer (some ⟨b,0,none⟩)] w fun e w'=>e=.returned (.int .i64 0)/\Bv w' b 3 (.int .i64 ((k+1:Nat):Int))/\Fr [b] w w':=by
 subst hn;have HL:Hid (L=ws.length):=ht.len;have hn0:=ht.n0;have hn1:=ht.n1;have HK:Hid (okT (k:Int) ws):=hok;clear hok;have hF0:Fr [] w (w.alloc (.cells #[.int .i64 (k:Int),.slice ao L cap] 108)):=Fr.alloc _ _ _;have hW0:=ht.rs.keep hF0;have hb0:=hb.keep hF0 (by simp);have c0:(w.alloc (.cells #[.int .i64 (k:Int),.slice ao L cap] 108)).cell? ⟨w.heap.size,0,none⟩=some (.int .i64 (k:Int)):=crw (heap_alloc_new w _);have hsz:w.heap.size<(w.alloc (.cells #[.int .i64 (k:Int),.slice ao L cap] 108)).heap.size:=by simp
 obtain⟨w0,HW0⟩:∃w0,Hid (w.alloc (.cells #[.int .i64 (k:Int),.slice ao L cap] 108)=w0):=⟨_,rfl⟩;rw[HW0.out]at hF0 hW0 hb0 c0 hsz
 clear hb;have hnb:((k:Int) != (k:Int))=false:=by simp
 go_enter func119,ntmps119;go_wp2_with fail
 rw[HW0.out];refine (zck (k:Int) ao L cap 0 ws _ hW0 HL.out hn0 hn1 (Or.inl ⟨HK.out,rfl⟩)).mono ?_;rintro e w1⟨rfl,hF1⟩;have hF:=hF0.then hF1;have d0:w1.cell? ⟨w.heap.size,0,none⟩=some (.int .i64 (k:Int)):=(World.cell?_of_block (hF1.block _ hsz (by simp))).trans c0;have hb1:=hb0.keep hF1 (by simp);have d1:=hb1.c;have d2:=hb1.f;have hR:Bv (w1.setCell ⟨b,0,none⟩ (.int .i64 ((k:Int)+1))) b 3 (.int .i64 ((k+1:Nat):Int)):=by
  have:=hb1.set (.int .i64 ((k:Int)+1));simpa using this
 have HR:Hid (_/\Fr [b] w (w1.setCell ⟨b,0,none⟩ (.int .i64 ((k:Int)+1)))):=⟨hR,(hF.mono (by simp)).then (Fr.set _ _ _ (by simp))⟩;clear hF0 hF1 hW0 hb0 hR hb1 hF;go_wp2;go_ret;exact⟨rfl,HR.out⟩
theorem zvm(ts:List Tm)(i:Nat)(h:i<ts.length):ts.drop i=ts.getD i Tm.zero::ts.drop (i+1):=by
 rw[List.drop_eq_getElem_cons h];simp[List.getD,h]
theorem lcheck_any(ao:Option Addr)(L cap c:Nat)(ts:List Tm)(w:World)(hT:TRs w ao ts)(hL:L=ts.length)(hc:Bad 1 (txs ts) c) :
  Calls prog 56 #[.slice ao L cap] w fun e w'=>e=.returned (.int .i64 (c:Int))/\Fr [] w w':=by
 have HC:Hid (Bad 1 (txs ts) c):=hc;have HL:Hid (L=ts.length):=hL;have hLm:L<=140737488355328:=by have:=hT.few;omega
 clear hc hL;have hF0:Fr [] w (w.alloc (.cells #[.int .i64 1] 3)):=Fr.alloc _ _ _;have hB0:Bv (w.alloc (.cells #[.int .i64 1] 3)) w.heap.size 3 (.int .i64 ((1:Nat):Int)):=Bv.new w _ _;go_enter func56,ntmps56;go_wp2_with fail
 refine (zvl _).mono ?_;rintro e w0⟨rfl,HW0⟩;rw[<-HW0]at hF0 hB0
 obtain⟨b,hb⟩:∃b,b=w.heap.size:=⟨_,rfl⟩;rw[<-hb]at hB0 ⊢
 have hbw:w.heap.size<=b:=by omega
 clear hb HW0;go_wp2_with fail
 go_loopw [10] (fun ii wr=>∃(i:Nat),ii=.int .i64 i/\i<=L/\Hid (Bad (1+i) (txs (ts.drop i)) c)/\Bv wr b 3 (.int .i64 ((1+i:Nat):Int))/\Fr [] w wr) (fun ii _=>L-(RowKit.intOf ii).toNat)
 case atStart=>exact⟨0,rfl,Nat.zero_le _,HC.out,hB0,hF0⟩
 obtain⟨i,rfl,hiL,HE,hBi,hFr⟩:=hrel;by_cases hi:i<L
 .have hi':i<ts.length:=by rw[<-HL.out];exact hi
  obtain⟨bb,off,rfl,_,hc⟩:=(hT.keep hFr).lies (by omega);have hx:=hc i hi';have hat:=(hT.keep hFr).each _ (zbw ts i hi');obtain⟨x,hxx⟩:∃x,x=ts.getD i Tm.zero:=⟨_,rfl⟩;rw[<-hxx]at hx hat
  have HX:Hid (x=ts.getD i Tm.zero):=hxx;clear hxx hc;obtain⟨n,ao,M,cm,ws⟩:=x;obtain⟨c0,c1⟩:=hx;simp only at c0 c1;have e1:=HE.out;rw[zvm ts i hi',<-HX.out]at e1
  have hF1:Fr [] wr (wr.alloc (.cells #[.int .i64 n,.slice ao M cm] 108)):=Fr.alloc _ _ _;have hB1:=hBi.keep hF1 (by simp);have hat1:TArg (wr.alloc (.cells #[.int .i64 n,.slice ao M cm] 108)) n ao M cm ws:=TArg.keep hat hF1;have hG:=hFr.then hF1;clear HE HC;rcases e1 with⟨h1,rfl⟩|⟨h1,h2,rfl⟩|⟨h1,h2,h3⟩
  .have HN:Hid (¬okT n ws):=h1;clear h1;go_wp2_with fail
   refine (zqg b (1+i) 1 n ao M cm ws _ hB1 hat1 (by omega) (Or.inl ⟨HN.out,rfl⟩)).mono ?_;rintro e w2⟨rfl,hF2⟩;have hG2:=hG.then hF2;clear hG hF2 hB1 hat1 hF1;go_wp2;go_ret;exact⟨rfl,hG2⟩
  .have HN:Hid (okT n ws/\n≠((1+i:Nat):Int)):=⟨h1,h2⟩;clear h1 h2;go_wp2_with fail
   refine (zqg b (1+i) 6 n ao M cm ws _ hB1 hat1 (by omega) (Or.inr ⟨HN.out.1,HN.out.2,rfl⟩)).mono ?_;rintro e w2⟨rfl,hF2⟩;have hG2:=hG.then hF2;clear hG hF2 hB1 hat1 hF1;go_wp2;go_ret;exact⟨rfl,hG2⟩
  have HN:Hid (okT n ws/\n=((1+i:Nat):Int)/\Bad (1+i+1) (txs (ts.drop (i+1))) c):=⟨h1,h2,h3⟩;clear h1 h2 h3;go_wp2_with fail
  refine (zabc b (1+i) n ao M cm ws _ hB1 hat1 (by omega) HN.out.1 HN.out.2.1).mono ?_;rintro e w2⟨rfl,hB2,hF2⟩;have hG2:=hG.on hF2 (by intro x hx;simp at hx;omega);clear hG hF2 hB1 hat1 hF1;go_wp2;go_roundw;case rel=>exact⟨i+1,by simp,by omega,by show Bad _ _ _;rw[show 1+(i+1)=1+i+1 by omega];exact HN.out.2.2,by rw[show 1+(i+1)=1+i+1 by omega];exact hB2,hG2⟩
  case measure=>simp[RowKit.intOf];omega
 have hc0:c=0:=by
  have e1:=HE.out;rw[List.drop_eq_nil_of_le (by rw[<-HL.out];omega)]at e1
  exact e1
 subst hc0;clear HC HE;go_wp2;go_ret;exact⟨rfl,hFr⟩
theorem zsr{P:Program}{t:TypeId}{z:Value}{n:Nat}(h:(P.info? t).map (fun i=>(i.zero,i.size))=some (some z,n)):∃i,P.info? t=some i/\i.zero=some z/\i.size=n:=by
 cases hi:P.info? t with
 |none=>rw[hi]at h;cases h
 |some i=>
  rw[hi]at h
  simp only[Option.map_some,Option.some.injEq,Prod.mk.injEq]at h;exact⟨i,rfl,h.1,h.2⟩
theorem zaia:(prog.info? 91).map (fun i=>(i.zero,i.size))=some (some (.agg #[.string ⟨#[]⟩,.string ⟨#[]⟩,.bool false]),3):=by kernel_rfl
theorem zaev:((prog.info? 91).map (fun i=>decide (i.bytes<=64)))=some true:=by kernel_rfl
theorem zvn:prog.underlying 87=some (.slice 91):=by kernel_rfl
structure Ww(w:World)(k:Nat)(ds:List Wt)(R:List Value):Prop where
 box:w.heap[k]? = some (.cells (wtsC ds++R).toArray 91 (0,0))
theorem zabd{w':World}{b C:Nat}{ys:List Value}(h:w'.ownsRow 0 91 3 (.slice (some ⟨b,0,none⟩) C C) C ys):∃R:List Value,R.length=C*3/\Ww w' b [] R:=by
 have hl:=h.1;rcases h.2 with⟨hh,_⟩|⟨g',cap',cur,hh,hb,hg,hnc,hcm,hcs,ht⟩
 .cases hh
 cases hh;exact⟨cur.toList,by simpa using hcs,⟨by simpa[wtsC]using hg⟩⟩
structure B2(w:World)(b:Nat)(u v:Value):Prop where
 box:w.heap[b]? = some (.cells #[u,v] 108 (0,0))
theorem B2.lt{w:World}{b:Nat}{u v:Value}(h:B2 w b u v):b<w.heap.size:=lt_of_block h.box
theorem B2.c0{w:World}{b:Nat}{u v:Value}(h:B2 w b u v):w.cell? ⟨b,0,none⟩=some u:=by simp[World.cell?,h.box]
theorem B2.c1{w:World}{b:Nat}{u v:Value}(h:B2 w b u v):w.cell? ⟨b,1,none⟩=some v:=by simp[World.cell?,h.box]
theorem B2.f0{w:World}{b:Nat}{u v:Value}(h:B2 w b u v):w.frozen? ⟨b,0,none⟩=false:=by simp[World.frozen?,h.box]
theorem B2.f1{w:World}{b:Nat}{u v:Value}(h:B2 w b u v):w.frozen? ⟨b,1,none⟩=false:=by simp[World.frozen?,h.box]
theorem B2.keep{w w':World}{b:Nat}{u v:Value}(h:B2 w b u v)(hf:Fr [] w w'):B2 w' b u v:=⟨hf.keep h.box (by simp)⟩
theorem B2.keepS{S:List Nat}{w w':World}{b:Nat}{u v:Value}(h:B2 w b u v)(hf:Fr S w w')(hn:b∉S):B2 w' b u v:=⟨hf.keep h.box hn⟩
theorem _root_.Go.Proofs.YtojjdnjfaelnfaaGreatDoor.Fr.box2(w1:World)(b:Nat)(u v:Value):Fr [b] w1 ((w1.setCell ⟨b,0,none⟩ u).setCell ⟨b,1,none⟩ v):=(Fr.set w1 ⟨b,0,none⟩ u (by simp)).then (Fr.set _ ⟨b,1,none⟩ v (by simp))
theorem zakg:(prog.info? 108).map (fun i=>(i.zero,i.size,i.bytes))=some (some (.agg #[.int .i64 0,.slice none 0 0]),2,32):=by kernel_rfl
theorem zakh:prog.underlying 24=some (.slice 108):=by kernel_rfl
theorem zua{n:Int}{ws:List Wt}(h:okT n ws):ws.length<=140737488355328/\∀x∈ws,x.key.size<=140737488355328/\x.val.size<=140737488355328:=by
 refine⟨by have:=h.2.2.1;omega,fun x hx=> ?_⟩;obtain⟨_,a,b,_⟩:=h.2.2.2 x hx;exact⟨by omega,by omega⟩
theorem _root_.Go.Proofs.YtojjdnjfaelnfaaGreatDoor.WRs.of_ok{w:World}{k:Nat}{n:Int}{ws:List Wt}(h:okT n ws)(hr:w.heap[k]? = some (.cells (wtsC ws).toArray 91 (0,0))):WRs w (some ⟨k,0,none⟩) ws:=
 WRs.of_row (rest:=[]) (t:=91) (f:=(0,0)) (by rw[List.append_nil];exact hr) (zua h).1 (zua h).2
theorem zmn{w:World}{b:Nat}{u v x y:Value}{t:TypeId}(h:w.heap[b]? = some (.cells #[u,v,x] t (0,0))):(w.setCell ⟨b,2,none⟩ y).heap[b]? = some (.cells #[u,v,y] t (0,0)):=by
 have hlt:=lt_of_block h;have h':w.heap[b]=.cells #[u,v,x] t (0,0):=by simpa[Array.getElem?_eq_getElem hlt]using h
 show (w.heap.modify b _)[b]? = _;rw[Array.getElem?_eq_getElem (by simpa using hlt),Array.getElem_modify_self,h'];rfl
def Tnew(w0 w:World)(t:Tm):Prop:=∃k,t.ao=some ⟨k,0,none⟩/\t.cap=t.L/\t.L=t.ws.length/\w0.heap.size<=k/\w.heap[k]? = some (.cells (wtsC t.ws).toArray 91 (0,0))/\okT t.n t.ws
theorem Tnew.at{w0 w:World}{t:Tm}(h:Tnew w0 w t):t.at w:=by
 obtain⟨k,e1,e2,e3,_,hr,hok⟩:=h;refine⟨by rw[e1];exact WRs.of_ok hok hr,e3,?_,?_⟩
 .have:=hok.1;omega
 have:=hok.2.1;omega
theorem Tnew.keepS{S:List Nat}{w0 w w':World}{t:Tm}(h:Tnew w0 w t)(hf:Fr S w w')(hS:∀k,w.heap[k]? = some (.cells (wtsC t.ws).toArray 91 (0,0))->k∉S):Tnew w0 w' t:=by
 obtain⟨k,e1,e2,e3,hk,hr,hok⟩:=h;exact⟨k,e1,e2,e3,hk,hf.keep hr (hS k hr),hok⟩
end F
section
open Go.ChangeShapes Go.WideShapes Go.ChangeAt Go.RowKit Go.Lib Go.Proofs.Tryz
theorem zhw{α:Type}:∀(a b:List α),a.Nodup->(∀x∈a,x∈b)->a.length<=b.length
 | [],b,_,_=>Nat.zero_le _
 |x::r,b,h,hs=>by
  obtain⟨h1,h2⟩:=List.nodup_cons.1 h;obtain⟨p,q,rfl⟩:=List.append_of_mem (hs x List.mem_cons_self);have ih:=zhw r (p++q) h2 (fun y hy=>by
   have:=hs y (List.mem_cons_of_mem _ hy);simp only[List.mem_append,List.mem_cons]at this ⊢;rcases this with h3|rfl|h3
   .exact .inl h3
   .exact absurd hy h1
   exact .inr h3)
  simp only[List.length_append,List.length_cons]at ih ⊢;omega
open Classical in
noncomputable def fl22 (ws:List Wt):Nat->List ByteArray
 |0=>[]
 |i+1=>if kAt ws i∈fl22 ws i then fl22 ws i else fl22 ws i++[kAt ws i]
theorem zqv{ws:List Wt}{i:Nat}(h:kAt ws i∈fl22 ws i):fl22 ws (i+1)=fl22 ws i:=by simp only[fl22,if_pos h]
theorem zuc{ws:List Wt}{i:Nat}(h:kAt ws i∉fl22 ws i):fl22 ws (i+1)=fl22 ws i++[kAt ws i]:=by simp only[fl22,if_neg h]
theorem zhx(ws:List Wt):∀i k,k∈fl22 ws i↔ ∃j,j<i/\kAt ws j=k
 |0,k=>by simp[fl22]
 |i+1,k=>by
  have ih:=zhx ws i k;by_cases h:kAt ws i∈fl22 ws i
  .rw[zqv h,ih];constructor
   .rintro⟨j,h1,h2⟩;exact⟨j,by omega,h2⟩
   rintro⟨j,h1,h2⟩;by_cases e:j=i
   .subst e;rw[h2]at h;exact (zhx ws j k).1 h
   exact⟨j,by omega,h2⟩
  rw[zuc h,List.mem_append,ih,List.mem_singleton];constructor
  .rintro (⟨j,h1,h2⟩|rfl)
   .exact⟨j,by omega,h2⟩
   exact⟨i,by omega,rfl⟩
  rintro⟨j,h1,h2⟩;by_cases e:j=i
  .subst e;exact .inr h2.symm
  exact .inl ⟨j,by omega,h2⟩
theorem zlo(ws:List Wt):∀i,(fl22 ws i).Nodup
 |0=>List.nodup_nil
 |i+1=>by
  have ih:=zlo ws i;by_cases h:kAt ws i∈fl22 ws i
  .rw[zqv h];exact ih
  rw[zuc h,List.nodup_append];refine⟨ih,by simp,fun x hx y hy=> ?_⟩;simp only[List.mem_singleton]at hy;subst hy;exact fun e=>h (e▸hx)
theorem zjt(ws:List Wt):∀i k,k∈(ddTo ws i).map (·.key)↔ ∃j,j<i/\Kept ws j/\kAt ws j=k
 |0,k=>by simp[ddTo]
 |i+1,k=>by
  have ih:=zjt ws i k;by_cases h:Kept ws i
  .rw[zfe h,List.map_append,List.mem_append,ih];simp only[List.map_cons,List.map_nil,List.mem_singleton];constructor
   .rintro (⟨j,h1,h2⟩|rfl)
    .exact⟨j,by omega,h2⟩
    exact⟨i,by omega,h,rfl⟩
   rintro⟨j,h1,h2,h3⟩;by_cases e:j=i
   .subst e;exact .inr h3.symm
   exact .inl ⟨j,by omega,h2,h3⟩
  rw[zgq h,ih];constructor
  .rintro⟨j,h1,h2⟩;exact⟨j,by omega,h2⟩
  rintro⟨j,h1,h2,h3⟩;by_cases e:j=i
  .subst e;exact absurd h2 h
  exact⟨j,by omega,h2,h3⟩
theorem zix(ws:List Wt):∀i,i<=ws.length->((ddTo ws i).map (·.key)).Nodup
 |0,_=>List.nodup_nil
 |i+1,hi=>by
  have ih:=zix ws i (by omega);by_cases h:Kept ws i
  .rw[zfe h,List.map_append,List.nodup_append];refine⟨ih,by simp,fun x hx y hy=> ?_⟩;simp only[List.map_cons,List.map_nil,List.mem_singleton]at hy;obtain⟨j,h1,h2,h3⟩:=(zjt ws i x).1 hx;intro e;exact h2 i h1 (by omega) (by rw[h3,e,hy];rfl)
  rw[zgq h];exact ih
theorem znt(ws:List Wt):∀d j,j<ws.length->ws.length-j<=d->∃m,m<ws.length/\Kept ws m/\kAt ws m=kAt ws j
 |0,j,h,hd=>by omega
 |d+1,j,h,hd=>by
  by_cases hk:Kept ws j
  .exact⟨j,h,hk,rfl⟩
  have:∃m,j<m/\m<ws.length/\kAt ws m=kAt ws j:=by
   apply Classical.byContradiction;intro hn;exact hk (fun m h1 h2 h3=>hn ⟨m,h1,h2,h3⟩)
  obtain⟨m,h1,h2,h3⟩:=this;obtain⟨p,q1,q2,q3⟩:=znt ws d m h2 (by omega);exact⟨p,q1,q2,q3.trans h3⟩
theorem zafd(ws:List Wt):(fl22 ws ws.length).length=(dd ws).length:=by
 have e:(dd ws).length=((ddTo ws ws.length).map (·.key)).length:=by simp[dd]
 rw[e];apply Nat.le_antisymm
 .refine zhw _ _ (zlo ws _) fun k hk=> ?_;obtain⟨j,h1,h2⟩:=(zhx ws _ k).1 hk;obtain⟨m,q1,q2,q3⟩:=znt ws _ j h1 (Nat.le_refl _);exact (zjt ws _ k).2 ⟨m,q1,q2,q3.trans h2⟩
 refine zhw _ _ (zix ws _ (Nat.le_refl _)) fun k hk=> ?_;obtain⟨j,h1,h2,h3⟩:=(zjt ws _ k).1 hk;exact (zhx ws _ k).2 ⟨j,h1,h3⟩
theorem zsx(ts:List Tm)(i:Nat)(h:i<ts.length):ts.drop i=ts.getD i Tm.zero::ts.drop (i+1):=by
 rw[List.drop_eq_getElem_cons h];simp[List.getD,h]
theorem zdv(ao:Option Addr)(L cap c:Nat)(ts:List Tm)(w:World)(hT:TRs w ao ts)(hL:L=ts.length)(hc:Bad 1 (txs ts) c) :
  Calls prog 106 #[.slice ao L cap] w fun e w'=>e=.returned (.int .i64 (c:Int))/\Fr [] w w':=by
 have HC:Hid (Bad 1 (txs ts) c):=hc;have HL:Hid (L=ts.length):=hL;have hLm:L<=140737488355328:=by have:=hT.few;omega
 clear hc hL;go_enter func106,ntmps106;go_wp2_with fail
 go_loopw [8] (fun ii wr=>∃(i:Nat),ii=.int .i64 i/\i<=L/\Hid (Bad (1+i) (txs (ts.drop i)) c)/\Fr [] w wr) (fun ii _=>L-(RowKit.intOf ii).toNat)
 case atStart=>exact⟨0,rfl,Nat.zero_le _,HC.out,Fr.refl _ _⟩
 obtain⟨i,rfl,hiL,HE,hFr⟩:=hrel;by_cases hi:i<L
 .have hi':i<ts.length:=by rw[<-HL.out];exact hi
  obtain⟨bb,off,rfl,hbl,hc⟩:=(hT.keep hFr).lies (by omega);have hx:=hc i hi';have hat:=(hT.keep hFr).each _ (zbw ts i hi');obtain⟨x,hxx⟩:∃x,x=ts.getD i Tm.zero:=⟨_,rfl⟩;rw[<-hxx]at hx hat
  have HX:Hid (x=ts.getD i Tm.zero):=hxx;clear hxx hc;obtain⟨n,xo,M,cm,ws⟩:=x;obtain⟨c0,c1⟩:=hx;simp only at c0 c1;have e1:=HE.out;rw[zsx ts i hi',<-HX.out]at e1
  have hn0:=hat.n0;have hn1:=hat.n1;simp only at hn0 hn1;have hF1:Fr [] wr (wr.alloc (.cells #[.int .i64 n,.slice xo M cm] 108)):=Fr.alloc _ _ _;have hbx:(wr.alloc (.cells #[.int .i64 n,.slice xo M cm] 108)).heap[wr.heap.size]? = some (.cells #[.int .i64 n,.slice xo M cm] 108 (0,0)):=heap_alloc_new wr _;have hG:=hFr.then hF1;obtain⟨w1,HW1⟩:∃w1,Hid (wr.alloc (.cells #[.int .i64 n,.slice xo M cm] 108)=w1):=⟨_,rfl⟩;rw[HW1.out]at hF1 hbx hG
  have hat1:TArg w1 n xo M cm ws:=TArg.keep hat hF1;have HCe:Hid (∀W,Fr [] w1 W->W.cell? ⟨wr.heap.size,0,none⟩=some (.int .i64 n)):=fun W hf=>by
   have hb:=hf.keep hbx (by simp);rw[crw hb];rfl
  clear hat hF1 hbx;clear HE HC;rcases e1 with⟨h1,rfl⟩|⟨h1,h2,rfl⟩|⟨h1,h2,h3⟩
  .have HN:Hid (¬okT n ws):=h1;clear h1;go_wp2_with fail
   rw[HW1.out];refine (zck n xo M cm 1 ws _ hat1.rs hat1.len hn0 hn1 (Or.inr ⟨HN.out,rfl⟩)).mono ?_;rintro e w2⟨rfl,hF2⟩;have hG2:=hG.then hF2;clear hG hF2 hat1;go_wp2;go_ret;exact⟨rfl,hG2⟩
  .have HN:Hid (okT n ws):=h1;have hne:(n != (i:Int)+1)=true:=by rw[bne_iff_ne];have h2':n≠((1+i:Nat):Int):=h2;omega
   clear h1 h2;go_wp2_with fail
   rw[HW1.out];refine (zck n xo M cm 0 ws _ hat1.rs hat1.len hn0 hn1 (Or.inl ⟨HN.out,rfl⟩)).mono ?_;rintro e w2⟨rfl,hF2⟩;have hG2:=hG.then hF2;have k0:=HCe.out _ hF2;clear hG hF2 hat1 c0 c1;go_wp2;go_ret;exact⟨rfl,hG2⟩
  have HN:Hid (okT n ws/\Bad (1+i+1) (txs (ts.drop (i+1))) c):=⟨h1,h3⟩;have hne:(n != (i:Int)+1)=false:=by rw[bne_eq_false_iff_eq];have h2':n=((1+i:Nat):Int):=h2;omega
  clear h1 h2 h3;go_wp2_with fail
  rw[HW1.out];refine (zck n xo M cm 0 ws _ hat1.rs hat1.len hn0 hn1 (Or.inl ⟨HN.out.1,rfl⟩)).mono ?_;rintro e w2⟨rfl,hF2⟩;have hG2:=hG.then hF2;have k0:=HCe.out _ hF2;clear hG hF2 hat1 c0 c1;go_wp2;go_roundw;case rel=>exact⟨i+1,by simp,by omega,by show Bad _ _ _;rw[show 1+(i+1)=1+i+1 by omega];exact HN.out.2,hG2⟩
  case measure=>simp[RowKit.intOf];omega
 have hc0:c=0:=by
  have e1:=HE.out;rw[List.drop_eq_nil_of_le (by rw[<-HL.out];omega)]at e1
  exact e1
 subst hc0;clear HC HE;go_wp2;go_ret;exact⟨rfl,hFr⟩
section
variable{H:Type}{enc:TypeId×Value->H}
theorem zmh:prog.underlying 24=some (.slice 108):=by kernel_rfl
theorem zahk{w:World}{fuel:Nat}{v:Value}{d:DataW H}{ps:List MemPlace}(h:DataW.trod enc prog w 0 (fun _=>true) true fuel 24 [v]=some (d,ps))(hsz:∀n∈d.weights prog 24,n<=reachBytes) :
  ∃ao L cap ts,v=.slice ao L cap/\TRs w ao ts/\L=ts.length/\L<=cap:=by
 rcases Go.Deep.open_slice zmh h with⟨hcs,_⟩|⟨a,len,cap,m,n,D,Pl,hcs,hb,hl,hm,hmm,hx,hE⟩
 .simp only[List.cons.injEq,and_true]at hcs;exact⟨none,0,0,[],hcs,TRs.nil _ _,rfl,Nat.le_refl _⟩
 simp only[List.cons.injEq,and_true]at hcs;simp only[if_true]at hmm;subst hmm;rw[zxk]at hE hx
 have hd:d=.slice ((List.range len).map D) ((List.range (m-len)).map fun j=>D (len+j)):=by have:=congrArg Prod.fst hx;simpa using this
 have hr:=reachBytes_lt;have hW:∀i,i<len->∀q∈(D i).weights prog 108,q<=reachBytes:=by
  intro i hi q hq;apply hsz;rw[hd];simp only[DataW.weights,zmh];refine List.mem_cons_of_mem _ (List.mem_append_left _ ?_);exact zdz (List.mem_map.2 ⟨i,by simpa using hi,rfl⟩) _ hq
 have hO:∀i,i<len->∃t:Tm,(w.cells? 0 (a.add (i*2)) 2=some [.int .i64 t.n,.slice t.ao t.L t.cap])/\t.at w:=by
  intro i hi;obtain⟨cs',h1,h2⟩:=hE i (by omega);obtain⟨n,ao,L,cap,ws,rfl,hT⟩:=zaei h2 (hW i hi);exact⟨⟨n,ao,L,cap,ws⟩,h1,hT⟩
 haveI:Inhabited Tm:=⟨Tm.zero⟩;obtain⟨F,hF⟩:=Go.Deep.choose_lt hO;have hlen:len<=140737488355328:=by
  have hw:len*prog.bytesOf 108<=reachBytes:=by
   refine Nat.le_trans (Nat.mul_le_mul_right _ hl) (hsz _ ?_);rw[hd];simp only[DataW.weights,zmh,List.length_map,List.length_range];rw[show len+(m-len)=m by omega];exact List.mem_cons_self
  have hb40:1<=prog.bytesOf 108:=by
   rw[show prog.bytesOf 108=32 from by kernel_rfl];decide
  have:=Nat.le_mul_of_pos_right len hb40;omega
 refine⟨some a,len,m,(List.range len).map F,hcs,⟨fun h0=> ?_,by simpa using hlen,?_⟩,by simp,hl⟩
 .simp only[List.length_map,List.length_range]at h0 ⊢;have hc0:=(World.cells?_some (hF 0 (by omega)).1).2.2;obtain⟨b,off,spot⟩:=a;have hspot:spot=none:=by
   have:=hc0 0 (by omega);simp at this;simpa[Addr.add]using World.cell?_spot this
  subst hspot;have hcell:∀i,i<len->∀j,j<2->w.cell? ⟨b,off+i*2+j,none⟩=[Value.int .i64 (F i).n,.slice (F i).ao (F i).L (F i).cap][j]? :=by
   intro i hi j hj;have:=(World.cells?_some (hF i (by omega)).1).2.2 j hj;rw[show ((⟨b,off,none⟩:Addr).add (i*2)).add j=⟨b,off+i*2+j,none⟩ from by rw[Addr.add_lit,Addr.add_lit]]at this
   exact this
  refine⟨b,off,rfl,World.block_lt_of_cell? w ⟨b,off+0*2+0,none⟩ (by rw[hcell 0 (by omega) 0 (by omega)];rfl),fun i hi=> ?_⟩;have e:((List.range len).map F).getD i Tm.zero=F i:=by simp[List.getD,hi]
  rw[e];exact⟨hcell i hi 0 (by omega),hcell i hi 1 (by omega)⟩
 intro t ht;obtain⟨i,hi,rfl⟩:=List.mem_map.1 ht;exact (hF i (by simpa using hi)).2
end
end
end Go.Proofs.YtojjdnjfaelnfaaGreatDoor
