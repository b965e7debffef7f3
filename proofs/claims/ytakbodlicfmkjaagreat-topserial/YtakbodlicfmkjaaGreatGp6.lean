/- Contracts and lemmas. -/
import Derived.Test.YtakbodlicfmkjaaGreatGp3
import Derived.Deep.Slices
import Derived.SizedLaws
import Derived.Deep.RegionHeld3
set_option maxHeartbeats 8000000
set_option maxRecDepth 100000
namespace Go.Proofs.YtakbodlicfmkjaaGreat
set_option linter.unusedSimpArgs false
set_option linter.unusedVariables false
section
open Go.ChangeShapes Go.WideShapes Go.ChangeAt Go.RowKit Go.Lib
def Wt.zero:Wt:=⟨noS,noS,false⟩
def wtC(x:Wt):List Value:=[.string x.key,.string x.val,.bool x.drop]
def wtsC:List Wt->List Value
 | []=>[]
 |x::r=>wtC x++wtsC r
theorem zqw(a b:List Wt):wtsC (a++b)=wtsC a++wtsC b:=by
 induction a with
 |nil=>rfl
 |cons v r ih=>simp[wtsC,ih]
theorem zeo(a:List Wt):(wtsC a).length=a.length*3:=by
 induction a with
 |nil=>rfl
 |cons v r ih=>simp only[wtsC,wtC,List.length_append,List.length_cons,List.length_nil,ih];omega
theorem zkq(a:List Wt)(j c:Nat)(hj:j<a.length)(hc:c<3):(wtsC a)[j*3+c]? = (wtC (a.getD j Wt.zero))[c]? :=by
 induction a generalizing j with
 |nil=>simp at hj
 |cons v r ih=>
  cases j with
  |zero=>
   simp only[wtsC,Nat.zero_mul,Nat.zero_add];rw[List.getElem?_append_left (by simp[wtC];omega)];simp
  |succ j=>
   simp only[wtsC];rw[List.getElem?_append_right (by simp[wtC];omega)];have e:(j+1)*3+c-(wtC v).length=j*3+c:=by simp[wtC];omega
   rw[e,ih j (by simpa using hj)];simp
theorem zit(a:List Wt):∀u∈wtsC a,u.oneCell'=true:=by
 induction a with
 |nil=>intro u hu;simp[wtsC]at hu
 |cons v r ih=>
  intro u hu;rcases List.mem_append.1 hu with h|h
  .simp only[wtC,List.mem_cons,List.not_mem_nil,or_false]at h;rcases h with rfl|rfl|rfl<;>rfl
  exact ih u h
structure WAt(w:World)(b o:Nat)(x:Wt):Prop where
 c0:w.cell? ⟨b,o,none⟩=some (.string x.key)
 c1:w.cell? ⟨b,o+1,none⟩=some (.string x.val)
 c2:w.cell? ⟨b,o+2,none⟩=some (.bool x.drop)
structure WRs(w:World)(ao:Option Addr)(ws:List Wt):Prop where
 lies:0<ws.length->∃b off,ao=some ⟨b,off,none⟩/\b<w.heap.size/\∀i,i<ws.length->WAt w b (off+i*3) (ws.getD i Wt.zero)
 few:ws.length<=140737488355328
 each:∀x∈ws,x.key.size<=140737488355328/\x.val.size<=140737488355328
theorem WRs.nil(w:World)(ao:Option Addr):WRs w ao []:=⟨fun h=>by simp at h,by simp,by simp⟩
theorem WRs.keepS{S:List Nat}{w w':World}{ao:Option Addr}{ws:List Wt}(h:WRs w ao ws)(hf:Fr S w w')(hn:0<ws.length->∀a,ao=some a->a.block∉S):WRs w' ao ws:=by
 refine⟨fun h0=> ?_,h.few,h.each⟩;obtain⟨b,off,e,hb,hc⟩:=h.lies h0;have hk:∀o,w'.cell? ⟨b,o,none⟩=w.cell? ⟨b,o,none⟩:=fun o=>World.cell?_of_block (hf.block b hb (hn h0 _ e));exact⟨b,off,e,Nat.lt_of_lt_of_le hb hf.size,fun i hi=>⟨(hk _).trans (hc i hi).c0,(hk _).trans (hc i hi).c1,(hk _).trans (hc i hi).c2⟩⟩
theorem WRs.keep{w w':World}{ao:Option Addr}{ws:List Wt}(h:WRs w ao ws)(hf:Fr [] w w'):WRs w' ao ws:=h.keepS hf (by simp)
theorem WRs.of_row{w:World}{b:Nat}{ws:List Wt}{rest:List Value}{t:TypeId}{f:Nat×Nat}(h:w.heap[b]? = some (.cells (wtsC ws++rest).toArray t f))(hl:ws.length<=140737488355328)(he:∀x∈ws,x.key.size<=140737488355328/\x.val.size<=140737488355328):WRs w (some ⟨b,0,none⟩) ws:=by
 refine⟨fun _=>⟨b,0,rfl,lt_of_block h,fun i hi=> ?_⟩,hl,he⟩;have key:∀c,c<3->w.cell? ⟨b,0+i*3+c,none⟩=(wtC (ws.getD i Wt.zero))[c]? :=by
  intro c hc;rw[crw h,Nat.zero_add,<-zkq ws i c hi hc];have hlt:i*3+c<(wtsC ws).length:=by rw[zeo];omega
  simp[List.getElem?_append_left hlt]
 exact⟨key 0 (by omega),key 1 (by omega),key 2 (by omega)⟩
theorem zdn(ws:List Wt)(i:Nat)(h:i<ws.length):ws.getD i Wt.zero∈ws:=by simp[List.getD,h]
theorem zhm(ws:List Wt)(i:Nat)(h:i<ws.length):ws.take (i+1)=ws.take i++[ws.getD i Wt.zero]:=by
 rw[List.take_add_one];simp[List.getD,h]
theorem zbm(s:ByteArray):s.toList=[]↔s.size=0:=by
 rw[ByteArray.toList_eq];constructor
 .intro h;have h2:=congrArg List.length h;simpa[Array.length_toList]using h2
 intro h;have h2:s.data.toList.length=0:=by rw[Array.length_toList];exact h
 exact List.eq_nil_of_length_eq_zero h2
theorem zabm(key val:ByteArray)(drop:Bool):okW ⟨key,val,drop⟩↔(¬key.toList=[])/\(key.size:Int)<=64/\(val.size:Int)<=1024/\(drop=true->val.toList=[]):=by
 unfold okW;rw[zbm,zbm,<-zgy];simp only;constructor
 .rintro⟨h1,h2,h3,h4⟩;exact⟨by omega,by omega,by omega,h4⟩
 rintro⟨h1,h2,h3,h4⟩;exact⟨by omega,by omega,by omega,h4⟩
def zaep(e:Ending)(x:Wt):Prop:=∃B:Bool,e=.returned (.bool B)/\(B=true↔ ¬okW x)
theorem zsq(i L cap b off g:Nat)(x:Wt)(w:World)(hi:i<L)(hL:L<=140737488355328)(hx:WAt w b (off+i*3) x)(hk:x.key.size<=140737488355328)(hv:x.val.size<=140737488355328)(hg:w.cell? ⟨g,1,none⟩=some (.slice (some ⟨b,off,none⟩) L cap)) :
  Calls Tryz.prog 125 #[.int .i64 (i:Int),.pointer (some ⟨g,0,none⟩)] w fun e w'=>zaep e x/\Fr [] w w':=by
 obtain⟨key,val,drop⟩:=x;obtain⟨c0,c1,c2⟩:=hx;simp only at c0 c1 c2 hk hv;have HO:Hid (okW ⟨key,val,drop⟩↔_):=zabm key val drop;go_enter Tryz.func125,Tryz.ntmps125;go_wp2;all_goals (
  go_ret;refine⟨⟨_,rfl,?_⟩,Fr.alloc _ _ _⟩;have HO':=HO.out;clear HO;simp_all)
 all_goals (intros;exfalso;omega)
theorem zaeq{n:Int}{ws:List Wt}{i:Nat}(hi:i<ws.length)(h:¬okW (ws.getD i Wt.zero)):¬okT n ws:=fun hh=>h (hh.2.2.2 _ (zdn ws i hi))
theorem zcd(n:Int)(ao:Option Addr)(L cap c:Nat)(ws:List Wt)(w:World)(hW:WRs w ao ws)(hL:L=ws.length)(hn0: -9223372036854775808<=n)(hn1:n<=9223372036854775807)(hc:(okT n ws/\c=0)\/(¬okT n ws/\c=1)) :
  Calls Tryz.prog 87 #[.agg #[.int .i64 n,.slice ao L cap]] w fun e w'=>e=.returned (.int .i64 (c:Int))/\Fr [] w w':=by
 have HC:Hid (_\/_):=hc;have HL:Hid (L=ws.length):=hL;have hLm:L<=140737488355328:=by have:=hW.few;omega
 clear hc hL;by_cases h1:n<1
 .have hc1:c=1:=by
   rcases HC.out with⟨h,_⟩|⟨_,h⟩;· exact absurd h.1 (by omega)
   exact h
  subst hc1;clear HC;go_enter Tryz.func87,Tryz.ntmps87;go_wp2;go_ret;exact⟨rfl,Fr.alloc _ _ _⟩
 by_cases h2:65536<n
 .have hc1:c=1:=by
   rcases HC.out with⟨h,_⟩|⟨_,h⟩;· exact absurd h.2.1 (by omega)
   exact h
  subst hc1;clear HC;have h1':1<=n:=by omega
  clear h1;go_enter Tryz.func87,Tryz.ntmps87;go_wp2;go_ret;exact⟨rfl,Fr.alloc _ _ _⟩
 have h1':1<=n:=by omega
 have h2':n<=65536:=by omega
 clear h1 h2;by_cases h3:32<L
 .have hc1:c=1:=by
   rcases HC.out with⟨h,_⟩|⟨_,h⟩;· exact absurd h.2.2.1 (by rw[<-HL.out];omega)
   exact h
  subst hc1;clear HC;have h3':(32:Int)<L:=by omega
  go_enter Tryz.func87,Tryz.ntmps87;go_wp2;go_ret;exact⟨rfl,Fr.alloc _ _ _⟩
 have h3':(L:Int)<=32:=by omega
 clear h3;have c1:(w.alloc (.cells #[.int .i64 n,.slice ao L cap] 59)).cell? ⟨w.heap.size,1,none⟩=some (.slice ao L cap):=crw (heap_alloc_new w _);have hd1:decide (n<1)=false:=by simp;omega
 have hd2:decide (65536<n)=false:=by simp;omega
 have hd3:decide ((32:Int)<L)=false:=by simp;omega
 have hF0:Fr [] w (w.alloc (.cells #[.int .i64 n,.slice ao L cap] 59)):=Fr.alloc _ _ _;have hW1:=hW.keep hF0;go_enter Tryz.func87,Tryz.ntmps87;go_wp2_with fail
 obtain⟨w1,HW1⟩:∃w1,Hid (w.alloc (.cells #[.int .i64 n,.slice ao L cap] 59)=w1):=⟨_,rfl⟩;rw[HW1.out]at c1 hF0 hW1 ⊢
 have hlt:w.heap.size<w1.heap.size:=by rw[<-HW1.out];simp
 go_loopw [23] (fun ii wr=>∃(i:Nat),ii=.int .i64 i/\i<=L/\Hid (∀j,j<i->okW (ws.getD j Wt.zero))/\Fr [] w1 wr) (fun ii _=>L-(RowKit.intOf ii).toNat)
 case atStart=>exact⟨0,rfl,Nat.zero_le _,fun j hj=>by omega,Fr.refl _ _⟩
 obtain⟨i,rfl,hiL,HE,hFr⟩:=hrel;have c1r:wr.cell? ⟨w.heap.size,1,none⟩=some (.slice ao L cap):=(World.cell?_of_block (hFr.block _ hlt (by simp))).trans c1;by_cases hi:i<L
 .have hi':i<ws.length:=by rw[<-HL.out];exact hi
  obtain⟨b,off,rfl,_,hc⟩:=(hW1.keep hFr).lies (by omega);have hx:=hc i hi';have hm:=hW.each _ (zdn ws i hi');obtain⟨x,hxx⟩:∃x,x=ws.getD i Wt.zero:=⟨_,rfl⟩;rw[<-hxx]at hx hm
  have HX:Hid (x=ws.getD i Wt.zero):=hxx;clear hxx hc;go_wp2_with fail
  refine (zsq i L cap b off w.heap.size x _ hi hLm hx hm.1 hm.2 c1r).mono ?_;rintro e w2⟨⟨B,rfl,hB⟩,hF2⟩;cases B with
  |true=>
   have hno:¬okW x:=hB.1 rfl;have hc1:c=1:=by
    rcases HC.out with⟨h,_⟩|⟨_,h⟩;· exact absurd h (zaeq hi' (HX.out▸hno))
    exact h
   subst hc1;clear HC hB hno;go_wp2;go_ret;exact⟨rfl,hF0.then (hFr.then hF2)⟩
  |false=>
   have HE2:Hid (∀j,j<i+1->okW (ws.getD j Wt.zero)):=by
    intro j hj;by_cases hji:j=i
    .subst hji;rw[<-HX.out];exact Classical.byContradiction fun h=>absurd (hB.2 h) (by simp)
    exact HE.out j (by omega)
   clear hB;go_wp2;go_roundw;case rel=>exact⟨i+1,by simp,by omega,HE2,hFr.then hF2⟩
   case measure=>simp[RowKit.intOf];omega
 have hc0:c=0:=by
  rcases HC.out with⟨_,h⟩|⟨h,_⟩
  .exact h
  refine absurd ⟨h1',h2',by rw[<-HL.out];omega,?_⟩ h;intro x hx;obtain⟨j,hj,rfl⟩:=List.getElem_of_mem hx;have:=HE.out j (by have:=HL.out;omega);simpa[List.getD,hj]using this
 subst hc0;clear HC;go_wp2;go_ret;exact⟨rfl,hF0.then hFr⟩
section
variable{H:Type}{enc:TypeId×Value->H}
theorem zed{P:Program}{e:TypeId}:∀{ds:List (DataW H)}{d:DataW H},d∈ds->∀n∈d.weights P e,n∈DataW.weightsAll P e ds
 |x::r,d,hd,n,hn=>by
  simp only[DataW.weightsAll,List.mem_append];rcases List.mem_cons.1 hd with rfl|hd
  .exact Or.inl hn
  exact Or.inr (zed hd n hn)
theorem Tryz.undWs':Tryz.prog.underlying 57=some (.slice 56):=by kernel_rfl
theorem Tryz.cellsWt:Tryz.prog.cellsOf 56=3:=by kernel_rfl
theorem Tryz.wtFields:(match Tryz.prog.underlying 56 with|some (.struct fs)=>fs.toList.map (fun f=>(f.type,f.offset))|_=>[])=[(9,0),(9,1),(4,2)]:=by kernel_rfl
theorem Tryz.cellsT:Tryz.prog.cellsOf 59=2:=by kernel_rfl
theorem Tryz.tFields:(match Tryz.prog.underlying 59 with|some (.struct fs)=>fs.toList.map (fun f=>(f.type,f.offset))|_=>[])=[(3,0),(57,1)]:=by kernel_rfl
theorem Tryz.undI:Tryz.prog.underlying 3=some (.int .i64):=by kernel_rfl
theorem Tryz.undBl:Tryz.prog.underlying 4=some .bool:=by kernel_rfl
theorem Tryz.cBl:Tryz.prog.cellsOf 4=1:=by kernel_rfl
theorem Tryz.cI:Tryz.prog.cellsOf 3=1:=by kernel_rfl
theorem Tryz.cS:Tryz.prog.cellsOf 9=1:=by kernel_rfl
theorem Tryz.cWs:Tryz.prog.cellsOf 57=1:=by kernel_rfl
theorem zabr{w:World}{base:Nat}{spare:Nat->Bool}{held:Bool}{fuel:Nat}{cs:List Value}{x:DataW H×List MemPlace}(h:DataW.trod enc Tryz.prog w base spare held fuel 56 cs=some x) :
  ∃v:Wt,cs=[.string v.key,.string v.val,.bool v.drop]/\v.key.size∈x.1.weights Tryz.prog 56/\v.val.size∈x.1.weights Tryz.prog 56:=by
 have hF:=Tryz.wtFields;cases hu:Tryz.prog.underlying 56 with
 |none=>rw[hu]at hF;simp at hF
 |some u=>
  rw[hu]at hF
  cases u with
  |struct fs=>
   simp only at hF;obtain⟨ys,n,_,hx,hlen,hys,hf⟩:=DataW.trod_struct hu h;rw[Tryz.cellsWt]at hlen
   match cs,hlen with
   | [v0,v1,v2],_=>
    have hl3:fs.toList.length=3:=by have:=congrArg List.length hF;simpa using this
    obtain⟨l,hl⟩:∃l,l=fs.toList:=⟨_,rfl⟩;rw[<-hl]at hF hl3
    match l,hl3 with
    | [f0,f1,f2],_=>
     simp only[List.map_cons,List.map_nil,List.cons.injEq,Prod.mk.injEq,and_true]at hF;obtain⟨⟨t0,o0⟩,⟨t1,o1⟩,⟨t2,o2⟩⟩:=hF;have g:∀(i:Nat)(f:Field),[f0,f1,f2][i]? = some f->fs[i]? = some f:=by
      intro i f hi;rw[hl]at hi
      simpa using hi
     have r0:=hf 0 f0 (g 0 f0 rfl);have r1:=hf 1 f1 (g 1 f1 rfl);have r2:=hf 2 f2 (g 2 f2 rfl);rw[t0,o0,Tryz.cS]at r0
     rw[t1,o1,Tryz.cS]at r1
     rw[t2,o2,Tryz.cBl]at r2
     simp only[List.drop_zero,List.drop_succ_cons,List.take_succ_cons,List.take_zero]at r0 r1 r2;have hy3:ys.length=3:=by rw[hys];have:=congrArg List.length hl;simpa using this.symm
     match ys,hy3 with
     | [y0,y1,y2],_=>
      simp only[List.getElem?_cons_zero,List.getElem?_cons_succ]at r0 r1 r2;obtain⟨s0,e0,x0,_⟩:=DataW.trod_string Tryz.undStr r0;obtain⟨s1,e1,x1,_⟩:=DataW.trod_string Tryz.undStr r1;obtain⟨b2,e2,_⟩:=DataW.trod_bool Tryz.undBl r2;simp only[List.cons.injEq,and_true]at e0 e1 e2;have hty:fs.toList.map (·.type)=[9,9,4]:=by rw[<-hl];simp[t0,t1,t2]
      refine⟨⟨s0,s1,b2⟩,by rw[e0,e1,e2],?_,?_⟩
      .rw[hx];simp only[DataW.weights,hu];rw[hty];refine DataW.weights_mem_each (j:=0) (t:=9) (d:=y0.1) rfl rfl _ ?_;rw[x0];simp only[DataW.weights,List.mem_singleton];show s0.data.size=_;simp
      .rw[hx];simp only[DataW.weights,hu];rw[hty];refine DataW.weights_mem_each (j:=1) (t:=9) (d:=y1.1) rfl rfl _ ?_;rw[x1];simp only[DataW.weights,List.mem_singleton];show s1.data.size=_;simp
  |_=>simp at hF
theorem zabs{w:World}{fuel:Nat}{v:Value}{d:DataW H}{ps:List MemPlace}(h:DataW.trod enc Tryz.prog w 0 (fun _=>true) true fuel 57 [v]=some (d,ps))(hsz:∀n∈d.weights Tryz.prog 57,n<=reachBytes) :
  ∃ao L cap ws,v=.slice ao L cap/\WRs w ao ws/\L=ws.length:=by
 rcases Go.Deep.open_slice Tryz.undWs' h with⟨hcs,_⟩|⟨a,len,cap,m,n,D,Pl,hcs,hb,hl,hm,hmm,hx,hE⟩
 .simp only[List.cons.injEq,and_true]at hcs;exact⟨none,0,0,[],hcs,WRs.nil _ _,rfl⟩
 simp only[List.cons.injEq,and_true]at hcs;simp only[if_true]at hmm;subst hmm;rw[Tryz.cellsWt]at hE hx
 have hO:∀i,i<m->∃o:Wt,(w.cells? 0 (a.add (i*3)) 3=some [.string o.key,.string o.val,.bool o.drop])/\o.key.size∈(D i).weights Tryz.prog 56/\o.val.size∈(D i).weights Tryz.prog 56:=by
  intro i hi;obtain⟨cs',h1,h2⟩:=hE i hi;obtain⟨o,rfl,rest⟩:=zabr h2;exact⟨o,h1,rest⟩
 haveI:Inhabited Wt:=⟨Wt.zero⟩;obtain⟨F,hF⟩:=Go.Deep.choose_lt hO;have hd:d=.slice ((List.range len).map D) ((List.range (m-len)).map fun j=>D (len+j)):=by have:=congrArg Prod.fst hx;simpa using this
 have hr:=reachBytes_lt;have hlen:len<=140737488355328:=by
  have hw:len*Tryz.prog.bytesOf 56<=reachBytes:=by
   refine Nat.le_trans (Nat.mul_le_mul_right _ hl) (hsz _ ?_);rw[hd];simp only[DataW.weights,Tryz.undWs',List.length_map,List.length_range];rw[show len+(m-len)=m by omega];exact List.mem_cons_self
  have hb40:1<=Tryz.prog.bytesOf 56:=by
   rw[show Tryz.prog.bytesOf 56=40 from by kernel_rfl];decide
  have:=Nat.le_mul_of_pos_right len hb40;omega
 refine⟨some a,len,m,(List.range len).map F,hcs,⟨fun h0=> ?_,by simpa using hlen,?_⟩,by simp⟩
 .simp only[List.length_map,List.length_range]at h0 ⊢;have hc0:=(World.cells?_some (hF 0 (by omega)).1).2.2;obtain⟨b,off,spot⟩:=a;have hspot:spot=none:=by
   have:=hc0 0 (by omega);simp at this;simpa[Addr.add]using World.cell?_spot this
  subst hspot;have hcell:∀i,i<len->∀j,j<3->w.cell? ⟨b,off+i*3+j,none⟩=[Value.string (F i).key,.string (F i).val,.bool (F i).drop][j]? :=by
   intro i hi j hj;have:=(World.cells?_some (hF i (by omega)).1).2.2 j hj;rw[show ((⟨b,off,none⟩:Addr).add (i*3)).add j=⟨b,off+i*3+j,none⟩ from by rw[Addr.add_lit,Addr.add_lit]]at this
   exact this
  refine⟨b,off,rfl,World.block_lt_of_cell? w ⟨b,off+0*3+0,none⟩ (by rw[hcell 0 (by omega) 0 (by omega)];rfl),fun i hi=> ?_⟩;have e:((List.range len).map F).getD i Wt.zero=F i:=by simp[List.getD,hi]
  rw[e];exact⟨hcell i hi 0 (by omega),hcell i hi 1 (by omega),hcell i hi 2 (by omega)⟩
 intro o ho;obtain⟨i,hi,rfl⟩:=List.mem_map.1 ho;have hi':i<len:=by simpa using hi
 have key:∀q∈(D i).weights Tryz.prog 56,q<=140737488355328:=by
  intro q hq;have:q<=reachBytes:=by
   apply hsz;rw[hd];simp only[DataW.weights,Tryz.undWs'];refine List.mem_cons_of_mem _ (List.mem_append_left _ ?_);exact zed (List.mem_map.2 ⟨i,by simpa using hi',rfl⟩) _ hq
  omega
 exact⟨key _ (hF i (by omega)).2.1,key _ (hF i (by omega)).2.2⟩
structure TArg(w:World)(n:Int)(ao:Option Addr)(L cap:Nat)(ws:List Wt):Prop where
 rs:WRs w ao ws
 len:L=ws.length
 n0: -9223372036854775808<=n
 n1:n<=9223372036854775807
theorem TArg.keep{w w':World}{n:Int}{ao:Option Addr}{L cap:Nat}{ws:List Wt}(h:TArg w n ao L cap ws)(hf:Fr [] w w'):TArg w' n ao L cap ws:={h with rs:=h.rs.keep hf}
theorem zabt{w:World}{fuel:Nat}{cs:List Value}{x:DataW H×List MemPlace}(h:DataW.trod enc Tryz.prog w 0 (fun _=>true) true fuel 59 cs=some x)(hsz:∀n∈x.1.weights Tryz.prog 59,n<=reachBytes) :
  ∃n ao L cap ws,cs=[.int .i64 n,.slice ao L cap]/\TArg w n ao L cap ws:=by
 have hF:=Tryz.tFields;cases hu:Tryz.prog.underlying 59 with
 |none=>rw[hu]at hF;simp at hF
 |some u=>
  rw[hu]at hF
  cases u with
  |struct fs=>
   simp only at hF;obtain⟨ys,n,_,hx,hlen,hys,hf⟩:=DataW.trod_struct hu h;rw[Tryz.cellsT]at hlen
   match cs,hlen with
   | [v0,v1],_=>
    have hl2:fs.toList.length=2:=by have:=congrArg List.length hF;simpa using this
    obtain⟨l,hl⟩:∃l,l=fs.toList:=⟨_,rfl⟩;rw[<-hl]at hF hl2
    match l,hl2 with
    | [f0,f1],_=>
     simp only[List.map_cons,List.map_nil,List.cons.injEq,Prod.mk.injEq,and_true]at hF;obtain⟨⟨t0,o0⟩,⟨t1,o1⟩⟩:=hF;have g:∀(i:Nat)(f:Field),[f0,f1][i]? = some f->fs[i]? = some f:=by
      intro i f hi;rw[hl]at hi
      simpa using hi
     have r0:=hf 0 f0 (g 0 f0 rfl);have r1:=hf 1 f1 (g 1 f1 rfl);rw[t0,o0,Tryz.cI]at r0
     rw[t1,o1,Tryz.cWs]at r1
     simp only[List.drop_zero,List.drop_succ_cons,List.take_succ_cons,List.take_zero]at r0 r1;have hy2:ys.length=2:=by rw[hys];have:=congrArg List.length hl;simpa using this.symm
     match ys,hy2 with
     | [y0,y1],_=>
      simp only[List.getElem?_cons_zero,List.getElem?_cons_succ]at r0 r1;obtain⟨k,e0,_,w0⟩:=DataW.trod_int Tryz.undI r0;have hty:fs.toList.map (·.type)=[3,57]:=by rw[<-hl];simp[t0,t1]
      obtain⟨ao,L,cap,ws,e1,hW,hL⟩:=zabs (d:=y1.1) (ps:=y1.2) r1 (by
       intro q hq;apply hsz;rw[hx];simp only[DataW.weights,hu];rw[hty];exact DataW.weights_mem_each (j:=1) (t:=57) (d:=y1.1) rfl rfl _ hq)
      simp only[List.cons.injEq,and_true]at e0;have b0:=bounds_i64 w0;exact⟨k,ao,L,cap,ws,by rw[e0,e1],hW,hL,b0.1,b0.2⟩
  |_=>simp at hF
end
structure Tm where
 n:Int
 ao:Option Addr
 L:Nat
 cap:Nat
 ws:List Wt
def Tm.zero:Tm:=⟨0,none,0,0,[]⟩
def Tm.tx(t:Tm):Tx:=⟨t.n,t.ws⟩
def txs(ts:List Tm):List Tx:=ts.map Tm.tx
theorem zau(ts:List Tm):(txs ts).length=ts.length:=by simp[txs]
theorem zhq(ts:List Tm)(i:Nat):(txs ts).getD i Tx.zero=(ts.getD i Tm.zero).tx:=by
 by_cases h:i<ts.length
 .simp[txs,List.getD,h]
 simp[txs,List.getD,h,Tm.zero,Tm.tx,Tx.zero]
theorem zkr(ts:List Tm)(i:Nat):(txs ts).take i=txs (ts.take i):=by simp[txs,List.map_take]
theorem zhr(a b:List Tm):txs (a++b)=txs a++txs b:=by simp[txs]
def Tm.at(t:Tm)(w:World):Prop:=TArg w t.n t.ao t.L t.cap t.ws
theorem Tm.at.keep{t:Tm}{w w':World}(h:t.at w)(hf:Fr [] w w'):t.at w':=TArg.keep h hf
structure TAt(w:World)(b o:Nat)(t:Tm):Prop where
 c0:w.cell? ⟨b,o,none⟩=some (.int .i64 t.n)
 c1:w.cell? ⟨b,o+1,none⟩=some (.slice t.ao t.L t.cap)
structure TRs(w:World)(ao:Option Addr)(ts:List Tm):Prop where
 lies:0<ts.length->∃b off,ao=some ⟨b,off,none⟩/\b<w.heap.size/\∀i,i<ts.length->TAt w b (off+i*2) (ts.getD i Tm.zero)
 few:ts.length<=140737488355328
 each:∀t∈ts,t.at w
theorem TRs.nil(w:World)(ao:Option Addr):TRs w ao []:=⟨fun h=>by simp at h,by simp,by simp⟩
theorem TRs.keep{w w':World}{ao:Option Addr}{ts:List Tm}(h:TRs w ao ts)(hf:Fr [] w w'):TRs w' ao ts:=by
 refine⟨fun h0=> ?_,h.few,fun t ht=>(h.each t ht).keep hf⟩;obtain⟨b,off,e,hb,hc⟩:=h.lies h0;have hk:∀o,w'.cell? ⟨b,o,none⟩=w.cell? ⟨b,o,none⟩:=fun o=>World.cell?_of_block (hf.block b hb (by simp));exact⟨b,off,e,Nat.lt_of_lt_of_le hb hf.size,fun i hi=>⟨(hk _).trans (hc i hi).c0,(hk _).trans (hc i hi).c1⟩⟩
theorem zcp(ts:List Tm)(i:Nat)(h:i<ts.length):ts.getD i Tm.zero∈ts:=by simp[List.getD,h]
theorem zlc(ts:List Tm)(i:Nat)(h:i<ts.length):ts.take (i+1)=ts.take i++[ts.getD i Tm.zero]:=by
 rw[List.take_add_one];simp[List.getD,h]
def tmC(t:Tm):List Value:=[.int .i64 t.n,.slice t.ao t.L t.cap]
def tmsC:List Tm->List Value
 | []=>[]
 |t::r=>tmC t++tmsC r
theorem zqz(a b:List Tm):tmsC (a++b)=tmsC a++tmsC b:=by
 induction a with
 |nil=>rfl
 |cons v r ih=>simp[tmsC,ih]
theorem zep(a:List Tm):(tmsC a).length=a.length*2:=by
 induction a with
 |nil=>rfl
 |cons v r ih=>simp only[tmsC,tmC,List.length_append,List.length_cons,List.length_nil,ih];omega
theorem zyq(a:List Tm)(j c:Nat)(hj:j<a.length)(hc:c<2):(tmsC a)[j*2+c]? = (tmC (a.getD j Tm.zero))[c]? :=by
 induction a generalizing j with
 |nil=>simp at hj
 |cons v r ih=>
  cases j with
  |zero=>
   simp only[tmsC,Nat.zero_mul,Nat.zero_add];rw[List.getElem?_append_left (by simp[tmC];omega)];simp
  |succ j=>
   simp only[tmsC];rw[List.getElem?_append_right (by simp[tmC];omega)];have e:(j+1)*2+c-(tmC v).length=j*2+c:=by simp[tmC];omega
   rw[e,ih j (by simpa using hj)];simp
theorem TRs.of_row{w:World}{b:Nat}{ts:List Tm}{rest:List Value}{t:TypeId}{f:Nat×Nat}(h:w.heap[b]? = some (.cells (tmsC ts++rest).toArray t f))(hl:ts.length<=140737488355328)(he:∀t∈ts,t.at w):TRs w (some ⟨b,0,none⟩) ts:=by
 refine⟨fun _=>⟨b,0,rfl,lt_of_block h,fun i hi=> ?_⟩,hl,he⟩;have key:∀c,c<2->w.cell? ⟨b,0+i*2+c,none⟩=(tmC (ts.getD i Tm.zero))[c]? :=by
  intro c hc;rw[crw h,Nat.zero_add,<-zyq ts i c hi hc];have hlt:i*2+c<(tmsC ts).length:=by rw[zep];omega
  simp[List.getElem?_append_left hlt]
 exact⟨key 0 (by omega),key 1 (by omega)⟩
def kAt(ws:List Wt)(i:Nat):ByteArray:=(ws.getD i Wt.zero).key
def Kept(ws:List Wt)(i:Nat):Prop:=∀m,i<m->m<ws.length->kAt ws m≠kAt ws i
open Classical in
noncomputable def ddTo (ws:List Wt):Nat->List Wt
 |0=>[]
 |i+1=>if Kept ws i then ddTo ws i++[ws.getD i Wt.zero] else ddTo ws i
noncomputable def dd (ws:List Wt):List Wt:=ddTo ws ws.length
theorem zdj{ws:List Wt}{i:Nat}(h:Kept ws i):ddTo ws (i+1)=ddTo ws i++[ws.getD i Wt.zero]:=by
 simp only[ddTo,if_pos h]
theorem zfm{ws:List Wt}{i:Nat}(h:¬Kept ws i):ddTo ws (i+1)=ddTo ws i:=by
 simp only[ddTo,if_neg h]
theorem zoh(ws:List Wt):∀i,(ddTo ws i).length<=i
 |0=>Nat.le_refl _
 |i+1=>by
  have ih:=zoh ws i;by_cases h:Kept ws i
  .rw[zdj h,List.length_append];simp;omega
  rw[zfm h];omega
theorem zvb(ws:List Wt):(dd ws).length<=ws.length:=zoh ws _
theorem zks(ws:List Wt):∀i,i<=ws.length->∀x∈ddTo ws i,x∈ws
 |0,_,x,hx=>by cases hx
 |i+1,hi,x,hx=>by
  by_cases h:Kept ws i
  .rw[zdj h,List.mem_append]at hx
   rcases hx with hx|hx
   .exact zks ws i (by omega) x hx
   simp only[List.mem_singleton]at hx;rw[hx];exact zdn ws i (by omega)
  rw[zfm h]at hx
  exact zks ws i (by omega) x hx
theorem zld(ws:List Wt):∀x∈dd ws,x∈ws:=zks ws _ (Nat.le_refl _)
open Classical in
noncomputable def zba (ws:List Wt):Nat->ByteArray->Option Int
 |0=>fun _=>none
 |i+1=>fun k=>if k=kAt ws i then some (i:Int) else zba ws i k
theorem zmt(ws:List Wt):∀i k j,zba ws i k=some j->∃m:Nat,j=m/\m<i/\kAt ws m=k/\∀p,m<p->p<i->kAt ws p≠k
 |0,k,j,h=>by cases h
 |i+1,k,j,h=>by
  by_cases e:k=kAt ws i
  .have h':some (i:Int)=some j:=by rw[<-h];simp only[zba,if_pos e]
   cases h';exact⟨i,rfl,by omega,e.symm,fun p h1 h2=>by omega⟩
  have h':zba ws i k=some j:=by rw[<-h];simp only[zba,if_neg e]
  obtain⟨m,h1,h2,h3,h4⟩:=zmt ws i k j h';refine⟨m,h1,by omega,h3,fun p hp hq=> ?_⟩;by_cases hpi:p=i
  .rw[hpi];exact fun e2=>e e2.symm
  exact h4 p hp (by omega)
theorem zke(ws:List Wt):∀i m,m<i->zba ws i (kAt ws m)≠none
 |0,m,h=>by omega
 |i+1,m,h=>by
  by_cases e:kAt ws m=kAt ws i
  .simp only[zba,if_pos e];simp
  simp only[zba,if_neg e];have:m≠i:=fun h'=>e (by rw[h']);exact zke ws i m (by omega)
theorem zra(ws:List Wt)(i:Nat)(hi:i<ws.length):((zba ws ws.length (kAt ws i)).getD 0=(i:Int))↔Kept ws i:=by
 cases h:zba ws ws.length (kAt ws i) with
 |none=>exact absurd h (zke ws _ i hi)
 |some j=>
  obtain⟨m,h1,h2,h3,h4⟩:=zmt ws _ _ _ h;show j=(i:Int)↔_;rw[h1];constructor
  .intro e p hp hq;have:m=i:=by omega
   exact h4 p (by omega) hq
  intro hk;have h5:¬(i<m):=fun h5=>hk m h5 h2 h3;have h6:¬(m<i):=fun h6=>h4 i h6 hi rfl;omega
end
namespace F
open Go.ChangeShapes Go.WideShapes Go.ChangeAt Go.RowKit Go.Lib
theorem row_setCell{w:World}{b j:Nat}{cs:Array Value}{t:TypeId}(x:Value)(h:w.heap[b]? = some (.cells cs t (0,0))):(w.setCell ⟨b,j,none⟩ x).heap[b]? = some (.cells (cs.setIfInBounds j x) t (0,0)):=by
 have hlt:=lt_of_block h;have h':w.heap[b]=.cells cs t (0,0):=by simpa[Array.getElem?_eq_getElem hlt]using h
 show (w.heap.modify b _)[b]? = _;rw[Array.getElem?_eq_getElem (by simpa using hlt),Array.getElem_modify_self,h'];rfl
structure Bv(w:World)(b:Nat)(t:TypeId)(v:Value):Prop where
 box:w.heap[b]? = some (.cells #[v] t (0,0))
theorem Bv.c{w:World}{b:Nat}{t:TypeId}{v:Value}(h:Bv w b t v):w.cell? ⟨b,0,none⟩=some v:=by simp[World.cell?,h.box]
theorem Bv.f{w:World}{b:Nat}{t:TypeId}{v:Value}(h:Bv w b t v):w.frozen? ⟨b,0,none⟩=false:=by simp[World.frozen?,h.box]
theorem Bv.keep{S:List Nat}{w w':World}{b:Nat}{t:TypeId}{v:Value}(h:Bv w b t v)(hf:Fr S w w')(hn:b∉S):Bv w' b t v:=⟨hf.keep h.box hn⟩
theorem Bv.set{w:World}{b:Nat}{t:TypeId}{v:Value}(h:Bv w b t v)(u:Value):Bv (w.setCell ⟨b,0,none⟩ u) b t u:=by
 have:=row_setCell (j:=0) u h.box;exact⟨by simpa using this⟩
theorem Bv.new(w:World)(t:TypeId)(v:Value):Bv (w.alloc (.cells #[v] t)) w.heap.size t v:=⟨heap_alloc_new w _⟩
theorem ztf(w:World):Calls Tryz.prog 51 #[] w fun e w'=>e=.returned (.func (Fn.func 86) #[] #[.pointer (some ⟨w.heap.size,0,none⟩)])/\w'=w.alloc (.cells #[.int .i64 1] 3):=by
 go_enter Tryz.func51,Tryz.ntmps51;go_wp2;go_ret;exact⟨rfl,rfl⟩
theorem zow(b k c:Nat)(n:Int)(ao:Option Addr)(L cap:Nat)(ws:List Wt)(w:World)(hb:Bv w b 3 (.int .i64 (k:Int)))(ht:TArg w n ao L cap ws)(hk:k<=140737488355329)(hc:(¬okT n ws/\c=1)\/(okT n ws/\n≠(k:Int)/\c=6)) :
  Calls Tryz.prog 86 #[.agg #[.int .i64 n,.slice ao L cap],.pointer (some ⟨b,0,none⟩)] w fun e w'=>e=.returned (.int .i64 (c:Int))/\Fr [] w w':=by
 have HL:Hid (L=ws.length):=ht.len;have hn0:=ht.n0;have hn1:=ht.n1;have hF0:Fr [] w (w.alloc (.cells #[.int .i64 n,.slice ao L cap] 59)):=Fr.alloc _ _ _;have hW0:=ht.rs.keep hF0;have hb0:=hb.keep hF0 (by simp);have c0:(w.alloc (.cells #[.int .i64 n,.slice ao L cap] 59)).cell? ⟨w.heap.size,0,none⟩=some (.int .i64 n):=crw (heap_alloc_new w _);have hsz:w.heap.size<(w.alloc (.cells #[.int .i64 n,.slice ao L cap] 59)).heap.size:=by simp
 obtain⟨w0,HW0⟩:∃w0,Hid (w.alloc (.cells #[.int .i64 n,.slice ao L cap] 59)=w0):=⟨_,rfl⟩;rw[HW0.out]at hF0 hW0 hb0 c0 hsz
 clear hb;rcases hc with⟨hno,rfl⟩|⟨hok,hne,rfl⟩
 .have HN:Hid (¬okT n ws):=hno;clear hno;go_enter Tryz.func86,Tryz.ntmps86;go_wp2_with fail
  rw[HW0.out];refine (zcd n ao L cap 1 ws _ hW0 HL.out hn0 hn1 (Or.inr ⟨HN.out,rfl⟩)).mono ?_;rintro e w1⟨rfl,hF1⟩;have hF:=hF0.then hF1;clear hF0 hF1 hW0;go_wp2;go_ret;exact⟨rfl,hF⟩
 have HK:Hid (okT n ws):=hok;have hnb:(n != (k:Int))=true:=by rw[bne_iff_ne];exact hne
 clear hok;go_enter Tryz.func86,Tryz.ntmps86;go_wp2_with fail
 rw[HW0.out];refine (zcd n ao L cap 0 ws _ hW0 HL.out hn0 hn1 (Or.inl ⟨HK.out,rfl⟩)).mono ?_;rintro e w1⟨rfl,hF1⟩;have hF:=hF0.then hF1;have d0:w1.cell? ⟨w.heap.size,0,none⟩=some (.int .i64 n):=(World.cell?_of_block (hF1.block _ hsz (by simp))).trans c0;have d1:=(hb0.keep hF1 (by simp)).c;clear hF0 hF1 hW0 hne;go_wp2;go_ret;exact⟨rfl,hF⟩
theorem zza(b k:Nat)(n:Int)(ao:Option Addr)(L cap:Nat)(ws:List Wt)(w:World)(hb:Bv w b 3 (.int .i64 (k:Int)))(ht:TArg w n ao L cap ws)(hk:k<=140737488355329)(hok:okT n ws)(hn:n=(k:Int)) :
  Calls Tryz.prog 86 #[.agg #[.int .i64 n,.slice ao L cap],.pointer (some ⟨b,0,none⟩)] w fun e w'=>e=.returned (.int .i64 0)/\Bv w' b 3 (.int .i64 ((k+1:Nat):Int))/\Fr [b] w w':=by
 subst hn;have HL:Hid (L=ws.length):=ht.len;have hn0:=ht.n0;have hn1:=ht.n1;have HK:Hid (okT (k:Int) ws):=hok;clear hok;have hF0:Fr [] w (w.alloc (.cells #[.int .i64 (k:Int),.slice ao L cap] 59)):=Fr.alloc _ _ _;have hW0:=ht.rs.keep hF0;have hb0:=hb.keep hF0 (by simp);have c0:(w.alloc (.cells #[.int .i64 (k:Int),.slice ao L cap] 59)).cell? ⟨w.heap.size,0,none⟩=some (.int .i64 (k:Int)):=crw (heap_alloc_new w _);have hsz:w.heap.size<(w.alloc (.cells #[.int .i64 (k:Int),.slice ao L cap] 59)).heap.size:=by simp
 obtain⟨w0,HW0⟩:∃w0,Hid (w.alloc (.cells #[.int .i64 (k:Int),.slice ao L cap] 59)=w0):=⟨_,rfl⟩;rw[HW0.out]at hF0 hW0 hb0 c0 hsz
 clear hb;have hnb:((k:Int) != (k:Int))=false:=by simp
 go_enter Tryz.func86,Tryz.ntmps86;go_wp2_with fail
 rw[HW0.out];refine (zcd (k:Int) ao L cap 0 ws _ hW0 HL.out hn0 hn1 (Or.inl ⟨HK.out,rfl⟩)).mono ?_;rintro e w1⟨rfl,hF1⟩;have hF:=hF0.then hF1;have d0:w1.cell? ⟨w.heap.size,0,none⟩=some (.int .i64 (k:Int)):=(World.cell?_of_block (hF1.block _ hsz (by simp))).trans c0;have hb1:=hb0.keep hF1 (by simp);have d1:=hb1.c;have d2:=hb1.f;have hR:Bv (w1.setCell ⟨b,0,none⟩ (.int .i64 ((k:Int)+1))) b 3 (.int .i64 ((k+1:Nat):Int)):=by
  have:=hb1.set (.int .i64 ((k:Int)+1));simpa using this
 have HR:Hid (_/\Fr [b] w (w1.setCell ⟨b,0,none⟩ (.int .i64 ((k:Int)+1)))):=⟨hR,(hF.mono (by simp)).then (Fr.set _ _ _ (by simp))⟩;clear hF0 hF1 hW0 hb0 hR hb1 hF;go_wp2;go_ret;exact⟨rfl,HR.out⟩
theorem ztg(ts:List Tm)(i:Nat)(h:i<ts.length):ts.drop i=ts.getD i Tm.zero::ts.drop (i+1):=by
 rw[List.drop_eq_getElem_cons h];simp[List.getD,h]
theorem zlk(ao:Option Addr)(L cap c:Nat)(ts:List Tm)(w:World)(hT:TRs w ao ts)(hL:L=ts.length)(hc:Bad 1 (txs ts) c) :
  Calls Tryz.prog 26 #[.slice ao L cap] w fun e w'=>e=.returned (.int .i64 (c:Int))/\Fr [] w w':=by
 have HC:Hid (Bad 1 (txs ts) c):=hc;have HL:Hid (L=ts.length):=hL;have hLm:L<=140737488355328:=by have:=hT.few;omega
 clear hc hL;have hF0:Fr [] w (w.alloc (.cells #[.int .i64 1] 3)):=Fr.alloc _ _ _;have hB0:Bv (w.alloc (.cells #[.int .i64 1] 3)) w.heap.size 3 (.int .i64 ((1:Nat):Int)):=Bv.new w _ _;go_enter Tryz.func26,Tryz.ntmps26;go_wp2_with fail
 refine (ztf _).mono ?_;rintro e w0⟨rfl,HW0⟩;rw[<-HW0]at hF0 hB0
 obtain⟨b,hb⟩:∃b,b=w.heap.size:=⟨_,rfl⟩;rw[<-hb]at hB0 ⊢
 have hbw:w.heap.size<=b:=by omega
 clear hb HW0;go_wp2_with fail
 go_loopw [10] (fun ii wr=>∃(i:Nat),ii=.int .i64 i/\i<=L/\Hid (Bad (1+i) (txs (ts.drop i)) c)/\Bv wr b 3 (.int .i64 ((1+i:Nat):Int))/\Fr [] w wr) (fun ii _=>L-(RowKit.intOf ii).toNat)
 case atStart=>exact⟨0,rfl,Nat.zero_le _,HC.out,hB0,hF0⟩
 obtain⟨i,rfl,hiL,HE,hBi,hFr⟩:=hrel;by_cases hi:i<L
 .have hi':i<ts.length:=by rw[<-HL.out];exact hi
  obtain⟨bb,off,rfl,_,hc⟩:=(hT.keep hFr).lies (by omega);have hx:=hc i hi';have hat:=(hT.keep hFr).each _ (zcp ts i hi');obtain⟨x,hxx⟩:∃x,x=ts.getD i Tm.zero:=⟨_,rfl⟩;rw[<-hxx]at hx hat
  have HX:Hid (x=ts.getD i Tm.zero):=hxx;clear hxx hc;obtain⟨n,ao,M,cm,ws⟩:=x;obtain⟨c0,c1⟩:=hx;simp only at c0 c1;have e1:=HE.out;rw[ztg ts i hi',<-HX.out]at e1
  have hF1:Fr [] wr (wr.alloc (.cells #[.int .i64 n,.slice ao M cm] 59)):=Fr.alloc _ _ _;have hB1:=hBi.keep hF1 (by simp);have hat1:TArg (wr.alloc (.cells #[.int .i64 n,.slice ao M cm] 59)) n ao M cm ws:=TArg.keep hat hF1;have hG:=hFr.then hF1;clear HE HC;rcases e1 with⟨h1,rfl⟩|⟨h1,h2,rfl⟩|⟨h1,h2,h3⟩
  .have HN:Hid (¬okT n ws):=h1;clear h1;go_wp2_with fail
   refine (zow b (1+i) 1 n ao M cm ws _ hB1 hat1 (by omega) (Or.inl ⟨HN.out,rfl⟩)).mono ?_;rintro e w2⟨rfl,hF2⟩;have hG2:=hG.then hF2;clear hG hF2 hB1 hat1 hF1;go_wp2;go_ret;exact⟨rfl,hG2⟩
  .have HN:Hid (okT n ws/\n≠((1+i:Nat):Int)):=⟨h1,h2⟩;clear h1 h2;go_wp2_with fail
   refine (zow b (1+i) 6 n ao M cm ws _ hB1 hat1 (by omega) (Or.inr ⟨HN.out.1,HN.out.2,rfl⟩)).mono ?_;rintro e w2⟨rfl,hF2⟩;have hG2:=hG.then hF2;clear hG hF2 hB1 hat1 hF1;go_wp2;go_ret;exact⟨rfl,hG2⟩
  have HN:Hid (okT n ws/\n=((1+i:Nat):Int)/\Bad (1+i+1) (txs (ts.drop (i+1))) c):=⟨h1,h2,h3⟩;clear h1 h2 h3;go_wp2_with fail
  refine (zza b (1+i) n ao M cm ws _ hB1 hat1 (by omega) HN.out.1 HN.out.2.1).mono ?_;rintro e w2⟨rfl,hB2,hF2⟩;have hG2:=hG.on hF2 (by intro x hx;simp at hx;omega);clear hG hF2 hB1 hat1 hF1;go_wp2;go_roundw;case rel=>exact⟨i+1,by simp,by omega,by show Bad _ _ _;rw[show 1+(i+1)=1+i+1 by omega];exact HN.out.2.2,by rw[show 1+(i+1)=1+i+1 by omega];exact hB2,hG2⟩
  case measure=>simp[RowKit.intOf];omega
 have hc0:c=0:=by
  have e1:=HE.out;rw[List.drop_eq_nil_of_le (by rw[<-HL.out];omega)]at e1
  exact e1
 subst hc0;clear HC HE;go_wp2;go_ret;exact⟨rfl,hFr⟩
theorem zri{P:Program}{t:TypeId}{z:Value}{n:Nat}(h:(P.info? t).map (fun i=>(i.zero,i.size))=some (some z,n)):∃i,P.info? t=some i/\i.zero=some z/\i.size=n:=by
 cases hi:P.info? t with
 |none=>rw[hi]at h;cases h
 |some i=>
  rw[hi]at h
  simp only[Option.map_some,Option.some.injEq,Prod.mk.injEq]at h;exact⟨i,rfl,h.1,h.2⟩
theorem Tryz.infoWt:(Tryz.prog.info? 56).map (fun i=>(i.zero,i.size))=some (some (.agg #[.string ⟨#[]⟩,.string ⟨#[]⟩,.bool false]),3):=by kernel_rfl
theorem Tryz.bytesWt:((Tryz.prog.info? 56).map (fun i=>decide (i.bytes<=64)))=some true:=by kernel_rfl
theorem Tryz.undWs:Tryz.prog.underlying 57=some (.slice 56):=by kernel_rfl
structure Ww(w:World)(k:Nat)(ds:List Wt)(R:List Value):Prop where
 box:w.heap[k]? = some (.cells (wtsC ds++R).toArray 56 (0,0))
theorem zzb{w':World}{b C:Nat}{ys:List Value}(h:w'.ownsRow 0 56 3 (.slice (some ⟨b,0,none⟩) C C) C ys):∃R:List Value,R.length=C*3/\Ww w' b [] R:=by
 have hl:=h.1;rcases h.2 with⟨hh,_⟩|⟨g',cap',cur,hh,hb,hg,hnc,hcm,hcs,ht⟩
 .cases hh
 cases hh;exact⟨cur.toList,by simpa using hcs,⟨by simpa[wtsC]using hg⟩⟩
structure B2(w:World)(b:Nat)(u v:Value):Prop where
 box:w.heap[b]? = some (.cells #[u,v] 59 (0,0))
theorem B2.lt{w:World}{b:Nat}{u v:Value}(h:B2 w b u v):b<w.heap.size:=lt_of_block h.box
theorem B2.c0{w:World}{b:Nat}{u v:Value}(h:B2 w b u v):w.cell? ⟨b,0,none⟩=some u:=by simp[World.cell?,h.box]
theorem B2.c1{w:World}{b:Nat}{u v:Value}(h:B2 w b u v):w.cell? ⟨b,1,none⟩=some v:=by simp[World.cell?,h.box]
theorem B2.f0{w:World}{b:Nat}{u v:Value}(h:B2 w b u v):w.frozen? ⟨b,0,none⟩=false:=by simp[World.frozen?,h.box]
theorem B2.f1{w:World}{b:Nat}{u v:Value}(h:B2 w b u v):w.frozen? ⟨b,1,none⟩=false:=by simp[World.frozen?,h.box]
theorem B2.keep{w w':World}{b:Nat}{u v:Value}(h:B2 w b u v)(hf:Fr [] w w'):B2 w' b u v:=⟨hf.keep h.box (by simp)⟩
theorem B2.keepS{S:List Nat}{w w':World}{b:Nat}{u v:Value}(h:B2 w b u v)(hf:Fr S w w')(hn:b∉S):B2 w' b u v:=⟨hf.keep h.box hn⟩
theorem _root_.Go.Proofs.YtakbodlicfmkjaaGreat.Fr.box2(w1:World)(b:Nat)(u v:Value):Fr [b] w1 ((w1.setCell ⟨b,0,none⟩ u).setCell ⟨b,1,none⟩ v):=(Fr.set w1 ⟨b,0,none⟩ u (by simp)).then (Fr.set _ ⟨b,1,none⟩ v (by simp))
theorem Tryz.infoT:(Tryz.prog.info? 59).map (fun i=>(i.zero,i.size,i.bytes))=some (some (.agg #[.int .i64 0,.slice none 0 0]),2,32):=by kernel_rfl
theorem Tryz.undTs:Tryz.prog.underlying 24=some (.slice 59):=by kernel_rfl
theorem zrz{n:Int}{ws:List Wt}(h:okT n ws):ws.length<=140737488355328/\∀x∈ws,x.key.size<=140737488355328/\x.val.size<=140737488355328:=by
 refine⟨by have:=h.2.2.1;omega,fun x hx=> ?_⟩;obtain⟨_,a,b,_⟩:=h.2.2.2 x hx;exact⟨by omega,by omega⟩
theorem _root_.Go.Proofs.YtakbodlicfmkjaaGreat.WRs.of_ok{w:World}{k:Nat}{n:Int}{ws:List Wt}(h:okT n ws)(hr:w.heap[k]? = some (.cells (wtsC ws).toArray 56 (0,0))):WRs w (some ⟨k,0,none⟩) ws:=
 WRs.of_row (rest:=[]) (t:=56) (f:=(0,0)) (by rw[List.append_nil];exact hr) (zrz h).1 (zrz h).2
theorem zmg{w:World}{b:Nat}{u v x y:Value}{t:TypeId}(h:w.heap[b]? = some (.cells #[u,v,x] t (0,0))):(w.setCell ⟨b,2,none⟩ y).heap[b]? = some (.cells #[u,v,y] t (0,0)):=by
 have hlt:=lt_of_block h;have h':w.heap[b]=.cells #[u,v,x] t (0,0):=by simpa[Array.getElem?_eq_getElem hlt]using h
 show (w.heap.modify b _)[b]? = _;rw[Array.getElem?_eq_getElem (by simpa using hlt),Array.getElem_modify_self,h'];rfl
def Tnew(w0 w:World)(t:Tm):Prop:=∃k,t.ao=some ⟨k,0,none⟩/\t.cap=t.L/\t.L=t.ws.length/\w0.heap.size<=k/\w.heap[k]? = some (.cells (wtsC t.ws).toArray 56 (0,0))/\okT t.n t.ws
theorem Tnew.at{w0 w:World}{t:Tm}(h:Tnew w0 w t):t.at w:=by
 obtain⟨k,e1,e2,e3,_,hr,hok⟩:=h;refine⟨by rw[e1];exact WRs.of_ok hok hr,e3,?_,?_⟩
 .have:=hok.1;omega
 have:=hok.2.1;omega
theorem Tnew.keepS{S:List Nat}{w0 w w':World}{t:Tm}(h:Tnew w0 w t)(hf:Fr S w w')(hS:∀k,w.heap[k]? = some (.cells (wtsC t.ws).toArray 56 (0,0))->k∉S):Tnew w0 w' t:=by
 obtain⟨k,e1,e2,e3,hk,hr,hok⟩:=h;exact⟨k,e1,e2,e3,hk,hf.keep hr (hS k hr),hok⟩
theorem zox{P:Program}(w:World)(dT sT ty elem:TypeId)(size g L dCap:Nat)(a:Addr)(sCap:Nat)(cur:Array Value)(t:TypeId)(cs:List Value)(hu:P.underlying dT=some (.slice elem))(hs:(P.info? elem).map (·.size)=some size)(hg:w.heap[g]? = some (.cells cur t (0,0)))(hn:cs.length=L*size)(hsrc:∀j v,cs[j]? = some v->w.cell? (a.add j)=some v)(hfit:cs.length=cur.size)(h1:∀v∈cs,v.oneCell'=true) :
  (Builtin.copy_ #[dT,sT] ty #[.slice (some ⟨g,0,none⟩) L dCap,.slice (some a) L sCap]).run P w=.ok (goInt L) (w.setRow g cs.toArray):=by
 have hl:=run_loadCells_list (P:=P) w a cs hsrc;have hst:=run_storeCells_at P g 0 t cs 0 cur w hg (by omega) h1;have hm:Nat.min L L=L:=Nat.min_self L;have hd:cur.toList.drop cs.length=[]:=by rw[hfit];simp
 cases hq:P.info? elem with
 |none=>simp[hq]at hs
 |some i=>
  have hi:i.size=size:=by simpa[hq]using hs
  simp[Builtin.copy_,run_underlying hu,Builtin.lenOf,Builtin.firstCells,sizeOf,typeInfo,hq,hi,<-hn,hl,hst,hd]
theorem zcm{P:Program}(w:World)(dT sT ty elem:TypeId)(size:Nat)(d a:Option Addr)(dCap sCap:Nat)(hu:P.underlying dT=some (.slice elem))(hs:(P.info? elem).map (·.size)=some size) :
  (Builtin.copy_ #[dT,sT] ty #[.slice d 0 dCap,.slice a 0 sCap]).run P w=.ok (goInt 0) w:=by
 cases hq:P.info? elem with
 |none=>simp[hq]at hs
 |some i=>
  have hl:∀(x:Addr),(loadCells x 0).run P w=.ok #[] w:=fun x=>by simpa using run_loadCells_list (P:=P) w x [] (by simp)
  cases d<;>cases a<;>simp[Builtin.copy_,run_underlying hu,Builtin.lenOf,Builtin.firstCells,sizeOf,typeInfo,hq,storeCells,hl]
theorem Tryz.sizeWt:(Tryz.prog.info? 56).map (·.size)=some 3:=by kernel_rfl
theorem ziy{fn:Func}{p:Tmp}{t:TypeId}(h:fn.results= #[.cell p t])(tmps:Array Value)(P:Program)(w:World) :
  (results fn tmps).run P w=((asAddr (tmps.getD p undef)).run P w).andThen fun a w₁=>(loadVar t a).run P w₁:=by
 simp only[results,h];simp[Sem.run_bind,Result.andThen]
theorem _root_.Go.Proofs.YtakbodlicfmkjaaGreat.WRs.src{w:World}{b off:Nat}{ws:List Wt}(h:WRs w (some ⟨b,off,none⟩) ws)(h0:0<ws.length):∀j u,(wtsC ws)[j]? = some u->w.cell? ((⟨b,off,none⟩:Addr).add j)=some u:=by
 intro j u hj;obtain⟨b',off',e,_,hc⟩:=h.lies h0;cases e;have hlt:j<ws.length*3:=by have:=(List.getElem?_eq_some_iff.1 hj).1;rwa [zeo]at this
 have hi:j/3<ws.length:=by omega
 have hr:j%3<3:=Nat.mod_lt _ (by omega);have hjj:j/3*3+j%3=j:=by omega
 have h1:=zkq ws (j/3) (j%3) hi hr;rw[hjj,hj]at h1
 have hA:=hc (j/3) hi;rw[Addr.add_lit];have hcase:j%3=0\/j%3=1\/j%3=2:=by omega
 rcases hcase with h2|h2|h2
 .rw[h2]at h1
  have e1:off+j=off+j/3*3:=by omega
  rw[e1,hA.c0];simpa[wtC]using h1.symm
 .rw[h2]at h1
  have e1:off+j=off+j/3*3+1:=by omega
  rw[e1,hA.c1];simpa[wtC]using h1.symm
 rw[h2]at h1
 have e1:off+j=off+j/3*3+2:=by omega
 rw[e1,hA.c2];simpa[wtC]using h1.symm
theorem zll(n:Int)(ao:Option Addr)(L cap:Nat)(ws:List Wt)(w:World)(ht:TArg w n ao L cap ws)(hL:L<=32) :
  Calls Tryz.prog 27 #[.agg #[.int .i64 n,.slice ao L cap]] w fun e w'=>∃k,e=.returned (.agg #[.int .i64 n,.slice (some ⟨k,0,none⟩) L L])/\w.heap.size<=k/\w'.heap[k]? = some (.cells (wtsC ws).toArray 56 (0,0))/\Fr [] w w':=by
 have HL:Hid (L=ws.length):=ht.len;obtain⟨iW,hiW,hzW,hsW⟩:=zri Tryz.infoWt;have hbW:iW.bytes<=64:=by have:=Tryz.bytesWt;rw[hiW]at this;simpa using this
 obtain⟨w0,HW0⟩:∃w0,Hid ((w.alloc (.cells #[.int .i64 n,.slice ao L cap] 59)).alloc (.cells #[.int .i64 0,.slice none 0 0] 59)=w0):=⟨_,rfl⟩;have hF0:Fr [] w w0:=by rw[<-HW0.out];exact (Fr.alloc [] w _).then (Fr.alloc [] _ _)
 have hP0:B2 w0 w.heap.size (.int .i64 n) (.slice ao L cap):=⟨by rw[<-HW0.out];exact (Below.heap_alloc _ _ _ (by simp)).trans (heap_alloc_new w _)⟩;have hT0:B2 w0 (w.heap.size+1) (.int .i64 0) (.slice none 0 0):=⟨by rw[<-HW0.out];have:=heap_alloc_new (w.alloc (.cells #[.int .i64 n,.slice ao L cap] 59)) (.cells #[.int .i64 0,.slice none 0 0] 59);rw[World.size_alloc]at this;exact this⟩;have hs0:w.heap.size+2<=w0.heap.size:=by rw[<-HW0.out];simp
 obtain⟨p0,p1⟩:_/\_:=⟨hP0.c0,hP0.c1⟩;have hW0:=ht.rs.keep hF0;go_enter Tryz.func27,Tryz.ntmps27;go_upto_region 1 with fail
 rw[HW0.out];clear HW0;go_wp2_with (at_make;refine wpList_make_full _ rfl (.tmp 6) (.tmp 6) 57 rfl 0 56 iW _ 3 Tryz.undWs hiW hzW hsW .i64 .i64 L L L rfl rfl rfl rfl ?b2 ?b3 ?b4 ?_)
 case b2=>have:iW.bytes*L<=64*32:=Nat.mul_le_mul hbW hL;omega
 case b3=>unfold maxLen;omega
 case b4=>exact Nat.zero_le _
 intro w1 hown hgrow;obtain⟨R0,hR0,hM0⟩:=zzb hown;have hF1:Fr [] w0 w1:=Fr.grown (S:=[]) hgrow (by simp);obtain⟨k,hk⟩:∃k,k=w0.heap.size:=⟨_,rfl⟩;have hk0:w.heap.size+2<=k:=by omega
 rw[<-hk]at hM0 ⊢
 have hrow1:w1.heap[k]? = some (.cells R0.toArray 56 (0,0)):=by have:=hM0.box;simpa[wtsC]using this
 have hP1:=hP0.keep hF1;have hT1:=hT0.keep hF1;have hW1:=hW0.keep hF1;have hG1:=hF0.then hF1;obtain⟨q0,q1⟩:_/\_:=⟨hP1.c0,hP1.c1⟩;clear hown hgrow hM0 hk p0 p1 hP0 hT0 hW0 hF0 hF1;by_cases h0:0<L
 .obtain⟨b,off,e1,_,_⟩:=hW1.lies (by have:=HL.out;omega);subst e1;have hcp:=zox (P:=Tryz.prog) w1 57 57 3 56 3 k L L ⟨b,off,none⟩ cap R0.toArray 56 (wtsC ws) Tryz.undWs Tryz.sizeWt hrow1 (by rw[zeo,HL.out]) (hW1.src (by have:=HL.out;omega)) (by rw[zeo,<-HL.out];simp[hR0]) (zit ws);have hrow2:=setRow_heap w1 k R0.toArray (wtsC ws).toArray 56 (0,0) hrow1;have hF2:=Fr.setRow w1 k (wtsC ws).toArray;obtain⟨w2,HW2⟩:∃w2,Hid (w1.setRow k (wtsC ws).toArray=w2):=⟨_,rfl⟩;rw[HW2.out]at hcp hrow2 hF2
  have hP2:=hP1.keepS hF2 (by simp;omega);have hT2:=hT1.keepS hF2 (by simp;omega);obtain⟨r0,r1,s0,s1,s2,s3⟩:_/\_/\_/\_/\_/\_:=⟨hP2.c0,hP2.c1,hT2.c0,hT2.c1,hT2.f0,hT2.f1⟩;have hG2:=hG1.on hF2 (by intro x hx;simp at hx;omega);have hF3:=Fr.box2 w2 (w.heap.size+1) (.int .i64 n) (.slice (some ⟨k,0,none⟩) L L);have HF:Hid (_/\_):=⟨hF3.keep hrow2 (by simp;omega),hG2.on hF3 (by intro x hx;simp at hx;omega)⟩;clear hP2 hT2 hG2 hF3 hrow2 hF2 HW2 hP1 hT1 hW1 hG1 hrow1;go_wp2_with fail
  refine bodyPost_ret (v:=.agg #[.int .i64 n,.slice (some ⟨k,0,none⟩) L L]) (by rw[ziy rfl];go_simp) rfl ⟨k,rfl,by omega,HF.out⟩
 have hL0:L=0:=by omega
 subst hL0;have hws:ws=[]:=List.eq_nil_of_length_eq_zero HL.out.symm;subst hws;have hR00:R0=[]:=List.eq_nil_of_length_eq_zero (by omega);subst hR00;have hcp:=zcm (P:=Tryz.prog) w1 57 57 3 56 3 (some ⟨k,0,none⟩) ao 0 cap Tryz.undWs Tryz.sizeWt;obtain⟨s0,s1,s2,s3⟩:_/\_/\_/\_:=⟨hT1.c0,hT1.c1,hT1.f0,hT1.f1⟩;have hF3:=Fr.box2 w1 (w.heap.size+1) (.int .i64 n) (.slice (some ⟨k,0,none⟩) 0 0);have HF:Hid (_/\_):=⟨hF3.keep hrow1 (by simp;omega),hG1.on hF3 (by intro x hx;simp at hx;omega)⟩;clear hF3 hP1 hT1 hW1 hG1 hrow1;go_wp2_with fail
 refine bodyPost_ret (v:=.agg #[.int .i64 n,.slice (some ⟨k,0,none⟩) 0 0]) (by rw[ziy rfl];go_simp) rfl ⟨k,rfl,by omega,HF.out⟩
def ints(xs:List Nat):List Value:=xs.map fun(x:Nat)=>Value.int .i64 (x:Int)
theorem zrj(xs ys:List Nat):ints (xs++ys)=ints xs++ints ys:=by simp[ints]
structure Src(w0 w:World)(g lb L:Nat)(ts:List Tm)(v:Value)(qs:List Nat):Prop where
 box:w.heap[g]? = some (.cells #[.bool true,.slice (some ⟨lb,0,none⟩) L L,v] 91 (0,0))
 log:w.heap[lb]? = some (.cells (tmsC ts).toArray 59 (0,0))
 len:L=ts.length
 few:L<=65536
 each:∀t∈ts,Tnew w0 w t
 row:w.ownsRow 0 3 1 v qs.length (ints qs)
 gn:w0.heap.size<=g
 ln:w0.heap.size<=lb
 rn:∀k,v.ownBlock=some k->w0.heap.size<=k
section
variable{w0 w w':World}{g lb L:Nat}{ts:List Tm}{v:Value}{qs:List Nat}
theorem Src.lt(h:Src w0 w g lb L ts v qs):g<w.heap.size:=lt_of_block h.box
theorem Src.c0(h:Src w0 w g lb L ts v qs):w.cell? ⟨g,0,none⟩=some (.bool true):=by simp[World.cell?,h.box]
theorem Src.c1(h:Src w0 w g lb L ts v qs):w.cell? ⟨g,1,none⟩=some (.slice (some ⟨lb,0,none⟩) L L):=by simp[World.cell?,h.box]
theorem Src.c2(h:Src w0 w g lb L ts v qs):w.cell? ⟨g,2,none⟩=some v:=by simp[World.cell?,h.box]
theorem Src.f2(h:Src w0 w g lb L ts v qs):w.frozen? ⟨g,2,none⟩=false:=by simp[World.frozen?,h.box]
theorem Src.rowNe(h:Src w0 w g lb L ts v qs){x:Nat}(hx:v.ownBlock=some x):∃cur,w.heap[x]? = some (.cells cur 3 (0,0)):=by
 rcases h.row.2 with⟨rfl,_⟩|⟨g',cap,cur,rfl,_,hgg,_⟩
 .simp[Value.ownBlock]at hx
 simp[Value.ownBlock]at hx
 subst hx;exact⟨cur,hgg⟩
theorem Src.keep(h:Src w0 w g lb L ts v qs)(hf:Fr [] w w'):Src w0 w' g lb L ts v qs:=
 ⟨hf.keep h.box (by simp),hf.keep h.log (by simp),h.len,h.few,fun t ht=>(h.each t ht).keepS hf (by simp),zco h.row hf (by simp),h.gn,h.ln,h.rn⟩
theorem Src.trs(h:Src w0 w g lb L ts v qs):TRs w (some ⟨lb,0,none⟩) ts:=
 TRs.of_row (rest:=[]) (t:=59) (f:=(0,0)) (by rw[List.append_nil];exact h.log) (by have:=h.len;have:=h.few;omega) (fun t ht=>(h.each t ht).at)
theorem zhy(h:Src w0 w g lb L ts v qs):Calls Tryz.prog 88 #[.pointer (some ⟨g,0,none⟩)] w fun e w'=>e=.returned (.bool true)/\w=w':=by
 have c0:=h.c0;go_enter Tryz.func88,Tryz.ntmps88;go_wp2;go_ret;exact⟨rfl,rfl⟩
theorem zmz(h:Src w0 w g lb L ts v qs):Calls Tryz.prog 66 #[.pointer (some ⟨g,0,none⟩)] w fun e w'=>e=.returned (.int .i64 (L:Int))/\w=w':=by
 have c1:=h.c1;go_enter Tryz.func66,Tryz.ntmps66;go_wp2_with fail
 refine (zhy h).mono ?_;rintro e w1⟨rfl,rfl⟩;go_wp2;go_ret;exact⟨rfl,rfl⟩
end
structure Wt2(w:World)(k:Nat)(ds:List Tm)(R:List Value):Prop where
 box:w.heap[k]? = some (.cells (tmsC ds++R).toArray 59 (0,0))
theorem Wt2.keep{S:List Nat}{w w':World}{k:Nat}{ds:List Tm}{R:List Value}(h:Wt2 w k ds R)(hf:Fr S w w')(hn:k∉S):Wt2 w' k ds R:=⟨hf.keep h.box hn⟩
theorem Wt2.lt{w:World}{k:Nat}{ds:List Tm}{R:List Value}(h:Wt2 w k ds R):k<w.heap.size:=lt_of_block h.box
theorem Wt2.cell{w:World}{k:Nat}{ds:List Tm}{a b:Value}{R:List Value}(h:Wt2 w k ds (a::b::R)) :
  w.cell? ⟨k,ds.length*2,none⟩=some a/\w.cell? ⟨k,ds.length*2+1,none⟩=some b:=by
 refine⟨?_,?_⟩<;>(rw[crw h.box];simp only[List.getElem?_toArray];rw[List.getElem?_append_right (by rw[zep];omega),zep])
 .simp
 rw[show ds.length*2+1-ds.length*2=1 by omega];rfl
theorem Wt2.free{w:World}{k:Nat}{ds:List Tm}{R:List Value}(h:Wt2 w k ds R)(j:Nat):w.frozen? ⟨k,j,none⟩=false:=by simp[World.frozen?,h.box]
theorem set2(xs R:List Value)(a b x y:Value)(n:Nat)(hn:xs.length=n):((xs++a::b::R).set n x).set (n+1) y=xs++x::y::R:=by
 subst hn;rw[List.set_append_right _ _ (by omega),List.set_append_right _ _ (by omega)];simp
theorem Wt2.put{w:World}{k:Nat}{ds:List Tm}{a b:Value}{R:List Value}(h:Wt2 w k ds (a::b::R))(t:Tm) :
  Wt2 ((w.setCell ⟨k,ds.length*2,none⟩ (.int .i64 t.n)).setCell ⟨k,ds.length*2+1,none⟩ (.slice t.ao t.L t.cap)) k (ds++[t]) R:=by
 refine⟨?_⟩;rw[row_setCell _ (row_setCell _ h.box)]
 congr 2
 apply Array.toList_inj.1;simp only[Array.toList_setIfInBounds];rw[set2 (tmsC ds) R a b _ _ _ (zep ds),zqz];simp[tmsC,tmC]
theorem zvn{w':World}{b C:Nat}{ys:List Value}(h:w'.ownsRow 0 59 2 (.slice (some ⟨b,0,none⟩) C C) C ys):∃R:List Value,R.length=C*2/\Wt2 w' b [] R:=by
 rcases h.2 with⟨hh,_⟩|⟨g',cap',cur,hh,hb,hg,hnc,hcm,hcs,ht⟩
 .cases hh
 cases hh;exact⟨cur.toList,by simpa using hcs,⟨by simpa[tmsC]using hg⟩⟩
theorem zagg{R:List Value}{m:Nat}(h:R.length=(m+1)*2):∃a b S,R=a::b::S/\S.length=m*2:=by
 match R,h with
 |a::b::S,h=>exact⟨a,b,S,rfl,by simp at h;omega⟩
 | [],h=>simp at h
 | [_],h=>simp at h;omega
theorem _root_.Go.Proofs.YtakbodlicfmkjaaGreat.Fr.at2(w:World)(k a b:Nat)(x y:Value):Fr [k] w ((w.setCell ⟨k,a,none⟩ x).setCell ⟨k,b,none⟩ y):=
 (Fr.set w ⟨k,a,none⟩ x (by simp)).then (Fr.set _ ⟨k,b,none⟩ y (by simp))
theorem new_no(ao:Option Addr)(L cap c:Nat)(ts:List Tm)(w:World)(hT:TRs w ao ts)(hL:L=ts.length)(hc:Bad 1 (txs ts) c)(hc0:c≠0) :
  Calls Tryz.prog 14 #[.slice ao L cap] w fun e w'=>e=.returned (.tuple #[.pointer none,.int .i64 (c:Int)])/\Fr [] w w':=by
 have HC:Hid (Bad 1 (txs ts) c):=hc;have HL:Hid (L=ts.length):=hL;have hcb:((c:Int) != 0)=true:=by rw[bne_iff_ne];omega
 clear hc hL hc0;go_enter Tryz.func14,Tryz.ntmps14;go_wp2_with fail
 refine (zlk ao L cap c ts _ hT HL.out HC.out).mono ?_;rintro e w1⟨rfl,hF1⟩;go_wp2;go_ret2;exact⟨rfl,hF1⟩
theorem new_ok(ao:Option Addr)(L cap:Nat)(ts:List Tm)(w:World)(hT:TRs w ao ts)(hL:L=ts.length)(hok:okL 1 (txs ts)) :
  Calls Tryz.prog 14 #[.slice ao L cap] w fun e w'=>∃g lb ds,e=.returned (.tuple #[.pointer (some ⟨g,0,none⟩),.int .i64 0])/\Src w w' g lb L ds (.slice none 0 0) []/\txs ds=txs ts/\Fr [] w w':=by
 have HK:Hid (okL 1 (txs ts)):=hok;have HL:Hid (L=ts.length):=hL;have hL2:L<=65536:=by have:=zdo hok;rw[zau]at this;omega
 obtain⟨iT,hiT,hzT,hsT,hbT⟩:=info_parts Tryz.infoT;clear hok hL;go_enter Tryz.func14,Tryz.ntmps14;go_wp2_with fail
 refine (zlk ao L cap 0 ts _ hT HL.out (zjt HK.out)).mono ?_;rintro e w1⟨rfl,hF1⟩;go_wp2_with (at_make;refine wpList_make_full _ rfl (.tmp 14) (.tmp 14) 24 rfl 0 59 iT _ 2 Tryz.undTs hiT hzT hsT .i64 .i64 L L L rfl rfl rfl rfl ?b2 ?b3 ?b4 ?_)
 case b2=>rw[hbT];omega
 case b3=>unfold maxLen;omega
 case b4=>exact Nat.zero_le _
 intro w2 hown hgrow;obtain⟨R0,hR0,hW0⟩:=zvn hown;have hF2:Fr [] w1 w2:=Fr.grown (S:=[]) hgrow (by simp);obtain⟨k,hk⟩:∃k,k=w1.heap.size:=⟨_,rfl⟩;have hkw:w.heap.size<=k:=by have:=hF1.size;omega
 rw[<-hk]at hW0 ⊢
 have hG2:=hF1.then hF2;clear hown hgrow hF1 hF2 hk;go_wp2_with fail
 go_loopw [18] (fun ii wr=>∃(i:Nat)(ds:List Tm)(R:List Value),ii=.int .i64 i/\i<=L/\Hid (ds.length=i)/\Hid (R.length=(L-i)*2)/\Hid (txs ds=(txs ts).take i)/\(∀t∈ds,Tnew w wr t)/\Wt2 wr k ds R/\Fr [] w wr) (fun ii _=>L-(RowKit.intOf ii).toNat)
 case atStart=>exact⟨0,[],R0,rfl,Nat.zero_le _,rfl,hR0,rfl,by simp,hW0,hG2⟩
 obtain⟨i,ds,R,rfl,hiL,HI,HRl,HTX,hEa,hWr,hFr⟩:=hrel;by_cases hi:i<L
 .obtain⟨m,hm⟩:∃m,L-i=m+1:=⟨L-i-1,by omega⟩;obtain⟨a,b,S,rfl,hS⟩:=zagg (hm▸HRl.out);have hi':i<ts.length:=by rw[<-HL.out];exact hi
  obtain⟨bb,off,rfl,_,hc⟩:=(hT.keep hFr).lies (by omega);have hx:=hc i hi';have hat:=(hT.keep hFr).each _ (zcp ts i hi');have hokx:=(zha HK.out i (by rw[zau];exact hi')).1;rw[zhq]at hokx
  have HTX2:Hid (txs ds++[(ts.getD i Tm.zero).tx]=(txs ts).take (i+1)):=by
   show _=_;rw[zkr,zlc ts i hi',zhr,HTX.out,zkr];rfl
  obtain⟨x,hxx⟩:∃x,x=ts.getD i Tm.zero:=⟨_,rfl⟩;rw[<-hxx]at hx hat hokx HTX2
  clear hxx hc;obtain⟨n,xo,M,cm,ws⟩:=x;obtain⟨c0,c1⟩:=hx;simp only at c0 c1;have hF3:Fr [] wr (wr.alloc (.cells #[.int .i64 n,.slice xo M cm] 59)):=Fr.alloc _ _ _;have hat3:TArg (wr.alloc (.cells #[.int .i64 n,.slice xo M cm] 59)) n xo M cm ws:=TArg.keep hat hF3;have HOK:Hid (okT n ws):=hokx;have HM:Hid (M=ws.length):=hat3.len;have hM32:M<=32:=by have:=hokx.2.2.1;have:=hat3.len;simp only[Tm.tx]at *;omega
  clear hokx hat
  go_wp2_with fail
  refine (zll n xo M cm ws _ hat3 hM32).mono ?_;rintro e w4⟨kk,rfl,hkk,hrow4,hF4⟩;have hG4:=hF3.then hF4;have hW4:=hWr.keep hG4 (by simp);obtain⟨q0,q1⟩:=hW4.cell;have p0:=hW4.free (ds.length*2);have p1:=hW4.free (ds.length*2+1);rw[HI.out]at q0 q1 p0 p1
  have hW5:=hW4.put ⟨n,some ⟨kk,0,none⟩,M,M,ws⟩;rw[HI.out]at hW5
  have hF5:=Fr.at2 w4 k (i*2) (i*2+1) (.int .i64 n) (.slice (some ⟨kk,0,none⟩) M M);have hkkk:kk∉[k]:=by
   have:=hWr.lt;have:=hF3.size;simp;omega
  have HN:Hid (_/\_/\_):=⟨fun t (ht:t∈ds++[(⟨n,some ⟨kk,0,none⟩,M,M,ws⟩:Tm)])=>(by
   rcases List.mem_append.1 ht with h1|h1
   .refine ((hEa t h1).keepS hG4 (by simp)).keepS hF5 (fun j hj hh=> ?_);simp only[List.mem_singleton]at hh;subst hh;rw[hW4.box]at hj
    simp at hj
   simp only[List.mem_singleton]at h1;subst h1;exact⟨kk,rfl,rfl,HM.out,by have:=hFr.size;have:=hF3.size;omega,hF5.keep hrow4 hkkk,HOK.out⟩:Tnew w _ t),hW5,(hFr.then hG4).on hF5 (by intro x hx;simp at hx;omega)⟩
  clear hW4 hW5 hF5 hG4 hF4 hF3 hrow4 hat3 hWr hEa hFr;go_wp2;go_roundw;case rel=>exact⟨i+1,_,S,by simp,by omega,by show _=_;simp[HI.out],by show _=_;rw[hS];congr 1;omega,by show _=_;rw[zhr];exact HTX2.out,HN.out.1,HN.out.2.1,HN.out.2.2⟩
  case measure=>simp[RowKit.intOf];omega
 have hLi:L-i=0:=by omega
 have hR0':R=[]:=List.eq_nil_of_length_eq_zero (by rw[HRl.out,hLi]);subst hR0';have HT2:Hid (txs ds=txs ts):=by show _=_;rw[HTX.out,List.take_of_length_le (by rw[zau,<-HL.out];omega)]
 have HDL:Hid (L=ds.length):=by show _=_;have:=congrArg List.length HT2.out;rw[zau,zau]at this;have:=HL.out;omega
 have hFz:Fr [] wr (wr.alloc (.cells #[.bool true,.slice (some ⟨k,0,none⟩) L L,.slice none 0 0] 91)):=Fr.alloc _ _ _;have hklt:=hWr.lt;have HE:Hid (Src w (wr.alloc (.cells #[.bool true,.slice (some ⟨k,0,none⟩) L L,.slice none 0 0] 91)) wr.heap.size k L ds (.slice none 0 0) []/\Fr [] w (wr.alloc (.cells #[.bool true,.slice (some ⟨k,0,none⟩) L L,.slice none 0 0] 91))):=
  ⟨⟨heap_alloc_new _ _,by have:=(hWr.keep hFz (by simp)).box;rw[List.append_nil]at this;exact this,HDL.out,hL2,fun t ht=>(hEa t ht).keepS hFz (by simp),⟨rfl,.inl ⟨rfl,rfl⟩⟩,hFr.size,hkw,fun j hj=>by simp[Value.ownBlock]at hj⟩,hFr.then hFz⟩
 clear hFz hWr hEa hFr;go_wp2;go_ret2;exact⟨_,k,ds,rfl,HE.out.1,HT2.out,HE.out.2⟩
theorem Tryz.infoI:(Tryz.prog.info? 3).map (fun i=>(i.zero,i.size,i.bytes))=some (some (.int .i64 0),1,8):=by kernel_rfl
theorem Tryz.undIs:Tryz.prog.underlying 25=some (.slice 3):=by kernel_rfl
section
variable{w0 w w':World}{g lb L:Nat}{ts:List Tm}{v:Value}{qs:List Nat}
theorem Src.apart(h:Src w0 w g lb L ts v qs){k:Nat}{cs:Array Value}{t:TypeId}{f:Nat×Nat}(hk:w.heap[k]? = some (.cells cs t f))(ht:t≠3):v.ownBlock≠some k:=by
 intro hv;obtain⟨cur,hc⟩:=h.rowNe hv;rw[hc]at hk
 simp only[Option.some.injEq,Obj.cells.injEq]at hk;exact ht hk.2.1.symm
def Src.own(g:Nat)(v:Value):List Nat:=g::v.ownBlock.toList
theorem Src.put{w1:World}{v':Value}{n N:Nat}{cs:List Value}(h:Src w0 w g lb L ts v qs)(hown:w1.ownsRow 0 3 1 v' N cs)(hN:N=(qs++[n]).length)(hcs:cs=ints (qs++[n]))(hg:w.grownBy w1 v.ownBlock){k:Nat}(hm:Moved k v v')(hk:w0.heap.size<=k) :
  Src w0 (w1.setCell ⟨g,2,none⟩ v') g lb L ts v' (qs++[n])/\Fr (Src.own g v) w (w1.setCell ⟨g,2,none⟩ v'):=by
 subst hN;subst hcs;have hog:=h.apart h.box (by decide);have hol:=h.apart h.log (by decide);have hbox:=(hg.block g h.lt (fun e=>hog e.symm)).trans h.box;have hlog:=(hg.block lb (lt_of_block h.log) (fun e=>hol e.symm)).trans h.log;have hoth:v'.ownBlock≠some g:=by
  intro hv;rcases hown.2 with⟨rfl,_⟩|⟨g',cap,cur,rfl,_,hgg,_⟩
  .simp[Value.ownBlock]at hv
  simp[Value.ownBlock]at hv
  subst hv;rw[hgg]at hbox
  simp at hbox
 have hlg:lb≠g:=by
  intro e;subst e;have:=h.box;rw[h.log]at this
  simp at this
 have hF:Fr (Src.own g v) w (w1.setCell ⟨g,2,none⟩ v'):=(Fr.grown (S:=Src.own g v) hg (by intro k hk _;simp[Src.own,hk])).then (Fr.set _ _ _ (by simp[Src.own]));refine⟨⟨zmg hbox,(Fr.set (S:=[g]) w1 ⟨g,2,none⟩ v' (by simp)).keep hlog (by simpa using hlg),h.len,h.few,fun t ht=>(h.each t ht).keepS hF ?_,ownsRow_setCell_other hown hoth _,h.gn,h.ln,hm.lt hk h.rn⟩,hF⟩;intro j hj hh;simp only[Src.own,List.mem_cons,Option.mem_toList]at hh;rcases hh with rfl|hh
 .rw[h.box]at hj;simp at hj
 exact h.apart hj (by decide) hh
theorem get_no(h:Src w0 w g lb L ts v qs)(n:Nat)(hn:n<1\/L<n)(hn2:n<2 ^ 40) :
  Calls Tryz.prog 52 #[.pointer (some ⟨g,0,none⟩),.int .i64 (n:Int)] w fun e w'=>e=.returned (.tuple #[.agg #[.int .i64 0,.slice none 0 0],.int .i64 1])/\Fr [] w w':=by
 have hF0:Fr [] w (w.alloc (.cells #[.int .i64 0,.slice none 0 0] 59)):=Fr.alloc _ _ _;have h0:=h.keep hF0;have c1:=h0.c1;have hfew:=h.few;have hB:B2 (w.alloc (.cells #[.int .i64 0,.slice none 0 0] 59)) w.heap.size (.int .i64 0) (.slice none 0 0):=⟨heap_alloc_new _ _⟩;obtain⟨s0,s1,s2,s3⟩:_/\_/\_/\_:=⟨hB.c0,hB.c1,hB.f0,hB.f1⟩;have hF1:=hF0.on (Fr.box2 (w.alloc (.cells #[.int .i64 0,.slice none 0 0] 59)) w.heap.size (.int .i64 0) (.slice none 0 0)) (by simp);obtain⟨W,HW⟩:∃W,Hid (w.alloc (.cells #[.int .i64 0,.slice none 0 0] 59)=W):=⟨_,rfl⟩;rw[HW.out]at h0 c1 s0 s1 s2 s3 hF1
 have HF:Hid (Fr [] w ((W.setCell ⟨w.heap.size,0,none⟩ (.int .i64 0)).setCell ⟨w.heap.size,1,none⟩ (.slice none 0 0))):=hF1;clear hF0 hB hF1;go_enter Tryz.func52,Tryz.ntmps52;go_upto_region 1 with fail
 rw[HW.out];clear HW;go_wp2_with fail
 refine (zhy h0).mono ?_;rintro e w1⟨rfl,rfl⟩;rcases hn with hn|hn
 .obtain rfl:n=0:=by omega
  go_wp2;refine bodyPost_ret (v:=.tuple #[.agg #[.int .i64 0,.slice none 0 0],.int .i64 1]) (by rw[results_cell_tmp rfl];go_simp) rfl ⟨rfl,HF.out⟩
 have hn1:¬n<1:=by omega
 go_wp2;refine bodyPost_ret (v:=.tuple #[.agg #[.int .i64 0,.slice none 0 0],.int .i64 1]) (by rw[results_cell_tmp rfl];go_simp) rfl ⟨rfl,HF.out⟩
theorem zaez(h:Src w0 w g lb L ts v qs)(n:Nat)(hn:1<=n)(hnL:n<=L)(hq:qs.length<2 ^ 40)(h00:w0.heap.size<=w.heap.size)(t:Tm)(ht:t=ts.getD (n-1) Tm.zero) :
  Calls Tryz.prog 52 #[.pointer (some ⟨g,0,none⟩),.int .i64 (n:Int)] w fun e w'=>∃k v',e=.returned (.tuple #[.agg #[.int .i64 t.n,.slice (some ⟨k,0,none⟩) t.L t.L],.int .i64 0])/\w.heap.size<=k/\w'.heap[k]? = some (.cells (wtsC t.ws).toArray 56 (0,0)) /\
   Src w0 w' g lb L ts v' (qs++[n])/\Fr (Src.own g v) w w'/\Moved w.heap.size v v':=by
 obtain⟨iI,hiI,hzI,hsI,hbI⟩:=info_parts Tryz.infoI;have hfew:=h.few;have HN:Hid (n-1<ts.length):=by show _<_;have:=h.len;omega
 have HT:Hid (t=ts.getD (n-1) Tm.zero):=ht;obtain⟨ao,cap,hv⟩:=zvo w h.row;obtain⟨N,hN⟩:∃N,N=qs.length:=⟨_,rfl⟩;rw[<-hN]at hv hq
 have HL:Hid (N=qs.length):=hN;subst hv;clear hN ht;have hF0:Fr [] w (w.alloc (.cells #[.int .i64 0,.slice none 0 0] 59)):=Fr.alloc _ _ _;have h0:=h.keep hF0;have hB:B2 (w.alloc (.cells #[.int .i64 0,.slice none 0 0] 59)) w.heap.size (.int .i64 0) (.slice none 0 0):=⟨heap_alloc_new _ _⟩;have hs0:(w.alloc (.cells #[.int .i64 0,.slice none 0 0] 59)).heap.size=w.heap.size+1:=by simp
 obtain⟨W,HW⟩:∃W,Hid (w.alloc (.cells #[.int .i64 0,.slice none 0 0] 59)=W):=⟨_,rfl⟩;rw[HW.out]at h0 hB hF0 hs0
 have HS0:Hid (W.heap.size=w.heap.size+1):=hs0;clear hs0;obtain⟨c1,c2,f2⟩:_/\_/\_:=⟨h0.c1,h0.c2,h0.f2⟩;have hgW:=h0.lt;have HR:Hid (W.ownsRow 0 3 1 (.slice ao N cap) N (ints qs)):=by show World.ownsRow _ _ _ _ _ _ _;have:=h0.row;rw[<-HL.out]at this;exact this
 have hn1:¬n<1:=by omega
 have hnL2:¬L<n:=by omega
 go_enter Tryz.func52,Tryz.ntmps52;go_upto_region 1 with fail
 rw[HW.out];clear HW;go_wp2_with fail
 refine (zhy h0).mono ?_;rintro e w1⟨rfl,rfl⟩;go_upto_region 5 with fail
 go_wp2_with (at_builtin;go_loud (refine zqu _ rfl (.tmp 28) (.tmp 30) 25 rfl 3 iI (.int .i64 0) 1 8 Tryz.undIs hiI hzI hsI hbI rfl (by decide) _ N _ rfl (HR.out.alloc _) ⟨W.heap.size,0,none⟩ 1 [.int .i64 (n:Int)] rfl rfl ?c1 ?c2 ?c3 ?c4 ?_))
 case c1=>intro j u hj;match j,hj with|0,hj=>simp at hj;subst hj;simp[Addr.add]
 case c2=>intro u hu;simp at hu;subst hu;rfl
 case c3=>omega
 case c4=>unfold maxLen;omega
 intro g' cap' w1 hown hgrow hmov;have hFa:Fr [] W (W.alloc (.cells #[.int .i64 (n:Int)] 3)):=Fr.alloc _ _ _;have hSa:=h0.keep hFa;have hka:w.heap.size+2<=(W.alloc (.cells #[.int .i64 (n:Int)] 3)).heap.size:=by have:=HS0.out;simp;omega
 obtain⟨hS1,hF1⟩:=hSa.put (n:=n) hown (by simp[HL.out]) (by rw[zrj];rfl) hgrow hmov (by have:=HS0.out;omega);have hbB:B2 (W.alloc (.cells #[.int .i64 (n:Int)] 3)) w.heap.size (.int .i64 0) (.slice none 0 0):=hB.keep hFa;have hb1:=hSa.apart hbB.box (by decide);have hgw:=h.lt;have hlw:=lt_of_block h.log;have hB1:B2 (w1.setCell ⟨g,2,none⟩ (.slice (some ⟨g',0,none⟩) (N+1) cap')) w.heap.size (.int .i64 0) (.slice none 0 0):=⟨hF1.keep hbB.box (by
  simp only[Src.own,List.mem_cons,Option.mem_toList,not_or];exact⟨by omega,fun hh=>hb1 hh⟩)⟩
 have c2':w1.cell? ⟨g,2,none⟩=some (.slice ao N cap):=by
  have:=hgrow.block g hSa.lt (fun e=>hSa.apart hSa.box (by decide) e.symm);simp[World.cell?,this,hSa.box]
 have f2':w1.frozen? ⟨g,2,none⟩=false:=by
  have:=hgrow.block g hSa.lt (fun e=>hSa.apart hSa.box (by decide) e.symm);simp[World.frozen?,this,hSa.box]
 have hG1:Fr (Src.own g (.slice ao N cap)) w (w1.setCell ⟨g,2,none⟩ (.slice (some ⟨g',0,none⟩) (N+1) cap')):=((hF0.then hFa).mono (by simp)).then hF1;have hM1:Moved w.heap.size (.slice ao N cap) (.slice (some ⟨g',0,none⟩) (N+1) cap'):=(Moved.refl _ _).trans hmov (by have:=HS0.out;omega);obtain⟨w2,HW2⟩:∃w2,Hid (w1.setCell ⟨g,2,none⟩ (.slice (some ⟨g',0,none⟩) (N+1) cap')=w2):=⟨_,rfl⟩;rw[HW2.out]at hS1 hB1 hG1
 obtain⟨v',hv'⟩:∃v':Value,v'=.slice (some ⟨g',0,none⟩) (N+1) cap':=⟨_,rfl⟩;have d1:=hS1.c1;have hTR:=hS1.trs;have hx:=hTR.each _ (zcp ts (n-1) HN.out);have hokx:=(hS1.each _ (zcp ts (n-1) HN.out));obtain⟨bb,off,e9,_,hc⟩:=hTR.lies (by have:=HN.out;omega);cases e9;have hcx:=hc (n-1) HN.out;rw[<-HT.out]at hx hokx hcx
 obtain⟨tn,xo,M,cm,ws⟩:=t;obtain⟨x0,x1⟩:=hcx;simp only at x0 x1;have hxa:TArg w2 tn xo M cm ws:=hx;have hM32:M<=32:=by obtain⟨_,_,_,e5,_,_,e6⟩:=hokx;have:=e6.2.2.1;simp only at e5 this;omega
 have hnn:(n:Int)-1=((n-1:Nat):Int):=by omega
 obtain⟨m,hm⟩:∃m,n=m+1:=⟨n-1,by omega⟩;subst hm;simp only[Nat.add_sub_cancel,Nat.zero_add]at x0 x1;clear hown hgrow hmov hbB hb1 hSa hFa hF1 hB hF0 hc hnn hx hokx c1 c2 f2 HR h h0;go_upto_region 6 with fail
 rw[HW2.out];clear HW2 c2' f2';go_wp2_with fail
 refine (zll tn xo M cm ws _ hxa hM32).mono ?_;rintro e w4⟨k,rfl,hk,hrow4,hF4⟩;have hB4:=hB1.keep hF4;obtain⟨s0,s1,s2,s3⟩:_/\_/\_/\_:=⟨hB4.c0,hB4.c1,hB4.f0,hB4.f1⟩;have hF5:=Fr.box2 w4 w.heap.size (.int .i64 tn) (.slice (some ⟨k,0,none⟩) M M);have hwk:w.heap.size<k:=by have:=hB1.lt;omega
 have hS4:=hS1.keep hF4;have hS5:Src w0 ((w4.setCell ⟨w.heap.size,0,none⟩ (.int .i64 tn)).setCell ⟨w.heap.size,1,none⟩ (.slice (some ⟨k,0,none⟩) M M)) g lb L ts (.slice (some ⟨g',0,none⟩) (N+1) cap') (qs++[m+1]):=by
  have a1:=hS4.apart hB4.box (by decide);refine⟨hF5.keep hS4.box (by simp;omega),hF5.keep hS4.log ?_,hS4.len,hS4.few,fun t ht=>(hS4.each t ht).keepS hF5 ?_,zco hS4.row hF5 ?_,hS4.gn,hS4.ln,hS4.rn⟩
  .simp;omega
  .intro j hj hh;simp only[List.mem_singleton]at hh;subst hh;rw[hB4.box]at hj
   simp at hj
  intro j hj hh;simp only[List.mem_singleton]at hh;subst hh;exact a1 hj
 have HE:Hid (_/\_/\_):=⟨hF5.keep hrow4 (by simp;omega),hS5,(hG1.then (hF4.mono (by simp))).trans hF5 (U:=Src.own g (.slice ao N cap)) (fun _ x _=>x) (by intro x hx hl;simp at hx;omega)⟩;clear hF5 hS5 hS4 hS1 hB4 hB1 hG1 hF4 hrow4;go_wp2;refine bodyPost_ret (v:=.tuple #[.agg #[.int .i64 tn,.slice (some ⟨k,0,none⟩) M M],.int .i64 0]) (by rw[results_cell_tmp rfl];go_simp) rfl ⟨k,rfl,by omega,HE.out.1,_,HE.out.2.1,HE.out.2.2,hM1⟩
end
section
variable{w0 w w':World}{g lb L:Nat}{ts:List Tm}{v:Value}{qs:List Nat}
end
end F
section
open Go.ChangeShapes Go.WideShapes Go.ChangeAt Go.RowKit Go.Lib
theorem zkx{α:Type}:∀(a b:List α),a.Nodup->(∀x∈a,x∈b)->a.length<=b.length
 | [],b,_,_=>Nat.zero_le _
 |x::r,b,h,hs=>by
  obtain⟨h1,h2⟩:=List.nodup_cons.1 h;obtain⟨p,q,rfl⟩:=List.append_of_mem (hs x List.mem_cons_self);have ih:=zkx r (p++q) h2 (fun y hy=>by
   have:=hs y (List.mem_cons_of_mem _ hy);simp only[List.mem_append,List.mem_cons]at this ⊢;rcases this with h3|rfl|h3
   .exact .inl h3
   .exact absurd hy h1
   exact .inr h3)
  simp only[List.length_append,List.length_cons]at ih ⊢;omega
open Classical in
theorem zsd(ws:List Wt):∀i k,k∈(ddTo ws i).map (·.key)↔ ∃j,j<i/\Kept ws j/\kAt ws j=k
 |0,k=>by simp[ddTo]
 |i+1,k=>by
  have ih:=zsd ws i k;by_cases h:Kept ws i
  .rw[zdj h,List.map_append,List.mem_append,ih];simp only[List.map_cons,List.map_nil,List.mem_singleton];constructor
   .rintro (⟨j,h1,h2⟩|rfl)
    .exact⟨j,by omega,h2⟩
    exact⟨i,by omega,h,rfl⟩
   rintro⟨j,h1,h2,h3⟩;by_cases e:j=i
   .subst e;exact .inr h3.symm
   exact .inl ⟨j,by omega,h2,h3⟩
  rw[zfm h,ih];constructor
  .rintro⟨j,h1,h2⟩;exact⟨j,by omega,h2⟩
  rintro⟨j,h1,h2,h3⟩;by_cases e:j=i
  .subst e;exact absurd h2 h
  exact⟨j,by omega,h2,h3⟩
theorem znc(ws:List Wt):∀i,i<=ws.length->((ddTo ws i).map (·.key)).Nodup
 |0,_=>List.nodup_nil
 |i+1,hi=>by
  have ih:=znc ws i (by omega);by_cases h:Kept ws i
  .rw[zdj h,List.map_append,List.nodup_append];refine⟨ih,by simp,fun x hx y hy=> ?_⟩;simp only[List.map_cons,List.map_nil,List.mem_singleton]at hy;obtain⟨j,h1,h2,h3⟩:=(zsd ws i x).1 hx;intro e;exact h2 i h1 (by omega) (by rw[h3,e,hy];rfl)
  rw[zfm h];exact ih
theorem zrr(ts:List Tm)(i:Nat)(h:i<ts.length):ts.drop i=ts.getD i Tm.zero::ts.drop (i+1):=by
 rw[List.drop_eq_getElem_cons h];simp[List.getD,h]
theorem zfi(ao:Option Addr)(L cap c:Nat)(ts:List Tm)(w:World)(hT:TRs w ao ts)(hL:L=ts.length)(hc:Bad 1 (txs ts) c) :
  Calls Tryz.prog 69 #[.slice ao L cap] w fun e w'=>e=.returned (.int .i64 (c:Int))/\Fr [] w w':=by
 have HC:Hid (Bad 1 (txs ts) c):=hc;have HL:Hid (L=ts.length):=hL;have hLm:L<=140737488355328:=by have:=hT.few;omega
 clear hc hL;go_enter Tryz.func69,Tryz.ntmps69;go_wp2_with fail
 go_loopw [8] (fun ii wr=>∃(i:Nat),ii=.int .i64 i/\i<=L/\Hid (Bad (1+i) (txs (ts.drop i)) c)/\Fr [] w wr) (fun ii _=>L-(RowKit.intOf ii).toNat)
 case atStart=>exact⟨0,rfl,Nat.zero_le _,HC.out,Fr.refl _ _⟩
 obtain⟨i,rfl,hiL,HE,hFr⟩:=hrel;by_cases hi:i<L
 .have hi':i<ts.length:=by rw[<-HL.out];exact hi
  obtain⟨bb,off,rfl,hbl,hc⟩:=(hT.keep hFr).lies (by omega);have hx:=hc i hi';have hat:=(hT.keep hFr).each _ (zcp ts i hi');obtain⟨x,hxx⟩:∃x,x=ts.getD i Tm.zero:=⟨_,rfl⟩;rw[<-hxx]at hx hat
  have HX:Hid (x=ts.getD i Tm.zero):=hxx;clear hxx hc;obtain⟨n,xo,M,cm,ws⟩:=x;obtain⟨c0,c1⟩:=hx;simp only at c0 c1;have e1:=HE.out;rw[zrr ts i hi',<-HX.out]at e1
  have hn0:=hat.n0;have hn1:=hat.n1;simp only at hn0 hn1;have hF1:Fr [] wr (wr.alloc (.cells #[.int .i64 n,.slice xo M cm] 59)):=Fr.alloc _ _ _;have hbx:(wr.alloc (.cells #[.int .i64 n,.slice xo M cm] 59)).heap[wr.heap.size]? = some (.cells #[.int .i64 n,.slice xo M cm] 59 (0,0)):=heap_alloc_new wr _;have hG:=hFr.then hF1;obtain⟨w1,HW1⟩:∃w1,Hid (wr.alloc (.cells #[.int .i64 n,.slice xo M cm] 59)=w1):=⟨_,rfl⟩;rw[HW1.out]at hF1 hbx hG
  have hat1:TArg w1 n xo M cm ws:=TArg.keep hat hF1;have HCe:Hid (∀W,Fr [] w1 W->W.cell? ⟨wr.heap.size,0,none⟩=some (.int .i64 n)):=fun W hf=>by
   have hb:=hf.keep hbx (by simp);rw[crw hb];rfl
  clear hat hF1 hbx;clear HE HC;rcases e1 with⟨h1,rfl⟩|⟨h1,h2,rfl⟩|⟨h1,h2,h3⟩
  .have HN:Hid (¬okT n ws):=h1;clear h1;go_wp2_with fail
   rw[HW1.out];refine (zcd n xo M cm 1 ws _ hat1.rs hat1.len hn0 hn1 (Or.inr ⟨HN.out,rfl⟩)).mono ?_;rintro e w2⟨rfl,hF2⟩;have hG2:=hG.then hF2;clear hG hF2 hat1;go_wp2;go_ret;exact⟨rfl,hG2⟩
  .have HN:Hid (okT n ws):=h1;have hne:(n != (i:Int)+1)=true:=by rw[bne_iff_ne];have h2':n≠((1+i:Nat):Int):=h2;omega
   clear h1 h2;go_wp2_with fail
   rw[HW1.out];refine (zcd n xo M cm 0 ws _ hat1.rs hat1.len hn0 hn1 (Or.inl ⟨HN.out,rfl⟩)).mono ?_;rintro e w2⟨rfl,hF2⟩;have hG2:=hG.then hF2;have k0:=HCe.out _ hF2;clear hG hF2 hat1 c0 c1;go_wp2;go_ret;exact⟨rfl,hG2⟩
  have HN:Hid (okT n ws/\Bad (1+i+1) (txs (ts.drop (i+1))) c):=⟨h1,h3⟩;have hne:(n != (i:Int)+1)=false:=by rw[bne_eq_false_iff_eq];have h2':n=((1+i:Nat):Int):=h2;omega
  clear h1 h2 h3;go_wp2_with fail
  rw[HW1.out];refine (zcd n xo M cm 0 ws _ hat1.rs hat1.len hn0 hn1 (Or.inl ⟨HN.out.1,rfl⟩)).mono ?_;rintro e w2⟨rfl,hF2⟩;have hG2:=hG.then hF2;have k0:=HCe.out _ hF2;clear hG hF2 hat1 c0 c1;go_wp2;go_roundw;case rel=>exact⟨i+1,by simp,by omega,by show Bad _ _ _;rw[show 1+(i+1)=1+i+1 by omega];exact HN.out.2,hG2⟩
  case measure=>simp[RowKit.intOf];omega
 have hc0:c=0:=by
  have e1:=HE.out;rw[List.drop_eq_nil_of_le (by rw[<-HL.out];omega)]at e1
  exact e1
 subst hc0;clear HC HE;go_wp2;go_ret;exact⟨rfl,hFr⟩
end
namespace F
open Go.ChangeShapes Go.WideShapes Go.ChangeAt Go.RowKit Go.Lib
structure IRs(w:World)(ao:Option Addr)(ns:List Int):Prop where
 lies:0<ns.length->∃b off,ao=some ⟨b,off,none⟩/\b<w.heap.size/\∀i,i<ns.length->w.cell? ⟨b,off+i,none⟩=some (.int .i64 (ns.getD i 0))
 few:ns.length<=17592186044416
theorem IRs.keepS{S:List Nat}{w w':World}{ao:Option Addr}{ns:List Int}(h:IRs w ao ns)(hf:Fr S w w')(hn:0<ns.length->∀a,ao=some a->a.block∉S):IRs w' ao ns:=by
 refine⟨fun h0=> ?_,h.few⟩;obtain⟨b,off,e,hb,hc⟩:=h.lies h0;exact⟨b,off,e,Nat.lt_of_lt_of_le hb hf.size,fun i hi=>(World.cell?_of_block (hf.block b hb (hn h0 _ e))).trans (hc i hi)⟩
theorem IRs.keep{w w':World}{ao:Option Addr}{ns:List Int}(h:IRs w ao ns)(hf:Fr [] w w'):IRs w' ao ns:=h.keepS hf (by simp)
theorem zdt(ns:List Int)(i:Nat)(h:i<ns.length):ns.take (i+1)=ns.take i++[ns.getD i 0]:=by
 rw[List.take_add_one];simp[List.getD,h]
end F
section
open Go.ChangeShapes Go.WideShapes Go.ChangeAt Go.RowKit Go.Lib
section
variable{H:Type}{enc:TypeId×Value->H}
theorem Tryz.undTs':Tryz.prog.underlying 24=some (.slice 59):=by kernel_rfl
theorem zael{w:World}{fuel:Nat}{v:Value}{d:DataW H}{ps:List MemPlace}(h:DataW.trod enc Tryz.prog w 0 (fun _=>true) true fuel 24 [v]=some (d,ps))(hsz:∀n∈d.weights Tryz.prog 24,n<=reachBytes) :
  ∃ao L cap ts,v=.slice ao L cap/\TRs w ao ts/\L=ts.length/\L<=cap:=by
 rcases Go.Deep.open_slice Tryz.undTs' h with⟨hcs,_⟩|⟨a,len,cap,m,n,D,Pl,hcs,hb,hl,hm,hmm,hx,hE⟩
 .simp only[List.cons.injEq,and_true]at hcs;exact⟨none,0,0,[],hcs,TRs.nil _ _,rfl,Nat.le_refl _⟩
 simp only[List.cons.injEq,and_true]at hcs;simp only[if_true]at hmm;subst hmm;rw[Tryz.cellsT]at hE hx
 have hd:d=.slice ((List.range len).map D) ((List.range (m-len)).map fun j=>D (len+j)):=by have:=congrArg Prod.fst hx;simpa using this
 have hr:=reachBytes_lt;have hW:∀i,i<len->∀q∈(D i).weights Tryz.prog 59,q<=reachBytes:=by
  intro i hi q hq;apply hsz;rw[hd];simp only[DataW.weights,Tryz.undTs'];refine List.mem_cons_of_mem _ (List.mem_append_left _ ?_);exact zed (List.mem_map.2 ⟨i,by simpa using hi,rfl⟩) _ hq
 have hO:∀i,i<len->∃t:Tm,(w.cells? 0 (a.add (i*2)) 2=some [.int .i64 t.n,.slice t.ao t.L t.cap])/\t.at w:=by
  intro i hi;obtain⟨cs',h1,h2⟩:=hE i (by omega);obtain⟨n,ao,L,cap,ws,rfl,hT⟩:=zabt h2 (hW i hi);exact⟨⟨n,ao,L,cap,ws⟩,h1,hT⟩
 haveI:Inhabited Tm:=⟨Tm.zero⟩;obtain⟨F,hF⟩:=Go.Deep.choose_lt hO;have hlen:len<=140737488355328:=by
  have hw:len*Tryz.prog.bytesOf 59<=reachBytes:=by
   refine Nat.le_trans (Nat.mul_le_mul_right _ hl) (hsz _ ?_);rw[hd];simp only[DataW.weights,Tryz.undTs',List.length_map,List.length_range];rw[show len+(m-len)=m by omega];exact List.mem_cons_self
  have hb40:1<=Tryz.prog.bytesOf 59:=by
   rw[show Tryz.prog.bytesOf 59=32 from by kernel_rfl];decide
  have:=Nat.le_mul_of_pos_right len hb40;omega
 refine⟨some a,len,m,(List.range len).map F,hcs,⟨fun h0=> ?_,by simpa using hlen,?_⟩,by simp,hl⟩
 .simp only[List.length_map,List.length_range]at h0 ⊢;have hc0:=(World.cells?_some (hF 0 (by omega)).1).2.2;obtain⟨b,off,spot⟩:=a;have hspot:spot=none:=by
   have:=hc0 0 (by omega);simp at this;simpa[Addr.add]using World.cell?_spot this
  subst hspot;have hcell:∀i,i<len->∀j,j<2->w.cell? ⟨b,off+i*2+j,none⟩=[Value.int .i64 (F i).n,.slice (F i).ao (F i).L (F i).cap][j]? :=by
   intro i hi j hj;have:=(World.cells?_some (hF i (by omega)).1).2.2 j hj;rw[show ((⟨b,off,none⟩:Addr).add (i*2)).add j=⟨b,off+i*2+j,none⟩ from by rw[Addr.add_lit,Addr.add_lit]]at this
   exact this
  refine⟨b,off,rfl,World.block_lt_of_cell? w ⟨b,off+0*2+0,none⟩ (by rw[hcell 0 (by omega) 0 (by omega)];rfl),fun i hi=> ?_⟩;have e:((List.range len).map F).getD i Tm.zero=F i:=by simp[List.getD,hi]
  rw[e];exact⟨hcell i hi 0 (by omega),hcell i hi 1 (by omega)⟩
 intro t ht;obtain⟨i,hi,rfl⟩:=List.mem_map.1 ht;exact (hF i (by simpa using hi)).2
end
end
end Go.Proofs.YtakbodlicfmkjaaGreat
