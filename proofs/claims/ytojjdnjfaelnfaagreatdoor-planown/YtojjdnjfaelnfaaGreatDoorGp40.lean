/- Contracts and lemmas. -/
import Derived.Test.YtojjdnjfaelnfaaGreatDoorGp37
import Derived.Test.YtojjdnjfaelnfaaGreatDoorGp38
import Derived.Test.YtojjdnjfaelnfaaGreatDoorGp39
set_option maxHeartbeats 4000000
set_option maxRecDepth 100000
namespace Go.Proofs.YtojjdnjfaelnfaaGreatDoor
set_option linter.unusedSimpArgs false
set_option linter.unusedVariables false
namespace Kf
open Go.ChangeShapes Go.WideShapes Go.ChangeAt Go.RowKit Go.Lib Go.Proofs.Tryz
def ops:Array Oper:=#[⟨some 9,.move (.tmp 0),295, "task.go:53",#[],none⟩,⟨some 10,.nilCheck (.tmp 9),0, "task.go:53",#[⟨0,.data⟩],none⟩,⟨some 11,.fieldAddr 300 (.tmp 10) 0,0, "task.go:53",#[⟨1,.data⟩],none⟩,⟨some 12,.fieldAddr 297 (.tmp 11) 0,0, "task.go:53",#[⟨2,.data⟩],none⟩,⟨some 13,.load 152 (.tmp 12),152, "task.go:53",#[⟨3,.data⟩],none⟩,⟨some 14,.nilCheck (.tmp 13),0, "task.go:53",#[⟨4,.data⟩],none⟩,⟨some 15,.fieldAddr 171 (.tmp 14) 2,0, "task.go:53",#[⟨5,.data⟩],none⟩,⟨some 16,.load 159 (.tmp 15),159, "task.go:53",#[⟨6,.data⟩],none⟩,⟨some 17,.move (.tmp 0),295, "task.go:53",#[],none⟩,⟨some 18,.nilCheck (.tmp 17),0, "task.go:53",#[⟨8,.data⟩],none⟩,⟨some 19,.fieldAddr 300 (.tmp 18) 0,0, "task.go:53",#[⟨9,.data⟩],none⟩,⟨some 20,.fieldAddr 297 (.tmp 19) 0,0, "task.go:53",#[⟨10,.data⟩],none⟩,⟨some 21,.load 152 (.tmp 20),152, "task.go:53",#[⟨11,.data⟩],none⟩,⟨some 22,.nilCheck (.tmp 21),0, "task.go:53",#[⟨12,.data⟩],none⟩,⟨some 23,.fieldAddr 171 (.tmp 22) 9,0, "task.go:53",#[⟨13,.data⟩],none⟩,⟨some 24,.load 166 (.tmp 23),166, "task.go:53",#[⟨14,.data⟩],none⟩,⟨some 25,.call {callee:=.value (.func 95),args:=#[.tmp 24],argTypes:=#[166]},3, "task.go:53",#[⟨15,.data⟩],none⟩,⟨some 26,.call {callee:=.value (.func 275),args:=#[.tmp 16,.tmp 25],argTypes:=#[159,3]},243, "task.go:53",#[⟨7,.data⟩,⟨16,.data⟩,⟨16,.chain⟩],none⟩,⟨some 8,.move (.tmp 26),243, "task.go:53",#[⟨17,.data⟩],none⟩,⟨some 27,.extract (.tmp 8) 0,108, "task.go:53",#[⟨18,.data⟩],none⟩,⟨some 28,.extract (.tmp 8) 1,26, "task.go:53",#[⟨18,.data⟩,⟨22,.gcOnly .lateStores⟩],none⟩,⟨some 4,.alloc 108,0, "task.go:53",#[],none⟩,⟨none,.store 108 (.tmp 4) (.tmp 27),0, "task.go:53",#[⟨21,.data⟩,⟨19,.data⟩,⟨17,.chain⟩,⟨0,.phase⟩,⟨1,.phase⟩,⟨2,.phase⟩,⟨3,.phase⟩,⟨4,.phase⟩,⟨5,.phase⟩,⟨6,.phase⟩,⟨7,.phase⟩,⟨8,.phase⟩,⟨9,.phase⟩,⟨10,.phase⟩,⟨11,.phase⟩,⟨12,.phase⟩,⟨13,.phase⟩,⟨14,.phase⟩,⟨15,.phase⟩,⟨16,.phase⟩,⟨17,.phase⟩,⟨18,.phase⟩,⟨19,.phase⟩,⟨20,.textOnly .lateStores⟩,⟨21,.phase⟩],none⟩,⟨some 5,.assign (.tmp 28),26, "task.go:53",#[⟨20,.data⟩,⟨22,.chain⟩,⟨0,.phase⟩,⟨1,.phase⟩,⟨2,.phase⟩,⟨3,.phase⟩,⟨4,.phase⟩,⟨5,.phase⟩,⟨6,.phase⟩,⟨7,.phase⟩,⟨8,.phase⟩,⟨9,.phase⟩,⟨10,.phase⟩,⟨11,.phase⟩,⟨12,.phase⟩,⟨13,.phase⟩,⟨14,.phase⟩,⟨15,.phase⟩,⟨16,.phase⟩,⟨17,.phase⟩,⟨18,.phase⟩,⟨19,.phase⟩,⟨20,.phase⟩,⟨21,.phase⟩,⟨22,.phase⟩],none⟩]
def dl:List (Option Nat):=[some 9,some 10,some 11,some 12,some 13,some 14,some 15,some 16,some 17,some 18,some 19,some 20,some 21,some 22,some 23,some 24,some 25,some 26,some 8,some 27,some 28,some 4,none,some 5]
def pairs(kd mb fb gb B K:Nat)(ma n:Int)(x:Nat):List (Nat×Value):=
 [(9,.pointer (some ⟨kd,0,none⟩)),(10,.pointer (some ⟨kd,0,none⟩)),(11,.pointer (some ⟨kd,0,none⟩)),(12,.pointer (some ⟨kd,0,none⟩)),(13,.pointer (some ⟨mb,0,none⟩)),(14,.pointer (some ⟨mb,0,none⟩)),(15,.pointer (some ⟨mb,5,none⟩)),(16,.pointer (some ⟨fb,0,none⟩)),(17,.pointer (some ⟨kd,0,none⟩)),(18,.pointer (some ⟨kd,0,none⟩)),(19,.pointer (some ⟨kd,0,none⟩)),(20,.pointer (some ⟨kd,0,none⟩)),(21,.pointer (some ⟨mb,0,none⟩)),(22,.pointer (some ⟨mb,0,none⟩)),(23,.pointer (some ⟨mb,12,none⟩)),(24,.pointer (some ⟨gb,0,none⟩)),(25,.int .i64 ma),(26,.tuple #[.agg #[.int .i64 n,.slice (some ⟨B,0,none⟩) K K],.int .i64 0]),(8,.tuple #[.agg #[.int .i64 n,.slice (some ⟨B,0,none⟩) K K],.int .i64 0]),(27,.agg #[.int .i64 n,.slice (some ⟨B,0,none⟩) K K]),(28,.int .i64 0),(4,.pointer (some ⟨x,0,none⟩)),(5,.int .i64 0)]
def kvs(kd mb fb gb B K:Nat)(ma n:Int)(x:Nat):List Value:=(((pairs kd mb fb gb B K ma n 0).map (·.2)).insertIdx 22 undef).set 21 (.pointer (some ⟨x,0,none⟩))
theorem zam{P:Program}{o:Oper}{i:Nat}{X:Type}{vals:X->List Value}{W:X->(Nat->Bool)->World->Prop}{Q:Exit->Act->World->Prop}{x:X}{L:Nat->Bool}{a:Act}{w:World}{v:Value}(hr:(execOp a.eval o).run P w=.ok (.value v) w)(hv:(vals x).getD i undef=v)(hW:W x (updB L i) w):o.wp P a w (fun a' w'=>∃x',a'=a.put o.dst ((vals x').getD i undef)/\(∀j,L j=true->(vals x').getD j undef=(vals x).getD j undef)/\W x' (updB L i) w') Q:=
 zag hr ⟨x,by rw[hv],fun _ _=>rfl,hW⟩
theorem zais{ops:Array Oper}{L:Nat->Bool}(m:Nat)(h:((List.range m).all fun k=>(List.range (m+1)).any fun j=>decide (k<j)&&dep ops j k)=true)(hcl:∀j k,L j=true->dep ops j k=true->L k=true)(hm:L m=true)(i:Nat)(hi:i<=m):L i=true:=by
 generalize e:m-i=d;induction d using Nat.strongRecOn generalizing i with
 |ind d ih=>
  by_cases hq:i=m
  .rw[hq];exact hm
  rw[List.all_eq_true]at h
  have h1:=h i (List.mem_range.2 (by omega));rw[List.any_eq_true]at h1
  obtain⟨j,hj,h2⟩:=h1;simp only[Bool.and_eq_true,decide_eq_true_eq]at h2;have hj2:=List.mem_range.1 hj;exact hcl j i (ih (m-j) (by omega) j (by omega) rfl) h2.2
section
variable{ρ:Operand->Value}{w:World}{o:Oper}{kd mb fb gb B K x:Nat}{ma n:Int}
theorem rM(ho:o.op=.call {callee:=.value (.func 95),args:=#[.tmp 24],argTypes:=#[166]})(hf:ρ (.func 95)=.func (.func 95) #[] #[])(h:ρ (.tmp 24)=.pointer (some ⟨gb,0,none⟩)):(execOp ρ o).run prog w=.ok (.enter 95 #[.pointer (some ⟨gb,0,none⟩)]) w:=by
 obtain⟨d,op,ty,ps,af,gd⟩:=o;simp only at ho;subst ho
 go_simp
theorem rD(ho:o.op=.call {callee:=.value (.func 275),args:=#[.tmp 16,.tmp 25],argTypes:=#[159,3]})(hf:ρ (.func 275)=.func (.func 275) #[] #[])(h:ρ (.tmp 16)=.pointer (some ⟨fb,0,none⟩))(h2:ρ (.tmp 25)=.int .i64 ma):(execOp ρ o).run prog w=.ok (.enter 275 #[.pointer (some ⟨fb,0,none⟩),.int .i64 ma]) w:=by
 obtain⟨d,op,ty,ps,af,gd⟩:=o;simp only at ho;subst ho
 go_simp
theorem rA(ho:o.op=.alloc 108):(execOp ρ o).run prog w=.ok (.value (.pointer (some ⟨w.heap.size,0,none⟩))) (w.alloc (.cells #[.int .i64 0,.slice none 0 0] 108)):=by
 obtain⟨d,op,ty,ps,af,gd⟩:=o;simp only at ho;subst ho
 go_simp
theorem rS(ho:o.op=.store 108 (.tmp 4) (.tmp 27))(h1:ρ (.tmp 4)=.pointer (some ⟨x,0,none⟩))(h2:ρ (.tmp 27)=.agg #[.int .i64 n,.slice (some ⟨B,0,none⟩) K K])(hb:w.heap[x]? = some (.cells #[.int .i64 0,.slice none 0 0] 108 (0,0))):(execOp ρ o).run prog w=.ok .skip ((w.setCell ⟨x,0,none⟩ (.int .i64 n)).setCell ⟨x,1,none⟩ (.slice (some ⟨B,0,none⟩) K K)):=by
 obtain⟨d,op,ty,ps,af,gd⟩:=o;have c0:w.cell? ⟨x,0,none⟩=some (.int .i64 0):=by rw[crw hb];rfl
 have c1:w.cell? ⟨x,1,none⟩=some (.slice none 0 0):=by rw[crw hb];rfl
 have f0:∀j,w.frozen? ⟨x,j,none⟩=false:=fun j=>by simp[World.frozen?,hb]
 simp only at ho;subst ho
 go_simp
theorem rN(y:Operand){a:Addr}(ho:o.op=.nilCheck y)(h:ρ y=.pointer (some a)):(execOp ρ o).run prog w=.ok (.value (.pointer (some a))) w:=by
 obtain⟨d,op,ty,ps,af,gd⟩:=o;simp only at ho;subst ho
 go_simp
theorem rF(y:Operand){t k m b:Nat}(ho:o.op=.fieldAddr t y k)(ht:(t,k,m)∈[(300,0,0),(297,0,0),(171,2,5),(171,9,12)])(h:ρ y=.pointer (some ⟨b,0,none⟩)):(execOp ρ o).run prog w=.ok (.value (.pointer (some ⟨b,m,none⟩))) w:=by
 obtain⟨d,op,ty,ps,af,gd⟩:=o;simp only at ho;subst ho;simp only[List.mem_cons,List.not_mem_nil,or_false,Prod.mk.injEq]at ht;rcases ht with⟨rfl,rfl,rfl⟩|⟨rfl,rfl,rfl⟩|⟨rfl,rfl,rfl⟩|⟨rfl,rfl,rfl⟩<;>go_simp
theorem rL(y:Operand){t:Nat}{a:Addr}{v:Value}(ho:o.op=.load t y)(ht:t∈[152,159,166])(h:ρ y=.pointer (some a))(hc:w.cell? a=some v):(execOp ρ o).run prog w=.ok (.value v) w:=by
 obtain⟨d,op,ty,ps,af,gd⟩:=o;obtain⟨b,i,s⟩:=a;simp only at ho;subst ho;simp only[List.mem_cons,List.not_mem_nil,or_false]at ht;rcases ht with rfl|rfl|rfl<;>go_simp
theorem rV(y:Operand){v:Value}(ho:o.op=.move y\/o.op=.assign y)(h:ρ y=v):(execOp ρ o).run prog w=.ok (.value v) w:=by
 rw[<-h];exact ho.elim (zcg y) (zbp y)
theorem rE(y:Operand){k:Nat}{u v:Value}(ho:o.op=.extract y k)(hk:k=0\/k=1)(h:ρ y=.tuple #[u,v]):(execOp ρ o).run prog w=.ok (.value (if k=0 then u else v)) w:=by
 obtain⟨d,op,ty,ps,af,gd⟩:=o;simp only at ho;subst ho;rcases hk with rfl|rfl<;>go_simp
end
def Wd(w1:World)(B K:Nat)(n:Int)(J0 J1:World->Prop)(x:Nat)(L:Nat->Bool)(w:World):Prop:=
 (L 22=false/\w1.heap.size<=w.heap.size/\(L 17=false->J0 w)/\(L 17=true->J1 w)/\(L 21=true->w1.heap.size<=x/\w.heap[x]? = some (.cells #[.int .i64 0,.slice none 0 0] 108 (0,0)))) \/
 (L 22=true/\∃w',J1 w'/\w1.heap.size<=x/\w'.heap[x]? = some (.cells #[.int .i64 0,.slice none 0 0] 108 (0,0))/\w=(w'.setCell ⟨x,0,none⟩ (.int .i64 n)).setCell ⟨x,1,none⟩ (.slice (some ⟨B,0,none⟩) K K))
theorem Wd.read{w1 w:World}{B K x i:Nat}{n:Int}{J0 J1:World->Prop}{L:Nat->Bool}(h:Wd w1 B K n J0 J1 x L w)(h1:i≠17)(h2:i≠21)(h3:i≠22):Wd w1 B K n J0 J1 x (updB L i) w:=by
 unfold Wd;rw[zbk L (Ne.symm h1),zbk L (Ne.symm h2),zbk L (Ne.symm h3)];exact h
theorem reg{Q:Exit->Act->World->Prop}{a0:Act}{w1:World}{id:Nat}{kd mb fb gb B K:Nat}{ma n:Int}{J0 J1:World->Prop}(hz:a0.tmps.size=66)(t0:env a0 0=.pointer (some ⟨kd,0,none⟩))(q0:∀w w',J0 w->Fr [] w w'->J0 w')(q1:∀w w',J1 w->Fr [] w w'->J1 w')(h0:J0 w1)(hc:∀w,J0 w->w.cell? ⟨kd,0,none⟩=some (.pointer (some ⟨mb,0,none⟩))/\w.cell? ⟨mb,5,none⟩=some (.pointer (some ⟨fb,0,none⟩))/\w.cell? ⟨mb,12,none⟩=some (.pointer (some ⟨gb,0,none⟩)))(hM:∀w,J0 w->Calls prog 95 #[.pointer (some ⟨gb,0,none⟩)] w fun e w'=>e=.returned (.int .i64 ma)/\Fr [] w w')(hDi:∀w,J0 w->Calls prog 275 #[.pointer (some ⟨fb,0,none⟩),.int .i64 ma] w fun e w'=>e=.returned (.tuple #[.agg #[.int .i64 n,.slice (some ⟨B,0,none⟩) K K],.int .i64 0])/\J1 w'/\w.heap.size<=w'.heap.size/\∀x o,w1.heap.size<=x->w.heap[x]? = some o->w'.heap[x]? = some o)(hend:∀x w',J1 w'->w1.heap.size<=x->w'.heap[x]? = some (.cells #[.int .i64 0,.slice none 0 0] 108 (0,0))->Q .normal (puts a0 (pairs kd mb fb gb B K ma n x)) ((w'.setCell ⟨x,0,none⟩ (.int .i64 n)).setCell ⟨x,1,none⟩ (.slice (some ⟨B,0,none⟩) K K))) :
  (Code.region id ops true).wp prog Q a0 w1:=by
 refine zif (kvs kd mb fb gb B K ma n) (Wd w1 B K n J0 J1) dl 66 0 (by kernel_rfl) (by kernel_rfl) (by kernel_rfl) hz (fun _=>rfl) (fun ii o ho x L a w hLi hdl hcl hv hsame hW=> ?_) (Or.inl ⟨rfl,(Fr.drew [] w1).size,fun _=>q0 _ _ h0 (Fr.drew [] w1),fun h=>(by cases h),fun h=>(by cases h)⟩) (fun x L w hL hW=> ?_)
 .have s0:a.eval (.tmp 0)=.pointer (some ⟨kd,0,none⟩):=(hsame 0 (by decide)).trans t0;have hS:dep ops 22 ii=true->L 22=false:=fun hd=>by
   cases h:L 22 with
   |false=>rfl
   |true=>have:=hcl 22 ii h hd;rw[hLi]at this;cases this
  have hD:ii<=17->L 17=false:=fun hi=>by
   cases h:L 17 with
   |false=>rfl
   |true=>have:=zais 17 (by kernel_rfl) hcl h ii hi;rw[hLi]at this;cases this
  have hj:L 22=false->w1.heap.size<=w.heap.size/\(L 17=false->J0 w)/\(L 17=true->J1 w)/\(L 21=true->w1.heap.size<=x/\w.heap[x]? = some (.cells #[.int .i64 0,.slice none 0 0] 108 (0,0))):=fun hS=>by
   rcases hW with h|h
   .exact h.2
   rw[hS]at h;cases h.1
  match ii,ho with
  |0,ho=>cases ho;exact zam (rV _ (Or.inl rfl) s0) rfl (hW.read (by decide) (by decide) (by decide))
  |1,ho=>cases ho;exact zam (rN _ rfl (hv 0 9 (by kernel_rfl) rfl)) rfl (hW.read (by decide) (by decide) (by decide))
  |2,ho=>cases ho;exact zam (rF _ rfl (by decide) (hv 1 10 (by kernel_rfl) rfl)) rfl (hW.read (by decide) (by decide) (by decide))
  |3,ho=>cases ho;exact zam (rF _ rfl (by decide) (hv 2 11 (by kernel_rfl) rfl)) rfl (hW.read (by decide) (by decide) (by decide))
  |4,ho=>cases ho;have hJ:=hj (hS (by kernel_rfl));exact zam (rL _ rfl (by decide) (hv 3 12 (by kernel_rfl) rfl) (hc w (hJ.2.1 (hD (by decide)))).1) rfl (hW.read (by decide) (by decide) (by decide))
  |5,ho=>cases ho;exact zam (rN _ rfl (hv 4 13 (by kernel_rfl) rfl)) rfl (hW.read (by decide) (by decide) (by decide))
  |6,ho=>cases ho;exact zam (rF _ rfl (by decide) (hv 5 14 (by kernel_rfl) rfl)) rfl (hW.read (by decide) (by decide) (by decide))
  |7,ho=>cases ho;have hJ:=hj (hS (by kernel_rfl));exact zam (rL _ rfl (by decide) (hv 6 15 (by kernel_rfl) rfl) (hc w (hJ.2.1 (hD (by decide)))).2.1) rfl (hW.read (by decide) (by decide) (by decide))
  |8,ho=>cases ho;exact zam (rV _ (Or.inl rfl) s0) rfl (hW.read (by decide) (by decide) (by decide))
  |9,ho=>cases ho;exact zam (rN _ rfl (hv 8 17 (by kernel_rfl) rfl)) rfl (hW.read (by decide) (by decide) (by decide))
  |10,ho=>cases ho;exact zam (rF _ rfl (by decide) (hv 9 18 (by kernel_rfl) rfl)) rfl (hW.read (by decide) (by decide) (by decide))
  |11,ho=>cases ho;exact zam (rF _ rfl (by decide) (hv 10 19 (by kernel_rfl) rfl)) rfl (hW.read (by decide) (by decide) (by decide))
  |12,ho=>cases ho;have hJ:=hj (hS (by kernel_rfl));exact zam (rL _ rfl (by decide) (hv 11 20 (by kernel_rfl) rfl) (hc w (hJ.2.1 (hD (by decide)))).1) rfl (hW.read (by decide) (by decide) (by decide))
  |13,ho=>cases ho;exact zam (rN _ rfl (hv 12 21 (by kernel_rfl) rfl)) rfl (hW.read (by decide) (by decide) (by decide))
  |14,ho=>cases ho;exact zam (rF _ rfl (by decide) (hv 13 22 (by kernel_rfl) rfl)) rfl (hW.read (by decide) (by decide) (by decide))
  |15,ho=>cases ho;have hJ:=hj (hS (by kernel_rfl));exact zam (rL _ rfl (by decide) (hv 14 23 (by kernel_rfl) rfl) (hc w (hJ.2.1 (hD (by decide)))).2.2) rfl (hW.read (by decide) (by decide) (by decide))
  |16,ho=>
   cases ho;obtain⟨hsz,hJ0,hJ1,hAx⟩:=hj (hS (by kernel_rfl));refine zbg (rM rfl rfl (hv 15 24 (by kernel_rfl) rfl)) (Calls.mono (hM w (hJ0 (hD (by decide)))) ?_);rintro e w'⟨rfl,hf⟩;refine⟨_,rfl,x,rfl,fun _ _=>rfl,?_⟩;unfold Wd;rw[zbk L (show 17≠16 by decide),zbk L (show 21≠16 by decide),zbk L (show 22≠16 by decide)];exact Or.inl ⟨hS (by kernel_rfl),Nat.le_trans hsz hf.size,fun h=>q0 _ _ (hJ0 h) hf,fun h=>q1 _ _ (hJ1 h) hf,fun h=>⟨(hAx h).1,hf.keep (hAx h).2 (by simp)⟩⟩
  |17,ho=>
   cases ho;obtain⟨hsz,hJ0,hJ1,hAx⟩:=hj (hS (by kernel_rfl));refine zbg (rD rfl rfl (hv 7 16 (by kernel_rfl) rfl) (hv 16 25 (by kernel_rfl) rfl)) (Calls.mono (hDi w (hJ0 hLi)) ?_);rintro e w'⟨rfl,k1,k2,k3⟩;refine⟨_,rfl,x,rfl,fun _ _=>rfl,?_⟩;unfold Wd;rw[zfp,zbk L (show 21≠17 by decide),zbk L (show 22≠17 by decide)];exact Or.inl ⟨hS (by kernel_rfl),Nat.le_trans hsz k2,fun h=>(by cases h),fun _=>k1,fun h=>⟨(hAx h).1,k3 x _ (hAx h).1 (hAx h).2⟩⟩
  |18,ho=>cases ho;exact zam (rV _ (Or.inl rfl) (hv 17 26 (by kernel_rfl) rfl)) rfl (hW.read (by decide) (by decide) (by decide))
  |19,ho=>cases ho;exact zam (rE _ rfl (by simp) (hv 18 8 (by kernel_rfl) rfl)) rfl (hW.read (by decide) (by decide) (by decide))
  |20,ho=>cases ho;exact zam (rE _ rfl (by simp) (hv 18 8 (by kernel_rfl) rfl)) rfl (hW.read (by decide) (by decide) (by decide))
  |21,ho=>
   cases ho;obtain⟨hsz,hJ0,hJ1,hAx⟩:=hj (hS (by kernel_rfl));have hf:Fr [] w (w.alloc (.cells #[.int .i64 0,.slice none 0 0] 108)):=Fr.alloc _ _ _;refine zag (rA rfl) ⟨w.heap.size,rfl,fun j hj=> ?_,?_⟩
   .have e:21≠j:=fun e=>by rw[<-e,hLi]at hj;cases hj
    simp only[kvs,List.getD,List.getElem?_set_ne e]
   .unfold Wd;rw[zfp,zbk L (show 17≠21 by decide),zbk L (show 22≠21 by decide)];exact Or.inl ⟨hS (by kernel_rfl),Nat.le_trans hsz hf.size,fun h=>q0 _ _ (hJ0 h) hf,fun h=>q1 _ _ (hJ1 h) hf,fun _=>⟨hsz,heap_alloc_new _ _⟩⟩
  |22,ho=>
   cases ho;obtain⟨hsz,hJ0,hJ1,hAx⟩:=hj hLi;have hA:=hAx (hdl 21 (by kernel_rfl));unfold Oper.wp;rw[rS rfl (hv 21 4 (by kernel_rfl) rfl) (hv 19 27 (by kernel_rfl) rfl) hA.2];refine⟨x,rfl,fun j hj=>rfl,?_⟩;unfold Wd;rw[zfp];exact Or.inr ⟨rfl,w,hJ1 (hdl 17 (by kernel_rfl)),hA.1,hA.2,rfl⟩
  |23,ho=>cases ho;exact zam (rV _ (Or.inr rfl) (hv 20 28 (by kernel_rfl) rfl)) rfl (hW.read (by decide) (by decide) (by decide))
  |n+24,ho=>cases ho
 rcases hW with⟨h,_⟩|⟨_,w',a1,a2,a3,rfl⟩
 .rw[hL 22 (by decide)]at h;cases h
 exact hend x w' a1 a2 a3
end Kf
section
open Go.ChangeShapes Go.WideShapes Go.ChangeAt Go.RowKit Go.Lib Go.Maps Go.Proofs.Tryz
section
variable{w0 w w':World}{c:Cf}{T:List Tx}{Z:Lay}{s:Ms}
def Xb(W:World)(x:Nat)(n:Int)(B K:Nat):Prop:=W.heap[x]? = some (.cells #[.int .i64 n,.slice (some ⟨B,0,none⟩) K K] 108 (0,0))
theorem zafp(T:List Tx)(kb:Int->Nat)(wt:Int->Prop)(n:Int):updF (wtF T kb wt) n (some (some (n,kb n,(wsAt T n).length)))=wtF T kb (fun m=>wt m\/m=n):=by
 funext m
 by_cases e:m=n
 .subst e;rw[zae];unfold wtF;rw[if_pos (Or.inr rfl)]
 rw[zab _ _ e];unfold wtF;by_cases hm:wt m
 .rw[if_pos hm,if_pos (Or.inl hm)]
 rw[if_neg hm,if_neg (fun x=>x.elim hm e)]
def Z1D(Z:Lay)(n:Int)(B:Nat):Lay:={Z with hw:=.slice none 0 0,kb:=kbU Z.kb n B,nr:=Z.nr+1}
def s1D(s:Ms):Ms:={s with hv:=false}
theorem zze(h:MaM w0 w c T Z s)(hnr:Z.nr=s.d)(hW:Wf c T s)(hv:s.hv=true)(hnear:(s.rd:Int)<=s.ma+c.w)(hk:s.k<16000000) :
  Calls prog 271 #[.pointer (some ⟨Z.z.kd,0,none⟩)] w fun e w'=>e=.returned (.tuple #[.int .i64 (s.rd:Int),.int .i64 (((zax T s).length:Nat):Int)])/\∃Z',Dn w0 c T w Z s w' Z' (zay T s)/\Z'.nr=(zay T s).d:=by
 have hrd:=hW.hol hv;have hrdi:(s.rd:Int)=((s.d+1:Nat):Int):=by omega
 have hopn:∀n,Opn T s n->n<=(s.d:Int):=fun n hn=>((hW.op).1 hn).1.2;have hwt:¬s.wt (s.rd:Int):=fun x=>by have:=hopn _ ((hW.wait _).1 x).1;omega
 have hline:(s.rd:Int)∉s.line:=fun x=>by have:=hopn _ (hW.line _ x).1;omega
 have hT:=hW.fdl;have hok:okT (s.rd:Int) (wsAt T s.rd):=hW.txn (by omega) (by omega);have hfbl:Z.z.fb<w.heap.size:=h.fe.m.lt;obtain⟨B,hB⟩:∃B,Z.hw=.slice (some ⟨B,0,none⟩) (wsAt T s.rd).length (wsAt T s.rd).length:=h.heldB hv hrd;obtain⟨K,hK⟩:∃K,(wsAt T s.rd).length=K:=⟨_,rfl⟩;obtain⟨N,hN⟩:∃N:Int,(s.rd:Int)=N:=⟨_,rfl⟩;obtain⟨ma,hma⟩:∃ma:Int,s.ma=ma:=⟨_,rfl⟩;have HRg:Hid (∀(Q:Exit->Act->World->Prop)(a0:Act)(id:Nat),a0.tmps.size=66->env a0 0=.pointer (some ⟨Z.z.kd,0,none⟩) ->
   (∀x w',(Dn w0 c T w Z s w' (Z1D Z N B) (s1D s)/\∀b,w.heap.size<=b->MaM.off w0 w' c T (Z1D Z N B) (s1D s) b)->w.heap.size<=x->w'.heap[x]? = some (.cells #[.int .i64 0,.slice none 0 0] 108 (0,0))->Q .normal (puts a0 (Kf.pairs Z.z.kd Z.z.mb Z.z.fb Z.z.gb B K ma N x)) ((w'.setCell ⟨x,0,none⟩ (.int .i64 N)).setCell ⟨x,1,none⟩ (.slice (some ⟨B,0,none⟩) K K)))->(Code.region id Kf.ops true).wp prog Q a0 w):=fun Q a0 id e1 e2 e3=>by
  refine Kf.reg (J0:=fun W=>Fr [] w W) (J1:=fun W=>Dn w0 c T w Z s W (Z1D Z N B) (s1D s)/\∀b,w.heap.size<=b->MaM.off w0 W c T (Z1D Z N B) (s1D s) b) e1 e2 (fun W W' hD hf=>hD.then hf) (fun W W' hD hf=>⟨hD.1.trans (hD.1.m.dn hf),fun b hb=>hD.1.m.otherO hf (by simp) (hD.2 b hb)⟩) (Fr.refl _ _) (fun W hD=>⟨(h.quiet hD).kdc.1,(h.quiet hD).mc rfl,(h.quiet hD).mc rfl⟩) (fun W hD=> ?_) (fun W hD=> ?_) e3
  .rw[<-hma];exact zjk (h.quiet hD).ga
  rw[<-hma];refine ((h.quiet hD).disF hnr hv hrd hwt hline hnear).mono ?_;rintro e W'⟨B',hB',rfl,_,hD',hf,hoff⟩;have eB:B'=B:=by rw[hB]at hB';cases hB';rfl
  subst eB;rw[hN]at hD' hoff hK
  refine⟨by rw[hN,hK],⟨(h.dn hD).trans hD',fun b hb=> ?_⟩,hf.size,fun x o hx ho=> ?_⟩
  .by_cases hbl:b<W.heap.size
   .exact hD'.off hbl (h.otherO hD (by simp) (h.offNew hb))
   exact hoff b (by omega)
  exact hf.keep ho (by simp;omega)
 have hrowB:∀W,Dn w0 c T w Z s W (Z1D Z N B) (s1D s)->W.heap[B]? = some (.cells (wtsC (wsAt T s.rd)).toArray 91 (0,0)):=fun W hD=>by
  have h2:=(hD.m.re (s.rd:Int) (by omega) (by show (s.rd:Int)<=((Z.nr+1:Nat):Int);omega)).1;have e:(Z1D Z N B).kb (s.rd:Int)=B:=by show kbU Z.kb N B (s.rd:Int)=B;rw[hN,zfn]
  rw[e]at h2
  exact h2
 have hroom:s.line.length<c.w.toNat:=by
  have:=zkq (l:=s.line++[(s.rd:Int)]) (a:=s.ma) (q:=c.w) (by
   rw[List.nodup_append];refine⟨hW.nd1,by simp,fun a ha b hb e=> ?_⟩;rw[List.mem_singleton.1 hb]at e
   exact hline (e▸ha)) (fun x hx=>by
   rcases List.mem_append.1 hx with hx|hx
   .exact hW.near (hW.line x hx).1
   rw[List.mem_singleton.1 hx];refine⟨?_,hnear⟩;apply Classical.byContradiction;intro h5;have:=hW.enl _ ((hW.en (s.rd:Int)).2 ⟨by omega,Or.inl (by omega)⟩);omega)
  rw[List.length_append]at this
  simp only[List.length_cons,List.length_nil]at this;omega
 obtain⟨xs,hxs⟩:∃xs,zax T s=xs:=⟨_,rfl⟩;have HC2:Hid (∀W x,Dn w0 c T w Z s W (Z1D Z N B) (s1D s)->MaM.off w0 W c T (Z1D Z N B) (s1D s) x->Xb W x N B K->Calls prog 276 #[.pointer (some ⟨Z.z.tb,0,none⟩),.agg #[.int .i64 N,.slice (some ⟨B,0,none⟩) K K]] W fun e w'=>e=.returned (.tuple #[.int .i64 ((xs.length:Nat):Int),.int .i64 0])/\w'.cell? ⟨Z.z.kd,0,none⟩=some (.pointer (some ⟨Z.z.mb,0,none⟩))/\w'.cell? ⟨Z.z.mb,6,none⟩=some (.pointer (some ⟨Z.z.tb,0,none⟩))/\w'.cell? ⟨x,0,none⟩=some (.int .i64 N)/\w'.cell? ⟨x,1,none⟩=some (.slice (some ⟨B,0,none⟩) K K)/\w'.cell? ⟨Z.z.mb,7,none⟩=some (.map (some Z.z.wb))/\∃Z2,Dn w0 c T w Z s w' Z2 {s1D s with d:=s.d+1,k:=s.k+1}/\Z2.nr=Z.nr+1/\Z2.kb=kbU Z.kb N B/\Z2.nw=Z.nw/\MaM.off w0 w' c T Z2 {s1D s with d:=s.d+1,k:=s.k+1} x/\Xb w' x N B K):=fun W x hD ho hx=>by
  have hde:=hD.m.de;have hr:=hrowB W hD;have hne:0<(wsAt T s.rd).length->∀a,some (⟨B,0,none⟩:Addr)=some a->a.block∉(Z1D Z N B).B:=fun _ a e hm=>by
   cases e;have h1:(mP w0 c T (Z1D Z N B) (s1D s) .de).O W B:=hm;have h2:(mP w0 c T (Z1D Z N B) (s1D s) .re).O W B:=⟨(s.rd:Int),by omega,by show (s.rd:Int)<=((Z.nr+1:Nat):Int);omega,by show B=kbU Z.kb N B (s.rd:Int);rw[hN,zfn]⟩;have:=hD.m.m.ap .de .re B h1 h2;cases this
  refine Calls.mono (zahs N (some ⟨B,0,none⟩) K K (wsAt T s.rd) W hde (WRs.of_ok hok hr) hK.symm (by rw[<-hN];exact hok) (fun p hp=> ?_) (by have:=hD.m.few.1;have:(Z1D Z N B).nd<=65*s.k:=this;omega) hne) ?_
  .have:=(zfb T _).1 hp;have:p.1<=(s.d:Int):=this.1.2;omega
  rintro e w'⟨ys,B',rfl,hA,hTl,hnew,hf⟩;have eL:lgT T (s1D s).d++[(N,zar (wsAt T s.rd))]=lgT T (s.d+1):=by rw[zhn,<-hrdi,hN];rfl
  rw[eL]at hTl
  have ey:ys=xs:=by
   rw[<-hxs];exact (zll hA).symm
  subst ey;have hD2:=hD.m.setDe (k:=s.k+1) hf (fun b hb _=>hb) hTl hnew (by have:(Z1D Z N B).nd<=65*s.k:=hD.m.few.1;omega) (Nat.le_succ _) (by show s.d+1<=Z.nr+1;omega);have hDD:=hD.trans hD2;have hx':=hD2.keep hx ho;exact⟨rfl,by have:=hDD.m.kdc.1;rw[hDD.z]at this;exact this,hDD.mc rfl,by rw[crw hx'];rfl,by rw[crw hx'];rfl,hDD.mc rfl,_,hDD,rfl,rfl,rfl,hD2.off (lt_of_block hx) ho,hx'⟩
 have HC3:Hid (∀W3 Z2 x,Dn w0 c T w Z s W3 Z2 {s1D s with d:=s.d+1,k:=s.k+1}->Z2.nr=Z.nr+1->Z2.kb=kbU Z.kb N B->Z2.nw=Z.nw->MaM.off w0 W3 c T Z2 {s1D s with d:=s.d+1,k:=s.k+1} x->Xb W3 x N B K->∃w4,(Instr.mapUpdate 161 (.map (some Z.z.wb)) (.int .i64 N) (.agg #[.int .i64 N,.slice (some ⟨B,0,none⟩) K K])).run prog W3=.ok () w4/\∀W5,Fr [] w4 W5->W5.cell? ⟨Z.z.kd,0,none⟩=some (.pointer (some ⟨Z.z.mb,0,none⟩))/\W5.cell? ⟨Z.z.mb,7,none⟩=some (.map (some Z.z.wb))/\Xb W5 x N B K/\(xs≠[]->∃Z',Dn w0 c T w Z s W5 Z' (zay T s)/\Z'.nr=(zay T s).d)/\(xs=[]->Calls prog 277 #[.pointer (some ⟨Z.z.mb,0,none⟩),.int .i64 N] W5 fun e w'=>(∃v,e=.returned v)/\w'.cell? ⟨Z.z.kd,0,none⟩=some (.pointer (some ⟨Z.z.mb,0,none⟩))/\w'.cell? ⟨x,0,none⟩=some (.int .i64 N)/\∃Z',Dn w0 c T w Z s w' Z' (zay T s)/\Z'.nr=(zay T s).d)):=fun W3 Z2 x hD e1 e2 e3 ho hx=>by
  have hwa:=hD.m.wa;have hnw:=hD.m.few.2.1;have hin:i64 N:=.of ⟨by rw[<-hN];exact hok.1,by rw[<-hN];exact hok.2.1⟩;obtain⟨w4,r1,r2,r3⟩:=hwa.store N (some (N,B,K)) hin (by show Z2.nw<maxLen;have:Z2.nw<=s.k+1:=hnw;unfold maxLen;omega);have ekb:Z2.kb N=B:=by rw[e2,zfn]
  have eK:(wsAt T N).length=K:=by rw[<-hK,hN]
  have ewt:updF (wtF T Z2.kb s.wt) N (some (some (N,B,K)))=wtF T Z2.kb (fun m=>s.wt m\/m=N):=by
   rw[<-zafp,ekb,eK]
  have r2':MapG kTx w4 Z2.z.wb (Z2.nw+1) (wtF T Z2.kb (fun m=>s.wt m\/m=N)):=by rw[<-ewt];exact r2
  have hwbl:w4.heap.size ≥ W3.heap.size:=r3.size;have hD3:=hD.m.setWa (wt:=fun m=>s.wt m\/m=N) (k:=s.k+1) r3 r2' (by
   have:Z2.nw<=s.k:=by rw[e3];exact h.few.2.1
   omega) (Nat.le_refl _)
  have hx4:=hD3.keep hx ho;have ho4:=hD3.off (lt_of_block hx) ho;refine⟨w4,by have:=hD.z;rw[this]at r1;exact r1,fun W5 hf=> ?_⟩;have hD5:=(hD.trans hD3).trans (hD3.m.dn hf);have hx5:Xb W5 x N B K:=hf.keep hx4 (by simp);have ho5:=hD3.m.otherO hf (by simp) ho4;refine⟨by have:=hD5.m.kdc.1;rw[hD5.z]at this;exact this,hD5.mc rfl,hx5,fun hne=> ?_,fun hem=> ?_⟩
  .have es:zay T s={s with hv:=false,d:=s.d+1,wt:=fun m=>s.wt m\/m=N,k:=s.k+1}:=by
    unfold zay;rw[hxs,if_neg hne,if_neg hne,hN]
   rw[es];exact⟨_,hD5,by show Z2.nr=s.d+1;omega⟩
  have hfree:=znv hD5.m (n:=N) hin (Or.inr rfl) hroom;have em:Z2.z.mb=Z.z.mb:=by rw[hD.z]
  rw[<-em];refine hfree.mono ?_;rintro e w6⟨hv6,p',hD6⟩;have hD7:=hD5.trans hD6;refine⟨hv6,by rw[em];have:=hD7.m.kdc.1;rw[hD7.z]at this;exact this,by rw[crw (hD6.keep hx5 ho5)];rfl,?_⟩;have es:zay T s={s with hv:=false,d:=s.d+1,line:=s.line++[N],wt:=fun m=>(s.wt m\/m=N)/\m≠N,k:=s.k+1}:=by
   unfold zay;rw[hxs,if_pos hem,if_pos hem,hN]
   congr 1
   funext m
   apply propext;constructor
   .intro a;exact⟨Or.inl a,fun e=>hwt (by rw[hN,<-e];exact a)⟩
   rintro⟨a|a,b⟩
   .exact a
   exact absurd a b
  rw[es];exact⟨_,hD5.trans hD6,by show Z2.nr=s.d+1;omega⟩
 have HX:Hid (∀x w',(Dn w0 c T w Z s w' (Z1D Z N B) (s1D s)/\∀b,w.heap.size<=b->MaM.off w0 w' c T (Z1D Z N B) (s1D s) b)->w.heap.size<=x->w'.heap[x]? = some (.cells #[.int .i64 0,.slice none 0 0] 108 (0,0))->∀W,Fr [] ((w'.setCell ⟨x,0,none⟩ (.int .i64 N)).setCell ⟨x,1,none⟩ (.slice (some ⟨B,0,none⟩) K K)) W->Dn w0 c T w Z s W (Z1D Z N B) (s1D s)/\MaM.off w0 W c T (Z1D Z N B) (s1D s) x/\Xb W x N B K/\W.cell? ⟨Z.z.kd,0,none⟩=some (.pointer (some ⟨Z.z.mb,0,none⟩))/\W.cell? ⟨Z.z.mb,6,none⟩=some (.pointer (some ⟨Z.z.tb,0,none⟩))):=fun x w' hD hx hb W hf=>by
  have f1:Fr [x] w' ((w'.setCell ⟨x,0,none⟩ (.int .i64 N)).setCell ⟨x,1,none⟩ (.slice (some ⟨B,0,none⟩) K K)):=(Fr.set _ _ _ (by simp)).then (Fr.set _ _ _ (by simp));have hox:=hD.2 x hx;have hD2:=hD.1.finS h (Fr.refl _ _) (S:=[x]) (fun b hb'=>by rw[List.mem_singleton.1 hb'];exact⟨hx,hox⟩) f1;have ho2:=hD.1.m.otherO f1 (fun b hb'=>by rw[List.mem_singleton.1 hb'];exact⟨by have:=h.fr.size;omega,hox⟩) hox;have hb2:Xb ((w'.setCell ⟨x,0,none⟩ (.int .i64 N)).setCell ⟨x,1,none⟩ (.slice (some ⟨B,0,none⟩) K K)) x N B K:=zef _ (zef _ hb);have hD3:=hD2.trans (hD2.m.dn hf);exact⟨hD3,hD2.m.otherO hf (by simp) ho2,hf.keep hb2 (by simp),by have:=hD3.m.kdc.1;rw[hD3.z]at this;exact this,hD3.mc rfl⟩
 rw[hN,hxs];clear h hnr hW hv hnear hk hrd hrdi hopn hwt hline hT hok hB hK hN hma hrowB hroom hxs hfbl;go_enter func271,ntmps271;go_upto_region 1 with fail
 refine HRg.out _ _ _ rfl rfl ?_;clear HRg;rintro x w' hD hx hb;obtain⟨w2,HW2⟩:∃w2,Hid ((w'.setCell ⟨x,0,none⟩ (.int .i64 N)).setCell ⟨x,1,none⟩ (.slice (some ⟨B,0,none⟩) K K)=w2):=⟨_,rfl⟩;have hX:=HX.out x w' hD hx hb;rw[HW2.out]at hX ⊢
 have HX2:Hid (∀W,Fr [] w2 W->_):=hX;clear hX HX HW2 hD hx hb;simp only[Kf.pairs,puts,Act.put];rename_i KK hKK;show KK _ _;refine hKK _ _ ?_;obtain⟨hD2,ho2,hx2,y0,y6⟩:=HX2.out w2 (Fr.refl _ _);have x0:w2.cell? ⟨x,0,none⟩=some (.int .i64 N):=by rw[crw hx2];rfl
 have x1:w2.cell? ⟨x,1,none⟩=some (.slice (some ⟨B,0,none⟩) K K):=by rw[crw hx2];rfl
 obtain⟨hD3,ho3,hx3,_,_⟩:=HX2.out w2.drew (Fr.drew _ _);have HCA:Hid (Calls ..):=HC2.out w2.drew x hD3 ho3 hx3;clear hD2 ho2 hx2 hD3 ho3 hx3 HX2 HC2;go_upto_region 2 with fail
 go_region_held3 (fun W=>W.cell? ⟨Z.z.kd,0,none⟩=some (.pointer (some ⟨Z.z.mb,0,none⟩))/\W.cell? ⟨Z.z.mb,6,none⟩=some (.pointer (some ⟨Z.z.tb,0,none⟩))/\W.cell? ⟨x,0,none⟩=some (.int .i64 N)/\W.cell? ⟨x,1,none⟩=some (.slice (some ⟨B,0,none⟩) K K)) (go_keep)
  (first
   |(with_reducible refine Calls.mono HCA.out ?_;rintro e w3⟨rfl,a0,a6,ax0,ax1,a7,Z2,g1,g2,g3,g4,g5,g6⟩))
 have HD3:Hid (Dn w0 c T w Z s w3.drew Z2 {s1D s with d:=s.d+1,k:=s.k+1}):=g1.trans (g1.m.dn (Fr.drew _ _));have ho3:=g1.m.otherO (Fr.drew [] w3) (by simp) g5;have hx3:Xb w3.drew x N B K:=(Fr.drew [] w3).keep g6 (by simp);obtain⟨w4,hmu,hN4⟩:=HC3.out w3.drew Z2 x HD3.out g2 g3 g4 ho3 hx3;have HN4:Hid (∀W5,Fr [] w4 W5->_):=hN4;obtain⟨b0,b7,bx,_,_⟩:=hN4 w4 (Fr.refl _ _);have bx0:w4.cell? ⟨x,0,none⟩=some (.int .i64 N):=by rw[crw bx];rfl
 have bx1:w4.cell? ⟨x,1,none⟩=some (.slice (some ⟨B,0,none⟩) K K):=by rw[crw bx];rfl
 clear g1 g2 g3 g4 g5 g6 HD3 ho3 hx3 hN4 bx HC3 HCA y0 y6 x0 x1;go_upto_region 3 with fail
 go_region_held3 (fun W=>W.cell? ⟨Z.z.kd,0,none⟩=some (.pointer (some ⟨Z.z.mb,0,none⟩))/\W.cell? ⟨Z.z.mb,7,none⟩=some (.map (some Z.z.wb))/\W.cell? ⟨x,0,none⟩=some (.int .i64 N)/\W.cell? ⟨x,1,none⟩=some (.slice (some ⟨B,0,none⟩) K K)) (go_keep) (fail)
 clear hmu a0 a6 ax0 ax1 a7;by_cases hxs:xs=[]
 .subst hxs;simp only[List.length_nil];have HXS:Hid (([]:List Int)=[]):=rfl;obtain⟨_,_,_,_,hC⟩:=HN4.out w4.drew (Fr.drew _ _);have HC:Hid (Calls ..):=hC HXS.out;clear HN4 hC b7;go_wp2_with fail
  go_region_held3 (fun W=>W.cell? ⟨Z.z.kd,0,none⟩=some (.pointer (some ⟨Z.z.mb,0,none⟩))/\W.cell? ⟨x,0,none⟩=some (.int .i64 N)) (go_keep)
   (first
    |(with_reducible refine Calls.mono HC.out ?_;rintro e w5⟨⟨vv,rfl⟩,c50,c5x,hfin⟩))
  have HFin:Hid (∃Z',_):=hfin;clear hfin;go_wp2_with fail
  refine bodyPost_ret (zfm rfl _ _ _) rfl ?_;exact⟨rfl,HFin.out⟩
 obtain⟨_,_,_,hC,_⟩:=HN4.out w4 (Fr.refl _ _);have HFin:Hid (∃Z',_):=hC hxs;have hL0:0<xs.length:=List.length_pos_iff.2 hxs;obtain⟨L,hL⟩:∃L,xs.length=L:=⟨_,rfl⟩;have HL:Hid (xs.length=L):=hL;rw[hL]at hL0 ⊢
 clear HN4 hC hxs hL b7 b0;go_wp2_with fail
 refine bodyPost_ret (zfm rfl _ _ _) rfl ?_;exact⟨by rw[HL.out];rfl,HFin.out⟩
end
section
variable{w0 w w':World}{c:Cf}{T:List Tx}{Z:Lay}{s:Ms}
theorem zafr(h:MaM w0 w c T Z s)(hnr:Z.nr=s.d)(hW:Wf c T s)(hv:s.hv=true)(hnear:(s.rd:Int)<=s.ma+c.w)(hk:s.k<16000000):Calls prog 267 #[.pointer (some ⟨Z.z.kd,0,none⟩),.int .u8 3] w fun e w'=>StP w0 c T w Z s (s.rd:Int) 0 (((zax T s).length:Nat):Int) (zay T s) e w':=by
 obtain⟨w1,HW1⟩:∃w1,Hid (w.alloc (.cells #[.int .i64 0,.int .u8 0,.int .i64 0,.int .i64 0,.int .i64 0,.int .i64 0] 62)=w1):=⟨_,rfl⟩;obtain⟨A,HA⟩:∃A,Hid (w.heap.size=A):=⟨_,rfl⟩;have hF1:Fr [] w w1:=by rw[<-HW1.out];exact Fr.alloc _ _ _
 have hBx:Bx w0 c T w1 Z s A:=by rw[<-HW1.out,<-HA.out];exact Bx.new h
 have h1:=h.quiet hF1;obtain⟨N,hN⟩:∃N:Int,(s.rd:Int)=N:=⟨_,rfl⟩;obtain⟨C,hC⟩:∃C:Int,(((zax T s).length:Nat):Int)=C:=⟨_,rfl⟩;have HC1:Hid (Calls prog 271 #[.pointer (some ⟨Z.z.kd,0,none⟩)] w1 fun e w'=>e=.returned (.tuple #[.int .i64 N,.int .i64 C])/\w'.heap[A]? = some (.cells #[.int .i64 0,.int .u8 0,.int .i64 0,.int .i64 0,.int .i64 0,.int .i64 0] 62 (0,0))/\∀W',Fr [A] w' W'->∃Z',Dn w0 c T w Z s W' Z' (zay T s)/\Z'.nr=(zay T s).d):=by
  refine (zze h1 hnr hW hv hnear hk).mono ?_;rintro e w'⟨rfl,Z',hD,hnr'⟩;refine⟨by rw[hN,hC],(hBx.then hD).box,fun W' hf=>⟨_,hD.fin h hF1 (by rw[HA.out];exact Nat.le_refl _) hBx hf,hnr'⟩⟩
 rw[hN,hC];clear h hnr hW hv hnear hk hF1 hBx h1 hN hC;go_enter func267,ntmps267;go_upto_region 1 with fail
 rw[HW1.out,HA.out];clear HW1 HA;go_wp2_with fail
 refine Calls.mono HC1.out ?_;rintro e w2⟨rfl,hb,hfin⟩;have HFin:Hid (∀W',_->_):=hfin;clear hfin HC1;go_wp2_with (first
  |(refine zak rfl _ _ rfl A 0 0 N 0 C 0 rfl rfl 0 0 0 0 0 0 hb ?_;intro w6 hw6 hf6;have HF6:Hid _:=HFin.out _ hf6;clear hf6)
  |fail)
 refine bodyPost_ret (zba rfl _ _ _ A _ rfl (zcs hw6.out)) rfl ?_;exact⟨rfl,HF6.out⟩
end
theorem zud{c:Cf}(hm:c.may)(x:Wt):0<=(Cf.shard c x.key).1/\(Cf.shard c x.key).1<c.s:=by
 have h:=hm.2.1;unfold Cf.shard;rw[if_neg (by simpa using hm)];split
 .simp only;omega
 simp only[zlf];exact⟨Int.emod_nonneg _ (by omega),Int.emod_lt_of_pos _ (by omega)⟩
theorem zaix{c:Cf}(hm:c.may)(x:Wt):shW c x<c.s.toNat:=by
 have:=zud hm x;unfold shW;omega
open Classical in
theorem zzf(P:Int->Prop)(d:Nat)(h:∀m,P m->1<=m/\m<=(d:Int)):∃xs:List Int,Ris xs/\∀m,m∈xs↔P m:=by
 refine⟨((List.range d).map fun(i:Nat)=>((i:Int)+1)).filter fun m=>decide (P m),?_,fun m=> ?_⟩
 .refine List.Pairwise.filter _ (List.pairwise_map.2 ?_);exact List.pairwise_lt_range.imp fun h=>by omega
 rw[List.mem_filter,List.mem_map];constructor
 .rintro⟨_,h2⟩;exact of_decide_eq_true h2
 intro hm;obtain⟨a,b⟩:=h m hm;exact⟨⟨(m-1).toNat,List.mem_range.2 (by omega),by omega⟩,decide_eq_true hm⟩
theorem zrb(T:List Tx)(d:Nat)(en:Int->Prop)(ks:List ByteArray):∃xs,AdT (lgT T d) en ks xs:=by
 obtain⟨xs,h1,h2⟩:=zzf (fun m=>Op11 (lgT T d) en m/\∃k∈ks,lst (lgT T d) k=m) d (fun m hm=>(op_iff.1 hm.1).1);exact⟨xs,h1,h2⟩
theorem zrc(T:List Tx)(d:Nat)(en:Int->Prop)(n:Int):∃zs,DoT (lgT T d) (Op11 (lgT T d) en) n zs:=by
 obtain⟨xs,h1,h2⟩:=zzf (fun o=>Op11 (lgT T d) en o/\Dep (lgT T d) o n/\∀m,Op11 (lgT T d) en m->m≠n->¬Dep (lgT T d) o m) d (fun m hm=>(op_iff.1 hm.1).1);exact⟨xs,h1,h2⟩
def canT(c:Cf)(s:Ms)(q:Nat):Nat:=if q=0 then canD c s else if q<=c.l.toNat then canW c s (q-1) else if q<=c.l.toNat+c.s.toNat then canK s (q-c.l.toNat-1) else canG s
def tyT(c:Cf)(q:Nat):TypeId:=if q=0 then 295 else if q<=c.l.toNat then 301 else if q<=c.l.toNat+c.s.toNat then 304 else 307
def bT(c:Cf)(Z:St)(q:Nat):Nat:=if q=0 then Z.kd else if q<=c.l.toNat then Z.kw (q-1) else if q<=c.l.toNat+c.s.toNat then Z.kk (q-c.l.toNat-1) else Z.kg
def canF(c:Cf)(q:Nat):FuncId:=if q=0 then 264 else if q<=c.l.toNat then 287 else if q<=c.l.toNat+c.s.toNat then 321 else 373
def zgd(c:Cf)(q:Nat):FuncId:=if q=0 then 267 else if q<=c.l.toNat then 289 else if q<=c.l.toNat+c.s.toNat then 322 else 374
theorem zacd(c:Cf)(Z:St)(q:Nat):zbn c Z q=.iface (tyT c q) (.pointer (some ⟨bT c Z q,0,none⟩)):=by
 unfold zbn tyT bT;split
 .rfl
 split
 .rfl
 split
 .rfl
 rfl
theorem zadr(c:Cf)(Z:St)(q:Nat)(w:World):(method 662 (tyT c q) (.pointer (some ⟨bT c Z q,0,none⟩)) "towpath/replica.can").run prog w=.ok (canF c q,.pointer (some ⟨bT c Z q,0,none⟩)) w:=by
 unfold tyT bT canF;split
 .exact zaio _ _
 split
 .exact zaip _ _
 split
 .exact zaiq _ _
 exact zair _ _
theorem zaiy(c:Cf)(Z:St)(q:Nat)(w:World):(method 662 (tyT c q) (.pointer (some ⟨bT c Z q,0,none⟩)) "towpath/replica.step").run prog w=.ok (zgd c q,.pointer (some ⟨bT c Z q,0,none⟩)) w:=by
 unfold tyT bT zgd;split
 .exact zafg _ _
 split
 .exact zafh _ _
 split
 .exact zafi _ _
 exact zafj _ _
theorem znw(c:Cf)(q:Nat):∀args w,(callFunc (canF c q) args).run prog w=.ok (.enter (canF c q) args) w:=by
 unfold canF;split
 .exact enters_of func264 (by kernel_rfl) rfl
 split
 .exact enters_of func287 (by kernel_rfl) rfl
 split
 .exact enters_of func321 (by kernel_rfl) rfl
 exact enters_of func373 (by kernel_rfl) rfl
theorem zvy(c:Cf)(q:Nat):∀args w,(callFunc (zgd c q) args).run prog w=.ok (.enter (zgd c q) args) w:=by
 unfold zgd;split
 .exact enters_of func267 (by kernel_rfl) rfl
 split
 .exact enters_of func289 (by kernel_rfl) rfl
 split
 .exact enters_of func322 (by kernel_rfl) rfl
 exact enters_of func374 (by kernel_rfl) rfl
section
variable{w0 w w':World}{c:Cf}{T:List Tx}{Z:Lay}{s:Ms}
theorem zako(h:MaM w0 w c T Z s){q:Nat}(hq:q<c.l.toNat+c.s.toNat+2):(method 662 (tyT c q) (.pointer (some ⟨bT c Z.z q,0,none⟩)) "towpath/replica.number").run prog w=.ok (266,.agg #[.pointer (some ⟨Z.z.mb,0,none⟩),.int .i64 (q:Int)]) w:=by
 unfold tyT bT;by_cases h1:q=0
 .rw[if_pos h1,if_pos h1];have:=h.kdc;exact zyu this.1 (by rw[this.2,h1];rfl)
 rw[if_neg h1,if_neg h1];by_cases h2:q<=c.l.toNat
 .rw[if_pos h2,if_pos h2];have:=h.kwc (i:=q-1) (by omega);exact zyv this.1 (by rw[this.2.1,show q-1+1=q by omega])
 rw[if_neg h2,if_neg h2];by_cases h3:q<=c.l.toNat+c.s.toNat
 .rw[if_pos h3,if_pos h3];have:=h.kkc (j:=q-c.l.toNat-1) (by omega);exact zyw this.1 (by rw[this.2.1,show c.l.toNat+1+(q-c.l.toNat-1)=q by omega])
 rw[if_neg h3,if_neg h3];have:=h.kgc;exact zyx this.1 (by rw[this.2,show c.l.toNat+c.s.toNat+1=q by omega])
theorem Wf.lnOk(hW:Wf c T s){i:Nat}(hi:i<c.l.toNat){g:Hl}(hn:s.ln i=some g):LnOk c g:=by
 have ho:=(hW.lane i g hi hn).1;have hb:=(hW.op.1 ho).1;have hdT:=hW.dT;have hok:=hW.txn hb.1 (by omega);obtain⟨A,hA,_⟩:=hW.las i g hi hn;refine⟨⟨hok.1,hok.2.1⟩,fun y hy=>⟨hok.2.2.2 y (zpv _ y (by rw[hA];exact List.mem_append_right _ hy)),zud hW.may y⟩⟩
theorem zue(h:MaM w0 w c T Z s)(hW:Wf c T s){q:Nat}(hq:q<c.l.toNat+c.s.toNat+2):Calls prog (canF c q) #[.pointer (some ⟨bT c Z.z q,0,none⟩)] w fun e w'=>e=.returned (.int .u8 (canT c s q:Int))/\Fr [] w w':=by
 unfold canF bT canT;by_cases h1:q=0
 .rw[if_pos h1,if_pos h1,if_pos h1];exact zait h
 rw[if_neg h1,if_neg h1,if_neg h1];by_cases h2:q<=c.l.toNat
 .rw[if_pos h2,if_pos h2,if_pos h2];exact zaiw h (by omega) (fun g hg=>hW.lnOk (by omega) hg)
 rw[if_neg h2,if_neg h2,if_neg h2];by_cases h3:q<=c.l.toNat+c.s.toNat
 .rw[if_pos h3,if_pos h3,if_pos h3];exact zaiu h (by omega)
 rw[if_neg h3,if_neg h3,if_neg h3];exact zaiv h
structure Nxt(c:Cf)(T:List Tx)(s s':Ms):Prop where
 wf:Wf c T s'
 fd:s'.fd=s.fd
 k:s'.k=s.k+1
inductive StepR(c:Cf)(T:List Tx)(s:Ms)(q:Nat)(k n sh ct:Int)(s':Ms):Prop
 |read:q=0->s.hv=false->s.rd<s.fd->k=1->n=((s.rd+1:Nat):Int)->sh=0->ct=0->s'=zjo s->StepR c T s q k n sh ct s'
 |disp:q=0->s.hv=true->(s.rd:Int)<=s.ma+c.w->k=3->n=(s.rd:Int)->sh=0->ct=(((zax T s).length:Nat):Int)->s'=zay T s->StepR c T s q k n sh ct s'
 |take (i:Nat) (r:List Int):q=i+1->i<c.l.toNat->s.ln i=none->s.line=n::r->k=4->sh=0->ct=0->s'=zev T s i n r->StepR c T s q k n sh ct s'
 |send (i:Nat) (g:Hl) (y:Wt) (r:List Wt):q=i+1->i<c.l.toNat->s.ln i=some g->g.l=y::r->((s.qs (shW c y)).length:Int)<c.q->k=5->n=g.n->sh=(shW c y:Int)->ct=0->s'=zbz c s i g y r->StepR c T s q k n sh ct s'
 |done (i:Nat):q=i+1->i<c.l.toNat->s.ln i=some ⟨n,[],0⟩->k=6->sh=0->ct=0->s'=zfu s i n->StepR c T s q k n sh ct s'
 |serve (j:Nat) (e:Qe) (r:List Qe) (i:Nat) (g:Hl) (M':ByteArray->List O.Vn):q=c.l.toNat+1+j->j<c.s.toNat->s.qs j=e::r->i<c.l.toNat->e.f=((i+1:Nat):Int)->s.ln i=some g->O.PutM (s.M j) e.x.key ⟨e.n,e.x.val,e.x.drop⟩ M' true->k=7->n=g.n->sh=(j:Int)->ct=0->s'=zaz s j e r g M'->StepR c T s q k n sh ct s'
 |gate (r:List Int):q=c.l.toNat+c.s.toNat+1->s.pass=n::r->k=8->sh=0->ct=(gdx s.ma s.bx n).1->s'=zcf T s n r->StepR c T s q k n sh ct s'
structure Nxe(c:Cf)(T:List Tx)(s s':Ms)(t kk n sh ct m:Int):Prop extends Nxt c T s s' where
 r:∃q:Nat,t=(q:Int)/\q<c.l.toNat+c.s.toNat+2/\StepR c T s q kk n sh ct s'
 em:m=s'.ma
theorem zace(h:MaM w0 w c T Z s)(hnr:Z.nr=s.d)(hW:Wf c T s)(hk:s.k<16000000){q:Nat}(hq:q<c.l.toNat+c.s.toNat+2)(hne:canT c s q≠0):Calls prog (zgd c q) #[.pointer (some ⟨bT c Z.z q,0,none⟩),.int .u8 (canT c s q:Int)] w fun e w'=>∃s' n sh ct,StP w0 c T w Z s n sh ct s' e w'/\Nxe c T s s' q (canT c s q:Int) n sh ct s'.ma:=by
 unfold zgd bT;unfold canT at hne ⊢;by_cases h1:q=0
 .rw[if_pos h1]at hne
  rw[if_pos h1,if_pos h1,if_pos h1];unfold canD at hne;by_cases hv:s.hv=false
  .rw[if_pos hv]at hne
   by_cases hr:s.rd<s.fd
   .have e:canD c s=1:=by unfold canD;rw[if_pos hv,if_pos hr]
    rw[e];exact (zafq h hnr hv hr).mono fun e w' hS=>⟨_,_,_,_,hS,⟨hW.read hv hr,rfl,rfl⟩,⟨q,rfl,hq,.read h1 hv hr rfl rfl rfl rfl rfl⟩,rfl⟩
   rw[if_neg hr]at hne;exact absurd rfl hne
  rw[if_neg hv]at hne
  have hv':s.hv=true:=by simpa using hv
  by_cases hr:(s.rd:Int)<=s.ma+c.w
  .have e:canD c s=3:=by unfold canD;rw[if_neg hv,if_pos hr]
   rw[e];obtain⟨xs,hx⟩:=zrb T s.d s.en (zar (wsAt T (s.rd:Int)));exact (zafr h hnr hW hv' hr hk).mono fun e w' hS=>⟨_,_,_,_,hS,⟨hW.disp hv' hr hx,rfl,rfl⟩,⟨q,rfl,hq,.disp h1 hv' hr rfl rfl rfl rfl rfl⟩,rfl⟩
  rw[if_neg hr]at hne;exact absurd rfl hne
 rw[if_neg h1]at hne
 rw[if_neg h1,if_neg h1,if_neg h1];by_cases h2:q<=c.l.toNat
 .rw[if_pos h2]at hne
  rw[if_pos h2,if_pos h2,if_pos h2];obtain⟨i,rfl⟩:∃i,q=i+1:=⟨q-1,by omega⟩;simp only[Nat.add_sub_cancel]at hne ⊢;have hi:i<c.l.toNat:=by omega
  cases hn:s.ln i with
  |none=>
   cases hl:s.line with
   |nil=>exfalso;apply hne;simp[canW,hn,hl]
   |cons n r=>
    have e:canW c s i=4:=(by simp[canW,hn,hl]);rw[e];exact (zafs h hnr hW hi hn hl).mono fun e w' hS=>⟨_,_,_,_,hS,⟨hW.take hi hn hl,rfl,rfl⟩,⟨i+1,rfl,hq,.take i r rfl hi hn hl rfl rfl rfl rfl⟩,rfl⟩
  |some g=>
   have hLk:=hW.lnOk hi hn;obtain⟨n,l,ou⟩:=g;cases l with
   |cons y r=>
    by_cases hq':((s.qs (shW c y)).length:Int)<c.q
    .have e:canW c s i=5:=(by simp[canW,hn,hq']);rw[e];have hsh:=hLk.sh (y:=y) (by simp);exact (zafu h hnr hW hi hn hsh hq' (hLk.x y (by simp)).1 hLk.n).mono fun e w' hS=>⟨_,_,_,_,hS,⟨hW.send hi hn rfl hsh.2 hq',rfl,rfl⟩,⟨i+1,rfl,hq,.send i ⟨n,y::r,ou⟩ y r rfl hi hn rfl hq' rfl rfl rfl rfl rfl⟩,rfl⟩
    .exfalso;apply hne;simp only[canW,hn];rw[if_neg hq']
   |nil=>
    by_cases ho:ou=0
    .subst ho;have e:canW c s i=6:=(by simp[canW,hn]);rw[e];exact (zaft h hnr hW hi hn).mono fun e w' hS=>⟨_,_,_,_,hS,⟨hW.done hi hn rfl rfl,rfl,rfl⟩,⟨i+1,rfl,hq,.done i rfl hi hn rfl rfl rfl rfl⟩,rfl⟩
    exfalso;apply hne;simp[canW,hn,ho]
 rw[if_neg h2]at hne
 rw[if_neg h2,if_neg h2,if_neg h2];by_cases h3:q<=c.l.toNat+c.s.toNat
 .rw[if_pos h3]at hne
  rw[if_pos h3,if_pos h3,if_pos h3];obtain⟨j,rfl⟩:∃j,q=c.l.toNat+1+j:=⟨q-c.l.toNat-1,by omega⟩;have ej:c.l.toNat+1+j-c.l.toNat-1=j:=by omega
  rw[ej]at hne ⊢
  have hj:j<c.s.toNat:=by omega
  cases hqs:s.qs j with
  |nil=>exfalso;apply hne;simp[canK,hqs]
  |cons e r=>
   have ec:canK s j=7:=by simp[canK,hqs]
   rw[ec];have hej:e∈s.qs j:=by rw[hqs];simp
   obtain⟨hsh,i,g,hi,hef,hn,hgn⟩:=hW.req j e hj hej;have hLk:=hW.lnOk hi hn;have ho:0<g.out:=by
    rw[hW.out i g hi hn];exact zkp (q:=s.qs) hj hej hef
   have hyo:okW e.x:=by
    have ho':=(hW.lane i g hi hn).1;have hb:=(hW.op.1 ho').1;have hdT:=hW.dT;have hok:=hW.txn hb.1 (by omega);obtain⟨A,hA,_,hA3,_⟩:=hW.las i g hi hn;exact hok.2.2.2 _ (zpv _ _ (by rw[hA];exact List.mem_append_left _ (hA3 j e hj hej hgn.symm)))
   exact (zafo h hnr hj hqs hi hef hn ho (by rw[<-hgn];exact hLk.n) hyo (hW.rq3 j e hj hej) hk).mono fun e' w' ⟨M',hP,hS⟩=>⟨_,_,_,_,hS,⟨hW.serve hj hqs hi hef hn hP,rfl,rfl⟩,⟨c.l.toNat+1+j,rfl,hq,.serve j e r i g M' rfl hj hqs hi hef hn hP rfl rfl rfl rfl rfl⟩,rfl⟩
 rw[if_neg h3]at hne
 rw[if_neg h3,if_neg h3,if_neg h3];cases hp:s.pass with
 |nil=>exfalso;apply hne;simp[canG,hp]
 |cons n r=>
  have ec:canG s=8:=by simp[canG,hp]
  rw[ec];obtain⟨zs,hz⟩:=zrc T s.d s.en n;exact (zafw h hnr hW hp).mono fun e' w' hS=>⟨_,_,_,_,hS,⟨hW.gate hp hz,rfl,rfl⟩,⟨q,rfl,hq,.gate r (by omega) hp rfl rfl rfl rfl⟩,rfl⟩
end
section
variable{w0 w w':World}{c:Cf}{T:List Tx}{Z:Lay}{s:Ms}
def Evx(w:World)(b:Nat)(t k n sh ct m:Int):Prop:=w.heap[b]? = some (.cells #[.int .i64 t,.int .u8 k,.int .i64 n,.int .i64 sh,.int .i64 ct,.int .i64 m] 62 (0,0))
def AdP(w0:World)(c:Cf)(T:List Tx)(w:World)(Z:Lay)(s:Ms)(q:Nat)(e:Ending)(w':World):Prop:=∃s' n sh ct,e=.returned (evV q (canT c s q) n sh ct s'.ma)/\(∃Z',Dn w0 c T w Z s w' Z' s'/\Z'.nr=s'.d)/\Nxe c T s s' q (canT c s q:Int) n sh ct s'.ma
theorem zafx(h:MaM w0 w c T Z s)(hnr:Z.nr=s.d)(hW:Wf c T s)(hk:s.k<16000000){q:Nat}(hq:q<c.l.toNat+c.s.toNat+2)(hne:canT c s q≠0):Calls prog 91 #[.pointer (some ⟨Z.z.mb,0,none⟩),.iface (tyT c q) (.pointer (some ⟨bT c Z.z q,0,none⟩))] w fun e w'=>AdP w0 c T w Z s q e w':=by
 obtain⟨w1,HW1⟩:∃w1,Hid (w.alloc (.cells #[.int .i64 0,.int .u8 0,.int .i64 0,.int .i64 0,.int .i64 0,.int .i64 0] 62)=w1):=⟨_,rfl⟩;obtain⟨A,HA⟩:∃A,Hid (w.heap.size=A):=⟨_,rfl⟩;have hF1:Fr [] w w1:=by rw[<-HW1.out];exact Fr.alloc _ _ _
 have hBx:Bx w0 c T w1 Z s A:=by rw[<-HW1.out,<-HA.out];exact Bx.new h
 have h1:=h.quiet hF1;have hwA:w.heap.size<=A:=by rw[HA.out];exact Nat.le_refl _
 have hAl:A<w1.heap.size:=lt_of_block hBx.box;obtain⟨ty,hty⟩:∃ty,tyT c q=ty:=⟨_,rfl⟩;obtain⟨b,hb⟩:∃b,bT c Z.z q=b:=⟨_,rfl⟩;obtain⟨cf,hcf⟩:∃f,canF c q=f:=⟨_,rfl⟩;obtain⟨sf,hsf⟩:∃f,zgd c q=f:=⟨_,rfl⟩;obtain⟨k,hkk⟩:∃k:Int,(canT c s q:Int)=k:=⟨_,rfl⟩;obtain⟨Q,hQ⟩:∃Q:Int,(q:Int)=Q:=⟨_,rfl⟩;have MC:∀W,(method 662 ty (.pointer (some ⟨b,0,none⟩)) "towpath/replica.can").run prog W=.ok (cf,.pointer (some ⟨b,0,none⟩)) W:=fun W=>by rw[<-hty,<-hb,<-hcf];exact zadr c Z.z q W
 have MS:∀W,(method 662 ty (.pointer (some ⟨b,0,none⟩)) "towpath/replica.step").run prog W=.ok (sf,.pointer (some ⟨b,0,none⟩)) W:=fun W=>by rw[<-hty,<-hb,<-hsf];exact zaiy c Z.z q W
 have EC:∀args W,(callFunc cf args).run prog W=.ok (.enter cf args) W:=by rw[<-hcf];exact znw c q
 have ES:∀args W,(callFunc sf args).run prog W=.ok (.enter sf args) W:=by rw[<-hsf];exact zvy c q
 have HC1:Hid (Calls prog cf #[.pointer (some ⟨b,0,none⟩)] w1 fun e w'=>e=.returned (.int .u8 k)/\Fr [] w1 w'):=by
  rw[<-hcf,<-hb,<-hkk];exact zue h1 hW hq
 have HC2:Hid (∀W,Fr [] w1 W->Calls prog sf #[.pointer (some ⟨b,0,none⟩),.int .u8 k] W fun e w3=>∃s' n sh ct,e=.returned (.agg #[.int .i64 0,.int .u8 0,.int .i64 n,.int .i64 sh,.int .i64 ct,.int .i64 0])/\Hid (Nxe c T s s' q (canT c s q:Int) n sh ct s'.ma/\∀W4,Fr [w3.heap.size] (w3.alloc (.cells #[.int .i64 0,.int .u8 0,.int .i64 0,.int .i64 0,.int .i64 0,.int .i64 0] 62)) W4->w3.heap.size≠Z.z.mb/\(∀W,Fr [] W4 W->W.cell? ⟨Z.z.mb,12,none⟩=some (.pointer (some ⟨Z.z.gb,0,none⟩))/\(method 662 ty (.pointer (some ⟨b,0,none⟩)) "towpath/replica.number").run prog W=.ok (266,.agg #[.pointer (some ⟨Z.z.mb,0,none⟩),.int .i64 Q]) W/\Calls prog 95 #[.pointer (some ⟨Z.z.gb,0,none⟩)] W fun e w'=>e=.returned (.int .i64 s'.ma)/\Fr [] W w')/\∀W6,Fr [w3.heap.size] W4 W6->Evx W6 A 0 0 0 0 0 0/\∀W9,Fr [A] W6 W9->∃Z',Dn w0 c T w Z s W9 Z' s'/\Z'.nr=s'.d)):=fun W hf=>by
  rw[<-hsf,<-hb,<-hkk];refine (zace (h1.quiet hf) hnr hW hk hq hne).mono ?_;rintro e w3⟨s',n,sh,ct,⟨rfl,Z',hD,hnr'⟩,hN⟩;have hD1:=(h.dn (hF1.then hf)).trans hD;have hB3:=(hBx.then (h1.dn hf)).then hD;refine⟨s',n,sh,ct,rfl,hN,fun W4 hf4=> ?_⟩;have hE0:w0.heap.size<=w3.heap.size:=hD.m.fr.size;have hEw:w.heap.size<=w3.heap.size:=by have:=hD1.x.size;omega
  have hAE:A<w3.heap.size:=lt_of_block hB3.box;have hfa:Fr [] w3 (w3.alloc (.cells #[.int .i64 0,.int .u8 0,.int .i64 0,.int .i64 0,.int .i64 0,.int .i64 0] 62)):=Fr.alloc _ _ _;have hBe:Bx w0 c T (w3.alloc (.cells #[.int .i64 0,.int .u8 0,.int .i64 0,.int .i64 0,.int .i64 0,.int .i64 0] 62)) Z' s' w3.heap.size:=Bx.new hD.m;have hDa:=hD1.trans (hD1.m.dn hfa);have hBa:=hB3.then (hD.m.dn hfa);have hS:∀x∈[w3.heap.size],w.heap.size<=x/\MaM.off w0 (w3.alloc (.cells #[.int .i64 0,.int .u8 0,.int .i64 0,.int .i64 0,.int .i64 0,.int .i64 0] 62)) c T Z' s' x:=fun x hx=>by rw[List.mem_singleton.1 hx];exact⟨hEw,hBe.off⟩
  have hS0:∀x∈[w3.heap.size],w0.heap.size<=x/\MaM.off w0 (w3.alloc (.cells #[.int .i64 0,.int .u8 0,.int .i64 0,.int .i64 0,.int .i64 0,.int .i64 0] 62)) c T Z' s' x:=fun x hx=>⟨by rw[List.mem_singleton.1 hx];exact hE0,(hS x hx).2⟩;have hD4:=hDa.finS h (Fr.refl _ _) (S:=[w3.heap.size]) hS hf4;have hbA4:Evx W4 A 0 0 0 0 0 0:=hf4.keep hBa.box (by simp;omega);have hoA4:=hDa.m.otherO hf4 hS0 hBa.off;have hoE4:=hDa.m.otherO hf4 hS0 hBe.off;refine⟨fun e=> ?_,fun W' hf'=> ?_,fun W6 hf6=> ?_⟩
  .have h2:=hD1.m.lt (b:=Z'.z.mb) (Or.inl rfl);rw[hD1.z]at h2
   omega
  .have hD5:=hD4.trans (hD4.m.dn hf');refine⟨hD5.mc rfl,?_,?_⟩
   .have:=zako hD5.m hq;rw[hD5.z,hty,hQ]at this
    exact this
   have:=zjk hD5.m.ga;rw[hD5.z]at this
   exact this
  have hD6:=hD4.finS h (Fr.refl _ _) (S:=[w3.heap.size]) (fun x hx=>by rw[List.mem_singleton.1 hx];exact⟨hEw,hoE4⟩) hf6;have hbA6:Evx W6 A 0 0 0 0 0 0:=hf6.keep hbA4 (by simp;omega);have hoA6:=hD4.m.otherO hf6 (fun x hx=>by rw[List.mem_singleton.1 hx];exact⟨hE0,hoE4⟩) hoA4;exact⟨hbA6,fun W9 hf9=>⟨_,hD6.finS h (Fr.refl _ _) (S:=[A]) (fun x hx=>by rw[List.mem_singleton.1 hx];exact⟨hwA,hoA6⟩) hf9,hnr'⟩⟩
 unfold AdP;rw[hty,hb];have HK:Hid ((canT c s q:Int)=k/\(q:Int)=Q):=⟨hkk,hQ⟩;clear h hnr hW hk hq hne hF1 hBx h1 hwA hAl hty hb hcf hsf hkk hQ;go_enter func91,ntmps91;go_upto_region 1 with fail
 rw[HW1.out,HA.out];clear HW1 HA;go_wp2_with (simp[go_sem,MC,MS,EC,ES])
 refine Calls.mono HC1.out ?_;rintro e w2⟨rfl,hf2⟩;have HC3:Hid (Calls ..):=HC2.out w2 hf2;clear HC1 HC2 hf2;go_wp2_with (simp[go_sem,MC,MS,EC,ES])
 refine Calls.mono HC3.out ?_;rintro e w3⟨s',n,sh,ct,rfl,HR⟩;clear HC3 MC MS EC ES;go_wp2_with (first
  |(refine zak rfl _ _ rfl w3.heap.size 0 0 n sh ct 0 rfl rfl 0 0 0 0 0 0 (heap_alloc_new w3 _) ?_;intro w4 hb4 hf4;obtain⟨hN,hR⟩:=HR.out;have HR4:Hid (_/\_):=hR w4 hf4;clear hf4 hR HR;have HNx:Hid (Nxe c T s s' q (canT c s q:Int) n sh ct s'.ma):=hN;clear hN)
  |fail)
 obtain⟨E,HE⟩:∃E,Hid (w3.heap.size=E):=⟨_,rfl⟩;have hne:=HR4.out.1;have hrq:=HR4.out.2.1;have HRf:Hid (∀W6,_->_):=HR4.out.2.2;rw[HE.out]at hb4 hne HRf ⊢
 clear HR4 HE;have hem:E≠Z.z.mb:=hne;have hme:Z.z.mb≠E:=fun e=>hne e.symm;have HBk:Hid (∀W,Fr [] w4 W->Evx W E 0 0 n sh ct 0):=fun W hf=>hf.keep hb4.out (by simp);clear hb4 hne;obtain⟨ma,hma⟩:∃ma,s'.ma=ma:=⟨_,rfl⟩;have HRq:Hid (∀W,Fr [] w4 W->W.cell? ⟨Z.z.mb,12,none⟩=some (.pointer (some ⟨Z.z.gb,0,none⟩))/\Hid (Calls prog 95 #[.pointer (some ⟨Z.z.gb,0,none⟩)] W fun e w'=>e=.returned (.int .i64 ma)/\Fr [] W w')):=fun W hf=>⟨(hrq W hf).1,by rw[<-hma];exact (hrq W hf).2.2⟩;have HU:Hid (∀W,Fr [] w4 W->W.cell? ⟨E,0,none⟩=some (.int .i64 0)/\W.cell? ⟨E,1,none⟩=some (.int .u8 0)/\W.cell? ⟨E,5,none⟩=some (.int .i64 0)/\W.frozen? ⟨E,0,none⟩=false/\W.frozen? ⟨E,1,none⟩=false/\W.frozen? ⟨E,5,none⟩=false):=fun W hf=>by
  have hb6:=HBk.out W hf;refine⟨?_,?_,?_,?_,?_,?_⟩
  .rw[crw hb6];rfl
  .rw[crw hb6];rfl
  .rw[crw hb6];rfl
  .simp[World.frozen?,show W.heap[E]? = _ from hb6]
  .simp[World.frozen?,show W.heap[E]? = _ from hb6]
  simp[World.frozen?,show W.heap[E]? = _ from hb6]
 obtain⟨c12,_,_⟩:=hrq w4 (Fr.refl _ _);obtain⟨c12d,MN,_⟩:=hrq w4.drew (Fr.drew _ _);have HFd:Hid (Fr [] w4 w4.drew):=Fr.drew _ _;have HMa:Hid (s'.ma=ma):=hma;clear hma hrq;have HNm:Hid (Calls prog 266 #[.agg #[.pointer (some ⟨Z.z.mb,0,none⟩),.int .i64 Q]] w4.drew fun e w'=>e=.returned (.int .i64 Q)/\Fr [] w4.drew w'):=zqx _ _ _;simp only[Act.put];go_region_held3 (fun W=>W.cell? ⟨Z.z.mb,12,none⟩=some (.pointer (some ⟨Z.z.gb,0,none⟩))) (go_keep)
  (first
   |(go_at_call 266;with_reducible refine Calls.mono HNm.out ?_;rintro e w5⟨rfl,hf5⟩;obtain⟨c5,HM5⟩:=HRq.out w5 (Fr.then HFd.out hf5))
   |(go_at_call 95;with_reducible refine Calls.mono HM5.out ?_;rintro e w6⟨rfl,hf6⟩;obtain⟨c6,_⟩:=HRq.out w6 (Fr.then (Fr.then HFd.out hf5) hf6);obtain⟨u0,u1,u5,z0,z1,z5⟩:=HU.out w6 (Fr.then (Fr.then HFd.out hf5) hf6))
   |simp[go_sem,MN])
 have hF46:Fr [] w4 w6:=Fr.then (Fr.then HFd.out hf5) hf6;obtain⟨w8,HW8⟩:∃w8,Hid (((w6.setCell ⟨E,0,none⟩ (.int .i64 Q)).setCell ⟨E,1,none⟩ (.int .u8 k)).setCell ⟨E,5,none⟩ (.int .i64 ma)=w8):=⟨_,rfl⟩;have hF8:Fr [E] w4 w8:=by
  rw[<-HW8.out];exact (((hF46.mono (by simp)).then (Fr.set _ _ _ (by simp))).then (Fr.set _ _ _ (by simp))).then (Fr.set _ _ _ (by simp))
 have hb8:Evx w8 E Q k n sh ct ma:=by
  rw[<-HW8.out];exact zef _ (zef _ (zef _ (HBk.out w6 hF46)))
 obtain⟨hA8,hfin⟩:=HRf.out w8 hF8;have HFin9:Hid (∀w9,_->_):=hfin;have e0:w8.cell? ⟨E,0,none⟩=some (.int .i64 Q):=by rw[crw hb8];rfl
 have e1:w8.cell? ⟨E,1,none⟩=some (.int .u8 k):=by rw[crw hb8];rfl
 have e2:w8.cell? ⟨E,2,none⟩=some (.int .i64 n):=by rw[crw hb8];rfl
 have e3:w8.cell? ⟨E,3,none⟩=some (.int .i64 sh):=by rw[crw hb8];rfl
 have e4:w8.cell? ⟨E,4,none⟩=some (.int .i64 ct):=by rw[crw hb8];rfl
 have e5:w8.cell? ⟨E,5,none⟩=some (.int .i64 ma):=by rw[crw hb8];rfl
 rw[HW8.out];clear hF8 hb8 hfin HRf HW8 hF46 u0 u1 u5 z0 z1 z5 HU HBk HRq HM5 HNm HFd hf5 hf6 c5 c6 c12 c12d MN;go_wp2_with (first
  |(refine zak rfl _ _ rfl A Q k n sh ct ma rfl rfl 0 0 0 0 0 0 hA8 ?_;intro w9 hw9 hf9;have HF9:Hid _:=HFin9.out _ hf9;clear hf9)
  |fail)
 refine bodyPost_ret (zba rfl _ _ _ A _ rfl (zcs hw9.out)) rfl ?_;exact⟨s',n,sh,ct,by rw[HK.out.1,HK.out.2,HMa.out],HF9.out,HNx.out⟩
end
structure RP(w0 w:World)(p:Nat)(c:Cf)(T:List Tx)(Z:Lay)(s:Ms):Prop where
 m:MaM w0 w c T Z s
 box:w.heap[p]? = some (.cells #[.pointer (some ⟨Z.z.mb,0,none⟩)] 154 (0,0))
 off:MaM.off w0 w c T Z s p
section
variable{w0 w w':World}{p:Nat}{c:Cf}{T:List Tx}{Z:Lay}{s:Ms}
theorem RP.quiet(h:RP w0 w p c T Z s)(hf:Fr [] w w'):RP w0 w' p c T Z s:=⟨h.m.quiet hf,hf.keep h.box (by simp),h.m.otherO hf (by simp) h.off⟩
theorem RP.dn{Z':Lay}{s':Ms}(h:RP w0 w p c T Z s)(hD:Dn w0 c T w Z s w' Z' s'):RP w0 w' p c T Z' s':=⟨hD.m,by rw[hD.z];exact hD.keep h.box h.off,hD.off (lt_of_block h.box) h.off⟩
theorem RP.c0(h:RP w0 w p c T Z s):w.cell? ⟨p,0,none⟩=some (.pointer (some ⟨Z.z.mb,0,none⟩)):=by rw[crw h.box];rfl
theorem ziy(h:RP w0 w p c T Z s):Calls prog 92 #[.pointer (some ⟨p,0,none⟩)] w fun e w'=>e=.returned (.bool true)/\w=w':=by
 have c0:=h.c0;clear h;go_enter func92,ntmps92;go_wp2_with fail
 go_ret;exact⟨rfl,rfl⟩
theorem ziz(h:RP w0 w p c T Z s):Calls prog 88 #[.pointer (some ⟨p,0,none⟩)] w fun e w'=>e=.returned (.int .i64 0)/\w=w':=by
 have HT:Hid (Calls ..):=ziy h;have c0:=h.c0;have c18:w.cell? ⟨Z.z.mb,18,none⟩=some (.bool false):=h.m.mc rfl;clear h;go_enter func88,ntmps88;go_wp2_with fail
 refine Calls.mono HT.out ?_;rintro e w1⟨rfl,rfl⟩;go_wp2;go_ret;exact⟨rfl,rfl⟩
theorem znx(h:RP w0 w p c T Z s):Calls prog 54 #[.pointer (some ⟨p,0,none⟩)] w fun e w'=>e=.returned (.int .i64 s.ma)/\Fr [] w w':=by
 have HT:Hid (Calls ..):=ziy h;have c0:=h.c0;have c12:w.cell? ⟨Z.z.mb,12,none⟩=some (.pointer (some ⟨Z.z.gb,0,none⟩)):=h.m.mc rfl;have HM:Hid (Calls ..):=zjk h.m.ga;clear h;go_enter func54,ntmps54;go_wp2_with fail
 refine Calls.mono HT.out ?_;rintro e w1⟨rfl,rfl⟩;go_wp2_with fail
 refine Calls.mono HM.out ?_;rintro e w1⟨rfl,hf⟩;have HF:Hid (Fr [] w w1):=hf;clear hf;go_wp2;go_ret;exact⟨rfl,HF.out⟩
end
section
variable{w0 w w':World}{p:Nat}{c:Cf}{T:List Tx}{Z:Lay}{s:Ms}
end
end
end Go.Proofs.YtojjdnjfaelnfaaGreatDoor
